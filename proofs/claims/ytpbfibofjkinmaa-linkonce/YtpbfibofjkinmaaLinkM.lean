/-
  Sticky reads: Count, Text, Done of a reader that may have failed. No condition.
-/
import Derived.Test.YtpbfibofjkinmaaReaderText
import Derived.Deep.DeepCutAuto
set_option linter.unusedSimpArgs false
set_option linter.unusedVariables false
namespace Go.Proofs.Ytpbfibofjkinmaa
open Go.RowKit

/-- What a reader has left, and its error. -/
abbrev RSt := List UInt8 × Nat
def rc (most : Int) (s : RSt) : Nat × RSt := if s.2 = 0 then rcn s.1 most else (0, s)

theorem rcount_st (g : Nat) (b : Option Nat) (s : RSt) (most : Int) (w : World) (h : Rd w g b s.1 s.2) (hm : IsInt most) : Calls Try.prog 77 #[.pointer (some ⟨g, 0, none⟩), .int .i64 most] w (REnds g b (.int .i64 ((rc most s).1 : Int)) (rc most s).2.1 (rc most s).2.2 w) := by
  obtain ⟨xs, er⟩ := s
  by_cases h0 : er = 0
  · subst h0
    exact rcount_any g b xs most w h hm
  · have e : rc most (xs, er) = (0, (xs, er)) := if_neg h0
    rw [e]
    refine (rcount_stuck g b xs er most w h h0 hm).mono ?_
    rintro e w' ⟨rfl, rfl⟩
    exact ⟨rfl, b, h, .inl rfl, Kept.refl _ _⟩

/-- What stands behind calls that read. -/
structure RGo (g : Nat) (b : Option Nat) (W0 : World) (s : RSt) (b' : Option Nat) (w' : World) : Prop where
  rd : Rd w' g b' s.1 s.2
  lie : b' = b ∨ b' = none
  kept : Kept (fun k => k = g) W0 w'
theorem RGo.step {g : Nat} {b b1 : Option Nat} {W0 w1 w2 : World} {s t : RSt} (h : RGo g b W0 s b1 w1) {b2 : Option Nat} (hr : Rd w2 g b2 t.1 t.2) (hl : b2 = b1 ∨ b2 = none) (hk : Kept (fun k => k = g) w1 w2) : RGo g b W0 t b2 w2 :=
  ⟨hr, by rcases hl with h1 | h1; rw [h1]; exact h.lie; exact .inr h1, h.kept.step hk (fun _ h => .inl h)⟩
theorem RGo.count {g : Nat} {b b1 : Option Nat} {W0 w1 : World} {s : RSt} (h : RGo g b W0 s b1 w1) (most : Int) (hm : IsInt most) : Calls Try.prog 77 #[.pointer (some ⟨g, 0, none⟩), .int .i64 most] w1 fun e w' => e = .returned (.int .i64 ((rc most s).1 : Int)) ∧ ∃ b', RGo g b W0 (rc most s).2 b' w' :=
  (rcount_st g b1 s most w1 h.rd hm).mono fun e w' ⟨he, b2, hr, hl, hk⟩ => ⟨he, b2, h.step hr hl hk⟩
theorem RGo.alloc {g : Nat} {b b1 : Option Nat} {W0 w1 : World} {s : RSt} (h : RGo g b W0 s b1 w1) (o : Obj) : RGo g b W0 s b1 (w1.alloc o) :=
  ⟨h.rd.below ((Below.refl _ _).alloc (Nat.le_refl _) o), h.lie, h.kept.step (Kept.of_below (F := fun _ => False) ((Below.refl _ _).alloc (Nat.le_refl _) o)) (fun _ h => h.elim)⟩
theorem RGo.start {g : Nat} {b : Option Nat} {w : World} {s : RSt} (h : Rd w g b s.1 s.2) : RGo g b w s b w := ⟨h, .inl rfl, Kept.refl _ _⟩
theorem RGo.lt {g : Nat} {b b1 : Option Nat} {W0 w1 : World} {s : RSt} (h : RGo g b W0 s b1 w1) : g < w1.heap.size := by
  obtain ⟨_, _, _, hv, _⟩ := h.rd
  exact lt_of_block hv

def rt (most : Int) (s : RSt) : List UInt8 × RSt :=
  if (rc most s).2.2 ≠ 0 then ([], (rc most s).2) else if (rc most s).2.1.length < (rc most s).1 then ([], ([], 10)) else ((rc most s).2.1.take (rc most s).1, ((rc most s).2.1.drop (rc most s).1, 0))
theorem rtext_st (g : Nat) (b : Option Nat) (s : RSt) (w : World) (most : Int) (hm : IsInt most) (h : Rd w g b s.1 s.2) : Calls Try.prog 78 #[.pointer (some ⟨g, 0, none⟩), .int .i64 most] w fun e w' => ∃ v, e = .returned v ∧ Own w' w.heap.size v (rt most s).1 ∧ ∃ b', RGo g b w (rt most s).2 b' w' := by
  obtain ⟨xs, er⟩ := s
  by_cases he : er = 0
  · subst he
    have e : rc most (xs, 0) = rcn xs most := rfl
    unfold rt
    rw [e]
    by_cases h1 : (rcn xs most).2.2 = 0
    · rw [if_neg (by simp [h1])]
      by_cases h2 : (rcn xs most).2.1.length < (rcn xs most).1
      · rw [if_pos h2]
        refine (rtext_short g b xs most w h hm h1 h2).mono ?_
        rintro e w' ⟨v, rfl, ho, b', hr, hl, hk⟩
        exact ⟨v, rfl, ho, b', ⟨hr, hl, hk⟩⟩
      · rw [if_neg h2]
        refine (rtext_ok g b xs most w h hm h1 (by omega)).mono ?_
        rintro e w' ⟨v, rfl, ho, b', hr, hl, hk⟩
        exact ⟨v, rfl, ho, b', ⟨hr, hl, hk⟩⟩
    · rw [if_pos h1]
      refine (rtext_bad g b xs most w h hm h1).mono ?_
      rintro e w' ⟨v, rfl, ho, b', hr, hl, hk⟩
      exact ⟨v, rfl, ho, b', ⟨hr, hl, hk⟩⟩
  · have e : rc most (xs, er) = (0, (xs, er)) := by unfold rc; rw [if_neg he]
    unfold rt
    rw [e]
    simp only
    rw [if_pos he]
    refine (rtext_stuck g b xs er most w h he hm).mono ?_
    rintro e w' ⟨rfl, rfl⟩
    exact ⟨_, rfl, Own.nil _ _, b, ⟨h, .inl rfl, Kept.refl _ _⟩⟩

/-- What Done answers. -/
def dn (s : RSt) : Nat := if s.2 = 0 then (if s.1 = [] then 0 else 13) else s.2
theorem dn_zero {s : RSt} (h : dn s = 0) : s = ([], 0) := by
  obtain ⟨xs, er⟩ := s
  unfold dn at h
  simp only at h
  split at h
  · split at h
    · simp_all
    · omega
  · omega
theorem rdone_st (g : Nat) (b : Option Nat) (s : RSt) (w : World) (h : Rd w g b s.1 s.2) : Calls Try.prog 79 #[.pointer (some ⟨g, 0, none⟩)] w fun e w' => e = .returned (.int .i64 (dn s : Int)) ∧ Kept (fun k => k = g) w w' := by
  obtain ⟨xs, er⟩ := s
  unfold dn
  simp only at h ⊢
  by_cases h0 : er = 0
  · subst h0
    by_cases hx : xs = []
    · subst hx
      rw [if_pos rfl, if_pos rfl]
      refine (rdone_end g b w h).mono ?_
      rintro e w' ⟨rfl, rfl⟩
      exact ⟨rfl, Kept.refl _ _⟩
    · rw [if_pos rfl, if_neg hx]
      refine (rdone_trail g b xs w h hx).mono ?_
      rintro e w' ⟨rfl, _, _, _, hk⟩
      exact ⟨rfl, hk⟩
  · rw [if_neg h0]
    refine (rdone_stuck g b xs er w h h0).mono ?_
    rintro e w' ⟨rfl, rfl⟩
    exact ⟨rfl, Kept.refl _ _⟩

theorem rn_enc (u : Nat) (h : u < 18446744073709551616) (r : List UInt8) : rn (enc u ++ r) = (u, r, 0) := by
  have h8 := bw_le u
  have hc : (UInt8.ofNat (bw u)).toNat = bw u := by simp; omega
  have hl := be_length (bw u) u
  have e : enc u ++ r = UInt8.ofNat (bw u) :: (be (bw u) u ++ r) := rfl
  rw [e, rn_ok (by omega) (by rw [List.length_append]; omega) ?_, hc]
  · rw [List.take_append_of_le_length (by omega), List.take_of_length_le (by omega), val_enc u h, List.drop_append_of_le_length (by omega), List.drop_of_length_le (by omega), List.nil_append]
  · rw [hc]
    rintro ⟨h0, h1⟩
    obtain ⟨c, t, hb, hne⟩ := be_head u h h0
    rw [hb] at h1
    simp at h1
    exact hne h1
/-- A number that was read without an error stands there in its one form. -/
theorem rn_form {xs : List UInt8} (h : (rn xs).2.2 = 0) : enc (rn xs).1 ++ (rn xs).2.1 = xs := by
  cases xs with
  | nil => simp [rn] at h
  | cons c t =>
    by_cases h8 : 8 < c.toNat
    · rw [rn_wide h8] at h; simp at h
    by_cases hs : t.length < c.toNat
    · rw [rn_short h8 hs] at h; simp at h
    by_cases hz : 0 < c.toNat ∧ t.head? = some 0
    · rw [rn_zero h8 hs hz] at h; simp at h
    · rw [rn_ok h8 hs hz]
      have hl : (t.take c.toNat).length = c.toNat := by rw [List.length_take]; omega
      have hb : bw (val (t.take c.toNat)) = c.toNat := by
        cases ht : t.take c.toNat with
        | nil => rw [ht] at hl; simp at hl; rw [← hl]; rfl
        | cons x r =>
          rw [ht] at hl
          simp at hl
          rw [bw_val x r ?_ (by omega)]
          · exact hl
          · intro hx
            apply hz
            refine ⟨by omega, ?_⟩
            cases t with
            | nil => simp at ht
            | cons y s =>
              obtain ⟨m, hm⟩ : ∃ m, c.toNat = m + 1 := ⟨c.toNat - 1, by omega⟩
              rw [hm, List.take_succ_cons] at ht
              injection ht with e1 _
              rw [List.head?_cons, e1, hx]
      unfold enc
      simp only
      rw [hb]
      have hv := be_val (t.take c.toNat)
      rw [hl] at hv
      rw [hv, List.cons_append, List.take_append_drop]
      congr 1
      apply UInt8.toNat_inj.1
      simp
theorem rc_enc {u : Nat} {most : Int} (h : u ≤ most.toNat) (hm : most.toNat < 18446744073709551616) (r : List UInt8) : rc most (enc u ++ r, 0) = (u, (r, 0)) := by
  unfold rc rcn
  simp only [if_true, rn_enc u (by omega)]
  rw [if_neg (by omega)]

/-- Back: an int that was read without an error. -/
theorem rc_back {s t : RSt} {u : Nat} {most : Int} (h : rc most s = (u, t)) (ht : t.2 = 0) : s.2 = 0 ∧ s.1 = enc u ++ t.1 ∧ u ≤ most.toNat := by
  unfold rc at h
  by_cases h0 : s.2 = 0
  · rw [if_pos h0] at h
    unfold rcn at h
    split at h
    · have e2 := congrArg (fun x => x.2.2) h
      simp only at e2
      rw [ht] at e2
      omega
    · have e1 : (rn s.1).1 = u := congrArg Prod.fst h
      have e2 : (rn s.1).2 = t := congrArg Prod.snd h
      subst e1 e2
      exact ⟨h0, (rn_form ht).symm, by omega⟩
  · rw [if_neg h0] at h
    have e2 : s = t := congrArg Prod.snd h
    subst e2
    exact absurd ht h0
/-- Whatever is read, a count is within its bound, an int is one. -/
theorem rc_le {s : RSt} {most : Int} (h : 0 ≤ most) : ((rc most s).1 : Int) ≤ most := by
  unfold rc
  split
  · unfold rcn
    split
    · simp; omega
    · omega
  · simp; omega
end Go.Proofs.Ytpbfibofjkinmaa
