/-
  Values and their bytes as plain mathematics: what is written is read again, and what is read is what would be written. No condition but that the numbers are in range.
-/
import Derived.Test.YtnngmapphacpkaaValRead0
import Derived.Test.YtnngmapphacpkaaBallotB
set_option linter.unusedSimpArgs false
set_option linter.unusedVariables false
namespace Go.Proofs.Ytnngmapphacpkaa
open Go.RowKit

/-- A number that was written is read again. -/
theorem rn_enc (u : Nat) (h : u < 18446744073709551616) (r : List UInt8) : rn (enc u ++ r) = (u, r, 0) := by
  have h8 := bw_le u
  have hc : (UInt8.ofNat (bw u)).toNat = bw u := by simp; omega
  have hl := be_length (bw u) u
  have e : enc u ++ r = UInt8.ofNat (bw u) :: (be (bw u) u ++ r) := rfl
  rw [e, rn_ok (by omega) (by rw [List.length_append]; omega) ?_, hc]
  · rw [List.take_append_of_le_length (by omega), List.take_of_length_le (by omega), val_enc u h, List.drop_append_of_le_length (by omega), List.drop_of_length_le (by omega), List.nil_append]
  · rw [hc]
    rintro ⟨h0, h1⟩
    obtain ⟨c, t, hb, hne⟩ := be_head u h h0
    rw [hb] at h1
    simp at h1
    exact hne h1
/-- A number that was read without an error stands there in its one form. -/
theorem rn_form {xs : List UInt8} (h : (rn xs).2.2 = 0) : enc (rn xs).1 ++ (rn xs).2.1 = xs := by
  cases xs with
  | nil => simp [rn] at h
  | cons c t =>
    by_cases h8 : 8 < c.toNat
    · rw [rn_wide h8] at h; simp at h
    by_cases hs : t.length < c.toNat
    · rw [rn_short h8 hs] at h; simp at h
    by_cases hz : 0 < c.toNat ∧ t.head? = some 0
    · rw [rn_zero h8 hs hz] at h; simp at h
    · rw [rn_ok h8 hs hz]
      have hl : (t.take c.toNat).length = c.toNat := by rw [List.length_take]; omega
      have hb : bw (val (t.take c.toNat)) = c.toNat := by
        cases ht : t.take c.toNat with
        | nil => rw [ht] at hl; simp at hl; rw [← hl]; rfl
        | cons x r =>
          rw [ht] at hl
          simp at hl
          rw [bw_val x r ?_ (by omega)]
          · exact hl
          · intro hx
            apply hz
            refine ⟨by omega, ?_⟩
            cases t with
            | nil => simp at ht
            | cons y s =>
              obtain ⟨m, hm⟩ : ∃ m, c.toNat = m + 1 := ⟨c.toNat - 1, by omega⟩
              rw [hm, List.take_succ_cons] at ht
              injection ht with e1 _
              rw [List.head?_cons, e1, hx]
      unfold enc
      simp only
      rw [hb]
      have hv := be_val (t.take c.toNat)
      rw [hl] at hv
      rw [hv, List.cons_append, List.take_append_drop]
      congr 1
      apply UInt8.toNat_inj.1
      simp
theorem zig_zag (u : Nat) : zig (zag u) = u := by
  unfold zig zag; split <;> split <;> omega
theorem zag_isInt {u : Nat} (h : u < 18446744073709551616) : IsInt (zag u) := by
  unfold IsInt zag; split <;> omega

/-- Forward: an int that was written. -/
theorem ri_enc {i : Int} (h : IsInt i) (r : List UInt8) : ri (enc (zig i) ++ r, 0) = (i, (r, 0)) := by
  unfold ri
  simp only [if_true, rn_enc _ (zig_lt h), zag_zig h]
theorem rc_enc {u : Nat} {most : Int} (h : u ≤ most.toNat) (hm : most.toNat < 18446744073709551616) (r : List UInt8) : rc most (enc u ++ r, 0) = (u, (r, 0)) := by
  unfold rc rcn
  simp only [if_true, rn_enc u (by omega)]
  rw [if_neg (by omega)]

/-- Back: an int that was read without an error. -/
theorem ri_back {s t : RSt} {i : Int} (h : ri s = (i, t)) (ht : t.2 = 0) : s.2 = 0 ∧ s.1 = enc (zig i) ++ t.1 ∧ IsInt i := by
  unfold ri at h
  by_cases h0 : s.2 = 0
  · rw [if_pos h0] at h
    have e1 : zag (rn s.1).1 = i := congrArg Prod.fst h
    have e2 : (rn s.1).2 = t := congrArg Prod.snd h
    subst e1 e2
    exact ⟨h0, by rw [zig_zag]; exact (rn_form ht).symm, zag_isInt (rn_lt _)⟩
  · rw [if_neg h0] at h
    have e2 : s = t := congrArg Prod.snd h
    subst e2
    exact absurd ht h0
theorem rc_back {s t : RSt} {u : Nat} {most : Int} (h : rc most s = (u, t)) (ht : t.2 = 0) : s.2 = 0 ∧ s.1 = enc u ++ t.1 ∧ u ≤ most.toNat := by
  unfold rc at h
  by_cases h0 : s.2 = 0
  · rw [if_pos h0] at h
    unfold rcn at h
    split at h
    · have e2 := congrArg (fun x => x.2.2) h
      simp only at e2
      rw [ht] at e2
      omega
    · have e1 : (rn s.1).1 = u := congrArg Prod.fst h
      have e2 : (rn s.1).2 = t := congrArg Prod.snd h
      subst e1 e2
      exact ⟨h0, (rn_form ht).symm, by omega⟩
  · rw [if_neg h0] at h
    have e2 : s = t := congrArg Prod.snd h
    subst e2
    exact absurd ht h0
/-- Whatever is read, a count is within its bound, an int is one. -/
theorem rc_le {s : RSt} {most : Int} (h : 0 ≤ most) : ((rc most s).1 : Int) ≤ most := by
  unfold rc
  split
  · unfold rcn
    split
    · simp; omega
    · omega
  · simp; omega
theorem ri_isInt (s : RSt) : IsInt (ri s).1 := by
  unfold ri
  split
  · exact zag_isInt (rn_lt _)
  · unfold IsInt; omega

theorem tk_enc {c : Cmdv} (h : IsCmd c) (r : List UInt8) : tk (encL c.ints ++ r, 0) = (c, (r, 0)) := by
  have hh : ∀ i, i ∈ [c.s, c.q, c.a, c.k, c.r, c.t, c.re, c.im] → IsInt i := h
  have e : encL c.ints ++ r = enc (zig c.s) ++ (enc (zig c.q) ++ (enc (zig c.a) ++ (enc (zig c.k) ++ (enc (zig c.r) ++ (enc (zig c.t) ++ (enc (zig c.re) ++ (enc (zig c.im) ++ r))))))) := by
    simp [encL, Cmdv.ints]
  rw [e]
  unfold tk
  simp only [ri_enc (hh c.s (by simp)), ri_enc (hh c.q (by simp)), ri_enc (hh c.a (by simp)), ri_enc (hh c.k (by simp)), ri_enc (hh c.r (by simp)), ri_enc (hh c.t (by simp)), ri_enc (hh c.re (by simp)), ri_enc (hh c.im (by simp))]
theorem tk_back {s t : RSt} {c : Cmdv} (h : tk s = (c, t)) (ht : t.2 = 0) : s.2 = 0 ∧ s.1 = encL c.ints ++ t.1 := by
  unfold tk at h
  simp only [Prod.mk.injEq] at h
  obtain ⟨hc, h8⟩ := h
  subst hc
  subst h8
  generalize e1 : ri s = q1 at *
  generalize e2 : ri q1.2 = q2 at *
  generalize e3 : ri q2.2 = q3 at *
  generalize e4 : ri q3.2 = q4 at *
  generalize e5 : ri q4.2 = q5 at *
  generalize e6 : ri q5.2 = q6 at *
  generalize e7 : ri q6.2 = q7 at *
  generalize e8 : ri q7.2 = q8 at *
  obtain ⟨a8, b8, _⟩ := ri_back (t := q8.2) (i := q8.1) (e8) ht
  obtain ⟨a7, b7, _⟩ := ri_back (t := q7.2) (i := q7.1) (e7) a8
  obtain ⟨a6, b6, _⟩ := ri_back (t := q6.2) (i := q6.1) (e6) a7
  obtain ⟨a5, b5, _⟩ := ri_back (t := q5.2) (i := q5.1) (e5) a6
  obtain ⟨a4, b4, _⟩ := ri_back (t := q4.2) (i := q4.1) (e4) a5
  obtain ⟨a3, b3, _⟩ := ri_back (t := q3.2) (i := q3.1) (e3) a4
  obtain ⟨a2, b2, _⟩ := ri_back (t := q2.2) (i := q2.1) (e2) a3
  obtain ⟨a1, b1, _⟩ := ri_back (t := q1.2) (i := q1.1) (e1) a2
  refine ⟨a1, ?_⟩
  rw [b1, b2, b3, b4, b5, b6, b7, b8]
  simp [encL, Cmdv.ints]
theorem tk_isCmd (s : RSt) : IsCmd (tk s).1 := by
  intro i hi
  simp only [tk, Cmdv.ints, List.mem_cons, List.not_mem_nil, or_false] at hi
  rcases hi with rfl | rfl | rfl | rfl | rfl | rfl | rfl | rfl <;> exact ri_isInt _

/-- So many commands are read. -/
def rdC : Nat → RSt → List Cmdv × RSt
  | 0, s => ([], s)
  | m + 1, s => (((rdC m s).1 ++ [(tk (rdC m s).2).1]), (tk (rdC m s).2).2)
theorem rdC_len (m : Nat) (s : RSt) : (rdC m s).1.length = m := by
  induction m with
  | zero => rfl
  | succ m ih => simp [rdC, ih]
theorem rdC_isCmd (m : Nat) (s : RSt) : ∀ c ∈ (rdC m s).1, IsCmd c := by
  induction m with
  | zero => intro c hc; simp [rdC] at hc
  | succ m ih =>
    intro c hc
    simp only [rdC, List.mem_append, List.mem_singleton] at hc
    rcases hc with h | rfl
    · exact ih c h
    · exact tk_isCmd _
theorem encCs_append (cs ds : List Cmdv) : encCs (cs ++ ds) = encCs cs ++ encCs ds := List.flatMap_append
theorem encNs_append (ns ms : List Int) : encNs (ns ++ ms) = encNs ns ++ encNs ms := List.flatMap_append
theorem rdC_enc (cs : List Cmdv) (h : ∀ c ∈ cs, IsCmd c) (r : List UInt8) : ∀ k, k ≤ cs.length → rdC k (encCs cs ++ r, 0) = (cs.take k, (encCs (cs.drop k) ++ r, 0)) := by
  intro k
  induction k with
  | zero => intro _; rfl
  | succ k ih =>
    intro hk
    have e : encCs (cs.drop k) ++ r = encL cs[k].ints ++ (encCs (cs.drop (k + 1)) ++ r) := by
      rw [List.drop_eq_getElem_cons (by omega), show encCs (cs[k] :: cs.drop (k + 1)) = encL cs[k].ints ++ encCs (cs.drop (k + 1)) from rfl, List.append_assoc]
    have ht := tk_enc (h cs[k] (List.getElem_mem (by omega))) (encCs (cs.drop (k + 1)) ++ r)
    simp only [rdC, ih (by omega), e, ht]
    rw [List.take_succ_eq_append_getElem (by omega)]
theorem rdC_back (s : RSt) : ∀ k, (rdC k s).2.2 = 0 → s.2 = 0 ∧ s.1 = encCs (rdC k s).1 ++ (rdC k s).2.1 := by
  intro k
  induction k with
  | zero => intro h; exact ⟨h, rfl⟩
  | succ k ih =>
    intro h
    have er : rdC (k + 1) s = ((rdC k s).1 ++ [(tk (rdC k s).2).1], (tk (rdC k s).2).2) := rfl
    rw [er] at h ⊢
    generalize rdC k s = q at *
    generalize e1 : tk q.2 = q1 at *
    obtain ⟨h1, h2⟩ := tk_back (s := q.2) (c := q1.1) (t := q1.2) e1 h
    obtain ⟨h3, h4⟩ := ih h1
    refine ⟨h3, ?_⟩
    rw [h4, h2]
    simp [encCs_append, encCs]
theorem rdN_enc (ns : List Int) (h : ∀ m ∈ ns, 0 ≤ m ∧ m ≤ 9) (r : List UInt8) : ∀ k, k ≤ ns.length → rdN k (encNs ns ++ r, 0) = (ns.take k, (encNs (ns.drop k) ++ r, 0)) := by
  intro k
  induction k with
  | zero => intro _; rfl
  | succ k ih =>
    intro hk
    have e : encNs (ns.drop k) ++ r = enc (unb ns[k]) ++ (encNs (ns.drop (k + 1)) ++ r) := by
      rw [List.drop_eq_getElem_cons (by omega), show encNs (ns[k] :: ns.drop (k + 1)) = enc (unb ns[k]) ++ encNs (ns.drop (k + 1)) from rfl, List.append_assoc]
    have hm := h _ (List.getElem_mem (show k < ns.length by omega))
    have hu : unb ns[k] = ns[k].toNat := by unfold unb; omega
    have hrc := rc_enc (u := unb ns[k]) (most := 9) (by rw [hu]; omega) (by omega) (encNs (ns.drop (k + 1)) ++ r)
    simp only [rdN, ih (by omega), e, hrc]
    rw [List.take_succ_eq_append_getElem (by omega), hu, show ((ns[k].toNat : Nat) : Int) = ns[k] from by omega]
theorem rdN_back (s : RSt) : ∀ k, (rdN k s).2.2 = 0 → s.2 = 0 ∧ s.1 = encNs (rdN k s).1 ++ (rdN k s).2.1 := by
  intro k
  induction k with
  | zero => intro h; exact ⟨h, rfl⟩
  | succ k ih =>
    intro h
    have er : rdN (k + 1) s = ((rdN k s).1 ++ [((rc 9 (rdN k s).2).1 : Int)], (rc 9 (rdN k s).2).2) := rfl
    rw [er] at h ⊢
    generalize rdN k s = q at *
    generalize e1 : rc 9 q.2 = q1 at *
    obtain ⟨h1, h2, h5⟩ := rc_back (s := q.2) (u := q1.1) (t := q1.2) (most := 9) e1 h
    obtain ⟨h3, h4⟩ := ih h1
    refine ⟨h3, ?_⟩
    have hu : unb (q1.1 : Int) = q1.1 := unb_nat _ (by omega)
    rw [h4, h2]
    simp [encNs_append, encNs, hu]
theorem rdN_in (m : Nat) (s : RSt) : ∀ c ∈ (rdN m s).1, 0 ≤ c ∧ c ≤ 9 := by
  induction m with
  | zero => intro c hc; simp [rdN] at hc
  | succ m ih =>
    intro c hc
    simp only [rdN, List.mem_append, List.mem_singleton] at hc
    rcases hc with h | rfl
    · exact ih c h
    · have := rc_le (s := (rdN m s).2) (most := 9) (by omega)
      omega

/-- A value as it is read: its kind, its commands, its next members, and what is left. -/
structure RdV where
  k : Nat
  cs : List Cmdv
  ns : List Int
  s : RSt
def rdV (s : RSt) : RdV :=
  let a := rc 2 s
  let b := rc 8 a.2
  let c := rdC b.1 b.2
  let d := rc 7 c.2
  let e := rdN d.1 d.2
  ⟨a.1, c.1, e.1, e.2⟩
theorem rdV_enc {k : Int} {cs : List Cmdv} {ns : List Int} (hk : 0 ≤ k ∧ k ≤ 2) (hcl : cs.length ≤ 8) (hc : ∀ c ∈ cs, IsCmd c) (hnl : ns.length ≤ 7) (hn : ∀ m ∈ ns, 0 ≤ m ∧ m ≤ 9) (r : List UInt8) :
    rdV (encV k cs ns ++ r, 0) = ⟨k.toNat, cs, ns, (r, 0)⟩ := by
  have hu : unb k = k.toNat := by unfold unb; omega
  have e : encV k cs ns ++ r = enc k.toNat ++ (enc cs.length ++ (encCs cs ++ (enc ns.length ++ (encNs ns ++ r)))) := by
    unfold encV
    rw [hu]
    simp
  have h1 := rc_enc (u := k.toNat) (most := 2) (by omega) (by omega) (enc cs.length ++ (encCs cs ++ (enc ns.length ++ (encNs ns ++ r))))
  have h2 := rc_enc (u := cs.length) (most := 8) (by omega) (by omega) (encCs cs ++ (enc ns.length ++ (encNs ns ++ r)))
  have h3 := rdC_enc cs hc (enc ns.length ++ (encNs ns ++ r)) cs.length (Nat.le_refl _)
  have h4 := rc_enc (u := ns.length) (most := 7) (by omega) (by omega) (encNs ns ++ r)
  have h5 := rdN_enc ns hn r ns.length (Nat.le_refl _)
  rw [e]
  unfold rdV
  simp only [h1, h2, h3, List.take_length, List.drop_length, show encCs [] = [] from rfl, List.nil_append, h4, h5, show encNs [] = [] from rfl]
theorem rdV_back {s : RSt} (h : (rdV s).s.2 = 0) : s.2 = 0 ∧ s.1 = encV (rdV s).k (rdV s).cs (rdV s).ns ++ (rdV s).s.1 := by
  unfold rdV at *
  simp only at *
  generalize e1 : rc 2 s = q1 at *
  generalize e2 : rc 8 q1.2 = q2 at *
  generalize e4 : rc 7 (rdC q2.1 q2.2).2 = q4 at *
  obtain ⟨a5, b5⟩ := rdN_back q4.2 q4.1 h
  obtain ⟨a4, b4, c4⟩ := rc_back (t := q4.2) (u := q4.1) e4 a5
  obtain ⟨a3, b3⟩ := rdC_back q2.2 q2.1 a4
  obtain ⟨a2, b2, c2⟩ := rc_back (t := q2.2) (u := q2.1) e2 a3
  obtain ⟨a1, b1, c1⟩ := rc_back (t := q1.2) (u := q1.1) e1 a2
  refine ⟨a1, ?_⟩
  unfold encV
  rw [b1, b2, b3, b4, b5, rdC_len, rdN_len, unb_nat _ (by omega)]
  simp

/-- A right value. -/
structure FineV (k : Int) (cs : List Cmdv) (ns : List Int) : Prop where
  k0 : 0 ≤ k ∧ k ≤ 2
  cl : cs.length ≤ 8
  cc : ∀ c ∈ cs, IsCmd c
  nl : ns.length ≤ 7
  nn : ∀ m ∈ ns, 0 ≤ m ∧ m ≤ 9
theorem FineV.read {k : Int} {cs : List Cmdv} {ns : List Int} (h : FineV k cs ns) (r : List UInt8) : rdV (encV k cs ns ++ r, 0) = ⟨k.toNat, cs, ns, (r, 0)⟩ :=
  rdV_enc h.k0 h.cl h.cc h.nl h.nn r
/-- No bytes of a value begin another one's. -/
theorem encV_unlike {k k' : Int} {cs cs' : List Cmdv} {ns ns' : List Int} (h : FineV k cs ns) (h' : FineV k' cs' ns') {r : List UInt8} (he : encV k cs ns ++ r = encV k' cs' ns') : k = k' ∧ cs = cs' ∧ ns = ns' := by
  have e1 := h.read r
  have e2 := h'.read []
  rw [he] at e1
  rw [List.append_nil, e1] at e2
  have hk := h.k0
  have hk' := h'.k0
  injection e2 with a b c d
  exact ⟨by omega, b, c⟩
end Go.Proofs.Ytnngmapphacpkaa
