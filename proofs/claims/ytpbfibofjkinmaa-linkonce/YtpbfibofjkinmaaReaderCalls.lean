/-
  NewReader; Num of pack's reader whatever is left; its Int, Count, Text, Done; and all of them of a nil reader. Conditions: at most 2^47 bytes.
-/
import Derived.Test.YtpbfibofjkinmaaReaderNum
set_option linter.unusedSimpArgs false
set_option linter.unusedVariables false
namespace Go.Proofs.Ytpbfibofjkinmaa
open Go.RowKit

/-- What reading a number of xs gives: the number, what is left, the error. -/
def rn : List UInt8 → Nat × List UInt8 × Nat
  | [] => (0, [], 10)
  | c :: t => if 8 < c.toNat then (0, [], 11) else if t.length < c.toNat then (0, [], 10) else if 0 < c.toNat ∧ t.head? = some 0 then (0, [], 11) else (val (t.take c.toNat), t.drop c.toNat, 0)

theorem rn_wide {c : UInt8} {t : List UInt8} (h8 : 8 < c.toNat) : rn (c :: t) = (0, [], 11) := by unfold rn; simp only [if_pos h8]
theorem rn_short {c : UInt8} {t : List UInt8} (h8 : ¬ 8 < c.toNat) (hs : t.length < c.toNat) : rn (c :: t) = (0, [], 10) := by unfold rn; simp only [if_neg h8, if_pos hs]
theorem rn_zero {c : UInt8} {t : List UInt8} (h8 : ¬ 8 < c.toNat) (hs : ¬ t.length < c.toNat) (hz : 0 < c.toNat ∧ t.head? = some 0) : rn (c :: t) = (0, [], 11) := by unfold rn; simp only [if_neg h8, if_neg hs, if_pos hz]
theorem rn_ok {c : UInt8} {t : List UInt8} (h8 : ¬ 8 < c.toNat) (hs : ¬ t.length < c.toNat) (hz : ¬ (0 < c.toNat ∧ t.head? = some 0)) : rn (c :: t) = (val (t.take c.toNat), t.drop c.toNat, 0) := by unfold rn; simp only [if_neg h8, if_neg hs, if_neg hz]

theorem rnum_any (g : Nat) (b : Option Nat) (xs : List UInt8) (w : World) (h : Rd w g b xs 0) :
    Calls Try.prog 88 #[.pointer (some ⟨g, 0, none⟩)] w (REnds g b (.int .u64 ((rn xs).1 : Int)) (rn xs).2.1 (rn xs).2.2 w) := by
  cases xs with
  | nil => exact rnum_empty g b w h
  | cons c t =>
    by_cases h8 : 8 < c.toNat
    · rw [rn_wide h8]; exact rnum_wide g b c t w h h8
    by_cases hs : t.length < c.toNat
    · rw [rn_short h8 hs]; exact rnum_short g b c t w h (by omega) hs
    by_cases hz : 0 < c.toNat ∧ t.head? = some 0
    · rw [rn_zero h8 hs hz]
      cases t with
      | nil => simp at hz
      | cons x r =>
        obtain rfl : x = 0 := by simpa using hz.2
        exact rnum_zero g b c r w h (by omega) hz.1 (by simp at hs; omega)
    · rw [rn_ok h8 hs hz]
      have h' : Rd w g b (c :: (t.take c.toNat ++ t.drop c.toNat)) 0 := by rw [List.take_append_drop]; exact h
      refine rnum_ok g b c (t.take c.toNat) (t.drop c.toNat) w h' (by rw [List.length_take]; omega) (by rw [List.length_take]; omega) ?_
      intro x r e hx
      subst hx
      apply hz
      have hl : (t.take c.toNat).length = r.length + 1 := by rw [e]; simp
      rw [List.length_take] at hl
      refine ⟨by omega, ?_⟩
      cases t with
      | nil => simp at e
      | cons y s =>
        obtain ⟨m, hm⟩ : ∃ m, c.toNat = m + 1 := ⟨c.toNat - 1, by omega⟩
        rw [hm, List.take_succ_cons] at e
        injection e with e1 _
        rw [e1]; rfl

theorem own_map (A : Option Addr) (n c : Nat) : (Value.slice A n c).ownBlock = A.map (·.block) := by cases A <;> rfl
/-- A reader stays where its blocks stay. -/
theorem Rd.kept {F : Nat → Prop} {w w' : World} {g : Nat} {b : Option Nat} {xs : List UInt8} {er : Nat} (h : Rd w g b xs er) (hk : Kept F w w') (hd : ∀ k, Foot g b k → ¬ F k) : Rd w' g b xs er := by
  obtain ⟨A, n, c, hv, hn, hnc, hcm, hx, hb, hbg⟩ := h
  refine ⟨A, n, c, (hk.block g (lt_of_block hv) (hd g (.inl rfl))).trans hv, hn, hnc, hcm, ?_, hb, hbg⟩
  refine (hx.kept (Nat.le_refl _) hk ?_).more hk.size
  intro a e _ hF
  exact hd a.block (.inr (by rw [← hb, e]; rfl)) hF
theorem Rd.below {w w' : World} {g : Nat} {b : Option Nat} {xs : List UInt8} {er : Nat} (h : Rd w g b xs er) (hk : Below w.heap.size w w') : Rd w' g b xs er :=
  h.kept (F := fun _ => False) (Kept.of_below hk) (fun _ _ h => h)
/-- A new reader of a copy. -/
def RNew (xs : List UInt8) (w : World) (e : Ending) (w' : World) : Prop :=
  ∃ g b, e = .returned (.pointer (some ⟨g, 0, none⟩)) ∧ Rd w' g b xs 0 ∧ (∀ k, Foot g b k → w.heap.size ≤ k ∧ k < w'.heap.size) ∧ Below w.heap.size w w'
theorem newreader_any (A : Option Addr) (n c B : Nat) (xs : List UInt8) (w : World) (hx : Has w B A xs) (hB : B ≤ w.heap.size) (hn : xs.length = n) (hl : n ≤ 140737488355328) :
    Calls Try.prog 76 #[.slice A n c] w (RNew xs w) := by
  have HC := hide (clone_any A n c B xs w hx hB hn hl)
  clear hx
  go_enter Try.func76, Try.ntmps76
  go_wp2_with fail
  refine HC.out.mono ?_
  rintro e w1 ⟨v, rfl, ho, hb⟩
  obtain ⟨A1, n1, c1, rfl, hn1, hnc1, hx1, hf⟩ := ho.form
  go_wp2
  go_ret
  refine ⟨w1.heap.size, A1.map (·.block), rfl, ⟨A1, n1, c1, heap_alloc_new w1 _, hn1, hnc1, by have := hn1.out; omega, (hx1.alloc (Nat.le_refl _) _).more (by simp), rfl, ?_⟩, ?_, hb.alloc hb.size _⟩
  · intro e
    have := (ho.lt w1.heap.size (by rw [own_map]; exact e)).2
    omega
  · intro k e
    have hs := hb.size
    rcases e with rfl | e
    · simp; exact hs
    · have := ho.lt k (by rw [own_map]; exact e)
      simp; omega

theorem rn_lt (xs : List UInt8) : (rn xs).1 < 18446744073709551616 := by
  cases xs with
  | nil => simp [rn]
  | cons c t =>
    by_cases h8 : 8 < c.toNat
    · rw [rn_wide h8]; simp
    by_cases hs : t.length < c.toNat
    · rw [rn_short h8 hs]; simp
    by_cases hz : 0 < c.toNat ∧ t.head? = some 0
    · rw [rn_zero h8 hs hz]; simp
    · rw [rn_ok h8 hs hz]
      have h1 := val_lt (t.take c.toNat)
      have h2 : (t.take c.toNat).length ≤ 8 := by rw [List.length_take]; omega
      have h3 := Nat.pow_le_pow_right (show 0 < 256 by omega) h2
      simp only [Nat.reducePow] at h3
      show val (t.take c.toNat) < _
      omega

end Go.Proofs.Ytpbfibofjkinmaa
