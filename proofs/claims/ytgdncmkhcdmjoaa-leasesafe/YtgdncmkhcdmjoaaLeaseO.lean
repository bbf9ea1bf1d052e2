/-
  Why a lease is safe: clocks, granters and the holder, by numbers alone. No condition.
-/
import Derived.Test.YtgdncmkhcdmjoaaLeaseL
import Derived.Test.YtgdncmkhcdmjoaaDriftF
set_option linter.unusedSimpArgs false
set_option linter.unusedVariables false
namespace Go.Proofs.Ytgdncmkhcdmjoaa
open Go.RowKit
/-- The clocks, the granters and the holder behind i stretches. -/
structure PI (L r : Int) (i : Nat) (S : Nat → Gr) (f : Int → Option Int) (cl : Nat → Int) : Prop where
  c : ∀ k, k < 4 → 0 ≤ cl k ∧ cl k ≤ 1500 * (i : Int)
  g : ∀ j, j < 3 → (S j).len = L ∧ 0 ≤ (S j).since ∧ (S j).since ≤ cl (j + 1) ∧ ((S j).st = true → (S j).r = 1 ∧ (S j).n = 1)
  h : ∀ j : Nat, j < 3 → ∀ a, f ((j : Int) + 1) = some a → a ≤ cl 0 ∧ (cl (j + 1) - (S j).since) * (1000 - r) ≤ (cl 0 - a) * (1000 + r) ∧ ((S j).st = true ∨ L ≤ cl (j + 1) - (S j).since)
theorem keeps_two {T x y r : Int} (r0 : 0 ≤ r) (r1 : r ≤ 500) (hx : keepsB T x r = true) (hy : keepsB T y r = true) : x * (1000 - r) ≤ y * (1000 + r) := by
  obtain ⟨_, _, _, _, x1⟩ := keeps_facts hx
  obtain ⟨_, _, _, y0, _⟩ := keeps_facts hy
  have e1 : (1000 * x) * (1000 - r) ≤ (T * (1000 + r)) * (1000 - r) := Int.mul_le_mul_of_nonneg_right x1 (by omega)
  have e2 : (T * (1000 - r)) * (1000 + r) ≤ (1000 * y) * (1000 + r) := Int.mul_le_mul_of_nonneg_right y0 (by omega)
  have e3 : (T * (1000 + r)) * (1000 - r) = (T * (1000 - r)) * (1000 + r) := by rw [Int.mul_assoc, Int.mul_comm (1000 + r), ← Int.mul_assoc]
  rw [Int.mul_assoc] at e1
  have e4 : (1000 * y) * (1000 + r) = 1000 * (y * (1000 + r)) := Int.mul_assoc _ _ _
  rw [e4] at e2
  generalize x * (1000 - r) = X at *
  generalize y * (1000 + r) = Y at *
  omega
theorem keeps_most {T x r : Int} (r0 : 0 ≤ r) (r1 : r ≤ 500) (hT : T ≤ 1000) (hx : keepsB T x r = true) : 0 ≤ x ∧ x ≤ 1500 := by
  obtain ⟨t0, x0, _, _, x1⟩ := keeps_facts hx
  have p : T * (1000 + r) ≤ T * 1500 := Int.mul_le_mul_of_nonneg_left (by omega) t0
  omega
section
variable {L r : Int} {i : Nat} {S : Nat → Gr} {f : Int → Option Int} {cl : Nat → Int}
theorem PI.tick (h : PI L r i S f cl) (r0 : 0 ≤ r) (r1 : r ≤ 500) {T : Int} {t : Nat → Int} (hT : T ≤ 1000) (hk : ∀ k, k < 4 → keepsB T (t k) r = true) : PI L r (i + 1) S f (fun k => cl k + t k) := by
  have hm := fun k hk' => keeps_most r0 r1 hT (hk k hk')
  refine ⟨fun k hk' => ?_, fun j hj => ?_, fun j hj a ha => ?_⟩
  · have := h.c k hk'
    have := hm k hk'
    show 0 ≤ cl k + t k ∧ cl k + t k ≤ _
    push_cast
    omega
  · obtain ⟨h1, h2, h3, h4⟩ := h.g j hj
    have := hm (j + 1) (by omega)
    exact ⟨h1, h2, by show _ ≤ cl (j + 1) + t (j + 1); omega, h4⟩
  · obtain ⟨h1, h2, h3⟩ := h.h j hj a ha
    have m0 := hm 0 (by omega)
    have mj := hm (j + 1) (by omega)
    have k2 := keeps_two r0 r1 (hk (j + 1) (by omega)) (hk 0 (by omega))
    refine ⟨by show a ≤ cl 0 + t 0; omega, ?_, ?_⟩
    · show (cl (j + 1) + t (j + 1) - (S j).since) * (1000 - r) ≤ (cl 0 + t 0 - a) * (1000 + r)
      rw [show cl (j + 1) + t (j + 1) - (S j).since = (cl (j + 1) - (S j).since) + t (j + 1) by omega, show cl 0 + t 0 - a = (cl 0 - a) + t 0 by omega, Int.add_mul, Int.add_mul]
      omega
    · rcases h3 with h3 | h3
      · exact .inl h3
      · exact .inr (by show L ≤ cl (j + 1) + t (j + 1) - _; omega)
theorem PI.look (h : PI L r i S f cl) (n : Nat) : PI L r i (fun z => if z < n then (S z).look (cl (z + 1)) else S z) f cl := by
  refine ⟨h.c, fun j hj => ?_, fun j hj a ha => ?_⟩
  · obtain ⟨h1, h2, h3, h4⟩ := h.g j hj
    show (if j < n then (S j).look (cl (j + 1)) else S j).len = L ∧ _
    split
    · refine ⟨h1, ?_, ?_, fun hs => ?_⟩
      · show 0 ≤ min (S j).since (cl (j + 1))
        omega
      · show min (S j).since (cl (j + 1)) ≤ _
        omega
      · have : ((S j).st && decide (cl (j + 1) - min (S j).since (cl (j + 1)) < (S j).len)) = true := hs
        cases hst : (S j).st
        · rw [hst] at this; cases this
        · exact h4 hst
    · exact ⟨h1, h2, h3, h4⟩
  · obtain ⟨h1, h2, h3, h4⟩ := h.g j hj
    obtain ⟨k1, k2, k3⟩ := h.h j hj a ha
    show a ≤ cl 0 ∧ (cl (j + 1) - (if j < n then (S j).look (cl (j + 1)) else S j).since) * (1000 - r) ≤ _ ∧ ((if j < n then (S j).look (cl (j + 1)) else S j).st = true ∨ L ≤ cl (j + 1) - (if j < n then (S j).look (cl (j + 1)) else S j).since)
    split
    · have e : ((S j).look (cl (j + 1))).since = (S j).since := by show min (S j).since (cl (j + 1)) = _; omega
      rw [e]
      refine ⟨k1, k2, ?_⟩
      by_cases hx : L ≤ cl (j + 1) - (S j).since
      · exact .inr hx
      · left
        show ((S j).st && decide (cl (j + 1) - min (S j).since (cl (j + 1)) < (S j).len)) = true
        rw [show min (S j).since (cl (j + 1)) = (S j).since by omega, decide_eq_true (by omega), Bool.and_true]
        rcases k3 with k3 | k3
        · exact k3
        · exact absurd k3 hx
    · exact ⟨k1, k2, k3⟩
/-- What a grant to the leader itself does. -/
theorem PI.grant_is (h : PI L r i S f cl) {j : Nat} (hj : j < 3) : ((S j).grant 1 1 (cl (j + 1))) = if L = 0 then (S j, false) else (⟨L, true, 1, 1, cl (j + 1)⟩, true) := by
  obtain ⟨h1, h2, h3, h4⟩ := h.g j hj
  unfold Gr.grant
  rw [h1]
  by_cases hl : L = 0
  · rw [if_pos hl, if_pos hl]
  · rw [if_neg hl, if_neg hl]
    have hb : ((S j).look (cl (j + 1))).bars 1 1 = false := by
      unfold Gr.bars
      cases hst : ((S j).look (cl (j + 1))).st
      · rfl
      · have h5 : (S j).st = true := by
          have h6 : ((S j).st && decide (cl (j + 1) - min (S j).since (cl (j + 1)) < (S j).len)) = true := hst
          cases h7 : (S j).st
          · rw [h7] at h6; cases h6
          · rfl
        obtain ⟨e1, e2⟩ := h4 h5
        show (true && !sameBal (S j).r (S j).n 1 1) = false
        rw [e1, e2]
        decide
    rw [hb, if_neg (by decide)]
    show ((⟨(S j).len, true, 1, 1, cl (j + 1)⟩ : Gr), true) = _
    rw [h1]
theorem PI.grant (h : PI L r i S f cl) {j : Nat} (hj : j < 3) (r0 : 0 ≤ r) (r1 : r ≤ 500) : PI L r i (fun z => if z = j then ((S j).grant 1 1 (cl (j + 1))).1 else S z) f cl := by
  by_cases hl : L = 0
  · have e : (fun z => if z = j then ((S j).grant 1 1 (cl (j + 1))).1 else S z) = S := by
      funext z
      rw [h.grant_is hj, if_pos hl]
      split
      · rename_i h; rw [h]
      · rfl
    rw [e]
    exact h
  · rw [h.grant_is hj, if_neg hl]
    refine ⟨h.c, fun z hz => ?_, fun z hz a ha => ?_⟩
    · show (if z = j then (⟨L, true, 1, 1, cl (j + 1)⟩ : Gr) else S z).len = L ∧ _
      split
      · rename_i e
        subst e
        exact ⟨rfl, (h.c (z + 1) (by omega)).1, Int.le_refl _, fun _ => ⟨rfl, rfl⟩⟩
      · exact h.g z hz
    · show a ≤ cl 0 ∧ (cl (z + 1) - (if z = j then (⟨L, true, 1, 1, cl (j + 1)⟩ : Gr) else S z).since) * (1000 - r) ≤ _ ∧ ((if z = j then (⟨L, true, 1, 1, cl (j + 1)⟩ : Gr) else S z).st = true ∨ L ≤ cl (z + 1) - (if z = j then (⟨L, true, 1, 1, cl (j + 1)⟩ : Gr) else S z).since)
      obtain ⟨k1, k2, k3⟩ := h.h z hz a ha
      split
      · rename_i e
        subst e
        refine ⟨k1, ?_, .inl rfl⟩
        show (cl (z + 1) - cl (z + 1)) * (1000 - r) ≤ _
        rw [Int.sub_self, Int.zero_mul]
        exact Int.mul_nonneg (by omega) (by omega)
      · exact ⟨k1, k2, k3⟩
/-- What the holder hears of a node that has granted right now. -/
theorem PI.heard (h : PI L r i S f cl) {j : Nat} (hs : (S j).since = cl (j + 1) ∧ (S j).st = true) (r0 : 0 ≤ r) (r1 : r ≤ 500) {f' : Int → Option Int}
    (hf : ∀ x, f' x = if x = (j : Int) + 1 then some (match f ((j : Int) + 1) with | none => cl 0 | some t => max t (cl 0)) else f x) : PI L r i S f' cl := by
  refine ⟨h.c, h.g, fun z hz a ha => ?_⟩
  rw [hf] at ha
  by_cases e : (z : Int) + 1 = (j : Int) + 1
  · rw [if_pos e] at ha
    have ez : z = j := by omega
    subst ez
    have ea : a = cl 0 := by
      cases hx : f ((z : Int) + 1) with
      | none => rw [hx] at ha; exact (Option.some.inj ha).symm
      | some t =>
        rw [hx] at ha
        have := (h.h z hz t hx).1
        have := Option.some.inj ha
        simp only at this
        omega
    subst ea
    refine ⟨Int.le_refl _, ?_, .inl hs.2⟩
    rw [hs.1, Int.sub_self, Int.zero_mul, Int.sub_self, Int.zero_mul]
    exact Int.le_refl _
  · rw [if_neg e] at ha
    exact h.h z hz a ha
/-- A grant that counts stands. -/
theorem PI.safe (h : PI L r i S f cl) (r0 : 0 ≤ r) (r1 : r ≤ 500) {H : Int} (hH : H * (1000 + r) ≤ L * (1000 - r)) {j : Nat} (hj : j < 3) (ho : okA H (cl 0) (f ((j : Int) + 1)) = true) : ((S j).look (cl (j + 1))).bars 2 2 = true := by
  obtain ⟨h1, h2, h3, h4⟩ := h.g j hj
  cases hx : f ((j : Int) + 1) with
  | none => rw [hx] at ho; cases ho
  | some a =>
    rw [hx] at ho
    obtain ⟨k1, k2, k3⟩ := h.h j hj a hx
    have ho' : (decide (a ≤ cl 0) && decide (cl 0 - a < H)) = true := ho
    have o2 : cl 0 - a < H := by
      have := (Bool.and_eq_true _ _ ▸ ho').2
      exact of_decide_eq_true this
    have hlt : ¬ L ≤ cl (j + 1) - (S j).since := fun hl => by
      have e1 : L * (1000 - r) ≤ (cl (j + 1) - (S j).since) * (1000 - r) := Int.mul_le_mul_of_nonneg_right hl (by omega)
      have e2 : (cl 0 - a + 1) * (1000 + r) ≤ H * (1000 + r) := Int.mul_le_mul_of_nonneg_right (by omega) (by omega)
      rw [Int.add_mul] at e2
      generalize (cl 0 - a) * (1000 + r) = X at *
      generalize (cl (j + 1) - (S j).since) * (1000 - r) = Y at *
      generalize H * (1000 + r) = Z at *
      generalize L * (1000 - r) = U at *
      omega
    have hst : (S j).st = true := by
      rcases k3 with k3 | k3
      · exact k3
      · exact absurd k3 hlt
    obtain ⟨e1, e2⟩ := h4 hst
    show (((S j).st && decide (cl (j + 1) - min (S j).since (cl (j + 1)) < (S j).len)) && !(sameBal (S j).r (S j).n 2 2)) = true
    rw [hst, e1, e2, show min (S j).since (cl (j + 1)) = (S j).since by omega, decide_eq_true (by omega)]
    decide
end
/-- The nodes of which no grant stands, of the first k. -/
def freeL (b : Nat → Bool) : Nat → List Int
  | 0 => []
  | k + 1 => freeL b k ++ (if b k = true then [] else [(k : Int) + 1])
theorem freeL_len (b : Nat → Bool) : ∀ k, (freeL b k).length ≤ k
  | 0 => Nat.le_refl _
  | k + 1 => by
    have := freeL_len b k
    show (freeL b k ++ _).length ≤ k + 1
    rw [List.length_append]
    split <;> simp <;> omega
theorem no_both {b : Nat → Bool} {p : Int → Bool} (h : ∀ j : Nat, j < 3 → p ((j : Int) + 1) = true → b j = true) (hq : quoH [1, 2, 3] p = true) : enB [1, 2, 3] (freeL b 3) = false := by
  have h0 := h 0 (by omega)
  have h1 := h 1 (by omega)
  have h2 := h 2 (by omega)
  simp only [Int.ofNat_zero, Int.zero_add] at h0
  have h0 : p 1 = true → b 0 = true := h0
  have h1 : p 2 = true → b 1 = true := h1
  have h2 : p 3 = true → b 2 = true := h2
  unfold quoH at hq
  unfold enB cnt freeL freeL freeL freeL
  generalize b 0 = b0 at *
  generalize b 1 = b1 at *
  generalize b 2 = b2 at *
  have hq' := of_decide_eq_true hq
  simp only [List.countP_cons, List.countP_nil, List.length_cons, List.length_nil] at hq'
  generalize p 1 = p1 at *
  generalize p 2 = p2 at *
  generalize p 3 = p3 at *
  clear h hq
  revert h0 h1 h2 hq'
  cases b0 <;> cases b1 <;> cases b2 <;> cases p1 <;> cases p2 <;> cases p3 <;> decide
end Go.Proofs.Ytgdncmkhcdmjoaa
