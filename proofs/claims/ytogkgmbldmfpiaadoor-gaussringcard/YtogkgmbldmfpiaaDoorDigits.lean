/-
  Decimal digits: what is shown tells numbers apart. No condition.
-/
import Derived.Lib.ItoaNum
import Derived.Lib.ItoaMem
namespace Go.Proofs.YtogkgmbldmfpiaaDoor
open Go.Lib

def isDig (c : UInt8) : Prop := 48 ≤ c.toNat ∧ c.toNat ≤ 57
/-- The number that digits make. -/
def dval (l : List UInt8) : Nat := l.foldl (fun a c => a * 10 + (c.toNat - 48)) 0

theorem dval_snoc (l : List UInt8) (c : UInt8) : dval (l ++ [c]) = dval l * 10 + (c.toNat - 48) := by simp [dval]

theorem dd_step (u : Nat) (h : ¬ u < 10) : decDigits u = decDigits (u / 10) ++ [UInt8.ofNat (48 + u % 10)] := by
  rw [decDigits, dif_neg h]

theorem dig_ofNat (d : Nat) (h : d < 10) : (UInt8.ofNat (48 + d)).toNat = 48 + d := by
  simp
  omega

theorem dd_val : ∀ u, dval (decDigits u) = u := by
  intro u
  induction u using Nat.strongRecOn with
  | _ u ih =>
    by_cases h : u < 10
    · rw [decDigits_one h]
      simp only [dval, List.foldl_cons, List.foldl_nil]
      rw [dig_ofNat u h]
      omega
    · rw [dd_step u h, dval_snoc, ih (u / 10) (by omega), dig_ofNat _ (Nat.mod_lt _ (by omega))]
      omega

theorem dd_dig : ∀ u, ∀ c ∈ decDigits u, isDig c := by
  intro u
  induction u using Nat.strongRecOn with
  | _ u ih =>
    intro c hc
    unfold isDig
    by_cases h : u < 10
    · rw [decDigits_one h] at hc
      simp only [List.mem_singleton] at hc
      rw [hc, dig_ofNat u h]
      omega
    · rw [dd_step u h] at hc
      rcases List.mem_append.1 hc with hc | hc
      · exact ih (u / 10) (by omega) c hc
      · simp only [List.mem_singleton] at hc
        rw [hc, dig_ofNat _ (Nat.mod_lt _ (by omega))]
        omega

theorem dd_ne (u : Nat) : decDigits u ≠ [] := by
  by_cases h : u < 10
  · rw [decDigits_one h]; simp
  · rw [dd_step u h]; simp

theorem dd_inj {u v : Nat} (h : decDigits u = decDigits v) : u = v := by rw [← dd_val u, h, dd_val]

/-- Digits, then what is none: one way to cut. -/
theorem dig_split : ∀ (p q : List UInt8) (s t : UInt8) (r r' : List UInt8), (∀ c ∈ p, isDig c) → (∀ c ∈ q, isDig c) → ¬ isDig s → ¬ isDig t → p ++ s :: r = q ++ t :: r' → p = q ∧ s = t ∧ r = r'
  | [], [], s, t, r, r', _, _, _, _, h => by simp at h; exact ⟨rfl, h.1, h.2⟩
  | [], d :: q, s, t, r, r', _, hq, hs, _, h => by
    simp at h
    exact absurd (hq d (by simp)) (h.1 ▸ hs)
  | c :: p, [], s, t, r, r', hp, _, _, ht, h => by
    simp at h
    exact absurd (hp c (by simp)) (h.1.symm ▸ ht)
  | c :: p, d :: q, s, t, r, r', hp, hq, hs, ht, h => by
    simp at h
    obtain ⟨e1, e2, e3⟩ := dig_split p q s t r r' (fun x hx => hp x (by simp [hx])) (fun x hx => hq x (by simp [hx])) hs ht h.2
    exact ⟨by rw [h.1, e1], e2, e3⟩

/-- A number of two parts, shown. -/
def showL (a b : Int) : List UInt8 := itoa a ++ (if b < 0 then 45 else 43) :: (decDigits b.natAbs ++ [105])

theorem sign_no (b : Int) : ¬ isDig (if b < 0 then 45 else 43) := by
  unfold isDig
  split <;> decide

theorem showL_inj {a b c d : Int} (h : showL a b = showL c d) : a = c ∧ b = d := by
  have key : ∀ (u v : Nat), decDigits u ++ (if b < 0 then 45 else 43) :: (decDigits b.natAbs ++ [105]) = decDigits v ++ (if d < 0 then 45 else 43) :: (decDigits d.natAbs ++ [105]) → u = v ∧ b = d := by
    intro u v h
    obtain ⟨h1, h2, h3⟩ := dig_split _ _ _ _ _ _ (dd_dig u) (dd_dig v) (sign_no b) (sign_no d) h
    have h4 := dd_inj (List.append_cancel_right h3)
    refine ⟨dd_inj h1, ?_⟩
    by_cases hb : b < 0 <;> by_cases hd : d < 0 <;> simp [hb, hd] at h2 <;> omega
  have mdig : ∀ (v : Nat) (x : List UInt8) (y : List UInt8), decDigits v ++ x ≠ 45 :: y := by
    intro v x y e
    cases hv : decDigits v with
    | nil => exact dd_ne v hv
    | cons z zs =>
      rw [hv] at e
      simp at e
      have := dd_dig v z (by rw [hv]; simp)
      rw [e.1] at this
      exact absurd this (by unfold isDig; decide)
  unfold showL itoa at h
  by_cases ha : a < 0 <;> by_cases hc : c < 0
  · rw [if_pos ha, if_pos hc] at h
    simp only [List.cons_append, List.cons.injEq, true_and] at h
    obtain ⟨h1, h2⟩ := key _ _ h
    exact ⟨by omega, h2⟩
  · rw [if_pos ha, if_neg hc] at h
    exact absurd h.symm (by rw [List.cons_append]; exact mdig _ _ _)
  · rw [if_neg ha, if_pos hc] at h
    exact absurd h (by rw [List.cons_append]; exact mdig _ _ _)
  · rw [if_neg ha, if_neg hc] at h
    obtain ⟨h1, h2⟩ := key _ _ h
    exact ⟨by omega, h2⟩
end Go.Proofs.YtogkgmbldmfpiaaDoor
