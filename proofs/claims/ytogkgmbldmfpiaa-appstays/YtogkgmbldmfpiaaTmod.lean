/-
  Remainders. No condition.
-/
import Derived.WalkKit
set_option linter.unusedSimpArgs false
set_option linter.unusedVariables false
namespace Go.Proofs.Ytogkgmbldmfpiaa

theorem tmod_bd (a : Int) (k : Nat) (hk : 0 < k) : -(k : Int) < a.tmod k ∧ a.tmod k < k := by
  rcases Int.le_total 0 a with h | h
  · rw [Int.tmod_eq_emod_of_nonneg h]
    have h1 := Int.emod_nonneg a (b := (k : Int)) (by omega)
    have h2 := Int.emod_lt_of_pos a (b := (k : Int)) (by omega)
    omega
  · have e : a.tmod k = -((-a) % k) := by
      conv => lhs; rw [← Int.neg_neg a]
      rw [Int.neg_tmod, Int.tmod_eq_emod_of_nonneg (by omega)]
    have h1 := Int.emod_nonneg (-a) (b := (k : Int)) (by omega)
    have h2 := Int.emod_lt_of_pos (-a) (b := (k : Int)) (by omega)
    omega
end Go.Proofs.Ytogkgmbldmfpiaa
