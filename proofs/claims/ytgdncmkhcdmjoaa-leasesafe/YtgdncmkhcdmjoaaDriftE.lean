/-
  The walk of DriftKeeps. No condition.
-/
import Derived.Test.YtgdncmkhcdmjoaaDriftD
set_option linter.unusedSimpArgs false
set_option linter.unusedVariables false
namespace Go.Proofs.Ytgdncmkhcdmjoaa
open Go.RowKit

theorem keeps_out {T n r : Int} (h : r < 0 ∨ 500 < r ∨ T < 0 ∨ 1099511627776 < T ∨ n < 0 ∨ 1099511627776 < n) : keepsB T n r = false := by
  cases hk : keepsB T n r
  · rfl
  · exfalso
    unfold keepsB upB at hk
    simp only [Bool.and_eq_true, decide_eq_true_eq] at hk
    omega
theorem keeps_in {T n r : Int} (r0 : 0 ≤ r) (r1 : r ≤ 500) (t0 : 0 ≤ T) (t1 : T ≤ 1099511627776) (n0 : 0 ≤ n) (n1 : n ≤ 1099511627776) : keepsB T n r = (decide (T * (1000 - r) ≤ 1000 * n) && decide (1000 * n ≤ T * (1000 + r))) := by
  unfold keepsB upB
  rw [decide_eq_true (show 0 ≤ r ∧ r ≤ 500 from ⟨r0, r1⟩), decide_eq_true (show 0 ≤ T ∧ T ≤ 1099511627776 from ⟨t0, t1⟩), decide_eq_true (show 0 ≤ n ∧ n ≤ 1099511627776 from ⟨n0, n1⟩)]
  rfl

end Go.Proofs.Ytgdncmkhcdmjoaa
