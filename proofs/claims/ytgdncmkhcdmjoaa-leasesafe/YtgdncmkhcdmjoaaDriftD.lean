/-
  The reference's Wait, and the walks of DriftNumbers and DriftKeeps. No condition.
-/
import Derived.Test.YtgdncmkhcdmjoaaDriftC
set_option linter.unusedSimpArgs false
set_option linter.unusedVariables false
namespace Go.Proofs.Ytgdncmkhcdmjoaa
open Go.RowKit

theorem rhold_any (t r : Int) (w : World) : Calls Try.prog 49 #[.int .i64 t, .int .i64 r] w fun e w' => e = .returned (.int .i64 (holdN t r)) ∧ w = w' := by
  unfold holdN
  cases hb : lentB t r
  · rw [if_neg (by decide)]
    exact rhold_no t r w (lent_false hb)
  · rw [if_pos rfl]
    obtain ⟨t0, t1, r0, r1⟩ := lent_bounds hb
    obtain ⟨p0, p1⟩ := prod_bounds t0 t1 (s := 1000 - r) (by omega) (by omega)
    refine rhold_yes t r _ _ w t0 t1 r0 r1 rfl p0 p1 (fun h => (hold_le (by omega)).symm) (Int.ediv_nonneg p0 (by omega)) ?_
    refine Int.le_trans (Int.ediv_le_ediv (b := t * (1000 + r)) (by omega) (Int.mul_le_mul_of_nonneg_left (by omega) t0)) ?_
    rw [Int.mul_ediv_cancel _ (by omega)]
    exact Int.le_refl _

end Go.Proofs.Ytgdncmkhcdmjoaa
