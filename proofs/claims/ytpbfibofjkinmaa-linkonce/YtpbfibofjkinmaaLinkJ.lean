/-
  right of package link's frames. No condition.
-/
import Derived.Test.YtpbfibofjkinmaaLinkI
set_option linter.unusedSimpArgs false
set_option linter.unusedVariables false
namespace Go.Proofs.Ytpbfibofjkinmaa
open Go.RowKit Go.Maps

/-- What a frame says: kind, life, number, oldest. -/
def rightF (kd lf nm od : Int) : Bool := !((kd == 0) || (lf == 0) || (nm == 0)) && ((kd == 2) || (decide (0 < od) && decide (od ≤ nm)))

set_option maxRecDepth 20000 in
theorem lright_any (kd lf nm od : Int) (x : Value) (w : World) : Calls Try.prog 80 #[.agg #[.int .i64 kd, .int .i64 lf, .int .i64 nm, .int .i64 od, x]] w fun e w' => e = .returned (.bool (rightF kd lf nm od)) ∧ Below w.heap.size w w' := by
  cases h1 : (kd == 0)
  · cases h2 : (lf == 0)
    · cases h3 : (nm == 0)
      · cases h4 : (kd == 2)
        · by_cases h5 : 0 < od
          · have d5 : decide (0 < od) = true := decide_eq_true h5
            go_enter Try.func80, Try.ntmps80
            go_wp2
            go_ret
            exact ⟨by simp only [rightF, h1, h2, h3, h4, d5]; rfl, by go_grown⟩
          · have d5 : decide (0 < od) = false := decide_eq_false h5
            go_enter Try.func80, Try.ntmps80
            go_wp2
            go_ret
            exact ⟨by simp only [rightF, h1, h2, h3, h4, d5]; rfl, by go_grown⟩
        · go_enter Try.func80, Try.ntmps80
          go_wp2
          go_ret
          exact ⟨by simp only [rightF, h1, h2, h3, h4]; rfl, by go_grown⟩
      · go_enter Try.func80, Try.ntmps80
        go_wp2
        go_ret
        exact ⟨by simp only [rightF, h1, h2, h3]; rfl, by go_grown⟩
    · go_enter Try.func80, Try.ntmps80
      go_wp2
      go_ret
      exact ⟨by simp only [rightF, h1, h2]; rfl, by go_grown⟩
  · go_enter Try.func80, Try.ntmps80
    go_wp2
    go_ret
    exact ⟨by simp only [rightF, h1]; rfl, by go_grown⟩
end Go.Proofs.Ytpbfibofjkinmaa
