/-
  The head of synodlaw03, Right of synodref03, is of synodlaw03. No condition.
-/
import Derived.Test.YtnngmapphacpkaaGauss
set_option linter.unusedSimpArgs false
set_option linter.unusedVariables false
namespace Go.Proofs.Ytnngmapphacpkaa
open Go.RowKit

theorem fv_3 : FV 4613937818241073152 3 := by
  have := fv_int 3 (by decide)
  rwa [show floatOfInt .f64 3 = 4613937818241073152 from by decide +kernel] at this
theorem fv_4 : FV 4616189618054758400 4 := by
  have := fv_int 4 (by decide)
  rwa [show floatOfInt .f64 4 = 4616189618054758400 from by decide +kernel] at this

theorem fvi {a : Int} (h : inB a) : FV (floatOfInt .f64 a) a := fv_int a (by unfold inB at h; omega)
theorem lti (a : Int) : floatOfInt .f64 a < 18446744073709551616 := by
  have := floatOfInt_wf .f64 a
  simpa [Lit.wf] using this
theorem oeq {x y : Nat} {a : Int} (h : FV x a) (h' : FV y a) : FloatKind.f64.format.order x y = some .eq := by rw [fv_order h h', cmp_eq]
theorem oself (a : Int) (h : inB a) : FloatKind.f64.format.order (floatOfInt .f64 a) (floatOfInt .f64 a) = some .eq := oeq (fvi h) (fvi h)

theorem refright_yes (a b : Int) (ha : inB a) (hb : inB b) (w : World) : Calls Try.prog 73 #[.int .i64 a, .int .i64 b] w fun e w' => e = .returned (.bool true) ∧ w = w' := by
  obtain ⟨h1, h2⟩ := ha
  obtain ⟨h3, h4⟩ := hb
  go_enter Try.func73, Try.ntmps73
  go_wp2
  go_ret
  exact ⟨rfl, rfl⟩

theorem refright_no (a b : Int) (h : ¬ (inB a ∧ inB b)) (w : World) : Calls Try.prog 73 #[.int .i64 a, .int .i64 b] w fun e w' => e = .returned (.bool false) ∧ w = w' := by
  unfold inB at h
  have key : ∀ h1 h2 h3 h4 : Bool, decide (-1048576 ≤ a) = h1 → decide (a ≤ 1048576) = h2 → decide (-1048576 ≤ b) = h3 → decide (b ≤ 1048576) = h4 → (h1 && h2 && h3 && h4) = false := by
    rintro _ _ _ _ rfl rfl rfl rfl
    simp
    omega
  by_cases h1 : -1048576 ≤ a <;> by_cases h2 : a ≤ 1048576 <;> by_cases h3 : -1048576 ≤ b <;> by_cases h4 : b ≤ 1048576
  all_goals first
    | (exfalso; omega)
    | (clear h key
       go_enter Try.func73, Try.ntmps73
       go_wp2
       go_ret
       exact ⟨rfl, rfl⟩)

end Go.Proofs.Ytnngmapphacpkaa
