/-
  Next of the reference, Below, Valid, and the head of synodlaw05. No condition but the reach of what is read.
-/
import Derived.Test.YtgdncmkhcdmjoaaBallotD
import Derived.Test.YtgdncmkhcdmjoaaEqual
set_option linter.unusedSimpArgs false
set_option linter.unusedVariables false
namespace Go.Proofs.Ytgdncmkhcdmjoaa
open Go.RowKit

def belB (a b c d : Int) : Bool := decide (a < c ∨ a = c ∧ b < d)
def valB (a b : Int) : Bool := decide (1 ≤ a ∧ a ≤ 1099511627776 ∧ 1 ≤ b ∧ b ≤ 9)
theorem valB_node {a b : Int} (h1 : 1 ≤ a) (h2 : a ≤ 1099511627776) : nodeB b = valB a b := by
  unfold nodeB valB
  exact decide_eq_decide.2 (by omega)
theorem bvalid_any (a b : Int) (w : World) : Calls Try.prog 48 #[.agg #[.int .i64 a, .int .i64 b]] w fun e w' => e = .returned (.bool (valB a b)) ∧ Below w.heap.size w w' := by
  by_cases h1 : 1 ≤ a
  · by_cases h2 : a ≤ 1099511627776
    · have HE := hide (valB_node (b := b) h1 h2)
      go_enter Try.func48, Try.ntmps48
      go_wp2_with fail
      refine (isNode_any b _).mono ?_
      rintro e w' ⟨rfl, rfl⟩
      go_wp2
      go_ret
      exact ⟨by rw [← HE.out]; rfl, by go_grown⟩
    · have HE : Hid (valB a b = false) := hide (decide_eq_false (by omega))
      go_enter Try.func48, Try.ntmps48
      go_wp2
      go_ret
      exact ⟨by rw [HE.out]; rfl, by go_grown⟩
  · have HE : Hid (valB a b = false) := hide (decide_eq_false (by omega))
    go_enter Try.func48, Try.ntmps48
    go_wp2
    go_ret
    exact ⟨by rw [HE.out]; rfl, by go_grown⟩
theorem rbvalid_any (a b : Int) (w : World) : Calls Try.prog 37 #[.agg #[.int .i64 a, .int .i64 b]] w fun e w' => e = .returned (.bool (valB a b)) ∧ Below w.heap.size w w' := by
  by_cases h1 : 0 < a
  · by_cases h2 : a ≤ 1099511627776
    · by_cases h3 : 0 < b
      · by_cases h4 : b ≤ 9
        · have HE : Hid (valB a b = true) := hide (decide_eq_true (by omega))
          go_enter Try.func37, Try.ntmps37
          go_wp2
          go_ret
          exact ⟨by rw [HE.out]; rfl, by go_grown⟩
        · have HE : Hid (valB a b = false) := hide (decide_eq_false (by omega))
          go_enter Try.func37, Try.ntmps37
          go_wp2
          go_ret
          exact ⟨by rw [HE.out]; rfl, by go_grown⟩
      · have HE : Hid (valB a b = false) := hide (decide_eq_false (by omega))
        go_enter Try.func37, Try.ntmps37
        go_wp2
        go_ret
        exact ⟨by rw [HE.out]; rfl, by go_grown⟩
    · have HE : Hid (valB a b = false) := hide (decide_eq_false (by omega))
      go_enter Try.func37, Try.ntmps37
      go_wp2
      go_ret
      exact ⟨by rw [HE.out]; rfl, by go_grown⟩
  · have HE : Hid (valB a b = false) := hide (decide_eq_false (by omega))
    go_enter Try.func37, Try.ntmps37
    go_wp2
    go_ret
    exact ⟨by rw [HE.out]; rfl, by go_grown⟩
theorem right235 : rightS [2, 3, 5] := by decide
end Go.Proofs.Ytgdncmkhcdmjoaa
