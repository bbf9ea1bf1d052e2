/-
  The walk of DriftKeeps. No condition.
-/
import Derived.Test.YtpbfibofjkinmaaDriftD
set_option linter.unusedSimpArgs false
set_option linter.unusedVariables false
namespace Go.Proofs.Ytpbfibofjkinmaa
open Go.RowKit

theorem keeps_out {T n r : Int} (h : r < 0 ∨ 500 < r ∨ T < 0 ∨ 1099511627776 < T ∨ n < 0 ∨ 1099511627776 < n) : keepsB T n r = false := by
  cases hk : keepsB T n r
  · rfl
  · exfalso
    unfold keepsB upB at hk
    simp only [Bool.and_eq_true, decide_eq_true_eq] at hk
    omega
theorem keeps_in {T n r : Int} (r0 : 0 ≤ r) (r1 : r ≤ 500) (t0 : 0 ≤ T) (t1 : T ≤ 1099511627776) (n0 : 0 ≤ n) (n1 : n ≤ 1099511627776) : keepsB T n r = (decide (T * (1000 - r) ≤ 1000 * n) && decide (1000 * n ≤ T * (1000 + r))) := by
  unfold keepsB upB
  rw [decide_eq_true (show 0 ≤ r ∧ r ≤ 500 from ⟨r0, r1⟩), decide_eq_true (show 0 ≤ T ∧ T ≤ 1099511627776 from ⟨t0, t1⟩), decide_eq_true (show 0 ≤ n ∧ n ≤ 1099511627776 from ⟨n0, n1⟩)]
  rfl

theorem driftKeeps_out (T n r : Int) (w : World) (h : r < 0 ∨ 500 < r ∨ T < 0 ∨ 1099511627776 < T ∨ n < 0 ∨ 1099511627776 < n) : Calls Try.prog 4 #[.int .i64 T, .int .i64 n, .int .i64 r] w fun e w' => e = .returned (.bool true) ∧ Below w.heap.size w w' := by
  have hk := keeps_any T n r w
  rw [keeps_out h] at hk
  by_cases h1 : r < 0
  · clear h
    go_enter Try.func4, Try.ntmps4
    go_wp2_with fail
    refine (head11_any _).mono ?_
    rintro e w' ⟨rfl, rfl⟩
    go_wp2_with fail
    refine hk.mono ?_
    rintro e w' ⟨rfl, rfl⟩
    go_wp2
    go_ret
    exact ⟨rfl, Below.refl _ _⟩
  by_cases h2 : 500 < r
  · clear h
    go_enter Try.func4, Try.ntmps4
    go_wp2_with fail
    refine (head11_any _).mono ?_
    rintro e w' ⟨rfl, rfl⟩
    go_wp2_with fail
    refine hk.mono ?_
    rintro e w' ⟨rfl, rfl⟩
    go_wp2
    go_ret
    exact ⟨rfl, Below.refl _ _⟩
  by_cases h3 : T < 0
  · clear h
    go_enter Try.func4, Try.ntmps4
    go_wp2_with fail
    refine (head11_any _).mono ?_
    rintro e w' ⟨rfl, rfl⟩
    go_wp2_with fail
    refine hk.mono ?_
    rintro e w' ⟨rfl, rfl⟩
    go_wp2
    go_ret
    exact ⟨rfl, Below.refl _ _⟩
  by_cases h4 : 1099511627776 < T
  · clear h
    go_enter Try.func4, Try.ntmps4
    go_wp2_with fail
    refine (head11_any _).mono ?_
    rintro e w' ⟨rfl, rfl⟩
    go_wp2_with fail
    refine hk.mono ?_
    rintro e w' ⟨rfl, rfl⟩
    go_wp2
    go_ret
    exact ⟨rfl, Below.refl _ _⟩
  by_cases h5 : n < 0
  · clear h
    go_enter Try.func4, Try.ntmps4
    go_wp2_with fail
    refine (head11_any _).mono ?_
    rintro e w' ⟨rfl, rfl⟩
    go_wp2_with fail
    refine hk.mono ?_
    rintro e w' ⟨rfl, rfl⟩
    go_wp2
    go_ret
    exact ⟨rfl, Below.refl _ _⟩
  have h6 : 1099511627776 < n := by omega
  clear h
  go_enter Try.func4, Try.ntmps4
  go_wp2_with fail
  refine (head11_any _).mono ?_
  rintro e w' ⟨rfl, rfl⟩
  go_wp2_with fail
  refine hk.mono ?_
  rintro e w' ⟨rfl, rfl⟩
  go_wp2
  go_ret
  exact ⟨rfl, Below.refl _ _⟩

theorem driftKeeps_walk (T n r : Int) (w : World) (hT : (Lit.int .i64 T).wf = true) (hn : (Lit.int .i64 n).wf = true) (hr : (Lit.int .i64 r).wf = true) : Calls Try.prog 4 #[.int .i64 T, .int .i64 n, .int .i64 r] w fun e w' => e = .returned (.bool true) ∧ Below w.heap.size w w' := by
  clear hT hn hr
  by_cases h : r < 0 ∨ 500 < r ∨ T < 0 ∨ 1099511627776 < T ∨ n < 0 ∨ 1099511627776 < n
  · exact driftKeeps_out T n r w h
  obtain ⟨r0, r1, t0, t1, n0, n1⟩ : 0 ≤ r ∧ r ≤ 500 ∧ 0 ≤ T ∧ T ≤ 1099511627776 ∧ 0 ≤ n ∧ n ≤ 1099511627776 := by omega
  clear h
  have hk := keeps_any T n r w
  rw [keeps_in r0 r1 t0 t1 n0 n1] at hk
  obtain ⟨p0, p1⟩ := prod_bounds40 t0 t1 (s := r) (by omega) (by omega)
  have e1 : T * (1000 - r) = 1000 * T - r * T := by rw [Int.mul_sub, Int.mul_comm T 1000, Int.mul_comm T r]
  have e2 : T * (1000 + r) = 1000 * T + r * T := by rw [Int.mul_add, Int.mul_comm T 1000, Int.mul_comm T r]
  rw [e1, e2] at hk
  rw [Int.mul_comm T r] at p0 p1
  clear e1 e2
  have v1 : IntKind.i64.wrap (1000 * n) = 1000 * n := IntWalk.i64_in _ (by omega)
  have v2 : IntKind.i64.wrap (1000 * T) = 1000 * T := IntWalk.i64_in _ (by omega)
  have v3 : IntKind.i64.wrap (r * T) = r * T := IntWalk.i64_in _ (by omega)
  have v4 : IntKind.i64.wrap (1000 * T - r * T) = 1000 * T - r * T := IntWalk.i64_in _ (by omega)
  have v5 : IntKind.i64.wrap (1000 * T + r * T) = 1000 * T + r * T := IntWalk.i64_in _ (by omega)
  by_cases d1 : 1000 * T - r * T ≤ 1000 * n
  · rw [decide_eq_true d1] at hk
    by_cases d2 : 1000 * n ≤ 1000 * T + r * T
    · rw [decide_eq_true d2] at hk
      have D1 : decide (1000 * n < 1000 * T - r * T) = false := decide_eq_false (by omega)
      have D2 : decide (1000 * T + r * T < 1000 * n) = false := decide_eq_false (by omega)
      go_enter Try.func4, Try.ntmps4
      go_wp2_with fail
      refine (head11_any _).mono ?_
      rintro e w' ⟨rfl, rfl⟩
      go_wp2_with fail
      refine hk.mono ?_
      rintro e w' ⟨rfl, rfl⟩
      go_wp2
      go_ret
      exact ⟨rfl, Below.refl _ _⟩
    · rw [decide_eq_false d2] at hk
      have D1 : decide (1000 * n < 1000 * T - r * T) = false := decide_eq_false (by omega)
      have D2 : decide (1000 * T + r * T < 1000 * n) = true := decide_eq_true (by omega)
      go_enter Try.func4, Try.ntmps4
      go_wp2_with fail
      refine (head11_any _).mono ?_
      rintro e w' ⟨rfl, rfl⟩
      go_wp2_with fail
      refine hk.mono ?_
      rintro e w' ⟨rfl, rfl⟩
      go_wp2
      go_ret
      exact ⟨rfl, Below.refl _ _⟩
  · rw [decide_eq_false d1] at hk
    have D1 : decide (1000 * n < 1000 * T - r * T) = true := decide_eq_true (by omega)
    have D2 : decide (1000 * T + r * T < 1000 * n) = false := decide_eq_false (by omega)
    go_enter Try.func4, Try.ntmps4
    go_wp2_with fail
    refine (head11_any _).mono ?_
    rintro e w' ⟨rfl, rfl⟩
    go_wp2_with fail
    refine hk.mono ?_
    rintro e w' ⟨rfl, rfl⟩
    go_wp2
    go_ret
    exact ⟨rfl, Below.refl _ _⟩
end Go.Proofs.Ytpbfibofjkinmaa
