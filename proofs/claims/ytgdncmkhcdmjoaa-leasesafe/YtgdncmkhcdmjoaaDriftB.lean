/-
  drift.Wait, drift.Keeps, the reference's two, and the head of the drift laws. No condition.
-/
import Derived.Test.YtgdncmkhcdmjoaaDrift
set_option linter.unusedSimpArgs false
set_option linter.unusedVariables false
namespace Go.Proofs.Ytgdncmkhcdmjoaa
open Go.RowKit

theorem up_bounds {n m : Int} (h : upB n m = true) : 0 ≤ n ∧ n ≤ m := of_decide_eq_true h

theorem prod_bounds40 {t s : Int} (h0 : 0 ≤ t) (h1 : t ≤ 1099511627776) (h2 : 0 ≤ s) (h3 : s ≤ 1500) : 0 ≤ t * s ∧ t * s ≤ 1649267441664000 := by
  refine ⟨Int.mul_nonneg h0 h2, ?_⟩
  have a : t * s ≤ 1099511627776 * s := Int.mul_le_mul_of_nonneg_right h1 h2
  omega

theorem keeps_any (T n r : Int) (w : World) : Calls Try.prog 35 #[.int .i64 T, .int .i64 n, .int .i64 r] w fun e w' => e = .returned (.bool (keepsB T n r)) ∧ w = w' := by
  have h1 := upTo_any r 500 w
  have h2 := upTo_any T 1099511627776 w
  have h3 := upTo_any n 1099511627776 w
  unfold keepsB
  cases hb1 : upB r 500
  · rw [hb1] at h1
    clear hb1
    go_enter Try.func35, Try.ntmps35
    go_wp2_with fail
    refine h1.mono ?_
    rintro e w' ⟨rfl, rfl⟩
    go_wp2
    go_ret
    exact ⟨rfl, rfl⟩
  cases hb2 : upB T 1099511627776
  · rw [hb1] at h1
    rw [hb2] at h2
    clear hb1 hb2
    go_enter Try.func35, Try.ntmps35
    go_wp2_with fail
    refine h1.mono ?_
    rintro e w' ⟨rfl, rfl⟩
    go_wp2_with fail
    refine h2.mono ?_
    rintro e w' ⟨rfl, rfl⟩
    go_wp2
    go_ret
    exact ⟨rfl, rfl⟩
  cases hb3 : upB n 1099511627776
  · rw [hb1] at h1
    rw [hb2] at h2
    rw [hb3] at h3
    clear hb1 hb2 hb3
    go_enter Try.func35, Try.ntmps35
    go_wp2_with fail
    refine h1.mono ?_
    rintro e w' ⟨rfl, rfl⟩
    go_wp2_with fail
    refine h2.mono ?_
    rintro e w' ⟨rfl, rfl⟩
    go_wp2_with fail
    refine h3.mono ?_
    rintro e w' ⟨rfl, rfl⟩
    go_wp2
    go_ret
    exact ⟨rfl, rfl⟩
  obtain ⟨r0, r1⟩ := up_bounds hb1
  obtain ⟨t0, t1⟩ := up_bounds hb2
  obtain ⟨n0, n1⟩ := up_bounds hb3
  rw [hb1] at h1
  rw [hb2] at h2
  rw [hb3] at h3
  clear hb1 hb2 hb3
  obtain ⟨p0, p1⟩ := prod_bounds40 t0 t1 (s := 1000 - r) (by omega) (by omega)
  obtain ⟨p2, p3⟩ := prod_bounds40 t0 t1 (s := 1000 + r) (by omega) (by omega)
  have w1 : IntKind.i64.wrap (1000 - r) = 1000 - r := IntWalk.i64_in _ (by omega)
  have w2 : IntKind.i64.wrap (1000 + r) = 1000 + r := IntWalk.i64_in _ (by omega)
  have w3 : IntKind.i64.wrap (T * (1000 - r)) = T * (1000 - r) := IntWalk.i64_in _ (by omega)
  have w4 : IntKind.i64.wrap (T * (1000 + r)) = T * (1000 + r) := IntWalk.i64_in _ (by omega)
  have w5 : IntKind.i64.wrap (n * 1000) = 1000 * n := by rw [IntWalk.i64_in _ (by omega)]; omega
  by_cases d1 : T * (1000 - r) ≤ 1000 * n
  · by_cases d2 : 1000 * n ≤ T * (1000 + r)
    · have D1 : decide (T * (1000 - r) ≤ 1000 * n) = true := decide_eq_true d1
      have D2 : decide (1000 * n ≤ T * (1000 + r)) = true := decide_eq_true d2
      rw [D1, D2]
      go_enter Try.func35, Try.ntmps35
      go_wp2_with fail
      refine h1.mono ?_
      rintro e w' ⟨rfl, rfl⟩
      go_wp2_with fail
      refine h2.mono ?_
      rintro e w' ⟨rfl, rfl⟩
      go_wp2_with fail
      refine h3.mono ?_
      rintro e w' ⟨rfl, rfl⟩
      go_wp2
      go_ret
      exact ⟨rfl, rfl⟩
    · have D1 : decide (T * (1000 - r) ≤ 1000 * n) = true := decide_eq_true d1
      have D2 : decide (1000 * n ≤ T * (1000 + r)) = false := decide_eq_false d2
      rw [D1, D2]
      go_enter Try.func35, Try.ntmps35
      go_wp2_with fail
      refine h1.mono ?_
      rintro e w' ⟨rfl, rfl⟩
      go_wp2_with fail
      refine h2.mono ?_
      rintro e w' ⟨rfl, rfl⟩
      go_wp2_with fail
      refine h3.mono ?_
      rintro e w' ⟨rfl, rfl⟩
      go_wp2
      go_ret
      exact ⟨rfl, rfl⟩
  · have D1 : decide (T * (1000 - r) ≤ 1000 * n) = false := decide_eq_false d1
    rw [D1]
    go_enter Try.func35, Try.ntmps35
    go_wp2_with fail
    refine h1.mono ?_
    rintro e w' ⟨rfl, rfl⟩
    go_wp2_with fail
    refine h2.mono ?_
    rintro e w' ⟨rfl, rfl⟩
    go_wp2_with fail
    refine h3.mono ?_
    rintro e w' ⟨rfl, rfl⟩
    go_wp2
    go_ret
    exact ⟨rfl, rfl⟩

end Go.Proofs.Ytgdncmkhcdmjoaa
