/-
  The calls of package drift and of its reference. No condition.
-/
import Derived.Test.YtgdncmkhcdmjoaaRows
import Derived.Test.YtgdncmkhcdmjoaaWords
import Derived.Deep.QuietTactic
import Derived.BigQuiet
import Derived.Outline
import Derived.Handy
import Derived.IntWalk
import Derived.WalkSpells
set_option linter.unusedSimpArgs false
set_option linter.unusedVariables false
namespace Go.Proofs.Ytgdncmkhcdmjoaa
open Go.RowKit

theorem hold_le {T D h : Int} (hD : 0 < D) : h ≤ T / D ↔ h * D ≤ T := Int.le_ediv_iff_mul_le hD
theorem wait_le {T s w : Int} (hs : 0 < s) : (T + s - 1) / s ≤ w ↔ T ≤ w * s := by
  have h1 : (T + s - 1) / s < w + 1 ↔ T + s - 1 < (w + 1) * s := Int.ediv_lt_iff_lt_mul hs
  rw [Int.add_mul, Int.one_mul] at h1
  omega
theorem safe_hold {S a b t H r : Int} (hr : 0 ≤ r) (hr' : r ≤ 500) (h1 : S * (1000 - r) ≤ 1000 * a) (h2 : 1000 * b ≤ S * (1000 + r)) (hH : H * (1000 + r) ≤ t * (1000 - r)) (ha : a ≤ H) : b ≤ t := by
  have p1 : 1000 * b * (1000 - r) ≤ S * (1000 + r) * (1000 - r) := Int.mul_le_mul_of_nonneg_right h2 (by omega)
  have p2 : S * (1000 - r) * (1000 + r) ≤ 1000 * a * (1000 + r) := Int.mul_le_mul_of_nonneg_right h1 (by omega)
  have p3 : a * (1000 + r) ≤ H * (1000 + r) := Int.mul_le_mul_of_nonneg_right ha (by omega)
  have e1 : S * (1000 + r) * (1000 - r) = S * (1000 - r) * (1000 + r) := Int.mul_right_comm _ _ _
  have e2 : 1000 * a * (1000 + r) = 1000 * (a * (1000 + r)) := Int.mul_assoc _ _ _
  have e3 : 1000 * b * (1000 - r) = 1000 * (b * (1000 - r)) := Int.mul_assoc _ _ _
  refine Int.le_of_mul_le_mul_right (a := 1000 - r) ?_ (by omega)
  omega
theorem safe_wait {S a b t W r : Int} (hr : 0 ≤ r) (hr' : r ≤ 500) (h1 : 1000 * a ≤ S * (1000 + r)) (h2 : S * (1000 - r) ≤ 1000 * b) (hW : t * (1000 + r) ≤ W * (1000 - r)) (ha : W ≤ a) : t ≤ b := by
  have p1 : S * (1000 - r) * (1000 + r) ≤ 1000 * b * (1000 + r) := Int.mul_le_mul_of_nonneg_right h2 (by omega)
  have p2 : 1000 * a * (1000 - r) ≤ S * (1000 + r) * (1000 - r) := Int.mul_le_mul_of_nonneg_right h1 (by omega)
  have p3 : W * (1000 - r) ≤ a * (1000 - r) := Int.mul_le_mul_of_nonneg_right ha (by omega)
  have e1 : S * (1000 + r) * (1000 - r) = S * (1000 - r) * (1000 + r) := Int.mul_right_comm _ _ _
  have e2 : 1000 * a * (1000 - r) = 1000 * (a * (1000 - r)) := Int.mul_assoc _ _ _
  have e3 : 1000 * b * (1000 + r) = 1000 * (b * (1000 + r)) := Int.mul_assoc _ _ _
  refine Int.le_of_mul_le_mul_right (a := 1000 + r) ?_ (by omega)
  omega

def upB (n m : Int) : Bool := decide (0 ≤ n ∧ n ≤ m)
def lentB (t r : Int) : Bool := upB t 1048576 && upB r 500
def holdN (t r : Int) : Int := if lentB t r then t * (1000 - r) / (1000 + r) else 0
def waitN (t r : Int) : Int := if lentB t r then (t * (1000 + r) + (1000 - r) - 1) / (1000 - r) else 0
def keepsB (T n r : Int) : Bool := upB r 500 && (upB T 1099511627776 && (upB n 1099511627776 && (decide (T * (1000 - r) ≤ 1000 * n) && decide (1000 * n ≤ T * (1000 + r)))))

theorem upTo_any (n m : Int) (w : World) : Calls Try.prog 55 #[.int .i64 n, .int .i64 m] w fun e w' => e = .returned (.bool (upB n m)) ∧ w = w' := by
  by_cases h : 0 ≤ n
  · by_cases h2 : n ≤ m
    · have e : upB n m = true := decide_eq_true ⟨h, h2⟩
      rw [e]
      go_enter Try.func55, Try.ntmps55
      go_wp2
      go_ret
      exact ⟨rfl, rfl⟩
    · have e : upB n m = false := decide_eq_false fun h => h2 h.2
      rw [e]
      go_enter Try.func55, Try.ntmps55
      go_wp2
      go_ret
      exact ⟨rfl, rfl⟩
  · have e : upB n m = false := decide_eq_false fun h' => h h'.1
    rw [e]
    go_enter Try.func55, Try.ntmps55
    go_wp2
    go_ret
    exact ⟨rfl, rfl⟩

theorem lent_any (t r : Int) (w : World) : Calls Try.prog 57 #[.int .i64 t, .int .i64 r] w fun e w' => e = .returned (.bool (lentB t r)) ∧ w = w' := by
  have h1 := upTo_any t 1048576 w
  have h2 := upTo_any r 500 w
  unfold lentB
  generalize upB t 1048576 = b1 at *
  generalize upB r 500 = b2 at *
  cases b1
  · go_enter Try.func57, Try.ntmps57
    go_wp2_with fail
    refine h1.mono ?_
    rintro e w' ⟨rfl, rfl⟩
    go_wp2
    go_ret
    exact ⟨rfl, rfl⟩
  · go_enter Try.func57, Try.ntmps57
    go_wp2_with fail
    refine h1.mono ?_
    rintro e w' ⟨rfl, rfl⟩
    go_wp2_with fail
    refine h2.mono ?_
    rintro e w' ⟨rfl, rfl⟩
    go_wp2
    go_ret
    exact ⟨rfl, rfl⟩

theorem lent_bounds {t r : Int} (h : lentB t r = true) : 0 ≤ t ∧ t ≤ 1048576 ∧ 0 ≤ r ∧ r ≤ 500 := by
  unfold lentB upB at h
  simp only [Bool.and_eq_true, decide_eq_true_eq] at h
  omega

theorem prod_bounds {t s : Int} (h0 : 0 ≤ t) (h1 : t ≤ 1048576) (h2 : 0 ≤ s) (h3 : s ≤ 1500) : 0 ≤ t * s ∧ t * s ≤ 1572864000 := by
  refine ⟨Int.mul_nonneg h0 h2, ?_⟩
  have a : t * s ≤ 1048576 * s := Int.mul_le_mul_of_nonneg_right h1 h2
  omega

theorem hold_any (t r : Int) (w : World) : Calls Try.prog 50 #[.int .i64 t, .int .i64 r] w fun e w' => e = .returned (.int .i64 (holdN t r)) ∧ w = w' := by
  have h1 := lent_any t r w
  unfold holdN
  cases hb : lentB t r
  · rw [hb] at h1
    clear hb
    rw [if_neg (by decide)]
    go_enter Try.func50, Try.ntmps50
    go_wp2_with fail
    refine h1.mono ?_
    rintro e w' ⟨rfl, rfl⟩
    go_wp2
    go_ret
    exact ⟨rfl, rfl⟩
  · obtain ⟨t0, t1, r0, r1⟩ := lent_bounds hb
    rw [hb] at h1
    clear hb
    rw [if_pos rfl]
    obtain ⟨p0, p1⟩ := prod_bounds t0 t1 (s := 1000 - r) (by omega) (by omega)
    have w1 : IntKind.i64.wrap (1000 - r) = 1000 - r := IntWalk.i64_in _ (by omega)
    have w2 : IntKind.i64.wrap (1000 + r) = 1000 + r := IntWalk.i64_in _ (by omega)
    have w3 : IntKind.i64.wrap (t * (1000 - r)) = t * (1000 - r) := IntWalk.i64_in _ (by omega)
    have q : (t * (1000 - r)).tdiv (1000 + r) = t * (1000 - r) / (1000 + r) := Int.tdiv_eq_ediv_of_nonneg p0
    have q0 : 0 ≤ t * (1000 - r) / (1000 + r) := Int.ediv_nonneg p0 (by omega)
    have q1 : t * (1000 - r) / (1000 + r) ≤ t * (1000 - r) := Int.ediv_le_self _ p0
    have w4 : IntKind.i64.wrap (t * (1000 - r) / (1000 + r)) = t * (1000 - r) / (1000 + r) := IntWalk.i64_in _ (by omega)
    have n0 : 1000 + r ≠ 0 := by omega
    go_enter Try.func50, Try.ntmps50
    go_wp2_with fail
    refine h1.mono ?_
    rintro e w' ⟨rfl, rfl⟩
    go_wp2
    go_ret
    exact ⟨rfl, rfl⟩
end Go.Proofs.Ytgdncmkhcdmjoaa
