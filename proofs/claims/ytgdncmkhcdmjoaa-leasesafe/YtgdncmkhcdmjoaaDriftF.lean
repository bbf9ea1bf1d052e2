/-
  The walk of DriftSafe. No condition but the reach of what is read.
-/
import Derived.Test.YtgdncmkhcdmjoaaDriftE
import Derived.Test.YtgdncmkhcdmjoaaInts
set_option linter.unusedSimpArgs false
set_option linter.unusedVariables false
namespace Go.Proofs.Ytgdncmkhcdmjoaa
open Go.RowKit


theorem keeps_same (T n r : Int) (b : Bool) (h : keepsB T n r = b) (w : World) : Calls Try.prog 35 #[.int .i64 T, .int .i64 n, .int .i64 r] w fun e w' => e = .returned (.bool b) ∧ w' = w := by
  subst h
  exact (keeps_any T n r w).mono fun _ _ ⟨he, hw⟩ => ⟨he, hw.symm⟩
theorem keeps_facts {T n r : Int} (h : keepsB T n r = true) : 0 ≤ T ∧ 0 ≤ n ∧ n ≤ 1099511627776 ∧ T * (1000 - r) ≤ 1000 * n ∧ 1000 * n ≤ T * (1000 + r) := by
  unfold keepsB upB at h
  simp only [Bool.and_eq_true, decide_eq_true_eq] at h
  omega

/-- What the two clocks have gone behind a stretch S. -/
structure Gone (r S a b : Int) : Prop where
  s0 : 0 ≤ S
  a0 : S * (1000 - r) ≤ 1000 * a
  a1 : 1000 * a ≤ S * (1000 + r)
  b0 : S * (1000 - r) ≤ 1000 * b
  b1 : 1000 * b ≤ S * (1000 + r)
theorem Gone.add {r S a b T x y : Int} (h : Gone r S a b) (hx : keepsB T x r = true) (hy : keepsB T y r = true) : Gone r (S + T) (a + x) (b + y) := by
  obtain ⟨t0, _, _, x0, x1⟩ := keeps_facts hx
  obtain ⟨_, _, _, y0, y1⟩ := keeps_facts hy
  obtain ⟨h0, h1, h2, h3, h4⟩ := h
  refine ⟨by omega, ?_, ?_, ?_, ?_⟩
  all_goals rw [Int.add_mul]
  all_goals omega
theorem Gone.up {r S a b : Int} (h : Gone r S a b) (r0 : 0 ≤ r) (r1 : r ≤ 500) (hs : S ≤ 16777216000) : 0 ≤ a ∧ a ≤ 25165824000 ∧ 0 ≤ b ∧ b ≤ 25165824000 := by
  obtain ⟨h0, h1, h2, h3, h4⟩ := h
  have p : S * (1000 + r) ≤ S * 1500 := Int.mul_le_mul_of_nonneg_left (by omega) h0
  have q : 0 ≤ S * (1000 - r) := Int.mul_nonneg h0 (by omega)
  omega

theorem hold_has {t r : Int} (h : lentB t r = true) : holdN t r * (1000 + r) ≤ t * (1000 - r) ∧ 0 ≤ holdN t r ∧ holdN t r ≤ t := by
  obtain ⟨t0, t1, r0, r1⟩ := lent_bounds h
  obtain ⟨p0, p1⟩ := prod_bounds t0 t1 (s := 1000 - r) (by omega) (by omega)
  unfold holdN
  rw [h, if_pos rfl]
  refine ⟨(hold_le (by omega)).1 (Int.le_refl _), Int.ediv_nonneg p0 (by omega), ?_⟩
  refine Int.le_trans (Int.ediv_le_ediv (b := t * (1000 + r)) (by omega) (Int.mul_le_mul_of_nonneg_left (by omega) t0)) ?_
  rw [Int.mul_ediv_cancel _ (by omega)]
  exact Int.le_refl _
theorem wait_has {t r : Int} (h : lentB t r = true) : t * (1000 + r) ≤ waitN t r * (1000 - r) ∧ t ≤ waitN t r := by
  obtain ⟨t0, t1, r0, r1⟩ := lent_bounds h
  obtain ⟨p0, p1⟩ := prod_bounds t0 t1 (s := 1000 + r) (by omega) (by omega)
  unfold waitN
  rw [h, if_pos rfl]
  refine ⟨(wait_le (by omega)).1 (Int.le_refl _), ?_⟩
  have h1 : ¬ (t * (1000 + r) + (1000 - r) - 1) / (1000 - r) ≤ t - 1 := by
    rw [wait_le (by omega), Int.sub_mul]
    have : t * (1000 - r) ≤ t * (1000 + r) := Int.mul_le_mul_of_nonneg_left (by omega) t0
    omega
  omega

end Go.Proofs.Ytgdncmkhcdmjoaa
