/-
  The reference's Wait, and the walks of DriftNumbers and DriftKeeps. No condition.
-/
import Derived.Test.YtpbfibofjkinmaaDriftC
set_option linter.unusedSimpArgs false
set_option linter.unusedVariables false
namespace Go.Proofs.Ytpbfibofjkinmaa
open Go.RowKit

/-- The reference's Wait: X is what the length comes to, W the least number that is enough. -/
theorem rwait_yes (t r X W : Int) (w : World) (t0 : 0 ≤ t) (t1 : t ≤ 1048576) (r0 : 0 ≤ r) (r1 : r ≤ 500) (hX : t * (1000 + r) = X) (x0 : 0 ≤ X) (x1 : X ≤ 1572864000) (hW : ∀ h : Int, h * (1000 - r) < X ↔ h < W) (W0 : 0 ≤ W) (W1 : W ≤ 8388607) :
    Calls Try.prog 18 #[.int .i64 t, .int .i64 r] w fun e w' => e = .returned (.int .i64 W) ∧ w = w' := by
  have w1 : IntKind.i64.wrap (1000 - r) = 1000 - r := IntWalk.i64_in _ (by omega)
  have w2 : IntKind.i64.wrap (1000 + r) = 1000 + r := IntWalk.i64_in _ (by omega)
  have w3 : IntKind.i64.wrap (t * (1000 + r)) = X := by rw [IntWalk.i64_in _ (by omega), hX]
  have HH := hide hW
  clear hW hX
  go_enter Try.func18, Try.ntmps18
  go_wp2
  go_loop [5, 6] (fun h s => ∃ a b : Int, h = .int .i64 a ∧ s = .int .i64 b ∧ 0 ≤ a ∧ a ≤ W ∧ Hid ((∃ k : Nat, k ≤ 22 ∧ b = 2 ^ k ∧ W < a + 2 * b) ∨ b = 0 ∧ a = W)) (fun _ s => (intOf s).toNat)
  case atStart => exact ⟨0, 4194304, rfl, rfl, by omega, W0, .inl ⟨22, by omega, by decide, by omega⟩⟩
  case round =>
    obtain ⟨a, b, rfl, rfl, a0, a1, hid⟩ := hrel
    rcases hid.out with ⟨k, hk, hb, hlt⟩ | ⟨hb, ha⟩
    · have b0 : 0 < b := by rw [hb]; exact Int.pow_pos (by omega)
      have b1 : b ≤ 4194304 := by
        have h1 : (2 : Nat) ^ k ≤ 2 ^ 22 := Nat.pow_le_pow_right (by omega) hk
        have h2 : ((2 ^ k : Nat) : Int) = (2 : Int) ^ k := by push_cast; rfl
        have h3 : (2 : Nat) ^ 22 = 4194304 := by decide
        omega
      have hnext : ∀ a' : Int, W < a' + b → a' ≤ W → Hid ((∃ k : Nat, k ≤ 22 ∧ b / 2 = 2 ^ k ∧ W < a' + 2 * (b / 2)) ∨ b / 2 = 0 ∧ a' = W) := by
        intro a' h1 h2
        rcases k with _ | k
        · simp at hb
          subst hb
          exact .inr ⟨by decide, by omega⟩
        · rw [Int.pow_succ] at hb
          have e : b / 2 = 2 ^ k := by omega
          exact .inl ⟨k, by omega, e, by omega⟩
      have HN := hide hnext
      have d1 : b.tdiv 2 = b / 2 := Int.tdiv_eq_ediv_of_nonneg (by omega)
      have d2 : IntKind.i64.wrap (b / 2) = b / 2 := IntWalk.i64_in _ (by omega)
      have v1 : IntKind.i64.wrap (a + b) = a + b := IntWalk.i64_in _ (by omega)
      have v2 : IntKind.i64.wrap (a + b - 1) = a + b - 1 := IntWalk.i64_in _ (by omega)
      have p0 : 0 ≤ (a + b - 1) * (1000 - r) := Int.mul_nonneg (by omega) (by omega)
      have p1 : (a + b - 1) * (1000 - r) ≤ (a + b - 1) * 1000 := Int.mul_le_mul_of_nonneg_left (by omega) (by omega)
      have v3 : IntKind.i64.wrap ((a + b - 1) * (1000 - r)) = (a + b - 1) * (1000 - r) := IntWalk.i64_in _ (by omega)
      have hq := HH.out (a + b - 1)
      by_cases hY : (a + b - 1) * (1000 - r) < X
      · have hle : a + b ≤ W := by omega
        have HL := hide hlt
        clear hq hnext hid hb hlt
        go_wp2
        go_round
        case rel => exact ⟨a + b, b / 2, rfl, rfl, by omega, hle, HN.out _ (by have := HL.out; omega) hle⟩
        case measure => simp [intOf]; omega
      · have hle : W < a + b := by omega
        clear hq hnext hid hb hlt
        go_wp2
        go_round
        case rel => exact ⟨a, b / 2, rfl, rfl, by omega, a1, HN.out _ hle a1⟩
        case measure => simp [intOf]; omega
    · subst hb ha
      clear hid
      go_wp2
      go_ret
      exact ⟨rfl, rfl⟩

theorem rhold_any (t r : Int) (w : World) : Calls Try.prog 16 #[.int .i64 t, .int .i64 r] w fun e w' => e = .returned (.int .i64 (holdN t r)) ∧ w = w' := by
  unfold holdN
  cases hb : lentB t r
  · rw [if_neg (by decide)]
    exact rhold_no t r w (lent_false hb)
  · rw [if_pos rfl]
    obtain ⟨t0, t1, r0, r1⟩ := lent_bounds hb
    obtain ⟨p0, p1⟩ := prod_bounds t0 t1 (s := 1000 - r) (by omega) (by omega)
    refine rhold_yes t r _ _ w t0 t1 r0 r1 rfl p0 p1 (fun h => (hold_le (by omega)).symm) (Int.ediv_nonneg p0 (by omega)) ?_
    refine Int.le_trans (Int.ediv_le_ediv (b := t * (1000 + r)) (by omega) (Int.mul_le_mul_of_nonneg_left (by omega) t0)) ?_
    rw [Int.mul_ediv_cancel _ (by omega)]
    exact Int.le_refl _

theorem rwait_any (t r : Int) (w : World) : Calls Try.prog 18 #[.int .i64 t, .int .i64 r] w fun e w' => e = .returned (.int .i64 (waitN t r)) ∧ w = w' := by
  unfold waitN
  cases hb : lentB t r
  · rw [if_neg (by decide)]
    exact rwait_no t r w (lent_false hb)
  · rw [if_pos rfl]
    obtain ⟨t0, t1, r0, r1⟩ := lent_bounds hb
    obtain ⟨p0, p1⟩ := prod_bounds t0 t1 (s := 1000 + r) (by omega) (by omega)
    refine rwait_yes t r _ _ w t0 t1 r0 r1 rfl p0 p1 (fun h => ?_) (Int.ediv_nonneg (by omega) (by omega)) ?_
    · have := wait_le (T := t * (1000 + r)) (s := 1000 - r) (w := h) (by omega)
      omega
    · rw [wait_le (by omega)]
      have : 8388607 * 500 ≤ 8388607 * (1000 - r) := Int.mul_le_mul_of_nonneg_left (by omega) (by omega)
      omega

theorem driftNumbers_walk (t r : Int) (w : World) (ht : (Lit.int .i64 t).wf = true) (hr : (Lit.int .i64 r).wf = true) : Calls Try.prog 3 #[.int .i64 t, .int .i64 r] w fun e w' => e = .returned (.bool true) ∧ Below w.heap.size w w' := by
  clear ht hr
  go_enter Try.func3, Try.ntmps3
  go_wp2_with fail
  refine (head11_any _).mono ?_
  rintro e w' ⟨rfl, rfl⟩
  go_wp2_with fail
  refine (hold_any t r _).mono ?_
  rintro e w' ⟨rfl, rfl⟩
  go_wp2_with fail
  refine (rhold_any t r _).mono ?_
  rintro e w' ⟨rfl, rfl⟩
  go_wp2_with fail
  refine (wait_any t r _).mono ?_
  rintro e w' ⟨rfl, rfl⟩
  go_wp2_with fail
  refine (rwait_any t r _).mono ?_
  rintro e w' ⟨rfl, rfl⟩
  go_wp2
  go_ret
  exact ⟨rfl, Below.refl _ _⟩
end Go.Proofs.Ytpbfibofjkinmaa
