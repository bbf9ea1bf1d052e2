/-
  The reference's Hold and Wait, and the walk of DriftNumbers. No condition.
-/
import Derived.Test.YtgdncmkhcdmjoaaDriftB
set_option linter.unusedSimpArgs false
set_option linter.unusedVariables false
namespace Go.Proofs.Ytgdncmkhcdmjoaa
open Go.RowKit

theorem lent_false {t r : Int} (h : lentB t r = false) : t < 0 ∨ 1048576 < t ∨ r < 0 ∨ 500 < r := by
  unfold lentB upB at h
  rw [Bool.and_eq_false_iff] at h
  rcases h with h | h
  · have := of_decide_eq_false h
    omega
  · have := of_decide_eq_false h
    omega

theorem rhold_no (t r : Int) (w : World) (h : t < 0 ∨ 1048576 < t ∨ r < 0 ∨ 500 < r) : Calls Try.prog 49 #[.int .i64 t, .int .i64 r] w fun e w' => e = .returned (.int .i64 0) ∧ w = w' := by
  by_cases h1 : t < 0
  · clear h
    go_enter Try.func49, Try.ntmps49
    go_wp2
    go_ret
    exact ⟨rfl, rfl⟩
  by_cases h2 : 1048576 < t
  · clear h
    go_enter Try.func49, Try.ntmps49
    go_wp2
    go_ret
    exact ⟨rfl, rfl⟩
  by_cases h3 : r < 0
  · clear h
    go_enter Try.func49, Try.ntmps49
    go_wp2
    go_ret
    exact ⟨rfl, rfl⟩
  have h4 : 500 < r := by omega
  clear h
  go_enter Try.func49, Try.ntmps49
  go_wp2
  go_ret
  exact ⟨rfl, rfl⟩

/-- The reference's Hold: X is what the length comes to, H the greatest number that fits. -/
theorem rhold_yes (t r X H : Int) (w : World) (t0 : 0 ≤ t) (t1 : t ≤ 1048576) (r0 : 0 ≤ r) (r1 : r ≤ 500) (hX : t * (1000 - r) = X) (x0 : 0 ≤ X) (x1 : X ≤ 1572864000) (hH : ∀ h : Int, h * (1000 + r) ≤ X ↔ h ≤ H) (H0 : 0 ≤ H) (H1 : H ≤ t) :
    Calls Try.prog 49 #[.int .i64 t, .int .i64 r] w fun e w' => e = .returned (.int .i64 H) ∧ w = w' := by
  have w1 : IntKind.i64.wrap (1000 - r) = 1000 - r := IntWalk.i64_in _ (by omega)
  have w2 : IntKind.i64.wrap (1000 + r) = 1000 + r := IntWalk.i64_in _ (by omega)
  have w3 : IntKind.i64.wrap (t * (1000 - r)) = X := by rw [IntWalk.i64_in _ (by omega), hX]
  have HH := hide hH
  clear hH hX
  go_enter Try.func49, Try.ntmps49
  go_wp2
  go_loop [5, 6] (fun h s => ∃ a b : Int, h = .int .i64 a ∧ s = .int .i64 b ∧ H ≤ a ∧ a ≤ t ∧ 0 ≤ b ∧ b ≤ 1048576) (fun _ s => (intOf s).toNat)
  case atStart => exact ⟨t, 1048576, rfl, rfl, H1, Int.le_refl _, by omega, by omega⟩
  case round =>
    obtain ⟨a, b, rfl, rfl, a0, a1, b0, b1⟩ := hrel
    by_cases hb : 0 < b
    · go_wp2
      go_loop [5] (fun h => ∃ c : Int, h = .int .i64 c ∧ H ≤ c ∧ c ≤ t) (fun h => (intOf h).toNat)
      case atStart => exact ⟨a, rfl, a0, a1⟩
      case round =>
        obtain ⟨c, rfl, c0, c1⟩ := hrel
        have v1 : IntKind.i64.wrap (c - b) = c - b := IntWalk.i64_in _ (by omega)
        by_cases hc : 0 ≤ c - b
        · have v2 : IntKind.i64.wrap (c - b + 1) = c - b + 1 := IntWalk.i64_in _ (by omega)
          obtain ⟨p0, p1⟩ := prod_bounds (t := c - b + 1) (s := 1000 + r) (by omega) (by omega) (by omega) (by omega)
          have v3 : IntKind.i64.wrap ((c - b + 1) * (1000 + r)) = (c - b + 1) * (1000 + r) := IntWalk.i64_in _ (by omega)
          have hq := HH.out (c - b + 1)
          by_cases hY : X < (c - b + 1) * (1000 + r)
          · have hle : H ≤ c - b := by omega
            clear hq
            go_wp2
            go_round
            case rel => exact ⟨c - b, rfl, hle, by omega⟩
            case measure => simp [intOf]; omega
          · clear hq
            have d1 : b.tdiv 2 = b / 2 := Int.tdiv_eq_ediv_of_nonneg b0
            have d2 : IntKind.i64.wrap (b / 2) = b / 2 := IntWalk.i64_in _ (by omega)
            go_wp2
            exact ⟨⟨c, b / 2, rfl, rfl, c0, c1, by omega, by omega⟩, by simp [intOf]; omega⟩
        · have d1 : b.tdiv 2 = b / 2 := Int.tdiv_eq_ediv_of_nonneg b0
          have d2 : IntKind.i64.wrap (b / 2) = b / 2 := IntWalk.i64_in _ (by omega)
          go_wp2
          exact ⟨⟨c, b / 2, rfl, rfl, c0, c1, by omega, by omega⟩, by simp [intOf]; omega⟩
    · go_wp2
      go_loop [5] (fun h => ∃ c : Int, h = .int .i64 c ∧ H ≤ c ∧ c ≤ t) (fun h => (intOf h).toNat)
      case atStart => exact ⟨a, rfl, a0, a1⟩
      case round =>
        obtain ⟨c, rfl, c0, c1⟩ := hrel
        obtain ⟨p0, p1⟩ := prod_bounds (t := c) (s := 1000 + r) (by omega) (by omega) (by omega) (by omega)
        have v3 : IntKind.i64.wrap (c * (1000 + r)) = c * (1000 + r) := IntWalk.i64_in _ (by omega)
        have hq := HH.out c
        by_cases hY : X < c * (1000 + r)
        · have hle : H + 1 ≤ c := by omega
          clear hq
          go_wp2
          go_round
          case rel => exact ⟨c - 1, by congr 1, by omega, by omega⟩
          case measure => simp [intOf]; omega
        · obtain rfl : H = c := by omega
          clear hq
          go_wp2
          go_ret
          exact ⟨rfl, rfl⟩
end Go.Proofs.Ytgdncmkhcdmjoaa
