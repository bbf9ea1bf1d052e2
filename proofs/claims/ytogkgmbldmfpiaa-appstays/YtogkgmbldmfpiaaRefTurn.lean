/-
  The reference's turn: the same turns. No condition.
-/
import Derived.Test.YtogkgmbldmfpiaaTurn
set_option linter.unusedSimpArgs false
set_option linter.unusedVariables false
namespace Go.Proofs.Ytogkgmbldmfpiaa
open Go.RowKit

theorem rot_any (a b q : Int) (ha : inB a) (hb : inB b) (hq1 : -9223372036854775808 ≤ q) (hq2 : q ≤ 9223372036854775807) (w : World) :
    Calls Try.prog 21 #[.int .i64 a, .int .i64 b, .int .i64 q] w fun e w' => e = .returned (.tuple #[.int .i64 (rot (q % 4).toNat (a, b)).1, .int .i64 (rot (q % 4).toNat (a, b)).2]) ∧ w = w' := by
  have hq0 : 0 ≤ q % 4 := by omega
  have hq1 : q % 4 < 4 := by omega
  have key : (q.tmod 4 < 0 ∧ q.tmod 4 + 4 = q % 4) ∨ (¬ q.tmod 4 < 0 ∧ q.tmod 4 = q % 4) := by
    rcases Int.le_total 0 q with h | h
    · rw [Int.tmod_eq_emod_of_nonneg h]; omega
    · have e : q.tmod 4 = -((-q) % 4) := by
        conv => lhs; rw [← Int.neg_neg q]
        rw [Int.neg_tmod, Int.tmod_eq_emod_of_nonneg (by omega)]
      rw [e]
      omega
  generalize hT : q.tmod 4 = T at *
  generalize hQ : q % 4 = Q at *
  obtain ⟨N, rfl⟩ : ∃ N : Nat, Q = N := ⟨Q.toNat, by omega⟩
  clear hQ
  rw [Int.toNat_natCast]
  rcases key with ⟨k1, k2⟩ | ⟨k1, k2⟩
  · obtain rfl : T = N - 4 := by omega
    have k3 : (N : Int) - 4 + 4 = N := by omega
    clear k2
    go_enter Try.func21, Try.ntmps21
    go_wp2_with fail
    go_loop [0, 1, 9] (fun x y i => ∃ k : Nat, k ≤ N ∧ i = .int .i64 k ∧ x = .int .i64 (rot k (a, b)).1 ∧ y = .int .i64 (rot k (a, b)).2) (fun _ _ i => N - (intOf i).toNat)
    case atStart => exact ⟨0, Nat.zero_le _, rfl, rfl, rfl⟩
    case round =>
      obtain ⟨k, hk, rfl, rfl, rfl⟩ := hrel
      have hin := rot_in k (a, b) ha hb
      unfold inB at hin
      by_cases hlt : k < N
      · go_wp2
        go_round
        case rel => exact ⟨k + 1, by omega, by go_num, by first | rfl | (congr 1; show _ = -(rot k (a, b)).2; go_arith), rfl⟩
        case measure => simp [intOf]; omega
      · obtain rfl : k = N := by omega
        go_wp2
        go_ret2
        exact ⟨rfl, rfl⟩
  · subst k2
    clear k1
    go_enter Try.func21, Try.ntmps21
    go_wp2_with fail
    go_loop [0, 1, 9] (fun x y i => ∃ k : Nat, k ≤ N ∧ i = .int .i64 k ∧ x = .int .i64 (rot k (a, b)).1 ∧ y = .int .i64 (rot k (a, b)).2) (fun _ _ i => N - (intOf i).toNat)
    case atStart => exact ⟨0, Nat.zero_le _, rfl, rfl, rfl⟩
    case round =>
      obtain ⟨k, hk, rfl, rfl, rfl⟩ := hrel
      have hin := rot_in k (a, b) ha hb
      unfold inB at hin
      by_cases hlt : k < N
      · go_wp2
        go_round
        case rel => exact ⟨k + 1, by omega, by go_num, by first | rfl | (congr 1; show _ = -(rot k (a, b)).2; go_arith), rfl⟩
        case measure => simp [intOf]; omega
      · obtain rfl : k = N := by omega
        go_wp2
        go_ret2
        exact ⟨rfl, rfl⟩
end Go.Proofs.Ytogkgmbldmfpiaa
