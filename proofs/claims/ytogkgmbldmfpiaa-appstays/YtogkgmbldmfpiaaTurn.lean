/-
  Turns by quarters, in package gauss and in the reference: the same turns. No condition.
-/
import Derived.Test.YtogkgmbldmfpiaaGauss
set_option linter.unusedSimpArgs false
set_option linter.unusedVariables false
namespace Go.Proofs.Ytogkgmbldmfpiaa
open Go.RowKit

/-- Turned by so many quarters. -/
def rot : Nat → Int × Int → Int × Int
  | 0, p => p
  | k + 1, p => (-(rot k p).2, (rot k p).1)

theorem rot_in (k : Nat) (p : Int × Int) (h1 : inB p.1) (h2 : inB p.2) : inB (rot k p).1 ∧ inB (rot k p).2 := by
  induction k with
  | zero => exact ⟨h1, h2⟩
  | succ k ih =>
    obtain ⟨a, b⟩ := ih
    refine ⟨?_, a⟩
    show inB (-(rot k p).2)
    unfold inB at *
    omega

/-- Cut to the lowest bits. -/
theorem and_mask (q : Int) (j : Nat) (hj : j < 63) : bits .and .i64 q (2 ^ j - 1) = q % 2 ^ j := by
  have hp : (2 : Nat) ^ j < 2 ^ 63 := Nat.pow_lt_pow_right (by omega) hj
  have hp0 : 0 < (2 : Nat) ^ j := Nat.two_pow_pos j
  have e2 : ((2 ^ j : Nat) : Int) = (2 : Int) ^ j := by push_cast; rfl
  have hm : (BitVec.ofInt 64 ((2 : Int) ^ j - 1)).toNat = 2 ^ j - 1 := by
    rw [BitVec.toNat_ofInt]
    omega
  have hand : (BitVec.ofInt 64 q &&& BitVec.ofInt 64 ((2 : Int) ^ j - 1)).toNat = (BitVec.ofInt 64 q).toNat % 2 ^ j := by
    rw [BitVec.toNat_and, hm, Nat.and_two_pow_sub_one_eq_mod]
  show IntKind.i64.wrap ((BitVec.ofInt 64 q &&& BitVec.ofInt 64 ((2 : Int) ^ j - 1)).toNat : Int) = _
  rw [hand, BitVec.toNat_ofInt]
  have hlt : (q % 18446744073709551616).toNat % 2 ^ j < 2 ^ j := Nat.mod_lt _ hp0
  rw [IntWalk.i64_in _ (by omega)]
  have hd : ((2 : Int) ^ j) ∣ 18446744073709551616 := by
    refine ⟨2 ^ (64 - j), ?_⟩
    rw [← Int.pow_add, show j + (64 - j) = 64 from by omega]
    rfl
  show (((q % 18446744073709551616).toNat % 2 ^ j : Nat) : Int) = _
  rw [Int.natCast_emod, e2, Int.toNat_of_nonneg (by omega)]
  exact Int.emod_emod_of_dvd q hd

theorem and_3 (q : Int) : bits .and .i64 q 3 = q % 4 := and_mask q 2 (by omega)
theorem and_7 (q : Int) : bits .and .i64 q 7 = q % 8 := and_mask q 3 (by omega)
theorem and_1023 (q : Int) : bits .and .i64 q 1023 = q % 1024 := and_mask q 10 (by omega)

theorem fv_one : FV 4607182418800017408 1 := by
  have := fv_int 1 (by decide)
  rwa [show floatOfInt .f64 1 = 4607182418800017408 from by decide +kernel] at this

theorem fv_turn {x y : Nat} {a b : Int} (hx : FV x a) (hy : FV y b) (ha : inB a) (hb : inB b) : ∃ r i, cMulBits x y 0 4607182418800017408 = some (r, i) ∧ FV r (-b) ∧ FV i a := by
  obtain ⟨r, i, h, hr, hi⟩ := cmul hx hy fv_zero fv_one ha hb (by unfold inB; omega) (by unfold inB; omega)
  refine ⟨r, i, h, ?_, ?_⟩
  · have e : a * 0 - b * 1 = -b := by omega
    rwa [e] at hr
  · have e : a * 1 + b * 0 = a := by omega
    rwa [e] at hi

/-- A number turned so often, in bits. -/
def Turned (k : Nat) (p : Int × Int) (v : Value) : Prop := ∃ x y, v = .complex .f64 x y ∧ FV x (rot k p).1 ∧ FV y (rot k p).2

theorem turn_any (x y : Nat) (a b q : Int) (hx : FV x a) (hy : FV y b) (ha : inB a) (hb : inB b) (w : World) :
    Calls Try.prog 20 #[.complex .f64 x y, .int .i64 q] w fun e w' => e = .returned (.tuple #[.complex .f64 (floatOfInt .f64 (rot (q % 4).toNat (a, b)).1) (floatOfInt .f64 (rot (q % 4).toNat (a, b)).2), .bool true]) ∧ w = w' := by
  have ka := and_3 q
  have hq0 : 0 ≤ q % 4 := by omega
  have hq1 : q % 4 < 4 := by omega
  have hz : Turned 0 (a, b) (.complex .f64 x y) := ⟨x, y, rfl, hx, hy⟩
  generalize hQ : q % 4 = Q at *
  obtain ⟨N, rfl⟩ : ∃ N : Nat, Q = N := ⟨Q.toNat, by omega⟩
  clear hQ
  rw [Int.toNat_natCast]
  go_enter Try.func20, Try.ntmps20
  go_wp2_with fail
  refine (right_yes x y a b hx hy ha hb w).mono ?_
  rintro e w' ⟨rfl, rfl⟩
  clear hx hy
  go_wp2_with fail
  go_loop [0, 11] (fun z i => ∃ k : Nat, k ≤ N ∧ i = .int .i64 k ∧ Turned k (a, b) z) (fun _ i => N - (intOf i).toNat)
  case atStart => exact ⟨0, Nat.zero_le _, rfl, hz⟩
  case round =>
    obtain ⟨k, hk, rfl, x', y', rfl, hx', hy'⟩ := hrel
    have hin := rot_in k (a, b) ha hb
    clear hz
    by_cases hlt : k < N
    · obtain ⟨r, i, hm, hr, hi⟩ := fv_turn hx' hy' hin.1 hin.2
      have kc := fun (w : World) => run_complex_mul (P := Try.prog) w 23 x' y' 0 4607182418800017408 r i hm
      clear hm hx' hy' hin
      go_wp2
      go_round
      case rel => exact ⟨k + 1, by omega, by go_num, r, i, rfl, hr, hi⟩
      case measure => simp [intOf]; omega
    · obtain rfl : k = N := by omega
      go_wp2_with fail
      refine (answer_yes x' y' _ _ hx' hy' hin.1 hin.2 w).mono ?_
      rintro e w' ⟨rfl, rfl⟩
      go_wp2
      go_ret2
      exact ⟨rfl, rfl⟩
end Go.Proofs.Ytogkgmbldmfpiaa
