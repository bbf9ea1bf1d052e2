/-
  A number cut to its lowest bits. No condition.
-/
import Derived.Test.YtgdncmkhcdmjoaaInts
import Derived.IntWalk
set_option linter.unusedSimpArgs false
set_option linter.unusedVariables false
namespace Go.Proofs.Ytgdncmkhcdmjoaa
open Go.RowKit

/-- Cut to the lowest bits. -/
theorem mask_any (q : Int) (j : Nat) (hj : j < 63) : bits .and .i64 q (2 ^ j - 1) = q % 2 ^ j := by
  have hp : (2 : Nat) ^ j < 2 ^ 63 := Nat.pow_lt_pow_right (by omega) hj
  have hp0 : 0 < (2 : Nat) ^ j := Nat.two_pow_pos j
  have e2 : ((2 ^ j : Nat) : Int) = (2 : Int) ^ j := by push_cast; rfl
  have hm : (BitVec.ofInt 64 ((2 : Int) ^ j - 1)).toNat = 2 ^ j - 1 := by
    rw [BitVec.toNat_ofInt]
    omega
  have hand : (BitVec.ofInt 64 q &&& BitVec.ofInt 64 ((2 : Int) ^ j - 1)).toNat = (BitVec.ofInt 64 q).toNat % 2 ^ j := by
    rw [BitVec.toNat_and, hm, Nat.and_two_pow_sub_one_eq_mod]
  show IntKind.i64.wrap ((BitVec.ofInt 64 q &&& BitVec.ofInt 64 ((2 : Int) ^ j - 1)).toNat : Int) = _
  rw [hand, BitVec.toNat_ofInt]
  have hlt : (q % 18446744073709551616).toNat % 2 ^ j < 2 ^ j := Nat.mod_lt _ hp0
  rw [IntWalk.i64_in _ (by omega)]
  have hd : ((2 : Int) ^ j) ∣ 18446744073709551616 := by
    refine ⟨2 ^ (64 - j), ?_⟩
    rw [← Int.pow_add, show j + (64 - j) = 64 from by omega]
    rfl
  show (((q % 18446744073709551616).toNat % 2 ^ j : Nat) : Int) = _
  rw [Int.natCast_emod, e2, Int.toNat_of_nonneg (by omega)]
  exact Int.emod_emod_of_dvd q hd

/-- What a mask leaves. -/
theorem mask_in (q : Int) (j : Nat) (hj : j < 63) : ∃ x : Int, bits .and .i64 q (2 ^ j - 1) = x ∧ 0 ≤ x ∧ x < 2 ^ j ∧ x = q % 2 ^ j := by
  have hp : (0 : Int) < 2 ^ j := Int.pow_pos (by omega)
  exact ⟨_, mask_any q j hj, Int.emod_nonneg _ (by omega), Int.emod_lt_of_pos _ hp, rfl⟩
theorem mask_lt (q : Int) (j : Nat) (hj : j < 63) : ∃ x : Int, bits .and .i64 q (2 ^ j - 1) = x ∧ 0 ≤ x ∧ x < 2 ^ j := by
  obtain ⟨x, h1, h2, h3, _⟩ := mask_in q j hj
  exact ⟨x, h1, h2, h3⟩
end Go.Proofs.Ytgdncmkhcdmjoaa
