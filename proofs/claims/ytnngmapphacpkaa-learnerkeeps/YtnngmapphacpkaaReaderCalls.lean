/-
  NewReader; Num of pack's reader whatever is left; its Int, Count, Text, Done; and all of them of a nil reader. Conditions: at most 2^47 bytes.
-/
import Derived.Test.YtnngmapphacpkaaReaderNum
set_option linter.unusedSimpArgs false
set_option linter.unusedVariables false
namespace Go.Proofs.Ytnngmapphacpkaa
open Go.RowKit

/-- What reading a number of xs gives: the number, what is left, the error. -/
def rn : List UInt8 → Nat × List UInt8 × Nat
  | [] => (0, [], 10)
  | c :: t => if 8 < c.toNat then (0, [], 11) else if t.length < c.toNat then (0, [], 10) else if 0 < c.toNat ∧ t.head? = some 0 then (0, [], 11) else (val (t.take c.toNat), t.drop c.toNat, 0)

theorem rn_wide {c : UInt8} {t : List UInt8} (h8 : 8 < c.toNat) : rn (c :: t) = (0, [], 11) := by unfold rn; simp only [if_pos h8]
theorem rn_short {c : UInt8} {t : List UInt8} (h8 : ¬ 8 < c.toNat) (hs : t.length < c.toNat) : rn (c :: t) = (0, [], 10) := by unfold rn; simp only [if_neg h8, if_pos hs]
theorem rn_zero {c : UInt8} {t : List UInt8} (h8 : ¬ 8 < c.toNat) (hs : ¬ t.length < c.toNat) (hz : 0 < c.toNat ∧ t.head? = some 0) : rn (c :: t) = (0, [], 11) := by unfold rn; simp only [if_neg h8, if_neg hs, if_pos hz]
theorem rn_ok {c : UInt8} {t : List UInt8} (h8 : ¬ 8 < c.toNat) (hs : ¬ t.length < c.toNat) (hz : ¬ (0 < c.toNat ∧ t.head? = some 0)) : rn (c :: t) = (val (t.take c.toNat), t.drop c.toNat, 0) := by unfold rn; simp only [if_neg h8, if_neg hs, if_neg hz]

theorem own_map (A : Option Addr) (n c : Nat) : (Value.slice A n c).ownBlock = A.map (·.block) := by cases A <;> rfl
theorem rn_lt (xs : List UInt8) : (rn xs).1 < 18446744073709551616 := by
  cases xs with
  | nil => simp [rn]
  | cons c t =>
    by_cases h8 : 8 < c.toNat
    · rw [rn_wide h8]; simp
    by_cases hs : t.length < c.toNat
    · rw [rn_short h8 hs]; simp
    by_cases hz : 0 < c.toNat ∧ t.head? = some 0
    · rw [rn_zero h8 hs hz]; simp
    · rw [rn_ok h8 hs hz]
      have h1 := val_lt (t.take c.toNat)
      have h2 : (t.take c.toNat).length ≤ 8 := by rw [List.length_take]; omega
      have h3 := Nat.pow_le_pow_right (show 0 < 256 by omega) h2
      simp only [Nat.reducePow] at h3
      show val (t.take c.toNat) < _
      omega

end Go.Proofs.Ytnngmapphacpkaa
