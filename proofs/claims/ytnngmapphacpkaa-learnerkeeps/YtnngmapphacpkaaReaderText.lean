/-
  Count, Text and Done of pack's reader, and of a nil one. Conditions: at most 2^47 bytes.
-/
import Derived.Test.YtnngmapphacpkaaReaderCalls
import Derived.WalkLawsBesides
set_option linter.unusedSimpArgs false
set_option linter.unusedVariables false
namespace Go.Proofs.Ytnngmapphacpkaa
open Go.RowKit

theorem rn_err {xs : List UInt8} (h : 0 < (rn xs).1) : (rn xs).2.2 = 0 := by
  cases xs with
  | nil => simp [rn] at h
  | cons c t =>
    by_cases h8 : 8 < c.toNat
    · rw [rn_wide h8] at h; simp at h
    by_cases hs : t.length < c.toNat
    · rw [rn_short h8 hs] at h; simp at h
    by_cases hz : 0 < c.toNat ∧ t.head? = some 0
    · rw [rn_zero h8 hs hz] at h; simp at h
    · rw [rn_ok h8 hs hz]
/-- What reading a count of xs gives. -/
def rcn (xs : List UInt8) (most : Int) : Nat × List UInt8 × Nat := if most.toNat < (rn xs).1 then (0, [], 12) else rn xs

theorem wrap_max {most : Int} (h : IsInt most) : IntKind.u64.wrap (max most 0) = (most.toNat : Int) := by
  unfold IsInt at h
  rw [IntKind.wrap_u64]
  omega

end Go.Proofs.Ytnngmapphacpkaa
