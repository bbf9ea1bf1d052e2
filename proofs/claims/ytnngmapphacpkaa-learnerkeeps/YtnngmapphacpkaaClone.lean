/-
  Clone of bytes: the same bytes in new memory, or nil. Conditions: the slice reads as bytes, at most 2^47 of them.
-/
import Derived.Test.YtnngmapphacpkaaAppend
import Derived.Lib.SlBytesConst
set_option linter.unusedSimpArgs false
set_option linter.unusedVariables false
namespace Go.Proofs.Ytnngmapphacpkaa
open Go.RowKit

/-- What a call that answers a byte slice of new memory leaves. -/
def Makes (xs : List UInt8) (w : World) (e : Ending) (w' : World) : Prop := ∃ v, e = .returned v ∧ Own w' w.heap.size v xs ∧ Below w.heap.size w w'

theorem nil_of_none {w : World} {B : Nat} {xs : List UInt8} (h : Has w B none xs) : xs = [] := by
  rcases Nat.eq_zero_or_pos xs.length with h0 | h0
  · exact List.eq_nil_of_length_eq_zero h0
  · obtain ⟨_, _, e, _⟩ := h 0 h0
    cases e

end Go.Proofs.Ytnngmapphacpkaa
