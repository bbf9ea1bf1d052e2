/-
  The head of synodlaw06. No condition.
-/
import Derived.Test.YtnngmapphacpkaaValSame
import Derived.Test.YtnngmapphacpkaaSame
import Derived.Deep.RegionHeld3
import Derived.Deep.DrawnRows
import Derived.Deep.DeepCutAuto
set_option linter.unusedSimpArgs false
set_option linter.unusedVariables false
namespace Go.Proofs.Ytnngmapphacpkaa
open Go.RowKit

def lit9 : Array Value := #[.int .u8 1, .int .u8 2, .int .u8 0, .int .u8 1, .int .u8 2, .int .u8 1, .int .u8 1, .int .u8 1, .int .u8 2]
theorem lit9_eq : bcells hb9 = lit9 := rfl
theorem has9 (w : World) (g : Nat) (hg : g = w.heap.size) : Has (w.alloc (.cells lit9 5)) (g + 1) (some ⟨g, 0, none⟩) hb9 := by
  have := Has.new w 5 hb9 (0, 0) g hg
  rw [lit9_eq] at this
  exact this
theorem right12 : rightS [1, 2] := by decide

end Go.Proofs.Ytnngmapphacpkaa
