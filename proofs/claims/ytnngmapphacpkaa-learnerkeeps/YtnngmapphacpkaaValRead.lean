/-
  TakeCmd and Read of package value, whatever is read. No condition.
-/
import Derived.Test.YtnngmapphacpkaaValOwn
import Derived.Test.YtnngmapphacpkaaValWrite
import Derived.Deep.DeepCutAuto
set_option linter.unusedSimpArgs false
set_option linter.unusedVariables false
namespace Go.Proofs.Ytnngmapphacpkaa
open Go.RowKit

/-- What a reader has left, and its error. -/
abbrev RSt := List UInt8 × Nat
def ri (s : RSt) : Int × RSt := if s.2 = 0 then (zag (rn s.1).1, (rn s.1).2) else (0, s)
def rc (most : Int) (s : RSt) : Nat × RSt := if s.2 = 0 then rcn s.1 most else (0, s)

/-- A command as it is read. -/
def tk (s : RSt) : Cmdv × RSt :=
  let s1 := (ri s).2
  let s2 := (ri s1).2
  let s3 := (ri s2).2
  let s4 := (ri s3).2
  let s5 := (ri s4).2
  let s6 := (ri s5).2
  let s7 := (ri s6).2
  (⟨(ri s).1, (ri s1).1, (ri s2).1, (ri s3).1, (ri s4).1, (ri s5).1, (ri s6).1, (ri s7).1⟩, (ri s7).2)

def zc8 : Array Value := #[.int .i64 0, .int .i64 0, .int .i64 0, .int .i64 0, .int .i64 0, .int .i64 0, .int .i64 0, .int .i64 0]
theorem row_cells {w : World} {g : Nat} {cs : Array Value} {t : TypeId} (h : w.heap[g]? = some (.cells cs t (0, 0))) (i : Nat) : w.cell? ⟨g, i, none⟩ = cs[i]? ∧ w.frozen? ⟨g, i, none⟩ = false := ⟨cell_of_row _ _ _ _ _ _ h, by simp [World.frozen?, h]⟩

theorem five_set {w : World} {g : Nat} {t : TypeId} {a0 a1 a2 a3 a4 a5 a6 a7 : Value} (h : w.heap[g]? = some (.cells #[a0, a1, a2, a3, a4, a5, a6, a7] t (0, 0))) (y3 y4 y5 y6 y7 : Value) :
    (((((w.setCell ⟨g, 3, none⟩ y3).setCell ⟨g, 4, none⟩ y4).setCell ⟨g, 5, none⟩ y5).setCell ⟨g, 6, none⟩ y6).setCell ⟨g, 7, none⟩ y7).heap[g]? = some (.cells #[a0, a1, a2, y3, y4, y5, y6, y7] t (0, 0)) := by
  simp [World.setCell, Array.getElem?_modify, h]
theorem Kept.of_setRow (w : World) (g : Nat) (A : Array Value) : Kept (fun k => k = g) w (w.setRow g A) :=
  ⟨rfl, rfl, rfl, by simp [World.setRow], fun k _ hn => by simp only [World.setRow, Array.getElem?_modify]; rw [if_neg (fun h => hn h.symm)]⟩
theorem set_row_at {w : World} {g : Nat} {t : TypeId} {A B : Array Value} {fr : Nat × Nat} (h : w.heap[g]? = some (.cells A t fr)) : (w.setRow g B).heap[g]? = some (.cells B t fr) := by
  simp [World.setRow, Array.getElem?_modify, h]

end Go.Proofs.Ytnngmapphacpkaa
