/-
  A script of operations as memory holds it; states in blocks of their own. No condition.
-/
import Derived.Test.YtogkgmbldmfpiaaAppTakes
set_option linter.unusedSimpArgs false
set_option linter.unusedVariables false
namespace Go.Proofs.Ytogkgmbldmfpiaa
open Go.RowKit

section
variable {P : Program}
/-- A guarded load of a row that is wanted. -/
theorem wpList_load_want {ops : Array Oper} {rest : List Oper} {o : Oper} {a : Act} {w : World} {Q : Exit → Act → World → Prop} (hw : Region.wanted o (yielded ops a.tmps) = true) (ty : TypeId) (x : Operand) (ho : o.op = .load ty x)
    (g : Nat) (hx : a.eval x = .pointer (some ⟨g, 0, none⟩)) (t : TypeId) (cs : Array Value) (fr : Nat × Nat) (d : TypeDesc) (hg : w.heap[g]? = some (.cells cs t fr))
    (hu : P.underlying ty = some d) (hd : (match d with | .struct _ | .array _ _ => true | _ => false) = true) (hi : (P.info? ty).map (·.size) = some cs.size)
    (h : wpList P ops Q rest (a.put o.dst (.agg cs)) w) : wpList P ops Q (o :: rest) a w :=
  wpList_step fun K hK => by
    rw [if_pos hw]
    exact wp_load_row ty x ho g hx t cs fr d hg hu hd hi (hK _ _ h)
end

/-- An operation: Kind, Reg, To, Re, Im. -/
structure Opv where
  k : Int
  r : Int
  t : Int
  re : Int
  im : Int
instance : Inhabited Opv := ⟨⟨0, 0, 0, 0, 0⟩⟩

/-- The slice that begins at A reads as these operations, in a block below B. -/
def HasO (w : World) (B : Nat) (A : Option Addr) (ts : List Opv) : Prop :=
  ∀ i (h : i < ts.length), ∃ b o, A = some ⟨b, o, none⟩ ∧ b < B ∧ w.cell? ⟨b, o + i * 5, none⟩ = some (.int .i64 ts[i].k) ∧ w.cell? ⟨b, o + i * 5 + 1, none⟩ = some (.int .i64 ts[i].r) ∧ w.cell? ⟨b, o + i * 5 + 2, none⟩ = some (.int .i64 ts[i].t) ∧ w.cell? ⟨b, o + i * 5 + 3, none⟩ = some (.int .i64 ts[i].re) ∧ w.cell? ⟨b, o + i * 5 + 4, none⟩ = some (.int .i64 ts[i].im)

theorem HasO.below {w w' : World} {B : Nat} {A : Option Addr} {ts : List Opv} (h : HasO w B A ts) (hb : Below B w w') : HasO w' B A ts := by
  intro i hi
  obtain ⟨b, o, hA, hlt, h0, h1, h2, h3, h4⟩ := h i hi
  exact ⟨b, o, hA, hlt, (hb.cell (p := ⟨b, _, none⟩) hlt).trans h0, (hb.cell (p := ⟨b, _, none⟩) hlt).trans h1, (hb.cell (p := ⟨b, _, none⟩) hlt).trans h2, (hb.cell (p := ⟨b, _, none⟩) hlt).trans h3, (hb.cell (p := ⟨b, _, none⟩) hlt).trans h4⟩

/-- A state in a block of its own. -/
structure Blk (w : World) (g : Nat) (S : Nat → Int) : Prop where
  at_ : w.heap[g]? = some (.cells (cl S).toArray 45 (0, 0))

theorem Blk.lt {w : World} {g : Nat} {S : Nat → Int} (h : Blk w g S) : g < w.heap.size := (Array.getElem?_eq_some_iff.1 h.at_).1
theorem Blk.below {w w' : World} {g B : Nat} {S : Nat → Int} (h : Blk w g S) (hb : Below B w w') (hg : g < B) : Blk w' g S := ⟨(hb.block g hg).trans h.at_⟩
theorem Blk.alloc {w : World} {g : Nat} {S : Nat → Int} (h : Blk w g S) (o : Obj) : Blk (w.alloc o) g S := ⟨(Below.heap_alloc w o g h.lt).trans h.at_⟩
theorem Blk.set {w : World} {g : Nat} {S : Nat → Int} (h : Blk w g S) (T : Nat → Int) : Blk (w.setRow g (cl T).toArray) g T := ⟨setRow_heap _ _ _ _ _ _ h.at_⟩
theorem Blk.other {w : World} {g g' : Nat} {S : Nat → Int} (h : Blk w g S) (A : Array Value) (hne : g ≠ g') : Blk (w.setRow g' A) g S := ⟨(setRow_other _ _ _ _ hne).trans h.at_⟩
theorem Blk.new (w : World) (S : Nat → Int) : Blk (w.alloc (.cells (cl S).toArray 45)) w.heap.size S := ⟨heap_alloc_new w _⟩
theorem Blk.reg {w : World} {g : Nat} {S : Nat → Int} (h : Blk w g S) (R : Nat) (hR : R < 8) : w.cell? ⟨g, R * 2, none⟩ = some (.int .i64 (S (2 * R))) ∧ w.cell? ⟨g, R * 2 + 1, none⟩ = some (.int .i64 (S (2 * R + 1))) := by
  refine ⟨?_, ?_⟩
  · rw [cell_of_row _ _ _ _ _ _ h.at_, List.getElem?_toArray, cl_get S _ (by omega), Nat.mul_comm]
  · rw [cell_of_row _ _ _ _ _ _ h.at_, List.getElem?_toArray, cl_get S _ (by omega), Nat.mul_comm]

theorem cells_3 {w : World} {g : Nat} {a b c : Value} {t : TypeId} (h : w.heap[g]? = some (.cells #[a, b, c] t (0, 0))) :
    w.cell? ⟨g, 0, none⟩ = some a ∧ w.cell? ⟨g, 1, none⟩ = some b ∧ w.cell? ⟨g, 2, none⟩ = some c :=
  ⟨by rw [cell_of_row _ _ _ _ _ _ h]; rfl, by rw [cell_of_row _ _ _ _ _ _ h]; rfl, by rw [cell_of_row _ _ _ _ _ _ h]; rfl⟩

/-- The operation, applied. -/
def appO (S : Nat → Int) (o : Opv) : (Nat → Int) × Int × Int × Int := app S o.k o.r o.t o.re o.im

/-- Within the loop over a script: the state in its block, what was there as it was. -/
def Scripted (w : World) (g : Nat) (wr : World) : Prop := ∃ S, okS S ∧ Blk wr g S ∧ Below w.heap.size w wr
end Go.Proofs.Ytogkgmbldmfpiaa
