/-
  Readers of the reference of package pack, in the words of the Value laws. No condition.
  TakeCmd of the reference of package value, whatever is read. No condition but the reach of what is read.
-/
import Derived.Test.YtapbcpilklhoiaaDoorMX3
import Derived.Handy
import Derived.StillTailTactics
import Derived.Deep.RegionHeld3
import Derived.Deep.DrawnRows
import Derived.ChangeAlike
import Derived.Deep.DeepCutAuto
set_option linter.unusedSimpArgs false
set_option linter.unusedVariables false

namespace Go.Proofs.YtapbcpilklhoiaaDoor
open Go.RowKit

/-- What is left of the reference's reader: these bytes. -/
def Left (w : World) (B : Nat) (A : Option Addr) (n c : Nat) (xs : List UInt8) : Prop := Has w B A xs ∧ Hid (xs.length = n) ∧ n ≤ c ∧ n ≤ 140737488355328

theorem Left.below {w w' : World} {B : Nat} {A : Option Addr} {n c : Nat} {xs : List UInt8} (h : Left w B A n c xs) (hb : Below B w w') : Left w' B A n c xs := ⟨h.1.below hb, h.2⟩

/-- What ReadNum answers and leaves. -/
def FEnds (w : World) (B : Nat) (u : Value) (ys : List UInt8) (er : Nat) (e : Ending) (w' : World) : Prop :=
  ∃ A n c, e = .returned (.tuple #[.agg #[.slice A n c, .int .i64 (er : Int)], u]) ∧ (er = 0 → Left w' B A n c ys) ∧ ∃ o1 o2, (w.alloc o1).alloc o2 = w'

theorem past2 {w : World} {a : Addr} {v : Value} (h : w.cell? a = some v) (hb : a.block < w.heap.size) (o1 o2 : Obj) : ((w.alloc o1).alloc o2).cell? a = some v :=
  (World.cell?_of_block (w := w.alloc o1) (a := a) (Below.heap_alloc _ _ _ (by simp; omega))).trans ((World.cell?_of_block (w := w) (a := a) (Below.heap_alloc _ _ _ hb)).trans h)

theorem add_step (u : Nat) (c : UInt8) (h : u < 72057594037927936) : IntKind.u64.wrap (IntKind.u64.wrap (256 * (u : Int)) + IntKind.u64.wrap (c.toNat : Int)) = ((256 * u + c.toNat : Nat) : Int) := by
  have hc := c.toNat_lt
  simp only [IntKind.wrap_u64]
  omega

/-- What is left behind a cut. -/
theorem left_cut {w : World} {B : Nat} {A A' : Option Addr} {n c s n' c' : Nat} {xs : List UInt8} (h : Left w B A n c xs) (hs : s ≤ n) (hn' : n' = n - s) (hc' : c' = c - s) (hA : A' = A ∧ c = s ∨ A' = Option.map (fun x => x.add s) A) : Left w B A' n' c' (xs.drop s) := by
  obtain ⟨hx, hn, hnc, hcm⟩ := h
  have hn2 := hn.out
  refine ⟨?_, ?_, by omega, by omega⟩
  · rcases hA with ⟨rfl, hcs⟩ | rfl
    · rw [List.drop_eq_nil_of_le (by omega)]; exact Has.nil _ _ _
    · exact hx.drop s
  · show (xs.drop s).length = n'
    simp; omega

/-- A number read by a reader, whether stuck or not. -/
def rnx (xs : List UInt8) (er : Nat) : Nat × List UInt8 × Nat := if er = 0 then rn xs else (0, xs, er)

/-- A count read by a reader, whether stuck or not. -/
def rcx (xs : List UInt8) (most : Int) (er : Nat) : Nat × List UInt8 × Nat := if most.toNat < (rnx xs er).1 then (0, [], 12) else rnx xs er

def CEnds (w : World) (B : Nat) (u : Value) (ys : List UInt8) (er : Nat) (e : Ending) (w' : World) : Prop :=
  ∃ A n c, e = .returned (.tuple #[.agg #[.slice A n c, .int .i64 (er : Int)], u]) ∧ (er = 0 → Left w' B A n c ys) ∧ ∃ o1 o2 o3 o4, (((w.alloc o1).alloc o2).alloc o3).alloc o4 = w'

theorem rnx_err {xs : List UInt8} {er : Nat} (h : 0 < (rnx xs er).1) : (rnx xs er).2.2 = 0 := by
  unfold rnx at *
  split at h
  · rename_i he; rw [if_pos he]; exact rn_err h
  · simp at h

theorem rnx_lt (xs : List UInt8) (er : Nat) : (rnx xs er).1 < 18446744073709551616 := by
  unfold rnx
  split
  · exact rn_lt xs
  · simp

theorem Left.back {w w' : World} {B : Nat} {A : Option Addr} {n c : Nat} {xs : List UInt8} (h : Left w' B A n c xs) (hb : Below B w w') : Left w B A n c xs := ⟨h.1.keep fun b hlt => (hb.block b hlt).symm, h.2⟩

theorem below2 (w : World) (o1 o2 : Obj) : Below w.heap.size w ((w.alloc o1).alloc o2) := ((Below.refl _ _).alloc (Nat.le_refl _) _).alloc (by simp) _

theorem below4 (w : World) (o1 o2 o3 o4 : Obj) : Below w.heap.size w ((((w.alloc o1).alloc o2).alloc o3).alloc o4) := (((below2 w o1 o2).alloc (by simp; omega) _).alloc (by simp; omega) _)

end Go.Proofs.YtapbcpilklhoiaaDoor

namespace Go.Proofs.YtapbcpilklhoiaaDoor
open Go.RowKit

/-- So many ints are read. -/
def riN : Nat → RSt → List Int × RSt
  | 0, s => ([], s)
  | m + 1, s => (((riN m s).1 ++ [(ri (riN m s).2).1]), (ri (riN m s).2).2)
theorem riN_len (m : Nat) (s : RSt) : (riN m s).1.length = m := by
  induction m with
  | zero => rfl
  | succ m ih => simp [riN, ih]
theorem ri_rnx (s : RSt) : ri s = (zag (rnx s.1 s.2).1, (rnx s.1 s.2).2) := by
  unfold ri rnx
  by_cases h : s.2 = 0
  · rw [if_pos h, if_pos h]
  · rw [if_neg h, if_neg h]
    simp [zag]
theorem tk_riN (s : RSt) : (tk s).1.ints = (riN 8 s).1 ∧ (tk s).2 = (riN 8 s).2 := by
  simp only [tk, riN, Cmdv.ints, List.nil_append, List.cons_append, and_self]
theorem two_cells {w : World} {g : Nat} {a b : Value} {t : TypeId} (h : w.heap[g]? = some (.cells #[a, b] t (0, 0))) : w.cell? ⟨g, 0, none⟩ = some a ∧ w.cell? ⟨g, 1, none⟩ = some b ∧ w.frozen? ⟨g, 0, none⟩ = false ∧ w.frozen? ⟨g, 1, none⟩ = false := ⟨two_cell0 h, two_cell1 h, two_free h, two_free h⟩

end Go.Proofs.YtapbcpilklhoiaaDoor
