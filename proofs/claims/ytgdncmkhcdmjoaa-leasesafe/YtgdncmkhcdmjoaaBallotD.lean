/-
  Next, Compare, Valid of package ballot, and their references. No condition but the reach of what is read.
-/
import Derived.Test.YtgdncmkhcdmjoaaBallotC
import Derived.Deep.RegionHeld3
import Derived.Deep.DrawnRows
import Derived.Deep.DeepCutAuto
set_option linter.unusedSimpArgs false
set_option linter.unusedVariables false
namespace Go.Proofs.Ytgdncmkhcdmjoaa
open Go.RowKit

/-- What Next answers: a ballot and an error. -/
def NextEnds (xs : List Int) (r v : Int) (w : World) (e : Ending) (w' : World) : Prop :=
  ((e = .returned (.tuple #[.agg #[.int .i64 0, .int .i64 0], .int .i64 1]) ∧ (v ∉ xs ∨ r < 0 ∨ 1099511627776 < r)) ∨
    ∃ p q : Nat, p < xs.length ∧ xs.getD p 0 = v ∧ r = q ∧ q ≤ 1099511627776 ∧
      ((e = .returned (.tuple #[.agg #[.int .i64 0, .int .i64 0], .int .i64 27]) ∧ 1099511627776 < q + 1 + wt xs.length p q) ∨
       (e = .returned (.tuple #[.agg #[.int .i64 ((q + wt xs.length p q : Nat) + 1), .int .i64 v], .int .i64 0]) ∧ q + 1 + wt xs.length p q ≤ 1099511627776))) ∧ Below w.heap.size w w'

def cmp1 (a b : Int) : Int := if a < b then -1 else if b < a then 1 else 0
def pick2 (x y : Int) : Int := if x ≠ 0 then x else y
def cmp2 (a b c d : Int) : Int := pick2 (cmp1 a c) (cmp1 b d)

theorem two_kept (a b c d : Int) (w : World) :
    ((((w.alloc (.cells #[.int .i64 a, .int .i64 b] 46)).alloc (.cells #[.int .i64 c, .int .i64 d] 46)).cell? ⟨w.heap.size, 0, none⟩ = some (.int .i64 a) ∧ ((w.alloc (.cells #[.int .i64 a, .int .i64 b] 46)).alloc (.cells #[.int .i64 c, .int .i64 d] 46)).cell? ⟨w.heap.size, 1, none⟩ = some (.int .i64 b) ∧ ((w.alloc (.cells #[.int .i64 a, .int .i64 b] 46)).alloc (.cells #[.int .i64 c, .int .i64 d] 46)).cell? ⟨w.heap.size + 1, 0, none⟩ = some (.int .i64 c) ∧ ((w.alloc (.cells #[.int .i64 a, .int .i64 b] 46)).alloc (.cells #[.int .i64 c, .int .i64 d] 46)).cell? ⟨w.heap.size + 1, 1, none⟩ = some (.int .i64 d)) ∧
      ∀ o, ((((w.alloc (.cells #[.int .i64 a, .int .i64 b] 46)).alloc (.cells #[.int .i64 c, .int .i64 d] 46)).alloc o).cell? ⟨w.heap.size, 0, none⟩ = some (.int .i64 a) ∧ (((w.alloc (.cells #[.int .i64 a, .int .i64 b] 46)).alloc (.cells #[.int .i64 c, .int .i64 d] 46)).alloc o).cell? ⟨w.heap.size, 1, none⟩ = some (.int .i64 b) ∧ (((w.alloc (.cells #[.int .i64 a, .int .i64 b] 46)).alloc (.cells #[.int .i64 c, .int .i64 d] 46)).alloc o).cell? ⟨w.heap.size + 1, 0, none⟩ = some (.int .i64 c) ∧ (((w.alloc (.cells #[.int .i64 a, .int .i64 b] 46)).alloc (.cells #[.int .i64 c, .int .i64 d] 46)).alloc o).cell? ⟨w.heap.size + 1, 1, none⟩ = some (.int .i64 d))) := by
  have k1 : ∀ i, ((w.alloc (.cells #[.int .i64 a, .int .i64 b] 46)).alloc (.cells #[.int .i64 c, .int .i64 d] 46)).cell? ⟨w.heap.size, i, none⟩ = (#[.int .i64 a, .int .i64 b] : Array Value)[i]? := fun i =>
    (World.cell?_alloc_past (w := w.alloc _) _ w.heap.size i (by simp)).trans (cell_of_row _ _ _ _ _ _ (heap_alloc_new w _))
  have k2 : ∀ i, ((w.alloc (.cells #[.int .i64 a, .int .i64 b] 46)).alloc (.cells #[.int .i64 c, .int .i64 d] 46)).cell? ⟨w.heap.size + 1, i, none⟩ = (#[.int .i64 c, .int .i64 d] : Array Value)[i]? := fun i => by simp
  refine ⟨⟨k1 0, k1 1, k2 0, k2 1⟩, fun o => ⟨?_, ?_, ?_, ?_⟩⟩
  · exact (World.cell?_alloc_past o w.heap.size 0 (by simp; omega)).trans (k1 0)
  · exact (World.cell?_alloc_past o w.heap.size 1 (by simp; omega)).trans (k1 1)
  · exact (World.cell?_alloc_past o (w.heap.size + 1) 0 (by simp)).trans (k2 0)
  · exact (World.cell?_alloc_past o (w.heap.size + 1) 1 (by simp)).trans (k2 1)

end Go.Proofs.Ytgdncmkhcdmjoaa
