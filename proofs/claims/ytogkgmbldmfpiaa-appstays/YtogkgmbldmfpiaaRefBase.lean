/-
  What the reference's Apply finds in memory, and what it leaves. No condition.
-/
import Derived.Test.YtogkgmbldmfpiaaRefRight
set_option linter.unusedSimpArgs false
set_option linter.unusedVariables false
namespace Go.Proofs.Ytogkgmbldmfpiaa
open Go.RowKit

/-- Memory within Apply: the state, the operation, room for the state and the result that are handed back; what was there before is as it was. -/
structure RW (w : World) (S : Nat → Int) (k r t re im : Int) (w2 : World) : Prop where
  hs : w2.heap[w.heap.size]? = some (.cells (cl S).toArray 38 (0, 0))
  ho : w2.heap[w.heap.size + 1]? = some (.cells #[.int .i64 k, .int .i64 r, .int .i64 t, .int .i64 re, .int .i64 im] 40 (0, 0))
  h2 : ∃ Z, Z.size = 16 ∧ w2.heap[w.heap.size + 2]? = some (.cells Z 38 (0, 0))
  h3 : ∃ Z, Z.size = 3 ∧ w2.heap[w.heap.size + 3]? = some (.cells Z 50 (0, 0))
  hb : Below w.heap.size w w2
  hz : w.heap.size + 4 ≤ w2.heap.size

theorem RW.below {w : World} {S : Nat → Int} {k r t re im : Int} {w2 w3 : World} (h : RW w S k r t re im w2) (hb : Below w2.heap.size w2 w3) : RW w S k r t re im w3 := by
  have hz := h.hz
  have key : ∀ i, i < w.heap.size + 4 → w3.heap[i]? = w2.heap[i]? := fun i hi => hb.block i (by omega)
  obtain ⟨Z2, a2, b2⟩ := h.h2
  obtain ⟨Z3, a3, b3⟩ := h.h3
  exact ⟨(key _ (by omega)).trans h.hs, (key _ (by omega)).trans h.ho, ⟨Z2, a2, (key _ (by omega)).trans b2⟩, ⟨Z3, a3, (key _ (by omega)).trans b3⟩,
    h.hb.trans (hb.mono (by omega)), by have := hb.size; omega⟩

theorem RW.drew {w : World} {S : Nat → Int} {k r t re im : Int} {w2 : World} (h : RW w S k r t re im w2) : RW w S k r t re im w2.drew := ⟨h.hs, h.ho, h.h2, h.h3, h.hb.drew, h.hz⟩

theorem RW.op {w : World} {S : Nat → Int} {k r t re im : Int} {w2 : World} (h : RW w S k r t re im w2) :
    w2.cell? ⟨w.heap.size + 1, 0, none⟩ = some (.int .i64 k) ∧ w2.cell? ⟨w.heap.size + 1, 1, none⟩ = some (.int .i64 r) ∧ w2.cell? ⟨w.heap.size + 1, 2, none⟩ = some (.int .i64 t) ∧ w2.cell? ⟨w.heap.size + 1, 3, none⟩ = some (.int .i64 re) ∧ w2.cell? ⟨w.heap.size + 1, 4, none⟩ = some (.int .i64 im) := by
  have key : ∀ i, w2.cell? ⟨w.heap.size + 1, i, none⟩ = (#[.int .i64 k, .int .i64 r, .int .i64 t, .int .i64 re, .int .i64 im] : Array Value)[i]? := fun i => cell_of_row _ _ _ _ _ _ h.ho
  exact ⟨key 0, key 1, key 2, key 3, key 4⟩

theorem RW.reg {w : World} {S : Nat → Int} {k r t re im : Int} {w2 : World} (h : RW w S k r t re im w2) (i : Nat) (hi : i < 16) : w2.cell? ⟨w.heap.size, i, none⟩ = some (.int .i64 (S i)) := by
  rw [cell_of_row _ _ _ _ _ _ h.hs, List.getElem?_toArray]
  exact cl_get S i hi

theorem RW.range {w : World} {S : Nat → Int} {k r t re im : Int} {w2 : World} (h : RW w S k r t re im w2) : w2.rangeAt w.heap.size 0 (cl S) := by
  intro j v hv
  rw [Nat.zero_add, cell_of_row _ _ _ _ _ _ h.hs, List.getElem?_toArray]
  exact hv

theorem rthere_of_block {w : World} {b n : Nat} {C : Array Value} {t : TypeId} (hb : w.heap[b]? = some (.cells C t (0, 0))) (hn : C.size = n) : w.there b 0 n := by
  intro j hj
  rw [Nat.zero_add]
  exact ⟨by rw [cell_of_row _ _ _ _ _ _ hb]; simp; omega, by simp [World.frozen?, hb]⟩

/-- Two results that lie in memory. -/
theorem rresults_rows {tmps : Array Value} {w : World} {g2 g3 : Nat} {A B : Array Value} {t2 t3 : TypeId}
    (h4 : tmps.getD 4 undef = .pointer (some ⟨g2, 0, none⟩)) (h5 : tmps.getD 5 undef = .pointer (some ⟨g3, 0, none⟩))
    (hA : w.heap[g2]? = some (.cells A t2 (0, 0))) (hB : w.heap[g3]? = some (.cells B t3 (0, 0))) (sA : A.size = 16) (sB : B.size = 3) :
    (results Try.f29 tmps).run Try.prog w = .ok (.tuple #[.agg A, .agg B]) w := by
  have h4' : tmps[4]?.getD undef = .pointer (some ⟨g2, 0, none⟩) := by simpa using h4
  have h5' : tmps[5]?.getD undef = .pointer (some ⟨g3, 0, none⟩) := by simpa using h5
  have i1 : (Try.prog.info? 38).map (·.size) = some A.size := by rw [sA]; kernel_rfl
  have i2 : (Try.prog.info? 50).map (·.size) = some B.size := by rw [sB]; kernel_rfl
  have e1 := run_loadVar_row (P := Try.prog) w g2 t2 38 A (0, 0) _ hA Try.underlying38 rfl i1
  have e2 := run_loadVar_row (P := Try.prog) w g3 t3 50 B (0, 0) _ hB Try.underlying50 rfl i2
  simp [results, Try.results29, h4', h5', asAddr, e1, e2]
  try rfl

/-- What is stored into the two rows that are handed back. -/
theorem RW.stored {w : World} {S : Nat → Int} {k r t re im : Int} {w2 : World} (h : RW w S k r t re im w2) (A B : Array Value) :
    ((w2.setRow (w.heap.size + 2) A).setRow (w.heap.size + 3) B).heap[w.heap.size + 2]? = some (.cells A 38 (0, 0)) ∧
    ((w2.setRow (w.heap.size + 2) A).setRow (w.heap.size + 3) B).heap[w.heap.size + 3]? = some (.cells B 50 (0, 0)) ∧
    Below w.heap.size w ((w2.setRow (w.heap.size + 2) A).setRow (w.heap.size + 3) B) := by
  obtain ⟨Z2, a2, b2⟩ := h.h2
  obtain ⟨Z3, a3, b3⟩ := h.h3
  have c2 := setRow_heap w2 _ _ A _ _ b2
  have c3 : (w2.setRow (w.heap.size + 2) A).heap[w.heap.size + 3]? = _ := (setRow_other w2 (w.heap.size + 2) (w.heap.size + 3) A (by omega)).trans b3
  exact ⟨(setRow_other _ _ _ B (by omega)).trans c2, setRow_heap _ _ _ B _ _ c3, below_setRow (below_setRow h.hb (by omega) A) (by omega) B⟩

theorem rfour (w : World) (S : Nat → Int) (k r t re im : Int) (Z2 Z3 : Array Value) (h2 : Z2.size = 16) (h3 : Z3.size = 3) :
    RW w S k r t re im ((((w.alloc (.cells (cl S).toArray 38)).alloc (.cells #[.int .i64 k, .int .i64 r, .int .i64 t, .int .i64 re, .int .i64 im] 40)).alloc (.cells Z2 38)).alloc (.cells Z3 50)) := by
  refine ⟨?_, ?_, ⟨Z2, h2, ?_⟩, ⟨Z3, h3, ?_⟩, by go_grown, by simp⟩
  · rw [Below.heap_alloc _ _ _ (by simp <;> omega), Below.heap_alloc _ _ _ (by simp <;> omega), Below.heap_alloc _ _ _ (by simp)]
    exact heap_alloc_new w _
  · rw [Below.heap_alloc _ _ _ (by simp <;> omega), Below.heap_alloc _ _ _ (by simp)]
    have := heap_alloc_new (w.alloc (.cells (cl S).toArray 38)) (.cells #[.int .i64 k, .int .i64 r, .int .i64 t, .int .i64 re, .int .i64 im] 40)
    simpa using this
  · rw [Below.heap_alloc _ _ _ (by simp)]
    have := heap_alloc_new ((w.alloc (.cells (cl S).toArray 38)).alloc (.cells #[.int .i64 k, .int .i64 r, .int .i64 t, .int .i64 re, .int .i64 im] 40)) (.cells Z2 38)
    simpa using this
  · have := heap_alloc_new (((w.alloc (.cells (cl S).toArray 38)).alloc (.cells #[.int .i64 k, .int .i64 r, .int .i64 t, .int .i64 re, .int .i64 im] 40)).alloc (.cells Z2 38)) (.cells Z3 50)
    simpa using this

theorem rsize_cl (S : Nat → Int) : (Try.prog.info? 38).map (·.size) = some (cl S).toArray.size := by rw [cl_size]; kernel_rfl

section
variable {w : World} {S : Nat → Int} {k r t re im : Int} {w2 : World}
theorem RW.st1 (h : RW w S k r t re im w2) (R : Nat) (hR : R < 8) (p q : Int) : RW w (upd S R p q) k r t re im ((w2.setCell ⟨w.heap.size, R * 2, none⟩ (.int .i64 p)).setCell ⟨w.heap.size, R * 2 + 1, none⟩ (.int .i64 q)) := by
  obtain ⟨Z2, hZ2, hg2⟩ := h.h2
  obtain ⟨Z3, hZ3, hg3⟩ := h.h3
  rw [setCell_eq_setRow _ _ _ _ _ _ _ h.hs, setCell_eq_setRow _ _ _ _ _ _ _ (setRow_heap _ _ _ _ _ _ h.hs), setRow_setRow, cl_upd S R hR p q]
  exact ⟨setRow_heap _ _ _ _ _ _ h.hs, (setRow_other _ _ _ _ (by omega)).trans h.ho, ⟨Z2, hZ2, (setRow_other _ _ _ _ (by omega)).trans hg2⟩, ⟨Z3, hZ3, (setRow_other _ _ _ _ (by omega)).trans hg3⟩, below_setRow h.hb (Nat.le_refl _) _, by have := h.hz; simpa using this⟩

theorem RW.cells2 (h : RW w S k r t re im w2) (R : Nat) (hR : R < 8) : w2.cell? ⟨w.heap.size, R * 2, none⟩ = some (.int .i64 (S (2 * R))) ∧ w2.cell? ⟨w.heap.size, R * 2 + 1, none⟩ = some (.int .i64 (S (2 * R + 1))) ∧ w2.frozen? ⟨w.heap.size, R * 2, none⟩ = false ∧ w2.frozen? ⟨w.heap.size, R * 2 + 1, none⟩ = false := by
  obtain ⟨a, b⟩ := cells2_of h.hs R hR
  exact ⟨a, b, by simp [World.frozen?, h.hs], by simp [World.frozen?, h.hs]⟩
theorem RW.drewN (h : RW w S k r t re im w2) (n : Nat) : RW w S k r t re im (w2.drewN n) := ⟨h.hs, h.ho, h.h2, h.h3, below_drewN h.hb n, h.hz⟩
end
end Go.Proofs.Ytogkgmbldmfpiaa
