/-
  One register of a state turned, in memory and as a function. No condition.
-/
import Derived.Test.YtogkgmbldmfpiaaApplyGet
import Derived.Deep.DeepCutAuto
set_option linter.unusedSimpArgs false
set_option linter.unusedVariables false
namespace Go.Proofs.Ytogkgmbldmfpiaa
open Go.RowKit

/-- The register R becomes (p, q). -/
def upd (S : Nat → Int) (R : Nat) (p q : Int) : Nat → Int := fun i => if i = 2 * R then p else if i = 2 * R + 1 then q else S i

theorem upd_re (S : Nat → Int) (R : Nat) (p q : Int) : upd S R p q (2 * R) = p := by simp [upd]
theorem upd_im (S : Nat → Int) (R : Nat) (p q : Int) : upd S R p q (2 * R + 1) = q := by simp [upd]

theorem cl_upd (S : Nat → Int) (R : Nat) (hR : R < 8) (p q : Int) : ((cl S).toArray.setIfInBounds (R * 2) (.int .i64 p)).setIfInBounds (R * 2 + 1) (.int .i64 q) = (cl (upd S R p q)).toArray := by
  apply Array.ext'
  apply List.ext_getElem?
  intro k
  simp only [Array.toList_setIfInBounds, List.toList_toArray, List.getElem?_set, List.length_set, cl_length]
  by_cases hk : k < 16
  · rw [cl_get S k hk, cl_get _ k hk]
    unfold upd
    by_cases h1 : R * 2 + 1 = k
    · rw [if_pos h1, if_pos (by omega), if_neg (by omega), if_pos (by omega)]
    · rw [if_neg h1]
      by_cases h2 : R * 2 = k
      · rw [if_pos h2, if_pos (by omega), if_pos (by omega)]
      · rw [if_neg h2, if_neg (by omega), if_neg (by omega)]
  · rw [if_neg (by omega), if_neg (by omega), List.getElem?_eq_none (by rw [cl_length]; omega), List.getElem?_eq_none (by rw [cl_length]; omega)]

section
variable {w : World} {S : Nat → Int} {k r t re im : Int} {w2 : World}

theorem AW.st1 (h : AW w S k r t re im w2) (R : Nat) (hR : R < 8) (p q : Int) : AW w (upd S R p q) k r t re im ((w2.setCell ⟨w.heap.size, R * 2, none⟩ (.int .i64 p)).setCell ⟨w.heap.size, R * 2 + 1, none⟩ (.int .i64 q)) := by
  obtain ⟨Z2, hZ2, hg2⟩ := h.h2
  obtain ⟨Z3, hZ3, hg3⟩ := h.h3
  rw [setCell_eq_setRow _ _ _ _ _ _ _ h.hs, setCell_eq_setRow _ _ _ _ _ _ _ (setRow_heap _ _ _ _ _ _ h.hs), setRow_setRow, cl_upd S R hR p q]
  exact ⟨setRow_heap _ _ _ _ _ _ h.hs, (setRow_other _ _ _ _ (by omega)).trans h.ho, ⟨Z2, hZ2, (setRow_other _ _ _ _ (by omega)).trans hg2⟩, ⟨Z3, hZ3, (setRow_other _ _ _ _ (by omega)).trans hg3⟩, below_setRow h.hb (Nat.le_refl _) _, by have := h.hz; simpa using this⟩

theorem AW.cells2 (h : AW w S k r t re im w2) (R : Nat) (hR : R < 8) : w2.cell? ⟨w.heap.size, R * 2, none⟩ = some (.int .i64 (S (2 * R))) ∧ w2.cell? ⟨w.heap.size, R * 2 + 1, none⟩ = some (.int .i64 (S (2 * R + 1))) ∧ w2.frozen? ⟨w.heap.size, R * 2, none⟩ = false ∧ w2.frozen? ⟨w.heap.size, R * 2 + 1, none⟩ = false := by
  obtain ⟨_, _, a, b, _⟩ := h.limbs R hR
  exact ⟨a, b, by simp [World.frozen?, h.hs], by simp [World.frozen?, h.hs]⟩

theorem AW.both (h : AW w S k r t re im w2) (R : Nat) (hR : R < 8) : w2.cell? ⟨w.heap.size + 1, 0, none⟩ = some (.int .i64 k) ∧ w2.cell? ⟨w.heap.size + 1, 1, none⟩ = some (.int .i64 r) ∧ w2.cell? ⟨w.heap.size + 1, 2, none⟩ = some (.int .i64 t) ∧ w2.cell? ⟨w.heap.size + 1, 3, none⟩ = some (.int .i64 re) ∧ w2.cell? ⟨w.heap.size + 1, 4, none⟩ = some (.int .i64 im) ∧ w2.cell? ⟨w.heap.size, R * 2, none⟩ = some (.int .i64 (S (2 * R))) ∧ w2.cell? ⟨w.heap.size, R * 2 + 1, none⟩ = some (.int .i64 (S (2 * R + 1))) := by
  obtain ⟨o0, o1, o2, o3, o4⟩ := h.op
  obtain ⟨a, b, _, _⟩ := h.cells2 R hR
  exact ⟨o0, o1, o2, o3, o4, a, b⟩
theorem AW.alloc (h : AW w S k r t re im w2) (o : Obj) : AW w S k r t re im (w2.alloc o) := h.below ((Below.refl _ _).alloc (Nat.le_refl _) o)
theorem AW.out (h : AW w S k r t re im w2) (p : Addr) (hp : w.heap.size + 4 ≤ p.block) (v : Value) : AW w S k r t re im (w2.setCell p v) := by
  have key : ∀ i, i < w.heap.size + 4 → (w2.setCell p v).heap[i]? = w2.heap[i]? := fun i hi => Below.heap_setCell w2 p v i (by omega)
  obtain ⟨Z2, a2, b2⟩ := h.h2
  obtain ⟨Z3, a3, b3⟩ := h.h3
  exact ⟨(key _ (by omega)).trans h.hs, (key _ (by omega)).trans h.ho, ⟨Z2, a2, (key _ (by omega)).trans b2⟩, ⟨Z3, a3, (key _ (by omega)).trans b3⟩, h.hb.setCell (by omega) v, by have := h.hz; simpa [World.setCell] using this⟩
end

/-- Behind reckon: its register lies in a block of its own. -/
def RK (w : World) (S : Nat → Int) (k r t re im p q : Int) (B : Bool) (s6 s7 : Value) (wx : World) : Prop :=
  ∃ b, s6 = .pointer (some ⟨b, 0, none⟩) ∧ s7 = .bool B ∧ AW w S k r t re im wx ∧ w.heap.size + 4 ≤ b ∧ wx.heap[b]? = some (.cells #[.int .i64 p, .int .i64 q] 37 (0, 0))

theorem rk1 {w : World} {S : Nat → Int} {k r t re im p q : Int} {B : Bool} {w3 : World} (h : AW w S k r t re im w3) :
    RK w S k r t re im p q B (.pointer (some ⟨w3.heap.size, 0, none⟩)) (.bool B) (w3.alloc (.cells #[.int .i64 p, .int .i64 q] 37)) :=
  ⟨_, rfl, rfl, h.alloc _, h.hz, heap_alloc_new w3 _⟩
theorem rk2 {w : World} {S : Nat → Int} {k r t re im p q : Int} {B : Bool} {w3 : World} {b : Nat} {x y : Value} (h : AW w S k r t re im w3) (hn : w3.heap[b]? = some (.cells #[x, y] 37 (0, 0))) (hb : w.heap.size + 4 ≤ b) :
    RK w S k r t re im p q B (.pointer (some ⟨b, 0, none⟩)) (.bool B) ((w3.setCell ⟨b, 0, none⟩ (.int .i64 p)).setCell ⟨b, 1, none⟩ (.int .i64 q)) := by
  refine ⟨_, rfl, rfl, (h.out _ hb _).out _ hb _, hb, ?_⟩
  rw [setCell_eq_setRow _ _ _ _ _ _ _ hn, setCell_eq_setRow _ _ _ _ _ _ _ (setRow_heap _ _ _ _ _ _ hn), setRow_setRow]
  exact setRow_heap _ _ _ _ _ _ hn

theorem kept_new {wa wb : World} {a b : Value} {t : TypeId} (hb : Below (wa.alloc (.cells #[a, b] t)).drew.heap.size (wa.alloc (.cells #[a, b] t)).drew wb) :
    wb.heap[wa.heap.size]? = some (.cells #[a, b] t (0, 0)) ∧ wb.cell? ⟨wa.heap.size, 0, none⟩ = some a ∧ wb.cell? ⟨wa.heap.size, 1, none⟩ = some b ∧ wb.frozen? ⟨wa.heap.size, 0, none⟩ = false ∧ wb.frozen? ⟨wa.heap.size, 1, none⟩ = false := by
  have h : wb.heap[wa.heap.size]? = some (.cells #[a, b] t (0, 0)) := (hb.block _ (by simp)).trans (heap_alloc_new wa _)
  exact ⟨h, by rw [cell_of_row _ _ _ _ _ _ h]; rfl, by rw [cell_of_row _ _ _ _ _ _ h]; rfl, by simp [World.frozen?, h], by simp [World.frozen?, h]⟩
end Go.Proofs.Ytogkgmbldmfpiaa
