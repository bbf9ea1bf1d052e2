/-
  Cells of some blocks that are written over by numbers. No condition.
-/
import Derived.Test.YtapbcpilklhoiabDoorMY13
set_option linter.unusedSimpArgs false
set_option linter.unusedVariables false

namespace Go.Proofs.YtapbcpilklhoiabDoor
open Go.RowKit

/-- Behind writes of numbers over numbers in the blocks R. -/
structure Mut (R : Nat → Prop) (w W : World) : Prop where
  kept : Kept R w W
  int : ∀ k, R k → ∀ i kd x, w.cell? ⟨k, i, none⟩ = some (.int kd x) → ∃ y, W.cell? ⟨k, i, none⟩ = some (.int kd y)
  slc : ∀ k, R k → ∀ i A n c, w.cell? ⟨k, i, none⟩ = some (.slice A n c) → W.cell? ⟨k, i, none⟩ = some (.slice A n c)
  free : ∀ k, R k → Free w k → Free W k
section
variable {R : Nat → Prop} {w W : World}
theorem Mut.refl (R : Nat → Prop) (w : World) : Mut R w w := ⟨Kept.refl _ _, fun _ _ _ _ x h => ⟨x, h⟩, fun _ _ _ _ _ _ h => h, fun _ _ h => h⟩
theorem Mut.drew (h : Mut R w W) : Mut R w W.drew := ⟨h.kept.drew, h.int, h.slc, h.free⟩
theorem Mut.set (h : Mut R w W) {k i : Nat} {kd : IntKind} {x : Int} (hk : R k) (hc : W.cell? ⟨k, i, none⟩ = some (.int kd x)) (y : Int) : Mut R w (W.setCell ⟨k, i, none⟩ (.int kd y)) := by
  refine ⟨h.kept.setCell (.inl hk) _, ?_, ?_, ?_⟩
  · intro k' hk' i' kd' x' e
    obtain ⟨y', e'⟩ := h.int k' hk' i' kd' x' e
    by_cases he : (⟨k, i, none⟩ : Addr) = ⟨k', i', none⟩
    · injection he with h1 h2
      subst h1 h2
      rw [hc] at e'
      injection e' with e'
      injection e' with e1 e2
      subst e1
      exact ⟨y, World.cell?_setCell_same _ _ _ hc⟩
    · exact ⟨y', (World.cell?_setCell_other _ _ _ _ he).trans e'⟩
  · intro k' hk' i' A n c e
    have e' := h.slc k' hk' i' A n c e
    by_cases he : (⟨k, i, none⟩ : Addr) = ⟨k', i', none⟩
    · injection he with h1 h2
      subst h1 h2
      rw [hc] at e'
      cases e'
    · exact (World.cell?_setCell_other _ _ _ _ he).trans e'
  · intro k' hk' hf
    obtain ⟨cur, t, e⟩ := h.free k' hk' hf
    by_cases he : k = k'
    · subst he
      exact ⟨cur.set! i (.int kd y), t, by simp [World.setCell, Array.getElem?_modify, e]⟩
    · exact ⟨cur, t, by simp [World.setCell, Array.getElem?_modify, he, e]⟩
theorem Free.ice {k : Nat} (h : Free W k) (i : Nat) : W.frozen? ⟨k, i, none⟩ = false := by
  obtain ⟨cur, t, e⟩ := h
  exact (row_cells e i).2

/-- A number that may be written over. -/
def Cell (R : Nat → Prop) (W : World) (k i : Nat) (kd : IntKind) : Prop := R k ∧ (∃ y, W.cell? ⟨k, i, none⟩ = some (.int kd y)) ∧ W.frozen? ⟨k, i, none⟩ = false
theorem Mut.cell (h : Mut R w W) {k i : Nat} {kd : IntKind} {x : Int} (hk : R k) (hf : Free w k) (hc : w.cell? ⟨k, i, none⟩ = some (.int kd x)) : Cell R W k i kd := ⟨hk, h.int k hk i kd x hc, (h.free k hk hf).ice i⟩
theorem Mut.byte (h : Mut R w W) {B : Nat} {A : Option Addr} {xs : List UInt8} {j : Nat} (hd : Has w B A xs) (hR : ∀ k o, A = some ⟨k, o, none⟩ → R k ∧ Free w k) (hj : j < xs.length) : ∃ b o, A = some ⟨b, o, none⟩ ∧ Cell R W b (o + j) .u8 := by
  obtain ⟨b, o, hA, _, hc⟩ := hd j hj
  exact ⟨b, o, hA, h.cell (hR b o hA).1 (hR b o hA).2 hc⟩
theorem Mut.num (h : Mut R w W) {B : Nat} {A : Option Addr} {xs : List Int} {j : Nat} (hd : HasI w B A xs) (hR : ∀ k o, A = some ⟨k, o, none⟩ → R k ∧ Free w k) (hj : j < xs.length) : ∃ b o, A = some ⟨b, o, none⟩ ∧ Cell R W b (o + j) .i64 := by
  obtain ⟨b, o, hA, _, hc⟩ := hd j hj
  exact ⟨b, o, hA, h.cell (hR b o hA).1 (hR b o hA).2 hc⟩
theorem Mut.seq (h : Mut R w W) {B : Nat} {A : Option Addr} {cs : List Cmdv} {j : Nat} (hd : HasC w B A cs) (hR : ∀ k o, A = some ⟨k, o, none⟩ → R k ∧ Free w k) (hj : j < cs.length) : ∃ b o, A = some ⟨b, o, none⟩ ∧ Cell R W b (o + j * 8 + 1) .i64 := by
  obtain ⟨b, o, hA, _, _, hc, _⟩ := hd j hj
  exact ⟨b, o, hA, h.cell (hR b o hA).1 (hR b o hA).2 hc⟩
theorem Mut.vote (h : Mut R w W) {B : Nat} {A : Option Addr} {vs : List Votev} {j : Nat} (hd : HasVt w B A vs) (hR : ∀ k o, A = some ⟨k, o, none⟩ → R k ∧ Free w k) (hj : j < vs.length) : ∃ b o, A = some ⟨b, o, none⟩ ∧ Cell R W b (o + j * 6) .i64 ∧ W.cell? ⟨b, o + j * 6 + 4, none⟩ = some (.slice vs[j].v.A vs[j].v.n vs[j].v.c) ∧ W.cell? ⟨b, o + j * 6 + 5, none⟩ = some (.slice vs[j].v.D vs[j].v.m vs[j].v.d) := by
  obtain ⟨⟨b, o, hA, _, h0, h1, h2, h3, h4, h5⟩, _⟩ := hd j hj
  exact ⟨b, o, hA, h.cell (hR b o hA).1 (hR b o hA).2 h0, h.slc b (hR b o hA).1 _ _ _ _ h4, h.slc b (hR b o hA).1 _ _ _ _ h5⟩
end
end Go.Proofs.YtapbcpilklhoiabDoor
