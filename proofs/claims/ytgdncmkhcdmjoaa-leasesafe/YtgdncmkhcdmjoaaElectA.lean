/-
  A timer in memory; the small calls of package election. No condition but that times are numbers of 64 bits.
-/
import Derived.Test.YtgdncmkhcdmjoaaBallotE
import Derived.Test.YtgdncmkhcdmjoaaRec
import Derived.Deep.RegionHeld3
import Derived.Deep.DeepCutAuto
import Derived.Deep.MidRow
set_option linter.unusedSimpArgs false
set_option linter.unusedVariables false
namespace Go.Proofs.Ytgdncmkhcdmjoaa
open Go.RowKit

/-- What a timer is. -/
structure Tm where
  me : Int
  ms : List Int
  base : Int
  most : Int
  round : Int
  since : Int
  wait : Int
/-- The numbers of a timer are right. -/
structure Tm.Good (t : Tm) : Prop where
  rt : rightS t.ms
  b : 1 ≤ t.base ∧ t.base ≤ t.most ∧ t.most ≤ 1048576
  r : 0 ≤ t.round ∧ t.round ≤ 1099511627776
  s : -9223372036854775808 ≤ t.since ∧ t.since ≤ 9223372036854775807
  w : 1 ≤ t.wait ∧ t.wait ≤ t.most
def Tm.cells (t : Tm) (A : Option Addr) (n c : Nat) : Array Value := #[.int .i64 t.me, .slice A n c, .int .i64 t.base, .int .i64 t.most, .int .i64 t.round, .int .i64 t.since, .int .i64 t.wait]
/-- Block g is the timer t; its members lie at A. -/
structure IsT (w : World) (g : Nat) (A : Option Addr) (n c : Nat) (t : Tm) : Prop where
  good : t.Good
  blk : w.heap[g]? = some (.cells (t.cells A n c) 82 (0, 0))
  ms : OwnI w 0 (.slice A n c) t.ms

section
variable {w w' : World} {g : Nat} {A : Option Addr} {n c : Nat} {t : Tm}
theorem IsT.lt (h : IsT w g A n c t) : g < w.heap.size := lt_of_block h.blk
theorem IsT.cells (h : IsT w g A n c t) : (w.cell? ⟨g, 0, none⟩ = some (.int .i64 t.me) ∧ w.cell? ⟨g, 1, none⟩ = some (.slice A n c) ∧ w.cell? ⟨g, 2, none⟩ = some (.int .i64 t.base) ∧ w.cell? ⟨g, 3, none⟩ = some (.int .i64 t.most) ∧ w.cell? ⟨g, 4, none⟩ = some (.int .i64 t.round) ∧ w.cell? ⟨g, 5, none⟩ = some (.int .i64 t.since) ∧ w.cell? ⟨g, 6, none⟩ = some (.int .i64 t.wait)) ∧ ∀ i, w.frozen? ⟨g, i, none⟩ = false :=
  ⟨⟨(row_cells h.blk 0).1, (row_cells h.blk 1).1, (row_cells h.blk 2).1, (row_cells h.blk 3).1, (row_cells h.blk 4).1, (row_cells h.blk 5).1, (row_cells h.blk 6).1⟩, fun i => (row_cells h.blk i).2⟩
theorem IsT.mem (h : IsT w g A n c t) : HasI w w.heap.size A t.ms ∧ t.ms.length = n ∧ n ≤ 7 ∧ 1 ≤ n := by
  obtain ⟨_, _, _, e1, h1, _, h2⟩ := h.ms.form
  cases e1
  have := h.good.rt.2.1
  have := h.good.rt.1
  have h3 := h1.out
  exact ⟨h2, h3, by omega, by omega⟩
theorem ownsRow_typedI {w : World} {base : Nat} {v : Value} {xs : List Int} (h : OwnI w base v xs) : ∀ g, v.ownBlock = some g → ∃ cur, w.heap[g]? = some (.cells cur 3 (0, 0)) := by
  intro g hg
  rcases h.2 with ⟨hv, _⟩ | ⟨g', cap, cur, hv, _, hh, _⟩
  · rw [hv] at hg; cases hg
  · rw [hv] at hg; cases hg; exact ⟨cur, hh⟩
theorem ownI_ne {w : World} {base g : Nat} {v : Value} {xs : List Int} {cur : Array Value} {t : TypeId} (h : OwnI w base v xs) (hg : w.heap[g]? = some (.cells cur t (0, 0))) (ht : t ≠ 3) : v.ownBlock ≠ some g := by
  intro e
  obtain ⟨cur', hc⟩ := ownsRow_typedI h g e
  rw [hc] at hg
  injection hg with hg
  injection hg with _ h2
  exact ht h2.symm
theorem IsT.below (h : IsT w g A n c t) (hb : Below w.heap.size w w') : IsT w' g A n c t := ⟨h.good, (hb.block g h.lt).trans h.blk, h.ms.below hb⟩
theorem IsT.drew (h : IsT w g A n c t) : IsT w.drew g A n c t := h.below (Below.refl _ _).drew
/-- Another block is turned. -/
theorem IsT.kept (h : IsT w g A n c t) {x : Nat} (hk : Kept (fun j => j = x) w w') (hx : g ≠ x) {cur : Array Value} {ty : TypeId} (hty : w.heap[x]? = some (.cells cur ty (0, 0))) (hne : ty ≠ 3) : IsT w' g A n c t :=
  ⟨h.good, (hk.block g h.lt hx).trans h.blk, h.ms.keep fun j hj => hk.block j (h.ms.lt j hj).2 (fun e => ownI_ne h.ms hty hne (by rw [← e]; exact hj))⟩
/-- A cell of a timer is turned. -/
theorem IsT.set (h : IsT w g A n c t) {i : Nat} {v : Value} {t' : Tm} (hg : t'.Good) (hm : t'.ms = t.ms) (he : (t.cells A n c).setIfInBounds i v = t'.cells A n c) : IsT (w.setCell ⟨g, i, none⟩ v) g A n c t' ∧ Kept (fun j => j = g) w (w.setCell ⟨g, i, none⟩ v) := by
  have hk : Kept (fun j => j = g) w (w.setCell ⟨g, i, none⟩ v) := (Kept.refl (fun j => j = g) w).setCell (p := ⟨g, i, none⟩) (.inl rfl) v
  refine ⟨⟨hg, ?_, ?_⟩, hk⟩
  · rw [set_cell_at _ h.blk, he]
  · rw [hm]
    exact h.ms.keep fun j hj => hk.block j (h.ms.lt j hj).2 (fun e => ownI_ne h.ms h.blk (by decide) (by rw [← e]; exact hj))

theorem tmade_any (h : IsT w g A n c t) : Calls Try.prog 42 #[.pointer (some ⟨g, 0, none⟩)] w fun e w' => e = .returned (.bool true) ∧ w = w' := by
  have c2 := h.cells.1.2.2.1
  have hn := h.good.b.1
  have hd : decide (0 < t.base) = true := decide_eq_true (by omega)
  clear h
  go_enter Try.func42, Try.ntmps42
  go_wp2
  go_ret
  exact ⟨rfl, rfl⟩
theorem tmade_nil (w : World) : Calls Try.prog 42 #[.pointer none] w fun e w' => e = .returned (.bool false) ∧ w = w' := by
  go_enter Try.func42, Try.ntmps42
  go_wp2
  go_ret
  exact ⟨rfl, rfl⟩

theorem ret_int {a b : Int} (h : a = b) : Ending.returned (.int .i64 a) = .returned (.int .i64 b) := by rw [h]
def nearN (x lo hi : Int) : Int := min (max x lo) hi
theorem twithin_any (x lo hi : Int) (w : World) : Calls Try.prog 40 #[.int .i64 x, .int .i64 lo, .int .i64 hi] w fun e w' => e = .returned (.int .i64 (nearN x lo hi)) ∧ w = w' := by
  go_enter Try.func40, Try.ntmps40
  go_wp2
  all_goals go_ret
  all_goals exact ⟨ret_int (by unfold nearN; omega), rfl⟩
end
end Go.Proofs.Ytgdncmkhcdmjoaa
