/-
  Granters, clocks and a holder in memory: what a call on one leaves of the others. No condition.
-/
import Derived.Test.YtgdncmkhcdmjoaaLeaseO
import Derived.Test.YtgdncmkhcdmjoaaElectT
set_option linter.unusedSimpArgs false
set_option linter.unusedVariables false
namespace Go.Proofs.Ytgdncmkhcdmjoaa
open Go.RowKit
/-- A stretch of time. -/
structure Pc where
  T : Int
  t0 : Int
  t1 : Int
  t2 : Int
  t3 : Int
  ask : Int
  lost : Bool
  rv : Int
def Pc.cells (q : Pc) : List Value := [.int .i64 q.T, .int .i64 q.t0, .int .i64 q.t1, .int .i64 q.t2, .int .i64 q.t3, .int .i64 q.ask, .bool q.lost, .int .i64 q.rv]
def Pc.tick (q : Pc) : Nat → Int := fun k => if k = 0 then q.t0 else if k = 1 then q.t1 else if k = 2 then q.t2 else q.t3
def HasPc (w : World) (B : Nat) (a : Option Addr) (ts : List Pc) : Prop := ∀ k (h : k < ts.length), ∃ b o, a = some ⟨b, o, none⟩ ∧ b < B ∧ w.rangeAt b (o + k * 8) ts[k].cells
theorem HasPc.below {w w' : World} {B : Nat} {a : Option Addr} {ts : List Pc} (h : HasPc w B a ts) (hb : Below B w w') : HasPc w' B a ts := by
  intro k hk
  obtain ⟨b, o, e, h1, h2⟩ := h k hk
  exact ⟨b, o, e, h1, fun i u hu => (World.cell?_of_block (w := w) (a := ⟨b, o + k * 8 + i, none⟩) (hb.block b h1)).trans (h2 i u hu)⟩
theorem rowPG : RowT 43 67 1 8 (.pointer none) := ⟨Try.underlying67, by kernel_rfl, rfl, by omega⟩
/-- Blocks of unlike kinds are two. -/
theorem two_kinds {w : World} {i j : Nat} {a b : Array Value} {s t : TypeId} (h : w.heap[i]? = some (.cells a s (0, 0))) (h' : w.heap[j]? = some (.cells b t (0, 0))) (hn : s ≠ t) : ¬ i = j := fun e => by
  rw [e, h'] at h
  injection h with h
  injection h with _ h
  exact hn h.symm
theorem clv_four (k : Nat) (hk : k < 4) : k = 0 ∨ k = 1 ∨ k = 2 ∨ k = 3 := by omega
def clv (cl : Nat → Int) : Array Value := #[.int .i64 (cl 0), .int .i64 (cl 1), .int .i64 (cl 2), .int .i64 (cl 3)]
theorem clv_at {w : World} {cb : Nat} {cl : Nat → Int} (h : w.heap[cb]? = some (.cells (clv cl) 68 (0, 0))) {k : Nat} (hk : k < 4) : w.cell? ⟨cb, k, none⟩ = some (.int .i64 (cl k)) := by
  rcases clv_four k hk with rfl | rfl | rfl | rfl <;> exact (row_cells h _).1
theorem clv_set {w : World} {cb : Nat} {cl : Nat → Int} (h : w.heap[cb]? = some (.cells (clv cl) 68 (0, 0))) {k : Nat} (hk : k < 4) (x : Int) : (w.setCell ⟨cb, k, none⟩ (.int .i64 x)).heap[cb]? = some (.cells (clv (fun z => if z = k then x else cl z)) 68 (0, 0)) := by
  rw [set_cell_at _ h]
  rcases clv_four k hk with rfl | rfl | rfl | rfl <;> rfl
theorem pc_cells {w : World} {p : Nat} {q : Pc} {t : TypeId} (h : w.heap[p]? = some (.cells q.cells.toArray t (0, 0))) : w.cell? ⟨p, 0, none⟩ = some (.int .i64 q.T) ∧ (∀ k, k < 4 → w.cell? ⟨p, 1 + k, none⟩ = some (.int .i64 (q.tick k))) ∧ w.cell? ⟨p, 5, none⟩ = some (.int .i64 q.ask) ∧ w.cell? ⟨p, 6, none⟩ = some (.bool q.lost) ∧ w.cell? ⟨p, 7, none⟩ = some (.int .i64 q.rv) := by
  refine ⟨(row_cells h 0).1, fun k hk => ?_, (row_cells h 5).1, (row_cells h 6).1, (row_cells h 7).1⟩
  rcases clv_four k hk with rfl | rfl | rfl | rfl
  · exact (row_cells h 1).1
  · exact (row_cells h 2).1
  · exact (row_cells h 3).1
  · exact (row_cells h 4).1
/-- What is there: the granters, the holder, the clocks, the two ballots. -/
structure LSI (w : World) (gs : List Nat) (v : Value) (S : Nat → Gr) (g : Nat) (A : Option Addr) (n c mb : Nat) (q : Hd) (cb : Nat) (cl : Nat → Int) (bi bv : Nat) (wr : World) : Prop where
  row : OwnR wr w.heap.size 43 1 v (ptrs gs)
  gr : ∀ i (h : i < gs.length), w.heap.size ≤ gs[i] ∧ IsG wr gs[i] (S i)
  nd : gs.Nodup
  h : IsH wr g A n c mb q
  cl : wr.heap[cb]? = some (.cells (clv cl) 68 (0, 0))
  bi : wr.heap[bi]? = some (.cells #[.int .i64 1, .int .i64 1] 46 (0, 0))
  bv : wr.heap[bv]? = some (.cells #[.int .i64 2, .int .i64 2] 46 (0, 0))
  bel : Below w.heap.size w wr
  z : w.heap.size ≤ g ∧ w.heap.size ≤ mb ∧ w.heap.size ≤ cb
section
variable {w wr w' : World} {gs : List Nat} {v : Value} {S : Nat → Gr} {g : Nat} {A : Option Addr} {n c mb : Nat} {q : Hd} {cb : Nat} {cl : Nat → Int} {bi bv : Nat}
theorem LSI.below (h : LSI w gs v S g A n c mb q cb cl bi bv wr) (hb : Below wr.heap.size wr w') : LSI w gs v S g A n c mb q cb cl bi bv w' :=
  ⟨h.row.below hb, fun i hi => ⟨(h.gr i hi).1, (h.gr i hi).2.below hb⟩, h.nd, h.h.below hb, (hb.block _ (lt_of_block h.cl)).trans h.cl, (hb.block _ (lt_of_block h.bi)).trans h.bi, (hb.block _ (lt_of_block h.bv)).trans h.bv, h.bel.trans (hb.mono h.bel.size), h.z⟩
theorem LSI.congr {S' : Nat → Gr} (h : LSI w gs v S g A n c mb q cb cl bi bv wr) (he : ∀ i, i < gs.length → S i = S' i) : LSI w gs v S' g A n c mb q cb cl bi bv wr :=
  ⟨h.row, fun i hi => by rw [← he i hi]; exact h.gr i hi, h.nd, h.h, h.cl, h.bi, h.bv, h.bel, h.z⟩
theorem lsi_cl {cl' : Nat → Int} (h : LSI w gs v S g A n c mb q cb cl bi bv wr) (he : ∀ y, cl y = cl' y) : LSI w gs v S g A n c mb q cb cl' bi bv wr := by
  have e : cl = cl' := funext he
  subst e
  exact h
theorem lsi_cl4 {cl' : Nat → Int} (h : LSI w gs v S g A n c mb q cb cl bi bv wr) (he : ∀ y, y < 4 → cl y = cl' y) : LSI w gs v S g A n c mb q cb cl' bi bv wr := by
  have e : clv cl = clv cl' := by unfold clv; rw [he 0 (by omega), he 1 (by omega), he 2 (by omega), he 3 (by omega)]
  exact ⟨h.row, h.gr, h.nd, h.h, e ▸ h.cl, h.bi, h.bv, h.bel, h.z⟩
theorem LSI.slc (h : LSI w gs v S g A n c mb q cb cl bi bv wr) : ∃ b c, v = .slice b gs.length c := by
  obtain ⟨A, n, c, e, h1, _⟩ := h.row.form
  have h2 := h1.out
  simp only [ptrs, List.length_map] at h2
  exact ⟨A, c, by rw [e, h2]⟩
theorem LSI.at_ (h : LSI w gs v S g A n c mb q cb cl bi bv wr) {j : Nat} (hj : j < gs.length) : ∃ b, (∃ c, v = .slice (some ⟨b, 0, none⟩) gs.length c) ∧ wr.cell? ⟨b, j, none⟩ = some (.pointer (some ⟨gs[j], 0, none⟩)) := by
  obtain ⟨A, n, c, e, h1, _, _, h2, _⟩ := h.row.form
  have h3 := h1.out
  simp only [ptrs, List.length_map] at h3
  obtain ⟨b, rfl, hr, _⟩ := h2 j (by simp [ptrs]; exact hj)
  refine ⟨b, ⟨c, by rw [e, h3]⟩, ?_⟩
  have := hr 0 (.pointer (some ⟨gs[j], 0, none⟩)) (by simp [ptrs])
  simpa using this
theorem row_not {b : Nat} {a : Array Value} {t : TypeId} (hr : OwnR wr w.heap.size 43 1 v (ptrs gs)) (hb : wr.heap[b]? = some (.cells a t (0, 0))) (ht : t ≠ 43) : ∀ j, v.ownBlock = some j → ¬ j = b := fun j hj => by
  obtain ⟨cur, hc⟩ := hr.typed j hj
  exact two_kinds hc hb (fun e => ht e.symm)
/-- One of the granters goes on. -/
theorem LSI.stepG (h : LSI w gs v S g A n c mb q cb cl bi bv wr) {j : Nat} (hj : j < gs.length) {G' : Gr} (hi : IsG w' gs[j] G') (hk : Kept (fun x => x = gs[j]) wr w') : LSI w gs v (fun i => if i = j then G' else S i) g A n c mb q cb cl bi bv w' := by
  obtain ⟨hg0, hG⟩ := h.gr j hj
  refine ⟨h.row.keep fun b hb => hk.block b (h.row.lt b hb).2 (row_not h.row hG.blk (by decide) b hb), fun i hi' => ⟨(h.gr i hi').1, ?_⟩, h.nd, h.h.kept hk hG.blk (by decide) (by decide), (hk.block _ (lt_of_block h.cl) (two_kinds h.cl hG.blk (by decide))).trans h.cl, (hk.block _ (lt_of_block h.bi) (two_kinds h.bi hG.blk (by decide))).trans h.bi, (hk.block _ (lt_of_block h.bv) (two_kinds h.bv hG.blk (by decide))).trans h.bv, h.bel.trans (hk.below h.bel.size (fun x hx => by omega)), h.z⟩
  by_cases e : i = j
  · subst e
    rw [if_pos rfl]
    exact hi
  · rw [if_neg e]
    exact (h.gr i hi').2.kept hk (fun e' => e (nodup_inj h.nd hi' hj e'))
/-- The holder goes on. -/
theorem LSI.stepH (h : LSI w gs v S g A n c mb q cb cl bi bv wr) {q' : Hd} (hi : IsH w' g A n c mb q') (hk : Kept (fun x => x = mb) wr w') : LSI w gs v S g A n c mb q' cb cl bi bv w' := by
  have hm := fun {b : Nat} {a : Array Value} {t : TypeId} (hb : wr.heap[b]? = some (.cells a t (0, 0))) => map_box h.h.map hb
  refine ⟨h.row.keep fun b hb => hk.block b (h.row.lt b hb).2 ?_, fun i hi' => ⟨(h.gr i hi').1, ⟨(h.gr i hi').2.good, (hk.block _ (h.gr i hi').2.lt (hm (h.gr i hi').2.blk)).trans (h.gr i hi').2.blk⟩⟩, h.nd, hi, (hk.block _ (lt_of_block h.cl) (hm h.cl)).trans h.cl, (hk.block _ (lt_of_block h.bi) (hm h.bi)).trans h.bi, (hk.block _ (lt_of_block h.bv) (hm h.bv)).trans h.bv, h.bel.trans (hk.below h.bel.size (fun x hx => by rw [hx]; exact h.z.2.1)), h.z⟩
  obtain ⟨cur, hc⟩ := h.row.typed b hb
  exact hm hc
/-- The clocks go on. -/
theorem LSI.stepC (h : LSI w gs v S g A n c mb q cb cl bi bv wr) {cl' : Nat → Int} (hi : w'.heap[cb]? = some (.cells (clv cl') 68 (0, 0))) (hk : Kept (fun x => x = cb) wr w') : LSI w gs v S g A n c mb q cb cl' bi bv w' := by
  refine ⟨h.row.keep fun b hb => hk.block b (h.row.lt b hb).2 (row_not h.row h.cl (by decide) b hb), fun i hi' => ⟨(h.gr i hi').1, (h.gr i hi').2.kept hk (two_kinds (h.gr i hi').2.blk h.cl (by decide))⟩, h.nd, ?_, hi, (hk.block _ (lt_of_block h.bi) (two_kinds h.bi h.cl (by decide))).trans h.bi, (hk.block _ (lt_of_block h.bv) (two_kinds h.bv h.cl (by decide))).trans h.bv, h.bel.trans (hk.below h.bel.size (fun x hx => by rw [hx]; exact h.z.2.2)), h.z⟩
  exact h.h.kept hk h.cl (by decide) (by decide)
/-- A slice of ints, made later, grows. -/
theorem LSI.stepF (h : LSI w gs v S g A n c mb q cb cl bi bv wr) {fb : Nat} {u : Value} {xs : List Int} (ho : OwnI wr fb u xs) (hk : Kept (fun j => u.ownBlock = some j) wr w') (hb : w.heap.size ≤ fb) (hm : ∀ j, (Value.slice A n c).ownBlock = some j → j < fb) : LSI w gs v S g A n c mb q cb cl bi bv w' := by
  have hno : ∀ {b : Nat} {a : Array Value} {t : TypeId}, wr.heap[b]? = some (.cells a t (0, 0)) → t ≠ 3 → w'.heap[b]? = some (.cells a t (0, 0)) := fun {b a t} hc ht => (hk.block b (lt_of_block hc) (fun e => ownI_ne ho hc ht e)).trans hc
  refine ⟨h.row.keep fun b hb' => hk.block b (h.row.lt b hb').2 (fun e => ?_), fun i hi => ⟨(h.gr i hi).1, (h.gr i hi).2.good, hno (h.gr i hi).2.blk (by decide)⟩, h.nd, ?_, hno h.cl (by decide), hno h.bi (by decide), hno h.bv (by decide), h.bel.trans (hk.below h.bel.size (fun x hx => by have := (ho.lt x hx).1; omega)), h.z⟩
  · obtain ⟨cur, hc⟩ := h.row.typed b hb'
    exact ownI_ne ho hc (by decide) e
  · refine ⟨h.h.good, hno h.h.blk (by decide), h.h.ms.keep fun j hj => hk.block j (h.h.ms.lt j hj).2 (fun e => ?_), h.h.map.keep (hk.block mb h.h.map.lt (fun e => map_not h.h.map ho mb e rfl))⟩
    have h1 := (ho.lt j e).1
    have h2 := hm j hj
    omega
/-- Ahead of the clocks: the granters so far, the holder, the ballots. -/
structure GsI (w : World) (gs : List Nat) (v : Value) (G : Gr) (g : Nat) (A : Option Addr) (n c mb : Nat) (q : Hd) (bi bv : Nat) (wr : World) : Prop where
  row : OwnR wr w.heap.size 43 1 v (ptrs gs)
  gr : ∀ i (h : i < gs.length), w.heap.size ≤ gs[i] ∧ IsG wr gs[i] G
  nd : gs.Nodup
  h : IsH wr g A n c mb q
  bi : wr.heap[bi]? = some (.cells #[.int .i64 1, .int .i64 1] 46 (0, 0))
  bv : wr.heap[bv]? = some (.cells #[.int .i64 2, .int .i64 2] 46 (0, 0))
  bel : Below w.heap.size w wr
  z : w.heap.size ≤ g ∧ w.heap.size ≤ mb
variable {G : Gr}
theorem GsI.below (h : GsI w gs v G g A n c mb q bi bv wr) (hb : Below wr.heap.size wr w') : GsI w gs v G g A n c mb q bi bv w' :=
  ⟨h.row.below hb, fun i hi => ⟨(h.gr i hi).1, (h.gr i hi).2.below hb⟩, h.nd, h.h.below hb, (hb.block _ (lt_of_block h.bi)).trans h.bi, (hb.block _ (lt_of_block h.bv)).trans h.bv, h.bel.trans (hb.mono h.bel.size), h.z⟩
theorem GsI.slc (h : GsI w gs v G g A n c mb q bi bv wr) : ∃ b c, v = .slice b gs.length c := by
  obtain ⟨A, n, c, e, h1, _⟩ := h.row.form
  have h2 := h1.out
  simp only [ptrs, List.length_map] at h2
  exact ⟨A, c, by rw [e, h2]⟩
theorem GsI.push (h : GsI w gs v G g A n c mb q bi bv wr) {x : Nat} {w3 : World} (hx : wr.heap.size ≤ x) (hb : Below wr.heap.size wr w') (hi : IsG w' x G) {v3 : Value} (ho : OwnR w3 w.heap.size 43 1 v3 (ptrs gs ++ [[Value.pointer (some ⟨x, 0, none⟩)]])) (hgr : w'.grownBy w3 v.ownBlock) : GsI w (gs ++ [x]) v3 G g A n c mb q bi bv w3 := by
  have h' := h.below hb
  have hk : Kept (fun j => v.ownBlock = some j) w' w3 := Kept.of_grown (F := fun j => v.ownBlock = some j) hgr (fun j hj => hj)
  have hno : ∀ {b : Nat} {a : Array Value} {t : TypeId}, w'.heap[b]? = some (.cells a t (0, 0)) → t ≠ 43 → w3.heap[b]? = some (.cells a t (0, 0)) := fun {b a t} hc ht => (hk.block b (lt_of_block hc) (fun e => row_not h'.row hc ht b e rfl)).trans hc
  refine ⟨by unfold ptrs; rw [List.map_append]; exact ho, fun i hi' => ?_, ?_, ?_, hno h'.bi (by decide), hno h'.bv (by decide), h'.bel.trans (hk.below h'.bel.size (fun y hy => (h'.row.lt y hy).1)), h.z⟩
  · rw [List.getElem_append]
    split
    · rename_i hlt
      obtain ⟨h1, h2⟩ := h'.gr i hlt
      exact ⟨h1, ⟨h2.good, hno h2.blk (by decide)⟩⟩
    · have e : i = gs.length := by simp at hi'; omega
      subst e
      refine ⟨?_, ?_⟩
      · simp
        have := h.bel.size
        omega
      · simp
        exact ⟨hi.good, hno hi.blk (by decide)⟩
  · rw [List.nodup_append]
    refine ⟨h.nd, by simp, fun a ha y hy e => ?_⟩
    simp at hy
    subst hy e
    obtain ⟨i, hi', rfl⟩ := List.mem_iff_getElem.1 ha
    have := (h.gr i hi').2.lt
    omega
  · refine ⟨h'.h.good, hno h'.h.blk (by decide), h'.h.ms.keep fun j hj => hk.block j (h'.h.ms.lt j hj).2 (fun e => ?_), h'.h.map.keep (hk.block mb h'.h.map.lt (fun e => ?_))⟩
    · obtain ⟨cur, hc⟩ := h'.row.typed j e
      exact ownI_ne h'.h.ms hc (by decide) hj
    · obtain ⟨cur, hc⟩ := h'.row.typed mb e
      exact map_box h'.h.map hc rfl
theorem GsI.clocks (h : GsI w gs v G g A n c mb q bi bv wr) : LSI w gs v (fun _ => G) g A n c mb q wr.heap.size (fun _ => 0) bi bv (wr.alloc (.cells #[.int .i64 0, .int .i64 0, .int .i64 0, .int .i64 0] 68)) := by
  have hb := (Below.refl _ wr).alloc (Nat.le_refl _) (.cells #[.int .i64 0, .int .i64 0, .int .i64 0, .int .i64 0] 68)
  have h' := h.below hb
  exact ⟨h'.row, h'.gr, h'.nd, h'.h, heap_alloc_new wr _, h'.bi, h'.bv, h'.bel, h.z.1, h.z.2, h.bel.size⟩
end
end Go.Proofs.Ytgdncmkhcdmjoaa
