/-
  The learner's calls wrapped; the head of its laws. Conditions: the numbers are of 64 bits; what is read is in reach.
  Missing of package learner, a vote made by the laws; the learner's calls wrapped. Conditions: the numbers are of 64 bits.
  Voted of package learner. Conditions: the numbers are of 64 bits; the vote's value is in reach.
  agreed of package learner. Conditions: something was heard of the slot; the vote's value is in reach.
  keep of package learner, walked. Conditions: the vote is right, its slot one of which something may be heard.
  keep of package learner. Conditions: the vote is right, its slot one of which something may be heard.
-/
import Derived.Test.YtnngmapphacpkaaML0
import Derived.Deep.RegionHeld3
set_option linter.unusedSimpArgs false
set_option linter.unusedVariables false

namespace Go.Proofs.Ytnngmapphacpkaa
open Go.RowKit

theorem run_vbal (s r n k : Int) (u v : Value) (W : World) : (Instr.field 42 (.agg #[.int .i64 s, .int .i64 r, .int .i64 n, .int .i64 k, u, v]) 1).run Try.prog W = .ok (.agg #[.int .i64 r, .int .i64 n]) W := by
  have hs : (sizeOf 40).run Try.prog W = .ok 2 W := by kernel_rfl
  have hag : (isAgg 40).run Try.prog W = .ok true W := by kernel_rfl
  have hu := Try.underlying42
  simp [Instr.field, underlying, hu, asAgg, part, hs, hag]
def balOf : Option Vt → Int × Int
  | none => (0, 0)
  | some y => (y.r, y.n)
theorem eqv_none (w : World) : (binOp .eql 84 (.map none) (.map none)).run Try.prog w = .ok (.bool true) w := by kernel_rfl
theorem eqv_some (b : Nat) (w : World) : (binOp .eql 84 (.map (some b)) (.map none)).run Try.prog w = .ok (.bool false) w := by kernel_rfl
section
variable {w w' : World} {F : Nat → Prop} {b : Nat}
theorem IsN.look {N : Int → Option Vt} (h : IsN w F b N) {q : Int} (hq : (Lit.int .i64 q).wf = true) : ∃ s0 k0 A n c D m d, (Instr.lookup 84 (.map (some b)) (.int .i64 q) false).run Try.prog w = .ok (.agg #[.int .i64 s0, .int .i64 (balOf (N q)).1, .int .i64 (balOf (N q)).2, .int .i64 k0, .slice A n c, .slice D m d]) w := by
  obtain ⟨M, h1, h2, h3⟩ := h
  have hl := h1.look Try.underlying84 false hq (zero_vote w)
  rw [if_neg (by simp)] at hl
  cases hN : N q with
  | none =>
    rw [h2 q hN] at hl
    exact ⟨0, 0, none, 0, 0, none, 0, 0, by rw [hl]; rfl⟩
  | some y =>
    obtain ⟨u, hu, A, n, c, D, m, d, rfl, _⟩ := h3 q y hN
    rw [hu] at hl
    exact ⟨y.s, y.v.k, A, n, c, D, m, d, by rw [hl]; rfl⟩
theorem IsN.store {N : Int → Option Vt} (h : IsN w F b N) (hr : ∀ k, (N k).isSome = true → 1 ≤ k ∧ k ≤ 9) {q : Int} (hq : (Lit.int .i64 q).wf = true) {u : Value} {y : Vt} (hu : IsVote w F u y) :
    ∃ w', (Instr.mapUpdate 84 (.map (some b)) (.int .i64 q) u).run Try.prog w = .ok () w' ∧ IsN w' F b (fun z => if z = q then some y else N z) ∧ w.mapTurned w' b := by
  obtain ⟨M, h1, h2, h3⟩ := h
  obtain ⟨w', hrun, hM, ht⟩ := h1.store Try.underlying84 (fun y v hy => by
    have := hr y (by
      cases hD : N y with
      | none => rw [h2 y hD] at hy; cases hy
      | some _ => rfl)
    omega) hq u
  have hss := RowsSame.of_map ht
  refine ⟨w', hrun, ⟨_, hM, fun z hz => ?_, fun z v hz => ?_⟩, ht⟩
  · dsimp only at hz ⊢
    by_cases e : z = q
    · rw [if_pos e] at hz; cases hz
    · rw [if_neg e] at hz ⊢
      exact h2 z hz
  · dsimp only at hz ⊢
    by_cases e : z = q
    · rw [if_pos e] at hz ⊢
      cases hz
      exact ⟨u, rfl, hu.same hss⟩
    · rw [if_neg e] at hz ⊢
      obtain ⟨u', h4, h5⟩ := h3 z v hz
      exact ⟨u', h4, h5.same hss⟩
theorem IsVs.look {I : Int → Nat} {V : Int → Option (Int → Option Vt)} (h : IsVs w b I V) {s : Int} (hs : (Lit.int .i64 s).wf = true) :
    (Instr.lookup 74 (.map (some b)) (.int .i64 s) false).run Try.prog w = .ok (.map (if (V s).isSome = true then some (I s) else none)) w := by
  have hl := IMap.look Try.underlying74 false h hs (zero_votes w)
  rw [if_neg (by simp)] at hl
  rw [hl]
  cases V s <;> rfl
theorem IsVs.store {I : Int → Nat} {V : Int → Option (Int → Option Vt)} (h : IsVs w b I V) (hr : ∀ s, (V s).isSome = true → 1 ≤ s ∧ s ≤ 1099511627776) {s : Int} (hs : (Lit.int .i64 s).wf = true) (i : Nat) (N : Int → Option Vt) :
    ∃ w', (Instr.mapUpdate 74 (.map (some b)) (.int .i64 s) (.map (some i))).run Try.prog w = .ok () w' ∧ IsVs w' b (fun y => if y = s then i else I y) (fun y => if y = s then some N else V y) ∧ w.mapTurned w' b := by
  obtain ⟨w', hrun, hM, ht⟩ := IMap.store Try.underlying74 h (fun y v hy => hr y (by
    cases hV : V y with
    | none => rw [hV] at hy; cases hy
    | some _ => rfl)) hs (.map (some i))
  refine ⟨w', hrun, ?_, ht⟩
  have e : (fun y => (if y = s then some N else V y).map fun _ => Value.map (some (if y = s then i else I y))) = fun y => if y = s then some (Value.map (some i)) else (V y).map fun _ => Value.map (some (I y)) := by
    funext y
    by_cases e : y = s
    · rw [if_pos e, if_pos e, if_pos e]; rfl
    · rw [if_neg e, if_neg e, if_neg e]
  unfold IsVs
  rw [e]
  exact hM
end
/-- The votes of a slot, set. -/
def Lv.setV (l : Lv) (s : Int) (N : Int → Option Vt) : Lv := { l with V := fun y => if y = s then some N else l.V y }
theorem Lv.setV_same (l : Lv) (s : Int) (N : Int → Option Vt) : (l.setV s N).V s = some N := by simp [Lv.setV]
theorem Lv.setV_twice (l : Lv) (s : Int) (N N' : Int → Option Vt) : (l.setV s N).setV s N' = l.setV s N' := by
  unfold Lv.setV
  congr 1
  funext y
  by_cases e : y = s <;> simp [e]
theorem Lv.Good.setV {l : Lv} (h : l.Good) {s : Int} {N : Int → Option Vt} (hs : l.next ≤ s ∧ s < l.next + 128 ∧ s ≤ 1099511627776) (hD : l.D s = none) (hN : ∀ k, (N k).isSome = true → 1 ≤ k ∧ k ≤ 9) : (l.setV s N).Good := by
  have hV : ∀ y, ((l.setV s N).V y).isSome = true → y = s ∨ (l.V y).isSome = true := fun y hy => by
    have hy' : (if y = s then some N else l.V y).isSome = true := hy
    by_cases e : y = s
    · exact .inl e
    · rw [if_neg e] at hy'; exact .inr hy'
  refine ⟨h.rt, h.nx, h.hd, fun y hy => ?_, h.dr, fun y hy => ?_, fun y N' hy => ?_⟩
  · rcases hV y hy with e | e
    · rw [e]; exact hs
    · exact h.vr y e
  · rcases hV y hy with e | e
    · rw [e]; exact hD
    · exact h.dj y e
  · have hy' : (if y = s then some N else l.V y) = some N' := hy
    by_cases e : y = s
    · rw [if_pos e] at hy'
      cases hy'
      exact hN
    · rw [if_neg e] at hy'
      exact h.nr y N' hy'
section
variable {w w1 w2 : World} {F : Nat → Prop} {g : Nat} {A : Option Addr} {n c vb db : Nat} {I : Int → Nat} {l : Lv}
/-- A slot of which nothing was heard yet gets a map of its own. -/
theorem IsL.begun (h : IsL w F g A n c vb db I l) {s : Int} (hs : l.next ≤ s ∧ s < l.next + 128 ∧ s ≤ 1099511627776) (hD : l.D s = none) (hV : l.V s = none) (hb : Below w.heap.size w w1) (hM : IMap w1 w.heap.size (fun _ => none))
    (ht : w1.mapTurned w2 vb) (hv : IsVs w2 vb (fun y => if y = s then w.heap.size else I y) (fun y => if y = s then some (fun _ => none) else l.V y)) :
    IsL w2 (fun j => F j ∨ j = w.heap.size) g A n c vb db (fun y => if y = s then w.heap.size else I y) (l.setV s (fun _ => none)) ∧ Kept F w w2 := by
  have h1 := h.below hb
  have kt := Kept.of_map ht
  have hss := RowsSame.of_map ht
  have hgo := h1.gno
  have hlt := hM.lt
  have hz := hb.size
  have hvl := h.Flt vb h.Fv
  have hdl := h.Flt db h.Fd
  have hne : ∀ y, (l.V y).isSome = true → y ≠ s := fun y hy e => by rw [e, hV] at hy; cases hy
  have hsV : ∀ y, ((l.setV s (fun _ => none)).V y).isSome = true → y = s ∨ y ≠ s ∧ (l.V y).isSome = true := fun y hy => by
    have hy' : (if y = s then some (fun _ => none) else l.V y).isSome = true := hy
    by_cases e : y = s
    · exact .inl e
    · rw [if_neg e] at hy'; exact .inr ⟨e, hy'⟩
  have hI1 : (if s = s then w.heap.size else I s) = w.heap.size := if_pos rfl
  refine ⟨⟨h.good.setV hs hD (fun k hk => by cases hk), (kt.block g (h1.Flt g h1.Fg) hgo.1).trans h1.blk, h1.ms.keep fun j hj => ?_, hv, fun y N hy => ?_, ?_, fun a b ha hb' e => ?_, fun y hy => ?_, h.vd, .inl h.Fg, .inl h.Fv, .inl h.Fd, fun y hy => ?_, fun j hj => .inl (h.Fm j hj), fun j hj => ?_⟩, (Kept.of_below (F := F) hb).step kt (fun j hj => .inl (by rw [hj]; exact h.Fv))⟩
  · obtain ⟨cur, hc⟩ := ownsRow_typed h1.ms j hj
    exact hss j cur _ hc (by decide)
  · have hy' : (if y = s then some (fun _ => none) else l.V y) = some N := hy
    by_cases e : y = s
    · rw [if_pos e] at hy'
      cases hy'
      rw [if_pos e]
      exact ⟨fun _ => none, hM.keep (kt.block _ hlt (by omega)), fun _ _ => rfl, fun _ _ e => by cases e⟩
    · rw [if_neg e] at hy'
      rw [if_neg e]
      have hys : (l.V y).isSome = true := by rw [hy']; rfl
      exact ((h1.inn y N hy').same hss (kt.block _ (h1.Flt _ (h1.Fi y hys)) (h.iv y hys).1)).more (fun j hj => .inl hj)
  · exact (h1.dec.same hss (kt.block _ (h1.Flt _ h1.Fd) (fun e => h.vd e.symm))).more (fun j hj => .inl hj)
  · rcases hsV a ha with e1 | ⟨e1, a1⟩
    · rcases hsV b hb' with e2 | ⟨e2, b1⟩
      · rw [e1, e2]
      · rw [if_pos e1, if_neg e2] at e
        have := h.Flt _ (h.Fi b b1)
        omega
    · rcases hsV b hb' with e2 | ⟨e2, b1⟩
      · rw [if_neg e1, if_pos e2] at e
        have := h.Flt _ (h.Fi a a1)
        omega
      · rw [if_neg e1, if_neg e2] at e
        exact h.inj a b a1 b1 e
  · rcases hsV y hy with e1 | ⟨e1, a1⟩
    · rw [if_pos e1]; omega
    · rw [if_neg e1]; exact h.iv y a1
  · rcases hsV y hy with e1 | ⟨e1, a1⟩
    · rw [if_pos e1]; exact .inr rfl
    · rw [if_neg e1]; exact .inl (h.Fi y a1)
  · have := kt.size
    rcases hj with hj | hj
    · have := h1.Flt j hj
      omega
    · omega
/-- A vote is kept. -/
theorem IsL.voted (h : IsL w F g A n c vb db I l) {s : Int} {N N' : Int → Option Vt} (hV : l.V s = some N) (hN' : ∀ k, (N' k).isSome = true → 1 ≤ k ∧ k ≤ 9) (ht : w.mapTurned w2 (I s)) (hv : IsN w2 F (I s) N') : IsL w2 F g A n c vb db I (l.setV s N') ∧ Kept F w w2 := by
  have kt := Kept.of_map ht
  have hss := RowsSame.of_map ht
  have hsm : (l.V s).isSome = true := by rw [hV]; rfl
  have hgo := h.gno
  have hsV : ∀ y, ((l.setV s N').V y).isSome = true → (l.V y).isSome = true := fun y hy => by
    have hy' : (if y = s then some N' else l.V y).isSome = true := hy
    by_cases e : y = s
    · rw [e]; exact hsm
    · rw [if_neg e] at hy'; exact hy'
  have hiv := h.iv s hsm
  refine ⟨⟨h.good.setV (h.good.vr s hsm) (h.good.dj s hsm) hN', (kt.block g (h.Flt g h.Fg) (fun e => hgo.2.2 s hsm e.symm)).trans h.blk, h.ms.keep fun j hj => ?_, ?_, fun y M hy => ?_, h.dec.same hss (kt.block _ (h.Flt _ h.Fd) (fun e => hiv.2 e.symm)), fun a b ha hb => h.inj a b (hsV a ha) (hsV b hb), fun y hy => h.iv y (hsV y hy), h.vd, h.Fg, h.Fv, h.Fd, fun y hy => h.Fi y (hsV y hy), h.Fm, fun j hj => Nat.lt_of_lt_of_le (h.Flt j hj) kt.size⟩, kt.weak (fun j hj => by rw [hj]; exact h.Fi s hsm)⟩
  · obtain ⟨cur, hc⟩ := ownsRow_typed h.ms j hj
    exact hss j cur _ hc (by decide)
  · have e : (fun y => ((l.setV s N').V y).map fun _ => Value.map (some (I y))) = fun y => (l.V y).map fun _ => Value.map (some (I y)) := by
      funext y
      show ((if y = s then some N' else l.V y).map fun _ => Value.map (some (I y))) = _
      by_cases e : y = s
      · rw [if_pos e, e, hV]; rfl
      · rw [if_neg e]
    show IMap w2 vb (fun y => ((l.setV s N').V y).map fun _ => Value.map (some (I y)))
    rw [e]
    exact IMap.keep h.vs (kt.block vb (h.Flt vb h.Fv) (fun e => hiv.1 e.symm))
  · have hy' : (if y = s then some N' else l.V y) = some M := hy
    by_cases e : y = s
    · rw [if_pos e] at hy'
      cases hy'
      rw [e]
      exact hv
    · rw [if_neg e] at hy'
      have hys : (l.V y).isSome = true := by rw [hy']; rfl
      exact (h.inn y M hy').same hss (kt.block _ (h.Flt _ (h.Fi y hys)) (fun e' => e (h.inj y s hys hsm e')))
end
end Go.Proofs.Ytnngmapphacpkaa

namespace Go.Proofs.Ytnngmapphacpkaa
open Go.RowKit

/-- What keep does with a vote of a node. -/
def Lv.kept (l : Lv) (q : Int) (y : Vt) : Lv × Bool :=
  if belB (balOf (((l.V y.s).getD fun _ => none) q)).1 (balOf (((l.V y.s).getD fun _ => none) q)).2 y.r y.n = true then (l.setV y.s (fun z => if z = q then some y else ((l.V y.s).getD fun _ => none) z), true) else (l, false)
theorem cmp_bel (a b c d : Int) : decide (cmp2 a b c d ≤ 0) = !belB c d a b := by
  unfold cmp2 pick2 cmp1 belB
  by_cases h1 : a < c
  · rw [if_pos h1, if_pos (by omega), decide_eq_true (by omega), decide_eq_false (by omega)]; rfl
  · rw [if_neg h1]
    by_cases h2 : c < a
    · rw [if_pos h2, if_pos (by omega), decide_eq_false (by omega), decide_eq_true (by omega)]; rfl
    · rw [if_neg h2, if_neg (by simp)]
      by_cases h3 : b < d
      · rw [if_pos h3, decide_eq_true (by omega), decide_eq_false (by omega)]; rfl
      · rw [if_neg h3]
        by_cases h4 : d < b
        · rw [if_pos h4, decide_eq_false (by omega), decide_eq_true (by omega)]; rfl
        · rw [if_neg h4, decide_eq_true (by omega), decide_eq_false (by omega)]; rfl
/-- What a call leaves that may turn the learner; its own map of slots may be another. -/
def KEnds (F : Nat → Prop) (g : Nat) (A : Option Addr) (n c vb db : Nat) (l : Lv) (r : Value) (w : World) (e : Ending) (w' : World) : Prop :=
  e = .returned r ∧ ∃ I' F', IsL w' F' g A n c vb db I' l ∧ Kept F w w' ∧ ∀ j, F' j → F j ∨ w.heap.size ≤ j
section
variable {w w1 w2 : World} {F : Nat → Prop} {g : Nat} {A : Option Addr} {n c vb db : Nat} {I : Int → Nat} {l : Lv}
theorem six_cells {w : World} {p : Nat} {a b c d e f : Value} {t : TypeId} (h : w.heap[p]? = some (.cells #[a, b, c, d, e, f] t (0, 0))) : (w.cell? ⟨p, 0, none⟩ = some a ∧ w.cell? ⟨p, 1, none⟩ = some b ∧ w.cell? ⟨p, 2, none⟩ = some c ∧ w.cell? ⟨p, 3, none⟩ = some d ∧ w.cell? ⟨p, 4, none⟩ = some e ∧ w.cell? ⟨p, 5, none⟩ = some f) ∧ ∀ i, w.frozen? ⟨p, i, none⟩ = false :=
  ⟨⟨(row_cells h 0).1, (row_cells h 1).1, (row_cells h 2).1, (row_cells h 3).1, (row_cells h 4).1, (row_cells h 5).1⟩, fun i => (row_cells h i).2⟩
set_option maxHeartbeats 3200000 in
set_option maxRecDepth 20000 in
theorem ekeep_any (h : IsL w F g A n c vb db I l) (y : Vt) (q : Int) (hs : l.next ≤ y.s ∧ y.s < l.next + 128 ∧ y.s ≤ 1099511627776) (hD : l.D y.s = none) (hq : 1 ≤ q ∧ q ≤ 9) (hb : valB y.r y.n = true) (hok : chkV y.v.k y.v.cs y.v.ns = 0)
    (Av : Option Addr) (nv cv : Nat) (Dv : Option Addr) (mv dv : Nat) (hx : ArgV w F Av nv Dv mv y.v) :
    Calls Try.prog 37 #[.pointer (some ⟨g, 0, none⟩), .int .i64 q, .agg #[.int .i64 y.s, .int .i64 y.r, .int .i64 y.n, .int .i64 y.v.k, .slice Av nv cv, .slice Dv mv dv]] w (LEnds F g A n c vb db (l.kept q y).1 (.bool (l.kept q y).2) w) := by
  have hwf : (Lit.int .i64 y.s).wf = true := WalkArith.wf_i64 (by have := h.good.nx; omega)
  have HH0 : Hid (∀ j, F j → j < w.heap.size) := hide h.Flt
  have hwq : (Lit.int .i64 q).wf = true := WalkArith.wf_i64 (by omega)
  have hp0 := heap_alloc_new w (.cells #[.int .i64 y.s, .int .i64 y.r, .int .i64 y.n, .int .i64 y.v.k, .slice Av nv cv, .slice Dv mv dv] 42)
  have hb0 : Below w.heap.size w (w.alloc (.cells #[.int .i64 y.s, .int .i64 y.r, .int .i64 y.n, .int .i64 y.v.k, .slice Av nv cv, .slice Dv mv dv] 42)) := (Below.refl _ _).alloc (Nat.le_refl _) _
  go_enter Try.func37, Try.ntmps37
  go_upto_region 1 with fail
  generalize w.alloc (.cells #[.int .i64 y.s, .int .i64 y.r, .int .i64 y.n, .int .i64 y.v.k, .slice Av nv cv, .slice Dv mv dv] 42) = w0 at *
  have h0 := h.below hb0
  have hx0 := hx.kept (Kept.of_below (F := F) hb0)
  have hlk := IsVs.look (w := w0.drew) (I := I) (V := l.V) (b := vb) h0.vs hwf
  have c3 := h0.cells.1.2.2.2.1
  obtain ⟨⟨p0, p1, p2, p3, p4, p5⟩, pf⟩ := six_cells hp0
  have bd : Below w0.heap.size w0 w0.drew := (Below.refl _ _).drew
  have HH := hide (h0.below bd)
  have HX := hide (hx0.kept (Kept.of_below (F := F) bd))
  have HB := hide (hb0.trans (bd.mono hb0.size))
  have HP : Hid (w0.drew.heap[w.heap.size]? = some (.cells #[.int .i64 y.s, .int .i64 y.r, .int .i64 y.n, .int .i64 y.v.k, .slice Av nv cv, .slice Dv mv dv] 42 (0, 0))) := hide hp0
  cases hV : l.V y.s with
  | none =>
    rw [hV] at hlk
    simp only [Option.isSome_none, Bool.false_eq_true, if_false] at hlk
    have HV := hide hV
    have hcmp := compare_any y.r y.n 0 0 w0.drew
    have hfl := fun u v W => run_vbal 0 0 0 0 u v W
    have heq := eqv_none
    have hln : ∀ W, (Instr.lookup 84 (.map none) (.int .i64 q) false).run Try.prog W = .ok (.agg #[.int .i64 0, .int .i64 0, .int .i64 0, .int .i64 0, .slice none 0 0, .slice none 0 0]) W := fun W => by
      have := Maps.look_nil (P := Try.prog) (w := W) false int_key Try.underlying84 (zero_vote W) (Maps.keyOf_int_mk Try.underlying3 hwq)
      simpa using this
    have hbel : belB 0 0 y.r y.n = true := by
      unfold valB at hb
      have := of_decide_eq_true hb
      unfold belB
      exact decide_eq_true (by omega)
    have hdc := cmp_bel y.r y.n 0 0
    rw [hbel] at hdc
    have HE2 : Hid (l.kept q y = ((l.setV y.s (fun _ => none)).setV y.s (fun z => if z = q then some y else none), true)) := hide (by
      unfold Lv.kept
      rw [hV, Lv.setV_twice]
      show (if belB 0 0 y.r y.n = true then _ else _) = _
      rw [if_pos hbel]
      rfl)
    have hmm := @run_makeMap Try.prog
    clear h h0 hx hx0 hV hp0 hb0 bd hbel
    go_cut [7] (fun s7 wx => s7 = .map none ∧ wx = w0.drew)
    case first =>
      go_region_law (fail)
      all_goals go_wp2_with fail
      all_goals go_meet
      all_goals exact ⟨rfl, rfl⟩
    obtain ⟨rfl, hwx⟩ := hcut
    rw [hwx]
    clear hlk c3 p0 p1 p2 p3 p4 p5 pf hwx
    generalize w0.drew = w1 at *
    obtain ⟨⟨p0, p1, p2, p3, p4, p5⟩, pf⟩ := six_cells HP.out
    go_wp2_with fail
    refine hcmp.mono ?_
    rintro e w2 ⟨rfl, hb2⟩
    clear hcmp p0 p1 p2 p3 p4 p5 pf
    have ba := (Below.refl _ w2).alloc (Nat.le_refl _) (.map #[] 0)
    have hM := IMap.new w2
    have hp2 := (ba.block _ (by have := lt_of_block HP.out; have := hb2.size; omega)).trans ((hb2.block _ (lt_of_block HP.out)).trans HP.out)
    go_upto_region 6 with fail
    have H2a := hide (HH.out.below hb2)
    have HX2 := hide (HX.out.kept (Kept.of_below (F := F) hb2))
    have HB2 := hide (HB.out.trans (hb2.mono HB.out.size))
    generalize hab : w2.alloc (.map #[] 0) = wa at *
    have bd : Below wa.heap.size wa wa.drew := (Below.refl _ _).drew
    have ha := (H2a.out.below ba).below bd
    obtain ⟨wv, hrun, hv, ht⟩ := ha.vs.store (fun y hy => by have := ha.good.vr y hy; have := ha.good.nx; omega) hwf w2.heap.size (fun _ => none)
    have hbd : Below w2.heap.size w2 wa.drew := ba.trans (bd.mono ba.size)
    obtain ⟨hI, hkI⟩ := H2a.out.begun hs hD HV.out hbd hM ht hv
    have hkt := Kept.of_map ht
    have hgo := ha.gno
    have hpv : wv.heap[w.heap.size]? = _ := (hkt.block w.heap.size (lt_of_block hp2) (fun e => by
      have := HH0.out vb ha.Fv
      omega)).trans hp2
    obtain ⟨⟨p0, _, _, _, _, _⟩, _⟩ := six_cells hp2
    have c3 : wa.cell? ⟨g, 3, none⟩ = some (.map (some vb)) := ha.cells.1.2.2.2.1
    have HI := hide hI
    have HPV := hide hpv
    have HX3 := hide ((HX2.out.kept (Kept.of_below (F := F) hbd)).kept (hkt.weak (fun j hj => by rw [hj]; exact ha.Fv)))
    have HK2 := hide ((Kept.of_below (F := F) HB2.out).step hkI (fun j hj => .inl hj))
    have HLT := hide (And.intro (lt_of_block HP.out) hb2.size)
    clear ha hv ht hI hkI hkt hgo hpv hp2 hM ba bd hbd hab
    go_cut [] (fun wx => wx = wv)
    case first =>
      go_region_law (fail)
      all_goals go_wp2_with fail
      all_goals go_meet
      all_goals rfl
    rw [hcut]
    clear hcut p0 c3 hrun
    case rest =>
      obtain ⟨⟨p0, p1, p2, p3, p4, p5⟩, pf⟩ := six_cells HPV.out
      have f3 := pf 3
      have f4 := pf 4
      have f5 := pf 5
      have HP2 := HPV
      have H2 := HI
      have hl8 := chkV_len hok
      have hx3 := HX3.out
      have hcl := vclone_any y.v.k Av Dv nv cv mv dv wv.heap.size y.v.cs y.v.ns wv hx3.hc hx3.hi (Nat.le_refl _) hx3.en hx3.em (by have := hx3.en; omega) (by have := hx3.em; omega)
      have HPF : Hid (¬ (F w.heap.size ∨ w.heap.size = w2.heap.size)) := hide (fun hf => by
        have := HLT.out
        rcases hf with hf | hf
        · have := HH0.out _ hf
          omega
        · omega)
      have HF1 : Hid (∀ j, (F j ∨ j = w2.heap.size) → F j ∨ w.heap.size ≤ j) := hide (fun j hj => by
        have := HLT.out
        rcases hj with hj | hj
        · exact .inl hj
        · exact .inr (by omega))
      have HV9 : Hid ((l.setV y.s (fun _ => none)).V y.s = some (fun _ => none)) := hide (Lv.setV_same _ _ _)
      clear pf hx3
      go_wp2_with fail
      refine hcl.mono ?_
      rintro e w3 ⟨A3, c3, D3, d3, rfl, ho3, hi3, hb3⟩
      have HN3 := hide (ownc_slice ho3)
      have hp3 := (hb3.block _ (lt_of_block HP2.out)).trans HP2.out
      have hkz : Kept (fun j => j = w.heap.size) w3 (((w3.setCell ⟨w.heap.size, 3, none⟩ (.int .i64 y.v.k)).setCell ⟨w.heap.size, 4, none⟩ (.slice A3 nv c3)).setCell ⟨w.heap.size, 5, none⟩ (.slice D3 mv d3)) :=
        (((Kept.refl (fun j => j = w.heap.size) w3).setCell (p := ⟨w.heap.size, 3, none⟩) (.inl rfl) _).setCell (p := ⟨w.heap.size, 4, none⟩) (.inl rfl) _).setCell (p := ⟨w.heap.size, 5, none⟩) (.inl rfl) _
      have hpz : (((w3.setCell ⟨w.heap.size, 3, none⟩ (.int .i64 y.v.k)).setCell ⟨w.heap.size, 4, none⟩ (.slice A3 nv c3)).setCell ⟨w.heap.size, 5, none⟩ (.slice D3 mv d3)).heap[w.heap.size]? = some (.cells #[.int .i64 y.s, .int .i64 y.r, .int .i64 y.n, .int .i64 y.v.k, .slice A3 nv c3, .slice D3 mv d3] 42 (0, 0)) := by simp [World.setCell, Array.getElem?_modify, hp3]
      obtain ⟨⟨q0, q1, q2, q3, q4, q5⟩, qf⟩ := six_cells hp3
      have g3 := qf 3
      have g4 := qf 4
      have g5 := qf 5
      have hkz' := (HK2.out.step (Kept.of_below (F := fun _ => False) hb3) (fun j hj => hj.elim)).step hkz (fun j hj => .inr (by omega))
      have h3 := H2.out.below hb3
      have H4 := hide (h3.kept hkz (fun j hj e => HPF.out (by rw [← e]; exact hj)))
      have HO := hide (And.intro (ho3.keep (w' := (((w3.setCell ⟨w.heap.size, 3, none⟩ (.int .i64 y.v.k)).setCell ⟨w.heap.size, 4, none⟩ (.slice A3 nv c3)).setCell ⟨w.heap.size, 5, none⟩ (.slice D3 mv d3))) fun j hj => hkz.block j (ho3.lt j hj).2 (by have := (ho3.lt j hj).1; have := lt_of_block HP2.out; omega)) (hi3.keep (w' := (((w3.setCell ⟨w.heap.size, 3, none⟩ (.int .i64 y.v.k)).setCell ⟨w.heap.size, 4, none⟩ (.slice A3 nv c3)).setCell ⟨w.heap.size, 5, none⟩ (.slice D3 mv d3))) fun j hj => hkz.block j (hi3.lt j hj).2 (by have := (hi3.lt j hj).1; have := lt_of_block HP2.out; omega)))
      have HZ := hide HK2.out.size
      clear hcl p0 p1 p2 p3 p4 p5 f3 f4 f5 qf hp3 h3
      go_upto_region 8 with fail
      generalize ((w3.setCell ⟨w.heap.size, 3, none⟩ (.int .i64 y.v.k)).setCell ⟨w.heap.size, 4, none⟩ (.slice A3 nv c3)).setCell ⟨w.heap.size, 5, none⟩ (.slice D3 mv d3) = w4 at *
      clear q0 q1 q2 q3 q4 q5 g3 g4 g5
      obtain ⟨⟨p0, p1, p2, p3, p4, p5⟩, _⟩ := six_cells hpz
      have h4 := H4.out
      have hst : StV w4 (fun j => (F j ∨ j = w2.heap.size) ∨ w.heap.size ≤ j ∧ j < w4.heap.size) A3 nv c3 D3 mv d3 ⟨y.v.k, y.v.cs, y.v.ns⟩ := stv_clone (w := w) (w1 := w4) HO.out.1 HO.out.2 HZ.out hok
      have h5 := h4.more (F' := fun j => (F j ∨ j = w2.heap.size) ∨ w.heap.size ≤ j ∧ j < w4.heap.size) (fun j hj => .inl hj) (fun j hj => by
        rcases hj with hj | hj
        · exact h4.Flt j hj
        · exact hj.2)
      have hN5 := h5.inn y.s (fun _ => none) HV9.out
      obtain ⟨w5, hrun, hN6, ht6⟩ := hN5.store (h5.good.nr y.s (fun _ => none) HV9.out) hwq (u := .agg #[.int .i64 y.s, .int .i64 y.r, .int .i64 y.n, .int .i64 y.v.k, .slice A3 nv c3, .slice D3 mv d3]) (y := y) ⟨A3, nv, c3, D3, mv, d3, rfl, hst⟩
      obtain ⟨h6, hk6⟩ := h5.voted HV9.out (N' := fun z => if z = q then some y else none) (fun k hk => by
        by_cases e : k = q
        · rw [e]; exact hq
        · rw [if_neg e] at hk; exact h5.good.nr y.s (fun _ => none) HV9.out k hk) ht6 hN6
      have H6 := hide h6
      have HK6 := hide hk6
      have hIs : (if y.s = y.s then w2.heap.size else I y.s) = w2.heap.size := if_pos rfl
      rw [hIs] at hrun
      clear hIs
      clear h4 hst h5 hN5 hN6 ht6 h6 hk6 hpz
      go_wp2_with fail
      go_ret
      have hF9 : ∀ j, ((F j ∨ j = w2.heap.size) ∨ w.heap.size ≤ j ∧ j < w4.heap.size) → F j ∨ w.heap.size ≤ j := fun j hj => by
        rcases hj with hj | hj
        · exact HF1.out j hj
        · exact .inr hj.1
      exact ⟨by rw [HE2.out]; rfl, _, _, by rw [HE2.out]; exact H6.out, hkz'.step HK6.out hF9, hF9⟩
  | some N =>
    rw [hV] at hlk
    simp only [Option.isSome_some, if_true] at hlk
    have HV := hide hV
    have hN := HH.out.inn y.s N hV
    obtain ⟨s1, k1, A1, n1, c1, D1, m1, d1, hl2⟩ := hN.look hwq
    have hcmp := compare_any y.r y.n (balOf (N q)).1 (balOf (N q)).2 w0.drew
    have hfl := fun u v W => run_vbal s1 (balOf (N q)).1 (balOf (N q)).2 k1 u v W
    have heq := eqv_some (I y.s)
    have hdc := cmp_bel y.r y.n (balOf (N q)).1 (balOf (N q)).2
    have HE : Hid (l.kept q y = if belB (balOf (N q)).1 (balOf (N q)).2 y.r y.n = true then (l.setV y.s (fun z => if z = q then some y else N z), true) else (l, false)) := hide (by unfold Lv.kept; rw [hV]; rfl)
    clear h h0 hx hx0 hV hp0 hb0 bd hN
    generalize (balOf (N q)).1 = r1 at *
    generalize (balOf (N q)).2 = m2 at *
    go_cut [7] (fun s7 wx => s7 = .map (some (I y.s)) ∧ wx = w0.drew)
    case first =>
      go_region_law (fail)
      all_goals go_wp2_with fail
      all_goals go_meet
      all_goals exact ⟨rfl, rfl⟩
    obtain ⟨rfl, hwx⟩ := hcut
    rw [hwx]
    clear hlk c3 p0 p1 p2 p3 p4 p5 pf hwx
    generalize w0.drew = w1 at *
    obtain ⟨⟨p0, p1, p2, p3, p4, p5⟩, pf⟩ := six_cells HP.out
    go_wp2_with fail
    refine hcmp.mono ?_
    rintro e w2 ⟨rfl, hb2⟩
    clear hl2 hcmp p0 p1 p2 p3 p4 p5 pf
    have hp2 := (hb2.block _ (lt_of_block HP.out)).trans HP.out
    obtain ⟨⟨p0, p1, p2, p3, p4, p5⟩, pf⟩ := six_cells hp2
    have f3 := pf 3
    have f4 := pf 4
    have f5 := pf 5
    have HP2 := hide hp2
    have hx2 := HX.out.kept (Kept.of_below (F := F) hb2)
    have hl8 := chkV_len hok
    have hcl := vclone_any y.v.k Av Dv nv cv mv dv w2.heap.size y.v.cs y.v.ns w2 hx2.hc hx2.hi (Nat.le_refl _) hx2.en hx2.em (by have := hx2.en; omega) (by have := hx2.em; omega)
    have HB2 := hide (HB.out.trans (hb2.mono HB.out.size))
    have H2 := hide (HH.out.below hb2)
    have HXE := hide (And.intro hx2.en hx2.em)
    clear pf hp2 hx2
    cases hbel : belB r1 m2 y.r y.n
    · rw [hbel] at hdc
      have HE2 : Hid (l.kept q y = (l, false)) := hide (by rw [HE.out, hbel]; rfl)
      go_wp2_with fail
      go_ret
      exact ⟨by rw [HE2.out]; rfl, I, F, by rw [HE2.out]; exact H2.out, Kept.of_below HB2.out, fun j hj => .inl hj⟩
    · rw [hbel] at hdc
      have HE2 : Hid (l.kept q y = (l.setV y.s (fun z => if z = q then some y else N z), true)) := hide (by rw [HE.out, hbel]; rfl)
      clear hbel HE
      go_wp2_with fail
      have HK2 := hide (Kept.of_below (F := F) HB2.out)
      have HPF : Hid (¬ F w.heap.size) := hide (fun hf => by have := HH0.out _ hf; omega)
      refine hcl.mono ?_
      rintro e w3 ⟨A3, c3, D3, d3, rfl, ho3, hi3, hb3⟩
      have HN3 := hide (ownc_slice ho3)
      have hp3 := (hb3.block _ (lt_of_block HP2.out)).trans HP2.out
      have hkz : Kept (fun j => j = w.heap.size) w3 (((w3.setCell ⟨w.heap.size, 3, none⟩ (.int .i64 y.v.k)).setCell ⟨w.heap.size, 4, none⟩ (.slice A3 nv c3)).setCell ⟨w.heap.size, 5, none⟩ (.slice D3 mv d3)) :=
        (((Kept.refl (fun j => j = w.heap.size) w3).setCell (p := ⟨w.heap.size, 3, none⟩) (.inl rfl) _).setCell (p := ⟨w.heap.size, 4, none⟩) (.inl rfl) _).setCell (p := ⟨w.heap.size, 5, none⟩) (.inl rfl) _
      have hpz : (((w3.setCell ⟨w.heap.size, 3, none⟩ (.int .i64 y.v.k)).setCell ⟨w.heap.size, 4, none⟩ (.slice A3 nv c3)).setCell ⟨w.heap.size, 5, none⟩ (.slice D3 mv d3)).heap[w.heap.size]? = some (.cells #[.int .i64 y.s, .int .i64 y.r, .int .i64 y.n, .int .i64 y.v.k, .slice A3 nv c3, .slice D3 mv d3] 42 (0, 0)) := by simp [World.setCell, Array.getElem?_modify, hp3]
      obtain ⟨⟨q0, q1, q2, q3, q4, q5⟩, qf⟩ := six_cells hp3
      have g3 := qf 3
      have g4 := qf 4
      have g5 := qf 5
      have hkz' := (HK2.out.step (Kept.of_below (F := fun _ => False) hb3) (fun j hj => hj.elim)).step hkz (fun j hj => .inr (by omega))
      have h3 := H2.out.below hb3
      have H4 := hide (h3.kept hkz (fun j hj e => HPF.out (by rw [← e]; exact hj)))
      have HO := hide (And.intro (ho3.keep (w' := (((w3.setCell ⟨w.heap.size, 3, none⟩ (.int .i64 y.v.k)).setCell ⟨w.heap.size, 4, none⟩ (.slice A3 nv c3)).setCell ⟨w.heap.size, 5, none⟩ (.slice D3 mv d3))) fun j hj => hkz.block j (ho3.lt j hj).2 (by have := (ho3.lt j hj).1; have := lt_of_block HP2.out; omega)) (hi3.keep (w' := (((w3.setCell ⟨w.heap.size, 3, none⟩ (.int .i64 y.v.k)).setCell ⟨w.heap.size, 4, none⟩ (.slice A3 nv c3)).setCell ⟨w.heap.size, 5, none⟩ (.slice D3 mv d3))) fun j hj => hkz.block j (hi3.lt j hj).2 (by have := (hi3.lt j hj).1; have := lt_of_block HP2.out; omega)))
      have HZ := hide HK2.out.size
      clear hcl p0 p1 p2 p3 p4 p5 f3 f4 f5 qf hp3 h3
      go_upto_region 8 with fail
      generalize ((w3.setCell ⟨w.heap.size, 3, none⟩ (.int .i64 y.v.k)).setCell ⟨w.heap.size, 4, none⟩ (.slice A3 nv c3)).setCell ⟨w.heap.size, 5, none⟩ (.slice D3 mv d3) = w4 at *
      clear q0 q1 q2 q3 q4 q5 g3 g4 g5
      obtain ⟨⟨p0, p1, p2, p3, p4, p5⟩, _⟩ := six_cells hpz
      have h4 := H4.out
      have hst : StV w4 (fun j => F j ∨ w.heap.size ≤ j ∧ j < w4.heap.size) A3 nv c3 D3 mv d3 ⟨y.v.k, y.v.cs, y.v.ns⟩ := stv_clone (w := w) (w1 := w4) HO.out.1 HO.out.2 HZ.out hok
      have h5 := h4.more (F' := fun j => F j ∨ w.heap.size ≤ j ∧ j < w4.heap.size) (fun j hj => .inl hj) (fun j hj => by
        rcases hj with hj | hj
        · exact h4.Flt j hj
        · exact hj.2)
      have hN5 := h5.inn y.s N HV.out
      obtain ⟨w5, hrun, hN6, ht6⟩ := hN5.store (h5.good.nr y.s N HV.out) hwq (u := .agg #[.int .i64 y.s, .int .i64 y.r, .int .i64 y.n, .int .i64 y.v.k, .slice A3 nv c3, .slice D3 mv d3]) (y := y) ⟨A3, nv, c3, D3, mv, d3, rfl, hst⟩
      obtain ⟨h6, hk6⟩ := h5.voted HV.out (N' := fun z => if z = q then some y else N z) (fun k hk => by
        by_cases e : k = q
        · rw [e]; exact hq
        · rw [if_neg e] at hk; exact h5.good.nr y.s N HV.out k hk) ht6 hN6
      have H6 := hide h6
      have HK6 := hide hk6
      clear h4 hst h5 hN5 hN6 ht6 h6 hk6 hpz
      go_wp2_with fail
      go_ret
      have hF9 : ∀ j, (F j ∨ w.heap.size ≤ j ∧ j < w4.heap.size) → F j ∨ w.heap.size ≤ j := fun j hj => by
        rcases hj with hj | hj
        · exact .inl hj
        · exact .inr hj.1
      exact ⟨by rw [HE2.out]; rfl, I, _, by rw [HE2.out]; exact H6.out, hkz'.step HK6.out hF9, hF9⟩
end
end Go.Proofs.Ytnngmapphacpkaa

namespace Go.Proofs.Ytnngmapphacpkaa
open Go.RowKit

theorem list_append_ints {ops : Array Oper} {rest : List Oper} {o : Oper} {a : Act} {Q : Exit → Act → World → Prop} (w : World) (hw : Region.wanted o (yielded ops a.tmps) = true) (s x : Operand)
    (ho : o.op = .call { callee := .builtin .append, args := #[s, x], argTypes := #[22, 22] }) (base : Nat) (v : Value) (xs : List Int) (hs : a.eval s = v) (hown : OwnI w base v xs)
    (B : Nat) (A : Option Addr) (m c : Nat) (news : List Int) (hx : a.eval x = .slice A m c) (hr : HasI w B A news) (hm : news.length = m)
    (hlen : xs.length + m ≤ 17592186044416) (hbase : base ≤ w.heap.size)
    (h : ∀ v' w', OwnI w' base v' (xs ++ news) → w.grownBy w' v.ownBlock → wpList Try.prog ops Q rest (a.put o.dst v') w') : wpList Try.prog ops Q (o :: rest) a w := by
  obtain ⟨v', w', hrun, h2, h3, h4⟩ := run_append_ints w o.type base v xs hown B A m c news hr hm hlen hbase
  exact list_append_want w hw s x 22 22 ho _ _ hs hx v' w' hrun (h v' w' h2 h3)

/-- Has a node's kept vote this ballot and this value? -/
def agr (N : Int → Option Vt) (y : Vt) (k : Int) : Bool := match N k with
  | none => false
  | some u => decide ([u.r, u.n] = [y.r, y.n]) && sameV u.v.k u.v.cs u.v.ns y.v.k y.v.cs y.v.ns
theorem same_key (x z : Int) : (Lit.int .i64 z).sameKey (.int .i64 x) = decide (z = x) := by
  simp [Lit.sameKey]
/-- The loop's memory. -/
structure AR (w : World) (F : Nat → Prop) (b r : Nat) (D : DataW Value) (N : Int → Option Vt) (y : Vt) (cells : Array Value) (v : Value) (acc : List Int) (left : Lit → Bool) (cnt : Nat) (wr : World) : Prop where
  own : OwnI wr w.heap.size v acc
  rg : wr.ranges Try.prog 3 raw b r (Maps.size D) D left cnt
  len : acc.length + cnt ≤ 9
  mem : ∀ k, k ∈ acc ↔ agr N y k = true ∧ left (.int .i64 k) = false
  bel : Below w.heap.size w wr
  box : wr.heap[w.heap.size]? = some (.cells cells 42 (0, 0))
theorem AR.next {w wr w3 : World} {F : Nat → Prop} {b r : Nat} {D : DataW Value} {N : Int → Option Vt} {y : Vt} {cells : Array Value} {v : Value} {acc : List Int} {left : Lit → Bool} {cnt : Nat} (h : AR w F b r D N y cells v acc left cnt wr) (hr : w.heap.size < r) (hg : wr.grownBy w3 (some r)) :
    OwnI w3 w.heap.size v acc ∧ Below w.heap.size w w3 ∧ w3.heap[w.heap.size]? = some (.cells cells 42 (0, 0)) := by
  have hrr : ∃ m s0 se c0, wr.heap[r]? = some (.mapIter m s0 se c0) := by
    obtain ⟨es, clock, since, seen, c0, _, _, _, _, hr, _⟩ := h.rg
    exact ⟨_, _, _, _, hr⟩
  obtain ⟨m, s0, se, c0, hrr⟩ := hrr
  have hk : Kept (fun j => j = r) wr w3 := Kept.of_grown (F := fun j => j = r) hg (fun j hj => (Option.some.inj hj).symm)
  refine ⟨h.own.keep fun j hj => hk.block j (h.own.lt j hj).2 (fun e => ?_), h.bel.trans (hk.below h.bel.size (fun j hj => by omega)), (hk.block _ (lt_of_block h.box) (by omega)).trans h.box⟩
  obtain ⟨cur, hc⟩ := ownsRow_typed h.own j hj
  rw [e, hrr] at hc
  cases hc
theorem push_kept {w w6 w7 : World} {b r cnt : Nat} {D : DataW Value} {cells : Array Value} {v : Value} {acc : List Int} {left : Lit → Bool} (ho : OwnI w6 w.heap.size v acc) (hr : w6.ranges Try.prog 3 raw b r (Maps.size D) D left cnt) (hb : Below w.heap.size w w6) (hx : w6.heap[w.heap.size]? = some (.cells cells 42 (0, 0)))
    (hg : w6.grownBy w7 v.ownBlock) : w7.ranges Try.prog 3 raw b r (Maps.size D) D left cnt ∧ Below w.heap.size w w7 ∧ w7.heap[w.heap.size]? = some (.cells cells 42 (0, 0)) := by
  have hk : Kept (fun j => v.ownBlock = some j) w6 w7 := Kept.of_grown (F := fun j => v.ownBlock = some j) hg (fun j hj => hj)
  have hrr : (∃ m s0 se c0, w6.heap[r]? = some (.mapIter m s0 se c0)) ∧ ∃ es cl, w6.heap[b]? = some (.map es cl) := by
    obtain ⟨es, clock, since, seen, c0, h1, _, _, _, h2, _⟩ := hr
    exact ⟨⟨_, _, _, _, h2⟩, _, _, h1⟩
  obtain ⟨⟨m, s0, se, c0, h1⟩, es, cl, h2⟩ := hrr
  refine ⟨hr.kept hg (fun e => ?_) (fun e => ?_), hb.trans (hk.below hb.size (fun j hj => (ho.lt j hj).1)), (hk.block _ (lt_of_block hx) (fun e => ?_)).trans hx⟩
  · obtain ⟨cur, hc⟩ := ownsRow_typed ho b e.symm
    rw [h2] at hc
    cases hc
  · obtain ⟨cur, hc⟩ := ownsRow_typed ho r e.symm
    rw [h1] at hc
    cases hc
  · obtain ⟨cur, hc⟩ := ownsRow_typed ho _ e
    rw [hx] at hc
    injection hc with hc
    injection hc with _ hc
    exact absurd hc (by decide)
theorem mem_step {acc : List Int} {P : Int → Bool} {left : Lit → Bool} {x : Int} (h : ∀ k, k ∈ acc ↔ P k = true ∧ left (.int .i64 k) = false) (hl : left (.int .i64 x) = true) :
    (P x = false → ∀ k, k ∈ acc ↔ P k = true ∧ (left (.int .i64 k) && !(Lit.int .i64 k).sameKey (.int .i64 x)) = false) ∧
    (P x = true → ∀ k, k ∈ acc ++ [x] ↔ P k = true ∧ (left (.int .i64 k) && !(Lit.int .i64 k).sameKey (.int .i64 x)) = false) := by
  refine ⟨fun hx k => ?_, fun hx k => ?_⟩
  · rw [h k, same_key]
    by_cases e : k = x
    · subst e
      rw [hx]
      simp
    · rw [decide_eq_false e]
      simp
  · rw [List.mem_append, h k, same_key]
    by_cases e : k = x
    · subst e
      rw [hx]
      simp
    · rw [decide_eq_false e]
      simp [e]
section
variable {w w1 w2 : World} {F : Nat → Prop} {g : Nat} {A : Option Addr} {n c vb db : Nat} {I : Int → Nat} {l : Lv}
/-- What agreed answers. -/
def AgrEnds (N : Int → Option Vt) (y : Vt) (w : World) (e : Ending) (w' : World) : Prop :=
  ∃ A' n' c' ks, e = .returned (.slice A' n' c') ∧ HasI w' w'.heap.size A' ks ∧ ks.length = n' ∧ n' ≤ 9 ∧ (∀ k, k ∈ ks ↔ agr N y k = true) ∧ Below w.heap.size w w'
set_option maxHeartbeats 3200000 in
set_option maxRecDepth 20000 in
theorem eagreed_any (h : IsL w F g A n c vb db I l) (y : Vt) (N : Int → Option Vt) (hV : l.V y.s = some N) (Av : Option Addr) (nv cv : Nat) (Dv : Option Addr) (mv dv : Nat) (hx : ArgV w (fun _ => False) Av nv Dv mv y.v) (hnv : nv ≤ 8) :
    Calls Try.prog 39 #[.pointer (some ⟨g, 0, none⟩), .agg #[.int .i64 y.s, .int .i64 y.r, .int .i64 y.n, .int .i64 y.v.k, .slice Av nv cv, .slice Dv mv dv]] w (AgrEnds N y w) := by
  have hsm : (l.V y.s).isSome = true := by rw [hV]; rfl
  have hwf : (Lit.int .i64 y.s).wf = true := WalkArith.wf_i64 (by have := h.good.nx; have := h.good.vr _ hsm; omega)
  have hp0 := heap_alloc_new w (.cells #[.int .i64 y.s, .int .i64 y.r, .int .i64 y.n, .int .i64 y.v.k, .slice Av nv cv, .slice Dv mv dv] 42)
  have hb0 : Below w.heap.size w (w.alloc (.cells #[.int .i64 y.s, .int .i64 y.r, .int .i64 y.n, .int .i64 y.v.k, .slice Av nv cv, .slice Dv mv dv] 42)) := (Below.refl _ _).alloc (Nat.le_refl _) _
  go_enter Try.func39, Try.ntmps39
  go_upto_region 2 with fail
  generalize w.alloc (.cells #[.int .i64 y.s, .int .i64 y.r, .int .i64 y.n, .int .i64 y.v.k, .slice Av nv cv, .slice Dv mv dv] 42) = w0 at *
  have h0 := h.below hb0
  have hlk := IsVs.look (w := w0.drew) (I := I) (V := l.V) (b := vb) h0.vs hwf
  rw [if_pos hsm] at hlk
  have c3 := h0.cells.1.2.2.2.1
  obtain ⟨⟨p0, p1, p2, p3, p4, p5⟩, pf⟩ := six_cells hp0
  obtain ⟨M, ⟨D, ho, hh, hv⟩, hM0, hM1⟩ := h0.inn y.s N hV
  have hsz9 : Maps.size D ≤ 9 := IMap.count 0 9 ho (fun x hx => by
    rw [hh x] at hx
    have h1 : (N x).isSome = true := by
      cases hN : N x with
      | none => rw [hM0 x hN] at hx; cases hx
      | some _ => rfl
    have := h.good.nr y.s N hV x h1
    omega)
  obtain ⟨wr, hrun, hrg, hgr, hsz⟩ := World.ownsMap.range (w := w0.drew) (t := 84) ho int_key Try.underlying84
  have hbr : Below w0.heap.size w0 wr := (Below.refl _ w0).drew.trans ⟨hgr.os, hgr.tape, hgr.output, hgr.size, fun i hi => hgr.block i hi (by simp)⟩
  have hzz : w0.drew.heap.size = w0.heap.size := rfl
  rw [hzz] at hrun hrg hsz
  have hbw := hb0.trans (hbr.mono hb0.size)
  have hmem : ∀ k, k ∈ ([] : List Int) ↔ agr N y k = true ∧ Maps.has D (.int .i64 k) = false := fun k => by
    refine ⟨fun hk => absurd hk (by simp), fun hk => ?_⟩
    exfalso
    have hk2 := hk.2
    rw [hh k] at hk2
    have h1 := hk.1
    unfold agr at h1
    cases hN : N k with
    | none => rw [hN] at h1; cases h1
    | some u =>
      obtain ⟨u', hu', _⟩ := hM1 k u hN
      rw [hu'] at hk2
      cases hk2
  have HAR : Hid (AR w F (I y.s) w0.heap.size D N y #[.int .i64 y.s, .int .i64 y.r, .int .i64 y.n, .int .i64 y.v.k, .slice Av nv cv, .slice Dv mv dv] (.slice none 0 0) [] (Maps.has D) (Maps.size D) wr) := hide ⟨OwnI.nil _ _, hrg, by simpa using hsz9, hmem, hbw, (hbr.block _ (lt_of_block hp0)).trans hp0⟩
  have hp0z := lt_of_block hp0
  have HRL : Hid (w.heap.size < w0.heap.size) := hide hp0z
  have HXW : Hid (∀ W, Below w.heap.size w W → ArgV W (fun _ => False) Av nv Dv mv y.v) := hide (fun W hW => hx.kept (Kept.of_below (F := fun _ => False) hW))
  have HV1 : Hid (∀ W x u, Below w.heap.size w W → (∀ z, D.atKey (.int .i64 x) z = .held u) → Maps.has D (.int .i64 x) = true → ∃ y', N x = some y' ∧ IsVote W F u y') := hide (fun W x u hW hat hhas => by
    have hs1 := hhas
    rw [hh x] at hs1
    cases hN : N x with
    | none => rw [hM0 x hN] at hs1; cases hs1
    | some y' =>
      obtain ⟨u', hu', hvu⟩ := hM1 x y' hN
      have e1 := hv x u' hu' (.held undef)
      rw [hat] at e1
      have e2 := DataW.held.inj e1
      have hkW : IsVote W F u' y' := by
        have h1 : IsL W F g A n c vb db I l := h.below hW
        obtain ⟨M2, _, _, h3⟩ := h.inn y.s N hV
        obtain ⟨A2, n2, c2, D2, m2, d2, e3, h4⟩ := hvu
        refine ⟨A2, n2, c2, D2, m2, d2, e3, ?_⟩
        have h5 : ∀ j, F j → W.heap[j]? = w0.heap[j]? := fun j hj => (hW.block j (h.Flt j hj)).trans (hb0.block j (h.Flt j hj)).symm
        exact h4.keep h5
      exact ⟨y', rfl, by rw [e2]; exact hkW⟩)
  clear hmem ho hh hv hM0 hM1 hrg hgr hbw h h0 hx hp0 hsz9 hsm
  go_cut [15] (fun s15 wx => s15 = .pointer (some ⟨w0.heap.size, 0, none⟩) ∧ wx = wr)
  case first =>
    go_region_law (fail)
    all_goals go_wp2_with fail
    all_goals go_meet
    all_goals exact ⟨rfl, rfl⟩
  obtain ⟨rfl, hwx⟩ := hcut
  rw [hwx]
  clear hwx hlk c3 p0 p1 p2 p3 p4 p5 pf hrun hb0 hbr hV hsz hzz hp0z
  generalize w0.heap.size = r at *
  go_wp2_with fail
  go_loopw [5] (fun s5 wr => ∃ acc left cnt, AR w F (I y.s) r D N y #[.int .i64 y.s, .int .i64 y.r, .int .i64 y.n, .int .i64 y.v.k, .slice Av nv cv, .slice Dv mv dv] s5 acc left cnt wr) (fun _ wr => wr.rangeLeft (I y.s) r)
  case atStart => exact ⟨[], _, _, HAR.out⟩
  case round =>
    clear HAR
    obtain ⟨acc, left, cnt, hAR⟩ := hrel
    have hrg := hAR.rg
    have HA := hide hAR
    clear hAR
    go_wp2_with (first | (at_next; refine wpList_next_ranges _ rfl _ rfl 3 int_key raw (Value.int .i64) (fun (v : Value) => v) (fun key kl hkey => (by obtain ⟨x, e⟩ := Maps.keyOf_int_inv Try.underlying3 hkey; exact ⟨x, e.1⟩)) (fun v y hv => ⟨v, rfl⟩) (I y.s) r (Maps.size D) D left cnt rfl hrg ?_ ?_) | fail)
    · intro hc0 hl0
      have hfin : AgrEnds N y w (.returned u5) wr := by
        obtain ⟨A', n', c', e1, e2, _, e3⟩ := HA.out.own.form
        have h9 := HA.out.len
        have h8 := e2.out
        exact ⟨A', n', c', acc, by rw [e1], e3, h8, by omega, fun k => by rw [HA.out.mem k, hl0]; simp, HA.out.bel⟩
      have HF := hide hfin
      clear hfin hc0 hl0 hrg
      go_wp2
      go_ret
      exact HF.out
    · intro x u kl yd yp w3 cnt3 hkey hlk hvy hat hrg3 hlt hg3 hs3 hen
      obtain ⟨x', hx'⟩ := Maps.keyOf_int_inv Try.underlying3 hkey
      have ex : x' = x := by have := hx'.1; injection this with _ e; exact e.symm
      subst ex
      obtain ⟨_, ekl, hwx⟩ := hx'
      rw [ekl] at hat hlk
      have hrm : wr.rangeLeft (I y.s) r = cnt := hrg.left_eq
      have ey : DataW.held u = yd := congrArg Prod.fst (Option.some.inj hvy)
      have hat' : ∀ z, D.atKey (.int .i64 x') z = .held u := fun z => by rw [hat z, ey]
      have hhas : Maps.has D (.int .i64 x') = true := Maps.has_true_of_atKey hat'
      obtain ⟨ho3, hbl3, hbx3⟩ := HA.out.next HRL.out hg3
      obtain ⟨y', hN', A1, n1, c1, D1, m1, d1, rfl, hst⟩ := HV1.out w3 x' _ hbl3 hat' hhas
      have h16 := HA.out.len
      have hmem := HA.out.mem
      clear hat' hat hkey hhas ey hvy hrg hg3
      obtain ⟨hms1, hms2⟩ := mem_step (P := agr N y) hmem hlk
      have hagr : agr N y x' = (decide ([y'.r, y'.n] = [y.r, y.n]) && sameV y'.v.k y'.v.cs y'.v.ns y.v.k y.v.cs y.v.ns) := by unfold agr; rw [hN']
      have ba := (Below.refl _ w3).alloc (Nat.le_refl _) (.cells #[.int .i64 y'.s, .int .i64 y'.r, .int .i64 y'.n, .int .i64 y'.v.k, .slice A1 n1 c1, .slice D1 m1 d1] 42)
      have hn4 := heap_alloc_new w3 (.cells #[.int .i64 y'.s, .int .i64 y'.r, .int .i64 y'.n, .int .i64 y'.v.k, .slice A1 n1 c1, .slice D1 m1 d1] 42)
      rw [hs3] at hn4
      have hb4 := (ba.block _ (lt_of_block hbx3)).trans hbx3
      have ho4 := ho3.below ba
      have hr4 := hrg3.alloc (.cells #[.int .i64 y'.s, .int .i64 y'.r, .int .i64 y'.n, .int .i64 y'.v.k, .slice A1 n1 c1, .slice D1 m1 d1] 42)
      have hbl4 := hbl3.trans (ba.mono hbl3.size)
      have hst4 := hst.same (RowsSame.of_below ba)
      rw [ekl] at hr4
      go_upto_region 5 with fail
      generalize w3.alloc (.cells #[.int .i64 y'.s, .int .i64 y'.r, .int .i64 y'.n, .int .i64 y'.v.k, .slice A1 n1 c1, .slice D1 m1 d1] 42) = w4 at *
      obtain ⟨⟨p0, p1, p2, p3, p4, p5⟩, _⟩ := six_cells hb4
      obtain ⟨⟨q0, q1, q2, q3, q4, q5⟩, _⟩ := six_cells hn4
      have ke := fun w => equal_bal 9998 y'.r y'.n y.r y.n w
      have HO4 := hide ho4
      have HR4 := hide hr4
      have HB4 := hide hb4
      have HL4 := hide hbl4
      have HS4 := hide hst4
      have HM1 := hide hms1
      have HM2 := hide hms2
      have HG := hide hagr
      clear ho4 hr4 hb4 hbl4 hst4 hms1 hms2 hagr hst ho3 hbl3 hbx3 hrg3 hen hn4 ba hN' hs3 hlk hmem ekl hwx
      cases hb1 : decide ([y'.r, y'.n] = [y.r, y.n])
      · rw [hb1] at ke
        have HF : Hid (agr N y x' = false) := hide (by rw [HG.out, hb1]; rfl)
        clear hb1
        go_wp2_with fail
        go_roundw
        case rel => exact ⟨acc, _, cnt3, HO4.out, HR4.out, by omega, HM1.out HF.out, HL4.out, HB4.out⟩
        case measure => rw [HR4.out.left_eq, hrm]; exact hlt
      · rw [hb1] at ke
        have hxx := HXW.out w4 HL4.out
        obtain ⟨s1, s2, s3, s4⟩ := HS4.out.len
        obtain ⟨s5, s6⟩ := HS4.out.has
        have hsv := vsame_any y'.v.k y.v.k A1 Av D1 Dv n1 nv c1 cv m1 mv d1 dv w4.heap.size y'.v.cs y.v.cs y'.v.ns y.v.ns w4 s5 s6 hxx.hc hxx.hi (Nat.le_refl _) s1 hxx.en s2 hxx.em (by omega) (by omega)
        have HG2 : Hid (agr N y x' = sameV y'.v.k y'.v.cs y'.v.ns y.v.k y.v.cs y.v.ns) := hide (by rw [HG.out, hb1]; rfl)
        clear hb1 hxx s1 s2 s3 s4 s5 s6 HG
        generalize sameV y'.v.k y'.v.cs y'.v.ns y.v.k y.v.cs y.v.ns = b2 at *
        go_wp2_with fail
        refine hsv.mono ?_
        rintro e w5 ⟨rfl, hb5⟩
        have HO5 := hide (HO4.out.below hb5)
        have HR5 := hide (HR4.out.kept ⟨hb5.os, hb5.tape, hb5.output, hb5.size, fun i hi _ => hb5.block i hi⟩ (row := none) (by simp) (by simp))
        have HB5 := hide ((hb5.block _ (lt_of_block HB4.out)).trans HB4.out)
        have HL5 := hide (HL4.out.trans (hb5.mono HL4.out.size))
        clear hsv p0 p1 p2 p3 p4 p5 q0 q1 q2 q3 q4 q5
        cases b2
        · go_wp2_with fail
          go_roundw
          case rel => exact ⟨acc, _, cnt3, HO5.out, HR5.out, by omega, HM1.out HG2.out, HL5.out, HB5.out⟩
          case measure => rw [HR5.out.left_eq, hrm]; exact hlt
        · have hone : HasI (w5.alloc (.cells (icells [x']) 3)) (w5.heap.size + 1) (some ⟨w5.heap.size, 0, none⟩) [x'] := HasI.new w5 3 [x'] (0, 0) w5.heap.size rfl
          have hba := (Below.refl _ w5).alloc (Nat.le_refl _) (.cells (icells [x']) 3)
          have HO6 := hide (HO5.out.below hba)
          have HR6 := hide (HR5.out.alloc (.cells (icells [x']) 3))
          have HB6 := hide ((hba.block _ (lt_of_block HB5.out)).trans HB5.out)
          have HL6 := hide (HL5.out.trans (hba.mono HL5.out.size))
          have HLN : Hid (acc.length + 1 ≤ 17592186044416) := hide (by omega)
          have hic : icells [x'] = #[.int .i64 x'] := rfl
          rw [hic] at hone hba HO6 HR6 HB6 HL6
          clear hic
          go_wp2_with (first
            | (refine list_append_ints _ rfl (.tmp 33) (.tmp 35) rfl w.heap.size u5 acc rfl HO6.out _ _ 1 1 [x'] rfl hone rfl HLN.out HL6.out.size ?_; intro v7 w7 ho7 hg7; have HO7 := hide ho7; have HG7 := hide hg7; clear ho7 hg7)
            | fail)
          have hpk := push_kept HO6.out HR6.out HL6.out HB6.out HG7.out
          have hl7 := HR6.out.left_eq
          go_roundw
          case rel => exact ⟨acc ++ [x'], _, cnt3, HO7.out, hpk.1, by rw [List.length_append]; simp; omega, HM2.out HG2.out, hpk.2.1, hpk.2.2⟩
          case measure => rw [hpk.1.left_eq, hrm]; exact hlt
end
end Go.Proofs.Ytnngmapphacpkaa

namespace Go.Proofs.Ytnngmapphacpkaa
open Go.RowKit

/-- Are so many of the members such? -/
def quo (ms : List Int) (p : Int → Bool) : Bool := decide (ms.length / 2 + 1 ≤ ms.countP p)
theorem enB_quo {ms ks : List Int} {p : Int → Bool} (h : ∀ k, k ∈ ks ↔ p k = true) : enB ms ks = quo ms p := by
  unfold enB quo cnt
  have e : ms.countP (fun m => decide (m ∈ ks)) = ms.countP p := by
    apply List.countP_congr
    intro x _
    rw [decide_eq_true_iff, h x]
  rw [e]
def Lv.hrd (l : Lv) (s : Int) : Lv := { l with heard := max l.heard s }
def Lv.at_ (l : Lv) (s : Int) : Int → Option Vt := (l.V s).getD fun _ => none
/-- What Voted does once the vote is one that may be heard. -/
def Lv.vote2 (l : Lv) (q : Int) (y : Vt) : Lv × Bool :=
  if ((l.kept q y).2 && quo (l.kept q y).1.ms (agr ((l.kept q y).1.at_ y.s) y)) = true then ((l.kept q y).1.dec y.s y.v, true) else ((l.kept q y).1, false)
/-- What Voted does. -/
def Lv.voted (l : Lv) (q : Int) (y : Vt) : Lv × Bool :=
  if l.opn y.s = true ∧ chkV y.v.k y.v.cs y.v.ns = 0 ∧ q ∈ l.ms ∧ valB y.r y.n = true then (l.hrd y.s).vote2 q y else (l, false)
theorem Lv.kept_same (l : Lv) (q : Int) (y : Vt) : (l.kept q y).1.ms = l.ms ∧ (l.kept q y).1.next = l.next ∧ (l.kept q y).1.D = l.D ∧ ((l.kept q y).2 = true → ((l.kept q y).1.V y.s).isSome = true) := by
  unfold Lv.kept
  split
  · refine ⟨rfl, rfl, rfl, fun _ => ?_⟩
    rw [Lv.setV_same]
    rfl
  · exact ⟨rfl, rfl, rfl, fun h => by cases h⟩
section
variable {w w1 w2 : World} {F : Nat → Prop} {g : Nat} {A : Option Addr} {n c vb db : Nat} {I : Int → Nat} {l : Lv}
theorem IsL.mem (h : IsL w F g A n c vb db I l) : HasI w w.heap.size A l.ms ∧ l.ms.length = n ∧ n ≤ 7 := by
  obtain ⟨_, _, _, e1, h1, _, h2⟩ := h.ms.form
  cases e1
  have := h.good.rt.2.1
  have h3 := h1.out
  exact ⟨h2, h3, by omega⟩
/-- What the middle of Voted leaves. -/
structure VMid (w0 : World) (F0 : Nat → Prop) (p : Nat) (cells : Array Value) (g : Nat) (A : Option Addr) (n c vb db : Nat) (l : Lv) (F : Nat → Prop) (w : World) : Prop where
  isl : ∃ I, IsL w F g A n c vb db I l
  kept : Kept F0 w0 w
  sub : ∀ j, F j → F0 j ∨ w0.heap.size ≤ j
  box : w.heap[p]? = some (.cells cells 42 (0, 0))
set_option maxHeartbeats 3200000 in
set_option maxRecDepth 20000 in
theorem evoted_any (h : IsL w F g A n c vb db I l) (y : Vt) (q : Int) (hs : (Lit.int .i64 y.s).wf = true) (Av : Option Addr) (nv cv : Nat) (Dv : Option Addr) (mv dv : Nat) (hx : ArgV w F Av nv Dv mv y.v) :
    Calls Try.prog 12 #[.pointer (some ⟨g, 0, none⟩), .int .i64 q, .agg #[.int .i64 y.s, .int .i64 y.r, .int .i64 y.n, .int .i64 y.v.k, .slice Av nv cv, .slice Dv mv dv]] w (LEnds F g A n c vb db (l.voted q y).1 (.bool (l.voted q y).2) w) := by
  have hp0 := heap_alloc_new w (.cells #[.int .i64 y.s, .int .i64 y.r, .int .i64 y.n, .int .i64 y.v.k, .slice Av nv cv, .slice Dv mv dv] 42)
  have hb0 : Below w.heap.size w (w.alloc (.cells #[.int .i64 y.s, .int .i64 y.r, .int .i64 y.n, .int .i64 y.v.k, .slice Av nv cv, .slice Dv mv dv] 42)) := (Below.refl _ _).alloc (Nat.le_refl _) _
  go_enter Try.func12, Try.ntmps12
  go_upto_region 1 with fail
  generalize w.alloc (.cells #[.int .i64 y.s, .int .i64 y.r, .int .i64 y.n, .int .i64 y.v.k, .slice Av nv cv, .slice Dv mv dv] 42) = w0 at *
  have h0 := h.below hb0
  have hx0 := hx.kept (Kept.of_below (F := F) hb0)
  have hop := eopen_any h0 hs
  obtain ⟨⟨p0, p1, p2, p3, p4, p5⟩, _⟩ := six_cells hp0
  have HPF : Hid (¬ F w.heap.size) := hide (fun hf => by have := h.Flt _ hf; omega)
  have HH := hide h0
  have HX := hide hx0
  have HP := hide hp0
  have HXW := hide hx
  clear h h0 hx hx0 hp0
  have HNO : Hid (∀ W, Below w0.heap.size w0 W → ¬ (l.opn y.s = true ∧ chkV y.v.k y.v.cs y.v.ns = 0 ∧ q ∈ l.ms ∧ valB y.r y.n = true) → LEnds F g A n c vb db (l.voted q y).1 (.bool (l.voted q y).2) w (.returned (.bool false)) W) := hide (fun W hW hno => by
    have e : l.voted q y = (l, false) := if_neg hno
    rw [e]
    exact ⟨rfl, I, F, HH.out.below hW, Kept.of_below (hb0.trans (hW.mono hb0.size)), fun j hj => .inl hj⟩)
  cases hq : l.opn y.s
  · rw [hq] at hop
    have HN : Hid (∀ W, Below w0.heap.size w0 W → LEnds F g A n c vb db (l.voted q y).1 (.bool (l.voted q y).2) w (.returned (.bool false)) W) := hide (fun W hW => HNO.out W hW (fun h => by rw [hq] at h; cases h.1))
    clear hq
    go_wp2_with fail
    refine hop.mono ?_
    rintro e w1 ⟨rfl, hb1⟩
    go_wp2
    go_ret
    exact HN.out w1 hb1
  · rw [hq] at hop
    have HQ := hide hq
    clear hq
    go_wp2_with fail
    refine hop.mono ?_
    rintro e w1 ⟨rfl, hb1⟩
    have hp1 := (hb1.block _ (lt_of_block HP.out)).trans HP.out
    clear p0 p1 p2 p3 p4 p5
    obtain ⟨⟨p0, p1, p2, p3, p4, p5⟩, _⟩ := six_cells hp1
    have hx1 := HX.out.kept (Kept.of_below (F := F) hb1)
    have hck := vcheck_any y.v.k Av Dv nv cv mv dv w1.heap.size y.v.cs y.v.ns w1 hx1.hc hx1.hi (Nat.le_refl _) hx1.en hx1.em hx1.lm
    have HP1 := hide hp1
    have H1 := hide (HH.out.below hb1)
    have HX1 := hide hx1
    clear hx1 hop hp1
    by_cases hc : chkV y.v.k y.v.cs y.v.ns = 0
    · rw [hc] at hck
      have HCK := hide hc
      clear hc
      go_wp2_with fail
      refine hck.mono ?_
      rintro e w2 ⟨rfl, hb2⟩
      have h2 := H1.out.below hb2
      obtain ⟨m1, m2, m3⟩ := h2.mem
      have hhas := has_any A n c w2.heap.size l.ms q w2 m1 m2 (by omega)
      have hp2 := (hb2.block _ (lt_of_block HP1.out)).trans HP1.out
      clear p0 p1 p2 p3 p4 p5 hck m1 m2 m3
      obtain ⟨⟨p0, p1, p2, p3, p4, p5⟩, _⟩ := six_cells hp2
      have c0 := h2.cells.1.1
      have H2 := hide h2
      have HP2 := hide hp2
      have HX2 := hide (HX1.out.kept (Kept.of_below (F := F) hb2))
      have hb12 := hb1.trans (hb2.mono hb1.size)
      have HB2 := hide (hb0.trans (hb12.mono hb0.size))
      clear h2 hp2
      go_wp2_with fail
      refine hhas.mono ?_
      rintro e _ ⟨rfl, rfl⟩
      cases hm : decide (q ∈ l.ms)
      · have HN : Hid (∀ W, Below w0.heap.size w0 W → LEnds F g A n c vb db (l.voted q y).1 (.bool (l.voted q y).2) w (.returned (.bool false)) W) := hide (fun W hW => HNO.out W hW (fun h => by have := decide_eq_true h.2.2.1; rw [hm] at this; cases this))
        clear hm
        go_wp2
        go_ret
        exact HN.out _ hb12
      · have HM := hide (of_decide_eq_true hm)
        clear hm
        have hva := bvalid_any y.r y.n w2
        go_wp2_with fail
        refine hva.mono ?_
        rintro e w3 ⟨rfl, hb3⟩
        clear p0 p1 p2 p3 p4 p5 hva c0 hhas
        have hb13 := hb12.trans (hb3.mono hb12.size)
        cases hvl : valB y.r y.n
        · have HN : Hid (∀ W, Below w0.heap.size w0 W → LEnds F g A n c vb db (l.voted q y).1 (.bool (l.voted q y).2) w (.returned (.bool false)) W) := hide (fun W hW => HNO.out W hW (fun h => by rw [hvl] at h; cases h.2.2.2))
          clear hvl
          go_wp2
          go_ret
          exact HN.out _ hb13
        · have HVL := hide hvl
          have HE : Hid (l.voted q y = (l.hrd y.s).vote2 q y) := hide (if_pos ⟨HQ.out, HCK.out, HM.out, hvl⟩)
          clear hvl
          have h3 := H2.out.below hb3
          obtain ⟨hs1, hs2⟩ := Lv.opn_iff HQ.out
          have hhd := h3.good.hd
          have hnx := h3.good.nx
          have hmr : 0 ≤ max l.heard y.s ∧ max l.heard y.s ≤ 1099511627776 := by omega
          obtain ⟨h4, hk4⟩ := h3.setHeard (max l.heard y.s) hmr
          have hp3 := (hb3.block _ (lt_of_block HP2.out)).trans HP2.out
          obtain ⟨⟨p0, p1, p2, p3, p4, p5⟩, _⟩ := six_cells hp3
          obtain ⟨⟨_, _, c2, _, _⟩, hf⟩ := h3.cells
          have f2 := hf 2
          have hpne : w.heap.size ≠ g := fun e => HPF.out (by rw [e]; exact h3.Fg)
          have hp4 : (w3.setCell ⟨g, 2, none⟩ (.int .i64 (max l.heard y.s))).heap[w.heap.size]? = _ := (Below.heap_setCell w3 ⟨g, 2, none⟩ _ _ hpne).trans hp3
          have HB3 := hide (HB2.out.trans (hb3.mono HB2.out.size))
          have hbd := (Below.refl (w3.setCell ⟨g, 2, none⟩ (.int .i64 (max l.heard y.s))).heap.size (w3.setCell ⟨g, 2, none⟩ (.int .i64 (max l.heard y.s)))).drew
          have H4 : Hid (IsL (w3.setCell ⟨g, 2, none⟩ (.int .i64 (max l.heard y.s))).drew F g A n c vb db I (l.hrd y.s)) := hide (h4.below hbd)
          have HP4 : Hid ((w3.setCell ⟨g, 2, none⟩ (.int .i64 (max l.heard y.s))).drew.heap[w.heap.size]? = some (.cells #[.int .i64 y.s, .int .i64 y.r, .int .i64 y.n, .int .i64 y.v.k, .slice Av nv cv, .slice Dv mv dv] 42 (0, 0))) := hide hp4
          have HK4 := hide (((Kept.of_below (F := F) HB3.out).step hk4 (fun j hj => .inl hj)).step (Kept.of_below (F := F) hbd) (fun j hj => .inl hj))
          have HX4 := hide (((HX2.out.kept (Kept.of_below (F := F) hb3)).kept hk4).kept (Kept.of_below (F := F) hbd))
          have HS1 := hide hs1
          have HS2 := hide hs2
          clear h3 h4 hk4 hf hmr hhd hnx hp3 hp4 hpne hs1 hs2 hb13 hb12 hb3 hb2 hb1 hbd
          go_upto_region 3 with fail
          go_cut [] (fun wx => wx = (w3.setCell ⟨g, 2, none⟩ (.int .i64 (max l.heard y.s))).drew)
          case first =>
            go_region_law (fail)
            all_goals go_wp2_with fail
            all_goals go_meet
            all_goals rfl
          rw [hcut]
          clear hcut c2 f2 p0 p1 p2 p3 p4 p5
          case rest =>
            generalize (w3.setCell ⟨g, 2, none⟩ (.int .i64 (max l.heard y.s))).drew = w4 at *
            have hcl8 := chkV_len HCK.out
            have hq9 : 1 ≤ q ∧ q ≤ 9 := by
              obtain ⟨i, hi, e⟩ := List.mem_iff_getElem.1 HM.out
              have h5 := (H4.out.good.rt.2.2 i hi).1
              have h5 : nodeB (l.ms.getD i 0) = true := h5
              rw [getD_at hi] at h5
              have h6 := of_decide_eq_true (show decide (1 ≤ l.ms[i] ∧ l.ms[i] ≤ 9) = true from h5)
              rw [e] at h6
              exact h6
            have hke := ekeep_any (w := w4.drew) (H4.out.below (Below.refl _ _).drew) y q HS1.out HS2.out hq9 HVL.out HCK.out Av nv cv Dv mv dv (HX4.out.kept (Kept.of_below (F := F) (Below.refl _ _).drew))
            generalize hl1 : l.hrd y.s = l1 at *
            obtain ⟨k1, k2, k3, k4⟩ := Lv.kept_same l1 q y
            have HV2 : Hid ((l1.vote2 q y) = if ((l1.kept q y).2 && quo (l1.kept q y).1.ms (agr ((l1.kept q y).1.at_ y.s) y)) = true then ((l1.kept q y).1.dec y.s y.v, true) else ((l1.kept q y).1, false)) := hide rfl
            have hnv8 : nv ≤ 8 := by have := HX4.out.en; omega
            generalize (l1.kept q y).1 = l2 at *
            have HL2 := hide (And.intro k1 (And.intro k2 (And.intro k3 (show l1.ms = l.ms from by rw [← hl1]; rfl))))
            obtain ⟨⟨p0, p1, p2, p3, p4, p5⟩, _⟩ := six_cells HP4.out
            have hVM : ∀ W I' F', IsL W F' g A n c vb db I' l2 → Kept F w4.drew W → (∀ j, F' j → F j ∨ w4.drew.heap.size ≤ j) → VMid w F w.heap.size #[.int .i64 y.s, .int .i64 y.r, .int .i64 y.n, .int .i64 y.v.k, .slice Av nv cv, .slice Dv mv dv] g A n c vb db l2 F' W := fun W I' F' hi hk' hf => by
              have hz4 := HK4.out.size
              have hk : Kept F w4 W := (Kept.refl F w4).drew.step hk' (fun j hj => .inl hj)
              have hf : ∀ j, F' j → F j ∨ w4.heap.size ≤ j := hf
              exact ⟨⟨I', hi⟩, HK4.out.step hk (fun j hj => .inl hj), fun j hj => by
                rcases hf j hj with e | e
                · exact .inl e
                · exact .inr (by omega), (hk.block _ (lt_of_block HP4.out) HPF.out).trans HP4.out⟩
            have HVM := hide hVM
            clear hVM k1 k2 k3
            go_upto_region 4 with fail
            go_cut [58] (fun s58 wx => ∃ F', VMid w F w.heap.size #[.int .i64 y.s, .int .i64 y.r, .int .i64 y.n, .int .i64 y.v.k, .slice Av nv cv, .slice Dv mv dv] g A n c vb db l2 F' wx ∧ s58 = .bool (!((l1.kept q y).2 && quo l2.ms (agr (l2.at_ y.s) y))))
            case first =>
              cases hkb : (l1.kept q y).2
              · rw [hkb] at hke
                have HKE := hide hke
                have HKB := hide hkb
                clear hke hkb k4
                go_wp2_with fail
                refine wp_region_held_drew (S := fun W => W.heap[w.heap.size]? = some (.cells #[.int .i64 y.s, .int .i64 y.r, .int .i64 y.n, .int .i64 y.v.k, .slice Av nv cv, .slice Dv mv dv] 42 (0, 0))) (by kernel_rfl) HP4.out (fun hHeld => ?_)
                refine wpAnyH_take (i := 0) (oi := _) (v := .pointer (some ⟨g, 0, none⟩)) rfl (by kernel_rfl) (by kernel_rfl) (by kernel_rfl) (fun _ _ _ h => h) (Or.inl ⟨by rfl, fun w' hSw => by go_simp⟩) hHeld ?_
                (try simp only [Act.put, List.setIfInBounds_toArray, List.set_cons_zero, List.set_cons_succ, List.getElem_toArray, List.getElem_cons_zero, List.getElem_cons_succ])
                refine wpAnyH_take (i := 1) (oi := _) (v := .int .i64 q) rfl (by kernel_rfl) (by kernel_rfl) (by kernel_rfl) (fun _ _ _ h => h) (Or.inl ⟨by rfl, fun w' hSw => by go_simp⟩) hHeld ?_
                (try simp only [Act.put, List.setIfInBounds_toArray, List.set_cons_zero, List.set_cons_succ, List.getElem_toArray, List.getElem_cons_zero, List.getElem_cons_succ])
                refine wpAnyH_take (i := 2) (oi := _) (v := .agg #[.int .i64 y.s, .int .i64 y.r, .int .i64 y.n, .int .i64 y.v.k, .slice Av nv cv, .slice Dv mv dv]) rfl (by kernel_rfl) (by kernel_rfl) (by kernel_rfl) (fun _ _ _ h => h) (Or.inl ⟨by rfl, fun w' hSw => by obtain ⟨⟨x0, x1, x2, x3, x4, x5⟩, _⟩ := six_cells hSw; go_simp⟩) hHeld ?_
                (try simp only [Act.put, List.setIfInBounds_toArray, List.set_cons_zero, List.set_cons_succ, List.getElem_toArray, List.getElem_cons_zero, List.getElem_cons_succ])
                refine wpAnyH_ready (rs := [3]) (by kernel_rfl) (by simp) ?_
                refine AllReadyH.cons (o := _) rfl (fun K hK => ?_) AllReadyH.nil
                simp only [List.getElem_toArray, List.getElem_cons_zero, List.getElem_cons_succ]
                go_simp
                refine HKE.out.mono ?_
                rintro e w5 ⟨rfl, I5, F5, h5, hk5, hf5⟩
                have hvm5 := HVM.out _ _ _ h5 hk5 hf5
                go_wp2_with fail
                refine hK.out _ _ hvm5.box (fun hHeld => ?_)
                clear hK
                (try simp only [Act.put, List.setIfInBounds_toArray, List.set_cons_zero, List.set_cons_succ, List.getElem_toArray, List.getElem_cons_zero, List.getElem_cons_succ])
                refine wpAnyH_take (i := 4) (oi := _) (v := .bool true) rfl (by kernel_rfl) (by kernel_rfl) (by kernel_rfl) (fun _ _ _ h => h) (Or.inl ⟨by rfl, fun w' hSw => by go_simp⟩) hHeld ?_
                (try simp only [Act.put, List.setIfInBounds_toArray, List.set_cons_zero, List.set_cons_succ, List.getElem_toArray, List.getElem_cons_zero, List.getElem_cons_succ])
                refine wpAnyH_take (i := 5) (oi := _) (v := .bool true) rfl (by kernel_rfl) (by kernel_rfl) (by kernel_rfl) (fun _ _ _ h => h) (Or.inl ⟨by rfl, fun w' hSw => by go_simp⟩) hHeld ?_
                (try simp only [Act.put, List.setIfInBounds_toArray, List.set_cons_zero, List.set_cons_succ, List.getElem_toArray, List.getElem_cons_zero, List.getElem_cons_succ])
                refine wpAnyH_take (i := 6) (oi := _) (v := undef) rfl (by kernel_rfl) (by kernel_rfl) (by kernel_rfl) (fun _ _ _ h => h) (Or.inr ⟨by rfl, rfl⟩) hHeld ?_
                (try simp only [Act.put, List.setIfInBounds_toArray, List.set_cons_zero, List.set_cons_succ, List.getElem_toArray, List.getElem_cons_zero, List.getElem_cons_succ])
                refine wpAnyH_take (i := 7) (oi := _) (v := undef) rfl (by kernel_rfl) (by kernel_rfl) (by kernel_rfl) (fun _ _ _ h => h) (Or.inr ⟨by rfl, rfl⟩) hHeld ?_
                (try simp only [Act.put, List.setIfInBounds_toArray, List.set_cons_zero, List.set_cons_succ, List.getElem_toArray, List.getElem_cons_zero, List.getElem_cons_succ])
                refine wpAnyH_take (i := 8) (oi := _) (v := undef) rfl (by kernel_rfl) (by kernel_rfl) (by kernel_rfl) (fun _ _ _ h => h) (Or.inr ⟨by rfl, rfl⟩) hHeld ?_
                (try simp only [Act.put, List.setIfInBounds_toArray, List.set_cons_zero, List.set_cons_succ, List.getElem_toArray, List.getElem_cons_zero, List.getElem_cons_succ])
                refine wpAnyH_take (i := 9) (oi := _) (v := undef) rfl (by kernel_rfl) (by kernel_rfl) (by kernel_rfl) (fun _ _ _ h => h) (Or.inr ⟨by rfl, rfl⟩) hHeld ?_
                (try simp only [Act.put, List.setIfInBounds_toArray, List.set_cons_zero, List.set_cons_succ, List.getElem_toArray, List.getElem_cons_zero, List.getElem_cons_succ])
                refine wpAnyH_take (i := 10) (oi := _) (v := undef) rfl (by kernel_rfl) (by kernel_rfl) (by kernel_rfl) (fun _ _ _ h => h) (Or.inr ⟨by rfl, rfl⟩) hHeld ?_
                (try simp only [Act.put, List.setIfInBounds_toArray, List.set_cons_zero, List.set_cons_succ, List.getElem_toArray, List.getElem_cons_zero, List.getElem_cons_succ])
                refine wpAnyH_take (i := 11) (oi := _) (v := undef) rfl (by kernel_rfl) (by kernel_rfl) (by kernel_rfl) (fun _ _ _ h => h) (Or.inr ⟨by rfl, rfl⟩) hHeld ?_
                (try simp only [Act.put, List.setIfInBounds_toArray, List.set_cons_zero, List.set_cons_succ, List.getElem_toArray, List.getElem_cons_zero, List.getElem_cons_succ])
                refine wpAnyH_take (i := 12) (oi := _) (v := undef) rfl (by kernel_rfl) (by kernel_rfl) (by kernel_rfl) (fun _ _ _ h => h) (Or.inr ⟨by rfl, rfl⟩) hHeld ?_
                (try simp only [Act.put, List.setIfInBounds_toArray, List.set_cons_zero, List.set_cons_succ, List.getElem_toArray, List.getElem_cons_zero, List.getElem_cons_succ])
                refine wpAnyH_take (i := 13) (oi := _) (v := undef) rfl (by kernel_rfl) (by kernel_rfl) (by kernel_rfl) (fun _ _ _ h => h) (Or.inr ⟨by rfl, rfl⟩) hHeld ?_
                (try simp only [Act.put, List.setIfInBounds_toArray, List.set_cons_zero, List.set_cons_succ, List.getElem_toArray, List.getElem_cons_zero, List.getElem_cons_succ])
                refine wpAnyH_take (i := 14) (oi := _) (v := undef) rfl (by kernel_rfl) (by kernel_rfl) (by kernel_rfl) (fun _ _ _ h => h) (Or.inr ⟨by rfl, rfl⟩) hHeld ?_
                (try simp only [Act.put, List.setIfInBounds_toArray, List.set_cons_zero, List.set_cons_succ, List.getElem_toArray, List.getElem_cons_zero, List.getElem_cons_succ])
                refine wpAnyH_take (i := 15) (oi := _) (v := .bool true) rfl (by kernel_rfl) (by kernel_rfl) (by kernel_rfl) (fun _ _ _ h => h) (Or.inl ⟨by rfl, fun w' hSw => by go_simp⟩) hHeld ?_
                (try simp only [Act.put, List.setIfInBounds_toArray, List.set_cons_zero, List.set_cons_succ, List.getElem_toArray, List.getElem_cons_zero, List.getElem_cons_succ])
                refine wpAnyH_done (by kernel_rfl) ?_ _
                go_wp2_with fail
                go_meet
                exact ⟨F5, hvm5, by rw [HKB.out]; rfl⟩
              · rw [hkb] at hke
                have hsm := k4 hkb
                have HKE := hide hke
                have HKB := hide hkb
                have HAG : Hid (∀ W I' F', IsL W F' g A n c vb db I' l2 → Kept F w4.drew W → Calls Try.prog 39 #[.pointer (some ⟨g, 0, none⟩), .agg #[.int .i64 y.s, .int .i64 y.r, .int .i64 y.n, .int .i64 y.v.k, .slice Av nv cv, .slice Dv mv dv]] W (AgrEnds (l2.at_ y.s) y W)) := hide (fun W I' F' hi hk => by
                  obtain ⟨N, hN⟩ := Option.isSome_iff_exists.1 hsm
                  have e : l2.at_ y.s = N := by unfold Lv.at_; rw [hN]; rfl
                  rw [e]
                  have hxw := HX4.out.kept ((Kept.refl F w4).drew.step hk (fun j hj => .inl hj))
                  exact eagreed_any hi y N hN Av nv cv Dv mv dv ⟨hxw.hc, hxw.hi, hxw.en, hxw.em, hxw.lm, fun _ _ _ h => h, fun _ _ _ h => h⟩ hnv8)
                have HEN : Hid (∀ W I' F' A6 n6 c6 ks, IsL W F' g A n c vb db I' l2 → HasI W W.heap.size A6 ks → ks.length = n6 → n6 ≤ 9 → (∀ k, k ∈ ks ↔ agr (l2.at_ y.s) y k = true) → Calls Try.prog 38 #[.slice A n c, .slice A6 n6 c6] W fun e w' => e = .returned (.bool (quo l2.ms (agr (l2.at_ y.s) y))) ∧ W = w') := hide (fun W I' F' A6 n6 c6 ks hi h6 hn6 h96 hm6 => by
                  obtain ⟨m1, m2, m3⟩ := hi.mem
                  rw [← enB_quo hm6]
                  exact enough_any A A6 n n6 c c6 W.heap.size W.heap.size l2.ms ks W m1 h6 m2 hn6 (by omega) (by omega) hi.good.rt)
                have HFB : Hid (∀ W W' I' F', IsL W F' g A n c vb db I' l2 → Kept F w4.drew W → (∀ j, F' j → F j ∨ w4.drew.heap.size ≤ j) → Below W.heap.size W W' → IsL W' F' g A n c vb db I' l2 ∧ Kept F w4.drew W') := hide (fun W W' I' F' hi hk hf hb => ⟨hi.below hb, hk.step (Kept.of_below (F := F) hb) (fun j hj => .inl hj)⟩)
                clear hke hsm k4
                go_region_law (first
                  | (go_simp; go_at_call 37; (with_reducible refine HKE.out.mono ?_); rintro e w5 ⟨rfl, I5, F5, h5, hk5, hf5⟩; have hvm := HVM.out _ _ _ h5 hk5 hf5; obtain ⟨⟨x0, x1, x2, x3, x4, x5⟩, _⟩ := six_cells hvm.box; have xc := h5.cells.1.1; have hag := HAG.out _ _ _ h5 hk5; simp only [])
                  | (revert hag; intro hag; go_simp; go_at_call 39; (with_reducible refine hag.mono ?_); rintro e w6 ⟨A6, n6, c6, ks, rfl, hi6, hn6, h96, hm6, hb6⟩; obtain ⟨h6, hk6⟩ := HFB.out _ _ _ _ h5 hk5 hf5 hb6; have hvm6 := HVM.out _ _ _ h6 hk6 hf5; obtain ⟨⟨z0, z1, z2, z3, z4, z5⟩, _⟩ := six_cells hvm6.box; have zc := h6.cells.1.1; have hen := HEN.out _ _ _ A6 n6 c6 ks h6 hi6 hn6 h96 hm6; simp only [])
                  | (revert hen; intro hen; go_simp; go_at_call 38; (with_reducible refine hen.mono ?_); rintro e _ ⟨rfl, rfl⟩; simp only []))
                all_goals go_wp2_with fail
                all_goals go_meet
                all_goals exact ⟨F5, hvm6, by rw [HKB.out]; rfl⟩
            obtain ⟨F5, hvm, rfl⟩ := hcut
            obtain ⟨⟨I5, h5⟩, hk5, hf5, hbx5⟩ := hvm
            clear p0 p1 p2 p3 p4 p5 hke k4
            obtain ⟨⟨p0, p1, p2, p3, p4, p5⟩, _⟩ := six_cells hbx5
            have HH5 := hide h5
            have HK5 := hide hk5
            have HF5 := hide hf5
            cases hres : ((l1.kept q y).2 && quo l2.ms (agr (l2.at_ y.s) y))
            · have HE5 : Hid (l.voted q y = (l2, false)) := hide (by rw [HE.out, HV2.out, if_neg (by rw [hres]; simp)])
              clear hres h5 hk5 hf5
              go_wp2_with fail
              go_ret
              exact ⟨by rw [HE5.out]; rfl, I5, F5, by rw [HE5.out]; exact HH5.out, HK5.out, HF5.out⟩
            · have HE5 : Hid (l.voted q y = (l2.dec y.s y.v, true)) := hide (by rw [HE.out, HV2.out, if_pos hres])
              have hxw := HXW.out.kept hk5
              obtain ⟨e1, e2, e3, e4⟩ := HL2.out
              have hn1 : l1.next = l.next := by rw [← hl1]; rfl
              have hde := edecide_any h5 (s := y.s) (by rw [e2, hn1]; exact HS1.out) y.v.k Av nv cv Dv mv dv wc.heap.size y.v.cs y.v.ns hxw.hc hxw.hi (Nat.le_refl _) hxw.en hxw.em HCK.out
              clear hres h5 hk5 hf5 hxw
              go_wp2_with fail
              refine hde.mono ?_
              rintro e w6 ⟨rfl, F6, h6, hk6, hf6⟩
              have H6 := hide h6
              have HK6 := hide hk6
              have HF6 := hide hf6
              clear h6 hk6 hf6 hde
              go_wp2_with fail
              go_ret
              refine ⟨by rw [HE5.out]; rfl, I5, F6, by rw [HE5.out]; exact H6.out, HK5.out.step HK6.out HF5.out, fun j hj => ?_⟩
              rcases HF6.out j hj with e | e
              · exact HF5.out j e
              · have := HK5.out.size
                exact .inr (by omega)
    · have HN : Hid (∀ W, Below w0.heap.size w0 W → LEnds F g A n c vb db (l.voted q y).1 (.bool (l.voted q y).2) w (.returned (.bool false)) W) := hide (fun W hW => HNO.out W hW (fun h => hc h.2.1))
      have hcb : (chkV y.v.k y.v.cs y.v.ns != 0) = true := by simpa using hc
      clear hc
      generalize chkV y.v.k y.v.cs y.v.ns = z at *
      go_wp2_with fail
      refine hck.mono ?_
      rintro e w2 ⟨rfl, hb2⟩
      go_wp2
      go_ret
      exact HN.out w2 (hb1.trans (hb2.mono hb1.size))
end
end Go.Proofs.Ytnngmapphacpkaa

namespace Go.Proofs.Ytnngmapphacpkaa
open Go.RowKit

/-- The slots from the next one on, so many, that are not decided. -/
def missTo (l : Lv) (j : Nat) : List Int := ((List.range j).map (fun (i : Nat) => l.next + (i : Int))).filter (fun s => !(l.D s).isSome)
def miss (l : Lv) (most : Int) : List Int := (missTo l (l.heard - l.next + 1).toNat).take most.toNat
theorem missTo_succ (l : Lv) (j : Nat) : missTo l (j + 1) = missTo l j ++ (if (l.D (l.next + (j : Int))).isSome = true then [] else [l.next + (j : Int)]) := by
  unfold missTo
  rw [List.range_succ, List.map_append, List.filter_append]
  simp only [List.map_cons, List.map_nil, List.filter_cons, List.filter_nil]
  cases (l.D (l.next + (j : Int))).isSome <;> simp
theorem missTo_more (l : Lv) (j : Nat) : ∀ i, ∃ r, missTo l (j + i) = missTo l j ++ r
  | 0 => ⟨[], by simp⟩
  | i + 1 => by
    obtain ⟨r, hr⟩ := missTo_more l j i
    rw [← Nat.add_assoc, missTo_succ, hr, List.append_assoc]
    exact ⟨_, rfl⟩
theorem missTo_len (l : Lv) (j : Nat) : (missTo l j).length ≤ j := by
  unfold missTo
  refine Nat.le_trans (List.length_filter_le _ _) ?_
  simp
section
variable {w w1 w2 : World} {F : Nat → Prop} {g : Nat} {A : Option Addr} {n c vb db : Nat} {I : Int → Nat} {l : Lv}
def MissEnds (l : Lv) (most : Int) (w : World) (e : Ending) (w' : World) : Prop :=
  ∃ A n c, e = .returned (.slice A n c) ∧ OwnI w' w.heap.size (.slice A n c) (miss l most) ∧ Below w.heap.size w w'
theorem owni_slc {w : World} {base : Nat} {v : Value} {xs : List Int} (h : OwnI w base v xs) : ∃ A c, v = .slice A xs.length c := by
  obtain ⟨A, n, c, e, h1, _⟩ := h.form
  rw [← h1.out] at e
  exact ⟨A, c, e⟩
set_option maxHeartbeats 1600000 in
set_option maxRecDepth 20000 in
theorem emissing_any (h : IsL w F g A n c vb db I l) (most : Int) (hm : (Lit.int .i64 most).wf = true) : Calls Try.prog 16 #[.pointer (some ⟨g, 0, none⟩), .int .i64 most] w (MissEnds l most w) := by
  have hmd := emade_any h
  have c1 := h.cells.1.2.1
  have c2 := h.cells.1.2.2.1
  have hnx := h.good.nx
  have hhd := h.good.hd
  have HH := hide h
  clear h
  go_enter Try.func16, Try.ntmps16
  go_wp2_with fail
  refine hmd.mono ?_
  rintro e _ ⟨rfl, rfl⟩
  go_wp2_with fail
  go_loopw [5, 6] (fun s5 s6 wr => ∃ j : Nat, (j : Int) ≤ max 0 (l.heard - l.next + 1) ∧ s6 = .int .i64 (l.next + (j : Int)) ∧ Hid (OwnI wr w.heap.size s5 (missTo l j)) ∧ Hid ((missTo l j).length ≤ most.toNat) ∧ Hid (Below w.heap.size w wr)) (fun _ s6 _ => (l.heard + 1 - intOf s6).toNat)
  case atStart => exact ⟨0, by omega, by simp, hide (OwnI.nil _ _), hide (by simp [missTo]), hide (Below.refl _ _)⟩
  case round =>
    obtain ⟨j, hj, rfl, ho, hl, hb⟩ := hrel
    have hI := HH.out.below hb.out
    have x2 := hI.cells.1.2.2.1
    have HI := hide hI
    obtain ⟨A5, c5, e5⟩ := owni_slc ho.out
    have hlj := missTo_len l j
    subst e5
    generalize hk : (missTo l j).length = k at *
    by_cases h1 : l.next + (j : Int) ≤ l.heard
    · have ht1 : decide (l.next + (j : Int) ≤ l.heard) = true := decide_eq_true h1
      by_cases h2 : (k : Int) < most
      · have ht2 : decide ((k : Int) < most) = true := decide_eq_true h2
        have hha := ehas_any hI (s := l.next + (j : Int)) (WalkArith.wf_i64 (by omega))
        have HSU := hide (missTo_succ l j)
        have hwr : IntKind.i64.wrap (l.next + (j : Int) + 1) = l.next + (j : Int) + 1 := IntWalk.i64_in _ (by omega)
        clear hI c1 c2
        cases hD : (l.D (l.next + (j : Int))).isSome
        · rw [hD] at hha
          have HS2 : Hid (missTo l (j + 1) = missTo l j ++ [l.next + (j : Int)]) := hide (by rw [HSU.out, hD]; rfl)
          clear hD
          go_wp2_with fail
          refine hha.mono ?_
          rintro e w3 ⟨rfl, hb3⟩
          have hba := (Below.refl _ w3).alloc (Nat.le_refl _) (.cells (icells [l.next + (j : Int)]) 3)
          have hone : HasI (w3.alloc (.cells (icells [l.next + (j : Int)]) 3)) (w3.heap.size + 1) (some ⟨w3.heap.size, 0, none⟩) [l.next + (j : Int)] := HasI.new w3 3 [l.next + (j : Int)] (0, 0) w3.heap.size rfl
          have HO6 := hide ((ho.out.below hb3).below hba)
          have hb3' := hb.out.trans (hb3.mono hb.out.size)
          have HL6 := hide (hb3'.trans (hba.mono hb3'.size))
          have HLN : Hid ((missTo l j).length + 1 ≤ 17592186044416) := hide (by omega)
          have hic : icells [l.next + (j : Int)] = #[.int .i64 (l.next + (j : Int))] := rfl
          rw [hic] at hone hba HO6 HL6
          clear hic hha x2
          go_wp2_with (first
            | (refine list_append_ints _ rfl (.tmp 32) (.tmp 34) rfl w.heap.size (.slice A5 k c5) (missTo l j) rfl HO6.out _ _ 1 1 [l.next + (j : Int)] rfl hone rfl HLN.out HL6.out.size ?_; intro v7 w7 ho7 hg7; have HO7 := hide ho7; have HG7 := hide hg7; clear ho7 hg7)
            | fail)
          have hk7 : Kept (fun i => (Value.slice A5 k c5).ownBlock = some i) _ w7 := Kept.of_grown (F := fun i => (Value.slice A5 k c5).ownBlock = some i) HG7.out (fun i hi => hi)
          have HB7 := hide (HL6.out.trans (hk7.below HL6.out.size (fun i hi => (HO6.out.lt i hi).1)))
          clear hk7
          go_roundw
          case rel => exact ⟨j + 1, by omega, by go_num, by rw [HS2.out]; exact HO7, hide (by rw [HS2.out, List.length_append, hk]; simp; omega), HB7⟩
          case measure => simp [intOf]; omega
        · rw [hD] at hha
          have HS2 : Hid (missTo l (j + 1) = missTo l j) := hide (by rw [HSU.out, hD]; simp)
          clear hD
          go_wp2_with fail
          refine hha.mono ?_
          rintro e w3 ⟨rfl, hb3⟩
          have HO3 := hide (ho.out.below hb3)
          have HB3 := hide (hb.out.trans (hb3.mono hb.out.size))
          go_wp2_with fail
          go_roundw
          case rel => exact ⟨j + 1, by omega, by go_num, by rw [HS2.out]; exact HO3, hide (by rw [HS2.out, hk]; exact hl.out), HB3⟩
          case measure => simp [intOf]; omega
      · have ht2 : decide ((k : Int) < most) = false := decide_eq_false h2
        have HE : Hid (miss l most = missTo l j) := hide (by
          unfold miss
          have h3 := hl.out
          obtain ⟨r, hr⟩ := missTo_more l j ((l.heard - l.next + 1).toNat - j)
          rw [show j + ((l.heard - l.next + 1).toNat - j) = (l.heard - l.next + 1).toNat by omega] at hr
          rw [hr, List.take_append_of_le_length (by omega), List.take_of_length_le (by omega)])
        clear hI c1 c2
        go_wp2
        go_ret
        exact ⟨A5, k, c5, rfl, by rw [HE.out]; exact ho.out, hb.out⟩
    · have ht1 : decide (l.next + (j : Int) ≤ l.heard) = false := decide_eq_false h1
      have HE : Hid (miss l most = missTo l j) := hide (by
        unfold miss
        have h3 := hl.out
        have e : (l.heard - l.next + 1).toNat = j := by omega
        rw [e, List.take_of_length_le (by omega)])
      clear hI c1 c2
      go_wp2
      go_ret
      exact ⟨A5, k, c5, rfl, by rw [HE.out]; exact ho.out, hb.out⟩
end
theorem results_vote {tmps : Array Value} {w : World} {g : Nat} {A : Array Value} {t : TypeId} (h2 : tmps.getD 6 undef = .pointer (some ⟨g, 0, none⟩)) (hA : w.heap[g]? = some (.cells A t (0, 0))) (sA : A.size = 6) :
    (results Try.f13 tmps).run Try.prog w = .ok (.agg A) w := by
  have h2' : tmps[6]?.getD undef = .pointer (some ⟨g, 0, none⟩) := by simpa using h2
  have i1 : (Try.prog.info? 42).map (·.size) = some A.size := by rw [sA]; kernel_rfl
  have e1 := run_loadVar_row (P := Try.prog) w g t 42 A (0, 0) _ hA Try.underlying42 rfl i1
  simp [results, Try.results13, h2', asAddr, e1]
set_option maxHeartbeats 1600000 in
set_option maxRecDepth 20000 in
theorem evote_any (s r k : Int) (A : Option Addr) (n c : Nat) (D : Option Addr) (m d : Nat) (w : World) : Calls Try.prog 13 #[.int .i64 s, .int .i64 r, .agg #[.int .i64 k, .slice A n c, .slice D m d]] w fun e w' => e = .returned (.agg #[.int .i64 s, .int .i64 r, .int .i64 1, .int .i64 k, .slice A n c, .slice D m d]) ∧ Below w.heap.size w w' := by
  have hb := ((Below.refl _ w).alloc (Nat.le_refl _) (.cells #[.int .i64 k, .slice A n c, .slice D m d] 35)).alloc (by simp) (.cells #[.int .i64 0, .int .i64 0, .int .i64 0, .int .i64 0, .slice none 0 0, .slice none 0 0] 42)
  have hp := heap_alloc_new w (.cells #[.int .i64 k, .slice A n c, .slice D m d] 35)
  have hr := heap_alloc_new (w.alloc (.cells #[.int .i64 k, .slice A n c, .slice D m d] 35)) (.cells #[.int .i64 0, .int .i64 0, .int .i64 0, .int .i64 0, .slice none 0 0, .slice none 0 0] 42)
  have hz : (w.alloc (.cells #[.int .i64 k, .slice A n c, .slice D m d] 35)).heap.size = w.heap.size + 1 := by simp
  have hp' := (Below.heap_alloc (w.alloc (.cells #[.int .i64 k, .slice A n c, .slice D m d] 35)) (.cells #[.int .i64 0, .int .i64 0, .int .i64 0, .int .i64 0, .slice none 0 0, .slice none 0 0] 42) w.heap.size (by omega)).trans hp
  rw [hz] at hr
  go_enter Try.func13, Try.ntmps13
  go_upto_region 1 with fail
  generalize (w.alloc (.cells #[.int .i64 k, .slice A n c, .slice D m d] 35)).alloc (.cells #[.int .i64 0, .int .i64 0, .int .i64 0, .int .i64 0, .slice none 0 0, .slice none 0 0] 42) = w1 at *
  have p0 := (row_cells hp' 0).1
  have p1 := (row_cells hp' 1).1
  have p2 := (row_cells hp' 2).1
  simp only [List.getElem?_toArray, List.getElem?_cons_succ, List.getElem?_cons_zero] at p0 p1 p2
  have hk2 := Kept.of_setRow w1 (w.heap.size + 1) #[.int .i64 s, .int .i64 r, .int .i64 1, .int .i64 k, .slice A n c, .slice D m d]
  have hr2 := set_row_at (B := #[.int .i64 s, .int .i64 r, .int .i64 1, .int .i64 k, .slice A n c, .slice D m d]) hr
  have hone : (#[.int .i64 s, .int .i64 r, .int .i64 1, .int .i64 k, .slice A n c, .slice D m d] : Array Value).all (·.oneCell') = true := by simp [Value.oneCell']
  have i2 : (Try.prog.info? 42).map (·.size) = some (#[.int .i64 s, .int .i64 r, .int .i64 1, .int .i64 k, .slice A n c, .slice D m d] : Array Value).size := by kernel_rfl
  have HR := hide hr
  have HR2 := hide hr2
  have HK2 := hide hk2
  clear hr hr2 hk2 hp hz
  go_wp2_with (refine wpList_store_row rfl 42 _ _ rfl (w.heap.size + 1) #[.int .i64 s, .int .i64 r, .int .i64 1, .int .i64 k, .slice A n c, .slice D m d] rfl rfl _ _ HR.out i2 rfl hone ?_; generalize w1.setRow (w.heap.size + 1) #[.int .i64 s, .int .i64 r, .int .i64 1, .int .i64 k, .slice A n c, .slice D m d] = wz at *)
  refine bodyPost_ret (v := .agg #[.int .i64 s, .int .i64 r, .int .i64 1, .int .i64 k, .slice A n c, .slice D m d]) (results_vote rfl HR2.out rfl) rfl ⟨rfl, hb.trans (HK2.out.below hb.size (fun j hj => by omega))⟩
end Go.Proofs.Ytnngmapphacpkaa

namespace Go.Proofs.Ytnngmapphacpkaa
open Go.RowKit

/-- Block g is the learner l; all its blocks are of F. -/
def EL (w : World) (F : Nat → Prop) (g : Nat) (l : Lv) : Prop := ∃ A n c vb db I, IsL w F g A n c vb db I l
/-- What a call leaves that may turn the learner. -/
def ELEnds (F : Nat → Prop) (g : Nat) (l : Lv) (r : Value) (w : World) (e : Ending) (w' : World) : Prop :=
  e = .returned r ∧ ∃ F', EL w' F' g l ∧ Kept F w w' ∧ ∀ j, F' j → F j ∨ w.heap.size ≤ j
def Lv.passed (l : Lv) : Lv := if (l.D l.next).isSome = true then { l with next := l.next + 1 } else l
section
variable {w w' : World} {F G : Nat → Prop} {g : Nat} {l : Lv}
theorem EL.lt (h : EL w F g l) : ∀ j, F j → j < w.heap.size := by
  obtain ⟨A, n, c, vb, db, I, h⟩ := h
  exact h.Flt
theorem EL.self (h : EL w F g l) : F g := by
  obtain ⟨A, n, c, vb, db, I, h⟩ := h
  exact h.Fg
theorem EL.good (h : EL w F g l) : l.Good := by
  obtain ⟨A, n, c, vb, db, I, h⟩ := h
  exact h.good
theorem EL.kept (h : EL w F g l) (hk : Kept G w w') (hd : ∀ j, F j → ¬ G j) : EL w' F g l := by
  obtain ⟨A, n, c, vb, db, I, h⟩ := h
  exact ⟨A, n, c, vb, db, I, h.kept hk hd⟩
theorem EL.below (h : EL w F g l) (hb : Below w.heap.size w w') : EL w' F g l := by
  obtain ⟨A, n, c, vb, db, I, h⟩ := h
  exact ⟨A, n, c, vb, db, I, h.below hb⟩
theorem EL.drew (h : EL w F g l) : EL w.drew F g l := h.below ((Below.refl _ _).drew)
theorem LEnds.el {A : Option Addr} {n c vb db : Nat} {r : Value} {e : Ending} (h : LEnds F g A n c vb db l r w e w') : ELEnds F g l r w e w' := by
  obtain ⟨h1, I, F', h2, h3⟩ := h
  exact ⟨h1, F', ⟨A, n, c, vb, db, I, h2⟩, h3⟩
theorem el_voted (h : EL w F g l) (q s r n : Int) (hs : (Lit.int .i64 s).wf = true) (x : Vl) (Av : Option Addr) (nv cv : Nat) (Dv : Option Addr) (mv dv : Nat) (hx : ArgV w F Av nv Dv mv x) :
    Calls Try.prog 12 #[.pointer (some ⟨g, 0, none⟩), .int .i64 q, .agg #[.int .i64 s, .int .i64 r, .int .i64 n, .int .i64 x.k, .slice Av nv cv, .slice Dv mv dv]] w (ELEnds F g (l.voted q ⟨s, r, n, x⟩).1 (.bool (l.voted q ⟨s, r, n, x⟩).2) w) := by
  obtain ⟨A, n', c, vb, db, I, h⟩ := h
  exact (evoted_any h ⟨s, r, n, x⟩ q hs Av nv cv Dv mv dv hx).mono fun e w' h => h.el
theorem el_told (h : EL w F g l) (s : Int) (hs : (Lit.int .i64 s).wf = true) (x : Vl) (Av : Option Addr) (nv cv : Nat) (Dv : Option Addr) (mv dv : Nat) (hx : ArgV w F Av nv Dv mv x) :
    Calls Try.prog 14 #[.pointer (some ⟨g, 0, none⟩), .int .i64 s, .agg #[.int .i64 x.k, .slice Av nv cv, .slice Dv mv dv]] w (ELEnds F g (l.told s x).1 (.bool (l.told s x).2) w) := by
  obtain ⟨A, n', c, vb, db, I, h⟩ := h
  exact (etold_any h hs Av nv cv Dv mv dv x hx).mono fun e w' h => h.el
theorem el_pass (h : EL w F g l) : Calls Try.prog 15 #[.pointer (some ⟨g, 0, none⟩)] w (ELEnds F g l.passed (.bool (l.D l.next).isSome) w) := by
  obtain ⟨A, n', c, vb, db, I, h⟩ := h
  exact (epass_any h).mono fun e w' h => h.el
theorem el_known (h : EL w F g l) {s : Int} (hs : (Lit.int .i64 s).wf = true) : Calls Try.prog 27 #[.pointer (some ⟨g, 0, none⟩), .int .i64 s] w (KnownEnds l s w) := by
  obtain ⟨A, n', c, vb, db, I, h⟩ := h
  exact eknown_any h hs
theorem el_next (h : EL w F g l) : Calls Try.prog 11 #[.pointer (some ⟨g, 0, none⟩)] w (NextEnds' l w) := by
  obtain ⟨A, n', c, vb, db, I, h⟩ := h
  exact enext_any h
theorem el_size (h : EL w F g l) : Calls Try.prog 17 #[.pointer (some ⟨g, 0, none⟩)] w fun e w' => ∃ k, e = .returned (.int .i64 k) ∧ l.Sz k ∧ Below w.heap.size w w' := by
  obtain ⟨A, n', c, vb, db, I, h⟩ := h
  exact esize_any h
theorem el_missing (h : EL w F g l) (most : Int) (hm : (Lit.int .i64 most).wf = true) : Calls Try.prog 16 #[.pointer (some ⟨g, 0, none⟩), .int .i64 most] w (MissEnds l most w) := by
  obtain ⟨A, n', c, vb, db, I, h⟩ := h
  exact emissing_any h most hm
theorem el_new (Am : Option Addr) (nm cm B : Nat) (ms : List Int) (fr : Int) (w : World) (hm : HasI w B Am ms) (hB : B ≤ w.heap.size) (hn : ms.length = nm) (hl : nm ≤ 17592186044416) (hr : rightS ms) (hf : 1 ≤ fr ∧ fr ≤ 1099511627776) :
    Calls Try.prog 10 #[.slice Am nm cm, .int .i64 fr] w fun e w' => ∃ g, e = .returned (.pointer (some ⟨g, 0, none⟩)) ∧ EL w' (fun j => w.heap.size ≤ j ∧ j < w'.heap.size) g (Lv.new ms fr) ∧ Below w.heap.size w w' := by
  refine (enew_any Am nm cm B ms fr w hm hB hn hl).mono ?_
  rintro e w' ⟨h1, _, hb⟩
  obtain ⟨g, A, n, c, vb, db, I, rfl, h⟩ := h1 ⟨hr, hf.1, hf.2⟩
  exact ⟨g, rfl, ⟨A, n, c, vb, db, I, h⟩, hb⟩
theorem ArgV.zero (w : World) (F : Nat → Prop) : ArgV w F none 0 none 0 zeroVl :=
  ⟨fun i hi => absurd hi (by simp [zeroVl]), fun i hi => absurd hi (by simp [zeroVl]), rfl, rfl, by omega, fun _ _ e => (by cases e), fun _ _ e => (by cases e)⟩
end
def hd0 : Lv := Lv.new [1, 2, 3] 1
def yh : Vt := ⟨2, 1, 1, zeroVl⟩
def hd1 : Lv := (hd0.voted 1 yh).1
def hd2 : Lv := (hd1.voted 3 yh).1
def hd3 : Lv := (hd2.told 1 zeroVl).1
def hd4 : Lv := hd3.passed
def hd5 : Lv := hd4.passed
theorem right123 : rightS [1, 2, 3] := by decide
theorem hd_a : (hd0.voted 1 yh).2 = false := by decide
theorem hd_b : (hd1.voted 3 yh).2 = true := by decide
theorem hd_c : hd2.next = 1 ∧ (hd2.D 1).isSome = false ∧ miss hd2 9 = [1] := by decide
theorem hd_d : (hd2.told 1 zeroVl).2 = true := by decide
theorem hd_e : (hd3.D hd3.next).isSome = true := by decide
theorem hd_f : (hd4.D hd4.next).isSome = true := by decide
theorem hd_g : (hd5.D hd5.next).isSome = false := by decide
theorem hd_h : hd5.passed = hd5 := if_neg (by rw [hd_g]; simp)
theorem hd1_is : hd1 = (hd0.hrd 2).setV 2 (fun z => if z = 1 then some yh else none) := by
  have h1 : hd0.voted 1 yh = (hd0.hrd yh.s).vote2 1 yh := if_pos (by decide)
  have h2 : (hd0.hrd yh.s).vote2 1 yh = (((hd0.hrd yh.s).kept 1 yh).1, false) := if_neg (by decide)
  have h3 : (hd0.hrd yh.s).kept 1 yh = ((hd0.hrd yh.s).setV yh.s (fun z => if z = 1 then some yh else (((hd0.hrd yh.s).V yh.s).getD fun _ => none) z), true) := if_pos (by decide)
  unfold hd1
  rw [h1, h2, h3]
  rfl
theorem hd2_is : ∃ N, hd2 = ((hd1.hrd 2).setV 2 N).dec 2 zeroVl := by
  have h1 : hd1.voted 3 yh = (hd1.hrd yh.s).vote2 3 yh := if_pos (by decide)
  have h2 : (hd1.hrd yh.s).vote2 3 yh = ((((hd1.hrd yh.s).kept 3 yh).1).dec yh.s yh.v, true) := if_pos (by decide)
  have h3 : (hd1.hrd yh.s).kept 3 yh = ((hd1.hrd yh.s).setV yh.s (fun z => if z = 3 then some yh else (((hd1.hrd yh.s).V yh.s).getD fun _ => none) z), true) := if_pos (by decide)
  unfold hd2
  rw [h1, h2, h3]
  exact ⟨_, rfl⟩
theorem hd3_is : hd3 = (hd2.hrd 1).dec 1 zeroVl := by
  have h1 : hd2.told 1 zeroVl = ((hd2.hrd 1).dec 1 zeroVl, true) := if_pos (by decide)
  unfold hd3
  rw [h1]
theorem hd5_is : hd5.V = hd3.V ∧ hd5.D = hd3.D := by
  have h4 : hd4 = { hd3 with next := hd3.next + 1 } := by
    unfold hd4 Lv.passed
    rw [if_pos hd_e]
  have h5 : hd5 = { hd4 with next := hd4.next + 1 } := by
    unfold hd5 Lv.passed
    rw [if_pos hd_f]
  rw [h5, h4]
  exact ⟨rfl, rfl⟩
theorem hd5_sz {k : Int} (h : hd5.Sz k) : k = 2 := by
  obtain ⟨ks, h1, h2, rfl⟩ := h
  obtain ⟨N, hN⟩ := hd2_is
  have hV : ∀ x, (hd5.V x).isSome = false := fun x => by
    rw [hd5_is.1, hd3_is, hN]
    show ((if x = 1 then none else (if x = 2 then none else (if x = 2 then some N else hd1.V x)))).isSome = false
    by_cases e1 : x = 1
    · rw [if_pos e1]; rfl
    · rw [if_neg e1]
      by_cases e2 : x = 2
      · rw [if_pos e2]; rfl
      · rw [if_neg e2, if_neg e2, hd1_is]
        show (if x = 2 then some _ else (hd0.V x)).isSome = false
        rw [if_neg e2]
        rfl
  have hD : ∀ x, (hd5.D x).isSome = decide (x = 1 ∨ x = 2) := fun x => by
    rw [hd5_is.2, hd3_is, hN]
    show ((if x = 1 then some zeroVl else (if x = 2 then some zeroVl else hd1.D x))).isSome = _
    by_cases e1 : x = 1
    · rw [if_pos e1, decide_eq_true (.inl e1)]; rfl
    · rw [if_neg e1]
      by_cases e2 : x = 2
      · rw [if_pos e2, decide_eq_true (.inr e2)]; rfl
      · rw [if_neg e2, decide_eq_false (by omega), hd1_is]
        rfl
  have hk : ∀ x, x ∈ ks ↔ x ∈ [(1 : Int), 2] := fun x => by
    rw [h2 x, hV, hD]
    simp
  have hp : ks.Perm [(1 : Int), 2] := (List.perm_ext_iff_of_nodup h1 (by decide)).2 hk
  rw [hp.length_eq]
  rfl
theorem eq_pl (b : Nat) (w : World) : (binOp .eql 31 (.pointer (some ⟨b, 0, none⟩)) (.pointer none)).run Try.prog w = .ok (.bool false) w := by kernel_rfl
set_option maxHeartbeats 3200000 in
set_option maxRecDepth 20000 in
theorem head15_any (w : World) : Calls Try.prog 8 #[] w fun e w' => e = .returned (.bool true) ∧ Below w.heap.size w w' := by
  have hm0 : HasI (w.alloc (.cells (icells [1, 2, 3]) 3)) (w.heap.size + 1) (some ⟨w.heap.size, 0, none⟩) [1, 2, 3] := HasI.new w 3 [1, 2, 3] (0, 0) w.heap.size rfl
  have ba := (Below.refl _ w).alloc (Nat.le_refl _) (.cells (icells [1, 2, 3]) 3)
  have hic : icells [1, 2, 3] = #[.int .i64 1, .int .i64 2, .int .i64 3] := rfl
  rw [hic] at hm0 ba
  have hz0 : w.heap.size < (w.alloc (.cells #[.int .i64 1, .int .i64 2, .int .i64 3] 3)).heap.size := by simp
  clear hic
  go_enter Try.func8, Try.ntmps8
  go_wp2_with fail
  generalize w.alloc (.cells #[.int .i64 1, .int .i64 2, .int .i64 3] 3) = w0 at *
  refine (el_new _ 3 _ _ _ 1 w0 hm0 (by omega) rfl (by omega) right123 ⟨by omega, by omega⟩).mono ?_
  rintro e w1 ⟨g, rfl, h1, hb1⟩
  have hb1' := ba.trans (hb1.mono ba.size)
  go_wp2_with fail
  refine (evote_any 2 1 0 none 0 0 none 0 0 w1).mono ?_
  rintro e w2 ⟨rfl, hb2⟩
  go_wp2_with fail
  refine (el_voted (h1.below hb2) 1 2 1 1 (by decide) zeroVl none 0 0 none 0 0 (ArgV.zero _ _)).mono ?_
  rintro e w3 ⟨rfl, F3, h3, hk3, hf3⟩
  rw [show (((Lv.new [1, 2, 3] 1).voted 1 ⟨2, 1, 1, zeroVl⟩).2) = false from hd_a]
  have h3 : EL w3 F3 g hd1 := h3
  go_wp2_with fail
  refine (evote_any 2 1 0 none 0 0 none 0 0 w3).mono ?_
  rintro e w4 ⟨rfl, hb4⟩
  go_wp2_with fail
  refine (el_voted (h3.below hb4) 3 2 1 1 (by decide) zeroVl none 0 0 none 0 0 (ArgV.zero _ _)).mono ?_
  rintro e w5 ⟨rfl, F5, h5, hk5, hf5⟩
  rw [show ((hd1.voted 3 ⟨2, 1, 1, zeroVl⟩).2) = true from hd_b]
  have h5 : EL w5 F5 g hd2 := h5
  have b12 : Below w.heap.size w w2 := hb1'.trans (hb2.mono hb1'.size)
  have hz2 := hb2.size
  have b13 : Below w.heap.size w w3 := b12.trans (hk3.below b12.size (fun j hj => by have := ba.size; omega))
  have b14 := b13.trans (hb4.mono b13.size)
  have hf3' : ∀ j, F3 j → w.heap.size ≤ j := fun j hj => by
    rcases hf3 j hj with e | e
    · have := ba.size; omega
    · have := b12.size; omega
  have b15 : Below w.heap.size w w5 := b14.trans (hk5.below b14.size hf3')
  have hf5' : ∀ j, F5 j → w.heap.size ≤ j := fun j hj => by
    rcases hf5 j hj with e | e
    · exact hf3' j e
    · have := b14.size; omega
  have HF5 := hide hf5'
  have HB5 := hide b15
  clear hf5 hf5' hf3' hf3 b13 b14 b12 b15 hk3 hk5 hb1 hb1' hb2 hb4 h1 h3 hz2 hm0 ba hz0
  go_wp2_with fail
  refine (el_next h5).mono ?_
  rintro e w6 ⟨A6, n6, c6, D6, m6, d6, rfl, _, _, hb6⟩
  rw [show hd2.next = 1 from hd_c.1, show (hd2.D 1).isSome = false from hd_c.2.1]
  generalize (hd2.known 1).k = kk
  have h6 := h5.below hb6
  have bx := (Below.refl _ w6).alloc (Nat.le_refl _) (.cells #[.int .i64 kk, .slice A6 n6 c6, .slice D6 m6 d6] 35)
  have h7 := h6.below bx
  have hb67 := hb6.trans (bx.mono hb6.size)
  have HB7 := hide (HB5.out.trans (hb67.mono HB5.out.size))
  have HF7 : Hid (∀ j, F5 j → w.heap.size ≤ j) := HF5
  clear h5 h6 hb6 bx hb67 HB5
  go_upto_region 5 with fail
  generalize w6.alloc (.cells #[.int .i64 kk, .slice A6 n6 c6, .slice D6 m6 d6] 35) = w7 at *
  go_wp2_with fail
  refine (el_missing h7 9 (by decide)).mono ?_
  rintro e w8 ⟨A8, n8, c8, rfl, ho8, hb8⟩
  rw [show miss hd2 9 = [1] from hd_c.2.2] at ho8
  obtain ⟨l8, hi8⟩ := owni_slice' ho8
  have hn8 : n8 = 1 := by rw [← l8]; rfl
  subst hn8
  have ba := (Below.refl _ w8).alloc (Nat.le_refl _) (.cells (icells [1]) 3)
  have hone : HasI (w8.alloc (.cells (icells [1]) 3)) (w8.heap.size + 1) (some ⟨w8.heap.size, 0, none⟩) [1] := HasI.new w8 3 [1] (0, 0) w8.heap.size rfl
  have hi9 := hi8.on (Nat.le_refl _) ba
  have hic : icells [1] = #[.int .i64 1] := rfl
  rw [hic] at ba hone hi9
  have h9 := (h7.below hb8).below ba
  have hb89 := hb8.trans (ba.mono hb8.size)
  have HB9 := hide (HB7.out.trans (hb89.mono HB7.out.size))
  clear hic hi8 l8 ho8 h7 hb8 hb89 HB7
  go_wp2_with fail
  generalize w8.alloc (.cells #[.int .i64 1] 3) = w9 at *
  refine (rints_any A8 _ 1 1 c8 _ _ _ [1] [1] w9 hi9 hone rfl rfl (by omega)).mono ?_
  rintro e w10 ⟨rfl, n10, e10⟩
  have b10 : Below w9.heap.size w9 w10 := by rw [← e10]; exact below_drewN (Below.refl _ _) n10
  have h10 := h9.below b10
  have HB10 := hide (HB9.out.trans (b10.mono HB9.out.size))
  clear e10 h9 HB9 b10
  rw [show decide (([1] : List Int) = [1]) = true from rfl]
  go_wp2_with fail
  refine (el_told h10 1 (by decide) zeroVl none 0 0 none 0 0 (ArgV.zero _ _)).mono ?_
  rintro e w11 ⟨rfl, F11, h11, hk11, hf11⟩
  rw [show (hd2.told 1 zeroVl).2 = true from hd_d]
  have h11 : EL w11 F11 g hd3 := h11
  have HB11 := hide (HB10.out.trans ((hk11.below HB10.out.size HF7.out).mono (Nat.le_refl _)))
  have HF11 : Hid (∀ j, F11 j → w.heap.size ≤ j) := hide (fun j hj => by
    rcases hf11 j hj with e | e
    · exact HF7.out j e
    · have := HB10.out.size; omega)
  clear h10 hk11 hf11 hi9 hone ba HB10
  go_wp2_with fail
  refine (el_pass h11).mono ?_
  rintro e w12 ⟨rfl, F12, h12, hk12, hf12⟩
  rw [hd_e]
  have h12 : EL w12 F12 g hd4 := h12
  have HB12 := hide (HB11.out.trans ((hk12.below HB11.out.size HF11.out).mono (Nat.le_refl _)))
  have HF12 : Hid (∀ j, F12 j → w.heap.size ≤ j) := hide (fun j hj => by
    rcases hf12 j hj with e | e
    · exact HF11.out j e
    · have := HB11.out.size; omega)
  clear h11 hk12 hf12
  go_wp2_with fail
  refine (el_pass h12).mono ?_
  rintro e w13 ⟨rfl, F13, h13, hk13, hf13⟩
  rw [hd_f]
  have h13 : EL w13 F13 g hd5 := h13
  have HB13 := hide (HB12.out.trans ((hk13.below HB12.out.size HF12.out).mono (Nat.le_refl _)))
  have HF13 : Hid (∀ j, F13 j → w.heap.size ≤ j) := hide (fun j hj => by
    rcases hf13 j hj with e | e
    · exact HF12.out j e
    · have := HB12.out.size; omega)
  clear h12 hk13 hf13
  go_wp2_with fail
  refine (el_pass h13).mono ?_
  rintro e w14 ⟨rfl, F14, h14, hk14, hf14⟩
  rw [hd_g]
  rw [hd_h] at h14
  have HB14 := hide (HB13.out.trans ((hk14.below HB13.out.size HF13.out).mono (Nat.le_refl _)))
  clear h13 hk14 hf14
  go_wp2_with fail
  refine (el_size h14).mono ?_
  rintro e w15 ⟨k, rfl, hk, hb15⟩
  obtain rfl := hd5_sz hk
  go_wp2
  go_ret
  exact ⟨rfl, HB14.out.trans (hb15.mono HB14.out.size)⟩
end Go.Proofs.Ytnngmapphacpkaa
