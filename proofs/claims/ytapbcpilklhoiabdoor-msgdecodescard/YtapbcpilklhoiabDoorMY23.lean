/-
  The memory of a message that the reference reads field by field. No condition.
  ReadText of the reference of package pack, whatever is read. No condition but the reach of what is read.
-/
import Derived.Test.YtapbcpilklhoiabDoorMY8
import Derived.Test.YtapbcpilklhoiabDoorMY13
import Derived.Test.YtapbcpilklhoiabDoorMY0
import Derived.Test.YtapbcpilklhoiabDoorMY15
set_option linter.unusedSimpArgs false
set_option linter.unusedVariables false

namespace Go.Proofs.YtapbcpilklhoiabDoor
open Go.RowKit

/-- A text read by a reader, whether stuck or not. -/
def rtx (xs : List UInt8) (most : Int) (er : Nat) : List UInt8 × List UInt8 × Nat :=
  if (rcx xs most er).2.2 ≠ 0 then ([], (rcx xs most er).2.1, (rcx xs most er).2.2) else if (rcx xs most er).2.1.length < (rcx xs most er).1 then ([], [], 10) else ((rcx xs most er).2.1.take (rcx xs most er).1, (rcx xs most er).2.1.drop (rcx xs most er).1, 0)
def XEnds (w : World) (B : Nat) (zs ys : List UInt8) (er : Nat) (e : Ending) (w' : World) : Prop :=
  ∃ A n c A2 n2 c2, e = .returned (.tuple #[.agg #[.slice A n c, .int .i64 (er : Int)], .slice A2 n2 c2]) ∧ (er = 0 → Left w' B A n c ys) ∧ Own w' w.heap.size (.slice A2 n2 c2) zs ∧ Below w.heap.size w w'
theorem rcx_le {xs : List UInt8} {most : Int} {er : Nat} (hm : IsInt most) : ((rcx xs most er).1 : Int) ≤ 9223372036854775807 := by
  unfold IsInt at hm
  unfold rcx
  split
  · simp
  · omega

set_option maxHeartbeats 800000 in
theorem readtext_all (A : Option Addr) (n c B er : Nat) (xs : List UInt8) (most : Int) (w : World) (h : er = 0 → Left w B A n c xs) (hB : B ≤ w.heap.size) (hm : IsInt most) :
    Calls Tryd.prog 77 #[.agg #[.slice A n c, .int .i64 (er : Int)], .int .i64 most] w (XEnds w B (rtx xs most er).1 (rtx xs most er).2.1 (rtx xs most er).2.2) := by
  have HR : Hid (∀ o1 o2, Calls Tryd.prog 72 #[.agg #[.slice A n c, .int .i64 (er : Int)], .int .i64 most] ((w.alloc o1).alloc o2) (CEnds ((w.alloc o1).alloc o2) B (.int .i64 ((rcx xs most er).1 : Int)) (rcx xs most er).2.1 (rcx xs most er).2.2)) :=
    hide fun o1 o2 => readcount_all A n c B er xs most _ (fun e => (h e).below ((below2 w o1 o2).mono hB)) (by simp; omega) hm
  have hq := @rcx_le xs most er hm
  unfold rtx
  generalize rcx xs most er = q at *
  obtain ⟨u, ys, er'⟩ := q
  simp only at hq HR ⊢
  clear h hm
  have hb6 : ∀ o1 o2 o3 o4 o5 o6 : Obj, Below w.heap.size w ((((((w.alloc o1).alloc o2).alloc o3).alloc o4).alloc o5).alloc o6) := fun o1 o2 o3 o4 o5 o6 => ((below4 w o1 o2 o3 o4).alloc (by simp; omega) _).alloc (by simp; omega) _
  have HB6 := hide hb6
  clear hb6
  by_cases he : er' = 0
  · subst he
    rw [if_neg (by simp)]
    by_cases hs : ys.length < u
    · rw [if_pos hs]
      go_enter Tryd.func77, Tryd.ntmps77
      go_wp2_with fail
      refine (HR.out _ _).mono ?_
      rintro e w1 ⟨A1, n1, c1, rfl, hl1, o1, o2, o3, o4, rfl⟩
      have hn1 := (hl1 rfl).2.1.out
      have hle := (hl1 rfl).2.2.2
      have t2 : decide (n1 < u) = true := by simp; omega
      have t2' : decide ((n1 : Int) < (u : Int)) = true := by simp; omega
      clear hl1 hn1
      go_wp2
      go_returns
      exact ⟨_, _, _, none, 0, 0, rfl, (fun h => by cases h), Own.nil _ _, HB6.out _ _ _ _ _ _⟩
    · rw [if_neg hs]
      go_enter Tryd.func77, Tryd.ntmps77
      go_wp2_with fail
      refine (HR.out _ _).mono ?_
      rintro e w1 ⟨A1, n1, c1, rfl, hl1, o1, o2, o3, o4, rfl⟩
      have hl0 := (hl1 rfl).back ((HB6.out _ _ o1 o2 o3 o4).mono hB)
      obtain ⟨hx1, hn1, hc1, hle⟩ := hl0
      have HL0 : Hid (Left w B A1 n1 c1 ys) := hide ⟨hx1, hn1, hc1, hle⟩
      have hun : u ≤ n1 := by have := hn1.out; omega
      have t2 : decide (n1 < u) = false := by simp; omega
      have t2' : decide ((n1 : Int) < (u : Int)) = false := by simp; omega
      clear hl1 hs
      by_cases hcu : c1 = u
      all_goals
        have HCU := hide hcu
        have hcu2 : c1 ≤ u ∨ u + 1 ≤ c1 := by omega
        clear hcu
        go_wp2_with fail
        refine (copy_any A1 u c1 (ys.take u) _ ((hx1.below ((HB6.out _ _ o1 o2 o3 o4).mono hB)).take u |>.more ?_) (by have := hn1.out; rw [List.length_take]; omega) (by omega)).mono ?_
        · simp; omega
        rintro e w2 ⟨rfl, rfl⟩
        go_wp2
        go_returns
        refine ⟨_, _, _, _, _, _, rfl, fun _ => ?_, ?_, (HB6.out _ _ _ _ _ _).alloc (by simp; omega) _⟩
        rotate_left
        · have hlen : (ys.take u).length = u := by have := hn1.out; rw [List.length_take]; omega
          have hown := fun W => Own.new W (ys.take u) (w.heap.size + 1 + 1 + 1 + 1 + 1 + 1) w.heap.size
          rw [hlen] at hown
          exact hown _ (by simp) (by omega) (by omega)
        first
          | exact (left_cut (s := u) HL0.out hun rfl rfl (.inr rfl)).below (((HB6.out _ _ _ _ _ _).alloc (by simp; omega) _).mono hB)
          | exact (left_cut (s := u) HL0.out hun (by omega) (by have := HCU.out; omega) (.inl ⟨rfl, HCU.out⟩)).below (((HB6.out _ _ _ _ _ _).alloc (by simp; omega) _).mono hB)
          | exact (left_cut (s := u) HL0.out hun (by omega) (by omega) (.inr rfl)).below (((HB6.out _ _ _ _ _ _).alloc (by simp; omega) _).mono hB)
  · rw [if_pos he]
    have t3 : ((er' : Int) != 0) = true := by rw [bne_iff_ne]; omega
    have HE := hide he
    clear he
    go_enter Tryd.func77, Tryd.ntmps77
    go_wp2_with fail
    refine (HR.out _ _).mono ?_
    rintro e w1 ⟨A1, n1, c1, rfl, hl1, o1, o2, o3, o4, rfl⟩
    clear hl1
    go_wp2
    go_returns
    exact ⟨_, _, _, none, 0, 0, rfl, (fun h => absurd h HE.out), Own.nil _ _, HB6.out _ _ _ _ _ _⟩

theorem rtx_rt (xs : List UInt8) (er : Nat) (most : Int) : rtx xs most er = rt most (xs, er) := by
  unfold rtx rt
  rw [rcx_rc]
def XtEnds (B : Nat) (q : List UInt8 × RSt) (w : World) (e : Ending) (w' : World) : Prop :=
  ∃ A n c D l d, e = .returned (.tuple #[.agg #[.slice A n c, .int .i64 (q.2.2 : Int)], .slice D l d]) ∧ Hid (q.2.2 = 0 → Left w' B A n c q.2.1) ∧ Own w' w.heap.size (.slice D l d) q.1 ∧ Below w.heap.size w w'
theorem rtext_ref (A : Option Addr) (n c B : Nat) (s : RSt) (w : World) (h : s.2 = 0 → Left w B A n c s.1) (hB : B ≤ w.heap.size) :
    Calls Tryd.prog 77 #[.agg #[.slice A n c, .int .i64 (s.2 : Int)], .int .i64 1024] w (XtEnds B (rt 1024 s) w) := by
  have hr := readtext_all A n c B s.2 s.1 1024 w h hB (isInt_lit (by omega))
  rw [rtx_rt] at hr
  refine hr.mono ?_
  rintro e w' ⟨A', n', c', D, l, d, rfl, hl, ho, hb⟩
  exact ⟨A', n', c', D, l, d, rfl, hl, ho, hb⟩
end Go.Proofs.YtapbcpilklhoiabDoor

namespace Go.Proofs.YtapbcpilklhoiabDoor
open Go.RowKit

/-- Memory within the reference's rest. -/
structure RQ (w : World) (B : Nat) (s : RSt) (A : Option Addr) (n c : Nat) (m : Msgv) (W : World) : Prop where
  box : W.heap[w.heap.size]? = some (.cells #[.slice A n c, .int .i64 (s.2 : Int)] 89 (0, 0))
  mb : W.heap[w.heap.size + 1]? = some (.cells m.cells 37 (0, 0))
  r4 : W.heap[w.heap.size + 1 + 1]? = some (.cells #[.slice none 0 0, .int .i64 0] 89 (0, 0))
  r5 : W.heap[w.heap.size + 1 + 1 + 1]? = some (.cells (mz 0 0 0 0).cells 37 (0, 0))
  left : s.2 = 0 → Left W B A n c s.1
  im : IsM W W.heap.size m
  re : ∀ k, ReachM m k → w.heap.size + 4 ≤ k ∧ k < W.heap.size
  bl : Below w.heap.size w W
  hB : B ≤ w.heap.size
section
variable {w W W' : World} {B : Nat} {s s' : RSt} {A A' : Option Addr} {n c n' c' : Nat} {m m' : Msgv}
theorem RQ.sz (h : RQ w B s A n c m W) : w.heap.size + 4 ≤ W.heap.size := by have := lt_of_block h.r5; omega
theorem RQ.below (h : RQ w B s A n c m W) (hb : Below W.heap.size W W') : RQ w B s A n c m W' := by
  have hz := h.sz
  have hB := h.hB
  have hz' := hb.size
  exact ⟨(hb.block _ (by omega)).trans h.box, (hb.block _ (by omega)).trans h.mb, (hb.block _ (by omega)).trans h.r4, (hb.block _ (by omega)).trans h.r5, fun e => (h.left e).below (hb.mono (by omega)), (h.im.below hb).more hz', fun k hk => by have := h.re k hk; omega, h.bl.trans (hb.mono h.bl.size), h.hB⟩
/-- The reader's box is set to what a call gave. -/
theorem RQ.row (h : RQ w B s A n c m W) (hl : s'.2 = 0 → Left W B A' n' c' s'.1) : RQ w B s' A' n' c' m (W.setRow w.heap.size #[.slice A' n' c', .int .i64 (s'.2 : Int)]) := by
  have hk := Kept.of_setRow W w.heap.size #[.slice A' n' c', .int .i64 (s'.2 : Int)]
  have hz := h.sz
  have hB := h.hB
  have hz' := hk.size
  exact ⟨set_row_at h.box, (hk.block _ (by omega) (by omega)).trans h.mb, (hk.block _ (by omega) (by omega)).trans h.r4, (hk.block _ (by omega) (by omega)).trans h.r5, fun e => ⟨(hl e).1.keep fun b hb => hk.block b (by omega) (by omega), (hl e).2⟩,
    (h.im.keepR fun k hr hlt => hk.block k hlt (by have := h.re k hr; omega)).more hz', fun k hk' => by have := h.re k hk'; omega, h.bl.trans (hk.below h.bl.size (fun k hk => by omega)), h.hB⟩
theorem RQ.put (h : RQ w B s A n c m W) (hk : Kept (fun k => k = w.heap.size + 1) W W') (hb : W'.heap[w.heap.size + 1]? = some (.cells m'.cells 37 (0, 0))) (im : IsM W W.heap.size m') (re : ∀ k, ReachM m' k → w.heap.size + 4 ≤ k ∧ k < W.heap.size) : RQ w B s A n c m' W' := by
  have hz := h.sz
  have hB := h.hB
  have hz' := hk.size
  exact ⟨(hk.block _ (by omega) (by omega)).trans h.box, hb, (hk.block _ (by omega) (by omega)).trans h.r4, (hk.block _ (by omega) (by omega)).trans h.r5, fun e => ⟨(h.left e).1.keep fun b hb => hk.block b (by omega) (by omega), (h.left e).2⟩,
    (im.keepR fun k hr hlt => hk.block k hlt (by have := re k hr; omega)).more hz', fun k hk' => by have := re k hk'; omega, h.bl.trans (hk.below h.bl.size (fun k hk => by omega)), h.hB⟩
theorem RQ.br (h : RQ w B s A n c m W) (x : Int) : RQ w B s A n c { m with br := x } (W.setCell ⟨w.heap.size + 1, 4, none⟩ (.int .i64 x)) :=
  h.put (keptC W _ 4 _) (by simp [World.setCell, Array.getElem?_modify, h.mb, Msgv.cells]) ⟨h.im.v, h.im.vt, h.im.en, h.im.ln, h.im.d, h.im.ed, h.im.dc, h.im.ld, h.im.cm, h.im.i1, h.im.i2, h.im.i3⟩ h.re
theorem RQ.bn (h : RQ w B s A n c m W) (x : Int) : RQ w B s A n c { m with bn := x } (W.setCell ⟨w.heap.size + 1, 5, none⟩ (.int .i64 x)) :=
  h.put (keptC W _ 5 _) (by simp [World.setCell, Array.getElem?_modify, h.mb, Msgv.cells]) ⟨h.im.v, h.im.vt, h.im.en, h.im.ln, h.im.d, h.im.ed, h.im.dc, h.im.ld, h.im.cm, h.im.i1, h.im.i2, h.im.i3⟩ h.re
theorem RQ.sl (h : RQ w B s A n c m W) (x : Int) : RQ w B s A n c { m with sl := x } (W.setCell ⟨w.heap.size + 1, 6, none⟩ (.int .i64 x)) :=
  h.put (keptC W _ 6 _) (by simp [World.setCell, Array.getElem?_modify, h.mb, Msgv.cells]) ⟨h.im.v, h.im.vt, h.im.en, h.im.ln, h.im.d, h.im.ed, h.im.dc, h.im.ld, h.im.cm, h.im.i1, h.im.i2, h.im.i3⟩ h.re
theorem RQ.lw (h : RQ w B s A n c m W) (x : Int) : RQ w B s A n c { m with lw := x } (W.setCell ⟨w.heap.size + 1, 7, none⟩ (.int .i64 x)) :=
  h.put (keptC W _ 7 _) (by simp [World.setCell, Array.getElem?_modify, h.mb, Msgv.cells]) ⟨h.im.v, h.im.vt, h.im.en, h.im.ln, h.im.d, h.im.ed, h.im.dc, h.im.ld, h.im.cm, h.im.i1, h.im.i2, h.im.i3⟩ h.re
theorem RQ.tm (h : RQ w B s A n c m W) (x : Int) : RQ w B s A n c { m with tm := x } (W.setCell ⟨w.heap.size + 1, 8, none⟩ (.int .i64 x)) :=
  h.put (keptC W _ 8 _) (by simp [World.setCell, Array.getElem?_modify, h.mb, Msgv.cells]) ⟨h.im.v, h.im.vt, h.im.en, h.im.ln, h.im.d, h.im.ed, h.im.dc, h.im.ld, h.im.cm, h.im.i1, h.im.i2, h.im.i3⟩ h.re
theorem RQ.val (h : RQ w B s A n c m W) (v : Valv) (hv : IsV W W.heap.size v.A v.n v.D v.m v.cs v.ns) (hr : ∀ k, ReachV v k → w.heap.size + 4 ≤ k ∧ k < W.heap.size) : RQ w B s A n c { m with v := v } (((W.setCell ⟨w.heap.size + 1, 9, none⟩ (.int .i64 v.k)).setCell ⟨w.heap.size + 1, 10, none⟩ (.slice v.A v.n v.c)).setCell ⟨w.heap.size + 1, 11, none⟩ (.slice v.D v.m v.d)) :=
  h.put (((keptC W _ 9 _).setCell (p := ⟨w.heap.size + 1, 10, none⟩) (.inl rfl) _).setCell (p := ⟨w.heap.size + 1, 11, none⟩) (.inl rfl) _) (by simp [World.setCell, Array.getElem?_modify, h.mb, Msgv.cells]) ⟨hv, h.im.vt, h.im.en, h.im.ln, h.im.d, h.im.ed, h.im.dc, h.im.ld, h.im.cm, h.im.i1, h.im.i2, h.im.i3⟩ (fun k hk => by
    rcases hk with hk | hk
    · exact hr k hk
    · exact h.re k (.inr hk))
theorem RQ.cmd (h : RQ w B s A n c m W) (x : Cmdv) (hc : IsCmd x) : RQ w B s A n c { m with cm := x } ((((((((W.setCell ⟨w.heap.size + 1, 13, none⟩ (.int .i64 x.s)).setCell ⟨w.heap.size + 1, 14, none⟩ (.int .i64 x.q)).setCell ⟨w.heap.size + 1, 15, none⟩ (.int .i64 x.a)).setCell ⟨w.heap.size + 1, 16, none⟩ (.int .i64 x.k)).setCell ⟨w.heap.size + 1, 17, none⟩ (.int .i64 x.r)).setCell ⟨w.heap.size + 1, 18, none⟩ (.int .i64 x.t)).setCell ⟨w.heap.size + 1, 19, none⟩ (.int .i64 x.re)).setCell ⟨w.heap.size + 1, 20, none⟩ (.int .i64 x.im)) :=
  h.put ((((((((keptC W _ 13 _).setCell (p := ⟨w.heap.size + 1, 14, none⟩) (.inl rfl) _).setCell (p := ⟨w.heap.size + 1, 15, none⟩) (.inl rfl) _).setCell (p := ⟨w.heap.size + 1, 16, none⟩) (.inl rfl) _).setCell (p := ⟨w.heap.size + 1, 17, none⟩) (.inl rfl) _).setCell (p := ⟨w.heap.size + 1, 18, none⟩) (.inl rfl) _).setCell (p := ⟨w.heap.size + 1, 19, none⟩) (.inl rfl) _).setCell (p := ⟨w.heap.size + 1, 20, none⟩) (.inl rfl) _) (by simp [World.setCell, Array.getElem?_modify, h.mb, Msgv.cells]) ⟨h.im.v, h.im.vt, h.im.en, h.im.ln, h.im.d, h.im.ed, h.im.dc, h.im.ld, hc, h.im.i1, h.im.i2, h.im.i3⟩ h.re
theorem RQ.res (h : RQ w B s A n c m W) (x y z : Int) (h1 : IsInt x) (h2 : IsInt y) (h3 : IsInt z) : RQ w B s A n c { m with rk := x, rr := y, ri := z } (((W.setCell ⟨w.heap.size + 1, 21, none⟩ (.int .i64 x)).setCell ⟨w.heap.size + 1, 22, none⟩ (.int .i64 y)).setCell ⟨w.heap.size + 1, 23, none⟩ (.int .i64 z)) :=
  h.put (((keptC W _ 21 _).setCell (p := ⟨w.heap.size + 1, 22, none⟩) (.inl rfl) _).setCell (p := ⟨w.heap.size + 1, 23, none⟩) (.inl rfl) _) (by simp [World.setCell, Array.getElem?_modify, h.mb, Msgv.cells]) ⟨h.im.v, h.im.vt, h.im.en, h.im.ln, h.im.d, h.im.ed, h.im.dc, h.im.ld, h.im.cm, h1, h2, h3⟩ h.re
theorem RQ.data (h : RQ w B s A n c m W) (D : Option Addr) (l d : Nat) (ds : List UInt8) (hd : Has W W.heap.size D ds) (hn : ds.length = l) (hc : l ≤ d) (hl : l ≤ 140737488351232) (hr : ∀ k o, D = some ⟨k, o, none⟩ → w.heap.size + 4 ≤ k ∧ k < W.heap.size) : RQ w B s A n c { m with DA := D, dn := l, dc := d, ds := ds } (W.setCell ⟨w.heap.size + 1, 24, none⟩ (.slice D l d)) :=
  h.put (keptC W _ 24 _) (by simp [World.setCell, Array.getElem?_modify, h.mb, Msgv.cells]) ⟨h.im.v, h.im.vt, h.im.en, h.im.ln, hd, hn, hc, hl, h.im.cm, h.im.i1, h.im.i2, h.im.i3⟩ (fun k hk => by
    rcases hk with hk | hk | hk | ⟨o, hk⟩
    · exact h.re k (.inl hk)
    · exact h.re k (.inr (.inl hk))
    · exact h.re k (.inr (.inr (.inl hk)))
    · exact hr k o hk)
/-- A vote more: behind the append, and behind the store of the slice. -/
theorem RQ.vote {W7 : World} {xs : List Votel} {A7 : Option Addr} {n7 c7 : Nat} {y : Votev} (h : RQ w B s A n c m W) (hne : ∀ k, ReachV m.v k → (Value.slice m.VA m.vn m.vc).ownBlock ≠ some k) (hd : m.ds = []) (hv : VtGo w (w.heap.size + 4) (.slice m.VA m.vn m.vc) xs m.vs W)
    (hgr : W.grownBy W7 (Value.slice m.VA m.vn m.vc).ownBlock) (hat : (Value.slice A7 n7 c7).ownBlock = (Value.slice m.VA m.vn m.vc).ownBlock ∨ (Value.slice A7 n7 c7).ownBlock = some W.heap.size) (hv7 : VtGo w (w.heap.size + 4) (.slice A7 n7 c7) (xs ++ [y.lg]) (m.vs ++ [y]) W7) (hn7 : n7 ≤ 2199023255552) :
    RQ w B s A n c { m with VA := A7, vn := n7, vc := c7, vs := m.vs ++ [y] } (W7.setCell ⟨w.heap.size + 1, 12, none⟩ (.slice A7 n7 c7)) ∧ (∀ k, ReachV m.v k → (Value.slice A7 n7 c7).ownBlock ≠ some k) ∧ VtGo w (w.heap.size + 4) (.slice A7 n7 c7) (xs ++ [y.lg]) (m.vs ++ [y]) (W7.setCell ⟨w.heap.size + 1, 12, none⟩ (.slice A7 n7 c7)) := by
  have hz := h.sz
  have hB := h.hB
  have hk1 : Kept (fun k => (Value.slice m.VA m.vn m.vc).ownBlock = some k) W W7 := Kept.of_grown (F := fun k => (Value.slice m.VA m.vn m.vc).ownBlock = some k) hgr (fun k hk => hk)
  have hz' := hk1.size
  have hlt : ∀ k, (Value.slice m.VA m.vn m.vc).ownBlock = some k → w.heap.size + 4 ≤ k := fun k hk => (hv.ow.lt k hk).1
  have old : ∀ k, k < w.heap.size + 4 → W7.heap[k]? = W.heap[k]? := fun k hk => hk1.block k (by omega) (fun e => by have := hlt k e; omega)
  have hrm : ∀ k, ReachV m.v k → w.heap.size + 4 ≤ k ∧ k < W.heap.size := fun k hk => h.re k (.inl hk)
  obtain ⟨_, _, _, e1, e2, _, g1⟩ := hv7.ow.form hv7.iv
  injection e1 with e11 e12 e13
  subst e11 e12 e13
  have hk2 := keptC W7 (w.heap.size + 1) 12 (.slice A7 n7 c7)
  have hz2 := hk2.size
  have im7 : IsM W7 W7.heap.size { m with VA := A7, vn := n7, vc := c7, vs := m.vs ++ [y] } := ⟨(h.im.v.keepR (v := m.v) fun k hr hl => hk1.block k hl (hne k hr)).more hz', g1, e2.out, hn7, by show Has W7 W7.heap.size m.DA m.ds; rw [hd]; exact Has.nil _ _ _, h.im.ed, h.im.dc, h.im.ld, h.im.cm, h.im.i1, h.im.i2, h.im.i3⟩
  have re7 : ∀ k, ReachM { m with VA := A7, vn := n7, vc := c7, vs := m.vs ++ [y] } k → w.heap.size + 4 ≤ k ∧ k < W7.heap.size := fun k hk => by
    rcases hk with hk | ⟨o, e⟩ | ⟨x, hx, hr⟩ | hk
    · have := h.re k (.inl hk)
      omega
    · exact hv7.ow.lt k (own_block e)
    · have := hv7.re x hx k hr
      omega
    · have := h.re k (.inr (.inr (.inr hk)))
      omega
  have hb7 := (old (w.heap.size + 1) (by omega)).trans h.mb
  have two : ∀ k, k < w.heap.size + 4 → k ≠ w.heap.size + 1 → (W7.setCell ⟨w.heap.size + 1, 12, none⟩ (.slice A7 n7 c7)).heap[k]? = W.heap[k]? := fun k h1 h2 => (hk2.block k (by omega) h2).trans (old k h1)
  refine ⟨⟨(two _ (by omega) (by omega)).trans h.box, by simp [World.setCell, Array.getElem?_modify, hb7, Msgv.cells], (two _ (by omega) (by omega)).trans h.r4, (two _ (by omega) (by omega)).trans h.r5, fun e => ⟨(h.left e).1.keep fun b hb => two b (by omega) (by omega), (h.left e).2⟩,
    (im7.keepR fun k hr hl => hk2.block k hl (by have := re7 k hr; omega)).more hz2, fun k hk => by have := re7 k hk; omega, (h.bl.trans (hk1.below h.bl.size (fun k hk => by have := hlt k hk; omega))).trans (hk2.below (by have := h.bl.size; omega) (fun k hk => by omega)), h.hB⟩, fun k hk => ?_, hv7.kept hk2 (fun k hk => by omega)⟩
  rcases hat with e | e
  · rw [e]; exact hne k hk
  · rw [e]
    intro e'
    have := Option.some.inj e'
    have := hrm k hk
    omega
theorem RQ.low {b : Nat} (h : RQ w B s A n c m W) (hb : Below b W W') (h4 : w.heap.size + 4 ≤ b) (hr : ∀ k, ReachM m k → k < b) (hbz : b ≤ W.heap.size) : RQ w B s A n c m W' := by
  have hB := h.hB
  have hz' := hb.size
  exact ⟨(hb.block _ (by omega)).trans h.box, (hb.block _ (by omega)).trans h.mb, (hb.block _ (by omega)).trans h.r4, (hb.block _ (by omega)).trans h.r5, fun e => (h.left e).below (hb.mono (by omega)), (h.im.keepR fun k hk _ => hb.block k (hr k hk)).more hz', fun k hk => by have := h.re k hk; omega, h.bl.trans (hb.mono (by omega)), h.hB⟩
/-- All is as it was, but for the reader's box. -/
theorem RQ.turn (h : RQ w B s A n c m W) (hk : Kept (fun k => k = w.heap.size) W W') (hbox : W'.heap[w.heap.size]? = some (.cells #[.slice A' n' c', .int .i64 (s'.2 : Int)] 89 (0, 0))) (hl : s'.2 = 0 → Left W' B A' n' c' s'.1) : RQ w B s' A' n' c' m W' := by
  have hz := h.sz
  have hz' := hk.size
  exact ⟨hbox, (hk.block _ (by omega) (by omega)).trans h.mb, (hk.block _ (by omega) (by omega)).trans h.r4, (hk.block _ (by omega) (by omega)).trans h.r5, hl,
    (h.im.keepR fun k hr hlt => hk.block k hlt (by have := h.re k hr; omega)).more hz', fun k hk' => by have := h.re k hk'; omega, h.bl.trans (hk.below h.bl.size (fun k hk => by omega)), h.hB⟩
end
/-- Memory within a round: a vote is read into its box. -/
structure VQ (w : World) (B : Nat) (wr : World) (s : RSt) (A : Option Addr) (n c : Nat) (ro : Array Value) (W : World) : Prop where
  box : W.heap[w.heap.size]? = some (.cells #[.slice A n c, .int .i64 (s.2 : Int)] 89 (0, 0))
  vb : W.heap[wr.heap.size]? = some (.cells ro 54 (0, 0))
  left : s.2 = 0 → Left W B A n c s.1
  kp : Kept (fun k => k = w.heap.size) wr W
  lt : w.heap.size + 4 ≤ wr.heap.size
  hB : B ≤ w.heap.size
section
variable {w W W' wr : World} {B : Nat} {s s' : RSt} {A A' : Option Addr} {n c n' c' : Nat} {ro ro' : Array Value}
theorem VQ.sz (h : VQ w B wr s A n c ro W) : wr.heap.size < W.heap.size := lt_of_block h.vb
theorem VQ.below (h : VQ w B wr s A n c ro W) (hb : Below W.heap.size W W') : VQ w B wr s A n c ro W' := by
  have hz := h.sz
  have hlt := h.lt
  have hB := h.hB
  exact ⟨(hb.block _ (by omega)).trans h.box, (hb.block _ hz).trans h.vb, fun e => (h.left e).below (hb.mono (by omega)), h.kp.step (Kept.of_below (F := fun _ => False) hb) (fun k hk => hk.elim), h.lt, h.hB⟩
theorem VQ.row (h : VQ w B wr s A n c ro W) (hl : s'.2 = 0 → Left W B A' n' c' s'.1) : VQ w B wr s' A' n' c' ro (W.setRow w.heap.size #[.slice A' n' c', .int .i64 (s'.2 : Int)]) := by
  have hk := Kept.of_setRow W w.heap.size #[.slice A' n' c', .int .i64 (s'.2 : Int)]
  have hz := h.sz
  have hlt := h.lt
  have hB := h.hB
  exact ⟨set_row_at h.box, (hk.block _ hz (by omega)).trans h.vb, fun e => ⟨(hl e).1.keep fun b hb => hk.block b (by omega) (by omega), (hl e).2⟩, h.kp.step hk (fun k hk => .inl hk), h.lt, h.hB⟩
theorem VQ.put (h : VQ w B wr s A n c ro W) (hk : Kept (fun k => k = wr.heap.size) W W') (hb : W'.heap[wr.heap.size]? = some (.cells ro' 54 (0, 0))) : VQ w B wr s A n c ro' W' := by
  have hz := h.sz
  have hlt := h.lt
  have hB := h.hB
  exact ⟨(hk.block _ (by omega) (by omega)).trans h.box, hb, fun e => ⟨(h.left e).1.keep fun b hb => hk.block b (by omega) (by omega), (h.left e).2⟩, h.kp.step hk (fun k hk => .inr (by omega)), h.lt, h.hB⟩
end
end Go.Proofs.YtapbcpilklhoiabDoor
