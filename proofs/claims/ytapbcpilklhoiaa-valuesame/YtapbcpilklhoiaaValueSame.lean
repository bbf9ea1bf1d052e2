/-
  The walk of ValueSame. No condition but the reach of what is read.
-/
import Derived.Test.YtapbcpilklhoiaaValClone
import Derived.Laws.OwnMore
set_option linter.unusedSimpArgs false
set_option linter.unusedVariables false
namespace Go.Proofs.Ytapbcpilklhoiaa
open Go.RowKit

theorem sameV_refl (k : Int) (cs : List Cmdv) (ns : List Int) : sameV k cs ns k cs ns = true := by
  unfold sameV eqCs
  simp

theorem ownCI_apart {w : World} {B : Nat} {v v' : Value} {cs : List Cmdv} {ns : List Int} (h : OwnC w B v cs) (h' : OwnI w B v' ns) : ∀ j, v.ownBlock = some j → v'.ownBlock ≠ some j := by
  intro j e e'
  rcases h.2 with ⟨rfl, _⟩ | ⟨g, cap, cur, rfl, _, hh, _⟩
  · cases e
  rcases h'.2 with ⟨rfl, _⟩ | ⟨g', cap', cur', rfl, _, hh', _⟩
  · cases e'
  have e1 : g = j := Option.some.inj e
  have e2 : g' = j := Option.some.inj e'
  subst e1 e2
  have := hh.symm.trans hh'
  simp at this

/-- A row of one's own at one of its cells: it may be written. -/
theorem own_spot {w : World} {B e s : Nat} {A : Option Addr} {n c : Nat} {zs : List Value} (h : w.ownsRow B e s (.slice A n c) n zs) (hn : 0 < n) :
    ∃ g, A = some ⟨g, 0, none⟩ ∧ ∀ j, j < n * s → (∃ u, w.cell? ⟨g, j, none⟩ = some u) ∧ w.frozen? ⟨g, j, none⟩ = false ∧ ∀ u, (w.setCell ⟨g, j, none⟩ u).ownsRow B e s (.slice A n c) n (zs.set j u) := by
  rcases h.2 with ⟨_, e⟩ | ⟨g, cap, cur, hv, _⟩
  · omega
  · injection hv with e1 e2 e3
    subst e1 e3
    refine ⟨g, rfl, fun j hj => ⟨⟨zs[j]'(by rw [h.1]; exact hj), ?_⟩, h.frozenAt j, fun u => (h.stored j u).1⟩⟩
    rw [h.cellAt j hj, List.getElem?_eq_getElem]

set_option maxRecDepth 20000 in
set_option maxHeartbeats 3200000 in
theorem vsamelaw_walk (k k' : Int) (A A' D D' : Option Addr) (n n' c c' m m' d d' : Nat) (cs cs' : List Cmdv) (ns ns' : List Int) (w : World) (hC : HasC w w.heap.size A cs) (hN : HasI w w.heap.size D ns) (hC' : HasC w w.heap.size A' cs') (hN' : HasI w w.heap.size D' ns')
    (hn : cs.length = n) (hn' : cs'.length = n') (hm : ns.length = m) (hm' : ns'.length = m') (hl : n ≤ 2199023255552) (hl' : n' ≤ 2199023255552) (hlm : m ≤ 17592186043904) (hlm' : m' ≤ 17592186043904) :
    Calls Try.prog 11 #[.agg #[.int .i64 k, .slice A n c, .slice D m d], .agg #[.int .i64 k', .slice A' n' c', .slice D' m' d']] w fun e w' => e = .returned (.bool true) ∧ Below w.heap.size w w' := by
  have HN := hide hn
  have HN' := hide hn'
  have HM := hide hm
  have HM' := hide hm'
  clear hn hn' hm hm'
  go_enter Try.func11, Try.ntmps11
  go_wp2_with fail
  have ha0 : ((w.alloc (.cells #[.int .i64 k, .slice A n c, .slice D m d] 48)).alloc (.cells #[.int .i64 k', .slice A' n' c', .slice D' m' d'] 48)).heap[w.heap.size]? = some (.cells #[.int .i64 k, .slice A n c, .slice D m d] 48 (0, 0)) :=
    (Below.heap_alloc _ _ _ (by simp)).trans (heap_alloc_new w _)
  have hb0 : ((w.alloc (.cells #[.int .i64 k, .slice A n c, .slice D m d] 48)).alloc (.cells #[.int .i64 k', .slice A' n' c', .slice D' m' d'] 48)).heap[w.heap.size + 1]? = some (.cells #[.int .i64 k', .slice A' n' c', .slice D' m' d'] 48 (0, 0)) := by
    have := heap_alloc_new (w.alloc (.cells #[.int .i64 k, .slice A n c, .slice D m d] 48)) (.cells #[.int .i64 k', .slice A' n' c', .slice D' m' d'] 48)
    simpa using this
  have hw0 : Below w.heap.size w ((w.alloc (.cells #[.int .i64 k, .slice A n c, .slice D m d] 48)).alloc (.cells #[.int .i64 k', .slice A' n' c', .slice D' m' d'] 48)) := by go_grown
  generalize (w.alloc (.cells #[.int .i64 k, .slice A n c, .slice D m d] 48)).alloc (.cells #[.int .i64 k', .slice A' n' c', .slice D' m' d'] 48) = W0 at *
  have hz0 : w.heap.size + 1 < W0.heap.size := lt_of_block hb0
  have HCs : Hid (∀ W, Below W0.heap.size W0 W → HasC W w.heap.size A cs ∧ HasI W w.heap.size D ns ∧ HasC W w.heap.size A' cs' ∧ HasI W w.heap.size D' ns' ∧ w.heap.size + 1 < W.heap.size ∧ Below w.heap.size w W) := hide (fun W h => by
    have hb := hw0.trans (h.mono (by omega))
    exact ⟨hC.below hb, hN.below hb, hC'.below hb, hN'.below hb, Nat.lt_of_lt_of_le hz0 h.size, hb⟩)
  have HBx : Hid (∀ W, Below W0.heap.size W0 W → (W.cell? ⟨w.heap.size, 0, none⟩ = some (.int .i64 k) ∧ W.cell? ⟨w.heap.size, 1, none⟩ = some (.slice A n c) ∧ W.cell? ⟨w.heap.size, 2, none⟩ = some (.slice D m d)) ∧ (W.cell? ⟨w.heap.size + 1, 0, none⟩ = some (.int .i64 k') ∧ W.cell? ⟨w.heap.size + 1, 1, none⟩ = some (.slice A' n' c') ∧ W.cell? ⟨w.heap.size + 1, 2, none⟩ = some (.slice D' m' d'))) := hide (fun W h => by
    have hp := (h.block w.heap.size (by omega)).trans ha0
    have hq := (h.block (w.heap.size + 1) hz0).trans hb0
    exact ⟨⟨(row_cells hp 0).1, (row_cells hp 1).1, (row_cells hp 2).1⟩, (row_cells hq 0).1, (row_cells hq 1).1, (row_cells hq 2).1⟩)
  clear hC hN hC' hN'
  refine (head6_any _).mono ?_
  rintro e w1 ⟨rfl, b1⟩
  go_wp2_with fail
  refine (stop_any _).mono ?_
  rintro e w2 ⟨A2, rfl, hx2, b2'⟩
  have b2 := b1.trans (b2'.mono b1.size)
  go_wp2_with fail
  refine (stop_any _).mono ?_
  rintro e w3 ⟨A3, rfl, hx3, b3'⟩
  have b3 := b2.trans (b3'.mono b2.size)
  have hx2' : HasI w3 w3.heap.size A2 [1, 2] := (hx2.below b3').more b3'.size
  clear b1 b2 b2' b3' hx2
  go_wp2_with fail
  have hs1 := vsame_any 2 2 none none A2 A3 0 0 0 0 2 2 2 2 w3.heap.size [] [] [1, 2] [1, 2] w3 (HasC.nil _ _ _) hx2' (HasC.nil _ _ _) hx3 (Nat.le_refl _) rfl rfl rfl rfl (by omega) (by omega)
  rw [sameV_refl] at hs1
  refine hs1.mono ?_
  rintro e w4 ⟨rfl, b4'⟩
  have b4 := b3.trans (b4'.mono b3.size)
  clear hs1 b3 b4' hx2' hx3
  go_wp2_with fail
  refine (stop_any _).mono ?_
  rintro e w5 ⟨A5, rfl, hx5, b5'⟩
  have b5 := b4.trans (b5'.mono b4.size)
  go_wp2_with fail
  have hs1 := vsame_any 2 0 none none A5 none 0 0 0 0 2 0 2 0 w5.heap.size [] [] [1, 2] [] w5 (HasC.nil _ _ _) hx5 (HasC.nil _ _ _) (HasI.nil _ _ _) (Nat.le_refl _) rfl rfl rfl rfl (by omega) (by omega)
  rw [show sameV 2 [] [1, 2] 0 [] [] = false from by decide] at hs1
  refine hs1.mono ?_
  rintro e w6 ⟨rfl, b6'⟩
  have b6 := b5.trans (b6'.mono b5.size)
  clear hs1 b4 b5 b5' b6' hx5
  obtain ⟨⟨p0, p1, p2⟩, q0, q1, q2⟩ := HBx.out _ b6
  obtain ⟨i1, i2, i3, i4, i5, i6⟩ := HCs.out _ b6
  go_wp2_with fail
  refine (rvcopy_any k A D n c m d w.heap.size cs ns w6 i1 i2 (by omega) HN.out HM.out hl (by omega)).mono ?_
  rintro e w7 ⟨A7, c7, D7, d7, rfl, ho7, hi7, b7'⟩
  have b7 := b6.trans (b7'.mono b6.size)
  clear p0 p1 p2 q0 q1 q2 i1 i2 i3 i4 i5 i6
  go_wp2_with fail
  have hxr := heap_alloc_new w7 (.cells #[.int .i64 k, .slice A7 n c7, .slice D7 m d7] 48)
  have b8 := b7.alloc b7.size (.cells #[.int .i64 k, .slice A7 n c7, .slice D7 m d7] 48)
  have ho8 := ho7.below ((Below.refl _ _).alloc (Nat.le_refl _) (.cells #[.int .i64 k, .slice A7 n c7, .slice D7 m d7] 48))
  have hi8 := hi7.below ((Below.refl _ _).alloc (Nat.le_refl _) (.cells #[.int .i64 k, .slice A7 n c7, .slice D7 m d7] 48))
  have hs8 : (w7.alloc (.cells #[.int .i64 k, .slice A7 n c7, .slice D7 m d7] 48)).heap.size = w7.heap.size + 1 := by simp
  generalize w7.alloc (.cells #[.int .i64 k, .slice A7 n c7, .slice D7 m d7] 48) = W8 at *
  have hz67 := b7'.size
  have hz06 := b6.size
  have HX : Hid (∀ W, Below W8.heap.size W8 W → (W.cell? ⟨w7.heap.size, 0, none⟩ = some (.int .i64 k) ∧ W.cell? ⟨w7.heap.size, 1, none⟩ = some (.slice A7 n c7) ∧ W.cell? ⟨w7.heap.size, 2, none⟩ = some (.slice D7 m d7)) ∧ HasC W W.heap.size A7 cs ∧ HasI W W.heap.size D7 ns ∧ Below W0.heap.size W0 W) := hide (fun W h => by
    have hp := (h.block w7.heap.size (by omega)).trans hxr
    obtain ⟨_, _, _, e1, _, _, g1⟩ := (ho8.below h).form
    obtain ⟨_, _, _, e2, _, _, g2⟩ := (hi8.below h).form
    cases e1
    cases e2
    exact ⟨⟨(row_cells hp 0).1, (row_cells hp 1).1, (row_cells hp 2).1⟩, g1, g2, b8.trans (h.mono b8.size)⟩)
  have HCP : Hid (∀ W, Below W8.heap.size W8 W → Calls Try.prog 32 #[.agg #[.int .i64 k', .slice A' n' c', .slice D' m' d']] W fun e w' => ∃ A9 c9 D9 d9, e = .returned (.agg #[.int .i64 k', .slice A9 n' c9, .slice D9 m' d9]) ∧ HasC w' w'.heap.size A9 cs' ∧ HasI w' w'.heap.size D9 ns' ∧ Below W8.heap.size W8 w') := hide (fun W h => by
    obtain ⟨i1, i2, i3, i4, i5, i6⟩ := HCs.out _ (HX.out _ h).2.2.2
    refine (rvcopy_any k' A' D' n' c' m' d' w.heap.size cs' ns' W i3 i4 (by omega) HN'.out HM'.out hl' (by omega)).mono ?_
    rintro e w' ⟨A9, c9, D9, d9, rfl, ho, hi, hb⟩
    obtain ⟨_, _, _, e1, _, _, g1⟩ := ho.form
    obtain ⟨_, _, _, e2, _, _, g2⟩ := hi.form
    cases e1
    cases e2
    exact ⟨A9, c9, D9, d9, rfl, g1, g2, h.trans (hb.mono h.size)⟩)
  have HVS : Hid (∀ W A9 c9 D9 d9, Below W8.heap.size W8 W → HasC W W.heap.size A9 cs' → HasI W W.heap.size D9 ns' → Calls Try.prog 43 #[.agg #[.int .i64 k, .slice A7 n c7, .slice D7 m d7], .agg #[.int .i64 k', .slice A9 n' c9, .slice D9 m' d9]] W fun e w' => e = .returned (.bool (sameV k cs ns k' cs' ns')) ∧ Below W8.heap.size W8 w') := hide (fun W A9 c9 D9 d9 h g g' => (vsame_any k k' A7 A9 D7 D9 n n' c7 c9 m m' d7 d9 W.heap.size cs cs' ns ns' W (HX.out _ h).2.1 (HX.out _ h).2.2.1 g g' (Nat.le_refl _) HN.out HN'.out HM.out HM'.out (by omega) (by omega)).mono fun e w' => by
    rintro ⟨rfl, hb⟩
    exact ⟨rfl, h.trans (hb.mono h.size)⟩)
  have HRS : Hid (∀ W, Below W8.heap.size W8 W → Calls Try.prog 42 #[.agg #[.int .i64 k, .slice A n c, .slice D m d], .agg #[.int .i64 k', .slice A' n' c', .slice D' m' d']] W fun e w' => e = .returned (.bool (sameV k cs ns k' cs' ns')) ∧ Below W8.heap.size W8 w') := hide (fun W h => by
    obtain ⟨i1, i2, i3, i4, i5, i6⟩ := HCs.out _ (HX.out _ h).2.2.2
    refine (rvsame_any k k' A A' D D' n n' c c' m m' d d' w.heap.size cs cs' ns ns' W i1 i2 i3 i4 (by omega) HN.out HN'.out HM.out HM'.out (by omega) (by omega)).mono ?_
    rintro e w' ⟨rfl, hb⟩
    exact ⟨rfl, h.trans (hb.mono h.size)⟩)
  have HK : Hid (∀ W, Below W8.heap.size W8 W → W.cell? ⟨w.heap.size, 0, none⟩ = some (.int .i64 k) ∧ W.cell? ⟨w.heap.size, 1, none⟩ = some (.slice A n c) ∧ W.cell? ⟨w.heap.size, 2, none⟩ = some (.slice D m d) ∧ W.cell? ⟨w.heap.size + 1, 0, none⟩ = some (.int .i64 k') ∧ W.cell? ⟨w.heap.size + 1, 1, none⟩ = some (.slice A' n' c') ∧ W.cell? ⟨w.heap.size + 1, 2, none⟩ = some (.slice D' m' d') ∧ W.cell? ⟨w7.heap.size, 0, none⟩ = some (.int .i64 k) ∧ W.cell? ⟨w7.heap.size, 1, none⟩ = some (.slice A7 n c7) ∧ W.cell? ⟨w7.heap.size, 2, none⟩ = some (.slice D7 m d7)) := hide (fun W h => by
    obtain ⟨⟨x0, x1, x2⟩, _, _, h0⟩ := HX.out W h
    obtain ⟨⟨p0, p1, p2⟩, q0, q1, q2⟩ := HBx.out W h0
    exact ⟨p0, p1, p2, q0, q1, q2, x0, x1, x2⟩)
  have HLX : Hid (∀ j, (Value.slice A7 n c7).ownBlock = some j → w6.heap.size ≤ j ∧ j < w7.heap.size) := hide ho7.lt
  have HLY : Hid (∀ j, (Value.slice D7 m d7).ownBlock = some j → w6.heap.size ≤ j ∧ j < w7.heap.size) := hide hi7.lt
  have HXY : Hid (∀ j, (Value.slice A7 n c7).ownBlock = some j → (Value.slice D7 m d7).ownBlock ≠ some j) := hide (ownCI_apart ho7 hi7)
  have r8 : Below W8.heap.size W8 W8 := Below.refl _ _
  have r8d : Below W8.heap.size W8 W8.drew := (Below.refl _ W8).drew
  clear hs8 ho7 hi7
  generalize hsv : sameV k cs ns k' cs' ns' = sv at *
  clear hsv
  go_region_held3 (fun W => W.cell? ⟨w.heap.size, 0, none⟩ = some (.int .i64 k) ∧ W.cell? ⟨w.heap.size, 1, none⟩ = some (.slice A n c) ∧ W.cell? ⟨w.heap.size, 2, none⟩ = some (.slice D m d) ∧ W.cell? ⟨w.heap.size + 1, 0, none⟩ = some (.int .i64 k') ∧ W.cell? ⟨w.heap.size + 1, 1, none⟩ = some (.slice A' n' c') ∧ W.cell? ⟨w.heap.size + 1, 2, none⟩ = some (.slice D' m' d') ∧ W.cell? ⟨w7.heap.size, 0, none⟩ = some (.int .i64 k) ∧ W.cell? ⟨w7.heap.size, 1, none⟩ = some (.slice A7 n c7) ∧ W.cell? ⟨w7.heap.size, 2, none⟩ = some (.slice D7 m d7)) (first | exact HK.out _ r8 | exact HK.out _ r8d | exact HK.out _ b9 | exact HK.out _ b10 | exact HK.out _ b11 | go_keep) (first
    | ((go_at_call 32; (with_reducible refine (HCP.out _ ?_).mono ?_)); exact r8d; rintro e w9 ⟨A9, c9, D9, d9, rfl, g9, g9', b9⟩)
    | ((go_at_call 43; (with_reducible refine (HVS.out _ A9 c9 D9 d9 ?_ ?_ ?_).mono ?_)); exact b9; exact g9; exact g9'; rintro e w10 ⟨rfl, b10⟩)
    | ((go_at_call 42; (with_reducible refine (HRS.out _ ?_).mono ?_)); exact b10; rintro e w11 ⟨rfl, b11⟩))
  obtain ⟨⟨x0, x1, x2⟩, y1, y2, b12⟩ := HX.out _ b11
  go_wp2_with fail
  refine (vclone_any k A7 D7 n c7 m d7 w11.heap.size cs ns w11 y1 y2 (Nat.le_refl _) HN.out HM.out hl (by omega)).mono ?_
  rintro e w13 ⟨A13, c13, D13, d13, rfl, ho13, hi13, b13'⟩
  have b13 := b11.trans (b13'.mono b11.size)
  obtain ⟨⟨x0', x1', x2'⟩, _, _, _⟩ := HX.out _ b13
  have hcr := heap_alloc_new w13 (.cells #[.int .i64 k, .slice A13 n c13, .slice D13 m d13] 48)
  have b14 := b13.alloc b13.size (.cells #[.int .i64 k, .slice A13 n c13, .slice D13 m d13] 48)
  have ho14 := ho13.below ((Below.refl _ _).alloc (Nat.le_refl _) (.cells #[.int .i64 k, .slice A13 n c13, .slice D13 m d13] 48))
  have hi14 := hi13.below ((Below.refl _ _).alloc (Nat.le_refl _) (.cells #[.int .i64 k, .slice A13 n c13, .slice D13 m d13] 48))
  have hs14 : (w13.alloc (.cells #[.int .i64 k, .slice A13 n c13, .slice D13 m d13] 48)).heap.size = w13.heap.size + 1 := by simp
  obtain ⟨⟨z0, z1, z2⟩, _, _, _⟩ := HX.out _ b14
  go_upto_region 7 with fail
  generalize w13.alloc (.cells #[.int .i64 k, .slice A13 n c13, .slice D13 m d13] 48) = W14 at *
  clear x0 x1 x2 x0' x1' x2' y1 y2
  have hz8 := b11.size
  have hz11 := b13'.size
  have ho8x := ho8.below b14
  have hi8x := hi8.below b14
  have hlt67 : w7.heap.size < W8.heap.size := lt_of_block hxr
  have hW14 : W8.heap.size ≤ W14.heap.size := b14.size
  have HB14 := hide b14
  have HO14 := hide ho14
  have HI14 := hide hi14
  have HHX := hide ho8x
  have HHY := hide hi8x
  have HCR := hide hcr
  have HBX : Hid (∀ W, Below W8.heap.size W8 W14 → Kept (fun j => (Value.slice A7 n c7).ownBlock = some j) W14 W → W.cell? ⟨w7.heap.size, 1, none⟩ = some (.slice A7 n c7) ∧ W.cell? ⟨w7.heap.size, 2, none⟩ = some (.slice D7 m d7)) := hide (fun W h hk => by
    have hn : ¬ (Value.slice A7 n c7).ownBlock = some w7.heap.size := fun e => by have := HLX.out _ e; omega
    exact ⟨(hk.cell (by omega) hn).trans z1, (hk.cell (by omega) hn).trans z2⟩)
  have HBX2 : Hid (∀ W, Kept (fun j => (Value.slice A7 n c7).ownBlock = some j ∨ (Value.slice D7 m d7).ownBlock = some j) W14 W → W.cell? ⟨w7.heap.size, 2, none⟩ = some (.slice D7 m d7)) := hide (fun W hk => (hk.cell (by omega) (fun e => by
    rcases e with e | e
    · have := HLX.out _ e; omega
    · have := HLY.out _ e; omega)).trans z2)
  have HFin : Hid (∀ W, Kept (fun j => (Value.slice A7 n c7).ownBlock = some j ∨ (Value.slice D7 m d7).ownBlock = some j) W14 W → W.cell? ⟨w13.heap.size, 0, none⟩ = some (.int .i64 k) ∧ W.cell? ⟨w13.heap.size, 1, none⟩ = some (.slice A13 n c13) ∧ W.cell? ⟨w13.heap.size, 2, none⟩ = some (.slice D13 m d13) ∧ W.cell? ⟨w.heap.size, 0, none⟩ = some (.int .i64 k) ∧ W.cell? ⟨w.heap.size, 1, none⟩ = some (.slice A n c) ∧ W.cell? ⟨w.heap.size, 2, none⟩ = some (.slice D m d) ∧ w.heap.size < W.heap.size ∧ (Calls Try.prog 42 #[.agg #[.int .i64 k, .slice A13 n c13, .slice D13 m d13], .agg #[.int .i64 k, .slice A n c, .slice D m d]] W fun e w' => e = .returned (.bool true) ∧ Below W.heap.size W w') ∧ Hid (∀ w', Below W.heap.size W w' → Below w.heap.size w w')) := hide (fun W hk => by
    have hFlt : ∀ j, ((Value.slice A7 n c7).ownBlock = some j ∨ (Value.slice D7 m d7).ownBlock = some j) → w6.heap.size ≤ j ∧ j < w7.heap.size := fun j e => by
      rcases e with e | e
      · exact HLX.out _ e
      · exact HLY.out _ e
    obtain ⟨_, _, _, hB0⟩ := HX.out _ b14
    obtain ⟨i1, i2, _, _, i5, i6⟩ := HCs.out _ hB0
    obtain ⟨⟨p0, p1, p2⟩, _⟩ := HBx.out _ hB0
    have hnw : ¬ ((Value.slice A7 n c7).ownBlock = some w.heap.size ∨ (Value.slice D7 m d7).ownBlock = some w.heap.size) := fun e => by have := hFlt _ e; omega
    have hn13 : ¬ ((Value.slice A7 n c7).ownBlock = some w13.heap.size ∨ (Value.slice D7 m d7).ownBlock = some w13.heap.size) := fun e => by have := hFlt _ e; omega
    have hz13 := lt_of_block hcr
    have q0 := (row_cells hcr 0).1
    have q1 := (row_cells hcr 1).1
    have q2 := (row_cells hcr 2).1
    have hbW : Below w.heap.size w W := i6.trans (hk.below (by omega) (fun j e => by have := hFlt j e; omega))
    have hoW := ho14.keep fun j hj => hk.block j ((ho14.lt j hj).2) (fun e => by have h1 := hFlt j e; have h2 := (ho14.lt j hj).1; omega)
    have hiW := hi14.keep fun j hj => hk.block j ((hi14.lt j hj).2) (fun e => by have h1 := hFlt j e; have h2 := (hi14.lt j hj).1; omega)
    obtain ⟨_, _, _, e1, _, _, g1⟩ := hoW.form
    obtain ⟨_, _, _, e2, _, _, g2⟩ := hiW.form
    cases e1
    cases e2
    have hCw : HasC W w.heap.size A cs := i1.keep fun b _ _ hb => hk.block b (by omega) (fun e => by have := hFlt _ e; omega)
    have hNw : HasI W w.heap.size D ns := i2.keep fun b hb => hk.block b (by omega) (fun e => by have := hFlt _ e; omega)
    have hzW := hk.size
    have hs := rvsame_any k k A13 A D13 D n n c13 c m m d13 d W.heap.size cs cs ns ns W g1 g2 (hCw.more (by omega)) (hNw.more (by omega)) (Nat.le_refl _) HN.out HN.out HM.out HM.out (by omega) (by omega)
    rw [sameV_refl] at hs
    exact ⟨(hk.cell (by omega) hn13).trans q0, (hk.cell (by omega) hn13).trans q1, (hk.cell (by omega) hn13).trans q2, (hk.cell (by omega) hnw).trans p0, (hk.cell (by omega) hnw).trans p1, (hk.cell (by omega) hnw).trans p2, by omega, hs, hide (fun w' h => hbW.trans (h.mono hbW.size))⟩)
  clear hcr ho14 hi14 ho8x hi8x ho8 hi8 z0 b7 b8 b11 b12 b13 b13' b7' b9 b10 r8 r8d g9 g9' ho13 hi13 hxr
  go_wp2_with fail
  go_loopw [37] (fun i wr => ∃ (jj : Nat) (zs : List Value), jj ≤ n ∧ i = .int .i64 jj ∧ Hid (wr.ownsRow w6.heap.size 52 8 (.slice A7 n c7) n zs) ∧ Hid (Kept (fun j => (Value.slice A7 n c7).ownBlock = some j) W14 wr)) (fun i _ => n - (intOf i).toNat)
  case atStart => exact ⟨0, flatC cs, Nat.zero_le _, rfl, hide (by have h := HHX.out; unfold OwnC at h; rw [HN.out] at h; exact h), hide (Kept.refl _ _)⟩
  case round =>
    obtain ⟨jj, zs, hk, rfl, hz, hkp⟩ := hrel
    obtain ⟨x1, x2⟩ := HBX.out _ HB14.out hkp.out
    by_cases hlt : jj < n
    · obtain ⟨g, rfl, hs⟩ := own_spot hz.out (by omega)
      obtain ⟨⟨u, hu⟩, hfz, hst⟩ := hs (jj * 8 + 1) (by omega)
      have HST := hide hst
      clear hst hs
      go_wp2_with fail
      go_roundw
      case rel => exact ⟨jj + 1, zs.set (jj * 8 + 1) _, by omega, by go_num, hide (HST.out _), hide (hkp.out.setCell (p := ⟨g, jj * 8 + 1, none⟩) (.inl rfl) _)⟩
      case measure => simp [intOf]; omega
    · obtain ⟨W15, hW15⟩ : ∃ W, W = wr := ⟨wr, rfl⟩
      subst hW15
      have hi15 : Hid (OwnI W15 w6.heap.size (.slice D7 m d7) ns) := hide (HHY.out.keep fun j hj => hkp.out.block j ((HHY.out.lt j hj).2) (fun e => HXY.out j e hj))
      have HK15 : Hid (Kept (fun j => (Value.slice A7 n c7).ownBlock = some j ∨ (Value.slice D7 m d7).ownBlock = some j) W14 W15) := hide ((Kept.refl _ W14).step hkp.out (fun k h => .inl (.inl h)))
      clear hkp hz x1 z1 z2
      obtain rfl : jj = n := by omega
      go_wp2_with fail
      clear x2
      go_loopw [49] (fun i wr => ∃ (jk : Nat) (zs : List Value), jk ≤ m ∧ i = .int .i64 jk ∧ Hid (wr.ownsRow w6.heap.size 3 1 (.slice D7 m d7) m zs) ∧ Hid (Kept (fun j => (Value.slice A7 jj c7).ownBlock = some j ∨ (Value.slice D7 m d7).ownBlock = some j) W14 wr)) (fun i _ => m - (intOf i).toNat)
      case atStart => exact ⟨0, _, Nat.zero_le _, rfl, hide (by have h := hi15.out; unfold OwnI at h; rw [HM.out] at h; exact h), HK15⟩
      case round =>
        clear HK15 hi15
        obtain ⟨jk, zs, hk, rfl, hz, hkp⟩ := hrel
        have x2 := HBX2.out _ hkp.out
        by_cases hlt : jk < m
        · obtain ⟨g, rfl, hs⟩ := own_spot hz.out (by omega)
          obtain ⟨⟨u, hu⟩, hfz, hst⟩ := hs jk (by omega)
          have HST := hide hst
          clear hst hs
          go_wp2_with fail
          go_roundw
          case rel => exact ⟨jk + 1, zs.set jk _, by omega, by go_num, hide (HST.out _), hide (hkp.out.setCell (p := ⟨g, jk, none⟩) (.inl (.inr rfl)) _)⟩
          case measure => simp [intOf]; omega
        · obtain ⟨W16, hW16⟩ : ∃ W, W = wr := ⟨wr, rfl⟩
          subst hW16
          obtain ⟨v0, v1, v2, v3, v4, v5, v6, v7, hEnd⟩ := HFin.out _ hkp.out
          clear hkp hz x2
          obtain rfl : jk = m := by omega
          go_wp2_with fail
          refine v7.mono ?_
          rintro e w17 ⟨rfl, b17⟩
          go_wp2
          go_ret
          exact ⟨rfl, hEnd.out _ b17⟩
end Go.Proofs.Ytapbcpilklhoiaa
