/-
  Bars and Grant of package lease. No condition but that times are numbers of 64 bits.
-/
import Derived.Test.YtgdncmkhcdmjoaaLeaseA
import Derived.Test.YtgdncmkhcdmjoaaEqual
set_option linter.unusedSimpArgs false
set_option linter.unusedVariables false
namespace Go.Proofs.Ytgdncmkhcdmjoaa
open Go.RowKit
def sameBal (r n a b : Int) : Bool := decide ([r, n] = [a, b])
/-- Does a grant stand against a ballot? -/
def Gr.bars (q : Gr) (a b : Int) : Bool := q.st && !sameBal q.r q.n a b
/-- What Grant does. -/
def Gr.grant (q : Gr) (a b now : Int) : Gr × Bool :=
  if q.len = 0 then (q, false)
  else if ((q.look now).bars a b || !valB a b) = true then (q.look now, false)
  else ({ q.look now with st := true, r := a, n := b, since := now }, true)
section
variable {w w' : World} {g : Nat} {q : Gr}
theorem Gr.look_good (h : q.Good) {now : Int} (hn : In64' now) : (q.look now).Good := ⟨h.l, by have := h.s; unfold In64' at *; show _ ≤ min q.since now ∧ min q.since now ≤ _; omega⟩
theorem gbars_nil (a b now : Int) (w : World) : Calls Try.prog 25 #[.pointer none, .agg #[.int .i64 a, .int .i64 b], .int .i64 now] w fun e w' => e = .returned (.bool false) ∧ Below w.heap.size w w' := by
  go_enter Try.func25, Try.ntmps25
  go_wp2
  go_ret
  exact ⟨rfl, by go_grown⟩
theorem ggrant_nil (a b now : Int) (w : World) : Calls Try.prog 27 #[.pointer none, .agg #[.int .i64 a, .int .i64 b], .int .i64 now] w fun e w' => e = .returned (.bool false) ∧ Below w.heap.size w w' := by
  go_enter Try.func27, Try.ntmps27
  go_wp2
  go_ret
  exact ⟨rfl, by go_grown⟩
theorem eq_pG (b : Nat) (w : World) : (binOp .eql 43 (.pointer (some ⟨b, 0, none⟩)) (.pointer none)).run Try.prog w = .ok (.bool false) w := by kernel_rfl
theorem two_box (w : World) (a b : Int) : ∃ w0, w.alloc (.cells #[.int .i64 a, .int .i64 b] 46) = w0 ∧ w0.cell? ⟨w.heap.size, 0, none⟩ = some (.int .i64 a) ∧ w0.cell? ⟨w.heap.size, 1, none⟩ = some (.int .i64 b) ∧ w0.heap[w.heap.size]? = some (.cells #[.int .i64 a, .int .i64 b] 46 (0, 0)) ∧ Below w.heap.size w w0 ∧ w0.heap.size = w.heap.size + 1 := by
  refine ⟨_, rfl, (row_cells (heap_alloc_new w _) 0).1, (row_cells (heap_alloc_new w _) 1).1, heap_alloc_new w _, (Below.refl _ _).alloc (Nat.le_refl _) _, by simp⟩
set_option maxHeartbeats 800000 in
set_option maxRecDepth 20000 in
theorem gbars_any (h : IsG w g q) (a b now : Int) (hn : In64' now) : Calls Try.prog 25 #[.pointer (some ⟨g, 0, none⟩), .agg #[.int .i64 a, .int .i64 b], .int .i64 now] w (GEnds g (q.look now) (.bool ((q.look now).bars a b)) w) := by
  obtain ⟨w0, hw0, x0, x1, hx, hb0, hz0⟩ := two_box w a b
  have hne : g ≠ w.heap.size := by have := h.lt; omega
  have hlk := glook_any (h.below hb0) now hn
  obtain ⟨eb, he⟩ : ∃ eb, sameBal q.r q.n a b = eb := ⟨_, rfl⟩
  have k1 := fun W => equal_bal 9998 q.r q.n a b W
  rw [show decide ([q.r, q.n] = [a, b]) = eb from he] at k1
  have hbars : (q.look now).bars a b = ((q.look now).st && !eb) := by unfold Gr.bars; rw [show sameBal (q.look now).r (q.look now).n a b = eb from he]
  have heq := eq_pG g
  have hrr : (q.look now).r = q.r ∧ (q.look now).n = q.n := ⟨rfl, rfl⟩
  rw [hbars]
  generalize hq1 : q.look now = q1 at *
  have HX := hide hx
  have HB0 := hide hb0
  have HNE := hide hne
  have HZ := hide hz0
  have HRR := hide hrr
  clear he hbars x0 x1 h hx hb0 hne hz0 hrr hn
  go_enter Try.func25, Try.ntmps25
  go_wp2_with fail
  refine hlk.mono ?_
  rintro e w5 ⟨rfl, h5, k5⟩
  have hx5 := (k5.block _ (lt_of_block HX.out) (fun e => HNE.out e.symm)).trans HX.out
  obtain ⟨x0, y0⟩ := row_cells hx5 0
  obtain ⟨x1, y1⟩ := row_cells hx5 1
  simp only [List.getElem?_toArray, List.getElem?_cons_succ, List.getElem?_cons_zero] at x0 x1
  obtain ⟨⟨_, c1, c2, c3, _⟩, _⟩ := h5.cells
  have H5 := hide h5
  have K5 := hide ((Kept.of_below (F := fun j => j = g) HB0.out).step k5 (fun j hj => .inl hj))
  rw [HRR.out.1] at c2
  rw [HRR.out.2] at c3
  clear hx5 h5 k5 hlk
  cases hst : q1.st
  · rw [hst] at c1
    have HST := hide hst
    clear hst
    go_wp2_with fail
    go_quiet (fail)
    go_wp2
    go_ret
    rw [HST.out]
    exact ⟨rfl, H5.out.below (below_drewN (Below.refl _ _) _), K5.out.drewN _⟩
  · rw [hst] at c1
    have HST := hide hst
    clear hst
    go_wp2_with fail
    go_quiet (fail)
    go_wp2
    go_ret
    rw [HST.out]
    refine ⟨?_, H5.out.below (below_drewN (Below.refl _ _) _), K5.out.drewN _⟩
    cases eb <;> rfl
set_option maxHeartbeats 1600000 in
set_option maxRecDepth 20000 in
theorem ggrant_any (h : IsG w g q) (a b now : Int) (hn : In64' now) : Calls Try.prog 27 #[.pointer (some ⟨g, 0, none⟩), .agg #[.int .i64 a, .int .i64 b], .int .i64 now] w (GEnds g (q.grant a b now).1 (.bool (q.grant a b now).2) w) := by
  obtain ⟨w0, hw0, x0, x1, hx, hb0, hz0⟩ := two_box w a b
  have hne : g ≠ w.heap.size := by have := h.lt; omega
  have h0 := h.below hb0
  obtain ⟨⟨c0, _, _, _, _⟩, _⟩ := h0.cells
  have heq := eq_pG g
  cases hl : (q.len == 0)
  rotate_left
  · have HE : Hid (q.grant a b now = (q, false)) := hide (if_pos (eq_of_beq hl))
    have H0 := hide h0
    have HB0 := hide hb0
    clear h h0 hx hb0 hne hz0 hn x0 x1
    go_enter Try.func27, Try.ntmps27
    go_wp2
    go_ret
    rw [HE.out]
    exact ⟨rfl, H0.out, Kept.of_below HB0.out⟩
  · have hl0 : ¬ q.len = 0 := fun e => by rw [e] at hl; cases hl
    have HE : Hid (q.grant a b now = if ((q.look now).bars a b || !valB a b) = true then (q.look now, false) else ({ q.look now with st := true, r := a, n := b, since := now }, true)) := hide (if_neg hl0)
    have hba := gbars_any h0 a b now hn
    obtain ⟨bb, hbb⟩ : ∃ bb, (q.look now).bars a b = bb := ⟨_, rfl⟩
    rw [hbb] at hba HE
    generalize q.look now = q1 at *
    have HX := hide hx
    have HB0 := hide hb0
    have HNE := hide hne
    have HN := hide hn
    clear h h0 hx hb0 hne hz0 hn hl0 hbb
    go_enter Try.func27, Try.ntmps27
    go_wp2_with fail
    refine hba.mono ?_
    rintro e w4 ⟨rfl, h4, k4⟩
    have hx4 := (k4.block _ (lt_of_block HX.out) (fun e => HNE.out e.symm)).trans HX.out
    have K4 := hide ((Kept.of_below (F := fun j => j = g) HB0.out).step k4 (fun j hj => .inl hj))
    have H4 := hide h4
    have HX4 := hide hx4
    clear x0 x1 c0 hx4 h4 k4 hba
    cases bb
    rotate_left
    · have HE2 : Hid (q.grant a b now = (q1, false)) := hide (by rw [HE.out]; rfl)
      go_wp2
      go_ret
      rw [HE2.out]
      exact ⟨rfl, H4.out, K4.out⟩
    · obtain ⟨x0, y0⟩ := row_cells HX4.out 0
      obtain ⟨x1, y1⟩ := row_cells HX4.out 1
      simp only [List.getElem?_toArray, List.getElem?_cons_succ, List.getElem?_cons_zero] at x0 x1
      have hva := bvalid_any a b w4
      obtain ⟨vb, hvb⟩ : ∃ vb, valB a b = vb := ⟨_, rfl⟩
      rw [hvb] at hva HE
      clear hvb
      cases vb
      · have HE2 : Hid (q.grant a b now = (q1, false)) := hide (by rw [HE.out]; rfl)
        go_wp2_with fail
        refine hva.mono ?_
        rintro e w5 ⟨rfl, hb5⟩
        go_wp2
        go_ret
        rw [HE2.out]
        exact ⟨rfl, H4.out.below hb5, K4.out.step (Kept.of_below (F := fun j => j = g) hb5) (fun j hj => .inl hj)⟩
      · have HE2 : Hid (q.grant a b now = ({ q1 with st := true, r := a, n := b, since := now }, true)) := hide (by rw [HE.out]; rfl)
        go_wp2_with fail
        refine hva.mono ?_
        rintro e w5 ⟨rfl, hb5⟩
        have h5 := (H4.out.below hb5).below ((Below.refl _ w5).drew)
        have HQ : Hid (IsG w5.drew g q1) := hide h5
        have HF : Hid (∀ W, IsG W g { q1 with st := true, r := a, n := b, since := now } → Kept (fun j => j = g) w5.drew W → GEnds g { q1 with st := true, r := a, n := b, since := now } (.bool true) w (.returned (.bool true)) W) := hide (fun W hi hk => ⟨rfl, hi, (K4.out.step (Kept.of_below (F := fun j => j = g) (hb5.trans ((Below.refl _ w5).drew.mono hb5.size))) (fun j hj => .inl hj)).step hk (fun j hj => .inl hj)⟩)
        have HGN : Hid (g ≠ w.heap.size) := HNE
        have hx5 := (hb5.block _ (lt_of_block HX4.out)).trans HX4.out
        clear x0 x1 y0 y1
        have hx5 : w5.drew.heap[w.heap.size]? = some (.cells #[.int .i64 a, .int .i64 b] 46 (0, 0)) := hx5
        obtain ⟨x0, y0⟩ := row_cells hx5 0
        obtain ⟨x1, y1⟩ := row_cells hx5 1
        simp only [List.getElem?_toArray, List.getElem?_cons_succ, List.getElem?_cons_zero] at x0 x1
        obtain ⟨⟨_, z1, _, _, _⟩, hfz⟩ := h5.cells
        have e1 := hfz 1
        clear hx5 h5 hb5 hva hfz
        go_upto_region 5 with fail
        refine wp_region_held_drew (S := fun W => W.cell? ⟨w.heap.size, 0, none⟩ = some (.int .i64 a) ∧ W.cell? ⟨w.heap.size, 1, none⟩ = some (.int .i64 b)) (by kernel_rfl) (⟨x0, x1⟩) (fun hHeld => ?_)
        refine wpAnyH_take (i := 0) (oi := _) (v := .pointer (some ⟨g, 0, none⟩)) rfl (by kernel_rfl) (by kernel_rfl) (by kernel_rfl) (fun _ _ _ h => h) (Or.inl ⟨by rfl, fun w' hSw => by dsimp only at hSw; go_simp⟩) hHeld ?_
        (try simp only [Act.put, List.setIfInBounds_toArray, List.set_cons_zero, List.set_cons_succ, List.getElem_toArray, List.getElem_cons_zero, List.getElem_cons_succ])
        refine wpAnyH_take (i := 1) (oi := _) (v := .pointer (some ⟨g, 0, none⟩)) rfl (by kernel_rfl) (by kernel_rfl) (by kernel_rfl) (fun _ _ _ h => h) (Or.inl ⟨by rfl, fun w' hSw => by dsimp only at hSw; go_simp⟩) hHeld ?_
        (try simp only [Act.put, List.setIfInBounds_toArray, List.set_cons_zero, List.set_cons_succ, List.getElem_toArray, List.getElem_cons_zero, List.getElem_cons_succ])
        refine wpAnyH_take (i := 2) (oi := _) (v := .pointer (some ⟨g, 0, none⟩)) rfl (by kernel_rfl) (by kernel_rfl) (by kernel_rfl) (fun _ _ _ h => h) (Or.inl ⟨by rfl, fun w' hSw => by dsimp only at hSw; go_simp⟩) hHeld ?_
        (try simp only [Act.put, List.setIfInBounds_toArray, List.set_cons_zero, List.set_cons_succ, List.getElem_toArray, List.getElem_cons_zero, List.getElem_cons_succ])
        refine wpAnyH_take (i := 3) (oi := _) (v := .agg #[.int .i64 a, .int .i64 b]) rfl (by kernel_rfl) (by kernel_rfl) (by kernel_rfl) (fun _ _ _ h => h) (Or.inl ⟨by rfl, fun w' hSw => by dsimp only at hSw; go_simp⟩) hHeld ?_
        (try simp only [Act.put, List.setIfInBounds_toArray, List.set_cons_zero, List.set_cons_succ, List.getElem_toArray, List.getElem_cons_zero, List.getElem_cons_succ])
        refine wpAnyH_take (i := 4) (oi := _) (v := .int .i64 now) rfl (by kernel_rfl) (by kernel_rfl) (by kernel_rfl) (fun _ _ _ h => h) (Or.inl ⟨by rfl, fun w' hSw => by dsimp only at hSw; go_simp⟩) hHeld ?_
        (try simp only [Act.put, List.setIfInBounds_toArray, List.set_cons_zero, List.set_cons_succ, List.getElem_toArray, List.getElem_cons_zero, List.getElem_cons_succ])
        refine wpAnyH_take (i := 5) (oi := _) (v := .pointer (some ⟨g, 0, none⟩)) rfl (by kernel_rfl) (by kernel_rfl) (by kernel_rfl) (fun _ _ _ h => h) (Or.inl ⟨by rfl, fun w' hSw => by dsimp only at hSw; go_simp⟩) hHeld ?_
        (try simp only [Act.put, List.setIfInBounds_toArray, List.set_cons_zero, List.set_cons_succ, List.getElem_toArray, List.getElem_cons_zero, List.getElem_cons_succ])
        refine wpAnyH_take (i := 6) (oi := _) (v := .pointer (some ⟨g, 1, none⟩)) rfl (by kernel_rfl) (by kernel_rfl) (by kernel_rfl) (fun _ _ _ h => h) (Or.inl ⟨by rfl, fun w' hSw => by dsimp only at hSw; go_simp⟩) hHeld ?_
        (try simp only [Act.put, List.setIfInBounds_toArray, List.set_cons_zero, List.set_cons_succ, List.getElem_toArray, List.getElem_cons_zero, List.getElem_cons_succ])
        refine wpAnyH_ready (rs := [7]) (by kernel_rfl) (by simp) ?_
        refine AllReadyH.cons (o := _) rfl (fun K hK => ?_) AllReadyH.nil
        (try simp only [List.getElem_toArray, List.getElem_cons_zero, List.getElem_cons_succ])
        go_simp
        have u0 := (World.cell?_setCell_other _ ⟨g, 1, none⟩ ⟨w.heap.size, 0, none⟩ (.bool true) (fun e => HGN.out (by injection e))).trans x0
        have u1 := (World.cell?_setCell_other _ ⟨g, 1, none⟩ ⟨w.heap.size, 1, none⟩ (.bool true) (fun e => HGN.out (by injection e))).trans x1
        refine hK.out _ _ (⟨u0, u1⟩) (fun hHeld => ?_)
        clear hK
        (try simp only [Act.put, List.setIfInBounds_toArray, List.set_cons_zero, List.set_cons_succ, List.getElem_toArray, List.getElem_cons_zero, List.getElem_cons_succ])
        have ik1 := HQ.out.set (i := 1) (v := .bool true) (q' := { q1 with st := true }) ⟨HQ.out.good.l, HQ.out.good.s⟩ rfl
        have i1 : IsG (w5.setCell ⟨g, 1, none⟩ (.bool true)).drew g { q1 with st := true } := ik1.1
        have k1 : Kept (fun j => j = g) w5.drew (w5.setCell ⟨g, 1, none⟩ (.bool true)).drew := ik1.2
        have u0 : (w5.setCell ⟨g, 1, none⟩ (.bool true)).drew.cell? ⟨w.heap.size, 0, none⟩ = some (.int .i64 a) := u0
        have u1 : (w5.setCell ⟨g, 1, none⟩ (.bool true)).drew.cell? ⟨w.heap.size, 1, none⟩ = some (.int .i64 b) := u1
        clear ik1
        generalize (w5.setCell ⟨g, 1, none⟩ (.bool true)).drew = wa at *
        obtain ⟨⟨_, _, y2, y3, y4⟩, hfa⟩ := i1.cells
        have f2 := hfa 2
        have f3 := hfa 3
        have f4 := hfa 4
        clear hfa
        refine wpAnyH_take (i := 8) (oi := _) (v := .pointer (some ⟨g, 0, none⟩)) rfl (by kernel_rfl) (by kernel_rfl) (by kernel_rfl) (fun _ _ _ h => h) (Or.inl ⟨by rfl, fun w' hSw => by dsimp only at hSw; go_simp⟩) hHeld ?_
        (try simp only [Act.put, List.setIfInBounds_toArray, List.set_cons_zero, List.set_cons_succ, List.getElem_toArray, List.getElem_cons_zero, List.getElem_cons_succ])
        refine wpAnyH_take (i := 9) (oi := _) (v := .pointer (some ⟨g, 2, none⟩)) rfl (by kernel_rfl) (by kernel_rfl) (by kernel_rfl) (fun _ _ _ h => h) (Or.inl ⟨by rfl, fun w' hSw => by dsimp only at hSw; go_simp⟩) hHeld ?_
        (try simp only [Act.put, List.setIfInBounds_toArray, List.set_cons_zero, List.set_cons_succ, List.getElem_toArray, List.getElem_cons_zero, List.getElem_cons_succ])
        refine wpAnyH_ready (rs := [10]) (by kernel_rfl) (by simp) ?_
        refine AllReadyH.cons (o := _) rfl (fun K hK => ?_) AllReadyH.nil
        (try simp only [List.getElem_toArray, List.getElem_cons_zero, List.getElem_cons_succ])
        go_simp
        have v0 := (World.cell?_setCell_other _ ⟨g, 3, none⟩ ⟨w.heap.size, 0, none⟩ (.int .i64 b) (fun e => HGN.out (by injection e))).trans ((World.cell?_setCell_other _ ⟨g, 2, none⟩ ⟨w.heap.size, 0, none⟩ (.int .i64 a) (fun e => HGN.out (by injection e))).trans u0)
        have v1 := (World.cell?_setCell_other _ ⟨g, 3, none⟩ ⟨w.heap.size, 1, none⟩ (.int .i64 b) (fun e => HGN.out (by injection e))).trans ((World.cell?_setCell_other _ ⟨g, 2, none⟩ ⟨w.heap.size, 1, none⟩ (.int .i64 a) (fun e => HGN.out (by injection e))).trans u1)
        refine hK.out _ _ (⟨v0, v1⟩) (fun hHeld => ?_)
        clear hK
        (try simp only [Act.put, List.setIfInBounds_toArray, List.set_cons_zero, List.set_cons_succ, List.getElem_toArray, List.getElem_cons_zero, List.getElem_cons_succ])
        generalize hwb : (wa.setCell ⟨g, 2, none⟩ (.int .i64 a)).setCell ⟨g, 3, none⟩ (.int .i64 b) = wb at *
        obtain ⟨i2, k2⟩ := i1.set (i := 2) (v := .int .i64 a) (q' := { q1 with st := true, r := a }) ⟨HQ.out.good.l, HQ.out.good.s⟩ rfl
        obtain ⟨i3, k3⟩ := i2.set (i := 3) (v := .int .i64 b) (q' := { q1 with st := true, r := a, n := b }) ⟨HQ.out.good.l, HQ.out.good.s⟩ rfl
        have k3 := k2.step k3 (fun j hj => .inl hj)
        rw [hwb] at i3 k3
        clear hwb i2 k2 y2 y3 y4 f2 f3 f4
        obtain ⟨⟨_, _, _, _, y4⟩, hfa⟩ := i3.cells
        have f4 := hfa 4
        clear hfa
        refine wpAnyH_take (i := 11) (oi := _) (v := .pointer (some ⟨g, 0, none⟩)) rfl (by kernel_rfl) (by kernel_rfl) (by kernel_rfl) (fun _ _ _ h => h) (Or.inl ⟨by rfl, fun w' hSw => by dsimp only at hSw; go_simp⟩) hHeld ?_
        (try simp only [Act.put, List.setIfInBounds_toArray, List.set_cons_zero, List.set_cons_succ, List.getElem_toArray, List.getElem_cons_zero, List.getElem_cons_succ])
        refine wpAnyH_take (i := 12) (oi := _) (v := .pointer (some ⟨g, 4, none⟩)) rfl (by kernel_rfl) (by kernel_rfl) (by kernel_rfl) (fun _ _ _ h => h) (Or.inl ⟨by rfl, fun w' hSw => by dsimp only at hSw; go_simp⟩) hHeld ?_
        (try simp only [Act.put, List.setIfInBounds_toArray, List.set_cons_zero, List.set_cons_succ, List.getElem_toArray, List.getElem_cons_zero, List.getElem_cons_succ])
        refine wpAnyH_ready (rs := [13]) (by kernel_rfl) (by simp) ?_
        refine AllReadyH.cons (o := _) rfl (fun K hK => ?_) AllReadyH.nil
        (try simp only [List.getElem_toArray, List.getElem_cons_zero, List.getElem_cons_succ])
        go_simp
        refine hK.out _ _ (⟨(World.cell?_setCell_other _ ⟨g, 4, none⟩ ⟨w.heap.size, 0, none⟩ (.int .i64 now) (fun e => HGN.out (by injection e))).trans v0, (World.cell?_setCell_other _ ⟨g, 4, none⟩ ⟨w.heap.size, 1, none⟩ (.int .i64 now) (fun e => HGN.out (by injection e))).trans v1⟩) (fun hHeld => ?_)
        clear hK
        (try simp only [Act.put, List.setIfInBounds_toArray, List.set_cons_zero, List.set_cons_succ, List.getElem_toArray, List.getElem_cons_zero, List.getElem_cons_succ])
        obtain ⟨i4, k4⟩ := i3.set (i := 4) (v := .int .i64 now) (q' := { q1 with st := true, r := a, n := b, since := now }) ⟨HQ.out.good.l, HN.out⟩ rfl
        refine wpAnyH_done (by kernel_rfl) ?_ _
        go_wp2
        go_ret
        rw [HE2.out]
        exact HF.out _ i4 ((k1.step k3 (fun j hj => .inl hj)).step k4 (fun j hj => .inl hj))
end
end Go.Proofs.Ytgdncmkhcdmjoaa
