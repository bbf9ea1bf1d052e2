/-
  The walk of LeaseAnew. No condition.
-/
import Derived.Test.YtgdncmkhcdmjoaaLeaseE
set_option linter.unusedSimpArgs false
set_option linter.unusedVariables false
namespace Go.Proofs.Ytgdncmkhcdmjoaa
open Go.RowKit
theorem look_in {len r n s t : Int} (h0 : s ≤ t) (h1 : t - s < len) : Gr.look ⟨len, true, r, n, s⟩ t = ⟨len, true, r, n, s⟩ := by
  unfold Gr.look
  have e : min s t = s := by omega
  simp only [e, decide_eq_true h1, Bool.and_self]
theorem look_out {len r n s t : Int} (h0 : s ≤ t) (h1 : len ≤ t - s) : Gr.look ⟨len, true, r, n, s⟩ t = ⟨len, false, r, n, s⟩ := by
  unfold Gr.look
  have e : min s t = s := by omega
  simp only [e, decide_eq_false (show ¬ t - s < len by omega), Bool.and_false]
theorem same_no {r n a b : Int} (h : ¬ (r = a ∧ n = b)) : sameBal r n a b = false := decide_eq_false (fun e => h (by injection e with e1 e2; injection e2 with e2; exact ⟨e1, e2⟩))
theorem same_yes (a b : Int) : sameBal a b a b = true := decide_eq_true rfl
theorem bars_yes {len r n s a b : Int} (h : sameBal r n a b = false) : Gr.bars ⟨len, true, r, n, s⟩ a b = true := by unfold Gr.bars; rw [h]; rfl
theorem bars_no (len s a b : Int) : Gr.bars ⟨len, true, a, b, s⟩ a b = false := by unfold Gr.bars; rw [same_yes]; rfl
theorem bars_off (len r n s a b : Int) : Gr.bars ⟨len, false, r, n, s⟩ a b = false := rfl
theorem grant_no {len r n s t a b : Int} (hl : len ≠ 0) (h0 : s ≤ t) (h1 : t - s < len) (h : sameBal r n a b = false) : Gr.grant ⟨len, true, r, n, s⟩ a b t = (⟨len, true, r, n, s⟩, false) := by
  unfold Gr.grant
  rw [if_neg hl, look_in h0 h1, bars_yes h]
  rfl
theorem grant_own {len s t a b : Int} (hl : len ≠ 0) (h0 : s ≤ t) (h1 : t - s < len) (hv : valB a b = true) : Gr.grant ⟨len, true, a, b, s⟩ a b t = (⟨len, true, a, b, t⟩, true) := by
  unfold Gr.grant
  rw [if_neg hl, look_in h0 h1, bars_no, hv]
  rfl
theorem grant_off {len r n s t a b : Int} (hl : len ≠ 0) (hv : valB a b = true) : Gr.grant ⟨len, false, r, n, s⟩ a b t = (⟨len, true, a, b, t⟩, true) := by
  unfold Gr.grant
  have e : Gr.look ⟨len, false, r, n, s⟩ t = ⟨len, false, r, n, min s t⟩ := rfl
  rw [if_neg hl, e, bars_off, hv]
  rfl
/-- What is there: the granter, the ballot's box. -/
structure AnI (w : World) (pb g : Nat) (r n : Int) (q : Gr) (wr : World) : Prop where
  gr : IsG wr g q
  bx : wr.heap[pb]? = some (.cells #[.int .i64 r, .int .i64 n] 46 (0, 0))
  bel : Below w.heap.size w wr
  g0 : w.heap.size ≤ g
  ne : pb ≠ g
section
variable {w w' wr : World} {pb g : Nat} {r n : Int} {q q' : Gr}
theorem AnI.step (h : AnI w pb g r n q wr) (hi : IsG w' g q') (hk : Kept (fun j => j = g) wr w') : AnI w pb g r n q' w' :=
  ⟨hi, (hk.block pb (lt_of_block h.bx) h.ne).trans h.bx, h.bel.trans (hk.below h.bel.size (fun j hj => by have := h.g0; omega)), h.g0, h.ne⟩
theorem AnI.two (h : AnI w pb g r n q wr) : wr.cell? ⟨pb, 0, none⟩ = some (.int .i64 r) ∧ wr.cell? ⟨pb, 1, none⟩ = some (.int .i64 n) := ⟨(row_cells h.bx 0).1, (row_cells h.bx 1).1⟩
end
set_option maxHeartbeats 3200000 in
set_option maxRecDepth 20000 in
theorem anew_walk (length now step r n : Int) (w : World) (hr : In64' r) (hn : In64' n) : Calls Try.prog 9 #[.int .i64 length, .int .i64 now, .int .i64 step, .agg #[.int .i64 r, .int .i64 n]] w fun e w' => e = .returned (.bool true) ∧ Below w.heap.size w w' := by
  obtain ⟨x1, hx1, x0, x2⟩ : ∃ x, bits .and .i64 length 1023 = x ∧ 0 ≤ x ∧ x < 1024 := mask_lt length 10 (by omega)
  obtain ⟨y1, hy1, y0, y2⟩ : ∃ x, bits .and .i64 step 63 = x ∧ 0 ≤ x ∧ x < 64 := mask_lt step 6 (by omega)
  obtain ⟨L, hL⟩ : ∃ L, 1 + x1 = L := ⟨_, rfl⟩
  obtain ⟨S, hS⟩ : ∃ S, 1 + y1 = S := ⟨_, rfl⟩
  have v1 : IntKind.i64.wrap (1 + x1) = L := by rw [IntWalk.i64_in _ (by omega), hL]
  have v2 : IntKind.i64.wrap (1 + y1) = S := by rw [IntWalk.i64_in _ (by omega), hS]
  have hLS : 1 ≤ L ∧ L ≤ 1024 ∧ 1 ≤ S ∧ S ≤ 64 := by omega
  clear hL hS x0 x2 y0 y2
  obtain ⟨w0, hw0, c0, c1, hx, hb0, hz0⟩ := two_box w r n
  have HX := hide hx
  have HB0 := hide hb0
  have HZ0 := hide hz0
  clear hx hb0 hz0 c0 c1
  go_enter Try.func9, Try.ntmps9
  go_wp2_with fail
  refine (head18_any w0).mono ?_
  rintro e w1 ⟨rfl, hb1⟩
  go_wp2_with fail
  refine (far_any now w1).mono ?_
  rintro e _ ⟨rfl, rfl⟩
  by_cases hf : now < -1152921504606846976 ∨ 1152921504606846976 < now
  · rw [decide_eq_true hf]
    go_wp2
    go_ret
    exact ⟨rfl, HB0.out.trans (hb1.mono HB0.out.size)⟩
  · rw [decide_eq_false hf]
    have hx1 := (hb1.block _ (lt_of_block HX.out)).trans HX.out
    obtain ⟨c0, _⟩ := row_cells hx1 0
    obtain ⟨c1, _⟩ := row_cells hx1 1
    simp only [List.getElem?_toArray, List.getElem?_cons_succ, List.getElem?_cons_zero] at c0 c1
    have HX1 := hide hx1
    have HB1 := hide (HB0.out.trans (hb1.mono HB0.out.size))
    clear hx1 hb1
    go_wp2_with fail
    refine (rbvalid_any r n w1).mono ?_
    rintro e w2 ⟨rfl, hb2⟩
    by_cases hv : valB r n = true
    · rw [hv]
      have hvb := of_decide_eq_true hv
      obtain ⟨rn, hrn⟩ : ∃ rn, 1 + n % 9 = rn := ⟨_, rfl⟩
      have hva2 : valB r rn = true := decide_eq_true (by omega)
      have hri : ¬ (n = rn) := by omega
      have hz : ¬ ((0 : Int) = r ∧ (0 : Int) = n) := by omega
      have HV := hide hv
      have HV2 := hide hva2
      have HRI : Hid (sameBal r n r rn = false) := hide (same_no (fun e => hri e.2))
      have HRI2 : Hid (sameBal r rn r n = false) := hide (same_no (fun e => hri e.2.symm))
      have HZ : Hid (sameBal 0 0 r n = false) := hide (same_no hz)
      have hx2 := (hb2.block _ (lt_of_block HX1.out)).trans HX1.out
      have HX2 := hide hx2
      have HB2 := hide (HB1.out.trans (hb2.mono HB1.out.size))
      have vtm : n.tmod 9 = n % 9 := Int.tmod_eq_emod_of_nonneg (by omega)
      have vr1 : IntKind.i64.wrap (n % 9) = n % 9 := IntWalk.i64_in _ (by omega)
      have vr2 : IntKind.i64.wrap (1 + n % 9) = rn := by rw [IntWalk.i64_in _ (by omega), hrn]
      clear hrn hv hva2 hri hz hvb c0 c1 hx2 hb2
      have hgn := gnew_any L now true w2 (by unfold In64'; omega)
      rw [show Gr.new L now true = ⟨L, true, 0, 0, now⟩ from by unfold Gr.new nearN; rw [show min (max L 0) 1048576 = L by omega]] at hgn
      go_wp2_with fail
      refine hgn.mono ?_
      rintro e w3 ⟨rfl, hg3, hb3⟩
      have hA : AnI w w.heap.size w2.heap.size r n ⟨L, true, 0, 0, now⟩ w3 := ⟨hg3, (hb3.block _ (lt_of_block HX2.out)).trans HX2.out, HB2.out.trans (hb3.mono HB2.out.size), HB2.out.size, by have := lt_of_block HX2.out; omega⟩
      have HA := hide hA
      clear hA hg3 hb3 hgn
      generalize w2.heap.size = g at *
      generalize w.heap.size = pb at *
      go_wp2_with fail
      go_loopw [10] (fun s10 wr => ∃ t : Int, s10 = .int .i64 t ∧ 0 ≤ t ∧ t ≤ 2000 ∧ Hid (AnI w pb g r n ⟨L, true, 0, 0, now⟩ wr)) (fun s10 _ => (L - intOf s10).toNat)
      case atStart => exact ⟨0, rfl, by omega, by omega, HA⟩
      case round =>
        clear HA
        obtain ⟨t, rfl, t0, t1, hA⟩ := hrel
        by_cases hlt : t < L
        · obtain ⟨c0, c1⟩ := hA.out.two
          have v3 : IntKind.i64.wrap (now + t) = now + t := IntWalk.i64_in _ (by omega)
          have v4 : IntKind.i64.wrap (t + S) = t + S := IntWalk.i64_in _ (by omega)
          have hba := gbars_any hA.out.gr r n (now + t) (by unfold In64'; omega)
          rw [look_in (by omega) (by omega), bars_yes HZ.out] at hba
          have hN : In64' (now + t) := by unfold In64'; omega
          have HG : Hid (Gr.grant ⟨L, true, 0, 0, now⟩ r n (now + t) = (⟨L, true, 0, 0, now⟩, false)) := hide (grant_no (by omega) (by omega) (by omega) HZ.out)
          go_wp2_with fail
          refine hba.mono ?_
          rintro e w4 ⟨rfl, g4, k4⟩
          have hA4 := hide (hA.out.step g4 k4)
          clear c0 c1 g4 k4 hba
          obtain ⟨c0, c1⟩ := hA4.out.two
          have hgr := ggrant_any hA4.out.gr r n (now + t) hN
          rw [HG.out] at hgr
          go_wp2_with fail
          refine hgr.mono ?_
          rintro e w5 ⟨rfl, g5, k5⟩
          have hA5 := hide (hA4.out.step g5 k5)
          clear c0 c1 g5 k5 hgr
          go_wp2
          go_roundw
          case rel => exact ⟨t + S, rfl, by omega, by omega, hA5⟩
          case measure => simp [intOf]; omega
        · obtain ⟨c0, c1⟩ := hA.out.two
          have v3 : IntKind.i64.wrap (now + L) = now + L := IntWalk.i64_in _ (by omega)
          have hN : In64' (now + L) := by unfold In64'; omega
          have hba := gbars_any hA.out.gr r n (now + L) hN
          rw [look_out (by omega) (by omega), bars_off] at hba
          have HG : Hid (Gr.grant ⟨L, false, 0, 0, now⟩ r n (now + L) = (⟨L, true, r, n, now + L⟩, true)) := hide (grant_off (by omega) HV.out)
          have d1 : decide (t < L) = false := decide_eq_false hlt
          clear hlt t0 t1
          go_wp2_with fail
          refine hba.mono ?_
          rintro e w4 ⟨rfl, g4, k4⟩
          have hA4 := hide (hA.out.step g4 k4)
          clear c0 c1 g4 k4 hba
          obtain ⟨c0, c1⟩ := hA4.out.two
          have hgr := ggrant_any hA4.out.gr r n (now + L) hN
          rw [HG.out] at hgr
          go_wp2_with fail
          refine hgr.mono ?_
          rintro e w5 ⟨rfl, g5, k5⟩
          have hA5 := hide (hA4.out.step g5 k5)
          clear c0 c1 g5 k5 hgr
          obtain ⟨c0, c1⟩ := hA5.out.two
          have hbr := heap_alloc_new w5 (.cells #[.int .i64 r, .int .i64 rn] 46)
          have bbr := (Below.refl _ w5).alloc (Nat.le_refl _) (.cells #[.int .i64 r, .int .i64 rn] 46)
          have hA6 : AnI w pb g r n ⟨L, true, r, n, now + L⟩ (w5.alloc (.cells #[.int .i64 r, .int .i64 rn] 46)) := ⟨hA5.out.gr.below bbr, (bbr.block _ (lt_of_block hA5.out.bx)).trans hA5.out.bx, hA5.out.bel.alloc hA5.out.bel.size _, hA5.out.g0, hA5.out.ne⟩
          have hR6 : AnI w w5.heap.size g r rn ⟨L, true, r, n, now + L⟩ (w5.alloc (.cells #[.int .i64 r, .int .i64 rn] 46)) := ⟨hA6.gr, hbr, hA6.bel, hA6.g0, by have := hA5.out.gr.lt; omega⟩
          have HA6 := hide hA6
          have HR6 := hide hR6
          clear hbr bbr hA6 hR6
          go_upto_region 16 with fail
          clear c0 c1
          generalize w5.alloc (.cells #[.int .i64 r, .int .i64 rn] 46) = w6 at *
          generalize w5.heap.size = pr at *
          have hS0 : 0 ≤ now + L ∨ True := .inr trivial
          have hb60 : -1152921504606846976 ≤ now + L ∧ now + L ≤ 1152921504606849000 := by omega
          have v6 : IntKind.i64.wrap (now + L) = now + L := IntWalk.i64_in _ (by omega)
          have w1' : IntKind.i64.wrap (L - 1) = L - 1 := IntWalk.i64_in _ (by omega)
          obtain ⟨d, hd⟩ : ∃ d, d = min S (L - 1) := ⟨_, rfl⟩
          have hmn : (if L - 1 < S then L - 1 else S) = d := by rw [hd]; split <;> omega
          have hd0 : 0 ≤ d ∧ d < L ∧ d ≤ 64 := by omega
          have HL0 : Hid (L ≠ 0) := hide (by omega)
          clear hd HG d1 v3 hN hS0
          go_wp2_with fail
          go_loopw [12, 13] (fun s12 s13 wr => ∃ (i : Nat) (s : Int), s13 = .int .i64 (i : Int) ∧ i ≤ 10 ∧ s12 = .int .i64 s ∧ now + L ≤ s ∧ s ≤ now + L + 64 * (i : Int) ∧ Hid (AnI w pb g r n ⟨L, true, r, n, s⟩ wr) ∧ Hid (AnI w pr g r rn ⟨L, true, r, n, s⟩ wr)) (fun _ s13 _ => (10 - intOf s13).toNat)
          case atStart => exact ⟨0, now + L, rfl, by omega, rfl, by omega, by omega, HA6, HR6⟩
          case round =>
            clear HA6 HR6
            obtain ⟨i, s, rfl, hi, rfl, hs0, hs1, hA, hR⟩ := hrel
            by_cases h10 : i < 10
            · have hil : (i : Int) < 10 := by omega
              have v5 : IntKind.i64.wrap (s + d) = s + d := IntWalk.i64_in _ (by omega)
              have hN : In64' (s + d) := by unfold In64'; omega
              obtain ⟨c0, c1⟩ := hR.out.two
              have hba := gbars_any hR.out.gr r rn (s + d) hN
              rw [look_in (by omega) (by omega), bars_yes HRI.out] at hba
              have HG1 : Hid (Gr.grant ⟨L, true, r, n, s⟩ r rn (s + d) = (⟨L, true, r, n, s⟩, false)) := hide (grant_no HL0.out (by omega) (by omega) HRI.out)
              have HG2 : Hid (Gr.grant ⟨L, true, r, n, s⟩ r n (s + d) = (⟨L, true, r, n, s + d⟩, true)) := hide (grant_own HL0.out (by omega) (by omega) HV.out)
              go_wp2_with fail
              refine hba.mono ?_
              rintro e w7 ⟨rfl, g7, k7⟩
              have hA7 := hide (hA.out.step g7 k7)
              have hR7 := hide (hR.out.step g7 k7)
              clear c0 c1 g7 k7 hba
              obtain ⟨c0, c1⟩ := hR7.out.two
              have hgr := ggrant_any hR7.out.gr r rn (s + d) hN
              rw [HG1.out] at hgr
              go_wp2_with fail
              refine hgr.mono ?_
              rintro e w8 ⟨rfl, g8, k8⟩
              have hA8 := hide (hA7.out.step g8 k8)
              have hR8 := hide (hR7.out.step g8 k8)
              clear c0 c1 g8 k8 hgr
              obtain ⟨c0, c1⟩ := hA8.out.two
              have hgr := ggrant_any hA8.out.gr r n (s + d) hN
              rw [HG2.out] at hgr
              go_wp2_with fail
              refine hgr.mono ?_
              rintro e w9 ⟨rfl, g9, k9⟩
              have hA9 := hide (hA8.out.step g9 k9)
              have hR9 := hide (hR8.out.step g9 k9)
              clear c0 c1 g9 k9 hgr
              go_wp2
              go_roundw
              case rel => exact ⟨i + 1, s + d, by go_num, by omega, rfl, by omega, by omega, hA9, hR9⟩
              case measure => simp [intOf]; omega
            · have v5 : IntKind.i64.wrap (s + L) = s + L := IntWalk.i64_in _ (by omega)
              have hN : In64' (s + L) := by unfold In64'; omega
              obtain ⟨c0, c1⟩ := hR.out.two
              have hba := gbars_any hR.out.gr r rn (s + L) hN
              rw [look_out (by omega) (by omega), bars_off] at hba
              have HG1 : Hid (Gr.grant ⟨L, false, r, n, s⟩ r rn (s + L) = (⟨L, true, r, rn, s + L⟩, true)) := hide (grant_off HL0.out HV2.out)
              go_wp2_with fail
              refine hba.mono ?_
              rintro e w7 ⟨rfl, g7, k7⟩
              have hA7 := hide (hA.out.step g7 k7)
              have hR7 := hide (hR.out.step g7 k7)
              clear c0 c1 g7 k7 hba
              obtain ⟨c0, c1⟩ := hR7.out.two
              have hgr := ggrant_any hR7.out.gr r rn (s + L) hN
              rw [HG1.out] at hgr
              go_wp2_with fail
              refine hgr.mono ?_
              rintro e w8 ⟨rfl, g8, k8⟩
              have hA8 := hide (hA7.out.step g8 k8)
              clear c0 c1 g8 k8 hgr
              obtain ⟨c0, c1⟩ := hA8.out.two
              have hba := gbars_any hA8.out.gr r n (s + L) hN
              rw [look_in (by omega) (by omega), bars_yes HRI2.out] at hba
              go_wp2_with fail
              refine hba.mono ?_
              rintro e w9 ⟨rfl, g9, k9⟩
              have hA9 := hide (hA8.out.step g9 k9)
              go_wp2
              go_ret
              exact ⟨rfl, hA9.out.bel⟩
    · have hv' : valB r n = false := by simpa using hv
      rw [hv']
      go_wp2
      go_ret
      exact ⟨rfl, HB1.out.trans (hb2.mono HB1.out.size)⟩
end Go.Proofs.Ytgdncmkhcdmjoaa
