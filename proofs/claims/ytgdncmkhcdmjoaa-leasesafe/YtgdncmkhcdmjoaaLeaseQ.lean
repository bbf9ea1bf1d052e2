/-
  The walk of LeaseSafe. No condition but the reach of what is read.
-/
import Derived.Test.YtgdncmkhcdmjoaaLeaseP
import Derived.Deep.CutBlock
set_option linter.unusedSimpArgs false
set_option linter.unusedVariables false
namespace Go.Proofs.Ytgdncmkhcdmjoaa
open Go.RowKit
theorem hold_in {L r : Int} (l0 : 0 ≤ L) (l1 : L < 64) (r0 : 0 ≤ r) (r1 : r < 256) : holdN L r * (1000 + r) ≤ L * (1000 - r) := by
  refine (hold_has ?_).1
  unfold lentB upB
  simp
  omega
theorem pi_start {L r : Int} (l0 : 0 ≤ L) (l1 : L < 64) : PI L r 0 (fun _ => Gr.new L 0 false) (fun _ => none) (fun _ => 0) := by
  refine ⟨fun k _ => ⟨Int.le_refl _, Int.le_refl _⟩, fun j _ => ⟨?_, Int.le_refl _, Int.le_refl _, fun h => (by cases h)⟩, fun j _ a h => (by cases h)⟩
  show nearN L 0 1048576 = L
  unfold nearN
  omega
set_option maxHeartbeats 8000000 in
set_option maxRecDepth 40000 in
theorem safe_walk (length rho : Int) (Ao : Option Addr) (len cap : Nat) (ts : List Pc) (w : World) (hT : HasPc w w.heap.size Ao ts) (he : ts.length = len) (hlen : len ≤ 140737488355328) :
    Calls Try.prog 8 #[.int .i64 length, .int .i64 rho, .slice Ao len cap] w fun e w' => e = .returned (.bool true) ∧ Below w.heap.size w w' := by
  have HL := hide he
  clear he
  obtain ⟨L, hL, l0, l1⟩ : ∃ x, bits .and .i64 length 63 = x ∧ 0 ≤ x ∧ x < 64 := mask_lt length 6 (by omega)
  obtain ⟨r, hr, r0, r1⟩ : ∃ x, bits .and .i64 rho 255 = x ∧ 0 ≤ x ∧ x < 256 := mask_lt rho 8 (by omega)
  go_enter Try.func8, Try.ntmps8
  go_wp2_with fail
  refine (head18_any w).mono ?_
  rintro e w1 ⟨rfl, hb1⟩
  go_upto_region 8 with fail
  have ha := heap_alloc_new w1 (.cells #[.int .i64 1, .int .i64 1] 46)
  have hb2 := (Below.refl _ w1).alloc (Nat.le_refl _) (.cells #[.int .i64 1, .int .i64 1] 46)
  have hz2 : (w1.alloc (.cells #[.int .i64 1, .int .i64 1] 46)).heap.size = w1.heap.size + 1 := by simp
  have hb := heap_alloc_new (w1.alloc (.cells #[.int .i64 1, .int .i64 1] 46)) (.cells #[.int .i64 2, .int .i64 2] 46)
  have hb3 := (Below.refl _ (w1.alloc (.cells #[.int .i64 1, .int .i64 1] 46))).alloc (Nat.le_refl _) (.cells #[.int .i64 2, .int .i64 2] 46)
  have hm := HasI.new ((w1.alloc (.cells #[.int .i64 1, .int .i64 1] 46)).alloc (.cells #[.int .i64 2, .int .i64 2] 46)) 3 [1, 2, 3] (0, 0) (w1.heap.size + 1 + 1) (by simp)
  have hz4 : (((w1.alloc (.cells #[.int .i64 1, .int .i64 1] 46)).alloc (.cells #[.int .i64 2, .int .i64 2] 46)).alloc (.cells #[.int .i64 1, .int .i64 2, .int .i64 3] 3)).heap.size = w1.heap.size + 1 + 1 + 1 := by simp
  have hb4 := (Below.refl _ ((w1.alloc (.cells #[.int .i64 1, .int .i64 1] 46)).alloc (.cells #[.int .i64 2, .int .i64 2] 46))).alloc (Nat.le_refl _) (.cells #[.int .i64 1, .int .i64 2, .int .i64 3] 3)
  have hic : icells [1, 2, 3] = #[.int .i64 1, .int .i64 2, .int .i64 3] := rfl
  rw [hic] at hm
  rw [hz2] at hb
  generalize ((w1.alloc (.cells #[.int .i64 1, .int .i64 1] 46)).alloc (.cells #[.int .i64 2, .int .i64 2] 46)).alloc (.cells #[.int .i64 1, .int .i64 2, .int .i64 3] 3) = w4 at *
  generalize (w1.alloc (.cells #[.int .i64 1, .int .i64 1] 46)).alloc (.cells #[.int .i64 2, .int .i64 2] 46) = w3 at *
  generalize w1.alloc (.cells #[.int .i64 1, .int .i64 1] 46) = w2 at *
  have b24 := hb3.trans (hb4.mono hb3.size)
  have b14 := hb2.trans (b24.mono hb2.size)
  have ha4 := (b24.block _ (lt_of_block ha)).trans ha
  have hbv4 := (hb4.block _ (lt_of_block hb)).trans hb
  have HQ4 := hide (And.intro ha4 hbv4)
  have HB4 := hide (hb1.trans (b14.mono hb1.size))
  have HS4 := hide hb1.size
  have hnw := hnew_any (some ⟨w1.heap.size + 1 + 1, 0, none⟩) 3 3 (w1.heap.size + 1 + 1 + 1) [1, 2, 3] L r w4 hm (by omega) rfl (by omega)
  clear ha hb2 hz2 hb hb3 hm hb4 hic b24 b14 ha4 hbv4 hb1
  refine hnw.mono ?_
  rintro e w5 ⟨hyes, _, hb5⟩
  obtain ⟨g, A, n, c, mb, rfl, hh, hg0, hm0⟩ := hyes (by decide)
  have HQ0 : Hid ((Hd.new [1, 2, 3] L r).ms = [1, 2, 3] ∧ (Hd.new [1, 2, 3] L r).hold * (1000 + r) ≤ L * (1000 - r) ∧ ∀ x, (Hd.new [1, 2, 3] L r).f x = none) := hide ⟨rfl, hold_in l0 l1 r0 r1, fun _ => rfl⟩
  have HPI : Hid (PI L r 0 (fun _ => Gr.new L 0 false) (Hd.new [1, 2, 3] L r).f (fun _ => 0)) := hide (pi_start l0 l1)
  generalize Hd.new [1, 2, 3] L r = q0 at *
  have hgs : GsI w [] (.slice (some ⟨w5.heap.size, 0, none⟩) 0 0) (Gr.new L 0 false) g A n c mb q0 w1.heap.size (w1.heap.size + 1) (w5.alloc (.cells #[] 43)) := by
    have hbw := HB4.out.trans (hb5.mono HB4.out.size)
    have hbx := (Below.refl _ w5).alloc (Nat.le_refl _) (.cells #[] 43)
    exact ⟨OwnR.emptyT w5 _ _ _ _ rfl hbw.size, fun i hi => absurd hi (by simp), by simp, hh.below hbx, (hbx.block _ (by have := hb5.size; have := lt_of_block HQ4.out.1; omega)).trans ((hb5.block _ (lt_of_block HQ4.out.1)).trans HQ4.out.1), (hbx.block _ (by have := hb5.size; have := lt_of_block HQ4.out.2; omega)).trans ((hb5.block _ (lt_of_block HQ4.out.2)).trans HQ4.out.2), hbw.trans (hbx.mono hbw.size), by have := HS4.out; omega, by have := HS4.out; omega⟩
  have HGS := hide hgs
  clear hyes hb5 hh hg0 hm0 hgs hnw hz4
  generalize w1.heap.size = bi at *
  obtain ⟨bv, hbv⟩ : ∃ bv, bi + 1 = bv := ⟨_, rfl⟩
  rw [hbv] at HGS ⊢
  clear HQ4 HB4 HS4 hbv
  go_upto_region 9 with fail
  generalize w5.alloc (.cells #[] 43) = w6 at *
  go_wp2_with fail
  go_loopw [10, 11] (fun s10 s11 wr => ∃ (j : Nat) (gs : List Nat), j ≤ 3 ∧ gs.length = j ∧ s11 = .int .i64 (j : Int) ∧ Hid (GsI w gs s10 (Gr.new L 0 false) g A n c mb q0 bi bv wr)) (fun _ s11 _ => 3 - (intOf s11).toNat)
  case atStart => exact ⟨0, [], by omega, rfl, rfl, HGS⟩
  case round =>
    clear HGS
    obtain ⟨j, gs, hj, hgl, rfl, hG⟩ := hrel
    obtain ⟨A10, c10, e10⟩ := hG.out.slc
    have HGL := hide hgl
    rw [HGL.out] at e10
    subst e10
    clear hgl
    by_cases hlt : j < 3
    · have hil : (j : Int) < 3 := by omega
      have hgn := gnew_any L 0 false wr (by unfold In64'; omega)
      go_wp2_with fail
      refine hgn.mono ?_
      rintro e w7 ⟨rfl, hi7, hb7⟩
      have hbx := (Below.refl _ w7).alloc (Nat.le_refl _) (.cells #[.pointer (some ⟨wr.heap.size, 0, none⟩)] 43)
      have hone := one_row (heap_alloc_new w7 (.cells #[.pointer (some ⟨wr.heap.size, 0, none⟩)] 43))
      have HI8 := hide (hi7.below hbx)
      have HB8 := hide (hb7.trans (hbx.mono hb7.size))
      have HRO := hide (hG.out.below HB8.out).row
      have L1 : Hid ((ptrs gs).length + 1 ≤ maxLen) := hide (by have := HGL.out; unfold maxLen ptrs; rw [List.length_map]; omega)
      have L2 : Hid (((ptrs gs).length + 1) * 8 ≤ 140737488355328) := hide (by have := HGL.out; unfold ptrs; rw [List.length_map]; omega)
      have L3 : Hid (w.heap.size ≤ (w7.alloc (.cells #[.pointer (some ⟨wr.heap.size, 0, none⟩)] 43)).heap.size) := hide (by have := hG.out.bel.size; have := HB8.out.size; omega)
      clear hi7 hb7 hbx hgn
      go_wp2_with (first
        | (at_builtin; refine list_append_rows rowPG _ (by rfl) (.tmp 38) (.tmp 41) (by rfl) w.heap.size (.slice A10 j c10) _ (by rfl) HRO.out ⟨w7.heap.size, 0, none⟩ 1 1 [[Value.pointer (some ⟨wr.heap.size, 0, none⟩)]] (by rfl) (ptrs_wide [wr.heap.size]) (by rfl) hone L1.out L2.out L3.out ?_; intro v3 w9 ho3 hgr3 _; have HO3 := hide ho3; have HG3 := hide hgr3; clear ho3 hgr3)
        | fail)
      go_roundw
      case rel => exact ⟨j + 1, gs ++ [wr.heap.size], by omega, by simp; exact HGL.out, by go_num, hide (hG.out.push (Nat.le_refl _) HB8.out HI8.out HO3.out HG3.out)⟩
      case measure => simp [intOf]; omega
    · have hj3 : j = 3 := by omega
      subst hj3
      have hls := hG.out.clocks
      have HLS := hide hls
      have HWB := hide hG.out.bel.size
      have hA10 : ∃ gb, A10 = some ⟨gb, 0, none⟩ := by
        obtain ⟨b, ⟨c', e⟩, _⟩ := hls.at_ (j := 0) (by rw [HGL.out]; omega)
        injection e with e _ _
        exact ⟨b, e⟩
      obtain ⟨gb, rfl⟩ := hA10
      have d3 : decide (((3 : Nat) : Int) < 3) = false := decide_eq_false (by omega)
      clear hls hlt hj hG
      generalize ((3 : Nat) : Int) = i3 at *
      go_upto_region 14 with fail
      generalize wr.heap.size = cb at *
      generalize wr.alloc (.cells #[.int .i64 0, .int .i64 0, .int .i64 0, .int .i64 0] 68) = w8 at *
      go_wp2_with fail
      go_loopw [13, 14, 15, 16, 17, 18, 19, 20] (fun s13 s14 s15 s16 s17 s18 s19 s20 wr => ∃ (k : Nat) (gn : Bool) (S : Nat → Gr) (q : Hd) (cl : Nat → Int), s13 = .bool gn ∧ s14 = .int .i64 (k : Int) ∧ k ≤ len ∧ k ≤ 100 ∧ Hid (q.ms = [1, 2, 3] ∧ q.hold * (1000 + r) ≤ L * (1000 - r)) ∧ Hid (PI L r k S q.f cl) ∧ Hid (LSI w gs (.slice (some ⟨gb, 0, none⟩) 3 c10) S g A n c mb q cb cl bi bv wr)) (fun _ s14 _ _ _ _ _ _ _ => (100 - intOf s14).toNat)
      case atStart => exact ⟨0, false, _, q0, _, rfl, rfl, by omega, by omega, hide ⟨HQ0.out.1, HQ0.out.2.1⟩, HPI, HLS⟩
      case round =>
        clear HLS HPI HQ0 HWB
        obtain ⟨k, gn, S, q, cl, rfl, rfl, hk1, hk2, HQ, HP, hI⟩ := hrel
        by_cases hlt : k < len
        · by_cases h100 : k < 100
          · have hjl : k < ts.length := by rw [HL.out]; exact hlt
            obtain ⟨b', o, rfl, hbb, hra⟩ := (hT.below hI.out.bel) k hjl
            generalize ts[k] = pc at *
            have hra' : wr.rangeAt b' (o + k * 8) [(.int .i64 pc.T : Value), .int .i64 pc.t0, .int .i64 pc.t1, .int .i64 pc.t2, .int .i64 pc.t3, .int .i64 pc.ask, .bool pc.lost, .int .i64 pc.rv] := hra
            have hil : (k : Int) < (len : Int) := by omega
            have hi6 : (k : Int) < 100 := by omega
            clear hra
            go_upto_region 19 with (refine wpList_load_mid rfl 70 _ rfl b' (o + k * 8) (by simp [Act.eval, Act.put]) [(.int .i64 pc.T : Value), .int .i64 pc.t0, .int .i64 pc.t1, .int .i64 pc.t2, .int .i64 pc.t3, .int .i64 pc.ask, .bool pc.lost, .int .i64 pc.rv] _ hra' Try.underlying70 rfl (by kernel_rfl) ?_)
            have hbp : (wr.alloc (.cells #[.int .i64 pc.T, .int .i64 pc.t0, .int .i64 pc.t1, .int .i64 pc.t2, .int .i64 pc.t3, .int .i64 pc.ask, .bool pc.lost, .int .i64 pc.rv] 70)).heap[wr.heap.size]? = some (.cells pc.cells.toArray 70 (0, 0)) := heap_alloc_new wr (.cells #[.int .i64 pc.T, .int .i64 pc.t0, .int .i64 pc.t1, .int .i64 pc.t2, .int .i64 pc.t3, .int .i64 pc.ask, .bool pc.lost, .int .i64 pc.rv] 70)
            have HI1 := hide (hI.out.below ((Below.refl _ _).alloc (Nat.le_refl _) (.cells #[.int .i64 pc.T, .int .i64 pc.t0, .int .i64 pc.t1, .int .i64 pc.t2, .int .i64 pc.t3, .int .i64 pc.ask, .bool pc.lost, .int .i64 pc.rv] 70)))
            have HBP := hide hbp
            clear hra' hbp hI
            generalize wr.alloc (.cells #[.int .i64 pc.T, .int .i64 pc.t0, .int .i64 pc.t1, .int .i64 pc.t2, .int .i64 pc.t3, .int .i64 pc.ask, .bool pc.lost, .int .i64 pc.rv] 70) = w3 at *
            generalize wr.heap.size = bp at *
            go_wp2_with fail
            go_loopw [16, 57] (fun s16 s57 wx => ∃ z : Nat, z ≤ 4 ∧ s57 = .int .i64 (z : Int) ∧ Hid (0 < z → pc.T ≤ 1000) ∧ Hid (∀ y, y < z → keepsB pc.T (pc.tick y) r = true) ∧ Hid (LSI w gs (.slice (some ⟨gb, 0, none⟩) 3 c10) S g A n c mb q cb cl bi bv wx) ∧ Hid (wx.heap[bp]? = some (.cells pc.cells.toArray 70 (0, 0)))) (fun _ s57 _ => 4 - (intOf s57).toNat)
            case atStart => exact ⟨0, by omega, rfl, hide (fun h => absurd h (by omega)), hide (fun y hy => absurd hy (by omega)), HI1, HBP⟩
            case round =>
              clear HI1 HBP
              obtain ⟨z, hz, rfl, HK1, HKS, HI1, HBP⟩ := hrel
              by_cases hz4 : z < 4
              · have hzl : (z : Int) < 4 := by omega
                have hz0 : (0 : Int) ≤ (z : Int) := by omega
                obtain ⟨p0, pk, _, _, _⟩ := pc_cells HBP.out
                have pz := pk z hz4
                obtain ⟨tz, htz⟩ : ∃ tz, pc.tick z = tz := ⟨_, rfl⟩
                obtain ⟨T, hTT⟩ : ∃ T, pc.T = T := ⟨_, rfl⟩
                obtain ⟨kb, hkb⟩ : ∃ kb, keepsB T tz r = kb := ⟨_, rfl⟩
                have HTT := hide hTT
                have HTZ := hide htz
                have HKB := hide hkb
                have HKP := hide (fun m' => keeps_same T tz r kb hkb (wr.drewN m'))
                rw [hTT] at p0
                rw [htz] at pz
                clear pk htz hTT hkb
                by_cases t0 : T < 0
                · have d1 : decide (T < 0) = true := decide_eq_true t0
                  clear t0
                  go_wp2_with fail
                  go_quiet (fail)
                  go_wp2
                  go_ret
                  exact ⟨rfl, below_drewN HI1.out.bel _⟩
                have d1 : decide (T < 0) = false := decide_eq_false t0
                by_cases t1 : 1000 < T
                · have d2 : decide (1000 < T) = true := decide_eq_true t1
                  clear t0 t1
                  go_wp2_with fail
                  go_quiet (fail)
                  go_wp2
                  go_ret
                  exact ⟨rfl, below_drewN HI1.out.bel _⟩
                have d2 : decide (1000 < T) = false := decide_eq_false t1
                have HT1 : Hid (T ≤ 1000) := hide (by omega)
                clear t0 t1
                cases kb
                · go_wp2_with fail
                  go_quiet ((go_at_call 35; exact Calls.quiet_of_same (HKP.out _)))
                  go_wp2
                  go_ret
                  exact ⟨rfl, below_drewN HI1.out.bel _⟩
                · go_wp2_with fail
                  go_quiet ((go_at_call 35; exact Calls.quiet_of_same (HKP.out _)))
                  go_wp2
                  go_roundw
                  case rel => exact ⟨z + 1, by omega, by go_num, hide (fun _ => by rw [HTT.out]; exact HT1.out), hide (fun y hy => by
                    by_cases e : y = z
                    · rw [e, HTT.out, HTZ.out]; exact HKB.out
                    · exact HKS.out y (by omega)), hide (HI1.out.below (below_drewN (Below.refl _ wr) nq)), HBP⟩
                  case measure => simp [intOf]; omega
              · have hz4' : z = 4 := by omega
                have hT1 := HK1.out (by omega)
                have HP1 := hide (HP.out.tick r0 (by omega) hT1 (fun y hy => HKS.out y (by omega)))
                have HTK := hide (fun y (hy : y < 4) => keeps_most r0 (by omega) hT1 (HKS.out y (by omega)))
                have HI2 := HI1
                have HBP2 := HBP
                have HCB : Hid (∀ y, y < 4 → 0 ≤ cl y ∧ cl y ≤ 150000) := hide (fun y hy => by have := HP.out.c y hy; omega)
                have d4 : decide ((z : Int) < 4) = false := decide_eq_false (by omega)
                clear hT1 HK1 HKS HI1 HBP hz4 hz hz4'
                generalize (z : Int) = z3 at *
                go_wp2_with fail
                go_loopw [17, 80] (fun s17 s80 wx => ∃ z : Nat, z ≤ 4 ∧ s80 = .int .i64 (z : Int) ∧ Hid (LSI w gs (.slice (some ⟨gb, 0, none⟩) 3 c10) S g A n c mb q cb (fun y => if y < z then cl y + pc.tick y else cl y) bi bv wx) ∧ Hid (wx.heap[bp]? = some (.cells pc.cells.toArray 70 (0, 0)))) (fun _ s80 _ => 4 - (intOf s80).toNat)
                case atStart => exact ⟨0, by omega, rfl, HI2, HBP2⟩
                case round =>
                  clear HI2 HBP2
                  obtain ⟨z, hz, rfl, HI, HBP⟩ := hrel
                  by_cases hz4 : z < 4
                  · have hzl : (z : Int) < 4 := by omega
                    have hz0 : (0 : Int) ≤ (z : Int) := by omega
                    obtain ⟨_, pk, _, _, _⟩ := pc_cells HBP.out
                    have pz := pk z hz4
                    have cz := clv_at HI.out.cl hz4
                    rw [if_neg (Nat.lt_irrefl z)] at cz
                    have fz := (row_cells HI.out.cl z).2
                    have hc := HCB.out z hz4
                    have ht := HTK.out z hz4
                    obtain ⟨x, hx⟩ : ∃ x, cl z + pc.tick z = x := ⟨_, rfl⟩
                    obtain ⟨tz, htz⟩ : ∃ tz, pc.tick z = tz := ⟨_, rfl⟩
                    obtain ⟨cz', hcz⟩ : ∃ cz, cl z = cz := ⟨_, rfl⟩
                    have vw : IntKind.i64.wrap (cz' + tz) = x := by rw [← hx, ← hcz, ← htz]; exact IntWalk.i64_in _ (by omega)
                    have HX := hide hx
                    have HTZ := hide htz
                    rw [htz] at pz
                    rw [hcz] at cz
                    clear pk hc ht hx htz hcz
                    have hst := HI.out.stepC (clv_set HI.out.cl hz4 x) ((Kept.refl (fun j => j = cb) wr).setCell (p := ⟨cb, z, none⟩) (.inl rfl) (.int .i64 x))
                    have hbz : ¬ bp = cb := two_kinds HBP.out HI.out.cl (by decide)
                    have hbp2 := (((Kept.refl (fun j => j = cb) wr).setCell (p := ⟨cb, z, none⟩) (.inl rfl) (.int .i64 x)).block bp (lt_of_block HBP.out) hbz).trans HBP.out
                    have HST := hide (hst.below (Below.refl _ _).drew)
                    have HBP2 : Hid ((wr.setCell ⟨cb, z, none⟩ (.int .i64 x)).drew.heap[bp]? = some (.cells pc.cells.toArray 70 (0, 0))) := hide hbp2
                    clear hst hbp2 hbz
                    go_wp2_with fail
                    refine wp_region_held_drew (S := fun W => W.cell? ⟨bp, 1 + z, none⟩ = some (.int .i64 tz)) (by kernel_rfl) (pz) (fun hHeld => ?_)
                    refine wpAnyH_take (i := 0) (oi := _) (v := .int .i64 z) rfl (by kernel_rfl) (by kernel_rfl) (by kernel_rfl) (fun _ _ _ h => h) (Or.inl ⟨by rfl, fun w' hSw => by go_simp⟩) hHeld ?_
                    (try simp only [Act.put, List.setIfInBounds_toArray, List.set_cons_zero, List.set_cons_succ, List.getElem_toArray, List.getElem_cons_zero, List.getElem_cons_succ])
                    refine wpAnyH_take (i := 1) (oi := _) (v := .pointer (some ⟨cb, z, none⟩)) rfl (by kernel_rfl) (by kernel_rfl) (by kernel_rfl) (fun _ _ _ h => h) (Or.inl ⟨by rfl, fun w' hSw => by go_simp⟩) hHeld ?_
                    (try simp only [Act.put, List.setIfInBounds_toArray, List.set_cons_zero, List.set_cons_succ, List.getElem_toArray, List.getElem_cons_zero, List.getElem_cons_succ])
                    refine wpAnyH_take (i := 3) (oi := _) (v := .int .i64 z) rfl (by kernel_rfl) (by kernel_rfl) (by kernel_rfl) (fun _ _ _ h => h) (Or.inl ⟨by rfl, fun w' hSw => by go_simp⟩) hHeld ?_
                    (try simp only [Act.put, List.setIfInBounds_toArray, List.set_cons_zero, List.set_cons_succ, List.getElem_toArray, List.getElem_cons_zero, List.getElem_cons_succ])
                    refine wpAnyH_take (i := 4) (oi := _) (v := .pointer (some ⟨bp, 1, none⟩)) rfl (by kernel_rfl) (by kernel_rfl) (by kernel_rfl) (fun _ _ _ h => h) (Or.inl ⟨by rfl, fun w' hSw => by go_simp⟩) hHeld ?_
                    (try simp only [Act.put, List.setIfInBounds_toArray, List.set_cons_zero, List.set_cons_succ, List.getElem_toArray, List.getElem_cons_zero, List.getElem_cons_succ])
                    refine wpAnyH_take (i := 5) (oi := _) (v := .pointer (some ⟨bp, 1 + z, none⟩)) rfl (by kernel_rfl) (by kernel_rfl) (by kernel_rfl) (fun _ _ _ h => h) (Or.inl ⟨by rfl, fun w' hSw => by go_simp⟩) hHeld ?_
                    (try simp only [Act.put, List.setIfInBounds_toArray, List.set_cons_zero, List.set_cons_succ, List.getElem_toArray, List.getElem_cons_zero, List.getElem_cons_succ])
                    refine wpAnyH_take (i := 6) (oi := _) (v := .int .i64 tz) rfl (by kernel_rfl) (by kernel_rfl) (by kernel_rfl) (fun _ _ _ h => h) (Or.inl ⟨by rfl, fun w' hSw => by have y2 := hSw; dsimp only at y2; go_simp⟩) hHeld ?_
                    (try simp only [Act.put, List.setIfInBounds_toArray, List.set_cons_zero, List.set_cons_succ, List.getElem_toArray, List.getElem_cons_zero, List.getElem_cons_succ])
                    refine wpAnyH_ready (rs := [2]) (by kernel_rfl) (by simp) ?_
                    refine AllReadyH.cons (o := _) rfl (fun K hK => ?_) AllReadyH.nil
                    (try simp only [List.getElem_toArray, List.getElem_cons_zero, List.getElem_cons_succ])
                    go_simp
                    refine hK.out _ _ (pz) (fun hHeld => ?_)
                    clear hK
                    (try simp only [Act.put, List.setIfInBounds_toArray, List.set_cons_zero, List.set_cons_succ, List.getElem_toArray, List.getElem_cons_zero, List.getElem_cons_succ])
                    refine wpAnyH_take (i := 7) (oi := _) (v := .int .i64 x) rfl (by kernel_rfl) (by kernel_rfl) (by kernel_rfl) (fun _ _ _ h => h) (Or.inl ⟨by rfl, fun w' hSw => by go_simp⟩) hHeld ?_
                    (try simp only [Act.put, List.setIfInBounds_toArray, List.set_cons_zero, List.set_cons_succ, List.getElem_toArray, List.getElem_cons_zero, List.getElem_cons_succ])
                    refine wpAnyH_take (i := 8) (oi := _) (v := .pointer (some ⟨cb, z, none⟩)) rfl (by kernel_rfl) (by kernel_rfl) (by kernel_rfl) (fun _ _ _ h => h) (Or.inl ⟨by rfl, fun w' hSw => by go_simp⟩) hHeld ?_
                    (try simp only [Act.put, List.setIfInBounds_toArray, List.set_cons_zero, List.set_cons_succ, List.getElem_toArray, List.getElem_cons_zero, List.getElem_cons_succ])
                    refine wpAnyH_ready (rs := [9]) (by kernel_rfl) (by simp) ?_
                    refine AllReadyH.cons (o := _) rfl (fun K hK => ?_) AllReadyH.nil
                    (try simp only [List.getElem_toArray, List.getElem_cons_zero, List.getElem_cons_succ])
                    go_simp
                    have pz9 : (wr.setCell ⟨cb, z, none⟩ (.int .i64 x)).drew.cell? ⟨bp, 1 + z, none⟩ = some (.int .i64 tz) := by rw [← HTZ.out]; exact (pc_cells HBP2.out).2.1 z hz4
                    refine hK.out _ _ (pz9) (fun hHeld => ?_)
                    clear hK
                    (try simp only [Act.put, List.setIfInBounds_toArray, List.set_cons_zero, List.set_cons_succ, List.getElem_toArray, List.getElem_cons_zero, List.getElem_cons_succ])
                    refine wpAnyH_done (by kernel_rfl) ?_ _
                    go_wp2_with fail
                    go_roundw
                    case rel => exact ⟨z + 1, by omega, by go_num, hide (lsi_cl HST.out (fun y => by
                      by_cases e : y = z
                      · rw [if_pos e, if_pos (by omega), e]; exact HX.out.symm
                      · rw [if_neg e]
                        by_cases e2 : y < z
                        · rw [if_pos e2, if_pos (by omega)]
                        · rw [if_neg e2, if_neg (by omega)])), HBP2⟩
                    case measure => simp [intOf]; omega
                  · have hz4' : z = 4 := by omega
                    have hI5 := lsi_cl4 (cl' := fun y => cl y + pc.tick y) HI.out (fun y hy => by
                      show (if y < z then cl y + pc.tick y else cl y) = _
                      rw [if_pos (by omega)])
                    obtain ⟨c2, hc2⟩ : ∃ c2, (fun y => cl y + pc.tick y) = c2 := ⟨_, rfl⟩
                    have HP2 := HP1
                    rw [hc2] at hI5 HP2
                    have HI5 := hide hI5
                    obtain ⟨_, _, p5, _, _⟩ := pc_cells HBP.out
                    obtain ⟨x, hx, x0, x1⟩ : ∃ x, bits .and .i64 pc.ask 3 = x ∧ 0 ≤ x ∧ x < 4 := mask_lt pc.ask 2 (by omega)
                    obtain ⟨Y, hY⟩ : ∃ Y : Nat, (Y : Int) = x := ⟨x.toNat, by omega⟩
                    obtain ⟨ask, hask⟩ : ∃ a, pc.ask = a := ⟨_, rfl⟩
                    rw [hask] at p5 hx
                    have HY4 : Hid (Y < 4) := hide (by omega)
                    have HXY := hide hY
                    have d4 : decide ((z : Int) < 4) = false := decide_eq_false (by omega)
                    clear hI5 hc2 HI HP1 HTK HCB hz hz4 hz4' x0 x1 hask hY
                    generalize (z : Int) = z4 at *
                    go_upto_region 31 with fail
                    clear p5 hx d4
                    go_cut [118] from 96 to 117 (fun s118 wx => ∃ (res : Bool) (S2 : Nat → Gr), s118 = .bool res ∧ Hid (PI L r (k + 1) S2 q.f c2) ∧ Hid (LSI w gs (.slice (some ⟨gb, 0, none⟩) 3 c10) S2 g A n c mb q cb c2 bi bv wx) ∧ Hid (wx.heap[bp]? = some (.cells pc.cells.toArray 70 (0, 0))) ∧ Hid (res = true → ∃ j : Nat, j < 3 ∧ x = (j : Int) + 1 ∧ (S2 j).since = c2 (j + 1) ∧ (S2 j).st = true))
                    case first =>
                      by_cases y0 : Y = 0
                      · have dy : decide ((0 : Int) < x) = false := decide_eq_false (by have := HXY.out; omega)
                        clear y0
                        go_wp2_with fail
                        go_quiet (fail)
                        go_wp2
                        go_meet
                        exact ⟨false, S, rfl, HP2, hide (HI5.out.below (below_drewN (Below.refl _ wr) nq)), HBP, hide (fun e => (by cases e))⟩
                      have dy : decide ((0 : Int) < x) = true := decide_eq_true (by have := HXY.out; omega)
                      cases gn
                      rotate_left
                      · clear y0
                        go_wp2_with fail
                        go_quiet (fail)
                        go_wp2
                        go_meet
                        exact ⟨false, S, rfl, HP2, hide (HI5.out.below (below_drewN (Below.refl _ wr) nq)), HBP, hide (fun e => (by cases e))⟩
                      clear dy
                      have hxy := HXY.out
                      clear HXY
                      subst hxy
                      have hy0 : 0 < Y := by omega
                      have hy0i : (0 : Int) < (Y : Int) := by omega
                      obtain ⟨j, hj⟩ : ∃ j : Nat, Y = j + 1 := ⟨Y - 1, by omega⟩
                      have hj3 : j < 3 := by have := HY4.out; omega
                      have hjg : j < (gs : List Nat).length := by rw [HGL.out]; exact hj3
                      have vw : IntKind.i64.wrap ((Y : Int) - 1) = (j : Int) := by rw [IntWalk.i64_in _ (by have := HY4.out; omega)]; omega
                      have hjl : (j : Int) < 3 := by omega
                      have hj0 : (0 : Int) ≤ (j : Int) := by omega
                      have hYl : (Y : Int) < 4 := by omega
                      obtain ⟨gb', ⟨cv, ev⟩, hgc⟩ := HI5.out.at_ hjg
                      injection ev with ev1 ev2 ev3
                      injection ev1 with ev1
                      injection ev1 with ev1 _ _
                      subst ev1
                      clear ev2 ev3
                      have hcc := clv_at HI5.out.cl HY4.out
                      obtain ⟨hg0, hGj⟩ := HI5.out.gr j hjg
                      have hin := HP2.out.c Y HY4.out
                      have hgr := fun W (h : IsG W (gs[j]'hjg) (S j)) => ggrant_any h 1 1 (c2 Y) (by unfold In64'; omega)
                      have hgi := HP2.out.grant_is hj3
                      have hpg := HP2.out.grant hj3 r0 (by omega)
                      rw [← hj] at hgi hpg
                      have HPG := hide hpg
                      have HGI := hide hgi
                      have HGR := hide hgr
                      have HGJ := hide (And.intro hg0 hGj)
                      have HJ := hide hj
                      have HJG := hide hjg
                      obtain ⟨gj, hgj⟩ : ∃ x : Nat, gs[j]'hjg = x := ⟨_, rfl⟩
                      rw [hgj] at hgc HGR HGJ
                      have HGJE := hide hgj
                      have HGC := hide hgc
                      have HCC := hide hcc
                      obtain ⟨ny, hny⟩ : ∃ x, c2 Y = x := ⟨_, rfl⟩
                      rw [hny] at HCC HGR hgi
                      have HNY := hide hny
                      obtain ⟨_, _, _, p6, _⟩ := pc_cells HBP.out
                      obtain ⟨lost, hlost⟩ : ∃ b, pc.lost = b := ⟨_, rfl⟩
                      rw [hlost] at p6
                      have HP6 := hide p6
                      clear hgc hcc hg0 hGj hin hgr hgi hpg hj hj3 hgj hny y0 p6 hlost
                      have HBI := hide HI5.out.bi
                      obtain ⟨an, han⟩ : ∃ b, ((S j).grant 1 1 ny).2 = b := ⟨_, rfl⟩
                      obtain ⟨G2, hG2⟩ : ∃ b, ((S j).grant 1 1 ny).1 = b := ⟨_, rfl⟩
                      rw [han, hG2] at HGR
                      have HAN := hide han
                      have HG2 := hide hG2
                      clear han hG2
                      have hgd := HGR.out _ (HGJ.out.2.below (Below.refl _ wr).drew)
                      have HGD := hide hgd
                      clear hgd HGR
                      have hpg2 : PI L r (k + 1) (fun i => if i = j then G2 else S i) q.f c2 := by
                        have := HPG.out
                        rw [HNY.out, HG2.out] at this
                        exact this
                      have HPG2 := hide hpg2
                      clear hpg2
                      by_cases hl0 : L = 0
                      · have e := HGI.out
                        rw [if_pos hl0, HNY.out] at e
                        have ean : an = false := by rw [← HAN.out, e]
                        subst ean
                        clear e hl0
                        go_wp2_with fail
                        refine wp_region_held_drew (S := fun W => W.cell? ⟨bp, 6, none⟩ = some (.bool lost) ∧ W.cell? ⟨gb, j, none⟩ = some (.pointer (some ⟨gj, 0, none⟩)) ∧ W.heap[bi]? = some (.cells #[.int .i64 1, .int .i64 1] 46 (0, 0)) ∧ W.cell? ⟨cb, Y, none⟩ = some (.int .i64 ny)) (by kernel_rfl) (⟨HP6.out, HGC.out, HBI.out, HCC.out⟩) (fun hHeld => ?_)
                        refine wpAnyH_take (i := 0) (oi := _) (v := .int .i64 (Y : Int)) rfl (by kernel_rfl) (by kernel_rfl) (by kernel_rfl) (fun _ _ _ h => h) (Or.inl ⟨by rfl, fun w' hSw => by go_simp⟩) hHeld ?_
                        (try simp only [Act.put, List.setIfInBounds_toArray, List.set_cons_zero, List.set_cons_succ, List.getElem_toArray, List.getElem_cons_zero, List.getElem_cons_succ])
                        refine wpAnyH_take (i := 1) (oi := _) (v := .bool true) rfl (by kernel_rfl) (by kernel_rfl) (by kernel_rfl) (fun _ _ _ h => h) (Or.inl ⟨by rfl, fun w' hSw => by go_simp⟩) hHeld ?_
                        (try simp only [Act.put, List.setIfInBounds_toArray, List.set_cons_zero, List.set_cons_succ, List.getElem_toArray, List.getElem_cons_zero, List.getElem_cons_succ])
                        refine wpAnyH_take (i := 2) (oi := _) (v := .bool true) rfl (by kernel_rfl) (by kernel_rfl) (by kernel_rfl) (fun _ _ _ h => h) (Or.inl ⟨by rfl, fun w' hSw => by go_simp⟩) hHeld ?_
                        (try simp only [Act.put, List.setIfInBounds_toArray, List.set_cons_zero, List.set_cons_succ, List.getElem_toArray, List.getElem_cons_zero, List.getElem_cons_succ])
                        refine wpAnyH_take (i := 3) (oi := _) (v := .bool false) rfl (by kernel_rfl) (by kernel_rfl) (by kernel_rfl) (fun _ _ _ h => h) (Or.inl ⟨by rfl, fun w' hSw => by go_simp⟩) hHeld ?_
                        (try simp only [Act.put, List.setIfInBounds_toArray, List.set_cons_zero, List.set_cons_succ, List.getElem_toArray, List.getElem_cons_zero, List.getElem_cons_succ])
                        refine wpAnyH_take (i := 4) (oi := _) (v := .bool true) rfl (by kernel_rfl) (by kernel_rfl) (by kernel_rfl) (fun _ _ _ h => h) (Or.inl ⟨by rfl, fun w' hSw => by go_simp⟩) hHeld ?_
                        (try simp only [Act.put, List.setIfInBounds_toArray, List.set_cons_zero, List.set_cons_succ, List.getElem_toArray, List.getElem_cons_zero, List.getElem_cons_succ])
                        refine wpAnyH_take (i := 5) (oi := _) (v := .bool true) rfl (by kernel_rfl) (by kernel_rfl) (by kernel_rfl) (fun _ _ _ h => h) (Or.inl ⟨by rfl, fun w' hSw => by go_simp⟩) hHeld ?_
                        (try simp only [Act.put, List.setIfInBounds_toArray, List.set_cons_zero, List.set_cons_succ, List.getElem_toArray, List.getElem_cons_zero, List.getElem_cons_succ])
                        refine wpAnyH_take (i := 6) (oi := _) (v := .bool true) rfl (by kernel_rfl) (by kernel_rfl) (by kernel_rfl) (fun _ _ _ h => h) (Or.inl ⟨by rfl, fun w' hSw => by go_simp⟩) hHeld ?_
                        (try simp only [Act.put, List.setIfInBounds_toArray, List.set_cons_zero, List.set_cons_succ, List.getElem_toArray, List.getElem_cons_zero, List.getElem_cons_succ])
                        refine wpAnyH_take (i := 7) (oi := _) (v := .slice (some ⟨gb, 0, none⟩) 3 c10) rfl (by kernel_rfl) (by kernel_rfl) (by kernel_rfl) (fun _ _ _ h => h) (Or.inl ⟨by rfl, fun w' hSw => by go_simp⟩) hHeld ?_
                        (try simp only [Act.put, List.setIfInBounds_toArray, List.set_cons_zero, List.set_cons_succ, List.getElem_toArray, List.getElem_cons_zero, List.getElem_cons_succ])
                        refine wpAnyH_take (i := 8) (oi := _) (v := .int .i64 (Y : Int)) rfl (by kernel_rfl) (by kernel_rfl) (by kernel_rfl) (fun _ _ _ h => h) (Or.inl ⟨by rfl, fun w' hSw => by go_simp⟩) hHeld ?_
                        (try simp only [Act.put, List.setIfInBounds_toArray, List.set_cons_zero, List.set_cons_succ, List.getElem_toArray, List.getElem_cons_zero, List.getElem_cons_succ])
                        refine wpAnyH_take (i := 9) (oi := _) (v := .int .i64 (j : Int)) rfl (by kernel_rfl) (by kernel_rfl) (by kernel_rfl) (fun _ _ _ h => h) (Or.inl ⟨by rfl, fun w' hSw => by go_simp⟩) hHeld ?_
                        (try simp only [Act.put, List.setIfInBounds_toArray, List.set_cons_zero, List.set_cons_succ, List.getElem_toArray, List.getElem_cons_zero, List.getElem_cons_succ])
                        refine wpAnyH_take (i := 10) (oi := _) (v := .pointer (some ⟨gb, j, none⟩)) rfl (by kernel_rfl) (by kernel_rfl) (by kernel_rfl) (fun _ _ _ h => h) (Or.inl ⟨by rfl, fun w' hSw => by go_simp⟩) hHeld ?_
                        (try simp only [Act.put, List.setIfInBounds_toArray, List.set_cons_zero, List.set_cons_succ, List.getElem_toArray, List.getElem_cons_zero, List.getElem_cons_succ])
                        refine wpAnyH_take (i := 11) (oi := _) (v := .pointer (some ⟨gj, 0, none⟩)) rfl (by kernel_rfl) (by kernel_rfl) (by kernel_rfl) (fun _ _ _ h => h) (Or.inl ⟨by rfl, fun w' hSw => by obtain ⟨z1, z2, z3, z4⟩ := hSw; go_simp⟩) hHeld ?_
                        (try simp only [Act.put, List.setIfInBounds_toArray, List.set_cons_zero, List.set_cons_succ, List.getElem_toArray, List.getElem_cons_zero, List.getElem_cons_succ])
                        refine wpAnyH_take (i := 12) (oi := _) (v := .agg #[.int .i64 1, .int .i64 1]) rfl (by kernel_rfl) (by kernel_rfl) (by kernel_rfl) (fun _ _ _ h => h) (Or.inl ⟨by rfl, fun w' hSw => by obtain ⟨z1, z2, z3, z4⟩ := hSw; have b0 := (row_cells z3 0).1; have b1 := (row_cells z3 1).1; simp only [List.getElem?_toArray, List.getElem?_cons_succ, List.getElem?_cons_zero] at b0 b1; go_simp⟩) hHeld ?_
                        (try simp only [Act.put, List.setIfInBounds_toArray, List.set_cons_zero, List.set_cons_succ, List.getElem_toArray, List.getElem_cons_zero, List.getElem_cons_succ])
                        refine wpAnyH_take (i := 13) (oi := _) (v := .int .i64 (Y : Int)) rfl (by kernel_rfl) (by kernel_rfl) (by kernel_rfl) (fun _ _ _ h => h) (Or.inl ⟨by rfl, fun w' hSw => by go_simp⟩) hHeld ?_
                        (try simp only [Act.put, List.setIfInBounds_toArray, List.set_cons_zero, List.set_cons_succ, List.getElem_toArray, List.getElem_cons_zero, List.getElem_cons_succ])
                        refine wpAnyH_take (i := 14) (oi := _) (v := .pointer (some ⟨cb, Y, none⟩)) rfl (by kernel_rfl) (by kernel_rfl) (by kernel_rfl) (fun _ _ _ h => h) (Or.inl ⟨by rfl, fun w' hSw => by go_simp⟩) hHeld ?_
                        (try simp only [Act.put, List.setIfInBounds_toArray, List.set_cons_zero, List.set_cons_succ, List.getElem_toArray, List.getElem_cons_zero, List.getElem_cons_succ])
                        refine wpAnyH_take (i := 15) (oi := _) (v := .int .i64 ny) rfl (by kernel_rfl) (by kernel_rfl) (by kernel_rfl) (fun _ _ _ h => h) (Or.inl ⟨by rfl, fun w' hSw => by obtain ⟨z1, z2, z3, z4⟩ := hSw; go_simp⟩) hHeld ?_
                        (try simp only [Act.put, List.setIfInBounds_toArray, List.set_cons_zero, List.set_cons_succ, List.getElem_toArray, List.getElem_cons_zero, List.getElem_cons_succ])
                        refine wpAnyH_ready (rs := [16]) (by kernel_rfl) (by simp) ?_
                        refine AllReadyH.cons (o := _) rfl (fun K hK => ?_) AllReadyH.nil
                        (try simp only [List.getElem_toArray, List.getElem_cons_zero, List.getElem_cons_succ])
                        go_simp
                        refine HGD.out.mono ?_
                        rintro e w6 ⟨rfl, g6, k6⟩
                        go_wp2_with fail
                        have g6' := HGJE.out ▸ g6
                        have k6' := HGJE.out ▸ k6
                        have hst := (HI5.out.below (Below.refl _ wr).drew).stepG HJG.out g6' k6'
                        have hbp6 : w6.heap[bp]? = some (.cells pc.cells.toArray 70 (0, 0)) := (k6.block bp (lt_of_block HBP.out) (two_kinds HBP.out HGJ.out.2.blk (by decide))).trans HBP.out
                        have hcl6 := clv_at hst.cl HY4.out
                        rw [HNY.out] at hcl6
                        have hp6 := (k6.cell (k := bp) (i := 6) (lt_of_block HBP.out) (two_kinds HBP.out HGJ.out.2.blk (by decide))).trans HP6.out
                        obtain ⟨gb', ⟨cv', ev⟩, hgc6⟩ := hst.at_ HJG.out
                        injection ev with ev1 ev2 ev3
                        injection ev1 with ev1
                        injection ev1 with ev1 _ _
                        subst ev1
                        clear ev2 ev3
                        rw [HGJE.out] at hgc6
                        have HST := hide hst
                        have HB6 := hide hbp6
                        have hbi6 := hst.bi
                        clear hst g6 g6' k6 k6' hbp6
                        refine hK.out _ _ (⟨hp6, hgc6, hbi6, hcl6⟩) (fun hHeld => ?_)
                        clear hK
                        (try simp only [Act.put, List.setIfInBounds_toArray, List.set_cons_zero, List.set_cons_succ, List.getElem_toArray, List.getElem_cons_zero, List.getElem_cons_succ])
                        refine wpAnyH_take (i := 17) (oi := _) (v := .bool false) rfl (by kernel_rfl) (by kernel_rfl) (by kernel_rfl) (fun _ _ _ h => h) (Or.inl ⟨by rfl, fun w' hSw => by go_simp⟩) hHeld ?_
                        (try simp only [Act.put, List.setIfInBounds_toArray, List.set_cons_zero, List.set_cons_succ, List.getElem_toArray, List.getElem_cons_zero, List.getElem_cons_succ])
                        refine wpAnyH_take (i := 18) (oi := _) (v := .bool false) rfl (by kernel_rfl) (by kernel_rfl) (by kernel_rfl) (fun _ _ _ h => h) (Or.inl ⟨by rfl, fun w' hSw => by go_simp⟩) hHeld ?_
                        (try simp only [Act.put, List.setIfInBounds_toArray, List.set_cons_zero, List.set_cons_succ, List.getElem_toArray, List.getElem_cons_zero, List.getElem_cons_succ])
                        refine wpAnyH_take (i := 19) (oi := _) (v := undef) rfl (by kernel_rfl) (by kernel_rfl) (by kernel_rfl) (fun _ _ _ h => h) (Or.inr ⟨by rfl, rfl⟩) hHeld ?_
                        (try simp only [Act.put, List.setIfInBounds_toArray, List.set_cons_zero, List.set_cons_succ, List.getElem_toArray, List.getElem_cons_zero, List.getElem_cons_succ])
                        refine wpAnyH_take (i := 20) (oi := _) (v := undef) rfl (by kernel_rfl) (by kernel_rfl) (by kernel_rfl) (fun _ _ _ h => h) (Or.inr ⟨by rfl, rfl⟩) hHeld ?_
                        (try simp only [Act.put, List.setIfInBounds_toArray, List.set_cons_zero, List.set_cons_succ, List.getElem_toArray, List.getElem_cons_zero, List.getElem_cons_succ])
                        refine wpAnyH_take (i := 21) (oi := _) (v := undef) rfl (by kernel_rfl) (by kernel_rfl) (by kernel_rfl) (fun _ _ _ h => h) (Or.inr ⟨by rfl, rfl⟩) hHeld ?_
                        (try simp only [Act.put, List.setIfInBounds_toArray, List.set_cons_zero, List.set_cons_succ, List.getElem_toArray, List.getElem_cons_zero, List.getElem_cons_succ])
                        refine wpAnyH_take (i := 22) (oi := _) (v := .bool false) rfl (by kernel_rfl) (by kernel_rfl) (by kernel_rfl) (fun _ _ _ h => h) (Or.inl ⟨by rfl, fun w' hSw => by go_simp⟩) hHeld ?_
                        (try simp only [Act.put, List.setIfInBounds_toArray, List.set_cons_zero, List.set_cons_succ, List.getElem_toArray, List.getElem_cons_zero, List.getElem_cons_succ])
                        refine wpAnyH_done (by kernel_rfl) ?_ _
                        clear hp6 hgc6 hbi6 hcl6
                        go_wp2_with fail
                        go_meet
                        exact ⟨false, _, rfl, HPG2, HST, HB6, hide (fun e => (by cases e))⟩
                      have e := HGI.out
                      rw [if_neg hl0, HNY.out] at e
                      have ean : an = true := by rw [← HAN.out, e]
                      have eg2 : G2 = ⟨L, true, 1, 1, ny⟩ := by rw [← HG2.out, e]
                      have HEG := hide eg2
                      subst ean
                      clear e hl0 eg2
                      cases lost
                      rotate_left
                      · go_wp2_with fail
                        refine wp_region_held_drew (S := fun W => W.cell? ⟨bp, 6, none⟩ = some (.bool true) ∧ W.cell? ⟨gb, j, none⟩ = some (.pointer (some ⟨gj, 0, none⟩)) ∧ W.heap[bi]? = some (.cells #[.int .i64 1, .int .i64 1] 46 (0, 0)) ∧ W.cell? ⟨cb, Y, none⟩ = some (.int .i64 ny)) (by kernel_rfl) (⟨HP6.out, HGC.out, HBI.out, HCC.out⟩) (fun hHeld => ?_)
                        refine wpAnyH_take (i := 0) (oi := _) (v := .int .i64 (Y : Int)) rfl (by kernel_rfl) (by kernel_rfl) (by kernel_rfl) (fun _ _ _ h => h) (Or.inl ⟨by rfl, fun w' hSw => by go_simp⟩) hHeld ?_
                        (try simp only [Act.put, List.setIfInBounds_toArray, List.set_cons_zero, List.set_cons_succ, List.getElem_toArray, List.getElem_cons_zero, List.getElem_cons_succ])
                        refine wpAnyH_take (i := 1) (oi := _) (v := .bool true) rfl (by kernel_rfl) (by kernel_rfl) (by kernel_rfl) (fun _ _ _ h => h) (Or.inl ⟨by rfl, fun w' hSw => by go_simp⟩) hHeld ?_
                        (try simp only [Act.put, List.setIfInBounds_toArray, List.set_cons_zero, List.set_cons_succ, List.getElem_toArray, List.getElem_cons_zero, List.getElem_cons_succ])
                        refine wpAnyH_take (i := 2) (oi := _) (v := .bool true) rfl (by kernel_rfl) (by kernel_rfl) (by kernel_rfl) (fun _ _ _ h => h) (Or.inl ⟨by rfl, fun w' hSw => by go_simp⟩) hHeld ?_
                        (try simp only [Act.put, List.setIfInBounds_toArray, List.set_cons_zero, List.set_cons_succ, List.getElem_toArray, List.getElem_cons_zero, List.getElem_cons_succ])
                        refine wpAnyH_take (i := 3) (oi := _) (v := .bool false) rfl (by kernel_rfl) (by kernel_rfl) (by kernel_rfl) (fun _ _ _ h => h) (Or.inl ⟨by rfl, fun w' hSw => by go_simp⟩) hHeld ?_
                        (try simp only [Act.put, List.setIfInBounds_toArray, List.set_cons_zero, List.set_cons_succ, List.getElem_toArray, List.getElem_cons_zero, List.getElem_cons_succ])
                        refine wpAnyH_take (i := 4) (oi := _) (v := .bool true) rfl (by kernel_rfl) (by kernel_rfl) (by kernel_rfl) (fun _ _ _ h => h) (Or.inl ⟨by rfl, fun w' hSw => by go_simp⟩) hHeld ?_
                        (try simp only [Act.put, List.setIfInBounds_toArray, List.set_cons_zero, List.set_cons_succ, List.getElem_toArray, List.getElem_cons_zero, List.getElem_cons_succ])
                        refine wpAnyH_take (i := 5) (oi := _) (v := .bool true) rfl (by kernel_rfl) (by kernel_rfl) (by kernel_rfl) (fun _ _ _ h => h) (Or.inl ⟨by rfl, fun w' hSw => by go_simp⟩) hHeld ?_
                        (try simp only [Act.put, List.setIfInBounds_toArray, List.set_cons_zero, List.set_cons_succ, List.getElem_toArray, List.getElem_cons_zero, List.getElem_cons_succ])
                        refine wpAnyH_take (i := 6) (oi := _) (v := .bool true) rfl (by kernel_rfl) (by kernel_rfl) (by kernel_rfl) (fun _ _ _ h => h) (Or.inl ⟨by rfl, fun w' hSw => by go_simp⟩) hHeld ?_
                        (try simp only [Act.put, List.setIfInBounds_toArray, List.set_cons_zero, List.set_cons_succ, List.getElem_toArray, List.getElem_cons_zero, List.getElem_cons_succ])
                        refine wpAnyH_take (i := 7) (oi := _) (v := .slice (some ⟨gb, 0, none⟩) 3 c10) rfl (by kernel_rfl) (by kernel_rfl) (by kernel_rfl) (fun _ _ _ h => h) (Or.inl ⟨by rfl, fun w' hSw => by go_simp⟩) hHeld ?_
                        (try simp only [Act.put, List.setIfInBounds_toArray, List.set_cons_zero, List.set_cons_succ, List.getElem_toArray, List.getElem_cons_zero, List.getElem_cons_succ])
                        refine wpAnyH_take (i := 8) (oi := _) (v := .int .i64 (Y : Int)) rfl (by kernel_rfl) (by kernel_rfl) (by kernel_rfl) (fun _ _ _ h => h) (Or.inl ⟨by rfl, fun w' hSw => by go_simp⟩) hHeld ?_
                        (try simp only [Act.put, List.setIfInBounds_toArray, List.set_cons_zero, List.set_cons_succ, List.getElem_toArray, List.getElem_cons_zero, List.getElem_cons_succ])
                        refine wpAnyH_take (i := 9) (oi := _) (v := .int .i64 (j : Int)) rfl (by kernel_rfl) (by kernel_rfl) (by kernel_rfl) (fun _ _ _ h => h) (Or.inl ⟨by rfl, fun w' hSw => by go_simp⟩) hHeld ?_
                        (try simp only [Act.put, List.setIfInBounds_toArray, List.set_cons_zero, List.set_cons_succ, List.getElem_toArray, List.getElem_cons_zero, List.getElem_cons_succ])
                        refine wpAnyH_take (i := 10) (oi := _) (v := .pointer (some ⟨gb, j, none⟩)) rfl (by kernel_rfl) (by kernel_rfl) (by kernel_rfl) (fun _ _ _ h => h) (Or.inl ⟨by rfl, fun w' hSw => by go_simp⟩) hHeld ?_
                        (try simp only [Act.put, List.setIfInBounds_toArray, List.set_cons_zero, List.set_cons_succ, List.getElem_toArray, List.getElem_cons_zero, List.getElem_cons_succ])
                        refine wpAnyH_take (i := 11) (oi := _) (v := .pointer (some ⟨gj, 0, none⟩)) rfl (by kernel_rfl) (by kernel_rfl) (by kernel_rfl) (fun _ _ _ h => h) (Or.inl ⟨by rfl, fun w' hSw => by obtain ⟨z1, z2, z3, z4⟩ := hSw; go_simp⟩) hHeld ?_
                        (try simp only [Act.put, List.setIfInBounds_toArray, List.set_cons_zero, List.set_cons_succ, List.getElem_toArray, List.getElem_cons_zero, List.getElem_cons_succ])
                        refine wpAnyH_take (i := 12) (oi := _) (v := .agg #[.int .i64 1, .int .i64 1]) rfl (by kernel_rfl) (by kernel_rfl) (by kernel_rfl) (fun _ _ _ h => h) (Or.inl ⟨by rfl, fun w' hSw => by obtain ⟨z1, z2, z3, z4⟩ := hSw; have b0 := (row_cells z3 0).1; have b1 := (row_cells z3 1).1; simp only [List.getElem?_toArray, List.getElem?_cons_succ, List.getElem?_cons_zero] at b0 b1; go_simp⟩) hHeld ?_
                        (try simp only [Act.put, List.setIfInBounds_toArray, List.set_cons_zero, List.set_cons_succ, List.getElem_toArray, List.getElem_cons_zero, List.getElem_cons_succ])
                        refine wpAnyH_take (i := 13) (oi := _) (v := .int .i64 (Y : Int)) rfl (by kernel_rfl) (by kernel_rfl) (by kernel_rfl) (fun _ _ _ h => h) (Or.inl ⟨by rfl, fun w' hSw => by go_simp⟩) hHeld ?_
                        (try simp only [Act.put, List.setIfInBounds_toArray, List.set_cons_zero, List.set_cons_succ, List.getElem_toArray, List.getElem_cons_zero, List.getElem_cons_succ])
                        refine wpAnyH_take (i := 14) (oi := _) (v := .pointer (some ⟨cb, Y, none⟩)) rfl (by kernel_rfl) (by kernel_rfl) (by kernel_rfl) (fun _ _ _ h => h) (Or.inl ⟨by rfl, fun w' hSw => by go_simp⟩) hHeld ?_
                        (try simp only [Act.put, List.setIfInBounds_toArray, List.set_cons_zero, List.set_cons_succ, List.getElem_toArray, List.getElem_cons_zero, List.getElem_cons_succ])
                        refine wpAnyH_take (i := 15) (oi := _) (v := .int .i64 ny) rfl (by kernel_rfl) (by kernel_rfl) (by kernel_rfl) (fun _ _ _ h => h) (Or.inl ⟨by rfl, fun w' hSw => by obtain ⟨z1, z2, z3, z4⟩ := hSw; go_simp⟩) hHeld ?_
                        (try simp only [Act.put, List.setIfInBounds_toArray, List.set_cons_zero, List.set_cons_succ, List.getElem_toArray, List.getElem_cons_zero, List.getElem_cons_succ])
                        refine wpAnyH_ready (rs := [16]) (by kernel_rfl) (by simp) ?_
                        refine AllReadyH.cons (o := _) rfl (fun K hK => ?_) AllReadyH.nil
                        (try simp only [List.getElem_toArray, List.getElem_cons_zero, List.getElem_cons_succ])
                        go_simp
                        refine HGD.out.mono ?_
                        rintro e w6 ⟨rfl, g6, k6⟩
                        go_wp2_with fail
                        have g6' := HGJE.out ▸ g6
                        have k6' := HGJE.out ▸ k6
                        have hst := (HI5.out.below (Below.refl _ wr).drew).stepG HJG.out g6' k6'
                        have hbp6 : w6.heap[bp]? = some (.cells pc.cells.toArray 70 (0, 0)) := (k6.block bp (lt_of_block HBP.out) (two_kinds HBP.out HGJ.out.2.blk (by decide))).trans HBP.out
                        have hcl6 := clv_at hst.cl HY4.out
                        rw [HNY.out] at hcl6
                        have hp6 := (k6.cell (k := bp) (i := 6) (lt_of_block HBP.out) (two_kinds HBP.out HGJ.out.2.blk (by decide))).trans HP6.out
                        obtain ⟨gb', ⟨cv', ev⟩, hgc6⟩ := hst.at_ HJG.out
                        injection ev with ev1 ev2 ev3
                        injection ev1 with ev1
                        injection ev1 with ev1 _ _
                        subst ev1
                        clear ev2 ev3
                        rw [HGJE.out] at hgc6
                        have HST := hide hst
                        have HB6 := hide hbp6
                        have hbi6 := hst.bi
                        clear hst g6 g6' k6 k6' hbp6
                        refine hK.out _ _ (⟨hp6, hgc6, hbi6, hcl6⟩) (fun hHeld => ?_)
                        clear hK
                        (try simp only [Act.put, List.setIfInBounds_toArray, List.set_cons_zero, List.set_cons_succ, List.getElem_toArray, List.getElem_cons_zero, List.getElem_cons_succ])
                        refine wpAnyH_take (i := 17) (oi := _) (v := .bool true) rfl (by kernel_rfl) (by kernel_rfl) (by kernel_rfl) (fun _ _ _ h => h) (Or.inl ⟨by rfl, fun w' hSw => by go_simp⟩) hHeld ?_
                        (try simp only [Act.put, List.setIfInBounds_toArray, List.set_cons_zero, List.set_cons_succ, List.getElem_toArray, List.getElem_cons_zero, List.getElem_cons_succ])
                        refine wpAnyH_take (i := 18) (oi := _) (v := .bool true) rfl (by kernel_rfl) (by kernel_rfl) (by kernel_rfl) (fun _ _ _ h => h) (Or.inl ⟨by rfl, fun w' hSw => by go_simp⟩) hHeld ?_
                        (try simp only [Act.put, List.setIfInBounds_toArray, List.set_cons_zero, List.set_cons_succ, List.getElem_toArray, List.getElem_cons_zero, List.getElem_cons_succ])
                        refine wpAnyH_take (i := 19) (oi := _) (v := .pointer (some ⟨bp, 6, none⟩)) rfl (by kernel_rfl) (by kernel_rfl) (by kernel_rfl) (fun _ _ _ h => h) (Or.inl ⟨by rfl, fun w' hSw => by go_simp⟩) hHeld ?_
                        (try simp only [Act.put, List.setIfInBounds_toArray, List.set_cons_zero, List.set_cons_succ, List.getElem_toArray, List.getElem_cons_zero, List.getElem_cons_succ])
                        refine wpAnyH_take (i := 20) (oi := _) (v := .bool true) rfl (by kernel_rfl) (by kernel_rfl) (by kernel_rfl) (fun _ _ _ h => h) (Or.inl ⟨by rfl, fun w' hSw => by obtain ⟨z1, z2, z3, z4⟩ := hSw; go_simp⟩) hHeld ?_
                        (try simp only [Act.put, List.setIfInBounds_toArray, List.set_cons_zero, List.set_cons_succ, List.getElem_toArray, List.getElem_cons_zero, List.getElem_cons_succ])
                        refine wpAnyH_take (i := 21) (oi := _) (v := .bool false) rfl (by kernel_rfl) (by kernel_rfl) (by kernel_rfl) (fun _ _ _ h => h) (Or.inl ⟨by rfl, fun w' hSw => by go_simp⟩) hHeld ?_
                        (try simp only [Act.put, List.setIfInBounds_toArray, List.set_cons_zero, List.set_cons_succ, List.getElem_toArray, List.getElem_cons_zero, List.getElem_cons_succ])
                        refine wpAnyH_take (i := 22) (oi := _) (v := .bool false) rfl (by kernel_rfl) (by kernel_rfl) (by kernel_rfl) (fun _ _ _ h => h) (Or.inl ⟨by rfl, fun w' hSw => by go_simp⟩) hHeld ?_
                        (try simp only [Act.put, List.setIfInBounds_toArray, List.set_cons_zero, List.set_cons_succ, List.getElem_toArray, List.getElem_cons_zero, List.getElem_cons_succ])
                        refine wpAnyH_done (by kernel_rfl) ?_ _
                        clear hp6 hgc6 hbi6 hcl6
                        go_wp2_with fail
                        go_meet
                        exact ⟨false, _, rfl, HPG2, HST, HB6, hide (fun e => (by cases e))⟩
                      go_wp2_with fail
                      refine wp_region_held_drew (S := fun W => W.cell? ⟨bp, 6, none⟩ = some (.bool false) ∧ W.cell? ⟨gb, j, none⟩ = some (.pointer (some ⟨gj, 0, none⟩)) ∧ W.heap[bi]? = some (.cells #[.int .i64 1, .int .i64 1] 46 (0, 0)) ∧ W.cell? ⟨cb, Y, none⟩ = some (.int .i64 ny)) (by kernel_rfl) (⟨HP6.out, HGC.out, HBI.out, HCC.out⟩) (fun hHeld => ?_)
                      refine wpAnyH_take (i := 0) (oi := _) (v := .int .i64 (Y : Int)) rfl (by kernel_rfl) (by kernel_rfl) (by kernel_rfl) (fun _ _ _ h => h) (Or.inl ⟨by rfl, fun w' hSw => by go_simp⟩) hHeld ?_
                      (try simp only [Act.put, List.setIfInBounds_toArray, List.set_cons_zero, List.set_cons_succ, List.getElem_toArray, List.getElem_cons_zero, List.getElem_cons_succ])
                      refine wpAnyH_take (i := 1) (oi := _) (v := .bool true) rfl (by kernel_rfl) (by kernel_rfl) (by kernel_rfl) (fun _ _ _ h => h) (Or.inl ⟨by rfl, fun w' hSw => by go_simp⟩) hHeld ?_
                      (try simp only [Act.put, List.setIfInBounds_toArray, List.set_cons_zero, List.set_cons_succ, List.getElem_toArray, List.getElem_cons_zero, List.getElem_cons_succ])
                      refine wpAnyH_take (i := 2) (oi := _) (v := .bool true) rfl (by kernel_rfl) (by kernel_rfl) (by kernel_rfl) (fun _ _ _ h => h) (Or.inl ⟨by rfl, fun w' hSw => by go_simp⟩) hHeld ?_
                      (try simp only [Act.put, List.setIfInBounds_toArray, List.set_cons_zero, List.set_cons_succ, List.getElem_toArray, List.getElem_cons_zero, List.getElem_cons_succ])
                      refine wpAnyH_take (i := 3) (oi := _) (v := .bool false) rfl (by kernel_rfl) (by kernel_rfl) (by kernel_rfl) (fun _ _ _ h => h) (Or.inl ⟨by rfl, fun w' hSw => by go_simp⟩) hHeld ?_
                      (try simp only [Act.put, List.setIfInBounds_toArray, List.set_cons_zero, List.set_cons_succ, List.getElem_toArray, List.getElem_cons_zero, List.getElem_cons_succ])
                      refine wpAnyH_take (i := 4) (oi := _) (v := .bool true) rfl (by kernel_rfl) (by kernel_rfl) (by kernel_rfl) (fun _ _ _ h => h) (Or.inl ⟨by rfl, fun w' hSw => by go_simp⟩) hHeld ?_
                      (try simp only [Act.put, List.setIfInBounds_toArray, List.set_cons_zero, List.set_cons_succ, List.getElem_toArray, List.getElem_cons_zero, List.getElem_cons_succ])
                      refine wpAnyH_take (i := 5) (oi := _) (v := .bool true) rfl (by kernel_rfl) (by kernel_rfl) (by kernel_rfl) (fun _ _ _ h => h) (Or.inl ⟨by rfl, fun w' hSw => by go_simp⟩) hHeld ?_
                      (try simp only [Act.put, List.setIfInBounds_toArray, List.set_cons_zero, List.set_cons_succ, List.getElem_toArray, List.getElem_cons_zero, List.getElem_cons_succ])
                      refine wpAnyH_take (i := 6) (oi := _) (v := .bool true) rfl (by kernel_rfl) (by kernel_rfl) (by kernel_rfl) (fun _ _ _ h => h) (Or.inl ⟨by rfl, fun w' hSw => by go_simp⟩) hHeld ?_
                      (try simp only [Act.put, List.setIfInBounds_toArray, List.set_cons_zero, List.set_cons_succ, List.getElem_toArray, List.getElem_cons_zero, List.getElem_cons_succ])
                      refine wpAnyH_take (i := 7) (oi := _) (v := .slice (some ⟨gb, 0, none⟩) 3 c10) rfl (by kernel_rfl) (by kernel_rfl) (by kernel_rfl) (fun _ _ _ h => h) (Or.inl ⟨by rfl, fun w' hSw => by go_simp⟩) hHeld ?_
                      (try simp only [Act.put, List.setIfInBounds_toArray, List.set_cons_zero, List.set_cons_succ, List.getElem_toArray, List.getElem_cons_zero, List.getElem_cons_succ])
                      refine wpAnyH_take (i := 8) (oi := _) (v := .int .i64 (Y : Int)) rfl (by kernel_rfl) (by kernel_rfl) (by kernel_rfl) (fun _ _ _ h => h) (Or.inl ⟨by rfl, fun w' hSw => by go_simp⟩) hHeld ?_
                      (try simp only [Act.put, List.setIfInBounds_toArray, List.set_cons_zero, List.set_cons_succ, List.getElem_toArray, List.getElem_cons_zero, List.getElem_cons_succ])
                      refine wpAnyH_take (i := 9) (oi := _) (v := .int .i64 (j : Int)) rfl (by kernel_rfl) (by kernel_rfl) (by kernel_rfl) (fun _ _ _ h => h) (Or.inl ⟨by rfl, fun w' hSw => by go_simp⟩) hHeld ?_
                      (try simp only [Act.put, List.setIfInBounds_toArray, List.set_cons_zero, List.set_cons_succ, List.getElem_toArray, List.getElem_cons_zero, List.getElem_cons_succ])
                      refine wpAnyH_take (i := 10) (oi := _) (v := .pointer (some ⟨gb, j, none⟩)) rfl (by kernel_rfl) (by kernel_rfl) (by kernel_rfl) (fun _ _ _ h => h) (Or.inl ⟨by rfl, fun w' hSw => by go_simp⟩) hHeld ?_
                      (try simp only [Act.put, List.setIfInBounds_toArray, List.set_cons_zero, List.set_cons_succ, List.getElem_toArray, List.getElem_cons_zero, List.getElem_cons_succ])
                      refine wpAnyH_take (i := 11) (oi := _) (v := .pointer (some ⟨gj, 0, none⟩)) rfl (by kernel_rfl) (by kernel_rfl) (by kernel_rfl) (fun _ _ _ h => h) (Or.inl ⟨by rfl, fun w' hSw => by obtain ⟨z1, z2, z3, z4⟩ := hSw; go_simp⟩) hHeld ?_
                      (try simp only [Act.put, List.setIfInBounds_toArray, List.set_cons_zero, List.set_cons_succ, List.getElem_toArray, List.getElem_cons_zero, List.getElem_cons_succ])
                      refine wpAnyH_take (i := 12) (oi := _) (v := .agg #[.int .i64 1, .int .i64 1]) rfl (by kernel_rfl) (by kernel_rfl) (by kernel_rfl) (fun _ _ _ h => h) (Or.inl ⟨by rfl, fun w' hSw => by obtain ⟨z1, z2, z3, z4⟩ := hSw; have b0 := (row_cells z3 0).1; have b1 := (row_cells z3 1).1; simp only [List.getElem?_toArray, List.getElem?_cons_succ, List.getElem?_cons_zero] at b0 b1; go_simp⟩) hHeld ?_
                      (try simp only [Act.put, List.setIfInBounds_toArray, List.set_cons_zero, List.set_cons_succ, List.getElem_toArray, List.getElem_cons_zero, List.getElem_cons_succ])
                      refine wpAnyH_take (i := 13) (oi := _) (v := .int .i64 (Y : Int)) rfl (by kernel_rfl) (by kernel_rfl) (by kernel_rfl) (fun _ _ _ h => h) (Or.inl ⟨by rfl, fun w' hSw => by go_simp⟩) hHeld ?_
                      (try simp only [Act.put, List.setIfInBounds_toArray, List.set_cons_zero, List.set_cons_succ, List.getElem_toArray, List.getElem_cons_zero, List.getElem_cons_succ])
                      refine wpAnyH_take (i := 14) (oi := _) (v := .pointer (some ⟨cb, Y, none⟩)) rfl (by kernel_rfl) (by kernel_rfl) (by kernel_rfl) (fun _ _ _ h => h) (Or.inl ⟨by rfl, fun w' hSw => by go_simp⟩) hHeld ?_
                      (try simp only [Act.put, List.setIfInBounds_toArray, List.set_cons_zero, List.set_cons_succ, List.getElem_toArray, List.getElem_cons_zero, List.getElem_cons_succ])
                      refine wpAnyH_take (i := 15) (oi := _) (v := .int .i64 ny) rfl (by kernel_rfl) (by kernel_rfl) (by kernel_rfl) (fun _ _ _ h => h) (Or.inl ⟨by rfl, fun w' hSw => by obtain ⟨z1, z2, z3, z4⟩ := hSw; go_simp⟩) hHeld ?_
                      (try simp only [Act.put, List.setIfInBounds_toArray, List.set_cons_zero, List.set_cons_succ, List.getElem_toArray, List.getElem_cons_zero, List.getElem_cons_succ])
                      refine wpAnyH_ready (rs := [16]) (by kernel_rfl) (by simp) ?_
                      refine AllReadyH.cons (o := _) rfl (fun K hK => ?_) AllReadyH.nil
                      (try simp only [List.getElem_toArray, List.getElem_cons_zero, List.getElem_cons_succ])
                      go_simp
                      refine HGD.out.mono ?_
                      rintro e w6 ⟨rfl, g6, k6⟩
                      go_wp2_with fail
                      have g6' := HGJE.out ▸ g6
                      have k6' := HGJE.out ▸ k6
                      have hst := (HI5.out.below (Below.refl _ wr).drew).stepG HJG.out g6' k6'
                      have hbp6 : w6.heap[bp]? = some (.cells pc.cells.toArray 70 (0, 0)) := (k6.block bp (lt_of_block HBP.out) (two_kinds HBP.out HGJ.out.2.blk (by decide))).trans HBP.out
                      have hcl6 := clv_at hst.cl HY4.out
                      rw [HNY.out] at hcl6
                      have hp6 := (k6.cell (k := bp) (i := 6) (lt_of_block HBP.out) (two_kinds HBP.out HGJ.out.2.blk (by decide))).trans HP6.out
                      obtain ⟨gb', ⟨cv', ev⟩, hgc6⟩ := hst.at_ HJG.out
                      injection ev with ev1 ev2 ev3
                      injection ev1 with ev1
                      injection ev1 with ev1 _ _
                      subst ev1
                      clear ev2 ev3
                      rw [HGJE.out] at hgc6
                      have HST := hide hst
                      have HB6 := hide hbp6
                      have hbi6 := hst.bi
                      clear hst g6 g6' k6 k6' hbp6
                      refine hK.out _ _ (⟨hp6, hgc6, hbi6, hcl6⟩) (fun hHeld => ?_)
                      clear hK
                      (try simp only [Act.put, List.setIfInBounds_toArray, List.set_cons_zero, List.set_cons_succ, List.getElem_toArray, List.getElem_cons_zero, List.getElem_cons_succ])
                      refine wpAnyH_take (i := 17) (oi := _) (v := .bool true) rfl (by kernel_rfl) (by kernel_rfl) (by kernel_rfl) (fun _ _ _ h => h) (Or.inl ⟨by rfl, fun w' hSw => by go_simp⟩) hHeld ?_
                      (try simp only [Act.put, List.setIfInBounds_toArray, List.set_cons_zero, List.set_cons_succ, List.getElem_toArray, List.getElem_cons_zero, List.getElem_cons_succ])
                      refine wpAnyH_take (i := 18) (oi := _) (v := .bool true) rfl (by kernel_rfl) (by kernel_rfl) (by kernel_rfl) (fun _ _ _ h => h) (Or.inl ⟨by rfl, fun w' hSw => by go_simp⟩) hHeld ?_
                      (try simp only [Act.put, List.setIfInBounds_toArray, List.set_cons_zero, List.set_cons_succ, List.getElem_toArray, List.getElem_cons_zero, List.getElem_cons_succ])
                      refine wpAnyH_take (i := 19) (oi := _) (v := .pointer (some ⟨bp, 6, none⟩)) rfl (by kernel_rfl) (by kernel_rfl) (by kernel_rfl) (fun _ _ _ h => h) (Or.inl ⟨by rfl, fun w' hSw => by go_simp⟩) hHeld ?_
                      (try simp only [Act.put, List.setIfInBounds_toArray, List.set_cons_zero, List.set_cons_succ, List.getElem_toArray, List.getElem_cons_zero, List.getElem_cons_succ])
                      refine wpAnyH_take (i := 20) (oi := _) (v := .bool false) rfl (by kernel_rfl) (by kernel_rfl) (by kernel_rfl) (fun _ _ _ h => h) (Or.inl ⟨by rfl, fun w' hSw => by obtain ⟨z1, z2, z3, z4⟩ := hSw; go_simp⟩) hHeld ?_
                      (try simp only [Act.put, List.setIfInBounds_toArray, List.set_cons_zero, List.set_cons_succ, List.getElem_toArray, List.getElem_cons_zero, List.getElem_cons_succ])
                      refine wpAnyH_take (i := 21) (oi := _) (v := .bool true) rfl (by kernel_rfl) (by kernel_rfl) (by kernel_rfl) (fun _ _ _ h => h) (Or.inl ⟨by rfl, fun w' hSw => by go_simp⟩) hHeld ?_
                      (try simp only [Act.put, List.setIfInBounds_toArray, List.set_cons_zero, List.set_cons_succ, List.getElem_toArray, List.getElem_cons_zero, List.getElem_cons_succ])
                      refine wpAnyH_take (i := 22) (oi := _) (v := .bool true) rfl (by kernel_rfl) (by kernel_rfl) (by kernel_rfl) (fun _ _ _ h => h) (Or.inl ⟨by rfl, fun w' hSw => by go_simp⟩) hHeld ?_
                      (try simp only [Act.put, List.setIfInBounds_toArray, List.set_cons_zero, List.set_cons_succ, List.getElem_toArray, List.getElem_cons_zero, List.getElem_cons_succ])
                      refine wpAnyH_done (by kernel_rfl) ?_ _
                      clear hp6 hgc6 hbi6 hcl6
                      go_wp2_with fail
                      go_meet
                      exact ⟨true, _, rfl, HPG2, HST, HB6, hide (fun _ => ⟨j, by have := HJ.out; have := HY4.out; omega, by have := HJ.out; omega, by
                        show (if j = j then G2 else S j).since = _ ∧ (if j = j then G2 else S j).st = true
                        rw [if_pos rfl, HEG.out, ← HNY.out, HJ.out]
                        exact ⟨rfl, rfl⟩⟩)⟩
                    case rest =>
                      obtain ⟨res, S2, rfl, HP3, HI3, HB3, HRES⟩ := hcut
                      clear HP2 HP HI5 HBP
                      cases res
                      · clear HRES HXY
                        obtain ⟨bb, hbb⟩ : ∃ bb : Nat → Bool, (fun z => ((S2 z).look (c2 (z + 1))).bars 2 2) = bb := ⟨_, rfl⟩
                        have HBB := hide (fun z => congrFun hbb z)
                        clear hbb
                        have hfr := OwnI.new wc [] wc.heap.size wc.heap.size rfl (Nat.le_refl _) (by simp)
                        have HMS := hide (fun j hj => (HI3.out.h.ms.lt j hj).2)
                        have HFB := hide HI3.out.bel.size
                        have hfz : wc.heap.size ≤ (wc.alloc (.cells (icells []) 3)).heap.size := by simp
                        have HFZ := hide hfz
                        clear hfz
                        have hia := (Below.refl _ wc).alloc (Nat.le_refl _) (.cells (icells []) 3)
                        have HI4 := hide (HI3.out.below hia)
                        have HB4 := hide ((hia.block _ (lt_of_block HB3.out)).trans HB3.out)
                        have HF4 := hide hfr
                        clear hfr hia
                        go_upto_region 34 with fail
                        generalize hwz : wc.alloc (.cells #[] 3) = wz at *
                        have HI4 : Hid (LSI w gs (.slice (some ⟨gb, 0, none⟩) 3 c10) S2 g A n c mb q cb c2 bi bv wz) := hwz ▸ HI4
                        have HB4 : Hid (wz.heap[bp]? = some (.cells pc.cells.toArray 70 (0, 0))) := hwz ▸ HB4
                        have HF4 : Hid (OwnI wz wc.heap.size (.slice (some ⟨wc.heap.size, 0, none⟩) 0 0) []) := hwz ▸ HF4
                        have HFZ : Hid (wc.heap.size ≤ wz.heap.size) := hwz ▸ HFZ
                        clear hwz HI3 HB3
                        generalize wc.heap.size = fb at *
                        go_wp2_with fail
                        go_loopw [19, 20] (fun s19 s20 wx => ∃ (y Y : Nat), Y = y + 1 ∧ y ≤ 3 ∧ s20 = .int .i64 (Y : Int) ∧ Hid (LSI w gs (.slice (some ⟨gb, 0, none⟩) 3 c10) (fun z => if z < y then (S2 z).look (c2 (z + 1)) else S2 z) g A n c mb q cb c2 bi bv wx) ∧ Hid (wx.heap[bp]? = some (.cells pc.cells.toArray 70 (0, 0))) ∧ Hid (OwnI wx fb s19 (freeL bb y)) ∧ Hid (fb ≤ wx.heap.size)) (fun _ s20 _ => 4 - (intOf s20).toNat)
                        case atStart => exact ⟨0, 1, rfl, by omega, rfl, hide (HI4.out.congr (fun z _ => by simp)), HB4, HF4, HFZ⟩
                        case round =>
                          clear HI4 HB4 HF4 HFZ
                          obtain ⟨y, Y, hY, hy, rfl, HI, HBP, HF, HFZ⟩ := hrel
                          have HY := hide hY
                          by_cases hy3 : y < 3
                          · have hYl : (Y : Int) ≤ 3 := by omega
                            have hY4 : Hid (Y < 4) := hide (by omega)
                            have hyg : y < (gs : List Nat).length := by rw [HGL.out]; exact hy3
                            have vw : IntKind.i64.wrap ((Y : Int) - 1) = (y : Int) := by rw [IntWalk.i64_in _ (by omega)]; omega
                            have hyl : (y : Int) < 3 := by omega
                            have hy0i : (0 : Int) ≤ (y : Int) := by omega
                            have hY0 : 0 < Y := by omega
                            have hYl4 : (Y : Int) < 4 := by omega
                            obtain ⟨gb', ⟨cv, ev⟩, hgc⟩ := HI.out.at_ hyg
                            injection ev with ev1 ev2 ev3
                            injection ev1 with ev1
                            injection ev1 with ev1 _ _
                            subst ev1
                            clear ev2 ev3
                            have hcc := clv_at HI.out.cl hY4.out
                            obtain ⟨hg0, hGj⟩ := HI.out.gr y hyg
                            rw [if_neg (Nat.lt_irrefl y)] at hGj
                            have hin := HP3.out.c Y hY4.out
                            have hgr := gbars_any (hGj.below (Below.refl _ wr).drew) 2 2 (c2 Y) (by unfold In64'; omega)
                            have hbv := HBB.out y
                            rw [show y + 1 = Y from hY.symm] at hbv
                            rw [hbv] at hgr
                            obtain ⟨vb, hvb⟩ : ∃ b, bb y = b := ⟨_, rfl⟩
                            rw [hvb] at hgr
                            have HVB := hide hvb
                            obtain ⟨G2, hG2⟩ : ∃ G2, (S2 y).look (c2 Y) = G2 := ⟨_, rfl⟩
                            rw [hG2] at hgr
                            have HG2 := hide hG2
                            have HGR := hide hgr
                            obtain ⟨gj, hgj⟩ : ∃ x : Nat, gs[y]'hyg = x := ⟨_, rfl⟩
                            have HGJ := hide hGj
                            have HGJE := hide hgj
                            rw [hgj] at hgc HGR
                            obtain ⟨ny, hny⟩ : ∃ x, c2 Y = x := ⟨_, rfl⟩
                            rw [hny] at hcc HGR
                            have HNY := hide hny
                            have HGC := hide hgc
                            have HCC := hide hcc
                            have HBV := hide HI.out.bv
                            clear hgc hcc hg0 hGj hin hgr hbv hvb hG2 hgj hny hY
                            go_wp2_with fail
                            refine wp_region_held_drew (S := fun W => W.cell? ⟨gb, y, none⟩ = some (.pointer (some ⟨gj, 0, none⟩)) ∧ W.heap[bv]? = some (.cells #[.int .i64 2, .int .i64 2] 46 (0, 0)) ∧ W.cell? ⟨cb, Y, none⟩ = some (.int .i64 ny)) (by kernel_rfl) (⟨HGC.out, HBV.out, HCC.out⟩) (fun hHeld => ?_)
                            refine wpAnyH_take (i := 0) (oi := _) (v := .slice (some ⟨gb, 0, none⟩) 3 c10) rfl (by kernel_rfl) (by kernel_rfl) (by kernel_rfl) (fun _ _ _ h => h) (Or.inl ⟨by rfl, fun w' hSw => by go_simp⟩) hHeld ?_
                            (try simp only [Act.put, List.setIfInBounds_toArray, List.set_cons_zero, List.set_cons_succ, List.getElem_toArray, List.getElem_cons_zero, List.getElem_cons_succ])
                            refine wpAnyH_take (i := 1) (oi := _) (v := .int .i64 (Y : Int)) rfl (by kernel_rfl) (by kernel_rfl) (by kernel_rfl) (fun _ _ _ h => h) (Or.inl ⟨by rfl, fun w' hSw => by go_simp⟩) hHeld ?_
                            (try simp only [Act.put, List.setIfInBounds_toArray, List.set_cons_zero, List.set_cons_succ, List.getElem_toArray, List.getElem_cons_zero, List.getElem_cons_succ])
                            refine wpAnyH_take (i := 2) (oi := _) (v := .int .i64 (y : Int)) rfl (by kernel_rfl) (by kernel_rfl) (by kernel_rfl) (fun _ _ _ h => h) (Or.inl ⟨by rfl, fun w' hSw => by go_simp⟩) hHeld ?_
                            (try simp only [Act.put, List.setIfInBounds_toArray, List.set_cons_zero, List.set_cons_succ, List.getElem_toArray, List.getElem_cons_zero, List.getElem_cons_succ])
                            refine wpAnyH_take (i := 3) (oi := _) (v := .pointer (some ⟨gb, y, none⟩)) rfl (by kernel_rfl) (by kernel_rfl) (by kernel_rfl) (fun _ _ _ h => h) (Or.inl ⟨by rfl, fun w' hSw => by go_simp⟩) hHeld ?_
                            (try simp only [Act.put, List.setIfInBounds_toArray, List.set_cons_zero, List.set_cons_succ, List.getElem_toArray, List.getElem_cons_zero, List.getElem_cons_succ])
                            refine wpAnyH_take (i := 4) (oi := _) (v := .pointer (some ⟨gj, 0, none⟩)) rfl (by kernel_rfl) (by kernel_rfl) (by kernel_rfl) (fun _ _ _ h => h) (Or.inl ⟨by rfl, fun w' hSw => by obtain ⟨z2, z3, z4⟩ := hSw; go_simp⟩) hHeld ?_
                            (try simp only [Act.put, List.setIfInBounds_toArray, List.set_cons_zero, List.set_cons_succ, List.getElem_toArray, List.getElem_cons_zero, List.getElem_cons_succ])
                            refine wpAnyH_take (i := 5) (oi := _) (v := .agg #[.int .i64 2, .int .i64 2]) rfl (by kernel_rfl) (by kernel_rfl) (by kernel_rfl) (fun _ _ _ h => h) (Or.inl ⟨by rfl, fun w' hSw => by obtain ⟨z2, z3, z4⟩ := hSw; have b0 := (row_cells z3 0).1; have b1 := (row_cells z3 1).1; simp only [List.getElem?_toArray, List.getElem?_cons_succ, List.getElem?_cons_zero] at b0 b1; go_simp⟩) hHeld ?_
                            (try simp only [Act.put, List.setIfInBounds_toArray, List.set_cons_zero, List.set_cons_succ, List.getElem_toArray, List.getElem_cons_zero, List.getElem_cons_succ])
                            refine wpAnyH_take (i := 6) (oi := _) (v := .int .i64 (Y : Int)) rfl (by kernel_rfl) (by kernel_rfl) (by kernel_rfl) (fun _ _ _ h => h) (Or.inl ⟨by rfl, fun w' hSw => by go_simp⟩) hHeld ?_
                            (try simp only [Act.put, List.setIfInBounds_toArray, List.set_cons_zero, List.set_cons_succ, List.getElem_toArray, List.getElem_cons_zero, List.getElem_cons_succ])
                            refine wpAnyH_take (i := 7) (oi := _) (v := .pointer (some ⟨cb, Y, none⟩)) rfl (by kernel_rfl) (by kernel_rfl) (by kernel_rfl) (fun _ _ _ h => h) (Or.inl ⟨by rfl, fun w' hSw => by go_simp⟩) hHeld ?_
                            (try simp only [Act.put, List.setIfInBounds_toArray, List.set_cons_zero, List.set_cons_succ, List.getElem_toArray, List.getElem_cons_zero, List.getElem_cons_succ])
                            refine wpAnyH_take (i := 8) (oi := _) (v := .int .i64 ny) rfl (by kernel_rfl) (by kernel_rfl) (by kernel_rfl) (fun _ _ _ h => h) (Or.inl ⟨by rfl, fun w' hSw => by obtain ⟨z2, z3, z4⟩ := hSw; go_simp⟩) hHeld ?_
                            (try simp only [Act.put, List.setIfInBounds_toArray, List.set_cons_zero, List.set_cons_succ, List.getElem_toArray, List.getElem_cons_zero, List.getElem_cons_succ])
                            refine wpAnyH_ready (rs := [9]) (by kernel_rfl) (by simp) ?_
                            refine AllReadyH.cons (o := _) rfl (fun K hK => ?_) AllReadyH.nil
                            (try simp only [List.getElem_toArray, List.getElem_cons_zero, List.getElem_cons_succ])
                            go_simp
                            refine HGR.out.mono ?_
                            rintro e w6 ⟨rfl, g6, k6⟩
                            go_wp2_with fail
                            have g6' := HGJE.out ▸ g6
                            have k6' := HGJE.out ▸ k6
                            have hst := (HI.out.below (Below.refl _ wr).drew).stepG hyg g6' k6'
                            have hgb6 := HGJ.out.blk
                            rw [HGJE.out] at hgb6
                            have hbp6 : w6.heap[bp]? = some (.cells pc.cells.toArray 70 (0, 0)) := (k6.block bp (lt_of_block HBP.out) (two_kinds HBP.out hgb6 (by decide))).trans HBP.out
                            have hf6 := (HF.out.below (Below.refl _ wr).drew).keep (w' := w6) fun j hj => k6.block j (HF.out.lt j hj).2 (fun e => ownI_ne HF.out hgb6 (by decide) (by rw [← e]; exact hj))
                            have hcl6 := clv_at hst.cl hY4.out
                            rw [HNY.out] at hcl6
                            obtain ⟨gb', ⟨cv', ev⟩, hgc6⟩ := hst.at_ hyg
                            injection ev with ev1 ev2 ev3
                            injection ev1 with ev1
                            injection ev1 with ev1 _ _
                            subst ev1
                            clear ev2 ev3
                            rw [HGJE.out] at hgc6
                            have hbv6 := hst.bv
                            have hst' := hst.congr (S' := fun z => if z < y + 1 then (S2 z).look (c2 (z + 1)) else S2 z) (fun z _ => by
                              by_cases e : z = y
                              · rw [if_pos e, if_pos (by omega), e, ← HG2.out, HY.out]
                              · rw [if_neg e]
                                by_cases e2 : z < y
                                · rw [if_pos e2, if_pos (by omega)]
                                · rw [if_neg e2, if_neg (by omega)])
                            have HST := hide hst'
                            have HB6 := hide hbp6
                            have HF6 := hide hf6
                            have hz6 : fb ≤ w6.heap.size := Nat.le_trans HFZ.out k6.size
                            have HZ6 := hide hz6
                            clear hst hst' g6 g6' k6 k6' hbp6 hf6 hgb6 hz6
                            refine hK.out _ _ (⟨hgc6, hbv6, hcl6⟩) (fun hHeld => ?_)
                            clear hK
                            (try simp only [Act.put, List.setIfInBounds_toArray, List.set_cons_zero, List.set_cons_succ, List.getElem_toArray, List.getElem_cons_zero, List.getElem_cons_succ])
                            refine wpAnyH_take (i := 10) (oi := _) (v := .bool (!vb)) rfl (by kernel_rfl) (by kernel_rfl) (by kernel_rfl) (fun _ _ _ h => h) (Or.inl ⟨by rfl, fun w' hSw => by go_simp⟩) hHeld ?_
                            (try simp only [Act.put, List.setIfInBounds_toArray, List.set_cons_zero, List.set_cons_succ, List.getElem_toArray, List.getElem_cons_zero, List.getElem_cons_succ])
                            refine wpAnyH_done (by kernel_rfl) ?_ _
                            clear hgc6 hbv6 hcl6
                            cases vb
                            · have HFR : Hid (freeL bb (y + 1) = freeL bb y ++ [(Y : Int)]) := hide (by
                                show freeL bb y ++ (if bb y = true then [] else [(y : Int) + 1]) = _
                                rw [HVB.out, if_neg (by simp), HY.out]
                                rfl)
                              have hone : HasI (w6.alloc (.cells (icells [(Y : Int)]) 3)) (w6.heap.size + 1) (some ⟨w6.heap.size, 0, none⟩) [(Y : Int)] := HasI.new w6 3 [(Y : Int)] (0, 0) w6.heap.size rfl
                              have hba := (Below.refl _ w6).alloc (Nat.le_refl _) (.cells (icells [(Y : Int)]) 3)
                              have hic : icells [(Y : Int)] = #[.int .i64 (Y : Int)] := rfl
                              rw [hic] at hone hba
                              have HIA := hide (HST.out.below hba)
                              have HBA := hide ((hba.block _ (lt_of_block HB6.out)).trans HB6.out)
                              have HFA := hide (HF6.out.below hba)
                              have HSA := hide (Nat.le_trans HZ6.out hba.size)
                              have HLN : Hid ((freeL bb y).length + 1 ≤ 17592186044416) := hide (by have := freeL_len bb y; omega)
                              clear hic hba
                              go_wp2_with (first
                                | (refine list_append_ints5 _ rfl (.tmp 140) (.tmp 142) rfl fb u19 (freeL bb y) rfl HFA.out _ _ 1 1 [(Y : Int)] rfl hone rfl HLN.out HSA.out ?_; intro v7 w7 ho7 hg7 _; have HO7 := hide ho7; have HG7 := hide hg7; clear ho7 hg7)
                                | fail)
                              have hkg : Kept (fun j => u19.ownBlock = some j) _ w7 := Kept.of_grown (F := fun j => u19.ownBlock = some j) HG7.out (fun j hj => hj)
                              have HI7 := hide (HIA.out.stepF HFA.out hkg HFB.out HMS.out)
                              have HB7 := hide ((hkg.block _ (lt_of_block HBA.out) (fun e => ownI_ne HFA.out HBA.out (by decide) e)).trans HBA.out)
                              have HZ7 := hide (Nat.le_trans HSA.out hkg.size)
                              clear hkg
                              go_roundw
                              case rel => exact ⟨y + 1, Y + 1, by rw [HY.out], by omega, by go_num, HI7, HB7, by rw [HFR.out]; exact HO7, HZ7⟩
                              case measure => simp [intOf]; omega
                            · have HFR : Hid (freeL bb (y + 1) = freeL bb y) := hide (by
                                show freeL bb y ++ (if bb y = true then [] else [(y : Int) + 1]) = _
                                rw [HVB.out, if_pos rfl]
                                exact List.append_nil _)
                              go_wp2_with fail
                              go_roundw
                              case rel => exact ⟨y + 1, Y + 1, by rw [HY.out], by omega, by go_num, HST, HB6, by rw [HFR.out]; exact HF6, HZ6⟩
                              case measure => simp [intOf]; omega
                          · have hy3' : y = 3 := by omega
                            have hYl : ¬ (Y : Int) ≤ 3 := by omega
                            have dY : decide ((Y : Int) ≤ 3) = false := decide_eq_false hYl
                            have hF := HF.out
                            rw [hy3'] at hF
                            obtain ⟨A9, n9, c9, rfl, hn9, _, hx9⟩ := hF.form
                            have hpl := HP3.out.look y
                            have HPL := hide hpl
                            have hc0 := clv_at HI.out.cl (k := 0) (by omega)
                            have hvl := hvalid_any HI.out.h (c2 0) (by have := HP3.out.c 0 (by omega); unfold In64'; omega)
                            obtain ⟨vv, hvv⟩ : ∃ vv, q.valid (c2 0) = vv := ⟨_, rfl⟩
                            rw [hvv] at hvl
                            have hsafe : vv = true → enB [1, 2, 3] (freeL bb 3) = false := fun e => by
                              rw [e] at hvv
                              unfold Hd.valid at hvv
                              rw [HQ.out.1] at hvv
                              exact no_both (fun j hj ho => by rw [← HBB.out j]; exact HP3.out.safe r0 (by omega) HQ.out.2 hj ho) hvv
                            have HSF := hide hsafe
                            have HVL := hide hvl
                            have HF9 := hide hF
                            have HN9 := hide hn9.out
                            have hl9 := freeL_len bb 3
                            have HL9 : Hid (n9 ≤ 3) := hide (by have := hn9.out; omega)
                            obtain ⟨_, _, _, _, p7⟩ := pc_cells HBP.out
                            clear hF hn9 hx9 hpl hvl hvv hsafe hl9 hYl hy3 HF hY
                            generalize (Y : Int) = Y4 at *
                            go_wp2_with fail
                            refine HVL.out.mono ?_
                            rintro e w5 ⟨rfl, hb5⟩
                            have HI6 := hide (HI.out.below hb5)
                            have HB6 := hide ((hb5.block _ (lt_of_block HBP.out)).trans HBP.out)
                            have HF6 := hide (HF9.out.below hb5)
                            clear hb5 hc0 p7
                            cases vv
                            · obtain ⟨_, _, _, _, p7⟩ := pc_cells HB6.out
                              obtain ⟨rv, hrv⟩ : ∃ x, pc.rv = x := ⟨_, rfl⟩
                              rw [hrv] at p7
                              obtain ⟨m7, hm7, _, _⟩ : ∃ x, bits .and .i64 rv 7 = x ∧ 0 ≤ x ∧ x < 8 := mask_lt rv 3 (by omega)
                              clear hrv
                              go_wp2_with fail
                              all_goals go_roundw
                              all_goals first
                                | exact ⟨k + 1, _, _, q, c2, rfl, by go_num, by omega, by omega, HQ, HPL, HI6⟩
                                | (simp [intOf]; omega)
                            · have hen := HSF.out rfl
                              have hm1 := HasI.new w5 3 [1, 2, 3] (0, 0) w5.heap.size rfl
                              have hic : icells [1, 2, 3] = #[.int .i64 1, .int .i64 2, .int .i64 3] := rfl
                              rw [hic] at hm1
                              have hb6 := (Below.refl _ w5).alloc (Nat.le_refl _) (.cells #[.int .i64 1, .int .i64 2, .int .i64 3] 3)
                              have HI7 := hide (HI6.out.below hb6)
                              have HB7 := hide ((hb6.block _ (lt_of_block HB6.out)).trans HB6.out)
                              have hx7 := (own_len (HF6.out.below hb6)).1
                              have hre := renough_any (some ⟨w5.heap.size, 0, none⟩) A9 3 n9 3 c9 (w5.heap.size + 1) _ [1, 2, 3] (freeL bb 3) _ hm1 hx7 rfl HN9.out (by omega) (by have := HL9.out; omega)
                              rw [hen] at hre
                              clear hen hm1 hic hb6 hx7
                              obtain ⟨_, _, _, _, p7⟩ := pc_cells HB7.out
                              obtain ⟨rv, hrv⟩ : ∃ x, pc.rv = x := ⟨_, rfl⟩
                              rw [hrv] at p7
                              obtain ⟨m7, hm7, _, _⟩ : ∃ x, bits .and .i64 rv 7 = x ∧ 0 ≤ x ∧ x < 8 := mask_lt rv 3 (by omega)
                              clear hrv
                              go_wp2_with fail
                              refine hre.mono ?_
                              rintro e _ ⟨rfl, rfl⟩
                              go_wp2_with fail
                              all_goals go_roundw
                              all_goals first
                                | exact ⟨k + 1, _, _, q, c2, rfl, by go_num, by omega, by omega, HQ, HPL, HI7⟩
                                | (simp [intOf]; omega)
                      obtain ⟨j, hj3, hxj, hs1, hs2⟩ := HRES.out rfl
                      have HJ3 := hide hj3
                      have HXJ := hide hxj
                      have HSS := hide (And.intro hs1 hs2)
                      have hc0 := clv_at HI3.out.cl (k := 0) (by omega)
                      have hwx : (Lit.int .i64 x).wf = true := by rw [hxj]; rcases (show j = 0 ∨ j = 1 ∨ j = 2 by omega) with h | h | h <;> rw [h] <;> rfl
                      have hin3 : x ∈ q.ms := by rw [HQ.out.1, hxj]; rcases (show j = 0 ∨ j = 1 ∨ j = 2 by omega) with h | h | h <;> rw [h] <;> simp
                      have hgt := hgranted_any HI3.out.h x (c2 0) hwx (by have := HP3.out.c 0 (by omega); unfold In64'; omega)
                      have hgs2 := granted_same q x (c2 0)
                      have hf2 : ∀ z, (q.granted x (c2 0)).1.f z = if z = (j : Int) + 1 then some (match q.f ((j : Int) + 1) with | none => c2 0 | some t => max t (c2 0)) else q.f z := fun z => by
                        have e : q.granted x (c2 0) = ({ q with f := fun z => if z = x then some (match q.f x with | none => c2 0 | some t => max t (c2 0)) else q.f z }, true) := if_pos hin3
                        rw [e, hxj]
                      have hph := HP3.out.heard (j := j) ⟨hs1, hs2⟩ r0 (by omega) hf2
                      have HPH := hide hph
                      have HQ2 : Hid ((q.granted x (c2 0)).1.ms = [1, 2, 3] ∧ (q.granted x (c2 0)).1.hold * (1000 + r) ≤ L * (1000 - r)) := hide (by rw [hgs2.1, hgs2.2]; exact HQ.out)
                      generalize (q.granted x (c2 0)).1 = q2 at *
                      generalize (q.granted x (c2 0)).2 = vb at *
                      clear hgs2 hin3 hf2 hph hj3 hxj hs1 hs2 hwx
                      go_wp2_with fail
                      refine hgt.mono ?_
                      rintro e w7 ⟨rfl, h7, k7⟩
                      have hst7 := HI3.out.stepH h7 k7
                      have hbp7 := (k7.block bp (lt_of_block HB3.out) (map_box HI3.out.h.map HB3.out)).trans HB3.out
                      clear HI3 HB3 HP3 HQ
                      have HI3 := hide hst7
                      have HB3 := hide hbp7
                      have HP3 := HPH
                      clear hst7 hbp7 h7 k7 hgt HPH hc0
                      clear HRES HXY
                      obtain ⟨bb, hbb⟩ : ∃ bb : Nat → Bool, (fun z => ((S2 z).look (c2 (z + 1))).bars 2 2) = bb := ⟨_, rfl⟩
                      have HBB := hide (fun z => congrFun hbb z)
                      clear hbb
                      have hfr := OwnI.new w7 [] w7.heap.size w7.heap.size rfl (Nat.le_refl _) (by simp)
                      have HMS := hide (fun j hj => (HI3.out.h.ms.lt j hj).2)
                      have HFB := hide HI3.out.bel.size
                      have hfz : w7.heap.size ≤ (w7.alloc (.cells (icells []) 3)).heap.size := by simp
                      have HFZ := hide hfz
                      clear hfz
                      have hia := (Below.refl _ w7).alloc (Nat.le_refl _) (.cells (icells []) 3)
                      have HI4 := hide (HI3.out.below hia)
                      have HB4 := hide ((hia.block _ (lt_of_block HB3.out)).trans HB3.out)
                      have HF4 := hide hfr
                      clear hfr hia
                      go_upto_region 34 with fail
                      generalize hwz : w7.alloc (.cells #[] 3) = wz at *
                      have HI4 : Hid (LSI w gs (.slice (some ⟨gb, 0, none⟩) 3 c10) S2 g A n c mb q2 cb c2 bi bv wz) := hwz ▸ HI4
                      have HB4 : Hid (wz.heap[bp]? = some (.cells pc.cells.toArray 70 (0, 0))) := hwz ▸ HB4
                      have HF4 : Hid (OwnI wz w7.heap.size (.slice (some ⟨w7.heap.size, 0, none⟩) 0 0) []) := hwz ▸ HF4
                      have HFZ : Hid (w7.heap.size ≤ wz.heap.size) := hwz ▸ HFZ
                      clear hwz HI3 HB3
                      generalize w7.heap.size = fb at *
                      go_wp2_with fail
                      go_loopw [19, 20] (fun s19 s20 wx => ∃ (y Y : Nat), Y = y + 1 ∧ y ≤ 3 ∧ s20 = .int .i64 (Y : Int) ∧ Hid (LSI w gs (.slice (some ⟨gb, 0, none⟩) 3 c10) (fun z => if z < y then (S2 z).look (c2 (z + 1)) else S2 z) g A n c mb q2 cb c2 bi bv wx) ∧ Hid (wx.heap[bp]? = some (.cells pc.cells.toArray 70 (0, 0))) ∧ Hid (OwnI wx fb s19 (freeL bb y)) ∧ Hid (fb ≤ wx.heap.size)) (fun _ s20 _ => 4 - (intOf s20).toNat)
                      case atStart => exact ⟨0, 1, rfl, by omega, rfl, hide (HI4.out.congr (fun z _ => by simp)), HB4, HF4, HFZ⟩
                      case round =>
                        clear HI4 HB4 HF4 HFZ
                        obtain ⟨y, Y, hY, hy, rfl, HI, HBP, HF, HFZ⟩ := hrel
                        have HY := hide hY
                        by_cases hy3 : y < 3
                        · have hYl : (Y : Int) ≤ 3 := by omega
                          have hY4 : Hid (Y < 4) := hide (by omega)
                          have hyg : y < (gs : List Nat).length := by rw [HGL.out]; exact hy3
                          have vw : IntKind.i64.wrap ((Y : Int) - 1) = (y : Int) := by rw [IntWalk.i64_in _ (by omega)]; omega
                          have hyl : (y : Int) < 3 := by omega
                          have hy0i : (0 : Int) ≤ (y : Int) := by omega
                          have hY0 : 0 < Y := by omega
                          have hYl4 : (Y : Int) < 4 := by omega
                          obtain ⟨gb', ⟨cv, ev⟩, hgc⟩ := HI.out.at_ hyg
                          injection ev with ev1 ev2 ev3
                          injection ev1 with ev1
                          injection ev1 with ev1 _ _
                          subst ev1
                          clear ev2 ev3
                          have hcc := clv_at HI.out.cl hY4.out
                          obtain ⟨hg0, hGj⟩ := HI.out.gr y hyg
                          rw [if_neg (Nat.lt_irrefl y)] at hGj
                          have hin := HP3.out.c Y hY4.out
                          have hgr := gbars_any (hGj.below (Below.refl _ wr).drew) 2 2 (c2 Y) (by unfold In64'; omega)
                          have hbv := HBB.out y
                          rw [show y + 1 = Y from hY.symm] at hbv
                          rw [hbv] at hgr
                          obtain ⟨vb, hvb⟩ : ∃ b, bb y = b := ⟨_, rfl⟩
                          rw [hvb] at hgr
                          have HVB := hide hvb
                          obtain ⟨G2, hG2⟩ : ∃ G2, (S2 y).look (c2 Y) = G2 := ⟨_, rfl⟩
                          rw [hG2] at hgr
                          have HG2 := hide hG2
                          have HGR := hide hgr
                          obtain ⟨gj, hgj⟩ : ∃ x : Nat, gs[y]'hyg = x := ⟨_, rfl⟩
                          have HGJ := hide hGj
                          have HGJE := hide hgj
                          rw [hgj] at hgc HGR
                          obtain ⟨ny, hny⟩ : ∃ x, c2 Y = x := ⟨_, rfl⟩
                          rw [hny] at hcc HGR
                          have HNY := hide hny
                          have HGC := hide hgc
                          have HCC := hide hcc
                          have HBV := hide HI.out.bv
                          clear hgc hcc hg0 hGj hin hgr hbv hvb hG2 hgj hny hY
                          go_wp2_with fail
                          refine wp_region_held_drew (S := fun W => W.cell? ⟨gb, y, none⟩ = some (.pointer (some ⟨gj, 0, none⟩)) ∧ W.heap[bv]? = some (.cells #[.int .i64 2, .int .i64 2] 46 (0, 0)) ∧ W.cell? ⟨cb, Y, none⟩ = some (.int .i64 ny)) (by kernel_rfl) (⟨HGC.out, HBV.out, HCC.out⟩) (fun hHeld => ?_)
                          refine wpAnyH_take (i := 0) (oi := _) (v := .slice (some ⟨gb, 0, none⟩) 3 c10) rfl (by kernel_rfl) (by kernel_rfl) (by kernel_rfl) (fun _ _ _ h => h) (Or.inl ⟨by rfl, fun w' hSw => by go_simp⟩) hHeld ?_
                          (try simp only [Act.put, List.setIfInBounds_toArray, List.set_cons_zero, List.set_cons_succ, List.getElem_toArray, List.getElem_cons_zero, List.getElem_cons_succ])
                          refine wpAnyH_take (i := 1) (oi := _) (v := .int .i64 (Y : Int)) rfl (by kernel_rfl) (by kernel_rfl) (by kernel_rfl) (fun _ _ _ h => h) (Or.inl ⟨by rfl, fun w' hSw => by go_simp⟩) hHeld ?_
                          (try simp only [Act.put, List.setIfInBounds_toArray, List.set_cons_zero, List.set_cons_succ, List.getElem_toArray, List.getElem_cons_zero, List.getElem_cons_succ])
                          refine wpAnyH_take (i := 2) (oi := _) (v := .int .i64 (y : Int)) rfl (by kernel_rfl) (by kernel_rfl) (by kernel_rfl) (fun _ _ _ h => h) (Or.inl ⟨by rfl, fun w' hSw => by go_simp⟩) hHeld ?_
                          (try simp only [Act.put, List.setIfInBounds_toArray, List.set_cons_zero, List.set_cons_succ, List.getElem_toArray, List.getElem_cons_zero, List.getElem_cons_succ])
                          refine wpAnyH_take (i := 3) (oi := _) (v := .pointer (some ⟨gb, y, none⟩)) rfl (by kernel_rfl) (by kernel_rfl) (by kernel_rfl) (fun _ _ _ h => h) (Or.inl ⟨by rfl, fun w' hSw => by go_simp⟩) hHeld ?_
                          (try simp only [Act.put, List.setIfInBounds_toArray, List.set_cons_zero, List.set_cons_succ, List.getElem_toArray, List.getElem_cons_zero, List.getElem_cons_succ])
                          refine wpAnyH_take (i := 4) (oi := _) (v := .pointer (some ⟨gj, 0, none⟩)) rfl (by kernel_rfl) (by kernel_rfl) (by kernel_rfl) (fun _ _ _ h => h) (Or.inl ⟨by rfl, fun w' hSw => by obtain ⟨z2, z3, z4⟩ := hSw; go_simp⟩) hHeld ?_
                          (try simp only [Act.put, List.setIfInBounds_toArray, List.set_cons_zero, List.set_cons_succ, List.getElem_toArray, List.getElem_cons_zero, List.getElem_cons_succ])
                          refine wpAnyH_take (i := 5) (oi := _) (v := .agg #[.int .i64 2, .int .i64 2]) rfl (by kernel_rfl) (by kernel_rfl) (by kernel_rfl) (fun _ _ _ h => h) (Or.inl ⟨by rfl, fun w' hSw => by obtain ⟨z2, z3, z4⟩ := hSw; have b0 := (row_cells z3 0).1; have b1 := (row_cells z3 1).1; simp only [List.getElem?_toArray, List.getElem?_cons_succ, List.getElem?_cons_zero] at b0 b1; go_simp⟩) hHeld ?_
                          (try simp only [Act.put, List.setIfInBounds_toArray, List.set_cons_zero, List.set_cons_succ, List.getElem_toArray, List.getElem_cons_zero, List.getElem_cons_succ])
                          refine wpAnyH_take (i := 6) (oi := _) (v := .int .i64 (Y : Int)) rfl (by kernel_rfl) (by kernel_rfl) (by kernel_rfl) (fun _ _ _ h => h) (Or.inl ⟨by rfl, fun w' hSw => by go_simp⟩) hHeld ?_
                          (try simp only [Act.put, List.setIfInBounds_toArray, List.set_cons_zero, List.set_cons_succ, List.getElem_toArray, List.getElem_cons_zero, List.getElem_cons_succ])
                          refine wpAnyH_take (i := 7) (oi := _) (v := .pointer (some ⟨cb, Y, none⟩)) rfl (by kernel_rfl) (by kernel_rfl) (by kernel_rfl) (fun _ _ _ h => h) (Or.inl ⟨by rfl, fun w' hSw => by go_simp⟩) hHeld ?_
                          (try simp only [Act.put, List.setIfInBounds_toArray, List.set_cons_zero, List.set_cons_succ, List.getElem_toArray, List.getElem_cons_zero, List.getElem_cons_succ])
                          refine wpAnyH_take (i := 8) (oi := _) (v := .int .i64 ny) rfl (by kernel_rfl) (by kernel_rfl) (by kernel_rfl) (fun _ _ _ h => h) (Or.inl ⟨by rfl, fun w' hSw => by obtain ⟨z2, z3, z4⟩ := hSw; go_simp⟩) hHeld ?_
                          (try simp only [Act.put, List.setIfInBounds_toArray, List.set_cons_zero, List.set_cons_succ, List.getElem_toArray, List.getElem_cons_zero, List.getElem_cons_succ])
                          refine wpAnyH_ready (rs := [9]) (by kernel_rfl) (by simp) ?_
                          refine AllReadyH.cons (o := _) rfl (fun K hK => ?_) AllReadyH.nil
                          (try simp only [List.getElem_toArray, List.getElem_cons_zero, List.getElem_cons_succ])
                          go_simp
                          refine HGR.out.mono ?_
                          rintro e w6 ⟨rfl, g6, k6⟩
                          go_wp2_with fail
                          have g6' := HGJE.out ▸ g6
                          have k6' := HGJE.out ▸ k6
                          have hst := (HI.out.below (Below.refl _ wr).drew).stepG hyg g6' k6'
                          have hgb6 := HGJ.out.blk
                          rw [HGJE.out] at hgb6
                          have hbp6 : w6.heap[bp]? = some (.cells pc.cells.toArray 70 (0, 0)) := (k6.block bp (lt_of_block HBP.out) (two_kinds HBP.out hgb6 (by decide))).trans HBP.out
                          have hf6 := (HF.out.below (Below.refl _ wr).drew).keep (w' := w6) fun j hj => k6.block j (HF.out.lt j hj).2 (fun e => ownI_ne HF.out hgb6 (by decide) (by rw [← e]; exact hj))
                          have hcl6 := clv_at hst.cl hY4.out
                          rw [HNY.out] at hcl6
                          obtain ⟨gb', ⟨cv', ev⟩, hgc6⟩ := hst.at_ hyg
                          injection ev with ev1 ev2 ev3
                          injection ev1 with ev1
                          injection ev1 with ev1 _ _
                          subst ev1
                          clear ev2 ev3
                          rw [HGJE.out] at hgc6
                          have hbv6 := hst.bv
                          have hst' := hst.congr (S' := fun z => if z < y + 1 then (S2 z).look (c2 (z + 1)) else S2 z) (fun z _ => by
                            by_cases e : z = y
                            · rw [if_pos e, if_pos (by omega), e, ← HG2.out, HY.out]
                            · rw [if_neg e]
                              by_cases e2 : z < y
                              · rw [if_pos e2, if_pos (by omega)]
                              · rw [if_neg e2, if_neg (by omega)])
                          have HST := hide hst'
                          have HB6 := hide hbp6
                          have HF6 := hide hf6
                          have hz6 : fb ≤ w6.heap.size := Nat.le_trans HFZ.out k6.size
                          have HZ6 := hide hz6
                          clear hst hst' g6 g6' k6 k6' hbp6 hf6 hgb6 hz6
                          refine hK.out _ _ (⟨hgc6, hbv6, hcl6⟩) (fun hHeld => ?_)
                          clear hK
                          (try simp only [Act.put, List.setIfInBounds_toArray, List.set_cons_zero, List.set_cons_succ, List.getElem_toArray, List.getElem_cons_zero, List.getElem_cons_succ])
                          refine wpAnyH_take (i := 10) (oi := _) (v := .bool (!vb)) rfl (by kernel_rfl) (by kernel_rfl) (by kernel_rfl) (fun _ _ _ h => h) (Or.inl ⟨by rfl, fun w' hSw => by go_simp⟩) hHeld ?_
                          (try simp only [Act.put, List.setIfInBounds_toArray, List.set_cons_zero, List.set_cons_succ, List.getElem_toArray, List.getElem_cons_zero, List.getElem_cons_succ])
                          refine wpAnyH_done (by kernel_rfl) ?_ _
                          clear hgc6 hbv6 hcl6
                          cases vb
                          · have HFR : Hid (freeL bb (y + 1) = freeL bb y ++ [(Y : Int)]) := hide (by
                              show freeL bb y ++ (if bb y = true then [] else [(y : Int) + 1]) = _
                              rw [HVB.out, if_neg (by simp), HY.out]
                              rfl)
                            have hone : HasI (w6.alloc (.cells (icells [(Y : Int)]) 3)) (w6.heap.size + 1) (some ⟨w6.heap.size, 0, none⟩) [(Y : Int)] := HasI.new w6 3 [(Y : Int)] (0, 0) w6.heap.size rfl
                            have hba := (Below.refl _ w6).alloc (Nat.le_refl _) (.cells (icells [(Y : Int)]) 3)
                            have hic : icells [(Y : Int)] = #[.int .i64 (Y : Int)] := rfl
                            rw [hic] at hone hba
                            have HIA := hide (HST.out.below hba)
                            have HBA := hide ((hba.block _ (lt_of_block HB6.out)).trans HB6.out)
                            have HFA := hide (HF6.out.below hba)
                            have HSA := hide (Nat.le_trans HZ6.out hba.size)
                            have HLN : Hid ((freeL bb y).length + 1 ≤ 17592186044416) := hide (by have := freeL_len bb y; omega)
                            clear hic hba
                            go_wp2_with (first
                              | (refine list_append_ints5 _ rfl (.tmp 140) (.tmp 142) rfl fb u19 (freeL bb y) rfl HFA.out _ _ 1 1 [(Y : Int)] rfl hone rfl HLN.out HSA.out ?_; intro v7 w7 ho7 hg7 _; have HO7 := hide ho7; have HG7 := hide hg7; clear ho7 hg7)
                              | fail)
                            have hkg : Kept (fun j => u19.ownBlock = some j) _ w7 := Kept.of_grown (F := fun j => u19.ownBlock = some j) HG7.out (fun j hj => hj)
                            have HI7 := hide (HIA.out.stepF HFA.out hkg HFB.out HMS.out)
                            have HB7 := hide ((hkg.block _ (lt_of_block HBA.out) (fun e => ownI_ne HFA.out HBA.out (by decide) e)).trans HBA.out)
                            have HZ7 := hide (Nat.le_trans HSA.out hkg.size)
                            clear hkg
                            go_roundw
                            case rel => exact ⟨y + 1, Y + 1, by rw [HY.out], by omega, by go_num, HI7, HB7, by rw [HFR.out]; exact HO7, HZ7⟩
                            case measure => simp [intOf]; omega
                          · have HFR : Hid (freeL bb (y + 1) = freeL bb y) := hide (by
                              show freeL bb y ++ (if bb y = true then [] else [(y : Int) + 1]) = _
                              rw [HVB.out, if_pos rfl]
                              exact List.append_nil _)
                            go_wp2_with fail
                            go_roundw
                            case rel => exact ⟨y + 1, Y + 1, by rw [HY.out], by omega, by go_num, HST, HB6, by rw [HFR.out]; exact HF6, HZ6⟩
                            case measure => simp [intOf]; omega
                        · have hy3' : y = 3 := by omega
                          have hYl : ¬ (Y : Int) ≤ 3 := by omega
                          have dY : decide ((Y : Int) ≤ 3) = false := decide_eq_false hYl
                          have hF := HF.out
                          rw [hy3'] at hF
                          obtain ⟨A9, n9, c9, rfl, hn9, _, hx9⟩ := hF.form
                          have hpl := HP3.out.look y
                          have HPL := hide hpl
                          have hc0 := clv_at HI.out.cl (k := 0) (by omega)
                          have hvl := hvalid_any HI.out.h (c2 0) (by have := HP3.out.c 0 (by omega); unfold In64'; omega)
                          obtain ⟨vv, hvv⟩ : ∃ vv, q2.valid (c2 0) = vv := ⟨_, rfl⟩
                          rw [hvv] at hvl
                          have hsafe : vv = true → enB [1, 2, 3] (freeL bb 3) = false := fun e => by
                            rw [e] at hvv
                            unfold Hd.valid at hvv
                            rw [HQ2.out.1] at hvv
                            exact no_both (fun j hj ho => by rw [← HBB.out j]; exact HP3.out.safe r0 (by omega) HQ2.out.2 hj ho) hvv
                          have HSF := hide hsafe
                          have HVL := hide hvl
                          have HF9 := hide hF
                          have HN9 := hide hn9.out
                          have hl9 := freeL_len bb 3
                          have HL9 : Hid (n9 ≤ 3) := hide (by have := hn9.out; omega)
                          obtain ⟨_, _, _, _, p7⟩ := pc_cells HBP.out
                          clear hF hn9 hx9 hpl hvl hvv hsafe hl9 hYl hy3 HF hY
                          generalize (Y : Int) = Y4 at *
                          go_wp2_with fail
                          refine HVL.out.mono ?_
                          rintro e w5 ⟨rfl, hb5⟩
                          have HI6 := hide (HI.out.below hb5)
                          have HB6 := hide ((hb5.block _ (lt_of_block HBP.out)).trans HBP.out)
                          have HF6 := hide (HF9.out.below hb5)
                          clear hb5 hc0 p7
                          cases vv
                          · obtain ⟨_, _, _, _, p7⟩ := pc_cells HB6.out
                            obtain ⟨rv, hrv⟩ : ∃ x, pc.rv = x := ⟨_, rfl⟩
                            rw [hrv] at p7
                            obtain ⟨m7, hm7, _, _⟩ : ∃ x, bits .and .i64 rv 7 = x ∧ 0 ≤ x ∧ x < 8 := mask_lt rv 3 (by omega)
                            clear hrv
                            go_wp2_with fail
                            all_goals go_roundw
                            all_goals first
                              | exact ⟨k + 1, _, _, q2, c2, rfl, by go_num, by omega, by omega, HQ2, HPL, HI6⟩
                              | (simp [intOf]; omega)
                          · have hen := HSF.out rfl
                            have hm1 := HasI.new w5 3 [1, 2, 3] (0, 0) w5.heap.size rfl
                            have hic : icells [1, 2, 3] = #[.int .i64 1, .int .i64 2, .int .i64 3] := rfl
                            rw [hic] at hm1
                            have hb6 := (Below.refl _ w5).alloc (Nat.le_refl _) (.cells #[.int .i64 1, .int .i64 2, .int .i64 3] 3)
                            have HI7 := hide (HI6.out.below hb6)
                            have HB7 := hide ((hb6.block _ (lt_of_block HB6.out)).trans HB6.out)
                            have hx7 := (own_len (HF6.out.below hb6)).1
                            have hre := renough_any (some ⟨w5.heap.size, 0, none⟩) A9 3 n9 3 c9 (w5.heap.size + 1) _ [1, 2, 3] (freeL bb 3) _ hm1 hx7 rfl HN9.out (by omega) (by have := HL9.out; omega)
                            rw [hen] at hre
                            clear hen hm1 hic hb6 hx7
                            obtain ⟨_, _, _, _, p7⟩ := pc_cells HB7.out
                            obtain ⟨rv, hrv⟩ : ∃ x, pc.rv = x := ⟨_, rfl⟩
                            rw [hrv] at p7
                            obtain ⟨m7, hm7, _, _⟩ : ∃ x, bits .and .i64 rv 7 = x ∧ 0 ≤ x ∧ x < 8 := mask_lt rv 3 (by omega)
                            clear hrv
                            go_wp2_with fail
                            refine hre.mono ?_
                            rintro e _ ⟨rfl, rfl⟩
                            go_wp2_with fail
                            all_goals go_roundw
                            all_goals first
                              | exact ⟨k + 1, _, _, q2, c2, rfl, by go_num, by omega, by omega, HQ2, HPL, HI7⟩
                              | (simp [intOf]; omega)
          · have d1 : decide ((k : Int) < 100) = false := decide_eq_false (by omega)
            have d2 : decide ((k : Int) < (len : Int)) = true := decide_eq_true (by omega)
            go_wp2
            go_ret
            exact ⟨rfl, hI.out.bel⟩
        · have d2 : decide ((k : Int) < (len : Int)) = false := decide_eq_false (by omega)
          go_wp2
          go_ret
          exact ⟨rfl, hI.out.bel⟩
end Go.Proofs.Ytgdncmkhcdmjoaa
