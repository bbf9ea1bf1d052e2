/-
  The walk of ValueStream. Conditions: at most 2^20 values and commands.
-/
import Derived.Test.YtapbcpilklhoiaaValStream0
import Derived.Deep.RegionHeld3
import Derived.Deep.DrawnRows
import Derived.Deep.RegionWith
set_option linter.unusedSimpArgs false
set_option linter.unusedVariables false
namespace Go.Proofs.Ytapbcpilklhoiaa
open Go.RowKit

set_option maxRecDepth 20000 in
set_option maxHeartbeats 6400000 in
theorem stream_walk (A A' : Option Addr) (n c n' c' : Nat) (vs : List Valv) (cs : List Cmdv) (w : World) (hV : HasV w w.heap.size A vs) (hC : HasC w w.heap.size A' cs) (hn : vs.length = n) (hn' : cs.length = n') (hcs : ∀ x ∈ cs, IsCmd x) (hl : n ≤ 1048576) (hl' : n' ≤ 1048576) :
    Calls Try.prog 12 #[.slice A n c, .slice A' n' c'] w fun e w' => e = .returned (.bool true) ∧ Below w.heap.size w w' := by
  have HN := hide hn
  have HN' := hide hn'
  have HCS := hide hcs
  have HVC : Hid (∀ v ∈ vs, ∀ x ∈ v.cs, IsCmd x) := hide (fun v hv => by
    obtain ⟨i, hi, rfl⟩ := List.getElem_of_mem hv
    exact (hV i hi).2.cc)
  clear hn hn' hcs
  go_enter Try.func12, Try.ntmps12
  go_wp2_with fail
  refine (head6_any _).mono ?_
  rintro e W0 ⟨rfl, b0⟩
  have hz0 := b0.size
  have HD : Hid (∀ W, Below W0.heap.size W0 W → HasV W w.heap.size A vs ∧ HasC W w.heap.size A' cs ∧ w.heap.size ≤ W.heap.size ∧ Below w.heap.size w W) := hide (fun W h => by
    have hb := b0.trans (h.mono hz0)
    exact ⟨hV.below hb, hC.below hb, hb.size, hb⟩)
  clear hV hC b0
  go_wp2_with fail
  refine (newwriter_any W0).mono ?_
  rintro e w1 ⟨rfl, hw1⟩
  have hwr := wr_new W0 W0.heap.size (Nat.le_refl _)
  have b1 : Below W0.heap.size W0 (W0.alloc (.cells #[.slice none 0 0] 104)) := (Below.refl _ _).alloc (Nat.le_refl _) _
  have hs1 : (W0.alloc (.cells #[.slice none 0 0] 104)).heap.size = W0.heap.size + 1 := by simp
  rw [hw1] at hwr b1 hs1
  clear hw1
  have T0 : SW W0 W0.heap.size none (.slice (some ⟨w1.heap.size, 0, none⟩) 0 0) [] [] (w1.alloc (.cells #[] 5)) := by
    refine ⟨hwr.below ((Below.refl _ _).alloc (Nat.le_refl _) _), Own.new w1 [] _ _ rfl (by omega) (by simp), ?_, b1.alloc b1.size _⟩
    intro k hf e
    have e1 : w1.heap.size = k := Option.some.inj e
    have := (hwr.foot k hf).2
    omega
  go_wp2_with fail
  generalize w1.alloc (.cells #[] 5) = w2 at *
  clear hwr b1
  rw [hs1] at T0
  clear hs1
  go_loopw [6, 22] (fun x i wr => ∃ (j : Nat) (b : Option Nat), j ≤ n ∧ i = .int .i64 j ∧ SW W0 W0.heap.size b x (outVs (vs.take j)) (outVs (vs.take j)) wr) (fun _ i _ => n - (intOf i).toNat)
  case atStart => exact ⟨0, none, Nat.zero_le _, rfl, T0⟩
  case round =>
    clear T0
    obtain ⟨j, b, hj, rfl, T⟩ := hrel
    obtain ⟨hVr, hCr, hzr, hbr⟩ := HD.out _ T.bl
    by_cases hlt : j < n
    · have hlt' : j < vs.length := by rw [HN.out]; exact hlt
      have hcl := hVr j hlt'
      have htk := outVs_take vs j hlt'
      have hle := outVs_len (vs.take j) (fun v hv => HVC.out v (List.mem_of_mem_take hv))
      rw [List.length_take] at hle
      have HVV := hide (HVC.out _ (List.getElem_mem hlt'))
      clear hVr hCr
      generalize vs[j] = v at *
      obtain ⟨⟨ab, ao, rfl, hab, e0, e1, e2⟩, hv⟩ := hcl
      have HZ : Hid (outVs (vs.take (j + 1)) = outVs (vs.take j) ++ outV v) := hide htk
      generalize outVs (vs.take j) = zs at *
      have hzl : zs.length ≤ 1048576000 := by omega
      have HZL := hide hzl
      clear htk hle hzl
      go_wp2_with fail
      have hp5 := heap_alloc_new wr (.cells #[.int .i64 v.k, .slice v.A v.n v.c, .slice v.D v.m v.d] 48)
      have ba := (Below.refl _ wr).alloc (Nat.le_refl _) (.cells #[.int .i64 v.k, .slice v.A v.n v.c, .slice v.D v.m v.d] 48)
      generalize wr.alloc (.cells #[.int .i64 v.k, .slice v.A v.n v.c, .slice v.D v.m v.d] 48) = w5 at *
      have T5 := T.below ba
      have hv5 := hv.on hzr ba
      have hz5 := lt_of_block hp5
      have hft : ∀ k, Foot W0.heap.size b k → k < wr.heap.size := fun k hf => (T.wr.foot k hf).2
      have HFT := hide hft
      clear T hv ba hft e0 e1 e2
      refine (hv5.rcheck (by omega) v.k v.c v.d).mono ?_
      rintro e w6 ⟨rfl, b6⟩
      have T6 := T5.below b6
      have hv6 := hv5.on (by omega) b6
      have hp6 := (b6.block wr.heap.size hz5).trans hp5
      have hz6 := b6.size
      clear T5 hv5 hp5 b6
      by_cases h0 : chkV v.k v.cs v.ns = 0
      · have HF := hide (chkV_fine HVV.out h0)
        have HO : Hid (outV v = encV v.k v.cs v.ns) := hide (if_pos h0)
        rw [h0]
        clear h0
        have k0 := (row_cells hp6 0).1
        have k1 := (row_cells hp6 1).1
        have k2 := (row_cells hp6 2).1
        simp only [List.getElem?_toArray, List.getElem?_cons_succ, List.getElem?_cons_zero] at k0 k1 k2
        go_wp2_with fail
        refine (rvcopy_any v.k v.A v.D v.n v.c v.m v.d w.heap.size v.cs v.ns w6 hv6.c hv6.i (by omega) hv6.en hv6.em hv6.ln (by have := hv6.lm; omega)).mono ?_
        rintro e w7 ⟨A7, c7, D7, d7, rfl, ho7, hi7, b7⟩
        have T7 := T6.below b7
        have hv7 := hv6.on (by omega) b7
        have hp7 := (b7.block wr.heap.size (by omega)).trans hp6
        have hz7 := b7.size
        obtain ⟨_, _, _, x1, _, _, g1⟩ := ho7.form
        obtain ⟨_, _, _, x2, _, _, g2⟩ := hi7.form
        cases x1
        cases x2
        have hoA : ∀ k o, A7 = some ⟨k, o, none⟩ → ¬ Foot W0.heap.size b k := fun k o e hf => by
          have h1 := (ho7.lt k (by rw [e]; rfl)).1
          have h2 := HFT.out k hf
          omega
        have hoD : ∀ k o, D7 = some ⟨k, o, none⟩ → ¬ Foot W0.heap.size b k := fun k o e hf => by
          have h1 := (hi7.lt k (by rw [e]; rfl)).1
          have h2 := HFT.out k hf
          omega
        have HOA := hide hoA
        have HOD := hide hoD
        have hl8 := HF.out.cl
        have hl7 := HF.out.nl
        rw [hv7.en] at hl8
        rw [hv7.em] at hl7
        clear T6 hv6 hp6 b7 k0 k1 k2 ho7 hi7 hoA hoD
        go_wp2_with fail
        refine (vwrite_off W0.heap.size W0.heap.size b zs v.k A7 D7 v.n c7 v.m d7 w7.heap.size v.cs v.ns w7 T7.wr g1 g2 (Nat.le_refl _) HOA.out HOD.out hv7.en hv7.em HVV.out (by have := HZL.out; omega)).mono ?_
        rintro e w8 ⟨rfl, b8, hw8, hl8', hk8⟩
        have T8 := T7.write hw8 hl8' hk8
        have hp8 := (hk8.block wr.heap.size (by omega) (fun hf => by have := HFT.out _ hf; omega)).trans hp7
        obtain ⟨hV8, _, hz8, _⟩ := HD.out _ T8.bl
        have hb78 : Below w.heap.size w7 w8 := hk8.below (by omega) (fun k hf => by have := (T7.wr.foot k hf).1; omega)
        have hv8 := hv7.below hb78
        clear T7 hv7 hp7 hw8 hl8' hk8 g1 g2 hb78 hV8
        have k0 := (row_cells hp8 0).1
        have k1 := (row_cells hp8 1).1
        have k2 := (row_cells hp8 2).1
        simp only [List.getElem?_toArray, List.getElem?_cons_succ, List.getElem?_cons_zero] at k0 k1 k2
        go_wp2_with fail
        refine (rvbytes_any v.k v.A v.D v.n v.c v.m v.d w.heap.size v.cs v.ns w8 hv8.c hv8.i (by omega) hv8.en hv8.em hv8.cc (by omega)).mono ?_
        rintro e w9 ⟨v9, rfl, ho9, b9⟩
        have T9 := T8.below b9
        obtain ⟨A9, n9, c9, rfl, en9, _, hx9, _⟩ := ho9.form
        have hl9 : n9 ≤ 1000 := by rw [← en9.out]; exact encV_len HF.out
        clear T8 hv8 hp8 k0 k1 k2 ho9 b9
        go_wp2_with (at_builtin; refine list_append_bytes _ rfl (.tmp 33) (.tmp 35) rfl W0.heap.size _ _ rfl T9.ow w9.heap.size A9 n9 c9 _ rfl hx9 en9.out (by have := HZL.out; omega) T9.bl.size ?_; intro v10 w10 ho10 hg10 hat10)
        have T10 := T9.append hg10 ho10 hat10
        go_roundw
        case rel => exact ⟨j + 1, b8, by omega, by go_num, by rw [HZ.out, HO.out]; exact T10⟩
        case measure => simp [intOf]; omega
      · have HO : Hid (outV v = []) := hide (if_neg h0)
        have t0 : (chkV v.k v.cs v.ns == 0) = false := by rw [beq_eq_false_iff_ne]; exact h0
        clear h0
        go_wp2_with fail
        go_roundw
        case rel => exact ⟨j + 1, b, by omega, by go_num, by rw [HZ.out, HO.out, List.append_nil]; exact T6⟩
        case measure => simp [intOf]; omega
    · obtain rfl : j = n := by omega
      rw [List.take_of_length_le (by rw [HN.out]; omega)] at T
      have hle := outVs_len vs HVC.out
      rw [HN.out] at hle
      obtain ⟨w3, hw3⟩ : ∃ W, W = wr := ⟨wr, rfl⟩
      subst hw3
      clear hVr hCr hzr hbr
      generalize hOV : outVs vs = OV at *
      have HOV := hide hOV
      clear hOV
      have hov := hide hle
      clear hle
      go_wp2_with fail
      go_loopw [6, 40] (fun u i wr => ∃ (i2 : Nat) (b : Option Nat), i2 ≤ n' ∧ i = .int .i64 i2 ∧ SW W0 W0.heap.size b u (OV ++ encCs (cs.take i2)) (OV ++ encCs (cs.take i2)) wr) (fun _ i _ => n' - (intOf i).toNat)
      case atStart => exact ⟨0, b, Nat.zero_le _, rfl, by simpa [encCs] using T⟩
      case round =>
        clear T
        obtain ⟨i2, b2, hj2, rfl, T⟩ := hrel
        obtain ⟨hVr, hCr, hzr, hbr⟩ := HD.out _ T.bl
        by_cases hlt : i2 < n'
        · have hlt' : i2 < cs.length := by rw [HN'.out]; exact hlt
          have hcl := hCr i2 hlt'
          have htk := encCs_take cs i2 hlt'
          have hle := encCs_length (cs.take i2)
          rw [List.length_take] at hle
          have HXX := hide (HCS.out _ (List.getElem_mem hlt'))
          clear hVr hCr
          generalize cs[i2] = x at *
          obtain ⟨ab, ao, rfl, hab, e0, e1, e2, e3, e4, e5, e6, e7⟩ := hcl
          have HZ : Hid (OV ++ encCs (cs.take (i2 + 1)) = (OV ++ encCs (cs.take i2)) ++ encL x.ints) := hide (by rw [htk, List.append_assoc])
          have HZL : Hid ((OV ++ encCs (cs.take i2)).length ≤ 2000000000) := hide (by have := hov.out; rw [List.length_append]; omega)
          generalize OV ++ encCs (cs.take i2) = zs at *
          clear htk hle
          go_wp2_with fail
          have hp5 := heap_alloc_new wr (.cells #[.int .i64 x.s, .int .i64 x.q, .int .i64 x.a, .int .i64 x.k, .int .i64 x.r, .int .i64 x.t, .int .i64 x.re, .int .i64 x.im] 52)
          have ba := (Below.refl _ wr).alloc (Nat.le_refl _) (.cells #[.int .i64 x.s, .int .i64 x.q, .int .i64 x.a, .int .i64 x.k, .int .i64 x.r, .int .i64 x.t, .int .i64 x.re, .int .i64 x.im] 52)
          generalize wr.alloc (.cells #[.int .i64 x.s, .int .i64 x.q, .int .i64 x.a, .int .i64 x.k, .int .i64 x.r, .int .i64 x.t, .int .i64 x.re, .int .i64 x.im] 52) = w5 at *
          have T5 := T.below ba
          have hz5 := lt_of_block hp5
          have HFT := hide (fun k (hf : Foot W0.heap.size b2 k) => (T.wr.foot k hf).2)
          clear T ba e0 e1 e2 e3 e4 e5 e6 e7
          refine (putcmd_any W0.heap.size W0.heap.size b2 zs x w5 T5.wr HXX.out (by have := HZL.out; omega)).mono ?_
          rintro e w8 ⟨rfl, b8, hw8, hl8', hk8⟩
          have T8 := T5.write hw8 hl8' hk8
          have hp8 := (hk8.block wr.heap.size hz5 (fun hf => by have := HFT.out _ hf; omega)).trans hp5
          clear T5 hp5 hw8 hl8' hk8
          have y0 := (row_cells hp8 0).1
          have y1 := (row_cells hp8 1).1
          have y2 := (row_cells hp8 2).1
          have y3 := (row_cells hp8 3).1
          have y4 := (row_cells hp8 4).1
          have y5 := (row_cells hp8 5).1
          have y6 := (row_cells hp8 6).1
          have y7 := (row_cells hp8 7).1
          simp only [List.getElem?_toArray, List.getElem?_cons_succ, List.getElem?_cons_zero] at y0 y1 y2 y3 y4 y5 y6 y7
          go_wp2_with fail
          refine (rcmd_any x w8 HXX.out).mono ?_
          rintro e w9 ⟨v9, rfl, ho9, b9⟩
          have T9 := T8.below b9
          obtain ⟨A9, n9, c9, rfl, en9, _, hx9, _⟩ := ho9.form
          have hl9 : n9 ≤ 72 := by rw [← en9.out]; exact encL_length x.ints
          clear T8 hp8 y0 y1 y2 y3 y4 y5 y6 y7 ho9 b9
          go_wp2_with (at_builtin; refine list_append_bytes _ rfl (.tmp 47) (.tmp 49) rfl W0.heap.size _ _ rfl T9.ow w9.heap.size A9 n9 c9 _ rfl hx9 en9.out (by have := HZL.out; omega) T9.bl.size ?_; intro v10 w10 ho10 hg10 hat10)
          have T10 := T9.append hg10 ho10 hat10
          go_roundw
          case rel => exact ⟨i2 + 1, b8, by omega, by go_num, by rw [HZ.out]; exact T10⟩
          case measure => simp [intOf]; omega
        · obtain rfl : i2 = n' := by omega
          rw [List.take_of_length_le (by rw [HN'.out]; omega)] at T
          have hle := encCs_length cs
          rw [HN'.out] at hle
          have HZL : Hid ((OV ++ encCs cs).length ≤ 2000000000) := hide (by have := hov.out; rw [List.length_append]; omega)
          obtain ⟨w4, hw4⟩ : ∃ W, W = wr := ⟨wr, rfl⟩
          subst hw4
          clear hVr hCr hzr hbr hle
          generalize hZZ : OV ++ encCs cs = ZZ at *
          have HZZ := hide hZZ
          clear hZZ
          go_wp2_with fail
          refine (wbytes_any W0.heap.size W0.heap.size b2 ZZ _ T.wr (by have := HZL.out; omega)).mono ?_
          rintro e w5 ⟨v5, rfl, ho5, b5⟩
          have T5 := T.below b5
          obtain ⟨A5, n5, c5, rfl, en5, _, hx5, _⟩ := ho5.form
          obtain ⟨A6, n6, c6, rfl, en6, _, hx6, _⟩ := T5.ow.form
          have hn5 : n5 ≤ 2000000000 := by rw [← en5.out]; exact HZL.out
          have hn6 : n6 ≤ 2000000000 := by rw [← en6.out]; exact HZL.out
          clear T ho5 b5
          go_wp2_with fail
          refine (same_any A5 A6 n5 n6 c5 c6 _ _ ZZ ZZ w5 hx5 hx6 en5.out en6.out (by omega)).mono ?_
          rintro e w6 ⟨rfl, j6, rfl⟩
          rw [decide_eq_true rfl]
          have b7 := below_drewN T5.bl j6
          have hx7 := hx6.drewN j6
          have hs7 : (w5.drewN j6).heap.size = w5.heap.size := rfl
          go_wp2_with fail
          generalize w5.drewN j6 = w7 at *
          clear T5 hx5 hx6
          refine (newreader_any A6 n6 c6 w5.heap.size ZZ w7 hx7 (by omega) en6.out (by omega)).mono ?_
          rintro e w8 ⟨g, gb, rfl, hrd, hft, b8'⟩
          have b8 := b7.trans (b8'.mono b7.size)
          have hz7 := b7.size
          have hg8 := (hft g (.inl rfl))
          have HFB : Hid (∀ k, gb = some k → W0.heap.size ≤ k ∧ k < w8.heap.size) := hide (fun k hk => by have := hft k (.inr hk); omega)
          have hg0 : W0.heap.size ≤ g := by omega
          have hgl : g < w8.heap.size := hg8.2
          clear hft b8' hx7 b7 hg8 hs7
          go_wp2_with fail
          have HST : Hid (outVs (vs.drop 0) ++ encCs cs = ZZ) := hide (by rw [List.drop_zero, HOV.out, HZZ.out])
          have hrd0 := hrd
          rw [← HST.out] at hrd0
          go_loopw [61] (fun i wr => ∃ (j3 : Nat) (b3 : Option Nat), j3 ≤ j ∧ i = .int .i64 j3 ∧ Rd wr g b3 (outVs (vs.drop j3) ++ encCs cs) 0 ∧ (b3 = gb ∨ b3 = none) ∧ Below W0.heap.size W0 wr ∧ w8.heap.size ≤ wr.heap.size) (fun i _ => j - (intOf i).toNat)
          case atStart => exact ⟨0, gb, Nat.zero_le _, rfl, hrd0, .inl rfl, b8, Nat.le_refl _⟩
          case round =>
            clear hrd hrd0 b8 HST
            obtain ⟨j3, b3, hj3, rfl, hrd, hlie, hbl, hzz⟩ := hrel
            obtain ⟨hVr, hCr, hzr, hbr⟩ := HD.out _ hbl
            by_cases hlt : j3 < j
            · have hlt' : j3 < vs.length := by rw [HN.out]; exact hlt
              have hcl := hVr j3 hlt'
              have htk := outVs_drop vs j3 hlt'
              have HVV := hide (HVC.out _ (List.getElem_mem hlt'))
              clear hVr hCr
              generalize vs[j3] = v at *
              obtain ⟨⟨ab, ao, rfl, hab, e0, e1, e2⟩, hv⟩ := hcl
              rw [htk, List.append_assoc] at hrd
              generalize hR : outVs (vs.drop (j3 + 1)) ++ encCs cs = R at *
              have HR := hide hR
              clear hR htk
              have hb3 : ∀ k, b3 = some k → W0.heap.size ≤ k ∧ k < wr.heap.size := fun k hk => by
                rcases hlie with e | e
                · have := HFB.out k (by rw [← e]; exact hk); omega
                · rw [e] at hk; cases hk
              have HB3 := hide hb3
              clear hb3
              go_wp2_with fail
              have hp5 := heap_alloc_new wr (.cells #[.int .i64 v.k, .slice v.A v.n v.c, .slice v.D v.m v.d] 48)
              have ba := (Below.refl _ wr).alloc (Nat.le_refl _) (.cells #[.int .i64 v.k, .slice v.A v.n v.c, .slice v.D v.m v.d] 48)
              generalize wr.alloc (.cells #[.int .i64 v.k, .slice v.A v.n v.c, .slice v.D v.m v.d] 48) = w5 at *
              have hrd5 := hrd.below ba
              have hbl5 := hbl.trans (ba.mono hbl.size)
              have hz5 := lt_of_block hp5
              have hza := ba.size
              have HK : Hid (∀ W, Kept (fun k => k = g) w5 W → W.cell? ⟨wr.heap.size, 0, none⟩ = some (.int .i64 v.k) ∧ W.cell? ⟨wr.heap.size, 1, none⟩ = some (.slice v.A v.n v.c) ∧ W.cell? ⟨wr.heap.size, 2, none⟩ = some (.slice v.D v.m v.d)) := hide (fun W h => by
                have hq := (h.block wr.heap.size hz5 (by omega)).trans hp5
                exact ⟨(row_cells hq 0).1, (row_cells hq 1).1, (row_cells hq 2).1⟩)
              have HVS : Hid (∀ W, Kept (fun k => k = g) w5 W → IsV W w.heap.size v.A v.n v.D v.m v.cs v.ns ∧ w.heap.size ≤ W.heap.size ∧ Below W0.heap.size W0 W) := hide (fun W h => by
                have hb := hbl5.trans (h.below hbl5.size (fun k hk => by omega))
                have hbw : Below w.heap.size w5 W := h.below (by omega) (fun k hk => by omega)
                exact ⟨(hv.on hzr ba).below hbw, by have := h.size; omega, hb⟩)
              clear hrd hbl hv ba hp5 e0 e1 e2 hbr
              have r5 : Kept (fun k => k = g) w5 w5 := Kept.refl _ _
              have r5d : Kept (fun k => k = g) w5 w5.drew := (Kept.refl _ w5).drew
              have hrd5d : Rd w5.drew g b3 (outV v ++ R) 0 := hrd5
              by_cases h0 : chkV v.k v.cs v.ns = 0
              · have hf := chkV_fine HVV.out h0
                have hread := hf.read R
                have hk0 := hf.k0
                have HO : Hid (outV v = encV v.k v.cs v.ns) := hide (if_pos h0)
                rw [HO.out] at hrd5 hrd5d
                have HCK : Hid (∀ W, Kept (fun k => k = g) w5 W → Calls Try.prog 33 #[.agg #[.int .i64 v.k, .slice v.A v.n v.c, .slice v.D v.m v.d]] W fun e w' => e = .returned (.int .i64 0) ∧ Below W.heap.size W w') := hide (fun W h => by
                  obtain ⟨q1, q2, _⟩ := HVS.out _ h
                  have := q1.rcheck q2 v.k v.c v.d
                  rw [h0] at this
                  exact this)
                have HRD : Hid (∀ W, Rd W g b3 (encV v.k v.cs v.ns ++ R) 0 → (∀ k, b3 = some k → k < W.heap.size) → Calls Try.prog 52 #[.pointer (some ⟨g, 0, none⟩)] W fun e w' => ∃ A n c D m d, e = .returned (.agg #[.int .i64 v.k, .slice A n c, .slice D m d]) ∧ IsV w' w'.heap.size A n D m v.cs v.ns ∧ ∃ b', RGo g b3 W (R, 0) b' w') := hide (fun W h hfoot => by
                  have hq := vread_any g b3 (encV v.k v.cs v.ns ++ R, 0) W h hfoot
                  rw [hread] at hq
                  refine hq.mono ?_
                  rintro e w' ⟨A, n, c, D, l, d, rfl, en, em, oc, oi, hgo⟩
                  obtain ⟨_, _, _, e1, _, _, g1⟩ := oc.form
                  obtain ⟨_, _, _, e2, _, _, g2⟩ := oi.form
                  cases e1
                  cases e2
                  refine ⟨A, n, c, D, l, d, by rw [show ((v.k.toNat : Nat) : Int) = v.k from by omega], ⟨g1, g2, en.out, em.out, ?_, ?_, HVV.out⟩, hgo⟩
                  · have h1 := hf.cl
                    have h2 : v.cs.length = n := en.out
                    omega
                  · have h1 := hf.nl
                    have h2 : v.ns.length = l := em.out
                    omega)
                have HSM : Hid (∀ W A n c D m d, IsV W W.heap.size A n D m v.cs v.ns → Kept (fun k => k = g) w5 W → Calls Try.prog 42 #[.agg #[.int .i64 v.k, .slice A n c, .slice D m d], .agg #[.int .i64 v.k, .slice v.A v.n v.c, .slice v.D v.m v.d]] W fun e w' => e = .returned (.bool true) ∧ Below W.heap.size W w') := hide (fun W A n c D m d h hk => by
                  obtain ⟨q1, q2, _⟩ := HVS.out _ hk
                  have := h.rsame (q1.more q2) (Nat.le_refl _) v.k c d v.k v.c v.d
                  rw [sameV_refl] at this
                  exact this)
                have HFT6 : Hid (∀ W : World, w5.heap.size ≤ W.heap.size → ∀ k, b3 = some k → k < W.heap.size) := hide (fun W h k hk => by have := HB3.out k hk; omega)
                clear h0 hf hread hk0
                go_region_held3 (fun W => W.cell? ⟨wr.heap.size, 0, none⟩ = some (.int .i64 v.k) ∧ W.cell? ⟨wr.heap.size, 1, none⟩ = some (.slice v.A v.n v.c) ∧ W.cell? ⟨wr.heap.size, 2, none⟩ = some (.slice v.D v.m v.d)) (first | exact HK.out _ r5 | exact HK.out _ r5d | exact HK.out _ k6 | exact HK.out _ k7 | exact HK.out _ k9 | go_keep) (first
                  | ((go_at_call 33; (with_reducible refine (HCK.out _ ?_).mono ?_)); exact r5d; rintro e w6 ⟨rfl, b6⟩; have k6 := r5d.step (Kept.of_below (F := fun k => k = g) b6) (fun k hk => .inl hk); have hrd6 := hrd5d.below b6)
                  | ((go_at_call 52; (with_reducible refine (HRD.out _ ?_ ?_).mono ?_)); exact hrd6; exact HFT6.out _ k6.size; rintro e w7 ⟨A7, n7, c7, D7, m7, d7, rfl, v7, b7, h7⟩; have k7 := k6.step h7.kept (fun k hk => .inl hk))
                  | ((go_at_call 42; (with_reducible refine (HSM.out _ A7 n7 c7 D7 m7 d7 ?_ ?_).mono ?_)); exact v7; exact k7; rintro e w9 ⟨rfl, b9⟩; have k9 := k7.step (Kept.of_below (F := fun k => k = g) b9) (fun k hk => .inl hk)))
                have hrd9 : Rd w9 g b7 R 0 := h7.rd.below b9
                have hl9 : b7 = gb ∨ b7 = none := by
                  rcases h7.lie with e | e
                  · rcases hlie with e' | e'
                    · exact .inl (e.trans e')
                    · exact .inr (e.trans e')
                  · exact .inr e
                obtain ⟨_, _, hbl9⟩ := HVS.out _ k9
                have hz9 := k9.size
                clear v7 h7 k6 k7 b6 b9 hrd6
                go_wp2_with fail
                go_roundw
                case rel => exact ⟨j3 + 1, b7, by omega, by go_num, by rw [HR.out]; exact hrd9, hl9, hbl9, by omega⟩
                case measure => simp [intOf]; omega
              · have HO : Hid (outV v = []) := hide (if_neg h0)
                rw [HO.out, List.nil_append] at hrd5 hrd5d
                have t0 : (chkV v.k v.cs v.ns == 0) = false := by rw [beq_eq_false_iff_ne]; exact h0
                have HCK : Hid (∀ W, Kept (fun k => k = g) w5 W → Calls Try.prog 33 #[.agg #[.int .i64 v.k, .slice v.A v.n v.c, .slice v.D v.m v.d]] W fun e w' => e = .returned (.int .i64 (chkV v.k v.cs v.ns)) ∧ Below W.heap.size W w') := hide (fun W h => by
                  obtain ⟨q1, q2, _⟩ := HVS.out _ h
                  exact q1.rcheck q2 v.k v.c v.d)
                clear h0
                refine wp_region_held_drew (S := fun W => W.cell? ⟨wr.heap.size, 0, none⟩ = some (.int .i64 v.k) ∧ W.cell? ⟨wr.heap.size, 1, none⟩ = some (.slice v.A v.n v.c) ∧ W.cell? ⟨wr.heap.size, 2, none⟩ = some (.slice v.D v.m v.d)) (by kernel_rfl) (HK.out _ r5d) (fun hHeld => ?_)
                refine wpAnyH_take (i := 0) (oi := _) (v := .agg #[.int .i64 v.k, .slice v.A v.n v.c, .slice v.D v.m v.d]) rfl (by kernel_rfl) (by kernel_rfl) (by kernel_rfl) (fun _ _ _ h => h) (Or.inl ⟨by rfl, fun w' hSw => by dsimp only at hSw; go_simp⟩) hHeld ?_
                (try simp only [Act.put, List.setIfInBounds_toArray, List.set_cons_zero, List.set_cons_succ, List.getElem_toArray, List.getElem_cons_zero, List.getElem_cons_succ])
                refine wpAnyH_ready (rs := [1]) (by kernel_rfl) (by simp) ?_
                refine AllReadyH.cons (o := _) rfl (fun K hK => ?_) AllReadyH.nil
                simp only [List.getElem_toArray, List.getElem_cons_zero, List.getElem_cons_succ]
                go_simp
                refine (HCK.out _ r5d).mono ?_
                rintro e w6 ⟨rfl, b6⟩
                have k6 := r5d.step (Kept.of_below (F := fun k => k = g) b6) (fun k hk => .inl hk)
                have hrd6 := hrd5d.below b6
                go_wp2_with fail
                refine hK.out _ _ (HK.out _ k6) (fun hHeld => ?_)
                clear hK
                (try simp only [Act.put, List.setIfInBounds_toArray, List.set_cons_zero, List.set_cons_succ, List.getElem_toArray, List.getElem_cons_zero, List.getElem_cons_succ])
                refine wpAnyH_take (i := 2) (oi := _) (v := .bool false) rfl (by kernel_rfl) (by kernel_rfl) (by kernel_rfl) (fun _ _ _ h => h) (Or.inl ⟨by rfl, fun w' hSw => by dsimp only at hSw; go_simp⟩) hHeld ?_
                (try simp only [Act.put, List.setIfInBounds_toArray, List.set_cons_zero, List.set_cons_succ, List.getElem_toArray, List.getElem_cons_zero, List.getElem_cons_succ])
                refine wpAnyH_take (i := 3) (oi := _) (v := .bool false) rfl (by kernel_rfl) (by kernel_rfl) (by kernel_rfl) (fun _ _ _ h => h) (Or.inl ⟨by rfl, fun w' hSw => by dsimp only at hSw; go_simp⟩) hHeld ?_
                (try simp only [Act.put, List.setIfInBounds_toArray, List.set_cons_zero, List.set_cons_succ, List.getElem_toArray, List.getElem_cons_zero, List.getElem_cons_succ])
                refine wpAnyH_take (i := 4) (oi := _) (v := undef) rfl (by kernel_rfl) (by kernel_rfl) (by kernel_rfl) (fun _ _ _ h => h) (Or.inr ⟨by rfl, rfl⟩) hHeld ?_
                (try simp only [Act.put, List.setIfInBounds_toArray, List.set_cons_zero, List.set_cons_succ, List.getElem_toArray, List.getElem_cons_zero, List.getElem_cons_succ])
                refine wpAnyH_take (i := 5) (oi := _) (v := undef) rfl (by kernel_rfl) (by kernel_rfl) (by kernel_rfl) (fun _ _ _ h => h) (Or.inr ⟨by rfl, rfl⟩) hHeld ?_
                (try simp only [Act.put, List.setIfInBounds_toArray, List.set_cons_zero, List.set_cons_succ, List.getElem_toArray, List.getElem_cons_zero, List.getElem_cons_succ])
                refine wpAnyH_take (i := 6) (oi := _) (v := undef) rfl (by kernel_rfl) (by kernel_rfl) (by kernel_rfl) (fun _ _ _ h => h) (Or.inr ⟨by rfl, rfl⟩) hHeld ?_
                (try simp only [Act.put, List.setIfInBounds_toArray, List.set_cons_zero, List.set_cons_succ, List.getElem_toArray, List.getElem_cons_zero, List.getElem_cons_succ])
                refine wpAnyH_take (i := 7) (oi := _) (v := undef) rfl (by kernel_rfl) (by kernel_rfl) (by kernel_rfl) (fun _ _ _ h => h) (Or.inr ⟨by rfl, rfl⟩) hHeld ?_
                (try simp only [Act.put, List.setIfInBounds_toArray, List.set_cons_zero, List.set_cons_succ, List.getElem_toArray, List.getElem_cons_zero, List.getElem_cons_succ])
                refine wpAnyH_take (i := 8) (oi := _) (v := undef) rfl (by kernel_rfl) (by kernel_rfl) (by kernel_rfl) (fun _ _ _ h => h) (Or.inr ⟨by rfl, rfl⟩) hHeld ?_
                (try simp only [Act.put, List.setIfInBounds_toArray, List.set_cons_zero, List.set_cons_succ, List.getElem_toArray, List.getElem_cons_zero, List.getElem_cons_succ])
                refine wpAnyH_take (i := 9) (oi := _) (v := .bool false) rfl (by kernel_rfl) (by kernel_rfl) (by kernel_rfl) (fun _ _ _ h => h) (Or.inl ⟨by rfl, fun w' hSw => by dsimp only at hSw; go_simp⟩) hHeld ?_
                (try simp only [Act.put, List.setIfInBounds_toArray, List.set_cons_zero, List.set_cons_succ, List.getElem_toArray, List.getElem_cons_zero, List.getElem_cons_succ])
                refine wpAnyH_done (by kernel_rfl) ?_ _
                obtain ⟨_, _, hbl6⟩ := HVS.out _ k6
                have hz6 := k6.size
                clear b6
                go_wp2_with fail
                go_roundw
                case rel => exact ⟨j3 + 1, b3, by omega, by go_num, by rw [HR.out]; exact hrd6, hlie, hbl6, by omega⟩
                case measure => simp [intOf]; omega
            · obtain rfl : j3 = j := by omega
              rw [show outVs (vs.drop j3) = [] from by rw [List.drop_of_length_le (by rw [HN.out]; omega)]; rfl, List.nil_append] at hrd
              obtain ⟨w10, hw10⟩ : ∃ W, W = wr := ⟨wr, rfl⟩
              subst hw10
              clear hVr hCr hzr hbr
              go_wp2_with fail
              have hrd0 : Rd w10 g b3 (encCs (cs.drop 0)) 0 := by rw [List.drop_zero]; exact hrd
              go_loopw [78] (fun i wr => ∃ (j4 : Nat) (b4 : Option Nat), j4 ≤ i2 ∧ i = .int .i64 j4 ∧ Rd wr g b4 (encCs (cs.drop j4)) 0 ∧ (b4 = gb ∨ b4 = none) ∧ Below W0.heap.size W0 wr ∧ w8.heap.size ≤ wr.heap.size) (fun i _ => i2 - (intOf i).toNat)
              case atStart => exact ⟨0, b3, Nat.zero_le _, rfl, hrd0, hlie, hbl, hzz⟩
              case round =>
                clear hrd hrd0 hlie hbl hzz
                obtain ⟨j4, b4, hj4, rfl, hrd, hlie, hbl, hzz⟩ := hrel
                obtain ⟨hVr, hCr, hzr, hbr⟩ := HD.out _ hbl
                by_cases hlt : j4 < i2
                · have hlt' : j4 < cs.length := by rw [HN'.out]; exact hlt
                  have hcl := hCr j4 hlt'
                  have htk := encCs_drop cs j4 hlt'
                  have HXX := hide (HCS.out _ (List.getElem_mem hlt'))
                  clear hVr hCr
                  generalize cs[j4] = x at *
                  obtain ⟨ab, ao, rfl, hab, e0, e1, e2, e3, e4, e5, e6, e7⟩ := hcl
                  rw [htk] at hrd
                  generalize hR : encCs (cs.drop (j4 + 1)) = R at *
                  have HR := hide hR
                  clear hR htk
                  have hb4 : ∀ k, b4 = some k → W0.heap.size ≤ k ∧ k < wr.heap.size := fun k hk => by
                    rcases hlie with e | e
                    · have := HFB.out k (by rw [← e]; exact hk); omega
                    · rw [e] at hk; cases hk
                  have HB4 := hide hb4
                  clear hb4
                  go_wp2_with fail
                  have hp5 := heap_alloc_new wr (.cells #[.int .i64 x.s, .int .i64 x.q, .int .i64 x.a, .int .i64 x.k, .int .i64 x.r, .int .i64 x.t, .int .i64 x.re, .int .i64 x.im] 52)
                  have ba := (Below.refl _ wr).alloc (Nat.le_refl _) (.cells #[.int .i64 x.s, .int .i64 x.q, .int .i64 x.a, .int .i64 x.k, .int .i64 x.r, .int .i64 x.t, .int .i64 x.re, .int .i64 x.im] 52)
                  generalize wr.alloc (.cells #[.int .i64 x.s, .int .i64 x.q, .int .i64 x.a, .int .i64 x.k, .int .i64 x.r, .int .i64 x.t, .int .i64 x.re, .int .i64 x.im] 52) = w5 at *
                  have hrd5 := hrd.below ba
                  have hbl5 := hbl.trans (ba.mono hbl.size)
                  have hz5 := lt_of_block hp5
                  have hza := ba.size
                  have HK : Hid (∀ W, Kept (fun k => k = g) w5 W → W.cell? ⟨wr.heap.size, 0, none⟩ = some (.int .i64 x.s) ∧ W.cell? ⟨wr.heap.size, 1, none⟩ = some (.int .i64 x.q) ∧ W.cell? ⟨wr.heap.size, 2, none⟩ = some (.int .i64 x.a) ∧ W.cell? ⟨wr.heap.size, 3, none⟩ = some (.int .i64 x.k) ∧ W.cell? ⟨wr.heap.size, 4, none⟩ = some (.int .i64 x.r) ∧ W.cell? ⟨wr.heap.size, 5, none⟩ = some (.int .i64 x.t) ∧ W.cell? ⟨wr.heap.size, 6, none⟩ = some (.int .i64 x.re) ∧ W.cell? ⟨wr.heap.size, 7, none⟩ = some (.int .i64 x.im)) := hide (fun W h => by
                    have hq := (h.block wr.heap.size hz5 (by omega)).trans hp5
                    exact ⟨(row_cells hq 0).1, (row_cells hq 1).1, (row_cells hq 2).1, (row_cells hq 3).1, (row_cells hq 4).1, (row_cells hq 5).1, (row_cells hq 6).1, (row_cells hq 7).1⟩)
                  have HVS : Hid (∀ W, Kept (fun k => k = g) w5 W → Below W0.heap.size W0 W) := hide (fun W h => hbl5.trans (h.below hbl5.size (fun k hk => by omega)))
                  clear hrd hbl ba hp5 e0 e1 e2 e3 e4 e5 e6 e7 hbr
                  have r5 : Kept (fun k => k = g) w5 w5 := Kept.refl _ _
                  have r5d : Kept (fun k => k = g) w5 w5.drew := (Kept.refl _ w5).drew
                  have hrd5d : Rd w5.drew g b4 (encL x.ints ++ R) 0 := hrd5
                  have HTK : Hid (∀ W, Rd W g b4 (encL x.ints ++ R) 0 → (∀ k, b4 = some k → k < W.heap.size) → Calls Try.prog 53 #[.pointer (some ⟨g, 0, none⟩)] W fun e w' => e = .returned (.agg #[.int .i64 x.s, .int .i64 x.q, .int .i64 x.a, .int .i64 x.k, .int .i64 x.r, .int .i64 x.t, .int .i64 x.re, .int .i64 x.im]) ∧ ∃ b', RGo g b4 W (R, 0) b' w') := hide (fun W h hfoot => by
                    have hq := takecmd_any g b4 (encL x.ints ++ R, 0) W h hfoot
                    rw [tk_enc HXX.out R] at hq
                    exact hq)
                  have HFT6 : Hid (∀ k, b4 = some k → k < w5.drew.heap.size) := hide (fun k hk => by have := HB4.out k hk; show k < w5.heap.size; omega)
                  have kn := fun w => equal_cmd 9997 x x w
                  rw [show eqC x x = true from decide_eq_true rfl] at kn
                  go_region_held3 (fun W => W.cell? ⟨wr.heap.size, 0, none⟩ = some (.int .i64 x.s) ∧ W.cell? ⟨wr.heap.size, 1, none⟩ = some (.int .i64 x.q) ∧ W.cell? ⟨wr.heap.size, 2, none⟩ = some (.int .i64 x.a) ∧ W.cell? ⟨wr.heap.size, 3, none⟩ = some (.int .i64 x.k) ∧ W.cell? ⟨wr.heap.size, 4, none⟩ = some (.int .i64 x.r) ∧ W.cell? ⟨wr.heap.size, 5, none⟩ = some (.int .i64 x.t) ∧ W.cell? ⟨wr.heap.size, 6, none⟩ = some (.int .i64 x.re) ∧ W.cell? ⟨wr.heap.size, 7, none⟩ = some (.int .i64 x.im)) (first | exact HK.out _ r5 | exact HK.out _ r5d | exact HK.out _ k6 | go_keep) (first
                    | ((go_at_call 53; (with_reducible refine (HTK.out _ ?_ ?_).mono ?_)); exact hrd5d; exact HFT6.out; rintro e w6 ⟨rfl, b6, h6⟩; have k6 := r5d.step h6.kept (fun k hk => .inl hk)))
                  have hrd6 : Rd w6 g b6 R 0 := h6.rd
                  have hl6 : b6 = gb ∨ b6 = none := by
                    rcases h6.lie with e | e
                    · rcases hlie with e' | e'
                      · exact .inl (e.trans e')
                      · exact .inr (e.trans e')
                    · exact .inr e
                  have hbl6 := HVS.out _ k6
                  have hz6 := k6.size
                  clear h6
                  go_wp2_with fail
                  go_roundw
                  case rel => exact ⟨j4 + 1, b6, by omega, by go_num, by rw [HR.out]; exact hrd6, hl6, hbl6, by omega⟩
                  case measure => simp [intOf]; omega
                · obtain rfl : j4 = i2 := by omega
                  rw [show encCs (cs.drop j4) = [] from by rw [List.drop_of_length_le (by rw [HN'.out]; omega)]; rfl] at hrd
                  clear hVr hCr
                  go_wp2_with fail
                  refine (rdone_end g b4 wr hrd).mono ?_
                  rintro e w12 ⟨rfl, rfl⟩
                  go_wp2
                  go_ret
                  exact ⟨rfl, hbr⟩
end Go.Proofs.Ytapbcpilklhoiaa
