/-
  The walk of ValueCodes. No condition but the reach of what is read.
-/
import Derived.Test.YtapbcpilklhoiaaValRefDec
import Derived.Test.YtapbcpilklhoiaaValBytes
import Derived.Laws.OwnMore
set_option linter.unusedSimpArgs false
set_option linter.unusedVariables false
namespace Go.Proofs.Ytapbcpilklhoiaa
open Go.RowKit

/-- A row of one's own at one of its cells. -/
theorem own_at {w : World} {B e : Nat} {A : Option Addr} {n c : Nat} {zs : List Value} (h : w.ownsRow B e 1 (.slice A n c) n zs) (hn : 0 < n) :
    ∃ g, A = some ⟨g, 0, none⟩ ∧ ∀ j, j < n → w.cell? ⟨g, j, none⟩ = zs[j]? ∧ w.frozen? ⟨g, j, none⟩ = false ∧ ∀ u, (w.setCell ⟨g, j, none⟩ u).ownsRow B e 1 (.slice A n c) n (zs.set j u) := by
  rcases h.2 with ⟨_, e⟩ | ⟨g, cap, cur, hv, _⟩
  · omega
  · injection hv with e1 e2 e3
    subst e1 e3
    exact ⟨g, rfl, fun j hj => ⟨h.cellAt j (by omega), h.frozenAt j, fun u => (h.stored j u).1⟩⟩
theorem IsV.bytes {w : World} {B n m : Nat} {A D : Option Addr} {cs : List Cmdv} {ns : List Int} (h : IsV w B A n D m cs ns) (hB : B ≤ w.heap.size) (k : Int) (c d : Nat) (hf : FineV k cs ns) :
    Calls Try.prog 38 #[.agg #[.int .i64 k, .slice A n c, .slice D m d]] w (Makes (encV k cs ns) w) :=
  rvbytes_any k A D n c m d B cs ns w h.c h.i hB h.en h.em h.cc (by have h1 := hf.cl; have h2 := hf.nl; rw [h.en] at h1; rw [h.em] at h2; omega)

set_option maxRecDepth 20000 in
set_option maxHeartbeats 3200000 in
theorem codes_walk (k : Int) (A D A1 : Option Addr) (n c m d n1 c1 : Nat) (cs : List Cmdv) (ns : List Int) (bs : List UInt8) (w : World) (hV : IsV w w.heap.size A n D m cs ns) (hx : Has w w.heap.size A1 bs) (hn1 : bs.length = n1) (hc1 : n1 ≤ c1) (hl1 : n1 ≤ 140737488351232) :
    Calls Try.prog 9 #[.agg #[.int .i64 k, .slice A n c, .slice D m d], .slice A1 n1 c1] w fun e w' => e = .returned (.bool true) ∧ Below w.heap.size w w' := by
  have HN1 := hide hn1
  clear hn1
  have hcc := hV.cc
  have HF : Hid (chkV k cs ns = 0 → FineV k cs ns ∧ (encV k cs ns).length ≤ 1000) := hide (fun h => ⟨chkV_fine hcc h, encV_len (chkV_fine hcc h)⟩)
  clear hcc
  go_enter Try.func9, Try.ntmps9
  go_wp2_with fail
  have ha0 := heap_alloc_new w (.cells #[.int .i64 k, .slice A n c, .slice D m d] 48)
  have hw0 : Below w.heap.size w (w.alloc (.cells #[.int .i64 k, .slice A n c, .slice D m d] 48)) := by go_grown
  generalize w.alloc (.cells #[.int .i64 k, .slice A n c, .slice D m d] 48) = W0 at *
  have hz0 : w.heap.size < W0.heap.size := lt_of_block ha0
  have HVs : Hid (∀ W, Below W0.heap.size W0 W → IsV W w.heap.size A n D m cs ns ∧ Has W w.heap.size A1 bs ∧ w.heap.size < W.heap.size ∧ Below w.heap.size w W) := hide (fun W h => by
    have hb := hw0.trans (h.mono (by omega))
    exact ⟨hV.below hb, hx.below hb, Nat.lt_of_lt_of_le hz0 h.size, hb⟩)
  have HBx : Hid (∀ W, Below W0.heap.size W0 W → W.cell? ⟨w.heap.size, 0, none⟩ = some (.int .i64 k) ∧ W.cell? ⟨w.heap.size, 1, none⟩ = some (.slice A n c) ∧ W.cell? ⟨w.heap.size, 2, none⟩ = some (.slice D m d)) := hide (fun W h => by
    have hp := (h.block w.heap.size (by omega)).trans ha0
    exact ⟨(row_cells hp 0).1, (row_cells hp 1).1, (row_cells hp 2).1⟩)
  clear ha0 hx
  refine (head6_any _).mono ?_
  rintro e w1 ⟨rfl, b1⟩
  obtain ⟨p0, p1, p2⟩ := HBx.out _ b1
  obtain ⟨i1, i2, i3, i4⟩ := HVs.out _ b1
  go_wp2_with fail
  refine (i1.rcheck (by omega) k c d).mono ?_
  rintro e w2 ⟨rfl, b2'⟩
  have b2 := b1.trans (b2'.mono b1.size)
  clear p0 p1 p2 i1 i2 i3 i4 b1 b2'
  obtain ⟨p0, p1, p2⟩ := HBx.out _ b2
  obtain ⟨i1, i2, i3, i4⟩ := HVs.out _ b2
  go_wp2_with fail
  refine (i1.copy (by omega) k c d).mono ?_
  rintro e w3 ⟨A3, c3, D3, d3, rfl, v3, b3'⟩
  have b3 := b2.trans (b3'.mono b2.size)
  go_wp2_with fail
  refine (v3.encode (Nat.le_refl _) k c3 d3).mono ?_
  rintro e w4 ⟨x4, rfl, ho4, hb4, b4'⟩
  have b4 := b3.trans (b4'.mono b3.size)
  have hz3 := b3.size
  clear p0 p1 p2 i1 i2 i3 i4 b2 b3 b3' b4' v3
  obtain ⟨p0, p1, p2⟩ := HBx.out _ b4
  obtain ⟨i1, i2, i3, i4⟩ := HVs.out _ b4
  go_wp2_with fail
  refine (i1.copy (by omega) k c d).mono ?_
  rintro e w5 ⟨A5, c5, D5, d5, rfl, v5, b5'⟩
  have b5 := b4.trans (b5'.mono b4.size)
  go_wp2_with fail
  refine (v5.encode (Nat.le_refl _) k c5 d5).mono ?_
  rintro e w6 ⟨y6, rfl, ho6, hb6, b6'⟩
  have b6 := b5.trans (b6'.mono b5.size)
  have b46 := b5'.trans (b6'.mono b5'.size)
  have hz45 := b5'.size
  have hx6 : Hid (chkV k cs ns = 0 → Own w6 w3.heap.size x4 (encV k cs ns) ∧ ∀ g, x4.ownBlock = some g → g < w4.heap.size) := hide (fun h => ⟨(ho4.out h).below b46, fun g hg => ((ho4.out h).lt g hg).2⟩)
  clear p0 p1 p2 i1 i2 i3 i4 b4 b5 b5' b6' v5 ho4 b46
  obtain ⟨p0, p1, p2⟩ := HBx.out _ b6
  obtain ⟨i1, i2, i3, i4⟩ := HVs.out _ b6
  by_cases h0 : chkV k cs ns = 0
  · obtain ⟨hfine, hlen⟩ := HF.out h0
    obtain ⟨hox, hxlt⟩ := hx6.out h0
    have hoy := ho6.out h0
    rw [h0]
    clear h0 hx6 ho6 hb4 hb6 HF
    obtain ⟨A7, n7, c7, rfl, en7, hnc7, hxs, _⟩ := hox.form
    obtain ⟨A8, n8, c8, rfl, en8, hnc8, hys, _⟩ := hoy.form
    rw [en7.out] at hlen
    go_wp2_with fail
    refine (i1.bytes (by omega) k c d hfine).mono ?_
    rintro e w7 ⟨v7, rfl, ho7, b7'⟩
    have b7 := b6.trans (b7'.mono b6.size)
    have hox7 := hox.below b7'
    have hoy7 := hoy.below b7'
    obtain ⟨A9, n9, c9, rfl, en9, hnc9, hzs, _⟩ := ho7.form
    obtain ⟨_, _, _, e7, _, _, hxs7, _⟩ := hox7.form
    cases e7
    clear hxs hys hox hoy i1 i2 i3 i4 p0 p1 p2 b6 ho7
    go_wp2_with fail
    refine (same_any A7 A9 n7 n9 c7 c9 _ _ _ _ w7 hxs7 hzs en7.out en9.out (by omega)).mono ?_
    rintro e w8 ⟨rfl, j8, rfl⟩
    rw [decide_eq_true rfl]
    go_wp2_with fail
    have hox8 := hox7.drewN j8
    have hoy8 := hoy7.drewN j8
    have b8 := below_drewN b7 j8
    generalize w7.drewN j8 = w8 at *
    clear hox7 hoy7 b7 b7' hzs hxs7
    have HB8 := hide b8
    have HX8 := hide hox8
    have HY8 := hide hoy8
    have HFN := hide hfine
    have HXL := hide hxlt
    clear b8 hox8 hoy8 hfine hxlt
    go_loopw [57] (fun i wr => ∃ (jj : Nat) (zs : List Value), jj ≤ n7 ∧ i = .int .i64 jj ∧ Hid (wr.ownsRow w3.heap.size 5 1 (.slice A7 n7 c7) n7 zs) ∧ Hid (∀ i, jj ≤ i → i < n7 → ∃ ch : UInt8, zs[i]? = some (byt ch)) ∧ Hid (Kept (fun j => (Value.slice A7 n7 c7).ownBlock = some j) w8 wr)) (fun i _ => n7 - (intOf i).toNat)
    case atStart =>
      refine ⟨0, _, Nat.zero_le _, rfl, hide (by have h := HX8.out; unfold Own at h; rw [en7.out] at h; exact h), hide (fun i _ hi => ?_), hide (Kept.refl _ _)⟩
      have hi' : i < (encV k cs ns).length := by rw [en7.out]; exact hi
      exact ⟨(encV k cs ns)[i], by simp [hi']⟩
    case round =>
      obtain ⟨jj, zs, hk, rfl, hz, hby, hkp⟩ := hrel
      by_cases hlt : jj < n7
      · obtain ⟨g, rfl, hs⟩ := own_at hz.out (by omega)
        obtain ⟨hu, hfz, hst⟩ := hs jj hlt
        obtain ⟨ch, hch⟩ := hby.out jj (Nat.le_refl _) hlt
        rw [hch] at hu
        unfold byt at hu
        have HST := hide hst
        clear hst hs hch
        go_wp2_with fail
        go_roundw
        case rel =>
          refine ⟨jj + 1, zs.set jj _, by omega, by go_num, hide (HST.out _), hide (fun i h1 h2 => ?_), hide (hkp.out.setCell (p := ⟨g, jj, none⟩) (.inl rfl) _)⟩
          obtain ⟨ch2, hc2⟩ := hby.out i (by omega) h2
          exact ⟨ch2, by rw [List.getElem?_set_ne (by omega)]; exact hc2⟩
        case measure => simp [intOf]; omega
      · obtain ⟨w9, hw9⟩ : ∃ W, W = wr := ⟨wr, rfl⟩
        subst hw9
        obtain rfl : jj = n7 := by omega
        have hk9 := hkp.out
        have hFlo : ∀ g, (Value.slice A7 jj c7).ownBlock = some g → w3.heap.size ≤ g := fun g hg => (HX8.out.lt g hg).1
        have hz8 := HB8.out.size
        have b9 : Below W0.heap.size W0 w9 := HB8.out.trans (hk9.below hz8 (fun g hg => by have := hFlo g hg; omega))
        have hoy9 := HY8.out.keep fun g hg => hk9.block g ((HY8.out.lt g hg).2) (fun e => by have h1 := HXL.out g e; have h2 := (HY8.out.lt g hg).1; omega)
        obtain ⟨p0, p1, p2⟩ := HBx.out _ b9
        obtain ⟨i1, i2, i3, i4⟩ := HVs.out _ b9
        clear hkp hby hz hk9 hFlo HX8 HY8 HB8 HXL hz8
        go_wp2_with fail
        refine (i1.bytes (by omega) k c d HFN.out).mono ?_
        rintro e w10 ⟨v10, rfl, ho10, b10'⟩
        have b10 := b9.trans (b10'.mono b9.size)
        have hoy10 := hoy9.below b10'
        obtain ⟨A10, n10, c10, rfl, en10, _, hzs, _⟩ := ho10.form
        obtain ⟨_, _, _, e8, _, _, hys, _⟩ := hoy10.form
        cases e8
        have hl8 : n8 ≤ 1000 := by rw [← en8.out, en7.out]; omega
        clear i1 i2 i3 i4 p0 p1 p2 b9 ho10 hoy9 hoy10 b10'
        go_wp2_with fail
        refine (same_any A8 A10 n8 n10 c8 c10 _ _ _ _ w10 hys hzs en8.out en10.out (by omega)).mono ?_
        rintro e w11 ⟨rfl, j11, rfl⟩
        rw [decide_eq_true rfl]
        have b20 := below_drewN b10 j11
        obtain ⟨i1, i2, i3, i4⟩ := HVs.out _ b20
        clear b10 hys hzs
        go_wp2_with fail
        generalize w10.drewN j11 = w20 at *
        refine (copy_any A1 n1 c1 bs w20 (i2.more (by omega)) HN1.out (by omega)).mono ?_
        rintro e w21 ⟨rfl, hw21⟩
        have hx21 := Has.new w20 5 bs (0, 0) _ rfl
        have b21' : Below w20.heap.size w20 (w20.alloc (.cells (bcells bs) 5)) := (Below.refl _ _).alloc (Nat.le_refl _) _
        have hs21 : w20.heap.size + 1 ≤ (w20.alloc (.cells (bcells bs) 5)).heap.size := by simp
        rw [hw21] at hx21 b21' hs21
        have b21 := b20.trans (b21'.mono b20.size)
        clear hw21 b21' i1 i2 i3 i4
        obtain ⟨i1, i2, i3, i4⟩ := HVs.out _ b21
        go_wp2_with fail
        refine (rvdecode_any A1 n1 c1 w.heap.size bs w21 i2 (by omega) HN1.out hc1 (by omega)).mono ?_
        rintro e w22 ⟨⟨A22, n22, c22, D22, m22, d22, rfl, v22⟩, b22'⟩
        have b22 := b21.trans (b22'.mono b21.size)
        have hx22 := hx21.below (b22'.mono hs21)
        have hs22 : w20.heap.size + 1 ≤ w22.heap.size := by have := b22'.size; omega
        have HV2 := hide (fun W (h : Has W (w20.heap.size + 1) (some ⟨w20.heap.size, 0, none⟩) bs) (hB : w20.heap.size + 1 ≤ W.heap.size) => vdecode_any (some ⟨w20.heap.size, 0, none⟩) n1 n1 (w20.heap.size + 1) bs W h hB HN1.out (by omega))
        unfold DecEnds at HV2
        generalize (if decE bs = 0 then ((rdV (bs, 0)).k : Int) else 0) = kx at *
        generalize (if decE bs = 0 then (rdV (bs, 0)).cs else []) = csx at *
        generalize (if decE bs = 0 then (rdV (bs, 0)).ns else []) = nsx at *
        generalize decE bs = de at *
        have hp23 := heap_alloc_new w22 (.cells #[.int .i64 kx, .slice A22 n22 c22, .slice D22 m22 d22] 48)
        have ba := (Below.refl _ w22).alloc (Nat.le_refl _) (.cells #[.int .i64 kx, .slice A22 n22 c22, .slice D22 m22 d22] 48)
        go_upto_region 17 with fail
        generalize w22.alloc (.cells #[.int .i64 kx, .slice A22 n22 c22, .slice D22 m22 d22] 48) = w23 at *
        have v23 := v22.last ba
        have b23 := b22.trans (ba.mono b22.size)
        have hx23 := hx22.below (ba.mono hs22)
        have hs23 : w20.heap.size + 1 ≤ w23.heap.size := by have := ba.size; omega
        clear b22 b22' b21 hx21 hx22 v22 ba i1 i2 i3 i4
        go_wp2_with fail
        refine (HV2.out w23 hx23 hs23).mono ?_
        rintro e w24 ⟨⟨A24, n24, c24, D24, m24, d24, rfl, v24⟩, b24'⟩
        have hp25 := heap_alloc_new w24 (.cells #[.int .i64 kx, .slice A24 n24 c24, .slice D24 m24 d24] 48)
        have bb := (Below.refl _ w24).alloc (Nat.le_refl _) (.cells #[.int .i64 kx, .slice A24 n24 c24, .slice D24 m24 d24] 48)
        have hz23 := lt_of_block hp23
        have hz24 := b24'.size
        go_upto_region 18 with fail
        generalize w24.alloc (.cells #[.int .i64 kx, .slice A24 n24 c24, .slice D24 m24 d24] 48) = w25 at *
        have b25' := b24'.trans (bb.mono b24'.size)
        have v25 := v24.last bb
        have v25' := v23.last b25'
        have b25 := b23.trans (b25'.mono b23.size)
        have hx25 := hx23.below (b25'.mono hs23)
        have hp235 := (b25'.block w22.heap.size hz23).trans hp23
        obtain ⟨i1, i2, i3, i4⟩ := HVs.out _ b25
        have y0 := (row_cells hp235 0).1
        have y1 := (row_cells hp235 1).1
        have y2 := (row_cells hp235 2).1
        have z0 := (row_cells hp25 0).1
        have z1 := (row_cells hp25 1).1
        have z2 := (row_cells hp25 2).1
        simp only [List.getElem?_toArray, List.getElem?_cons_succ, List.getElem?_cons_zero] at y0 y1 y2 z0 z1 z2
        have hs25 : w20.heap.size + 1 ≤ w25.heap.size := by have := bb.size; omega
        clear HV2 hx23 v23 v24 b23 b24' bb b25' hp23 hp235 hp25
        go_wp2_with fail
        have hsm := v25'.rsame v25 (Nat.le_refl _) kx c22 d22 kx c24 d24
        rw [sameV_refl] at hsm
        refine hsm.mono ?_
        rintro e w26 ⟨rfl, b26⟩
        have hx26 := hx25.below (b26.mono hs25)
        have hbs26 := i2.below (b26.mono (by omega))
        have i46 := i4.trans (b26.mono i4.size)
        clear hsm hx25 v25 v25' i1 i2 y0 y1 y2 z0 z1 z2
        go_wp2_with fail
        refine (same_any (some ⟨w20.heap.size, 0, none⟩) A1 n1 n1 n1 c1 _ _ bs bs w26 hx26 hbs26 HN1.out HN1.out (by omega)).mono ?_
        rintro e w27 ⟨rfl, j27, rfl⟩
        rw [decide_eq_true rfl]
        go_wp2
        go_ret
        exact ⟨rfl, below_drewN i46 _⟩
  · have hxn := hb4.out h0
    subst hxn
    have t0 : (chkV k cs ns == 0) = false := by rw [beq_eq_false_iff_ne]; exact h0
    have t1 : (chkV k cs ns != 0) = true := by rw [bne_iff_ne]; exact h0
    clear h0 hx6 ho6 hb4 hb6 HF
    generalize chkV k cs ns = ev at *
    go_wp2_with fail
    go_loop [57] (fun i => i = .int .i64 0) (fun _ => 0)
    case atStart => rfl
    case round =>
      subst hrel
      go_wp2_with fail
      obtain ⟨w20, hw20⟩ : ∃ W, W = w6 := ⟨w6, rfl⟩
      subst hw20
      have b20 := b6
      clear b6 p0 p1 p2
      refine (copy_any A1 n1 c1 bs w20 (i2.more (by omega)) HN1.out (by omega)).mono ?_
      rintro e w21 ⟨rfl, hw21⟩
      have hx21 := Has.new w20 5 bs (0, 0) _ rfl
      have b21' : Below w20.heap.size w20 (w20.alloc (.cells (bcells bs) 5)) := (Below.refl _ _).alloc (Nat.le_refl _) _
      have hs21 : w20.heap.size + 1 ≤ (w20.alloc (.cells (bcells bs) 5)).heap.size := by simp
      rw [hw21] at hx21 b21' hs21
      have b21 := b20.trans (b21'.mono b20.size)
      clear hw21 b21' i1 i2 i3 i4
      obtain ⟨i1, i2, i3, i4⟩ := HVs.out _ b21
      go_wp2_with fail
      refine (rvdecode_any A1 n1 c1 w.heap.size bs w21 i2 (by omega) HN1.out hc1 (by omega)).mono ?_
      rintro e w22 ⟨⟨A22, n22, c22, D22, m22, d22, rfl, v22⟩, b22'⟩
      have b22 := b21.trans (b22'.mono b21.size)
      have hx22 := hx21.below (b22'.mono hs21)
      have hs22 : w20.heap.size + 1 ≤ w22.heap.size := by have := b22'.size; omega
      have HV2 := hide (fun W (h : Has W (w20.heap.size + 1) (some ⟨w20.heap.size, 0, none⟩) bs) (hB : w20.heap.size + 1 ≤ W.heap.size) => vdecode_any (some ⟨w20.heap.size, 0, none⟩) n1 n1 (w20.heap.size + 1) bs W h hB HN1.out (by omega))
      unfold DecEnds at HV2
      generalize (if decE bs = 0 then ((rdV (bs, 0)).k : Int) else 0) = kx at *
      generalize (if decE bs = 0 then (rdV (bs, 0)).cs else []) = csx at *
      generalize (if decE bs = 0 then (rdV (bs, 0)).ns else []) = nsx at *
      generalize decE bs = de at *
      have hp23 := heap_alloc_new w22 (.cells #[.int .i64 kx, .slice A22 n22 c22, .slice D22 m22 d22] 48)
      have ba := (Below.refl _ w22).alloc (Nat.le_refl _) (.cells #[.int .i64 kx, .slice A22 n22 c22, .slice D22 m22 d22] 48)
      go_upto_region 17 with fail
      generalize w22.alloc (.cells #[.int .i64 kx, .slice A22 n22 c22, .slice D22 m22 d22] 48) = w23 at *
      have v23 := v22.last ba
      have b23 := b22.trans (ba.mono b22.size)
      have hx23 := hx22.below (ba.mono hs22)
      have hs23 : w20.heap.size + 1 ≤ w23.heap.size := by have := ba.size; omega
      clear b22 b22' b21 hx21 hx22 v22 ba i1 i2 i3 i4
      go_wp2_with fail
      refine (HV2.out w23 hx23 hs23).mono ?_
      rintro e w24 ⟨⟨A24, n24, c24, D24, m24, d24, rfl, v24⟩, b24'⟩
      have hp25 := heap_alloc_new w24 (.cells #[.int .i64 kx, .slice A24 n24 c24, .slice D24 m24 d24] 48)
      have bb := (Below.refl _ w24).alloc (Nat.le_refl _) (.cells #[.int .i64 kx, .slice A24 n24 c24, .slice D24 m24 d24] 48)
      have hz23 := lt_of_block hp23
      have hz24 := b24'.size
      go_upto_region 18 with fail
      generalize w24.alloc (.cells #[.int .i64 kx, .slice A24 n24 c24, .slice D24 m24 d24] 48) = w25 at *
      have b25' := b24'.trans (bb.mono b24'.size)
      have v25 := v24.last bb
      have v25' := v23.last b25'
      have b25 := b23.trans (b25'.mono b23.size)
      have hx25 := hx23.below (b25'.mono hs23)
      have hp235 := (b25'.block w22.heap.size hz23).trans hp23
      obtain ⟨i1, i2, i3, i4⟩ := HVs.out _ b25
      have y0 := (row_cells hp235 0).1
      have y1 := (row_cells hp235 1).1
      have y2 := (row_cells hp235 2).1
      have z0 := (row_cells hp25 0).1
      have z1 := (row_cells hp25 1).1
      have z2 := (row_cells hp25 2).1
      simp only [List.getElem?_toArray, List.getElem?_cons_succ, List.getElem?_cons_zero] at y0 y1 y2 z0 z1 z2
      have hs25 : w20.heap.size + 1 ≤ w25.heap.size := by have := bb.size; omega
      clear HV2 hx23 v23 v24 b23 b24' bb b25' hp23 hp235 hp25
      go_wp2_with fail
      have hsm := v25'.rsame v25 (Nat.le_refl _) kx c22 d22 kx c24 d24
      rw [sameV_refl] at hsm
      refine hsm.mono ?_
      rintro e w26 ⟨rfl, b26⟩
      have hx26 := hx25.below (b26.mono hs25)
      have hbs26 := i2.below (b26.mono (by omega))
      have i46 := i4.trans (b26.mono i4.size)
      clear hsm hx25 v25 v25' i1 i2 y0 y1 y2 z0 z1 z2
      go_wp2_with fail
      refine (same_any (some ⟨w20.heap.size, 0, none⟩) A1 n1 n1 n1 c1 _ _ bs bs w26 hx26 hbs26 HN1.out HN1.out (by omega)).mono ?_
      rintro e w27 ⟨rfl, j27, rfl⟩
      rw [decide_eq_true rfl]
      go_wp2
      go_ret
      exact ⟨rfl, below_drewN i46 _⟩
end Go.Proofs.Ytapbcpilklhoiaa
