/-
  Out of package link. Conditions: the numbers are not negative and within 2^41.
-/
import Derived.Test.YtpbfibofjkinmaaLinkP
import Derived.Test.YtpbfibofjkinmaaLinkS
import Derived.Handy
import Derived.Deep.RegionHeld3
import Derived.Deep.MidRow
set_option linter.unusedSimpArgs false
set_option linter.unusedVariables false
namespace Go.Proofs.Ytpbfibofjkinmaa
open Go.RowKit Go.Maps

/-- A number of an end is in reach. -/
def Num (x : Int) : Prop := 0 ≤ x ∧ x ≤ 2199023255552
theorem Num.nat {x : Int} (h : Num x) : ((x.toNat : Nat) : Int) = x ∧ x.toNat < 9223372036854775808 := by unfold Num at h; omega
structure Lk.Nums (k : Lk) : Prop where
  life : Num k.life
  pl : Num k.pl
  last : Num k.last
  ds : ∀ d ∈ k.ds, Num d
  ls : ∀ l ∈ k.ls, Num l.num
theorem Lk.Nums.old {k : Lk} (h : k.Nums) : 0 ≤ k.old ∧ k.old ≤ 2199023255553 := by
  unfold Lk.old
  have h1 := h.last
  unfold Num at h1
  split
  · omega
  · rename_i l ls e
    have := h.ls l (by rw [e]; simp)
    unfold Num at this
    omega

/-- How Out ends. -/
def OutEnds (base g : Nat) (wv mv dv : Value) (k : Lk) (now : Int) (w : World) (e : Ending) (w' : World) : Prop :=
  ∃ v ps, e = .returned v ∧ OwnF w' w.heap.size v ps ∧ ps.map Piece.bs = k.recs ++ k.carries now ∧ IsK w' base g wv mv (.slice none 0 0) (k.sentAt now) ∧ Kept (LBl g wv mv dv) w w'

theorem own_piece {w : World} {base : Nat} {A : Option Addr} {n c : Nat} {xs : List UInt8} (h : Own w base (.slice A n c) xs) : Own w base (Piece.val ⟨A, n, c, xs⟩) (Piece.bs ⟨A, n, c, xs⟩) := h

/-- A frame's content that was just made. -/
def P15 (w6 : World) (row : Array Value) (gp : Nat) (w8 : World) : Prop := w8.heap[gp]? = some (.cells row 97 (0, 0)) ∧ w6.heap.size ≤ gp ∧ Below w6.heap.size w6 w8
theorem p15_a {w6 w7 : World} (b7 : Below w6.heap.size w6.drew w7) (row : Array Value) : P15 w6 row w7.heap.size (w7.alloc (.cells row 97)) :=
  ⟨heap_alloc_new w7 _, b7.size, ((Below.refl _ w6).drew.trans b7).alloc b7.size _⟩
theorem p15_b {w6 w7 : World} {Z : Obj} (b7 : Below (w6.alloc Z).heap.size (w6.alloc Z).drew w7) (hq : w7.heap[w6.heap.size]? = some (.cells #[.int .i64 0, .int .i64 0, .int .i64 0, .int .i64 0, .slice none 0 0] 97 (0, 0))) (a0 a1 a2 a3 : Int) (A : Option Addr) (n c : Nat) :
    P15 w6 #[.int .i64 a0, .int .i64 a1, .int .i64 a2, .int .i64 a3, .slice A n c] w6.heap.size (((((w7.setCell ⟨w6.heap.size, 0, none⟩ (.int .i64 a0)).setCell ⟨w6.heap.size, 1, none⟩ (.int .i64 a1)).setCell ⟨w6.heap.size, 2, none⟩ (.int .i64 a2)).setCell ⟨w6.heap.size, 3, none⟩ (.int .i64 a3)).setCell ⟨w6.heap.size, 4, none⟩ (.slice A n c)) := by
  have hz : (w6.alloc Z).heap.size = w6.heap.size + 1 := by simp
  have hb : Below w6.heap.size w6 w7 := (((Below.refl _ w6).alloc (Nat.le_refl _) Z).drew).trans (b7.mono (by omega))
  have hk : Kept (fun k => k = w6.heap.size) w7 (((((w7.setCell ⟨w6.heap.size, 0, none⟩ (.int .i64 a0)).setCell ⟨w6.heap.size, 1, none⟩ (.int .i64 a1)).setCell ⟨w6.heap.size, 2, none⟩ (.int .i64 a2)).setCell ⟨w6.heap.size, 3, none⟩ (.int .i64 a3)).setCell ⟨w6.heap.size, 4, none⟩ (.slice A n c)) := ((((((Kept.refl (fun k => k = w6.heap.size) w7).setCell (p := ⟨w6.heap.size, 0, none⟩) (.inl rfl) _).setCell (p := ⟨w6.heap.size, 1, none⟩) (.inl rfl) _).setCell (p := ⟨w6.heap.size, 2, none⟩) (.inl rfl) _).setCell (p := ⟨w6.heap.size, 3, none⟩) (.inl rfl) _).setCell (p := ⟨w6.heap.size, 4, none⟩) (.inl rfl) _)
  refine ⟨?_, Nat.le_refl _, hb.trans (hk.below hb.size (fun k hk => by omega))⟩
  simp [World.setCell, Array.getElem?_modify, hq]

theorem p15_st {w6 w7 : World} {Z : Obj} (b7 : Below (w6.alloc Z).heap.size (w6.alloc Z).drew w7) (hq : w7.heap[w6.heap.size]? = some (.cells #[.int .i64 0, .int .i64 0, .int .i64 0, .int .i64 0, .slice none 0 0] 97 (0, 0))) (a0 a1 a2 a3 : Int) (A : Option Addr) (n c : Nat) :
    ∃ w9, (Instr.storeAt 97 (.pointer (some ⟨w6.heap.size, 0, none⟩)) (.agg #[.int .i64 a0, .int .i64 a1, .int .i64 a2, .int .i64 a3, .slice A n c])).run Try.prog w7 = .ok () w9 ∧ (storeVar 97 ⟨w6.heap.size, 0, none⟩ (.agg #[.int .i64 a0, .int .i64 a1, .int .i64 a2, .int .i64 a3, .slice A n c])).run Try.prog w7 = .ok () w9 ∧
      P15 w6 #[.int .i64 a0, .int .i64 a1, .int .i64 a2, .int .i64 a3, .slice A n c] w6.heap.size w9 ∧ ∀ j i, j ≠ w6.heap.size → w9.cell? ⟨j, i, none⟩ = w7.cell? ⟨j, i, none⟩ := by
  have hz : (w6.alloc Z).heap.size = w6.heap.size + 1 := by simp
  have hb : Below w6.heap.size w6 w7 := (((Below.refl _ w6).alloc (Nat.le_refl _) Z).drew).trans (b7.mono (by omega))
  have ht : w7.there w6.heap.size 0 5 := fun j hj => by
    rw [(row_cells hq (0 + j)).1, (row_cells hq (0 + j)).2]
    refine ⟨?_, rfl⟩
    rcases (show j = 0 ∨ j = 1 ∨ j = 2 ∨ j = 3 ∨ j = 4 by omega) with rfl | rfl | rfl | rfl | rfl <;> rfl
  refine ⟨_, run_storeAt_mid w7 w6.heap.size 0 97 _ ht (by kernel_rfl) (by simp; exact ⟨rfl, rfl, rfl, rfl, rfl⟩), run_storeVar_mid w7 w6.heap.size 0 97 _ ht (by kernel_rfl) (by simp; exact ⟨rfl, rfl, rfl, rfl, rfl⟩), ⟨?_, Nat.le_refl _, ?_⟩, fun j i hj => ?_⟩
  · simp [World.setCells, World.setCell, Array.getElem?_modify, hq]
  · exact hb.trans (((Kept.refl (fun k => k = w6.heap.size) w7).setCells (.inl rfl) 0 _).below hb.size (fun k hk => by omega))
  · exact World.cell?_of_block (w := w7) (a := ⟨j, i, none⟩) (setCells_other _ _ _ _ j hj)

theorem p15_set {w6 w8 : World} {gp : Nat} (h8 : w8.heap[gp]? = some (.cells #[.int .i64 0, .int .i64 0, .int .i64 0, .int .i64 0, .slice none 0 0] 97 (0, 0))) (hg : w6.heap.size ≤ gp) (hb : Below w6.heap.size w6 w8) (row : Array Value) :
    P15 w6 row gp (w8.setRow gp row) ∧ ∀ j i, j < w6.heap.size → (w8.setRow gp row).cell? ⟨j, i, none⟩ = w8.cell? ⟨j, i, none⟩ := by
  have hk := Kept.of_setRow w8 gp row
  refine ⟨⟨set_row_at h8, hg, hb.trans (hk.below hb.size (fun k hk => by omega))⟩, fun j i hj => hk.cell (by have := hb.size; omega) (by omega)⟩

set_option maxHeartbeats 16000000 in
set_option maxRecDepth 20000 in
theorem lout_any (base g : Nat) (wv mv dv : Value) (k : Lk) (now : Int) (w : World) (h : IsK w base g wv mv dv k) (hN : k.Nums) :
    Calls Try.prog 40 #[.pointer (some ⟨g, 0, none⟩), .int .i64 now] w (OutEnds base g wv mv dv k now w) := by
  obtain ⟨Ad, nd, cd, rfl, hnd, hncd, hds⟩ := h.due.form
  have c7 := (row_cells h.blk 7).1
  simp only [List.getElem?_toArray, List.getElem?_cons_succ, List.getElem?_cons_zero] at c7
  have HH := hide h
  have HNN := hide hN
  have hdl := h.dsl
  have hdn : nd ≤ 4096 := by have := hnd.out; omega
  have hgw := lt_of_block h.blk
  have HDS := hide hds
  clear h hN hdl hds
  go_enter Try.func40, Try.ntmps40
  go_wp2_with fail
  go_loopw [5, 19] (fun v5 i wr => ∃ (j : Nat) (ps : List Piece), j ≤ nd ∧ i = .int .i64 (j : Int) ∧ Hid (OwnF wr w.heap.size v5 ps) ∧ Hid (ps.map Piece.bs = k.recs.take j) ∧ Hid (Below w.heap.size w wr)) (fun _ i _ => nd - (intOf i).toNat)
  case atStart => exact ⟨0, [], by omega, rfl, hide (OwnF.nil _ _), hide rfl, hide (Below.refl _ _)⟩
  case round =>
    obtain ⟨j, ps, hj, rfl, hO, hP, hB⟩ := hrel
    by_cases hlt : j < nd
    · have hjl : j < k.ds.length := by rw [hnd.out]; exact hlt
      obtain ⟨b, o, rfl, hbb, hcell⟩ := (HDS.out.below hB.out) j hjl
      have hIr := HH.out.below hB.out
      have c4 := (row_cells hIr.blk 4).1
      simp only [List.getElem?_toArray, List.getElem?_cons_succ, List.getElem?_cons_zero] at c4
      have hd := (HNN.out.ds _ (List.getElem_mem hjl)).nat
      have hpl := HNN.out.pl.nat
      have hrt : k.recs.take (j + 1) = k.recs.take j ++ [frB 2 k.pl.toNat (k.ds[j]).toNat 0 []] := by
        have hjr : j < k.recs.length := by unfold Lk.recs; simpa using hjl
        rw [List.take_succ_eq_append_getElem hjr]
        simp [Lk.recs]
      have hlw := lwrite_any 2 k.pl.toNat (k.ds[j]).toNat 0 none 0 0 0 [] wr (Has.nil _ _ _) (Nat.zero_le _) rfl (by omega) (by omega) hpl.2 hd.2 (by omega)
      rw [hpl.1, hd.1] at hlw
      generalize k.ds[j] = d at *
      have HRT := hide hrt
      have hjn : (j : Int) < (nd : Int) := by omega
      clear hd hpl hrt hjl hIr
      have hpsl : ps.length = min j k.recs.length := by
        have := congrArg List.length hP.out
        simpa using this
      have hps : ps.length + 1 ≤ 1099511627776 := by omega
      have HPS := hide hps
      generalize frB 2 k.pl.toNat d.toNat 0 [] = fb at *
      clear hpsl hps
      go_wp2_with fail
      refine hlw.mono ?_
      rintro e w2 ⟨v2, rfl, ho2, hb2⟩
      obtain ⟨A2, n2, c2, rfl, _, _, _, _⟩ := ho2.form
      have hbz := hB.out.size
      have hb3 : Below w.heap.size w (w2.alloc (.cells #[.slice A2 n2 c2] 32)) := (hB.out.trans (hb2.mono hbz)).alloc (by have := hb2.size; omega) _
      have hO3 := (hO.out.below hb2).below ((Below.refl _ _).alloc (Nat.le_refl _) (.cells #[.slice A2 n2 c2] 32))
      have ho3 := (ho2.alloc (.cells #[.slice A2 n2 c2] 32)).from_ hbz
      have HO3 := hide hO3
      have HB3 := hide hb3
      have HQ3 := hide ho3
      have hz3 : w.heap.size ≤ w2.heap.size := by have := hb2.size; omega
      clear hlw ho2 hb2 hb3 hO3 ho3 c4 hcell
      go_wp2_with (at_builtin; refine list_append_piece _ rfl (.tmp 23) (.tmp 32) rfl w.heap.size _ ps rfl HO3.out.row ⟨w2.heap.size, 0, none⟩ 1 ⟨A2, n2, c2, fb⟩ rfl (by simp [Piece.val]) HPS.out (by simp; omega) ?_; intro v4 w4 ho4 hg4 hat4)
      have HO4 := hide (HO3.out.app (p := ⟨A2, n2, c2, fb⟩) HQ3.out ho4 hg4)
      have HB4 : Hid (Below w.heap.size w w4) := hide (HB3.out.grown hg4 HB3.out.size (fun q e => (HO3.out.row.lt q e).1))
      have HP4 : Hid ((ps ++ [(⟨A2, n2, c2, fb⟩ : Piece)]).map Piece.bs = k.recs.take (j + 1)) := hide (by rw [HRT.out, List.map_append, hP.out]; rfl)
      clear ho4 hg4 hat4
      go_roundw
      case rel => exact ⟨j + 1, _, by omega, by go_num, HO4, HP4, HB4⟩
      case measure => simp [intOf]; omega
    · obtain rfl : nd = j := by omega
      have hP1 : Hid (ps.map Piece.bs = k.recs) := hide (by rw [hP.out, List.take_of_length_le (by unfold Lk.recs; have := hnd.out; simp; omega)])
      have hI1 := HH.out.below hB.out
      obtain ⟨hI2, hk2⟩ := hI1.dueNil
      have hO2 := hO.out.kept hk2 (fun q cur t hc ht e => by
        subst e
        rw [hI1.blk] at hc
        injection hc with hc
        injection hc with _ hc
        rcases ht with ht | ht
        · exact absurd (hc.trans ht) (by decide)
        · exact absurd (hc.trans ht) (by decide))
      have c7 := (row_cells hI1.blk 7).1
      have f7 := (row_cells hI1.blk 7).2
      simp only [List.getElem?_toArray, List.getElem?_cons_succ, List.getElem?_cons_zero] at c7
      have hkk : Kept (LBl g wv mv (.slice Ad nd cd)) w (wr.setCell ⟨g, 7, none⟩ (.slice none 0 0)) := (Kept.of_below hB.out).step hk2 (fun q hq => .inl (.inl hq))
      have HI2 := hide hI2
      have HO2 := hide hO2
      have HKK := hide hkk
      clear hI1 hI2 hO2 hkk hk2 hO hP hB
      go_upto_region 10 with fail
      clear c7 f7
      generalize wr.setCell ⟨g, 7, none⟩ (.slice none 0 0) = w2 at *
      obtain ⟨Av, nv, cv, rfl, hnv, hncv, hcm, hrv, hz, hgv⟩ := HI2.out.row.form
      have c3 := (row_cells HI2.out.blk 3).1
      simp only [List.getElem?_toArray, List.getElem?_cons_succ, List.getElem?_cons_zero] at c3
      have hnv' : Hid (k.ls.length = nv) := hide (by have := hnv.out; simpa using this)
      have hnb : nv ≤ 4096 := by have := hnv'.out; have := HI2.out.len; simp only at this; omega
      clear hnv hrv hz hgv hcm
      have hrl : k.recs.length ≤ 4096 := by unfold Lk.recs; rw [List.length_map, hnd.out]; exact hdn
      have HRL := hide hrl
      clear hrl hnd hncd
      go_wp2_with fail
      go_loopw [5, 44] (fun v5 i wr => ∃ (j : Nat) (ps : List Piece), j ≤ nv ∧ i = .int .i64 (j : Int) ∧ Hid (OwnF wr w.heap.size v5 ps) ∧ Hid (ps.map Piece.bs = k.recs ++ k.part now j) ∧ Hid (IsK wr base g (.slice Av nv cv) mv (.slice none 0 0) (k.mid now j)) ∧ Hid (Kept (LBl g (.slice Av nv cv) mv (.slice Ad nd cd)) w wr)) (fun _ i _ => nv - (intOf i).toNat)
      case atStart => exact ⟨0, ps, by omega, rfl, HO2, hide (by rw [hP1.out]; simp [Lk.part]), hide (by rw [mid_zero]; exact HI2.out), HKK⟩
      case round =>
        clear HI2 HO2 HKK hP1 c3
        obtain ⟨j, ps, hj, rfl, hO, hP, hI, hK⟩ := hrel
        by_cases hlt : j < nv
        · have hjl : j < k.ls.length := by rw [hnv'.out]; exact hlt
          obtain ⟨hjm, hat⟩ := mid_at (now := now) hjl
          obtain ⟨A', n', c', e', _, _, _, hR, _, _⟩ := hI.out.row.form
          injection e' with e1 e2 e3
          subst e1 e2 e3
          obtain ⟨gb, rfl, hra, hth, hgl⟩ := hR j (by simpa using hjm)
          have hcell : ((k.mid now j).ls.map Ltr.cells)[j]'(by simpa using hjm) = (k.ls[j]).cells := by simp [hat]
          rw [hcell] at hra
          have hdt := hI.out.dat (k.mid now j).ls[j] (List.getElem_mem hjm)
          rw [hat] at hdt
          have hnum := HNN.out.ls _ (List.getElem_mem hjl)
          have HD : Hid ((dueB k.ls[j] now k.retry = true → ({ k.mid now j with ls := (k.mid now j).ls.set j { k.ls[j] with sent := true, at_ := now } } : Lk) = k.mid now (j + 1) ∧ k.part now (j + 1) = k.part now j ++ [k.car k.ls[j]]) ∧ (dueB k.ls[j] now k.retry = false → k.mid now (j + 1) = k.mid now j ∧ k.part now (j + 1) = k.part now j)) := hide ⟨fun e => ⟨mid_due hjl e, part_due hjl e⟩, fun e => ⟨mid_not hjl e, part_not hjl e⟩⟩
          generalize hll : k.ls[j] = l at *
          clear hcell hjl hR hll
          obtain ⟨num, A, n, c, sent, at_, xs⟩ := l
          simp only at hnum
          have hra' : wr.rangeAt gb (j * 4) [(.int .i64 num : Value), .slice A n c, .bool sent, .int .i64 at_] := hra
          have hjn : (j : Int) < (nv : Int) := by omega
          have c1 := (row_cells hI.out.blk 1).1
          have hgr := lt_of_block hI.out.blk
          simp only [List.getElem?_toArray, List.getElem?_cons_succ, List.getElem?_cons_zero] at c1
          have c1' : wr.cell? ⟨g, 1, none⟩ = some (.int .i64 k.retry) := c1
          clear hra c1
          go_upto_region 13 with (refine wpList_load_mid rfl 93 _ rfl gb (j * 4) (by simp [Act.eval, Act.put]) [(.int .i64 num : Value), .slice A n c, .bool sent, .int .i64 at_] _ hra' Try.underlying93 rfl (by kernel_rfl) ?_)
          have hbx := heap_alloc_new wr (.cells #[.int .i64 num, .slice A n c, .bool sent, .int .i64 at_] 93)
          have hbr : Below wr.heap.size wr (wr.alloc (.cells #[.int .i64 num, .slice A n c, .bool sent, .int .i64 at_] 93)) := (Below.refl _ _).alloc (Nat.le_refl _) _
          have hI3 := hI.out.below hbr
          have hO3 := hO.out.below hbr
          have hK3 := hK.out.step (Kept.of_below (F := fun _ => False) hbr) (fun q hq => hq.elim)
          have hth3 : (wr.alloc (.cells #[.int .i64 num, .slice A n c, .bool sent, .int .i64 at_] 93)).there gb (j * 4) 4 := fun q hq => by
            have := hth q hq
            simpa only [World.cell?, World.frozen?, hbr.block gb hgl] using this
          have r1 := (row_cells hI3.blk 1).1
          have r3 := (row_cells hI3.blk 3).1
          have r0 := (row_cells hI3.blk 0).1
          simp only [List.getElem?_toArray, List.getElem?_cons_succ, List.getElem?_cons_zero] at r1 r0 r3
          have r1' : (wr.alloc (.cells #[.int .i64 num, .slice A n c, .bool sent, .int .i64 at_] 93)).cell? ⟨g, 1, none⟩ = some (.int .i64 k.retry) := r1
          have r0' : (wr.alloc (.cells #[.int .i64 num, .slice A n c, .bool sent, .int .i64 at_] 93)).cell? ⟨g, 0, none⟩ = some (.int .i64 k.life) := r0
          have hzw : w.heap.size ≤ wr.heap.size := hK.out.size
          clear hra' c1' hgr hth r1 r0 hI hO hK
          generalize hw3 : wr.alloc (.cells #[.int .i64 num, .slice A n c, .bool sent, .int .i64 at_] 93) = w3 at *
          have hsz3 : wr.heap.size < w3.heap.size := by rw [← hw3]; simp
          generalize hgl' : wr.heap.size = gl at *
          have x0 := (row_cells hbx 0).1
          have x1 := (row_cells hbx 1).1
          have x2 := (row_cells hbx 2).1
          have x3 := (row_cells hbx 3).1
          simp only [List.getElem?_toArray, List.getElem?_cons_succ, List.getElem?_cons_zero] at x0 x1 x2 x3
          have HBX := hide hbx
          have HI3 := hide hI3
          have HO3 := hide hO3
          have HK3 := hide hK3
          have HDU : Hid (Calls Try.prog 61 #[.agg #[.int .i64 num, .slice A n c, .bool sent, .int .i64 at_], .int .i64 now, .int .i64 k.retry] w3.drew fun e w' => e = .returned (.bool (dueB ⟨num, A, n, c, sent, at_, xs⟩ now k.retry)) ∧ Hid (Below w3.heap.size w3 w')) := hide ((ldue_any ⟨num, A, n, c, sent, at_, xs⟩ now k.retry w3.drew).mono fun e w' => by
            rintro ⟨rfl, hb⟩
            exact ⟨rfl, hide (((Below.refl _ w3).drew).trans hb)⟩)
          have HXX : Hid (∀ w', Hid (Below w3.heap.size w3 w') → w'.cell? ⟨gl, 0, none⟩ = some (.int .i64 num) ∧ w'.cell? ⟨gl, 1, none⟩ = some (.slice A n c) ∧ w'.cell? ⟨gl, 2, none⟩ = some (.bool sent) ∧ w'.cell? ⟨gl, 3, none⟩ = some (.int .i64 at_) ∧ w'.cell? ⟨g, 1, none⟩ = some (.int .i64 k.retry)) := hide (fun w' hb => by
            have hq := (hb.out.block gl (lt_of_block HBX.out)).trans HBX.out
            have hq2 := ((HI3.out.below hb.out).blk)
            exact ⟨(row_cells hq 0).1, (row_cells hq 1).1, (row_cells hq 2).1, (row_cells hq 3).1, (row_cells hq2 1).1⟩)
          clear hbx hI3 hO3 hK3 hw3 hbr hgl'
          go_region_held3 (fun w' => w'.cell? ⟨gl, 0, none⟩ = some (.int .i64 num) ∧ w'.cell? ⟨gl, 1, none⟩ = some (.slice A n c) ∧ w'.cell? ⟨gl, 2, none⟩ = some (.bool sent) ∧ w'.cell? ⟨gl, 3, none⟩ = some (.int .i64 at_) ∧ w'.cell? ⟨g, 1, none⟩ = some (.int .i64 k.retry)) (first | exact ⟨x0, x1, x2, x3, r1'⟩ | exact HXX.out _ q4 | go_keep) (first | ((go_at_call 61; (with_reducible refine HDU.out.mono ?_)); rintro e w4 ⟨rfl, q4⟩))
          have hI4 := HI3.out.below q4.out
          have hO4 := HO3.out.below q4.out
          have hK4 := HK3.out.step (Kept.of_below (F := fun _ => False) q4.out) (fun q hq => hq.elim)
          have hx4 := (q4.out.block gl (lt_of_block HBX.out)).trans HBX.out
          have hz4 : w.heap.size ≤ w4.heap.size := hK4.size
          clear x0 x1 x2 x3 r1' r0' r3 HDU HXX HI3 HO3 HK3 HBX hth3 q4 hsz3
          cases hdu : dueB ⟨num, A, n, c, sent, at_, xs⟩ now k.retry
          · obtain ⟨e1, e2⟩ := HD.out.2 hdu
            have HI4 : Hid (IsK w4 base g (.slice (some ⟨gb, 0, none⟩) nv cv) mv (.slice none 0 0) (k.mid now (j + 1))) := hide (by rw [e1]; exact hI4)
            have HP4 : Hid (ps.map Piece.bs = k.recs ++ k.part now (j + 1)) := hide (by rw [e2]; exact hP.out)
            have HO4 := hide hO4
            have HK4 := hide hK4
            clear e1 e2 hI4 hO4 hK4 hx4 hdu HD
            go_wp2_with fail
            go_roundw
            case rel => exact ⟨j + 1, ps, by omega, by go_num, HO4, HP4, HI4, HK4⟩
            case measure => simp [intOf]; omega
          · obtain ⟨e1, e2⟩ := HD.out.1 hdu
            have E1 := hide e1
            have E2 := hide e2
            clear e1 e2 hdu HD
            obtain ⟨hjm4, hat4⟩ : ∃ h' : j < (k.mid now j).ls.length, (k.mid now j).ls[j] = ⟨num, A, n, c, sent, at_, xs⟩ := ⟨hjm, hat⟩
            obtain ⟨s1, s2⟩ := hI4.stampAt j hjm4 now
            rw [hat4, E1.out] at s1
            have c3 := (row_cells hI4.blk 3).1
            simp only [List.getElem?_toArray, List.getElem?_cons_succ, List.getElem?_cons_zero] at c3
            obtain ⟨_, _, _, e', _, _, _, hR, _, _⟩ := hI4.row.form
            injection e' with e1 e2 e3
            subst e1 e2 e3
            obtain ⟨gb', e', hra, hth, hgl4⟩ := hR j (by simpa using hjm4)
            injection e' with e'
            injection e' with e'
            subst e'
            have hcell : ((k.mid now j).ls.map Ltr.cells)[j]'(by simpa using hjm4) = [(.int .i64 num : Value), .slice A n c, .bool sent, .int .i64 at_] := by simp [hat4, Ltr.cells]
            rw [hcell] at hra
            have n2 := hra 2 (.bool sent) rfl
            have n3 := hra 3 (.int .i64 at_) rfl
            have m2 := (hth 2 (by omega)).2
            have m3 := (hth 3 (by omega)).2
            obtain ⟨cur, hcur⟩ := hI4.row.typed gb rfl
            have hcur2 := set_cell_at (i := j * 4 + 2) (.bool true) hcur
            have n3' : (w4.setCell ⟨gb, j * 4 + 2, none⟩ (.bool true)).cell? ⟨gb, j * 4 + 3, none⟩ = some (.int .i64 at_) := by
              rw [(row_cells hcur2 (j * 4 + 3)).1, Array.getElem?_setIfInBounds_ne (by omega), ← (row_cells hcur (j * 4 + 3)).1]
              exact n3
            have m3' := (row_cells hcur2 (j * 4 + 3)).2
            have hmem : (⟨num, A, n, c, true, now, xs⟩ : Ltr) ∈ (k.mid now (j + 1)).ls := by
              have e := congrArg Lk.ls E1.out
              rw [← e]
              exact List.mem_set hjm4 _
            have HMEM := hide hmem
            clear hmem
            have S1 := hide s1
            have S2 := hide s2
            have HI4 := hide hI4
            have HO4 := hide hO4
            have HK4 := hide hK4
            have HX4 := hide hx4
            clear s1 s2 hI4 hO4 hK4 hx4 hra hth hR hcell hcur hcur2
            go_upto_region 14 with fail
            have hgbg : gb ≠ g := fun e => HI4.out.ng (by rw [← e]; rfl)
            go_region_held3 (fun w' => w'.cell? ⟨g, 3, none⟩ = some (.slice (some ⟨gb, 0, none⟩) nv cv)) (first | exact c3 | exact (World.cell?_setCell_far _ _ _ _ hgbg).trans c3 | exact (World.cell?_setCell_far _ _ _ _ hgbg).trans ((World.cell?_setCell_far _ _ _ _ hgbg).trans c3) | go_keep) (fail)
            have hI6 := S1.out.drew
            have hk6 : Kept (fun q => q = gb) w4 ((w4.setCell ⟨gb, j * 4 + 2, none⟩ (.bool true)).setCell ⟨gb, j * 4 + 3, none⟩ (.int .i64 now)).drew := S2.out.drew
            clear S1 S2 n2 n3 m2 m3 n3' m3' c3
            generalize ((w4.setCell ⟨gb, j * 4 + 2, none⟩ (.bool true)).setCell ⟨gb, j * 4 + 3, none⟩ (.int .i64 now)).drew = w6 at *
            have hx6 := (hk6.block gl (lt_of_block HX4.out) (by omega)).trans HX4.out
            have hO6 := HO4.out.kept hk6 (fun q cur t hc ht e => by
              subst e
              obtain ⟨cur', hc'⟩ := HI4.out.row.typed q rfl
              rw [hc'] at hc
              injection hc with hc
              injection hc with _ hc
              rcases ht with ht | ht
              · exact absurd (hc.trans ht) (by decide)
              · exact absurd (hc.trans ht) (by decide))
            have hK6 := HK4.out.step hk6 (fun q hq => .inl (.inr (.inl (by rw [hq]; rfl))))
            have hz6 := hk6.size
            have hol := HNN.out.old
            have hlast := HNN.out.last
            unfold Num at hlast hnum
            have HOL : Hid (Calls Try.prog 56 #[.pointer (some ⟨g, 0, none⟩)] w6.drew fun e w' => e = .returned (.int .i64 k.old) ∧ Below w6.heap.size w6.drew w') := hide ((loldest_any base g _ mv _ (k.mid now (j + 1)) w6.drew hI6.drew hlast.1 (show k.last ≤ _ by omega)).mono fun e w' => by
              rintro ⟨rfl, rfl⟩
              rw [mid_old]
              exact ⟨rfl, Below.refl _ _⟩)
            have hIz := hI6.below ((Below.refl _ _).alloc (Nat.le_refl _) (.cells #[.int .i64 0, .int .i64 0, .int .i64 0, .int .i64 0, .slice none 0 0] 97))
            have HOZ : Hid (Calls Try.prog 56 #[.pointer (some ⟨g, 0, none⟩)] (w6.alloc (.cells #[.int .i64 0, .int .i64 0, .int .i64 0, .int .i64 0, .slice none 0 0] 97)).drew fun e w' => e = .returned (.int .i64 k.old) ∧ Below (w6.alloc (.cells #[.int .i64 0, .int .i64 0, .int .i64 0, .int .i64 0, .slice none 0 0] 97)).heap.size (w6.alloc (.cells #[.int .i64 0, .int .i64 0, .int .i64 0, .int .i64 0, .slice none 0 0] 97)).drew w') := hide ((loldest_any base g _ mv _ (k.mid now (j + 1)) _ hIz.drew hlast.1 (show k.last ≤ _ by omega)).mono fun e w' => by
              rintro ⟨rfl, rfl⟩
              rw [mid_old]
              exact ⟨rfl, Below.refl _ _⟩)
            have y0 := (row_cells hI6.blk 0).1
            have z0 := (row_cells hx6 0).1
            have z1 := (row_cells hx6 1).1
            simp only [List.getElem?_toArray, List.getElem?_cons_succ, List.getElem?_cons_zero] at y0 z0 z1
            have y0' : w6.cell? ⟨g, 0, none⟩ = some (.int .i64 k.life) := y0
            have HI6 := hide hI6
            have HO6 := hide hO6
            have HK6 := hide hK6
            have HYZ : Hid (∀ w' : World, (∀ q, q < w6.heap.size → w'.heap[q]? = w6.heap[q]?) → w'.cell? ⟨g, 0, none⟩ = some (.int .i64 k.life) ∧ w'.cell? ⟨gl, 0, none⟩ = some (.int .i64 num) ∧ w'.cell? ⟨gl, 1, none⟩ = some (.slice A n c)) := hide (fun w' hb => by
              have a1 := (hb g (lt_of_block hI6.blk)).trans hI6.blk
              have a2 := (hb gl (lt_of_block hx6)).trans hx6
              exact ⟨(row_cells a1 0).1, (row_cells a2 0).1, (row_cells a2 1).1⟩)
            have HP : Hid (∀ w', Below w6.heap.size w6.drew w' → w'.cell? ⟨g, 0, none⟩ = some (.int .i64 k.life) ∧ w'.cell? ⟨gl, 0, none⟩ = some (.int .i64 num) ∧ w'.cell? ⟨gl, 1, none⟩ = some (.slice A n c)) := hide (fun w' hb => HYZ.out w' (fun q hq => hb.block q hq))
            have HZ4 : Hid (∀ (w' : World) (o : Obj), Below w6.heap.size w6.drew w' → (w'.alloc o).cell? ⟨g, 0, none⟩ = some (.int .i64 k.life) ∧ (w'.alloc o).cell? ⟨gl, 0, none⟩ = some (.int .i64 num) ∧ (w'.alloc o).cell? ⟨gl, 1, none⟩ = some (.slice A n c)) := hide (fun w' o hb => HYZ.out _ (fun q hq => (Below.heap_alloc w' o q (Nat.lt_of_lt_of_le hq hb.size)).trans (hb.block q hq)))
            have HZ : Hid ((w6.alloc (.cells #[.int .i64 0, .int .i64 0, .int .i64 0, .int .i64 0, .slice none 0 0] 97)).cell? ⟨g, 0, none⟩ = some (.int .i64 k.life) ∧ (w6.alloc (.cells #[.int .i64 0, .int .i64 0, .int .i64 0, .int .i64 0, .slice none 0 0] 97)).cell? ⟨gl, 0, none⟩ = some (.int .i64 num) ∧ (w6.alloc (.cells #[.int .i64 0, .int .i64 0, .int .i64 0, .int .i64 0, .slice none 0 0] 97)).cell? ⟨gl, 1, none⟩ = some (.slice A n c)) := hide (HYZ.out _ (fun q hq => Below.heap_alloc w6 _ q hq))
            have HP2 : Hid (∀ w', Below (w6.alloc (.cells #[.int .i64 0, .int .i64 0, .int .i64 0, .int .i64 0, .slice none 0 0] 97)).heap.size (w6.alloc (.cells #[.int .i64 0, .int .i64 0, .int .i64 0, .int .i64 0, .slice none 0 0] 97)).drew w' → (w'.cell? ⟨g, 0, none⟩ = some (.int .i64 k.life) ∧ w'.cell? ⟨gl, 0, none⟩ = some (.int .i64 num) ∧ w'.cell? ⟨gl, 1, none⟩ = some (.slice A n c)) ∧ w'.heap[w6.heap.size]? = some (.cells #[.int .i64 0, .int .i64 0, .int .i64 0, .int .i64 0, .slice none 0 0] 97 (0, 0))) := hide (fun w' hb => by
              have hz : (w6.alloc (.cells #[.int .i64 0, .int .i64 0, .int .i64 0, .int .i64 0, .slice none 0 0] 97)).heap.size = w6.heap.size + 1 := by simp
              refine ⟨HYZ.out w' (fun q hq => (hb.block q (by omega)).trans (Below.heap_alloc w6 _ q hq)), ?_⟩
              have h2 := heap_alloc_new w6 (.cells #[.int .i64 0, .int .i64 0, .int .i64 0, .int .i64 0, .slice none 0 0] 97)
              exact (hb.block _ (lt_of_block h2)).trans h2)
            have hgl6 : gl < w6.heap.size := lt_of_block hx6
            have hg6 : g < w6.heap.size := lt_of_block hI6.blk
            have HBN : Hid (∀ w', Below w6.heap.size w6.drew w' → g ≠ w'.heap.size ∧ w'.heap.size ≠ g ∧ gl ≠ w'.heap.size ∧ w'.heap.size ≠ gl) := hide (fun w' hb => by
              have : w6.heap.size ≤ w'.heap.size := hb.size
              omega)
            have nb1 : g ≠ w6.heap.size := by omega
            have nb2 : w6.heap.size ≠ g := by omega
            have nb3 : gl ≠ w6.heap.size := by omega
            have nb4 : w6.heap.size ≠ gl := by omega
            have HW9 : Hid (∀ w' w9 : World, (w'.cell? ⟨g, 0, none⟩ = some (.int .i64 k.life) ∧ w'.cell? ⟨gl, 0, none⟩ = some (.int .i64 num) ∧ w'.cell? ⟨gl, 1, none⟩ = some (.slice A n c)) → (∀ j i, j < w6.heap.size → w9.cell? ⟨j, i, none⟩ = w'.cell? ⟨j, i, none⟩) → (w9.cell? ⟨g, 0, none⟩ = some (.int .i64 k.life) ∧ w9.cell? ⟨gl, 0, none⟩ = some (.int .i64 num) ∧ w9.cell? ⟨gl, 1, none⟩ = some (.slice A n c))) := hide (fun w' w9 h hc => by
              obtain ⟨h1, h2, h3⟩ := h
              exact ⟨(hc g 0 hg6).trans h1, (hc gl 0 hgl6).trans h2, (hc gl 1 hgl6).trans h3⟩)
            clear hI6 hO6 hK6 hx6 hk6 HX4 HO4 HK4 HI4 y0 hIz
            have HNN2 := hlast
            clear hlast hol HNN2
            go_upto_region 15 with fail
            go_cut [10] from 72 to 82 (fun s10 wx => ∃ gp, s10 = .pointer (some ⟨gp, 0, none⟩) ∧ Hid (P15 w6 #[.int .i64 1, .int .i64 k.life, .int .i64 num, .int .i64 k.old, .slice A n c] gp wx))
            case first => as_aux_lemma =>
              clear HMEM HNN HDS HRL hnv' hP hdn hgw hncv hnb hdt hjm hat hlt hjn hnum hzw hz4 hz6 hj HI6 HO6 HK6 E1 E2 c7
              -- MARK15
              refine wp_region_held_drew (S := fun W => W.cell? ⟨g, 0, none⟩ = some (.int .i64 k.life) ∧ W.cell? ⟨gl, 0, none⟩ = some (.int .i64 num) ∧ W.cell? ⟨gl, 1, none⟩ = some (.slice A n c)) (by kernel_rfl) ⟨y0', z0, z1⟩ (fun hHeld => ?_)
              refine wpAnyH_take (i := 0) (oi := _) (v := .pointer (some ⟨g, 0, none⟩)) rfl (by kernel_rfl) (by kernel_rfl) (by kernel_rfl) (fun _ _ _ h => h) (Or.inl ⟨by rfl, fun w' hSw => by dsimp only at hSw; go_simp⟩) hHeld ?_
              (try simp only [Act.put, List.setIfInBounds_toArray, List.set_cons_zero, List.set_cons_succ, List.getElem_toArray, List.getElem_cons_zero, List.getElem_cons_succ])
              refine wpAnyH_take (i := 1) (oi := _) (v := .pointer (some ⟨g, 0, none⟩)) rfl (by kernel_rfl) (by kernel_rfl) (by kernel_rfl) (fun _ _ _ h => h) (Or.inl ⟨by rfl, fun w' hSw => by dsimp only at hSw; go_simp⟩) hHeld ?_
              (try simp only [Act.put, List.setIfInBounds_toArray, List.set_cons_zero, List.set_cons_succ, List.getElem_toArray, List.getElem_cons_zero, List.getElem_cons_succ])
              refine wpAnyH_take (i := 2) (oi := _) (v := .pointer (some ⟨g, 0, none⟩)) rfl (by kernel_rfl) (by kernel_rfl) (by kernel_rfl) (fun _ _ _ h => h) (Or.inl ⟨by rfl, fun w' hSw => by dsimp only at hSw; go_simp⟩) hHeld ?_
              (try simp only [Act.put, List.setIfInBounds_toArray, List.set_cons_zero, List.set_cons_succ, List.getElem_toArray, List.getElem_cons_zero, List.getElem_cons_succ])
              refine wpAnyH_take (i := 3) (oi := _) (v := .int .i64 k.life) rfl (by kernel_rfl) (by kernel_rfl) (by kernel_rfl) (fun _ _ _ h => h) (Or.inl ⟨by rfl, fun w' hSw => by dsimp only at hSw; go_simp⟩) hHeld ?_
              (try simp only [Act.put, List.setIfInBounds_toArray, List.set_cons_zero, List.set_cons_succ, List.getElem_toArray, List.getElem_cons_zero, List.getElem_cons_succ])
              refine wpAnyH_take (i := 4) (oi := _) (v := .pointer (some ⟨gl, 0, none⟩)) rfl (by kernel_rfl) (by kernel_rfl) (by kernel_rfl) (fun _ _ _ h => h) (Or.inl ⟨by rfl, fun w' hSw => by dsimp only at hSw; go_simp⟩) hHeld ?_
              (try simp only [Act.put, List.setIfInBounds_toArray, List.set_cons_zero, List.set_cons_succ, List.getElem_toArray, List.getElem_cons_zero, List.getElem_cons_succ])
              refine wpAnyH_take (i := 5) (oi := _) (v := .int .i64 num) rfl (by kernel_rfl) (by kernel_rfl) (by kernel_rfl) (fun _ _ _ h => h) (Or.inl ⟨by rfl, fun w' hSw => by dsimp only at hSw; go_simp⟩) hHeld ?_
              (try simp only [Act.put, List.setIfInBounds_toArray, List.set_cons_zero, List.set_cons_succ, List.getElem_toArray, List.getElem_cons_zero, List.getElem_cons_succ])
              refine wpAnyH_take (i := 6) (oi := _) (v := .pointer (some ⟨g, 0, none⟩)) rfl (by kernel_rfl) (by kernel_rfl) (by kernel_rfl) (fun _ _ _ h => h) (Or.inl ⟨by rfl, fun w' hSw => by dsimp only at hSw; go_simp⟩) hHeld ?_
              (try simp only [Act.put, List.setIfInBounds_toArray, List.set_cons_zero, List.set_cons_succ, List.getElem_toArray, List.getElem_cons_zero, List.getElem_cons_succ])
              refine wpAnyH_take (i := 8) (oi := _) (v := .pointer (some ⟨gl, 1, none⟩)) rfl (by kernel_rfl) (by kernel_rfl) (by kernel_rfl) (fun _ _ _ h => h) (Or.inl ⟨by rfl, fun w' hSw => by dsimp only at hSw; go_simp⟩) hHeld ?_
              (try simp only [Act.put, List.setIfInBounds_toArray, List.set_cons_zero, List.set_cons_succ, List.getElem_toArray, List.getElem_cons_zero, List.getElem_cons_succ])
              refine wpAnyH_take (i := 9) (oi := _) (v := .slice A n c) rfl (by kernel_rfl) (by kernel_rfl) (by kernel_rfl) (fun _ _ _ h => h) (Or.inl ⟨by rfl, fun w' hSw => by dsimp only at hSw; go_simp⟩) hHeld ?_
              (try simp only [Act.put, List.setIfInBounds_toArray, List.set_cons_zero, List.set_cons_succ, List.getElem_toArray, List.getElem_cons_zero, List.getElem_cons_succ])
              refine wpAnyH_ready (rs := [7, 11]) (by kernel_rfl) (by simp) ?_
              refine AllReadyH.cons (o := _) rfl (fun K hK => ?_) (AllReadyH.cons (o := _) rfl (fun K hK => ?_) AllReadyH.nil)
              · (try simp only [List.getElem_toArray, List.getElem_cons_zero, List.getElem_cons_succ])
                go_simp
                refine HOL.out.mono ?_
                rintro e w7 ⟨rfl, b7⟩
                have yy := HP.out _ b7
                go_wp2_with fail
                refine hK.out _ _ yy (fun hHeld => ?_)
                clear hK
                (try simp only [Act.put, List.setIfInBounds_toArray, List.set_cons_zero, List.set_cons_succ, List.getElem_toArray, List.getElem_cons_zero, List.getElem_cons_succ])
                refine wpAnyH_take (i := 10) (oi := _) (v := .agg #[.int .i64 1, .int .i64 k.life, .int .i64 num, .int .i64 k.old, .slice A n c]) rfl (by kernel_rfl) (by kernel_rfl) (by kernel_rfl) (fun _ _ _ h => h) (Or.inl ⟨by rfl, fun w' hSw => by dsimp only at hSw; go_simp⟩) hHeld ?_
                (try simp only [Act.put, List.setIfInBounds_toArray, List.set_cons_zero, List.set_cons_succ, List.getElem_toArray, List.getElem_cons_zero, List.getElem_cons_succ])
                refine wpAnyH_ready (rs := [11]) (by kernel_rfl) (by simp) ?_
                refine AllReadyH.cons (o := _) rfl (fun K hK => ?_) AllReadyH.nil
                (try simp only [List.getElem_toArray, List.getElem_cons_zero, List.getElem_cons_succ])
                go_simp
                have zz := HZ4.out _ (.cells #[.int .i64 0, .int .i64 0, .int .i64 0, .int .i64 0, .slice none 0 0] 97) b7
                have h8 := heap_alloc_new w7 (.cells #[.int .i64 0, .int .i64 0, .int .i64 0, .int .i64 0, .slice none 0 0] 97)
                have hb8 : Below w6.heap.size w6 (w7.alloc (.cells #[.int .i64 0, .int .i64 0, .int .i64 0, .int .i64 0, .slice none 0 0] 97)) := ((Below.refl _ w6).drew.trans b7).alloc b7.size _
                have hg8 : w6.heap.size ≤ w7.heap.size := b7.size
                refine hK.out _ _ zz (fun hHeld => ?_)
                clear hK
                (try simp only [Act.put, List.setIfInBounds_toArray, List.set_cons_zero, List.set_cons_succ, List.getElem_toArray, List.getElem_cons_zero, List.getElem_cons_succ])
                generalize w7.alloc (.cells #[.int .i64 0, .int .i64 0, .int .i64 0, .int .i64 0, .slice none 0 0] 97) = w8 at *
                refine wpAnyH_ready (rs := [12]) (by kernel_rfl) (by simp) ?_
                refine AllReadyH.cons (o := _) rfl (fun K hK => ?_) AllReadyH.nil
                (try simp only [List.getElem_toArray, List.getElem_cons_zero, List.getElem_cons_succ])
                rw [if_pos (by rfl)]
                obtain ⟨p9, c9⟩ := p15_set (gp := w7.heap.size) h8 hg8 hb8 #[.int .i64 1, .int .i64 k.life, .int .i64 num, .int .i64 k.old, .slice A n c]
                refine wp_store_row 97 (.tmp 10) (.tmp 82) rfl (w7.heap.size) #[.int .i64 1, .int .i64 k.life, .int .i64 num, .int .i64 k.old, .slice A n c] rfl rfl _ _ h8 (by kernel_rfl) rfl (by simp; exact ⟨rfl, rfl, rfl, rfl, rfl⟩) ?_
                have HP9 := hide p9
                have vv := HW9.out _ _ hHeld c9
                clear p9 c9
                refine hK.out _ _ vv (fun hHeld => ?_)
                clear hK
                (try simp only [Act.put, List.setIfInBounds_toArray, List.set_cons_zero, List.set_cons_succ, List.getElem_toArray, List.getElem_cons_zero, List.getElem_cons_succ])
                refine wpAnyH_done (by kernel_rfl) ?_ _
                go_wp2_with fail
                go_meet
                exact ⟨_, rfl, HP9⟩
              · (try simp only [List.getElem_toArray, List.getElem_cons_zero, List.getElem_cons_succ])
                go_simp
                have h8 := heap_alloc_new w6.drew (.cells #[.int .i64 0, .int .i64 0, .int .i64 0, .int .i64 0, .slice none 0 0] 97)
                have h0 := HZ.out
                refine hK.out _ _ HZ.out (fun hHeld => ?_)
                clear hK
                (try simp only [Act.put, List.setIfInBounds_toArray, List.set_cons_zero, List.set_cons_succ, List.getElem_toArray, List.getElem_cons_zero, List.getElem_cons_succ])
                refine wpAnyH_ready (rs := [7]) (by kernel_rfl) (by simp) ?_
                refine AllReadyH.cons (o := _) rfl (fun K hK => ?_) AllReadyH.nil
                (try simp only [List.getElem_toArray, List.getElem_cons_zero, List.getElem_cons_succ])
                go_simp
                refine HOZ.out.mono ?_
                rintro e w7 ⟨rfl, b7⟩
                obtain ⟨yy, hq7⟩ := HP2.out _ b7
                have hz7 : (w6.alloc (.cells #[.int .i64 0, .int .i64 0, .int .i64 0, .int .i64 0, .slice none 0 0] 97)).heap.size = w6.heap.size + 1 := by simp
                have hb7 : Below w6.heap.size w6 w7 := (((Below.refl _ w6).alloc (Nat.le_refl _) (.cells #[.int .i64 0, .int .i64 0, .int .i64 0, .int .i64 0, .slice none 0 0] 97)).drew).trans (b7.mono (by omega))
                clear hz7
                go_wp2_with fail
                refine hK.out _ _ yy (fun hHeld => ?_)
                clear hK
                (try simp only [Act.put, List.setIfInBounds_toArray, List.set_cons_zero, List.set_cons_succ, List.getElem_toArray, List.getElem_cons_zero, List.getElem_cons_succ])
                refine wpAnyH_take (i := 10) (oi := _) (v := .agg #[.int .i64 1, .int .i64 k.life, .int .i64 num, .int .i64 k.old, .slice A n c]) rfl (by kernel_rfl) (by kernel_rfl) (by kernel_rfl) (fun _ _ _ h => h) (Or.inl ⟨by rfl, fun w' hSw => by dsimp only at hSw; go_simp⟩) hHeld ?_
                (try simp only [Act.put, List.setIfInBounds_toArray, List.set_cons_zero, List.set_cons_succ, List.getElem_toArray, List.getElem_cons_zero, List.getElem_cons_succ])
                refine wpAnyH_ready (rs := [12]) (by kernel_rfl) (by simp) ?_
                refine AllReadyH.cons (o := _) rfl (fun K hK => ?_) AllReadyH.nil
                (try simp only [List.getElem_toArray, List.getElem_cons_zero, List.getElem_cons_succ])
                rw [if_pos (by rfl)]
                obtain ⟨p9, c9⟩ := p15_set (gp := w6.heap.size) hq7 (Nat.le_refl _) hb7 #[.int .i64 1, .int .i64 k.life, .int .i64 num, .int .i64 k.old, .slice A n c]
                refine wp_store_row 97 (.tmp 10) (.tmp 82) rfl (w6.heap.size) #[.int .i64 1, .int .i64 k.life, .int .i64 num, .int .i64 k.old, .slice A n c] rfl rfl _ _ hq7 (by kernel_rfl) rfl (by simp; exact ⟨rfl, rfl, rfl, rfl, rfl⟩) ?_
                have HP9 := hide p9
                have vv := HW9.out _ _ hHeld c9
                clear p9 c9
                refine hK.out _ _ vv (fun hHeld => ?_)
                clear hK
                (try simp only [Act.put, List.setIfInBounds_toArray, List.set_cons_zero, List.set_cons_succ, List.getElem_toArray, List.getElem_cons_zero, List.getElem_cons_succ])
                refine wpAnyH_done (by kernel_rfl) ?_ _
                go_wp2_with fail
                go_meet
                exact ⟨_, rfl, HP9⟩
            case rest =>
              obtain ⟨gp, rfl, H8⟩ := hcut
              obtain ⟨h8, g8, b8⟩ := H8.out
              have hI8 := HI6.out.below b8
              have hO8 := HO6.out.below b8
              have hK8 := HK6.out.step (Kept.of_below (F := fun _ => False) b8) (fun q hq => hq.elim)
              obtain ⟨hdat, hdl⟩ := hI8.dat _ HMEM.out
              obtain ⟨_, _, _, e', hxn, _, hxx, _⟩ := hdat.form
              injection e' with e1 e2 e3
              subst e1 e2 e3
              have hlf := HNN.out.life.nat
              have hnm := (show Num num from hnum).nat
              have hod := HNN.out.old
              have hol2 : ((k.old.toNat : Nat) : Int) = k.old ∧ k.old.toNat < 9223372036854775808 := by omega
              have hlw := lwrite_any 1 k.life.toNat num.toNat k.old.toNat A n c wc.heap.size xs wc hxx (Nat.le_refl _) hxn.out (by have h1 : xs.length ≤ 65472 := hdl; have h2 : xs.length = n := hxn.out; omega) (by omega) hlf.2 hnm.2 hol2.2
              rw [hlf.1, hnm.1, hol2.1] at hlw
              have hcr : k.car ⟨num, A, n, c, sent, at_, xs⟩ = frB 1 k.life.toNat num.toNat k.old.toNat xs := rfl
              have e2' := E2.out
              rw [hcr] at e2'
              have HE2 := hide e2'
              have hpsl : ps.length ≤ 8192 := by
                have h1 := congrArg List.length hP.out
                have h2 := part_le k now j
                have h3 := HRL.out
                have h4 := hnv'.out
                simp at h1
                omega
              have hps : ps.length + 1 ≤ 1099511627776 := by omega
              have HPS := hide hps
              generalize frB 1 k.life.toNat num.toNat k.old.toNat xs = fb at *
              have hz8 : w.heap.size ≤ wc.heap.size := hK8.size
              have HI8 := hide hI8
              have HO8 := hide hO8
              have HK8 := hide hK8
              clear hI8 hO8 hK8 hdat hdl hxn hxx hlf hnm hod hol2 hcr e2' hpsl hps HI6 HO6 HK6 HMEM H8 E1 E2 b8 HOL HOZ HYZ HP HZ4 HZ HP2 HBN HW9 y0' z0 z1
              go_wp2_with (refine wpList_load_row rfl 97 _ rfl gp rfl _ _ _ _ h8 Try.underlying97 rfl (by kernel_rfl) ?_)
              refine hlw.mono ?_
              rintro e w9 ⟨v9, rfl, ho9, hb9⟩
              obtain ⟨A2, n2, c2, rfl, _, _, _, _⟩ := ho9.form
              have hbA : Below wc.heap.size wc (w9.alloc (.cells #[.slice A2 n2 c2] 32)) := hb9.alloc hb9.size _
              have HIA := hide (HI8.out.below hbA)
              have HOA := hide (HO8.out.below hbA)
              have HKA := hide (HK8.out.step (Kept.of_below (F := fun _ => False) hbA) (fun q hq => hq.elim))
              have HQA := hide ((ho9.alloc (.cells #[.slice A2 n2 c2] 32)).from_ hz8)
              have hz9 : w.heap.size ≤ w9.heap.size := by have := hb9.size; omega
              clear hlw ho9 hb9 hbA h8 HI8 HO8 HK8
              go_wp2_with (at_builtin; refine list_append_piece _ rfl (.tmp 83) (.tmp 86) rfl w.heap.size _ ps rfl HOA.out.row ⟨w9.heap.size, 0, none⟩ 1 ⟨A2, n2, c2, fb⟩ rfl (by simp [Piece.val]) HPS.out (by simp; omega) ?_; intro vB wB hoB hgB hatB)
              have HOB := hide (HOA.out.app (p := ⟨A2, n2, c2, fb⟩) HQA.out hoB hgB)
              have hkB := Kept.of_grown (F := fun q => u5.ownBlock = some q) hgB (fun q hq => hq)
              have HIB : Hid (IsK wB base g (.slice (some ⟨gb, 0, none⟩) nv cv) mv (.slice none 0 0) (k.mid now (j + 1))) := hide (HIA.out.kept hkB (fun q hq => by
                obtain ⟨cur, hc⟩ := ownsRow_typed HOA.out.row q hq
                refine ⟨HIA.out.other hc (by decide) (by decide) (by decide), fun l hl e => ?_⟩
                obtain ⟨cur', hc'⟩ := ownsRow_typed (HIA.out.dat l hl).1 q e
                exact typed_ne hc hc' (by decide) rfl))
              have HKB := hide (HKA.out.step hkB (fun q hq => .inr (HOA.out.row.lt q hq).1))
              have HPB : Hid ((ps ++ [(⟨A2, n2, c2, fb⟩ : Piece)]).map Piece.bs = k.recs ++ k.part now (j + 1)) := hide (by rw [HE2.out, List.map_append, hP.out, List.append_assoc]; rfl)
              clear hoB hgB hatB hkB
              go_roundw
              case rel => exact ⟨j + 1, _, by omega, by go_num, HOB, HPB, HIB, HKB⟩
              case measure => simp [intOf]; omega
        · obtain rfl : nv = j := by omega
          have hfin : k.mid now nv = k.sentAt now := by rw [← hnv'.out]; exact mid_all k now
          have hfin2 : k.part now nv = k.carries now := by rw [← hnv'.out]; exact part_all k now
          have hI9 := hI.out
          have hP9 := hP.out
          rw [hfin] at hI9
          rw [hfin2] at hP9
          have HI9 := hide hI9
          have HP9 := hide hP9
          clear hI9 hP9 hfin hfin2 hI hP
          go_wp2_with fail
          go_ret
          exact ⟨_, ps, rfl, hO.out, HP9.out, HI9.out, hK.out⟩
end Go.Proofs.Ytpbfibofjkinmaa
