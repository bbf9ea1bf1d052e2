/-
  The reference's Granted of package lease. No condition but the reach of what is read.
-/
import Derived.Test.YtgdncmkhcdmjoaaLeaseI
set_option linter.unusedSimpArgs false
set_option linter.unusedVariables false
namespace Go.Proofs.Ytgdncmkhcdmjoaa
open Go.RowKit
/-- What the reference's Granted answers. -/
def HRGEnds (ms ns tms : List Int) (hold node asked : Int) (Am : Option Addr) (nm cm : Nat) (An : Option Addr) (nn cn : Nat) (At : Option Addr) (nt ct : Nat) (w : World) (e : Ending) (w' : World) : Prop :=
  Below w.heap.size w w' ∧ (node ∉ ms → e = .returned (.tuple #[.agg #[.slice Am nm cm, .int .i64 hold, .slice An nn cn, .slice At nt ct], .bool false])) ∧
  (node ∈ ms → ∃ A1 n1 c1 A2 n2 c2, e = .returned (.tuple #[.agg #[.slice Am nm cm, .int .i64 hold, .slice A1 n1 c1, .slice A2 n2 c2], .bool true]) ∧ OwnI w' w.heap.size (.slice A1 n1 c1) (ns ++ [node]) ∧ OwnI w' w.heap.size (.slice A2 n2 c2) (tms ++ [asked]))
set_option maxHeartbeats 3200000 in
set_option maxRecDepth 20000 in
theorem hrgranted_any (ms ns tms : List Int) (hold node asked : Int) (Am : Option Addr) (nm cm : Nat) (An : Option Addr) (nn cn : Nat) (At : Option Addr) (nt ct : Nat) (w : World)
    (hm : HasI w w.heap.size Am ms) (hml : ms.length = nm) (hn : HasI w w.heap.size An ns) (hnl : ns.length = nn) (ht : HasI w w.heap.size At tms) (htl : tms.length = nt) (hl : nm ≤ 1000 ∧ nn ≤ 1000 ∧ nt ≤ 1000) :
    Calls Try.prog 33 #[.agg #[.slice Am nm cm, .int .i64 hold, .slice An nn cn, .slice At nt ct], .int .i64 node, .int .i64 asked] w (HRGEnds ms ns tms hold node asked Am nm cm An nn cn At nt ct w) := by
  obtain ⟨w0, hw0, hz0, hp0, hq0, hb0⟩ : ∃ w0, (w.alloc (.cells #[.slice Am nm cm, .int .i64 hold, .slice An nn cn, .slice At nt ct] 58)).alloc (.cells #[.slice none 0 0, .int .i64 0, .slice none 0 0, .slice none 0 0] 58) = w0 ∧ w0.heap.size = w.heap.size + 2 ∧ w0.heap[w.heap.size]? = some (.cells #[.slice Am nm cm, .int .i64 hold, .slice An nn cn, .slice At nt ct] 58 (0, 0)) ∧ w0.heap[w.heap.size + 1]? = some (.cells #[.slice none 0 0, .int .i64 0, .slice none 0 0, .slice none 0 0] 58 (0, 0)) ∧ Below w.heap.size w w0 := by
    refine ⟨_, rfl, by simp, (Below.heap_alloc _ _ _ (by simp)).trans (heap_alloc_new w _), ?_, by go_grown⟩
    have := heap_alloc_new (w.alloc (.cells #[.slice Am nm cm, .int .i64 hold, .slice An nn cn, .slice At nt ct] 58)) (.cells #[.slice none 0 0, .int .i64 0, .slice none 0 0, .slice none 0 0] 58)
    simpa using this
  have hm0 := hm.below hb0
  have hn0 := hn.below hb0
  have ht0 := ht.below hb0
  have hhas := rhas_any Am nm cm w.heap.size ms node w0 hm0 hml (by omega)
  have HP0 := hide hp0
  have HQ0 := hide hq0
  have HB0 := hide hb0
  have HZ0 := hide hz0
  have HN := hide hnl
  have HTL := hide htl
  obtain ⟨c0, f0⟩ := row_cells hp0 0
  obtain ⟨c2, f2⟩ := row_cells hp0 2
  obtain ⟨c3, f3⟩ := row_cells hp0 3
  simp only [List.getElem?_toArray, List.getElem?_cons_succ, List.getElem?_cons_zero] at c0 c2 c3
  clear hm hm0 hn ht hb0 hp0 hq0 hz0 hnl htl hml
  go_enter Try.func33, Try.ntmps33
  by_cases hmm : node ∈ ms
  · rw [decide_eq_true hmm] at hhas
    have HMM := hide hmm
    clear hmm
    go_wp2_with fail
    refine hhas.mono ?_
    rintro e _ ⟨rfl, rfl⟩
    obtain ⟨v1, wa, hr1, hown1, hba⟩ := run_copy_ints w0 22 An nn cn w.heap.size ns hn0 HN.out (by omega) (by have := HZ0.out; omega)
    have HR1 := hide hr1
    have HO1 := hide hown1
    have HBA := hide hba
    have hpa := (hba.block _ (lt_of_block HP0.out)).trans HP0.out
    have HPA := hide hpa
    have HQA := hide ((hba.block _ (lt_of_block HQ0.out)).trans HQ0.out)
    have hta := ht0.below (hba.mono (by have := HZ0.out; omega))
    obtain ⟨v2, wb, hr2, hown2, hbb⟩ := run_copy_ints wa 22 At nt ct w.heap.size tms hta HTL.out (by omega) (by have := HZ0.out; have := hba.size; omega)
    have HR2 := hide hr2
    have HO2 := hide hown2
    have HBB := hide hbb
    have c2a : (w0.alloc (.cells #[] 3)).cell? ⟨w.heap.size, 2, none⟩ = some (.slice An nn cn) := (row_cells ((Below.heap_alloc w0 (.cells #[] 3) _ (lt_of_block HP0.out)).trans HP0.out) 2).1
    have c3a : (wa.alloc (.cells #[] 3)).cell? ⟨w.heap.size, 3, none⟩ = some (.slice At nt ct) := (row_cells ((Below.heap_alloc wa (.cells #[] 3) _ (lt_of_block hpa)).trans hpa) 3).1
    clear hr1 hown1 hba hpa hta hr2 hown2 hbb hn0 ht0 hhas
    go_upto_region 4 with (at_builtin; refine list_append_want _ (by rfl) (.tmp 16) (.tmp 18) 22 22 rfl _ _ rfl rfl _ _ HR1.out ?_)
    clear c0 f0 c2 f2 c3 f3
    obtain ⟨c2, f2⟩ := row_cells HPA.out 2
    obtain ⟨c3, f3⟩ := row_cells HPA.out 3
    simp only [List.getElem?_toArray, List.getElem?_cons_succ, List.getElem?_cons_zero] at c2 c3
    have HPB := hide ((HBB.out.block _ (lt_of_block HPA.out)).trans HPA.out)
    have HQB := hide ((HBB.out.block _ (lt_of_block HQA.out)).trans HQA.out)
    have HOB := hide (HO1.out.below HBB.out)
    go_upto_region 5 with (at_builtin; refine list_append_want _ (by rfl) (.tmp 20) (.tmp 22) 22 22 rfl _ _ rfl rfl _ _ HR2.out ?_)
    clear c2 f2 c3 f3
    -- the node is appended
    have hone : HasI (wb.alloc (.cells (icells [node]) 3)) (wb.heap.size + 1) (some ⟨wb.heap.size, 0, none⟩) [node] := HasI.new wb 3 [node] (0, 0) wb.heap.size rfl
    have hbc := (Below.refl _ wb).alloc (Nat.le_refl _) (.cells (icells [node]) 3)
    have hic : icells [node] = #[.int .i64 node] := rfl
    rw [hic] at hone hbc
    have hpc := (hbc.block _ (lt_of_block HPB.out)).trans HPB.out
    have hqc := (hbc.block _ (lt_of_block HQB.out)).trans HQB.out
    have hoc := HOB.out.below hbc
    have h2c := HO2.out.below hbc
    have HBC := hide hbc
    have HPC := hide hpc
    have HQC := hide hqc
    have HOC := hide hoc
    have H2C := hide h2c
    have hsz : w0.heap.size ≤ (wb.alloc (.cells #[.int .i64 node] 3)).heap.size ∧ wa.heap.size ≤ wb.heap.size ∧ w0.heap.size ≤ wa.heap.size := ⟨by have := hbc.size; have := HBB.out.size; have := HBA.out.size; omega, HBB.out.size, HBA.out.size⟩
    have HSZ := hide hsz
    have HLN : Hid (ns.length + 1 ≤ 17592186044416) := hide (by have := HN.out; omega)
    clear hic hbc hpc hqc hoc h2c hsz
    obtain ⟨c2, f2⟩ := row_cells HPC.out 2
    simp only [List.getElem?_toArray, List.getElem?_cons_succ, List.getElem?_cons_zero] at c2
    clear c2 f2 c2a c3a
    go_upto_region 6 with (first
      | (refine list_append_ints5 _ rfl (.tmp 24) (.tmp 26) rfl w0.heap.size v1 ns rfl HOC.out _ _ 1 1 [node] rfl hone rfl HLN.out HSZ.out.1 ?_; intro v3 wd h3 hg3 hat3; obtain ⟨A3, n3, c3, rfl, hn3, _, _⟩ := h3.form; have hkd : Kept (fun j => v1.ownBlock = some j) _ wd := Kept.of_grown (F := fun j => v1.ownBlock = some j) hg3 (fun j hj => hj); have HPD := hide ((hkd.block _ (lt_of_block HPC.out) (fun e => ownI_ne HOC.out HPC.out (by decide) e)).trans HPC.out); have d2 := (row_cells HPD.out 2).1; have g2 := (row_cells HPD.out 2).2; simp only [List.getElem?_toArray, List.getElem?_cons_succ, List.getElem?_cons_zero] at d2)
      | fail)
    have hse := (Kept.refl (fun j => j = w.heap.size) wd).setCell (p := ⟨w.heap.size, 2, none⟩) (.inl rfl) (.slice A3 n3 c3)
    have hpe : (wd.setCell ⟨w.heap.size, 2, none⟩ (.slice A3 n3 c3)).heap[w.heap.size]? = some (.cells #[.slice Am nm cm, .int .i64 hold, .slice A3 n3 c3, .slice At nt ct] 58 (0, 0)) := set_cell_at _ HPD.out
    have hqd := (hkd.block _ (lt_of_block HQC.out) (fun e => ownI_ne HOC.out HQC.out (by decide) e)).trans HQC.out
    have HQE := hide ((hse.block _ (lt_of_block hqd) (by omega)).trans hqd)
    have h2d : OwnI wd wa.heap.size v2 tms := H2C.out.keep fun j hj => hkd.block j (H2C.out.lt j hj).2 (fun e => by
      have h5 := (HO1.out.lt j e).2
      have h6 := (HO2.out.lt j hj).1
      omega)
    have hps : w.heap.size < w0.heap.size := by have := HZ0.out; omega
    have HPS := hide hps
    have H3E := hide (h3.keep fun j hj => hse.block j (h3.lt j hj).2 (fun e => by have := (h3.lt j hj).1; omega))
    have H2E := hide (h2d.keep fun j hj => hse.block j (h2d.lt j hj).2 (fun e => by have := (h2d.lt j hj).1; have := HSZ.out; omega))
    have HAP : Hid (∀ j, (Value.slice A3 n3 c3).ownBlock = some j → v2.ownBlock ≠ some j) := hide (fun j hj e => by
      have h6 := (HO2.out.lt j e)
      rcases hat3 with h | h
      · rw [hj] at h
        have h5 := (HO1.out.lt j h.symm).2
        omega
      · rw [hj] at h
        have h7 : j = (wb.alloc (.cells #[.int .i64 node] 3)).heap.size := Option.some.inj h
        have h8 : (wb.alloc (.cells #[.int .i64 node] 3)).heap.size = wb.heap.size + 1 := by simp
        omega)
    have hb1 : Below w.heap.size w (wb.alloc (.cells #[.int .i64 node] 3)) := (((HB0.out.trans (HBA.out.mono HB0.out.size)).trans (HBB.out.mono (by have := HSZ.out; omega))).trans (HBC.out.mono (by have := HSZ.out; omega)))
    have hb2 : Below w.heap.size w wd := hb1.trans (hkd.below hb1.size (fun j hj => by have := (HO1.out.lt j hj).1; omega))
    have HBE := hide (hb2.trans (hse.below hb2.size (fun j hj => by omega)))
    have HPE := hide hpe
    have HWE : Hid (wa.heap.size ≤ (wd.setCell ⟨w.heap.size, 2, none⟩ (.slice A3 n3 c3)).heap.size) := hide (by have h7 := hkd.size; have h9 := hse.size; have := HSZ.out; have h8 : (wb.alloc (.cells #[.int .i64 node] 3)).heap.size = wb.heap.size + 1 := by simp
                                                                                                                omega)
    clear hse hpe hqd h2d hb1 hb2 h3 hkd d2 g2 hg3 hat3 hone hps
    generalize wd.setCell ⟨w.heap.size, 2, none⟩ (.slice A3 n3 c3) = we at *
    have hone : HasI (we.alloc (.cells (icells [asked]) 3)) (we.heap.size + 1) (some ⟨we.heap.size, 0, none⟩) [asked] := HasI.new we 3 [asked] (0, 0) we.heap.size rfl
    have hbf := (Below.refl _ we).alloc (Nat.le_refl _) (.cells (icells [asked]) 3)
    have hic : icells [asked] = #[.int .i64 asked] := rfl
    rw [hic] at hone hbf
    have HPF := hide ((hbf.block _ (lt_of_block HPE.out)).trans HPE.out)
    have HQF := hide ((hbf.block _ (lt_of_block HQE.out)).trans HQE.out)
    have H3F := hide (H3E.out.below hbf)
    have H2F := hide (H2E.out.below hbf)
    have HBF := hide (HBE.out.trans (hbf.mono HBE.out.size))
    have HWF : Hid (wa.heap.size ≤ (we.alloc (.cells #[.int .i64 asked] 3)).heap.size) := hide (by have := HWE.out; have := hbf.size; omega)
    have HLN2 : Hid (tms.length + 1 ≤ 17592186044416) := hide (by have := HTL.out; omega)
    clear hic hbf
    go_upto_region 7 with (first
      | (refine list_append_ints5 _ rfl (.tmp 29) (.tmp 31) rfl wa.heap.size v2 tms rfl H2F.out _ _ 1 1 [asked] rfl hone rfl HLN2.out HWF.out ?_; intro v4 wg h4 hg4 hat4; obtain ⟨A4, n4, c4, rfl, hn4, _, _⟩ := h4.form; have hkg : Kept (fun j => v2.ownBlock = some j) _ wg := Kept.of_grown (F := fun j => v2.ownBlock = some j) hg4 (fun j hj => hj); have HPG := hide ((hkg.block _ (lt_of_block HPF.out) (fun e => ownI_ne H2F.out HPF.out (by decide) e)).trans HPF.out); have d3 := (row_cells HPG.out 3).1; have g3 := (row_cells HPG.out 3).2; simp only [List.getElem?_toArray, List.getElem?_cons_succ, List.getElem?_cons_zero] at d3)
      | fail)
    have hsh := (Kept.refl (fun j => j = w.heap.size) wg).setCell (p := ⟨w.heap.size, 3, none⟩) (.inl rfl) (.slice A4 n4 c4)
    have hph : (wg.setCell ⟨w.heap.size, 3, none⟩ (.slice A4 n4 c4)).heap[w.heap.size]? = some (.cells #[.slice Am nm cm, .int .i64 hold, .slice A3 n3 c3, .slice A4 n4 c4] 58 (0, 0)) := set_cell_at _ HPG.out
    have hqg := (hkg.block _ (lt_of_block HQF.out) (fun e => ownI_ne H2F.out HQF.out (by decide) e)).trans HQF.out
    have hqh := (hsh.block _ (lt_of_block hqg) (by omega)).trans hqg
    have h3g : OwnI wg w0.heap.size (.slice A3 n3 c3) (ns ++ [node]) := H3F.out.keep fun j hj => hkg.block j (H3F.out.lt j hj).2 (fun e => HAP.out j hj e)
    have h3h := h3g.keep fun j hj => hsh.block j (h3g.lt j hj).2 (fun e => by have := (h3g.lt j hj).1; have := HPS.out; omega)
    have h4h := h4.keep fun j hj => hsh.block j (h4.lt j hj).2 (fun e => by have := (h4.lt j hj).1; have := HPS.out; have := HSZ.out; omega)
    have hbg : Below w.heap.size w wg := HBF.out.trans (hkg.below HBF.out.size (fun j hj => by have := (HO2.out.lt j hj).1; have := HPS.out; have := HSZ.out; omega))
    have HBH := hide (hbg.trans (hsh.below hbg.size (fun j hj => by omega)))
    have HPH := hide hph
    have HQH := hide hqh
    have H3H := hide h3h
    have H4H := hide h4h
    clear hsh hph hqg hqh h3g h3h h4h hbg h4 hkg d3 g3 hg4 hat4 hone
    generalize wg.setCell ⟨w.heap.size, 3, none⟩ (.slice A4 n4 c4) = wh at *
    have hk9 := Kept.of_setRow wh (w.heap.size + 1) #[.slice Am nm cm, .int .i64 hold, .slice A3 n3 c3, .slice A4 n4 c4]
    have hr9 := set_row_at (B := #[.slice Am nm cm, .int .i64 hold, .slice A3 n3 c3, .slice A4 n4 c4]) HQH.out
    go_wp2_with (first | (refine wpList_load_row rfl 58 _ rfl w.heap.size rfl _ _ _ _ HPH.out Try.underlying58 rfl (by kernel_rfl) ?_) | (refine wpList_store_row rfl 58 _ _ rfl (w.heap.size + 1) #[.slice Am nm cm, .int .i64 hold, .slice A3 n3 c3, .slice A4 n4 c4] rfl rfl _ _ HQH.out (by kernel_rfl) rfl (by simp [Value.oneCell']) ?_; generalize wh.setRow (w.heap.size + 1) #[.slice Am nm cm, .int .i64 hold, .slice A3 n3 c3, .slice A4 n4 c4] = w9 at *))
    refine bodyPost_ret (v := .tuple #[.agg #[.slice Am nm cm, .int .i64 hold, .slice A3 n3 c3, .slice A4 n4 c4], .bool true]) (hrg_cell rfl rfl hr9 rfl) rfl ?_
    refine ⟨HBH.out.trans (hk9.below HBH.out.size (fun j hj => by omega)), fun h => absurd HMM.out h, fun _ => ⟨A3, n3, c3, A4, n4, c4, rfl, ?_, ?_⟩⟩
    · exact (H3H.out.keep fun j hj => hk9.block j (H3H.out.lt j hj).2 (fun e => ownI_ne H3H.out HQH.out (by decide) (by rw [← e]; exact hj))).from_ (by have := HPS.out; omega)
    · exact (H4H.out.keep fun j hj => hk9.block j (H4H.out.lt j hj).2 (fun e => ownI_ne H4H.out HQH.out (by decide) (by rw [← e]; exact hj))).from_ (by have := HPS.out; have := HSZ.out; omega)
  · rw [decide_eq_false hmm] at hhas
    have HMM := hide hmm
    clear hmm
    have hk9 := Kept.of_setRow w0 (w.heap.size + 1) #[.slice Am nm cm, .int .i64 hold, .slice An nn cn, .slice At nt ct]
    have hr9 := set_row_at (B := #[.slice Am nm cm, .int .i64 hold, .slice An nn cn, .slice At nt ct]) HQ0.out
    go_wp2_with fail
    refine hhas.mono ?_
    rintro e _ ⟨rfl, rfl⟩
    go_wp2_with (first | (refine wpList_load_row rfl 58 _ rfl w.heap.size rfl _ _ _ _ HP0.out Try.underlying58 rfl (by kernel_rfl) ?_) | (refine wpList_store_row rfl 58 _ _ rfl (w.heap.size + 1) #[.slice Am nm cm, .int .i64 hold, .slice An nn cn, .slice At nt ct] rfl rfl _ _ HQ0.out (by kernel_rfl) rfl (by simp [Value.oneCell']) ?_; generalize w0.setRow (w.heap.size + 1) #[.slice Am nm cm, .int .i64 hold, .slice An nn cn, .slice At nt ct] = w9 at *))
    refine bodyPost_ret (v := .tuple #[.agg #[.slice Am nm cm, .int .i64 hold, .slice An nn cn, .slice At nt ct], .bool false]) (hrg_cell rfl rfl hr9 rfl) rfl ?_
    exact ⟨HB0.out.trans (hk9.below HB0.out.size (fun j hj => by omega)), fun _ => rfl, fun h => absurd h HMM.out⟩
end Go.Proofs.Ytgdncmkhcdmjoaa
