/-
  The walk of read of package link. Conditions: what is read is in reach.
-/
import Derived.Test.YtpbfibofjkinmaaLinkN
import Derived.Deep.CutBlock
import Derived.Deep.CutRange
import Derived.Deep.Cut
set_option linter.unusedSimpArgs false
set_option linter.unusedVariables false
namespace Go.Proofs.Ytpbfibofjkinmaa
open Go.RowKit Go.Maps

theorem results_read {tmps : Array Value} {w : World} {g : Nat} {A : Array Value} {t : TypeId} {e : Int} (h2 : tmps.getD 2 undef = .pointer (some ⟨g, 0, none⟩)) (h3 : tmps.getD 3 undef = .int .i64 e) (hA : w.heap[g]? = some (.cells A t (0, 0))) (sA : A.size = 5) :
    (results Try.f67 tmps).run Try.prog w = .ok (.tuple #[.agg A, .int .i64 e]) w := by
  have h2' : tmps[2]?.getD undef = .pointer (some ⟨g, 0, none⟩) := by simpa using h2
  have h3' : tmps[3]?.getD undef = .int .i64 e := by simpa using h3
  have i1 : (Try.prog.info? 97).map (·.size) = some A.size := by rw [sA]; kernel_rfl
  have e1 := run_loadVar_row (P := Try.prog) w g t 97 A (0, 0) _ hA Try.underlying97 rfl i1
  simp [results, Try.results67, h2', h3', asAddr, e1]
  try rfl

/-- How read ends. -/
def ReadEnds (fs : List UInt8) (w : World) (e : Ending) (w' : World) : Prop :=
  Below w.heap.size w w' ∧ ∃ A n c, Own w' w.heap.size (.slice A n c) (if (rdF fs).err = 0 then (rdF fs).xs else []) ∧
    e = .returned (.tuple #[.agg (if (rdF fs).err = 0 then (rdF fs).cells A n c else zF), .int .i64 (rdF fs).err])

theorem rmid_start {w w0 w1 w4 : World} {g : Nat} {b b0 : Option Nat} {F : RdF} (hx : F.xs = []) (ho : F.od = 0) (hr0 : w0.heap[w.heap.size]? = some (.cells zF 97 (0, 0))) (hb0 : Below w.heap.size w w0) (hz0 : w0.heap.size = w.heap.size + 1)
    (hb1 : Below w0.heap.size w0 w1) (hft : ∀ k, Foot g b0 k → w0.heap.size ≤ k ∧ k < w1.heap.size) (hl : b = b0 ∨ b = none) (hk : Kept (fun k => k = g) w1 w4) (hrd : Rd w4 g b F.s.1 F.s.2) : RMid w g w4.heap.size F none 0 0 (w4.alloc (.cells (F.cells none 0 0) 97)) := by
  have hz1 := hb1.size
  have hz4 := hk.size
  have hg := (hft g (.inl rfl)).1
  have hg2 := (hft g (.inl rfl)).2
  have hr1 := (hb1.block w.heap.size (by omega)).trans hr0
  have hr4 := (hk.block w.heap.size (by omega) (by omega)).trans hr1
  refine ⟨⟨b, hrd.below ((Below.refl _ _).alloc (Nat.le_refl _) _), fun k hk => (by
    rcases hl with e | e
    · have := hft k (.inr (e.symm.trans hk))
      omega
    · rw [e] at hk; cases hk)⟩, heap_alloc_new w4 _, (Below.heap_alloc w4 _ w.heap.size (by omega)).trans hr4, by rw [hx]; exact Own.nil _ _, ?_, by omega, by omega⟩
  exact ((hb0.trans (hb1.mono (by omega))).trans (hk.below (by omega) (fun k hk => by omega))).alloc (by omega) _

set_option maxHeartbeats 1600000 in
set_option maxRecDepth 20000 in
theorem lread_any (A : Option Addr) (n c B : Nat) (fs : List UInt8) (w : World) (hx : Has w B A fs) (hB : B ≤ w.heap.size) (hn : fs.length = n) (hl : n ≤ 140737488355328) :
    Calls Try.prog 67 #[.slice A n c] w (ReadEnds fs w) := by
  have HN := hide hn
  clear hn
  have e3 : rd3 fs = ⟨(rc 2 (fs, 0)).1, (rc M40 (rc 2 (fs, 0)).2).1, (rc M40 (rc M40 (rc 2 (fs, 0)).2).2).1, 0, [], (rc M40 (rc M40 (rc 2 (fs, 0)).2).2).2⟩ := rfl
  have HF : Hid (rdF fs = rd5 (rd3 fs)) := hide rfl
  have m2 : IsInt 2 := by unfold IsInt; omega
  have m40 := m40_int
  have c2 := fun (g : Nat) (b b1 : Option Nat) (W0 w1 : World) (s : RSt) (h : RGo g b W0 s b1 w1) => h.count 2 m2
  have c40 := fun (g : Nat) (b b1 : Option Nat) (W0 w1 : World) (s : RSt) (h : RGo g b W0 s b1 w1) => h.count M40 m40
  have C2 := hide c2
  have C40 := hide c40
  have E3 := hide e3
  clear e3 m2 m40 c2 c40
  go_enter Try.func67, Try.ntmps67
  go_wp2_with fail
  have hr0 : (w.alloc (.cells zF 97)).heap[w.heap.size]? = _ := heap_alloc_new w (.cells zF 97)
  have hb0 : Below w.heap.size w (w.alloc (.cells zF 97)) := (Below.refl _ _).alloc (Nat.le_refl _) _
  have hs0 : (w.alloc (.cells zF 97)).heap.size = w.heap.size + 1 := by simp
  have hx0 := hx.alloc hB (.cells zF 97)
  unfold zF at hr0 hb0 hs0 hx0
  generalize w.alloc (.cells #[.int .i64 0, .int .i64 0, .int .i64 0, .int .i64 0, .slice none 0 0] 97) = W0 at *
  refine (newreader_any A n c B fs W0 hx0 (by omega) HN.out hl).mono ?_
  rintro e w1 ⟨g, b, rfl, hrd, hft, hb1⟩
  have hgf : W0.heap.size ≤ g := (hft g (.inl rfl)).1
  have R1 : RGo g b w1 (fs, 0) b w1 := RGo.start hrd
  go_wp2_with fail
  refine (C2.out _ _ _ _ _ _ R1).mono ?_
  rintro e w2 ⟨rfl, b2, R2⟩
  go_wp2_with fail
  refine (C40.out _ _ _ _ _ _ R2).mono ?_
  rintro e w3 ⟨rfl, b3, R3⟩
  go_wp2_with fail
  refine (C40.out _ _ _ _ _ _ R3).mono ?_
  rintro e w4 ⟨rfl, b4, R4⟩
  have HM : RMid w g w4.heap.size (rd3 fs) none 0 0 (w4.alloc (.cells ((rd3 fs).cells none 0 0) 97)) := rmid_start rfl rfl hr0 hb0 hs0 hb1 hft R4.lie R4.kept R4.rd
  have hlt : w.heap.size < w4.heap.size := by
    have := hb1.size
    have := R4.kept.size
    omega
  clear R1 R2 R3 R4 hrd hft hb1 hr0 hb0 hx0 hx
  unfold RdF.cells at HM
  rw [E3.out] at HM HF
  simp only at HM
  generalize rc 2 (fs, 0) = qa at *
  generalize rc M40 qa.2 = qb at *
  generalize rc M40 qb.2 = qc at *
  have HM1 := hide HM
  clear HM
  go_upto_region 3 with fail
  generalize w4.alloc (.cells #[.int .i64 (qa.1 : Int), .int .i64 (qb.1 : Int), .int .i64 (qc.1 : Int), .int .i64 0, .slice none 0 0] 97) = w5 at *
  have k0 := (row_cells HM1.out.box 0).1
  unfold RdF.cells at k0
  simp only [List.getElem?_toArray, List.getElem?_cons_succ, List.getElem?_cons_zero] at k0
  have hgx := HM1.out.g0
  go_upto_if 18 with fail
  go_cut [] (fun wx => ∃ A n c, Hid (RMid w g w4.heap.size (rdF fs) A n c wx))
  case first =>
    by_cases h1 : qa.1 = 1
    · have hF : rdF fs = ⟨qa.1, qb.1, qc.1, (rc M40 qc.2).1, (rt 65536 (rc M40 qc.2).2).1, (rt 65536 (rc M40 qc.2).2).2⟩ := by rw [HF.out]; unfold rd5; rw [if_pos h1]
      have HF1 := hide hF
      have t1 : ((qa.1 : Int) == 1) = true := by simp [h1]
      have m65 : IsInt 65536 := by unfold IsInt; omega
      have T65 := hide (fun (g : Nat) (b : Option Nat) (s : RSt) (w : World) => rtext_st g b s w 65536 m65)
      clear hF h1 m65
      obtain ⟨b5, hrd5, hbl5⟩ := HM1.out.rd
      have R5 : RGo g b5 w5 qc.2 b5 w5 := RGo.start hrd5
      go_wp2_with fail
      refine (C40.out _ _ _ _ _ _ R5).mono ?_
      rintro e w6 ⟨rfl, b6, R6⟩
      have y1 := (HM1.out.kept R6.kept).1
      have k3 := (row_cells y1 3).1
      have f3 := (row_cells y1 3).2
      unfold RdF.cells at k3
      simp only [List.getElem?_toArray, List.getElem?_cons_succ, List.getElem?_cons_zero] at k3
      generalize hqd : rc M40 qc.2 = qd at *
      have HM7 : Hid (RMid w g w4.heap.size ⟨qa.1, qb.1, qc.1, qd.1, [], qd.2⟩ none 0 0 (w6.setCell ⟨w4.heap.size, 3, none⟩ (.int .i64 (qd.1 : Int)))) := hide (HM1.out.put hbl5 R6 (Own.nil _ _) rfl)
      clear R5 R6 hrd5 y1 hqd
      go_upto_region 5 with fail
      clear k3 f3 k0
      generalize w6.setCell ⟨w4.heap.size, 3, none⟩ (.int .i64 (qd.1 : Int)) = w7 at *
      obtain ⟨b7, hrd7, hbl7⟩ := HM7.out.rd
      go_wp2_with fail
      refine (T65.out g b7 qd.2 w7 hrd7).mono ?_
      rintro e w8 ⟨v, rfl, ho8, b8, R8⟩
      obtain ⟨A8, n8, c8, rfl, _, _, _, _⟩ := ho8.form
      have y1 := (HM7.out.kept R8.kept).1
      have k4 := (row_cells y1 4).1
      have f4 := (row_cells y1 4).2
      unfold RdF.cells at k4
      simp only [List.getElem?_toArray, List.getElem?_cons_succ, List.getElem?_cons_zero] at k4
      have HM9 : Hid (RMid w g w4.heap.size (rdF fs) A8 n8 c8 (w8.setCell ⟨w4.heap.size, 4, none⟩ (.slice A8 n8 c8))) := hide (by
        rw [HF1.out]
        exact HM7.out.put hbl7 R8 (ho8.from_ HM7.out.bel.size) rfl)
      clear R8 ho8 hrd7 y1
      go_wp2_with fail
      go_meet
      exact ⟨A8, n8, c8, HM9⟩
    · have hF : rdF fs = ⟨qa.1, qb.1, qc.1, 0, [], qc.2⟩ := by rw [HF.out]; unfold rd5; rw [if_neg h1]
      have t1 : ((qa.1 : Int) == 1) = false := by simp; omega
      rw [← hF] at HM1
      clear hF h1
      go_wp2_with fail
      go_meet
      exact ⟨_, _, _, HM1⟩
  case rest =>
    obtain ⟨A, n, c, HM⟩ := hcut
    obtain ⟨F, hFF⟩ : ∃ F, rdF fs = F := ⟨_, rfl⟩
    rw [hFF] at HM
    have HX := hide hFF
    clear HF hFF k0 HM1 C2 C40 E3
    obtain ⟨b5, hrd5, _⟩ := HM.out.rd
    go_wp2_with fail
    refine (rdone_st g b5 F.s wc hrd5).mono ?_
    rintro e w6 ⟨rfl, hk6⟩
    obtain ⟨y1, y2, y3, y4⟩ := HM.out.kept hk6
    have Y1 := hide y1
    have Y2 := hide y2
    have Y3 := hide y3
    have Y4 := hide y4
    have hEq : F.err = F.err := rfl
    unfold RdF.err at hEq
    clear y1 y2 y3 y4 hrd5 HM hk6
    by_cases hd : dn F.s = 0
    · have HE : Hid (F.err = if rightF F.kd F.lf F.nm F.od = true then 0 else 26) := hide (by unfold RdF.err; rw [if_pos hd])
      rw [hd]
      have hrt := lright_any F.kd F.lf F.nm F.od (.slice A n c) w6
      have hy1 : w6.heap[w4.heap.size]? = some (.cells #[.int .i64 (F.kd : Int), .int .i64 (F.lf : Int), .int .i64 (F.nm : Int), .int .i64 (F.od : Int), .slice A n c] 97 (0, 0)) := Y1.out
      clear hd hEq
      go_wp2_with (refine wpList_load_row rfl 97 _ rfl w4.heap.size rfl _ _ _ _ hy1 Try.underlying97 rfl (by kernel_rfl) ?_)
      refine hrt.mono ?_
      rintro e w7 ⟨rfl, hb7⟩
      have Y2' : Hid (w7.heap[w.heap.size]? = some (.cells #[.int .i64 0, .int .i64 0, .int .i64 0, .int .i64 0, .slice none 0 0] 97 (0, 0))) := hide ((hb7.block _ (lt_of_block Y2.out)).trans Y2.out)
      have Y1' := (hb7.block _ (lt_of_block Y1.out)).trans Y1.out
      unfold RdF.cells at Y1'
      have Y3' := hide (Y3.out.below hb7)
      have Y4' := hide (Y4.out.trans (hb7.mono Y4.out.size))
      clear Y1 Y2 Y3 Y4 hrt hy1 hb7
      cases hr : rightF F.kd F.lf F.nm F.od
      · have HE2 : F.err = 26 := by rw [HE.out, hr]; rfl
        have HE3 := hide HE2
        have Y2 := Y2'
        have Y4 := Y4'
        clear HE hr HE2 Y1' Y2' Y3' Y4'
        have y2 := Y2.out
        obtain ⟨r0a, r0b⟩ := row_cells y2 0
        obtain ⟨r1a, r1b⟩ := row_cells y2 1
        obtain ⟨r2a, r2b⟩ := row_cells y2 2
        obtain ⟨r3a, r3b⟩ := row_cells y2 3
        obtain ⟨r4a, r4b⟩ := row_cells y2 4
        try unfold zF at r0a r1a r2a r3a r4a
        simp only [List.getElem?_toArray, List.getElem?_cons_succ, List.getElem?_cons_zero] at r0a r1a r2a r3a r4a
        go_wp2_with fail
        have hk11 : Kept (fun k => k = w.heap.size) w7 (((((w7.setCell ⟨w.heap.size, 0, none⟩ (.int .i64 0)).setCell ⟨w.heap.size, 1, none⟩ (.int .i64 0)).setCell ⟨w.heap.size, 2, none⟩ (.int .i64 0)).setCell ⟨w.heap.size, 3, none⟩ (.int .i64 0)).setCell ⟨w.heap.size, 4, none⟩ (.slice none 0 0)) := ((((((Kept.refl (fun k => k = w.heap.size) w7).setCell (p := ⟨w.heap.size, 0, none⟩) (.inl rfl) _).setCell (p := ⟨w.heap.size, 1, none⟩) (.inl rfl) _).setCell (p := ⟨w.heap.size, 2, none⟩) (.inl rfl) _).setCell (p := ⟨w.heap.size, 3, none⟩) (.inl rfl) _).setCell (p := ⟨w.heap.size, 4, none⟩) (.inl rfl) _)
        have hr11 : (((((w7.setCell ⟨w.heap.size, 0, none⟩ (.int .i64 0)).setCell ⟨w.heap.size, 1, none⟩ (.int .i64 0)).setCell ⟨w.heap.size, 2, none⟩ (.int .i64 0)).setCell ⟨w.heap.size, 3, none⟩ (.int .i64 0)).setCell ⟨w.heap.size, 4, none⟩ (.slice none 0 0)).heap[w.heap.size]? = some (.cells #[.int .i64 0, .int .i64 0, .int .i64 0, .int .i64 0, .slice none 0 0] 97 (0, 0)) := by simp [World.setCell, Array.getElem?_modify, y2, zF]
        generalize ((((w7.setCell ⟨w.heap.size, 0, none⟩ (.int .i64 0)).setCell ⟨w.heap.size, 1, none⟩ (.int .i64 0)).setCell ⟨w.heap.size, 2, none⟩ (.int .i64 0)).setCell ⟨w.heap.size, 3, none⟩ (.int .i64 0)).setCell ⟨w.heap.size, 4, none⟩ (.slice none 0 0) = w11 at *
        refine bodyPost_ret (v := .tuple #[.agg #[.int .i64 0, .int .i64 0, .int .i64 0, .int .i64 0, .slice none 0 0], .int .i64 26]) (results_read rfl rfl hr11 rfl) rfl ⟨Y4.out.trans (hk11.below Y4.out.size (fun k hk => by omega)), none, 0, 0, ?_, ?_⟩
        · rw [HX.out, if_neg (by rw [HE3.out]; omega)]; exact Own.nil _ _
        · rw [HX.out, if_neg (by rw [HE3.out]; omega), HE3.out]; rfl
      · have HE2 : F.err = 0 := by rw [HE.out, hr]; rfl
        have HE3 := hide HE2
        clear HE hr HE2
        have y2 := Y2'.out
        have hr11 := set_row_at (B := #[.int .i64 (F.kd : Int), .int .i64 (F.lf : Int), .int .i64 (F.nm : Int), .int .i64 (F.od : Int), .slice A n c]) y2
        have hk11 := Kept.of_setRow w7 w.heap.size #[.int .i64 (F.kd : Int), .int .i64 (F.lf : Int), .int .i64 (F.nm : Int), .int .i64 (F.od : Int), .slice A n c]
        go_wp2_with (first
          | (refine wpList_load_row rfl 97 _ rfl w4.heap.size rfl _ _ _ _ Y1' Try.underlying97 rfl (by kernel_rfl) ?_)
          | (refine wpList_store_row rfl 97 _ _ rfl w.heap.size #[.int .i64 (F.kd : Int), .int .i64 (F.lf : Int), .int .i64 (F.nm : Int), .int .i64 (F.od : Int), .slice A n c] rfl rfl _ _ y2 (by kernel_rfl) rfl (by simp; exact ⟨rfl, rfl, rfl, rfl, rfl⟩) ?_; generalize w7.setRow w.heap.size #[.int .i64 (F.kd : Int), .int .i64 (F.lf : Int), .int .i64 (F.nm : Int), .int .i64 (F.od : Int), .slice A n c] = w11 at *))
        refine bodyPost_ret (v := .tuple #[.agg #[.int .i64 (F.kd : Int), .int .i64 (F.lf : Int), .int .i64 (F.nm : Int), .int .i64 (F.od : Int), .slice A n c], .int .i64 0]) (results_read rfl rfl hr11 rfl) rfl ⟨Y4'.out.trans (hk11.below Y4'.out.size (fun k hk => by omega)), A, n, c, ?_, ?_⟩
        · rw [HX.out, if_pos HE3.out]
          exact Y3'.out.keep fun j hj => hk11.block j (Y3'.out.lt j hj).2 (fun e => by
            obtain ⟨cur, hc⟩ := ownsRow_typed Y3'.out j hj
            exact typed_ne hc y2 (by decide) e)
        · rw [HX.out, if_pos HE3.out, HE3.out]; rfl
    · have HE2 : F.err = (dn F.s : Int) := by unfold RdF.err; rw [if_neg hd]
      have HE3 := hide HE2
      have t0 : ((dn F.s : Int) != 0) = true := by rw [bne_iff_ne]; omega
      clear hEq HE2
      have y2 := Y2.out
      obtain ⟨r0a, r0b⟩ := row_cells y2 0
      obtain ⟨r1a, r1b⟩ := row_cells y2 1
      obtain ⟨r2a, r2b⟩ := row_cells y2 2
      obtain ⟨r3a, r3b⟩ := row_cells y2 3
      obtain ⟨r4a, r4b⟩ := row_cells y2 4
      try unfold zF at r0a r1a r2a r3a r4a
      simp only [List.getElem?_toArray, List.getElem?_cons_succ, List.getElem?_cons_zero] at r0a r1a r2a r3a r4a
      go_wp2_with fail
      have hk11 : Kept (fun k => k = w.heap.size) w6 (((((w6.setCell ⟨w.heap.size, 0, none⟩ (.int .i64 0)).setCell ⟨w.heap.size, 1, none⟩ (.int .i64 0)).setCell ⟨w.heap.size, 2, none⟩ (.int .i64 0)).setCell ⟨w.heap.size, 3, none⟩ (.int .i64 0)).setCell ⟨w.heap.size, 4, none⟩ (.slice none 0 0)) := ((((((Kept.refl (fun k => k = w.heap.size) w6).setCell (p := ⟨w.heap.size, 0, none⟩) (.inl rfl) _).setCell (p := ⟨w.heap.size, 1, none⟩) (.inl rfl) _).setCell (p := ⟨w.heap.size, 2, none⟩) (.inl rfl) _).setCell (p := ⟨w.heap.size, 3, none⟩) (.inl rfl) _).setCell (p := ⟨w.heap.size, 4, none⟩) (.inl rfl) _)
      have hr11 : (((((w6.setCell ⟨w.heap.size, 0, none⟩ (.int .i64 0)).setCell ⟨w.heap.size, 1, none⟩ (.int .i64 0)).setCell ⟨w.heap.size, 2, none⟩ (.int .i64 0)).setCell ⟨w.heap.size, 3, none⟩ (.int .i64 0)).setCell ⟨w.heap.size, 4, none⟩ (.slice none 0 0)).heap[w.heap.size]? = some (.cells #[.int .i64 0, .int .i64 0, .int .i64 0, .int .i64 0, .slice none 0 0] 97 (0, 0)) := by simp [World.setCell, Array.getElem?_modify, y2, zF]
      generalize ((((w6.setCell ⟨w.heap.size, 0, none⟩ (.int .i64 0)).setCell ⟨w.heap.size, 1, none⟩ (.int .i64 0)).setCell ⟨w.heap.size, 2, none⟩ (.int .i64 0)).setCell ⟨w.heap.size, 3, none⟩ (.int .i64 0)).setCell ⟨w.heap.size, 4, none⟩ (.slice none 0 0) = w11 at *
      refine bodyPost_ret (v := .tuple #[.agg #[.int .i64 0, .int .i64 0, .int .i64 0, .int .i64 0, .slice none 0 0], .int .i64 (dn F.s : Int)]) (results_read rfl rfl hr11 rfl) rfl ⟨Y4.out.trans (hk11.below Y4.out.size (fun k hk => by omega)), none, 0, 0, ?_, ?_⟩
      · rw [HX.out, if_neg (by rw [HE3.out]; omega)]; exact Own.nil _ _
      · rw [HX.out, if_neg (by rw [HE3.out]; omega), HE3.out]; rfl
end Go.Proofs.Ytpbfibofjkinmaa
