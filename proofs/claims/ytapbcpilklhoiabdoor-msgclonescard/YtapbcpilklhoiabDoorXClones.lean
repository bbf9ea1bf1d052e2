/-
  MsgClones of the statements, as its tied card: for every input the law returns true, and what came in reads as it did. No condition of ours; the row lists one table of the program, which the card ties to the program's text.
  The walk of MsgClones. Conditions: what came in is in reach; the package's table is as its text lays it.
-/
import Derived.Test.YtapbcpilklhoiabDoorMY16
import Derived.Test.YtapbcpilklhoiabDoorMY18
import Derived.Test.YtapbcpilklhoiabDoorMY14
set_option linter.unusedSimpArgs false
set_option linter.unusedVariables false

namespace Go.Proofs.YtapbcpilklhoiabDoor
open Go.RowKit

theorem run_kind (m : Msgv) (W : World) : (Instr.field 37 (.agg m.cells) 0).run Tryd.prog W = .ok (.int .i64 m.kd) W := by
  have hu := Tryd.underlying37
  simp [Instr.field, underlying, hu, asAgg, part, Msgv.cells]

set_option maxRecDepth 40000 in
set_option maxHeartbeats 6400000 in
theorem mclones_walk (m : Msgv) (w : World) (ht : TabM w) (hm : IsM w w.heap.size m) (hvn : m.vn ≤ 1759218604440) (h0 : 0 < w.heap.size) :
    Calls Tryd.prog 6 #[.agg m.cells] w fun e w' => e = .returned (.bool true) ∧ Below w.heap.size w w' := by
  have HT : Hid (∀ W, Below w.heap.size w W → TabM W) := hide (fun W h => ht.below h (by omega))
  have HMM : Hid (∀ W, Below w.heap.size w W → IsM W w.heap.size m) := hide (fun W h => hm.below h)
  have HVN : Hid (∀ M : Msgv, M.lg = m.lg → ∀ W B, IsM W B M → M.vn = m.vn) := hide (fun M e W B im => by
    have h2 : M.vs.length = m.vs.length := by have := congrArg (fun x : Msgl => x.vs.length) e; simpa [Msgv.lg] using this
    rw [← im.en, h2, hm.en])
  clear ht hm
  have im := info_msg m
  go_enter Tryd.func6, Tryd.ntmps6
  go_upto_region 1 with fail
  have hp0 := heap_alloc_new w (.cells m.cells 37)
  have b0 : Below w.heap.size w (w.alloc (.cells m.cells 37)) := by go_grown
  have hs0 : (w.alloc (.cells m.cells 37)).heap.size = w.heap.size + 1 := by simp
  generalize w.alloc (.cells m.cells 37) = w0 at *
  have HP0 := hide hp0
  have hz0 := lt_of_block hp0
  clear hp0 hs0
  go_wp2_with (refine wpList_load_row rfl 37 _ rfl w.heap.size rfl _ _ _ _ HP0.out Tryd.underlying37 rfl im ?_)
  refine (mcopy_any m w.heap.size w0 (HMM.out _ b0) b0.size hvn).mono ?_
  rintro e w1 ⟨m1, rfl, lg1, im1, re1, b1'⟩
  have hvn1 : m1.vn ≤ 1759218604440 := by rw [HVN.out m1 lg1 _ _ im1]; exact hvn
  have HP1 := hide ((b1'.block w.heap.size hz0).trans HP0.out)
  have b1 := b0.trans (b1'.mono b0.size)
  have hz1 := b1'.size
  have hr2 := set_row_at (B := m1.cells) (heap_alloc_new w1 (.cells #[.int .i64 0, .int .i64 0, .int .i64 0, .int .i64 0, .int .i64 0, .int .i64 0, .int .i64 0, .int .i64 0, .int .i64 0, .int .i64 0, .slice none 0 0, .slice none 0 0, .slice none 0 0, .int .i64 0, .int .i64 0, .int .i64 0, .int .i64 0, .int .i64 0, .int .i64 0, .int .i64 0, .int .i64 0, .int .i64 0, .int .i64 0, .int .i64 0, .slice none 0 0] 37))
  have b2' : Below w1.heap.size w1 ((w1.alloc (.cells #[.int .i64 0, .int .i64 0, .int .i64 0, .int .i64 0, .int .i64 0, .int .i64 0, .int .i64 0, .int .i64 0, .int .i64 0, .int .i64 0, .slice none 0 0, .slice none 0 0, .slice none 0 0, .int .i64 0, .int .i64 0, .int .i64 0, .int .i64 0, .int .i64 0, .int .i64 0, .int .i64 0, .int .i64 0, .int .i64 0, .int .i64 0, .int .i64 0, .slice none 0 0] 37)).setRow w1.heap.size m1.cells) := ((Below.refl _ w1).alloc (Nat.le_refl _) (.cells #[.int .i64 0, .int .i64 0, .int .i64 0, .int .i64 0, .int .i64 0, .int .i64 0, .int .i64 0, .int .i64 0, .int .i64 0, .int .i64 0, .slice none 0 0, .slice none 0 0, .slice none 0 0, .int .i64 0, .int .i64 0, .int .i64 0, .int .i64 0, .int .i64 0, .int .i64 0, .int .i64 0, .int .i64 0, .int .i64 0, .int .i64 0, .int .i64 0, .slice none 0 0] 37)).trans ((Kept.of_setRow _ w1.heap.size m1.cells).below (by simp) (fun k hk => by omega))
  have HP2 := hide ((b2'.block w.heap.size (by omega)).trans HP1.out)
  have im2 : IsM ((w1.alloc (.cells #[.int .i64 0, .int .i64 0, .int .i64 0, .int .i64 0, .int .i64 0, .int .i64 0, .int .i64 0, .int .i64 0, .int .i64 0, .int .i64 0, .slice none 0 0, .slice none 0 0, .slice none 0 0, .int .i64 0, .int .i64 0, .int .i64 0, .int .i64 0, .int .i64 0, .int .i64 0, .int .i64 0, .int .i64 0, .int .i64 0, .int .i64 0, .int .i64 0, .slice none 0 0] 37)).setRow w1.heap.size m1.cells) w1.heap.size m1 := im1.below b2'
  have RE2 : Hid (∀ k, ReachM m1 k → (w0.heap.size ≤ k ∧ k < w1.heap.size) ∧ Free ((w1.alloc (.cells #[.int .i64 0, .int .i64 0, .int .i64 0, .int .i64 0, .int .i64 0, .int .i64 0, .int .i64 0, .int .i64 0, .int .i64 0, .int .i64 0, .slice none 0 0, .slice none 0 0, .slice none 0 0, .int .i64 0, .int .i64 0, .int .i64 0, .int .i64 0, .int .i64 0, .int .i64 0, .int .i64 0, .int .i64 0, .int .i64 0, .int .i64 0, .int .i64 0, .slice none 0 0] 37)).setRow w1.heap.size m1.cells) k) := hide (fun k hk => ⟨⟨(re1 k hk).1, (re1 k hk).2.1⟩, (re1 k hk).2.2.keep (b2'.block k (re1 k hk).2.1)⟩)
  have b2 := b1.trans (b2'.mono b1.size)
  have hz2 := lt_of_block hr2
  clear HP0 HP1 b0 b1 b1' b2' im1 re1
  go_wp2_with (first
    | (refine wpList_store_row rfl 37 _ _ rfl w1.heap.size m1.cells rfl rfl _ _ (heap_alloc_new w1 (.cells #[.int .i64 0, .int .i64 0, .int .i64 0, .int .i64 0, .int .i64 0, .int .i64 0, .int .i64 0, .int .i64 0, .int .i64 0, .int .i64 0, .slice none 0 0, .slice none 0 0, .slice none 0 0, .int .i64 0, .int .i64 0, .int .i64 0, .int .i64 0, .int .i64 0, .int .i64 0, .int .i64 0, .int .i64 0, .int .i64 0, .int .i64 0, .int .i64 0, .slice none 0 0] 37)) (info_msg _) rfl (mcells_one _) ?_; generalize (w1.alloc (.cells #[.int .i64 0, .int .i64 0, .int .i64 0, .int .i64 0, .int .i64 0, .int .i64 0, .int .i64 0, .int .i64 0, .int .i64 0, .int .i64 0, .slice none 0 0, .slice none 0 0, .slice none 0 0, .int .i64 0, .int .i64 0, .int .i64 0, .int .i64 0, .int .i64 0, .int .i64 0, .int .i64 0, .int .i64 0, .int .i64 0, .int .i64 0, .int .i64 0, .slice none 0 0] 37)).setRow w1.heap.size m1.cells = w2 at *)
    | (refine wpList_load_row rfl 37 _ rfl w1.heap.size rfl _ _ _ _ hr2 Tryd.underlying37 rfl (info_msg _) ?_))
  refine (mclone_any m1 w1.heap.size w2 im2 (by omega) hvn1).mono ?_
  rintro e w3 ⟨mc, rfl, lgc, imc, rec, b3'⟩
  have hr4 := set_row_at (B := mc.cells) (heap_alloc_new w3 (.cells #[.int .i64 0, .int .i64 0, .int .i64 0, .int .i64 0, .int .i64 0, .int .i64 0, .int .i64 0, .int .i64 0, .int .i64 0, .int .i64 0, .slice none 0 0, .slice none 0 0, .slice none 0 0, .int .i64 0, .int .i64 0, .int .i64 0, .int .i64 0, .int .i64 0, .int .i64 0, .int .i64 0, .int .i64 0, .int .i64 0, .int .i64 0, .int .i64 0, .slice none 0 0] 37))
  have b4' : Below w3.heap.size w3 ((w3.alloc (.cells #[.int .i64 0, .int .i64 0, .int .i64 0, .int .i64 0, .int .i64 0, .int .i64 0, .int .i64 0, .int .i64 0, .int .i64 0, .int .i64 0, .slice none 0 0, .slice none 0 0, .slice none 0 0, .int .i64 0, .int .i64 0, .int .i64 0, .int .i64 0, .int .i64 0, .int .i64 0, .int .i64 0, .int .i64 0, .int .i64 0, .int .i64 0, .int .i64 0, .slice none 0 0] 37)).setRow w3.heap.size mc.cells) := ((Below.refl _ w3).alloc (Nat.le_refl _) (.cells #[.int .i64 0, .int .i64 0, .int .i64 0, .int .i64 0, .int .i64 0, .int .i64 0, .int .i64 0, .int .i64 0, .int .i64 0, .int .i64 0, .slice none 0 0, .slice none 0 0, .slice none 0 0, .int .i64 0, .int .i64 0, .int .i64 0, .int .i64 0, .int .i64 0, .int .i64 0, .int .i64 0, .int .i64 0, .int .i64 0, .int .i64 0, .int .i64 0, .slice none 0 0] 37)).trans ((Kept.of_setRow _ w3.heap.size mc.cells).below (by simp) (fun k hk => by omega))
  have b24 := b3'.trans (b4'.mono b3'.size)
  have hz3 := b3'.size
  have hz4 := lt_of_block hr4
  have HP4 := hide ((b24.block w.heap.size (by omega)).trans HP2.out)
  have HX4 := hide ((b24.block w1.heap.size (by omega)).trans hr2)
  have HC4 := hide hr4
  have IMX := hide (im2.below (b24.mono (by omega)))
  have IMC := hide (imc.below b4')
  have RE4 : Hid (∀ k, ReachM m1 k → (w0.heap.size ≤ k ∧ k < w1.heap.size) ∧ Free ((w3.alloc (.cells #[.int .i64 0, .int .i64 0, .int .i64 0, .int .i64 0, .int .i64 0, .int .i64 0, .int .i64 0, .int .i64 0, .int .i64 0, .int .i64 0, .slice none 0 0, .slice none 0 0, .slice none 0 0, .int .i64 0, .int .i64 0, .int .i64 0, .int .i64 0, .int .i64 0, .int .i64 0, .int .i64 0, .int .i64 0, .int .i64 0, .int .i64 0, .int .i64 0, .slice none 0 0] 37)).setRow w3.heap.size mc.cells) k) := hide (fun k hk => ⟨(RE2.out k hk).1, (RE2.out k hk).2.keep (b24.block k (RE2.out k hk).2.lt)⟩)
  have REC := hide rec
  have HB4 := hide (b2.trans (b24.mono b2.size))
  have HLC := hide (lgc.trans lg1)
  clear HP2 b2 b3' b4' b24 im2 imc RE2 rec hr2 hr4 lg1 lgc hvn1 hvn im HVN
  go_upto_region 3 with (refine wpList_store_row rfl 37 _ _ rfl w3.heap.size mc.cells rfl rfl _ _ (heap_alloc_new w3 (.cells #[.int .i64 0, .int .i64 0, .int .i64 0, .int .i64 0, .int .i64 0, .int .i64 0, .int .i64 0, .int .i64 0, .int .i64 0, .int .i64 0, .slice none 0 0, .slice none 0 0, .slice none 0 0, .int .i64 0, .int .i64 0, .int .i64 0, .int .i64 0, .int .i64 0, .int .i64 0, .int .i64 0, .int .i64 0, .int .i64 0, .int .i64 0, .int .i64 0, .slice none 0 0] 37)) (info_msg _) rfl (mcells_one _) ?_; generalize (w3.alloc (.cells #[.int .i64 0, .int .i64 0, .int .i64 0, .int .i64 0, .int .i64 0, .int .i64 0, .int .i64 0, .int .i64 0, .int .i64 0, .int .i64 0, .slice none 0 0, .slice none 0 0, .slice none 0 0, .int .i64 0, .int .i64 0, .int .i64 0, .int .i64 0, .int .i64 0, .int .i64 0, .int .i64 0, .int .i64 0, .int .i64 0, .int .i64 0, .int .i64 0, .slice none 0 0] 37)).setRow w3.heap.size mc.cells = w4 at *)
  generalize m.cells = y0
  generalize m1.cells = y1
  generalize mc.cells = y2
  have M4 := Mut.refl (fun k => w0.heap.size ≤ k ∧ k < w1.heap.size) w4
  have HBX : Hid (∀ W, Mut (fun k => w0.heap.size ≤ k ∧ k < w1.heap.size) w4 W → W.heap[w1.heap.size]? = some (.cells m1.cells 37 (0, 0))) := hide (fun W h => (h.kept.block w1.heap.size (by omega) (by omega)).trans HX4.out)
  have k24 := (row_cells (HBX.out _ M4) 24).1
  simp only [Msgv.cells, List.getElem?_toArray, List.getElem?_cons_succ, List.getElem?_cons_zero] at k24
  go_wp2_with fail
  go_loopw [18] (fun i wr => ∃ j : Nat, j ≤ m1.dn ∧ i = .int .i64 j ∧ Mut (fun k => w0.heap.size ≤ k ∧ k < w1.heap.size) w4 wr) (fun i _ => m1.dn - (intOf i).toNat)
  case atStart => exact ⟨0, Nat.zero_le _, rfl, M4⟩
  case round =>
    clear M4 k24
    obtain ⟨j, hj, rfl, hM⟩ := hrel
    have hbd : m1.dn ≤ 140737488351232 := IMX.out.ld
    by_cases hlt : j < m1.dn
    · obtain ⟨b, o, hA, hR, ⟨y, hy⟩, hf⟩ := hM.byte IMX.out.d (fun k o e => RE4.out k (.inr (.inr (.inr ⟨o, e⟩)))) (by rw [IMX.out.ed]; exact hlt)
      have k24 := (row_cells (HBX.out _ hM) 24).1
      simp only [Msgv.cells, List.getElem?_toArray, List.getElem?_cons_succ, List.getElem?_cons_zero] at k24
      rw [hA] at k24
      have HS := hide (fun z => hM.set hR hy z)
      clear hM hA
      go_wp2
      exact ⟨⟨j + 1, by omega, by go_num, HS.out _⟩, by simp [intOf]; omega⟩
    · obtain rfl : j = m1.dn := by omega
      clear hlt hj hbd
      have M4 : Mut (fun k => w0.heap.size ≤ k ∧ k < w1.heap.size) w4 wr := hM
      clear hM
      go_upto_region 8 with fail
      generalize wr = wq at *
      have k10 := (row_cells (HBX.out _ M4) 10).1
      simp only [Msgv.cells, List.getElem?_toArray, List.getElem?_cons_succ, List.getElem?_cons_zero] at k10
      go_wp2_with fail
      go_loopw [33] (fun i wr => ∃ j : Nat, j ≤ m1.v.n ∧ i = .int .i64 j ∧ Mut (fun k => w0.heap.size ≤ k ∧ k < w1.heap.size) w4 wr) (fun i _ => m1.v.n - (intOf i).toNat)
      case atStart => exact ⟨0, Nat.zero_le _, rfl, M4⟩
      case round =>
        clear M4 k10
        obtain ⟨j, hj, rfl, hM⟩ := hrel
        have hbd : m1.v.n ≤ 140737488351232 := by have := IMX.out.v.ln; omega
        by_cases hlt : j < m1.v.n
        · obtain ⟨b, o, hA, hR, ⟨y, hy⟩, hf⟩ := hM.seq IMX.out.v.c (fun k o e => RE4.out k (.inl (.inl ⟨o, e⟩))) (by rw [IMX.out.v.en]; exact hlt)
          have k10 := (row_cells (HBX.out _ hM) 10).1
          simp only [Msgv.cells, List.getElem?_toArray, List.getElem?_cons_succ, List.getElem?_cons_zero] at k10
          rw [hA] at k10
          have HS := hide (fun z => hM.set hR hy z)
          clear hM hA
          go_wp2
          exact ⟨⟨j + 1, by omega, by go_num, HS.out _⟩, by simp [intOf]; omega⟩
        · obtain rfl : j = m1.v.n := by omega
          clear hlt hj hbd
          have M4 : Mut (fun k => w0.heap.size ≤ k ∧ k < w1.heap.size) w4 wr := hM
          clear hM
          go_upto_region 13 with fail
          generalize wr = wq at *
          have k11 := (row_cells (HBX.out _ M4) 11).1
          simp only [Msgv.cells, List.getElem?_toArray, List.getElem?_cons_succ, List.getElem?_cons_zero] at k11
          go_wp2_with fail
          go_loopw [47] (fun i wr => ∃ j : Nat, j ≤ m1.v.m ∧ i = .int .i64 j ∧ Mut (fun k => w0.heap.size ≤ k ∧ k < w1.heap.size) w4 wr) (fun i _ => m1.v.m - (intOf i).toNat)
          case atStart => exact ⟨0, Nat.zero_le _, rfl, M4⟩
          case round =>
            clear M4 k11
            obtain ⟨j, hj, rfl, hM⟩ := hrel
            have hbd : m1.v.m ≤ 140737488351232 := by have := IMX.out.v.lm; omega
            by_cases hlt : j < m1.v.m
            · obtain ⟨b, o, hA, hR, ⟨y, hy⟩, hf⟩ := hM.num IMX.out.v.i (fun k o e => RE4.out k (.inl (.inr ⟨o, e⟩))) (by rw [IMX.out.v.em]; exact hlt)
              have k11 := (row_cells (HBX.out _ hM) 11).1
              simp only [Msgv.cells, List.getElem?_toArray, List.getElem?_cons_succ, List.getElem?_cons_zero] at k11
              rw [hA] at k11
              have HS := hide (fun z => hM.set hR hy z)
              clear hM hA
              go_wp2
              exact ⟨⟨j + 1, by omega, by go_num, HS.out _⟩, by simp [intOf]; omega⟩
            · obtain rfl : j = m1.v.m := by omega
              clear hlt hj hbd
              have M4 : Mut (fun k => w0.heap.size ≤ k ∧ k < w1.heap.size) w4 wr := hM
              clear hM
              go_upto_region 18 with fail
              generalize wr = wq at *
              have k12 := (row_cells (HBX.out _ M4) 12).1
              simp only [Msgv.cells, List.getElem?_toArray, List.getElem?_cons_succ, List.getElem?_cons_zero] at k12
              go_wp2_with fail
              go_loopw [59] (fun i wr => ∃ j : Nat, j ≤ m1.vn ∧ i = .int .i64 j ∧ Mut (fun k => w0.heap.size ≤ k ∧ k < w1.heap.size) w4 wr) (fun i _ => m1.vn - (intOf i).toNat)
              case atStart => exact ⟨0, Nat.zero_le _, rfl, M4⟩
              case round =>
                clear M4 k12
                obtain ⟨j, hj, rfl, hM⟩ := hrel
                have hbd : m1.vn ≤ 140737488351232 := by have := IMX.out.ln; omega
                by_cases hlt : j < m1.vn
                · have hlt' : j < m1.vs.length := by rw [IMX.out.en]; exact hlt
                  have HRV : Hid (∀ k o, m1.VA = some ⟨k, o, none⟩ → (w0.heap.size ≤ k ∧ k < w1.heap.size) ∧ Free w4 k) := hide (fun k o e => RE4.out k (.inr (.inl ⟨o, e⟩)))
                  have HVT : Hid (∀ W, Mut (fun k => w0.heap.size ≤ k ∧ k < w1.heap.size) w4 W → ∃ b o, m1.VA = some ⟨b, o, none⟩ ∧ Cell (fun k => w0.heap.size ≤ k ∧ k < w1.heap.size) W b (o + j * 6) .i64 ∧ W.cell? ⟨b, o + j * 6 + 4, none⟩ = some (.slice m1.vs[j].v.A m1.vs[j].v.n m1.vs[j].v.c) ∧ W.cell? ⟨b, o + j * 6 + 5, none⟩ = some (.slice m1.vs[j].v.D m1.vs[j].v.m m1.vs[j].v.d)) := hide (fun W h => h.vote IMX.out.vt HRV.out hlt')
                  have IVX := hide (IMX.out.vt j hlt').2
                  have REV : Hid (∀ k, ReachV m1.vs[j].v k → (w0.heap.size ≤ k ∧ k < w1.heap.size) ∧ Free w4 k) := hide (fun k hk => RE4.out k (.inr (.inr (.inl ⟨_, List.getElem_mem hlt', hk⟩))))
                  generalize m1.vs[j] = v at *
                  obtain ⟨b, o, hA, _⟩ := HVT.out _ hM
                  have HVV : Hid (∀ W, Mut (fun k => w0.heap.size ≤ k ∧ k < w1.heap.size) w4 W → Cell (fun k => w0.heap.size ≤ k ∧ k < w1.heap.size) W b (o + j * 6) .i64 ∧ W.cell? ⟨b, o + j * 6 + 4, none⟩ = some (.slice v.v.A v.v.n v.v.c) ∧ W.cell? ⟨b, o + j * 6 + 5, none⟩ = some (.slice v.v.D v.v.m v.v.d)) := hide (fun W h => by
                    obtain ⟨b', o', hA', r⟩ := HVT.out W h
                    rw [hA] at hA'
                    cases hA'
                    exact r)
                  have HBV : Hid (∀ W, Mut (fun k => w0.heap.size ≤ k ∧ k < w1.heap.size) w4 W → W.cell? ⟨w1.heap.size, 12, none⟩ = some (.slice (some ⟨b, o, none⟩) m1.vn m1.vc)) := hide (fun W h => by
                    have k12 := (row_cells (HBX.out _ h) 12).1
                    simp only [Msgv.cells, List.getElem?_toArray, List.getElem?_cons_succ, List.getElem?_cons_zero] at k12
                    rw [hA] at k12
                    exact k12)
                  clear HVT HRV hA
                  obtain ⟨⟨hR, ⟨y, hy⟩, hf⟩, _, _⟩ := HVV.out _ hM
                  have k12 := HBV.out _ hM
                  have M5 := hM.set hR hy (-1)
                  clear hM
                  go_upto_region 22 with fail
                  generalize wr.setCell ⟨b, o + j * 6, none⟩ (.int .i64 (-1)) = w5 at *
                  clear hy hf k12 hR
                  have k12 := HBV.out _ M5
                  have kv := (HVV.out _ M5).2.1
                  go_wp2_with fail
                  go_loopw [75] (fun i wr => ∃ q : Nat, q ≤ v.v.n ∧ i = .int .i64 q ∧ Mut (fun k => w0.heap.size ≤ k ∧ k < w1.heap.size) w4 wr) (fun i _ => v.v.n - (intOf i).toNat)
                  case atStart => exact ⟨0, Nat.zero_le _, rfl, M5⟩
                  case round =>
                    clear M5 k12 kv
                    obtain ⟨q, hq, rfl, hM⟩ := hrel
                    have hbq : v.v.n ≤ 140737488351232 := by have := IVX.out.ln; omega
                    by_cases hlq : q < v.v.n
                    · obtain ⟨b2, o2, hA2, hR, ⟨y, hy⟩, hf⟩ := hM.seq IVX.out.c (fun k o e => REV.out k (.inl ⟨o, e⟩)) (by rw [IVX.out.en]; exact hlq)
                      have k12 := HBV.out _ hM
                      have kv := (HVV.out _ hM).2.1
                      rw [hA2] at kv
                      have HS := hide (fun z => hM.set hR hy z)
                      clear hM hA2
                      go_wp2
                      exact ⟨⟨q + 1, by omega, by go_num, HS.out _⟩, by simp [intOf]; omega⟩
                    · obtain rfl : q = v.v.n := by omega
                      clear hlq hq hbq
                      have M5 : Mut (fun k => w0.heap.size ≤ k ∧ k < w1.heap.size) w4 wr := hM
                      clear hM
                      go_upto_region 27 with fail
                      generalize wr = w6 at *
                      have k12 := HBV.out _ M5
                      have kv := (HVV.out _ M5).2.2
                      go_wp2_with fail
                      go_loopw [97] (fun i wr => ∃ q : Nat, q ≤ v.v.m ∧ i = .int .i64 q ∧ Mut (fun k => w0.heap.size ≤ k ∧ k < w1.heap.size) w4 wr) (fun i _ => v.v.m - (intOf i).toNat)
                      case atStart => exact ⟨0, Nat.zero_le _, rfl, M5⟩
                      case round =>
                        clear M5 k12 kv
                        obtain ⟨q, hq, rfl, hM⟩ := hrel
                        have hbq : v.v.m ≤ 140737488351232 := by have := IVX.out.lm; omega
                        by_cases hlq : q < v.v.m
                        · obtain ⟨b2, o2, hA2, hR, ⟨y, hy⟩, hf⟩ := hM.num IVX.out.i (fun k o e => REV.out k (.inr ⟨o, e⟩)) (by rw [IVX.out.em]; exact hlq)
                          have k12 := HBV.out _ hM
                          have kv := (HVV.out _ hM).2.2
                          rw [hA2] at kv
                          have HS := hide (fun z => hM.set hR hy z)
                          clear hM hA2
                          go_wp2
                          exact ⟨⟨q + 1, by omega, by go_num, HS.out _⟩, by simp [intOf]; omega⟩
                        · obtain rfl : q = v.v.m := by omega
                          clear hlq hq hbq
                          have M5 : Mut (fun k => w0.heap.size ≤ k ∧ k < w1.heap.size) w4 wr := hM
                          clear hM
                          go_wp2
                          exact ⟨⟨j + 1, by omega, by go_num, M5⟩, by simp [intOf]; omega⟩
                · obtain rfl : j = m1.vn := by omega
                  clear hlt hj hbd
                  have b5 : Below w.heap.size w wr := HB4.out.trans (hM.kept.below HB4.out.size (fun k hk => by omega))
                  have HX5 := hide ((hM.kept.block w3.heap.size (by omega) (by omega)).trans HC4.out)
                  have HP5 := hide ((hM.kept.block w.heap.size (by omega) (by omega)).trans HP4.out)
                  have IC5 := IMC.out.keepR (w' := wr) fun k hk hlt => hM.kept.block k (by have := REC.out k hk; omega) (by have := REC.out k hk; omega)
                  have hz5 := hM.kept.size
                  clear hM HBX RE4 IMX IMC HX4 HC4 HP4 HB4
                  go_upto_region 33 with fail
                  generalize wr = w5 at *
                  go_wp2_with fail
                  refine (head7_any w5 (HT.out _ b5) (by omega)).mono ?_
                  rintro e w6 ⟨rfl, b6'⟩
                  have b6 := b5.trans (b6'.mono b5.size)
                  have HX6 := hide ((b6'.block w3.heap.size (by omega)).trans HX5.out)
                  have HP6 := hide ((b6'.block w.heap.size (by omega)).trans HP5.out)
                  have IC6 := IC5.below (w' := w6) (b6'.mono (by omega))
                  have hz6 := b6'.size
                  clear b5 b6' HX5 HP5 IC5
                  go_wp2_with (first
                    | (refine wpList_load_want (by rfl) 37 _ rfl w3.heap.size rfl _ _ _ _ HX6.out Tryd.underlying37 rfl (info_msg _) ?_)
                    | (refine wpList_load_want (by rfl) 37 _ rfl w.heap.size rfl _ _ _ _ HP6.out Tryd.underlying37 rfl (info_msg _) ?_))
                  refine (rmsame_any mc m w3.heap.size w6 IC6 ((HMM.out _ b6).more (by omega)) (by omega)).mono ?_
                  rintro e w7 ⟨rfl, b7'⟩
                  rw [(sameM_iff mc m).2 HLC.out]
                  have b7 := b6.trans (b7'.mono b6.size)
                  clear b6 b7' HX6 HP6 IC6
                  have h5 : (mz 5 0 0 0).vn ≤ 1759218604440 := by show 0 ≤ _; omega
                  go_wp2_with fail
                  refine (mclone_any (mz 5 0 0 0) w7.heap.size w7 (isM_mz 5 0 0 0 _ _) (Nat.le_refl _) h5).mono ?_
                  rintro e w8 ⟨m8, rfl, lg8, im8, re8, b8'⟩
                  have b8 := b7.trans (b8'.mono b7.size)
                  have k8 : m8.kd = 5 := congrArg Msgl.kd lg8
                  have t8 : (m8.kd == 5) = true := by rw [k8]; rfl
                  clear lg8 im8 re8 b8' b7 k8
                  have hfl := run_kind m8
                  go_wp2
                  go_ret
                  exact ⟨rfl, b8⟩
end Go.Proofs.YtapbcpilklhoiabDoor

namespace Go.Proofs.YtapbcpilklhoiabDoor
open Go.ChangeShapes Go.WideShapes Go.ChangeAt Go.RowKit
set_option linter.unusedVariables false

set_option maxRecDepth 100000 in
theorem msgClones_lifted (os : Os) (started : os.Started) (H : Type) (enc : TypeId × Value → H) :
    ReturnsInHanded {} Tryd.checked os 6 .any (fun w args => (Rows.msgClonesSpec.pre enc Tryd.prog Tryd.f6 [] false w args ∧ laidMetH Tryd.prog laid1 w) ∧ sizedMet enc Tryd.prog Tryd.f6 (OpenSpec.ofChange Rows.msgClonesSpec) false w args)
      (Rows.msgClonesSpec.post enc Tryd.prog Tryd.f6 false true false false) := by
  refine returnsInHanded_of_change_and (C := Tryd.checked) (X := fun w _ => laidMetH Tryd.prog laid1 w) (fun _ _ _ hh h => h.of_heap hh) ownKnob_none started (by kernel_rfl) Tryd.func6
    (ChangeSpec.witness_shaped (enc := enc) (C := Tryd.checked) (os := os) (X := fun w _ => laidMetH Tryd.prog laid1 w) false (World.doorLaid Tryd.prog 14 os) #[.agg #[.int .i64 0, .int .i64 0, .int .i64 0, .int .i64 0, .int .i64 0, .int .i64 0, .int .i64 0, .int .i64 0, .int .i64 0, .int .i64 0, .slice none 0 0, .slice none 0 0, .slice none 0 0, .int .i64 0, .int .i64 0, .int .i64 0, .int .i64 0, .int .i64 0, .int .i64 0, .int .i64 0, .int .i64 0, .int .i64 0, .int .i64 0, .int .i64 0, .slice none 0 0]] 8 rfl (World.shaped_of_RefB (by kernel_rfl) (by kernel_rfl)) (by kernel_rfl) (by kernel_rfl) (by kernel_rfl) (door_met os _)) ?_
  intro W base args ds gs before hval0 hW _ hsz0 hL _
  have hval : ∀ (j : Nat) t v, Tryd.f6.params[j]? = some t → args[j]? = some v → Value.okWide Tryd.prog W .any base t v := hval0
  have hsz : (DataW.weightsEach Tryd.prog (Tryd.f6.params.toList ++ Rows.msgClonesSpec.plain.varTypes Tryd.prog) (ds ++ gs)).all (· ≤ reachBytes) = true := hsz0
  have hW' := hW
  obtain ⟨p, q, hA0, hV, rfl, hfz, hnd⟩ := hW
  have hA : DataW.TrodAll enc Tryd.prog W 0 (fun _ => true) true Tryd.f6.params.toList args.toList ds p := hA0
  rw [Tryd.params6] at hA hval hsz
  obtain ⟨v0, vs0', d0, ds0, p0, q0, hargs, rfl, rfl, h0, r0⟩ := trodAll_cons hA
  obtain ⟨rfl, rfl, rfl⟩ := trodAll_nil r0
  obtain rfl : args = #[v0] := by cases args; simp_all
  obtain ⟨rfl, rfl⟩ := trodVars_none hV
  have t0 := h0
  have lt0 : ∀ x ∈ p0, x.block < W.heap.size := by obtain ⟨m, hm⟩ := t0; exact DataW.trod_lt m _ _ _ hm
  obtain ⟨m0, rfl, hm0⟩ := open_msg (hval 0 37 v0 rfl rfl) h0 (Light.of_each hsz (j := 0) rfl rfl)
  clear hA0 hval0
  refine (mclones_walk m0 W (tab_of_laid hL) hm0.im (by have := hm0.vn; omega) (tab_of_laid hL).lt).mono fun e W' ⟨he, bel⟩ => ?_
  subst he
  exact ⟨_, rfl, _, _, _, [], _, [], hW', trodAll_mk1 (shut_bool Tryd.underlying4 _), (trodAll_cons_mk (Below.trod laid_out (by kernel_rfl) (of_decide_eq_true (by kernel_rfl)) t0 bel lt0) trodAll_mk0), rfl, bel.frame _, fun h => by cases h⟩

theorem msgClones_holds : Rows.MsgClonesSaid :=
  OpenClaim.holds_of_wide 6 Tryd.f6 rfl rfl rfl rfl rfl rfl rfl ⟨rfl, rfl, rfl, rfl, rfl⟩ rfl rfl rfl rfl rfl (by kernel_rfl) Tryd.func6 (by kernel_rfl)
    (of_decide_eq_true (by kernel_rfl)) (by unfold Func.isWrapper; first | (rw [if_pos (by decide +kernel)]; kernel_rfl) | (rw [if_neg (by decide +kernel)]; exact ⟨rfl, rfl⟩))
    (fun os started H enc _ => msgClones_lifted os started H enc)

theorem msgClones_card : Rows.MsgClonesCardSaid :=
  Claim7.holds_tied_plain_at .later [] [.data] true Rows.msgClonesCard.stood.harness false
    msgClones_holds (fun _ h => by cases h) (by kernel_rfl) (fun _ h => by cases h) msgClones_row_tie rfl ⟨rfl, rfl⟩ (by kernel_rfl) rfl
    (fun f fn hf hfn => by
      obtain rfl : f = 6 := Option.some.inj ((show Tryd.prog.funcNamed "synod/synodlaw07.MsgClones" = some 6 by kernel_rfl).symm.trans hf) |>.symm
      obtain rfl : fn = Tryd.f6 := (Option.some.inj (Tryd.func6.symm.trans hfn)).symm
      exact ⟨by kernel_rfl, fun j t ht => by
        rw [Tryd.params6] at ht
        have hm : t ∈ [37] := by simpa using Array.mem_of_getElem? ht
        have hall : ([37].all fun u => !Tryd.prog.wantsStandIn u) = true := by kernel_rfl
        exact (show Tryd.prog.wantsStandIn t = false by simpa using List.all_eq_true.1 hall t hm)⟩)
    (by kernel_rfl)
#print axioms msgClones_card
end Go.Proofs.YtapbcpilklhoiabDoor
