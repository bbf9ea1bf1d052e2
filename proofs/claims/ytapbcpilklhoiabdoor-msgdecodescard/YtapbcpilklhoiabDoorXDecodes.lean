/-
  MsgDecodes of the statements, as its tied card: for every input the law returns true, and what came in reads as it did. No condition of ours; the row lists one table of the program, which the card ties to the program's text.
  The walk of MsgDecodes. Conditions: what came in is in reach; the package's table is as its text lays it.
-/
import Derived.Test.YtapbcpilklhoiabDoorMY16
import Derived.Test.YtapbcpilklhoiabDoorMY25
import Derived.Test.YtapbcpilklhoiabDoorMY17
import Derived.Test.YtapbcpilklhoiabDoorMY14
set_option linter.unusedSimpArgs false
set_option linter.unusedVariables false

namespace Go.Proofs.YtapbcpilklhoiabDoor
open Go.RowKit

set_option maxRecDepth 40000 in
set_option maxHeartbeats 6400000 in
theorem mdecodes_walk (A : Option Addr) (n c : Nat) (xs : List UInt8) (w : World) (ht : TabM w) (hx : Has w w.heap.size A xs) (hn : xs.length = n) (hc : n ≤ c) (hl : n ≤ 140737488355328) (h0 : 0 < w.heap.size) :
    Calls Tryd.prog 4 #[.slice A n c] w fun e w' => e = .returned (.bool true) ∧ Below w.heap.size w w' := by
  have HT : Hid (∀ W, Below w.heap.size w W → TabM W) := hide (fun W h => ht.below h (by omega))
  have HXX : Hid (∀ W, Below w.heap.size w W → Has W w.heap.size A xs) := hide (fun W h => hx.below h)
  have HN := hide hn
  clear ht hx hn
  go_enter Tryd.func4, Tryd.ntmps4
  go_wp2_with fail
  refine (head7_any w (HT.out _ (Below.refl _ _)) h0).mono ?_
  rintro e w1 ⟨rfl, b1⟩
  have hz1 := b1.size
  go_wp2_with fail
  refine (copy_any A n c xs w1 ((HXX.out _ b1).more (by omega)) HN.out hl).mono ?_
  rintro e w2 ⟨rfl, hw2⟩
  have b2' := (Below.refl _ w1).alloc (Nat.le_refl _) (.cells (bcells xs) 5)
  have hd2 := Has.new w1 5 xs (0, 0) w1.heap.size rfl
  have hs2 : (w1.alloc (.cells (bcells xs) 5)).heap.size = w1.heap.size + 1 := by simp
  rw [hw2] at b2' hd2 hs2
  have b2 := b1.trans (b2'.mono b1.size)
  have hd2 : Has w2 w2.heap.size (some ⟨w1.heap.size, 0, none⟩) xs := hd2.more (by omega)
  have hz2 : w1.heap.size < w2.heap.size := by omega
  have HDD : Hid (∀ W, Below w2.heap.size w2 W → Has W w2.heap.size (some ⟨w1.heap.size, 0, none⟩) xs) := hide (fun W h => hd2.below h)
  clear hw2 hs2 b2' b1 hd2
  generalize w1.heap.size = g1 at *
  go_wp2_with fail
  refine (rmdecode_any A n c w.heap.size xs w2 (HXX.out _ b2) b2.size HN.out hc hl).mono ?_
  rintro e w3 ⟨mw, rfl, lgw, imw, rew, b3'⟩
  have b3 := b2.trans (b3'.mono b2.size)
  have hz3 := b3'.size
  have hr4 := set_row_at (B := mw.cells) (heap_alloc_new w3 (.cells #[.int .i64 0, .int .i64 0, .int .i64 0, .int .i64 0, .int .i64 0, .int .i64 0, .int .i64 0, .int .i64 0, .int .i64 0, .int .i64 0, .slice none 0 0, .slice none 0 0, .slice none 0 0, .int .i64 0, .int .i64 0, .int .i64 0, .int .i64 0, .int .i64 0, .int .i64 0, .int .i64 0, .int .i64 0, .int .i64 0, .int .i64 0, .int .i64 0, .slice none 0 0] 37))
  have b4' : Below w3.heap.size w3 ((w3.alloc (.cells #[.int .i64 0, .int .i64 0, .int .i64 0, .int .i64 0, .int .i64 0, .int .i64 0, .int .i64 0, .int .i64 0, .int .i64 0, .int .i64 0, .slice none 0 0, .slice none 0 0, .slice none 0 0, .int .i64 0, .int .i64 0, .int .i64 0, .int .i64 0, .int .i64 0, .int .i64 0, .int .i64 0, .int .i64 0, .int .i64 0, .int .i64 0, .int .i64 0, .slice none 0 0] 37)).setRow w3.heap.size mw.cells) := ((Below.refl _ w3).alloc (Nat.le_refl _) (.cells #[.int .i64 0, .int .i64 0, .int .i64 0, .int .i64 0, .int .i64 0, .int .i64 0, .int .i64 0, .int .i64 0, .int .i64 0, .int .i64 0, .slice none 0 0, .slice none 0 0, .slice none 0 0, .int .i64 0, .int .i64 0, .int .i64 0, .int .i64 0, .int .i64 0, .int .i64 0, .int .i64 0, .int .i64 0, .int .i64 0, .int .i64 0, .int .i64 0, .slice none 0 0] 37)).trans ((Kept.of_setRow _ w3.heap.size mw.cells).below (by simp) (fun k hk => by omega))
  have b24 := b3'.trans (b4'.mono b3'.size)
  have b4 := b3.trans (b4'.mono b3.size)
  have imw4 := imw.below b4'
  have hz4 := lt_of_block hr4
  have HDW := hide (HDD.out _ b24)
  have HWL := hide lgw
  have REW := hide rew
  clear b3 b3' b4' imw lgw rew
  go_wp2_with (refine wpList_store_row rfl 37 _ _ rfl w3.heap.size mw.cells rfl rfl _ _ (heap_alloc_new w3 (.cells #[.int .i64 0, .int .i64 0, .int .i64 0, .int .i64 0, .int .i64 0, .int .i64 0, .int .i64 0, .int .i64 0, .int .i64 0, .int .i64 0, .slice none 0 0, .slice none 0 0, .slice none 0 0, .int .i64 0, .int .i64 0, .int .i64 0, .int .i64 0, .int .i64 0, .int .i64 0, .int .i64 0, .int .i64 0, .int .i64 0, .int .i64 0, .int .i64 0, .slice none 0 0] 37)) (info_msg _) rfl (mcells_one _) ?_; generalize (w3.alloc (.cells #[.int .i64 0, .int .i64 0, .int .i64 0, .int .i64 0, .int .i64 0, .int .i64 0, .int .i64 0, .int .i64 0, .int .i64 0, .int .i64 0, .slice none 0 0, .slice none 0 0, .slice none 0 0, .int .i64 0, .int .i64 0, .int .i64 0, .int .i64 0, .int .i64 0, .int .i64 0, .int .i64 0, .int .i64 0, .int .i64 0, .int .i64 0, .int .i64 0, .slice none 0 0] 37)).setRow w3.heap.size mw.cells = w4 at *)
  refine (mdecode_any (some ⟨g1, 0, none⟩) n n w2.heap.size xs w4 (HT.out _ b4) HDW.out (by omega) (by omega) HN.out hl).mono ?_
  rintro e w5 ⟨m5, rfl, lg5, im5, re5, b5'⟩
  have b5 := b4.trans (b5'.mono b4.size)
  have hz5 := b5'.size
  have hr6 := set_row_at (B := m5.cells) (heap_alloc_new w5 (.cells #[.int .i64 0, .int .i64 0, .int .i64 0, .int .i64 0, .int .i64 0, .int .i64 0, .int .i64 0, .int .i64 0, .int .i64 0, .int .i64 0, .slice none 0 0, .slice none 0 0, .slice none 0 0, .int .i64 0, .int .i64 0, .int .i64 0, .int .i64 0, .int .i64 0, .int .i64 0, .int .i64 0, .int .i64 0, .int .i64 0, .int .i64 0, .int .i64 0, .slice none 0 0] 37))
  have b6' : Below w5.heap.size w5 ((w5.alloc (.cells #[.int .i64 0, .int .i64 0, .int .i64 0, .int .i64 0, .int .i64 0, .int .i64 0, .int .i64 0, .int .i64 0, .int .i64 0, .int .i64 0, .slice none 0 0, .slice none 0 0, .slice none 0 0, .int .i64 0, .int .i64 0, .int .i64 0, .int .i64 0, .int .i64 0, .int .i64 0, .int .i64 0, .int .i64 0, .int .i64 0, .int .i64 0, .int .i64 0, .slice none 0 0] 37)).setRow w5.heap.size m5.cells) := ((Below.refl _ w5).alloc (Nat.le_refl _) (.cells #[.int .i64 0, .int .i64 0, .int .i64 0, .int .i64 0, .int .i64 0, .int .i64 0, .int .i64 0, .int .i64 0, .int .i64 0, .int .i64 0, .slice none 0 0, .slice none 0 0, .slice none 0 0, .int .i64 0, .int .i64 0, .int .i64 0, .int .i64 0, .int .i64 0, .int .i64 0, .int .i64 0, .int .i64 0, .int .i64 0, .int .i64 0, .int .i64 0, .slice none 0 0] 37)).trans ((Kept.of_setRow _ w5.heap.size m5.cells).below (by simp) (fun k hk => by omega))
  have b46 := b5'.trans (b6'.mono b5'.size)
  have b6 := b5.trans (b6'.mono b5.size)
  have b26 := b24.trans (b46.mono b24.size)
  have hz6 := lt_of_block hr6
  have hr46 := (b46.block w3.heap.size hz4).trans hr4
  have imw6 := imw4.below (b46.mono (by omega))
  have im6 := im5.below b6'
  have re6 : ∀ k, ReachM m5 k → (w4.heap.size ≤ k ∧ k < w5.heap.size) ∧ Free ((w5.alloc (.cells #[.int .i64 0, .int .i64 0, .int .i64 0, .int .i64 0, .int .i64 0, .int .i64 0, .int .i64 0, .int .i64 0, .int .i64 0, .int .i64 0, .slice none 0 0, .slice none 0 0, .slice none 0 0, .int .i64 0, .int .i64 0, .int .i64 0, .int .i64 0, .int .i64 0, .int .i64 0, .int .i64 0, .int .i64 0, .int .i64 0, .int .i64 0, .int .i64 0, .slice none 0 0] 37)).setRow w5.heap.size m5.cells) k := fun k hk => ⟨⟨(re5 k hk).1, (re5 k hk).2.1⟩, (re5 k hk).2.2.keep (b6'.block k (re5 k hk).2.1)⟩
  have HDW6 := hide (HDD.out _ b26)
  have HL5 := hide lg5
  clear b4 b5 b5' b6' b46 b24 imw4 im5 re5 lg5 HDW hr4
  go_wp2_with (refine wpList_store_row rfl 37 _ _ rfl w5.heap.size m5.cells rfl rfl _ _ (heap_alloc_new w5 (.cells #[.int .i64 0, .int .i64 0, .int .i64 0, .int .i64 0, .int .i64 0, .int .i64 0, .int .i64 0, .int .i64 0, .int .i64 0, .int .i64 0, .slice none 0 0, .slice none 0 0, .slice none 0 0, .int .i64 0, .int .i64 0, .int .i64 0, .int .i64 0, .int .i64 0, .int .i64 0, .int .i64 0, .int .i64 0, .int .i64 0, .int .i64 0, .int .i64 0, .slice none 0 0] 37)) (info_msg _) rfl (mcells_one _) ?_; generalize (w5.alloc (.cells #[.int .i64 0, .int .i64 0, .int .i64 0, .int .i64 0, .int .i64 0, .int .i64 0, .int .i64 0, .int .i64 0, .int .i64 0, .int .i64 0, .slice none 0 0, .slice none 0 0, .slice none 0 0, .int .i64 0, .int .i64 0, .int .i64 0, .int .i64 0, .int .i64 0, .int .i64 0, .int .i64 0, .int .i64 0, .int .i64 0, .int .i64 0, .int .i64 0, .slice none 0 0] 37)).setRow w5.heap.size m5.cells = w6 at *)
  refine (mdecode_any (some ⟨g1, 0, none⟩) n n w2.heap.size xs w6 (HT.out _ b6) HDW6.out (by omega) (by omega) HN.out hl).mono ?_
  rintro e w7 ⟨m7, rfl, lg7, im7, re7, b7'⟩
  have b7 := b6.trans (b7'.mono b6.size)
  have hz7 := b7'.size
  have hr8 := set_row_at (B := m7.cells) (heap_alloc_new w7 (.cells #[.int .i64 0, .int .i64 0, .int .i64 0, .int .i64 0, .int .i64 0, .int .i64 0, .int .i64 0, .int .i64 0, .int .i64 0, .int .i64 0, .slice none 0 0, .slice none 0 0, .slice none 0 0, .int .i64 0, .int .i64 0, .int .i64 0, .int .i64 0, .int .i64 0, .int .i64 0, .int .i64 0, .int .i64 0, .int .i64 0, .int .i64 0, .int .i64 0, .slice none 0 0] 37))
  have b8' : Below w7.heap.size w7 ((w7.alloc (.cells #[.int .i64 0, .int .i64 0, .int .i64 0, .int .i64 0, .int .i64 0, .int .i64 0, .int .i64 0, .int .i64 0, .int .i64 0, .int .i64 0, .slice none 0 0, .slice none 0 0, .slice none 0 0, .int .i64 0, .int .i64 0, .int .i64 0, .int .i64 0, .int .i64 0, .int .i64 0, .int .i64 0, .int .i64 0, .int .i64 0, .int .i64 0, .int .i64 0, .slice none 0 0] 37)).setRow w7.heap.size m7.cells) := ((Below.refl _ w7).alloc (Nat.le_refl _) (.cells #[.int .i64 0, .int .i64 0, .int .i64 0, .int .i64 0, .int .i64 0, .int .i64 0, .int .i64 0, .int .i64 0, .int .i64 0, .int .i64 0, .slice none 0 0, .slice none 0 0, .slice none 0 0, .int .i64 0, .int .i64 0, .int .i64 0, .int .i64 0, .int .i64 0, .int .i64 0, .int .i64 0, .int .i64 0, .int .i64 0, .int .i64 0, .int .i64 0, .slice none 0 0] 37)).trans ((Kept.of_setRow _ w7.heap.size m7.cells).below (by simp) (fun k hk => by omega))
  have b68 := b7'.trans (b8'.mono b7'.size)
  have b8 := b7.trans (b8'.mono b7.size)
  have b28 := b26.trans (b68.mono b26.size)
  have hz8 := lt_of_block hr8
  have hw8 := (b68.block w3.heap.size (by omega)).trans hr46
  have hm8 := (b68.block w5.heap.size hz6).trans hr6
  have imw8 := imw6.below (b68.mono (by omega))
  have im8 := im6.below (b68.mono (by omega))
  have in8 := im7.below b8'
  have re8 : ∀ k, ReachM m5 k → (w4.heap.size ≤ k ∧ k < w5.heap.size) ∧ Free ((w7.alloc (.cells #[.int .i64 0, .int .i64 0, .int .i64 0, .int .i64 0, .int .i64 0, .int .i64 0, .int .i64 0, .int .i64 0, .int .i64 0, .int .i64 0, .slice none 0 0, .slice none 0 0, .slice none 0 0, .int .i64 0, .int .i64 0, .int .i64 0, .int .i64 0, .int .i64 0, .int .i64 0, .int .i64 0, .int .i64 0, .int .i64 0, .int .i64 0, .int .i64 0, .slice none 0 0] 37)).setRow w7.heap.size m7.cells) k := fun k hk => ⟨(re6 k hk).1, (re6 k hk).2.keep (b68.block k (re6 k hk).2.lt)⟩
  have ren : ∀ k, ReachM m7 k → w6.heap.size ≤ k ∧ k < w7.heap.size := fun k hk => ⟨(re7 k hk).1, (re7 k hk).2.1⟩
  have HDW8 := hide (HDD.out _ b28)
  have HL7 := hide lg7
  have HRN := hide ren
  have HM8 := hide hm8
  have HW8 := hide hw8
  have HN8 := hide hr8
  have RE8 := hide re8
  have IN8 := hide in8
  have IM8 := hide im8
  have IW8 := hide imw8
  generalize mdecE xs = de at *
  clear b6 b7 b7' b8' b68 b26 imw6 im6 im7 re6 re7 lg7 HDW6 hr46 hr6 hm8 hw8 hr8 ren re8 HDD in8 im8 imw8
  go_wp2_with (first
    | (refine wpList_store_row rfl 37 _ _ rfl w7.heap.size m7.cells rfl rfl _ _ (heap_alloc_new w7 (.cells #[.int .i64 0, .int .i64 0, .int .i64 0, .int .i64 0, .int .i64 0, .int .i64 0, .int .i64 0, .int .i64 0, .int .i64 0, .int .i64 0, .slice none 0 0, .slice none 0 0, .slice none 0 0, .int .i64 0, .int .i64 0, .int .i64 0, .int .i64 0, .int .i64 0, .int .i64 0, .int .i64 0, .int .i64 0, .int .i64 0, .int .i64 0, .int .i64 0, .slice none 0 0] 37)) (info_msg _) rfl (mcells_one _) ?_; generalize (w7.alloc (.cells #[.int .i64 0, .int .i64 0, .int .i64 0, .int .i64 0, .int .i64 0, .int .i64 0, .int .i64 0, .int .i64 0, .int .i64 0, .int .i64 0, .slice none 0 0, .slice none 0 0, .slice none 0 0, .int .i64 0, .int .i64 0, .int .i64 0, .int .i64 0, .int .i64 0, .int .i64 0, .int .i64 0, .int .i64 0, .int .i64 0, .int .i64 0, .int .i64 0, .slice none 0 0] 37)).setRow w7.heap.size m7.cells = w8 at *)
    | (refine wpList_load_row rfl 37 _ rfl w5.heap.size rfl _ _ _ _ HM8.out Tryd.underlying37 rfl (info_msg _) ?_)
    | (refine wpList_load_row rfl 37 _ rfl w3.heap.size rfl _ _ _ _ HW8.out Tryd.underlying37 rfl (info_msg _) ?_))
  refine (rmsame_any m5 mw w8.heap.size w8 (IM8.out.more (by omega)) (IW8.out.more (by omega)) (Nat.le_refl _)).mono ?_
  rintro e w9 ⟨rfl, b9⟩
  rw [(sameM_iff m5 mw).2 (HL5.out.trans HWL.out.symm)]
  have tde : (de != de) = false := by simp
  go_wp2_with fail
  refine (same_any (some ⟨g1, 0, none⟩) A n n n c w2.heap.size w.heap.size xs xs w9 (HDW8.out.below (b9.mono (by omega))) (HXX.out _ (b8.trans (b9.mono b8.size))) HN.out HN.out hl).mono ?_
  rintro e w10 ⟨rfl, nq, hw10⟩
  rw [decide_eq_true rfl]
  have b10' : Below w8.heap.size w8 w10 := by rw [← hw10]; exact below_drewN b9 nq
  have HB10 := hide (b8.trans (b10'.mono b8.size))
  have HM10 := hide ((b10'.block w5.heap.size (by omega)).trans HM8.out)
  have HW10 := hide ((b10'.block w3.heap.size (by omega)).trans HW8.out)
  have HN10 := hide ((b10'.block w7.heap.size hz8).trans HN8.out)
  have IMX := hide (IM8.out.below (b10'.mono (by omega)))
  have IN10 := hide (IN8.out.below (b10'.mono (by omega)))
  have IW10 := hide (IW8.out.below (b10'.mono (by omega)))
  have RE4 : Hid (∀ k, ReachM m5 k → (w4.heap.size ≤ k ∧ k < w5.heap.size) ∧ Free w10 k) := hide (fun k hk => ⟨(RE8.out k hk).1, (RE8.out k hk).2.keep (b10'.block k (RE8.out k hk).2.lt)⟩)
  have HLC := hide (HL7.out.trans HWL.out.symm)
  have hz10 := b10'.size
  clear hw10 b9 b8 b10' HM8 HW8 HN8 IM8 IN8 IW8 RE8 HL5 HL7 HWL HDW8 HXX HN hl hc b28 tde
  go_upto_region 9 with fail
  generalize m5.cells = y1
  generalize mw.cells = y2
  generalize m7.cells = y3
  have M4 := Mut.refl (fun k => w4.heap.size ≤ k ∧ k < w5.heap.size) w10
  have HBX : Hid (∀ W, Mut (fun k => w4.heap.size ≤ k ∧ k < w5.heap.size) w10 W → W.heap[w5.heap.size]? = some (.cells m5.cells 37 (0, 0))) := hide (fun W h => (h.kept.block w5.heap.size (by omega) (by omega)).trans HM10.out)
  have k24 := (row_cells (HBX.out _ M4) 24).1
  simp only [Msgv.cells, List.getElem?_toArray, List.getElem?_cons_succ, List.getElem?_cons_zero] at k24
  go_wp2_with fail
  go_loopw [50] (fun i wr => ∃ j : Nat, j ≤ m5.dn ∧ i = .int .i64 j ∧ Mut (fun k => w4.heap.size ≤ k ∧ k < w5.heap.size) w10 wr) (fun i _ => m5.dn - (intOf i).toNat)
  case atStart => exact ⟨0, Nat.zero_le _, rfl, M4⟩
  case round =>
    clear M4 k24
    obtain ⟨j, hj, rfl, hM⟩ := hrel
    have hbd : m5.dn ≤ 140737488351232 := IMX.out.ld
    by_cases hlt : j < m5.dn
    · obtain ⟨b, o, hA, hR, ⟨y, hy⟩, hf⟩ := hM.byte IMX.out.d (fun k o e => RE4.out k (.inr (.inr (.inr ⟨o, e⟩)))) (by rw [IMX.out.ed]; exact hlt)
      have k24 := (row_cells (HBX.out _ hM) 24).1
      simp only [Msgv.cells, List.getElem?_toArray, List.getElem?_cons_succ, List.getElem?_cons_zero] at k24
      rw [hA] at k24
      have HS := hide (fun z => hM.set hR hy z)
      clear hM hA
      go_wp2
      exact ⟨⟨j + 1, by omega, by go_num, HS.out _⟩, by simp [intOf]; omega⟩
    · obtain rfl : j = m5.dn := by omega
      clear hlt hj hbd
      have M4 : Mut (fun k => w4.heap.size ≤ k ∧ k < w5.heap.size) w10 wr := hM
      clear hM
      go_upto_region 14 with fail
      generalize wr = wq at *
      have k12 := (row_cells (HBX.out _ M4) 12).1
      simp only [Msgv.cells, List.getElem?_toArray, List.getElem?_cons_succ, List.getElem?_cons_zero] at k12
      go_wp2_with fail
      go_loopw [64] (fun i wr => ∃ j : Nat, j ≤ m5.vn ∧ i = .int .i64 j ∧ Mut (fun k => w4.heap.size ≤ k ∧ k < w5.heap.size) w10 wr) (fun i _ => m5.vn - (intOf i).toNat)
      case atStart => exact ⟨0, Nat.zero_le _, rfl, M4⟩
      case round =>
        clear M4 k12
        obtain ⟨j, hj, rfl, hM⟩ := hrel
        have hbd : m5.vn ≤ 140737488351232 := by have := IMX.out.ln; omega
        by_cases hlt : j < m5.vn
        · have hlt' : j < m5.vs.length := by rw [IMX.out.en]; exact hlt
          have HRV : Hid (∀ k o, m5.VA = some ⟨k, o, none⟩ → (w4.heap.size ≤ k ∧ k < w5.heap.size) ∧ Free w10 k) := hide (fun k o e => RE4.out k (.inr (.inl ⟨o, e⟩)))
          have HVT : Hid (∀ W, Mut (fun k => w4.heap.size ≤ k ∧ k < w5.heap.size) w10 W → ∃ b o, m5.VA = some ⟨b, o, none⟩ ∧ Cell (fun k => w4.heap.size ≤ k ∧ k < w5.heap.size) W b (o + j * 6) .i64 ∧ W.cell? ⟨b, o + j * 6 + 4, none⟩ = some (.slice m5.vs[j].v.A m5.vs[j].v.n m5.vs[j].v.c) ∧ W.cell? ⟨b, o + j * 6 + 5, none⟩ = some (.slice m5.vs[j].v.D m5.vs[j].v.m m5.vs[j].v.d)) := hide (fun W h => h.vote IMX.out.vt HRV.out hlt')
          have IVX := hide (IMX.out.vt j hlt').2
          have REV : Hid (∀ k, ReachV m5.vs[j].v k → (w4.heap.size ≤ k ∧ k < w5.heap.size) ∧ Free w10 k) := hide (fun k hk => RE4.out k (.inr (.inr (.inl ⟨_, List.getElem_mem hlt', hk⟩))))
          generalize m5.vs[j] = v at *
          obtain ⟨b, o, hA, _⟩ := HVT.out _ hM
          have HVV : Hid (∀ W, Mut (fun k => w4.heap.size ≤ k ∧ k < w5.heap.size) w10 W → Cell (fun k => w4.heap.size ≤ k ∧ k < w5.heap.size) W b (o + j * 6) .i64 ∧ W.cell? ⟨b, o + j * 6 + 4, none⟩ = some (.slice v.v.A v.v.n v.v.c)) := hide (fun W h => by
            obtain ⟨b', o', hA', r1, r2, r3⟩ := HVT.out W h
            rw [hA] at hA'
            cases hA'
            exact ⟨r1, r2⟩)
          have HBV : Hid (∀ W, Mut (fun k => w4.heap.size ≤ k ∧ k < w5.heap.size) w10 W → W.cell? ⟨w5.heap.size, 12, none⟩ = some (.slice (some ⟨b, o, none⟩) m5.vn m5.vc)) := hide (fun W h => by
            have k12 := (row_cells (HBX.out _ h) 12).1
            simp only [Msgv.cells, List.getElem?_toArray, List.getElem?_cons_succ, List.getElem?_cons_zero] at k12
            rw [hA] at k12
            exact k12)
          clear HVT HRV hA
          obtain ⟨⟨hR, ⟨y, hy⟩, hf⟩, _⟩ := HVV.out _ hM
          have k12 := HBV.out _ hM
          have M5 := hM.set hR hy (-1)
          clear hM
          go_upto_region 18 with fail
          generalize wr.setCell ⟨b, o + j * 6, none⟩ (.int .i64 (-1)) = wp at *
          clear hy hf k12 hR
          have k12 := HBV.out _ M5
          have kv := (HVV.out _ M5).2
          go_wp2_with fail
          go_loopw [80] (fun i wr => ∃ q : Nat, q ≤ v.v.n ∧ i = .int .i64 q ∧ Mut (fun k => w4.heap.size ≤ k ∧ k < w5.heap.size) w10 wr) (fun i _ => v.v.n - (intOf i).toNat)
          case atStart => exact ⟨0, Nat.zero_le _, rfl, M5⟩
          case round =>
            clear M5 k12 kv
            obtain ⟨q, hq, rfl, hM⟩ := hrel
            have hbq : v.v.n ≤ 140737488351232 := by have := IVX.out.ln; omega
            by_cases hlq : q < v.v.n
            · obtain ⟨b2, o2, hA2, hR, ⟨y, hy⟩, hf⟩ := hM.seq IVX.out.c (fun k o e => REV.out k (.inl ⟨o, e⟩)) (by rw [IVX.out.en]; exact hlq)
              have k12 := HBV.out _ hM
              have kv := (HVV.out _ hM).2
              rw [hA2] at kv
              have HS := hide (fun z => hM.set hR hy z)
              clear hM hA2
              go_wp2
              exact ⟨⟨q + 1, by omega, by go_num, HS.out _⟩, by simp [intOf]; omega⟩
            · obtain rfl : q = v.v.n := by omega
              clear hlq hq hbq
              have M5 : Mut (fun k => w4.heap.size ≤ k ∧ k < w5.heap.size) w10 wr := hM
              clear hM
              go_wp2
              exact ⟨⟨j + 1, by omega, by go_num, M5⟩, by simp [intOf]; omega⟩
        · obtain rfl : j = m5.vn := by omega
          clear hlt hj hbd
          have b5 : Below w.heap.size w wr := HB10.out.trans (hM.kept.below HB10.out.size (fun k hk => by omega))
          have HN5 := hide ((hM.kept.block w7.heap.size (by omega) (by omega)).trans HN10.out)
          have HW5 := hide ((hM.kept.block w3.heap.size (by omega) (by omega)).trans HW10.out)
          have hz11 := hM.kept.size
          have IN5 := (IN10.out.keepR (w' := wr) fun k hk hlt => hM.kept.block k (by have := HRN.out k hk; omega) (by have := HRN.out k hk; omega)).more (B' := wr.heap.size) (by omega)
          have IW5 := (IW10.out.keepR (w' := wr) fun k hk hlt => hM.kept.block k (by have := REW.out k hk; omega) (by have := REW.out k hk; omega)).more (B' := wr.heap.size) (by omega)
          clear hM HBX RE4 IMX HM10 HW10 HN10 IN10 IW10 HB10
          go_upto_region 24 with fail
          generalize wr = wk at *
          go_wp2_with (first
            | (refine wpList_load_row rfl 37 _ rfl w7.heap.size rfl _ _ _ _ HN5.out Tryd.underlying37 rfl (info_msg _) ?_)
            | (refine wpList_load_row rfl 37 _ rfl w3.heap.size rfl _ _ _ _ HW5.out Tryd.underlying37 rfl (info_msg _) ?_))
          refine (rmsame_any m7 mw wk.heap.size wk IN5 IW5 (Nat.le_refl _)).mono ?_
          rintro e wl ⟨rfl, bl'⟩
          rw [(sameM_iff m7 mw).2 HLC.out]
          have bl := b5.trans (bl'.mono b5.size)
          clear bl' b5 HN5 HW5 IN5 IW5
          go_wp2
          go_ret
          exact ⟨rfl, bl⟩
end Go.Proofs.YtapbcpilklhoiabDoor

namespace Go.Proofs.YtapbcpilklhoiabDoor
open Go.ChangeShapes Go.WideShapes Go.ChangeAt Go.RowKit
set_option linter.unusedVariables false

set_option maxRecDepth 100000 in
theorem msgDecodes_lifted (os : Os) (started : os.Started) (H : Type) (enc : TypeId × Value → H) :
    ReturnsInHanded {} Tryd.checked os 4 .any (fun w args => (Rows.msgDecodesSpec.pre enc Tryd.prog Tryd.f4 [] false w args ∧ laidMetH Tryd.prog laid1 w) ∧ sizedMet enc Tryd.prog Tryd.f4 (OpenSpec.ofChange Rows.msgDecodesSpec) false w args)
      (Rows.msgDecodesSpec.post enc Tryd.prog Tryd.f4 false true false false) := by
  refine returnsInHanded_of_change_and (C := Tryd.checked) (X := fun w _ => laidMetH Tryd.prog laid1 w) (fun _ _ _ hh h => h.of_heap hh) ownKnob_none started (by kernel_rfl) Tryd.func4
    (ChangeSpec.witness_shaped (enc := enc) (C := Tryd.checked) (os := os) (X := fun w _ => laidMetH Tryd.prog laid1 w) false (World.doorLaid Tryd.prog 14 os) #[.slice none 0 0] 8 rfl (World.shaped_of_RefB (by kernel_rfl) (by kernel_rfl)) (by kernel_rfl) (by kernel_rfl) (by kernel_rfl) (door_met os _)) ?_
  intro W base args ds gs before hval0 hW _ hsz0 hL _
  have hval : ∀ (j : Nat) t v, Tryd.f4.params[j]? = some t → args[j]? = some v → Value.okWide Tryd.prog W .any base t v := hval0
  have hsz : (DataW.weightsEach Tryd.prog (Tryd.f4.params.toList ++ Rows.msgDecodesSpec.plain.varTypes Tryd.prog) (ds ++ gs)).all (· ≤ reachBytes) = true := hsz0
  have hW' := hW
  obtain ⟨p, q, hA0, hV, rfl, hfz, hnd⟩ := hW
  have hA : DataW.TrodAll enc Tryd.prog W 0 (fun _ => true) true Tryd.f4.params.toList args.toList ds p := hA0
  rw [Tryd.params4] at hA hval hsz
  obtain ⟨v0, vs0', d0, ds0, p0, q0, hargs, rfl, rfl, h0, r0⟩ := trodAll_cons hA
  obtain ⟨rfl, rfl, rfl⟩ := trodAll_nil r0
  obtain rfl : args = #[v0] := by cases args; simp_all
  obtain ⟨rfl, rfl⟩ := trodVars_none hV
  have t0 := h0
  have lt0 : ∀ x ∈ p0, x.block < W.heap.size := by obtain ⟨m, hm⟩ := t0; exact DataW.trod_lt m _ _ _ hm
  obtain ⟨a0, len0, cap0, rfl⟩ := okWide_slice Tryd.underlying35 (hval 0 35 v0 rfl rfl)
  obtain ⟨xs0, y0⟩ := open_bytes h0
  have z0 := y0.size hsz (j := 0) rfl rfl
  clear hA0 hval0
  refine (mdecodes_walk a0 len0 cap0 xs0 W (tab_of_laid hL) y0.has y0.len_eq y0.le (by have := y0.le; omega) (tab_of_laid hL).lt).mono fun e W' ⟨he, bel⟩ => ?_
  subst he
  exact ⟨_, rfl, _, _, _, [], _, [], hW', trodAll_mk1 (shut_bool Tryd.underlying4 _), (trodAll_cons_mk (Below.trod laid_out (by kernel_rfl) (of_decide_eq_true (by kernel_rfl)) t0 bel lt0) trodAll_mk0), rfl, bel.frame _, fun h => by cases h⟩

theorem msgDecodes_holds : Rows.MsgDecodesSaid :=
  OpenClaim.holds_of_wide 4 Tryd.f4 rfl rfl rfl rfl rfl rfl rfl ⟨rfl, rfl, rfl, rfl, rfl⟩ rfl rfl rfl rfl rfl (by kernel_rfl) Tryd.func4 (by kernel_rfl)
    (of_decide_eq_true (by kernel_rfl)) (by unfold Func.isWrapper; first | (rw [if_pos (by decide +kernel)]; kernel_rfl) | (rw [if_neg (by decide +kernel)]; exact ⟨rfl, rfl⟩))
    (fun os started H enc _ => msgDecodes_lifted os started H enc)

theorem msgDecodes_card : Rows.MsgDecodesCardSaid :=
  Claim7.holds_tied_plain_at .later [] [.data] true Rows.msgDecodesCard.stood.harness false
    msgDecodes_holds (fun _ h => by cases h) (by kernel_rfl) (fun _ h => by cases h) msgDecodes_row_tie rfl ⟨rfl, rfl⟩ (by kernel_rfl) rfl
    (fun f fn hf hfn => by
      obtain rfl : f = 4 := Option.some.inj ((show Tryd.prog.funcNamed "synod/synodlaw07.MsgDecodes" = some 4 by kernel_rfl).symm.trans hf) |>.symm
      obtain rfl : fn = Tryd.f4 := (Option.some.inj (Tryd.func4.symm.trans hfn)).symm
      exact ⟨by kernel_rfl, fun j t ht => by
        rw [Tryd.params4] at ht
        have hm : t ∈ [35] := by simpa using Array.mem_of_getElem? ht
        have hall : ([35].all fun u => !Tryd.prog.wantsStandIn u) = true := by kernel_rfl
        exact (show Tryd.prog.wantsStandIn t = false by simpa using List.all_eq_true.1 hall t hm)⟩)
    (by kernel_rfl)
#print axioms msgDecodes_card
end Go.Proofs.YtapbcpilklhoiabDoor
