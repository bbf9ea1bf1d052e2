/-
  MsgBack of the statements, as its tied card: for every input the law returns true, and what came in reads as it did. No condition of ours; the row lists one table of the program, which the card ties to the program's text.
  The walk of MsgBack. Conditions: what came in is in reach; the package's table is as its text lays it.
-/
import Derived.Test.YtapbcpilklhoiabDoorMX16
import Derived.Test.YtapbcpilklhoiabDoorMX14
set_option linter.unusedSimpArgs false
set_option linter.unusedVariables false

namespace Go.Proofs.YtapbcpilklhoiabDoor
open Go.RowKit

set_option maxRecDepth 20000 in
set_option maxHeartbeats 6400000 in
theorem mback_walk (m : Msgv) (A : Option Addr) (n c : Nat) (xs : List UInt8) (w : World) (ht : TabM w) (hm : IsM w w.heap.size m) (hvn : m.vn ≤ 1759218604440) (hsl : -9223372036854775808 ≤ m.sl) (hx : Has w w.heap.size A xs) (hn : xs.length = n) (hl : n ≤ 140737488355328) (h0 : 0 < w.heap.size) :
    Calls Tryd.prog 5 #[.agg m.cells, .slice A n c] w fun e w' => e = .returned (.bool true) ∧ Below w.heap.size w w' := by
  have HT : Hid (∀ W, Below w.heap.size w W → TabM W) := hide (fun W h => ht.below h (by omega))
  have HMM : Hid (∀ W, Below w.heap.size w W → IsM W w.heap.size m) := hide (fun W h => hm.below h)
  have HX : Hid (∀ W, Below w.heap.size w W → Has W w.heap.size A xs) := hide (fun W h => hx.below h)
  have HN := hide hn
  have HUP : Hid (∀ (M : Msgv) (W : World) (B : Nat), IsM W B M → M.lg = m.lg → chkM M = chkM m ∧ -9223372036854775808 ≤ M.sl) := hide (fun M W B im e => ⟨by rw [chkM_up im.en im.ed, e, ← chkM_up hm.en hm.ed], by have : M.sl = m.sl := congrArg Msgl.sl e; rw [this]; exact hsl⟩)
  clear ht hm hx hn
  have im := info_msg m
  go_enter Tryd.func5, Tryd.ntmps5
  go_upto_region 1 with fail
  have hp0 := heap_alloc_new w (.cells m.cells 37)
  have b0 : Below w.heap.size w (w.alloc (.cells m.cells 37)) := by go_grown
  generalize w.alloc (.cells m.cells 37) = w0 at *
  have HP0 := hide hp0
  have hz0 := lt_of_block hp0
  clear hp0
  go_wp2_with fail
  refine (head7_any w0 (HT.out _ b0) (by omega)).mono ?_
  rintro e w1 ⟨rfl, b1'⟩
  have HP1 := hide ((b1'.block w.heap.size hz0).trans HP0.out)
  have b1 := b0.trans (b1'.mono b0.size)
  have hz1 := lt_of_block HP1.out
  clear HP0 b0 b1' hz0
  go_wp2_with (refine wpList_load_row rfl 37 _ rfl w.heap.size rfl _ _ _ _ HP1.out Tryd.underlying37 rfl im ?_)
  refine (mcopy_any m w.heap.size w1 (HMM.out _ b1) b1.size hvn).mono ?_
  rintro e w2 ⟨m2, rfl, lg2, im2, re2, b2'⟩
  obtain ⟨ck2, sl2⟩ := HUP.out m2 w2 _ im2 lg2
  have HP2 := hide ((b2'.block w.heap.size hz1).trans HP1.out)
  have b2 := b1.trans (b2'.mono b1.size)
  have hz2 := lt_of_block HP2.out
  clear HP1 b1 b2' hz1 re2
  go_wp2_with fail
  refine (mencode_any m2 w2.heap.size w2 (HT.out _ b2) im2 (Nat.le_refl _) (by omega) sl2).mono ?_
  rintro e w3 ⟨v3, rfl, ho3, _, b3'⟩
  have HP3 := hide ((b3'.block w.heap.size hz2).trans HP2.out)
  have b3 := b2.trans (b3'.mono b2.size)
  have hz3 := lt_of_block HP3.out
  have HO3 : Hid (chkM m = 0 → Own w3 w2.heap.size v3 (encM m2.lg (usedT m2.kd)) ∧ (encM m2.lg (usedT m2.kd)).length ≤ 60000 ∧ mdecE (encM m2.lg (usedT m2.kd)) = 0 ∧ (rdM (encM m2.lg (usedT m2.kd))).x = m.lg) := hide (fun h => by
    have h2 : chkM m2 = 0 := by rw [ck2]; exact h
    obtain ⟨e1, e2⟩ := mdec_enc im2 h2
    exact ⟨ho3.out h2, (chkM_fine im2 h2).len, e1, by rw [e2, lg2]⟩)
  rw [ck2]
  clear HP2 b2 b3' hz2 ho3 im2 lg2 ck2 sl2
  generalize encM m2.lg (usedT m2.kd) = zs at *
  generalize w2.heap.size = s2 at *
  generalize hce : chkM m = ce at *
  have HCE := hide hce
  clear hce
  go_wp2_with (refine wpList_load_row rfl 37 _ rfl w.heap.size rfl _ _ _ _ HP3.out Tryd.underlying37 rfl im ?_)
  refine (mcopy_any m w.heap.size w3 (HMM.out _ b3) b3.size hvn).mono ?_
  rintro e w4 ⟨m4, rfl, lg4, im4, re4, b4'⟩
  obtain ⟨ck4, sl4⟩ := HUP.out m4 w4 _ im4 lg4
  have HP4 := hide ((b4'.block w.heap.size hz3).trans HP3.out)
  have b4 := b3.trans (b4'.mono b3.size)
  have hz4 := lt_of_block HP4.out
  have HO4 : Hid (ce = 0 → Own w4 s2 v3 zs ∧ zs.length ≤ 60000 ∧ mdecE zs = 0 ∧ (rdM zs).x = m.lg) := hide (fun h => ⟨(HO3.out h).1.keep fun k hk => b4'.block k ((HO3.out h).1.lt k hk).2, (HO3.out h).2⟩)
  clear HP3 b3 b4' hz3 re4 HO3
  go_wp2_with fail
  refine (mcheck_any m4 w4.heap.size w4 (HT.out _ b4) im4 (Nat.le_refl _) (by omega) sl4).mono ?_
  rintro e w5 ⟨rfl, b5'⟩
  rw [ck4]
  have HP5 := hide ((b5'.block w.heap.size hz4).trans HP4.out)
  have b5 := b4.trans (b5'.mono b4.size)
  have hz5 := lt_of_block HP5.out
  have HO5 : Hid (ce = 0 → Own w5 s2 v3 zs ∧ zs.length ≤ 60000 ∧ mdecE zs = 0 ∧ (rdM zs).x = m.lg) := hide (fun h => ⟨(HO4.out h).1.keep fun k hk => b5'.block k ((HO4.out h).1.lt k hk).2, (HO4.out h).2⟩)
  clear HP4 b4 b5' hz4 HO4 im4 lg4 ck4 sl4
  have tne : (ce != ce) = false := by simp
  go_upto_if 26 with fail
  go_cut [] (fun wx => Below w.heap.size w wx ∧ Hid (wx.heap[w.heap.size]? = some (.cells m.cells 37 (0, 0))))
  case first =>
    by_cases hc0 : ce = 0
    · obtain ⟨ho, hl60, hde, hxm⟩ := HO5.out hc0
      subst hc0
      obtain ⟨A3, n3, c3, rfl, hn3, hnc3, hx3, _⟩ := ho.form
      have hn3' := hn3.out
      clear ho HO5 tne
      go_wp2_with fail
      refine (mdecode_any A3 n3 c3 w5.heap.size zs w5 (HT.out _ b5) hx3 (Nat.le_refl _) (by omega) hn3' (by omega)).mono ?_
      rintro e w6 ⟨m6, rfl, lg6, im6, re6, b6'⟩
      rw [hde] at lg6 ⊢
      rw [if_pos rfl, hxm] at lg6
      have HP6 := hide ((b6'.block w.heap.size hz5).trans HP5.out)
      have b6 := b5.trans (b6'.mono b5.size)
      have hz6 := b6'.size
      have HLG := hide lg6
      clear HP5 b5 b6' hde hxm lg6 hx3
      have hr7 := set_row_at (B := m6.cells) (heap_alloc_new w6 (.cells #[.int .i64 0, .int .i64 0, .int .i64 0, .int .i64 0, .int .i64 0, .int .i64 0, .int .i64 0, .int .i64 0, .int .i64 0, .int .i64 0, .slice none 0 0, .slice none 0 0, .slice none 0 0, .int .i64 0, .int .i64 0, .int .i64 0, .int .i64 0, .int .i64 0, .int .i64 0, .int .i64 0, .int .i64 0, .int .i64 0, .int .i64 0, .int .i64 0, .slice none 0 0] 37))
      have b7' : Below w6.heap.size w6 ((w6.alloc (.cells #[.int .i64 0, .int .i64 0, .int .i64 0, .int .i64 0, .int .i64 0, .int .i64 0, .int .i64 0, .int .i64 0, .int .i64 0, .int .i64 0, .slice none 0 0, .slice none 0 0, .slice none 0 0, .int .i64 0, .int .i64 0, .int .i64 0, .int .i64 0, .int .i64 0, .int .i64 0, .int .i64 0, .int .i64 0, .int .i64 0, .int .i64 0, .int .i64 0, .slice none 0 0] 37)).setRow w6.heap.size m6.cells) := ((Below.refl _ w6).alloc (Nat.le_refl _) (.cells #[.int .i64 0, .int .i64 0, .int .i64 0, .int .i64 0, .int .i64 0, .int .i64 0, .int .i64 0, .int .i64 0, .int .i64 0, .int .i64 0, .slice none 0 0, .slice none 0 0, .slice none 0 0, .int .i64 0, .int .i64 0, .int .i64 0, .int .i64 0, .int .i64 0, .int .i64 0, .int .i64 0, .int .i64 0, .int .i64 0, .int .i64 0, .int .i64 0, .slice none 0 0] 37)).trans ((Kept.of_setRow _ w6.heap.size m6.cells).below (by simp) (fun k hk => by omega))
      have HP7 := hide ((b7'.block w.heap.size (by omega)).trans HP6.out)
      have im7 : IsM ((w6.alloc (.cells #[.int .i64 0, .int .i64 0, .int .i64 0, .int .i64 0, .int .i64 0, .int .i64 0, .int .i64 0, .int .i64 0, .int .i64 0, .int .i64 0, .slice none 0 0, .slice none 0 0, .slice none 0 0, .int .i64 0, .int .i64 0, .int .i64 0, .int .i64 0, .int .i64 0, .int .i64 0, .int .i64 0, .int .i64 0, .int .i64 0, .int .i64 0, .int .i64 0, .slice none 0 0] 37)).setRow w6.heap.size m6.cells) w6.heap.size m6 := im6.below b7'
      have b7 := b6.trans (b7'.mono b6.size)
      have hz7 := lt_of_block hr7
      clear HP6 b7'
      go_wp2_with (first
        | (refine wpList_store_row rfl 37 _ _ rfl w6.heap.size m6.cells rfl rfl _ _ (heap_alloc_new w6 (.cells #[.int .i64 0, .int .i64 0, .int .i64 0, .int .i64 0, .int .i64 0, .int .i64 0, .int .i64 0, .int .i64 0, .int .i64 0, .int .i64 0, .slice none 0 0, .slice none 0 0, .slice none 0 0, .int .i64 0, .int .i64 0, .int .i64 0, .int .i64 0, .int .i64 0, .int .i64 0, .int .i64 0, .int .i64 0, .int .i64 0, .int .i64 0, .int .i64 0, .slice none 0 0] 37)) (info_msg _) rfl (mcells_one _) ?_; generalize (w6.alloc (.cells #[.int .i64 0, .int .i64 0, .int .i64 0, .int .i64 0, .int .i64 0, .int .i64 0, .int .i64 0, .int .i64 0, .int .i64 0, .int .i64 0, .slice none 0 0, .slice none 0 0, .slice none 0 0, .int .i64 0, .int .i64 0, .int .i64 0, .int .i64 0, .int .i64 0, .int .i64 0, .int .i64 0, .int .i64 0, .int .i64 0, .int .i64 0, .int .i64 0, .slice none 0 0] 37)).setRow w6.heap.size m6.cells = w7 at *)
        | (refine wpList_load_want (by rfl) 37 _ rfl w6.heap.size rfl _ _ _ _ hr7 Tryd.underlying37 rfl (info_msg _) ?_)
        | (refine wpList_load_want (by rfl) 37 _ rfl w.heap.size rfl _ _ _ _ HP7.out Tryd.underlying37 rfl im ?_))
      refine (rmsame_any m6 m w6.heap.size w7 im7 ((HMM.out _ b7).more (by omega)) (by omega)).mono ?_
      rintro e w8 ⟨rfl, b8'⟩
      rw [(sameM_iff m6 m).2 HLG.out]
      have HP8 := hide ((b8'.block w.heap.size (by omega)).trans HP7.out)
      have b8 := b7.trans (b8'.mono b7.size)
      go_wp2_with fail
      go_meet
      exact ⟨b8, HP8⟩
    · have t26 : (ce == 0) = false := by rw [beq_eq_false_iff_ne]; exact hc0
      go_wp2_with fail
      go_meet
      exact ⟨b5, HP5⟩
  clear b5 HP5 hz5 HO5 tne
  obtain ⟨b9, HP9⟩ := hcut
  have hz9 := b9.size
  generalize wc = w9 at *
  go_wp2_with fail
  refine (copy_any A n c xs w9 ((HX.out _ b9).more (by omega)) HN.out hl).mono ?_
  rintro e w10 ⟨rfl, hw10⟩
  have b10' := (Below.refl _ w9).alloc (Nat.le_refl _) (.cells (bcells xs) 5)
  have hd10 := Has.new w9 5 xs (0, 0) w9.heap.size rfl
  have hs10 : (w9.alloc (.cells (bcells xs) 5)).heap.size = w9.heap.size + 1 := by simp
  rw [hw10] at b10' hd10 hs10
  have b10 := b9.trans (b10'.mono b9.size)
  have hd10 : Has w10 w10.heap.size (some ⟨w9.heap.size, 0, none⟩) xs := hd10.more (by omega)
  have hz10 : w9.heap.size < w10.heap.size := by omega
  clear hw10 hs10 b10' HP9 b9
  go_wp2_with fail
  refine (mdecode_any (some ⟨w9.heap.size, 0, none⟩) n n w10.heap.size xs w10 (HT.out _ b10) hd10 (Nat.le_refl _) (by omega) HN.out hl).mono ?_
  rintro e w11 ⟨m8, rfl, lg8, im8, re8, b11'⟩
  have b11 := b10.trans (b11'.mono b10.size)
  have hz11 := b11'.size
  have HLG := hide lg8
  clear b10 b11' hd10 lg8
  have HBK : Hid (mdecE xs = 0 → chkM m8 = 0 ∧ encM m8.lg (usedT m8.kd) = xs) := hide (fun h => mdec_back im8 h (by have := HLG.out; rw [if_pos h] at this; exact this))
  have sl8 : -9223372036854775808 ≤ m8.sl := by
    have e1 : m8.sl = m8.lg.sl := rfl
    rw [e1, HLG.out]
    split
    · unfold rdM rdRest
      simp only
      unfold oN
      split
      · simp only; omega
      · simp only; omega
    · show -9223372036854775808 ≤ (0 : Int); omega
  generalize mdecE xs = de at *
  have hr12 := set_row_at (B := m8.cells) (heap_alloc_new w11 (.cells #[.int .i64 0, .int .i64 0, .int .i64 0, .int .i64 0, .int .i64 0, .int .i64 0, .int .i64 0, .int .i64 0, .int .i64 0, .int .i64 0, .slice none 0 0, .slice none 0 0, .slice none 0 0, .int .i64 0, .int .i64 0, .int .i64 0, .int .i64 0, .int .i64 0, .int .i64 0, .int .i64 0, .int .i64 0, .int .i64 0, .int .i64 0, .int .i64 0, .slice none 0 0] 37))
  have b12' : Below w11.heap.size w11 ((w11.alloc (.cells #[.int .i64 0, .int .i64 0, .int .i64 0, .int .i64 0, .int .i64 0, .int .i64 0, .int .i64 0, .int .i64 0, .int .i64 0, .int .i64 0, .slice none 0 0, .slice none 0 0, .slice none 0 0, .int .i64 0, .int .i64 0, .int .i64 0, .int .i64 0, .int .i64 0, .int .i64 0, .int .i64 0, .int .i64 0, .int .i64 0, .int .i64 0, .int .i64 0, .slice none 0 0] 37)).setRow w11.heap.size m8.cells) := ((Below.refl _ w11).alloc (Nat.le_refl _) (.cells #[.int .i64 0, .int .i64 0, .int .i64 0, .int .i64 0, .int .i64 0, .int .i64 0, .int .i64 0, .int .i64 0, .int .i64 0, .int .i64 0, .slice none 0 0, .slice none 0 0, .slice none 0 0, .int .i64 0, .int .i64 0, .int .i64 0, .int .i64 0, .int .i64 0, .int .i64 0, .int .i64 0, .int .i64 0, .int .i64 0, .int .i64 0, .int .i64 0, .slice none 0 0] 37)).trans ((Kept.of_setRow _ w11.heap.size m8.cells).below (by simp) (fun k hk => by omega))
  have im12 : IsM ((w11.alloc (.cells #[.int .i64 0, .int .i64 0, .int .i64 0, .int .i64 0, .int .i64 0, .int .i64 0, .int .i64 0, .int .i64 0, .int .i64 0, .int .i64 0, .slice none 0 0, .slice none 0 0, .slice none 0 0, .int .i64 0, .int .i64 0, .int .i64 0, .int .i64 0, .int .i64 0, .int .i64 0, .int .i64 0, .int .i64 0, .int .i64 0, .int .i64 0, .int .i64 0, .slice none 0 0] 37)).setRow w11.heap.size m8.cells) w11.heap.size m8 := im8.below b12'
  have b12 := b11.trans (b12'.mono b11.size)
  have hz12 := lt_of_block hr12
  clear b12' b11
  by_cases hd : de = 0
  · obtain ⟨ck8, en8⟩ := HBK.out hd
    subst hd
    clear HLG HBK
    go_wp2_with (first
      | (refine wpList_store_row rfl 37 _ _ rfl w11.heap.size m8.cells rfl rfl _ _ (heap_alloc_new w11 (.cells #[.int .i64 0, .int .i64 0, .int .i64 0, .int .i64 0, .int .i64 0, .int .i64 0, .int .i64 0, .int .i64 0, .int .i64 0, .int .i64 0, .slice none 0 0, .slice none 0 0, .slice none 0 0, .int .i64 0, .int .i64 0, .int .i64 0, .int .i64 0, .int .i64 0, .int .i64 0, .int .i64 0, .int .i64 0, .int .i64 0, .int .i64 0, .int .i64 0, .slice none 0 0] 37)) (info_msg _) rfl (mcells_one _) ?_; generalize (w11.alloc (.cells #[.int .i64 0, .int .i64 0, .int .i64 0, .int .i64 0, .int .i64 0, .int .i64 0, .int .i64 0, .int .i64 0, .int .i64 0, .int .i64 0, .slice none 0 0, .slice none 0 0, .slice none 0 0, .int .i64 0, .int .i64 0, .int .i64 0, .int .i64 0, .int .i64 0, .int .i64 0, .int .i64 0, .int .i64 0, .int .i64 0, .int .i64 0, .int .i64 0, .slice none 0 0] 37)).setRow w11.heap.size m8.cells = w12 at *)
      | (refine wpList_load_row rfl 37 _ rfl w11.heap.size rfl _ _ _ _ hr12 Tryd.underlying37 rfl (info_msg _) ?_))
    refine (mencode_any m8 w11.heap.size w12 (HT.out _ b12) im12 (by omega) (by omega) sl8).mono ?_
    rintro e w13 ⟨v13, rfl, ho13, _, b13'⟩
    have ho := ho13.out ck8
    rw [en8] at ho
    rw [ck8]
    obtain ⟨A13, n13, c13, rfl, hn13, hnc13, hx13, _⟩ := ho.form
    have hn13' := hn13.out
    have b13 := b12.trans (b13'.mono b12.size)
    go_wp2_with fail
    refine (same_any A13 A n13 n c13 c w13.heap.size w.heap.size xs xs w13 hx13 (HX.out _ b13) hn13' HN.out (by have := HN.out; omega)).mono ?_
    rintro e w14 ⟨rfl, nq, rfl⟩
    rw [decide_eq_true rfl]
    go_wp2
    go_ret
    exact ⟨rfl, below_drewN b13 nq⟩
  · have t47 : (de != 0) = true := by rw [bne_iff_ne]; exact hd
    have HLZ : Hid (m8.lg = (mz 0 0 0 0).lg) := hide (by rw [HLG.out, if_neg hd]; rfl)
    clear HLG HBK
    go_wp2_with (first
      | (refine wpList_store_row rfl 37 _ _ rfl w11.heap.size m8.cells rfl rfl _ _ (heap_alloc_new w11 (.cells #[.int .i64 0, .int .i64 0, .int .i64 0, .int .i64 0, .int .i64 0, .int .i64 0, .int .i64 0, .int .i64 0, .int .i64 0, .int .i64 0, .slice none 0 0, .slice none 0 0, .slice none 0 0, .int .i64 0, .int .i64 0, .int .i64 0, .int .i64 0, .int .i64 0, .int .i64 0, .int .i64 0, .int .i64 0, .int .i64 0, .int .i64 0, .int .i64 0, .slice none 0 0] 37)) (info_msg _) rfl (mcells_one _) ?_; generalize (w11.alloc (.cells #[.int .i64 0, .int .i64 0, .int .i64 0, .int .i64 0, .int .i64 0, .int .i64 0, .int .i64 0, .int .i64 0, .int .i64 0, .int .i64 0, .slice none 0 0, .slice none 0 0, .slice none 0 0, .int .i64 0, .int .i64 0, .int .i64 0, .int .i64 0, .int .i64 0, .int .i64 0, .int .i64 0, .int .i64 0, .int .i64 0, .int .i64 0, .int .i64 0, .slice none 0 0] 37)).setRow w11.heap.size m8.cells = w12 at *)
      | (refine wpList_load_row rfl 37 _ rfl w11.heap.size rfl _ _ _ _ hr12 Tryd.underlying37 rfl (info_msg _) ?_))
    refine (rmsame_any m8 (mz 0 0 0 0) w11.heap.size w12 im12 (isM_mz _ _ _ _ _ _) (by omega)).mono ?_
    rintro e w13 ⟨rfl, b13'⟩
    rw [(sameM_iff m8 (mz 0 0 0 0)).2 HLZ.out]
    go_wp2
    go_ret
    exact ⟨rfl, b12.trans (b13'.mono b12.size)⟩
end Go.Proofs.YtapbcpilklhoiabDoor

namespace Go.Proofs.YtapbcpilklhoiabDoor
open Go.ChangeShapes Go.WideShapes Go.ChangeAt Go.RowKit
set_option linter.unusedVariables false

set_option maxRecDepth 100000 in
theorem msgBack_lifted (os : Os) (started : os.Started) (H : Type) (enc : TypeId × Value → H) :
    ReturnsInHanded {} Tryd.checked os 5 .any (fun w args => (Rows.msgBackSpec.pre enc Tryd.prog Tryd.f5 [] false w args ∧ laidMetH Tryd.prog laid1 w) ∧ sizedMet enc Tryd.prog Tryd.f5 (OpenSpec.ofChange Rows.msgBackSpec) false w args)
      (Rows.msgBackSpec.post enc Tryd.prog Tryd.f5 false true false false) := by
  refine returnsInHanded_of_change_and (C := Tryd.checked) (X := fun w _ => laidMetH Tryd.prog laid1 w) (fun _ _ _ hh h => h.of_heap hh) ownKnob_none started (by kernel_rfl) Tryd.func5
    (ChangeSpec.witness_shaped (enc := enc) (C := Tryd.checked) (os := os) (X := fun w _ => laidMetH Tryd.prog laid1 w) false (World.doorLaid Tryd.prog 14 os) #[.agg #[.int .i64 0, .int .i64 0, .int .i64 0, .int .i64 0, .int .i64 0, .int .i64 0, .int .i64 0, .int .i64 0, .int .i64 0, .int .i64 0, .slice none 0 0, .slice none 0 0, .slice none 0 0, .int .i64 0, .int .i64 0, .int .i64 0, .int .i64 0, .int .i64 0, .int .i64 0, .int .i64 0, .int .i64 0, .int .i64 0, .int .i64 0, .int .i64 0, .slice none 0 0], .slice none 0 0] 8 rfl (World.shaped_of_RefB (by kernel_rfl) (by kernel_rfl)) (by kernel_rfl) (by kernel_rfl) (by kernel_rfl) (door_met os _)) ?_
  intro W base args ds gs before hval0 hW _ hsz0 hL _
  have hval : ∀ (j : Nat) t v, Tryd.f5.params[j]? = some t → args[j]? = some v → Value.okWide Tryd.prog W .any base t v := hval0
  have hsz : (DataW.weightsEach Tryd.prog (Tryd.f5.params.toList ++ Rows.msgBackSpec.plain.varTypes Tryd.prog) (ds ++ gs)).all (· ≤ reachBytes) = true := hsz0
  have hW' := hW
  obtain ⟨p, q, hA0, hV, rfl, hfz, hnd⟩ := hW
  have hA : DataW.TrodAll enc Tryd.prog W 0 (fun _ => true) true Tryd.f5.params.toList args.toList ds p := hA0
  rw [Tryd.params5] at hA hval hsz
  obtain ⟨v0, vs0', d0, ds0, p0, q0, hargs, rfl, rfl, h0, r0⟩ := trodAll_cons hA
  obtain ⟨v1, vs1', d1, ds1, p1, q1, rfl, rfl, rfl, h1, r1⟩ := trodAll_cons r0
  obtain ⟨rfl, rfl, rfl⟩ := trodAll_nil r1
  obtain rfl : args = #[v0, v1] := by cases args; simp_all
  obtain ⟨rfl, rfl⟩ := trodVars_none hV
  have t0 := h0
  have lt0 : ∀ x ∈ p0, x.block < W.heap.size := by obtain ⟨m, hm⟩ := t0; exact DataW.trod_lt m _ _ _ hm
  obtain ⟨m0, rfl, hm0⟩ := open_msg (hval 0 37 v0 rfl rfl) h0 (Light.of_each hsz (j := 0) rfl rfl)
  have t1 := h1
  have lt1 : ∀ x ∈ p1, x.block < W.heap.size := by obtain ⟨m, hm⟩ := t1; exact DataW.trod_lt m _ _ _ hm
  obtain ⟨a1, len1, cap1, rfl⟩ := okWide_slice Tryd.underlying35 (hval 1 35 v1 rfl rfl)
  obtain ⟨xs1, y1⟩ := open_bytes h1
  have z1 := y1.size hsz (j := 1) rfl rfl
  clear hA0 hval0
  refine (mback_walk m0 a1 len1 cap1 xs1 W (tab_of_laid hL) hm0.im (by have := hm0.vn; omega) hm0.sl.1 y1.has y1.len_eq (by have := y1.le; omega) (tab_of_laid hL).lt).mono fun e W' ⟨he, bel⟩ => ?_
  subst he
  exact ⟨_, rfl, _, _, _, [], _, [], hW', trodAll_mk1 (shut_bool Tryd.underlying4 _), (trodAll_cons_mk (Below.trod laid_out (by kernel_rfl) (of_decide_eq_true (by kernel_rfl)) t0 bel lt0) (trodAll_cons_mk (Below.trod laid_out (by kernel_rfl) (of_decide_eq_true (by kernel_rfl)) t1 bel lt1) trodAll_mk0)), rfl, bel.frame _, fun h => by cases h⟩

theorem msgBack_holds : Rows.MsgBackSaid :=
  OpenClaim.holds_of_wide 5 Tryd.f5 rfl rfl rfl rfl rfl rfl rfl ⟨rfl, rfl, rfl, rfl, rfl⟩ rfl rfl rfl rfl rfl (by kernel_rfl) Tryd.func5 (by kernel_rfl)
    (of_decide_eq_true (by kernel_rfl)) (by unfold Func.isWrapper; first | (rw [if_pos (by decide +kernel)]; kernel_rfl) | (rw [if_neg (by decide +kernel)]; exact ⟨rfl, rfl⟩))
    (fun os started H enc _ => msgBack_lifted os started H enc)

theorem msgBack_card : Rows.MsgBackCardSaid :=
  Claim7.holds_tied_plain_at .later [] [.data] true Rows.msgBackCard.stood.harness false
    msgBack_holds (fun _ h => by cases h) (by kernel_rfl) (fun _ h => by cases h) msgBack_row_tie rfl ⟨rfl, rfl⟩ (by kernel_rfl) rfl
    (fun f fn hf hfn => by
      obtain rfl : f = 5 := Option.some.inj ((show Tryd.prog.funcNamed "synod/synodlaw07.MsgBack" = some 5 by kernel_rfl).symm.trans hf) |>.symm
      obtain rfl : fn = Tryd.f5 := (Option.some.inj (Tryd.func5.symm.trans hfn)).symm
      exact ⟨by kernel_rfl, fun j t ht => by
        rw [Tryd.params5] at ht
        have hm : t ∈ [37, 35] := by simpa using Array.mem_of_getElem? ht
        have hall : ([37, 35].all fun u => !Tryd.prog.wantsStandIn u) = true := by kernel_rfl
        exact (show Tryd.prog.wantsStandIn t = false by simpa using List.all_eq_true.1 hall t hm)⟩)
    (by kernel_rfl)
#print axioms msgBack_card
end Go.Proofs.YtapbcpilklhoiabDoor
