/-
  The walk of PackReads: whatever is read of any bytes, each answer and the error behind it are the document's. No condition but the size of what is read.
-/
import Derived.Test.YtofdjpophacldaaTakes
import Derived.Test.YtofdjpophacldaaSealOpens
import Derived.Deep.CutBlock
namespace Go.Proofs.Ytofdjpophacldaa
open Go.RowKit

theorem rnum_all (gr : Nat) (br : Option Nat) (ys : List UInt8) (er : Nat) (W : World) (h : Rd W gr br ys er) :
    Calls Try.prog 26 #[.pointer (some ⟨gr, 0, none⟩)] W (REnds gr br (.int .u64 ((rnx ys er).1 : Int)) (rnx ys er).2.1 (rnx ys er).2.2 W) := by
  by_cases he : er = 0
  · subst he
    exact rnum_any gr br ys W h
  · unfold rnx
    rw [if_neg he]
    refine (rnum_stuck gr br ys er W h he).mono ?_
    rintro e w' ⟨rfl, rfl⟩
    exact ⟨rfl, br, h, .inl rfl, Kept.refl _ _⟩
theorem rint_all (gr : Nat) (br : Option Nat) (ys : List UInt8) (er : Nat) (W : World) (h : Rd W gr br ys er) :
    Calls Try.prog 27 #[.pointer (some ⟨gr, 0, none⟩)] W (REnds gr br (.int .i64 (zag (rnx ys er).1)) (rnx ys er).2.1 (rnx ys er).2.2 W) := by
  by_cases he : er = 0
  · subst he
    exact rint_any gr br ys W h
  · unfold rnx
    rw [if_neg he]
    refine (rint_stuck gr br ys er W h he).mono ?_
    rintro e w' ⟨rfl, rfl⟩
    exact ⟨by simp [zag], br, h, .inl rfl, Kept.refl _ _⟩
theorem rcount_all (gr : Nat) (br : Option Nat) (ys : List UInt8) (er : Nat) (most : Int) (W : World) (h : Rd W gr br ys er) (hm : IsInt most) :
    Calls Try.prog 30 #[.pointer (some ⟨gr, 0, none⟩), .int .i64 most] W (REnds gr br (.int .i64 ((rcx ys most er).1 : Int)) (rcx ys most er).2.1 (rcx ys most er).2.2 W) := by
  by_cases he : er = 0
  · subst he
    exact rcount_any gr br ys most W h hm
  · unfold rcx rnx
    rw [if_neg he, if_neg (by simp)]
    refine (rcount_stuck gr br ys er most W h he hm).mono ?_
    rintro e w' ⟨rfl, rfl⟩
    exact ⟨rfl, br, h, .inl rfl, Kept.refl _ _⟩
theorem rtext_all (gr : Nat) (br : Option Nat) (ys : List UInt8) (er : Nat) (most : Int) (W : World) (h : Rd W gr br ys er) (hm : IsInt most) :
    Calls Try.prog 32 #[.pointer (some ⟨gr, 0, none⟩), .int .i64 most] W (TEnds gr br (rtx ys most er).1 (rtx ys most er).2.1 (rtx ys most er).2.2 W) := by
  by_cases he : er = 0
  · subst he
    have e : rcx ys most 0 = rcn ys most := rfl
    unfold rtx
    rw [e]
    by_cases h1 : (rcn ys most).2.2 = 0
    · rw [if_neg (by simp [h1])]
      by_cases h2 : (rcn ys most).2.1.length < (rcn ys most).1
      · rw [if_pos h2]
        exact rtext_short gr br ys most W h hm h1 h2
      · rw [if_neg h2]
        exact rtext_ok gr br ys most W h hm h1 (by omega)
    · rw [if_pos h1]
      exact rtext_bad gr br ys most W h hm h1
  · have e : rcx ys most er = (0, ys, er) := by
      unfold rcx rnx
      rw [if_neg he, if_neg (by simp)]
    unfold rtx
    rw [e]
    simp only
    rw [if_pos he]
    refine (rtext_stuck gr br ys er most W h he hm).mono ?_
    rintro e w' ⟨rfl, rfl⟩
    exact ⟨_, rfl, Own.nil _ _, br, h, .inl rfl, Kept.refl _ _⟩
theorem rdone_all (gr : Nat) (br : Option Nat) (ys : List UInt8) (er : Nat) (W : World) (h : Rd W gr br ys er) :
    Calls Try.prog 34 #[.pointer (some ⟨gr, 0, none⟩)] W fun e w' => ∃ ys', REnds gr br (.int .i64 ((if er = 0 ∧ 0 < ys.length then 13 else er : Nat) : Int)) ys' (if er = 0 ∧ 0 < ys.length then 13 else er) W e w' ∧ ((if er = 0 ∧ 0 < ys.length then 13 else er) = 0 → ys' = ys) := by
  by_cases he : er = 0
  · subst he
    cases ys with
    | nil =>
      refine (rdone_end gr br W h).mono ?_
      rintro e w' ⟨rfl, rfl⟩
      exact ⟨[], ⟨rfl, br, h, .inl rfl, Kept.refl _ _⟩, fun _ => rfl⟩
    | cons y r =>
      rw [if_pos ⟨rfl, by simp⟩]
      refine (rdone_trail gr br (y :: r) W h (by simp)).mono ?_
      rintro e w' h'
      exact ⟨[], h', fun h => by cases h⟩
  · rw [if_neg (fun h => he h.1)]
    refine (rdone_stuck gr br ys er W h he).mono ?_
    rintro e w' ⟨rfl, rfl⟩
    exact ⟨ys, ⟨rfl, br, h, .inl rfl, Kept.refl _ _⟩, fun _ => rfl⟩

/-- What holds ahead of each round and behind the switch: both readers have the same left and the same error. -/
def RInv (w : World) (gr gm : Nat) (wx : World) : Prop :=
  ∃ br ys er A n c, Rd wx gr br ys er ∧ (∀ j, Foot gr br j → w.heap.size ≤ j ∧ j < gm) ∧ wx.heap[gm]? = some (.cells #[.slice A n c, .int .i64 ((er : Nat) : Int)] 44 (0, 0)) ∧ (er = 0 → Left wx w.heap.size A n c ys) ∧ Below w.heap.size w wx

theorem Rd.foot_lt {w : World} {g : Nat} {b : Option Nat} {xs : List UInt8} {er : Nat} (h : Rd w g b xs er) (hx : b = none ∨ ∃ k, b = some k ∧ k < w.heap.size) : ∀ j, Foot g b j → j < w.heap.size := by
  obtain ⟨A, n, c, hv, _⟩ := h
  rintro j (rfl | e)
  · exact lt_of_block hv
  · rcases hx with rfl | ⟨k, rfl, hk⟩
    · cases e
    · injection e with e; omega

/-- Behind the store of what the reference's reader is now. -/
theorem rm_step {w w7 : World} {gr gm gt n7 c7 er er' : Nat} {br : Option Nat} {ys ys' : List UInt8} {a b v1 : Value} {A7 : Option Addr} {tc : Obj} {o : Obj} (hbox7 : w7.heap[gm]? = some (.cells #[a, b] 44 (0, 0))) (hrd7 : Rd w7 gr br ys er)
    (hft : ∀ j, Foot gr br j → w.heap.size ≤ j ∧ j < gm) (hbl7 : Below w.heap.size w w7) (hgm : w.heap.size ≤ gm) (htb7 : w7.heap[gt]? = some tc) (hne : gt ≠ gm) (hlf7 : er' = 0 → Left w7 w.heap.size A7 n7 c7 ys') :
    Rd (((w7.setCell ⟨gm, 0, none⟩ (.slice A7 n7 c7)).setCell ⟨gm, 1, none⟩ v1).alloc o) gr br ys er ∧ (((w7.setCell ⟨gm, 0, none⟩ (.slice A7 n7 c7)).setCell ⟨gm, 1, none⟩ v1).alloc o).heap[gm]? = some (.cells #[.slice A7 n7 c7, v1] 44 (0, 0)) ∧
      (((w7.setCell ⟨gm, 0, none⟩ (.slice A7 n7 c7)).setCell ⟨gm, 1, none⟩ v1).alloc o).heap[gt]? = some tc ∧ Below w.heap.size w (((w7.setCell ⟨gm, 0, none⟩ (.slice A7 n7 c7)).setCell ⟨gm, 1, none⟩ v1).alloc o) ∧
      (er' = 0 → Left (((w7.setCell ⟨gm, 0, none⟩ (.slice A7 n7 c7)).setCell ⟨gm, 1, none⟩ v1).alloc o) w.heap.size A7 n7 c7 ys') := by
  have hk : Kept (fun j => j = gm) w7 ((w7.setCell ⟨gm, 0, none⟩ (.slice A7 n7 c7)).setCell ⟨gm, 1, none⟩ v1) := ((Kept.refl (fun j => j = gm) w7).setCell (p := ⟨gm, 0, none⟩) (.inl rfl) _).setCell (p := ⟨gm, 1, none⟩) (.inl rfl) _
  have h1 : ((w7.setCell ⟨gm, 0, none⟩ (.slice A7 n7 c7)).setCell ⟨gm, 1, none⟩ v1).heap[gm]? = some (.cells #[.slice A7 n7 c7, v1] 44 (0, 0)) := two_set1 (two_set0 hbox7)
  have hb := hk.below hbl7.size (fun j e => by subst e; exact hgm)
  have hrd := hrd7.kept hk (fun k hf e => by have := (hft k hf).2; omega)
  have htb := (hk.block gt (lt_of_block htb7) hne).trans htb7
  generalize (w7.setCell ⟨gm, 0, none⟩ (.slice A7 n7 c7)).setCell ⟨gm, 1, none⟩ v1 = S at *
  have hbS := hbl7.trans hb
  have ha := (Below.refl S.heap.size S).alloc (Nat.le_refl _) o
  exact ⟨hrd.below ha, (ha.block gm (lt_of_block h1)).trans h1, (ha.block gt (lt_of_block htb)).trans htb, hbS.trans (ha.mono hbS.size), fun e => ((hlf7 e).below hb).below (ha.mono hbS.size)⟩

theorem rinv_of {w S w8 : World} {gr gm n7 c7 er' : Nat} {br b8 : Option Nat} {ys' : List UInt8} {A7 : Option Addr} (hft : ∀ j, Foot gr br j → w.heap.size ≤ j ∧ j < gm) (hbS : S.heap[gm]? = some (.cells #[.slice A7 n7 c7, .int .i64 (er' : Int)] 44 (0, 0)))
    (hblS : Below w.heap.size w S) (hlS : er' = 0 → Left S w.heap.size A7 n7 c7 ys') (hrd8 : Rd w8 gr b8 ys' er') (hb8 : b8 = br ∨ b8 = none) (hk8 : Kept (fun k => k = gr) S w8) : RInv w gr gm w8 := by
  have hgr := hft gr (.inl rfl)
  have hb := hk8.below hblS.size (fun j e => by subst e; exact hgr.1)
  refine ⟨b8, ys', er', A7, n7, c7, hrd8, fun j hf => ?_, (hk8.block gm (lt_of_block hbS) (fun e => by omega)).trans hbS, fun e => (hlS e).below hb, hblS.trans hb⟩
  rcases hf with rfl | hf
  · exact hgr
  · rcases hb8 with rfl | rfl
    · exact hft j (.inr hf)
    · cases hf

theorem rm_step0 {w w7 : World} {gr gm gt n7 c7 er er' : Nat} {br : Option Nat} {ys ys' : List UInt8} {a b v1 : Value} {A7 : Option Addr} (hbox7 : w7.heap[gm]? = some (.cells #[a, b] 44 (0, 0))) (hrd7 : Rd w7 gr br ys er)
    (hft : ∀ j, Foot gr br j → w.heap.size ≤ j ∧ j < gm) (hbl7 : Below w.heap.size w w7) (hgm : w.heap.size ≤ gm) (hlf7 : er' = 0 → Left w7 w.heap.size A7 n7 c7 ys') :
    Rd ((w7.setCell ⟨gm, 0, none⟩ (.slice A7 n7 c7)).setCell ⟨gm, 1, none⟩ v1) gr br ys er ∧ ((w7.setCell ⟨gm, 0, none⟩ (.slice A7 n7 c7)).setCell ⟨gm, 1, none⟩ v1).heap[gm]? = some (.cells #[.slice A7 n7 c7, v1] 44 (0, 0)) ∧
      Below w.heap.size w ((w7.setCell ⟨gm, 0, none⟩ (.slice A7 n7 c7)).setCell ⟨gm, 1, none⟩ v1) ∧ (er' = 0 → Left ((w7.setCell ⟨gm, 0, none⟩ (.slice A7 n7 c7)).setCell ⟨gm, 1, none⟩ v1) w.heap.size A7 n7 c7 ys') := by
  have hk : Kept (fun j => j = gm) w7 ((w7.setCell ⟨gm, 0, none⟩ (.slice A7 n7 c7)).setCell ⟨gm, 1, none⟩ v1) := ((Kept.refl (fun j => j = gm) w7).setCell (p := ⟨gm, 0, none⟩) (.inl rfl) _).setCell (p := ⟨gm, 1, none⟩) (.inl rfl) _
  have h1 : ((w7.setCell ⟨gm, 0, none⟩ (.slice A7 n7 c7)).setCell ⟨gm, 1, none⟩ v1).heap[gm]? = some (.cells #[.slice A7 n7 c7, v1] 44 (0, 0)) := two_set1 (two_set0 hbox7)
  have hb := hk.below hbl7.size (fun j e => by subst e; exact hgm)
  exact ⟨hrd7.kept hk (fun k hf e => by have := (hft k hf).2; omega), h1, hbl7.trans hb, fun e => (hlf7 e).below hb⟩
theorem own_step {w7 : World} {gm base : Nat} {v u v1 : Value} {zs : List UInt8} {o : Obj} (h : Own w7 base v zs) (hg : gm < base) : Own (((w7.setCell ⟨gm, 0, none⟩ u).setCell ⟨gm, 1, none⟩ v1).alloc o) base v zs := by
  have hk : Kept (fun j => j = gm) w7 ((w7.setCell ⟨gm, 0, none⟩ u).setCell ⟨gm, 1, none⟩ v1) := ((Kept.refl (fun j => j = gm) w7).setCell (p := ⟨gm, 0, none⟩) (.inl rfl) _).setCell (p := ⟨gm, 1, none⟩) (.inl rfl) _
  exact (h.kept hk (fun j h1 _ _ e => by omega)).alloc o
theorem RInv.drewN {w wx : World} {gr gm : Nat} (h : RInv w gr gm wx) (m : Nat) : RInv w gr gm (wx.drewN m) := by
  obtain ⟨br, ys, er, A, n, c, h1, h2, h3, h4, h5⟩ := h
  exact ⟨br, ys, er, A, n, c, h1, h2, h3, h4, below_drewN h5 m⟩
theorem RInv.kept {w w9 wx : World} {gr gm : Nat} {F : Nat → Prop} (h : RInv w gr gm w9) (hk : Kept F w9 wx) (hF : ∀ j, F j → gm < j) (hgm : w.heap.size ≤ gm) : RInv w gr gm wx := by
  obtain ⟨br, ys, er, A, n, c, h1, h2, h3, h4, h5⟩ := h
  have hb := hk.below h5.size (fun j e => by have := hF j e; omega)
  exact ⟨br, ys, er, A, n, c, h1.kept hk (fun k hf e => by have := (h2 k hf).2; have := hF k e; omega), h2, (hk.block gm (lt_of_block h3) (fun e => by have := hF gm e; omega)).trans h3, fun e => (h4 e).below hb, h5.trans hb⟩
theorem rn_len (xs : List UInt8) : (rn xs).2.1.length ≤ xs.length := by
  cases xs with
  | nil => simp [rn]
  | cons c t =>
    by_cases h8 : 8 < c.toNat
    · rw [rn_wide h8]; simp
    by_cases hs : t.length < c.toNat
    · rw [rn_short h8 hs]; simp
    by_cases hz : 0 < c.toNat ∧ t.head? = some 0
    · rw [rn_zero h8 hs hz]; simp
    · rw [rn_ok h8 hs hz]; simp only [List.length_drop, List.length_cons]; omega
theorem rtx_len (xs : List UInt8) (most : Int) (er : Nat) : (rtx xs most er).1.length ≤ xs.length := by
  have h1 : (rnx xs er).2.1.length ≤ xs.length := by
    unfold rnx
    split
    · exact rn_len xs
    · simp
  have h2 : (rcx xs most er).2.1.length ≤ xs.length := by
    unfold rcx
    split
    · simp
    · exact h1
  unfold rtx
  repeat' split
  · simp
  · simp
  · simp only [List.length_take]; omega
theorem rd_len {w : World} {g : Nat} {b : Option Nat} {xs : List UInt8} {er : Nat} (h : Rd w g b xs er) : xs.length ≤ 140737488355328 := by
  obtain ⟨_, _, _, _, hn, _, hm, _⟩ := h
  have := hn.out
  omega

theorem xor_85 (c : UInt8) : Value.int .u8 (bits .xor .u8 (c.toNat : Int) 85) = byt (c ^^^ 85) := by
  unfold byt
  have h := u8_xor_nat c.toNat 85 c.toNat_lt (by omega)
  rw [show ((85 : Nat) : Int) = 85 from rfl] at h
  rw [h]
  simp

set_option maxRecDepth 20000 in
set_option maxHeartbeats 6400000 in
theorem reads_walk (A : Option Addr) (c : Nat) (xs : List UInt8) (AT : Option Addr) (cT : Nat) (ts : List (Int × Int)) (w : World) (hx : Has w w.heap.size A xs) (hc : xs.length ≤ c) (hl : c ≤ 140737488351232) (ht : HasT w w.heap.size AT ts) (hn : ts.length ≤ 140737488351232) :
    Calls Try.prog 4 #[.slice A xs.length c, .slice AT ts.length cT] w fun e w' => e = .returned (.bool true) ∧ Below w.heap.size w w' := by
  have hxl : xs.length ≤ 140737488351232 := by omega
  go_enter Try.func4, Try.ntmps4
  go_wp2_with fail
  refine (head1_any w).mono ?_
  rintro e w1 ⟨rfl, hb1⟩
  have hx1 := (hx.below hb1).more hb1.size
  go_wp2_with fail
  refine (copy_any A xs.length c xs w1 hx1 rfl (by omega)).mono ?_
  rintro e w2 ⟨rfl, hw2⟩
  have hs1 := hb1.size
  have hn2 := Has.new w1 5 xs (0, 0) _ rfl
  have hcp2 := Own.new w1 xs _ w.heap.size rfl hs1 (by omega)
  have hb2 := hb1.alloc hb1.size (.cells (bcells xs) 5)
  have hz2 : w1.heap.size + 1 ≤ (w1.alloc (.cells (bcells xs) 5)).heap.size := by simp
  rw [hw2] at hn2 hb2 hcp2 hz2
  clear hw2 hx1 hb1
  go_wp2_with fail
  refine (newreader_any (some ⟨w1.heap.size, 0, none⟩) xs.length xs.length _ xs w2 hn2 (by omega) rfl (by omega)).mono ?_
  rintro e w3 ⟨gr, br, rfl, hrd3, hf3, hbl3⟩
  have hb3 := hb2.trans (hbl3.mono hb2.size)
  have hcp3 := hcp2.below hbl3
  clear hcp2 hbl3 hn2
  have hs2 := hb2.size
  clear hb2
  go_wp2
  go_loopw [29] (fun i wx => ∃ k : Nat, k ≤ xs.length ∧ i = .int .i64 k ∧ ∃ zs, Hid (zs.length = xs.length) ∧ Own wx w.heap.size (.slice (some ⟨w1.heap.size, 0, none⟩) xs.length xs.length) zs ∧ Kept (fun j => j = w1.heap.size) w3 wx) (fun i _ => xs.length - (intOf i).toNat)
  case atStart => exact ⟨0, Nat.zero_le _, rfl, _, rfl, hcp3, Kept.refl _ _⟩
  case round =>
    obtain ⟨k2, hk2, rfl, zs, hzl, hoz, hkz⟩ := hrel
    by_cases hlt2 : k2 < xs.length
    · have hkz' : k2 < zs.length := by have := hzl.out; omega
      obtain ⟨g2, cc, hv, hg, hg2, _, hcell, hfr, hset⟩ := hoz.at_ hkz'
      injection hv with e1 e2 e3
      injection e1 with e1
      injection e1 with e1
      subst e1 e3
      obtain ⟨cb, hcb⟩ : ∃ cb, zs[k2]'hkz' = cb := ⟨_, rfl⟩
      rw [hcb] at hcell
      have HSET := hide (hset (cb ^^^ 85))
      have HX := hide (xor_85 cb)
      unfold byt at hcell
      clear hset e2 hcb
      have HKZ := hide hkz
      have HOZ := hide hoz
      clear hkz hoz
      go_wp2
      go_roundw
      case rel => exact ⟨k2 + 1, by omega, by go_num, zs.set k2 (cb ^^^ 85), by show (zs.set k2 (cb ^^^ 85)).length = xs.length; rw [List.length_set]; exact hzl.out, by rw [HX.out]; exact HSET.out, HKZ.out.setCell (.inl rfl) _⟩
      case measure => simp [intOf]; omega
    · have hrd4 := hrd3.kept hkz (fun k hf e => by have := (hf3 k hf).1; omega)
      have hb4 := hb3.trans (hkz.below hb3.size (fun j e => by omega))
      have hs4 := hkz.size
      clear hkz hoz hzl zs hrd3 hb3 hcp3
      have hs4' := hb4.size
      have hJ : RInv w gr wr.heap.size (wr.alloc (.cells #[.slice A xs.length c, .int .i64 0] 44)) := by
        refine ⟨br, xs, 0, A, xs.length, c, hrd4.below ((Below.refl _ _).alloc (Nat.le_refl _) _), fun j hf => ?_, heap_alloc_new wr _, fun _ => ⟨(hx.below hb4).alloc hs4' _, rfl, hc, by omega⟩, hb4.alloc hs4' _⟩
        have := hf3 j hf
        exact ⟨by omega, by omega⟩
      have hgm : w.heap.size ≤ wr.heap.size := hs4'
      clear hrd4 hb4 hs4 hs4'
      go_wp2_with fail
      generalize wr.alloc (.cells #[.slice A xs.length c, .int .i64 0] 44) = w5 at *
      generalize wr.heap.size = gm at *
      go_loopw [43] (fun i wx => ∃ k : Nat, k ≤ ts.length ∧ i = .int .i64 k ∧ RInv w gr gm wx) (fun i _ => ts.length - (intOf i).toNat)
      case atStart => exact ⟨0, Nat.zero_le _, rfl, hJ⟩
      case round =>
        clear hJ
        obtain ⟨k, hk, rfl, br, ys, er, A0, n0, c0, hrd, hft, hbox, hlf, hbl⟩ := hrel
        by_cases hlt : k < ts.length
        · obtain ⟨⟨ab, ao, rfl, habb, c0', c1'⟩, hk0, hk1⟩ := ht k hlt
          replace c0' := (hbl.cell (p := ⟨ab, ao + k * 2, none⟩) habb).trans c0'
          replace c1' := (hbl.cell (p := ⟨ab, ao + k * 2 + 1, none⟩) habb).trans c1'
          have hsz := hbl.size
          generalize ts[k] = q at *
          obtain ⟨qk, qm⟩ := q
          simp only at c0' c1' hk0 hk1
          go_upto_block 4 with fail
          have hrd6 := hrd.below ((Below.refl _ _).alloc (Nat.le_refl _) (.cells #[.int .i64 qk, .int .i64 qm] 46))
          have hbl6 := hbl.alloc hsz (.cells #[.int .i64 qk, .int .i64 qm] 46)
          have hlf6 : er = 0 → Left (wr.alloc (.cells #[.int .i64 qk, .int .i64 qm] 46)) w.heap.size A0 n0 c0 ys := fun e => (hlf e).below ((Below.refl _ _).alloc hsz _)
          have hbox6 : (wr.alloc (.cells #[.int .i64 qk, .int .i64 qm] 46)).heap[gm]? = some (.cells #[.slice A0 n0 c0, .int .i64 ((er : Nat) : Int)] 44 (0, 0)) := (Below.heap_alloc _ _ _ (lt_of_block hbox)).trans hbox
          have htb6 : (wr.alloc (.cells #[.int .i64 qk, .int .i64 qm] 46)).heap[wr.heap.size]? = some (.cells #[.int .i64 qk, .int .i64 qm] 46 (0, 0)) := heap_alloc_new wr _
          have hgt : gm < wr.heap.size ∧ gr < wr.heap.size := ⟨lt_of_block hbox, by obtain ⟨_, _, _, h, _⟩ := hrd; exact lt_of_block h⟩
          clear hrd hbl hlf hbox c0' c1'
          generalize wr.alloc (.cells #[.int .i64 qk, .int .i64 qm] 46) = w6 at *
          generalize wr.heap.size = gt at *
          have m0 := two_cell0 hbox6
          have m1 := two_cell1 hbox6
          have g0 := two_cell0 htb6
          have g1 := two_cell1 htb6
          have hs6 := hbl6.size
          go_cut [] (fun wx => RInv w gr gm wx)
          case first =>
            by_cases q0 : qk = 0
            · subst q0
              have HRN : Hid (∀ W : World, Rd W gr br ys er → Calls Try.prog 26 #[.pointer (some ⟨gr, 0, none⟩)] W (REnds gr br (.int .u64 ((rnx ys er).1 : Int)) (rnx ys er).2.1 (rnx ys er).2.2 W)) := hide fun W h => rnum_all gr br ys er W h
              go_wp2_with fail
              refine (readnum_all A0 n0 c0 w.heap.size er ys w6 hlf6 hs6).mono ?_
              rintro e w7 ⟨A7, n7, c7, rfl, hlf7, o1, o2, hw7⟩
              have hb7 := below2 w6 o1 o2
              rw [hw7] at hb7
              clear hw7 m0 m1 g0 g1
              have hbox7 := (hb7.block gm (lt_of_block hbox6)).trans hbox6
              have htb7 := (hb7.block gt (lt_of_block htb6)).trans htb6
              have hrd7 := hrd6.below hb7
              have hbl7 := hbl6.trans (hb7.mono hbl6.size)
              have hst := fun o => rm_step (o := o) (v1 := .int .i64 ((rnx ys er).2.2 : Int)) hbox7 hrd7 hft hbl7 hgm htb7 (by omega) hlf7
              have HST := hide hst
              have m0 := two_cell0 hbox7
              have m1 := two_cell1 hbox7
              have mf0 := two_free (i := 0) hbox7
              have mf1 := two_free (i := 1) hbox7
              have g0 := two_cell0 htb7
              have g1 := two_cell1 htb7
              have hl7 : gm < w7.heap.size := lt_of_block hbox7
              have hl7' : gt < w7.heap.size := lt_of_block htb7
              have hu := rnx_lt ys er
              clear hst hbox7 htb7 hrd7 hbl7 hlf7 hb7 hrd6 hlf6 hbox6 htb6 hbl6
              generalize rnx ys er = q at *
              obtain ⟨u, ys', er'⟩ := q
              simp only at HST hu
              go_wp2_with fail
              obtain ⟨hrdS, hbS, htS, hblS, hlS⟩ := HST.out (.cells #[.slice A7 n7 c7, .int .i64 (er' : Int)] 44)
              clear HST m0 m1 mf0 mf1 g0 g1
              generalize ((w7.setCell ⟨gm, 0, none⟩ (.slice A7 n7 c7)).setCell ⟨gm, 1, none⟩ (.int .i64 (er' : Int))).alloc (.cells #[.slice A7 n7 c7, .int .i64 (er' : Int)] 44) = S at *
              refine (HRN.out S hrdS).mono ?_
              rintro e w8 ⟨rfl, b8, hrd8, hb8, hk8⟩
              have ht8 := two_cell0 ((hk8.block gt (lt_of_block htS) (fun e => by omega)).trans htS)
              have hR := rinv_of hft hbS hblS hlS hrd8 hb8 hk8
              go_wp2_with fail
              go_meet
              exact hR
            · by_cases q1 : qk = 1
              · subst q1
                have HRN : Hid (∀ W : World, Rd W gr br ys er → Calls Try.prog 27 #[.pointer (some ⟨gr, 0, none⟩)] W (REnds gr br (.int .i64 (zag (rnx ys er).1)) (rnx ys er).2.1 (rnx ys er).2.2 W)) := hide fun W h => rint_all gr br ys er W h
                go_wp2_with fail
                refine (readnum_all A0 n0 c0 w.heap.size er ys w6 hlf6 hs6).mono ?_
                rintro e w7 ⟨A7, n7, c7, rfl, hlf7, o1, o2, hw7⟩
                have hb7 := below2 w6 o1 o2
                rw [hw7] at hb7
                clear hw7 m0 m1 g0 g1
                have hbox7 := (hb7.block gm (lt_of_block hbox6)).trans hbox6
                have htb7 := (hb7.block gt (lt_of_block htb6)).trans htb6
                have hrd7 := hrd6.below hb7
                have hbl7 := hbl6.trans (hb7.mono hbl6.size)
                have hst := fun o => rm_step (o := o) (v1 := .int .i64 ((rnx ys er).2.2 : Int)) hbox7 hrd7 hft hbl7 hgm htb7 (by omega) hlf7
                have HST := hide hst
                have m0 := two_cell0 hbox7
                have m1 := two_cell1 hbox7
                have mf0 := two_free (i := 0) hbox7
                have mf1 := two_free (i := 1) hbox7
                have g0 := two_cell0 htb7
                have g1 := two_cell1 htb7
                have hl7 : gm < w7.heap.size := lt_of_block hbox7
                have hl7' : gt < w7.heap.size := lt_of_block htb7
                have hu := rnx_lt ys er
                clear hst hbox7 htb7 hrd7 hbl7 hlf7 hb7 hrd6 hlf6 hbox6 htb6 hbl6
                generalize rnx ys er = q at *
                obtain ⟨u, ys', er'⟩ := q
                simp only at HST hu
                go_wp2_with fail
                obtain ⟨hrdS, hbS, htS, hblS, hlS⟩ := HST.out (.cells #[.slice A7 n7 c7, .int .i64 (er' : Int)] 44)
                clear HST m0 m1 mf0 mf1 g0 g1
                generalize ((w7.setCell ⟨gm, 0, none⟩ (.slice A7 n7 c7)).setCell ⟨gm, 1, none⟩ (.int .i64 (er' : Int))).alloc (.cells #[.slice A7 n7 c7, .int .i64 (er' : Int)] 44) = S at *
                have ht0 := two_cell0 htS
                go_wp2_with fail
                refine (HRN.out S hrdS).mono ?_
                rintro e w8 ⟨rfl, b8, hrd8, hb8, hk8⟩
                have hR := rinv_of hft hbS hblS hlS hrd8 hb8 hk8
                go_wp2_with fail
                refine (refunfold_any u w8 hu).mono ?_
                rintro e w9 ⟨rfl, rfl⟩
                go_wp2_with fail
                go_meet
                exact hR
              · by_cases q2 : qk = 2
                · subst q2
                  have HRN : Hid (∀ W : World, Rd W gr br ys er → Calls Try.prog 30 #[.pointer (some ⟨gr, 0, none⟩), .int .i64 qm] W (REnds gr br (.int .i64 ((rcx ys qm er).1 : Int)) (rcx ys qm er).2.1 (rcx ys qm er).2.2 W)) := hide fun W h => rcount_all gr br ys er qm W h hk1
                  have HRC := hide (readcount_all A0 n0 c0 w.heap.size er ys qm w6 hlf6 hs6 hk1)
                  generalize rcx ys qm er = q at *
                  obtain ⟨u, ys', er'⟩ := q
                  simp only at HRN HRC
                  go_wp2_with fail
                  refine HRC.out.mono ?_
                  rintro e w7 ⟨A7, n7, c7, rfl, hlf7, o1, o2, o3, o4, hw7⟩
                  have hb7 := below4 w6 o1 o2 o3 o4
                  rw [hw7] at hb7
                  clear hw7 m0 m1 g0 g1
                  have hbox7 := (hb7.block gm (lt_of_block hbox6)).trans hbox6
                  have htb7 := (hb7.block gt (lt_of_block htb6)).trans htb6
                  have hrd7 := hrd6.below hb7
                  have hbl7 := hbl6.trans (hb7.mono hbl6.size)
                  have hst := fun o => rm_step (o := o) (v1 := .int .i64 (er' : Int)) hbox7 hrd7 hft hbl7 hgm htb7 (by omega) hlf7
                  have HST := hide hst
                  have m0 := two_cell0 hbox7
                  have m1 := two_cell1 hbox7
                  have mf0 := two_free (i := 0) hbox7
                  have mf1 := two_free (i := 1) hbox7
                  have g0 := two_cell0 htb7
                  have g1 := two_cell1 htb7
                  have hl7 : gm < w7.heap.size := lt_of_block hbox7
                  have hl7' : gt < w7.heap.size := lt_of_block htb7
                  clear hst hbox7 htb7 hrd7 hbl7 hlf7 hb7 hrd6 hlf6 hbox6 htb6 hbl6 HRC
                  go_wp2_with fail
                  obtain ⟨hrdS, hbS, htS, hblS, hlS⟩ := HST.out (.cells #[.slice A7 n7 c7, .int .i64 (er' : Int)] 44)
                  clear HST m0 m1 mf0 mf1 g0 g1
                  generalize ((w7.setCell ⟨gm, 0, none⟩ (.slice A7 n7 c7)).setCell ⟨gm, 1, none⟩ (.int .i64 (er' : Int))).alloc (.cells #[.slice A7 n7 c7, .int .i64 (er' : Int)] 44) = S at *
                  have ht1 := two_cell1 htS
                  first
                    | (refine (HRN.out S hrdS).mono ?_)
                    | (go_wp2_with fail; refine (HRN.out S hrdS).mono ?_)
                  rintro e w8 ⟨rfl, b8, hrd8, hb8, hk8⟩
                  have hR := rinv_of hft hbS hblS hlS hrd8 hb8 hk8
                  go_wp2_with fail
                  go_meet
                  exact hR
                · by_cases q3 : qk = 3
                  · subst q3
                    have hzl := rtx_len ys qm er
                    have hyl := rd_len hrd6
                    have HRN : Hid (∀ W : World, Rd W gr br ys er → Calls Try.prog 32 #[.pointer (some ⟨gr, 0, none⟩), .int .i64 qm] W (TEnds gr br (rtx ys qm er).1 (rtx ys qm er).2.1 (rtx ys qm er).2.2 W)) := hide fun W h => rtext_all gr br ys er qm W h hk1
                    have HRC := hide (readtext_all A0 n0 c0 w.heap.size er ys qm w6 hlf6 hs6 hk1)
                    generalize rtx ys qm er = q at *
                    obtain ⟨zs, ys', er'⟩ := q
                    simp only at HRN HRC hzl
                    go_wp2_with fail
                    refine HRC.out.mono ?_
                    rintro e w7 ⟨A7, n7, c7, A2, n2, c2, rfl, hlf7, ho7, hb7⟩
                    clear m0 m1 g0 g1
                    have hbox7 := (hb7.block gm (lt_of_block hbox6)).trans hbox6
                    have htb7 := (hb7.block gt (lt_of_block htb6)).trans htb6
                    have hrd7 := hrd6.below hb7
                    have hbl7 := hbl6.trans (hb7.mono hbl6.size)
                    have hst := fun o => rm_step (o := o) (v1 := .int .i64 (er' : Int)) hbox7 hrd7 hft hbl7 hgm htb7 (by omega) hlf7
                    have hgt6 : gt < w6.heap.size := lt_of_block htb6
                    have hos := fun o => own_step (o := o) (gm := gm) (u := .slice A7 n7 c7) (v1 := .int .i64 (er' : Int)) ho7 (by omega)
                    have HOS := hide hos
                    have HST := hide hst
                    have m0 := two_cell0 hbox7
                    have m1 := two_cell1 hbox7
                    have mf0 := two_free (i := 0) hbox7
                    have mf1 := two_free (i := 1) hbox7
                    have g0 := two_cell0 htb7
                    have g1 := two_cell1 htb7
                    have hl7 : gm < w7.heap.size := lt_of_block hbox7
                    have hl7' : gt < w7.heap.size := lt_of_block htb7
                    clear hst hos hbox7 htb7 hrd7 hbl7 hlf7 hb7 hrd6 hlf6 hbox6 htb6 hbl6 HRC ho7
                    go_wp2_with fail
                    obtain ⟨hrdS, hbS, htS, hblS, hlS⟩ := HST.out (.cells #[.slice A7 n7 c7, .int .i64 (er' : Int)] 44)
                    have hoS := HOS.out (.cells #[.slice A7 n7 c7, .int .i64 (er' : Int)] 44)
                    clear HST HOS m0 m1 mf0 mf1 g0 g1
                    generalize ((w7.setCell ⟨gm, 0, none⟩ (.slice A7 n7 c7)).setCell ⟨gm, 1, none⟩ (.int .i64 (er' : Int))).alloc (.cells #[.slice A7 n7 c7, .int .i64 (er' : Int)] 44) = S at *
                    have hgS : gt < S.heap.size := lt_of_block htS
                    refine (HRN.out S hrdS).mono ?_
                    rintro e w8 ⟨v8, rfl, ho8, b8, hrd8, hb8, hk8⟩
                    have hR := rinv_of hft hbS hblS hlS hrd8 hb8 hk8
                    have ho2 := hoS.kept hk8 (fun j h1 _ _ e => by omega)
                    obtain ⟨_, _, _, hv2, hn2, _, hx2, _⟩ := ho2.form
                    injection hv2 with i1 i2 i3
                    subst i1 i2 i3
                    obtain ⟨A8, n8, c8, rfl, hn8, _, hx8, _⟩ := ho8.form
                    have hn8b : n8 ≤ 140737488355328 := by have := hn8.out; omega
                    clear hrdS hbS htS hblS hlS hrd8 hb8 hk8 ho2 hoS
                    go_wp2_with fail
                    refine (same_true A2 A8 n2 n8 c2 c8 _ _ zs w8 hx2 hx8 hn2.out hn8.out (by have := hn2.out; omega)).mono ?_
                    rintro e w9 ⟨rfl, m9, rfl⟩
                    have hR9 := hR.drewN m9
                    have ho9 := ho8.drewN m9
                    clear hR ho8 hx2 hx8
                    generalize w8.drewN m9 = w9 at *
                    have hv9lt := ho9.lt
                    go_wp2
                    go_loopw [115] (fun i wx => ∃ k : Nat, k ≤ n8 ∧ i = .int .i64 k ∧ ∃ zs, Hid (zs.length = n8) ∧ Own wx S.heap.size (.slice A8 n8 c8) zs ∧ Kept (fun j => (Value.slice A8 n8 c8).ownBlock = some j) w9 wx) (fun i _ => n8 - (intOf i).toNat)
                    case atStart => exact ⟨0, Nat.zero_le _, rfl, _, hn8, ho9, Kept.refl _ _⟩
                    case round =>
                      obtain ⟨k3, hk3, rfl, zs2, hzl2, hoz, hkz⟩ := hrel
                      by_cases hlt3 : k3 < n8
                      · have hkz' : k3 < zs2.length := by have := hzl2.out; omega
                        obtain ⟨g2, cc, hv, hg, hg2, _, hcell, hfr, hset⟩ := hoz.at_ hkz'
                        injection hv with e1 e2 e3
                        subst e1 e3
                        obtain ⟨cb, hcb⟩ : ∃ cb, zs2[k3]'hkz' = cb := ⟨_, rfl⟩
                        rw [hcb] at hcell
                        have HSET := hide (hset (cb ^^^ 255))
                        have HX := hide (xor_255 cb)
                        unfold byt at hcell
                        clear hset e2 hcb
                        have HKZ := hide hkz
                        have HOZ := hide hoz
                        clear hkz hoz
                        go_wp2
                        go_roundw
                        case rel => exact ⟨k3 + 1, by omega, by go_num, zs2.set k3 (cb ^^^ 255), by show (zs2.set k3 (cb ^^^ 255)).length = n8; rw [List.length_set]; exact hzl2.out, by rw [HX.out]; exact HSET.out, HKZ.out.setCell (p := ⟨g2, k3, none⟩) (.inl rfl) _⟩
                        case measure => simp [intOf]; omega
                      · have hR10 := hR9.kept hkz (fun j e => by have := (hv9lt j e).1; omega) hgm
                        clear hkz hoz hzl2 zs2 hR9 ho9
                        go_wp2_with fail
                        go_meet
                        exact hR10
                  · by_cases q4 : qk = 4
                    · subst q4
                      have HDN : Hid (∀ W : World, Rd W gr br ys er → Calls Try.prog 34 #[.pointer (some ⟨gr, 0, none⟩)] W fun e w' => ∃ ys', REnds gr br (.int .i64 ((if er = 0 ∧ 0 < ys.length then 13 else er : Nat) : Int)) ys' (if er = 0 ∧ 0 < ys.length then 13 else er) W e w' ∧ ((if er = 0 ∧ 0 < ys.length then 13 else er) = 0 → ys' = ys)) := hide fun W h => rdone_all gr br ys er W h
                      have HRC := hide (done_any A0 n0 c0 er w6)
                      have hee : (if er = 0 ∧ 0 < n0 then 13 else er : Nat) = (if er = 0 ∧ 0 < ys.length then 13 else er) := by
                        by_cases he : er = 0
                        · have := (hlf6 he).2.1.out
                          rw [this]
                        · rw [if_neg (fun h => he h.1), if_neg (fun h => he h.1)]
                      rw [hee] at HRC
                      have hlf6' : (if er = 0 ∧ 0 < ys.length then 13 else er : Nat) = 0 → Left w6 w.heap.size A0 n0 c0 ys := by
                        intro h
                        apply hlf6
                        split at h
                        · cases h
                        · exact h
                      clear hee hlf6
                      generalize (if er = 0 ∧ 0 < ys.length then 13 else er : Nat) = er' at *
                      obtain ⟨A7, n7, c7, hA7⟩ : ∃ A7 n7 c7, A7 = A0 ∧ n7 = n0 ∧ c7 = c0 := ⟨A0, n0, c0, rfl, rfl, rfl⟩
                      obtain ⟨rfl, rfl, rfl⟩ := hA7
                      go_wp2_with fail
                      refine HRC.out.mono ?_
                      rintro e w7 ⟨rfl, o1, o2, hw7⟩
                      have hb7 := below2 w6 o1 o2
                      rw [hw7] at hb7
                      clear hw7 m0 m1 g0 g1
                      have hbox7 := (hb7.block gm (lt_of_block hbox6)).trans hbox6
                      have htb7 := (hb7.block gt (lt_of_block htb6)).trans htb6
                      have hrd7 := hrd6.below hb7
                      have hbl7 := hbl6.trans (hb7.mono hbl6.size)
                      have hst := rm_step0 (v1 := .int .i64 (er' : Int)) (gt := gt) hbox7 hrd7 hft hbl7 hgm (fun e => (hlf6' e).below (hb7.mono hs6))
                      have HST := hide hst
                      have m0 := two_cell0 hbox7
                      have m1 := two_cell1 hbox7
                      have mf0 := two_free (i := 0) hbox7
                      have mf1 := two_free (i := 1) hbox7
                      have g0 := two_cell0 htb7
                      have g1 := two_cell1 htb7
                      have hl7 : gm < w7.heap.size := lt_of_block hbox7
                      have hl7' : gt < w7.heap.size := lt_of_block htb7
                      clear hst hbox7 htb7 hrd7 hbl7 hb7 hrd6 hlf6' hbox6 htb6 hbl6 HRC
                      go_wp2_with fail
                      obtain ⟨hrdS, hbS, hblS, hlS⟩ := HST.out
                      clear HST m0 m1 mf0 mf1 g0 g1
                      generalize (w7.setCell ⟨gm, 0, none⟩ (.slice A7 n7 c7)).setCell ⟨gm, 1, none⟩ (.int .i64 (er' : Int)) = S at *
                      have s1 := two_cell1 hbS
                      have hgr := hft gr (.inl rfl)
                      go_region_held3 (fun w' => w'.cell? ⟨gm, 1, none⟩ = some (.int .i64 (er' : Int))) (first | exact s1 | exact s8 | go_keep)
                        (first | ((go_at_call 34; (with_reducible refine (HDN.out _ ?_).mono ?_)); exact hrdS; rintro e w8 ⟨ys', ⟨rfl, b8, hrd8, hb8, hk8⟩, hys⟩; have s8 := two_cell1 ((hk8.block gm (lt_of_block hbS) (fun e => by omega)).trans hbS)))
                      all_goals
                        go_wp2_with fail
                        go_meet
                        exact rinv_of (S := S.drew) hft hbS hblS.drew (fun e => by rw [hys e]; exact hlS e) hrd8 hb8 hk8
                    · have t0 : (qk == 0) = false := by simpa using q0
                      have t1 : (qk == 1) = false := by simpa using q1
                      have t2 : (qk == 2) = false := by simpa using q2
                      have t3 : (qk == 3) = false := by simpa using q3
                      have t4 : (qk == 4) = false := by simpa using q4
                      have hR : RInv w gr gm w6 := ⟨br, ys, er, A0, n0, c0, hrd6, hft, hbox6, hlf6, hbl6⟩
                      clear q0 q1 q2 q3 q4
                      go_wp2_with fail
                      go_meet
                      exact hR
          case rest =>
            obtain ⟨b8, ys8, er8, A8, n8, c8, hrd8, hf8, hbox8, hlf8, hbl8⟩ := hcut
            have m0' := two_cell0 hbox8
            have m1' := two_cell1 hbox8
            have HRR := hide (fun W h => rerr_any gr b8 ys8 er8 W h)
            clear m0 m1 g0 g1 hrd6 hbox6 htb6 hlf6 hbl6
            go_wp2_with fail
            go_region_held3 (fun w' => w'.cell? ⟨gm, 1, none⟩ = some (.int .i64 (er8 : Int))) (first | exact m1' | go_keep)
              (first | ((go_at_call 35; (with_reducible refine (HRR.out _ ?_).mono ?_)); exact hrd8; rintro e w9 ⟨rfl, rfl⟩))
            all_goals
              go_wp2_with fail
              go_roundw
              case rel => exact ⟨k + 1, by omega, by go_num, b8, ys8, er8, A8, n8, c8, hrd8, hf8, hbox8, hlf8, hbl8.drew⟩
              case measure => simp [intOf]; omega
        · go_wp2
          go_ret
          exact ⟨rfl, hbl⟩
end Go.Proofs.Ytofdjpophacldaa
