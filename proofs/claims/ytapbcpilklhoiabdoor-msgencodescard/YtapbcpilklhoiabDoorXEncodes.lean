/-
  MsgEncodes of the statements, as its tied card: for every input the law returns true, and what came in reads as it did. No condition of ours; the row lists one table of the program, which the card ties to the program's text.
  The walk of MsgEncodes. Conditions: what came in is in reach; the package's table is as its text lays it.
-/
import Derived.Test.YtapbcpilklhoiabDoorMX16
import Derived.Test.YtapbcpilklhoiabDoorMX20
import Derived.Test.YtapbcpilklhoiabDoorMX21
import Derived.Laws.BitsAllLaws
import Derived.Test.YtapbcpilklhoiabDoorMX14
set_option linter.unusedSimpArgs false
set_option linter.unusedVariables false

namespace Go.Proofs.YtapbcpilklhoiabDoor
open Go.RowKit

theorem Own.at_ {w : World} {base : Nat} {v : Value} {xs : List UInt8} (h : Own w base v xs) {k : Nat} (hk : k < xs.length) :
    ∃ g c, v = .slice (some ⟨g, 0, none⟩) xs.length c ∧ base ≤ g ∧ g < w.heap.size ∧ xs.length ≤ c ∧ w.cell? ⟨g, k, none⟩ = some (byt xs[k]) ∧ w.frozen? ⟨g, k, none⟩ = false ∧ ∀ d, Own (w.setCell ⟨g, k, none⟩ (byt d)) base v (xs.set k d) := by
  rcases h.2 with ⟨_, hn⟩ | ⟨g, cap, cur, hv, hg, hh, hnc, hm, hcs, ht⟩
  · omega
  · have hkc : k < cur.size := by rw [hcs]; omega
    have hcell : cur[k]? = some (byt xs[k]) := by
      have h1 : (cur.toList.take (xs.length * 1))[k]? = some (byt xs[k]) := by rw [ht]; simp [hk]
      rw [List.getElem?_take_of_lt (by omega)] at h1
      simpa using h1
    refine ⟨g, cap, hv, hg, lt_of_block hh, hnc, by simp [World.cell?, hh, hcell], by simp [World.frozen?, hh], ?_⟩
    intro d
    refine ⟨by simp, .inr ⟨g, cap, cur.setIfInBounds k (byt d), by rw [hv]; simp, hg, ?_, by simpa using hnc, hm, by simpa using hcs, ?_⟩⟩
    · simp [World.setCell, Array.getElem?_modify, hh]
    · rw [Nat.mul_one] at ht
      simp only [Array.toList_setIfInBounds, List.length_set, Nat.mul_one, List.map_set]
      rw [← ht, List.take_set]
theorem xor_255 (c : UInt8) : Value.int .u8 (bits .xor .u8 (c.toNat : Int) 255) = byt (c ^^^ 255) := by
  unfold byt
  have h := u8_xor_nat c.toNat 255 c.toNat_lt (by omega)
  rw [show ((255 : Nat) : Int) = 255 from rfl] at h
  rw [h]
  simp

set_option maxRecDepth 20000 in
set_option maxHeartbeats 6400000 in
theorem mencodes_walk (m : Msgv) (w : World) (ht : TabM w) (hm : IsM w w.heap.size m) (hvn : m.vn ≤ 1759218604440) (hsl : -9223372036854775808 ≤ m.sl) (h0 : 0 < w.heap.size) :
    Calls Tryd.prog 3 #[.agg m.cells] w fun e w' => e = .returned (.bool true) ∧ Below w.heap.size w w' := by
  have HT : Hid (∀ W, Below w.heap.size w W → TabM W) := hide (fun W h => ht.below h (by omega))
  have HMM : Hid (∀ W, Below w.heap.size w W → IsM W w.heap.size m) := hide (fun W h => hm.below h)
  have HUP : Hid (∀ (M : Msgv) (W : World) (B : Nat), IsM W B M → M.lg = m.lg → chkM M = chkM m ∧ -9223372036854775808 ≤ M.sl) := hide (fun M W B im e => ⟨by rw [chkM_up im.en im.ed, e, ← chkM_up hm.en hm.ed], by have : M.sl = m.sl := congrArg Msgl.sl e; rw [this]; exact hsl⟩)
  have HFF : Hid (chkM m = 0 → FineM m.lg (usedT m.kd)) := hide (fun h => chkM_fine hm h)
  clear ht hm
  have im := info_msg m
  go_enter Tryd.func3, Tryd.ntmps3
  go_upto_region 1 with fail
  have hp0 := heap_alloc_new w (.cells m.cells 37)
  have b0 : Below w.heap.size w (w.alloc (.cells m.cells 37)) := by go_grown
  generalize w.alloc (.cells m.cells 37) = w0 at *
  have HP0 := hide hp0
  have hz0 := lt_of_block hp0
  clear hp0
  go_wp2_with fail
  refine (head7_any w0 (HT.out _ b0) (by omega)).mono ?_
  rintro e w1 ⟨rfl, b1'⟩
  have HP1 := hide ((b1'.block w.heap.size hz0).trans HP0.out)
  have b1 := b0.trans (b1'.mono b0.size)
  have hz1 := lt_of_block HP1.out
  clear HP0 b0 b1' hz0
  go_wp2_with (refine wpList_load_row rfl 37 _ rfl w.heap.size rfl _ _ _ _ HP1.out Tryd.underlying37 rfl im ?_)
  refine (mcopy_any m w.heap.size w1 (HMM.out _ b1) b1.size hvn).mono ?_
  rintro e w2 ⟨m2, rfl, lg2, im2, re2, b2'⟩
  obtain ⟨ck2, sl2⟩ := HUP.out m2 w2 _ im2 lg2
  have HP2 := hide ((b2'.block w.heap.size hz1).trans HP1.out)
  have b2 := b1.trans (b2'.mono b1.size)
  have hz2 := b2'.size
  clear HP1 b1 b2' re2
  have hr3 := set_row_at (B := m2.cells) (heap_alloc_new w2 (.cells #[.int .i64 0, .int .i64 0, .int .i64 0, .int .i64 0, .int .i64 0, .int .i64 0, .int .i64 0, .int .i64 0, .int .i64 0, .int .i64 0, .slice none 0 0, .slice none 0 0, .slice none 0 0, .int .i64 0, .int .i64 0, .int .i64 0, .int .i64 0, .int .i64 0, .int .i64 0, .int .i64 0, .int .i64 0, .int .i64 0, .int .i64 0, .int .i64 0, .slice none 0 0] 37))
  have b3' : Below w2.heap.size w2 ((w2.alloc (.cells #[.int .i64 0, .int .i64 0, .int .i64 0, .int .i64 0, .int .i64 0, .int .i64 0, .int .i64 0, .int .i64 0, .int .i64 0, .int .i64 0, .slice none 0 0, .slice none 0 0, .slice none 0 0, .int .i64 0, .int .i64 0, .int .i64 0, .int .i64 0, .int .i64 0, .int .i64 0, .int .i64 0, .int .i64 0, .int .i64 0, .int .i64 0, .int .i64 0, .slice none 0 0] 37)).setRow w2.heap.size m2.cells) := ((Below.refl _ w2).alloc (Nat.le_refl _) (.cells #[.int .i64 0, .int .i64 0, .int .i64 0, .int .i64 0, .int .i64 0, .int .i64 0, .int .i64 0, .int .i64 0, .int .i64 0, .int .i64 0, .slice none 0 0, .slice none 0 0, .slice none 0 0, .int .i64 0, .int .i64 0, .int .i64 0, .int .i64 0, .int .i64 0, .int .i64 0, .int .i64 0, .int .i64 0, .int .i64 0, .int .i64 0, .int .i64 0, .slice none 0 0] 37)).trans ((Kept.of_setRow _ w2.heap.size m2.cells).below (by simp) (fun k hk => by omega))
  have HP3 := hide ((b3'.block w.heap.size (by omega)).trans HP2.out)
  have im3 : IsM ((w2.alloc (.cells #[.int .i64 0, .int .i64 0, .int .i64 0, .int .i64 0, .int .i64 0, .int .i64 0, .int .i64 0, .int .i64 0, .int .i64 0, .int .i64 0, .slice none 0 0, .slice none 0 0, .slice none 0 0, .int .i64 0, .int .i64 0, .int .i64 0, .int .i64 0, .int .i64 0, .int .i64 0, .int .i64 0, .int .i64 0, .int .i64 0, .int .i64 0, .int .i64 0, .slice none 0 0] 37)).setRow w2.heap.size m2.cells) w2.heap.size m2 := im2.below b3'
  have b3 := b2.trans (b3'.mono b2.size)
  have hz3 := lt_of_block hr3
  clear HP2 b3' b2 im2
  go_wp2_with (first
    | (refine wpList_store_row rfl 37 _ _ rfl w2.heap.size m2.cells rfl rfl _ _ (heap_alloc_new w2 (.cells #[.int .i64 0, .int .i64 0, .int .i64 0, .int .i64 0, .int .i64 0, .int .i64 0, .int .i64 0, .int .i64 0, .int .i64 0, .int .i64 0, .slice none 0 0, .slice none 0 0, .slice none 0 0, .int .i64 0, .int .i64 0, .int .i64 0, .int .i64 0, .int .i64 0, .int .i64 0, .int .i64 0, .int .i64 0, .int .i64 0, .int .i64 0, .int .i64 0, .slice none 0 0] 37)) (info_msg _) rfl (mcells_one _) ?_; generalize (w2.alloc (.cells #[.int .i64 0, .int .i64 0, .int .i64 0, .int .i64 0, .int .i64 0, .int .i64 0, .int .i64 0, .int .i64 0, .int .i64 0, .int .i64 0, .slice none 0 0, .slice none 0 0, .slice none 0 0, .int .i64 0, .int .i64 0, .int .i64 0, .int .i64 0, .int .i64 0, .int .i64 0, .int .i64 0, .int .i64 0, .int .i64 0, .int .i64 0, .int .i64 0, .slice none 0 0] 37)).setRow w2.heap.size m2.cells = w3 at *)
    | (refine wpList_load_row rfl 37 _ rfl w.heap.size rfl _ _ _ _ HP3.out Tryd.underlying37 rfl im ?_))
  generalize w2.heap.size = g3 at *
  have HR3 := hide hr3
  clear hr3
  refine (rmcheck_any m w.heap.size w3 (HMM.out _ b3) b3.size).mono ?_
  rintro e w4 ⟨rfl, b4'⟩
  have HP4 := hide ((b4'.block w.heap.size (by omega)).trans HP3.out)
  have HR4 := hide ((b4'.block g3 hz3).trans HR3.out)
  have im4 : IsM w4 g3 m2 := im3.below (b4'.mono (by omega))
  have b4 := b3.trans (b4'.mono b3.size)
  have hz4 := b4'.size
  clear HP3 HR3 im3 b3 b4'
  generalize hce : chkM m = ce at *
  go_wp2_with (refine wpList_load_row rfl 37 _ rfl g3 rfl _ _ _ _ HR4.out Tryd.underlying37 rfl (info_msg _) ?_)
  refine (mencode_any m2 g3 w4 (HT.out _ b4) im4 (by omega) (by omega) sl2).mono ?_
  rintro e w5 ⟨v5, rfl, ho5, hn5, b5'⟩
  have HP5 := hide ((b5'.block w.heap.size (by omega)).trans HP4.out)
  have HR5 := hide ((b5'.block g3 (by omega)).trans HR4.out)
  have im5 : IsM w5 g3 m2 := im4.below (b5'.mono (by omega))
  have b5 := b4.trans (b5'.mono b4.size)
  have hz5 := b5'.size
  have HENC : Hid (encM m2.lg (usedT m2.kd) = encM m.lg (usedT m.kd)) := hide (by rw [lg2, show m2.kd = m.kd from congrArg Msgl.kd lg2])
  rw [ck2] at ho5 hn5 ⊢
  rw [HENC.out] at ho5
  clear HP4 HR4 im4 b4 b5'
  go_wp2_with (refine wpList_load_row rfl 37 _ rfl g3 rfl _ _ _ _ HR5.out Tryd.underlying37 rfl (info_msg _) ?_)
  refine (mencode_any m2 g3 w5 (HT.out _ b5) im5 (by omega) (by omega) sl2).mono ?_
  rintro e w6 ⟨v6, rfl, ho6, _, b6'⟩
  have HP6 := hide ((b6'.block w.heap.size (by omega)).trans HP5.out)
  have HR6 := hide ((b6'.block g3 (by omega)).trans HR5.out)
  have im6 : IsM w6 g3 m2 := im5.below (b6'.mono (by omega))
  have b6 := b5.trans (b6'.mono b5.size)
  have hz6 := b6'.size
  rw [ck2] at ho6 ⊢
  rw [HENC.out] at ho6
  have HO5 : Hid (ce = 0 → Own w6 w4.heap.size v5 (encM m.lg (usedT m.kd))) := hide (fun h => (ho5.out h).keep fun k hk => b6'.block k ((ho5.out h).lt k hk).2)
  have HO6 := hide ho6.out
  have HO5n := hide hn5.out
  have HL5 : Hid (ce = 0 → ∀ k, v5.ownBlock = some k → k < w5.heap.size) := hide (fun h k hk => ((ho5.out h).lt k hk).2)
  clear HP5 HR5 im5 b5 b6' ho5 ho6 hn5 ck2 sl2
  generalize w4.heap.size = s4 at *
  have h56 : s4 ≤ w5.heap.size := hz5
  generalize w5.heap.size = s5 at *
  have tne : (ce != ce) = false := by simp
  go_wp2_with (first
    | (refine wpList_load_want (by rfl) 37 _ rfl g3 rfl _ _ _ _ HR6.out Tryd.underlying37 rfl (info_msg _) ?_)
    | (refine wpList_load_want (by rfl) 37 _ rfl w.heap.size rfl _ _ _ _ HP6.out Tryd.underlying37 rfl im ?_))
  refine (rmsame_any m2 m g3 w6 im6 ((HMM.out _ b6).more (by omega)) (by omega)).mono ?_
  rintro e w7 ⟨rfl, b7'⟩
  rw [(sameM_iff m2 m).2 lg2]
  have HP7 := hide ((b7'.block w.heap.size (by omega)).trans HP6.out)
  have b7 := b6.trans (b7'.mono b6.size)
  have hz7 := b7'.size
  have HQ5 : Hid (ce = 0 → Own w7 s4 v5 (encM m.lg (usedT m.kd))) := hide (fun h => (HO5.out h).below b7')
  have HQ6 : Hid (ce = 0 → Own w7 s5 v6 (encM m.lg (usedT m.kd))) := hide (fun h => (HO6.out h).below b7')
  have h4s : w.heap.size < s4 := by omega
  clear HP6 HR6 im6 b6 b7' HO5 HO6 tne
  by_cases hc : ce = 0
  rotate_left
  · have tc : (ce != 0) = true := by rw [bne_iff_ne]; exact hc
    obtain rfl := HO5n.out hc
    clear hc
    go_wp2
    go_ret
    exact ⟨rfl, b7⟩
  have hF := HFF.out hc
  subst hc
  have hlen := hF.len
  have q5 := HQ5.out rfl
  have q6 := HQ6.out rfl
  have l5 := HL5.out rfl
  clear HQ5 HQ6 HL5 HO5n HFF
  obtain ⟨A5, n5, c5, rfl, hn5, hnc5, hx5, _⟩ := q5.form
  obtain ⟨A6, n6, c6, rfl, hn6, hnc6, hx6, _⟩ := q6.form
  have HN5 := hide hn5.out
  have HN6 := hide hn6.out
  have hn5' : n5 ≤ 60000 := by rw [← HN5.out]; exact hlen
  have HBY : Hid (∀ W, Below w.heap.size w W → Calls Tryd.prog 14 #[.agg m.cells] W (Makes (encM m.lg (usedT m.kd)) W)) := hide (fun W h => rmbytes_ok m w.heap.size W (HMM.out W h) h.size hF)
  have hn6' : n6 ≤ 60000 := by rw [← HN6.out]; exact hlen
  have HLEN := hide hlen
  clear hF hlen hn5 hn6
  generalize encM m.lg (usedT m.kd) = zs at *
  go_wp2_with (refine wpList_load_row rfl 37 _ rfl w.heap.size rfl _ _ _ _ HP7.out Tryd.underlying37 rfl im ?_)
  refine (HBY.out w7 b7).mono ?_
  rintro e w8 ⟨v8, rfl, ho8, b8'⟩
  obtain ⟨A8, n8, c8, rfl, hn8, _, hx8, _⟩ := ho8.form
  have hx5' : Has w8 w7.heap.size A5 zs := hx5.below b8'
  have q5' := q5.below b8'
  have q6' := q6.below b8'
  have HP8 := hide ((b8'.block w.heap.size (by omega)).trans HP7.out)
  have b8 := b7.trans (b8'.mono b7.size)
  have HN8 := hide hn8.out
  clear HP7 b7 b8' q5 q6 hx5 hx6 ho8 hn8
  go_wp2_with fail
  refine (same_any A5 A8 n5 n8 c5 c8 w7.heap.size w8.heap.size zs zs w8 hx5' hx8 HN5.out HN8.out (by omega)).mono ?_
  rintro e w9' ⟨rfl, nq, rfl⟩
  rw [decide_eq_true rfl]
  have HP9 : Hid ((w8.drewN nq).heap[w.heap.size]? = some (.cells m.cells 37 (0, 0))) := hide HP8.out
  have b9 := below_drewN b8 nq
  have r5 : Own (w8.drewN nq) s4 (.slice A5 n5 c5) zs := q5'.below (below_drewN (Below.refl _ _) nq)
  have r6 : Own (w8.drewN nq) s5 (.slice A6 n6 c6) zs := q6'.below (below_drewN (Below.refl _ _) nq)
  generalize w8.drewN nq = w9 at *
  clear HP8 b8 q5' q6' hx5' hx8
  have t65 : decide ((65536 : Int) < (n5 : Int)) = false := decide_eq_false (by omega)
  go_wp2_with fail
  go_loopw [52] (fun i wx => ∃ k : Nat, k ≤ n5 ∧ i = .int .i64 k ∧ ∃ ys, Hid (ys.length = n5) ∧ Own wx s4 (.slice A5 n5 c5) ys ∧ Kept (fun j => (Value.slice A5 n5 c5).ownBlock = some j) w9 wx) (fun i _ => n5 - (intOf i).toNat)
  case atStart => exact ⟨0, Nat.zero_le _, rfl, _, HN5.out, r5, Kept.refl _ _⟩
  case round =>
    obtain ⟨k2, hk2, rfl, ys, hzl, hoz, hkz⟩ := hrel
    by_cases hlt2 : k2 < n5
    · have hkz' : k2 < ys.length := by have := hzl.out; omega
      obtain ⟨g2, cc, hv, hg, hg2, _, hcell, hfr, hset⟩ := hoz.at_ hkz'
      injection hv with e1 e2 e3
      subst e1 e3
      obtain ⟨cb, hcb⟩ : ∃ cb, ys[k2]'hkz' = cb := ⟨_, rfl⟩
      rw [hcb] at hcell
      have HSET := hide (hset (cb ^^^ 255))
      have HX := hide (xor_255 cb)
      unfold byt at hcell
      have HKZ := hide hkz
      clear hset e2 hcb hkz hoz r5 r6
      go_wp2
      go_roundw
      case rel => exact ⟨k2 + 1, by omega, by go_num, ys.set k2 (cb ^^^ 255), by show (ys.set k2 (cb ^^^ 255)).length = n5; rw [List.length_set]; exact hzl.out, by rw [HX.out]; exact HSET.out, HKZ.out.setCell (p := ⟨g2, k2, none⟩) (.inl rfl) _⟩
      case measure => simp [intOf]; omega
    · have HPa := hide ((hkz.block w.heap.size (lt_of_block HP9.out) (fun e => by have := (r5.lt _ e).1; omega)).trans HP9.out)
      have ba := b9.trans (hkz.below b9.size (fun k hk => by have := (r5.lt k hk).1; omega))
      have ra : Own wr s5 (.slice A6 n6 c6) zs := r6.keep fun k hk => hkz.block k (r6.lt k hk).2 (fun e => by have := (r6.lt k hk).1; have := l5 k e; omega)
      clear hkz hoz hzl HP9 b9 r5 r6
      go_wp2_with (refine wpList_load_row rfl 37 _ rfl w.heap.size rfl _ _ _ _ HPa.out Tryd.underlying37 rfl im ?_)
      refine (HBY.out wr ba).mono ?_
      rintro e wb ⟨vb, rfl, hob, bb'⟩
      obtain ⟨Ab, nb, cb, rfl, hnb, _, hxb, _⟩ := hob.form
      obtain ⟨_, _, _, ev, _, _, hxa, _⟩ := ra.form
      injection ev with ev1 ev2 ev3
      subst ev1 ev2 ev3
      have hxa' : Has wb wr.heap.size A6 zs := hxa.below bb'
      have bb := ba.trans (bb'.mono ba.size)
      go_wp2_with fail
      refine (same_any A6 Ab n6 nb c6 cb wr.heap.size wb.heap.size zs zs wb hxa' hxb HN6.out hnb.out (by omega)).mono ?_
      rintro e wz ⟨rfl, nq2, rfl⟩
      rw [decide_eq_true rfl]
      go_wp2
      go_ret
      exact ⟨rfl, below_drewN bb nq2⟩
end Go.Proofs.YtapbcpilklhoiabDoor

namespace Go.Proofs.YtapbcpilklhoiabDoor
open Go.ChangeShapes Go.WideShapes Go.ChangeAt Go.RowKit
set_option linter.unusedVariables false

set_option maxRecDepth 100000 in
theorem msgEncodes_lifted (os : Os) (started : os.Started) (H : Type) (enc : TypeId × Value → H) :
    ReturnsInHanded {} Tryd.checked os 3 .any (fun w args => (Rows.msgEncodesSpec.pre enc Tryd.prog Tryd.f3 [] false w args ∧ laidMetH Tryd.prog laid1 w) ∧ sizedMet enc Tryd.prog Tryd.f3 (OpenSpec.ofChange Rows.msgEncodesSpec) false w args)
      (Rows.msgEncodesSpec.post enc Tryd.prog Tryd.f3 false true false false) := by
  refine returnsInHanded_of_change_and (C := Tryd.checked) (X := fun w _ => laidMetH Tryd.prog laid1 w) (fun _ _ _ hh h => h.of_heap hh) ownKnob_none started (by kernel_rfl) Tryd.func3
    (ChangeSpec.witness_shaped (enc := enc) (C := Tryd.checked) (os := os) (X := fun w _ => laidMetH Tryd.prog laid1 w) false (World.doorLaid Tryd.prog 14 os) #[.agg #[.int .i64 0, .int .i64 0, .int .i64 0, .int .i64 0, .int .i64 0, .int .i64 0, .int .i64 0, .int .i64 0, .int .i64 0, .int .i64 0, .slice none 0 0, .slice none 0 0, .slice none 0 0, .int .i64 0, .int .i64 0, .int .i64 0, .int .i64 0, .int .i64 0, .int .i64 0, .int .i64 0, .int .i64 0, .int .i64 0, .int .i64 0, .int .i64 0, .slice none 0 0]] 8 rfl (World.shaped_of_RefB (by kernel_rfl) (by kernel_rfl)) (by kernel_rfl) (by kernel_rfl) (by kernel_rfl) (door_met os _)) ?_
  intro W base args ds gs before hval0 hW _ hsz0 hL _
  have hval : ∀ (j : Nat) t v, Tryd.f3.params[j]? = some t → args[j]? = some v → Value.okWide Tryd.prog W .any base t v := hval0
  have hsz : (DataW.weightsEach Tryd.prog (Tryd.f3.params.toList ++ Rows.msgEncodesSpec.plain.varTypes Tryd.prog) (ds ++ gs)).all (· ≤ reachBytes) = true := hsz0
  have hW' := hW
  obtain ⟨p, q, hA0, hV, rfl, hfz, hnd⟩ := hW
  have hA : DataW.TrodAll enc Tryd.prog W 0 (fun _ => true) true Tryd.f3.params.toList args.toList ds p := hA0
  rw [Tryd.params3] at hA hval hsz
  obtain ⟨v0, vs0', d0, ds0, p0, q0, hargs, rfl, rfl, h0, r0⟩ := trodAll_cons hA
  obtain ⟨rfl, rfl, rfl⟩ := trodAll_nil r0
  obtain rfl : args = #[v0] := by cases args; simp_all
  obtain ⟨rfl, rfl⟩ := trodVars_none hV
  have t0 := h0
  have lt0 : ∀ x ∈ p0, x.block < W.heap.size := by obtain ⟨m, hm⟩ := t0; exact DataW.trod_lt m _ _ _ hm
  obtain ⟨m0, rfl, hm0⟩ := open_msg (hval 0 37 v0 rfl rfl) h0 (Light.of_each hsz (j := 0) rfl rfl)
  clear hA0 hval0
  refine (mencodes_walk m0 W (tab_of_laid hL) hm0.im (by have := hm0.vn; omega) hm0.sl.1 (tab_of_laid hL).lt).mono fun e W' ⟨he, bel⟩ => ?_
  subst he
  exact ⟨_, rfl, _, _, _, [], _, [], hW', trodAll_mk1 (shut_bool Tryd.underlying4 _), (trodAll_cons_mk (Below.trod laid_out (by kernel_rfl) (of_decide_eq_true (by kernel_rfl)) t0 bel lt0) trodAll_mk0), rfl, bel.frame _, fun h => by cases h⟩

theorem msgEncodes_holds : Rows.MsgEncodesSaid :=
  OpenClaim.holds_of_wide 3 Tryd.f3 rfl rfl rfl rfl rfl rfl rfl ⟨rfl, rfl, rfl, rfl, rfl⟩ rfl rfl rfl rfl rfl (by kernel_rfl) Tryd.func3 (by kernel_rfl)
    (of_decide_eq_true (by kernel_rfl)) (by unfold Func.isWrapper; first | (rw [if_pos (by decide +kernel)]; kernel_rfl) | (rw [if_neg (by decide +kernel)]; exact ⟨rfl, rfl⟩))
    (fun os started H enc _ => msgEncodes_lifted os started H enc)

theorem msgEncodes_card : Rows.MsgEncodesCardSaid :=
  Claim7.holds_tied_plain_at .later [] [.data] true Rows.msgEncodesCard.stood.harness false
    msgEncodes_holds (fun _ h => by cases h) (by kernel_rfl) (fun _ h => by cases h) msgEncodes_row_tie rfl ⟨rfl, rfl⟩ (by kernel_rfl) rfl
    (fun f fn hf hfn => by
      obtain rfl : f = 3 := Option.some.inj ((show Tryd.prog.funcNamed "synod/synodlaw07.MsgEncodes" = some 3 by kernel_rfl).symm.trans hf) |>.symm
      obtain rfl : fn = Tryd.f3 := (Option.some.inj (Tryd.func3.symm.trans hfn)).symm
      exact ⟨by kernel_rfl, fun j t ht => by
        rw [Tryd.params3] at ht
        have hm : t ∈ [37] := by simpa using Array.mem_of_getElem? ht
        have hall : ([37].all fun u => !Tryd.prog.wantsStandIn u) = true := by kernel_rfl
        exact (show Tryd.prog.wantsStandIn t = false by simpa using List.all_eq_true.1 hall t hm)⟩)
    (by kernel_rfl)
#print axioms msgEncodes_card
end Go.Proofs.YtapbcpilklhoiabDoor
