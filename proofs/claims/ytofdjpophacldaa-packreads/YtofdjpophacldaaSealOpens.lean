/-
  The walk of SealOpens: every Seal and Open is the document's, in new memory. No condition but the size of what is read.
-/
import Derived.Test.YtofdjpophacldaaSealTells
import Derived.Test.YtofdjpophacldaaRefSeal
namespace Go.Proofs.Ytofdjpophacldaa
open Go.RowKit

/-- What Open answers: the bytes and the error. -/
def opened (xs : List UInt8) : List UInt8 × Int :=
  if xs.length < 8 then ([], 10) else if xs.drop (xs.length - 8) = tail8 (xs.take (xs.length - 8)) then (xs.take (xs.length - 8), 0) else ([], 14)
def OEnds (xs : List UInt8) (w : World) (e : Ending) (w' : World) : Prop := ∃ v, e = .returned (.tuple #[v, .int .i64 (opened xs).2]) ∧ Own w' w.heap.size v (opened xs).1 ∧ Below w.heap.size w w'

theorem opens_of {f : FuncId} (hs : ∀ (A : Option Addr) (n c : Nat) (w : World), n < 8 → Calls Try.prog f #[.slice A n c] w fun e w' => e = .returned (.tuple #[.slice none 0 0, .int .i64 10]) ∧ w = w')
    (hl : ∀ (A : Option Addr) (m c B : Nat) (xs : List UInt8) (w : World), Has w B A xs → B ≤ w.heap.size → xs.length = m + 8 → m + 8 ≤ 140737488355328 → m + 8 ≤ c → Calls Try.prog f #[.slice A (m + 8) c] w fun e w' =>
      (xs.drop m = tail8 (xs.take m) → ∃ v, e = .returned (.tuple #[v, .int .i64 0]) ∧ Own w' w.heap.size v (xs.take m)) ∧
      (xs.drop m ≠ tail8 (xs.take m) → e = .returned (.tuple #[.slice none 0 0, .int .i64 14])) ∧ Below w.heap.size w w')
    (A : Option Addr) (n c B : Nat) (xs : List UInt8) (w : World) (hx : Has w B A xs) (hB : B ≤ w.heap.size) (hn : xs.length = n) (hle : n ≤ 140737488355328) (hc : n ≤ c) : Calls Try.prog f #[.slice A n c] w (OEnds xs w) := by
  subst hn
  by_cases h8 : xs.length < 8
  · refine (hs A xs.length c w h8).mono ?_
    rintro e w' ⟨rfl, rfl⟩
    have e : opened xs = ([], 10) := by unfold opened; rw [if_pos h8]
    exact ⟨_, by rw [e], by rw [e]; exact Own.nil _ _, Below.refl _ _⟩
  · obtain ⟨m, hm⟩ : ∃ m, xs.length = m + 8 := ⟨xs.length - 8, by omega⟩
    rw [hm] at hle hc ⊢
    refine (hl A m c B xs w hx hB hm hle hc).mono ?_
    rintro e w' ⟨h1, h2, h3⟩
    have hm' : xs.length - 8 = m := by omega
    by_cases he : xs.drop m = tail8 (xs.take m)
    · have eo : opened xs = (xs.take m, 0) := by unfold opened; rw [if_neg h8, hm', if_pos he]
      obtain ⟨v, rfl, ho⟩ := h1 he
      exact ⟨v, by rw [eo], by rw [eo]; exact ho, h3⟩
    · have eo : opened xs = ([], 14) := by unfold opened; rw [if_neg h8, hm', if_neg he]
      exact ⟨_, by rw [eo]; exact h2 he, by rw [eo]; exact Own.nil _ _, h3⟩
theorem open_any (A : Option Addr) (n c B : Nat) (xs : List UInt8) (w : World) (hx : Has w B A xs) (hB : B ≤ w.heap.size) (hn : xs.length = n) (hle : n ≤ 140737488355328) (hc : n ≤ c) : Calls Try.prog 42 #[.slice A n c] w (OEnds xs w) :=
  opens_of open_short open_walk A n c B xs w hx hB hn hle hc
theorem refopen_any (A : Option Addr) (n c B : Nat) (xs : List UInt8) (w : World) (hx : Has w B A xs) (hB : B ≤ w.heap.size) (hn : xs.length = n) (hle : n ≤ 140737488355328) (hc : n ≤ c) : Calls Try.prog 41 #[.slice A n c] w (OEnds xs w) :=
  opens_of refopen_short refopen_walk A n c B xs w hx hB hn hle hc
theorem opened_sealed (xs : List UInt8) : opened (sealed xs) = (xs, 0) := by
  have h : (sealed xs).length - 8 = xs.length := by rw [sealed_length]; omega
  unfold opened
  rw [if_neg (by rw [sealed_length]; omega), h]
  have e1 : (sealed xs).drop xs.length = tail8 xs := List.drop_left
  have e2 : (sealed xs).take xs.length = xs := List.take_left
  rw [e1, e2, if_pos rfl]

theorem xor_255 (c : UInt8) : Value.int .u8 (bits .xor .u8 (c.toNat : Int) 255) = byt (c ^^^ 255) := by
  unfold byt
  have h := u8_xor_nat c.toNat 255 c.toNat_lt (by omega)
  rw [show ((255 : Nat) : Int) = 255 from rfl] at h
  rw [h]
  simp

/-- One's own slice stays where only other blocks turn. -/
theorem Own.kept {F : Nat → Prop} {w w' : World} {base : Nat} {v : Value} {xs : List UInt8} (h : Own w base v xs) (hk : Kept F w w') (hd : ∀ k, base ≤ k → k < w.heap.size → v.ownBlock = some k → ¬ F k) : Own w' base v xs :=
  h.keep fun k e => hk.block k (h.lt k e).2 (hd k (h.lt k e).1 (h.lt k e).2 e)

set_option maxHeartbeats 3200000 in
theorem opens_walk (A : Option Addr) (c : Nat) (xs : List UInt8) (w : World) (hx : Has w w.heap.size A xs) (hc : xs.length ≤ c) (hl : c ≤ 140737488351232) :
    Calls Try.prog 9 #[.slice A xs.length c] w fun e w' => e = .returned (.bool true) ∧ Below w.heap.size w w' := by
  have hsl := sealed_length xs
  have HSL := hide hsl
  clear hsl
  go_enter Try.func9, Try.ntmps9
  go_wp2_with fail
  refine (head2_any w).mono ?_
  rintro e w1 ⟨rfl, hb1⟩
  have hx1 := (hx.below hb1).more hb1.size
  go_wp2_with fail
  refine (copy_any A xs.length c xs w1 hx1 rfl (by omega)).mono ?_
  rintro e w2 ⟨rfl, hw2⟩
  have hn2 := Has.new w1 5 xs (0, 0) _ rfl
  have hb2 := hb1.alloc hb1.size (.cells (bcells xs) 5)
  have hz2 : w1.heap.size + 1 ≤ (w1.alloc (.cells (bcells xs) 5)).heap.size := by simp
  rw [hw2] at hn2 hb2 hz2
  clear hw2 hx1 hb1
  go_wp2_with fail
  refine (seal_any (some ⟨w1.heap.size, 0, none⟩) xs.length xs.length _ xs w2 hn2 hz2 rfl (by omega)).mono ?_
  rintro e w3 ⟨v3, rfl, ho3, hbl3⟩
  have hb3 := hb2.trans (hbl3.mono hb2.size)
  have hn3 := hn2.below (hbl3.mono hz2)
  have hz3 := Nat.le_trans hz2 hbl3.size
  obtain ⟨A3, n3, c3, rfl, hl3, _, hx3, _⟩ := ho3.form
  go_wp2_with fail
  refine (seal_any (some ⟨w1.heap.size, 0, none⟩) xs.length xs.length _ xs w3 hn3 hz3 rfl (by omega)).mono ?_
  rintro e w4 ⟨v4, rfl, ho4, hbl4⟩
  have hb4 := hb3.trans (hbl4.mono hb3.size)
  have hn4 := hn3.below (hbl4.mono hz3)
  have ho3_4 := ho3.below hbl4
  have hx3_4 := hx3.below hbl4
  obtain ⟨A4, n4, c4, rfl, hl4, hnc4, _, _⟩ := ho4.form
  go_wp2_with fail
  refine (refseal_any A xs.length c w.heap.size xs w4 (hx.below hb4) hb4.size rfl (by omega)).mono ?_
  rintro e w5 ⟨v5, rfl, ho5, hbl5⟩
  have hb5 := hb4.trans (hbl5.mono hb4.size)
  obtain ⟨A5, n5, c5, rfl, hl5, _, hx5, _⟩ := ho5.form
  have hx3_5 := (hx3_4.more (Nat.le_refl _)).below (hbl5.mono hbl4.size)
  have ho3_5 := ho3_4.below hbl5
  have ho4_5 := ho4.below hbl5
  have hn5 := hn4.below (hbl5.mono (Nat.le_trans hz3 hbl4.size))
  go_wp2_with fail
  refine (same_any A3 A5 n3 n5 c3 c5 _ _ (sealed xs) (sealed xs) w5 hx3_5 hx5 hl3.out hl5.out (by have := hl3.out; have := HSL.out; omega)).mono ?_
  rintro e w6 ⟨rfl, m6, rfl⟩
  rw [decide_eq_true rfl]
  have hb6 := below_drewN hb5 m6
  have ho3_6 := ho3_5.drewN m6
  have ho4_6 := ho4_5.drewN m6
  have hn6 := hn5.drewN m6
  have hs6 : w4.heap.size ≤ (w5.drewN m6).heap.size := hbl5.size
  generalize w5.drewN m6 = w6 at *
  clear hx3 hx3_4 hx3_5 hx5 ho5 hn3 hn4 hn5 ho3_4 ho3_5 ho4_5
  have hb3blk := ho3.lt
  have hb4blk := ho4.lt
  clear ho3 ho4
  go_wp2_with fail
  refine (same_any (some ⟨w1.heap.size, 0, none⟩) A xs.length xs.length xs.length c _ w.heap.size xs xs w6 hn6 (hx.below hb6) rfl rfl (by omega)).mono ?_
  rintro e w7 ⟨rfl, m7, rfl⟩
  rw [decide_eq_true rfl]
  have hb7 := below_drewN hb6 m7
  have ho3_7 := ho3_6.drewN m7
  have ho4_7 := ho4_6.drewN m7
  have hn7 := hn6.drewN m7
  have hs7 : w4.heap.size ≤ (w6.drewN m7).heap.size := hs6
  generalize w6.drewN m7 = w7 at *
  clear ho3_6 ho4_6 hn6 hs6 hn2
  have hz7 : w1.heap.size + 1 ≤ w7.heap.size := by have := hbl4.size; omega
  obtain ⟨ys, er, hop⟩ : ∃ ys er, opened xs = (ys, er) := ⟨_, _, rfl⟩
  have hyl : ys.length ≤ 140737488355328 := by
    have : ys = (opened xs).1 := by rw [hop]
    rw [this]
    unfold opened
    repeat' split
    all_goals simp
    omega
  go_wp2_with fail
  refine (refopen_any A xs.length c w.heap.size xs w7 (hx.below hb7) hb7.size rfl (by omega) hc).mono ?_
  rintro e w8 ⟨v8, rfl, ho8, hbl8⟩
  rw [hop] at ho8 ⊢
  simp only at ho8
  have hb8 := hb7.trans (hbl8.mono hb7.size)
  have hn8 := hn7.below (hbl8.mono hz7)
  have hz8 := Nat.le_trans hz7 hbl8.size
  have ho3_8 := ho3_7.below hbl8
  have ho4_8 := ho4_7.below hbl8
  have hb8blk := ho8.lt
  obtain ⟨A8, n8, c8, rfl, hl8, _, hx8, _⟩ := ho8.form
  go_wp2_with fail
  refine (open_any (some ⟨w1.heap.size, 0, none⟩) xs.length xs.length _ xs w8 hn8 hz8 rfl (by omega) (Nat.le_refl _)).mono ?_
  rintro e w9 ⟨v9, rfl, ho9, hbl9⟩
  rw [hop] at ho9 ⊢
  simp only at ho9
  have hb9 := hb8.trans (hbl9.mono hb8.size)
  have hn9 := hn8.below (hbl9.mono hz8)
  have hz9 := Nat.le_trans hz8 hbl9.size
  have ho3_9 := ho3_8.below hbl9
  have ho4_9 := ho4_8.below hbl9
  have ho8_9 := ho8.below hbl9
  have hb9blk := ho9.lt
  obtain ⟨A9, n9, c9, rfl, hl9, _, hx9, _⟩ := ho9.form
  go_wp2_with fail
  refine (open_any (some ⟨w1.heap.size, 0, none⟩) xs.length xs.length _ xs w9 hn9 hz9 rfl (by omega) (Nat.le_refl _)).mono ?_
  rintro e w10 ⟨v10, rfl, ho10, hbl10⟩
  rw [hop] at ho10 ⊢
  simp only at ho10
  have hb10 := hb9.trans (hbl10.mono hb9.size)
  have ho3_10 := ho3_9.below hbl10
  have ho4_10 := ho4_9.below hbl10
  have ho8_10 := ho8_9.below hbl10
  have ho9_10 := ho9.below hbl10
  have hb10blk := ho10.lt
  have hx8_10 := (hx8.below hbl9).below (hbl10.mono hbl9.size)
  have hx9_10 := hx9.below hbl10
  obtain ⟨A10, n10, c10, rfl, hl10, _, _, _⟩ := ho10.form
  clear ho3_7 ho3_8 ho3_9 ho4_7 ho4_8 ho4_9 ho8 ho8_9 ho9 hn7 hn8 hn9 hx8 hx9
  go_wp2_with fail
  refine (same_any A8 A9 n8 n9 c8 c9 _ _ ys ys w10 hx8_10 hx9_10 hl8.out hl9.out (by have := hl8.out; omega)).mono ?_
  rintro e w11 ⟨rfl, m11, rfl⟩
  rw [decide_eq_true rfl]
  have hb11 := below_drewN hb10 m11
  have ho3_11 := ho3_10.drewN m11
  have ho4_11 := ho4_10.drewN m11
  have ho8_11 := ho8_10.drewN m11
  have ho9_11 := ho9_10.drewN m11
  have ho10_11 := ho10.drewN m11
  have hs11 : w10.heap.size ≤ (w10.drewN m11).heap.size := Nat.le_refl _
  generalize w10.drewN m11 = w11 at *
  clear ho3_10 ho4_10 ho8_10 ho9_10 ho10 hx8_10 hx9_10
  have hsz1 := hbl4.size
  have hsz2 := hbl8.size
  have hsz3 := hbl9.size
  have hsz4 := hbl10.size
  have hsz0 := hb2.size
  have hsz00 := hbl3.size
  clear hbl3 hbl4 hbl5 hbl8 hbl9 hbl10 hb3 hb4 hb5 hb6 hb7 hb8 hb9 hb10 hb2
  have hn3i := hl3.out
  have hn3b : n3 ≤ 140737488355328 := by have := HSL.out; omega
  have hn9b : n9 ≤ 140737488355328 := by have := hl9.out; omega
  have HN3 := hide hn3i
  clear hn3i
  go_wp2
  go_loopw [61] (fun i wr => ∃ k : Nat, k ≤ n3 ∧ i = .int .i64 k ∧ ∃ zs, Hid (zs.length = n3) ∧ Own wr w2.heap.size (.slice A3 n3 c3) zs ∧ Kept (fun k => (Value.slice A3 n3 c3).ownBlock = some k) w11 wr) (fun i _ => n3 - (intOf i).toNat)
  case atStart => exact ⟨0, Nat.zero_le _, rfl, _, HN3, ho3_11, Kept.refl _ _⟩
  case round =>
    obtain ⟨k, hk, rfl, zs, hzl, hoz, hkz⟩ := hrel
    by_cases hlt : k < n3
    · have hkz' : k < zs.length := by have := hzl.out; omega
      obtain ⟨g, cc, hv, hg, hg2, _, hcell, hfr, hset⟩ := hoz.at_ hkz'
      injection hv with e1 e2 e3
      subst e1 e3
      obtain ⟨cb, hcb⟩ : ∃ cb, zs[k]'hkz' = cb := ⟨_, rfl⟩
      rw [hcb] at hcell
      have HSET := hide (hset (cb ^^^ 255))
      have HX := hide (xor_255 cb)
      unfold byt at hcell
      clear hset e2 hcb
      have HKZ := hide hkz
      have HOZ := hide hoz
      clear hkz hoz
      go_wp2
      go_roundw
      case rel => exact ⟨k + 1, by omega, by go_num, zs.set k (cb ^^^ 255), by show (zs.set k (cb ^^^ 255)).length = n3; rw [List.length_set]; exact hzl.out, by rw [HX.out]; exact HSET.out, HKZ.out.setCell (p := ⟨g, k, none⟩) (.inl rfl) _⟩
      case measure => simp [intOf]; omega
    · have ho4_12 := ho4_11.kept hkz (fun k h1 h2 h3 h4 => by have := hb3blk k h4; omega)
      have ho8_12 := ho8_11.kept hkz (fun k h1 h2 h3 h4 => by have := hb3blk k h4; omega)
      have ho9_12 := ho9_11.kept hkz (fun k h1 h2 h3 h4 => by have := hb3blk k h4; omega)
      have ho10_12 := ho10_11.kept hkz (fun k h1 h2 h3 h4 => by have := hb3blk k h4; omega)
      have hb12 := hb11.trans (hkz.below hb11.size (fun k h => by have := hb3blk k h; omega))
      clear hkz hoz hzl zs ho3_11 ho4_11 ho8_11 ho9_11 ho10_11 hb11
      go_wp2
      go_loopw [73] (fun i wr2 => ∃ k : Nat, k ≤ n9 ∧ i = .int .i64 k ∧ ∃ zs, Hid (zs.length = n9) ∧ Own wr2 w8.heap.size (.slice A9 n9 c9) zs ∧ Kept (fun k => (Value.slice A9 n9 c9).ownBlock = some k) wr wr2) (fun i _ => n9 - (intOf i).toNat)
      case atStart => exact ⟨0, Nat.zero_le _, rfl, _, hl9, ho9_12, Kept.refl _ _⟩
      case round =>
        obtain ⟨k, hk, rfl, zs, hzl, hoz, hkz⟩ := hrel
        by_cases hlt : k < n9
        · have hkz' : k < zs.length := by have := hzl.out; omega
          obtain ⟨g, cc, hv, hg, hg2, _, hcell, hfr, hset⟩ := hoz.at_ hkz'
          injection hv with e1 e2 e3
          subst e1 e3
          obtain ⟨cb, hcb⟩ : ∃ cb, zs[k]'hkz' = cb := ⟨_, rfl⟩
          rw [hcb] at hcell
          have HSET := hide (hset (cb ^^^ 255))
          have HX := hide (xor_255 cb)
          unfold byt at hcell
          clear hset e2 hcb
          have HKZ := hide hkz
          have HOZ := hide hoz
          clear hkz hoz
          go_wp2
          go_roundw
          case rel => exact ⟨k + 1, by omega, by go_num, zs.set k (cb ^^^ 255), by show (zs.set k (cb ^^^ 255)).length = n9; rw [List.length_set]; exact hzl.out, by rw [HX.out]; exact HSET.out, HKZ.out.setCell (p := ⟨g, k, none⟩) (.inl rfl) _⟩
          case measure => simp [intOf]; omega
        · have ho4_13 := ho4_12.kept hkz (fun k h1 h2 h3 h4 => by have := hb9blk k h4; have := hb4blk k h3; omega)
          have ho8_13 := ho8_12.kept hkz (fun k h1 h2 h3 h4 => by have := hb9blk k h4; have := hb8blk k h3; omega)
          have ho10_13 := ho10_12.kept hkz (fun k h1 h2 h3 h4 => by have := hb9blk k h4; omega)
          have hb13 := hb12.trans (hkz.below hb12.size (fun k h => by have := hb9blk k h; omega))
          clear hkz hoz hzl zs ho4_12 ho8_12 ho9_12 ho10_12 hb12
          obtain ⟨B4, q4, d4, hv4, hq4, hnc4', hx4, _⟩ := ho4_13.form
          injection hv4 with e1 e2 e3
          subst e1 e2 e3
          go_wp2_with fail
          refine (open_any A4 n4 c4 _ (sealed xs) _ hx4 (Nat.le_refl _) hq4.out (by have := hq4.out; have := HSL.out; omega) hnc4').mono ?_
          rintro e w14 ⟨v14, rfl, ho14, hbl14⟩
          rw [opened_sealed xs] at ho14 ⊢
          simp only at ho14
          have hb14 := hb13.trans (hbl14.mono hb13.size)
          have ho8_14 := ho8_13.below hbl14
          have ho10_14 := ho10_13.below hbl14
          obtain ⟨A14, n14, c14, rfl, hl14, _, hx14, _⟩ := ho14.form
          obtain ⟨B8, q8, d8, hv8, hq8, _, hx8, _⟩ := ho8_14.form
          injection hv8 with e1 e2 e3
          subst e1 e2 e3
          obtain ⟨B10, q10, d10, hv10, hq10, _, hx10, _⟩ := ho10_14.form
          injection hv10 with e1 e2 e3
          subst e1 e2 e3
          go_wp2_with fail
          refine (same_any A10 A8 n10 n8 c10 c8 _ _ ys ys w14 hx10 hx8 hq10.out hq8.out (by have := hq10.out; omega)).mono ?_
          rintro e w15 ⟨rfl, m15, rfl⟩
          rw [decide_eq_true rfl]
          have hb15 := below_drewN hb14 m15
          have hx15 := hx14.drewN m15
          generalize w14.drewN m15 = w15 at *
          go_wp2_with fail
          refine (same_any A14 A n14 xs.length c14 c _ w.heap.size xs xs w15 hx15 (hx.below hb15) hl14.out rfl (by have := hl14.out; omega)).mono ?_
          rintro e w16 ⟨rfl, m16, rfl⟩
          rw [decide_eq_true rfl]
          go_wp2
          go_ret
          exact ⟨rfl, below_drewN hb15 m16⟩
end Go.Proofs.Ytofdjpophacldaa
