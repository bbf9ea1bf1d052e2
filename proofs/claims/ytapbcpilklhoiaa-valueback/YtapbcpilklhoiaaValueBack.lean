/-
  The walk of ValueBack. No condition but the reach of what is read.
-/
import Derived.Test.YtapbcpilklhoiaaValDec
set_option linter.unusedSimpArgs false
set_option linter.unusedVariables false
namespace Go.Proofs.Ytapbcpilklhoiaa
open Go.RowKit

theorem dec_enc {k : Int} {cs : List Cmdv} {ns : List Int} (hc : ∀ c ∈ cs, IsCmd c) (h : chkV k cs ns = 0) : decE (encV k cs ns) = 0 ∧ rdV (encV k cs ns, 0) = ⟨k.toNat, cs, ns, ([], 0)⟩ ∧ (k.toNat : Int) = k := by
  have hf := chkV_fine hc h
  have hr := hf.read []
  rw [List.append_nil] at hr
  have hk := hf.k0
  have ek : (k.toNat : Int) = k := by omega
  refine ⟨?_, hr, ek⟩
  unfold decE
  rw [hr]
  simp only [dn, if_true, ek]
  exact h
theorem dec_back {xs : List UInt8} (h : decE xs = 0) : chkV (rdV (xs, 0)).k (rdV (xs, 0)).cs (rdV (xs, 0)).ns = 0 ∧ encV (rdV (xs, 0)).k (rdV (xs, 0)).cs (rdV (xs, 0)).ns = xs := by
  unfold decE at h
  by_cases hd : dn (rdV (xs, 0)).s = 0
  · rw [if_pos hd] at h
    refine ⟨h, ?_⟩
    have hs := dn_zero hd
    obtain ⟨_, hb⟩ := rdV_back (s := (xs, 0)) (by rw [hs])
    rw [hs] at hb
    simpa using hb.symm
  · rw [if_neg hd] at h
    omega

set_option maxRecDepth 20000 in
set_option maxHeartbeats 3200000 in
theorem back_walk (k : Int) (A D A1 : Option Addr) (n c m d n1 c1 : Nat) (cs : List Cmdv) (ns : List Int) (bs : List UInt8) (w : World) (hV : IsV w w.heap.size A n D m cs ns) (hx : Has w w.heap.size A1 bs) (hn1 : bs.length = n1) (hl1 : n1 ≤ 140737488351232) :
    Calls Try.prog 10 #[.agg #[.int .i64 k, .slice A n c, .slice D m d], .slice A1 n1 c1] w fun e w' => e = .returned (.bool true) ∧ Below w.heap.size w w' := by
  have HN1 := hide hn1
  clear hn1
  have hcc := hV.cc
  have HDE : Hid (chkV k cs ns = 0 → decE (encV k cs ns) = 0 ∧ rdV (encV k cs ns, 0) = ⟨k.toNat, cs, ns, ([], 0)⟩ ∧ (k.toNat : Int) = k ∧ (encV k cs ns).length ≤ 1000) := hide (fun h => ⟨(dec_enc hcc h).1, (dec_enc hcc h).2.1, (dec_enc hcc h).2.2, encV_len (chkV_fine hcc h)⟩)
  clear hcc
  go_enter Try.func10, Try.ntmps10
  go_wp2_with fail
  have ha0 := heap_alloc_new w (.cells #[.int .i64 k, .slice A n c, .slice D m d] 48)
  have hw0 : Below w.heap.size w (w.alloc (.cells #[.int .i64 k, .slice A n c, .slice D m d] 48)) := by go_grown
  generalize w.alloc (.cells #[.int .i64 k, .slice A n c, .slice D m d] 48) = W0 at *
  have hz0 : w.heap.size < W0.heap.size := lt_of_block ha0
  have HVs : Hid (∀ W, Below W0.heap.size W0 W → IsV W w.heap.size A n D m cs ns ∧ Has W w.heap.size A1 bs ∧ w.heap.size < W.heap.size ∧ Below w.heap.size w W) := hide (fun W h => by
    have hb := hw0.trans (h.mono (by omega))
    exact ⟨hV.below hb, hx.below hb, Nat.lt_of_lt_of_le hz0 h.size, hb⟩)
  have HBx : Hid (∀ W, Below W0.heap.size W0 W → W.cell? ⟨w.heap.size, 0, none⟩ = some (.int .i64 k) ∧ W.cell? ⟨w.heap.size, 1, none⟩ = some (.slice A n c) ∧ W.cell? ⟨w.heap.size, 2, none⟩ = some (.slice D m d)) := hide (fun W h => by
    have hp := (h.block w.heap.size (by omega)).trans ha0
    exact ⟨(row_cells hp 0).1, (row_cells hp 1).1, (row_cells hp 2).1⟩)
  clear ha0 hx
  refine (head6_any _).mono ?_
  rintro e w1 ⟨rfl, b1⟩
  obtain ⟨p0, p1, p2⟩ := HBx.out _ b1
  obtain ⟨i1, i2, i3, i4⟩ := HVs.out _ b1
  go_wp2_with fail
  refine (i1.copy (by omega) k c d).mono ?_
  rintro e w2 ⟨A2, c2, D2, d2, rfl, v2, b2'⟩
  have b2 := b1.trans (b2'.mono b1.size)
  go_wp2_with fail
  refine (v2.encode (Nat.le_refl _) k c2 d2).mono ?_
  rintro e w3 ⟨x3, rfl, ho3, hb3, b3'⟩
  have b3 := b2.trans (b3'.mono b2.size)
  clear p0 p1 p2 i1 i2 i3 i4 b1 b2 b2' b3' v2
  obtain ⟨p0, p1, p2⟩ := HBx.out _ b3
  obtain ⟨i1, i2, i3, i4⟩ := HVs.out _ b3
  go_wp2_with fail
  refine (i1.copy (by omega) k c d).mono ?_
  rintro e w4 ⟨A4, c4, D4, d4, rfl, v4, b4'⟩
  have b4 := b3.trans (b4'.mono b3.size)
  go_wp2_with fail
  refine (v4.check (Nat.le_refl _) k c4 d4).mono ?_
  rintro e w5 ⟨rfl, b5'⟩
  have b5 := b4.trans (b5'.mono b4.size)
  have b35 := b4'.trans (b5'.mono b4'.size)
  have hx3 : Hid (chkV k cs ns = 0 → Own w5 w2.heap.size x3 (encV k cs ns)) := hide (fun h => (ho3.out h).below b35)
  clear p0 p1 p2 i1 i2 i3 i4 b3 b4 b4' b5' v4 ho3 hb3 b35
  by_cases h0 : chkV k cs ns = 0
  focus
    obtain ⟨f1, f2, f3, f4⟩ := HDE.out h0
    have ho5 := hx3.out h0
    rw [h0]
    clear h0 hx3
    obtain ⟨A3, n3, c3, rfl, en3, _, has3, _⟩ := ho5.form
    go_wp2_with fail
    have hdec := vdecode_any A3 n3 c3 w5.heap.size _ w5 has3 (Nat.le_refl _) en3.out (by rw [← en3.out]; omega)
    rw [f1, f2] at hdec
    unfold DecEnds at hdec
    simp only [if_true, f3] at hdec
    refine hdec.mono ?_
    rintro e w6 ⟨⟨A6, n6, c6, D6, m6, d6, rfl, v6⟩, b6'⟩
    obtain rfl : n = n6 := by rw [← v6.en, hV.en]
    obtain rfl : m = m6 := by rw [← v6.em, hV.em]
    have b6 := b5.trans (b6'.mono b5.size)
    clear hdec f1 f2 f3 f4 b5 b6' ho5 has3
    go_wp2_with fail
    have hp7 := heap_alloc_new w6 (.cells #[.int .i64 k, .slice A6 n c6, .slice D6 m d6] 48)
    have b7 := b6.alloc b6.size (.cells #[.int .i64 k, .slice A6 n c6, .slice D6 m d6] 48)
    have v7 := v6.last ((Below.refl _ _).alloc (Nat.le_refl _) (.cells #[.int .i64 k, .slice A6 n c6, .slice D6 m d6] 48))
    generalize w6.alloc (.cells #[.int .i64 k, .slice A6 n c6, .slice D6 m d6] 48) = w7 at *
    have hz7 : w6.heap.size < w7.heap.size := lt_of_block hp7
    have r7 : Below w7.heap.size w7 w7 := Below.refl _ _
    have r7d : Below w7.heap.size w7 w7.drew := (Below.refl _ w7).drew
    have HB7 : Hid (∀ W, Below w7.heap.size w7 W → Below W0.heap.size W0 W) := hide (fun W h => b7.trans (h.mono b7.size))
    have HK : Hid (∀ W, Below w7.heap.size w7 W → W.cell? ⟨w.heap.size, 0, none⟩ = some (.int .i64 k) ∧ W.cell? ⟨w.heap.size, 1, none⟩ = some (.slice A n c) ∧ W.cell? ⟨w.heap.size, 2, none⟩ = some (.slice D m d) ∧ W.cell? ⟨w6.heap.size, 0, none⟩ = some (.int .i64 k) ∧ W.cell? ⟨w6.heap.size, 1, none⟩ = some (.slice A6 n c6) ∧ W.cell? ⟨w6.heap.size, 2, none⟩ = some (.slice D6 m d6)) := hide (fun W h => by
      obtain ⟨p0, p1, p2⟩ := HBx.out _ (HB7.out _ h)
      have hq := (h.block w6.heap.size hz7).trans hp7
      exact ⟨p0, p1, p2, (row_cells hq 0).1, (row_cells hq 1).1, (row_cells hq 2).1⟩)
    have HCa : Hid (∀ W, Below w7.heap.size w7 W → Calls Try.prog 32 #[.agg #[.int .i64 k, .slice A n c, .slice D m d]] W fun e w' => ∃ A9 c9 D9 d9, e = .returned (.agg #[.int .i64 k, .slice A9 n c9, .slice D9 m d9]) ∧ IsV w' w'.heap.size A9 n D9 m cs ns ∧ IsV w' w'.heap.size A6 n D6 m cs ns ∧ Below w7.heap.size w7 w') := hide (fun W h => by
      obtain ⟨j1, j2, j3, j4⟩ := HVs.out _ (HB7.out _ h)
      refine (j1.copy (by omega) k c d).mono ?_
      rintro e w' ⟨A9, c9, D9, d9, rfl, v, b⟩
      have hb := h.trans (b.mono h.size)
      exact ⟨A9, c9, D9, d9, rfl, v, v7.last hb, hb⟩)
    have HVS : Hid (∀ W A9 c9 D9 d9, IsV W W.heap.size A9 n D9 m cs ns → IsV W W.heap.size A6 n D6 m cs ns → Calls Try.prog 43 #[.agg #[.int .i64 k, .slice A6 n c6, .slice D6 m d6], .agg #[.int .i64 k, .slice A9 n c9, .slice D9 m d9]] W fun e w' => e = .returned (.bool true) ∧ Below W.heap.size W w') := hide (fun W A9 c9 D9 d9 h h' => by
      have := h'.same h (Nat.le_refl _) k c6 d6 k c9 d9
      rw [sameV_refl] at this
      exact this)
    clear v7 v6 b6 b7 hp7
    go_region_held3 (fun W => W.cell? ⟨w.heap.size, 0, none⟩ = some (.int .i64 k) ∧ W.cell? ⟨w.heap.size, 1, none⟩ = some (.slice A n c) ∧ W.cell? ⟨w.heap.size, 2, none⟩ = some (.slice D m d) ∧ W.cell? ⟨w6.heap.size, 0, none⟩ = some (.int .i64 k) ∧ W.cell? ⟨w6.heap.size, 1, none⟩ = some (.slice A6 n c6) ∧ W.cell? ⟨w6.heap.size, 2, none⟩ = some (.slice D6 m d6)) (first | exact HK.out _ r7 | exact HK.out _ r7d | exact HK.out _ b8 | exact HK.out _ b9' | go_keep) (first
      | ((go_at_call 32; (with_reducible refine (HCa.out _ ?_).mono ?_)); exact r7d; rintro e w8 ⟨A8, c8, D8, d8, rfl, v8, v6, b8⟩)
      | ((go_at_call 43; (with_reducible refine (HVS.out _ A8 c8 D8 d8 v8 v6).mono ?_)); rintro e w9 ⟨rfl, b9'⟩; have b9' := b8.trans (b9'.mono b8.size)))
    have b9 := HB7.out _ b9'
    clear b9' b8 v8 v6 HVS HCa HK HB7 r7 r7d hz7
    obtain ⟨i1, i2, i3, i4⟩ := HVs.out _ b9
    go_wp2_with fail
  rotate_left
  focus
    obtain ⟨w9, hw9⟩ : ∃ W, W = w5 := ⟨w5, rfl⟩
    subst hw9
    have t0 : (chkV k cs ns == 0) = false := by rw [beq_eq_false_iff_ne]; exact h0
    have b9 := b5
    clear b5 h0 hx3
    obtain ⟨i1, i2, i3, i4⟩ := HVs.out _ b9
    go_wp2_with fail
  all_goals
    refine (copy_any A1 n1 c1 bs w9 (i2.more (by omega)) HN1.out (by omega)).mono ?_
    rintro e w10 ⟨rfl, hw10⟩
    have hx10 := Has.new w9 5 bs (0, 0) _ rfl
    have b10' : Below w9.heap.size w9 (w9.alloc (.cells (bcells bs) 5)) := (Below.refl _ _).alloc (Nat.le_refl _) _
    have hs10 : w9.heap.size + 1 ≤ (w9.alloc (.cells (bcells bs) 5)).heap.size := by simp
    rw [hw10] at hx10 b10' hs10
    have b10 := b9.trans (b10'.mono b9.size)
    clear hw10 b10' i1 i2 i3 i4
    go_wp2_with fail
    refine (vdecode_any (some ⟨w9.heap.size, 0, none⟩) n1 n1 (w9.heap.size + 1) bs w10 hx10 hs10 HN1.out (by omega)).mono ?_
    rintro e w11 ⟨⟨A11, n11, c11, D11, m11, d11, rfl, v11⟩, b11'⟩
    have b11 := b10.trans (b11'.mono b10.size)
    clear b11' b10 hx10 hs10
    by_cases hd : decE bs = 0
    · have HD := hide (dec_back hd)
      rw [if_pos hd, if_pos hd] at v11
      rw [if_pos hd, hd]
      clear hd
      generalize ((rdV (bs, 0)).k : Int) = kx at *
      generalize (rdV (bs, 0)).cs = csx at *
      generalize (rdV (bs, 0)).ns = nsx at *
      have hp12 := heap_alloc_new w11 (.cells #[.int .i64 kx, .slice A11 n11 c11, .slice D11 m11 d11] 48)
      have b12 := b11.alloc b11.size (.cells #[.int .i64 kx, .slice A11 n11 c11, .slice D11 m11 d11] 48)
      have v12 := v11.last ((Below.refl _ _).alloc (Nat.le_refl _) (.cells #[.int .i64 kx, .slice A11 n11 c11, .slice D11 m11 d11] 48))
      go_wp2_with fail
      generalize w11.alloc (.cells #[.int .i64 kx, .slice A11 n11 c11, .slice D11 m11 d11] 48) = w12 at *
      refine (v12.encode (Nat.le_refl _) kx c11 d11).mono ?_
      rintro e w13 ⟨x13, rfl, ho13, _, b13'⟩
      have b13 := b12.trans (b13'.mono b12.size)
      have ho := ho13.out HD.out.1
      rw [HD.out.2] at ho
      rw [HD.out.1]
      obtain ⟨A13, n13, c13, rfl, en13, _, has13, _⟩ := ho.form
      obtain rfl : n1 = n13 := by rw [← en13.out, HN1.out]
      obtain ⟨i1, i2, i3, i4⟩ := HVs.out _ b13
      clear ho ho13 b12 b13' b11 v11 v12 hp12 i1 i3
      go_wp2_with fail
      refine (same_any A13 A1 n1 n1 c13 c1 _ _ bs bs w13 has13 i2 HN1.out HN1.out (by omega)).mono ?_
      rintro e w14 ⟨rfl, j14, rfl⟩
      rw [decide_eq_true rfl]
      go_wp2
      go_ret
      exact ⟨rfl, below_drewN i4 _⟩
    · have t1 : (decE bs != 0) = true := by rw [bne_iff_ne]; exact hd
      rw [if_neg hd, if_neg hd] at v11
      rw [if_neg hd]
      clear hd
      generalize decE bs = de at *
      have hp12 := heap_alloc_new w11 (.cells #[.int .i64 0, .slice A11 n11 c11, .slice D11 m11 d11] 48)
      have b12 := b11.alloc b11.size (.cells #[.int .i64 0, .slice A11 n11 c11, .slice D11 m11 d11] 48)
      have v12 := v11.last ((Below.refl _ _).alloc (Nat.le_refl _) (.cells #[.int .i64 0, .slice A11 n11 c11, .slice D11 m11 d11] 48))
      go_wp2_with fail
      generalize w11.alloc (.cells #[.int .i64 0, .slice A11 n11 c11, .slice D11 m11 d11] 48) = w12 at *
      have hsm := v12.rsame (n' := 0) (m' := 0) (A' := none) (D' := none) (cs' := []) (ns' := []) ⟨HasC.nil _ _ _, HasI.nil _ _ _, rfl, rfl, by omega, by omega, by simp⟩ (Nat.le_refl _) 0 c11 d11 0 0 0
      rw [sameV_refl] at hsm
      refine hsm.mono ?_
      rintro e w13 ⟨rfl, b13'⟩
      have b13 := b12.trans (b13'.mono b12.size)
      clear hsm b12 b13' b11 v11 v12 hp12
      go_wp2
      go_ret
      exact ⟨rfl, (HVs.out _ b13).2.2.2⟩
end Go.Proofs.Ytapbcpilklhoiaa
