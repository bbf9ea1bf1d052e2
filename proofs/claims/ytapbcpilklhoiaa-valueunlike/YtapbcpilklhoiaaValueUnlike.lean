/-
  The walk of ValueUnlike. No condition but the reach of what is read.
-/
import Derived.Test.YtapbcpilklhoiaaValBase
set_option linter.unusedSimpArgs false
set_option linter.unusedVariables false
namespace Go.Proofs.Ytapbcpilklhoiaa
open Go.RowKit

theorem unlike_eq {k k' : Int} {cs cs' : List Cmdv} {ns ns' : List Int} (h : FineV k cs ns) (h' : FineV k' cs' ns') : decide (encV k cs ns = encV k' cs' ns') = sameV k cs ns k' cs' ns' := by
  by_cases hs : sameV k cs ns k' cs' ns' = true
  · rw [hs]
    obtain ⟨rfl, rfl, rfl⟩ := sameV_iff.1 hs
    exact decide_eq_true rfl
  · rw [Bool.eq_false_iff.2 hs]
    refine decide_eq_false fun he => hs (sameV_iff.2 (encV_unlike h h' (r := []) ?_))
    rw [List.append_nil]
    exact he
theorem unlike_front {k k' : Int} {cs cs' : List Cmdv} {ns ns' : List Int} (h : FineV k cs ns) (h' : FineV k' cs' ns') (hs : sameV k cs ns k' cs' ns' = false) (n : Nat) : decide (encV k cs ns = (encV k' cs' ns').take n) = false := by
  refine decide_eq_false fun he => ?_
  have := encV_unlike h h' (r := (encV k' cs' ns').drop n) (by rw [he, List.take_append_drop])
  rw [sameV_iff.2 this] at hs
  cases hs
theorem sameV_comm (k k' : Int) (cs cs' : List Cmdv) (ns ns' : List Int) : sameV k cs ns k' cs' ns' = sameV k' cs' ns' k cs ns := by
  rw [Bool.eq_iff_iff, sameV_iff, sameV_iff]
  constructor <;> (rintro ⟨rfl, rfl, rfl⟩; exact ⟨rfl, rfl, rfl⟩)

set_option maxRecDepth 20000 in
set_option maxHeartbeats 3200000 in
theorem unlike_walk (k k' : Int) (A A' D D' : Option Addr) (n n' c c' m m' d d' : Nat) (cs cs' : List Cmdv) (ns ns' : List Int) (w : World) (hV : IsV w w.heap.size A n D m cs ns) (hV' : IsV w w.heap.size A' n' D' m' cs' ns') :
    Calls Try.prog 13 #[.agg #[.int .i64 k, .slice A n c, .slice D m d], .agg #[.int .i64 k', .slice A' n' c', .slice D' m' d']] w fun e w' => e = .returned (.bool true) ∧ Below w.heap.size w w' := by
  go_enter Try.func13, Try.ntmps13
  go_wp2_with fail
  have ha0 : ((w.alloc (.cells #[.int .i64 k, .slice A n c, .slice D m d] 48)).alloc (.cells #[.int .i64 k', .slice A' n' c', .slice D' m' d'] 48)).heap[w.heap.size]? = some (.cells #[.int .i64 k, .slice A n c, .slice D m d] 48 (0, 0)) :=
    (Below.heap_alloc _ _ _ (by simp)).trans (heap_alloc_new w _)
  have hb0 : ((w.alloc (.cells #[.int .i64 k, .slice A n c, .slice D m d] 48)).alloc (.cells #[.int .i64 k', .slice A' n' c', .slice D' m' d'] 48)).heap[w.heap.size + 1]? = some (.cells #[.int .i64 k', .slice A' n' c', .slice D' m' d'] 48 (0, 0)) := by
    have := heap_alloc_new (w.alloc (.cells #[.int .i64 k, .slice A n c, .slice D m d] 48)) (.cells #[.int .i64 k', .slice A' n' c', .slice D' m' d'] 48)
    simpa using this
  have hw0 : Below w.heap.size w ((w.alloc (.cells #[.int .i64 k, .slice A n c, .slice D m d] 48)).alloc (.cells #[.int .i64 k', .slice A' n' c', .slice D' m' d'] 48)) := by go_grown
  generalize (w.alloc (.cells #[.int .i64 k, .slice A n c, .slice D m d] 48)).alloc (.cells #[.int .i64 k', .slice A' n' c', .slice D' m' d'] 48) = W0 at *
  have hz0 : w.heap.size + 1 < W0.heap.size := lt_of_block hb0
  have HVs : Hid (∀ W, Below W0.heap.size W0 W → IsV W w.heap.size A n D m cs ns ∧ IsV W w.heap.size A' n' D' m' cs' ns' ∧ w.heap.size + 1 < W.heap.size ∧ Below w.heap.size w W) := hide (fun W h => by
    have hb := hw0.trans (h.mono (by omega))
    exact ⟨hV.below hb, hV'.below hb, Nat.lt_of_lt_of_le hz0 h.size, hb⟩)
  have HBx : Hid (∀ W, Below W0.heap.size W0 W → W.cell? ⟨w.heap.size, 0, none⟩ = some (.int .i64 k) ∧ W.cell? ⟨w.heap.size, 1, none⟩ = some (.slice A n c) ∧ W.cell? ⟨w.heap.size, 2, none⟩ = some (.slice D m d) ∧ W.cell? ⟨w.heap.size + 1, 0, none⟩ = some (.int .i64 k') ∧ W.cell? ⟨w.heap.size + 1, 1, none⟩ = some (.slice A' n' c') ∧ W.cell? ⟨w.heap.size + 1, 2, none⟩ = some (.slice D' m' d')) := hide (fun W h => by
    have hp := (h.block w.heap.size (by omega)).trans ha0
    have hq := (h.block (w.heap.size + 1) hz0).trans hb0
    exact ⟨(row_cells hp 0).1, (row_cells hp 1).1, (row_cells hp 2).1, (row_cells hq 0).1, (row_cells hq 1).1, (row_cells hq 2).1⟩)
  clear ha0 hb0
  have HF : Hid (∀ {k : Int} {cs : List Cmdv} {ns : List Int}, chkV k cs ns = 0 → (∀ x ∈ cs, IsCmd x) → FineV k cs ns) := hide (fun h hc => chkV_fine hc h)
  have HC1 := hide hV.cc
  have HC2 := hide hV'.cc
  refine (head6_any _).mono ?_
  rintro e w1 ⟨rfl, b1⟩
  obtain ⟨p0, p1, p2, q0, q1, q2⟩ := HBx.out _ b1
  obtain ⟨i1, i2, i3, i4⟩ := HVs.out _ b1
  go_wp2_with fail
  refine (i1.copy (by omega) k c d).mono ?_
  rintro e w2 ⟨A2, c2, D2, d2, rfl, v2, b2'⟩
  have b2 := b1.trans (b2'.mono b1.size)
  go_wp2_with fail
  refine (v2.encode (Nat.le_refl _) k c2 d2).mono ?_
  rintro e w3 ⟨x3, rfl, ho3, _, b3'⟩
  have b3 := b2.trans (b3'.mono b2.size)
  clear p0 p1 p2 q0 q1 q2 i1 i2 i3 i4 b1 b2 b2' b3' v2
  obtain ⟨p0, p1, p2, q0, q1, q2⟩ := HBx.out _ b3
  obtain ⟨i1, i2, i3, i4⟩ := HVs.out _ b3
  go_wp2_with fail
  refine (i2.copy (by omega) k' c' d').mono ?_
  rintro e w4 ⟨A4, c4, D4, d4, rfl, v4, b4'⟩
  have b4 := b3.trans (b4'.mono b3.size)
  go_wp2_with fail
  refine (v4.encode (Nat.le_refl _) k' c4 d4).mono ?_
  rintro e w5 ⟨x5, rfl, ho5, _, b5'⟩
  have b5 := b4.trans (b5'.mono b4.size)
  have b35 := b4'.trans (b5'.mono b4'.size)
  clear p0 p1 p2 q0 q1 q2 i1 i2 i3 i4 b3 b4 b4' b5' v4
  by_cases hA : chkV k cs ns = 0
  · by_cases hB : chkV k' cs' ns' = 0
    · have hx3 := (ho3.out hA).below b35
      have hx5 := ho5.out hB
      have hfa := HF.out hA HC1.out
      have hfb := HF.out hB HC2.out
      rw [hA, hB]
      clear hA hB ho3 ho5 b35
      obtain ⟨A3, n3, c3, rfl, en3, _, has3, _⟩ := hx3.form
      obtain ⟨A5, n5, c5, rfl, en5, hnc5, has5, _⟩ := hx5.form
      have l3 := encV_len hfa
      have l5 := encV_len hfb
      rw [en3.out] at l3
      rw [en5.out] at l5
      obtain ⟨sv, hsv⟩ : ∃ sv, sameV k cs ns k' cs' ns' = sv := ⟨_, rfl⟩
      have HSV := hide hsv
      have HEQ : Hid (decide (encV k cs ns = encV k' cs' ns') = sv) := hide ((unlike_eq hfa hfb).trans hsv)
      have HFR : Hid (∀ j, sv = false → decide (encV k cs ns = (encV k' cs' ns').take j) = false) := hide (fun j h => unlike_front hfa hfb (hsv.trans h) j)
      have HFR' : Hid (∀ j, sv = false → decide (encV k' cs' ns' = (encV k cs ns).take j) = false) := hide (fun j h => unlike_front hfb hfa ((sameV_comm _ _ _ _ _ _).trans (hsv.trans h)) j)
      clear hsv hx3 hx5 hfa hfb
      go_wp2_with fail
      have r5d : Below w5.heap.size w5 w5.drew := (Below.refl _ w5).drew
      have r5 : Below w5.heap.size w5 w5 := Below.refl _ w5
      have HB5 : Hid (∀ W, Below w5.heap.size w5 W → Below W0.heap.size W0 W) := hide (fun W h => b5.trans (h.mono b5.size))
      have HK : Hid (∀ W, Below w5.heap.size w5 W → W.cell? ⟨w.heap.size, 0, none⟩ = some (.int .i64 k) ∧ W.cell? ⟨w.heap.size, 1, none⟩ = some (.slice A n c) ∧ W.cell? ⟨w.heap.size, 2, none⟩ = some (.slice D m d) ∧ W.cell? ⟨w.heap.size + 1, 0, none⟩ = some (.int .i64 k') ∧ W.cell? ⟨w.heap.size + 1, 1, none⟩ = some (.slice A' n' c') ∧ W.cell? ⟨w.heap.size + 1, 2, none⟩ = some (.slice D' m' d')) := hide (fun W h => HBx.out _ (HB5.out _ h))
      have HCa : Hid (∀ W, Below w5.heap.size w5 W → Calls Try.prog 32 #[.agg #[.int .i64 k, .slice A n c, .slice D m d]] W fun e w' => ∃ A9 c9 D9 d9, e = .returned (.agg #[.int .i64 k, .slice A9 n c9, .slice D9 m d9]) ∧ IsV w' w'.heap.size A9 n D9 m cs ns ∧ Below w5.heap.size w5 w') := hide (fun W h => by
        obtain ⟨j1, j2, j3, j4⟩ := HVs.out _ (HB5.out _ h)
        refine (j1.copy (by omega) k c d).mono ?_
        rintro e w' ⟨A9, c9, D9, d9, rfl, v, b⟩
        exact ⟨A9, c9, D9, d9, rfl, v, h.trans (b.mono h.size)⟩)
      have HCb : Hid (∀ W, Below w5.heap.size w5 W → Calls Try.prog 32 #[.agg #[.int .i64 k', .slice A' n' c', .slice D' m' d']] W fun e w' => ∃ A9 c9 D9 d9, e = .returned (.agg #[.int .i64 k', .slice A9 n' c9, .slice D9 m' d9]) ∧ IsV w' w'.heap.size A9 n' D9 m' cs' ns' ∧ Below W.heap.size W w' ∧ Below w5.heap.size w5 w') := hide (fun W h => by
        obtain ⟨j1, j2, j3, j4⟩ := HVs.out _ (HB5.out _ h)
        refine (j2.copy (by omega) k' c' d').mono ?_
        rintro e w' ⟨A9, c9, D9, d9, rfl, v, b⟩
        exact ⟨A9, c9, D9, d9, rfl, v, b, h.trans (b.mono h.size)⟩)
      have HVS : Hid (∀ W A9 c9 D9 d9 A8 c8 D8 d8, IsV W W.heap.size A9 n D9 m cs ns → IsV W W.heap.size A8 n' D8 m' cs' ns' → Calls Try.prog 43 #[.agg #[.int .i64 k, .slice A9 n c9, .slice D9 m d9], .agg #[.int .i64 k', .slice A8 n' c8, .slice D8 m' d8]] W fun e w' => e = .returned (.bool sv) ∧ Below W.heap.size W w') := hide (fun W A9 c9 D9 d9 A8 c8 D8 d8 h h' => by
        have := h.same h' (Nat.le_refl _) k c9 d9 k' c8 d8
        rw [HSV.out] at this
        exact this)
      go_region_held3 (fun W => W.cell? ⟨w.heap.size, 0, none⟩ = some (.int .i64 k) ∧ W.cell? ⟨w.heap.size, 1, none⟩ = some (.slice A n c) ∧ W.cell? ⟨w.heap.size, 2, none⟩ = some (.slice D m d) ∧ W.cell? ⟨w.heap.size + 1, 0, none⟩ = some (.int .i64 k') ∧ W.cell? ⟨w.heap.size + 1, 1, none⟩ = some (.slice A' n' c') ∧ W.cell? ⟨w.heap.size + 1, 2, none⟩ = some (.slice D' m' d')) (first | exact HK.out _ r5 | exact HK.out _ r5d | exact HK.out _ b9 | exact HK.out _ b10 | exact HK.out _ b11 | go_keep) (first
        | ((go_at_call 32; (with_reducible refine (HCa.out _ ?_).mono ?_)); exact r5d; rintro e w9 ⟨A9, c9, D9, d9, rfl, v9, b9⟩)
        | ((go_at_call 32; (with_reducible refine (HCb.out _ ?_).mono ?_)); exact b9; rintro e w10 ⟨A8, c8, D8, d8, rfl, v8, b10', b10⟩; have v9' := v9.last b10')
        | ((go_at_call 43; (with_reducible refine (HVS.out _ A9 c9 D9 d9 A8 c8 D8 d8 v9' v8).mono ?_)); rintro e w11 ⟨rfl, b11'⟩; have b11 := b10.trans (b11'.mono b10.size)))
      have hs3 := has3.below b11
      have hs5 := has5.below b11
      have HEnd : Hid (∀ j, Below w.heap.size w (w11.drewN j)) := hide (fun j => below_drewN (HVs.out _ (HB5.out _ b11)).2.2.2 j)
      clear v9 v9' v8 b9 b10 b10' b11' b11 has3 has5 r5 r5d
      go_wp2_with fail
      refine (same_any A3 A5 n3 n5 c3 c5 _ _ _ _ w11 hs3 hs5 en3.out en5.out (by omega)).mono ?_
      rintro e w12 ⟨rfl, j12, rfl⟩
      rw [HEQ.out]
      cases sv with
      | true =>
        by_cases hgt : n5 < n3
        · go_wp2
          go_ret
          exact ⟨rfl, HEnd.out _⟩
        · go_wp2
          go_ret
          exact ⟨rfl, HEnd.out _⟩
      | false =>
        by_cases hgt : n5 < n3
        · go_wp2_with fail
          refine (same_any A5 A3 n5 n5 c5 c3 _ _ _ _ _ (hs5.drewN j12) ((hs3.drewN j12).take n5) en5.out (by rw [List.length_take, en3.out]; omega) (by omega)).mono ?_
          rintro e w13 ⟨rfl, j13, rfl⟩
          rw [HFR'.out n5 trivial]
          go_wp2
          go_ret
          exact ⟨rfl, HEnd.out _⟩
        · go_wp2_with fail
          refine (same_any A3 A5 n3 n3 c3 c5 _ _ _ _ _ (hs3.drewN j12) ((hs5.drewN j12).take n3) en3.out (by rw [List.length_take, en5.out]; omega) (by omega)).mono ?_
          rintro e w13 ⟨rfl, j13, rfl⟩
          rw [HFR.out n3 trivial]
          go_wp2
          go_ret
          exact ⟨rfl, HEnd.out _⟩
    · have t1 : (chkV k' cs' ns' != 0) = true := by rw [bne_iff_ne]; exact hB
      rw [hA]
      clear hA hB ho3 ho5
      go_wp2
      go_ret
      exact ⟨rfl, (HVs.out _ b5).2.2.2⟩
  · have t1 : (chkV k cs ns != 0) = true := by rw [bne_iff_ne]; exact hA
    clear hA ho3 ho5
    go_wp2
    go_ret
    exact ⟨rfl, (HVs.out _ b5).2.2.2⟩
end Go.Proofs.Ytapbcpilklhoiaa
