/-
  The reference's Grant of package lease. No condition but that times are numbers within 2^61.
-/
import Derived.Test.YtgdncmkhcdmjoaaLeaseF
set_option linter.unusedSimpArgs false
set_option linter.unusedVariables false
namespace Go.Proofs.Ytgdncmkhcdmjoaa
open Go.RowKit
theorem rat_len (q : Gr) (now : Int) : (q.rat now).len = q.len := by
  unfold Gr.rat
  split
  · split <;> rfl
  · rfl
set_option maxHeartbeats 1600000 in
set_option maxRecDepth 20000 in
theorem rgrant_any (len r n since a b now : Int) (st : Bool) (w : World) (hl : 0 ≤ len ∧ len ≤ 1048576) (hs : -2305843009213693952 ≤ since ∧ since ≤ 2305843009213693952) (hn : -2305843009213693952 ≤ now ∧ now ≤ 2305843009213693952) :
    Calls Try.prog 26 #[.agg #[.int .i64 len, .int .i64 since, .int .i64 r, .int .i64 n, .bool st], .agg #[.int .i64 a, .int .i64 b], .int .i64 now] w fun e w' => e = .returned (.tuple #[.agg ((⟨len, st, r, n, since⟩ : Gr).rgrant a b now).1.rc, .bool ((⟨len, st, r, n, since⟩ : Gr).rgrant a b now).2]) ∧ Below w.heap.size w w' := by
  obtain ⟨w0, hw0, hz0, hp0, hx0, hq0, hb0⟩ : ∃ w0, ((w.alloc (.cells #[.int .i64 len, .int .i64 since, .int .i64 r, .int .i64 n, .bool st] 48)).alloc (.cells #[.int .i64 a, .int .i64 b] 46)).alloc (.cells #[.int .i64 0, .int .i64 0, .int .i64 0, .int .i64 0, .bool false] 48) = w0 ∧ w0.heap.size = w.heap.size + 3 ∧ w0.heap[w.heap.size]? = some (.cells #[.int .i64 len, .int .i64 since, .int .i64 r, .int .i64 n, .bool st] 48 (0, 0)) ∧ w0.heap[w.heap.size + 1]? = some (.cells #[.int .i64 a, .int .i64 b] 46 (0, 0)) ∧ w0.heap[w.heap.size + 2]? = some (.cells #[.int .i64 0, .int .i64 0, .int .i64 0, .int .i64 0, .bool false] 48 (0, 0)) ∧ Below w.heap.size w w0 := by
    have h1 := heap_alloc_new w (.cells #[.int .i64 len, .int .i64 since, .int .i64 r, .int .i64 n, .bool st] 48)
    have z1 : (w.alloc (.cells #[.int .i64 len, .int .i64 since, .int .i64 r, .int .i64 n, .bool st] 48)).heap.size = w.heap.size + 1 := by simp
    have b1 : Below w.heap.size w (w.alloc (.cells #[.int .i64 len, .int .i64 since, .int .i64 r, .int .i64 n, .bool st] 48)) := (Below.refl _ _).alloc (Nat.le_refl _) _
    generalize w.alloc (.cells #[.int .i64 len, .int .i64 since, .int .i64 r, .int .i64 n, .bool st] 48) = wa at *
    have h2 := heap_alloc_new wa (.cells #[.int .i64 a, .int .i64 b] 46)
    have b2 : Below wa.heap.size wa (wa.alloc (.cells #[.int .i64 a, .int .i64 b] 46)) := (Below.refl _ _).alloc (Nat.le_refl _) _
    have z2 : (wa.alloc (.cells #[.int .i64 a, .int .i64 b] 46)).heap.size = wa.heap.size + 1 := by simp
    generalize wa.alloc (.cells #[.int .i64 a, .int .i64 b] 46) = wb at *
    have h3 := heap_alloc_new wb (.cells #[.int .i64 0, .int .i64 0, .int .i64 0, .int .i64 0, .bool false] 48)
    have b3 : Below wb.heap.size wb (wb.alloc (.cells #[.int .i64 0, .int .i64 0, .int .i64 0, .int .i64 0, .bool false] 48)) := (Below.refl _ _).alloc (Nat.le_refl _) _
    refine ⟨_, rfl, by simp; omega, ((b3.block _ (by omega)).trans ((b2.block _ (by omega)).trans h1)), ((b3.block _ (by omega)).trans (by rw [← z1]; exact h2)), by rw [show w.heap.size + 2 = wb.heap.size by omega]; exact h3, b1.trans ((b2.trans (b3.mono (by omega))).mono (by omega))⟩
  have hat := grat_any len r n since now st w0 hl hs hn
  obtain ⟨q1, hq1⟩ : ∃ q1, (⟨len, st, r, n, since⟩ : Gr).rat now = q1 := ⟨_, rfl⟩
  have hlen : q1.len = len := by rw [← hq1]; exact rat_len _ _
  unfold RAtEnds at hat
  rw [hq1] at hat
  have HRG : Hid ((⟨len, st, r, n, since⟩ : Gr).rgrant a b now = if len = 0 ∨ valB a b = false ∨ (q1.st && !sameBal q1.r q1.n a b) = true then (q1, false) else (⟨len, true, a, b, now⟩, true)) := hide (by unfold Gr.rgrant; rw [hq1])
  have HP0 := hide hp0
  have HX0 := hide hx0
  have HZ0 := hide hq0
  have HB0 := hide hb0
  have HS0 := hide hz0
  clear hp0 hx0 hq0 hb0 hz0 hq1 hl hs hn
  go_enter Try.func26, Try.ntmps26
  go_wp2_with (first | (refine wpList_load_row rfl 48 _ rfl w.heap.size rfl _ _ _ _ HP0.out Try.underlying48 rfl (by kernel_rfl) ?_) | fail)
  refine hat.mono ?_
  rintro e w1 ⟨rfl, hb1⟩
  have hp1 := (hb1.block _ (lt_of_block HP0.out)).trans HP0.out
  have hk2 := Kept.of_setRow w1 w.heap.size q1.rc
  have hp2 := set_row_at (B := q1.rc) hp1
  have hx1 := (hb1.block _ (lt_of_block HX0.out)).trans HX0.out
  have hz1 := (hb1.block _ (lt_of_block HZ0.out)).trans HZ0.out
  have HX2 := hide ((hk2.block _ (lt_of_block hx1) (by omega)).trans hx1)
  have HZ2 := hide ((hk2.block _ (lt_of_block hz1) (by omega)).trans hz1)
  have hb01 := HB0.out.trans (hb1.mono HB0.out.size)
  have HB2 := hide (hb01.trans (hk2.below hb01.size (fun j hj => by omega)))
  have HP1 := hide hp1
  have HP2 := hide hp2
  clear hp1 hk2 hp2 hx1 hz1 hb01 hb1 hat
  go_upto_region 2 with (refine wpList_store_row rfl 48 _ _ rfl w.heap.size q1.rc rfl rfl _ _ HP1.out q1.rc_size rfl q1.rc_one ?_; generalize w1.setRow w.heap.size q1.rc = w2 at *)
  have y0 : w2.cell? ⟨w.heap.size, 0, none⟩ = some (.int .i64 len) := by rw [← hlen]; exact (row_cells HP2.out 0).1
  have y2 : w2.cell? ⟨w.heap.size, 2, none⟩ = some (.int .i64 q1.r) := (row_cells HP2.out 2).1
  have y3 : w2.cell? ⟨w.heap.size, 3, none⟩ = some (.int .i64 q1.n) := (row_cells HP2.out 3).1
  have y4 : w2.cell? ⟨w.heap.size, 4, none⟩ = some (.bool q1.st) := (row_cells HP2.out 4).1
  obtain ⟨x0, _⟩ := row_cells HX2.out 0
  obtain ⟨x1, _⟩ := row_cells HX2.out 1
  simp only [List.getElem?_toArray, List.getElem?_cons_succ, List.getElem?_cons_zero] at x0 x1
  cases e0 : (len == 0)
  rotate_left
  · have HE : Hid ((⟨len, st, r, n, since⟩ : Gr).rgrant a b now = (q1, false)) := hide (by rw [HRG.out]; exact if_pos (.inl (eq_of_beq e0)))
    have HP := HP2
    have HZ := HZ2
    have HB := HB2
    clear hlen
    go_upto_region 3 with fail
    have hk9 := Kept.of_setRow w2 (w.heap.size + 2) q1.rc
    have hr9 := set_row_at (B := q1.rc) HZ.out
    go_wp2_with (first | (refine wpList_load_row rfl 48 _ rfl w.heap.size rfl _ _ _ _ HP.out Try.underlying48 rfl q1.rc_size ?_) | (refine wpList_store_row rfl 48 _ _ rfl (w.heap.size + 2) q1.rc rfl rfl _ _ HZ.out q1.rc_size rfl q1.rc_one ?_; generalize w2.setRow (w.heap.size + 2) q1.rc = w9 at *))
    refine bodyPost_ret (v := .tuple #[.agg q1.rc, .bool false]) (ggr_cell rfl rfl hr9 rfl) rfl ?_
    exact ⟨by rw [HE.out], HB.out.trans (hk9.below HB.out.size (fun j hj => by omega))⟩
  · have hne : ¬ len = 0 := fun e => by rw [e] at e0; cases e0
    have hva := rbvalid_any a b w2
    obtain ⟨vb, hvb⟩ : ∃ vb, valB a b = vb := ⟨_, rfl⟩
    rw [hvb] at hva HRG
    have HNE := hide hne
    clear hvb hne
    cases vb
    · have HE : Hid ((⟨len, st, r, n, since⟩ : Gr).rgrant a b now = (q1, false)) := hide (by rw [HRG.out]; exact if_pos (.inr (.inl rfl)))
      go_wp2_with fail
      refine hva.mono ?_
      rintro e w3 ⟨rfl, hb3⟩
      have HP := hide ((hb3.block _ (lt_of_block HP2.out)).trans HP2.out)
      have HZ := hide ((hb3.block _ (lt_of_block HZ2.out)).trans HZ2.out)
      have HB := hide (HB2.out.trans (hb3.mono HB2.out.size))
      clear hb3 y0 y2 y3 y4 x0 x1 hlen
      go_upto_region 3 with fail
      have hk9 := Kept.of_setRow w3 (w.heap.size + 2) q1.rc
      have hr9 := set_row_at (B := q1.rc) HZ.out
      go_wp2_with (first | (refine wpList_load_row rfl 48 _ rfl w.heap.size rfl _ _ _ _ HP.out Try.underlying48 rfl q1.rc_size ?_) | (refine wpList_store_row rfl 48 _ _ rfl (w.heap.size + 2) q1.rc rfl rfl _ _ HZ.out q1.rc_size rfl q1.rc_one ?_; generalize w3.setRow (w.heap.size + 2) q1.rc = w9 at *))
      refine bodyPost_ret (v := .tuple #[.agg q1.rc, .bool false]) (ggr_cell rfl rfl hr9 rfl) rfl ?_
      exact ⟨by rw [HE.out], HB.out.trans (hk9.below HB.out.size (fun j hj => by omega))⟩
    · obtain ⟨eb, he⟩ : ∃ eb, sameBal q1.r q1.n a b = eb := ⟨_, rfl⟩
      have k1 := fun W => equal_bal 9998 q1.r q1.n a b W
      rw [show decide ([q1.r, q1.n] = [a, b]) = eb from he] at k1
      rw [he] at HRG
      clear he
      go_wp2_with fail
      refine hva.mono ?_
      rintro e w3 ⟨rfl, hb3⟩
      have hp3 := (hb3.block _ (lt_of_block HP2.out)).trans HP2.out
      have HP := hide hp3
      have hx3 := (hb3.block _ (lt_of_block HX2.out)).trans HX2.out
      have HZ := hide ((hb3.block _ (lt_of_block HZ2.out)).trans HZ2.out)
      have HB := hide (HB2.out.trans (hb3.mono HB2.out.size))
      clear hb3 y0 y2 y3 y4 x0 x1
      have y0 : w3.cell? ⟨w.heap.size, 0, none⟩ = some (.int .i64 len) := by rw [← hlen]; exact (row_cells hp3 0).1
      have y2 : w3.cell? ⟨w.heap.size, 2, none⟩ = some (.int .i64 q1.r) := (row_cells hp3 2).1
      have y3 : w3.cell? ⟨w.heap.size, 3, none⟩ = some (.int .i64 q1.n) := (row_cells hp3 3).1
      have y4 : w3.cell? ⟨w.heap.size, 4, none⟩ = some (.bool q1.st) := (row_cells hp3 4).1
      obtain ⟨x0, _⟩ := row_cells hx3 0
      obtain ⟨x1, _⟩ := row_cells hx3 1
      simp only [List.getElem?_toArray, List.getElem?_cons_succ, List.getElem?_cons_zero] at x0 x1
      clear hp3 hx3 hlen
      obtain ⟨sb, hsb⟩ : ∃ sb, q1.st = sb := ⟨_, rfl⟩
      rw [hsb] at y4 HRG
      clear hsb
      cases sb
      · have HE : Hid ((⟨len, st, r, n, since⟩ : Gr).rgrant a b now = (⟨len, true, a, b, now⟩, true)) := hide (by rw [HRG.out]; exact if_neg (by have := HNE.out; simp; omega))
        go_upto_region 4 with fail
        have hk9 := Kept.of_setRow w3 (w.heap.size + 2) #[.int .i64 len, .int .i64 now, .int .i64 a, .int .i64 b, .bool true]
        have hr9 := set_row_at (B := #[.int .i64 len, .int .i64 now, .int .i64 a, .int .i64 b, .bool true]) HZ.out
        go_wp2_with (refine wpList_store_row rfl 48 _ _ rfl (w.heap.size + 2) #[.int .i64 len, .int .i64 now, .int .i64 a, .int .i64 b, .bool true] rfl rfl _ _ HZ.out (by kernel_rfl) rfl (by simp [Value.oneCell']) ?_; generalize w3.setRow (w.heap.size + 2) #[.int .i64 len, .int .i64 now, .int .i64 a, .int .i64 b, .bool true] = w9 at *)
        refine bodyPost_ret (v := .tuple #[.agg #[.int .i64 len, .int .i64 now, .int .i64 a, .int .i64 b, .bool true], .bool true]) (ggr_cell rfl rfl hr9 rfl) rfl ?_
        exact ⟨by rw [HE.out]; rfl, HB.out.trans (hk9.below HB.out.size (fun j hj => by omega))⟩
      · cases eb
        · have HE : Hid ((⟨len, st, r, n, since⟩ : Gr).rgrant a b now = (q1, false)) := hide (by rw [HRG.out]; exact if_pos (.inr (.inr rfl)))
          go_upto_region 3 with fail
          have hk9 := Kept.of_setRow w3 (w.heap.size + 2) q1.rc
          have hr9 := set_row_at (B := q1.rc) HZ.out
          go_wp2_with (first | (refine wpList_load_row rfl 48 _ rfl w.heap.size rfl _ _ _ _ HP.out Try.underlying48 rfl q1.rc_size ?_) | (refine wpList_store_row rfl 48 _ _ rfl (w.heap.size + 2) q1.rc rfl rfl _ _ HZ.out q1.rc_size rfl q1.rc_one ?_; generalize w3.setRow (w.heap.size + 2) q1.rc = w9 at *))
          refine bodyPost_ret (v := .tuple #[.agg q1.rc, .bool false]) (ggr_cell rfl rfl hr9 rfl) rfl ?_
          exact ⟨by rw [HE.out], HB.out.trans (hk9.below HB.out.size (fun j hj => by omega))⟩
        · have HE : Hid ((⟨len, st, r, n, since⟩ : Gr).rgrant a b now = (⟨len, true, a, b, now⟩, true)) := hide (by rw [HRG.out]; exact if_neg (by have := HNE.out; simp; omega))
          go_upto_region 4 with fail
          have hk9 := Kept.of_setRow w3 (w.heap.size + 2) #[.int .i64 len, .int .i64 now, .int .i64 a, .int .i64 b, .bool true]
          have hr9 := set_row_at (B := #[.int .i64 len, .int .i64 now, .int .i64 a, .int .i64 b, .bool true]) HZ.out
          go_wp2_with (refine wpList_store_row rfl 48 _ _ rfl (w.heap.size + 2) #[.int .i64 len, .int .i64 now, .int .i64 a, .int .i64 b, .bool true] rfl rfl _ _ HZ.out (by kernel_rfl) rfl (by simp [Value.oneCell']) ?_; generalize w3.setRow (w.heap.size + 2) #[.int .i64 len, .int .i64 now, .int .i64 a, .int .i64 b, .bool true] = w9 at *)
          refine bodyPost_ret (v := .tuple #[.agg #[.int .i64 len, .int .i64 now, .int .i64 a, .int .i64 b, .bool true], .bool true]) (ggr_cell rfl rfl hr9 rfl) rfl ?_
          exact ⟨by rw [HE.out]; rfl, HB.out.trans (hk9.below HB.out.size (fun j hj => by omega))⟩
end Go.Proofs.Ytgdncmkhcdmjoaa
