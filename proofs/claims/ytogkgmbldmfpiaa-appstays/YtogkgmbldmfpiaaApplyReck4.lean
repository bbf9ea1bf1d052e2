/-
  Apply of package app: products. No condition but that the state is valid and the operation right.
-/
import Derived.Test.YtogkgmbldmfpiaaApplyUpd
set_option linter.unusedSimpArgs false
set_option linter.unusedVariables false
namespace Go.Proofs.Ytogkgmbldmfpiaa
open Go.RowKit

set_option maxRecDepth 100000 in
set_option maxHeartbeats 1600000 in
theorem apply_reck_no4 (S : Nat → Int) (R : Nat) (hR : R < 8) (t : Int) (re im : Int) (hS : okS S) (h : rightOp 4 R t re im) (p q : Int) (HC : Hid (∀ w : World, Calls Try.prog 37 #[.agg #[.int .i64 (S (2 * R)), .int .i64 (S (2 * R + 1))], .agg #[.int .i64 4, .int .i64 R, .int .i64 t, .int .i64 re, .int .i64 im]] w fun e w' => e = .returned (.tuple #[.agg #[.int .i64 p, .int .i64 q], .bool false]) ∧ Below w.heap.size w w')) (w : World) :
    Calls Try.prog 30 #[.agg (cl S).toArray, .agg #[.int .i64 4, .int .i64 R, .int .i64 t, .int .i64 re, .int .i64 im]] w fun e w' =>
      e = .returned (.tuple #[.agg (cl (S)).toArray, .agg #[.int .i64 2, .int .i64 0, .int .i64 0]]) ∧ Below w.heap.size w w' := by
  have hr := valid_any S
  rw [show vB S = true from decide_eq_true hS] at hr
  have hk := check_any 4 R t re im
  rw [show chk 4 R t re im = 0 from if_pos h] at hk
  have HR := hide hr
  have HK := hide hk
  clear hr hk hS h
  have R0 : (0 : Int) ≤ (R : Int) := Int.natCast_nonneg _
  have R8 : (R : Int) < 8 := by omega
  have A0 := four w S 4 R t re im #[.int .i64 0, .int .i64 0, .int .i64 0, .int .i64 0, .int .i64 0, .int .i64 0, .int .i64 0, .int .i64 0, .int .i64 0, .int .i64 0, .int .i64 0, .int .i64 0, .int .i64 0, .int .i64 0, .int .i64 0, .int .i64 0] #[.int .i64 0, .int .i64 0, .int .i64 0] rfl rfl
  go_enter Try.func30, Try.ntmps30
  go_wp2_with (refine wpList_load_row rfl 45 _ rfl w.heap.size rfl _ _ _ _ A0.hs Try.underlying45 rfl (size_cl S) ?_)
  refine (HR.out _).mono ?_
  rintro e w1 ⟨rfl, hb1⟩
  have A1 := A0.below hb1
  clear A0 hb1
  obtain ⟨o0, o1, o2, o3, o4⟩ := A1.op
  go_wp2_with fail
  refine (HK.out _).mono ?_
  rintro e w2 ⟨rfl, hb2⟩
  have A2 := A1.below hb2
  clear A1 hb2 o0 o1 o2 o3 o4
  obtain ⟨o0, o1, o2, o3, o4⟩ := A2.op
  go_wp2_with fail
  obtain ⟨c1, c2, _, _⟩ := A2.cells2 R hR
  go_cut [6, 7] (fun s6 s7 wx => RK w S 4 R t re im p q false s6 s7 wx)
  case first =>
    go_region_held3 (fun w' => w'.cell? ⟨w.heap.size + 1, 0, none⟩ = some (.int .i64 4) ∧ w'.cell? ⟨w.heap.size + 1, 1, none⟩ = some (.int .i64 R) ∧ w'.cell? ⟨w.heap.size + 1, 2, none⟩ = some (.int .i64 t) ∧ w'.cell? ⟨w.heap.size + 1, 3, none⟩ = some (.int .i64 re) ∧ w'.cell? ⟨w.heap.size + 1, 4, none⟩ = some (.int .i64 im) ∧ w'.cell? ⟨w.heap.size, R * 2, none⟩ = some (.int .i64 (S (2 * R))) ∧ w'.cell? ⟨w.heap.size, R * 2 + 1, none⟩ = some (.int .i64 (S (2 * R + 1))))
      (first
        | exact A2.drew.both R hR
        | exact (A2.alloc _).drew.both R hR
        | exact A3.both R hR
        | exact (AW.alloc (by assumption) _).both R hR
        | exact (AW.out (AW.out (by assumption) _ hout _) _ hout _).both R hR
        | exact (AW.alloc (by assumption) _).both R hR)
      (first
        | ((go_at_call 37; (refine (HC.out _).mono ?_)); rintro e w3 ⟨rfl, hb3⟩; (first | (have A3 := A2.drew.below hb3; have hz3 := A3.hz) | (have A3 := (A2.alloc _).drew.below hb3; have hz3 := A3.hz; obtain ⟨nb, n0, n1, z0, z1⟩ := kept_new hb3; have hout := A2.hz))))
    all_goals
      go_wp2_with fail
      go_meet
      first | exact rk1 A3 | exact rk2 A3 nb hout
  case rest =>
    obtain ⟨b, rfl, rfl, A4, hb4, hn⟩ := hcut
    clear o0 o1 o2 o3 o4 c1 c2 A2
    obtain ⟨Z2, a2, b2⟩ := A4.h2
    obtain ⟨Z3, a3, b3⟩ := A4.h3
    have b3' := (setRow_other wc (w.heap.size + 2) (w.heap.size + 3) (cl S).toArray (by omega)).trans b3
    have HA2 := hide a2
    have HA3 := hide a3
    have HB2 := hide b2
    have HB3 := hide b3'
    clear a2 a3 b2 b3 b3'
    go_wp2_with (first
      | (refine wpList_load_row rfl 45 _ rfl w.heap.size rfl _ _ _ _ A4.hs Try.underlying45 rfl (size_cl S) ?_)
      | (refine wpList_store_row rfl 45 _ _ rfl (w.heap.size + 2) _ rfl rfl _ _ HB2.out (size_cl S) (HA2.out.trans (cl_size S).symm) (one_cl S) ?_)
      | (refine wpList_store_row rfl 50 _ _ rfl (w.heap.size + 3) #[.int .i64 2, .int .i64 0, .int .i64 0] rfl rfl _ _ HB3.out size_res HA3.out (one3 (2) (0) (0)) ?_))
    obtain ⟨r1, r2, r3⟩ := A4.stored (cl S).toArray #[.int .i64 2, .int .i64 0, .int .i64 0]
    (try simp only [Exit.inBlock, Exit.then])
    refine bodyPost_ret (v := .tuple #[.agg (cl S).toArray, .agg #[.int .i64 2, .int .i64 0, .int .i64 0]]) ?_ rfl ⟨rfl, r3⟩
    exact results_rows rfl rfl r1 r2 (cl_size S) rfl

set_option maxRecDepth 100000 in
set_option maxHeartbeats 1600000 in
theorem apply_reck_yes4 (S : Nat → Int) (R : Nat) (hR : R < 8) (t : Int) (re im : Int) (hS : okS S) (h : rightOp 4 R t re im) (p q : Int) (HC : Hid (∀ w : World, Calls Try.prog 37 #[.agg #[.int .i64 (S (2 * R)), .int .i64 (S (2 * R + 1))], .agg #[.int .i64 4, .int .i64 R, .int .i64 t, .int .i64 re, .int .i64 im]] w fun e w' => e = .returned (.tuple #[.agg #[.int .i64 p, .int .i64 q], .bool true]) ∧ Below w.heap.size w w')) (w : World) :
    Calls Try.prog 30 #[.agg (cl S).toArray, .agg #[.int .i64 4, .int .i64 R, .int .i64 t, .int .i64 re, .int .i64 im]] w fun e w' =>
      e = .returned (.tuple #[.agg (cl (upd S R p q)).toArray, .agg #[.int .i64 1, .int .i64 ((upd S R p q) (2 * R)), .int .i64 ((upd S R p q) (2 * R + 1))]]) ∧ Below w.heap.size w w' := by
  have hr := valid_any S
  rw [show vB S = true from decide_eq_true hS] at hr
  have hk := check_any 4 R t re im
  rw [show chk 4 R t re im = 0 from if_pos h] at hk
  have HR := hide hr
  have HK := hide hk
  clear hr hk hS h
  have R0 : (0 : Int) ≤ (R : Int) := Int.natCast_nonneg _
  have R8 : (R : Int) < 8 := by omega
  have A0 := four w S 4 R t re im #[.int .i64 0, .int .i64 0, .int .i64 0, .int .i64 0, .int .i64 0, .int .i64 0, .int .i64 0, .int .i64 0, .int .i64 0, .int .i64 0, .int .i64 0, .int .i64 0, .int .i64 0, .int .i64 0, .int .i64 0, .int .i64 0] #[.int .i64 0, .int .i64 0, .int .i64 0] rfl rfl
  go_enter Try.func30, Try.ntmps30
  go_wp2_with (refine wpList_load_row rfl 45 _ rfl w.heap.size rfl _ _ _ _ A0.hs Try.underlying45 rfl (size_cl S) ?_)
  refine (HR.out _).mono ?_
  rintro e w1 ⟨rfl, hb1⟩
  have A1 := A0.below hb1
  clear A0 hb1
  obtain ⟨o0, o1, o2, o3, o4⟩ := A1.op
  go_wp2_with fail
  refine (HK.out _).mono ?_
  rintro e w2 ⟨rfl, hb2⟩
  have A2 := A1.below hb2
  clear A1 hb2 o0 o1 o2 o3 o4
  obtain ⟨o0, o1, o2, o3, o4⟩ := A2.op
  go_wp2_with fail
  obtain ⟨c1, c2, _, _⟩ := A2.cells2 R hR
  go_cut [6, 7] (fun s6 s7 wx => RK w S 4 R t re im p q true s6 s7 wx)
  case first =>
    go_region_held3 (fun w' => w'.cell? ⟨w.heap.size + 1, 0, none⟩ = some (.int .i64 4) ∧ w'.cell? ⟨w.heap.size + 1, 1, none⟩ = some (.int .i64 R) ∧ w'.cell? ⟨w.heap.size + 1, 2, none⟩ = some (.int .i64 t) ∧ w'.cell? ⟨w.heap.size + 1, 3, none⟩ = some (.int .i64 re) ∧ w'.cell? ⟨w.heap.size + 1, 4, none⟩ = some (.int .i64 im) ∧ w'.cell? ⟨w.heap.size, R * 2, none⟩ = some (.int .i64 (S (2 * R))) ∧ w'.cell? ⟨w.heap.size, R * 2 + 1, none⟩ = some (.int .i64 (S (2 * R + 1))))
      (first
        | exact A2.drew.both R hR
        | exact (A2.alloc _).drew.both R hR
        | exact A3.both R hR
        | exact (AW.alloc (by assumption) _).both R hR
        | exact (AW.out (AW.out (by assumption) _ hout _) _ hout _).both R hR
        | exact (AW.alloc (by assumption) _).both R hR)
      (first
        | ((go_at_call 37; (refine (HC.out _).mono ?_)); rintro e w3 ⟨rfl, hb3⟩; (first | (have A3 := A2.drew.below hb3; have hz3 := A3.hz) | (have A3 := (A2.alloc _).drew.below hb3; have hz3 := A3.hz; obtain ⟨nb, n0, n1, z0, z1⟩ := kept_new hb3; have hout := A2.hz))))
    all_goals
      go_wp2_with fail
      go_meet
      first | exact rk1 A3 | exact rk2 A3 nb hout
  case rest =>
    obtain ⟨b, rfl, rfl, A4, hb4, hn⟩ := hcut
    clear o0 o1 o2 o3 o4 c1 c2 A2
    obtain ⟨o0, o1, o2, o3, o4⟩ := A4.op
    obtain ⟨c1, c2, z1, z2⟩ := A4.cells2 R hR
    have n0 : wc.cell? ⟨b, 0, none⟩ = some (.int .i64 p) := by rw [cell_of_row _ _ _ _ _ _ hn]; rfl
    have n1 : wc.cell? ⟨b, 1, none⟩ = some (.int .i64 q) := by rw [cell_of_row _ _ _ _ _ _ hn]; rfl
    have HN := hide hn
    clear hn
    go_wp2_with fail
    have A5 := A4.st1 R hR p q
    clear o0 o1 o2 o3 o4 c1 c2 z1 z2 n0 n1 A4
    generalize hw5 : (wc.setCell ⟨w.heap.size, R * 2, none⟩ (.int .i64 p)).setCell ⟨w.heap.size, R * 2 + 1, none⟩ (.int .i64 q) = w5 at A5 ⊢
    clear hw5
    refine wp_region_held_drew (S := fun w' => AW w (upd S R p q) 4 R t re im w') (by kernel_rfl) A5.drew (fun hHeld => ?_)
    refine wpAnyH_take (i := 0) (oi := _) (v := .agg (cl (upd S R p q)).toArray) rfl (by kernel_rfl) (by kernel_rfl) (by kernel_rfl) (fun _ _ _ h => h) (yieldsIf_load_mid (by rfl) 45 (.tmp 2) rfl w.heap.size 0 rfl (cl (upd S R p q)) _ (fun w' h => h.range) Try.underlying45 rfl (size_cl (upd S R p q))) hHeld ?_
    (try simp only [Act.put, List.setIfInBounds_toArray, List.set_cons_zero, List.set_cons_succ, List.getElem_toArray, List.getElem_cons_zero, List.getElem_cons_succ])
    refine wpAnyH_take (i := 1) (oi := _) (v := .pointer (some ⟨w.heap.size + 1, 1, none⟩)) rfl (by kernel_rfl) (by kernel_rfl) (by kernel_rfl) (fun _ _ _ h => h) (Or.inl ⟨by rfl, fun w' hSw => by go_simp⟩) hHeld ?_
    (try simp only [Act.put, List.setIfInBounds_toArray, List.set_cons_zero, List.set_cons_succ, List.getElem_toArray, List.getElem_cons_zero, List.getElem_cons_succ])
    refine wpAnyH_take (i := 2) (oi := _) (v := .int .i64 R) rfl (by kernel_rfl) (by kernel_rfl) (by kernel_rfl) (fun _ _ _ h => h) (Or.inl ⟨by rfl, fun w' hSw => by have q := hSw.op.2.1; go_simp⟩) hHeld ?_
    (try simp only [Act.put, List.setIfInBounds_toArray, List.set_cons_zero, List.set_cons_succ, List.getElem_toArray, List.getElem_cons_zero, List.getElem_cons_succ])
    refine wpAnyH_take (i := 3) (oi := _) (v := .pointer (some ⟨w.heap.size, R * 2, none⟩)) rfl (by kernel_rfl) (by kernel_rfl) (by kernel_rfl) (fun _ _ _ h => h) (Or.inl ⟨by rfl, fun w' hSw => by go_simp⟩) hHeld ?_
    (try simp only [Act.put, List.setIfInBounds_toArray, List.set_cons_zero, List.set_cons_succ, List.getElem_toArray, List.getElem_cons_zero, List.getElem_cons_succ])
    refine wpAnyH_take (i := 4) (oi := _) (v := .agg #[.int .i64 ((upd S R p q) (2 * R)), .int .i64 ((upd S R p q) (2 * R + 1))]) rfl (by kernel_rfl) (by kernel_rfl) (by kernel_rfl) (fun _ _ _ h => h) (Or.inl ⟨by rfl, fun w' hSw => by obtain ⟨_, _, q1, q2, _⟩ := hSw.limbs R hR; go_simp⟩) hHeld ?_
    (try simp only [Act.put, List.setIfInBounds_toArray, List.set_cons_zero, List.set_cons_succ, List.getElem_toArray, List.getElem_cons_zero, List.getElem_cons_succ])
    refine wpAnyH_ready (rs := [5]) (by kernel_rfl) (by simp) ?_
    refine AllReadyH.cons (o := _) rfl (fun K hK => ?_) AllReadyH.nil
    simp only [List.getElem_toArray, List.getElem_cons_zero, List.getElem_cons_succ]
    go_simp
    refine (result_any 1 _ _ _).mono ?_
    rintro e w6 ⟨rfl, hb6⟩
    have A6 := A5.drew.below hb6
    go_wp2_with fail
    refine hK.out _ _ A6 (fun hHeld => ?_)
    clear hK hb6
    (try simp only [Act.put, List.setIfInBounds_toArray, List.set_cons_zero, List.set_cons_succ, List.getElem_toArray, List.getElem_cons_zero, List.getElem_cons_succ])
    refine wpAnyH_ready (rs := [6]) (by kernel_rfl) (by simp) ?_
    refine AllReadyH.cons (o := _) rfl (fun K hK => ?_) AllReadyH.nil
    simp only [List.getElem_toArray, List.getElem_cons_zero, List.getElem_cons_succ]
    rw [if_pos (by rfl)]
    refine wp_store_mid 45 (.tmp 4) (.tmp 86) rfl (w.heap.size + 2) 0 (cl (upd S R p q)).toArray rfl rfl A6.there2 (size_cl (upd S R p q)) (one_cl (upd S R p q)) ?_
    have A7 := A6.st2 (upd S R p q)
    rw [List.toList_toArray]
    generalize hw7 : w6.setCells (w.heap.size + 2) 0 (cl (upd S R p q)) = w7 at A7 ⊢
    have HW7 := hide hw7
    clear hw7
    refine hK.out _ _ A7 (fun hHeld => ?_)
    clear hK
    (try simp only [Act.put, List.setIfInBounds_toArray, List.set_cons_zero, List.set_cons_succ, List.getElem_toArray, List.getElem_cons_zero, List.getElem_cons_succ])
    refine wpAnyH_ready (rs := [7]) (by kernel_rfl) (by simp) ?_
    refine AllReadyH.cons (o := _) rfl (fun K hK => ?_) AllReadyH.nil
    simp only [List.getElem_toArray, List.getElem_cons_zero, List.getElem_cons_succ]
    rw [if_pos (by rfl)]
    refine wp_store_mid 50 (.tmp 5) (.tmp 91) rfl (w.heap.size + 3) 0 #[.int .i64 1, .int .i64 ((upd S R p q) (2 * R)), .int .i64 ((upd S R p q) (2 * R + 1))] rfl rfl A7.there3 size_res (one3 _ _ _) ?_
    have A8 := A7.st3' (.int .i64 1) (.int .i64 ((upd S R p q) (2 * R))) (.int .i64 ((upd S R p q) (2 * R + 1)))
    (try rw [List.toList_toArray])
    generalize hw8 : w7.setCells (w.heap.size + 3) 0 [.int .i64 1, .int .i64 ((upd S R p q) (2 * R)), .int .i64 ((upd S R p q) (2 * R + 1))] = w8 at A8 ⊢
    have HW8 := hide hw8
    clear hw8
    refine hK.out _ _ A8 (fun hHeld => ?_)
    clear hK
    (try simp only [Act.put, List.setIfInBounds_toArray, List.set_cons_zero, List.set_cons_succ, List.getElem_toArray, List.getElem_cons_zero, List.getElem_cons_succ])
    refine wpAnyH_done (by kernel_rfl) ?_ _
    go_wp2_with fail
    (try simp only [Exit.inBlock, Exit.then])
    have e := A6.fin3 (upd S R p q) (.int .i64 1) (.int .i64 ((upd S R p q) (2 * R))) (.int .i64 ((upd S R p q) (2 * R + 1)))
    rw [HW7.out, HW8.out] at e
    obtain ⟨r1, r2, r3⟩ := A6.stored (cl (upd S R p q)).toArray #[.int .i64 1, .int .i64 ((upd S R p q) (2 * R)), .int .i64 ((upd S R p q) (2 * R + 1))]
    rw [← e] at r1 r2 r3
    refine bodyPost_ret (v := .tuple #[.agg (cl (upd S R p q)).toArray, .agg #[.int .i64 1, .int .i64 ((upd S R p q) (2 * R)), .int .i64 ((upd S R p q) (2 * R + 1))]]) ?_ rfl ⟨rfl, r3⟩
    exact results_rows rfl rfl r1 r2 (cl_size (upd S R p q)) rfl
end Go.Proofs.Ytogkgmbldmfpiaa
