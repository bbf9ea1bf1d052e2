/-
  Apply of package app: what puts. No condition but that the state is valid and the operation right.
-/
import Derived.Test.YtogkgmbldmfpiaaApplyGet
import Derived.Test.YtogkgmbldmfpiaaApplyUpd
set_option linter.unusedSimpArgs false
set_option linter.unusedVariables false
namespace Go.Proofs.Ytogkgmbldmfpiaa
open Go.RowKit

set_option maxRecDepth 100000 in
set_option maxHeartbeats 1600000 in
theorem apply_put (S : Nat → Int) (R : Nat) (hR : R < 8) (t : Int) (re im : Int) (hS : okS S) (h : rightOp 2 R t re im) (w : World) :
    Calls Try.prog 30 #[.agg (cl S).toArray, .agg #[.int .i64 2, .int .i64 R, .int .i64 t, .int .i64 re, .int .i64 im]] w fun e w' =>
      e = .returned (.tuple #[.agg (cl (upd S R re im)).toArray, .agg #[.int .i64 1, .int .i64 ((upd S R re im) (2 * R)), .int .i64 ((upd S R re im) (2 * R + 1))]]) ∧ Below w.heap.size w w' := by
  have hr := valid_any S
  rw [show vB S = true from decide_eq_true hS] at hr
  have hk := check_any 2 R t re im
  rw [show chk 2 R t re im = 0 from if_pos h] at hk
  have HR := hide hr
  have HK := hide hk
  clear hr hk hS h
  have R0 : (0 : Int) ≤ (R : Int) := Int.natCast_nonneg _
  have R8 : (R : Int) < 8 := by omega
  have A0 := four w S 2 R t re im #[.int .i64 0, .int .i64 0, .int .i64 0, .int .i64 0, .int .i64 0, .int .i64 0, .int .i64 0, .int .i64 0, .int .i64 0, .int .i64 0, .int .i64 0, .int .i64 0, .int .i64 0, .int .i64 0, .int .i64 0, .int .i64 0] #[.int .i64 0, .int .i64 0, .int .i64 0] rfl rfl
  go_enter Try.func30, Try.ntmps30
  go_wp2_with (refine wpList_load_row rfl 45 _ rfl w.heap.size rfl _ _ _ _ A0.hs Try.underlying45 rfl (size_cl S) ?_)
  refine (HR.out _).mono ?_
  rintro e w1 ⟨rfl, hb1⟩
  have A1 := A0.below hb1
  clear A0 hb1
  obtain ⟨o0, o1, o2, o3, o4⟩ := A1.op
  go_wp2_with fail
  refine (HK.out _).mono ?_
  rintro e w2 ⟨rfl, hb2⟩
  have A2 := A1.below hb2
  clear A1 hb2 o0 o1 o2 o3 o4
  obtain ⟨o0, o1, o2, o3, o4⟩ := A2.op
  go_wp2_with fail
  go_region_held3 (fun w' => w'.cell? ⟨w.heap.size + 1, 0, none⟩ = some (.int .i64 2) ∧ w'.cell? ⟨w.heap.size + 1, 1, none⟩ = some (.int .i64 R) ∧ w'.cell? ⟨w.heap.size + 1, 2, none⟩ = some (.int .i64 t) ∧ w'.cell? ⟨w.heap.size + 1, 3, none⟩ = some (.int .i64 re) ∧ w'.cell? ⟨w.heap.size + 1, 4, none⟩ = some (.int .i64 im)) (first | exact A2.drew.op | (first | exact A3.op | exact (A3.st1 R hR re im).op)) (first
    | ((go_at_call 36; (with_reducible refine (operand_any 2 R t re im _).mono ?_)); rintro e w3 ⟨rfl, hb3⟩; have A3 := A2.drew.below hb3; obtain ⟨c1, c2, z1, z2⟩ := A3.cells2 R hR))
  have A4 := A3.st1 R hR re im
  clear o0 o1 o2 o3 o4
  generalize hw4 : (w3.setCell ⟨w.heap.size, R * 2, none⟩ (.int .i64 re)).setCell ⟨w.heap.size, R * 2 + 1, none⟩ (.int .i64 im) = w4 at A4 ⊢
  clear hw4 c1 c2 z1 z2
  go_wp2_with fail
  refine wp_region_held_drew (S := fun w' => AW w (upd S R re im) 2 R t re im w') (by kernel_rfl) A4.drew (fun hHeld => ?_)
  refine wpAnyH_take (i := 0) (oi := _) (v := .agg (cl (upd S R re im)).toArray) rfl (by kernel_rfl) (by kernel_rfl) (by kernel_rfl) (fun _ _ _ h => h) (yieldsIf_load_mid (by rfl) 45 (.tmp 2) rfl w.heap.size 0 rfl (cl (upd S R re im)) _ (fun w' h => h.range) Try.underlying45 rfl (size_cl (upd S R re im))) hHeld ?_
  (try simp only [Act.put, List.setIfInBounds_toArray, List.set_cons_zero, List.set_cons_succ, List.getElem_toArray, List.getElem_cons_zero, List.getElem_cons_succ])
  refine wpAnyH_take (i := 1) (oi := _) (v := .pointer (some ⟨w.heap.size + 1, 1, none⟩)) rfl (by kernel_rfl) (by kernel_rfl) (by kernel_rfl) (fun _ _ _ h => h) (Or.inl ⟨by rfl, fun w' hSw => by go_simp⟩) hHeld ?_
  (try simp only [Act.put, List.setIfInBounds_toArray, List.set_cons_zero, List.set_cons_succ, List.getElem_toArray, List.getElem_cons_zero, List.getElem_cons_succ])
  refine wpAnyH_take (i := 2) (oi := _) (v := .int .i64 R) rfl (by kernel_rfl) (by kernel_rfl) (by kernel_rfl) (fun _ _ _ h => h) (Or.inl ⟨by rfl, fun w' hSw => by have q := hSw.op.2.1; go_simp⟩) hHeld ?_
  (try simp only [Act.put, List.setIfInBounds_toArray, List.set_cons_zero, List.set_cons_succ, List.getElem_toArray, List.getElem_cons_zero, List.getElem_cons_succ])
  refine wpAnyH_take (i := 3) (oi := _) (v := .pointer (some ⟨w.heap.size, R * 2, none⟩)) rfl (by kernel_rfl) (by kernel_rfl) (by kernel_rfl) (fun _ _ _ h => h) (Or.inl ⟨by rfl, fun w' hSw => by go_simp⟩) hHeld ?_
  (try simp only [Act.put, List.setIfInBounds_toArray, List.set_cons_zero, List.set_cons_succ, List.getElem_toArray, List.getElem_cons_zero, List.getElem_cons_succ])
  refine wpAnyH_take (i := 4) (oi := _) (v := .agg #[.int .i64 ((upd S R re im) (2 * R)), .int .i64 ((upd S R re im) (2 * R + 1))]) rfl (by kernel_rfl) (by kernel_rfl) (by kernel_rfl) (fun _ _ _ h => h) (Or.inl ⟨by rfl, fun w' hSw => by obtain ⟨_, _, q1, q2, _⟩ := hSw.limbs R hR; go_simp⟩) hHeld ?_
  (try simp only [Act.put, List.setIfInBounds_toArray, List.set_cons_zero, List.set_cons_succ, List.getElem_toArray, List.getElem_cons_zero, List.getElem_cons_succ])
  refine wpAnyH_ready (rs := [5]) (by kernel_rfl) (by simp) ?_
  refine AllReadyH.cons (o := _) rfl (fun K hK => ?_) AllReadyH.nil
  simp only [List.getElem_toArray, List.getElem_cons_zero, List.getElem_cons_succ]
  go_simp
  refine (result_any 1 _ _ _).mono ?_
  rintro e w6 ⟨rfl, hb6⟩
  have A6 := A4.drew.below hb6
  go_wp2_with fail
  refine hK.out _ _ A6 (fun hHeld => ?_)
  clear hK hb6
  (try simp only [Act.put, List.setIfInBounds_toArray, List.set_cons_zero, List.set_cons_succ, List.getElem_toArray, List.getElem_cons_zero, List.getElem_cons_succ])
  refine wpAnyH_ready (rs := [6]) (by kernel_rfl) (by simp) ?_
  refine AllReadyH.cons (o := _) rfl (fun K hK => ?_) AllReadyH.nil
  simp only [List.getElem_toArray, List.getElem_cons_zero, List.getElem_cons_succ]
  rw [if_pos (by rfl)]
  refine wp_store_mid 45 (.tmp 4) (.tmp 86) rfl (w.heap.size + 2) 0 (cl (upd S R re im)).toArray rfl rfl A6.there2 (size_cl (upd S R re im)) (one_cl (upd S R re im)) ?_
  have A7 := A6.st2 (upd S R re im)
  rw [List.toList_toArray]
  generalize hw7 : w6.setCells (w.heap.size + 2) 0 (cl (upd S R re im)) = w7 at A7 ⊢
  have HW7 := hide hw7
  clear hw7
  refine hK.out _ _ A7 (fun hHeld => ?_)
  clear hK
  (try simp only [Act.put, List.setIfInBounds_toArray, List.set_cons_zero, List.set_cons_succ, List.getElem_toArray, List.getElem_cons_zero, List.getElem_cons_succ])
  refine wpAnyH_ready (rs := [7]) (by kernel_rfl) (by simp) ?_
  refine AllReadyH.cons (o := _) rfl (fun K hK => ?_) AllReadyH.nil
  simp only [List.getElem_toArray, List.getElem_cons_zero, List.getElem_cons_succ]
  rw [if_pos (by rfl)]
  refine wp_store_mid 50 (.tmp 5) (.tmp 91) rfl (w.heap.size + 3) 0 #[.int .i64 1, .int .i64 ((upd S R re im) (2 * R)), .int .i64 ((upd S R re im) (2 * R + 1))] rfl rfl A7.there3 size_res (one3 _ _ _) ?_
  have A8 := A7.st3' (.int .i64 1) (.int .i64 ((upd S R re im) (2 * R))) (.int .i64 ((upd S R re im) (2 * R + 1)))
  (try rw [List.toList_toArray])
  generalize hw8 : w7.setCells (w.heap.size + 3) 0 [.int .i64 1, .int .i64 ((upd S R re im) (2 * R)), .int .i64 ((upd S R re im) (2 * R + 1))] = w8 at A8 ⊢
  have HW8 := hide hw8
  clear hw8
  refine hK.out _ _ A8 (fun hHeld => ?_)
  clear hK
  (try simp only [Act.put, List.setIfInBounds_toArray, List.set_cons_zero, List.set_cons_succ, List.getElem_toArray, List.getElem_cons_zero, List.getElem_cons_succ])
  refine wpAnyH_done (by kernel_rfl) ?_ _
  go_wp2_with fail
  (try simp only [Exit.inBlock, Exit.then])
  have e := A6.fin3 (upd S R re im) (.int .i64 1) (.int .i64 ((upd S R re im) (2 * R))) (.int .i64 ((upd S R re im) (2 * R + 1)))
  rw [HW7.out, HW8.out] at e
  obtain ⟨r1, r2, r3⟩ := A6.stored (cl (upd S R re im)).toArray #[.int .i64 1, .int .i64 ((upd S R re im) (2 * R)), .int .i64 ((upd S R re im) (2 * R + 1))]
  rw [← e] at r1 r2 r3
  refine bodyPost_ret (v := .tuple #[.agg (cl (upd S R re im)).toArray, .agg #[.int .i64 1, .int .i64 ((upd S R re im) (2 * R)), .int .i64 ((upd S R re im) (2 * R + 1))]]) ?_ rfl ⟨rfl, r3⟩
  exact results_rows rfl rfl r1 r2 (cl_size (upd S R re im)) rfl
end Go.Proofs.Ytogkgmbldmfpiaa
