/-
  AppChecks: the walk. No condition.
-/
import Derived.Test.YtogkgmbldmfpiaaRefBase
set_option linter.unusedSimpArgs false
set_option linter.unusedVariables false
namespace Go.Proofs.Ytogkgmbldmfpiaa
open Go.RowKit

theorem range_of {w : World} {g : Nat} {S : Nat → Int} {t : TypeId} (h : w.heap[g]? = some (.cells (cl S).toArray t (0, 0))) : w.rangeAt g 0 (cl S) := by
  intro j v hv
  rw [Nat.zero_add, cell_of_row _ _ _ _ _ _ h, List.getElem?_toArray]
  exact hv

theorem reads_any (k r t re im : Int) (w : World) : Calls Try.prog 28 #[.agg #[.int .i64 k, .int .i64 r, .int .i64 t, .int .i64 re, .int .i64 im]] w fun e w' => e = .returned (.bool (k == 1)) ∧ Below w.heap.size w w' := by
  go_enter Try.func28, Try.ntmps28
  go_wp2
  go_ret
  exact ⟨rfl, by go_grown⟩

/-- Memory within AppChecks. -/
structure CW (w : World) (S : Nat → Int) (op : Opv) (w2 : World) : Prop where
  hs : w2.heap[w.heap.size]? = some (.cells (cl S).toArray 38 (0, 0))
  ho : w2.heap[w.heap.size + 1]? = some (.cells #[.int .i64 op.k, .int .i64 op.r, .int .i64 op.t, .int .i64 op.re, .int .i64 op.im] 40 (0, 0))
  hb : Below w.heap.size w w2
  hz : w.heap.size + 2 ≤ w2.heap.size
theorem CW.below {w : World} {S : Nat → Int} {op : Opv} {w2 w3 : World} (h : CW w S op w2) (hb : Below w2.heap.size w2 w3) : CW w S op w3 := by
  have hz := h.hz
  exact ⟨(hb.block _ (by omega)).trans h.hs, (hb.block _ (by omega)).trans h.ho, h.hb.trans (hb.mono (by omega)), by have := hb.size; omega⟩
theorem CW.drew {w : World} {S : Nat → Int} {op : Opv} {w2 : World} (h : CW w S op w2) : CW w S op w2.drew := ⟨h.hs, h.ho, h.hb.drew, h.hz⟩

set_option maxRecDepth 100000 in
set_option maxHeartbeats 1600000 in
theorem checks_walk (S : Nat → Int) (op : Opv) (w : World) : Calls Try.prog 6 #[.agg (cl S).toArray, .agg #[.int .i64 op.k, .int .i64 op.r, .int .i64 op.t, .int .i64 op.re, .int .i64 op.im]] w fun e w' => e = .returned (.bool true) ∧ Below w.heap.size w w' := by
  have hck : ∃ c : Int, ∃ b : Bool, chk op.k op.r op.t op.re op.im = c ∧ rB op.k op.r op.t op.re op.im = b ∧ (c = 0 ∧ b = true ∨ c = 22 ∧ b = false) := by
    by_cases h : rightOp op.k op.r op.t op.re op.im
    · exact ⟨0, true, if_pos h, decide_eq_true h, .inl ⟨rfl, rfl⟩⟩
    · exact ⟨22, false, if_neg h, decide_eq_false h, .inr ⟨rfl, rfl⟩⟩
  obtain ⟨c, b, e1, e2, hcb⟩ := hck
  have c1 := check_any op.k op.r op.t op.re op.im
  rw [e1] at c1
  have c2 := opright_any op.k op.r op.t op.re op.im
  rw [e2] at c2
  have C1 := hide c1
  have C2 := hide c2
  clear c1 c2 e1 e2
  have hvv : ∃ v : Bool, vB S = v := ⟨_, rfl⟩
  obtain ⟨v, ev⟩ := hvv
  have v1 := valid_any S
  rw [ev] at v1
  have v2 := refvalid_any S
  rw [ev] at v2
  have V1 := hide v1
  have V2 := hide v2
  clear v1 v2 ev
  have hkk : ∃ b1 : Bool, (op.k == 1) = b1 := ⟨_, rfl⟩
  obtain ⟨b1, eb⟩ := hkk
  have r1 := reads_any op.k op.r op.t op.re op.im
  rw [eb] at r1
  have R1 := hide r1
  clear r1
  have A0 : CW w S op ((w.alloc (.cells (cl S).toArray 38)).alloc (.cells #[.int .i64 op.k, .int .i64 op.r, .int .i64 op.t, .int .i64 op.re, .int .i64 op.im] 40)) := by
    refine ⟨old2 w _ _, ?_, by go_grown, by simp⟩
    have := heap_alloc_new (w.alloc (.cells (cl S).toArray 38)) (.cells #[.int .i64 op.k, .int .i64 op.r, .int .i64 op.t, .int .i64 op.re, .int .i64 op.im] 40)
    simpa using this
  go_enter Try.func6, Try.ntmps6
  go_wp2_with fail
  refine (head4_any _).mono ?_
  rintro e w1 ⟨rfl, hb1⟩
  have A1 := A0.below hb1
  clear A0 hb1
  obtain ⟨o0, o1, o2, o3, o4⟩ := cells5 A1.ho
  go_wp2_with fail
  refine (C1.out _).mono ?_
  rintro e w2 ⟨rfl, hb2⟩
  have A2 := A1.below hb2
  clear A1 hb2 o0 o1 o2 o3 o4
  obtain ⟨o0, o1, o2, o3, o4⟩ := cells5 A2.ho
  go_wp2_with fail
  refine (C2.out _).mono ?_
  rintro e w3 ⟨rfl, hb3⟩
  have A3 := A2.below hb3
  clear A2 hb3 o0 o1 o2 o3 o4
  rcases hcb with ⟨rfl, rfl⟩ | ⟨rfl, rfl⟩
  all_goals
    go_wp2_with fail
    refine wp_region_held_drew (S := fun w' => CW w S op w') (by kernel_rfl) A3.drew (fun hHeld => ?_)
    refine wpAnyH_take (i := 0) (oi := _) (v := .agg (cl (S)).toArray) rfl (by kernel_rfl) (by kernel_rfl) (by kernel_rfl) (fun _ _ _ h => h) (yieldsIf_load_mid (by rfl) 38 (.tmp 2) rfl (w.heap.size) 0 rfl (cl (S)) _ (fun w' h => range_of h.hs) Try.underlying38 rfl (rsize_cl S)) hHeld ?_
    (try simp only [Act.put, List.setIfInBounds_toArray, List.set_cons_zero, List.set_cons_succ, List.getElem_toArray, List.getElem_cons_zero, List.getElem_cons_succ])
    refine wpAnyH_take (i := 2) (oi := _) (v := .agg (cl (S)).toArray) rfl (by kernel_rfl) (by kernel_rfl) (by kernel_rfl) (fun _ _ _ h => h) (yieldsIf_load_mid (by rfl) 38 (.tmp 2) rfl (w.heap.size) 0 rfl (cl (S)) _ (fun w' h => range_of h.hs) Try.underlying38 rfl (rsize_cl S)) hHeld ?_
    (try simp only [Act.put, List.setIfInBounds_toArray, List.set_cons_zero, List.set_cons_succ, List.getElem_toArray, List.getElem_cons_zero, List.getElem_cons_succ])
    refine wpAnyH_ready (rs := [1]) (by kernel_rfl) (by simp) ?_
    refine AllReadyH.cons (o := _) rfl (fun K hK => ?_) AllReadyH.nil
    simp only [List.getElem_toArray, List.getElem_cons_zero, List.getElem_cons_succ]
    go_simp
    refine (V1.out _).mono ?_
    rintro e w4 ⟨rfl, hb⟩
    have hX := A3.drew.below hb
    go_wp2_with fail
    refine hK.out _ _ hX (fun hHeld => ?_)
    clear hK hb hX
    (try simp only [Act.put, List.setIfInBounds_toArray, List.set_cons_zero, List.set_cons_succ, List.getElem_toArray, List.getElem_cons_zero, List.getElem_cons_succ])
    have A4 := hHeld
    refine wpAnyH_ready (rs := [3]) (by kernel_rfl) (by simp) ?_
    refine AllReadyH.cons (o := _) rfl (fun K hK => ?_) AllReadyH.nil
    simp only [List.getElem_toArray, List.getElem_cons_zero, List.getElem_cons_succ]
    go_simp
    refine (V2.out _).mono ?_
    rintro e w5 ⟨rfl, hb⟩
    have hX := A4.below hb
    go_wp2_with fail
    refine hK.out _ _ hX (fun hHeld => ?_)
    clear hK hb hX
    (try simp only [Act.put, List.setIfInBounds_toArray, List.set_cons_zero, List.set_cons_succ, List.getElem_toArray, List.getElem_cons_zero, List.getElem_cons_succ])
    have A5 := hHeld
    refine wpAnyH_take (i := 4) (oi := _) (v := .bool true) rfl (by kernel_rfl) (by kernel_rfl) (by kernel_rfl) (fun _ _ _ h => h) (Or.inl ⟨by rfl, fun w' hSw => by go_simp⟩) hHeld ?_
    (try simp only [Act.put, List.setIfInBounds_toArray, List.set_cons_zero, List.set_cons_succ, List.getElem_toArray, List.getElem_cons_zero, List.getElem_cons_succ])
    refine wpAnyH_take (i := 5) (oi := _) (v := .bool true) rfl (by kernel_rfl) (by kernel_rfl) (by kernel_rfl) (fun _ _ _ h => h) (Or.inl ⟨by rfl, fun w' hSw => by go_simp⟩) hHeld ?_
    (try simp only [Act.put, List.setIfInBounds_toArray, List.set_cons_zero, List.set_cons_succ, List.getElem_toArray, List.getElem_cons_zero, List.getElem_cons_succ])
    refine wpAnyH_take (i := 6) (oi := _) (v := .agg #[.int .i64 op.k, .int .i64 op.r, .int .i64 op.t, .int .i64 op.re, .int .i64 op.im]) rfl (by kernel_rfl) (by kernel_rfl) (by kernel_rfl) (fun _ _ _ h => h) (Or.inl ⟨by rfl, fun w' hSw => by obtain ⟨q0, q1, q2, q3, q4⟩ := cells5 hSw.ho; go_simp⟩) hHeld ?_
    (try simp only [Act.put, List.setIfInBounds_toArray, List.set_cons_zero, List.set_cons_succ, List.getElem_toArray, List.getElem_cons_zero, List.getElem_cons_succ])
    refine wpAnyH_take (i := 8) (oi := _) (v := .pointer (some ⟨w.heap.size + 1, 0, none⟩)) rfl (by kernel_rfl) (by kernel_rfl) (by kernel_rfl) (fun _ _ _ h => h) (Or.inl ⟨by rfl, fun w' hSw => by go_simp⟩) hHeld ?_
    (try simp only [Act.put, List.setIfInBounds_toArray, List.set_cons_zero, List.set_cons_succ, List.getElem_toArray, List.getElem_cons_zero, List.getElem_cons_succ])
    refine wpAnyH_take (i := 9) (oi := _) (v := .int .i64 op.k) rfl (by kernel_rfl) (by kernel_rfl) (by kernel_rfl) (fun _ _ _ h => h) (Or.inl ⟨by rfl, fun w' hSw => by obtain ⟨q0, q1, q2, q3, q4⟩ := cells5 hSw.ho; go_simp⟩) hHeld ?_
    (try simp only [Act.put, List.setIfInBounds_toArray, List.set_cons_zero, List.set_cons_succ, List.getElem_toArray, List.getElem_cons_zero, List.getElem_cons_succ])
    refine wpAnyH_take (i := 10) (oi := _) (v := .bool b1) rfl (by kernel_rfl) (by kernel_rfl) (by kernel_rfl) (fun _ _ _ h => h) (Or.inl ⟨by rfl, fun w' hSw => by go_simp⟩) hHeld ?_
    (try simp only [Act.put, List.setIfInBounds_toArray, List.set_cons_zero, List.set_cons_succ, List.getElem_toArray, List.getElem_cons_zero, List.getElem_cons_succ])
    refine wpAnyH_ready (rs := [7]) (by kernel_rfl) (by simp) ?_
    refine AllReadyH.cons (o := _) rfl (fun K hK => ?_) AllReadyH.nil
    simp only [List.getElem_toArray, List.getElem_cons_zero, List.getElem_cons_succ]
    go_simp
    refine (R1.out _).mono ?_
    rintro e w6 ⟨rfl, hb⟩
    have hX := A5.below hb
    go_wp2_with fail
    refine hK.out _ _ hX (fun hHeld => ?_)
    clear hK hb hX
    (try simp only [Act.put, List.setIfInBounds_toArray, List.set_cons_zero, List.set_cons_succ, List.getElem_toArray, List.getElem_cons_zero, List.getElem_cons_succ])
    have A6 := hHeld
    refine wpAnyH_take (i := 11) (oi := _) (v := .bool true) rfl (by kernel_rfl) (by kernel_rfl) (by kernel_rfl) (fun _ _ _ h => h) (Or.inl ⟨by rfl, fun w' hSw => by go_simp⟩) hHeld ?_
    (try simp only [Act.put, List.setIfInBounds_toArray, List.set_cons_zero, List.set_cons_succ, List.getElem_toArray, List.getElem_cons_zero, List.getElem_cons_succ])
    refine wpAnyH_take (i := 12) (oi := _) (v := .bool true) rfl (by kernel_rfl) (by kernel_rfl) (by kernel_rfl) (fun _ _ _ h => h) (Or.inl ⟨by rfl, fun w' hSw => by go_simp⟩) hHeld ?_
    (try simp only [Act.put, List.setIfInBounds_toArray, List.set_cons_zero, List.set_cons_succ, List.getElem_toArray, List.getElem_cons_zero, List.getElem_cons_succ])
    refine wpAnyH_take (i := 13) (oi := _) (v := .bool true) rfl (by kernel_rfl) (by kernel_rfl) (by kernel_rfl) (fun _ _ _ h => h) (Or.inl ⟨by rfl, fun w' hSw => by go_simp⟩) hHeld ?_
    (try simp only [Act.put, List.setIfInBounds_toArray, List.set_cons_zero, List.set_cons_succ, List.getElem_toArray, List.getElem_cons_zero, List.getElem_cons_succ])
    refine wpAnyH_done (by kernel_rfl) ?_ _
    go_wp2_with fail
    go_ret
    exact ⟨rfl, A6.hb⟩
end Go.Proofs.Ytogkgmbldmfpiaa
