/-
  Apply of package app: what reads. No condition but that the state is valid and the operation right.
-/
import Derived.Test.YtogkgmbldmfpiaaApplyBase
set_option linter.unusedSimpArgs false
set_option linter.unusedVariables false
namespace Go.Proofs.Ytogkgmbldmfpiaa
open Go.RowKit

/-- A row stored cell by cell. -/
theorem setCells_from (g : Nat) (t : TypeId) (fr : Nat × Nat) : ∀ (vs : List Value) (o : Nat) (cur : Array Value) (w : World), w.heap[g]? = some (.cells cur t fr) → o + vs.length = cur.size →
    w.setCells g o vs = w.setRow g (cur.toList.take o ++ vs).toArray
  | [], o, cur, w, hg, hl => by
    have : (cur.toList.take o ++ []).toArray = cur := by
      rw [List.append_nil, List.take_of_length_le (by simp at hl ⊢; omega)]
    rw [this, setRow_self w g cur t fr hg]
    rfl
  | v :: vs, o, cur, w, hg, hl => by
    have h1 := setCell_eq_setRow w g o cur t fr v hg
    show (w.setCell ⟨g, o, none⟩ v).setCells g (o + 1) vs = _
    rw [h1, setCells_from g t fr vs (o + 1) (cur.setIfInBounds o v) _ (setRow_heap w g cur _ t fr hg) (by simp at hl ⊢; omega), setRow_setRow]
    congr 2
    simp at hl
    apply List.ext_getElem?
    intro k
    simp only [Array.toList_setIfInBounds, List.getElem?_append, List.length_take, List.length_set, Array.length_toList]
    by_cases hk : k < o
    · simp [hk, show k < o + 1 by omega, show min (o + 1) cur.size = o + 1 by omega, show min o cur.size = o by omega, show o ≠ k by omega]
    · by_cases hk2 : k = o
      · subst hk2
        simp [show min (k + 1) cur.size = k + 1 by omega, show min k cur.size = k by omega, show k < cur.size by omega]
      · simp [hk, show ¬ k < o + 1 by omega, show min (o + 1) cur.size = o + 1 by omega, show min o cur.size = o by omega, show k - o = (k - (o + 1)) + 1 by omega]

theorem setCells_row {g : Nat} {t : TypeId} {fr : Nat × Nat} {vs : List Value} {cur : Array Value} {w : World} (hg : w.heap[g]? = some (.cells cur t fr)) (hl : vs.length = cur.size) :
    w.setCells g 0 vs = w.setRow g vs.toArray := by
  have := setCells_from g t fr vs 0 cur w hg (by omega)
  simpa using this

section
variable {w : World} {S : Nat → Int} {k r t re im : Int} {w2 : World}

theorem AW.st2 (h : AW w S k r t re im w2) (T : Nat → Int) : AW w S k r t re im (w2.setCells (w.heap.size + 2) 0 (cl T)) := by
  obtain ⟨Z, hZ, hg⟩ := h.h2
  obtain ⟨Z3, hZ3, hg3⟩ := h.h3
  rw [setCells_row hg (by rw [cl_length, hZ])]
  exact ⟨(setRow_other _ _ _ _ (by omega)).trans h.hs, (setRow_other _ _ _ _ (by omega)).trans h.ho, ⟨_, cl_size T, setRow_heap _ _ _ _ _ _ hg⟩, ⟨Z3, hZ3, (setRow_other _ _ _ _ (by omega)).trans hg3⟩, below_setRow h.hb (by omega) _, by have := h.hz; simpa using this⟩

theorem AW.st3 (h : AW w S k r t re im w2) (i : Nat) (v : Value) : AW w S k r t re im (w2.setCell ⟨w.heap.size + 3, i, none⟩ v) := by
  obtain ⟨Z2, hZ2, hg2⟩ := h.h2
  obtain ⟨Z, hZ, hg⟩ := h.h3
  rw [setCell_eq_setRow _ _ _ _ _ _ _ hg]
  exact ⟨(setRow_other _ _ _ _ (by omega)).trans h.hs, (setRow_other _ _ _ _ (by omega)).trans h.ho, ⟨Z2, hZ2, (setRow_other _ _ _ _ (by omega)).trans hg2⟩, ⟨_, by simpa using hZ, setRow_heap _ _ _ _ _ _ hg⟩, below_setRow h.hb (by omega) _, by have := h.hz; simpa using this⟩

theorem AW.res (h : AW w S k r t re im w2) : ∃ v0 v1 v2, w2.cell? ⟨w.heap.size + 3, 0, none⟩ = some v0 ∧ w2.cell? ⟨w.heap.size + 3, 1, none⟩ = some v1 ∧ w2.cell? ⟨w.heap.size + 3, 2, none⟩ = some v2 ∧
    w2.frozen? ⟨w.heap.size + 3, 0, none⟩ = false ∧ w2.frozen? ⟨w.heap.size + 3, 1, none⟩ = false ∧ w2.frozen? ⟨w.heap.size + 3, 2, none⟩ = false := by
  obtain ⟨Z, hZ, hg⟩ := h.h3
  have key : ∀ i (hi : i < 3), w2.cell? ⟨w.heap.size + 3, i, none⟩ = some Z[i] := fun i hi => by
    rw [cell_of_row _ _ _ _ _ _ hg, Array.getElem?_eq_getElem]
  exact ⟨_, _, _, key 0 (by omega), key 1 (by omega), key 2 (by omega), by simp [World.frozen?, hg], by simp [World.frozen?, hg], by simp [World.frozen?, hg]⟩

theorem AW.limbs (h : AW w S k r t re im w2) (R : Nat) (hR : R < 8) : w2.rangeAt w.heap.size 0 (cl S) ∧ w2.cell? ⟨w.heap.size + 1, 1, none⟩ = some (.int .i64 r) ∧ w2.cell? ⟨w.heap.size, R * 2, none⟩ = some (.int .i64 (S (2 * R))) ∧ w2.cell? ⟨w.heap.size, R * 2 + 1, none⟩ = some (.int .i64 (S (2 * R + 1))) ∧ w2.there (w.heap.size + 2) 0 16 := by
  obtain ⟨Z, hZ, hg⟩ := h.h2
  refine ⟨h.range, h.op.2.1, ?_, ?_, there_of_block hg hZ⟩
  · rw [h.reg _ (by omega), Nat.mul_comm]
  · rw [h.reg _ (by omega), Nat.mul_comm]

theorem AW.fin (h : AW w S k r t re im w2) (T : Nat → Int) (a b c : Value) :
    ((((w2.setCells (w.heap.size + 2) 0 (cl T)).setCell ⟨w.heap.size + 3, 0, none⟩ a).setCell ⟨w.heap.size + 3, 1, none⟩ b).setCell ⟨w.heap.size + 3, 2, none⟩ c) = (w2.setRow (w.heap.size + 2) (cl T).toArray).setRow (w.heap.size + 3) #[a, b, c] := by
  obtain ⟨Z2, hZ2, hg2⟩ := h.h2
  rw [setCells_row hg2 (by rw [cl_length, hZ2])]
  obtain ⟨Z, hZ, hg⟩ := h.h3
  have g3 := (setRow_other w2 (w.heap.size + 2) (w.heap.size + 3) (cl T).toArray (by omega)).trans hg
  exact setCells_row (vs := [a, b, c]) g3 (by simp [hZ])

theorem AW.fin3 (h : AW w S k r t re im w2) (T : Nat → Int) (a b c : Value) :
    (w2.setCells (w.heap.size + 2) 0 (cl T)).setCells (w.heap.size + 3) 0 [a, b, c] = (w2.setRow (w.heap.size + 2) (cl T).toArray).setRow (w.heap.size + 3) #[a, b, c] := h.fin T a b c

theorem AW.st3' (h : AW w S k r t re im w2) (a b c : Value) : AW w S k r t re im (w2.setCells (w.heap.size + 3) 0 [a, b, c]) := ((h.st3 0 a).st3 1 b).st3 2 c

theorem AW.there2 (h : AW w S k r t re im w2) : w2.there (w.heap.size + 2) 0 (cl S).toArray.size := by
  obtain ⟨Z, hZ, hg⟩ := h.h2
  rw [cl_size]
  exact there_of_block hg hZ
theorem AW.there3 (h : AW w S k r t re im w2) : w2.there (w.heap.size + 3) 0 3 := by
  obtain ⟨Z, hZ, hg⟩ := h.h3
  exact there_of_block hg hZ
end

set_option maxRecDepth 100000 in
set_option maxHeartbeats 1600000 in
theorem apply_get (S : Nat → Int) (R : Nat) (hR : R < 8) (t re im : Int) (hS : okS S) (h : rightOp 1 R t re im) (w : World) :
    Calls Try.prog 30 #[.agg (cl S).toArray, .agg #[.int .i64 1, .int .i64 R, .int .i64 t, .int .i64 re, .int .i64 im]] w fun e w' =>
      e = .returned (.tuple #[.agg (cl S).toArray, .agg #[.int .i64 1, .int .i64 (S (2 * R)), .int .i64 (S (2 * R + 1))]]) ∧ Below w.heap.size w w' := by
  have hr := valid_any S
  rw [show vB S = true from decide_eq_true hS] at hr
  have hk := check_any 1 R t re im
  rw [show chk 1 R t re im = 0 from if_pos h] at hk
  have HR := hide hr
  have HK := hide hk
  clear hr hk hS h
  have R0 : (0 : Int) ≤ (R : Int) := Int.natCast_nonneg _
  have R8 : (R : Int) < 8 := by omega
  have A0 := four w S 1 R t re im #[.int .i64 0, .int .i64 0, .int .i64 0, .int .i64 0, .int .i64 0, .int .i64 0, .int .i64 0, .int .i64 0, .int .i64 0, .int .i64 0, .int .i64 0, .int .i64 0, .int .i64 0, .int .i64 0, .int .i64 0, .int .i64 0] #[.int .i64 0, .int .i64 0, .int .i64 0] rfl rfl
  go_enter Try.func30, Try.ntmps30
  go_wp2_with (refine wpList_load_row rfl 45 _ rfl w.heap.size rfl _ _ _ _ A0.hs Try.underlying45 rfl (size_cl S) ?_)
  refine (HR.out _).mono ?_
  rintro e w1 ⟨rfl, hb1⟩
  have A1 := A0.below hb1
  clear A0 hb1
  obtain ⟨o0, o1, o2, o3, o4⟩ := A1.op
  go_wp2_with fail
  refine (HK.out _).mono ?_
  rintro e w2 ⟨rfl, hb2⟩
  have A2 := A1.below hb2
  clear A1 hb2 o0 o1 o2 o3 o4
  obtain ⟨o0, o1, o2, o3, o4⟩ := A2.op
  go_wp2_with fail
  clear o0 o1 o2 o3 o4
  refine wp_region_held_drew (S := fun w' => AW w S 1 R t re im w') (by kernel_rfl) A2.drew (fun hHeld => ?_)
  refine wpAnyH_take (i := 0) (oi := _) (v := .agg (cl S).toArray) rfl (by kernel_rfl) (by kernel_rfl) (by kernel_rfl) (fun _ _ _ h => h) (yieldsIf_load_mid (by rfl) 45 (.tmp 2) rfl w.heap.size 0 rfl (cl S) _ (fun w' h => h.range) Try.underlying45 rfl (size_cl S)) hHeld ?_
  (try simp only [Act.put, List.setIfInBounds_toArray, List.set_cons_zero, List.set_cons_succ, List.getElem_toArray, List.getElem_cons_zero, List.getElem_cons_succ])
  refine wpAnyH_take (i := 1) (oi := _) (v := .pointer (some ⟨w.heap.size + 1, 1, none⟩)) rfl (by kernel_rfl) (by kernel_rfl) (by kernel_rfl) (fun _ _ _ h => h) (Or.inl ⟨by rfl, fun w' hSw => by go_simp⟩) hHeld ?_
  (try simp only [Act.put, List.setIfInBounds_toArray, List.set_cons_zero, List.set_cons_succ, List.getElem_toArray, List.getElem_cons_zero, List.getElem_cons_succ])
  refine wpAnyH_take (i := 2) (oi := _) (v := .int .i64 R) rfl (by kernel_rfl) (by kernel_rfl) (by kernel_rfl) (fun _ _ _ h => h) (Or.inl ⟨by rfl, fun w' hSw => by have q := hSw.op.2.1; go_simp⟩) hHeld ?_
  (try simp only [Act.put, List.setIfInBounds_toArray, List.set_cons_zero, List.set_cons_succ, List.getElem_toArray, List.getElem_cons_zero, List.getElem_cons_succ])
  refine wpAnyH_take (i := 3) (oi := _) (v := .pointer (some ⟨w.heap.size, R * 2, none⟩)) rfl (by kernel_rfl) (by kernel_rfl) (by kernel_rfl) (fun _ _ _ h => h) (Or.inl ⟨by rfl, fun w' hSw => by go_simp⟩) hHeld ?_
  (try simp only [Act.put, List.setIfInBounds_toArray, List.set_cons_zero, List.set_cons_succ, List.getElem_toArray, List.getElem_cons_zero, List.getElem_cons_succ])
  refine wpAnyH_take (i := 4) (oi := _) (v := .agg #[.int .i64 (S (2 * R)), .int .i64 (S (2 * R + 1))]) rfl (by kernel_rfl) (by kernel_rfl) (by kernel_rfl) (fun _ _ _ h => h) (Or.inl ⟨by rfl, fun w' hSw => by obtain ⟨_, _, q1, q2, _⟩ := hSw.limbs R hR; go_simp⟩) hHeld ?_
  (try simp only [Act.put, List.setIfInBounds_toArray, List.set_cons_zero, List.set_cons_succ, List.getElem_toArray, List.getElem_cons_zero, List.getElem_cons_succ])
  refine wpAnyH_ready (rs := [5]) (by kernel_rfl) (by simp) ?_
  refine AllReadyH.cons (o := _) rfl (fun K hK => ?_) AllReadyH.nil
  simp only [List.getElem_toArray, List.getElem_cons_zero, List.getElem_cons_succ]
  go_simp
  refine (result_any 1 _ _ _).mono ?_
  rintro e w3 ⟨rfl, hb3⟩
  have A3 := A2.drew.below hb3
  go_wp2_with fail
  refine hK.out _ _ A3 (fun hHeld => ?_)
  clear hK hb3
  (try simp only [Act.put, List.setIfInBounds_toArray, List.set_cons_zero, List.set_cons_succ, List.getElem_toArray, List.getElem_cons_zero, List.getElem_cons_succ])
  refine wpAnyH_ready (rs := [6]) (by kernel_rfl) (by simp) ?_
  refine AllReadyH.cons (o := _) rfl (fun K hK => ?_) AllReadyH.nil
  simp only [List.getElem_toArray, List.getElem_cons_zero, List.getElem_cons_succ]
  rw [if_pos (by rfl)]
  refine wp_store_mid 45 (.tmp 4) (.tmp 86) rfl (w.heap.size + 2) 0 (cl S).toArray rfl rfl A3.there2 (size_cl S) (one_cl S) ?_
  have A4 := A3.st2 S
  rw [List.toList_toArray]
  generalize hw4 : w3.setCells (w.heap.size + 2) 0 (cl S) = w4 at A4 ⊢
  have HW4 := hide hw4
  clear hw4
  refine hK.out _ _ A4 (fun hHeld => ?_)
  clear hK
  (try simp only [Act.put, List.setIfInBounds_toArray, List.set_cons_zero, List.set_cons_succ, List.getElem_toArray, List.getElem_cons_zero, List.getElem_cons_succ])
  refine wpAnyH_ready (rs := [7]) (by kernel_rfl) (by simp) ?_
  refine AllReadyH.cons (o := _) rfl (fun K hK => ?_) AllReadyH.nil
  simp only [List.getElem_toArray, List.getElem_cons_zero, List.getElem_cons_succ]
  rw [if_pos (by rfl)]
  refine wp_store_mid 50 (.tmp 5) (.tmp 91) rfl (w.heap.size + 3) 0 #[.int .i64 1, .int .i64 (S (2 * R)), .int .i64 (S (2 * R + 1))] rfl rfl A4.there3 size_res (one3 _ _ _) ?_
  have A5 := A4.st3' (.int .i64 1) (.int .i64 (S (2 * R))) (.int .i64 (S (2 * R + 1)))
  (try rw [List.toList_toArray])
  generalize hw5 : w4.setCells (w.heap.size + 3) 0 [.int .i64 1, .int .i64 (S (2 * R)), .int .i64 (S (2 * R + 1))] = w5 at A5 ⊢
  have HW5 := hide hw5
  clear hw5
  refine hK.out _ _ A5 (fun hHeld => ?_)
  clear hK
  (try simp only [Act.put, List.setIfInBounds_toArray, List.set_cons_zero, List.set_cons_succ, List.getElem_toArray, List.getElem_cons_zero, List.getElem_cons_succ])
  refine wpAnyH_done (by kernel_rfl) ?_ _
  go_wp2_with fail
  (try simp only [Exit.inBlock, Exit.then])
  have e := A3.fin3 S (.int .i64 1) (.int .i64 (S (2 * R))) (.int .i64 (S (2 * R + 1)))
  rw [HW4.out, HW5.out] at e
  obtain ⟨r1, r2, r3⟩ := A3.stored (cl S).toArray #[.int .i64 1, .int .i64 (S (2 * R)), .int .i64 (S (2 * R + 1))]
  rw [← e] at r1 r2 r3
  refine bodyPost_ret (v := .tuple #[.agg (cl S).toArray, .agg #[.int .i64 1, .int .i64 (S (2 * R)), .int .i64 (S (2 * R + 1))]]) ?_ rfl ⟨rfl, r3⟩
  exact results_rows rfl rfl r1 r2 (cl_size S) rfl
end Go.Proofs.Ytogkgmbldmfpiaa
