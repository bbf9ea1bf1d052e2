/-
  What Apply of package app finds in memory, and what it leaves. No condition.
-/
import Derived.Test.YtogkgmbldmfpiaaReckon
import Derived.Laws.CopyOwn
set_option linter.unusedSimpArgs false
set_option linter.unusedVariables false
namespace Go.Proofs.Ytogkgmbldmfpiaa
open Go.RowKit

/-- Memory within Apply: the state, the operation, room for the state and the result that are handed back; what was there before is as it was. -/
structure AW (w : World) (S : Nat → Int) (k r t re im : Int) (w2 : World) : Prop where
  hs : w2.heap[w.heap.size]? = some (.cells (cl S).toArray 45 (0, 0))
  ho : w2.heap[w.heap.size + 1]? = some (.cells #[.int .i64 k, .int .i64 r, .int .i64 t, .int .i64 re, .int .i64 im] 40 (0, 0))
  h2 : ∃ Z, Z.size = 16 ∧ w2.heap[w.heap.size + 2]? = some (.cells Z 45 (0, 0))
  h3 : ∃ Z, Z.size = 3 ∧ w2.heap[w.heap.size + 3]? = some (.cells Z 50 (0, 0))
  hb : Below w.heap.size w w2
  hz : w.heap.size + 4 ≤ w2.heap.size

theorem AW.below {w : World} {S : Nat → Int} {k r t re im : Int} {w2 w3 : World} (h : AW w S k r t re im w2) (hb : Below w2.heap.size w2 w3) : AW w S k r t re im w3 := by
  have hz := h.hz
  have key : ∀ i, i < w.heap.size + 4 → w3.heap[i]? = w2.heap[i]? := fun i hi => hb.block i (by omega)
  obtain ⟨Z2, a2, b2⟩ := h.h2
  obtain ⟨Z3, a3, b3⟩ := h.h3
  exact ⟨(key _ (by omega)).trans h.hs, (key _ (by omega)).trans h.ho, ⟨Z2, a2, (key _ (by omega)).trans b2⟩, ⟨Z3, a3, (key _ (by omega)).trans b3⟩,
    h.hb.trans (hb.mono (by omega)), by have := hb.size; omega⟩

theorem AW.drew {w : World} {S : Nat → Int} {k r t re im : Int} {w2 : World} (h : AW w S k r t re im w2) : AW w S k r t re im w2.drew := ⟨h.hs, h.ho, h.h2, h.h3, h.hb.drew, h.hz⟩

theorem AW.op {w : World} {S : Nat → Int} {k r t re im : Int} {w2 : World} (h : AW w S k r t re im w2) :
    w2.cell? ⟨w.heap.size + 1, 0, none⟩ = some (.int .i64 k) ∧ w2.cell? ⟨w.heap.size + 1, 1, none⟩ = some (.int .i64 r) ∧ w2.cell? ⟨w.heap.size + 1, 2, none⟩ = some (.int .i64 t) ∧ w2.cell? ⟨w.heap.size + 1, 3, none⟩ = some (.int .i64 re) ∧ w2.cell? ⟨w.heap.size + 1, 4, none⟩ = some (.int .i64 im) := by
  have key : ∀ i, w2.cell? ⟨w.heap.size + 1, i, none⟩ = (#[.int .i64 k, .int .i64 r, .int .i64 t, .int .i64 re, .int .i64 im] : Array Value)[i]? := fun i => cell_of_row _ _ _ _ _ _ h.ho
  exact ⟨key 0, key 1, key 2, key 3, key 4⟩

theorem AW.reg {w : World} {S : Nat → Int} {k r t re im : Int} {w2 : World} (h : AW w S k r t re im w2) (i : Nat) (hi : i < 16) : w2.cell? ⟨w.heap.size, i, none⟩ = some (.int .i64 (S i)) := by
  rw [cell_of_row _ _ _ _ _ _ h.hs, List.getElem?_toArray]
  exact cl_get S i hi

theorem AW.range {w : World} {S : Nat → Int} {k r t re im : Int} {w2 : World} (h : AW w S k r t re im w2) : w2.rangeAt w.heap.size 0 (cl S) := by
  intro j v hv
  rw [Nat.zero_add, cell_of_row _ _ _ _ _ _ h.hs, List.getElem?_toArray]
  exact hv

theorem there_of_block {w : World} {b n : Nat} {C : Array Value} {t : TypeId} (hb : w.heap[b]? = some (.cells C t (0, 0))) (hn : C.size = n) : w.there b 0 n := by
  intro j hj
  rw [Nat.zero_add]
  exact ⟨by rw [cell_of_row _ _ _ _ _ _ hb]; simp; omega, by simp [World.frozen?, hb]⟩

/-- Two results that lie in memory. -/
theorem results_rows {tmps : Array Value} {w : World} {g2 g3 : Nat} {A B : Array Value} {t2 t3 : TypeId}
    (h4 : tmps.getD 4 undef = .pointer (some ⟨g2, 0, none⟩)) (h5 : tmps.getD 5 undef = .pointer (some ⟨g3, 0, none⟩))
    (hA : w.heap[g2]? = some (.cells A t2 (0, 0))) (hB : w.heap[g3]? = some (.cells B t3 (0, 0))) (sA : A.size = 16) (sB : B.size = 3) :
    (results Try.f30 tmps).run Try.prog w = .ok (.tuple #[.agg A, .agg B]) w := by
  have h4' : tmps[4]?.getD undef = .pointer (some ⟨g2, 0, none⟩) := by simpa using h4
  have h5' : tmps[5]?.getD undef = .pointer (some ⟨g3, 0, none⟩) := by simpa using h5
  have i1 : (Try.prog.info? 45).map (·.size) = some A.size := by rw [sA]; kernel_rfl
  have i2 : (Try.prog.info? 50).map (·.size) = some B.size := by rw [sB]; kernel_rfl
  have e1 := run_loadVar_row (P := Try.prog) w g2 t2 45 A (0, 0) _ hA Try.underlying45 rfl i1
  have e2 := run_loadVar_row (P := Try.prog) w g3 t3 50 B (0, 0) _ hB Try.underlying50 rfl i2
  simp [results, Try.results30, h4', h5', asAddr, e1, e2]
  try rfl

/-- What is stored into the two rows that are handed back. -/
theorem AW.stored {w : World} {S : Nat → Int} {k r t re im : Int} {w2 : World} (h : AW w S k r t re im w2) (A B : Array Value) :
    ((w2.setRow (w.heap.size + 2) A).setRow (w.heap.size + 3) B).heap[w.heap.size + 2]? = some (.cells A 45 (0, 0)) ∧
    ((w2.setRow (w.heap.size + 2) A).setRow (w.heap.size + 3) B).heap[w.heap.size + 3]? = some (.cells B 50 (0, 0)) ∧
    Below w.heap.size w ((w2.setRow (w.heap.size + 2) A).setRow (w.heap.size + 3) B) := by
  obtain ⟨Z2, a2, b2⟩ := h.h2
  obtain ⟨Z3, a3, b3⟩ := h.h3
  have c2 := setRow_heap w2 _ _ A _ _ b2
  have c3 : (w2.setRow (w.heap.size + 2) A).heap[w.heap.size + 3]? = _ := (setRow_other w2 (w.heap.size + 2) (w.heap.size + 3) A (by omega)).trans b3
  exact ⟨(setRow_other _ _ _ B (by omega)).trans c2, setRow_heap _ _ _ B _ _ c3, below_setRow (below_setRow h.hb (by omega) A) (by omega) B⟩

theorem four (w : World) (S : Nat → Int) (k r t re im : Int) (Z2 Z3 : Array Value) (h2 : Z2.size = 16) (h3 : Z3.size = 3) :
    AW w S k r t re im ((((w.alloc (.cells (cl S).toArray 45)).alloc (.cells #[.int .i64 k, .int .i64 r, .int .i64 t, .int .i64 re, .int .i64 im] 40)).alloc (.cells Z2 45)).alloc (.cells Z3 50)) := by
  refine ⟨?_, ?_, ⟨Z2, h2, ?_⟩, ⟨Z3, h3, ?_⟩, by go_grown, by simp⟩
  · rw [Below.heap_alloc _ _ _ (by simp <;> omega), Below.heap_alloc _ _ _ (by simp <;> omega), Below.heap_alloc _ _ _ (by simp)]
    exact heap_alloc_new w _
  · rw [Below.heap_alloc _ _ _ (by simp <;> omega), Below.heap_alloc _ _ _ (by simp)]
    have := heap_alloc_new (w.alloc (.cells (cl S).toArray 45)) (.cells #[.int .i64 k, .int .i64 r, .int .i64 t, .int .i64 re, .int .i64 im] 40)
    simpa using this
  · rw [Below.heap_alloc _ _ _ (by simp)]
    have := heap_alloc_new ((w.alloc (.cells (cl S).toArray 45)).alloc (.cells #[.int .i64 k, .int .i64 r, .int .i64 t, .int .i64 re, .int .i64 im] 40)) (.cells Z2 45)
    simpa using this
  · have := heap_alloc_new (((w.alloc (.cells (cl S).toArray 45)).alloc (.cells #[.int .i64 k, .int .i64 r, .int .i64 t, .int .i64 re, .int .i64 im] 40)).alloc (.cells Z2 45)) (.cells Z3 50)
    simpa using this

theorem size_state : (Try.prog.info? 45).map (·.size) = some 16 := by kernel_rfl
theorem size_res : (Try.prog.info? 50).map (·.size) = some 3 := by kernel_rfl
theorem size_cl (S : Nat → Int) : (Try.prog.info? 45).map (·.size) = some (cl S).toArray.size := by rw [cl_size]; exact size_state
theorem one_cl (S : Nat → Int) : (cl S).toArray.all (·.oneCell') = true := all_oneCell_toArray (cl_one S)

theorem one3 (a b c : Int) : (#[.int .i64 a, .int .i64 b, .int .i64 c] : Array Value).all (·.oneCell') = true := by simp [Value.oneCell']

theorem apply_bad (S : Nat → Int) (k r t re im : Int) (h : ¬ (okS S ∧ rightOp k r t re im)) (w : World) :
    Calls Try.prog 30 #[.agg (cl S).toArray, .agg #[.int .i64 k, .int .i64 r, .int .i64 t, .int .i64 re, .int .i64 im]] w fun e w' =>
      e = .returned (.tuple #[.agg (cl S).toArray, .agg #[.int .i64 0, .int .i64 0, .int .i64 0]]) ∧ Below w.heap.size w w' := by
  by_cases hS : okS S
  · have hv : vB S = true := decide_eq_true hS
    have hc : chk k r t re im = 22 := if_neg fun hr => h ⟨hS, hr⟩
    clear h hS
    have hr := valid_any S
    rw [hv] at hr
    have hk := check_any k r t re im
    rw [hc] at hk
    clear hv hc
    have HR := hide hr
    have HK := hide hk
    clear hr hk
    have A0 := four w S k r t re im #[.int .i64 0, .int .i64 0, .int .i64 0, .int .i64 0, .int .i64 0, .int .i64 0, .int .i64 0, .int .i64 0, .int .i64 0, .int .i64 0, .int .i64 0, .int .i64 0, .int .i64 0, .int .i64 0, .int .i64 0, .int .i64 0] #[.int .i64 0, .int .i64 0, .int .i64 0] rfl rfl
    go_enter Try.func30, Try.ntmps30
    go_wp2_with (refine wpList_load_row rfl 45 _ rfl w.heap.size rfl _ _ _ _ A0.hs Try.underlying45 rfl (size_cl S) ?_)
    refine (HR.out _).mono ?_
    rintro e w1 ⟨rfl, hb1⟩
    have A1 := A0.below hb1
    clear A0 hb1
    obtain ⟨o0, o1, o2, o3, o4⟩ := A1.op
    go_wp2_with fail
    refine (HK.out _).mono ?_
    rintro e w2 ⟨rfl, hb2⟩
    have A2 := A1.below hb2
    clear A1 hb2 o0 o1 o2 o3 o4
    obtain ⟨Z2, a2, b2⟩ := A2.h2
    obtain ⟨Z3, a3, b3⟩ := A2.h3
    have b3' := (setRow_other w2 (w.heap.size + 2) (w.heap.size + 3) (cl S).toArray (by omega)).trans b3
    have HA2 := hide a2
    have HA3 := hide a3
    have HB2 := hide b2
    have HB3 := hide b3'
    clear a2 a3 b2 b3 b3'
    go_wp2_with (first
      | (refine wpList_load_row rfl 45 _ rfl w.heap.size rfl _ _ _ _ A2.hs Try.underlying45 rfl (size_cl S) ?_)
      | (refine wpList_store_row rfl 45 _ _ rfl (w.heap.size + 2) _ rfl rfl _ _ HB2.out (size_cl S) (HA2.out.trans (cl_size S).symm) (one_cl S) ?_)
      | (refine wpList_store_row rfl 50 _ _ rfl (w.heap.size + 3) #[.int .i64 0, .int .i64 0, .int .i64 0] rfl rfl _ _ HB3.out size_res HA3.out (one3 0 0 0) ?_))
    obtain ⟨r1, r2, r3⟩ := A2.stored (cl S).toArray #[.int .i64 0, .int .i64 0, .int .i64 0]
    (try simp only [Exit.inBlock, Exit.then])
    refine bodyPost_ret (v := .tuple #[.agg (cl S).toArray, .agg #[.int .i64 0, .int .i64 0, .int .i64 0]]) ?_ rfl ⟨rfl, r3⟩
    exact results_rows rfl rfl r1 r2 (cl_size S) rfl
  · have hv : vB S = false := decide_eq_false hS
    clear h hS
    have hr := valid_any S
    rw [hv] at hr
    clear hv
    have HR := hide hr
    clear hr
    have A0 := four w S k r t re im #[.int .i64 0, .int .i64 0, .int .i64 0, .int .i64 0, .int .i64 0, .int .i64 0, .int .i64 0, .int .i64 0, .int .i64 0, .int .i64 0, .int .i64 0, .int .i64 0, .int .i64 0, .int .i64 0, .int .i64 0, .int .i64 0] #[.int .i64 0, .int .i64 0, .int .i64 0] rfl rfl
    go_enter Try.func30, Try.ntmps30
    go_wp2_with (refine wpList_load_row rfl 45 _ rfl w.heap.size rfl _ _ _ _ A0.hs Try.underlying45 rfl (size_cl S) ?_)
    refine (HR.out _).mono ?_
    rintro e w2 ⟨rfl, hb1⟩
    have A2 := A0.below hb1
    clear A0 hb1
    obtain ⟨Z2, a2, b2⟩ := A2.h2
    obtain ⟨Z3, a3, b3⟩ := A2.h3
    have b3' := (setRow_other w2 (w.heap.size + 2) (w.heap.size + 3) (cl S).toArray (by omega)).trans b3
    have HA2 := hide a2
    have HA3 := hide a3
    have HB2 := hide b2
    have HB3 := hide b3'
    clear a2 a3 b2 b3 b3'
    go_wp2_with (first
      | (refine wpList_load_row rfl 45 _ rfl w.heap.size rfl _ _ _ _ A2.hs Try.underlying45 rfl (size_cl S) ?_)
      | (refine wpList_store_row rfl 45 _ _ rfl (w.heap.size + 2) _ rfl rfl _ _ HB2.out (size_cl S) (HA2.out.trans (cl_size S).symm) (one_cl S) ?_)
      | (refine wpList_store_row rfl 50 _ _ rfl (w.heap.size + 3) #[.int .i64 0, .int .i64 0, .int .i64 0] rfl rfl _ _ HB3.out size_res HA3.out (one3 0 0 0) ?_))
    obtain ⟨r1, r2, r3⟩ := A2.stored (cl S).toArray #[.int .i64 0, .int .i64 0, .int .i64 0]
    (try simp only [Exit.inBlock, Exit.then])
    refine bodyPost_ret (v := .tuple #[.agg (cl S).toArray, .agg #[.int .i64 0, .int .i64 0, .int .i64 0]]) ?_ rfl ⟨rfl, r3⟩
    exact results_rows rfl rfl r1 r2 (cl_size S) rfl
end Go.Proofs.Ytogkgmbldmfpiaa
