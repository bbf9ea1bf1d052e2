/-
  AppApplies: the walk. Condition: the slice reads as operations, at most 2^47 of them.
-/
import Derived.Test.YtogkgmbldmfpiaaRefApply
import Derived.Test.YtogkgmbldmfpiaaAppTwice
set_option linter.unusedSimpArgs false
set_option linter.unusedVariables false
namespace Go.Proofs.Ytogkgmbldmfpiaa
open Go.RowKit

theorem rapply_gen (S : Nat → Int) (o : Opv) (w : World) :
    Calls Try.prog 29 #[.agg (cl S).toArray, .agg #[.int .i64 o.k, .int .i64 o.r, .int .i64 o.t, .int .i64 o.re, .int .i64 o.im]] w fun e w' =>
      e = .returned (.tuple #[.agg (cl (appO S o).1).toArray, .agg #[.int .i64 (appO S o).2.1, .int .i64 (appO S o).2.2.1, .int .i64 (appO S o).2.2.2]]) ∧ Below w.heap.size w w' := rapply_any S o.k o.r o.t o.re o.im w

/-- The reference's state in its block, the program's in its own. -/
def Paired (w : World) (g2 g5 : Nat) (wr : World) : Prop := ∃ S, wr.heap[g2]? = some (.cells (cl S).toArray 38 (0, 0)) ∧ Blk wr g5 S ∧ Below w.heap.size w wr

theorem one_more {w : World} {g : Nat} {o x : Obj} (h : w.heap[g]? = some o) : (w.alloc x).heap[g]? = some o := (Below.heap_alloc w x g (Array.getElem?_eq_some_iff.1 h).1).trans h

set_option maxRecDepth 100000 in
set_option maxHeartbeats 8000000 in
theorem applies_walk (S0 : Nat → Int) (A : Option Addr) (c : Nat) (ts : List Opv) (w : World) (hO : HasO w w.heap.size A ts) (hn : ts.length ≤ 140737488351232) :
    Calls Try.prog 7 #[.agg (cl S0).toArray, .slice A ts.length c] w fun e w' => e = .returned (.bool true) ∧ Below w.heap.size w w' := by
  go_enter Try.func7, Try.ntmps7
  go_wp2_with fail
  refine (head4_any _).mono ?_
  rintro e w1 ⟨rfl, hb1⟩
  have z1 := hb1.size
  simp at z1
  have G1 : w1.heap[w.heap.size]? = some (.cells (cl S0).toArray 38 (0, 0)) := (hb1.block _ (by simp)).trans (heap_alloc_new w _)
  replace hb1 := below_of_alloc hb1
  have HG1 := hide G1
  clear G1
  go_wp2_with (first
    | (refine wpList_load_row rfl 38 _ rfl w.heap.size rfl _ _ _ _ HG1.out Try.underlying38 rfl (rsize_cl S0) ?_)
    | (refine wpList_store_row rfl 45 _ _ rfl w1.heap.size (cl S0).toArray rfl rfl _ _ (heap_alloc_new w1 _) (size_cl S0) (cl_size S0).symm (one_cl S0) ?_; rw [new_row]))
  go_loopw [17] (fun i wr => ∃ k : Nat, k ≤ ts.length ∧ i = .int .i64 k ∧ Paired w w.heap.size w1.heap.size wr) (fun i _ => ts.length - (intOf i).toNat)
  case atStart => exact ⟨0, Nat.zero_le _, rfl, S0, one_more HG1.out, Blk.new w1 S0, hb1.alloc (by omega) _⟩
  case round =>
    obtain ⟨k, hk, rfl, S, hG, hB, hbl⟩ := hrel
    clear HG1
    by_cases hlt : k < ts.length
    · obtain ⟨b, o, rfl, hbw, c0, c1, c2, c3, c4⟩ := hO.below hbl k hlt
      generalize ts[k] = ov at *
      have hzr := hB.lt
      have q0 : (0 : Int) ≤ (k : Int) := by omega
      have q1 : (k : Int) < (ts.length : Int) := by omega
      have hzw : w.heap.size < wr.heap.size := by omega
      go_upto_region 7 with fail
      have OP : (wr.alloc (.cells #[.int .i64 ov.k, .int .i64 ov.r, .int .i64 ov.t, .int .i64 ov.re, .int .i64 ov.im] 40)).heap[wr.heap.size]? = some (.cells #[.int .i64 ov.k, .int .i64 ov.r, .int .i64 ov.t, .int .i64 ov.re, .int .i64 ov.im] 40 (0, 0)) := heap_alloc_new wr _
      replace hG := one_more (x := .cells #[.int .i64 ov.k, .int .i64 ov.r, .int .i64 ov.t, .int .i64 ov.re, .int .i64 ov.im] 40) hG
      replace hB := hB.alloc (.cells #[.int .i64 ov.k, .int .i64 ov.r, .int .i64 ov.t, .int .i64 ov.re, .int .i64 ov.im] 40)
      replace hbl := hbl.alloc hbl.size (.cells #[.int .i64 ov.k, .int .i64 ov.r, .int .i64 ov.t, .int .i64 ov.re, .int .i64 ov.im] 40)
      have hzo : wr.heap.size < (wr.alloc (.cells #[.int .i64 ov.k, .int .i64 ov.r, .int .i64 ov.t, .int .i64 ov.re, .int .i64 ov.im] 40)).heap.size := by simp
      clear c0 c1 c2 c3 c4
      generalize wr.alloc (.cells #[.int .i64 ov.k, .int .i64 ov.r, .int .i64 ov.t, .int .i64 ov.re, .int .i64 ov.im] 40) = w2 at *
      generalize wr.heap.size = g7 at *
      obtain ⟨p0, p1, p2, p3, p4⟩ := cells5 OP
      have HG := hide hG
      have HB := hide hB.at_
      have HO := hide OP
      clear OP hG
      go_wp2_with (refine wpList_load_row rfl 38 _ rfl w.heap.size rfl _ _ _ _ HG.out Try.underlying38 rfl (rsize_cl S) ?_)
      refine (rapply_gen S ov _).mono ?_
      rintro e w3 ⟨rfl, hb3⟩
      have OP := (hb3.block g7 hzo).trans HO.out
      have hG := (hb3.block w.heap.size (by omega)).trans HG.out
      replace hB := hB.below hb3 hB.lt
      replace hbl := hbl.trans (hb3.mono hbl.size)
      have hz3 := hb3.size
      clear HG HB HO hb3 p0 p1 p2 p3 p4
      go_upto_region 8 with (refine wpList_store_row rfl 38 _ _ rfl w3.heap.size (cl (appO S ov).1).toArray rfl rfl _ _ (old2 w3 _ _) (rsize_cl _) (cl_size _).symm (one_cl _) ?_; rw [alloc_set2])
      have R8 : ((w3.alloc (.cells (cl (appO S ov).1).toArray 38)).alloc (.cells #[.int .i64 (appO S ov).2.1, .int .i64 (appO S ov).2.2.1, .int .i64 (appO S ov).2.2.2] 50)).heap[w3.heap.size]? = some (.cells (cl (appO S ov).1).toArray 38 (0, 0)) := old2 w3 _ _
      have R9 : ((w3.alloc (.cells (cl (appO S ov).1).toArray 38)).alloc (.cells #[.int .i64 (appO S ov).2.1, .int .i64 (appO S ov).2.2.1, .int .i64 (appO S ov).2.2.2] 50)).heap[w3.heap.size + 1]? = some (.cells #[.int .i64 (appO S ov).2.1, .int .i64 (appO S ov).2.2.1, .int .i64 (appO S ov).2.2.2] 50 (0, 0)) := by
        have := heap_alloc_new (w3.alloc (.cells (cl (appO S ov).1).toArray 38)) (.cells #[.int .i64 (appO S ov).2.1, .int .i64 (appO S ov).2.2.1, .int .i64 (appO S ov).2.2.2] 50)
        simpa using this
      replace OP := one_more (x := .cells #[.int .i64 (appO S ov).2.1, .int .i64 (appO S ov).2.2.1, .int .i64 (appO S ov).2.2.2] 50) (one_more (x := .cells (cl (appO S ov).1).toArray 38) OP)
      replace hG := one_more (x := .cells #[.int .i64 (appO S ov).2.1, .int .i64 (appO S ov).2.2.1, .int .i64 (appO S ov).2.2.2] 50) (one_more (x := .cells (cl (appO S ov).1).toArray 38) hG)
      replace hB := (hB.alloc (.cells (cl (appO S ov).1).toArray 38)).alloc (.cells #[.int .i64 (appO S ov).2.1, .int .i64 (appO S ov).2.2.1, .int .i64 (appO S ov).2.2.2] 50)
      replace hbl := (hbl.alloc hbl.size (.cells (cl (appO S ov).1).toArray 38)).alloc (by have := hbl.size; simp; omega) (.cells #[.int .i64 (appO S ov).2.1, .int .i64 (appO S ov).2.2.1, .int .i64 (appO S ov).2.2.2] 50)
      have g8e : w.heap.size < w3.heap.size ∧ w1.heap.size < w3.heap.size := by omega
      clear hz3 hzo
      generalize (w3.alloc (.cells (cl (appO S ov).1).toArray 38)).alloc (.cells #[.int .i64 (appO S ov).2.1, .int .i64 (appO S ov).2.2.1, .int .i64 (appO S ov).2.2.2] 50) = w4 at *
      generalize w3.heap.size = g8 at *
      obtain ⟨p0, p1, p2, p3, p4⟩ := cells5 OP
      have HB := hide hB.at_
      have HO := hide OP
      have HG := hide hG
      have H8 := hide R8
      have H9 := hide R9
      clear OP hG R8 R9
      go_wp2_with (refine wpList_load_row rfl 45 _ rfl w1.heap.size rfl _ _ _ _ HB.out Try.underlying45 rfl (size_cl S) ?_)
      refine (apply_gen S ov _).mono ?_
      rintro e w5 ⟨rfl, hb5⟩
      have lt8 := (Array.getElem?_eq_some_iff.1 H8.out).1
      have lt9 := (Array.getElem?_eq_some_iff.1 H9.out).1
      have hG := (hb5.block w.heap.size (by omega)).trans HG.out
      have R8 := (hb5.block g8 lt8).trans H8.out
      have R9 := (hb5.block (g8 + 1) lt9).trans H9.out
      replace hB := hB.below hb5 hB.lt
      replace hbl := hbl.trans (hb5.mono hbl.size)
      have hz5 := hb5.size
      clear HG HB HO H8 H9 hb5 p0 p1 p2 p3 p4
      go_upto_region 9 with (refine wpList_store_row rfl 45 _ _ rfl w5.heap.size (cl (appO S ov).1).toArray rfl rfl _ _ (old2 w5 _ _) (size_cl _) (cl_size _).symm (one_cl _) ?_; rw [alloc_set2])
      have B10 := (Blk.new w5 (appO S ov).1).alloc (.cells #[.int .i64 (appO S ov).2.1, .int .i64 (appO S ov).2.2.1, .int .i64 (appO S ov).2.2.2] 50)
      obtain ⟨f0, f1, f2⟩ := res_kept (Below.refl _ ((w5.alloc (.cells (cl (appO S ov).1).toArray 45)).alloc (.cells #[.int .i64 (appO S ov).2.1, .int .i64 (appO S ov).2.2.1, .int .i64 (appO S ov).2.2.2] 50)))
      replace hG := one_more (x := .cells #[.int .i64 (appO S ov).2.1, .int .i64 (appO S ov).2.2.1, .int .i64 (appO S ov).2.2.2] 50) (one_more (x := .cells (cl (appO S ov).1).toArray 45) hG)
      replace R8 := one_more (x := .cells #[.int .i64 (appO S ov).2.1, .int .i64 (appO S ov).2.2.1, .int .i64 (appO S ov).2.2.2] 50) (one_more (x := .cells (cl (appO S ov).1).toArray 45) R8)
      replace R9 := one_more (x := .cells #[.int .i64 (appO S ov).2.1, .int .i64 (appO S ov).2.2.1, .int .i64 (appO S ov).2.2.2] 50) (one_more (x := .cells (cl (appO S ov).1).toArray 45) R9)
      replace hB := (hB.alloc (.cells (cl (appO S ov).1).toArray 45)).alloc (.cells #[.int .i64 (appO S ov).2.1, .int .i64 (appO S ov).2.2.1, .int .i64 (appO S ov).2.2.2] 50)
      replace hbl := (hbl.alloc hbl.size (.cells (cl (appO S ov).1).toArray 45)).alloc (by have := hbl.size; simp; omega) (.cells #[.int .i64 (appO S ov).2.1, .int .i64 (appO S ov).2.2.1, .int .i64 (appO S ov).2.2.2] 50)
      have g10e : w.heap.size < w5.heap.size ∧ w1.heap.size < w5.heap.size := by omega
      clear hz5 lt8 lt9
      generalize (w5.alloc (.cells (cl (appO S ov).1).toArray 45)).alloc (.cells #[.int .i64 (appO S ov).2.1, .int .i64 (appO S ov).2.2.1, .int .i64 (appO S ov).2.2.2] 50) = w6 at *
      generalize w5.heap.size = g10 at *
      obtain ⟨r0, r1, r2⟩ := cells_3 R9
      have k1 := fun w => equal_res 9998 (appO S ov).2.1 (appO S ov).2.2.1 (appO S ov).2.2.2 (appO S ov).2.1 (appO S ov).2.2.1 (appO S ov).2.2.2 w
      rw [decide_eq_true rfl] at k1
      have k2 := fun w => equal_state (appO S ov).1 (appO S ov).1 w
      rw [sameS_refl] at k2
      have H8 := hide R8
      have H10 := hide B10.at_
      have HG := hide hG
      have HB := hide hB.at_
      clear R8 R9 hG
      go_upto_region 11 with (first
        | (refine wpList_load_want (by rfl) 45 (.tmp 10) rfl g10 rfl _ _ _ _ H10.out Try.underlying45 rfl (size_cl _) ?_)
        | (refine wpList_load_want (by rfl) 38 (.tmp 8) rfl g8 rfl _ _ _ _ H8.out Try.underlying38 rfl (rsize_cl _) ?_))
      clear r0 r1 r2 f0 f1 f2 k1 k2
      go_upto_region 12 with (first
        | (refine wpList_load_row rfl 38 (.tmp 8) rfl g8 rfl _ _ _ _ H8.out Try.underlying38 rfl (rsize_cl _) ?_)
        | (refine wpList_store_row rfl 38 _ _ rfl w.heap.size (cl (appO S ov).1).toArray rfl rfl _ _ HG.out (rsize_cl _) ((cl_size _).trans (cl_size _).symm) (one_cl _) ?_))
      have G7 := setRow_heap w6 _ _ (cl (appO S ov).1).toArray _ _ HG.out
      replace hB := hB.other (g' := w.heap.size) (cl (appO S ov).1).toArray (by omega)
      have B7 := B10.other (g' := w.heap.size) (cl (appO S ov).1).toArray (by omega)
      replace hbl := below_setRow hbl (Nat.le_refl _) (cl (appO S ov).1).toArray
      clear H8 H10 HG HB B10
      generalize w6.setRow w.heap.size (cl (appO S ov).1).toArray = w7 at *
      have H10 := hide B7.at_
      have HB := hide hB.at_
      have HG7 := hide G7
      clear G7
      go_wp2_with (first
        | (refine wpList_load_row rfl 45 (.tmp 10) rfl g10 rfl _ _ _ _ H10.out Try.underlying45 rfl (size_cl _) ?_)
        | (refine wpList_store_row rfl 45 _ _ rfl w1.heap.size (cl (appO S ov).1).toArray rfl rfl _ _ HB.out (size_cl _) ((cl_size _).trans (cl_size _).symm) (one_cl _) ?_))
      go_roundw
      case rel => exact ⟨k + 1, by omega, by go_num, (appO S ov).1, (setRow_other _ _ _ _ (by omega)).trans HG7.out, hB.set _, below_setRow hbl (by omega) _⟩
      case measure => simp [intOf]; omega
    · obtain rfl : k = ts.length := by omega
      go_wp2
      go_ret
      exact ⟨rfl, hbl⟩
end Go.Proofs.Ytogkgmbldmfpiaa
