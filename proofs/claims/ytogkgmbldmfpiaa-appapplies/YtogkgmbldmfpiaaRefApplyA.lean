/-
  The reference's Apply, kind by kind. No condition but that the state is valid and the operation right.
-/
import Derived.Test.YtogkgmbldmfpiaaRefBase
import Derived.BigRegion
import Derived.RegionTactic
import Derived.Deep.DeepCutAuto
set_option linter.unusedSimpArgs false
set_option linter.unusedVariables false
namespace Go.Proofs.Ytogkgmbldmfpiaa
open Go.RowKit

set_option maxRecDepth 100000 in
set_option maxHeartbeats 1600000 in
theorem rapply_bad (S : Nat → Int) (k : Int) (r : Int) (t : Int) (re im : Int) (h : ¬ (okS S ∧ rightOp k r t re im)) (w : World) :
    Calls Try.prog 29 #[.agg (cl S).toArray, .agg #[.int .i64 k, .int .i64 r, .int .i64 t, .int .i64 re, .int .i64 im]] w fun e w' =>
      e = .returned (.tuple #[.agg (cl (S)).toArray, .agg #[.int .i64 (0), .int .i64 (0), .int .i64 (0)]]) ∧ Below w.heap.size w w' := by
  have A0 := rfour w S k r t re im #[.int .i64 0, .int .i64 0, .int .i64 0, .int .i64 0, .int .i64 0, .int .i64 0, .int .i64 0, .int .i64 0, .int .i64 0, .int .i64 0, .int .i64 0, .int .i64 0, .int .i64 0, .int .i64 0, .int .i64 0, .int .i64 0] #[.int .i64 0, .int .i64 0, .int .i64 0] rfl rfl
  by_cases hS : okS S
  · have hr := refvalid_any S
    rw [show vB S = true from decide_eq_true hS] at hr
    have hk := opright_any k r t re im
    rw [show rB k r t re im = false from decide_eq_false fun x => h ⟨hS, x⟩] at hk
    have HR := hide hr
    have HK := hide hk
    clear hr hk h hS
    go_enter Try.func29, Try.ntmps29
    go_wp2_with (refine wpList_load_row rfl 38 _ rfl w.heap.size rfl _ _ _ _ A0.hs Try.underlying38 rfl (rsize_cl S) ?_)
    refine (HR.out _).mono ?_
    rintro e w1 ⟨rfl, hb1⟩
    have A1 := A0.below hb1
    clear A0 hb1
    obtain ⟨o0, o1, o2, o3, o4⟩ := A1.op
    go_wp2_with fail
    refine (HK.out _).mono ?_
    rintro e w2 ⟨rfl, hb2⟩
    have A2 := A1.below hb2
    clear A1 hb2 o0 o1 o2 o3 o4
    obtain ⟨Z2, a2, b2⟩ := A2.h2
    obtain ⟨Z3, a3, b3⟩ := A2.h3
    have b3' := (setRow_other (w2) (w.heap.size + 2) (w.heap.size + 3) (cl (S)).toArray (by omega)).trans b3
    have HA2 := hide a2
    have HA3 := hide a3
    have HB2 := hide b2
    have HB3 := hide b3'
    clear a2 a3 b2 b3 b3'
    go_wp2_with (first
      | (refine wpList_load_row rfl 38 _ rfl w.heap.size rfl _ _ _ _ A2.hs Try.underlying38 rfl (rsize_cl _) ?_)
      | (refine wpList_store_row rfl 38 _ _ rfl (w.heap.size + 2) _ rfl rfl _ _ HB2.out (rsize_cl (S)) (HA2.out.trans (cl_size _).symm) (one_cl _) ?_)
      | (refine wpList_store_row rfl 50 _ _ rfl (w.heap.size + 3) #[.int .i64 (0), .int .i64 (0), .int .i64 (0)] rfl rfl _ _ HB3.out size_res HA3.out (one3 (0) (0) (0)) ?_))
    obtain ⟨r1, r2, r3⟩ := A2.stored (cl (S)).toArray #[.int .i64 (0), .int .i64 (0), .int .i64 (0)]
    (try simp only [Exit.inBlock, Exit.then])
    refine bodyPost_ret (v := .tuple #[.agg (cl (S)).toArray, .agg #[.int .i64 (0), .int .i64 (0), .int .i64 (0)]]) ?_ rfl ⟨rfl, r3⟩
    exact rresults_rows rfl rfl r1 r2 (cl_size _) rfl
  · have hr := refvalid_any S
    rw [show vB S = false from decide_eq_false hS] at hr
    have HR := hide hr
    clear hr h hS
    go_enter Try.func29, Try.ntmps29
    go_wp2_with (refine wpList_load_row rfl 38 _ rfl w.heap.size rfl _ _ _ _ A0.hs Try.underlying38 rfl (rsize_cl S) ?_)
    refine (HR.out _).mono ?_
    rintro e w2 ⟨rfl, hb2⟩
    have A2 := A0.below hb2
    clear A0 hb2
    obtain ⟨Z2, a2, b2⟩ := A2.h2
    obtain ⟨Z3, a3, b3⟩ := A2.h3
    have b3' := (setRow_other (w2) (w.heap.size + 2) (w.heap.size + 3) (cl (S)).toArray (by omega)).trans b3
    have HA2 := hide a2
    have HA3 := hide a3
    have HB2 := hide b2
    have HB3 := hide b3'
    clear a2 a3 b2 b3 b3'
    go_wp2_with (first
      | (refine wpList_load_row rfl 38 _ rfl w.heap.size rfl _ _ _ _ A2.hs Try.underlying38 rfl (rsize_cl _) ?_)
      | (refine wpList_store_row rfl 38 _ _ rfl (w.heap.size + 2) _ rfl rfl _ _ HB2.out (rsize_cl (S)) (HA2.out.trans (cl_size _).symm) (one_cl _) ?_)
      | (refine wpList_store_row rfl 50 _ _ rfl (w.heap.size + 3) #[.int .i64 (0), .int .i64 (0), .int .i64 (0)] rfl rfl _ _ HB3.out size_res HA3.out (one3 (0) (0) (0)) ?_))
    obtain ⟨r1, r2, r3⟩ := A2.stored (cl (S)).toArray #[.int .i64 (0), .int .i64 (0), .int .i64 (0)]
    (try simp only [Exit.inBlock, Exit.then])
    refine bodyPost_ret (v := .tuple #[.agg (cl (S)).toArray, .agg #[.int .i64 (0), .int .i64 (0), .int .i64 (0)]]) ?_ rfl ⟨rfl, r3⟩
    exact rresults_rows rfl rfl r1 r2 (cl_size _) rfl

set_option maxRecDepth 100000 in
set_option maxHeartbeats 1600000 in
theorem rapply_get (S : Nat → Int) (R : Nat) (hR : R < 8) (t : Int) (re im : Int) (hS : okS S) (h : rightOp 1 R t re im) (w : World) :
    Calls Try.prog 29 #[.agg (cl S).toArray, .agg #[.int .i64 1, .int .i64 R, .int .i64 t, .int .i64 re, .int .i64 im]] w fun e w' =>
      e = .returned (.tuple #[.agg (cl (upd (S) R (S (2 * R)) (S (2 * R + 1)))).toArray, .agg #[.int .i64 (1), .int .i64 (S (2 * R)), .int .i64 (S (2 * R + 1))]]) ∧ Below w.heap.size w w' := by
  have hr := refvalid_any S
  rw [show vB S = true from decide_eq_true hS] at hr
  have hk := opright_any 1 R t re im
  rw [show rB 1 R t re im = true from decide_eq_true h] at hk
  have HR := hide hr
  have HK := hide hk
  have hre : inB re := h.2.2.2.2.2.1
  have him : inB im := h.2.2.2.2.2.2
  obtain ⟨ia, ib⟩ := hS R hR
  have ia' := ia
  have ib' := ib
  have hre' := hre
  have him' := him
  unfold inB at ia' ib' hre' him'
  clear hr hk hS h
  have R0 : (0 : Int) ≤ (R : Int) := Int.natCast_nonneg _
  have R8 : (R : Int) < 8 := by omega
  have A0 := rfour w S 1 R t re im #[.int .i64 0, .int .i64 0, .int .i64 0, .int .i64 0, .int .i64 0, .int .i64 0, .int .i64 0, .int .i64 0, .int .i64 0, .int .i64 0, .int .i64 0, .int .i64 0, .int .i64 0, .int .i64 0, .int .i64 0, .int .i64 0] #[.int .i64 0, .int .i64 0, .int .i64 0] rfl rfl
  go_enter Try.func29, Try.ntmps29
  go_wp2_with (refine wpList_load_row rfl 38 _ rfl w.heap.size rfl _ _ _ _ A0.hs Try.underlying38 rfl (rsize_cl S) ?_)
  refine (HR.out _).mono ?_
  rintro e w1 ⟨rfl, hb1⟩
  have A1 := A0.below hb1
  clear A0 hb1
  obtain ⟨o0, o1, o2, o3, o4⟩ := A1.op
  go_wp2_with fail
  refine (HK.out _).mono ?_
  rintro e w2 ⟨rfl, hb2⟩
  have A2 := A1.below hb2
  clear A1 hb2 o0 o1 o2 o3 o4 HR HK
  obtain ⟨o0, o1, o2, o3, o4⟩ := A2.op
  obtain ⟨c1, c2, z1, z2⟩ := A2.cells2 R hR
  go_wp2_with fail
  refine (refright_yes (S (2 * R)) (S (2 * R + 1)) ia ib _).mono ?_
  rintro e w' ⟨rfl, rfl⟩
  go_upto_region 28 with fail
  have A9 := A2.st1 R hR (S (2 * R)) (S (2 * R + 1))
  clear o0 o1 o2 o3 o4 c1 c2 z1 z2
  generalize ((w2).setCell ⟨w.heap.size, R * 2, none⟩ (.int .i64 (S (2 * R)))).setCell ⟨w.heap.size, R * 2 + 1, none⟩ (.int .i64 (S (2 * R + 1))) = w9 at *
  obtain ⟨Z2, a2, b2⟩ := A9.h2
  obtain ⟨Z3, a3, b3⟩ := A9.h3
  have b3' := (setRow_other (w9) (w.heap.size + 2) (w.heap.size + 3) (cl (upd (S) R (S (2 * R)) (S (2 * R + 1)))).toArray (by omega)).trans b3
  have HA2 := hide a2
  have HA3 := hide a3
  have HB2 := hide b2
  have HB3 := hide b3'
  clear a2 a3 b2 b3 b3'
  go_wp2_with (first
    | (refine wpList_load_row rfl 38 _ rfl w.heap.size rfl _ _ _ _ A9.hs Try.underlying38 rfl (rsize_cl _) ?_)
    | (refine wpList_store_row rfl 38 _ _ rfl (w.heap.size + 2) _ rfl rfl _ _ HB2.out (rsize_cl (upd (S) R (S (2 * R)) (S (2 * R + 1)))) (HA2.out.trans (cl_size _).symm) (one_cl _) ?_)
    | (refine wpList_store_row rfl 50 _ _ rfl (w.heap.size + 3) #[.int .i64 (1), .int .i64 (S (2 * R)), .int .i64 (S (2 * R + 1))] rfl rfl _ _ HB3.out size_res HA3.out (one3 (1) (S (2 * R)) (S (2 * R + 1))) ?_))
  obtain ⟨r1, r2, r3⟩ := A9.stored (cl (upd (S) R (S (2 * R)) (S (2 * R + 1)))).toArray #[.int .i64 (1), .int .i64 (S (2 * R)), .int .i64 (S (2 * R + 1))]
  (try simp only [Exit.inBlock, Exit.then])
  refine bodyPost_ret (v := .tuple #[.agg (cl (upd (S) R (S (2 * R)) (S (2 * R + 1)))).toArray, .agg #[.int .i64 (1), .int .i64 (S (2 * R)), .int .i64 (S (2 * R + 1))]]) ?_ rfl ⟨rfl, r3⟩
  exact rresults_rows rfl rfl r1 r2 (cl_size _) rfl

set_option maxRecDepth 100000 in
set_option maxHeartbeats 1600000 in
theorem rapply_put (S : Nat → Int) (R : Nat) (hR : R < 8) (t : Int) (re im : Int) (hS : okS S) (h : rightOp 2 R t re im) (w : World) :
    Calls Try.prog 29 #[.agg (cl S).toArray, .agg #[.int .i64 2, .int .i64 R, .int .i64 t, .int .i64 re, .int .i64 im]] w fun e w' =>
      e = .returned (.tuple #[.agg (cl (upd (S) R (re) (im))).toArray, .agg #[.int .i64 (1), .int .i64 (re), .int .i64 (im)]]) ∧ Below w.heap.size w w' := by
  have hr := refvalid_any S
  rw [show vB S = true from decide_eq_true hS] at hr
  have hk := opright_any 2 R t re im
  rw [show rB 2 R t re im = true from decide_eq_true h] at hk
  have HR := hide hr
  have HK := hide hk
  have hre : inB re := h.2.2.2.2.2.1
  have him : inB im := h.2.2.2.2.2.2
  obtain ⟨ia, ib⟩ := hS R hR
  have ia' := ia
  have ib' := ib
  have hre' := hre
  have him' := him
  unfold inB at ia' ib' hre' him'
  clear hr hk hS h
  have R0 : (0 : Int) ≤ (R : Int) := Int.natCast_nonneg _
  have R8 : (R : Int) < 8 := by omega
  have A0 := rfour w S 2 R t re im #[.int .i64 0, .int .i64 0, .int .i64 0, .int .i64 0, .int .i64 0, .int .i64 0, .int .i64 0, .int .i64 0, .int .i64 0, .int .i64 0, .int .i64 0, .int .i64 0, .int .i64 0, .int .i64 0, .int .i64 0, .int .i64 0] #[.int .i64 0, .int .i64 0, .int .i64 0] rfl rfl
  go_enter Try.func29, Try.ntmps29
  go_wp2_with (refine wpList_load_row rfl 38 _ rfl w.heap.size rfl _ _ _ _ A0.hs Try.underlying38 rfl (rsize_cl S) ?_)
  refine (HR.out _).mono ?_
  rintro e w1 ⟨rfl, hb1⟩
  have A1 := A0.below hb1
  clear A0 hb1
  obtain ⟨o0, o1, o2, o3, o4⟩ := A1.op
  go_wp2_with fail
  refine (HK.out _).mono ?_
  rintro e w2 ⟨rfl, hb2⟩
  have A2 := A1.below hb2
  clear A1 hb2 o0 o1 o2 o3 o4 HR HK
  obtain ⟨o0, o1, o2, o3, o4⟩ := A2.op
  obtain ⟨c1, c2, z1, z2⟩ := A2.cells2 R hR
  go_wp2_with fail
  refine (refright_yes (re) (im) hre him _).mono ?_
  rintro e w' ⟨rfl, rfl⟩
  go_upto_region 28 with fail
  have A9 := A2.st1 R hR (re) (im)
  clear o0 o1 o2 o3 o4 c1 c2 z1 z2
  generalize ((w2).setCell ⟨w.heap.size, R * 2, none⟩ (.int .i64 (re))).setCell ⟨w.heap.size, R * 2 + 1, none⟩ (.int .i64 (im)) = w9 at *
  obtain ⟨Z2, a2, b2⟩ := A9.h2
  obtain ⟨Z3, a3, b3⟩ := A9.h3
  have b3' := (setRow_other (w9) (w.heap.size + 2) (w.heap.size + 3) (cl (upd (S) R (re) (im))).toArray (by omega)).trans b3
  have HA2 := hide a2
  have HA3 := hide a3
  have HB2 := hide b2
  have HB3 := hide b3'
  clear a2 a3 b2 b3 b3'
  go_wp2_with (first
    | (refine wpList_load_row rfl 38 _ rfl w.heap.size rfl _ _ _ _ A9.hs Try.underlying38 rfl (rsize_cl _) ?_)
    | (refine wpList_store_row rfl 38 _ _ rfl (w.heap.size + 2) _ rfl rfl _ _ HB2.out (rsize_cl (upd (S) R (re) (im))) (HA2.out.trans (cl_size _).symm) (one_cl _) ?_)
    | (refine wpList_store_row rfl 50 _ _ rfl (w.heap.size + 3) #[.int .i64 (1), .int .i64 (re), .int .i64 (im)] rfl rfl _ _ HB3.out size_res HA3.out (one3 (1) (re) (im)) ?_))
  obtain ⟨r1, r2, r3⟩ := A9.stored (cl (upd (S) R (re) (im))).toArray #[.int .i64 (1), .int .i64 (re), .int .i64 (im)]
  (try simp only [Exit.inBlock, Exit.then])
  refine bodyPost_ret (v := .tuple #[.agg (cl (upd (S) R (re) (im))).toArray, .agg #[.int .i64 (1), .int .i64 (re), .int .i64 (im)]]) ?_ rfl ⟨rfl, r3⟩
  exact rresults_rows rfl rfl r1 r2 (cl_size _) rfl

set_option maxRecDepth 100000 in
set_option maxHeartbeats 1600000 in
theorem rapply_sum_yes (S : Nat → Int) (R : Nat) (hR : R < 8) (t : Int) (re im : Int) (hS : okS S) (h : rightOp 3 R t re im) (hin : (inB (S (2 * R) + re) ∧ inB (S (2 * R + 1) + im))) (w : World) :
    Calls Try.prog 29 #[.agg (cl S).toArray, .agg #[.int .i64 3, .int .i64 R, .int .i64 t, .int .i64 re, .int .i64 im]] w fun e w' =>
      e = .returned (.tuple #[.agg (cl (upd (S) R (S (2 * R) + re) (S (2 * R + 1) + im))).toArray, .agg #[.int .i64 (1), .int .i64 (S (2 * R) + re), .int .i64 (S (2 * R + 1) + im)]]) ∧ Below w.heap.size w w' := by
  have hr := refvalid_any S
  rw [show vB S = true from decide_eq_true hS] at hr
  have hk := opright_any 3 R t re im
  rw [show rB 3 R t re im = true from decide_eq_true h] at hk
  have HR := hide hr
  have HK := hide hk
  have hre : inB re := h.2.2.2.2.2.1
  have him : inB im := h.2.2.2.2.2.2
  obtain ⟨ia, ib⟩ := hS R hR
  have ia' := ia
  have ib' := ib
  have hre' := hre
  have him' := him
  unfold inB at ia' ib' hre' him'
  clear hr hk hS h
  have R0 : (0 : Int) ≤ (R : Int) := Int.natCast_nonneg _
  have R8 : (R : Int) < 8 := by omega
  have A0 := rfour w S 3 R t re im #[.int .i64 0, .int .i64 0, .int .i64 0, .int .i64 0, .int .i64 0, .int .i64 0, .int .i64 0, .int .i64 0, .int .i64 0, .int .i64 0, .int .i64 0, .int .i64 0, .int .i64 0, .int .i64 0, .int .i64 0, .int .i64 0] #[.int .i64 0, .int .i64 0, .int .i64 0] rfl rfl
  go_enter Try.func29, Try.ntmps29
  go_wp2_with (refine wpList_load_row rfl 38 _ rfl w.heap.size rfl _ _ _ _ A0.hs Try.underlying38 rfl (rsize_cl S) ?_)
  refine (HR.out _).mono ?_
  rintro e w1 ⟨rfl, hb1⟩
  have A1 := A0.below hb1
  clear A0 hb1
  obtain ⟨o0, o1, o2, o3, o4⟩ := A1.op
  go_wp2_with fail
  refine (HK.out _).mono ?_
  rintro e w2 ⟨rfl, hb2⟩
  have A2 := A1.below hb2
  clear A1 hb2 o0 o1 o2 o3 o4 HR HK
  obtain ⟨o0, o1, o2, o3, o4⟩ := A2.op
  obtain ⟨c1, c2, z1, z2⟩ := A2.cells2 R hR
  go_wp2_with fail
  refine (refright_yes (S (2 * R) + re) (S (2 * R + 1) + im) hin.1 hin.2 _).mono ?_
  rintro e w' ⟨rfl, rfl⟩
  go_upto_region 28 with fail
  have A9 := A2.st1 R hR (S (2 * R) + re) (S (2 * R + 1) + im)
  clear o0 o1 o2 o3 o4 c1 c2 z1 z2
  generalize ((w2).setCell ⟨w.heap.size, R * 2, none⟩ (.int .i64 (S (2 * R) + re))).setCell ⟨w.heap.size, R * 2 + 1, none⟩ (.int .i64 (S (2 * R + 1) + im)) = w9 at *
  obtain ⟨Z2, a2, b2⟩ := A9.h2
  obtain ⟨Z3, a3, b3⟩ := A9.h3
  have b3' := (setRow_other (w9) (w.heap.size + 2) (w.heap.size + 3) (cl (upd (S) R (S (2 * R) + re) (S (2 * R + 1) + im))).toArray (by omega)).trans b3
  have HA2 := hide a2
  have HA3 := hide a3
  have HB2 := hide b2
  have HB3 := hide b3'
  clear a2 a3 b2 b3 b3'
  go_wp2_with (first
    | (refine wpList_load_row rfl 38 _ rfl w.heap.size rfl _ _ _ _ A9.hs Try.underlying38 rfl (rsize_cl _) ?_)
    | (refine wpList_store_row rfl 38 _ _ rfl (w.heap.size + 2) _ rfl rfl _ _ HB2.out (rsize_cl (upd (S) R (S (2 * R) + re) (S (2 * R + 1) + im))) (HA2.out.trans (cl_size _).symm) (one_cl _) ?_)
    | (refine wpList_store_row rfl 50 _ _ rfl (w.heap.size + 3) #[.int .i64 (1), .int .i64 (S (2 * R) + re), .int .i64 (S (2 * R + 1) + im)] rfl rfl _ _ HB3.out size_res HA3.out (one3 (1) (S (2 * R) + re) (S (2 * R + 1) + im)) ?_))
  obtain ⟨r1, r2, r3⟩ := A9.stored (cl (upd (S) R (S (2 * R) + re) (S (2 * R + 1) + im))).toArray #[.int .i64 (1), .int .i64 (S (2 * R) + re), .int .i64 (S (2 * R + 1) + im)]
  (try simp only [Exit.inBlock, Exit.then])
  refine bodyPost_ret (v := .tuple #[.agg (cl (upd (S) R (S (2 * R) + re) (S (2 * R + 1) + im))).toArray, .agg #[.int .i64 (1), .int .i64 (S (2 * R) + re), .int .i64 (S (2 * R + 1) + im)]]) ?_ rfl ⟨rfl, r3⟩
  exact rresults_rows rfl rfl r1 r2 (cl_size _) rfl

set_option maxRecDepth 100000 in
set_option maxHeartbeats 1600000 in
theorem rapply_sum_no (S : Nat → Int) (R : Nat) (hR : R < 8) (t : Int) (re im : Int) (hS : okS S) (h : rightOp 3 R t re im) (hin : ¬ (inB (S (2 * R) + re) ∧ inB (S (2 * R + 1) + im))) (w : World) :
    Calls Try.prog 29 #[.agg (cl S).toArray, .agg #[.int .i64 3, .int .i64 R, .int .i64 t, .int .i64 re, .int .i64 im]] w fun e w' =>
      e = .returned (.tuple #[.agg (cl (S)).toArray, .agg #[.int .i64 (2), .int .i64 (0), .int .i64 (0)]]) ∧ Below w.heap.size w w' := by
  have hr := refvalid_any S
  rw [show vB S = true from decide_eq_true hS] at hr
  have hk := opright_any 3 R t re im
  rw [show rB 3 R t re im = true from decide_eq_true h] at hk
  have HR := hide hr
  have HK := hide hk
  have hre : inB re := h.2.2.2.2.2.1
  have him : inB im := h.2.2.2.2.2.2
  obtain ⟨ia, ib⟩ := hS R hR
  have ia' := ia
  have ib' := ib
  have hre' := hre
  have him' := him
  unfold inB at ia' ib' hre' him'
  clear hr hk hS h
  have R0 : (0 : Int) ≤ (R : Int) := Int.natCast_nonneg _
  have R8 : (R : Int) < 8 := by omega
  have A0 := rfour w S 3 R t re im #[.int .i64 0, .int .i64 0, .int .i64 0, .int .i64 0, .int .i64 0, .int .i64 0, .int .i64 0, .int .i64 0, .int .i64 0, .int .i64 0, .int .i64 0, .int .i64 0, .int .i64 0, .int .i64 0, .int .i64 0, .int .i64 0] #[.int .i64 0, .int .i64 0, .int .i64 0] rfl rfl
  go_enter Try.func29, Try.ntmps29
  go_wp2_with (refine wpList_load_row rfl 38 _ rfl w.heap.size rfl _ _ _ _ A0.hs Try.underlying38 rfl (rsize_cl S) ?_)
  refine (HR.out _).mono ?_
  rintro e w1 ⟨rfl, hb1⟩
  have A1 := A0.below hb1
  clear A0 hb1
  obtain ⟨o0, o1, o2, o3, o4⟩ := A1.op
  go_wp2_with fail
  refine (HK.out _).mono ?_
  rintro e w2 ⟨rfl, hb2⟩
  have A2 := A1.below hb2
  clear A1 hb2 o0 o1 o2 o3 o4 HR HK
  obtain ⟨o0, o1, o2, o3, o4⟩ := A2.op
  obtain ⟨c1, c2, z1, z2⟩ := A2.cells2 R hR
  go_wp2_with fail
  refine (refright_no (S (2 * R) + re) (S (2 * R + 1) + im) hin _).mono ?_
  rintro e w' ⟨rfl, rfl⟩
  obtain ⟨Z2, a2, b2⟩ := A2.h2
  obtain ⟨Z3, a3, b3⟩ := A2.h3
  have b3' := (setRow_other (w2) (w.heap.size + 2) (w.heap.size + 3) (cl (S)).toArray (by omega)).trans b3
  have HA2 := hide a2
  have HA3 := hide a3
  have HB2 := hide b2
  have HB3 := hide b3'
  clear a2 a3 b2 b3 b3'
  go_wp2_with (first
    | (refine wpList_load_row rfl 38 _ rfl w.heap.size rfl _ _ _ _ A2.hs Try.underlying38 rfl (rsize_cl _) ?_)
    | (refine wpList_store_row rfl 38 _ _ rfl (w.heap.size + 2) _ rfl rfl _ _ HB2.out (rsize_cl (S)) (HA2.out.trans (cl_size _).symm) (one_cl _) ?_)
    | (refine wpList_store_row rfl 50 _ _ rfl (w.heap.size + 3) #[.int .i64 (2), .int .i64 (0), .int .i64 (0)] rfl rfl _ _ HB3.out size_res HA3.out (one3 (2) (0) (0)) ?_))
  obtain ⟨r1, r2, r3⟩ := A2.stored (cl (S)).toArray #[.int .i64 (2), .int .i64 (0), .int .i64 (0)]
  (try simp only [Exit.inBlock, Exit.then])
  refine bodyPost_ret (v := .tuple #[.agg (cl (S)).toArray, .agg #[.int .i64 (2), .int .i64 (0), .int .i64 (0)]]) ?_ rfl ⟨rfl, r3⟩
  exact rresults_rows rfl rfl r1 r2 (cl_size _) rfl

end Go.Proofs.Ytogkgmbldmfpiaa
