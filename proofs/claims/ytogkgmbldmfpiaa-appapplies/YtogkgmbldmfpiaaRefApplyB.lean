/-
  The reference's Apply, kind by kind. No condition but that the state is valid and the operation right.
-/
import Derived.Test.YtogkgmbldmfpiaaRefBase
import Derived.BigRegion
import Derived.RegionTactic
import Derived.Deep.DeepCutAuto
set_option linter.unusedSimpArgs false
set_option linter.unusedVariables false
namespace Go.Proofs.Ytogkgmbldmfpiaa
open Go.RowKit

set_option maxRecDepth 100000 in
set_option maxHeartbeats 1600000 in
theorem rapply_prod_yes (S : Nat → Int) (R : Nat) (hR : R < 8) (t : Int) (re im : Int) (hS : okS S) (h : rightOp 4 R t re im) (hin : (inB (S (2 * R) * re - S (2 * R + 1) * im) ∧ inB (S (2 * R) * im + S (2 * R + 1) * re))) (w : World) :
    Calls Try.prog 29 #[.agg (cl S).toArray, .agg #[.int .i64 4, .int .i64 R, .int .i64 t, .int .i64 re, .int .i64 im]] w fun e w' =>
      e = .returned (.tuple #[.agg (cl (upd (S) R (S (2 * R) * re - S (2 * R + 1) * im) (S (2 * R) * im + S (2 * R + 1) * re))).toArray, .agg #[.int .i64 (1), .int .i64 (S (2 * R) * re - S (2 * R + 1) * im), .int .i64 (S (2 * R) * im + S (2 * R + 1) * re)]]) ∧ Below w.heap.size w w' := by
  have hr := refvalid_any S
  rw [show vB S = true from decide_eq_true hS] at hr
  have hk := opright_any 4 R t re im
  rw [show rB 4 R t re im = true from decide_eq_true h] at hk
  have HR := hide hr
  have HK := hide hk
  have hre : inB re := h.2.2.2.2.2.1
  have him : inB im := h.2.2.2.2.2.2
  obtain ⟨ia, ib⟩ := hS R hR
  have ia' := ia
  have ib' := ib
  have hre' := hre
  have him' := him
  unfold inB at ia' ib' hre' him'
  clear hr hk hS h
  have R0 : (0 : Int) ≤ (R : Int) := Int.natCast_nonneg _
  have R8 : (R : Int) < 8 := by omega
  have A0 := rfour w S 4 R t re im #[.int .i64 0, .int .i64 0, .int .i64 0, .int .i64 0, .int .i64 0, .int .i64 0, .int .i64 0, .int .i64 0, .int .i64 0, .int .i64 0, .int .i64 0, .int .i64 0, .int .i64 0, .int .i64 0, .int .i64 0, .int .i64 0] #[.int .i64 0, .int .i64 0, .int .i64 0] rfl rfl
  go_enter Try.func29, Try.ntmps29
  go_wp2_with (refine wpList_load_row rfl 38 _ rfl w.heap.size rfl _ _ _ _ A0.hs Try.underlying38 rfl (rsize_cl S) ?_)
  refine (HR.out _).mono ?_
  rintro e w1 ⟨rfl, hb1⟩
  have A1 := A0.below hb1
  clear A0 hb1
  obtain ⟨o0, o1, o2, o3, o4⟩ := A1.op
  go_wp2_with fail
  refine (HK.out _).mono ?_
  rintro e w2 ⟨rfl, hb2⟩
  have A2 := A1.below hb2
  clear A1 hb2 o0 o1 o2 o3 o4 HR HK
  obtain ⟨o0, o1, o2, o3, o4⟩ := A2.op
  obtain ⟨c1, c2, z1, z2⟩ := A2.cells2 R hR
  have m1 := mul_bd ia hre
  have m2 := mul_bd ib him
  have m3 := mul_bd ia him
  have m4 := mul_bd ib hre
  go_wp2_with fail
  go_quiet (fail)
  have A3 := A2.drewN nq
  clear o0 o1 o2 o3 o4 c1 c2 z1 z2 A2
  generalize w2.drewN nq = w3 at *
  obtain ⟨o0, o1, o2, o3, o4⟩ := A3.op
  obtain ⟨c1, c2, z1, z2⟩ := A3.cells2 R hR
  go_wp2_with fail
  refine (refright_yes (S (2 * R) * re - S (2 * R + 1) * im) (S (2 * R) * im + S (2 * R + 1) * re) hin.1 hin.2 _).mono ?_
  rintro e w' ⟨rfl, rfl⟩
  go_upto_region 28 with fail
  have A9 := A3.st1 R hR (S (2 * R) * re - S (2 * R + 1) * im) (S (2 * R) * im + S (2 * R + 1) * re)
  clear o0 o1 o2 o3 o4 c1 c2 z1 z2
  generalize ((w3).setCell ⟨w.heap.size, R * 2, none⟩ (.int .i64 (S (2 * R) * re - S (2 * R + 1) * im))).setCell ⟨w.heap.size, R * 2 + 1, none⟩ (.int .i64 (S (2 * R) * im + S (2 * R + 1) * re)) = w9 at *
  obtain ⟨Z2, a2, b2⟩ := A9.h2
  obtain ⟨Z3, a3, b3⟩ := A9.h3
  have b3' := (setRow_other (w9) (w.heap.size + 2) (w.heap.size + 3) (cl (upd (S) R (S (2 * R) * re - S (2 * R + 1) * im) (S (2 * R) * im + S (2 * R + 1) * re))).toArray (by omega)).trans b3
  have HA2 := hide a2
  have HA3 := hide a3
  have HB2 := hide b2
  have HB3 := hide b3'
  clear a2 a3 b2 b3 b3'
  go_wp2_with (first
    | (refine wpList_load_row rfl 38 _ rfl w.heap.size rfl _ _ _ _ A9.hs Try.underlying38 rfl (rsize_cl _) ?_)
    | (refine wpList_store_row rfl 38 _ _ rfl (w.heap.size + 2) _ rfl rfl _ _ HB2.out (rsize_cl (upd (S) R (S (2 * R) * re - S (2 * R + 1) * im) (S (2 * R) * im + S (2 * R + 1) * re))) (HA2.out.trans (cl_size _).symm) (one_cl _) ?_)
    | (refine wpList_store_row rfl 50 _ _ rfl (w.heap.size + 3) #[.int .i64 (1), .int .i64 (S (2 * R) * re - S (2 * R + 1) * im), .int .i64 (S (2 * R) * im + S (2 * R + 1) * re)] rfl rfl _ _ HB3.out size_res HA3.out (one3 (1) (S (2 * R) * re - S (2 * R + 1) * im) (S (2 * R) * im + S (2 * R + 1) * re)) ?_))
  obtain ⟨r1, r2, r3⟩ := A9.stored (cl (upd (S) R (S (2 * R) * re - S (2 * R + 1) * im) (S (2 * R) * im + S (2 * R + 1) * re))).toArray #[.int .i64 (1), .int .i64 (S (2 * R) * re - S (2 * R + 1) * im), .int .i64 (S (2 * R) * im + S (2 * R + 1) * re)]
  (try simp only [Exit.inBlock, Exit.then])
  refine bodyPost_ret (v := .tuple #[.agg (cl (upd (S) R (S (2 * R) * re - S (2 * R + 1) * im) (S (2 * R) * im + S (2 * R + 1) * re))).toArray, .agg #[.int .i64 (1), .int .i64 (S (2 * R) * re - S (2 * R + 1) * im), .int .i64 (S (2 * R) * im + S (2 * R + 1) * re)]]) ?_ rfl ⟨rfl, r3⟩
  exact rresults_rows rfl rfl r1 r2 (cl_size _) rfl

set_option maxRecDepth 100000 in
set_option maxHeartbeats 1600000 in
theorem rapply_prod_no (S : Nat → Int) (R : Nat) (hR : R < 8) (t : Int) (re im : Int) (hS : okS S) (h : rightOp 4 R t re im) (hin : ¬ (inB (S (2 * R) * re - S (2 * R + 1) * im) ∧ inB (S (2 * R) * im + S (2 * R + 1) * re))) (w : World) :
    Calls Try.prog 29 #[.agg (cl S).toArray, .agg #[.int .i64 4, .int .i64 R, .int .i64 t, .int .i64 re, .int .i64 im]] w fun e w' =>
      e = .returned (.tuple #[.agg (cl (S)).toArray, .agg #[.int .i64 (2), .int .i64 (0), .int .i64 (0)]]) ∧ Below w.heap.size w w' := by
  have hr := refvalid_any S
  rw [show vB S = true from decide_eq_true hS] at hr
  have hk := opright_any 4 R t re im
  rw [show rB 4 R t re im = true from decide_eq_true h] at hk
  have HR := hide hr
  have HK := hide hk
  have hre : inB re := h.2.2.2.2.2.1
  have him : inB im := h.2.2.2.2.2.2
  obtain ⟨ia, ib⟩ := hS R hR
  have ia' := ia
  have ib' := ib
  have hre' := hre
  have him' := him
  unfold inB at ia' ib' hre' him'
  clear hr hk hS h
  have R0 : (0 : Int) ≤ (R : Int) := Int.natCast_nonneg _
  have R8 : (R : Int) < 8 := by omega
  have A0 := rfour w S 4 R t re im #[.int .i64 0, .int .i64 0, .int .i64 0, .int .i64 0, .int .i64 0, .int .i64 0, .int .i64 0, .int .i64 0, .int .i64 0, .int .i64 0, .int .i64 0, .int .i64 0, .int .i64 0, .int .i64 0, .int .i64 0, .int .i64 0] #[.int .i64 0, .int .i64 0, .int .i64 0] rfl rfl
  go_enter Try.func29, Try.ntmps29
  go_wp2_with (refine wpList_load_row rfl 38 _ rfl w.heap.size rfl _ _ _ _ A0.hs Try.underlying38 rfl (rsize_cl S) ?_)
  refine (HR.out _).mono ?_
  rintro e w1 ⟨rfl, hb1⟩
  have A1 := A0.below hb1
  clear A0 hb1
  obtain ⟨o0, o1, o2, o3, o4⟩ := A1.op
  go_wp2_with fail
  refine (HK.out _).mono ?_
  rintro e w2 ⟨rfl, hb2⟩
  have A2 := A1.below hb2
  clear A1 hb2 o0 o1 o2 o3 o4 HR HK
  obtain ⟨o0, o1, o2, o3, o4⟩ := A2.op
  obtain ⟨c1, c2, z1, z2⟩ := A2.cells2 R hR
  have m1 := mul_bd ia hre
  have m2 := mul_bd ib him
  have m3 := mul_bd ia him
  have m4 := mul_bd ib hre
  go_wp2_with fail
  go_quiet (fail)
  have A3 := A2.drewN nq
  clear o0 o1 o2 o3 o4 c1 c2 z1 z2 A2
  generalize w2.drewN nq = w3 at *
  obtain ⟨o0, o1, o2, o3, o4⟩ := A3.op
  obtain ⟨c1, c2, z1, z2⟩ := A3.cells2 R hR
  go_wp2_with fail
  refine (refright_no (S (2 * R) * re - S (2 * R + 1) * im) (S (2 * R) * im + S (2 * R + 1) * re) hin _).mono ?_
  rintro e w' ⟨rfl, rfl⟩
  obtain ⟨Z2, a2, b2⟩ := A3.h2
  obtain ⟨Z3, a3, b3⟩ := A3.h3
  have b3' := (setRow_other (w3) (w.heap.size + 2) (w.heap.size + 3) (cl (S)).toArray (by omega)).trans b3
  have HA2 := hide a2
  have HA3 := hide a3
  have HB2 := hide b2
  have HB3 := hide b3'
  clear a2 a3 b2 b3 b3'
  go_wp2_with (first
    | (refine wpList_load_row rfl 38 _ rfl w.heap.size rfl _ _ _ _ A3.hs Try.underlying38 rfl (rsize_cl _) ?_)
    | (refine wpList_store_row rfl 38 _ _ rfl (w.heap.size + 2) _ rfl rfl _ _ HB2.out (rsize_cl (S)) (HA2.out.trans (cl_size _).symm) (one_cl _) ?_)
    | (refine wpList_store_row rfl 50 _ _ rfl (w.heap.size + 3) #[.int .i64 (2), .int .i64 (0), .int .i64 (0)] rfl rfl _ _ HB3.out size_res HA3.out (one3 (2) (0) (0)) ?_))
  obtain ⟨r1, r2, r3⟩ := A3.stored (cl (S)).toArray #[.int .i64 (2), .int .i64 (0), .int .i64 (0)]
  (try simp only [Exit.inBlock, Exit.then])
  refine bodyPost_ret (v := .tuple #[.agg (cl (S)).toArray, .agg #[.int .i64 (2), .int .i64 (0), .int .i64 (0)]]) ?_ rfl ⟨rfl, r3⟩
  exact rresults_rows rfl rfl r1 r2 (cl_size _) rfl

set_option maxRecDepth 100000 in
set_option maxHeartbeats 1600000 in
theorem rapply_turn (S : Nat → Int) (R : Nat) (hR : R < 8) (t : Int) (re im : Int) (hS : okS S) (h : rightOp 5 R t re im) (P1 P2 : Int) (hp : inB P1 ∧ inB P2) (HT : Hid (∀ w : World, Calls Try.prog 21 #[.int .i64 (S (2 * R)), .int .i64 (S (2 * R + 1)), .int .i64 t] w fun e w' => e = .returned (.tuple #[.int .i64 P1, .int .i64 P2]) ∧ w = w')) (w : World) :
    Calls Try.prog 29 #[.agg (cl S).toArray, .agg #[.int .i64 5, .int .i64 R, .int .i64 t, .int .i64 re, .int .i64 im]] w fun e w' =>
      e = .returned (.tuple #[.agg (cl (upd (S) R (P1) (P2))).toArray, .agg #[.int .i64 (1), .int .i64 (P1), .int .i64 (P2)]]) ∧ Below w.heap.size w w' := by
  have hr := refvalid_any S
  rw [show vB S = true from decide_eq_true hS] at hr
  have hk := opright_any 5 R t re im
  rw [show rB 5 R t re im = true from decide_eq_true h] at hk
  have HR := hide hr
  have HK := hide hk
  have hre : inB re := h.2.2.2.2.2.1
  have him : inB im := h.2.2.2.2.2.2
  obtain ⟨ia, ib⟩ := hS R hR
  have ia' := ia
  have ib' := ib
  have hre' := hre
  have him' := him
  unfold inB at ia' ib' hre' him'
  clear hr hk hS h
  have R0 : (0 : Int) ≤ (R : Int) := Int.natCast_nonneg _
  have R8 : (R : Int) < 8 := by omega
  have A0 := rfour w S 5 R t re im #[.int .i64 0, .int .i64 0, .int .i64 0, .int .i64 0, .int .i64 0, .int .i64 0, .int .i64 0, .int .i64 0, .int .i64 0, .int .i64 0, .int .i64 0, .int .i64 0, .int .i64 0, .int .i64 0, .int .i64 0, .int .i64 0] #[.int .i64 0, .int .i64 0, .int .i64 0] rfl rfl
  go_enter Try.func29, Try.ntmps29
  go_wp2_with (refine wpList_load_row rfl 38 _ rfl w.heap.size rfl _ _ _ _ A0.hs Try.underlying38 rfl (rsize_cl S) ?_)
  refine (HR.out _).mono ?_
  rintro e w1 ⟨rfl, hb1⟩
  have A1 := A0.below hb1
  clear A0 hb1
  obtain ⟨o0, o1, o2, o3, o4⟩ := A1.op
  go_wp2_with fail
  refine (HK.out _).mono ?_
  rintro e w2 ⟨rfl, hb2⟩
  have A2 := A1.below hb2
  clear A1 hb2 o0 o1 o2 o3 o4 HR HK
  obtain ⟨o0, o1, o2, o3, o4⟩ := A2.op
  obtain ⟨c1, c2, z1, z2⟩ := A2.cells2 R hR
  go_wp2_with fail
  refine (HT.out _).mono ?_
  rintro e w' ⟨rfl, rfl⟩
  go_wp2_with fail
  refine (refright_yes (P1) (P2) hp.1 hp.2 _).mono ?_
  rintro e w' ⟨rfl, rfl⟩
  go_upto_region 28 with fail
  have A9 := A2.st1 R hR (P1) (P2)
  clear o0 o1 o2 o3 o4 c1 c2 z1 z2
  generalize ((w2).setCell ⟨w.heap.size, R * 2, none⟩ (.int .i64 (P1))).setCell ⟨w.heap.size, R * 2 + 1, none⟩ (.int .i64 (P2)) = w9 at *
  obtain ⟨Z2, a2, b2⟩ := A9.h2
  obtain ⟨Z3, a3, b3⟩ := A9.h3
  have b3' := (setRow_other (w9) (w.heap.size + 2) (w.heap.size + 3) (cl (upd (S) R (P1) (P2))).toArray (by omega)).trans b3
  have HA2 := hide a2
  have HA3 := hide a3
  have HB2 := hide b2
  have HB3 := hide b3'
  clear a2 a3 b2 b3 b3'
  go_wp2_with (first
    | (refine wpList_load_row rfl 38 _ rfl w.heap.size rfl _ _ _ _ A9.hs Try.underlying38 rfl (rsize_cl _) ?_)
    | (refine wpList_store_row rfl 38 _ _ rfl (w.heap.size + 2) _ rfl rfl _ _ HB2.out (rsize_cl (upd (S) R (P1) (P2))) (HA2.out.trans (cl_size _).symm) (one_cl _) ?_)
    | (refine wpList_store_row rfl 50 _ _ rfl (w.heap.size + 3) #[.int .i64 (1), .int .i64 (P1), .int .i64 (P2)] rfl rfl _ _ HB3.out size_res HA3.out (one3 (1) (P1) (P2)) ?_))
  obtain ⟨r1, r2, r3⟩ := A9.stored (cl (upd (S) R (P1) (P2))).toArray #[.int .i64 (1), .int .i64 (P1), .int .i64 (P2)]
  (try simp only [Exit.inBlock, Exit.then])
  refine bodyPost_ret (v := .tuple #[.agg (cl (upd (S) R (P1) (P2))).toArray, .agg #[.int .i64 (1), .int .i64 (P1), .int .i64 (P2)]]) ?_ rfl ⟨rfl, r3⟩
  exact rresults_rows rfl rfl r1 r2 (cl_size _) rfl

set_option maxRecDepth 100000 in
set_option maxHeartbeats 1600000 in
theorem rapply_swap (S : Nat → Int) (R : Nat) (hR : R < 8) (T : Nat) (hT : T < 8) (re im : Int) (hS : okS S) (h : rightOp 6 R T re im) (w : World) :
    Calls Try.prog 29 #[.agg (cl S).toArray, .agg #[.int .i64 6, .int .i64 R, .int .i64 T, .int .i64 re, .int .i64 im]] w fun e w' =>
      e = .returned (.tuple #[.agg (cl (upd (upd S T (S (2 * R)) (S (2 * R + 1))) R (S (2 * T)) (S (2 * T + 1)))).toArray, .agg #[.int .i64 (1), .int .i64 (S (2 * T)), .int .i64 (S (2 * T + 1))]]) ∧ Below w.heap.size w w' := by
  have hr := refvalid_any S
  rw [show vB S = true from decide_eq_true hS] at hr
  have hk := opright_any 6 R T re im
  rw [show rB 6 R T re im = true from decide_eq_true h] at hk
  have HR := hide hr
  have HK := hide hk
  have hre : inB re := h.2.2.2.2.2.1
  have him : inB im := h.2.2.2.2.2.2
  obtain ⟨ia, ib⟩ := hS R hR
  have ia' := ia
  have ib' := ib
  have hre' := hre
  have him' := him
  unfold inB at ia' ib' hre' him'
  obtain ⟨ja, jb⟩ := hS T hT
  have T0 : (0 : Int) ≤ (T : Int) := Int.natCast_nonneg _
  have T8 : (T : Int) < 8 := by omega
  clear hr hk hS h
  have R0 : (0 : Int) ≤ (R : Int) := Int.natCast_nonneg _
  have R8 : (R : Int) < 8 := by omega
  have A0 := rfour w S 6 R T re im #[.int .i64 0, .int .i64 0, .int .i64 0, .int .i64 0, .int .i64 0, .int .i64 0, .int .i64 0, .int .i64 0, .int .i64 0, .int .i64 0, .int .i64 0, .int .i64 0, .int .i64 0, .int .i64 0, .int .i64 0, .int .i64 0] #[.int .i64 0, .int .i64 0, .int .i64 0] rfl rfl
  go_enter Try.func29, Try.ntmps29
  go_wp2_with (refine wpList_load_row rfl 38 _ rfl w.heap.size rfl _ _ _ _ A0.hs Try.underlying38 rfl (rsize_cl S) ?_)
  refine (HR.out _).mono ?_
  rintro e w1 ⟨rfl, hb1⟩
  have A1 := A0.below hb1
  clear A0 hb1
  obtain ⟨o0, o1, o2, o3, o4⟩ := A1.op
  go_wp2_with fail
  refine (HK.out _).mono ?_
  rintro e w2 ⟨rfl, hb2⟩
  have A2 := A1.below hb2
  clear A1 hb2 o0 o1 o2 o3 o4 HR HK
  obtain ⟨o0, o1, o2, o3, o4⟩ := A2.op
  obtain ⟨c1, c2, z1, z2⟩ := A2.cells2 R hR
  obtain ⟨d1, d2, y1, y2⟩ := A2.cells2 T hT
  go_wp2_with fail
  go_region
  have A3 := (A2.st1 T hT (S (2 * R)) (S (2 * R + 1))).drew
  clear o0 o1 o2 o3 o4 c1 c2 z1 z2 d1 d2 y1 y2 A2
  generalize ((w2.setCell ⟨w.heap.size, T * 2, none⟩ (.int .i64 (S (2 * R)))).setCell ⟨w.heap.size, T * 2 + 1, none⟩ (.int .i64 (S (2 * R + 1)))).drew = w3 at *
  obtain ⟨o0, o1, o2, o3, o4⟩ := A3.op
  obtain ⟨c1, c2, z1, z2⟩ := A3.cells2 R hR
  go_wp2_with fail
  refine (refright_yes (S (2 * T)) (S (2 * T + 1)) ja jb _).mono ?_
  rintro e w' ⟨rfl, rfl⟩
  go_upto_region 28 with fail
  have A9 := A3.st1 R hR (S (2 * T)) (S (2 * T + 1))
  clear o0 o1 o2 o3 o4 c1 c2 z1 z2
  generalize ((w3).setCell ⟨w.heap.size, R * 2, none⟩ (.int .i64 (S (2 * T)))).setCell ⟨w.heap.size, R * 2 + 1, none⟩ (.int .i64 (S (2 * T + 1))) = w9 at *
  obtain ⟨Z2, a2, b2⟩ := A9.h2
  obtain ⟨Z3, a3, b3⟩ := A9.h3
  have b3' := (setRow_other (w9) (w.heap.size + 2) (w.heap.size + 3) (cl (upd (upd S T (S (2 * R)) (S (2 * R + 1))) R (S (2 * T)) (S (2 * T + 1)))).toArray (by omega)).trans b3
  have HA2 := hide a2
  have HA3 := hide a3
  have HB2 := hide b2
  have HB3 := hide b3'
  clear a2 a3 b2 b3 b3'
  go_wp2_with (first
    | (refine wpList_load_row rfl 38 _ rfl w.heap.size rfl _ _ _ _ A9.hs Try.underlying38 rfl (rsize_cl _) ?_)
    | (refine wpList_store_row rfl 38 _ _ rfl (w.heap.size + 2) _ rfl rfl _ _ HB2.out (rsize_cl (upd (upd S T (S (2 * R)) (S (2 * R + 1))) R (S (2 * T)) (S (2 * T + 1)))) (HA2.out.trans (cl_size _).symm) (one_cl _) ?_)
    | (refine wpList_store_row rfl 50 _ _ rfl (w.heap.size + 3) #[.int .i64 (1), .int .i64 (S (2 * T)), .int .i64 (S (2 * T + 1))] rfl rfl _ _ HB3.out size_res HA3.out (one3 (1) (S (2 * T)) (S (2 * T + 1))) ?_))
  obtain ⟨r1, r2, r3⟩ := A9.stored (cl (upd (upd S T (S (2 * R)) (S (2 * R + 1))) R (S (2 * T)) (S (2 * T + 1)))).toArray #[.int .i64 (1), .int .i64 (S (2 * T)), .int .i64 (S (2 * T + 1))]
  (try simp only [Exit.inBlock, Exit.then])
  refine bodyPost_ret (v := .tuple #[.agg (cl (upd (upd S T (S (2 * R)) (S (2 * R + 1))) R (S (2 * T)) (S (2 * T + 1)))).toArray, .agg #[.int .i64 (1), .int .i64 (S (2 * T)), .int .i64 (S (2 * T + 1))]]) ?_ rfl ⟨rfl, r3⟩
  exact rresults_rows rfl rfl r1 r2 (cl_size _) rfl

set_option maxRecDepth 100000 in
set_option maxHeartbeats 1600000 in
theorem rapply_take_yes (S : Nat → Int) (R : Nat) (hR : R < 8) (T : Nat) (hT : T < 8) (re im : Int) (hS : okS S) (h : rightOp 7 R T re im) (hE : (S (2 * R) = re ∧ S (2 * R + 1) = im)) (w : World) :
    Calls Try.prog 29 #[.agg (cl S).toArray, .agg #[.int .i64 7, .int .i64 R, .int .i64 T, .int .i64 re, .int .i64 im]] w fun e w' =>
      e = .returned (.tuple #[.agg (cl (upd (S) R (S (2 * T)) (S (2 * T + 1)))).toArray, .agg #[.int .i64 (1), .int .i64 (S (2 * T)), .int .i64 (S (2 * T + 1))]]) ∧ Below w.heap.size w w' := by
  have hr := refvalid_any S
  rw [show vB S = true from decide_eq_true hS] at hr
  have hk := opright_any 7 R T re im
  rw [show rB 7 R T re im = true from decide_eq_true h] at hk
  have HR := hide hr
  have HK := hide hk
  have hre : inB re := h.2.2.2.2.2.1
  have him : inB im := h.2.2.2.2.2.2
  obtain ⟨ia, ib⟩ := hS R hR
  have ia' := ia
  have ib' := ib
  have hre' := hre
  have him' := him
  unfold inB at ia' ib' hre' him'
  obtain ⟨ja, jb⟩ := hS T hT
  have T0 : (0 : Int) ≤ (T : Int) := Int.natCast_nonneg _
  have T8 : (T : Int) < 8 := by omega
  clear hr hk hS h
  have R0 : (0 : Int) ≤ (R : Int) := Int.natCast_nonneg _
  have R8 : (R : Int) < 8 := by omega
  have A0 := rfour w S 7 R T re im #[.int .i64 0, .int .i64 0, .int .i64 0, .int .i64 0, .int .i64 0, .int .i64 0, .int .i64 0, .int .i64 0, .int .i64 0, .int .i64 0, .int .i64 0, .int .i64 0, .int .i64 0, .int .i64 0, .int .i64 0, .int .i64 0] #[.int .i64 0, .int .i64 0, .int .i64 0] rfl rfl
  go_enter Try.func29, Try.ntmps29
  go_wp2_with (refine wpList_load_row rfl 38 _ rfl w.heap.size rfl _ _ _ _ A0.hs Try.underlying38 rfl (rsize_cl S) ?_)
  refine (HR.out _).mono ?_
  rintro e w1 ⟨rfl, hb1⟩
  have A1 := A0.below hb1
  clear A0 hb1
  obtain ⟨o0, o1, o2, o3, o4⟩ := A1.op
  go_wp2_with fail
  refine (HK.out _).mono ?_
  rintro e w2 ⟨rfl, hb2⟩
  have A2 := A1.below hb2
  clear A1 hb2 o0 o1 o2 o3 o4 HR HK
  obtain ⟨o0, o1, o2, o3, o4⟩ := A2.op
  obtain ⟨c1, c2, z1, z2⟩ := A2.cells2 R hR
  obtain ⟨d1, d2, y1, y2⟩ := A2.cells2 T hT
  have t1 : (S (2 * R) != re) = false := by simpa using hE.1
  have t2 : (S (2 * R + 1) != im) = false := by simpa using hE.2
  clear hE
  go_wp2_with fail
  refine (refright_yes (S (2 * T)) (S (2 * T + 1)) ja jb _).mono ?_
  rintro e w' ⟨rfl, rfl⟩
  go_upto_region 28 with fail
  have A9 := A2.st1 R hR (S (2 * T)) (S (2 * T + 1))
  clear o0 o1 o2 o3 o4 c1 c2 z1 z2
  generalize ((w2).setCell ⟨w.heap.size, R * 2, none⟩ (.int .i64 (S (2 * T)))).setCell ⟨w.heap.size, R * 2 + 1, none⟩ (.int .i64 (S (2 * T + 1))) = w9 at *
  obtain ⟨Z2, a2, b2⟩ := A9.h2
  obtain ⟨Z3, a3, b3⟩ := A9.h3
  have b3' := (setRow_other (w9) (w.heap.size + 2) (w.heap.size + 3) (cl (upd (S) R (S (2 * T)) (S (2 * T + 1)))).toArray (by omega)).trans b3
  have HA2 := hide a2
  have HA3 := hide a3
  have HB2 := hide b2
  have HB3 := hide b3'
  clear a2 a3 b2 b3 b3'
  go_wp2_with (first
    | (refine wpList_load_row rfl 38 _ rfl w.heap.size rfl _ _ _ _ A9.hs Try.underlying38 rfl (rsize_cl _) ?_)
    | (refine wpList_store_row rfl 38 _ _ rfl (w.heap.size + 2) _ rfl rfl _ _ HB2.out (rsize_cl (upd (S) R (S (2 * T)) (S (2 * T + 1)))) (HA2.out.trans (cl_size _).symm) (one_cl _) ?_)
    | (refine wpList_store_row rfl 50 _ _ rfl (w.heap.size + 3) #[.int .i64 (1), .int .i64 (S (2 * T)), .int .i64 (S (2 * T + 1))] rfl rfl _ _ HB3.out size_res HA3.out (one3 (1) (S (2 * T)) (S (2 * T + 1))) ?_))
  obtain ⟨r1, r2, r3⟩ := A9.stored (cl (upd (S) R (S (2 * T)) (S (2 * T + 1)))).toArray #[.int .i64 (1), .int .i64 (S (2 * T)), .int .i64 (S (2 * T + 1))]
  (try simp only [Exit.inBlock, Exit.then])
  refine bodyPost_ret (v := .tuple #[.agg (cl (upd (S) R (S (2 * T)) (S (2 * T + 1)))).toArray, .agg #[.int .i64 (1), .int .i64 (S (2 * T)), .int .i64 (S (2 * T + 1))]]) ?_ rfl ⟨rfl, r3⟩
  exact rresults_rows rfl rfl r1 r2 (cl_size _) rfl

set_option maxRecDepth 100000 in
set_option maxHeartbeats 1600000 in
theorem rapply_take_no (S : Nat → Int) (R : Nat) (hR : R < 8) (T : Nat) (hT : T < 8) (re im : Int) (hS : okS S) (h : rightOp 7 R T re im) (hE : ¬ (S (2 * R) = re ∧ S (2 * R + 1) = im)) (w : World) :
    Calls Try.prog 29 #[.agg (cl S).toArray, .agg #[.int .i64 7, .int .i64 R, .int .i64 T, .int .i64 re, .int .i64 im]] w fun e w' =>
      e = .returned (.tuple #[.agg (cl (S)).toArray, .agg #[.int .i64 (3), .int .i64 (S (2 * R)), .int .i64 (S (2 * R + 1))]]) ∧ Below w.heap.size w w' := by
  have hr := refvalid_any S
  rw [show vB S = true from decide_eq_true hS] at hr
  have hk := opright_any 7 R T re im
  rw [show rB 7 R T re im = true from decide_eq_true h] at hk
  have HR := hide hr
  have HK := hide hk
  have hre : inB re := h.2.2.2.2.2.1
  have him : inB im := h.2.2.2.2.2.2
  obtain ⟨ia, ib⟩ := hS R hR
  have ia' := ia
  have ib' := ib
  have hre' := hre
  have him' := him
  unfold inB at ia' ib' hre' him'
  obtain ⟨ja, jb⟩ := hS T hT
  have T0 : (0 : Int) ≤ (T : Int) := Int.natCast_nonneg _
  have T8 : (T : Int) < 8 := by omega
  clear hr hk hS h
  have R0 : (0 : Int) ≤ (R : Int) := Int.natCast_nonneg _
  have R8 : (R : Int) < 8 := by omega
  have A0 := rfour w S 7 R T re im #[.int .i64 0, .int .i64 0, .int .i64 0, .int .i64 0, .int .i64 0, .int .i64 0, .int .i64 0, .int .i64 0, .int .i64 0, .int .i64 0, .int .i64 0, .int .i64 0, .int .i64 0, .int .i64 0, .int .i64 0, .int .i64 0] #[.int .i64 0, .int .i64 0, .int .i64 0] rfl rfl
  go_enter Try.func29, Try.ntmps29
  go_wp2_with (refine wpList_load_row rfl 38 _ rfl w.heap.size rfl _ _ _ _ A0.hs Try.underlying38 rfl (rsize_cl S) ?_)
  refine (HR.out _).mono ?_
  rintro e w1 ⟨rfl, hb1⟩
  have A1 := A0.below hb1
  clear A0 hb1
  obtain ⟨o0, o1, o2, o3, o4⟩ := A1.op
  go_wp2_with fail
  refine (HK.out _).mono ?_
  rintro e w2 ⟨rfl, hb2⟩
  have A2 := A1.below hb2
  clear A1 hb2 o0 o1 o2 o3 o4 HR HK
  obtain ⟨o0, o1, o2, o3, o4⟩ := A2.op
  obtain ⟨c1, c2, z1, z2⟩ := A2.cells2 R hR
  obtain ⟨d1, d2, y1, y2⟩ := A2.cells2 T hT
  by_cases hx : S (2 * R) = re
  · have t1 : (S (2 * R) != re) = false := by simpa using hx
    have t2 : (S (2 * R + 1) != im) = true := by simpa using fun hy => hE ⟨hx, hy⟩
    clear hE hx
    obtain ⟨Z2, a2, b2⟩ := A2.h2
    obtain ⟨Z3, a3, b3⟩ := A2.h3
    have b3' := (setRow_other (w2) (w.heap.size + 2) (w.heap.size + 3) (cl (S)).toArray (by omega)).trans b3
    have HA2 := hide a2
    have HA3 := hide a3
    have HB2 := hide b2
    have HB3 := hide b3'
    clear a2 a3 b2 b3 b3'
    go_wp2_with (first
      | (refine wpList_load_row rfl 38 _ rfl w.heap.size rfl _ _ _ _ A2.hs Try.underlying38 rfl (rsize_cl _) ?_)
      | (refine wpList_store_row rfl 38 _ _ rfl (w.heap.size + 2) _ rfl rfl _ _ HB2.out (rsize_cl (S)) (HA2.out.trans (cl_size _).symm) (one_cl _) ?_)
      | (refine wpList_store_row rfl 50 _ _ rfl (w.heap.size + 3) #[.int .i64 (3), .int .i64 (S (2 * R)), .int .i64 (S (2 * R + 1))] rfl rfl _ _ HB3.out size_res HA3.out (one3 (3) (S (2 * R)) (S (2 * R + 1))) ?_))
    obtain ⟨r1, r2, r3⟩ := A2.stored (cl (S)).toArray #[.int .i64 (3), .int .i64 (S (2 * R)), .int .i64 (S (2 * R + 1))]
    (try simp only [Exit.inBlock, Exit.then])
    refine bodyPost_ret (v := .tuple #[.agg (cl (S)).toArray, .agg #[.int .i64 (3), .int .i64 (S (2 * R)), .int .i64 (S (2 * R + 1))]]) ?_ rfl ⟨rfl, r3⟩
    exact rresults_rows rfl rfl r1 r2 (cl_size _) rfl
  · have t1 : (S (2 * R) != re) = true := by simpa using hx
    clear hE hx
    obtain ⟨Z2, a2, b2⟩ := A2.h2
    obtain ⟨Z3, a3, b3⟩ := A2.h3
    have b3' := (setRow_other (w2) (w.heap.size + 2) (w.heap.size + 3) (cl (S)).toArray (by omega)).trans b3
    have HA2 := hide a2
    have HA3 := hide a3
    have HB2 := hide b2
    have HB3 := hide b3'
    clear a2 a3 b2 b3 b3'
    go_wp2_with (first
      | (refine wpList_load_row rfl 38 _ rfl w.heap.size rfl _ _ _ _ A2.hs Try.underlying38 rfl (rsize_cl _) ?_)
      | (refine wpList_store_row rfl 38 _ _ rfl (w.heap.size + 2) _ rfl rfl _ _ HB2.out (rsize_cl (S)) (HA2.out.trans (cl_size _).symm) (one_cl _) ?_)
      | (refine wpList_store_row rfl 50 _ _ rfl (w.heap.size + 3) #[.int .i64 (3), .int .i64 (S (2 * R)), .int .i64 (S (2 * R + 1))] rfl rfl _ _ HB3.out size_res HA3.out (one3 (3) (S (2 * R)) (S (2 * R + 1))) ?_))
    obtain ⟨r1, r2, r3⟩ := A2.stored (cl (S)).toArray #[.int .i64 (3), .int .i64 (S (2 * R)), .int .i64 (S (2 * R + 1))]
    (try simp only [Exit.inBlock, Exit.then])
    refine bodyPost_ret (v := .tuple #[.agg (cl (S)).toArray, .agg #[.int .i64 (3), .int .i64 (S (2 * R)), .int .i64 (S (2 * R + 1))]]) ?_ rfl ⟨rfl, r3⟩
    exact rresults_rows rfl rfl r1 r2 (cl_size _) rfl

end Go.Proofs.Ytogkgmbldmfpiaa
