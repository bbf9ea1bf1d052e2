/-
  The walk of ValueChecks. No condition but the reach of what is read.
-/
import Derived.Test.YtapbcpilklhoiaaValBase
import Derived.Test.YtapbcpilklhoiaaValRefCheck
set_option linter.unusedSimpArgs false
set_option linter.unusedVariables false
namespace Go.Proofs.Ytapbcpilklhoiaa
open Go.RowKit

theorem IsV.rcheck {w : World} {B n m : Nat} {A D : Option Addr} {cs : List Cmdv} {ns : List Int} (h : IsV w B A n D m cs ns) (hB : B ≤ w.heap.size) (k : Int) (c d : Nat) :
    Calls Try.prog 33 #[.agg #[.int .i64 k, .slice A n c, .slice D m d]] w fun e w' => e = .returned (.int .i64 (chkV k cs ns)) ∧ Below w.heap.size w w' :=
  rvcheck_any k A D n c m d B cs ns w h.c h.i hB h.en h.em (by have := h.lm; omega)
theorem isV_nil (w : World) (B : Nat) : IsV w B none 0 none 0 [] [] := ⟨HasC.nil _ _ _, HasI.nil _ _ _, rfl, rfl, by omega, by omega, by simp⟩

set_option maxRecDepth 20000 in
set_option maxHeartbeats 3200000 in
theorem vchecks_walk (k : Int) (A D : Option Addr) (n c m d : Nat) (cs : List Cmdv) (ns : List Int) (q : Cmdv) (w : World) (hV : IsV w w.heap.size A n D m cs ns) :
    Calls Try.prog 8 #[.agg #[.int .i64 k, .slice A n c, .slice D m d], q.val] w fun e w' => e = .returned (.bool true) ∧ Below w.heap.size w w' := by
  unfold Cmdv.val
  go_enter Try.func8, Try.ntmps8
  go_wp2_with fail
  have ha0 : ((w.alloc (.cells #[.int .i64 k, .slice A n c, .slice D m d] 48)).alloc (.cells #[.int .i64 q.s, .int .i64 q.q, .int .i64 q.a, .int .i64 q.k, .int .i64 q.r, .int .i64 q.t, .int .i64 q.re, .int .i64 q.im] 52)).heap[w.heap.size]? = some (.cells #[.int .i64 k, .slice A n c, .slice D m d] 48 (0, 0)) :=
    (Below.heap_alloc _ _ _ (by simp)).trans (heap_alloc_new w _)
  have hb0 : ((w.alloc (.cells #[.int .i64 k, .slice A n c, .slice D m d] 48)).alloc (.cells #[.int .i64 q.s, .int .i64 q.q, .int .i64 q.a, .int .i64 q.k, .int .i64 q.r, .int .i64 q.t, .int .i64 q.re, .int .i64 q.im] 52)).heap[w.heap.size + 1]? = some (.cells #[.int .i64 q.s, .int .i64 q.q, .int .i64 q.a, .int .i64 q.k, .int .i64 q.r, .int .i64 q.t, .int .i64 q.re, .int .i64 q.im] 52 (0, 0)) := by
    have := heap_alloc_new (w.alloc (.cells #[.int .i64 k, .slice A n c, .slice D m d] 48)) (.cells #[.int .i64 q.s, .int .i64 q.q, .int .i64 q.a, .int .i64 q.k, .int .i64 q.r, .int .i64 q.t, .int .i64 q.re, .int .i64 q.im] 52)
    simpa using this
  have hw0 : Below w.heap.size w ((w.alloc (.cells #[.int .i64 k, .slice A n c, .slice D m d] 48)).alloc (.cells #[.int .i64 q.s, .int .i64 q.q, .int .i64 q.a, .int .i64 q.k, .int .i64 q.r, .int .i64 q.t, .int .i64 q.re, .int .i64 q.im] 52)) := by go_grown
  generalize (w.alloc (.cells #[.int .i64 k, .slice A n c, .slice D m d] 48)).alloc (.cells #[.int .i64 q.s, .int .i64 q.q, .int .i64 q.a, .int .i64 q.k, .int .i64 q.r, .int .i64 q.t, .int .i64 q.re, .int .i64 q.im] 52) = W0 at *
  have hz0 : w.heap.size + 1 < W0.heap.size := lt_of_block hb0
  have HVs : Hid (∀ W, Below W0.heap.size W0 W → IsV W w.heap.size A n D m cs ns ∧ w.heap.size + 1 < W.heap.size ∧ Below w.heap.size w W) := hide (fun W h => by
    have hb := hw0.trans (h.mono (by omega))
    exact ⟨hV.below hb, Nat.lt_of_lt_of_le hz0 h.size, hb⟩)
  have HK : Hid (∀ W, Below W0.heap.size W0 W → W.cell? ⟨w.heap.size, 0, none⟩ = some (.int .i64 k) ∧ W.cell? ⟨w.heap.size, 1, none⟩ = some (.slice A n c) ∧ W.cell? ⟨w.heap.size, 2, none⟩ = some (.slice D m d) ∧ W.cell? ⟨w.heap.size + 1, 0, none⟩ = some (.int .i64 q.s) ∧ W.cell? ⟨w.heap.size + 1, 1, none⟩ = some (.int .i64 q.q) ∧ W.cell? ⟨w.heap.size + 1, 2, none⟩ = some (.int .i64 q.a) ∧ W.cell? ⟨w.heap.size + 1, 3, none⟩ = some (.int .i64 q.k) ∧ W.cell? ⟨w.heap.size + 1, 4, none⟩ = some (.int .i64 q.r) ∧ W.cell? ⟨w.heap.size + 1, 5, none⟩ = some (.int .i64 q.t) ∧ W.cell? ⟨w.heap.size + 1, 6, none⟩ = some (.int .i64 q.re) ∧ W.cell? ⟨w.heap.size + 1, 7, none⟩ = some (.int .i64 q.im)) := hide (fun W h => by
    have hp := (h.block w.heap.size (by omega)).trans ha0
    have hq := (h.block (w.heap.size + 1) hz0).trans hb0
    exact ⟨(row_cells hp 0).1, (row_cells hp 1).1, (row_cells hp 2).1, (row_cells hq 0).1, (row_cells hq 1).1, (row_cells hq 2).1, (row_cells hq 3).1, (row_cells hq 4).1, (row_cells hq 5).1, (row_cells hq 6).1, (row_cells hq 7).1⟩)
  clear ha0 hb0
  refine (head6_any _).mono ?_
  rintro e w1 ⟨rfl, b1⟩
  go_wp2_with fail
  have hs9 := (isV_nil w1 w1.heap.size).check (Nat.le_refl _) 9 0 0
  rw [show chkV 9 [] [] = 25 from by decide] at hs9
  refine hs9.mono ?_
  rintro e w2 ⟨rfl, b2'⟩
  have b2 := b1.trans (b2'.mono b1.size)
  clear b1 b2' hs9
  go_wp2_with fail
  have r2d : Below w2.heap.size w2 w2.drew := (Below.refl _ w2).drew
  have r2 : Below w2.heap.size w2 w2 := Below.refl _ w2
  have HB2 : Hid (∀ W, Below w2.heap.size w2 W → Below W0.heap.size W0 W) := hide (fun W h => b2.trans (h.mono b2.size))
  obtain ⟨ev, hev⟩ : ∃ ev, chkV k cs ns = ev := ⟨_, rfl⟩
  obtain ⟨ec, hec⟩ : ∃ ec, chkC q = ec := ⟨_, rfl⟩
  have HC1 : Hid (∀ W, Below w2.heap.size w2 W → Calls Try.prog 32 #[.agg #[.int .i64 k, .slice A n c, .slice D m d]] W fun e w' => ∃ A9 c9 D9 d9, e = .returned (.agg #[.int .i64 k, .slice A9 n c9, .slice D9 m d9]) ∧ IsV w' w'.heap.size A9 n D9 m cs ns ∧ Below w2.heap.size w2 w') := hide (fun W h => by
    obtain ⟨j1, j3, j4⟩ := HVs.out _ (HB2.out _ h)
    refine (j1.copy (by omega) k c d).mono ?_
    rintro e w' ⟨A9, c9, D9, d9, rfl, v, b⟩
    exact ⟨A9, c9, D9, d9, rfl, v, h.trans (b.mono h.size)⟩)
  have HC2 : Hid (∀ W A9 c9 D9 d9, Below w2.heap.size w2 W → IsV W W.heap.size A9 n D9 m cs ns → Calls Try.prog 31 #[.agg #[.int .i64 k, .slice A9 n c9, .slice D9 m d9]] W fun e w' => e = .returned (.int .i64 ev) ∧ Below w2.heap.size w2 w') := hide (fun W A9 c9 D9 d9 h v => by
    have := v.check (Nat.le_refl _) k c9 d9
    rw [hev] at this
    exact this.mono fun e w' ⟨he, hb⟩ => ⟨he, h.trans (hb.mono h.size)⟩)
  have HC3 : Hid (∀ W, Below w2.heap.size w2 W → Calls Try.prog 33 #[.agg #[.int .i64 k, .slice A n c, .slice D m d]] W fun e w' => e = .returned (.int .i64 ev) ∧ Below w2.heap.size w2 w') := hide (fun W h => by
    obtain ⟨j1, j3, j4⟩ := HVs.out _ (HB2.out _ h)
    have := j1.rcheck (by omega) k c d
    rw [hev] at this
    exact this.mono fun e w' ⟨he, hb⟩ => ⟨he, h.trans (hb.mono h.size)⟩)
  have HC4 : Hid (∀ W, Below w2.heap.size w2 W → Calls Try.prog 34 #[.agg #[.int .i64 q.s, .int .i64 q.q, .int .i64 q.a, .int .i64 q.k, .int .i64 q.r, .int .i64 q.t, .int .i64 q.re, .int .i64 q.im]] W fun e w' => e = .returned (.int .i64 ec) ∧ Below w2.heap.size w2 w') := hide (fun W h => by
    have := checkcmd_any q W
    rw [hec] at this
    exact this.mono fun e w' ⟨he, hb⟩ => ⟨he, h.trans (hb.mono h.size)⟩)
  have HC5 : Hid (∀ W, Below w2.heap.size w2 W → Calls Try.prog 35 #[.agg #[.int .i64 q.s, .int .i64 q.q, .int .i64 q.a, .int .i64 q.k, .int .i64 q.r, .int .i64 q.t, .int .i64 q.re, .int .i64 q.im]] W fun e w' => e = .returned (.int .i64 ec) ∧ Below w2.heap.size w2 w') := hide (fun W h => by
    have := rcheckcmd_any q W
    rw [hec] at this
    exact this.mono fun e w' ⟨he, hb⟩ => ⟨he, h.trans (hb.mono h.size)⟩)
  clear hev hec
  have HKK : Hid (∀ W, Below w2.heap.size w2 W → _) := hide (fun W h => HK.out _ (HB2.out _ h))
  go_region_held3 (fun W => W.cell? ⟨w.heap.size, 0, none⟩ = some (.int .i64 k) ∧ W.cell? ⟨w.heap.size, 1, none⟩ = some (.slice A n c) ∧ W.cell? ⟨w.heap.size, 2, none⟩ = some (.slice D m d) ∧ W.cell? ⟨w.heap.size + 1, 0, none⟩ = some (.int .i64 q.s) ∧ W.cell? ⟨w.heap.size + 1, 1, none⟩ = some (.int .i64 q.q) ∧ W.cell? ⟨w.heap.size + 1, 2, none⟩ = some (.int .i64 q.a) ∧ W.cell? ⟨w.heap.size + 1, 3, none⟩ = some (.int .i64 q.k) ∧ W.cell? ⟨w.heap.size + 1, 4, none⟩ = some (.int .i64 q.r) ∧ W.cell? ⟨w.heap.size + 1, 5, none⟩ = some (.int .i64 q.t) ∧ W.cell? ⟨w.heap.size + 1, 6, none⟩ = some (.int .i64 q.re) ∧ W.cell? ⟨w.heap.size + 1, 7, none⟩ = some (.int .i64 q.im)) (first | exact HKK.out _ r2 | exact HKK.out _ r2d | exact HKK.out _ b3 | exact HKK.out _ b4 | exact HKK.out _ b5 | exact HKK.out _ b6 | exact HKK.out _ b7 | go_keep) (first
    | ((go_at_call 32; (with_reducible refine (HC1.out _ ?_).mono ?_)); exact r2d; rintro e w3 ⟨A9, c9, D9, d9, rfl, v3, b3⟩)
    | ((go_at_call 31; (with_reducible refine (HC2.out _ A9 c9 D9 d9 ?_ ?_).mono ?_)); exact b3; exact v3; rintro e w4 ⟨rfl, b4⟩)
    | ((go_at_call 33; (with_reducible refine (HC3.out _ ?_).mono ?_)); exact b4; rintro e w5 ⟨rfl, b5⟩)
    | ((go_at_call 34; (with_reducible refine (HC4.out _ ?_).mono ?_)); exact b5; rintro e w6 ⟨rfl, b6⟩)
    | ((go_at_call 35; (with_reducible refine (HC5.out _ ?_).mono ?_)); exact b6; rintro e w7 ⟨rfl, b7⟩))
  go_wp2
  go_ret
  exact ⟨rfl, (HVs.out _ (HB2.out _ b7)).2.2⟩
end Go.Proofs.Ytapbcpilklhoiaa
