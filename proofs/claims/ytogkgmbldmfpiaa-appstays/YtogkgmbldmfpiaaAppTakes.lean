/-
  The head of synodlaw04, and AppTakes: the walks. No condition.
-/
import Derived.Test.YtogkgmbldmfpiaaAppPure
set_option linter.unusedSimpArgs false
set_option linter.unusedVariables false
namespace Go.Proofs.Ytogkgmbldmfpiaa
open Go.RowKit

theorem old2 (w : World) (A B : Obj) : ((w.alloc A).alloc B).heap[w.heap.size]? = some A := (Below.heap_alloc _ _ _ (by simp)).trans (heap_alloc_new w _)
theorem alloc_set2 (w : World) (Z A : Array Value) (t : TypeId) (o : Obj) : ((w.alloc (.cells Z t)).alloc o).setRow w.heap.size A = (w.alloc (.cells A t)).alloc o := by
  unfold World.setRow World.alloc
  congr 1
  apply Array.ext_getElem?
  intro i
  simp only [Array.getElem?_modify, Array.getElem?_push, Array.size_push]
  by_cases h : w.heap.size = i
  · subst h
    simp
  · simp only [h, if_false]
    split
    · rfl
    · split
      · rename_i h1 h2; exact absurd h2.symm h
      · rfl

theorem apply_out (S : Nat → Int) (k r t re im : Int) {T : Nat → Int} {a b c : Int} (h : app S k r t re im = (T, a, b, c)) (w : World) :
    Calls Try.prog 30 #[.agg (cl S).toArray, .agg #[.int .i64 k, .int .i64 r, .int .i64 t, .int .i64 re, .int .i64 im]] w fun e w' =>
      e = .returned (.tuple #[.agg (cl T).toArray, .agg #[.int .i64 a, .int .i64 b, .int .i64 c]]) ∧ Below w.heap.size w w' := by
  have := apply_any S k r t re im w
  rw [h] at this
  exact this

theorem apply_zero (k r t re im : Int) {T : Nat → Int} {a b c : Int} (h : app Z0 k r t re im = (T, a, b, c)) (w : World) :
    Calls Try.prog 30 #[.agg #[.int .i64 0, .int .i64 0, .int .i64 0, .int .i64 0, .int .i64 0, .int .i64 0, .int .i64 0, .int .i64 0, .int .i64 0, .int .i64 0, .int .i64 0, .int .i64 0, .int .i64 0, .int .i64 0, .int .i64 0, .int .i64 0], .agg #[.int .i64 k, .int .i64 r, .int .i64 t, .int .i64 re, .int .i64 im]] w fun e w' =>
      e = .returned (.tuple #[.agg (cl T).toArray, .agg #[.int .i64 a, .int .i64 b, .int .i64 c]]) ∧ Below w.heap.size w w' := by
  have := apply_out Z0 k r t re im h w
  rw [cl_Z0] at this
  exact this

theorem res_kept {wa wb : World} {o : Obj} {a b c : Value} {t : TypeId} (hb : Below ((wa.alloc o).alloc (.cells #[a, b, c] t)).heap.size ((wa.alloc o).alloc (.cells #[a, b, c] t)) wb) :
    wb.cell? ⟨wa.heap.size + 1, 0, none⟩ = some a ∧ wb.cell? ⟨wa.heap.size + 1, 1, none⟩ = some b ∧ wb.cell? ⟨wa.heap.size + 1, 2, none⟩ = some c := by
  have h : wb.heap[wa.heap.size + 1]? = some (.cells #[a, b, c] t (0, 0)) := by
    rw [hb.block _ (by simp)]
    have := heap_alloc_new (wa.alloc o) (.cells #[a, b, c] t)
    simpa using this
  exact ⟨by rw [cell_of_row _ _ _ _ _ _ h]; rfl, by rw [cell_of_row _ _ _ _ _ _ h]; rfl, by rw [cell_of_row _ _ _ _ _ _ h]; rfl⟩

def S1 : Nat → Int := upd Z0 2 3 4
def S2 : Nat → Int := upd S1 2 (-4) 3
theorem ok1 : okS S1 := okS_upd okS_Z0 2 (by unfold inB; omega) (by unfold inB; omega)
theorem app1 : app Z0 2 2 0 3 4 = (S1, 1, 3, 4) := app_put (R := 2) okS_Z0 (by omega) (by unfold inB; omega) (by unfold inB; omega)
theorem app2 : app S1 5 2 1 0 0 = (S2, 1, -4, 3) := app_turn (R := 2) (T := 1) ok1 (by omega) (by omega)

theorem head4_any (w : World) : Calls Try.prog 23 #[] w fun e w' => e = .returned (.bool true) ∧ Below w.heap.size w w' := by
  have k1 := fun w => equal_res 9998 1 3 4 1 3 4 w
  have k2 := fun w => equal_res 9998 1 (-4) 3 1 (-4) 3 w
  have k3 := fun w => equal_regs 9998 (-4) 3 (-4) 3 w
  rw [decide_eq_true rfl] at k1 k2 k3
  have A1 := hide (apply_zero 2 2 0 3 4 app1)
  have A2 := hide (apply_out S1 5 2 1 0 0 app2)
  go_enter Try.func23, Try.ntmps23
  go_wp2_with fail
  refine (A1.out _).mono ?_
  rintro e w1 ⟨rfl, hb1⟩
  go_wp2_with (first
    | (refine wpList_store_row rfl 45 _ _ rfl w1.heap.size (cl S1).toArray rfl rfl _ _ (old2 w1 _ _) (size_cl S1) (cl_size S1).symm (one_cl S1) ?_; rw [alloc_set2])
    | (refine wpList_load_row rfl 45 _ rfl w1.heap.size rfl _ _ _ _ (old2 w1 _ _) Try.underlying45 rfl (size_cl S1) ?_))
  refine (A2.out _).mono ?_
  rintro e w2 ⟨rfl, hb2⟩
  obtain ⟨f0, f1, f2⟩ := res_kept hb2
  have h4 : (cl S2)[4]? = some (.int .i64 (-4)) := rfl
  have h5 : (cl S2)[5]? = some (.int .i64 3) := rfl
  have hz1 := hb1.size
  have hz2 := hb2.size
  simp at hz2
  have hlt : w1.heap.size + 1 < w2.heap.size := by omega
  have hlt2 : w1.heap.size < w2.heap.size := by omega
  go_wp2_with (first
    | (refine wpList_store_row rfl 45 _ _ rfl w2.heap.size (cl S2).toArray rfl rfl _ _ (old2 w2 _ _) (size_cl S2) (cl_size S2).symm (one_cl S2) ?_; rw [alloc_set2]))
  go_ret
  refine ⟨rfl, ?_⟩
  have b1 : Below w.heap.size w ((w1.alloc (.cells (cl S1).toArray 45)).alloc (.cells #[.int .i64 1, .int .i64 3, .int .i64 4] 50)) := (hb1.alloc hz1 _).alloc (by simp; omega) _
  exact ((b1.trans (hb2.mono (by simp; omega))).alloc (by omega) _).alloc (by simp; omega) _

theorem cells5 {w : World} {g : Nat} {a b c d e : Value} {t : TypeId} (h : w.heap[g]? = some (.cells #[a, b, c, d, e] t (0, 0))) :
    w.cell? ⟨g, 0, none⟩ = some a ∧ w.cell? ⟨g, 1, none⟩ = some b ∧ w.cell? ⟨g, 2, none⟩ = some c ∧ w.cell? ⟨g, 3, none⟩ = some d ∧ w.cell? ⟨g, 4, none⟩ = some e :=
  ⟨by rw [cell_of_row _ _ _ _ _ _ h]; rfl, by rw [cell_of_row _ _ _ _ _ _ h]; rfl, by rw [cell_of_row _ _ _ _ _ _ h]; rfl, by rw [cell_of_row _ _ _ _ _ _ h]; rfl, by rw [cell_of_row _ _ _ _ _ _ h]; rfl⟩

theorem takes_end (A B M : Int) : (if M = A ∧ (0 : Int) = B then (1 : Int) else 3) = 1 ↔ (M = A ∧ B = 0) := by
  constructor
  · intro h
    split at h
    · rename_i h1; exact ⟨h1.1, h1.2.symm⟩
    · omega
  · rintro ⟨h1, h2⟩
    rw [if_pos ⟨h1, h2.symm⟩]

set_option maxRecDepth 100000 in
set_option maxHeartbeats 4000000 in
theorem takes_walk (re im mine : Int) (w : World) : Calls Try.prog 11 #[.int .i64 re, .int .i64 im, .int .i64 mine] w fun e w' => e = .returned (.bool true) ∧ Below w.heap.size w w' := by
  have ka := and_1023 re
  have kb := and_1023 im
  have km := and_1023 mine
  generalize hA : re % 1024 = A at *
  generalize hB : im % 1024 = B at *
  generalize hM : mine % 1024 = M at *
  have iA : inB A := by unfold inB; omega
  have iB : inB B := by unfold inB; omega
  have iM : inB M := by unfold inB; omega
  have i0 : inB 0 := by unfold inB; omega
  clear hA hB hM
  have o1 := okS_upd okS_Z0 1 iA iB
  have e1 : app Z0 2 1 0 A B = (upd Z0 1 A B, 1, A, B) := app_put (R := 1) okS_Z0 (by omega) iA iB
  have e2 : app (upd Z0 1 A B) 2 2 0 M 0 = (upd (upd Z0 1 A B) 2 M 0, 1, M, 0) := app_put (R := 2) o1 (by omega) iM i0
  have o2 := okS_upd o1 2 iM i0
  have e3 : app (upd (upd Z0 1 A B) 2 M 0) 7 1 2 A B = (upd (upd (upd Z0 1 A B) 2 M 0) 1 M 0, 1, M, 0) := by
    have := app_take (R := 1) (T := 2) o2 (by omega) (by omega) iA iB
    rw [if_pos ⟨rfl, rfl⟩] at this
    exact this
  have o3 := okS_upd o2 1 iM i0
  have e4 : ∃ T k, app (upd (upd (upd Z0 1 A B) 2 M 0) 1 M 0) 7 1 2 A B = (T, k, M, 0) ∧ k = if M = A ∧ (0 : Int) = B then 1 else 3 := by
    have := app_take (R := 1) (T := 2) o3 (by omega) (by omega) iA iB
    rw [show upd (upd (upd Z0 1 A B) 2 M 0) 1 M 0 (2 * 1) = M from rfl, show upd (upd (upd Z0 1 A B) 2 M 0) 1 M 0 (2 * 1 + 1) = 0 from rfl, show upd (upd (upd Z0 1 A B) 2 M 0) 1 M 0 (2 * 2) = M from rfl, show upd (upd (upd Z0 1 A B) 2 M 0) 1 M 0 (2 * 2 + 1) = 0 from rfl] at this
    by_cases h : M = A ∧ (0 : Int) = B
    · rw [if_pos h] at this
      exact ⟨_, _, this, by rw [if_pos h]⟩
    · rw [if_neg h] at this
      exact ⟨_, _, this, by rw [if_neg h]⟩
  obtain ⟨T4, k4, e4, hk4⟩ := e4
  have C1 := hide (apply_zero 2 1 0 A B e1)
  have C2 := hide (apply_out _ 2 2 0 M 0 e2)
  have C3 := hide (apply_out _ 7 1 2 A B e3)
  have C4 := hide (apply_out _ 7 1 2 A B e4)
  generalize upd (upd (upd Z0 1 A B) 2 M 0) 1 M 0 = Sc at *
  generalize upd (upd Z0 1 A B) 2 M 0 = Sb at *
  generalize upd Z0 1 A B = Sa at *
  have HK4 := hide hk4
  clear e1 e2 e3 e4 o1 o2 o3 hk4 iA iB iM i0
  go_enter Try.func11, Try.ntmps11
  go_wp2_with fail
  refine (head4_any _).mono ?_
  rintro e w0 ⟨rfl, hb0⟩
  go_wp2_with fail
  refine (C1.out _).mono ?_
  rintro e w1 ⟨rfl, hb1⟩
  have b1 : Below w.heap.size w w1 := hb0.trans (hb1.mono hb0.size)
  have z1 := b1.size
  clear hb0 hb1
  go_wp2_with (first
    | (refine wpList_store_row rfl 45 _ _ rfl w1.heap.size (cl Sa).toArray rfl rfl _ _ (old2 w1 _ _) (size_cl Sa) (cl_size Sa).symm (one_cl Sa) ?_; rw [alloc_set2])
    | (refine wpList_load_row rfl 45 _ rfl w1.heap.size rfl _ _ _ _ (old2 w1 _ _) Try.underlying45 rfl (size_cl Sa) ?_))
  refine (C2.out _).mono ?_
  rintro e w2 ⟨rfl, hb2⟩
  have g2 : w2.heap[w1.heap.size]? = some (.cells (cl Sa).toArray 45 (0, 0)) := (hb2.block _ (by simp; omega)).trans (old2 w1 _ _)
  have b2 : Below w.heap.size w w2 := ((b1.alloc z1 _).alloc (by simp; omega) _).trans (hb2.mono (by simp; omega))
  have z2 := hb2.size
  simp at z2
  have g2' := setRow_heap w2 _ _ (cl Sb).toArray _ _ g2
  have b2' := below_setRow b2 z1 (cl Sb).toArray
  have l2 : ∀ o, ((w2.setRow w1.heap.size (cl Sb).toArray).alloc o).heap[w1.heap.size]? = some (.cells (cl Sb).toArray 45 (0, 0)) := fun o => (Below.heap_alloc _ o _ (by simp; omega)).trans g2'
  have G2 := hide g2
  have L2 := hide l2
  have B2 := hide b2'
  clear hb2 b1 b2 g2 g2' l2 b2'
  go_wp2_with (first
    | (refine wpList_store_row rfl 45 _ _ rfl w1.heap.size (cl Sb).toArray rfl rfl _ _ G2.out (size_cl Sb) ((cl_size Sa).trans (cl_size Sb).symm) (one_cl Sb) ?_)
    | (refine wpList_load_row rfl 45 _ rfl w1.heap.size rfl _ _ _ _ (L2.out _) Try.underlying45 rfl (size_cl Sb) ?_))
  refine (C3.out _).mono ?_
  rintro e w3 ⟨rfl, hb3⟩
  have g3 : w3.heap[w2.heap.size]? = some (.cells #[.int .i64 7, .int .i64 1, .int .i64 2, .int .i64 A, .int .i64 B] 40 (0, 0)) := by
    rw [hb3.block _ (by simp)]
    have := heap_alloc_new (w2.setRow w1.heap.size (cl Sb).toArray) (.cells #[.int .i64 7, .int .i64 1, .int .i64 2, .int .i64 A, .int .i64 B] 40)
    simpa using this
  have b3 : Below w.heap.size w w3 := (B2.out.alloc (by simp; omega) _).trans (hb3.mono (by simp; omega))
  have z3 := hb3.size
  simp at z3
  obtain ⟨c0, c1, c2, c3, c4⟩ := cells5 g3
  have q1 : w2.heap.size < w3.heap.size := by omega
  have q2 : w2.heap.size < w3.heap.size + 1 := by omega
  clear hb3 g3 B2 G2 L2
  go_wp2_with (first
    | (refine wpList_store_row rfl 45 _ _ rfl w3.heap.size (cl Sc).toArray rfl rfl _ _ (old2 w3 _ _) (size_cl Sc) (cl_size Sc).symm (one_cl Sc) ?_; rw [alloc_set2])
    | (refine wpList_load_row rfl 45 _ rfl w3.heap.size rfl _ _ _ _ (old2 w3 _ _) Try.underlying45 rfl (size_cl Sc) ?_))
  refine (C4.out _).mono ?_
  rintro e w4 ⟨rfl, hb4⟩
  obtain ⟨f0, f1, f2⟩ := res_kept hb4
  have b4 : Below w.heap.size w w4 := ((b3.alloc (by omega) _).alloc (by simp; omega) _).trans (hb4.mono (by simp; omega))
  have z4 := hb4.size
  simp at z4
  have q3 : w3.heap.size + 1 < w4.heap.size := by omega
  have q4 : w3.heap.size < w4.heap.size := by omega
  have b5 := (b4.alloc b4.size (.cells (cl T4).toArray 45)).alloc (by have := b4.size; simp; omega) (.cells #[.int .i64 k4, .int .i64 M, .int .i64 0] 50)
  clear hb4 b3 b4 c0 c1 c2 c3 c4 q1 q2
  go_upto_region 11 with (refine wpList_store_row rfl 45 _ _ rfl w4.heap.size (cl T4).toArray rfl rfl _ _ (old2 w4 _ _) (size_cl T4) (cl_size T4).symm (one_cl T4) ?_; rw [alloc_set2])
  have r4 := hide (res_kept (Below.refl _ ((w4.alloc (.cells (cl T4).toArray 45)).alloc (.cells #[.int .i64 k4, .int .i64 M, .int .i64 0] 50))))
  have k0 : ∀ i, ((w4.alloc (.cells (cl T4).toArray 45)).alloc (.cells #[.int .i64 k4, .int .i64 M, .int .i64 0] 50)).cell? ⟨w3.heap.size + 1, i, none⟩ = w4.cell? ⟨w3.heap.size + 1, i, none⟩ := fun i =>
    (World.cell?_alloc_past _ _ _ (by simp; omega)).trans (World.cell?_alloc_past _ _ _ q3)
  have y0 := (k0 0).trans f0
  have y1 := (k0 1).trans f1
  have y2 := (k0 2).trans f2
  obtain ⟨x0, x1, x2⟩ := r4.out
  clear k0 f0 f1 f2 r4
  generalize (w4.alloc (.cells (cl T4).toArray 45)).alloc (.cells #[.int .i64 k4, .int .i64 M, .int .i64 0] 50) = w5 at *
  clear z4 q3 q4 z3 z2 z1
  by_cases hMA : M = A
  · by_cases hB : B = 0
    · obtain rfl : k4 = 1 := HK4.out.trans (if_pos ⟨hMA, hB.symm⟩)
      subst hMA hB
      clear HK4
      go_wp2
      go_ret
      exact ⟨rfl, b5⟩
    · obtain rfl : k4 = 3 := HK4.out.trans (if_neg fun h => hB h.2.symm)
      have hB' : (B == 0) = false := by simpa using hB
      subst hMA
      clear HK4
      go_wp2
      go_ret
      exact ⟨rfl, b5⟩
  · obtain rfl : k4 = 3 := HK4.out.trans (if_neg fun h => hMA h.1)
    have hMA' : (M == A) = false := by simpa using hMA
    clear HK4
    go_wp2
    go_ret
    exact ⟨rfl, b5⟩
end Go.Proofs.Ytogkgmbldmfpiaa
