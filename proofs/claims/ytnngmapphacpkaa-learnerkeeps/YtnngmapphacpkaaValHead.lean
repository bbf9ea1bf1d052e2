/-
  Check, Encode, Decode of a Stop. Conditions: the members are a right set, in reach.
-/
import Derived.Test.YtnngmapphacpkaaValRead0
import Derived.Test.YtnngmapphacpkaaBallotB
set_option linter.unusedSimpArgs false
set_option linter.unusedVariables false
namespace Go.Proofs.Ytnngmapphacpkaa
open Go.RowKit

theorem shaped_stop (A A' : Option Addr) (c n' c' : Nat) (w : World) : Calls Try.prog 52 #[.agg #[.int .i64 2, .slice A 0 c, .slice A' n' c']] w fun e w' => e = .returned (.bool true) ∧ Below w.heap.size w w' := by
  go_enter Try.func52, Try.ntmps52
  go_wp2
  go_ret
  exact ⟨rfl, by go_grown⟩

theorem val_box {w w1 : World} {a b c : Value} {t : TypeId} (hb : Below (w.alloc (.cells #[a, b, c] t)).heap.size (w.alloc (.cells #[a, b, c] t)) w1) :
    w1.cell? ⟨w.heap.size, 0, none⟩ = some a ∧ w1.cell? ⟨w.heap.size, 1, none⟩ = some b ∧ w1.cell? ⟨w.heap.size, 2, none⟩ = some c ∧ w.heap.size < w1.heap.size := by
  have hz : w.heap.size < (w.alloc (.cells #[a, b, c] t)).heap.size := by simp
  refine ⟨(hb.cell (p := ⟨w.heap.size, 0, none⟩) hz).trans (cell_of_row _ _ _ _ _ _ (heap_alloc_new w _)), (hb.cell (p := ⟨w.heap.size, 1, none⟩) hz).trans (cell_of_row _ _ _ _ _ _ (heap_alloc_new w _)), (hb.cell (p := ⟨w.heap.size, 2, none⟩) hz).trans (cell_of_row _ _ _ _ _ _ (heap_alloc_new w _)), Nat.lt_of_lt_of_le hz hb.size⟩
theorem below_of_alloc' {w w1 : World} {o : Obj} (h : Below (w.alloc o).heap.size (w.alloc o) w1) : Below w.heap.size w w1 :=
  ((Below.refl _ _).alloc (Nat.le_refl _) o).trans (h.mono (by simp))

theorem vcheck_stop (A A' : Option Addr) (c n' c' B : Nat) (ns : List Int) (w : World) (hN : HasI w B A' ns) (hB : B ≤ w.heap.size) (hn : ns.length = n') (hl : n' ≤ 140737488355328) :
    Calls Try.prog 34 #[.agg #[.int .i64 2, .slice A 0 c, .slice A' n' c']] w fun e w' => e = .returned (.int .i64 (chkS ns)) ∧ Below w.heap.size w w' := by
  go_enter Try.func34, Try.ntmps34
  go_wp2_with fail
  refine (shaped_stop A A' c n' c' _).mono ?_
  rintro e w1 ⟨rfl, hb1⟩
  obtain ⟨c0, c1, c2, hz⟩ := val_box hb1
  have hN1 : HasI w1 B A' ns := (hN.alloc hB _).on (by simp; omega) hb1
  go_wp2_with fail
  refine (bcheck_any A' n' c' B ns w1 hN1 hn hl).mono ?_
  rintro e w2 ⟨rfl, rfl⟩
  go_wp2
  go_ret
  exact ⟨rfl, below_of_alloc' hb1⟩

/-- The bytes of the head. -/
def hb9 : List UInt8 := [1, 2, 0, 1, 2, 1, 1, 1, 2]
theorem encV_head : encV 2 [] [1, 2] = hb9 := by decide
theorem rd_head : rc 2 (hb9, 0) = (2, ([0, 1, 2, 1, 1, 1, 2], 0)) ∧ rc 8 ([0, 1, 2, 1, 1, 1, 2], 0) = (0, ([1, 2, 1, 1, 1, 2], 0)) ∧ rc 7 ([1, 2, 1, 1, 1, 2], 0) = (2, ([1, 1, 1, 2], 0)) ∧ rdN 2 ([1, 1, 1, 2], 0) = ([1, 2], ([], 0)) := by decide

end Go.Proofs.Ytnngmapphacpkaa
