/-
  The head of synodlaw02; Open of seal at fewer than eight bytes; the walk of SealShort. No condition but the size of what is read.
-/
import Derived.Test.YtofdjpophacldaaSum
import Derived.Lib.SlBytesConst
namespace Go.Proofs.Ytofdjpophacldaa
open Go.RowKit

theorem sum_a : ((fsum basis [97]).toNat : Int) = 12638187200555641996 := by rfl
theorem head2_any (w : World) : Calls Try.prog 36 #[] w fun e w' => e = .returned (.bool true) ∧ Below w.heap.size w w' := by
  have kc := fun (w : World) (C : Array Value) (n c : Nat) => Lib.run_convert_bytes_const (P := Try.prog) w 26 5 C n c Try.underlying26 Try.underlying5
  go_enter Try.func36, Try.ntmps36
  go_wp2_with fail
  have hP := HasP.one (w.alloc (.cells #[.int .u8 97] 5 (1, 2))) 26 ⟨some ⟨w.heap.size, 0, none⟩, 1, 1, [97]⟩ (w.heap.size + 1) (by simp) (by simpa [byt, bcells] using Has.new w 5 [97] (1, 2) _ rfl) rfl (by simp)
  refine (sum_any (some ⟨w.heap.size + 1, 0, none⟩) 1 1 _ _ _ hP [97] (by rfl) (by simp) (by rfl)).mono ?_
  · rintro e w' ⟨rfl, rfl⟩
    rw [sum_a]
    go_wp2
    go_ret
    exact ⟨rfl, ((Below.refl _ _).alloc (Nat.le_refl _) _).alloc (by simp) _⟩

theorem open_short (A : Option Addr) (n c : Nat) (w : World) (h : n < 8) : Calls Try.prog 42 #[.slice A n c] w fun e w' => e = .returned (.tuple #[.slice none 0 0, .int .i64 10]) ∧ w = w' := by
  go_enter Try.func42, Try.ntmps42
  go_wp2
  go_ret2
  exact ⟨rfl, rfl⟩

set_option maxHeartbeats 400000 in
theorem short_walk (A : Option Addr) (c : Nat) (xs : List UInt8) (n : Int) (w : World) (hx : Has w w.heap.size A xs) (hc : xs.length ≤ c) (hl : c ≤ 140737488351232) (_ : (Lit.int .i64 n).wf = true) :
    Calls Try.prog 11 #[.slice A xs.length c, .int .i64 n] w fun e w' => e = .returned (.bool true) ∧ Below w.heap.size w w' := by
  have hmk : ∀ w, (Instr.makeSlice 26 (.int .i64 7) (.int .i64 7)).run Try.prog w = .ok (.slice (some ⟨w.heap.size, 0, none⟩) 7 7) (w.alloc (.cells (madeCells (Value.int .u8 0).cells 7) 5)) := fun _ => by kernel_rfl
  by_cases hok : 0 ≤ n ∧ n ≤ 7 ∧ n ≤ xs.length
  · obtain ⟨h0, h7, hn⟩ := hok
    obtain ⟨m, rfl⟩ := Int.eq_ofNat_of_zero_le h0
    have t1 : decide ((m : Int) < 0) = false := by simp
    have t2 : decide ((7 : Int) < (m : Int)) = false := by simp; omega
    have t3 : decide (xs.length < m) = false := by simp; omega
    go_enter Try.func11, Try.ntmps11
    go_wp2_with fail
    refine (open_short _ 7 7 _ (by omega)).mono ?_
    rintro e w1 ⟨rfl, rfl⟩
    go_wp2_with fail
    refine (head2_any _).mono ?_
    rintro e w1 ⟨rfl, hb1⟩
    replace hb1 := below_of_alloc hb1
    go_wp2_with fail
    refine (copy_any A m c (xs.take m) w1 (((hx.below hb1).take m).more hb1.size) (by simp; omega) (by omega)).mono ?_
    rintro e w2 ⟨rfl, rfl⟩
    go_wp2_with fail
    refine (open_short _ _ _ _ (by omega)).mono ?_
    rintro e w2 ⟨rfl, rfl⟩
    go_wp2
    go_ret
    exact ⟨rfl, hb1.alloc hb1.size _⟩
  · have ht : decide (n < 0) = true ∨ (decide (n < 0) = false ∧ decide (7 < n) = true) ∨ (decide (n < 0) = false ∧ decide (7 < n) = false ∧ decide ((xs.length : Int) < n) = true) := by
      simp only [decide_eq_true_eq, decide_eq_false_iff_not]; omega
    rcases ht with t1 | ⟨t1, t2⟩ | ⟨t1, t2, t3⟩
    all_goals
      go_enter Try.func11, Try.ntmps11
      go_wp2_with fail
      refine (open_short _ 7 7 _ (by omega)).mono ?_
      rintro e w1 ⟨rfl, rfl⟩
      go_wp2_with fail
      refine (head2_any _).mono ?_
      rintro e w1 ⟨rfl, hb1⟩
      replace hb1 := below_of_alloc hb1
      go_wp2_with fail
      refine (copy_any A 0 c [] w1 (Has.nil _ _ _) rfl (by omega)).mono ?_
      rintro e w2 ⟨rfl, rfl⟩
      go_wp2_with fail
      refine (open_short _ _ _ _ (by omega)).mono ?_
      rintro e w2 ⟨rfl, rfl⟩
      go_wp2
      go_ret
      exact ⟨rfl, hb1.alloc hb1.size _⟩
end Go.Proofs.Ytofdjpophacldaa
