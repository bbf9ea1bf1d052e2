/-
  The reference's answers for app: Valid, Right. No condition.
-/
import Derived.Test.YtogkgmbldmfpiaaAppScript
set_option linter.unusedSimpArgs false
set_option linter.unusedVariables false
namespace Go.Proofs.Ytogkgmbldmfpiaa
open Go.RowKit

theorem cells2_of {w : World} {g : Nat} {S : Nat → Int} {t : TypeId} (h : w.heap[g]? = some (.cells (cl S).toArray t (0, 0))) (R : Nat) (hR : R < 8) : w.cell? ⟨g, R * 2, none⟩ = some (.int .i64 (S (2 * R))) ∧ w.cell? ⟨g, R * 2 + 1, none⟩ = some (.int .i64 (S (2 * R + 1))) := by
  refine ⟨?_, ?_⟩
  · rw [cell_of_row _ _ _ _ _ _ h, List.getElem?_toArray, cl_get S _ (by omega), Nat.mul_comm]
  · rw [cell_of_row _ _ _ _ _ _ h, List.getElem?_toArray, cl_get S _ (by omega), Nat.mul_comm]

def RRound (S : Nat → Int) (w : World) (k : Nat) (wr : World) : Prop := (∀ j, j < k → inB (S (2 * j)) ∧ inB (S (2 * j + 1))) ∧ wr.heap[w.heap.size]? = some (.cells (cl S).toArray 38 (0, 0)) ∧ Below w.heap.size w wr

theorem below_drewN {B : Nat} {a w : World} (h : Below B a w) (n : Nat) : Below B a (w.drewN n) := ⟨h.os, h.tape, h.output, h.size, h.block⟩

theorem refvalid_any (S : Nat → Int) (w : World) : Calls Try.prog 27 #[.agg (cl S).toArray] w fun e w' => e = .returned (.bool (vB S)) ∧ Below w.heap.size w w' := by
  go_enter Try.func27, Try.ntmps27
  go_wp2_with fail
  go_loopw [3] (fun i wr => ∃ k : Nat, k ≤ 8 ∧ i = .int .i64 k ∧ RRound S w k wr) (fun i _ => 8 - (intOf i).toNat)
  case atStart => exact ⟨0, Nat.zero_le _, rfl, fun j hj => absurd hj (by omega), heap_alloc_new w _, (Below.refl _ _).alloc (Nat.le_refl _) _⟩
  case round =>
    obtain ⟨k, hk, rfl, hok, hg, hb⟩ := hrel
    by_cases hlt : k < 8
    · obtain ⟨c1, c2⟩ := cells2_of hg k hlt
      have HG := hide hg
      have HOK := hide hok
      clear hg hok
      have q0 : (0 : Int) ≤ (k : Int) := by omega
      have q1 : (k : Int) < 8 := by omega
      by_cases hin : inB (S (2 * k)) ∧ inB (S (2 * k + 1))
      · go_wp2_with fail
        go_quiet ((go_at_call 15; exact Calls.quiet_of_same ((refright_yes _ _ hin.1 hin.2 _).mono fun _ _ ⟨he, hw⟩ => ⟨he, hw.symm⟩)))
        go_wp2
        go_roundw
        case rel => exact ⟨k + 1, by omega, by go_num, fun j hj => by
          rcases Nat.lt_or_ge j k with h | h
          · exact HOK.out j h
          · obtain rfl : j = k := by omega
            exact hin, HG.out, below_drewN hb _⟩
        case measure => simp [intOf]; omega
      · go_wp2_with fail
        go_quiet ((go_at_call 15; exact Calls.quiet_of_same ((refright_no _ _ hin _).mono fun _ _ ⟨he, hw⟩ => ⟨he, hw.symm⟩)))
        go_wp2
        go_ret
        exact ⟨by rw [vB_false k hlt hin]; rfl, below_drewN hb _⟩
    · obtain rfl : k = 8 := by omega
      go_wp2
      go_ret
      exact ⟨by rw [vB_true hok]; rfl, hb⟩

/-- What the reference's Right tells: as a Bool. -/
def rB (k r t re im : Int) : Bool := decide (rightOp k r t re im)

theorem tos_tab (k : Nat) (h1 : 1 ≤ k) (h7 : k ≤ 7) : ([0, 0, 0, 0, 0, 3, 7, 7] : List Int)[k]? = some (tos k - 1) := by
  match k, h1, h7 with
  | 1, _, _ => rfl
  | 2, _, _ => rfl
  | 3, _, _ => rfl
  | 4, _, _ => rfl
  | 5, _, _ => rfl
  | 6, _, _ => rfl
  | 7, _, _ => rfl

theorem opright_far (k r t re im : Int) (h : k < 1 ∨ 7 < k ∨ r < 0 ∨ 7 < r ∨ t < 0) (w : World) : Calls Try.prog 25 #[.agg #[.int .i64 k, .int .i64 r, .int .i64 t, .int .i64 re, .int .i64 im]] w fun e w' => e = .returned (.bool (rB k r t re im)) ∧ Below w.heap.size w w' := by
  have e : rB k r t re im = false := decide_eq_false fun ⟨h1, h2, h3, h4, _⟩ => by
    have := tos_kind h3 h4
    omega
  rw [e]
  clear e
  rcases h with h | h | h | h | h
  all_goals
    go_enter Try.func25, Try.ntmps25
    go_wp2
    all_goals (go_ret; exact ⟨rfl, by go_grown⟩)
end Go.Proofs.Ytogkgmbldmfpiaa
