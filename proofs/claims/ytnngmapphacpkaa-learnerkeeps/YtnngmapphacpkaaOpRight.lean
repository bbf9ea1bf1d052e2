/-
  Right of the reference of package app, in the words of the Value laws. No condition.
-/
import Derived.Test.YtnngmapphacpkaaOpCheck
import Derived.Test.YtnngmapphacpkaaGaussHead
set_option linter.unusedSimpArgs false
set_option linter.unusedVariables false
namespace Go.Proofs.Ytnngmapphacpkaa
open Go.RowKit

/-- What the reference's Right tells: as a Bool. -/
theorem tos_kind {k t : Int} (h0 : 0 ≤ t) (h : t < tos k) : k = 1 ∨ k = 2 ∨ k = 3 ∨ k = 4 ∨ k = 5 ∨ k = 6 ∨ k = 7 := by
  unfold tos at h
  split at h
  · omega
  · split at h
    · omega
    · split at h
      · omega
      · omega
def rB (k r t re im : Int) : Bool := decide (rightOp k r t re im)

theorem tos_tab (k : Nat) (h1 : 1 ≤ k) (h7 : k ≤ 7) : ([0, 0, 0, 0, 0, 3, 7, 7] : List Int)[k]? = some (tos k - 1) := by
  match k, h1, h7 with
  | 1, _, _ => rfl
  | 2, _, _ => rfl
  | 3, _, _ => rfl
  | 4, _, _ => rfl
  | 5, _, _ => rfl
  | 6, _, _ => rfl
  | 7, _, _ => rfl

theorem opright_far (k r t re im : Int) (h : k < 1 ∨ 7 < k ∨ r < 0 ∨ 7 < r ∨ t < 0) (w : World) : Calls Try.prog 63 #[.agg #[.int .i64 k, .int .i64 r, .int .i64 t, .int .i64 re, .int .i64 im]] w fun e w' => e = .returned (.bool (rB k r t re im)) ∧ Below w.heap.size w w' := by
  have e : rB k r t re im = false := decide_eq_false fun ⟨h1, h2, h3, h4, _⟩ => by
    have := tos_kind h3 h4
    omega
  rw [e]
  clear e
  rcases h with h | h | h | h | h
  all_goals
    go_enter Try.func63, Try.ntmps63
    go_wp2
    all_goals (go_ret; exact ⟨rfl, by go_grown⟩)

set_option maxRecDepth 100000 in
set_option maxHeartbeats 1600000 in
theorem opright_a (r t re im : Int) (h1 : 0 ≤ r) (h2 : r ≤ 7) (h3 : 0 ≤ t) (w : World) : Calls Try.prog 63 #[.agg #[.int .i64 1, .int .i64 r, .int .i64 t, .int .i64 re, .int .i64 im]] w fun e w' => e = .returned (.bool (rB 1 r t re im)) ∧ Below w.heap.size w w' := by
  have ht : tos 1 = 1 := by decide
  have hn : numB 1 = false := by decide
  by_cases hm : (0 : Int) < t
  · have e : rB 1 r t re im = false := decide_eq_false fun ⟨_, _, _, h4, _⟩ => by rw [ht] at h4; omega
    rw [e]
    have hd : decide ((0 : Int) < t) = true := decide_eq_true hm
    clear e ht hn
    go_enter Try.func63, Try.ntmps63
    go_wp2_with fail
    go_quiet (fail)
    go_wp2
    go_ret
    exact ⟨rfl, below_drewN (by go_grown) _⟩
  · have hd : decide ((0 : Int) < t) = false := decide_eq_false hm
    by_cases hin : inB re ∧ inB im
    · have er : rB 1 r t re im = (decide (re = 0) && decide (im = 0)) := by
        unfold rB
        rw [← Bool.decide_and]
        apply decide_eq_decide.2
        constructor
        · rintro ⟨_, _, _, _, h5, _⟩
          rcases h5 with h5 | h5
          · rw [hn] at h5; cases h5
          · exact h5
        · intro h5
          exact ⟨h1, by omega, h3, by rw [ht]; omega, .inr h5, hin.1, hin.2⟩
      by_cases hr : re = 0
      · have hr' : (re == 0) = true := by simpa using hr
        by_cases hi : im = 0
        · have hi' : (im == 0) = true := by simpa using hi
          rw [decide_eq_true hr, decide_eq_true hi] at er
          rw [er]
          clear er ht hn hr hi
          go_enter Try.func63, Try.ntmps63
          go_wp2_with fail
          go_quiet ((go_at_call 73; exact Calls.quiet_of_same ((refright_yes _ _ hin.1 hin.2 _).mono fun _ _ ⟨he, hw⟩ => ⟨he, hw.symm⟩)))
          go_wp2
          go_ret
          exact ⟨rfl, below_drewN (by go_grown) _⟩
        · have hi' : (im == 0) = false := by simpa using hi
          rw [decide_eq_true hr, decide_eq_false hi] at er
          rw [er]
          clear er ht hn hr hi
          go_enter Try.func63, Try.ntmps63
          go_wp2_with fail
          go_quiet ((go_at_call 73; exact Calls.quiet_of_same ((refright_yes _ _ hin.1 hin.2 _).mono fun _ _ ⟨he, hw⟩ => ⟨he, hw.symm⟩)))
          go_wp2
          go_ret
          exact ⟨rfl, below_drewN (by go_grown) _⟩
      · have hr' : (re == 0) = false := by simpa using hr
        rw [decide_eq_false hr, Bool.false_and] at er
        rw [er]
        clear er ht hn hr
        go_enter Try.func63, Try.ntmps63
        go_wp2_with fail
        go_quiet ((go_at_call 73; exact Calls.quiet_of_same ((refright_yes _ _ hin.1 hin.2 _).mono fun _ _ ⟨he, hw⟩ => ⟨he, hw.symm⟩)))
        go_wp2
        go_ret
        exact ⟨rfl, below_drewN (by go_grown) _⟩
    · have e : rB 1 r t re im = false := decide_eq_false fun h => hin h.2.2.2.2.2
      rw [e]
      clear e ht hn
      go_enter Try.func63, Try.ntmps63
      go_wp2_with fail
      go_quiet ((go_at_call 73; exact Calls.quiet_of_same ((refright_no _ _ hin _).mono fun _ _ ⟨he, hw⟩ => ⟨he, hw.symm⟩)))
      go_wp2
      go_ret
      exact ⟨rfl, below_drewN (by go_grown) _⟩

set_option maxRecDepth 100000 in
set_option maxHeartbeats 1600000 in
theorem opright_b (r t re im : Int) (h1 : 0 ≤ r) (h2 : r ≤ 7) (h3 : 0 ≤ t) (w : World) : Calls Try.prog 63 #[.agg #[.int .i64 2, .int .i64 r, .int .i64 t, .int .i64 re, .int .i64 im]] w fun e w' => e = .returned (.bool (rB 2 r t re im)) ∧ Below w.heap.size w w' := by
  have ht : tos 2 = 1 := by decide
  have hn : numB 2 = true := by decide
  by_cases hm : (0 : Int) < t
  · have e : rB 2 r t re im = false := decide_eq_false fun ⟨_, _, _, h4, _⟩ => by rw [ht] at h4; omega
    rw [e]
    have hd : decide ((0 : Int) < t) = true := decide_eq_true hm
    clear e ht hn
    go_enter Try.func63, Try.ntmps63
    go_wp2_with fail
    go_quiet (fail)
    go_wp2
    go_ret
    exact ⟨rfl, below_drewN (by go_grown) _⟩
  · have hd : decide ((0 : Int) < t) = false := decide_eq_false hm
    by_cases hin : inB re ∧ inB im
    · have e : rB 2 r t re im = true := decide_eq_true ⟨h1, by omega, h3, by rw [ht]; omega, .inl hn, hin.1, hin.2⟩
      rw [e]
      clear e ht hn
      go_enter Try.func63, Try.ntmps63
      go_wp2_with fail
      go_quiet ((go_at_call 73; exact Calls.quiet_of_same ((refright_yes _ _ hin.1 hin.2 _).mono fun _ _ ⟨he, hw⟩ => ⟨he, hw.symm⟩)))
      go_wp2
      go_ret
      exact ⟨rfl, below_drewN (by go_grown) _⟩
    · have e : rB 2 r t re im = false := decide_eq_false fun h => hin h.2.2.2.2.2
      rw [e]
      clear e ht hn
      go_enter Try.func63, Try.ntmps63
      go_wp2_with fail
      go_quiet ((go_at_call 73; exact Calls.quiet_of_same ((refright_no _ _ hin _).mono fun _ _ ⟨he, hw⟩ => ⟨he, hw.symm⟩)))
      go_wp2
      go_ret
      exact ⟨rfl, below_drewN (by go_grown) _⟩

set_option maxRecDepth 100000 in
set_option maxHeartbeats 1600000 in
theorem opright_c (r t re im : Int) (h1 : 0 ≤ r) (h2 : r ≤ 7) (h3 : 0 ≤ t) (w : World) : Calls Try.prog 63 #[.agg #[.int .i64 3, .int .i64 r, .int .i64 t, .int .i64 re, .int .i64 im]] w fun e w' => e = .returned (.bool (rB 3 r t re im)) ∧ Below w.heap.size w w' := by
  have ht : tos 3 = 1 := by decide
  have hn : numB 3 = true := by decide
  by_cases hm : (0 : Int) < t
  · have e : rB 3 r t re im = false := decide_eq_false fun ⟨_, _, _, h4, _⟩ => by rw [ht] at h4; omega
    rw [e]
    have hd : decide ((0 : Int) < t) = true := decide_eq_true hm
    clear e ht hn
    go_enter Try.func63, Try.ntmps63
    go_wp2_with fail
    go_quiet (fail)
    go_wp2
    go_ret
    exact ⟨rfl, below_drewN (by go_grown) _⟩
  · have hd : decide ((0 : Int) < t) = false := decide_eq_false hm
    by_cases hin : inB re ∧ inB im
    · have e : rB 3 r t re im = true := decide_eq_true ⟨h1, by omega, h3, by rw [ht]; omega, .inl hn, hin.1, hin.2⟩
      rw [e]
      clear e ht hn
      go_enter Try.func63, Try.ntmps63
      go_wp2_with fail
      go_quiet ((go_at_call 73; exact Calls.quiet_of_same ((refright_yes _ _ hin.1 hin.2 _).mono fun _ _ ⟨he, hw⟩ => ⟨he, hw.symm⟩)))
      go_wp2
      go_ret
      exact ⟨rfl, below_drewN (by go_grown) _⟩
    · have e : rB 3 r t re im = false := decide_eq_false fun h => hin h.2.2.2.2.2
      rw [e]
      clear e ht hn
      go_enter Try.func63, Try.ntmps63
      go_wp2_with fail
      go_quiet ((go_at_call 73; exact Calls.quiet_of_same ((refright_no _ _ hin _).mono fun _ _ ⟨he, hw⟩ => ⟨he, hw.symm⟩)))
      go_wp2
      go_ret
      exact ⟨rfl, below_drewN (by go_grown) _⟩

set_option maxRecDepth 100000 in
set_option maxHeartbeats 1600000 in
theorem opright_d (r t re im : Int) (h1 : 0 ≤ r) (h2 : r ≤ 7) (h3 : 0 ≤ t) (w : World) : Calls Try.prog 63 #[.agg #[.int .i64 4, .int .i64 r, .int .i64 t, .int .i64 re, .int .i64 im]] w fun e w' => e = .returned (.bool (rB 4 r t re im)) ∧ Below w.heap.size w w' := by
  have ht : tos 4 = 1 := by decide
  have hn : numB 4 = true := by decide
  by_cases hm : (0 : Int) < t
  · have e : rB 4 r t re im = false := decide_eq_false fun ⟨_, _, _, h4, _⟩ => by rw [ht] at h4; omega
    rw [e]
    have hd : decide ((0 : Int) < t) = true := decide_eq_true hm
    clear e ht hn
    go_enter Try.func63, Try.ntmps63
    go_wp2_with fail
    go_quiet (fail)
    go_wp2
    go_ret
    exact ⟨rfl, below_drewN (by go_grown) _⟩
  · have hd : decide ((0 : Int) < t) = false := decide_eq_false hm
    by_cases hin : inB re ∧ inB im
    · have e : rB 4 r t re im = true := decide_eq_true ⟨h1, by omega, h3, by rw [ht]; omega, .inl hn, hin.1, hin.2⟩
      rw [e]
      clear e ht hn
      go_enter Try.func63, Try.ntmps63
      go_wp2_with fail
      go_quiet ((go_at_call 73; exact Calls.quiet_of_same ((refright_yes _ _ hin.1 hin.2 _).mono fun _ _ ⟨he, hw⟩ => ⟨he, hw.symm⟩)))
      go_wp2
      go_ret
      exact ⟨rfl, below_drewN (by go_grown) _⟩
    · have e : rB 4 r t re im = false := decide_eq_false fun h => hin h.2.2.2.2.2
      rw [e]
      clear e ht hn
      go_enter Try.func63, Try.ntmps63
      go_wp2_with fail
      go_quiet ((go_at_call 73; exact Calls.quiet_of_same ((refright_no _ _ hin _).mono fun _ _ ⟨he, hw⟩ => ⟨he, hw.symm⟩)))
      go_wp2
      go_ret
      exact ⟨rfl, below_drewN (by go_grown) _⟩

set_option maxRecDepth 100000 in
set_option maxHeartbeats 1600000 in
theorem opright_e (r t re im : Int) (h1 : 0 ≤ r) (h2 : r ≤ 7) (h3 : 0 ≤ t) (w : World) : Calls Try.prog 63 #[.agg #[.int .i64 5, .int .i64 r, .int .i64 t, .int .i64 re, .int .i64 im]] w fun e w' => e = .returned (.bool (rB 5 r t re im)) ∧ Below w.heap.size w w' := by
  have ht : tos 5 = 4 := by decide
  have hn : numB 5 = false := by decide
  by_cases hm : (3 : Int) < t
  · have e : rB 5 r t re im = false := decide_eq_false fun ⟨_, _, _, h4, _⟩ => by rw [ht] at h4; omega
    rw [e]
    have hd : decide ((3 : Int) < t) = true := decide_eq_true hm
    clear e ht hn
    go_enter Try.func63, Try.ntmps63
    go_wp2_with fail
    go_quiet (fail)
    go_wp2
    go_ret
    exact ⟨rfl, below_drewN (by go_grown) _⟩
  · have hd : decide ((3 : Int) < t) = false := decide_eq_false hm
    by_cases hin : inB re ∧ inB im
    · have er : rB 5 r t re im = (decide (re = 0) && decide (im = 0)) := by
        unfold rB
        rw [← Bool.decide_and]
        apply decide_eq_decide.2
        constructor
        · rintro ⟨_, _, _, _, h5, _⟩
          rcases h5 with h5 | h5
          · rw [hn] at h5; cases h5
          · exact h5
        · intro h5
          exact ⟨h1, by omega, h3, by rw [ht]; omega, .inr h5, hin.1, hin.2⟩
      by_cases hr : re = 0
      · have hr' : (re == 0) = true := by simpa using hr
        by_cases hi : im = 0
        · have hi' : (im == 0) = true := by simpa using hi
          rw [decide_eq_true hr, decide_eq_true hi] at er
          rw [er]
          clear er ht hn hr hi
          go_enter Try.func63, Try.ntmps63
          go_wp2_with fail
          go_quiet ((go_at_call 73; exact Calls.quiet_of_same ((refright_yes _ _ hin.1 hin.2 _).mono fun _ _ ⟨he, hw⟩ => ⟨he, hw.symm⟩)))
          go_wp2
          go_ret
          exact ⟨rfl, below_drewN (by go_grown) _⟩
        · have hi' : (im == 0) = false := by simpa using hi
          rw [decide_eq_true hr, decide_eq_false hi] at er
          rw [er]
          clear er ht hn hr hi
          go_enter Try.func63, Try.ntmps63
          go_wp2_with fail
          go_quiet ((go_at_call 73; exact Calls.quiet_of_same ((refright_yes _ _ hin.1 hin.2 _).mono fun _ _ ⟨he, hw⟩ => ⟨he, hw.symm⟩)))
          go_wp2
          go_ret
          exact ⟨rfl, below_drewN (by go_grown) _⟩
      · have hr' : (re == 0) = false := by simpa using hr
        rw [decide_eq_false hr, Bool.false_and] at er
        rw [er]
        clear er ht hn hr
        go_enter Try.func63, Try.ntmps63
        go_wp2_with fail
        go_quiet ((go_at_call 73; exact Calls.quiet_of_same ((refright_yes _ _ hin.1 hin.2 _).mono fun _ _ ⟨he, hw⟩ => ⟨he, hw.symm⟩)))
        go_wp2
        go_ret
        exact ⟨rfl, below_drewN (by go_grown) _⟩
    · have e : rB 5 r t re im = false := decide_eq_false fun h => hin h.2.2.2.2.2
      rw [e]
      clear e ht hn
      go_enter Try.func63, Try.ntmps63
      go_wp2_with fail
      go_quiet ((go_at_call 73; exact Calls.quiet_of_same ((refright_no _ _ hin _).mono fun _ _ ⟨he, hw⟩ => ⟨he, hw.symm⟩)))
      go_wp2
      go_ret
      exact ⟨rfl, below_drewN (by go_grown) _⟩

set_option maxRecDepth 100000 in
set_option maxHeartbeats 1600000 in
theorem opright_f (r t re im : Int) (h1 : 0 ≤ r) (h2 : r ≤ 7) (h3 : 0 ≤ t) (w : World) : Calls Try.prog 63 #[.agg #[.int .i64 6, .int .i64 r, .int .i64 t, .int .i64 re, .int .i64 im]] w fun e w' => e = .returned (.bool (rB 6 r t re im)) ∧ Below w.heap.size w w' := by
  have ht : tos 6 = 8 := by decide
  have hn : numB 6 = false := by decide
  by_cases hm : (7 : Int) < t
  · have e : rB 6 r t re im = false := decide_eq_false fun ⟨_, _, _, h4, _⟩ => by rw [ht] at h4; omega
    rw [e]
    have hd : decide ((7 : Int) < t) = true := decide_eq_true hm
    clear e ht hn
    go_enter Try.func63, Try.ntmps63
    go_wp2_with fail
    go_quiet (fail)
    go_wp2
    go_ret
    exact ⟨rfl, below_drewN (by go_grown) _⟩
  · have hd : decide ((7 : Int) < t) = false := decide_eq_false hm
    by_cases hin : inB re ∧ inB im
    · have er : rB 6 r t re im = (decide (re = 0) && decide (im = 0)) := by
        unfold rB
        rw [← Bool.decide_and]
        apply decide_eq_decide.2
        constructor
        · rintro ⟨_, _, _, _, h5, _⟩
          rcases h5 with h5 | h5
          · rw [hn] at h5; cases h5
          · exact h5
        · intro h5
          exact ⟨h1, by omega, h3, by rw [ht]; omega, .inr h5, hin.1, hin.2⟩
      by_cases hr : re = 0
      · have hr' : (re == 0) = true := by simpa using hr
        by_cases hi : im = 0
        · have hi' : (im == 0) = true := by simpa using hi
          rw [decide_eq_true hr, decide_eq_true hi] at er
          rw [er]
          clear er ht hn hr hi
          go_enter Try.func63, Try.ntmps63
          go_wp2_with fail
          go_quiet ((go_at_call 73; exact Calls.quiet_of_same ((refright_yes _ _ hin.1 hin.2 _).mono fun _ _ ⟨he, hw⟩ => ⟨he, hw.symm⟩)))
          go_wp2
          go_ret
          exact ⟨rfl, below_drewN (by go_grown) _⟩
        · have hi' : (im == 0) = false := by simpa using hi
          rw [decide_eq_true hr, decide_eq_false hi] at er
          rw [er]
          clear er ht hn hr hi
          go_enter Try.func63, Try.ntmps63
          go_wp2_with fail
          go_quiet ((go_at_call 73; exact Calls.quiet_of_same ((refright_yes _ _ hin.1 hin.2 _).mono fun _ _ ⟨he, hw⟩ => ⟨he, hw.symm⟩)))
          go_wp2
          go_ret
          exact ⟨rfl, below_drewN (by go_grown) _⟩
      · have hr' : (re == 0) = false := by simpa using hr
        rw [decide_eq_false hr, Bool.false_and] at er
        rw [er]
        clear er ht hn hr
        go_enter Try.func63, Try.ntmps63
        go_wp2_with fail
        go_quiet ((go_at_call 73; exact Calls.quiet_of_same ((refright_yes _ _ hin.1 hin.2 _).mono fun _ _ ⟨he, hw⟩ => ⟨he, hw.symm⟩)))
        go_wp2
        go_ret
        exact ⟨rfl, below_drewN (by go_grown) _⟩
    · have e : rB 6 r t re im = false := decide_eq_false fun h => hin h.2.2.2.2.2
      rw [e]
      clear e ht hn
      go_enter Try.func63, Try.ntmps63
      go_wp2_with fail
      go_quiet ((go_at_call 73; exact Calls.quiet_of_same ((refright_no _ _ hin _).mono fun _ _ ⟨he, hw⟩ => ⟨he, hw.symm⟩)))
      go_wp2
      go_ret
      exact ⟨rfl, below_drewN (by go_grown) _⟩

set_option maxRecDepth 100000 in
set_option maxHeartbeats 1600000 in
theorem opright_g (r t re im : Int) (h1 : 0 ≤ r) (h2 : r ≤ 7) (h3 : 0 ≤ t) (w : World) : Calls Try.prog 63 #[.agg #[.int .i64 7, .int .i64 r, .int .i64 t, .int .i64 re, .int .i64 im]] w fun e w' => e = .returned (.bool (rB 7 r t re im)) ∧ Below w.heap.size w w' := by
  have ht : tos 7 = 8 := by decide
  have hn : numB 7 = true := by decide
  by_cases hm : (7 : Int) < t
  · have e : rB 7 r t re im = false := decide_eq_false fun ⟨_, _, _, h4, _⟩ => by rw [ht] at h4; omega
    rw [e]
    have hd : decide ((7 : Int) < t) = true := decide_eq_true hm
    clear e ht hn
    go_enter Try.func63, Try.ntmps63
    go_wp2_with fail
    go_quiet (fail)
    go_wp2
    go_ret
    exact ⟨rfl, below_drewN (by go_grown) _⟩
  · have hd : decide ((7 : Int) < t) = false := decide_eq_false hm
    by_cases hin : inB re ∧ inB im
    · have e : rB 7 r t re im = true := decide_eq_true ⟨h1, by omega, h3, by rw [ht]; omega, .inl hn, hin.1, hin.2⟩
      rw [e]
      clear e ht hn
      go_enter Try.func63, Try.ntmps63
      go_wp2_with fail
      go_quiet ((go_at_call 73; exact Calls.quiet_of_same ((refright_yes _ _ hin.1 hin.2 _).mono fun _ _ ⟨he, hw⟩ => ⟨he, hw.symm⟩)))
      go_wp2
      go_ret
      exact ⟨rfl, below_drewN (by go_grown) _⟩
    · have e : rB 7 r t re im = false := decide_eq_false fun h => hin h.2.2.2.2.2
      rw [e]
      clear e ht hn
      go_enter Try.func63, Try.ntmps63
      go_wp2_with fail
      go_quiet ((go_at_call 73; exact Calls.quiet_of_same ((refright_no _ _ hin _).mono fun _ _ ⟨he, hw⟩ => ⟨he, hw.symm⟩)))
      go_wp2
      go_ret
      exact ⟨rfl, below_drewN (by go_grown) _⟩

theorem opright_any (k r t re im : Int) (w : World) : Calls Try.prog 63 #[.agg #[.int .i64 k, .int .i64 r, .int .i64 t, .int .i64 re, .int .i64 im]] w fun e w' => e = .returned (.bool (rB k r t re im)) ∧ Below w.heap.size w w' := by
  by_cases h : k < 1 ∨ 7 < k ∨ r < 0 ∨ 7 < r ∨ t < 0
  · exact opright_far k r t re im h w
  · have hk : k = 1 ∨ k = 2 ∨ k = 3 ∨ k = 4 ∨ k = 5 ∨ k = 6 ∨ k = 7 := by omega
    rcases hk with rfl | rfl | rfl | rfl | rfl | rfl | rfl
    · exact opright_a r t re im (by omega) (by omega) (by omega) w
    · exact opright_b r t re im (by omega) (by omega) (by omega) w
    · exact opright_c r t re im (by omega) (by omega) (by omega) w
    · exact opright_d r t re im (by omega) (by omega) (by omega) w
    · exact opright_e r t re im (by omega) (by omega) (by omega) w
    · exact opright_f r t re im (by omega) (by omega) (by omega) w
    · exact opright_g r t re im (by omega) (by omega) (by omega) w
end Go.Proofs.Ytnngmapphacpkaa
