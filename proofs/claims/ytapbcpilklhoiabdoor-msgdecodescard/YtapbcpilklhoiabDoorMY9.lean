/-
  Right of the reference of package app, in the words of the Value laws. No condition.
  CheckCmd and Check of the reference of package value: the same answers. Conditions: what is read is in reach.
  The walk of ValueChecks. No condition but the reach of what is read.
  Decode of the reference of package value, whatever the bytes. Conditions: what is read is in reach.
  Num and Int of the reference of package pack, in the words of the Value laws. No condition.
-/
import Derived.Test.YtapbcpilklhoiabDoorMY6
import Derived.Test.YtapbcpilklhoiabDoorMY8
import Derived.Test.YtapbcpilklhoiabDoorMY7
import Derived.Test.YtapbcpilklhoiabDoorMY3
set_option linter.unusedSimpArgs false
set_option linter.unusedVariables false

namespace Go.Proofs.YtapbcpilklhoiabDoor
open Go.RowKit

/-- What the reference's Right tells: as a Bool. -/
theorem tos_kind {k t : Int} (h0 : 0 ≤ t) (h : t < tos k) : k = 1 ∨ k = 2 ∨ k = 3 ∨ k = 4 ∨ k = 5 ∨ k = 6 ∨ k = 7 := by
  unfold tos at h
  split at h
  · omega
  · split at h
    · omega
    · split at h
      · omega
      · omega
def rB (k r t re im : Int) : Bool := decide (rightOp k r t re im)

theorem tos_tab (k : Nat) (h1 : 1 ≤ k) (h7 : k ≤ 7) : ([0, 0, 0, 0, 0, 3, 7, 7] : List Int)[k]? = some (tos k - 1) := by
  match k, h1, h7 with
  | 1, _, _ => rfl
  | 2, _, _ => rfl
  | 3, _, _ => rfl
  | 4, _, _ => rfl
  | 5, _, _ => rfl
  | 6, _, _ => rfl
  | 7, _, _ => rfl

theorem opright_far (k r t re im : Int) (h : k < 1 ∨ 7 < k ∨ r < 0 ∨ 7 < r ∨ t < 0) (w : World) : Calls Tryd.prog 65 #[.agg #[.int .i64 k, .int .i64 r, .int .i64 t, .int .i64 re, .int .i64 im]] w fun e w' => e = .returned (.bool (rB k r t re im)) ∧ Below w.heap.size w w' := by
  have e : rB k r t re im = false := decide_eq_false fun ⟨h1, h2, h3, h4, _⟩ => by
    have := tos_kind h3 h4
    omega
  rw [e]
  clear e
  rcases h with h | h | h | h | h
  all_goals
    go_enter Tryd.func65, Tryd.ntmps65
    go_wp2
    all_goals (go_ret; exact ⟨rfl, by go_grown⟩)

set_option maxRecDepth 100000 in
set_option maxHeartbeats 1600000 in
theorem opright_a (r t re im : Int) (h1 : 0 ≤ r) (h2 : r ≤ 7) (h3 : 0 ≤ t) (w : World) : Calls Tryd.prog 65 #[.agg #[.int .i64 1, .int .i64 r, .int .i64 t, .int .i64 re, .int .i64 im]] w fun e w' => e = .returned (.bool (rB 1 r t re im)) ∧ Below w.heap.size w w' := by
  have ht : tos 1 = 1 := by decide
  have hn : numB 1 = false := by decide
  by_cases hm : (0 : Int) < t
  · have e : rB 1 r t re im = false := decide_eq_false fun ⟨_, _, _, h4, _⟩ => by rw [ht] at h4; omega
    rw [e]
    have hd : decide ((0 : Int) < t) = true := decide_eq_true hm
    clear e ht hn
    go_enter Tryd.func65, Tryd.ntmps65
    go_wp2_with fail
    go_quiet (fail)
    go_wp2
    go_ret
    exact ⟨rfl, below_drewN (by go_grown) _⟩
  · have hd : decide ((0 : Int) < t) = false := decide_eq_false hm
    by_cases hin : inB re ∧ inB im
    · have er : rB 1 r t re im = (decide (re = 0) && decide (im = 0)) := by
        unfold rB
        rw [← Bool.decide_and]
        apply decide_eq_decide.2
        constructor
        · rintro ⟨_, _, _, _, h5, _⟩
          rcases h5 with h5 | h5
          · rw [hn] at h5; cases h5
          · exact h5
        · intro h5
          exact ⟨h1, by omega, h3, by rw [ht]; omega, .inr h5, hin.1, hin.2⟩
      by_cases hr : re = 0
      · have hr' : (re == 0) = true := by simpa using hr
        by_cases hi : im = 0
        · have hi' : (im == 0) = true := by simpa using hi
          rw [decide_eq_true hr, decide_eq_true hi] at er
          rw [er]
          clear er ht hn hr hi
          go_enter Tryd.func65, Tryd.ntmps65
          go_wp2_with fail
          go_quiet ((go_at_call 66; exact Calls.quiet_of_same ((refright_yes _ _ hin.1 hin.2 _).mono fun _ _ ⟨he, hw⟩ => ⟨he, hw.symm⟩)))
          go_wp2
          go_ret
          exact ⟨rfl, below_drewN (by go_grown) _⟩
        · have hi' : (im == 0) = false := by simpa using hi
          rw [decide_eq_true hr, decide_eq_false hi] at er
          rw [er]
          clear er ht hn hr hi
          go_enter Tryd.func65, Tryd.ntmps65
          go_wp2_with fail
          go_quiet ((go_at_call 66; exact Calls.quiet_of_same ((refright_yes _ _ hin.1 hin.2 _).mono fun _ _ ⟨he, hw⟩ => ⟨he, hw.symm⟩)))
          go_wp2
          go_ret
          exact ⟨rfl, below_drewN (by go_grown) _⟩
      · have hr' : (re == 0) = false := by simpa using hr
        rw [decide_eq_false hr, Bool.false_and] at er
        rw [er]
        clear er ht hn hr
        go_enter Tryd.func65, Tryd.ntmps65
        go_wp2_with fail
        go_quiet ((go_at_call 66; exact Calls.quiet_of_same ((refright_yes _ _ hin.1 hin.2 _).mono fun _ _ ⟨he, hw⟩ => ⟨he, hw.symm⟩)))
        go_wp2
        go_ret
        exact ⟨rfl, below_drewN (by go_grown) _⟩
    · have e : rB 1 r t re im = false := decide_eq_false fun h => hin h.2.2.2.2.2
      rw [e]
      clear e ht hn
      go_enter Tryd.func65, Tryd.ntmps65
      go_wp2_with fail
      go_quiet ((go_at_call 66; exact Calls.quiet_of_same ((refright_no _ _ hin _).mono fun _ _ ⟨he, hw⟩ => ⟨he, hw.symm⟩)))
      go_wp2
      go_ret
      exact ⟨rfl, below_drewN (by go_grown) _⟩

set_option maxRecDepth 100000 in
set_option maxHeartbeats 1600000 in
theorem opright_b (r t re im : Int) (h1 : 0 ≤ r) (h2 : r ≤ 7) (h3 : 0 ≤ t) (w : World) : Calls Tryd.prog 65 #[.agg #[.int .i64 2, .int .i64 r, .int .i64 t, .int .i64 re, .int .i64 im]] w fun e w' => e = .returned (.bool (rB 2 r t re im)) ∧ Below w.heap.size w w' := by
  have ht : tos 2 = 1 := by decide
  have hn : numB 2 = true := by decide
  by_cases hm : (0 : Int) < t
  · have e : rB 2 r t re im = false := decide_eq_false fun ⟨_, _, _, h4, _⟩ => by rw [ht] at h4; omega
    rw [e]
    have hd : decide ((0 : Int) < t) = true := decide_eq_true hm
    clear e ht hn
    go_enter Tryd.func65, Tryd.ntmps65
    go_wp2_with fail
    go_quiet (fail)
    go_wp2
    go_ret
    exact ⟨rfl, below_drewN (by go_grown) _⟩
  · have hd : decide ((0 : Int) < t) = false := decide_eq_false hm
    by_cases hin : inB re ∧ inB im
    · have e : rB 2 r t re im = true := decide_eq_true ⟨h1, by omega, h3, by rw [ht]; omega, .inl hn, hin.1, hin.2⟩
      rw [e]
      clear e ht hn
      go_enter Tryd.func65, Tryd.ntmps65
      go_wp2_with fail
      go_quiet ((go_at_call 66; exact Calls.quiet_of_same ((refright_yes _ _ hin.1 hin.2 _).mono fun _ _ ⟨he, hw⟩ => ⟨he, hw.symm⟩)))
      go_wp2
      go_ret
      exact ⟨rfl, below_drewN (by go_grown) _⟩
    · have e : rB 2 r t re im = false := decide_eq_false fun h => hin h.2.2.2.2.2
      rw [e]
      clear e ht hn
      go_enter Tryd.func65, Tryd.ntmps65
      go_wp2_with fail
      go_quiet ((go_at_call 66; exact Calls.quiet_of_same ((refright_no _ _ hin _).mono fun _ _ ⟨he, hw⟩ => ⟨he, hw.symm⟩)))
      go_wp2
      go_ret
      exact ⟨rfl, below_drewN (by go_grown) _⟩

set_option maxRecDepth 100000 in
set_option maxHeartbeats 1600000 in
theorem opright_c (r t re im : Int) (h1 : 0 ≤ r) (h2 : r ≤ 7) (h3 : 0 ≤ t) (w : World) : Calls Tryd.prog 65 #[.agg #[.int .i64 3, .int .i64 r, .int .i64 t, .int .i64 re, .int .i64 im]] w fun e w' => e = .returned (.bool (rB 3 r t re im)) ∧ Below w.heap.size w w' := by
  have ht : tos 3 = 1 := by decide
  have hn : numB 3 = true := by decide
  by_cases hm : (0 : Int) < t
  · have e : rB 3 r t re im = false := decide_eq_false fun ⟨_, _, _, h4, _⟩ => by rw [ht] at h4; omega
    rw [e]
    have hd : decide ((0 : Int) < t) = true := decide_eq_true hm
    clear e ht hn
    go_enter Tryd.func65, Tryd.ntmps65
    go_wp2_with fail
    go_quiet (fail)
    go_wp2
    go_ret
    exact ⟨rfl, below_drewN (by go_grown) _⟩
  · have hd : decide ((0 : Int) < t) = false := decide_eq_false hm
    by_cases hin : inB re ∧ inB im
    · have e : rB 3 r t re im = true := decide_eq_true ⟨h1, by omega, h3, by rw [ht]; omega, .inl hn, hin.1, hin.2⟩
      rw [e]
      clear e ht hn
      go_enter Tryd.func65, Tryd.ntmps65
      go_wp2_with fail
      go_quiet ((go_at_call 66; exact Calls.quiet_of_same ((refright_yes _ _ hin.1 hin.2 _).mono fun _ _ ⟨he, hw⟩ => ⟨he, hw.symm⟩)))
      go_wp2
      go_ret
      exact ⟨rfl, below_drewN (by go_grown) _⟩
    · have e : rB 3 r t re im = false := decide_eq_false fun h => hin h.2.2.2.2.2
      rw [e]
      clear e ht hn
      go_enter Tryd.func65, Tryd.ntmps65
      go_wp2_with fail
      go_quiet ((go_at_call 66; exact Calls.quiet_of_same ((refright_no _ _ hin _).mono fun _ _ ⟨he, hw⟩ => ⟨he, hw.symm⟩)))
      go_wp2
      go_ret
      exact ⟨rfl, below_drewN (by go_grown) _⟩

set_option maxRecDepth 100000 in
set_option maxHeartbeats 1600000 in
theorem opright_d (r t re im : Int) (h1 : 0 ≤ r) (h2 : r ≤ 7) (h3 : 0 ≤ t) (w : World) : Calls Tryd.prog 65 #[.agg #[.int .i64 4, .int .i64 r, .int .i64 t, .int .i64 re, .int .i64 im]] w fun e w' => e = .returned (.bool (rB 4 r t re im)) ∧ Below w.heap.size w w' := by
  have ht : tos 4 = 1 := by decide
  have hn : numB 4 = true := by decide
  by_cases hm : (0 : Int) < t
  · have e : rB 4 r t re im = false := decide_eq_false fun ⟨_, _, _, h4, _⟩ => by rw [ht] at h4; omega
    rw [e]
    have hd : decide ((0 : Int) < t) = true := decide_eq_true hm
    clear e ht hn
    go_enter Tryd.func65, Tryd.ntmps65
    go_wp2_with fail
    go_quiet (fail)
    go_wp2
    go_ret
    exact ⟨rfl, below_drewN (by go_grown) _⟩
  · have hd : decide ((0 : Int) < t) = false := decide_eq_false hm
    by_cases hin : inB re ∧ inB im
    · have e : rB 4 r t re im = true := decide_eq_true ⟨h1, by omega, h3, by rw [ht]; omega, .inl hn, hin.1, hin.2⟩
      rw [e]
      clear e ht hn
      go_enter Tryd.func65, Tryd.ntmps65
      go_wp2_with fail
      go_quiet ((go_at_call 66; exact Calls.quiet_of_same ((refright_yes _ _ hin.1 hin.2 _).mono fun _ _ ⟨he, hw⟩ => ⟨he, hw.symm⟩)))
      go_wp2
      go_ret
      exact ⟨rfl, below_drewN (by go_grown) _⟩
    · have e : rB 4 r t re im = false := decide_eq_false fun h => hin h.2.2.2.2.2
      rw [e]
      clear e ht hn
      go_enter Tryd.func65, Tryd.ntmps65
      go_wp2_with fail
      go_quiet ((go_at_call 66; exact Calls.quiet_of_same ((refright_no _ _ hin _).mono fun _ _ ⟨he, hw⟩ => ⟨he, hw.symm⟩)))
      go_wp2
      go_ret
      exact ⟨rfl, below_drewN (by go_grown) _⟩

set_option maxRecDepth 100000 in
set_option maxHeartbeats 1600000 in
theorem opright_e (r t re im : Int) (h1 : 0 ≤ r) (h2 : r ≤ 7) (h3 : 0 ≤ t) (w : World) : Calls Tryd.prog 65 #[.agg #[.int .i64 5, .int .i64 r, .int .i64 t, .int .i64 re, .int .i64 im]] w fun e w' => e = .returned (.bool (rB 5 r t re im)) ∧ Below w.heap.size w w' := by
  have ht : tos 5 = 4 := by decide
  have hn : numB 5 = false := by decide
  by_cases hm : (3 : Int) < t
  · have e : rB 5 r t re im = false := decide_eq_false fun ⟨_, _, _, h4, _⟩ => by rw [ht] at h4; omega
    rw [e]
    have hd : decide ((3 : Int) < t) = true := decide_eq_true hm
    clear e ht hn
    go_enter Tryd.func65, Tryd.ntmps65
    go_wp2_with fail
    go_quiet (fail)
    go_wp2
    go_ret
    exact ⟨rfl, below_drewN (by go_grown) _⟩
  · have hd : decide ((3 : Int) < t) = false := decide_eq_false hm
    by_cases hin : inB re ∧ inB im
    · have er : rB 5 r t re im = (decide (re = 0) && decide (im = 0)) := by
        unfold rB
        rw [← Bool.decide_and]
        apply decide_eq_decide.2
        constructor
        · rintro ⟨_, _, _, _, h5, _⟩
          rcases h5 with h5 | h5
          · rw [hn] at h5; cases h5
          · exact h5
        · intro h5
          exact ⟨h1, by omega, h3, by rw [ht]; omega, .inr h5, hin.1, hin.2⟩
      by_cases hr : re = 0
      · have hr' : (re == 0) = true := by simpa using hr
        by_cases hi : im = 0
        · have hi' : (im == 0) = true := by simpa using hi
          rw [decide_eq_true hr, decide_eq_true hi] at er
          rw [er]
          clear er ht hn hr hi
          go_enter Tryd.func65, Tryd.ntmps65
          go_wp2_with fail
          go_quiet ((go_at_call 66; exact Calls.quiet_of_same ((refright_yes _ _ hin.1 hin.2 _).mono fun _ _ ⟨he, hw⟩ => ⟨he, hw.symm⟩)))
          go_wp2
          go_ret
          exact ⟨rfl, below_drewN (by go_grown) _⟩
        · have hi' : (im == 0) = false := by simpa using hi
          rw [decide_eq_true hr, decide_eq_false hi] at er
          rw [er]
          clear er ht hn hr hi
          go_enter Tryd.func65, Tryd.ntmps65
          go_wp2_with fail
          go_quiet ((go_at_call 66; exact Calls.quiet_of_same ((refright_yes _ _ hin.1 hin.2 _).mono fun _ _ ⟨he, hw⟩ => ⟨he, hw.symm⟩)))
          go_wp2
          go_ret
          exact ⟨rfl, below_drewN (by go_grown) _⟩
      · have hr' : (re == 0) = false := by simpa using hr
        rw [decide_eq_false hr, Bool.false_and] at er
        rw [er]
        clear er ht hn hr
        go_enter Tryd.func65, Tryd.ntmps65
        go_wp2_with fail
        go_quiet ((go_at_call 66; exact Calls.quiet_of_same ((refright_yes _ _ hin.1 hin.2 _).mono fun _ _ ⟨he, hw⟩ => ⟨he, hw.symm⟩)))
        go_wp2
        go_ret
        exact ⟨rfl, below_drewN (by go_grown) _⟩
    · have e : rB 5 r t re im = false := decide_eq_false fun h => hin h.2.2.2.2.2
      rw [e]
      clear e ht hn
      go_enter Tryd.func65, Tryd.ntmps65
      go_wp2_with fail
      go_quiet ((go_at_call 66; exact Calls.quiet_of_same ((refright_no _ _ hin _).mono fun _ _ ⟨he, hw⟩ => ⟨he, hw.symm⟩)))
      go_wp2
      go_ret
      exact ⟨rfl, below_drewN (by go_grown) _⟩

set_option maxRecDepth 100000 in
set_option maxHeartbeats 1600000 in
theorem opright_f (r t re im : Int) (h1 : 0 ≤ r) (h2 : r ≤ 7) (h3 : 0 ≤ t) (w : World) : Calls Tryd.prog 65 #[.agg #[.int .i64 6, .int .i64 r, .int .i64 t, .int .i64 re, .int .i64 im]] w fun e w' => e = .returned (.bool (rB 6 r t re im)) ∧ Below w.heap.size w w' := by
  have ht : tos 6 = 8 := by decide
  have hn : numB 6 = false := by decide
  by_cases hm : (7 : Int) < t
  · have e : rB 6 r t re im = false := decide_eq_false fun ⟨_, _, _, h4, _⟩ => by rw [ht] at h4; omega
    rw [e]
    have hd : decide ((7 : Int) < t) = true := decide_eq_true hm
    clear e ht hn
    go_enter Tryd.func65, Tryd.ntmps65
    go_wp2_with fail
    go_quiet (fail)
    go_wp2
    go_ret
    exact ⟨rfl, below_drewN (by go_grown) _⟩
  · have hd : decide ((7 : Int) < t) = false := decide_eq_false hm
    by_cases hin : inB re ∧ inB im
    · have er : rB 6 r t re im = (decide (re = 0) && decide (im = 0)) := by
        unfold rB
        rw [← Bool.decide_and]
        apply decide_eq_decide.2
        constructor
        · rintro ⟨_, _, _, _, h5, _⟩
          rcases h5 with h5 | h5
          · rw [hn] at h5; cases h5
          · exact h5
        · intro h5
          exact ⟨h1, by omega, h3, by rw [ht]; omega, .inr h5, hin.1, hin.2⟩
      by_cases hr : re = 0
      · have hr' : (re == 0) = true := by simpa using hr
        by_cases hi : im = 0
        · have hi' : (im == 0) = true := by simpa using hi
          rw [decide_eq_true hr, decide_eq_true hi] at er
          rw [er]
          clear er ht hn hr hi
          go_enter Tryd.func65, Tryd.ntmps65
          go_wp2_with fail
          go_quiet ((go_at_call 66; exact Calls.quiet_of_same ((refright_yes _ _ hin.1 hin.2 _).mono fun _ _ ⟨he, hw⟩ => ⟨he, hw.symm⟩)))
          go_wp2
          go_ret
          exact ⟨rfl, below_drewN (by go_grown) _⟩
        · have hi' : (im == 0) = false := by simpa using hi
          rw [decide_eq_true hr, decide_eq_false hi] at er
          rw [er]
          clear er ht hn hr hi
          go_enter Tryd.func65, Tryd.ntmps65
          go_wp2_with fail
          go_quiet ((go_at_call 66; exact Calls.quiet_of_same ((refright_yes _ _ hin.1 hin.2 _).mono fun _ _ ⟨he, hw⟩ => ⟨he, hw.symm⟩)))
          go_wp2
          go_ret
          exact ⟨rfl, below_drewN (by go_grown) _⟩
      · have hr' : (re == 0) = false := by simpa using hr
        rw [decide_eq_false hr, Bool.false_and] at er
        rw [er]
        clear er ht hn hr
        go_enter Tryd.func65, Tryd.ntmps65
        go_wp2_with fail
        go_quiet ((go_at_call 66; exact Calls.quiet_of_same ((refright_yes _ _ hin.1 hin.2 _).mono fun _ _ ⟨he, hw⟩ => ⟨he, hw.symm⟩)))
        go_wp2
        go_ret
        exact ⟨rfl, below_drewN (by go_grown) _⟩
    · have e : rB 6 r t re im = false := decide_eq_false fun h => hin h.2.2.2.2.2
      rw [e]
      clear e ht hn
      go_enter Tryd.func65, Tryd.ntmps65
      go_wp2_with fail
      go_quiet ((go_at_call 66; exact Calls.quiet_of_same ((refright_no _ _ hin _).mono fun _ _ ⟨he, hw⟩ => ⟨he, hw.symm⟩)))
      go_wp2
      go_ret
      exact ⟨rfl, below_drewN (by go_grown) _⟩

set_option maxRecDepth 100000 in
set_option maxHeartbeats 1600000 in
theorem opright_g (r t re im : Int) (h1 : 0 ≤ r) (h2 : r ≤ 7) (h3 : 0 ≤ t) (w : World) : Calls Tryd.prog 65 #[.agg #[.int .i64 7, .int .i64 r, .int .i64 t, .int .i64 re, .int .i64 im]] w fun e w' => e = .returned (.bool (rB 7 r t re im)) ∧ Below w.heap.size w w' := by
  have ht : tos 7 = 8 := by decide
  have hn : numB 7 = true := by decide
  by_cases hm : (7 : Int) < t
  · have e : rB 7 r t re im = false := decide_eq_false fun ⟨_, _, _, h4, _⟩ => by rw [ht] at h4; omega
    rw [e]
    have hd : decide ((7 : Int) < t) = true := decide_eq_true hm
    clear e ht hn
    go_enter Tryd.func65, Tryd.ntmps65
    go_wp2_with fail
    go_quiet (fail)
    go_wp2
    go_ret
    exact ⟨rfl, below_drewN (by go_grown) _⟩
  · have hd : decide ((7 : Int) < t) = false := decide_eq_false hm
    by_cases hin : inB re ∧ inB im
    · have e : rB 7 r t re im = true := decide_eq_true ⟨h1, by omega, h3, by rw [ht]; omega, .inl hn, hin.1, hin.2⟩
      rw [e]
      clear e ht hn
      go_enter Tryd.func65, Tryd.ntmps65
      go_wp2_with fail
      go_quiet ((go_at_call 66; exact Calls.quiet_of_same ((refright_yes _ _ hin.1 hin.2 _).mono fun _ _ ⟨he, hw⟩ => ⟨he, hw.symm⟩)))
      go_wp2
      go_ret
      exact ⟨rfl, below_drewN (by go_grown) _⟩
    · have e : rB 7 r t re im = false := decide_eq_false fun h => hin h.2.2.2.2.2
      rw [e]
      clear e ht hn
      go_enter Tryd.func65, Tryd.ntmps65
      go_wp2_with fail
      go_quiet ((go_at_call 66; exact Calls.quiet_of_same ((refright_no _ _ hin _).mono fun _ _ ⟨he, hw⟩ => ⟨he, hw.symm⟩)))
      go_wp2
      go_ret
      exact ⟨rfl, below_drewN (by go_grown) _⟩

theorem opright_any (k r t re im : Int) (w : World) : Calls Tryd.prog 65 #[.agg #[.int .i64 k, .int .i64 r, .int .i64 t, .int .i64 re, .int .i64 im]] w fun e w' => e = .returned (.bool (rB k r t re im)) ∧ Below w.heap.size w w' := by
  by_cases h : k < 1 ∨ 7 < k ∨ r < 0 ∨ 7 < r ∨ t < 0
  · exact opright_far k r t re im h w
  · have hk : k = 1 ∨ k = 2 ∨ k = 3 ∨ k = 4 ∨ k = 5 ∨ k = 6 ∨ k = 7 := by omega
    rcases hk with rfl | rfl | rfl | rfl | rfl | rfl | rfl
    · exact opright_a r t re im (by omega) (by omega) (by omega) w
    · exact opright_b r t re im (by omega) (by omega) (by omega) w
    · exact opright_c r t re im (by omega) (by omega) (by omega) w
    · exact opright_d r t re im (by omega) (by omega) (by omega) w
    · exact opright_e r t re im (by omega) (by omega) (by omega) w
    · exact opright_f r t re im (by omega) (by omega) (by omega) w
    · exact opright_g r t re im (by omega) (by omega) (by omega) w
end Go.Proofs.YtapbcpilklhoiabDoor

namespace Go.Proofs.YtapbcpilklhoiabDoor
open Go.RowKit

theorem cmdP_iff (c : Cmdv) : cmdP c ↔ 1 ≤ c.s ∧ c.s ≤ 1073741824 ∧ 1 ≤ c.q ∧ c.q ≤ 1099511627776 ∧ 0 ≤ c.a ∧ c.a < c.q := by
  unfold cmdP insB
  simp only [decide_eq_true_eq]
  omega
theorem chk_rB (k r t re im : Int) : chk k r t re im = if rB k r t re im = true then 0 else 22 := by
  unfold chk rB
  by_cases h : rightOp k r t re im
  · rw [if_pos h, if_pos (decide_eq_true h)]
  · rw [if_neg h, if_neg (by simpa using h)]

set_option maxHeartbeats 1600000 in
theorem rcheckcmd_any (c : Cmdv) (w : World) : Calls Tryd.prog 28 #[c.val] w fun e w' => e = .returned (.int .i64 (chkC c)) ∧ Below w.heap.size w w' := by
  unfold Cmdv.val
  by_cases h0 : c.s < 1
  · have e : chkC c = 23 := if_neg (fun h => by have := (cmdP_iff c).1 h; omega)
    rw [e]
    clear e
    go_enter Tryd.func28, Tryd.ntmps28
    go_wp2
    go_ret
    exact ⟨rfl, by go_grown⟩
  by_cases h1 : 1073741824 < c.s
  · have e : chkC c = 23 := if_neg (fun h => by have := (cmdP_iff c).1 h; omega)
    rw [e]
    clear e
    go_enter Tryd.func28, Tryd.ntmps28
    go_wp2
    go_ret
    exact ⟨rfl, by go_grown⟩
  by_cases h2 : c.q < 1
  · have e : chkC c = 23 := if_neg (fun h => by have := (cmdP_iff c).1 h; omega)
    rw [e]
    clear e
    go_enter Tryd.func28, Tryd.ntmps28
    go_wp2
    go_ret
    exact ⟨rfl, by go_grown⟩
  by_cases h3 : 1099511627776 < c.q
  · have e : chkC c = 23 := if_neg (fun h => by have := (cmdP_iff c).1 h; omega)
    rw [e]
    clear e
    go_enter Tryd.func28, Tryd.ntmps28
    go_wp2
    go_ret
    exact ⟨rfl, by go_grown⟩
  by_cases h4 : c.a < 0
  · have e : chkC c = 23 := if_neg (fun h => by have := (cmdP_iff c).1 h; omega)
    rw [e]
    clear e
    go_enter Tryd.func28, Tryd.ntmps28
    go_wp2
    go_ret
    exact ⟨rfl, by go_grown⟩
  by_cases h5 : c.q ≤ c.a
  · have e : chkC c = 23 := if_neg (fun h => by have := (cmdP_iff c).1 h; omega)
    rw [e]
    clear e
    go_enter Tryd.func28, Tryd.ntmps28
    go_wp2
    go_ret
    exact ⟨rfl, by go_grown⟩
  have e : chkC c = chk c.k c.r c.t c.re c.im := if_pos ((cmdP_iff c).2 (by omega))
  rw [e, chk_rB]
  clear e
  by_cases hr : rB c.k c.r c.t c.re c.im = true
  · rw [if_pos hr]
    have HR := hide hr
    clear hr
    go_enter Tryd.func28, Tryd.ntmps28
    go_wp2_with fail
    refine (opright_any c.k c.r c.t c.re c.im _).mono ?_
    rintro e w1 ⟨rfl, hb⟩
    rw [HR.out]
    go_wp2
    go_ret
    exact ⟨rfl, below_of_alloc hb⟩
  · rw [if_neg hr]
    have HR := hide (Bool.eq_false_iff.2 hr)
    clear hr
    go_enter Tryd.func28, Tryd.ntmps28
    go_wp2_with fail
    refine (opright_any c.k c.r c.t c.re c.im _).mono ?_
    rintro e w1 ⟨rfl, hb⟩
    rw [HR.out]
    go_wp2
    go_ret
    exact ⟨rfl, below_of_alloc hb⟩

theorem chkV_bad {k : Int} {cs : List Cmdv} {ns : List Int} (h : ¬ shP k cs.length ns.length) : chkV k cs ns = 25 := by
  unfold chkV
  rw [if_neg (by unfold shB; simpa using h)]
theorem chkV_good {k : Int} {cs : List Cmdv} {ns : List Int} (h : shP k cs.length ns.length) : chkV k cs ns = if k = 2 then chkS ns else chkCs cs := by
  unfold chkV
  rw [if_pos (by unfold shB; simpa using h)]

set_option maxHeartbeats 3200000 in
theorem rvcheck_any (k : Int) (A A' : Option Addr) (n c n' c' B : Nat) (cs : List Cmdv) (ns : List Int) (w : World) (hC : HasC w B A cs) (hN : HasI w B A' ns) (hB : B ≤ w.heap.size) (hn : cs.length = n) (hn' : ns.length = n') (hl' : n' ≤ 140737488355328) :
    Calls Tryd.prog 26 #[.agg #[.int .i64 k, .slice A n c, .slice A' n' c']] w fun e w' => e = .returned (.int .i64 (chkV k cs ns)) ∧ Below w.heap.size w w' := by
  have hbad := @chkV_bad k cs ns
  have hgood := @chkV_good k cs ns
  rw [hn, hn'] at hbad hgood
  have HN := hide hn
  have HN' := hide hn'
  clear hn hn'
  have HB := hide hbad
  have HG := hide hgood
  clear hbad hgood
  by_cases hk0 : k < 0
  · have hk1 := hk0
    rw [HB.out (by unfold shP; omega)]
    clear HB HG hC hN
    go_enter Tryd.func26, Tryd.ntmps26
    go_wp2
    go_ret
    exact ⟨rfl, by go_grown⟩
  by_cases hk2 : 2 < k
  · have hk1 := hk2
    rw [HB.out (by unfold shP; omega)]
    clear HB HG hC hN
    go_enter Tryd.func26, Tryd.ntmps26
    go_wp2
    go_ret
    exact ⟨rfl, by go_grown⟩
  have hk : k = 0 ∨ k = 1 ∨ k = 2 := by omega
  clear hk0 hk2
  rcases hk with rfl | rfl | rfl
  · by_cases z : n = 0
    · subst z
      by_cases z' : n' = 0
      · subst z'
        have hE : Hid (chkV 0 cs ns = chkCs cs) := hide ((HG.out (by unfold shP; omega)).trans (if_neg (by omega)))
        clear HB HG
        go_enter Tryd.func26, Tryd.ntmps26
        go_wp2_with fail
        have T : Hid (chkCs cs = 0) := hide (by rw [List.eq_nil_of_length_eq_zero HN.out]; rfl)
        go_loop [62] (fun i => i = .int .i64 0) (fun _ => 0)
        case atStart => rfl
        case round =>
          subst hrel
          go_wp2
          go_ret
          exact ⟨by rw [hE.out, T.out]; rfl, by go_grown⟩
      · have z0 := z'
        have tn'a : ((n' : Int) == 0) = false := by rw [beq_eq_false_iff_ne]; omega
        have tn'b : ((n' : Int) != 0) = true := by rw [bne_iff_ne]; omega
        rw [HB.out (by unfold shP; omega)]
        clear HB HG hC hN
        go_enter Tryd.func26, Tryd.ntmps26
        go_wp2
        go_ret
        exact ⟨rfl, by go_grown⟩
    · have z0 := z
      have tna : ((n : Int) == 0) = false := by rw [beq_eq_false_iff_ne]; omega
      have tnb : ((n : Int) != 0) = true := by rw [bne_iff_ne]; omega
      rw [HB.out (by unfold shP; omega)]
      clear HB HG hC hN
      go_enter Tryd.func26, Tryd.ntmps26
      go_wp2
      go_ret
      exact ⟨rfl, by go_grown⟩
  · by_cases z' : n' = 0
    · subst z'
      by_cases z : n = 0
      · subst z
        rw [HB.out (by unfold shP; omega)]
        clear HB HG hC hN
        go_enter Tryd.func26, Tryd.ntmps26
        go_wp2
        go_ret
        exact ⟨rfl, by go_grown⟩
      · have z0 := z
        have tna : ((n : Int) == 0) = false := by rw [beq_eq_false_iff_ne]; omega
        have tnb : ((n : Int) != 0) = true := by rw [bne_iff_ne]; omega
        by_cases z8 : 8 < n
        · have z9 := z8
          rw [HB.out (by unfold shP; omega)]
          clear HB HG hC hN
          go_enter Tryd.func26, Tryd.ntmps26
          go_wp2
          go_ret
          exact ⟨rfl, by go_grown⟩
        · have hE : Hid (chkV 1 cs ns = chkCs cs) := hide ((HG.out (by unfold shP; omega)).trans (if_neg (by omega)))
          clear HB HG
          go_enter Tryd.func26, Tryd.ntmps26
          go_wp2_with fail
          have hb0 : Below w.heap.size w (w.alloc (.cells #[.int .i64 1, .slice A n c, .slice A' 0 c'] 27)) := (Below.refl _ _).alloc (Nat.le_refl _) _
          have hp0 := heap_alloc_new w (.cells #[.int .i64 1, .slice A n c, .slice A' 0 c'] 27)
          have hC0 := hC.alloc hB (.cells #[.int .i64 1, .slice A n c, .slice A' 0 c'] 27)
          generalize w.alloc (.cells #[.int .i64 1, .slice A n c, .slice A' 0 c'] 27) = W0 at *
          have hz0 := lt_of_block hp0
          have HCC : Hid (∀ W, Below W0.heap.size W0 W → HasC W B A cs ∧ W.cell? ⟨w.heap.size, 1, none⟩ = some (.slice A n c)) := hide (fun W h => ⟨hC0.on (by omega) h, (row_cells ((h.block w.heap.size hz0).trans hp0) 1).1⟩)
          clear hC hC0 hp0
          go_loopw [62] (fun i wr => ∃ j : Nat, j ≤ n ∧ i = .int .i64 j ∧ Hid (chkCs cs = chkCs (cs.drop j)) ∧ Below W0.heap.size W0 wr) (fun i _ => n - (intOf i).toNat)
          case atStart => exact ⟨0, Nat.zero_le _, rfl, hide rfl, Below.refl _ _⟩
          case round =>
            obtain ⟨j, hj, rfl, hcs, hbr⟩ := hrel
            obtain ⟨hcr, hcell⟩ := HCC.out _ hbr
            by_cases hlt : j < n
            · have hlt' : j < cs.length := by rw [HN.out]; exact hlt
              have hcl := hcr j hlt'
              have hok : Hid (chkC cs[j] = 0 → chkCs cs = chkCs (cs.drop (j + 1))) := hide (fun h => hcs.out.trans (chkCs_ok hlt' h))
              have hbad : Hid (chkC cs[j] ≠ 0 → chkCs cs = chkC cs[j]) := hide (fun h => hcs.out.trans (chkCs_bad hlt' h))
              clear hcr
              generalize cs[j] = cm at *
              obtain ⟨ab, ao, rfl, hab, e0, e1, e2, e3, e4, e5, e6, e7⟩ := hcl
              go_wp2_with fail
              refine (rcheckcmd_any cm _).mono ?_
              rintro e w2 ⟨rfl, hb2⟩
              have hb2' := hbr.trans (hb2.mono hbr.size)
              by_cases h0 : chkC cm = 0
              · have T := hide (hok.out h0)
                rw [h0]
                clear h0 hok hbad
                go_wp2
                go_roundw
                case rel => exact ⟨j + 1, by omega, by go_num, T, hb2'⟩
                case measure => simp [intOf]; omega
              · have T := hide (hbad.out h0)
                have t1 : (chkC cm != 0) = true := by rw [bne_iff_ne]; exact h0
                clear h0 hok hbad
                go_wp2
                go_ret
                exact ⟨by rw [hE.out, T.out]; rfl, hb0.trans (hb2'.mono (by omega))⟩
            · obtain rfl : j = n := by omega
              have T : Hid (chkCs cs = 0) := hide (by rw [hcs.out, List.drop_of_length_le (by rw [HN.out]; omega)]; rfl)
              clear hcr
              go_wp2
              go_ret
              exact ⟨by rw [hE.out, T.out]; rfl, hb0.trans (hbr.mono (by omega))⟩
    · have z0 := z'
      have tn'a : ((n' : Int) == 0) = false := by rw [beq_eq_false_iff_ne]; omega
      have tn'b : ((n' : Int) != 0) = true := by rw [bne_iff_ne]; omega
      rw [HB.out (by unfold shP; omega)]
      clear HB HG hC hN
      go_enter Tryd.func26, Tryd.ntmps26
      go_wp2
      go_ret
      exact ⟨rfl, by go_grown⟩
  · by_cases z : n = 0
    · subst z
      have hE : Hid (chkV 2 cs ns = chkS ns) := hide ((HG.out (by unfold shP; omega)).trans (if_pos rfl))
      clear HB HG
      by_cases hr : rightS ns
      · have HR : Hid (chkS ns = 0) := hide (if_pos hr)
        have HD : Hid (decide (rightS ns) = true) := hide (decide_eq_true hr)
        clear hr
        go_enter Tryd.func26, Tryd.ntmps26
        go_wp2_with fail
        refine (rright_any A' n' c' B ns _ (hN.alloc hB _) HN'.out hl').mono ?_
        rintro e w1 ⟨rfl, m, rfl⟩
        rw [HD.out]
        go_wp2_with fail
        go_loop [62] (fun i => i = .int .i64 0) (fun _ => 0)
        case atStart => rfl
        case round =>
          subst hrel
          go_wp2
          go_ret
          exact ⟨by rw [hE.out, HR.out]; rfl, below_drewN (by go_grown) _⟩
      · have HR : Hid (chkS ns = 24) := hide (if_neg hr)
        have HD : Hid (decide (rightS ns) = false) := hide (decide_eq_false hr)
        clear hr
        go_enter Tryd.func26, Tryd.ntmps26
        go_wp2_with fail
        refine (rright_any A' n' c' B ns _ (hN.alloc hB _) HN'.out hl').mono ?_
        rintro e w1 ⟨rfl, m, rfl⟩
        rw [HD.out]
        go_wp2
        go_ret
        exact ⟨by rw [hE.out, HR.out]; rfl, below_drewN (by go_grown) _⟩
    · have z0 := z
      have tna : ((n : Int) == 0) = false := by rw [beq_eq_false_iff_ne]; omega
      have tnb : ((n : Int) != 0) = true := by rw [bne_iff_ne]; omega
      rw [HB.out (by unfold shP; omega)]
      clear HB HG hC hN
      go_enter Tryd.func26, Tryd.ntmps26
      go_wp2
      go_ret
      exact ⟨rfl, by go_grown⟩
end Go.Proofs.YtapbcpilklhoiabDoor

namespace Go.Proofs.YtapbcpilklhoiabDoor
open Go.RowKit

theorem IsV.rcheck {w : World} {B n m : Nat} {A D : Option Addr} {cs : List Cmdv} {ns : List Int} (h : IsV w B A n D m cs ns) (hB : B ≤ w.heap.size) (k : Int) (c d : Nat) :
    Calls Tryd.prog 26 #[.agg #[.int .i64 k, .slice A n c, .slice D m d]] w fun e w' => e = .returned (.int .i64 (chkV k cs ns)) ∧ Below w.heap.size w w' :=
  rvcheck_any k A D n c m d B cs ns w h.c h.i hB h.en h.em (by have := h.lm; omega)
theorem isV_nil (w : World) (B : Nat) : IsV w B none 0 none 0 [] [] := ⟨HasC.nil _ _ _, HasI.nil _ _ _, rfl, rfl, by omega, by omega, by simp⟩

end Go.Proofs.YtapbcpilklhoiabDoor

namespace Go.Proofs.YtapbcpilklhoiabDoor
open Go.RowKit

theorem dn_left {w : World} {B : Nat} {A : Option Addr} {n c : Nat} {s : RSt} (h : s.2 = 0 → Left w B A n c s.1) : (if s.2 = 0 ∧ 0 < n then 13 else s.2 : Nat) = dn s := by
  unfold dn
  by_cases h0 : s.2 = 0
  · have hl := (h h0).2.1.out
    by_cases hx : s.1 = []
    · rw [if_pos h0, if_pos hx, if_neg (by rw [← hl, hx]; simp), h0]
    · have : 0 < s.1.length := List.length_pos_iff.2 hx
      rw [if_pos h0, if_neg hx, if_pos ⟨h0, by omega⟩]
  · rw [if_neg h0, if_neg (fun h => h0 h.1)]

end Go.Proofs.YtapbcpilklhoiabDoor

namespace Go.Proofs.YtapbcpilklhoiabDoor
open Go.RowKit

theorem digit (m : Nat) : (m : Int) % 256 = ((UInt8.ofNat m).toNat : Int) := by simp

theorem bw_of_zero {u j : Nat} (hj : j ≤ bw u) (h : u / 256 ^ j = 0) : j = bw u := by
  rcases Nat.lt_or_ge j (bw u) with hlt | hge
  · have h1 := bw_ge u (by omega)
    have h2 : u < 256 ^ j := by
      rcases Nat.div_eq_zero_iff.1 h with h | h
      · exact absurd h (Nat.pos_iff_ne_zero.1 (Nat.pow_pos (by omega)))
      · exact h
    have h3 : 256 ^ j ≤ 256 ^ (bw u - 1) := Nat.pow_le_pow_right (by omega) (by omega)
    omega
  · omega

theorem bw_of_pos {u j : Nat} (hu : u < 18446744073709551616) (h : 0 < u / 256 ^ j) : j < bw u := by
  rcases Nat.lt_or_ge j (bw u) with hlt | hge
  · exact hlt
  · have h1 := bw_lt u hu
    have h3 : 256 ^ bw u ≤ 256 ^ j := Nat.pow_le_pow_right (by omega) hge
    rw [Nat.div_eq_of_lt (by omega)] at h
    omega

set_option maxHeartbeats 800000 in
theorem refnum_any (u : Nat) (w : World) (hu : u < 18446744073709551616) : Calls Tryd.prog 41 #[.int .u64 (u : Int)] w (Makes (enc u) w) := by
  have h8 := bw_le u
  have HU := hide hu
  clear hu
  go_enter Tryd.func41, Tryd.ntmps41
  go_wp2_with fail
  go_loopw [0, 3] (fun x d wr => ∃ j : Nat, j ≤ bw u ∧ x = .int .u64 ((u / 256 ^ j : Nat) : Int) ∧ Own wr w.heap.size d (be j u) ∧ Below w.heap.size w wr) (fun x _ _ => (intOf x).toNat)
  case atStart => exact ⟨0, Nat.zero_le _, by simp, Own.new w [] _ _ rfl (Nat.le_refl _) (by simp), (Below.refl _ _).alloc (Nat.le_refl _) _⟩
  case round =>
    obtain ⟨j, hj, rfl, ho, hbl⟩ := hrel
    have HP := hide (@bw_of_pos u j HU.out)
    have HZ := hide (@bw_of_zero u j hj)
    have HBE : Hid (be (j + 1) u = UInt8.ofNat (u / 256 ^ j) :: be j u) := rfl
    have HD : Hid (u / 256 ^ (j + 1) = u / 256 ^ j / 256) := by
      show u / 256 ^ (j + 1) = u / 256 ^ j / 256
      rw [Nat.pow_succ, Nat.div_div_eq_div_mul]
    have hm : u / 256 ^ j < 18446744073709551616 := Nat.lt_of_le_of_lt (Nat.div_le_self _ _) HU.out
    generalize u / 256 ^ j = m at *
    have hbl_len := be_length j u
    have HBL := hide hbl_len
    clear hbl_len
    have hsz := hbl.size
    obtain ⟨A, n, cc, rfl, hn, _, hx, _⟩ := ho.form
    have hn8 : n ≤ 8 := by have := hn.out; have := HBL.out; omega
    by_cases h0 : 0 < m
    · have t1 : decide (0 < m) = true := by simpa using h0
      have hone : Own (wr.alloc (.cells #[.int .u8 ((m : Int) % 256)] 5)) w.heap.size (.slice (some ⟨wr.heap.size, 0, none⟩) 1 1) [UInt8.ofNat m] := by
        rw [digit]
        exact Own.new wr [UInt8.ofNat m] _ _ rfl hsz (by simp)
      go_wp2_with (at_builtin; refine list_append_bytes _ rfl (.tmp 10) (.tmp 11) rfl w.heap.size _ [UInt8.ofNat m] rfl hone wr.heap.size A n cc (be j u) rfl (hx.alloc (Nat.le_refl _) _) hn.out (by simp; omega) (by simp; omega) ?_; intro v2 w2 ho2 hg2 hat2)
      have hb2 : Below w.heap.size w w2 := (hbl.alloc hsz _).grown hg2 (by simp; omega) (fun k e => (hone.lt k e).1)
      go_roundw
      case rel => exact ⟨j + 1, HP.out h0, by rw [HD.out]; go_num, by rw [HBE.out]; exact ho2, hb2⟩
      case measure => simp [intOf]; omega
    · have t1 : decide (0 < m) = false := by simpa using h0
      have e : j = bw u := HZ.out (by omega)
      subst e
      have hone : Own (wr.alloc (.cells #[.int .u8 (n : Int)] 5)) w.heap.size (.slice (some ⟨wr.heap.size, 0, none⟩) 1 1) [UInt8.ofNat (bw u)] := by
        have hnb : (n : Int) = ((UInt8.ofNat (bw u)).toNat : Int) := by
          have := hn.out
          have := HBL.out
          simp
          omega
        rw [hnb]
        exact Own.new wr [UInt8.ofNat (bw u)] _ _ rfl hsz (by simp)
      go_wp2_with (at_builtin; refine list_append_bytes _ rfl (.tmp 18) (.tmp 19) rfl w.heap.size _ [UInt8.ofNat (bw u)] rfl hone wr.heap.size A n cc (be (bw u) u) rfl (hx.alloc (Nat.le_refl _) _) hn.out (by simp; omega) (by simp; omega) ?_; intro v2 w2 ho2 hg2 hat2)
      have hb2 : Below w.heap.size w w2 := (hbl.alloc hsz _).grown hg2 (by simp; omega) (fun k e => (hone.lt k e).1)
      go_ret
      exact ⟨_, rfl, ho2, hb2⟩

theorem refint_any (i : Int) (w : World) (hi : IsInt i) : Calls Tryd.prog 44 #[.int .i64 i] w (Makes (enc (zig i)) w) := by
  have HF := hide (fun w => reffold_any i w hi)
  have HN := hide (fun w => refnum_any (zig i) w (zig_lt hi))
  clear hi
  go_enter Tryd.func44, Tryd.ntmps44
  go_wp2_with fail
  refine (HF.out _).mono ?_
  rintro e w' ⟨rfl, rfl⟩
  go_wp2_with fail
  refine (HN.out _).mono ?_
  rintro e w1 ⟨v1, rfl, h1⟩
  have H1 := hide h1
  clear h1
  go_wp2
  go_ret
  exact ⟨v1, rfl, H1.out⟩

theorem Makes.of_alloc {xs : List UInt8} {w w' : World} {o : Obj} {v : Value} (ho : Own w' (w.alloc o).heap.size v xs) (hb : Below (w.alloc o).heap.size (w.alloc o) w') : Own w' w.heap.size v xs ∧ Below w.heap.size w w' :=
  ⟨ho.from_ (by simp), below_of_alloc hb⟩
end Go.Proofs.YtapbcpilklhoiabDoor
