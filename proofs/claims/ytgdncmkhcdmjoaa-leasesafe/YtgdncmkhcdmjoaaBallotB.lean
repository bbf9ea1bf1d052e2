/-
  Check, Quorum, Enough, Leader of package ballot, and their references. No condition but the reach of what is read.
-/
import Derived.Test.YtgdncmkhcdmjoaaBallot
set_option linter.unusedSimpArgs false
set_option linter.unusedVariables false
namespace Go.Proofs.Ytgdncmkhcdmjoaa
open Go.RowKit

def prv (xs : List Int) : Nat → Int
  | 0 => 0
  | k + 1 => xs.getD k 0
def okAt (xs : List Int) (k : Nat) : Prop := nodeB (xs.getD k 0) = true ∧ prv xs k < xs.getD k 0
instance (xs : List Int) (k : Nat) : Decidable (okAt xs k) := inferInstanceAs (Decidable (_ ∧ _))
/-- A right set of members. -/
def rightS (xs : List Int) : Prop := 1 ≤ xs.length ∧ xs.length ≤ 7 ∧ ∀ k, k < xs.length → okAt xs k
instance (xs : List Int) : Decidable (rightS xs) := inferInstanceAs (Decidable (_ ∧ _))
def chkS (xs : List Int) : Int := if rightS xs then 0 else 24

theorem getD_at {xs : List Int} {k : Nat} (h : k < xs.length) : xs.getD k 0 = xs[k] := by simp [List.getD_eq_getElem?_getD, h]

set_option maxHeartbeats 400000 in
theorem bcheck_any (A : Option Addr) (n c B : Nat) (xs : List Int) (w : World) (hx : HasI w B A xs) (hn : xs.length = n) (hl : n ≤ 140737488355328) :
    Calls Try.prog 39 #[.slice A n c] w fun e w' => e = .returned (.int .i64 (chkS xs)) ∧ w = w' := by
  subst hn
  by_cases h1 : 1 ≤ xs.length
  · by_cases h7 : xs.length ≤ 7
    · have t1 : decide ((xs.length : Int) < 1) = false := by simp; omega
      have t2 : decide ((7 : Int) < xs.length) = false := by simp; omega
      go_enter Try.func39, Try.ntmps39
      go_wp2
      go_loop [3, 16] (fun s i => ∃ k : Nat, k ≤ xs.length ∧ i = .int .i64 k ∧ s = .int .i64 (prv xs k) ∧ Hid (∀ j, j < k → okAt xs j)) (fun _ i => xs.length - (intOf i).toNat)
      case atStart => exact ⟨0, Nat.zero_le _, rfl, rfl, fun j h => absurd h (by omega)⟩
      case round =>
        obtain ⟨k, hk, rfl, rfl, hok⟩ := hrel
        by_cases hlt : k < xs.length
        · obtain ⟨b, o, rfl, hb, hc⟩ := hx k hlt
          have eg := getD_at hlt
          have ep : prv xs (k + 1) = xs[k] := getD_at hlt
          have EG := hide eg
          have EP := hide ep
          clear eg ep
          generalize hp : prv xs k = pv at *
          have HP := hide hp
          clear hp
          by_cases hnd : nodeB xs[k] = true
          · by_cases hgt : pv < xs[k]
            · have t3 : decide (xs[k] ≤ pv) = false := by simp; omega
              have hstep : okAt xs k := ⟨by rw [EG.out]; exact hnd, by rw [EG.out, HP.out]; exact hgt⟩
              have HST := hide hstep
              clear hstep
              go_wp2_with fail
              refine (isNode_any xs[k] w).mono ?_
              rintro e w' ⟨rfl, rfl⟩
              go_wp2
              go_round
              case rel => exact ⟨k + 1, by omega, by go_num, by rw [EP.out], fun j hj => by
                rcases Nat.lt_or_ge j k with h | h
                · exact hok.out j h
                · obtain rfl : j = k := by omega
                  exact HST.out⟩
              case measure => simp [intOf]; omega
            · have t3 : decide (xs[k] ≤ pv) = true := by simp; omega
              have e : chkS xs = 24 := if_neg fun h => by
                have := (h.2.2 k hlt).2
                rw [EG.out, HP.out] at this
                exact hgt this
              have HE := hide e
              clear e
              go_wp2_with fail
              refine (isNode_any xs[k] w).mono ?_
              rintro e w' ⟨rfl, rfl⟩
              go_wp2
              go_ret
              exact ⟨by rw [HE.out]; rfl, rfl⟩
          · have e : chkS xs = 24 := if_neg fun h => by
              have := (h.2.2 k hlt).1
              rw [EG.out] at this
              exact hnd this
            have HE := hide e
            have hnd' : nodeB xs[k] = false := by simpa using hnd
            clear e hnd
            go_wp2_with fail
            refine (isNode_any xs[k] w).mono ?_
            rintro e w' ⟨rfl, rfl⟩
            go_wp2
            go_ret
            exact ⟨by rw [HE.out]; rfl, rfl⟩
        · have e : chkS xs = 0 := if_pos ⟨h1, h7, fun j hj => hok.out j (by omega)⟩
          have HE := hide e
          clear e
          go_wp2
          go_ret
          exact ⟨by rw [HE.out]; rfl, rfl⟩
    · have e : chkS xs = 24 := if_neg fun h => h7 h.2.1
      rw [e]
      go_enter Try.func39, Try.ntmps39
      go_wp2
      go_ret
      exact ⟨rfl, rfl⟩
  · have e : chkS xs = 24 := if_neg fun h => h1 h.1
    rw [e]
    go_enter Try.func39, Try.ntmps39
    go_wp2
    go_ret
    exact ⟨rfl, rfl⟩

theorem quorum_any (A : Option Addr) (n c : Nat) (w : World) (hl : n ≤ 140737488355328) : Calls Try.prog 59 #[.slice A n c] w fun e w' => e = .returned (.int .i64 ((n / 2 + 1 : Nat) : Int)) ∧ w = w' := by
  go_enter Try.func59, Try.ntmps59
  go_wp2
  go_ret
  refine ⟨?_, rfl⟩
  congr 1

theorem rright_any (A : Option Addr) (n c B : Nat) (xs : List Int) (w : World) (hx : HasI w B A xs) (hn : xs.length = n) (hl : n ≤ 140737488355328) :
    Calls Try.prog 19 #[.slice A n c] w fun e w' => e = .returned (.bool (decide (rightS xs))) ∧ ∃ n, w.drewN n = w' := by
  subst hn
  by_cases h1 : 1 ≤ xs.length
  · by_cases h7 : xs.length ≤ 7
    · have t1 : ((xs.length : Int) == 0) = false := beq_eq_false_iff_ne.2 (by omega)
      have t2 : decide ((7 : Int) < xs.length) = false := by simp; omega
      go_enter Try.func19, Try.ntmps19
      go_wp2
      go_loopw [14] (fun i wr => ∃ k m : Nat, k ≤ xs.length ∧ i = .int .i64 k ∧ Hid (∀ j, j < k → okAt xs j) ∧ w.drewN m = wr) (fun i _ => xs.length - (intOf i).toNat)
      case atStart => exact ⟨0, 0, Nat.zero_le _, rfl, fun j h => absurd h (by omega), rfl⟩
      case round =>
        obtain ⟨k, m, hk, rfl, hok, rfl⟩ := hrel
        by_cases hlt : k < xs.length
        · have i1 : (k : Int) < (xs.length : Int) := by omega
          have i3 : (0 : Int) ≤ (k : Int) := by omega
          obtain ⟨b, o, rfl, hb, hc⟩ := hx k hlt
          have eg := getD_at hlt
          have EG := hide eg
          clear eg
          by_cases hnd : 1 ≤ xs[k] ∧ xs[k] ≤ 9
          · have t3 : decide (xs[k] < 1) = false := by simp; omega
            have t4 : decide ((9 : Int) < xs[k]) = false := by simp; omega
            by_cases hk0 : k = 0
            · subst hk0
              simp only [Nat.add_zero] at hc
              have hstep : okAt xs 0 := ⟨by rw [EG.out]; exact decide_eq_true hnd, by rw [EG.out]; show (0 : Int) < _; omega⟩
              have HST := hide hstep
              clear hstep hnd
              go_wp2_with fail
              go_quiet (fail)
              go_wp2
              go_roundw
              case rel => exact ⟨1, m + nq, by omega, by go_num, fun j hj => by
                  obtain rfl : j = 0 := by omega
                  exact HST.out, by simp⟩
              case measure => simp [intOf]; omega
            · obtain ⟨k', rfl⟩ : ∃ k', k = k' + 1 := ⟨k - 1, by omega⟩
              have hlt' : k' < xs.length := by omega
              have hcp := (hx.at_ k' hlt').2
              have t5 : decide ((0 : Int) < ((k' + 1 : Nat) : Int)) = true := decide_eq_true (by omega)
              have EP : Hid (prv xs (k' + 1) = xs[k']) := getD_at hlt'
              by_cases hgt : xs[k'] < xs[k' + 1]
              · have t6 : decide (xs[k' + 1] ≤ xs[k']) = false := by simp; omega
                have hstep : okAt xs (k' + 1) := ⟨by rw [EG.out]; exact decide_eq_true hnd, by rw [EG.out, EP.out]; exact hgt⟩
                have HST := hide hstep
                clear hstep hnd
                go_wp2_with fail
                go_quiet (fail)
                go_wp2
                go_roundw
                case rel => exact ⟨k' + 2, m + nq, by omega, by go_num, fun j hj => by
                  rcases Nat.lt_or_ge j (k' + 1) with h | h
                  · exact hok.out j h
                  · obtain rfl : j = k' + 1 := by omega
                    exact HST.out, by simp⟩
                case measure => simp [intOf]; omega
              · have t6 : decide (xs[k' + 1] ≤ xs[k']) = true := by simp; omega
                have e : decide (rightS xs) = false := decide_eq_false fun h => by
                  have := (h.2.2 (k' + 1) hlt).2
                  rw [EG.out, EP.out] at this
                  exact hgt this
                have HE := hide e
                clear e hnd
                go_wp2_with fail
                go_quiet (fail)
                go_wp2
                go_ret
                exact ⟨by rw [HE.out]; rfl, m + nq, by simp⟩
          · have e : decide (rightS xs) = false := decide_eq_false fun h => by
              have := (h.2.2 k hlt).1
              rw [EG.out] at this
              exact hnd (of_decide_eq_true this)
            have HE := hide e
            clear e
            by_cases h1' : xs[k] < 1
            · have t3 : decide (xs[k] < 1) = true := by simpa using h1'
              clear hnd h1'
              go_wp2_with fail
              go_quiet (fail)
              go_wp2
              go_ret
              exact ⟨by rw [HE.out]; rfl, m + nq, by simp⟩
            · have t3 : decide (xs[k] < 1) = false := by simpa using h1'
              have t4 : decide ((9 : Int) < xs[k]) = true := by simp; omega
              clear hnd h1'
              go_wp2_with fail
              go_quiet (fail)
              go_wp2
              go_ret
              exact ⟨by rw [HE.out]; rfl, m + nq, by simp⟩
        · have e : decide (rightS xs) = true := decide_eq_true ⟨h1, h7, fun j hj => hok.out j (by omega)⟩
          have HE := hide e
          clear e
          go_wp2
          go_ret
          exact ⟨by rw [HE.out]; rfl, m, rfl⟩
    · have e : decide (rightS xs) = false := decide_eq_false fun h => h7 h.2.1
      rw [e]
      have t1 : ((xs.length : Int) == 0) = false := beq_eq_false_iff_ne.2 (by omega)
      go_enter Try.func19, Try.ntmps19
      go_wp2
      go_ret
      exact ⟨rfl, 0, rfl⟩
  · have e : decide (rightS xs) = false := decide_eq_false fun h => h1 h.1
    have t1 : ((xs.length : Int) == 0) = true := beq_iff_eq.2 (by omega)
    rw [e]
    go_enter Try.func19, Try.ntmps19
    go_wp2
    go_ret
    exact ⟨rfl, 0, rfl⟩
end Go.Proofs.Ytgdncmkhcdmjoaa
