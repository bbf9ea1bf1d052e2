/-
  Enough, Leader, Next, Compare, Valid of package ballot, and their references. No condition but the reach of what is read.
-/
import Derived.Test.YtgdncmkhcdmjoaaBallotB
set_option linter.unusedSimpArgs false
set_option linter.unusedVariables false
namespace Go.Proofs.Ytgdncmkhcdmjoaa
open Go.RowKit

theorem ret_dec {p q : Prop} [Decidable p] [Decidable q] (h : p ↔ q) : Ending.returned (.bool (decide p)) = .returned (.bool (decide q)) := by rw [decide_eq_decide.2 h]

/-- How many of the first k members stand in ys. -/
def cntTo (xs ys : List Int) (k : Nat) : Nat := (xs.take k).countP (fun m => decide (m ∈ ys))
def cnt (xs ys : List Int) : Nat := xs.countP (fun m => decide (m ∈ ys))
def enB (xs ys : List Int) : Bool := decide (xs.length / 2 + 1 ≤ cnt xs ys)
theorem cntTo_all (xs ys : List Int) : cntTo xs ys xs.length = cnt xs ys := by unfold cntTo cnt; rw [List.take_length]
theorem cntTo_in {xs ys : List Int} {k : Nat} (h : k < xs.length) (hm : xs[k] ∈ ys) : cntTo xs ys (k + 1) = cntTo xs ys k + 1 := by
  unfold cntTo
  rw [List.take_succ_eq_append_getElem h, List.countP_append]
  simp [hm]
theorem cntTo_out {xs ys : List Int} {k : Nat} (h : k < xs.length) (hm : xs[k] ∉ ys) : cntTo xs ys (k + 1) = cntTo xs ys k := by
  unfold cntTo
  rw [List.take_succ_eq_append_getElem h, List.countP_append]
  simp [hm]
theorem cntTo_le (xs ys : List Int) (k : Nat) : cntTo xs ys k ≤ k := by
  unfold cntTo
  exact Nat.le_trans List.countP_le_length (by simp; omega)

set_option maxHeartbeats 400000 in
theorem enough_any (A A' : Option Addr) (n n' c c' B B' : Nat) (xs ys : List Int) (w : World) (hx : HasI w B A xs) (hy : HasI w B' A' ys) (hn : xs.length = n) (hn' : ys.length = n') (hl : n ≤ 140737488355328) (hl' : n' ≤ 140737488355328) (hr : rightS xs) :
    Calls Try.prog 52 #[.slice A n c, .slice A' n' c'] w fun e w' => e = .returned (.bool (enB xs ys)) ∧ w = w' := by
  subst hn
  have h0 : chkS xs = 0 := if_pos hr
  have h7 : xs.length ≤ 7 := hr.2.1
  have HC := hide (bcheck_any A xs.length c B xs w hx rfl hl)
  rw [h0] at HC
  go_enter Try.func52, Try.ntmps52
  go_wp2_with fail
  refine HC.out.mono ?_
  rintro e w' ⟨rfl, rfl⟩
  go_wp2
  go_loop [5, 13] (fun s i => ∃ k : Nat, k ≤ xs.length ∧ i = .int .i64 k ∧ s = .int .i64 (cntTo xs ys k : Int)) (fun _ i => xs.length - (intOf i).toNat)
  case atStart => exact ⟨0, Nat.zero_le _, rfl, rfl⟩
  case round =>
    obtain ⟨k, hk, rfl, rfl⟩ := hrel
    by_cases hlt : k < xs.length
    · have hle := cntTo_le xs ys k
      have hck : (cntTo xs ys k : Int) ≤ 140737488355328 := by omega
      have hck0 : (0 : Int) ≤ cntTo xs ys k := by omega
      have hxk := hx k hlt
      obtain ⟨b, o, rfl, hb, hc⟩ := hxk
      go_wp2_with fail
      refine (containsI_any A' n' c' B' ys xs[k] w hy hn' hl').mono ?_
      rintro e w' ⟨rfl, rfl⟩
      by_cases hm : xs[k] ∈ ys
      · have hd : decide (xs[k] ∈ ys) = true := decide_eq_true hm
        have HI := hide (cntTo_in hlt hm)
        clear hm
        go_wp2
        go_round
        case rel => exact ⟨k + 1, by omega, by go_num, by rw [HI.out]; go_num⟩
        case measure => simp [intOf]; omega
      · have hd : decide (xs[k] ∈ ys) = false := decide_eq_false hm
        have HI := hide (cntTo_out hlt hm)
        clear hm
        go_wp2
        go_round
        case rel => exact ⟨k + 1, by omega, by go_num, by rw [HI.out]⟩
        case measure => simp [intOf]; omega
    · obtain rfl : k = xs.length := by omega
      have hle := cntTo_le xs ys xs.length
      rw [cntTo_all] at hle ⊢
      have HQ := hide (quorum_any A xs.length c w hl)
      go_wp2_with fail
      refine HQ.out.mono ?_
      rintro e w' ⟨rfl, rfl⟩
      go_wp2
      go_ret
      refine ⟨?_, rfl⟩
      unfold enB
      exact ret_dec (by omega)

set_option maxHeartbeats 400000 in
theorem renough_any (A A' : Option Addr) (n n' c c' B B' : Nat) (xs ys : List Int) (w : World) (hx : HasI w B A xs) (hy : HasI w B' A' ys) (hn : xs.length = n) (hn' : ys.length = n') (hl : n ≤ 140737488355328) (hl' : n' ≤ 140737488355328) :
    Calls Try.prog 36 #[.slice A n c, .slice A' n' c'] w fun e w' => e = .returned (.bool (enB xs ys)) ∧ w = w' := by
  subst hn
  go_enter Try.func36, Try.ntmps36
  go_wp2
  go_loop [5, 9] (fun s i => ∃ k : Nat, k ≤ xs.length ∧ i = .int .i64 k ∧ s = .int .i64 (cntTo xs ys k : Int)) (fun _ i => xs.length - (intOf i).toNat)
  case atStart => exact ⟨0, Nat.zero_le _, rfl, rfl⟩
  case round =>
    obtain ⟨k, hk, rfl, rfl⟩ := hrel
    by_cases hlt : k < xs.length
    · have hle := cntTo_le xs ys k
      have hck : (cntTo xs ys k : Int) ≤ 140737488355328 := by omega
      have hck0 : (0 : Int) ≤ cntTo xs ys k := by omega
      have hxk := hx k hlt
      obtain ⟨b, o, rfl, hb, hc⟩ := hxk
      go_wp2_with fail
      refine (rhas_any A' n' c' B' ys xs[k] w hy hn' hl').mono ?_
      rintro e w' ⟨rfl, rfl⟩
      by_cases hm : xs[k] ∈ ys
      · have hd : decide (xs[k] ∈ ys) = true := decide_eq_true hm
        have HI := hide (cntTo_in hlt hm)
        clear hm
        go_wp2
        go_round
        case rel => exact ⟨k + 1, by omega, by go_num, by rw [HI.out]; go_num⟩
        case measure => simp [intOf]; omega
      · have hd : decide (xs[k] ∈ ys) = false := decide_eq_false hm
        have HI := hide (cntTo_out hlt hm)
        clear hm
        go_wp2
        go_round
        case rel => exact ⟨k + 1, by omega, by go_num, by rw [HI.out]⟩
        case measure => simp [intOf]; omega
    · obtain rfl : k = xs.length := by omega
      have hle := cntTo_le xs ys xs.length
      rw [cntTo_all] at hle ⊢
      go_wp2
      go_ret
      refine ⟨?_, rfl⟩
      unfold enB
      exact ret_dec (by omega)

/-- The leader of a round. -/
def ldr (xs : List Int) (r : Int) : Int := if r < 1 ∨ xs.length = 0 then 0 else xs.getD (((r - 1) % xs.length).toNat) 0

theorem leader_any (A : Option Addr) (n c B : Nat) (xs : List Int) (r : Int) (w : World) (hx : HasI w B A xs) (hn : xs.length = n) (hl : n ≤ 140737488355328) (hr : -9223372036854775808 ≤ r) (hr' : r ≤ 9223372036854775807) :
    Calls Try.prog 45 #[.slice A n c, .int .i64 r] w fun e w' => e = .returned (.int .i64 (ldr xs r)) ∧ w = w' := by
  subst hn
  by_cases h1 : r < 1
  · have e : ldr xs r = 0 := if_pos (.inl h1)
    rw [e]
    go_enter Try.func45, Try.ntmps45
    go_wp2
    go_ret
    exact ⟨rfl, rfl⟩
  · by_cases h0 : xs.length = 0
    · have e : ldr xs r = 0 := if_pos (.inr h0)
      rw [e]
      have t1 : ((xs.length : Int) == 0) = true := beq_iff_eq.2 (by omega)
      go_enter Try.func45, Try.ntmps45
      go_wp2
      go_ret
      exact ⟨rfl, rfl⟩
    · have t1 : ((xs.length : Int) == 0) = false := beq_eq_false_iff_ne.2 (by omega)
      have hne : (xs.length : Int) ≠ 0 := by omega
      obtain ⟨q, hq⟩ : ∃ q : Nat, ((r - 1).tmod xs.length) = (q : Int) := ⟨((r - 1).tmod xs.length).toNat, by
        have := Int.tmod_nonneg (xs.length : Int) (show 0 ≤ r - 1 by omega); omega⟩
      have hq' : (r - 1) % xs.length = q := by rw [← hq, Int.tmod_eq_emod_of_nonneg (by omega)]
      have hlt : q < xs.length := by
        have := Int.emod_lt_of_pos (r - 1) (show (0 : Int) < xs.length by omega)
        omega
      obtain ⟨b, o, rfl, hb, hc⟩ := hx q hlt
      have e : ldr xs r = xs[q] := by
        unfold ldr
        rw [if_neg (by omega), hq', Int.toNat_natCast, getD_at hlt]
      rw [e]
      clear e hq'
      have i1 : (q : Int) < (xs.length : Int) := by omega
      go_enter Try.func45, Try.ntmps45
      go_wp2
      go_ret
      exact ⟨rfl, rfl⟩

theorem rleader_any (A : Option Addr) (n c B : Nat) (xs : List Int) (r : Int) (w : World) (hx : HasI w B A xs) (hn : xs.length = n) (hl : n ≤ 140737488355328) (h0 : 1 ≤ n) (hr : -9223372036854775808 ≤ r) (hr' : r ≤ 9223372036854775807) :
    Calls Try.prog 46 #[.slice A n c, .int .i64 r] w fun e w' => e = .returned (.int .i64 (ldr xs r)) ∧ w = w' := by
  subst hn
  by_cases h1 : r < 1
  · have e : ldr xs r = 0 := if_pos (.inl h1)
    rw [e]
    go_enter Try.func46, Try.ntmps46
    go_wp2
    go_ret
    exact ⟨rfl, rfl⟩
  · have hne : (xs.length : Int) ≠ 0 := by omega
    have hpos : (0 : Int) < xs.length := by omega
    obtain ⟨q, hq⟩ : ∃ q : Nat, (r.tmod xs.length) = (q : Int) := ⟨(r.tmod xs.length).toNat, by
        have := Int.tmod_nonneg (xs.length : Int) (show 0 ≤ r by omega); omega⟩
    have hq' : r % xs.length = q := by rw [← hq, Int.tmod_eq_emod_of_nonneg (by omega)]
    have hlt : q < xs.length := by
      have := Int.emod_lt_of_pos r hpos
      omega
    have hdm := Int.mul_ediv_add_emod r xs.length
    by_cases hq0 : q = 0
    · subst hq0
      have t1 : ((((0 : Nat) : Int)) == 0) = true := rfl
      have hpr : (r - 1) % xs.length = ((xs.length - 1 : Nat) : Int) := by
        have e1 : r - 1 = ((xs.length - 1 : Nat) : Int) + xs.length * (r / xs.length - 1) := by
          rw [Int.mul_sub]; omega
        rw [e1, Int.add_mul_emod_self_left]
        exact Int.emod_eq_of_lt (by omega) (by omega)
      obtain ⟨l, hl1, hll⟩ : ∃ l : Nat, (xs.length : Int) - 1 = (l : Int) ∧ l < xs.length := ⟨xs.length - 1, by omega, by omega⟩
      obtain ⟨b, o, rfl, hb, hc⟩ := hx l hll
      have e : ldr xs r = xs[l] := by
        unfold ldr
        rw [if_neg (by omega), hpr, Int.toNat_natCast, show xs.length - 1 = l from by omega, getD_at hll]
      rw [e]
      clear e hdm hpr hq'
      have i1 : (l : Int) < (xs.length : Int) := by omega
      go_enter Try.func46, Try.ntmps46
      go_wp2
      go_ret
      exact ⟨rfl, rfl⟩
    · have t1 : ((q : Int) == 0) = false := beq_eq_false_iff_ne.2 (by omega)
      have hpr : (r - 1) % xs.length = ((q - 1 : Nat) : Int) := by
        have e1 : r - 1 = ((q - 1 : Nat) : Int) + xs.length * (r / xs.length) := by omega
        rw [e1, Int.add_mul_emod_self_left]
        exact Int.emod_eq_of_lt (by omega) (by omega)
      obtain ⟨l, hl1, hll⟩ : ∃ l : Nat, (q : Int) - 1 = (l : Int) ∧ l < xs.length := ⟨q - 1, by omega, by omega⟩
      obtain ⟨b, o, rfl, hb, hc⟩ := hx l hll
      have e : ldr xs r = xs[l] := by
        unfold ldr
        rw [if_neg (by omega), hpr, Int.toNat_natCast, show q - 1 = l from by omega, getD_at hll]
      rw [e]
      clear e hdm hpr hq'
      have i1 : (l : Int) < (xs.length : Int) := by omega
      go_enter Try.func46, Try.ntmps46
      go_wp2
      go_ret
      exact ⟨rfl, rfl⟩

/-- How many rounds it is until it is the turn of place p, where q rounds are over. -/
def wt (l p q : Nat) : Nat := (p + l - q % l) % l
theorem mod_two {l a j : Nat} (ha : a < l) (hj : j < l) : (a + j) % l = if a + j < l then a + j else a + j - l := by
  split
  · exact Nat.mod_eq_of_lt (by assumption)
  · rw [Nat.mod_eq_sub_mod (by omega), Nat.mod_eq_of_lt (by omega)]
theorem wt_eq {l p q : Nat} (hp : p < l) : wt l p q = if q % l ≤ p then p - q % l else p + l - q % l := by
  have ha : q % l < l := Nat.mod_lt _ (by omega)
  unfold wt
  split
  · rw [show p + l - q % l = (p - q % l) + l from by omega, Nat.add_mod_right]
    exact Nat.mod_eq_of_lt (by omega)
  · exact Nat.mod_eq_of_lt (by omega)
theorem wt_lt {l p q : Nat} (hp : p < l) : wt l p q < l := Nat.mod_lt _ (by omega)
theorem wt_iff {l p q j : Nat} (hp : p < l) (hj : j < l) : (q + j) % l = p ↔ j = wt l p q := by
  have ha : q % l < l := Nat.mod_lt _ (by omega)
  rw [wt_eq hp, Nat.add_mod, Nat.mod_eq_of_lt hj, mod_two ha hj]
  split <;> split <;> omega

theorem rightS_lt {xs : List Int} (h : rightS xs) {i j : Nat} (hij : i < j) (hj : j < xs.length) : xs.getD i 0 < xs.getD j 0 := by
  induction j with
  | zero => omega
  | succ j ih =>
    have h1 := (h.2.2 (j + 1) hj).2
    simp only [prv] at h1
    rcases Nat.lt_or_ge i j with h2 | h2
    · have := ih h2 (by omega)
      omega
    · obtain rfl : i = j := by omega
      exact h1
theorem rightS_inj {xs : List Int} (h : rightS xs) {i j : Nat} (hi : i < xs.length) (hj : j < xs.length) (he : xs.getD i 0 = xs.getD j 0) : i = j := by
  rcases Nat.lt_trichotomy i j with h1 | h1 | h1
  · have := rightS_lt h h1 hj; omega
  · exact h1
  · have := rightS_lt h h1 hi; omega
theorem ldr_nat {xs : List Int} (h : 0 < xs.length) (q : Nat) : ldr xs ((q : Int) + 1) = xs.getD (q % xs.length) 0 := by
  unfold ldr
  rw [if_neg (by omega), show ((q : Int) + 1 - 1) = q from by omega]
  congr 1
/-- The next turn of place p behind q rounds is in round q + wait + 1, and in none ahead of that. -/
theorem turn_iff {xs : List Int} (h : rightS xs) {p q j : Nat} (hp : p < xs.length) (hj : j < xs.length) : ldr xs (((q + j : Nat) : Int) + 1) = xs.getD p 0 ↔ j = wt xs.length p q := by
  rw [ldr_nat (by omega), ← wt_iff hp hj]
  exact ⟨fun he => rightS_inj h (Nat.mod_lt _ (by omega)) hp he, fun he => by rw [he]⟩
end Go.Proofs.Ytgdncmkhcdmjoaa
