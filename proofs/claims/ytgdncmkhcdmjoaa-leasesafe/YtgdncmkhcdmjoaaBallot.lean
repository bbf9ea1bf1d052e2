/-
  The small calls of package ballot and of its reference. No condition but the reach of what is read.
-/
import Derived.Test.YtgdncmkhcdmjoaaInts
set_option linter.unusedSimpArgs false
set_option linter.unusedVariables false
namespace Go.Proofs.Ytgdncmkhcdmjoaa
open Go.RowKit

def nodeB (n : Int) : Bool := decide (1 ≤ n ∧ n ≤ 9)

theorem isNode_any (n : Int) (w : World) : Calls Try.prog 56 #[.int .i64 n] w fun e w' => e = .returned (.bool (nodeB n)) ∧ w = w' := by
  by_cases h : 1 ≤ n
  · by_cases h2 : n ≤ 9
    · have e : nodeB n = true := decide_eq_true ⟨h, h2⟩
      rw [e]
      go_enter Try.func56, Try.ntmps56
      go_wp2
      go_ret
      exact ⟨rfl, rfl⟩
    · have e : nodeB n = false := decide_eq_false fun h => h2 h.2
      rw [e]
      go_enter Try.func56, Try.ntmps56
      go_wp2
      go_ret
      exact ⟨rfl, rfl⟩
  · have e : nodeB n = false := decide_eq_false fun h' => h h'.1
    rw [e]
    go_enter Try.func56, Try.ntmps56
    go_wp2
    go_ret
    exact ⟨rfl, rfl⟩

/-- What Index answers: the first place of v, or -1. -/
def IxEnds (xs : List Int) (v : Int) (w : World) (e : Ending) (w' : World) : Prop :=
  (e = .returned (.int .i64 (-1)) ∧ v ∉ xs ∨ ∃ p : Nat, e = .returned (.int .i64 (p : Int)) ∧ p < xs.length ∧ xs[p]? = some v) ∧ w = w'

theorem not_mem_all {xs : List Int} {v : Int} (h : ∀ j (hj : j < xs.length), xs[j] ≠ v) : v ∉ xs := by
  intro hm
  obtain ⟨j, hj, e⟩ := List.mem_iff_getElem.1 hm
  exact h j hj e

set_option maxHeartbeats 400000 in
theorem indexI_any (A : Option Addr) (n c B : Nat) (xs : List Int) (v : Int) (w : World) (hx : HasI w B A xs) (hn : xs.length = n) (hl : n ≤ 140737488355328) :
    Calls Try.prog 61 #[.slice A n c, .int .i64 v] w (IxEnds xs v w) := by
  subst hn
  go_enter Try.func61, Try.ntmps61
  go_wp2
  go_loop [8] (fun i => ∃ k : Nat, k ≤ xs.length ∧ i = .int .i64 k ∧ Hid (∀ j (hj : j < xs.length), j < k → xs[j] ≠ v)) (fun i => xs.length - (intOf i).toNat)
  case atStart => exact ⟨0, Nat.zero_le _, rfl, fun j _ h => absurd h (by omega)⟩
  case round =>
    obtain ⟨k, hk, rfl, hno⟩ := hrel
    by_cases hlt : k < xs.length
    · obtain ⟨b, o, rfl, hb, hc⟩ := hx k hlt
      by_cases hv : v = xs[k]
      · have t2 : (v == xs[k]) = true := by simpa using hv
        have HV := hide hv
        clear hv
        go_wp2
        go_ret
        exact ⟨.inr ⟨k, rfl, hlt, by rw [List.getElem?_eq_getElem hlt, HV.out]⟩, rfl⟩
      · have t2 : (v == xs[k]) = false := by simpa using hv
        have HV := hide hv
        clear hv
        go_wp2
        go_round
        case rel => exact ⟨k + 1, by omega, by go_num, fun j hj hjk => by
          rcases Nat.lt_or_ge j k with h | h
          · exact hno.out j hj h
          · obtain rfl : j = k := by omega
            exact fun h => HV.out h.symm⟩
        case measure => simp [intOf]; omega
    · go_wp2
      go_ret
      exact ⟨.inl ⟨rfl, not_mem_all fun j hj => hno.out j hj (by omega)⟩, rfl⟩

theorem containsI_any (A : Option Addr) (n c B : Nat) (xs : List Int) (v : Int) (w : World) (hx : HasI w B A xs) (hn : xs.length = n) (hl : n ≤ 140737488355328) :
    Calls Try.prog 58 #[.slice A n c, .int .i64 v] w fun e w' => e = .returned (.bool (decide (v ∈ xs))) ∧ w = w' := by
  go_enter Try.func58, Try.ntmps58
  go_wp2_with fail
  refine (indexI_any A n c B xs v w hx hn hl).mono ?_
  rintro e w' ⟨⟨rfl, hm⟩ | ⟨p, rfl, hp, he⟩, rfl⟩
  · go_wp2
    go_ret
    exact ⟨by rw [decide_eq_false hm]; rfl, rfl⟩
  · have h0 : (0 : Int) ≤ (p : Int) := by omega
    have hm : v ∈ xs := List.mem_of_getElem? he
    have HM := hide hm
    clear he hm
    go_wp2
    go_ret
    exact ⟨by rw [decide_eq_true HM.out]; rfl, rfl⟩

set_option maxHeartbeats 400000 in
theorem indexM_any (A : Option Addr) (n c B : Nat) (xs : List Int) (v : Int) (w : World) (hx : HasI w B A xs) (hn : xs.length = n) (hl : n ≤ 140737488355328) :
    Calls Try.prog 62 #[.slice A n c, .int .i64 v] w (IxEnds xs v w) := by
  subst hn
  go_enter Try.func62, Try.ntmps62
  go_wp2
  go_loop [8] (fun i => ∃ k : Nat, k ≤ xs.length ∧ i = .int .i64 k ∧ Hid (∀ j (hj : j < xs.length), j < k → xs[j] ≠ v)) (fun i => xs.length - (intOf i).toNat)
  case atStart => exact ⟨0, Nat.zero_le _, rfl, fun j _ h => absurd h (by omega)⟩
  case round =>
    obtain ⟨k, hk, rfl, hno⟩ := hrel
    by_cases hlt : k < xs.length
    · obtain ⟨b, o, rfl, hb, hc⟩ := hx k hlt
      by_cases hv : v = xs[k]
      · have t2 : (v == xs[k]) = true := by simpa using hv
        have HV := hide hv
        clear hv
        go_wp2
        go_ret
        exact ⟨.inr ⟨k, rfl, hlt, by rw [List.getElem?_eq_getElem hlt, HV.out]⟩, rfl⟩
      · have t2 : (v == xs[k]) = false := by simpa using hv
        have HV := hide hv
        clear hv
        go_wp2
        go_round
        case rel => exact ⟨k + 1, by omega, by go_num, fun j hj hjk => by
          rcases Nat.lt_or_ge j k with h | h
          · exact hno.out j hj h
          · obtain rfl : j = k := by omega
            exact fun h => HV.out h.symm⟩
        case measure => simp [intOf]; omega
    · go_wp2
      go_ret
      exact ⟨.inl ⟨rfl, not_mem_all fun j hj => hno.out j hj (by omega)⟩, rfl⟩

theorem containsM_any (A : Option Addr) (n c B : Nat) (xs : List Int) (v : Int) (w : World) (hx : HasI w B A xs) (hn : xs.length = n) (hl : n ≤ 140737488355328) :
    Calls Try.prog 60 #[.slice A n c, .int .i64 v] w fun e w' => e = .returned (.bool (decide (v ∈ xs))) ∧ w = w' := by
  go_enter Try.func60, Try.ntmps60
  go_wp2_with fail
  refine (indexM_any A n c B xs v w hx hn hl).mono ?_
  rintro e w' ⟨⟨rfl, hm⟩ | ⟨p, rfl, hp, he⟩, rfl⟩
  · go_wp2
    go_ret
    exact ⟨by rw [decide_eq_false hm]; rfl, rfl⟩
  · have h0 : (0 : Int) ≤ (p : Int) := by omega
    have hm : v ∈ xs := List.mem_of_getElem? he
    have HM := hide hm
    clear he hm
    go_wp2
    go_ret
    exact ⟨by rw [decide_eq_true HM.out]; rfl, rfl⟩

theorem has_any (A : Option Addr) (n c B : Nat) (xs : List Int) (v : Int) (w : World) (hx : HasI w B A xs) (hn : xs.length = n) (hl : n ≤ 140737488355328) :
    Calls Try.prog 53 #[.slice A n c, .int .i64 v] w fun e w' => e = .returned (.bool (decide (v ∈ xs))) ∧ w = w' := by
  go_enter Try.func53, Try.ntmps53
  go_wp2_with fail
  refine (containsM_any A n c B xs v w hx hn hl).mono ?_
  rintro e w' ⟨rfl, rfl⟩
  go_wp2
  go_ret
  exact ⟨rfl, rfl⟩

set_option maxHeartbeats 400000 in
theorem rhas_any (A : Option Addr) (n c B : Nat) (xs : List Int) (v : Int) (w : World) (hx : HasI w B A xs) (hn : xs.length = n) (hl : n ≤ 140737488355328) :
    Calls Try.prog 54 #[.slice A n c, .int .i64 v] w fun e w' => e = .returned (.bool (decide (v ∈ xs))) ∧ w = w' := by
  subst hn
  go_enter Try.func54, Try.ntmps54
  go_wp2
  go_loop [8] (fun i => ∃ k : Nat, k ≤ xs.length ∧ i = .int .i64 k ∧ Hid (∀ j (hj : j < xs.length), j < k → xs[j] ≠ v)) (fun i => xs.length - (intOf i).toNat)
  case atStart => exact ⟨0, Nat.zero_le _, rfl, fun j _ h => absurd h (by omega)⟩
  case round =>
    obtain ⟨k, hk, rfl, hno⟩ := hrel
    by_cases hlt : k < xs.length
    · obtain ⟨b, o, rfl, hb, hc⟩ := hx k hlt
      by_cases hv : xs[k] = v
      · have t2 : (xs[k] == v) = true := by simpa using hv
        have HV := hide hv
        clear hv
        go_wp2
        go_ret
        exact ⟨by rw [decide_eq_true (by rw [← HV.out]; exact List.getElem_mem hlt)]; rfl, rfl⟩
      · have t2 : (xs[k] == v) = false := by simpa using hv
        have HV := hide hv
        clear hv
        go_wp2
        go_round
        case rel => exact ⟨k + 1, by omega, by go_num, fun j hj hjk => by
          rcases Nat.lt_or_ge j k with h | h
          · exact hno.out j hj h
          · obtain rfl : j = k := by omega
            exact HV.out⟩
        case measure => simp [intOf]; omega
    · go_wp2
      go_ret
      exact ⟨by rw [decide_eq_false (not_mem_all fun j hj => hno.out j hj (by omega))]; rfl, rfl⟩
end Go.Proofs.Ytgdncmkhcdmjoaa
