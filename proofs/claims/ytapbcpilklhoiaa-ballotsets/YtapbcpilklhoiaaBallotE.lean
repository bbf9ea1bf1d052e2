/-
  Next of the reference, Below, Valid, and the head of synodlaw05. No condition but the reach of what is read.
-/
import Derived.Test.YtapbcpilklhoiaaBallotD
import Derived.Test.YtapbcpilklhoiaaEqual
set_option linter.unusedSimpArgs false
set_option linter.unusedVariables false
namespace Go.Proofs.Ytapbcpilklhoiaa
open Go.RowKit

set_option maxRecDepth 20000 in
theorem rnext_any (A : Option Addr) (n c B : Nat) (xs : List Int) (r nd v : Int) (w : World) (hx : HasI w B A xs) (hB : B ≤ w.heap.size) (hn : xs.length = n) (hr : rightS xs) :
    Calls Try.prog 28 #[.slice A n c, .agg #[.int .i64 r, .int .i64 nd], .int .i64 v] w (NextEnds xs r v w) := by
  have h1 : 1 ≤ n := by rw [← hn]; exact hr.1
  have h7 : n ≤ 7 := by rw [← hn]; exact hr.2.1
  go_enter Try.func28, Try.ntmps28
  go_wp2_with fail
  refine (rhas_any A n c B xs v _ ?_ hn (by omega)).mono ?_
  · exact (hx.alloc hB _).alloc (by simp; omega) _
  rintro e w' ⟨rfl, rfl⟩
  by_cases hm : v ∈ xs
  · have hd : decide (v ∈ xs) = true := decide_eq_true hm
    by_cases hr0 : r < 0
    · clear hm
      go_wp2
      go_returns
      exact ⟨.inl ⟨rfl, .inr (.inl hr0)⟩, by go_grown⟩
    by_cases hr1 : 1099511627776 < r
    · clear hm
      go_wp2
      go_returns
      exact ⟨.inl ⟨rfl, .inr (.inr hr1)⟩, by go_grown⟩
    obtain ⟨q, rfl⟩ := Int.eq_ofNat_of_zero_le (show 0 ≤ r by omega)
    obtain ⟨p, hp, hpe⟩ := List.mem_iff_getElem.1 hm
    have HP := hide (show xs.getD p 0 = v by rw [getD_at hp]; exact hpe)
    clear hm hpe
    have hx2 : ∀ o1 o2, HasI ((w.alloc o1).alloc o2) B A xs := fun o1 o2 => (hx.alloc hB o1).alloc (by simp; omega) o2
    obtain ⟨x, hxw⟩ : ∃ x, x = wt xs.length p q := ⟨_, rfl⟩
    have hxn : x < n := by rw [hxw, ← hn]; exact wt_lt hp
    have HX := hide hxw
    clear hxw
    go_wp2
    go_loop [8] (fun s => ∃ j : Nat, j ≤ x ∧ s = .int .i64 ((q : Int) + j + 1)) (fun s => q + x + 1 - (intOf s).toNat)
    case atStart => exact ⟨0, by omega, by congr 1⟩
    case round =>
      obtain ⟨j, hj, rfl⟩ := hrel
      have hti := turn_iff hr (p := p) (q := q) (j := j) hp (by omega)
      rw [← HX.out, HP.out, show (((q + j : Nat) : Int) + 1) = (q : Int) + j + 1 from by omega] at hti
      go_wp2_with fail
      refine (rleader_any A n c B xs _ _ (hx2 _ _) hn (by omega) h1 (by omega) (by omega)).mono ?_
      rintro e w' ⟨rfl, rfl⟩
      by_cases hjx : j = x
      · have t1 : (ldr xs ((q : Int) + j + 1) != v) = false := by simpa using hti.2 hjx
        clear hti
        subst hjx
        by_cases hbig : 1099511627776 < q + 1 + j
        · have f4 : (1099511627776 : Int) < (q : Int) + j + 1 := by omega
          go_wp2
          go_returns
          exact ⟨.inr ⟨p, q, hp, HP.out, rfl, by omega, .inl ⟨rfl, by rw [← HX.out]; exact hbig⟩⟩, by go_grown⟩
        · have f4 : decide ((1099511627776 : Int) < (q : Int) + j + 1) = false := decide_eq_false (by omega)
          have HBI := hide (show q + 1 + j ≤ 1099511627776 by omega)
          clear hbig
          have HR0 := hide hr0
          have HR1 := hide hr1
          clear hr0 hr1
          go_wp2
          go_returns
          refine ⟨.inr ⟨p, q, hp, HP.out, rfl, by omega, .inr ⟨?_, by rw [← HX.out]; exact HBI.out⟩⟩, by go_grown⟩
          rw [← HX.out]
          have e : (q : Int) + j + 1 = (((q + j : Nat) : Int) + 1) := by omega
          exact congrArg (fun z => Ending.returned (.tuple #[.agg #[.int .i64 z, .int .i64 v], .int .i64 0])) e
      · have t1 : (ldr xs ((q : Int) + j + 1) != v) = true := by
          rw [bne_iff_ne]; intro h; exact hjx (hti.1 h)
        clear hti
        go_wp2
        go_round
        case rel => exact ⟨j + 1, by omega, by go_num⟩
        case measure => simp [intOf]; omega
  · have hd : decide (v ∈ xs) = false := decide_eq_false hm
    have HM := hide hm
    clear hm
    go_wp2
    go_returns
    exact ⟨.inl ⟨rfl, .inl HM.out⟩, by go_grown⟩

def belB (a b c d : Int) : Bool := decide (a < c ∨ a = c ∧ b < d)
theorem rbelow_any (a b c d : Int) (w : World) : Calls Try.prog 16 #[.agg #[.int .i64 a, .int .i64 b], .agg #[.int .i64 c, .int .i64 d]] w fun e w' => e = .returned (.bool (belB a b c d)) ∧ Below w.heap.size w w' := by
  by_cases h1 : a < c
  · have HE : Hid (belB a b c d = true) := hide (decide_eq_true (.inl h1))
    go_enter Try.func16, Try.ntmps16
    go_wp2
    go_ret
    exact ⟨by rw [HE.out]; rfl, by go_grown⟩
  by_cases h2 : a = c
  · have t2 : (a == c) = true := by simpa using h2
    by_cases h3 : b < d
    · have HE : Hid (belB a b c d = true) := hide (decide_eq_true (.inr ⟨h2, h3⟩))
      clear h2
      go_enter Try.func16, Try.ntmps16
      go_wp2
      go_ret
      exact ⟨by rw [HE.out]; rfl, by go_grown⟩
    · have HE : Hid (belB a b c d = false) := hide (decide_eq_false (by omega))
      clear h2
      go_enter Try.func16, Try.ntmps16
      go_wp2
      go_ret
      exact ⟨by rw [HE.out]; rfl, by go_grown⟩
  · have t2 : (a == c) = false := by simpa using h2
    have HE : Hid (belB a b c d = false) := hide (decide_eq_false (by omega))
    clear h2
    go_enter Try.func16, Try.ntmps16
    go_wp2
    go_ret
    exact ⟨by rw [HE.out]; rfl, by go_grown⟩

def valB (a b : Int) : Bool := decide (1 ≤ a ∧ a ≤ 1099511627776 ∧ 1 ≤ b ∧ b ≤ 9)
theorem valB_node {a b : Int} (h1 : 1 ≤ a) (h2 : a ≤ 1099511627776) : nodeB b = valB a b := by
  unfold nodeB valB
  exact decide_eq_decide.2 (by omega)
theorem bvalid_any (a b : Int) (w : World) : Calls Try.prog 17 #[.agg #[.int .i64 a, .int .i64 b]] w fun e w' => e = .returned (.bool (valB a b)) ∧ Below w.heap.size w w' := by
  by_cases h1 : 1 ≤ a
  · by_cases h2 : a ≤ 1099511627776
    · have HE := hide (valB_node (b := b) h1 h2)
      go_enter Try.func17, Try.ntmps17
      go_wp2_with fail
      refine (isNode_any b _).mono ?_
      rintro e w' ⟨rfl, rfl⟩
      go_wp2
      go_ret
      exact ⟨by rw [← HE.out]; rfl, by go_grown⟩
    · have HE : Hid (valB a b = false) := hide (decide_eq_false (by omega))
      go_enter Try.func17, Try.ntmps17
      go_wp2
      go_ret
      exact ⟨by rw [HE.out]; rfl, by go_grown⟩
  · have HE : Hid (valB a b = false) := hide (decide_eq_false (by omega))
    go_enter Try.func17, Try.ntmps17
    go_wp2
    go_ret
    exact ⟨by rw [HE.out]; rfl, by go_grown⟩
theorem rbvalid_any (a b : Int) (w : World) : Calls Try.prog 18 #[.agg #[.int .i64 a, .int .i64 b]] w fun e w' => e = .returned (.bool (valB a b)) ∧ Below w.heap.size w w' := by
  by_cases h1 : 0 < a
  · by_cases h2 : a ≤ 1099511627776
    · by_cases h3 : 0 < b
      · by_cases h4 : b ≤ 9
        · have HE : Hid (valB a b = true) := hide (decide_eq_true (by omega))
          go_enter Try.func18, Try.ntmps18
          go_wp2
          go_ret
          exact ⟨by rw [HE.out]; rfl, by go_grown⟩
        · have HE : Hid (valB a b = false) := hide (decide_eq_false (by omega))
          go_enter Try.func18, Try.ntmps18
          go_wp2
          go_ret
          exact ⟨by rw [HE.out]; rfl, by go_grown⟩
      · have HE : Hid (valB a b = false) := hide (decide_eq_false (by omega))
        go_enter Try.func18, Try.ntmps18
        go_wp2
        go_ret
        exact ⟨by rw [HE.out]; rfl, by go_grown⟩
    · have HE : Hid (valB a b = false) := hide (decide_eq_false (by omega))
      go_enter Try.func18, Try.ntmps18
      go_wp2
      go_ret
      exact ⟨by rw [HE.out]; rfl, by go_grown⟩
  · have HE : Hid (valB a b = false) := hide (decide_eq_false (by omega))
    go_enter Try.func18, Try.ntmps18
    go_wp2
    go_ret
    exact ⟨by rw [HE.out]; rfl, by go_grown⟩
theorem right235 : rightS [2, 3, 5] := by decide
theorem next_head (A : Option Addr) (B : Nat) (w : World) (hx : HasI w B A [2, 3, 5]) (hB : B ≤ w.heap.size) :
    Calls Try.prog 29 #[.slice A 3 3, .agg #[.int .i64 4, .int .i64 9], .int .i64 2] w fun e w' => e = .returned (.tuple #[.agg #[.int .i64 7, .int .i64 2], .int .i64 0]) ∧ Below w.heap.size w w' := by
  refine (next_any A 3 3 B [2, 3, 5] 4 9 2 w hx hB rfl (by omega)).mono ?_
  rintro e w' ⟨h, hb⟩
  refine ⟨?_, hb⟩
  rcases h with ⟨_, h | h | h⟩ | ⟨p, q, hp, hv, hq, _, ⟨_, h⟩ | ⟨rfl, _⟩⟩
  · exact absurd (by simp) h
  · omega
  · omega
  · obtain rfl : q = 4 := by omega
    have := wt_lt (q := 4) hp
    simp only [List.length_cons, List.length_nil] at this h
    omega
  · obtain rfl : q = 4 := by omega
    match p, hp, hv with
    | 0, _, _ => rfl
    | 1, _, h => exact absurd h (by decide)
    | 2, _, h => exact absurd h (by decide)

set_option maxHeartbeats 800000 in
theorem head5_any (w : World) : Calls Try.prog 14 #[] w fun e w' => e = .returned (.bool true) ∧ Below w.heap.size w w' := by
  have h235 := HasI.new w 3 [2, 3, 5] (0, 0) w.heap.size rfl
  have k1 := fun w => equal_bal 9998 7 2 7 2 w
  rw [decide_eq_true rfl] at k1
  go_enter Try.func14, Try.ntmps14
  go_wp2_with fail
  refine (next_head _ (w.heap.size + 1) _ h235 (by simp)).mono ?_
  rintro e w1 ⟨rfl, hb1⟩
  have h235' := HasI.below h235 (hb1.mono (by simp))
  have hz1 := hb1.size
  simp at hz1
  have hb1' := below_of_alloc hb1
  clear hb1 h235
  go_wp2_with fail
  refine (quorum_any _ 3 3 _ (by omega)).mono ?_
  rintro e w2 ⟨rfl, rfl⟩
  have ea : ∀ o1, HasI (w1.alloc o1) (w.heap.size + 1) (some ⟨w.heap.size, 0, none⟩) [2, 3, 5] := fun o1 => h235'.alloc (by omega) o1
  have eb : ∀ o1 o2, HasI ((w1.alloc o1).alloc o2) (w.heap.size + 1) (some ⟨w.heap.size, 0, none⟩) [2, 3, 5] := fun o1 o2 => (ea o1).alloc (by simp; omega) o2
  have ec : ∀ o1 o2 o3, HasI (((w1.alloc o1).alloc o2).alloc o3) (w.heap.size + 1) (some ⟨w.heap.size, 0, none⟩) [2, 3, 5] := fun o1 o2 o3 => (eb o1 o2).alloc (by simp; omega) o3
  have E1 := hide (show enB [2, 3, 5] [5, 2] = true by decide)
  have E2 := hide (show enB [2, 3, 5] [5, 5, 9] = false by decide)
  go_wp2_with fail
  refine (enough_any _ _ 3 2 3 2 (w.heap.size + 1) (w1.heap.size + 1 + 1) [2, 3, 5] [5, 2] _ (eb _ _) (HasI.new (w1.alloc _) 3 [5, 2] (0, 0) _ (by simp)) rfl rfl (by omega) (by omega) right235).mono ?_
  rintro e w2 ⟨rfl, rfl⟩
  rw [E1.out]
  go_wp2_with fail
  refine (enough_any _ _ 3 3 3 3 (w.heap.size + 1) (w1.heap.size + 1 + 1 + 1) [2, 3, 5] [5, 5, 9] _ (ec _ _ _) (HasI.new ((w1.alloc _).alloc _) 3 [5, 5, 9] (0, 0) _ (by simp)) rfl rfl (by omega) (by omega) right235).mono ?_
  rintro e w2 ⟨rfl, rfl⟩
  rw [E2.out]
  go_wp2_with fail
  refine (has_any _ 3 3 (w.heap.size + 1) [2, 3, 5] 3 _ (ec _ _ _) rfl (by omega)).mono ?_
  rintro e w2 ⟨rfl, rfl⟩
  rw [show decide ((3 : Int) ∈ [2, 3, 5]) = true from by decide]
  go_wp2_with fail
  refine (leader_any _ 3 3 (w.heap.size + 1) [2, 3, 5] 5 _ (ec _ _ _) rfl (by omega) (by omega) (by omega)).mono ?_
  rintro e w2 ⟨rfl, rfl⟩
  rw [show ldr [2, 3, 5] 5 = 3 from by decide]
  go_wp2
  go_ret
  exact ⟨rfl, ((hb1'.alloc (by omega) _).alloc (by simp; omega) _).alloc (by simp; omega) _⟩
end Go.Proofs.Ytapbcpilklhoiaa
