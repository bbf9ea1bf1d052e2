/-
  The walk of ElectionQuiet. No condition.
-/
import Derived.Test.YtgdncmkhcdmjoaaElectD
import Derived.Test.YtgdncmkhcdmjoaaMasks
set_option linter.unusedSimpArgs false
set_option linter.unusedVariables false
namespace Go.Proofs.Ytgdncmkhcdmjoaa
open Go.RowKit
/-- The timer of the law, that heard its leader at a time. -/
def tq (b m r s : Int) : Tm := ⟨1, [1, 2, 3], b, m, r, s, b⟩
theorem tq_round (b m r s : Int) : (tq b m r s).round = r := rfl
/-- What it is ahead of a time. -/
def QS (b m r : Int) (k : Nat) (t : Tm) : Prop := (k = 0 ∧ t = tq b m 0 0) ∨ ∃ s : Int, t = tq b m r s ∧ 0 ≤ s ∧ s < (k : Int) ∧ (k : Int) - s ≤ b - 1 ∧ s % (b - 1) = 0
theorem quiet_heard {b m r : Int} {k : Nat} {t : Tm} (h : QS b m r k t) (h1 : 1 ≤ r) (h2 : r ≤ 1099511627776) : t.heard r k = (tq b m r k, true) := by
  rcases h with ⟨_, rfl⟩ | ⟨s, rfl, _⟩
  · exact if_pos ⟨by show (0 : Int) ≤ r; omega, h1, h2⟩
  · exact if_pos ⟨by show r ≤ r; omega, h1, h2⟩
theorem quiet_tick {b m r s k : Int} (h1 : s ≤ k) (h2 : k - s < b) : (tq b m r s).tick k = (tq b m r s, false) := by
  unfold Tm.tick
  have e : min (tq b m r s).since k = s := by show min s k = s; omega
  rw [e]
  split
  · rfl
  · rw [if_pos (show k - s < (tq b m r s).wait from h2)]
    rfl
theorem quiet_next {b m r : Int} {k : Nat} {t : Tm} (h : QS b m r k t) (hb : 2 ≤ b) (hk : ¬ (k : Int).tmod (b - 1) = 0) : ∃ s, t = tq b m r s ∧ s ≤ k ∧ k - s < b ∧ QS b m r (k + 1) (tq b m r s) := by
  have hk0 : k ≠ 0 := by
    rintro rfl
    exact hk (by simp)
  rcases h with ⟨h0, _⟩ | ⟨s, rfl, h1, h2, h3, h4⟩
  · exact absurd h0 hk0
  · rw [Int.tmod_eq_emod_of_nonneg (by omega)] at hk
    have hne : (k : Int) - s ≠ b - 1 := fun e => by
      apply hk
      have e2 : (k : Int) = s + (b - 1) := by omega
      rw [e2, Int.add_emod_right]
      exact h4
    exact ⟨s, rfl, by omega, by omega, .inr ⟨s, rfl, h1, by omega, by omega, h4⟩⟩
theorem QS.self {b m r : Int} {k : Nat} (hb : 2 ≤ b) (hk : (k : Int).tmod (b - 1) = 0) : QS b m r (k + 1) (tq b m r k) := by
  rw [Int.tmod_eq_emod_of_nonneg (by omega)] at hk
  exact .inr ⟨k, rfl, by omega, by omega, by omega, hk⟩
set_option maxHeartbeats 1600000 in
set_option maxRecDepth 20000 in
theorem quiet_walk (base most r steps : Int) (w : World) : Calls Try.prog 5 #[.int .i64 base, .int .i64 most, .int .i64 r, .int .i64 steps] w fun e w' => e = .returned (.bool true) ∧ Below w.heap.size w w' := by
  obtain ⟨x, hx, x0, x1⟩ : ∃ x, bits .and .i64 base 15 = x ∧ 0 ≤ x ∧ x < 16 := mask_lt base 4 (by omega)
  obtain ⟨N, hN, n0, n1⟩ : ∃ N, bits .and .i64 steps 511 = N ∧ 0 ≤ N ∧ N < 512 := mask_lt steps 9 (by omega)
  obtain ⟨b, hb⟩ : ∃ b, 2 + x = b := ⟨_, rfl⟩
  have w1 : IntKind.i64.wrap (2 + x) = b := by rw [IntWalk.i64_in _ (by omega), hb]
  have w2 : IntKind.i64.wrap (b - 1) = b - 1 := IntWalk.i64_in _ (by omega)
  have hb0 : 2 ≤ b ∧ b ≤ 17 := by omega
  clear hb x0 x1
  obtain ⟨m, hm⟩ : ∃ m, nearN most b 1048576 = m := ⟨_, rfl⟩
  have hnew : Hid (Tm.new 1 [1, 2, 3] b most 0 = tq b m 0 0) := by
    unfold Tm.new
    rw [show nearN b 1 1048576 = b from by unfold nearN; omega, hm]
    rfl
  clear hm
  go_enter Try.func5, Try.ntmps5
  go_wp2_with fail
  refine (head17_any w).mono ?_
  rintro e w1' ⟨rfl, hbh⟩
  have hm0 : HasI (w1'.alloc (.cells (icells [1, 2, 3]) 3)) (w1'.heap.size + 1) (some ⟨w1'.heap.size, 0, none⟩) [1, 2, 3] := HasI.new w1' 3 [1, 2, 3] (0, 0) w1'.heap.size rfl
  have ba := (Below.refl _ w1').alloc (Nat.le_refl _) (.cells (icells [1, 2, 3]) 3)
  have hic : icells [1, 2, 3] = #[.int .i64 1, .int .i64 2, .int .i64 3] := rfl
  rw [hic] at hm0 ba
  have hz0 : w1'.heap.size < (w1'.alloc (.cells #[.int .i64 1, .int .i64 2, .int .i64 3] 3)).heap.size := by simp
  clear hic
  go_wp2_with fail
  generalize w1'.alloc (.cells #[.int .i64 1, .int .i64 2, .int .i64 3] 3) = w0 at *
  refine (tnew_any 1 _ 3 _ _ _ b most 0 w0 hm0 (by omega) rfl (by omega) (by unfold In64'; omega)).mono ?_
  rintro e w2' ⟨h1, _, hb1⟩
  obtain ⟨g, A, n, c, rfl, h1, hg⟩ := h1 right123T
  rw [hnew.out] at h1
  have HB := hide (hbh.trans ((ba.trans (hb1.mono ba.size)).mono hbh.size))
  have HG := hide (show w.heap.size ≤ g by have := hbh.size; omega)
  have H1 := hide h1
  clear hm0 ba hz0 hb1 hg hbh h1
  have q1 := eq_pT g
  have q2 := neq_pT g
  by_cases r1 : 1 ≤ r
  · by_cases r2 : r ≤ 1099511627776
    · have d1 : decide (r < 1) = false := decide_eq_false (by omega)
      have d2 : decide (1099511627776 < r) = false := decide_eq_false (by omega)
      have R1 := hide r1
      have R2 := hide r2
      clear r1 r2
      go_wp2_with fail
      go_loopw [10] (fun s10 wr => ∃ k : Nat, s10 = .int .i64 k ∧ (k : Int) ≤ N ∧ Hid (∃ t, IsT wr g A n c t ∧ QS b m r k t) ∧ Hid (Below w.heap.size w wr)) (fun s10 _ => (N - intOf s10).toNat)
      case atStart => exact ⟨0, rfl, by omega, ⟨_, H1.out, .inl ⟨rfl, rfl⟩⟩, HB⟩
      case round =>
        obtain ⟨k, rfl, hk, ht, hbl⟩ := hrel
        by_cases hlt : (k : Int) < N
        · obtain ⟨t, ht, hq⟩ := ht.out
          have hin : In64' (k : Int) := by unfold In64'; omega
          have w3 : IntKind.i64.wrap ((k : Int) + 1) = (k : Int) + 1 := IntWalk.i64_in _ (by omega)
          have hnz : b - 1 ≠ 0 := by omega
          obtain ⟨q, hq1⟩ : ∃ q, (k : Int).tmod (b - 1) = q := ⟨_, rfl⟩
          cases hq0 : (q == 0)
          rotate_left
          · have hmd : (k : Int).tmod (b - 1) = 0 := hq1.trans (eq_of_beq hq0)
            have hhe := theard_any ht r k hin
            rw [quiet_heard hq R1.out R2.out] at hhe
            have HQ := hide (QS.self (m := m) (r := r) hb0.1 hmd)
            clear hq hmd
            go_wp2_with fail
            refine hhe.mono ?_
            rintro e w3' ⟨rfl, h3, k3⟩
            have hti := ttick_any h3 k hin
            rw [quiet_tick (by omega) (by omega)] at hti
            go_wp2_with fail
            refine hti.mono ?_
            rintro e w4' ⟨rfl, h4, k4⟩
            have hro := tround_any h4
            rw [tq_round] at hro
            go_wp2_with fail
            refine hro.mono ?_
            rintro e _ ⟨rfl, rfl⟩
            go_wp2
            go_roundw
            case rel => exact ⟨k + 1, by go_num, by omega, ⟨_, h4, HQ.out⟩, hbl.out.trans ((k3.step k4 (fun j hj => .inl hj)).below hbl.out.size (fun j hj => by have := HG.out; omega))⟩
            case measure => simp [intOf]; omega
          · have hmd : ¬ (k : Int).tmod (b - 1) = 0 := fun e => by rw [hq1] at e; rw [e] at hq0; cases hq0
            obtain ⟨s, rfl, s1, s2, HQ⟩ := quiet_next hq hb0.1 hmd
            have HQ := hide HQ
            have hti := ttick_any ht k hin
            rw [quiet_tick s1 s2] at hti
            clear hq hmd s1 s2
            go_wp2_with fail
            refine hti.mono ?_
            rintro e w4' ⟨rfl, h4, k4⟩
            have hro := tround_any h4
            rw [tq_round] at hro
            go_wp2_with fail
            refine hro.mono ?_
            rintro e _ ⟨rfl, rfl⟩
            go_wp2
            go_roundw
            case rel => exact ⟨k + 1, by go_num, by omega, ⟨_, h4, HQ.out⟩, hbl.out.trans (k4.below hbl.out.size (fun j hj => by have := HG.out; omega))⟩
            case measure => simp [intOf]; omega
        · go_wp2
          go_ret
          exact ⟨rfl, hbl.out⟩
    · have hhe := theard_any H1.out r 0 (by unfold In64'; omega)
      rw [show (tq b m 0 0).heard r 0 = (tq b m 0 0, false) from if_neg (by omega)] at hhe
      go_wp2_with fail
      refine hhe.mono ?_
      rintro e w3' ⟨rfl, h3, k3⟩
      go_wp2
      go_ret
      exact ⟨rfl, HB.out.trans (k3.below HB.out.size (fun j hj => by have := HG.out; omega))⟩
  · have hhe := theard_any H1.out r 0 (by unfold In64'; omega)
    rw [show (tq b m 0 0).heard r 0 = (tq b m 0 0, false) from if_neg (by omega)] at hhe
    go_wp2_with fail
    refine hhe.mono ?_
    rintro e w3' ⟨rfl, h3, k3⟩
    go_wp2
    go_ret
    exact ⟨rfl, HB.out.trans (k3.below HB.out.size (fun j hj => by have := HG.out; omega))⟩
end Go.Proofs.Ytgdncmkhcdmjoaa
