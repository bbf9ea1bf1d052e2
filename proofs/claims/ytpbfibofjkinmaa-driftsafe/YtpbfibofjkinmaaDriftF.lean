/-
  The walk of DriftSafe. No condition but the reach of what is read.
-/
import Derived.Test.YtpbfibofjkinmaaDriftE
import Derived.Test.YtpbfibofjkinmaaInts
set_option linter.unusedSimpArgs false
set_option linter.unusedVariables false
namespace Go.Proofs.Ytpbfibofjkinmaa
open Go.RowKit


theorem keeps_same (T n r : Int) (b : Bool) (h : keepsB T n r = b) (w : World) : Calls Try.prog 19 #[.int .i64 T, .int .i64 n, .int .i64 r] w fun e w' => e = .returned (.bool b) ∧ w' = w := by
  subst h
  exact (keeps_any T n r w).mono fun _ _ ⟨he, hw⟩ => ⟨he, hw.symm⟩
theorem keeps_facts {T n r : Int} (h : keepsB T n r = true) : 0 ≤ T ∧ 0 ≤ n ∧ n ≤ 1099511627776 ∧ T * (1000 - r) ≤ 1000 * n ∧ 1000 * n ≤ T * (1000 + r) := by
  unfold keepsB upB at h
  simp only [Bool.and_eq_true, decide_eq_true_eq] at h
  omega

/-- What the two clocks have gone behind a stretch S. -/
structure Gone (r S a b : Int) : Prop where
  s0 : 0 ≤ S
  a0 : S * (1000 - r) ≤ 1000 * a
  a1 : 1000 * a ≤ S * (1000 + r)
  b0 : S * (1000 - r) ≤ 1000 * b
  b1 : 1000 * b ≤ S * (1000 + r)
theorem Gone.add {r S a b T x y : Int} (h : Gone r S a b) (hx : keepsB T x r = true) (hy : keepsB T y r = true) : Gone r (S + T) (a + x) (b + y) := by
  obtain ⟨t0, _, _, x0, x1⟩ := keeps_facts hx
  obtain ⟨_, _, _, y0, y1⟩ := keeps_facts hy
  obtain ⟨h0, h1, h2, h3, h4⟩ := h
  refine ⟨by omega, ?_, ?_, ?_, ?_⟩
  all_goals rw [Int.add_mul]
  all_goals omega
theorem Gone.up {r S a b : Int} (h : Gone r S a b) (r0 : 0 ≤ r) (r1 : r ≤ 500) (hs : S ≤ 16777216000) : 0 ≤ a ∧ a ≤ 25165824000 ∧ 0 ≤ b ∧ b ≤ 25165824000 := by
  obtain ⟨h0, h1, h2, h3, h4⟩ := h
  have p : S * (1000 + r) ≤ S * 1500 := Int.mul_le_mul_of_nonneg_left (by omega) h0
  have q : 0 ≤ S * (1000 - r) := Int.mul_nonneg h0 (by omega)
  omega

theorem hold_has {t r : Int} (h : lentB t r = true) : holdN t r * (1000 + r) ≤ t * (1000 - r) ∧ 0 ≤ holdN t r ∧ holdN t r ≤ t := by
  obtain ⟨t0, t1, r0, r1⟩ := lent_bounds h
  obtain ⟨p0, p1⟩ := prod_bounds t0 t1 (s := 1000 - r) (by omega) (by omega)
  unfold holdN
  rw [h, if_pos rfl]
  refine ⟨(hold_le (by omega)).1 (Int.le_refl _), Int.ediv_nonneg p0 (by omega), ?_⟩
  refine Int.le_trans (Int.ediv_le_ediv (b := t * (1000 + r)) (by omega) (Int.mul_le_mul_of_nonneg_left (by omega) t0)) ?_
  rw [Int.mul_ediv_cancel _ (by omega)]
  exact Int.le_refl _
theorem wait_has {t r : Int} (h : lentB t r = true) : t * (1000 + r) ≤ waitN t r * (1000 - r) ∧ t ≤ waitN t r := by
  obtain ⟨t0, t1, r0, r1⟩ := lent_bounds h
  obtain ⟨p0, p1⟩ := prod_bounds t0 t1 (s := 1000 + r) (by omega) (by omega)
  unfold waitN
  rw [h, if_pos rfl]
  refine ⟨(wait_le (by omega)).1 (Int.le_refl _), ?_⟩
  have h1 : ¬ (t * (1000 + r) + (1000 - r) - 1) / (1000 - r) ≤ t - 1 := by
    rw [wait_le (by omega), Int.sub_mul]
    have : t * (1000 - r) ≤ t * (1000 + r) := Int.mul_le_mul_of_nonneg_left (by omega) t0
    omega
  omega

theorem driftSafe_out (A0 A1 A2 : Option Addr) (n0 n1 n2 c0 c1 c2 : Nat) (t r : Int) (w : World) (h : t < 0 ∨ 1048576 < t ∨ r < 0 ∨ 500 < r) :
    Calls Try.prog 5 #[.slice A0 n0 c0, .slice A1 n1 c1, .slice A2 n2 c2, .int .i64 t, .int .i64 r] w fun e w' => e = .returned (.bool true) ∧ Below w.heap.size w w' := by
  have hl : lentB t r = false := by
    cases hb : lentB t r
    · rfl
    · exact absurd (lent_bounds hb) (by omega)
  have h1 := hold_any t r w
  have h2 := wait_any t r w
  rw [show holdN t r = 0 from by unfold holdN; rw [hl]; rfl] at h1
  rw [show waitN t r = 0 from by unfold waitN; rw [hl]; rfl] at h2
  clear hl
  by_cases c1 : t < 0
  · clear h
    go_enter Try.func5, Try.ntmps5
    go_wp2_with fail
    refine (head11_any _).mono ?_
    rintro e w' ⟨rfl, rfl⟩
    go_wp2_with fail
    refine h1.mono ?_
    rintro e w' ⟨rfl, rfl⟩
    go_wp2_with fail
    refine h2.mono ?_
    rintro e w' ⟨rfl, rfl⟩
    go_wp2
    go_ret
    exact ⟨rfl, Below.refl _ _⟩
  by_cases c2 : 1048576 < t
  · clear h
    go_enter Try.func5, Try.ntmps5
    go_wp2_with fail
    refine (head11_any _).mono ?_
    rintro e w' ⟨rfl, rfl⟩
    go_wp2_with fail
    refine h1.mono ?_
    rintro e w' ⟨rfl, rfl⟩
    go_wp2_with fail
    refine h2.mono ?_
    rintro e w' ⟨rfl, rfl⟩
    go_wp2
    go_ret
    exact ⟨rfl, Below.refl _ _⟩
  by_cases c3 : r < 0
  · clear h
    go_enter Try.func5, Try.ntmps5
    go_wp2_with fail
    refine (head11_any _).mono ?_
    rintro e w' ⟨rfl, rfl⟩
    go_wp2_with fail
    refine h1.mono ?_
    rintro e w' ⟨rfl, rfl⟩
    go_wp2_with fail
    refine h2.mono ?_
    rintro e w' ⟨rfl, rfl⟩
    go_wp2
    go_ret
    exact ⟨rfl, Below.refl _ _⟩
  have c4 : 500 < r := by omega
  clear h
  go_enter Try.func5, Try.ntmps5
  go_wp2_with fail
  refine (head11_any _).mono ?_
  rintro e w' ⟨rfl, rfl⟩
  go_wp2_with fail
  refine h1.mono ?_
  rintro e w' ⟨rfl, rfl⟩
  go_wp2_with fail
  refine h2.mono ?_
  rintro e w' ⟨rfl, rfl⟩
  go_wp2
  go_ret
  exact ⟨rfl, Below.refl _ _⟩

set_option maxHeartbeats 1600000 in
set_option maxRecDepth 20000 in
theorem driftSafe_in (A0 A1 A2 : Option Addr) (n0 n1 n2 c0 c1 c2 : Nat) (xs ys zs : List Int) (t r H W : Int) (w : World) (hx : HasI w w.heap.size A0 xs) (hy : HasI w w.heap.size A1 ys) (hz : HasI w w.heap.size A2 zs) (e0 : xs.length = n0) (e1 : ys.length = n1) (e2 : zs.length = n2)
    (t0 : 0 ≤ t) (t1 : t ≤ 1048576) (r0 : 0 ≤ r) (r1 : r ≤ 500) (hH : Hid (H * (1000 + r) ≤ t * (1000 - r))) (H0 : 0 ≤ H) (H1 : H ≤ t) (hW : Hid (t * (1000 + r) ≤ W * (1000 - r))) (W1 : t ≤ W) (h1 : Calls Try.prog 15 #[.int .i64 t, .int .i64 r] w fun e w' => e = .returned (.int .i64 H) ∧ w = w') (h2 : Calls Try.prog 17 #[.int .i64 t, .int .i64 r] w fun e w' => e = .returned (.int .i64 W) ∧ w = w') :
    Calls Try.prog 5 #[.slice A0 n0 c0, .slice A1 n1 c1, .slice A2 n2 c2, .int .i64 t, .int .i64 r] w fun e w' => e = .returned (.bool true) ∧ Below w.heap.size w w' := by
  have E0 := hide e0
  have E1 := hide e1
  have E2 := hide e2
  clear e0 e1 e2
  go_enter Try.func5, Try.ntmps5
  go_wp2_with fail
  refine (head11_any _).mono ?_
  rintro e w' ⟨rfl, rfl⟩
  go_wp2_with fail
  refine h1.mono ?_
  rintro e w' ⟨rfl, rfl⟩
  go_wp2_with fail
  refine h2.mono ?_
  rintro e w' ⟨rfl, rfl⟩
  clear h1 h2
  go_wp2
  go_loopw [11, 12, 15] (fun a b i wr => ∃ (x y S : Int) (k : Nat), a = .int .i64 x ∧ b = .int .i64 y ∧ i = .int .i64 (k : Int) ∧ k ≤ 1000 ∧ S ≤ 16777216 * k ∧ Hid (Gone r S x y) ∧ Below w.heap.size w wr) (fun _ _ i _ => 1001 - (intOf i).toNat)
  case atStart => exact ⟨0, 0, 0, 0, rfl, rfl, rfl, by omega, by omega, ⟨by omega, by omega, by omega, by omega, by omega⟩, Below.refl _ _⟩
  case round =>
    obtain ⟨a, b, S, k, rfl, rfl, rfl, hk, hS, hg, hb⟩ := hrel
    by_cases l0 : k < n0
    · by_cases l1 : k < n1
      · by_cases l2 : k < n2
        · by_cases l3 : k < 1000
          · have hx' := hx.below hb
            have hy' := hy.below hb
            have hz' := hz.below hb
            obtain ⟨b0, o0, rfl, hb0, k0⟩ := hx' k (by rw [E0.out]; exact l0)
            obtain ⟨b1, o1, rfl, hb1, k1⟩ := hy' k (by rw [E1.out]; exact l1)
            obtain ⟨b2, o2, rfl, hb2, k2⟩ := hz' k (by rw [E2.out]; exact l2)
            generalize xs[k]'(by rw [E0.out]; exact l0) = T at *
            generalize ys[k]'(by rw [E1.out]; exact l1) = u at *
            generalize zs[k]'(by rw [E2.out]; exact l2) = v at *
            clear hx' hy' hz'
            by_cases g0 : 16777216 < T
            · have G0 : decide (16777216 < T) = true := decide_eq_true g0
              go_wp2_with fail
              go_quiet (fail)
              go_wp2
              go_roundw
              case rel => exact ⟨a, b, S, k + 1, rfl, rfl, by go_num, by omega, by omega, hg, below_drewN hb _⟩
              case measure => simp [intOf]; omega
            · have G0 : decide (16777216 < T) = false := decide_eq_false g0
              cases q1 : keepsB T u r
              · have K1 := keeps_same T u r false q1
                go_wp2_with fail
                go_quiet ((go_at_call 19; exact Calls.quiet_of_same (K1 _)))
                go_wp2
                go_roundw
                case rel => exact ⟨a, b, S, k + 1, rfl, rfl, by go_num, by omega, by omega, hg, below_drewN hb _⟩
                case measure => simp [intOf]; omega
              · have K1 := keeps_same T u r true q1
                cases q2 : keepsB T v r
                · have K2 := keeps_same T v r false q2
                  go_wp2_with fail
                  go_quiet ((go_at_call 19; first | with_reducible exact Calls.quiet_of_same (K1 _) | with_reducible exact Calls.quiet_of_same (K2 _)))
                  go_wp2
                  go_roundw
                  case rel => exact ⟨a, b, S, k + 1, rfl, rfl, by go_num, by omega, by omega, hg, below_drewN hb _⟩
                  case measure => simp [intOf]; omega
                · have K2 := keeps_same T v r true q2
                  have HG := hide (hg.out.add q1 q2)
                  obtain ⟨f0, f1, f2, f3⟩ := hg.out.up r0 r1 (by omega)
                  have f4 := (keeps_facts q1).2.1
                  have f5 := (keeps_facts q2).2.1
                  have f6 := (keeps_facts q1).2.2.1
                  have f7 := (keeps_facts q2).2.2.1
                  have v1 : IntKind.i64.wrap (a + u) = a + u := IntWalk.i64_in _ (by omega)
                  have v2 : IntKind.i64.wrap (b + v) = b + v := IntWalk.i64_in _ (by omega)
                  have d1 : a + u ≤ H → b + v ≤ t := fun h => safe_hold r0 r1 HG.out.a0 HG.out.b1 hH.out h
                  have d2 : W ≤ a + u → t ≤ b + v := fun h => safe_wait r0 r1 HG.out.a1 HG.out.b0 hW.out h
                  clear K1 K2
                  have K1 := keeps_same T u r true q1
                  have K2 := keeps_same T v r true q2
                  go_wp2_with fail
                  go_quiet ((go_at_call 19; first | with_reducible exact Calls.quiet_of_same (K1 _) | with_reducible exact Calls.quiet_of_same (K2 _)))
                  have hbn := below_drewN hb nq
                  have k1' : (wr.drewN nq).cell? ⟨b1, o1 + k, none⟩ = some (.int .i64 u) := k1
                  have k2' : (wr.drewN nq).cell? ⟨b2, o2 + k, none⟩ = some (.int .i64 v) := k2
                  generalize wr.drewN nq = wq at *
                  by_cases j1 : a + u ≤ H
                  · have j2 := d1 j1
                    have D1 : decide (a + u ≤ H) = true := decide_eq_true j1
                    have D2 : decide (t < b + v) = false := decide_eq_false (by omega)
                    by_cases j3 : W ≤ a + u
                    · have j4 := d2 j3
                      have D3 : decide (W ≤ a + u) = true := decide_eq_true j3
                      have D4 : decide (b + v < t) = false := decide_eq_false (by omega)
                      clear d1 d2
                      go_wp2
                      go_roundw
                      case rel => exact ⟨a + u, b + v, S + T, k + 1, rfl, rfl, by go_num, by omega, by omega, HG, hbn⟩
                      case measure => simp [intOf]; omega
                    · have D3 : decide (W ≤ a + u) = false := decide_eq_false j3
                      clear d1 d2
                      go_wp2
                      go_roundw
                      case rel => exact ⟨a + u, b + v, S + T, k + 1, rfl, rfl, by go_num, by omega, by omega, HG, hbn⟩
                      case measure => simp [intOf]; omega
                  · have D1 : decide (a + u ≤ H) = false := decide_eq_false j1
                    by_cases j3 : W ≤ a + u
                    · have j4 := d2 j3
                      have D3 : decide (W ≤ a + u) = true := decide_eq_true j3
                      have D4 : decide (b + v < t) = false := decide_eq_false (by omega)
                      clear d1 d2
                      go_wp2
                      go_roundw
                      case rel => exact ⟨a + u, b + v, S + T, k + 1, rfl, rfl, by go_num, by omega, by omega, HG, hbn⟩
                      case measure => simp [intOf]; omega
                    · have D3 : decide (W ≤ a + u) = false := decide_eq_false j3
                      clear d1 d2
                      go_wp2
                      go_roundw
                      case rel => exact ⟨a + u, b + v, S + T, k + 1, rfl, rfl, by go_num, by omega, by omega, HG, hbn⟩
                      case measure => simp [intOf]; omega
          · go_wp2
            go_ret
            exact ⟨rfl, hb⟩
        · go_wp2
          go_ret
          exact ⟨rfl, hb⟩
      · go_wp2
        go_ret
        exact ⟨rfl, hb⟩
    · go_wp2
      go_ret
      exact ⟨rfl, hb⟩

theorem driftSafe_walk (A0 A1 A2 : Option Addr) (n0 n1 n2 c0 c1 c2 : Nat) (xs ys zs : List Int) (t r : Int) (w : World) (hx : HasI w w.heap.size A0 xs) (hy : HasI w w.heap.size A1 ys) (hz : HasI w w.heap.size A2 zs) (e0 : xs.length = n0) (e1 : ys.length = n1) (e2 : zs.length = n2) :
    Calls Try.prog 5 #[.slice A0 n0 c0, .slice A1 n1 c1, .slice A2 n2 c2, .int .i64 t, .int .i64 r] w fun e w' => e = .returned (.bool true) ∧ Below w.heap.size w w' := by
  cases hb : lentB t r
  · exact driftSafe_out A0 A1 A2 n0 n1 n2 c0 c1 c2 t r w (lent_false hb)
  · obtain ⟨t0, t1, r0, r1⟩ := lent_bounds hb
    obtain ⟨a0, a1, a2⟩ := hold_has hb
    obtain ⟨b0, b1⟩ := wait_has hb
    exact driftSafe_in A0 A1 A2 n0 n1 n2 c0 c1 c2 xs ys zs t r _ _ w hx hy hz e0 e1 e2 t0 t1 r0 r1 a0 a1 a2 b0 b1 (hold_any t r w) (wait_any t r w)
end Go.Proofs.Ytpbfibofjkinmaa
