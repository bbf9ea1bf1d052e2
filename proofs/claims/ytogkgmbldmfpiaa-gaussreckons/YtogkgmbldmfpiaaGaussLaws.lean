/-
  GaussParts, GaussReckons, GaussRules: the walks of the statements that reckon with whole numbers. No condition.
-/
import Derived.Test.YtogkgmbldmfpiaaTurn
namespace Go.Proofs.Ytogkgmbldmfpiaa
open Go.RowKit

theorem fv_3 : FV 4613937818241073152 3 := by
  have := fv_int 3 (by decide)
  rwa [show floatOfInt .f64 3 = 4613937818241073152 from by decide +kernel] at this
theorem fv_4 : FV 4616189618054758400 4 := by
  have := fv_int 4 (by decide)
  rwa [show floatOfInt .f64 4 = 4616189618054758400 from by decide +kernel] at this

theorem fvi {a : Int} (h : inB a) : FV (floatOfInt .f64 a) a := fv_int a (by unfold inB at h; omega)
theorem lti (a : Int) : floatOfInt .f64 a < 18446744073709551616 := by
  have := floatOfInt_wf .f64 a
  simpa [Lit.wf] using this
theorem oeq {x y : Nat} {a : Int} (h : FV x a) (h' : FV y a) : FloatKind.f64.format.order x y = some .eq := by rw [fv_order h h', cmp_eq]
theorem oself (a : Int) (h : inB a) : FloatKind.f64.format.order (floatOfInt .f64 a) (floatOfInt .f64 a) = some .eq := oeq (fvi h) (fvi h)

theorem head3_any (w : World) : Calls Try.prog 12 #[] w fun e w' => e = .returned (.bool true) ∧ w = w' := by
  have i3 : inB 3 := by unfold inB; omega
  have i4 : inB 4 := by unfold inB; omega
  have o3 := oeq (fvi i3) fv_3
  have o4 := oeq (fvi i4) fv_4
  go_enter Try.func12, Try.ntmps12
  go_wp2_with fail
  refine (of_yes 3 4 i3 i4 w).mono ?_
  rintro e w' ⟨rfl, rfl⟩
  go_wp2_with fail
  refine (norm_yes _ _ 3 4 (fvi i3) (fvi i4) i3 i4 w).mono ?_
  rintro e w' ⟨rfl, rfl⟩
  go_wp2
  go_ret
  exact ⟨rfl, rfl⟩

theorem refright_yes (a b : Int) (ha : inB a) (hb : inB b) (w : World) : Calls Try.prog 15 #[.int .i64 a, .int .i64 b] w fun e w' => e = .returned (.bool true) ∧ w = w' := by
  obtain ⟨h1, h2⟩ := ha
  obtain ⟨h3, h4⟩ := hb
  go_enter Try.func15, Try.ntmps15
  go_wp2
  go_ret
  exact ⟨rfl, rfl⟩

theorem refright_no (a b : Int) (h : ¬ (inB a ∧ inB b)) (w : World) : Calls Try.prog 15 #[.int .i64 a, .int .i64 b] w fun e w' => e = .returned (.bool false) ∧ w = w' := by
  unfold inB at h
  have key : ∀ h1 h2 h3 h4 : Bool, decide (-1048576 ≤ a) = h1 → decide (a ≤ 1048576) = h2 → decide (-1048576 ≤ b) = h3 → decide (b ≤ 1048576) = h4 → (h1 && h2 && h3 && h4) = false := by
    rintro _ _ _ _ rfl rfl rfl rfl
    simp
    omega
  by_cases h1 : -1048576 ≤ a <;> by_cases h2 : a ≤ 1048576 <;> by_cases h3 : -1048576 ≤ b <;> by_cases h4 : b ≤ 1048576
  all_goals first
    | (exfalso; omega)
    | (clear h key
       go_enter Try.func15, Try.ntmps15
       go_wp2
       go_ret
       exact ⟨rfl, rfl⟩)

theorem is_any (a b : Int) (w : World) : Calls Try.prog 14 #[.complex .f64 (rx a b) (ry a b), .bool (rb a b), .int .i64 a, .int .i64 b] w fun e w' => e = .returned (.bool true) ∧ w = w' := by
  by_cases h : inB a ∧ inB b
  · obtain ⟨ha, hb⟩ := h
    rw [rx_yes ha hb, ry_yes ha hb, rb_yes ha hb]
    have o1 := oself a ha
    have o2 := oself b hb
    go_enter Try.func14, Try.ntmps14
    go_wp2_with fail
    refine (refright_yes a b ha hb w).mono ?_
    rintro e w' ⟨rfl, rfl⟩
    go_wp2_with fail
    refine (parts_yes _ _ a b (fvi ha) (fvi hb) ha hb w).mono ?_
    rintro e w' ⟨rfl, rfl⟩
    go_wp2
    go_ret
    exact ⟨rfl, rfl⟩
  · rw [rx_no h, ry_no h, rb_no h]
    have o0 := oeq fv_zero fv_zero
    go_enter Try.func14, Try.ntmps14
    go_wp2_with fail
    refine (refright_no a b h w).mono ?_
    rintro e w' ⟨rfl, rfl⟩
    go_wp2
    go_ret
    exact ⟨rfl, rfl⟩

theorem gparts_walk (a b : Int) (w : World) : Calls Try.prog 3 #[.int .i64 a, .int .i64 b] w fun e w' => e = .returned (.bool true) ∧ w = w' := by
  go_enter Try.func3, Try.ntmps3
  go_wp2_with fail
  refine (head3_any w).mono ?_
  rintro e w' ⟨rfl, rfl⟩
  go_wp2_with fail
  refine (of_any a b w).mono ?_
  rintro e w' ⟨rfl, rfl⟩
  go_wp2_with fail
  refine (is_any a b w).mono ?_
  rintro e w' ⟨rfl, rfl⟩
  go_wp2
  go_ret
  exact ⟨rfl, rfl⟩

theorem reckons_walk (a b c d q : Int) (hq1 : -9223372036854775808 ≤ q) (hq2 : q ≤ 9223372036854775807) (w : World) : Calls Try.prog 4 #[.int .i64 a, .int .i64 b, .int .i64 c, .int .i64 d, .int .i64 q] w fun e w' => e = .returned (.bool true) ∧ w = w' := by
  by_cases hx : inB a ∧ inB b
  · by_cases hy : inB c ∧ inB d
    · obtain ⟨ha, hb⟩ := hx
      obtain ⟨hc, hd⟩ := hy
      have m1 := mul_bd ha hc
      have m2 := mul_bd hb hd
      have m3 := mul_bd ha hd
      have m4 := mul_bd hb hc
      have m5 := mul_bd ha ha
      have m6 := mul_bd hb hb
      have hr := rot_in (q % 4).toNat (a, b) ha hb
      have ha' := ha
      have hb' := hb
      have hc' := hc
      have hd' := hd
      unfold inB at ha' hb' hc' hd'
      go_enter Try.func4, Try.ntmps4
      go_wp2_with fail
      refine (head3_any w).mono ?_
      rintro e w' ⟨rfl, rfl⟩
      go_wp2_with fail
      refine (of_yes a b ha hb w).mono ?_
      rintro e w' ⟨rfl, rfl⟩
      go_wp2_with fail
      refine (of_yes c d hc hd w).mono ?_
      rintro e w' ⟨rfl, rfl⟩
      go_wp2_with fail
      refine (add_any _ _ _ _ a b c d (fvi ha) (fvi hb) (fvi hc) (fvi hd) ha hb hc hd w).mono ?_
      rintro e w' ⟨rfl, rfl⟩
      go_wp2_with fail
      refine (is_any (a + c) (b + d) w).mono ?_
      rintro e w' ⟨rfl, rfl⟩
      go_wp2_with fail
      refine (sub_any _ _ _ _ a b c d (fvi ha) (fvi hb) (fvi hc) (fvi hd) ha hb hc hd w).mono ?_
      rintro e w' ⟨rfl, rfl⟩
      go_wp2_with fail
      refine (is_any (a - c) (b - d) w).mono ?_
      rintro e w' ⟨rfl, rfl⟩
      go_wp2_with fail
      refine (mul_any _ _ _ _ a b c d (fvi ha) (fvi hb) (fvi hc) (fvi hd) ha hb hc hd w).mono ?_
      rintro e w' ⟨rfl, rfl⟩
      go_wp2_with fail
      refine (is_any (a * c - b * d) (a * d + b * c) w).mono ?_
      rintro e w' ⟨rfl, rfl⟩
      go_wp2_with fail
      refine (conj_any _ _ a b (fvi ha) (fvi hb) (lti b) w).mono ?_
      rintro e w' ⟨rfl, rfl⟩
      go_wp2_with fail
      refine (is_any a (-b) w).mono ?_
      rintro e w' ⟨rfl, rfl⟩
      go_wp2_with fail
      refine (turn_any _ _ a b q (fvi ha) (fvi hb) ha hb w).mono ?_
      rintro e w' ⟨rfl, rfl⟩
      go_wp2_with fail
      refine (rot_any a b q ha hb hq1 hq2 w).mono ?_
      rintro e w' ⟨rfl, rfl⟩
      go_wp2_with fail
      refine (norm_yes _ _ a b (fvi ha) (fvi hb) ha hb w).mono ?_
      rintro e w' ⟨rfl, rfl⟩
      have hi := is_any (rot (q % 4).toNat (a, b)).1 (rot (q % 4).toNat (a, b)).2 w
      rw [rx_yes hr.1 hr.2, ry_yes hr.1 hr.2, rb_yes hr.1 hr.2] at hi
      go_wp2_with fail
      refine hi.mono ?_
      rintro e w' ⟨rfl, rfl⟩
      clear hi hr
      go_wp2
      go_ret
      exact ⟨rfl, rfl⟩
    · go_enter Try.func4, Try.ntmps4
      go_wp2_with fail
      refine (head3_any w).mono ?_
      rintro e w' ⟨rfl, rfl⟩
      go_wp2_with fail
      refine (of_yes a b hx.1 hx.2 w).mono ?_
      rintro e w' ⟨rfl, rfl⟩
      go_wp2_with fail
      refine (of_no c d hy w).mono ?_
      rintro e w' ⟨rfl, rfl⟩
      go_wp2_with fail
      refine (refright_yes a b hx.1 hx.2 w).mono ?_
      rintro e w' ⟨rfl, rfl⟩
      go_wp2_with fail
      refine (refright_no c d hy w).mono ?_
      rintro e w' ⟨rfl, rfl⟩
      go_wp2
      go_ret
      exact ⟨rfl, rfl⟩
  · go_enter Try.func4, Try.ntmps4
    go_wp2_with fail
    refine (head3_any w).mono ?_
    rintro e w' ⟨rfl, rfl⟩
    go_wp2_with fail
    refine (of_no a b hx w).mono ?_
    rintro e w' ⟨rfl, rfl⟩
    go_wp2_with fail
    refine (of_any c d w).mono ?_
    rintro e w' ⟨rfl, rfl⟩
    go_wp2_with fail
    refine (refright_no a b hx w).mono ?_
    rintro e w' ⟨rfl, rfl⟩
    go_wp2
    go_ret
    exact ⟨rfl, rfl⟩
end Go.Proofs.Ytogkgmbldmfpiaa
