/-
  What isn't whole, or leaves the bounds, is refused by every call of gauss; Show of it too. GaussWhole: the walk. No condition but that the bits are those of floats.
-/
import Derived.Test.YtogkgmbldmfpiaaDoorGaussHead
import Derived.Test.YtogkgmbldmfpiaaDoorTurn
namespace Go.Proofs.YtogkgmbldmfpiaaDoor
open Go.RowKit Ieee

theorem add_no1 (x y u v : Nat) (h : NotW x ∨ NotW y) (w : World) :
    Calls Tryd.prog 9 #[.complex .f64 x y, .complex .f64 u v] w fun e w' => e = .returned (.tuple #[.complex .f64 0 0, .bool false]) ∧ w = w' := by
  go_enter Tryd.func9, Tryd.ntmps9
  go_wp2_with fail
  refine (right_no x y h w).mono ?_
  rintro e w' ⟨rfl, rfl⟩
  clear h
  go_wp2
  go_ret2
  exact ⟨rfl, rfl⟩

theorem sub_no2 (x y u v : Nat) (a b : Int) (hx : FV x a) (hy : FV y b) (ha : inB a) (hb : inB b) (h : NotW u ∨ NotW v) (w : World) :
    Calls Tryd.prog 11 #[.complex .f64 x y, .complex .f64 u v] w fun e w' => e = .returned (.tuple #[.complex .f64 0 0, .bool false]) ∧ w = w' := by
  go_enter Tryd.func11, Tryd.ntmps11
  go_wp2_with fail
  refine (right_yes x y a b hx hy ha hb w).mono ?_
  rintro e w' ⟨rfl, rfl⟩
  go_wp2_with fail
  refine (right_no u v h w).mono ?_
  rintro e w' ⟨rfl, rfl⟩
  clear h
  go_wp2
  go_ret2
  exact ⟨rfl, rfl⟩

theorem mul_no2 (x y u v : Nat) (a b : Int) (hx : FV x a) (hy : FV y b) (ha : inB a) (hb : inB b) (h : NotW u ∨ NotW v) (w : World) :
    Calls Tryd.prog 10 #[.complex .f64 x y, .complex .f64 u v] w fun e w' => e = .returned (.tuple #[.complex .f64 0 0, .bool false]) ∧ w = w' := by
  go_enter Tryd.func10, Tryd.ntmps10
  go_wp2_with fail
  refine (right_yes x y a b hx hy ha hb w).mono ?_
  rintro e w' ⟨rfl, rfl⟩
  go_wp2_with fail
  refine (right_no u v h w).mono ?_
  rintro e w' ⟨rfl, rfl⟩
  clear h
  go_wp2
  go_ret2
  exact ⟨rfl, rfl⟩

theorem notw_neg {y : Nat} (hy : y < 18446744073709551616) (h : NotW y) : NotW (Op.negFloat .f64 y) := fun n hn hi =>
  h (-n) (fv_neg_back hy hn) (by unfold inB at *; omega)

theorem conj_no (x y : Nat) (hy : y < 18446744073709551616) (h : NotW x ∨ NotW y) (w : World) :
    Calls Tryd.prog 12 #[.complex .f64 x y] w fun e w' => e = .returned (.tuple #[.complex .f64 0 0, .bool false]) ∧ w = w' := by
  have h' : NotW x ∨ NotW (Op.negFloat .f64 y) := h.imp id (notw_neg hy)
  clear h hy
  have ku : ∀ w : World, (Op.unary .neg (.float .f64 y)).run Tryd.prog w = .ok (.float .f64 (Op.negFloat .f64 y)) w := fun _ => rfl
  go_enter Tryd.func12, Tryd.ntmps12
  go_wp2_with fail
  refine (answer_no x (Op.negFloat .f64 y) h' w).mono ?_
  rintro e w' ⟨rfl, rfl⟩
  clear h'
  go_wp2
  go_ret2
  exact ⟨rfl, rfl⟩

theorem turn_no (x y : Nat) (q : Int) (h : NotW x ∨ NotW y) (w : World) :
    Calls Tryd.prog 13 #[.complex .f64 x y, .int .i64 q] w fun e w' => e = .returned (.tuple #[.complex .f64 0 0, .bool false]) ∧ w = w' := by
  go_enter Tryd.func13, Tryd.ntmps13
  go_wp2_with fail
  refine (right_no x y h w).mono ?_
  rintro e w' ⟨rfl, rfl⟩
  clear h
  go_wp2
  go_ret2
  exact ⟨rfl, rfl⟩

theorem norm_no (x y : Nat) (h : NotW x ∨ NotW y) (w : World) :
    Calls Tryd.prog 14 #[.complex .f64 x y] w fun e w' => e = .returned (.tuple #[.int .i64 0, .bool false]) ∧ w = w' := by
  go_enter Tryd.func14, Tryd.ntmps14
  go_wp2_with fail
  refine (parts_no x y h w).mono ?_
  rintro e w' ⟨rfl, rfl⟩
  clear h
  go_wp2
  go_ret2
  exact ⟨rfl, rfl⟩

theorem show_no (x y : Nat) (h : NotW x ∨ NotW y) (w : World) :
    Calls Tryd.prog 15 #[.complex .f64 x y] w fun e w' => e = .returned (.tuple #[.string ⟨#[]⟩, .bool false]) ∧ w = w' := by
  go_enter Tryd.func15, Tryd.ntmps15
  go_wp2_with fail
  refine (parts_no x y h w).mono ?_
  rintro e w' ⟨rfl, rfl⟩
  clear h
  go_wp2
  go_ret2
  exact ⟨rfl, rfl⟩

/-- What is the same as itself, not below the one and not above the other, lies between them. -/
theorem between {x y z : Nat} {a b : Int} (ha : FV y a) (hb : FV z b) (h0 : (FloatKind.f64.format.order x x == some .eq) = true)
    (h1 : (FloatKind.f64.format.order x y == some .lt) = false) (h2 : (FloatKind.f64.format.order x z == some .gt) = false) :
    (FloatKind.f64.format.order y x = some .lt ∨ FloatKind.f64.format.order y x = some .eq) ∧ (FloatKind.f64.format.order x z = some .lt ∨ FloatKind.f64.format.order x z = some .eq) := by
  obtain ⟨s, m, e, hy, hp⟩ := ha
  obtain ⟨t, n, j, hz, hq⟩ := hb
  change (Datum.order (double.read x) (double.read x) == some .eq) = true at h0
  change (Datum.order (double.read x) (double.read y) == some .lt) = false at h1
  change (Datum.order (double.read x) (double.read z) == some .gt) = false at h2
  change (Datum.order (double.read y) (double.read x) = _ ∨ Datum.order (double.read y) (double.read x) = _) ∧ (Datum.order (double.read x) (double.read z) = _ ∨ Datum.order (double.read x) (double.read z) = _)
  rw [hy] at h1 ⊢
  rw [hz] at h2 ⊢
  cases hx : double.read x with
  | number u M i =>
    rw [hx] at h1 h2
    rw [order_number u s M m i e ((-e).toNat + (-i).toNat) (by omega) (by omega)] at h1
    rw [order_number u t M n i j ((-j).toNat + (-i).toNat) (by omega) (by omega)] at h2
    rw [order_number s u m M e i ((-e).toNat + (-i).toNat) (by omega) (by omega), order_number u t M n i j ((-j).toNat + (-i).toNat) (by omega) (by omega)]
    generalize sg u M * 2 ^ (i + ((-e).toNat + (-i).toNat : Nat)).toNat = X1 at *
    generalize sg s m * 2 ^ (e + ((-e).toNat + (-i).toNat : Nat)).toNat = Y1 at *
    generalize sg u M * 2 ^ (i + ((-j).toNat + (-i).toNat : Nat)).toNat = X2 at *
    generalize sg t n * 2 ^ (j + ((-j).toNat + (-i).toNat : Nat)).toNat = Z2 at *
    refine ⟨?_, ?_⟩
    · rcases Int.lt_trichotomy X1 Y1 with h | h | h
      · rw [Int.compare_eq_lt.2 h] at h1; cases h1
      · subst h; exact .inr (by rw [Int.compare_eq_eq.2 rfl])
      · exact .inl (by rw [Int.compare_eq_lt.2 h])
    · rcases Int.lt_trichotomy X2 Z2 with h | h | h
      · exact .inl (by rw [Int.compare_eq_lt.2 h])
      · subst h; exact .inr (by rw [Int.compare_eq_eq.2 rfl])
      · rw [Int.compare_eq_gt.2 h] at h2; cases h2
  | infinity u =>
    rw [hx] at h1 h2
    cases u <;> simp [Datum.order] at h1 h2
  | nan u f =>
    rw [hx] at h0
    simp [Datum.order] at h0

theorem bne_of {a : Option Ordering} (h : (a == some Ordering.eq) = false) : (a != some Ordering.eq) = true := by unfold bne; rw [h]; rfl
theorem not_bne_of {a : Option Ordering} (h : (a == some Ordering.eq) = true) : (a != some Ordering.eq) = false := by unfold bne; rw [h]; rfl

set_option maxRecDepth 100000 in
set_option maxHeartbeats 1600000 in
theorem whole_walk (x y : Nat) (hx : x < 18446744073709551616) (hy : y < 18446744073709551616) (w : World) : Calls Tryd.prog 3 #[.float .f64 x, .float .f64 y] w fun e w' => e = .returned (.bool true) ∧ w = w' := by
  by_cases hp : ∃ a b, FV x a ∧ FV y b ∧ inB a ∧ inB b
  · obtain ⟨a, b, hxa, hyb, ha, hb⟩ := hp
    have o1 := oeq (fvi ha) hxa
    have o2 := oeq (fvi hb) hyb
    clear hx hy
    go_enter Tryd.func3, Tryd.ntmps3
    go_wp2_with fail
    refine (head3_any w).mono ?_
    rintro e w' ⟨rfl, rfl⟩
    go_wp2_with fail
    refine (parts_yes x y a b hxa hyb ha hb w).mono ?_
    rintro e w' ⟨rfl, rfl⟩
    go_wp2_with fail
    refine (refright_yes a b ha hb w).mono ?_
    rintro e w' ⟨rfl, rfl⟩
    go_wp2
    go_ret
    exact ⟨rfl, rfl⟩
  · have hn := not_w_or hp
    clear hp
    have i0 : inB 0 := by unfold inB; omega
    have i1 : inB 1 := by unfold inB; omega
    have o0 := oeq fv_zero fv_zero
    have cConj := hide (conj_no x y hy hn w)
    clear hx hy
    have key : (¬ FloatKind.f64.format.order x x = some .eq ∨ ¬ FloatKind.f64.format.order y y = some .eq ∨ FloatKind.f64.format.order x 13920626448202203136 = some .lt ∨ FloatKind.f64.format.order x 4697254411347427328 = some .gt ∨ FloatKind.f64.format.order y 13920626448202203136 = some .lt ∨ FloatKind.f64.format.order y 4697254411347427328 = some .gt) ∨
        ∃ n m : Int, floatToIntVal .f64 x .i64 = some n ∧ floatToIntVal .f64 y .i64 = some m ∧ (¬ FloatKind.f64.format.order (floatOfInt .f64 n) x = some .eq ∨ ¬ FloatKind.f64.format.order (floatOfInt .f64 m) y = some .eq) := by
      by_cases k1 : FloatKind.f64.format.order x x = some .eq
      · by_cases k2 : FloatKind.f64.format.order y y = some .eq
        · by_cases k3 : FloatKind.f64.format.order x 13920626448202203136 = some .lt
          · exact .inl (.inr (.inr (.inl k3)))
          · by_cases k4 : FloatKind.f64.format.order x 4697254411347427328 = some .gt
            · exact .inl (.inr (.inr (.inr (.inl k4))))
            · by_cases k5 : FloatKind.f64.format.order y 13920626448202203136 = some .lt
              · exact .inl (.inr (.inr (.inr (.inr (.inl k5)))))
              · by_cases k6 : FloatKind.f64.format.order y 4697254411347427328 = some .gt
                · exact .inl (.inr (.inr (.inr (.inr (.inr k6)))))
                · right
                  obtain ⟨a1, a2⟩ := between (x := x) fv_low fv_high (by simp [k1]) (by simp [k3]) (by simp [k4])
                  obtain ⟨b1, b2⟩ := between (x := y) fv_low fv_high (by simp [k2]) (by simp [k5]) (by simp [k6])
                  obtain ⟨n, hn1, hn2, hn3⟩ := toInt_between fv_low fv_high (by omega) (by omega) (by omega) (by omega) a1 a2
                  obtain ⟨m, hm1, hm2, hm3⟩ := toInt_between fv_low fv_high (by omega) (by omega) (by omega) (by omega) b1 b2
                  refine ⟨n, m, hn1, hm1, ?_⟩
                  rcases hn with hn | hn
                  · exact .inl fun hc => absurd ⟨hn2, hn3⟩ (hn n (fv_of_order (fv_int n (by omega)) hc))
                  · exact .inr fun hc => absurd ⟨hm2, hm3⟩ (hn m (fv_of_order (fv_int m (by omega)) hc))
        · exact .inl (.inr (.inl k2))
      · exact .inl (.inl k1)
    have KEY := hide key
    clear key
    go_enter Tryd.func3, Tryd.ntmps3
    go_wp2_with fail
    refine (head3_any w).mono ?_
    rintro e w' ⟨rfl, rfl⟩
    go_wp2_with fail
    refine (parts_no x y hn w).mono ?_
    rintro e w' ⟨rfl, rfl⟩
    go_wp2_with fail
    refine (add_no1 x y 0 0 hn w).mono ?_
    rintro e w' ⟨rfl, rfl⟩
    go_wp2_with fail
    refine (mul_no2 _ _ x y 1 0 fv_one fv_zero i1 i0 hn w).mono ?_
    rintro e w' ⟨rfl, rfl⟩
    go_wp2_with fail
    refine (sub_no2 _ _ x y 0 0 fv_zero fv_zero i0 i0 hn w).mono ?_
    rintro e w' ⟨rfl, rfl⟩
    go_wp2_with fail
    refine cConj.out.mono ?_
    rintro e w' ⟨rfl, rfl⟩
    go_wp2_with fail
    refine (turn_no x y 1 hn w).mono ?_
    rintro e w' ⟨rfl, rfl⟩
    go_wp2_with fail
    refine (norm_no x y hn w).mono ?_
    rintro e w' ⟨rfl, rfl⟩
    go_wp2_with fail
    refine (show_no x y hn w).mono ?_
    rintro e w' ⟨rfl, rfl⟩
    clear hn cConj
    rcases KEY.out with (h | h | h | h | h | h) | ⟨n, m, h1, h2, h⟩
    · clear KEY; go_wp2; all_goals (go_ret; exact ⟨rfl, rfl⟩)
    · clear KEY; go_wp2; all_goals (go_ret; exact ⟨rfl, rfl⟩)
    · clear KEY; go_wp2; all_goals (go_ret; exact ⟨rfl, rfl⟩)
    · clear KEY; go_wp2; all_goals (go_ret; exact ⟨rfl, rfl⟩)
    · clear KEY; go_wp2; all_goals (go_ret; exact ⟨rfl, rfl⟩)
    · clear KEY; go_wp2; all_goals (go_ret; exact ⟨rfl, rfl⟩)
    · clear KEY
      have kx := fun (w : World) => run_convert_float_int (P := Tryd.prog) w 22 3 .f64 .i64 x n (by kernel_rfl) Tryd.underlying3 h1
      have ky := fun (w : World) => run_convert_float_int (P := Tryd.prog) w 22 3 .f64 .i64 y m (by kernel_rfl) Tryd.underlying3 h2
      clear h1 h2
      rcases h with h | h
      · go_wp2; all_goals (go_ret; exact ⟨rfl, rfl⟩)
      · have hb : (FloatKind.f64.format.order (floatOfInt .f64 m) y != some .eq) = true := bne_of (by simpa using h)
        go_wp2; all_goals (go_ret; exact ⟨rfl, rfl⟩)
end Go.Proofs.YtogkgmbldmfpiaaDoor
