/-
  The calls of package gauss that reckon: what they give for whole numbers, and that whatever else comes in is refused. No condition.
-/
import Derived.Test.YtnngmapphacpkaaProg
import Derived.Test.YtnngmapphacpkaaFloat
import Derived.WalkKit
import Derived.Handy
import Derived.WalkLawsBesides
set_option linter.unusedSimpArgs false
set_option linter.unusedVariables false
namespace Go.Proofs.Ytnngmapphacpkaa
open Go.RowKit

/-- Within the bounds. -/
def inB (n : Int) : Prop := -1048576 ≤ n ∧ n ≤ 1048576
instance (n : Int) : Decidable (inB n) := inferInstanceAs (Decidable (_ ∧ _))

theorem within_yes (n : Int) (h : inB n) (w : World) : Calls Try.prog 78 #[.int .i64 n] w fun e w' => e = .returned (.bool true) ∧ w = w' := by
  obtain ⟨h1, h2⟩ := h
  go_enter Try.func78, Try.ntmps78
  go_wp2
  go_ret
  exact ⟨rfl, rfl⟩

theorem within_no (n : Int) (h : ¬ inB n) (w : World) : Calls Try.prog 78 #[.int .i64 n] w fun e w' => e = .returned (.bool false) ∧ w = w' := by
  unfold inB at h
  by_cases h1 : -1048576 ≤ n
  · have h2 : ¬ n ≤ 1048576 := by omega
    clear h
    go_enter Try.func78, Try.ntmps78
    go_wp2
    go_ret
    exact ⟨rfl, rfl⟩
  · clear h
    go_enter Try.func78, Try.ntmps78
    go_wp2
    go_ret
    exact ⟨rfl, rfl⟩

theorem fv_low : FV 13920626448202203136 (-1048576) := by
  have := fv_int (-1048576) (by decide)
  rwa [show floatOfInt .f64 (-1048576) = 13920626448202203136 from by decide +kernel] at this
theorem fv_high : FV 4697254411347427328 1048576 := by
  have := fv_int 1048576 (by decide)
  rwa [show floatOfInt .f64 1048576 = 4697254411347427328 from by decide +kernel] at this

theorem cmp_le {a b : Int} (h : a ≤ b) : (some (compare a b) == some Ordering.lt || some (compare a b) == some Ordering.eq) = true := by
  rcases Int.lt_or_eq_of_le h with h | h
  · rw [Int.compare_eq_lt.2 h]; rfl
  · rw [Int.compare_eq_eq.2 h]; rfl
theorem cmp_not_le {a b : Int} (h : b < a) : (some (compare a b) == some Ordering.lt || some (compare a b) == some Ordering.eq) = false := by
  rw [Int.compare_eq_gt.2 h]; rfl
theorem cmp_ne {a b : Int} (h : a ≠ b) : (some (compare a b) == some Ordering.eq) = false := by
  rcases Int.lt_trichotomy a b with h' | h' | h'
  · rw [Int.compare_eq_lt.2 h']; rfl
  · exact absurd h' h
  · rw [Int.compare_eq_gt.2 h']; rfl
theorem cmp_eq (a : Int) : compare a a = Ordering.eq := Int.compare_eq_eq.2 rfl

/-- No whole number within the bounds. -/
def NotW (x : Nat) : Prop := ∀ n, FV x n → ¬ inB n

theorem not_w_or {x y : Nat} (h : ¬ ∃ a b, FV x a ∧ FV y b ∧ inB a ∧ inB b) : NotW x ∨ NotW y := by
  by_cases hx : ∃ a, FV x a ∧ inB a
  · refine .inr fun b hb hi => h ?_
    obtain ⟨a, ha, hai⟩ := hx
    exact ⟨a, b, ha, hb, hai, hi⟩
  · exact .inl fun a ha hi => hx ⟨a, ha, hi⟩

theorem of_yes (a b : Int) (ha : inB a) (hb : inB b) (w : World) :
    Calls Try.prog 76 #[.int .i64 a, .int .i64 b] w fun e w' => e = .returned (.tuple #[.complex .f64 (floatOfInt .f64 a) (floatOfInt .f64 b), .bool true]) ∧ w = w' := by
  go_enter Try.func76, Try.ntmps76
  go_wp2_with fail
  refine (within_yes a ha w).mono ?_
  rintro e w' ⟨rfl, rfl⟩
  go_wp2_with fail
  refine (within_yes b hb w).mono ?_
  rintro e w' ⟨rfl, rfl⟩
  go_wp2
  go_ret2
  exact ⟨rfl, rfl⟩

theorem of_no (a b : Int) (h : ¬ (inB a ∧ inB b)) (w : World) :
    Calls Try.prog 76 #[.int .i64 a, .int .i64 b] w fun e w' => e = .returned (.tuple #[.complex .f64 0 0, .bool false]) ∧ w = w' := by
  by_cases ha : inB a
  · have hb : ¬ inB b := fun hb => h ⟨ha, hb⟩
    clear h
    go_enter Try.func76, Try.ntmps76
    go_wp2_with fail
    refine (within_yes a ha w).mono ?_
    rintro e w' ⟨rfl, rfl⟩
    go_wp2_with fail
    refine (within_no b hb w).mono ?_
    rintro e w' ⟨rfl, rfl⟩
    go_wp2
    go_ret2
    exact ⟨rfl, rfl⟩
  · clear h
    go_enter Try.func76, Try.ntmps76
    go_wp2_with fail
    refine (within_no a ha w).mono ?_
    rintro e w' ⟨rfl, rfl⟩
    go_wp2
    go_ret2
    exact ⟨rfl, rfl⟩

/-- What is answered where the parts would be a and b: the bits of each part, and whether it is right. -/
def rx (a b : Int) : Nat := if inB a ∧ inB b then floatOfInt .f64 a else 0
def ry (a b : Int) : Nat := if inB a ∧ inB b then floatOfInt .f64 b else 0
def rb (a b : Int) : Bool := decide (inB a ∧ inB b)

theorem rx_yes {a b : Int} (ha : inB a) (hb : inB b) : rx a b = floatOfInt .f64 a := if_pos ⟨ha, hb⟩
theorem ry_yes {a b : Int} (ha : inB a) (hb : inB b) : ry a b = floatOfInt .f64 b := if_pos ⟨ha, hb⟩
theorem rb_yes {a b : Int} (ha : inB a) (hb : inB b) : rb a b = true := by unfold rb; simp [ha, hb]
theorem rx_no {a b : Int} (h : ¬ (inB a ∧ inB b)) : rx a b = 0 := if_neg h
theorem ry_no {a b : Int} (h : ¬ (inB a ∧ inB b)) : ry a b = 0 := if_neg h
theorem rb_no {a b : Int} (h : ¬ (inB a ∧ inB b)) : rb a b = false := by unfold rb; simp [h]

theorem of_any (a b : Int) (w : World) :
    Calls Try.prog 76 #[.int .i64 a, .int .i64 b] w fun e w' => e = .returned (.tuple #[.complex .f64 (rx a b) (ry a b), .bool (rb a b)]) ∧ w = w' := by
  by_cases h : inB a ∧ inB b
  · rw [rx_yes h.1 h.2, ry_yes h.1 h.2, rb_yes h.1 h.2]
    exact of_yes a b h.1 h.2 w
  · rw [rx_no h, ry_no h, rb_no h]
    exact of_no a b h w

theorem csum {x y u v : Nat} {a b c d : Int} (hx : FV x a) (hy : FV y b) (hu : FV u c) (hv : FV v d) (ha : inB a) (hb : inB b) (hc : inB c) (hd : inB d) :
    (∃ r i, cSumBits .add .f64 x y u v = some (r, i) ∧ FV r (a + c) ∧ FV i (b + d)) ∧ (∃ r i, cSumBits .sub .f64 x y u v = some (r, i) ∧ FV r (a - c) ∧ FV i (b - d)) := by
  unfold inB at *
  refine ⟨?_, ?_⟩
  · obtain ⟨r, hr, hr'⟩ := fv_add hx hu (by omega)
    obtain ⟨i, hi, hi'⟩ := fv_add hy hv (by omega)
    exact ⟨r, i, by simp [cSumBits, hr, hi], hr', hi'⟩
  · obtain ⟨r, hr, hr'⟩ := fv_sub hx hu (by omega)
    obtain ⟨i, hi, hi'⟩ := fv_sub hy hv (by omega)
    exact ⟨r, i, by simp [cSumBits, hr, hi], hr', hi'⟩

theorem mul_bd {a c : Int} (ha : inB a) (hc : inB c) : -1099511627776 ≤ a * c ∧ a * c ≤ 1099511627776 := by
  have h1 : (a * c).natAbs ≤ 1048576 * 1048576 := by
    rw [Int.natAbs_mul]
    unfold inB at *
    exact Nat.mul_le_mul (by omega) (by omega)
  omega

theorem cmul {x y u v : Nat} {a b c d : Int} (hx : FV x a) (hy : FV y b) (hu : FV u c) (hv : FV v d) (ha : inB a) (hb : inB b) (hc : inB c) (hd : inB d) :
    ∃ r i, cMulBits x y u v = some (r, i) ∧ FV r (a * c - b * d) ∧ FV i (a * d + b * c) := by
  have b1 := mul_bd ha hc
  have b2 := mul_bd hb hd
  have b3 := mul_bd ha hd
  have b4 := mul_bd hb hc
  obtain ⟨p1, h1, f1⟩ := fv_mul hx hu (by omega)
  obtain ⟨p2, h2, f2⟩ := fv_mul hy hv (by omega)
  obtain ⟨p3, h3, f3⟩ := fv_mul hx hv (by omega)
  obtain ⟨p4, h4, f4⟩ := fv_mul hy hu (by omega)
  obtain ⟨r, h5, f5⟩ := fv_sub f1 f2 (by omega)
  obtain ⟨i, h6, f6⟩ := fv_add f3 f4 (by omega)
  exact ⟨r, i, by simp [cMulBits, h1, h2, h3, h4, h5, h6], f5, f6⟩

/-- A fact kept out of the sight of the walk. -/
theorem hide {p : Prop} (h : p) : Hid p := h
end Go.Proofs.Ytnngmapphacpkaa
