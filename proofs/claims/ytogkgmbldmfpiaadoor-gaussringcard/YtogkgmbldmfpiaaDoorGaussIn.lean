/-
  Reckoning that stays within the bounds; remainders; turns of sums. No condition.
-/
import Derived.Test.YtogkgmbldmfpiaaDoorGaussHead
import Derived.Test.YtogkgmbldmfpiaaDoorTurn
namespace Go.Proofs.YtogkgmbldmfpiaaDoor
open Go.RowKit

theorem tmod_bd (a : Int) (k : Nat) (hk : 0 < k) : -(k : Int) < a.tmod k ∧ a.tmod k < k := by
  rcases Int.le_total 0 a with h | h
  · rw [Int.tmod_eq_emod_of_nonneg h]
    have h1 := Int.emod_nonneg a (b := (k : Int)) (by omega)
    have h2 := Int.emod_lt_of_pos a (b := (k : Int)) (by omega)
    omega
  · have e : a.tmod k = -((-a) % k) := by
      conv => lhs; rw [← Int.neg_neg a]
      rw [Int.neg_tmod, Int.tmod_eq_emod_of_nonneg (by omega)]
    have h1 := Int.emod_nonneg (-a) (b := (k : Int)) (by omega)
    have h2 := Int.emod_lt_of_pos (-a) (b := (k : Int)) (by omega)
    omega

theorem mul_small {a b : Int} (k m : Nat) (ha : -(k : Int) ≤ a ∧ a ≤ k) (hb : -(m : Int) ≤ b ∧ b ≤ m) : -((k * m : Nat) : Int) ≤ a * b ∧ a * b ≤ ((k * m : Nat) : Int) := by
  have h : (a * b).natAbs ≤ k * m := by
    rw [Int.natAbs_mul]
    exact Nat.mul_le_mul (by omega) (by omega)
  omega

theorem rot_add (k : Nat) (p q : Int × Int) : rot k (p.1 + q.1, p.2 + q.2) = ((rot k p).1 + (rot k q).1, (rot k p).2 + (rot k q).2) := by
  induction k with
  | zero => rfl
  | succ k ih =>
    show (-(rot k (p.1 + q.1, p.2 + q.2)).2, (rot k (p.1 + q.1, p.2 + q.2)).1) = (-(rot k p).2 + -(rot k q).2, (rot k p).1 + (rot k q).1)
    rw [ih]
    simp only [Prod.mk.injEq, and_true]
    omega

theorem rot_small (k : Nat) (p : Int × Int) (m : Int) (h1 : -m ≤ p.1 ∧ p.1 ≤ m) (h2 : -m ≤ p.2 ∧ p.2 ≤ m) : (-m ≤ (rot k p).1 ∧ (rot k p).1 ≤ m) ∧ (-m ≤ (rot k p).2 ∧ (rot k p).2 ≤ m) := by
  induction k with
  | zero => exact ⟨h1, h2⟩
  | succ k ih =>
    show (-m ≤ -(rot k p).2 ∧ -(rot k p).2 ≤ m) ∧ _
    refine ⟨by omega, ih.1⟩

theorem norms (a b c d : Int) : (a * c - b * d) * (a * c - b * d) + (a * d + b * c) * (a * d + b * c) = (a * a + b * b) * (c * c + d * d) := by
  simp only [Int.mul_sub, Int.sub_mul, Int.mul_add, Int.add_mul]
  have e1 : a * c * (a * c) = a * a * (c * c) := by ac_rfl
  have e2 : b * d * (b * d) = b * b * (d * d) := by ac_rfl
  have e3 : a * d * (a * d) = a * a * (d * d) := by ac_rfl
  have e4 : b * c * (b * c) = b * b * (c * c) := by ac_rfl
  have e5 : a * c * (b * d) = a * b * (c * d) := by ac_rfl
  have e6 : b * d * (a * c) = a * b * (c * d) := by ac_rfl
  have e7 : a * d * (b * c) = a * b * (c * d) := by ac_rfl
  have e8 : b * c * (a * d) = a * b * (c * d) := by ac_rfl
  rw [e1, e2, e3, e4, e5, e6, e7, e8]
  omega

theorem add_in {x y u v : Nat} {a b c d : Int} (hx : FV x a) (hy : FV y b) (hu : FV u c) (hv : FV v d) (ha : inB a) (hb : inB b) (hc : inB c) (hd : inB d) (h1 : inB (a + c)) (h2 : inB (b + d)) (w : World) :
    Calls Tryd.prog 9 #[.complex .f64 x y, .complex .f64 u v] w fun e w' => e = .returned (.tuple #[.complex .f64 (floatOfInt .f64 (a + c)) (floatOfInt .f64 (b + d)), .bool true]) ∧ w = w' := by
  have := add_any x y u v a b c d hx hy hu hv ha hb hc hd w
  rwa [rx_yes h1 h2, ry_yes h1 h2, rb_yes h1 h2] at this
theorem sub_in {x y u v : Nat} {a b c d : Int} (hx : FV x a) (hy : FV y b) (hu : FV u c) (hv : FV v d) (ha : inB a) (hb : inB b) (hc : inB c) (hd : inB d) (h1 : inB (a - c)) (h2 : inB (b - d)) (w : World) :
    Calls Tryd.prog 11 #[.complex .f64 x y, .complex .f64 u v] w fun e w' => e = .returned (.tuple #[.complex .f64 (floatOfInt .f64 (a - c)) (floatOfInt .f64 (b - d)), .bool true]) ∧ w = w' := by
  have := sub_any x y u v a b c d hx hy hu hv ha hb hc hd w
  rwa [rx_yes h1 h2, ry_yes h1 h2, rb_yes h1 h2] at this
theorem mul_in {x y u v : Nat} {a b c d p q : Int} (hx : FV x a) (hy : FV y b) (hu : FV u c) (hv : FV v d) (ha : inB a) (hb : inB b) (hc : inB c) (hd : inB d) (e1 : a * c - b * d = p) (e2 : a * d + b * c = q) (h1 : inB p) (h2 : inB q) (w : World) :
    Calls Tryd.prog 10 #[.complex .f64 x y, .complex .f64 u v] w fun e w' => e = .returned (.tuple #[.complex .f64 (floatOfInt .f64 p) (floatOfInt .f64 q), .bool true]) ∧ w = w' := by
  have := mul_any x y u v a b c d hx hy hu hv ha hb hc hd w
  rwa [e1, e2, rx_yes h1 h2, ry_yes h1 h2, rb_yes h1 h2] at this
theorem conj_in {x y : Nat} {a b : Int} (hx : FV x a) (hy : FV y b) (hy' : y < 18446744073709551616) (ha : inB a) (hb : inB b) (w : World) :
    Calls Tryd.prog 12 #[.complex .f64 x y] w fun e w' => e = .returned (.tuple #[.complex .f64 (floatOfInt .f64 a) (floatOfInt .f64 (-b)), .bool true]) ∧ w = w' := by
  have := conj_any x y a b hx hy hy' w
  have hb' : inB (-b) := by unfold inB at *; omega
  rwa [rx_yes ha hb', ry_yes ha hb', rb_yes ha hb'] at this
end Go.Proofs.YtogkgmbldmfpiaaDoor
