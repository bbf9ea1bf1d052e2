/-
  GaussRules: the walk. No condition.
-/
import Derived.Test.YtogkgmbldmfpiaaGaussLaws
namespace Go.Proofs.Ytogkgmbldmfpiaa
open Go.RowKit

theorem tmod_bd (a : Int) (k : Nat) (hk : 0 < k) : -(k : Int) < a.tmod k ∧ a.tmod k < k := by
  rcases Int.le_total 0 a with h | h
  · rw [Int.tmod_eq_emod_of_nonneg h]
    have h1 := Int.emod_nonneg a (b := (k : Int)) (by omega)
    have h2 := Int.emod_lt_of_pos a (b := (k : Int)) (by omega)
    omega
  · have e : a.tmod k = -((-a) % k) := by
      conv => lhs; rw [← Int.neg_neg a]
      rw [Int.neg_tmod, Int.tmod_eq_emod_of_nonneg (by omega)]
    have h1 := Int.emod_nonneg (-a) (b := (k : Int)) (by omega)
    have h2 := Int.emod_lt_of_pos (-a) (b := (k : Int)) (by omega)
    omega

theorem mul_small {a b : Int} (k m : Nat) (ha : -(k : Int) ≤ a ∧ a ≤ k) (hb : -(m : Int) ≤ b ∧ b ≤ m) : -((k * m : Nat) : Int) ≤ a * b ∧ a * b ≤ ((k * m : Nat) : Int) := by
  have h : (a * b).natAbs ≤ k * m := by
    rw [Int.natAbs_mul]
    exact Nat.mul_le_mul (by omega) (by omega)
  omega

theorem rot_add (k : Nat) (p q : Int × Int) : rot k (p.1 + q.1, p.2 + q.2) = ((rot k p).1 + (rot k q).1, (rot k p).2 + (rot k q).2) := by
  induction k with
  | zero => rfl
  | succ k ih =>
    show (-(rot k (p.1 + q.1, p.2 + q.2)).2, (rot k (p.1 + q.1, p.2 + q.2)).1) = (-(rot k p).2 + -(rot k q).2, (rot k p).1 + (rot k q).1)
    rw [ih]
    simp only [Prod.mk.injEq, and_true]
    omega

theorem rot_small (k : Nat) (p : Int × Int) (m : Int) (h1 : -m ≤ p.1 ∧ p.1 ≤ m) (h2 : -m ≤ p.2 ∧ p.2 ≤ m) : (-m ≤ (rot k p).1 ∧ (rot k p).1 ≤ m) ∧ (-m ≤ (rot k p).2 ∧ (rot k p).2 ≤ m) := by
  induction k with
  | zero => exact ⟨h1, h2⟩
  | succ k ih =>
    show (-m ≤ -(rot k p).2 ∧ -(rot k p).2 ≤ m) ∧ _
    refine ⟨by omega, ih.1⟩

theorem norms (a b c d : Int) : (a * c - b * d) * (a * c - b * d) + (a * d + b * c) * (a * d + b * c) = (a * a + b * b) * (c * c + d * d) := by
  simp only [Int.mul_sub, Int.sub_mul, Int.mul_add, Int.add_mul]
  have e1 : a * c * (a * c) = a * a * (c * c) := by ac_rfl
  have e2 : b * d * (b * d) = b * b * (d * d) := by ac_rfl
  have e3 : a * d * (a * d) = a * a * (d * d) := by ac_rfl
  have e4 : b * c * (b * c) = b * b * (c * c) := by ac_rfl
  have e5 : a * c * (b * d) = a * b * (c * d) := by ac_rfl
  have e6 : b * d * (a * c) = a * b * (c * d) := by ac_rfl
  have e7 : a * d * (b * c) = a * b * (c * d) := by ac_rfl
  have e8 : b * c * (a * d) = a * b * (c * d) := by ac_rfl
  rw [e1, e2, e3, e4, e5, e6, e7, e8]
  omega

theorem add_in {x y u v : Nat} {a b c d : Int} (hx : FV x a) (hy : FV y b) (hu : FV u c) (hv : FV v d) (ha : inB a) (hb : inB b) (hc : inB c) (hd : inB d) (h1 : inB (a + c)) (h2 : inB (b + d)) (w : World) :
    Calls Try.prog 16 #[.complex .f64 x y, .complex .f64 u v] w fun e w' => e = .returned (.tuple #[.complex .f64 (floatOfInt .f64 (a + c)) (floatOfInt .f64 (b + d)), .bool true]) ∧ w = w' := by
  have := add_any x y u v a b c d hx hy hu hv ha hb hc hd w
  rwa [rx_yes h1 h2, ry_yes h1 h2, rb_yes h1 h2] at this
theorem sub_in {x y u v : Nat} {a b c d : Int} (hx : FV x a) (hy : FV y b) (hu : FV u c) (hv : FV v d) (ha : inB a) (hb : inB b) (hc : inB c) (hd : inB d) (h1 : inB (a - c)) (h2 : inB (b - d)) (w : World) :
    Calls Try.prog 17 #[.complex .f64 x y, .complex .f64 u v] w fun e w' => e = .returned (.tuple #[.complex .f64 (floatOfInt .f64 (a - c)) (floatOfInt .f64 (b - d)), .bool true]) ∧ w = w' := by
  have := sub_any x y u v a b c d hx hy hu hv ha hb hc hd w
  rwa [rx_yes h1 h2, ry_yes h1 h2, rb_yes h1 h2] at this
theorem mul_in {x y u v : Nat} {a b c d p q : Int} (hx : FV x a) (hy : FV y b) (hu : FV u c) (hv : FV v d) (ha : inB a) (hb : inB b) (hc : inB c) (hd : inB d) (e1 : a * c - b * d = p) (e2 : a * d + b * c = q) (h1 : inB p) (h2 : inB q) (w : World) :
    Calls Try.prog 18 #[.complex .f64 x y, .complex .f64 u v] w fun e w' => e = .returned (.tuple #[.complex .f64 (floatOfInt .f64 p) (floatOfInt .f64 q), .bool true]) ∧ w = w' := by
  have := mul_any x y u v a b c d hx hy hu hv ha hb hc hd w
  rwa [e1, e2, rx_yes h1 h2, ry_yes h1 h2, rb_yes h1 h2] at this
theorem conj_in {x y : Nat} {a b : Int} (hx : FV x a) (hy : FV y b) (hy' : y < 18446744073709551616) (ha : inB a) (hb : inB b) (w : World) :
    Calls Try.prog 19 #[.complex .f64 x y] w fun e w' => e = .returned (.tuple #[.complex .f64 (floatOfInt .f64 a) (floatOfInt .f64 (-b)), .bool true]) ∧ w = w' := by
  have := conj_any x y a b hx hy hy' w
  have hb' : inB (-b) := by unfold inB at *; omega
  rwa [rx_yes ha hb', ry_yes ha hb', rb_yes ha hb'] at this

set_option maxRecDepth 100000 in
set_option maxHeartbeats 800000 in
theorem rules_walk (a b c d q : Int) (w : World) : Calls Try.prog 5 #[.int .i64 a, .int .i64 b, .int .i64 c, .int .i64 d, .int .i64 q] w fun e w' => e = .returned (.bool true) ∧ w = w' := by
  have ba := tmod_bd a 700 (by omega)
  have bb := tmod_bd b 700 (by omega)
  have bc := tmod_bd c 700 (by omega)
  have bd := tmod_bd d 700 (by omega)
  generalize ha : a.tmod (700 : Nat) = A at *
  generalize hb : b.tmod (700 : Nat) = B at *
  generalize hc : c.tmod (700 : Nat) = C at *
  generalize hd : d.tmod (700 : Nat) = D at *
  have ha : a.tmod 700 = A := ha
  have hb : b.tmod 700 = B := hb
  have hc : c.tmod 700 = C := hc
  have hd : d.tmod 700 = D := hd
  have iA : inB A := by unfold inB; omega
  have iB : inB B := by unfold inB; omega
  have iC : inB C := by unfold inB; omega
  have iD : inB D := by unfold inB; omega
  have iB' : inB (-B) := by unfold inB; omega
  have iD' : inB (-D) := by unfold inB; omega
  have mAC := mul_small (a := A) (b := C) 699 699 (by omega) (by omega)
  have mBD := mul_small (a := B) (b := D) 699 699 (by omega) (by omega)
  have mAD := mul_small (a := A) (b := D) 699 699 (by omega) (by omega)
  have mBC := mul_small (a := B) (b := C) 699 699 (by omega) (by omega)
  have mAA := mul_small (a := A) (b := A) 699 699 (by omega) (by omega)
  have mBB := mul_small (a := B) (b := B) 699 699 (by omega) (by omega)
  have mCC := mul_small (a := C) (b := C) 699 699 (by omega) (by omega)
  have mDD := mul_small (a := D) (b := D) 699 699 (by omega) (by omega)
  have mN := mul_small (a := A * A + B * B) (b := C * C + D * D) 977202 977202 (by omega) (by omega)
  have hN := hide (norms A B C D)
  have e1 : A * C - -B * -D = A * C - B * D := by rw [Int.neg_mul_neg]
  have e2 : A * -D + -B * C = -(A * D + B * C) := by rw [Int.mul_neg, Int.neg_mul]; omega
  generalize hX : A * C - B * D = X at *
  generalize hY : A * D + B * C = Y at *
  have iX : inB X := by unfold inB; omega
  have iY : inB Y := by unfold inB; omega
  have iY' : inB (-Y) := by unfold inB; omega
  have HX := hide hX
  have HY := hide hY
  have H1 := hide e1
  have H2 := hide e2
  clear hX hY e1 e2
  have sm := rot_small (q % 4).toNat (A, B) 699 (by simp; omega) (by simp; omega)
  have sn := rot_small (q % 4).toNat (C, D) 699 (by simp; omega) (by simp; omega)
  have hR := rot_add (q % 4).toNat (A, B) (C, D)
  have hR1 : (rot (q % 4).toNat (A + C, B + D)).1 = (rot (q % 4).toNat (A, B)).1 + (rot (q % 4).toNat (C, D)).1 := congrArg Prod.fst hR
  have hR2 : (rot (q % 4).toNat (A + C, B + D)).2 = (rot (q % 4).toNat (A, B)).2 + (rot (q % 4).toNat (C, D)).2 := congrArg Prod.snd hR
  clear hR
  have tq := fun (x y : Nat) (hx : FV x (A + C)) (hy : FV y (B + D)) (w : World) => turn_any x y (A + C) (B + D) q hx hy (by unfold inB; omega) (by unfold inB; omega) w
  rw [hR1, hR2] at tq
  clear hR1 hR2
  have TQ := hide tq
  clear tq
  have tA := fun (w : World) => turn_any _ _ A B q (fvi iA) (fvi iB) iA iB w
  have tC := fun (w : World) => turn_any _ _ C D q (fvi iC) (fvi iD) iC iD w
  generalize (rot (q % 4).toNat (A, B)).1 = P1 at *
  generalize (rot (q % 4).toNat (A, B)).2 = P2 at *
  generalize (rot (q % 4).toNat (C, D)).1 = Q1 at *
  generalize (rot (q % 4).toNat (C, D)).2 = Q2 at *
  have TA := hide tA
  have TC := hide tC
  clear tA tC
  have iP1 : inB P1 := by unfold inB; omega
  have iP2 : inB P2 := by unfold inB; omega
  have iQ1 : inB Q1 := by unfold inB; omega
  have iQ2 : inB Q2 := by unfold inB; omega
  have iPQ1 : inB (P1 + Q1) := by unfold inB; omega
  have iPQ2 : inB (P2 + Q2) := by unfold inB; omega
  have iAC : inB (A + C) := by unfold inB; omega
  have iBD : inB (B + D) := by unfold inB; omega
  have o1 := oself X iX
  have o2 := oself (-Y) iY'
  have o3 := oself (P1 + Q1) iPQ1
  have o4 := oself (P2 + Q2) iPQ2
  have o5 := oself P1 iP1
  have o6 := oself P2 iP2
  clear mAC mBD mAD mBC sm sn
  have hK : (X * X + Y * Y != (A * A + B * B) * (C * C + D * D)) = false := by
    rw [bne_eq_false_iff_eq]; exact hN.out
  have mXX := mul_bd iX iX
  have mYY := mul_bd iY iY
  go_enter Try.func5, Try.ntmps5
  go_wp2_with fail
  refine (head3_any w).mono ?_
  rintro e w' ⟨rfl, rfl⟩
  go_wp2_with fail
  refine (of_yes A B iA iB w).mono ?_
  rintro e w' ⟨rfl, rfl⟩
  go_wp2_with fail
  refine (of_yes C D iC iD w).mono ?_
  rintro e w' ⟨rfl, rfl⟩
  go_wp2_with fail
  refine (mul_in (fvi iA) (fvi iB) (fvi iC) (fvi iD) iA iB iC iD HX.out HY.out iX iY w).mono ?_
  rintro e w' ⟨rfl, rfl⟩
  go_wp2_with fail
  refine (add_in (fvi iA) (fvi iB) (fvi iC) (fvi iD) iA iB iC iD iAC iBD w).mono ?_
  rintro e w' ⟨rfl, rfl⟩
  go_wp2_with fail
  refine (norm_yes _ _ A B (fvi iA) (fvi iB) iA iB w).mono ?_
  rintro e w' ⟨rfl, rfl⟩
  go_wp2_with fail
  refine (norm_yes _ _ C D (fvi iC) (fvi iD) iC iD w).mono ?_
  rintro e w' ⟨rfl, rfl⟩
  go_wp2_with fail
  refine (norm_yes _ _ X Y (fvi iX) (fvi iY) iX iY w).mono ?_
  rintro e w' ⟨rfl, rfl⟩
  go_wp2_with fail
  refine (conj_in (fvi iA) (fvi iB) (lti B) iA iB w).mono ?_
  rintro e w' ⟨rfl, rfl⟩
  go_wp2_with fail
  refine (conj_in (fvi iC) (fvi iD) (lti D) iC iD w).mono ?_
  rintro e w' ⟨rfl, rfl⟩
  go_wp2_with fail
  refine (mul_in (fvi iA) (fvi iB') (fvi iC) (fvi iD') iA iB' iC iD' H1.out H2.out iX iY' w).mono ?_
  rintro e w' ⟨rfl, rfl⟩
  go_wp2_with fail
  refine (conj_in (fvi iX) (fvi iY) (lti Y) iX iY w).mono ?_
  rintro e w' ⟨rfl, rfl⟩
  go_wp2_with fail
  refine (TA.out w).mono ?_
  rintro e w' ⟨rfl, rfl⟩
  go_wp2_with fail
  refine (TC.out w).mono ?_
  rintro e w' ⟨rfl, rfl⟩
  go_wp2_with fail
  refine (TQ.out _ _ (fvi iAC) (fvi iBD) w).mono ?_
  rintro e w' ⟨rfl, rfl⟩
  go_wp2_with fail
  refine (add_in (fvi iP1) (fvi iP2) (fvi iQ1) (fvi iQ2) iP1 iP2 iQ1 iQ2 iPQ1 iPQ2 w).mono ?_
  rintro e w' ⟨rfl, rfl⟩
  have hs := sub_in (fvi iPQ1) (fvi iPQ2) (fvi iQ1) (fvi iQ2) iPQ1 iPQ2 iQ1 iQ2 (by rw [Int.add_sub_cancel]; exact iP1) (by rw [Int.add_sub_cancel]; exact iP2) w
  rw [Int.add_sub_cancel, Int.add_sub_cancel] at hs
  go_wp2_with fail
  refine hs.mono ?_
  rintro e w' ⟨rfl, rfl⟩
  clear hs
  go_wp2
  go_ret
  exact ⟨rfl, rfl⟩
end Go.Proofs.Ytogkgmbldmfpiaa
