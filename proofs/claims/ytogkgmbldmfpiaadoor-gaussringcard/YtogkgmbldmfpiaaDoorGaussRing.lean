/-
  GaussRing: the walk. Condition: the library's table of powers of ten is as its text lays it.
-/
import Derived.Test.YtogkgmbldmfpiaaDoorShow
namespace Go.Proofs.YtogkgmbldmfpiaaDoor
open Go.RowKit

theorem order_same (a c : Int) (ha : inB a) (hc : inB c) : (FloatKind.f64.format.order (floatOfInt .f64 a) (floatOfInt .f64 c) == some .eq) = decide (a = c) := by
  rw [fv_order (fvi ha) (fvi hc)]
  by_cases h : a = c
  · subst h; rw [cmp_eq, decide_eq_true rfl]; rfl
  · rw [cmp_ne h, decide_eq_false h]

theorem ring_end (a b c d : Int) : ((showL a b == showL c d) == (decide (a = c) && decide (b = d))) = true := by
  by_cases h : a = c ∧ b = d
  · obtain ⟨rfl, rfl⟩ := h
    simp
  · have h1 : (showL a b == showL c d) = false := by
      rw [beq_eq_false_iff_ne]
      exact fun e => h (showL_inj e)
    have h2 : (decide (a = c) && decide (b = d)) = false := by
      rw [← Bool.decide_and, decide_eq_false h]
    rw [h1, h2]
    rfl

set_option maxRecDepth 100000 in
set_option maxHeartbeats 3200000 in
theorem ring_walk (a b c d e f : Int) (w : World) (ht : Tab w) : Calls Tryd.prog 5 #[.int .i64 a, .int .i64 b, .int .i64 c, .int .i64 d, .int .i64 e, .int .i64 f] w fun e w' => e = .returned (.bool true) ∧ Below w.heap.size w w' := by
  have ba := tmod_bd a 400 (by omega)
  have bb := tmod_bd b 400 (by omega)
  have bc := tmod_bd c 400 (by omega)
  have bd := tmod_bd d 400 (by omega)
  have be := tmod_bd e 400 (by omega)
  have bf := tmod_bd f 400 (by omega)
  generalize ha : a.tmod (400 : Nat) = A at *
  generalize hb : b.tmod (400 : Nat) = B at *
  generalize hc : c.tmod (400 : Nat) = C at *
  generalize hd : d.tmod (400 : Nat) = D at *
  generalize he : e.tmod (400 : Nat) = E at *
  generalize hf : f.tmod (400 : Nat) = F at *
  have ha : a.tmod 400 = A := ha
  have hb : b.tmod 400 = B := hb
  have hc : c.tmod 400 = C := hc
  have hd : d.tmod 400 = D := hd
  have he : e.tmod 400 = E := he
  have hf : f.tmod 400 = F := hf
  have iA : inB A := by unfold inB; omega
  have iB : inB B := by unfold inB; omega
  have iC : inB C := by unfold inB; omega
  have iD : inB D := by unfold inB; omega
  have iE : inB E := by unfold inB; omega
  have iF : inB F := by unfold inB; omega
  have iAC : inB (A + C) := by unfold inB; omega
  have iBD : inB (B + D) := by unfold inB; omega
  have m1 := mul_small (a := A) (b := E) 399 399 (by omega) (by omega)
  have m2 := mul_small (a := B) (b := F) 399 399 (by omega) (by omega)
  have m3 := mul_small (a := A) (b := F) 399 399 (by omega) (by omega)
  have m4 := mul_small (a := B) (b := E) 399 399 (by omega) (by omega)
  have m5 := mul_small (a := C) (b := E) 399 399 (by omega) (by omega)
  have m6 := mul_small (a := D) (b := F) 399 399 (by omega) (by omega)
  have m7 := mul_small (a := C) (b := F) 399 399 (by omega) (by omega)
  have m8 := mul_small (a := D) (b := E) 399 399 (by omega) (by omega)
  have x1 : (A + C) * E - (B + D) * F = (A * E - B * F) + (C * E - D * F) := by rw [Int.add_mul, Int.add_mul]; omega
  have x2 : (A + C) * F + (B + D) * E = (A * F + B * E) + (C * F + D * E) := by rw [Int.add_mul, Int.add_mul]; omega
  have x3 : E * A - F * B = A * E - B * F := by rw [Int.mul_comm E A, Int.mul_comm F B]
  have x4 : E * B + F * A = A * F + B * E := by rw [Int.mul_comm E B, Int.mul_comm F A]; omega
  generalize hX : A * E - B * F = X at *
  generalize hY : A * F + B * E = Y at *
  generalize hU : C * E - D * F = U at *
  generalize hV : C * F + D * E = V at *
  have iX : inB X := by unfold inB; omega
  have iY : inB Y := by unfold inB; omega
  have iU : inB U := by unfold inB; omega
  have iV : inB V := by unfold inB; omega
  have iXU : inB (X + U) := by unfold inB; omega
  have iYV : inB (Y + V) := by unfold inB; omega
  have HX := hide hX
  have HY := hide hY
  have HU := hide hU
  have HV := hide hV
  have H1 := hide x1
  have H2 := hide x2
  have H3 := hide x3
  have H4 := hide x4
  clear hX hY hU hV x1 x2 x3 x4 m1 m2 m3 m4 m5 m6 m7 m8
  have o1 := oself (X + U) iXU
  have o2 := oself (Y + V) iYV
  have o3 := oself X iX
  have o4 := oself Y iY
  go_enter Tryd.func5, Tryd.ntmps5
  go_wp2_with fail
  refine (head3_any w).mono ?_
  rintro e w' ⟨rfl, rfl⟩
  go_wp2_with fail
  refine (of_yes A B iA iB w).mono ?_
  rintro e w' ⟨rfl, rfl⟩
  go_wp2_with fail
  refine (of_yes C D iC iD w).mono ?_
  rintro e w' ⟨rfl, rfl⟩
  go_wp2_with fail
  refine (of_yes E F iE iF w).mono ?_
  rintro e w' ⟨rfl, rfl⟩
  go_wp2_with fail
  refine (add_in (fvi iA) (fvi iB) (fvi iC) (fvi iD) iA iB iC iD iAC iBD w).mono ?_
  rintro e w' ⟨rfl, rfl⟩
  go_wp2_with fail
  refine (mul_in (fvi iAC) (fvi iBD) (fvi iE) (fvi iF) iAC iBD iE iF H1.out H2.out iXU iYV w).mono ?_
  rintro e w' ⟨rfl, rfl⟩
  go_wp2_with fail
  refine (mul_in (fvi iA) (fvi iB) (fvi iE) (fvi iF) iA iB iE iF HX.out HY.out iX iY w).mono ?_
  rintro e w' ⟨rfl, rfl⟩
  go_wp2_with fail
  refine (mul_in (fvi iC) (fvi iD) (fvi iE) (fvi iF) iC iD iE iF HU.out HV.out iU iV w).mono ?_
  rintro e w' ⟨rfl, rfl⟩
  go_wp2_with fail
  refine (add_in (fvi iX) (fvi iY) (fvi iU) (fvi iV) iX iY iU iV iXU iYV w).mono ?_
  rintro e w' ⟨rfl, rfl⟩
  go_wp2_with fail
  refine (mul_in (fvi iE) (fvi iF) (fvi iA) (fvi iB) iE iF iA iB H3.out H4.out iX iY w).mono ?_
  rintro e w' ⟨rfl, rfl⟩
  go_wp2_with fail
  refine (show_yes _ _ A B (fvi iA) (fvi iB) iA iB w ht).mono ?_
  rintro e w1 ⟨rfl, hb1⟩
  go_wp2_with fail
  refine (show_yes _ _ C D (fvi iC) (fvi iD) iC iD w1 (ht.below hb1)).mono ?_
  rintro e w2 ⟨rfl, hb2⟩
  have hbel := hb1.trans (hb2.mono hb1.size)
  have p1 := order_same A C iA iC
  have p2 := order_same B D iB iD
  clear hb1 hb2 HX HY HU HV H1 H2 H3 H4
  go_wp2
  go_ret
  exact ⟨congrArg (fun x => Ending.returned (.bool x)) (ring_end A B C D), hbel⟩
end Go.Proofs.YtogkgmbldmfpiaaDoor
