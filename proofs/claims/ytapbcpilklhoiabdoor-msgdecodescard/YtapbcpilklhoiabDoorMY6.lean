/-
  The calls of package gauss that reckon: what they give for whole numbers, and that whatever else comes in is refused. No condition.
  Check of package app, in the words of the Value laws. No condition.
  Check, Encode, Decode of a Stop. Conditions: the members are a right set, in reach.
  CheckCmd and Check of package value, whatever is looked at. Conditions: what is read is in reach.
  Encode of package value, whatever the value. Conditions: what is read is in reach.
-/
import Derived.Test.YtapbcpilklhoiabDoorProg
import Derived.Test.YtapbcpilklhoiabDoorMY5
import Derived.WalkKit
import Derived.Handy
import Derived.WalkLawsBesides
import Derived.Test.YtapbcpilklhoiabDoorMY0
import Derived.Deep.MidRow
import Derived.Deep.RegionHeld3
import Derived.Deep.QuietTactic
import Derived.BigQuiet
import Derived.ChangeKeysEq
import Derived.Laws.StructEq
import Derived.Test.YtapbcpilklhoiabDoorMY3
set_option linter.unusedSimpArgs false
set_option linter.unusedVariables false

namespace Go.Proofs.YtapbcpilklhoiabDoor
open Go.RowKit

/-- Within the bounds. -/
def inB (n : Int) : Prop := -1048576 ≤ n ∧ n ≤ 1048576
instance (n : Int) : Decidable (inB n) := inferInstanceAs (Decidable (_ ∧ _))

theorem within_yes (n : Int) (h : inB n) (w : World) : Calls Tryd.prog 104 #[.int .i64 n] w fun e w' => e = .returned (.bool true) ∧ w = w' := by
  obtain ⟨h1, h2⟩ := h
  go_enter Tryd.func104, Tryd.ntmps104
  go_wp2
  go_ret
  exact ⟨rfl, rfl⟩

theorem within_no (n : Int) (h : ¬ inB n) (w : World) : Calls Tryd.prog 104 #[.int .i64 n] w fun e w' => e = .returned (.bool false) ∧ w = w' := by
  unfold inB at h
  by_cases h1 : -1048576 ≤ n
  · have h2 : ¬ n ≤ 1048576 := by omega
    clear h
    go_enter Tryd.func104, Tryd.ntmps104
    go_wp2
    go_ret
    exact ⟨rfl, rfl⟩
  · clear h
    go_enter Tryd.func104, Tryd.ntmps104
    go_wp2
    go_ret
    exact ⟨rfl, rfl⟩

theorem fv_low : FV 13920626448202203136 (-1048576) := by
  have := fv_int (-1048576) (by decide)
  rwa [show floatOfInt .f64 (-1048576) = 13920626448202203136 from by decide +kernel] at this
theorem fv_high : FV 4697254411347427328 1048576 := by
  have := fv_int 1048576 (by decide)
  rwa [show floatOfInt .f64 1048576 = 4697254411347427328 from by decide +kernel] at this

theorem cmp_le {a b : Int} (h : a ≤ b) : (some (compare a b) == some Ordering.lt || some (compare a b) == some Ordering.eq) = true := by
  rcases Int.lt_or_eq_of_le h with h | h
  · rw [Int.compare_eq_lt.2 h]; rfl
  · rw [Int.compare_eq_eq.2 h]; rfl
theorem cmp_not_le {a b : Int} (h : b < a) : (some (compare a b) == some Ordering.lt || some (compare a b) == some Ordering.eq) = false := by
  rw [Int.compare_eq_gt.2 h]; rfl
theorem cmp_ne {a b : Int} (h : a ≠ b) : (some (compare a b) == some Ordering.eq) = false := by
  rcases Int.lt_trichotomy a b with h' | h' | h'
  · rw [Int.compare_eq_lt.2 h']; rfl
  · exact absurd h' h
  · rw [Int.compare_eq_gt.2 h']; rfl
theorem cmp_eq (a : Int) : compare a a = Ordering.eq := Int.compare_eq_eq.2 rfl

/-- No whole number within the bounds. -/
def NotW (x : Nat) : Prop := ∀ n, FV x n → ¬ inB n

theorem not_w_or {x y : Nat} (h : ¬ ∃ a b, FV x a ∧ FV y b ∧ inB a ∧ inB b) : NotW x ∨ NotW y := by
  by_cases hx : ∃ a, FV x a ∧ inB a
  · refine .inr fun b hb hi => h ?_
    obtain ⟨a, ha, hai⟩ := hx
    exact ⟨a, b, ha, hb, hai, hi⟩
  · exact .inl fun a ha hi => hx ⟨a, ha, hi⟩

theorem of_yes (a b : Int) (ha : inB a) (hb : inB b) (w : World) :
    Calls Tryd.prog 103 #[.int .i64 a, .int .i64 b] w fun e w' => e = .returned (.tuple #[.complex .f64 (floatOfInt .f64 a) (floatOfInt .f64 b), .bool true]) ∧ w = w' := by
  go_enter Tryd.func103, Tryd.ntmps103
  go_wp2_with fail
  refine (within_yes a ha w).mono ?_
  rintro e w' ⟨rfl, rfl⟩
  go_wp2_with fail
  refine (within_yes b hb w).mono ?_
  rintro e w' ⟨rfl, rfl⟩
  go_wp2
  go_ret2
  exact ⟨rfl, rfl⟩

theorem of_no (a b : Int) (h : ¬ (inB a ∧ inB b)) (w : World) :
    Calls Tryd.prog 103 #[.int .i64 a, .int .i64 b] w fun e w' => e = .returned (.tuple #[.complex .f64 0 0, .bool false]) ∧ w = w' := by
  by_cases ha : inB a
  · have hb : ¬ inB b := fun hb => h ⟨ha, hb⟩
    clear h
    go_enter Tryd.func103, Tryd.ntmps103
    go_wp2_with fail
    refine (within_yes a ha w).mono ?_
    rintro e w' ⟨rfl, rfl⟩
    go_wp2_with fail
    refine (within_no b hb w).mono ?_
    rintro e w' ⟨rfl, rfl⟩
    go_wp2
    go_ret2
    exact ⟨rfl, rfl⟩
  · clear h
    go_enter Tryd.func103, Tryd.ntmps103
    go_wp2_with fail
    refine (within_no a ha w).mono ?_
    rintro e w' ⟨rfl, rfl⟩
    go_wp2
    go_ret2
    exact ⟨rfl, rfl⟩

/-- What is answered where the parts would be a and b: the bits of each part, and whether it is right. -/
def rx (a b : Int) : Nat := if inB a ∧ inB b then floatOfInt .f64 a else 0
def ry (a b : Int) : Nat := if inB a ∧ inB b then floatOfInt .f64 b else 0
def rb (a b : Int) : Bool := decide (inB a ∧ inB b)

theorem rx_yes {a b : Int} (ha : inB a) (hb : inB b) : rx a b = floatOfInt .f64 a := if_pos ⟨ha, hb⟩
theorem ry_yes {a b : Int} (ha : inB a) (hb : inB b) : ry a b = floatOfInt .f64 b := if_pos ⟨ha, hb⟩
theorem rb_yes {a b : Int} (ha : inB a) (hb : inB b) : rb a b = true := by unfold rb; simp [ha, hb]
theorem rx_no {a b : Int} (h : ¬ (inB a ∧ inB b)) : rx a b = 0 := if_neg h
theorem ry_no {a b : Int} (h : ¬ (inB a ∧ inB b)) : ry a b = 0 := if_neg h
theorem rb_no {a b : Int} (h : ¬ (inB a ∧ inB b)) : rb a b = false := by unfold rb; simp [h]

theorem of_any (a b : Int) (w : World) :
    Calls Tryd.prog 103 #[.int .i64 a, .int .i64 b] w fun e w' => e = .returned (.tuple #[.complex .f64 (rx a b) (ry a b), .bool (rb a b)]) ∧ w = w' := by
  by_cases h : inB a ∧ inB b
  · rw [rx_yes h.1 h.2, ry_yes h.1 h.2, rb_yes h.1 h.2]
    exact of_yes a b h.1 h.2 w
  · rw [rx_no h, ry_no h, rb_no h]
    exact of_no a b h w

theorem csum {x y u v : Nat} {a b c d : Int} (hx : FV x a) (hy : FV y b) (hu : FV u c) (hv : FV v d) (ha : inB a) (hb : inB b) (hc : inB c) (hd : inB d) :
    (∃ r i, cSumBits .add .f64 x y u v = some (r, i) ∧ FV r (a + c) ∧ FV i (b + d)) ∧ (∃ r i, cSumBits .sub .f64 x y u v = some (r, i) ∧ FV r (a - c) ∧ FV i (b - d)) := by
  unfold inB at *
  refine ⟨?_, ?_⟩
  · obtain ⟨r, hr, hr'⟩ := fv_add hx hu (by omega)
    obtain ⟨i, hi, hi'⟩ := fv_add hy hv (by omega)
    exact ⟨r, i, by simp [cSumBits, hr, hi], hr', hi'⟩
  · obtain ⟨r, hr, hr'⟩ := fv_sub hx hu (by omega)
    obtain ⟨i, hi, hi'⟩ := fv_sub hy hv (by omega)
    exact ⟨r, i, by simp [cSumBits, hr, hi], hr', hi'⟩

theorem mul_bd {a c : Int} (ha : inB a) (hc : inB c) : -1099511627776 ≤ a * c ∧ a * c ≤ 1099511627776 := by
  have h1 : (a * c).natAbs ≤ 1048576 * 1048576 := by
    rw [Int.natAbs_mul]
    unfold inB at *
    exact Nat.mul_le_mul (by omega) (by omega)
  omega

theorem cmul {x y u v : Nat} {a b c d : Int} (hx : FV x a) (hy : FV y b) (hu : FV u c) (hv : FV v d) (ha : inB a) (hb : inB b) (hc : inB c) (hd : inB d) :
    ∃ r i, cMulBits x y u v = some (r, i) ∧ FV r (a * c - b * d) ∧ FV i (a * d + b * c) := by
  have b1 := mul_bd ha hc
  have b2 := mul_bd hb hd
  have b3 := mul_bd ha hd
  have b4 := mul_bd hb hc
  obtain ⟨p1, h1, f1⟩ := fv_mul hx hu (by omega)
  obtain ⟨p2, h2, f2⟩ := fv_mul hy hv (by omega)
  obtain ⟨p3, h3, f3⟩ := fv_mul hx hv (by omega)
  obtain ⟨p4, h4, f4⟩ := fv_mul hy hu (by omega)
  obtain ⟨r, h5, f5⟩ := fv_sub f1 f2 (by omega)
  obtain ⟨i, h6, f6⟩ := fv_add f3 f4 (by omega)
  exact ⟨r, i, by simp [cMulBits, h1, h2, h3, h4, h5, h6], f5, f6⟩

end Go.Proofs.YtapbcpilklhoiabDoor

namespace Go.Proofs.YtapbcpilklhoiabDoor
open Go.RowKit

theorem fields_reg : (Tryd.prog.fieldsOf 69).toList.map (fun f => (f.type, f.offset, f.name == "_")) = [(3, 0, false), (3, 1, false)] := by kernel_rfl

theorem equal_regs (d : Nat) (a b c e : Int) (w : World) : (Op.equalIn (d + 2) 69 (.agg #[.int .i64 a, .int .i64 b]) (.agg #[.int .i64 c, .int .i64 e])).run Tryd.prog w = .ok (decide ([a, b] = [c, e])) w := by
  rw [show d + 2 = (d + 1) + 1 from rfl, run_equalIn_struct w (d + 1) 69 _ _ (by kernel_rfl) (by kernel_rfl)]
  have hf := fields_reg
  generalize (Tryd.prog.fieldsOf 69).toList = fs at hf
  refine eqFields_ints d _ _ w fs _ _ (by have := congrArg List.length hf; simpa using this) (by have := congrArg List.length hf; simpa using this) ?_
  match fs, (show fs.length = 2 by have := congrArg List.length hf; simpa using this), hf with
  | [f0, f1], _, hf =>
    simp only [List.map_cons, List.map_nil, List.cons.injEq, Prod.mk.injEq, and_true] at hf
    obtain ⟨⟨t0, o0, n0⟩, t1, o1, n1⟩ := hf
    intro i f x y e1 e2 e3
    match i with
    | 0 => simp at e1 e2 e3; subst e1 e2 e3; exact ⟨t0, n0, by simp [o0], by simp [o0]⟩
    | 1 => simp at e1 e2 e3; subst e1 e2 e3; exact ⟨t1, n1, by simp [o1], by simp [o1]⟩
    | i + 2 => simp at e1

theorem operand_any (k r t re im : Int) (w : World) : Calls Tryd.prog 102 #[.agg #[.int .i64 k, .int .i64 r, .int .i64 t, .int .i64 re, .int .i64 im]] w fun e w' => e = .returned (.agg #[.int .i64 re, .int .i64 im]) ∧ Below w.heap.size w w' := by
  go_enter Tryd.func102, Tryd.ntmps102
  go_wp2
  go_returns
  exact ⟨rfl, by go_grown⟩

/-- How many values To may have. -/
def tos (k : Int) : Int := if k = 1 ∨ k = 2 ∨ k = 3 ∨ k = 4 then 1 else if k = 5 then 4 else if k = 6 ∨ k = 7 then 8 else 0

/-- Whether Re and Im are a number. -/
def numB (k : Int) : Bool := k == 2 || k == 3 || k == 4 || k == 7

theorem uses_any (k : Int) (w : World) : Calls Tryd.prog 101 #[.int .i64 k] w fun e w' => e = .returned (.tuple #[.int .i64 (tos k), .bool (numB k)]) ∧ w = w' := by
  by_cases h1 : k = 1
  · subst h1
    go_enter Tryd.func101, Tryd.ntmps101
    go_wp2
    go_ret2
    exact ⟨rfl, rfl⟩
  by_cases h2 : k = 2
  · subst h2
    go_enter Tryd.func101, Tryd.ntmps101
    go_wp2
    go_ret2
    exact ⟨rfl, rfl⟩
  by_cases h3 : k = 3
  · subst h3
    go_enter Tryd.func101, Tryd.ntmps101
    go_wp2
    go_ret2
    exact ⟨rfl, rfl⟩
  by_cases h4 : k = 4
  · subst h4
    go_enter Tryd.func101, Tryd.ntmps101
    go_wp2
    go_ret2
    exact ⟨rfl, rfl⟩
  by_cases h5 : k = 5
  · subst h5
    go_enter Tryd.func101, Tryd.ntmps101
    go_wp2
    go_ret2
    exact ⟨rfl, rfl⟩
  by_cases h6 : k = 6
  · subst h6
    go_enter Tryd.func101, Tryd.ntmps101
    go_wp2
    go_ret2
    exact ⟨rfl, rfl⟩
  by_cases h7 : k = 7
  · subst h7
    go_enter Tryd.func101, Tryd.ntmps101
    go_wp2
    go_ret2
    exact ⟨rfl, rfl⟩
  · have e1 : tos k = 0 := by unfold tos; rw [if_neg (by omega), if_neg (by omega), if_neg (by omega)]
    have e2 : numB k = false := by simp [numB, h2, h3, h4, h7]
    rw [e1, e2]
    clear e1 e2
    go_enter Tryd.func101, Tryd.ntmps101
    go_wp2
    go_ret2
    exact ⟨rfl, rfl⟩

/-- A right operation. -/
def rightOp (k r t re im : Int) : Prop := 0 ≤ r ∧ r < 8 ∧ 0 ≤ t ∧ t < tos k ∧ (numB k = true ∨ re = 0 ∧ im = 0) ∧ inB re ∧ inB im

instance (k r t re im : Int) : Decidable (rightOp k r t re im) := by unfold rightOp; infer_instance
def chk (k r t re im : Int) : Int := if rightOp k r t re im then 0 else 22

theorem op_cells {w w1 : World} {a b c d e : Value} {t : TypeId} (hb : Below (w.alloc (.cells #[a, b, c, d, e] t)).heap.size (w.alloc (.cells #[a, b, c, d, e] t)) w1) :
    w1.cell? ⟨w.heap.size, 0, none⟩ = some a ∧ w1.cell? ⟨w.heap.size, 1, none⟩ = some b ∧ w1.cell? ⟨w.heap.size, 2, none⟩ = some c ∧ w1.cell? ⟨w.heap.size, 3, none⟩ = some d ∧ w1.cell? ⟨w.heap.size, 4, none⟩ = some e := by
  have key : ∀ i, w1.cell? ⟨w.heap.size, i, none⟩ = (#[a, b, c, d, e] : Array Value)[i]? := by
    intro i
    rw [hb.cell (p := ⟨w.heap.size, i, none⟩) (by simp)]
    exact cell_of_row _ _ _ _ _ _ (heap_alloc_new w _)
  refine ⟨key 0, key 1, key 2, key 3, key 4⟩

set_option maxHeartbeats 800000 in
theorem check_any (k r t re im : Int) (w : World) : Calls Tryd.prog 100 #[.agg #[.int .i64 k, .int .i64 r, .int .i64 t, .int .i64 re, .int .i64 im]] w fun e w' => e = .returned (.int .i64 (chk k r t re im)) ∧ Below w.heap.size w w' := by
  by_cases hc : 0 ≤ r ∧ r < 8 ∧ 0 ≤ t ∧ t < tos k
  · obtain ⟨h1, h2, h3, h4⟩ := hc
    have k1 : ¬ r < 0 := by omega
    have k2 : ¬ 8 ≤ r := by omega
    have k3 : ¬ t < 0 := by omega
    have k4 : ¬ tos k ≤ t := by omega
    go_enter Tryd.func100, Tryd.ntmps100
    go_wp2_with fail
    refine (uses_any k _).mono ?_
    rintro e w' ⟨rfl, rfl⟩
    rcases hn : numB k with _ | _
    · go_wp2_with fail
      refine (operand_any k r t re im _).mono ?_
      rintro e w1 ⟨rfl, hb⟩
      obtain ⟨c0, c1, c2, c3, c4⟩ := op_cells hb
      have kn := fun w => equal_regs 9998 re im 0 0 w
      by_cases hz : re = 0 ∧ im = 0
      · obtain ⟨rfl, rfl⟩ := hz
        have e : chk k r t 0 0 = 0 := if_pos ⟨h1, h2, h3, h4, .inr ⟨rfl, rfl⟩, by unfold inB; omega, by unfold inB; omega⟩
        have HE := hide e
        have hb' := below_of_alloc hb
        clear e hb
        go_wp2_with fail
        refine (of_yes 0 0 (by unfold inB; omega) (by unfold inB; omega) _).mono ?_
        rintro e w' ⟨rfl, rfl⟩
        go_wp2
        go_ret
        exact ⟨by rw [HE.out]; rfl, hb'⟩
      · have e : chk k r t re im = 22 := if_neg fun h => by
          rcases h.2.2.2.2.1 with h' | h'
          · rw [hn] at h'; cases h'
          · exact hz h'
        have HE := hide e
        have hb' := below_of_alloc hb
        have hz' : decide ([re, im] = [0, 0]) = false := decide_eq_false (by simpa using hz)
        rw [hz'] at kn
        clear e hb hz
        go_wp2
        go_ret
        exact ⟨by rw [HE.out]; rfl, hb'⟩
    · by_cases hin : inB re ∧ inB im
      · have e : chk k r t re im = 0 := if_pos ⟨h1, h2, h3, h4, .inl hn, hin.1, hin.2⟩
        have HE := hide e
        clear e
        go_wp2_with fail
        refine (of_yes re im hin.1 hin.2 _).mono ?_
        rintro e w' ⟨rfl, rfl⟩
        go_wp2
        go_ret
        exact ⟨by rw [HE.out]; rfl, by go_grown⟩
      · have e : chk k r t re im = 22 := if_neg fun h => hin h.2.2.2.2.2
        have HE := hide e
        clear e
        go_wp2_with fail
        refine (of_no re im hin _).mono ?_
        rintro e w' ⟨rfl, rfl⟩
        go_wp2
        go_ret
        exact ⟨by rw [HE.out]; rfl, by go_grown⟩
  · have e : chk k r t re im = 22 := if_neg fun h => hc ⟨h.1, h.2.1, h.2.2.1, h.2.2.2.1⟩
    rw [e]
    have hd : r < 0 ∨ 8 ≤ r ∨ t < 0 ∨ tos k ≤ t := by omega
    clear hc e
    go_enter Tryd.func100, Tryd.ntmps100
    go_wp2_with fail
    refine (uses_any k _).mono ?_
    rintro e w' ⟨rfl, rfl⟩
    rcases hd with h | h | h | h
    all_goals
      go_wp2
      all_goals first
        | (go_ret; exact ⟨rfl, by go_grown⟩)
        | skip
end Go.Proofs.YtapbcpilklhoiabDoor

namespace Go.Proofs.YtapbcpilklhoiabDoor
open Go.RowKit

theorem shaped_stop (A A' : Option Addr) (c n' c' : Nat) (w : World) : Calls Tryd.prog 89 #[.agg #[.int .i64 2, .slice A 0 c, .slice A' n' c']] w fun e w' => e = .returned (.bool true) ∧ Below w.heap.size w w' := by
  go_enter Tryd.func89, Tryd.ntmps89
  go_wp2
  go_ret
  exact ⟨rfl, by go_grown⟩

theorem val_box {w w1 : World} {a b c : Value} {t : TypeId} (hb : Below (w.alloc (.cells #[a, b, c] t)).heap.size (w.alloc (.cells #[a, b, c] t)) w1) :
    w1.cell? ⟨w.heap.size, 0, none⟩ = some a ∧ w1.cell? ⟨w.heap.size, 1, none⟩ = some b ∧ w1.cell? ⟨w.heap.size, 2, none⟩ = some c ∧ w.heap.size < w1.heap.size := by
  have hz : w.heap.size < (w.alloc (.cells #[a, b, c] t)).heap.size := by simp
  refine ⟨(hb.cell (p := ⟨w.heap.size, 0, none⟩) hz).trans (cell_of_row _ _ _ _ _ _ (heap_alloc_new w _)), (hb.cell (p := ⟨w.heap.size, 1, none⟩) hz).trans (cell_of_row _ _ _ _ _ _ (heap_alloc_new w _)), (hb.cell (p := ⟨w.heap.size, 2, none⟩) hz).trans (cell_of_row _ _ _ _ _ _ (heap_alloc_new w _)), Nat.lt_of_lt_of_le hz hb.size⟩
theorem below_of_alloc' {w w1 : World} {o : Obj} (h : Below (w.alloc o).heap.size (w.alloc o) w1) : Below w.heap.size w w1 :=
  ((Below.refl _ _).alloc (Nat.le_refl _) o).trans (h.mono (by simp))

theorem vcheck_stop (A A' : Option Addr) (c n' c' B : Nat) (ns : List Int) (w : World) (hN : HasI w B A' ns) (hB : B ≤ w.heap.size) (hn : ns.length = n') (hl : n' ≤ 140737488355328) :
    Calls Tryd.prog 57 #[.agg #[.int .i64 2, .slice A 0 c, .slice A' n' c']] w fun e w' => e = .returned (.int .i64 (chkS ns)) ∧ Below w.heap.size w w' := by
  go_enter Tryd.func57, Tryd.ntmps57
  go_wp2_with fail
  refine (shaped_stop A A' c n' c' _).mono ?_
  rintro e w1 ⟨rfl, hb1⟩
  obtain ⟨c0, c1, c2, hz⟩ := val_box hb1
  have hN1 : HasI w1 B A' ns := (hN.alloc hB _).on (by simp; omega) hb1
  go_wp2_with fail
  refine (bcheck_any A' n' c' B ns w1 hN1 hn hl).mono ?_
  rintro e w2 ⟨rfl, rfl⟩
  go_wp2
  go_ret
  exact ⟨rfl, below_of_alloc' hb1⟩

/-- The bytes of the head. -/
def hb9 : List UInt8 := [1, 2, 0, 1, 2, 1, 1, 1, 2]
theorem encV_head : encV 2 [] [1, 2] = hb9 := by decide
theorem rd_head : rc 2 (hb9, 0) = (2, ([0, 1, 2, 1, 1, 1, 2], 0)) ∧ rc 8 ([0, 1, 2, 1, 1, 1, 2], 0) = (0, ([1, 2, 1, 1, 1, 2], 0)) ∧ rc 7 ([1, 2, 1, 1, 1, 2], 0) = (2, ([1, 1, 1, 2], 0)) ∧ rdN 2 ([1, 1, 1, 2], 0) = ([1, 2], ([], 0)) := by decide

end Go.Proofs.YtapbcpilklhoiabDoor

namespace Go.Proofs.YtapbcpilklhoiabDoor
open Go.RowKit

def insB (n lo hi : Int) : Bool := decide (lo ≤ n ∧ n ≤ hi)
theorem vinside_any (n lo hi : Int) (w : World) : Calls Tryd.prog 99 #[.int .i64 n, .int .i64 lo, .int .i64 hi] w fun e w' => e = .returned (.bool (insB n lo hi)) ∧ w' = w := by
  by_cases h1 : lo ≤ n
  · by_cases h2 : n ≤ hi
    · have e : insB n lo hi = true := decide_eq_true ⟨h1, h2⟩
      rw [e]
      clear e
      go_enter Tryd.func99, Tryd.ntmps99
      go_wp2
      go_ret
      exact ⟨rfl, rfl⟩
    · have e : insB n lo hi = false := decide_eq_false (fun h => h2 h.2)
      rw [e]
      clear e
      go_enter Tryd.func99, Tryd.ntmps99
      go_wp2
      go_ret
      exact ⟨rfl, rfl⟩
  · have e : insB n lo hi = false := decide_eq_false (fun h => h1 h.1)
    rw [e]
    clear e
    go_enter Tryd.func99, Tryd.ntmps99
    go_wp2
    go_ret
    exact ⟨rfl, rfl⟩

/-- What CheckCmd gives. -/
def cmdP (c : Cmdv) : Prop := insB c.s 1 1073741824 = true ∧ insB c.q 1 1099511627776 = true ∧ insB c.a 0 (c.q - 1) = true
instance (c : Cmdv) : Decidable (cmdP c) := inferInstanceAs (Decidable (_ ∧ _))
def chkC (c : Cmdv) : Int := if cmdP c then chk c.k c.r c.t c.re c.im else 23

set_option maxHeartbeats 800000 in
theorem checkcmd_any (c : Cmdv) (w : World) : Calls Tryd.prog 91 #[c.val] w fun e w' => e = .returned (.int .i64 (chkC c)) ∧ Below w.heap.size w w' := by
  unfold Cmdv.val
  by_cases hp : cmdP c
  · have e : chkC c = chk c.k c.r c.t c.re c.im := if_pos hp
    have HE := hide e
    clear e
    obtain ⟨h1, h2, h3⟩ := hp
    have hq : 1 ≤ c.q ∧ c.q ≤ 1099511627776 := of_decide_eq_true h2
    obtain ⟨hq1, hq2⟩ := hq
    have H1 := hide h1
    have H2 := hide h2
    have H3 := hide h3
    clear h1 h2 h3
    go_enter Tryd.func91, Tryd.ntmps91
    go_wp2_with fail
    refine (vinside_any c.s 1 1073741824 _).mono ?_
    rintro e w' ⟨rfl, rfl⟩
    rw [H1.out]
    go_wp2_with fail
    refine (vinside_any c.q 1 1099511627776 _).mono ?_
    rintro e w' ⟨rfl, rfl⟩
    rw [H2.out]
    go_wp2_with fail
    refine (vinside_any c.a 0 (c.q - 1) _).mono ?_
    rintro e w' ⟨rfl, rfl⟩
    rw [H3.out]
    go_wp2_with fail
    refine (check_any c.k c.r c.t c.re c.im _).mono ?_
    rintro e w2 ⟨rfl, hb⟩
    go_wp2
    go_ret
    exact ⟨by rw [HE.out]; rfl, below_of_alloc hb⟩
  · have e : chkC c = 23 := if_neg hp
    rw [e]
    clear e
    by_cases h1 : insB c.s 1 1073741824 = true
    · by_cases h2 : insB c.q 1 1099511627776 = true
      · have h3 : insB c.a 0 (c.q - 1) = false := by
          rw [← Bool.not_eq_true]
          exact fun h => hp ⟨h1, h2, h⟩
        have hq : 1 ≤ c.q ∧ c.q ≤ 1099511627776 := of_decide_eq_true h2
        obtain ⟨hq1, hq2⟩ := hq
        have H1 := hide h1
        have H2 := hide h2
        have H3 := hide h3
        clear h1 h2 h3 hp
        go_enter Tryd.func91, Tryd.ntmps91
        go_wp2_with fail
        refine (vinside_any c.s 1 1073741824 _).mono ?_
        rintro e w' ⟨rfl, rfl⟩
        rw [H1.out]
        go_wp2_with fail
        refine (vinside_any c.q 1 1099511627776 _).mono ?_
        rintro e w' ⟨rfl, rfl⟩
        rw [H2.out]
        go_wp2_with fail
        refine (vinside_any c.a 0 (c.q - 1) _).mono ?_
        rintro e w' ⟨rfl, rfl⟩
        rw [H3.out]
        go_wp2
        go_ret
        exact ⟨rfl, by go_grown⟩
      · have H1 := hide h1
        have H2 := hide (Bool.eq_false_iff.2 h2)
        clear h1 h2 hp
        go_enter Tryd.func91, Tryd.ntmps91
        go_wp2_with fail
        refine (vinside_any c.s 1 1073741824 _).mono ?_
        rintro e w' ⟨rfl, rfl⟩
        rw [H1.out]
        go_wp2_with fail
        refine (vinside_any c.q 1 1099511627776 _).mono ?_
        rintro e w' ⟨rfl, rfl⟩
        rw [H2.out]
        go_wp2
        go_ret
        exact ⟨rfl, by go_grown⟩
    · have H1 := hide (Bool.eq_false_iff.2 h1)
      clear h1 hp
      go_enter Tryd.func91, Tryd.ntmps91
      go_wp2_with fail
      refine (vinside_any c.s 1 1073741824 _).mono ?_
      rintro e w' ⟨rfl, rfl⟩
      rw [H1.out]
      go_wp2
      go_ret
      exact ⟨rfl, by go_grown⟩

/-- The shape of a value. -/
def shP (k : Int) (n m : Nat) : Prop := k = 0 ∧ n = 0 ∧ m = 0 ∨ k = 1 ∧ 1 ≤ n ∧ n ≤ 8 ∧ m = 0 ∨ k = 2 ∧ n = 0
instance (k : Int) (n m : Nat) : Decidable (shP k n m) := inferInstanceAs (Decidable (_ ∨ _))
def shB (k : Int) (n m : Nat) : Bool := decide (shP k n m)

theorem insB_nat (n : Nat) : insB (n : Int) 1 8 = decide (1 ≤ n ∧ n ≤ 8) := by
  unfold insB
  apply decide_eq_decide.2
  omega

set_option maxHeartbeats 800000 in
theorem shaped_any (k : Int) (A A' : Option Addr) (n c n' c' : Nat) (w : World) : Calls Tryd.prog 89 #[.agg #[.int .i64 k, .slice A n c, .slice A' n' c']] w fun e w' => e = .returned (.bool (shB k n n')) ∧ Below w.heap.size w w' := by
  by_cases k0 : k = 0
  · subst k0
    by_cases hn : n = 0
    · subst hn
      by_cases hm : n' = 0
      · subst hm
        rw [show shB 0 0 0 = true from by decide]
        go_enter Tryd.func89, Tryd.ntmps89
        go_wp2
        go_ret
        exact ⟨rfl, by go_grown⟩
      · rw [show shB 0 0 n' = false from decide_eq_false (by unfold shP; omega)]
        have t1 : ((n' : Int) == 0) = false := by rw [beq_eq_false_iff_ne]; omega
        go_enter Tryd.func89, Tryd.ntmps89
        go_wp2
        go_ret
        exact ⟨rfl, by go_grown⟩
    · rw [show shB 0 n n' = false from decide_eq_false (by unfold shP; omega)]
      have t1 : ((n : Int) == 0) = false := by rw [beq_eq_false_iff_ne]; omega
      go_enter Tryd.func89, Tryd.ntmps89
      go_wp2
      go_ret
      exact ⟨rfl, by go_grown⟩
  · by_cases k1 : k = 1
    · subst k1
      by_cases hn : 1 ≤ n ∧ n ≤ 8
      · have t0 : insB (n : Int) 1 8 = true := by rw [insB_nat]; exact decide_eq_true hn
        have T0 := hide t0
        clear t0
        by_cases hm : n' = 0
        · subst hm
          rw [show shB 1 n 0 = true from decide_eq_true (by unfold shP; omega)]
          clear hn
          go_enter Tryd.func89, Tryd.ntmps89
          go_wp2_with fail
          refine (vinside_any _ 1 8 _).mono ?_
          rintro e w' ⟨rfl, rfl⟩
          rw [T0.out]
          go_wp2
          go_ret
          exact ⟨rfl, by go_grown⟩
        · rw [show shB 1 n n' = false from decide_eq_false (by unfold shP; omega)]
          have t1 : ((n' : Int) == 0) = false := by rw [beq_eq_false_iff_ne]; omega
          clear hn
          go_enter Tryd.func89, Tryd.ntmps89
          go_wp2_with fail
          refine (vinside_any _ 1 8 _).mono ?_
          rintro e w' ⟨rfl, rfl⟩
          rw [T0.out]
          go_wp2
          go_ret
          exact ⟨rfl, by go_grown⟩
      · have t0 : insB (n : Int) 1 8 = false := by rw [insB_nat]; exact decide_eq_false hn
        have T0 := hide t0
        rw [show shB 1 n n' = false from decide_eq_false (by unfold shP; omega)]
        clear t0 hn
        go_enter Tryd.func89, Tryd.ntmps89
        go_wp2_with fail
        refine (vinside_any _ 1 8 _).mono ?_
        rintro e w' ⟨rfl, rfl⟩
        rw [T0.out]
        go_wp2
        go_ret
        exact ⟨rfl, by go_grown⟩
    · by_cases k2 : k = 2
      · subst k2
        by_cases hn : n = 0
        · subst hn
          rw [show shB 2 0 n' = true from decide_eq_true (by unfold shP; omega)]
          go_enter Tryd.func89, Tryd.ntmps89
          go_wp2
          go_ret
          exact ⟨rfl, by go_grown⟩
        · rw [show shB 2 n n' = false from decide_eq_false (by unfold shP; omega)]
          have t1 : ((n : Int) == 0) = false := by rw [beq_eq_false_iff_ne]; omega
          go_enter Tryd.func89, Tryd.ntmps89
          go_wp2
          go_ret
          exact ⟨rfl, by go_grown⟩
      · rw [show shB k n n' = false from decide_eq_false (by unfold shP; omega)]
        have t0 : (k == 0) = false := by rw [beq_eq_false_iff_ne]; exact k0
        have t1 : (k == 1) = false := by rw [beq_eq_false_iff_ne]; exact k1
        have t2 : (k == 2) = false := by rw [beq_eq_false_iff_ne]; exact k2
        go_enter Tryd.func89, Tryd.ntmps89
        go_wp2
        go_ret
        exact ⟨rfl, by go_grown⟩

/-- The first error of commands. -/
def chkCs : List Cmdv → Int
  | [] => 0
  | c :: cs => if chkC c = 0 then chkCs cs else chkC c
def chkV (k : Int) (cs : List Cmdv) (ns : List Int) : Int := if shB k cs.length ns.length = true then (if k = 2 then chkS ns else chkCs cs) else 25
theorem chkCs_ok {cs : List Cmdv} {j : Nat} (h : j < cs.length) (h0 : chkC cs[j] = 0) : chkCs (cs.drop j) = chkCs (cs.drop (j + 1)) := by
  rw [List.drop_eq_getElem_cons h, chkCs, if_pos h0]
theorem chkCs_bad {cs : List Cmdv} {j : Nat} (h : j < cs.length) (h0 : chkC cs[j] ≠ 0) : chkCs (cs.drop j) = chkC cs[j] := by
  rw [List.drop_eq_getElem_cons h, chkCs, if_neg h0]

set_option maxHeartbeats 1600000 in
theorem vcheck_any (k : Int) (A A' : Option Addr) (n c n' c' B : Nat) (cs : List Cmdv) (ns : List Int) (w : World) (hC : HasC w B A cs) (hN : HasI w B A' ns) (hB : B ≤ w.heap.size) (hn : cs.length = n) (hn' : ns.length = n') (hl' : n' ≤ 140737488355328) :
    Calls Tryd.prog 57 #[.agg #[.int .i64 k, .slice A n c, .slice A' n' c']] w fun e w' => e = .returned (.int .i64 (chkV k cs ns)) ∧ Below w.heap.size w w' := by
  have HN := hide hn
  have HN' := hide hn'
  clear hn hn'
  by_cases hs : shB k n n' = true
  · have e0 : chkV k cs ns = if k = 2 then chkS ns else chkCs cs := by unfold chkV; rw [HN.out, HN'.out]; exact if_pos hs
    by_cases k2 : k = 2
    · have hE := hide (e0.trans (if_pos k2))
      have HS := hide hs
      clear e0 hs
      subst k2
      go_enter Tryd.func57, Tryd.ntmps57
      go_wp2_with fail
      refine (shaped_any 2 A A' n c n' c' _).mono ?_
      rintro e w1 ⟨rfl, hb1⟩
      rw [HS.out]
      obtain ⟨c0, c1, c2, hz⟩ := val_box hb1
      have hN1 : HasI w1 B A' ns := (hN.alloc hB _).on (by simp; omega) hb1
      go_wp2_with fail
      refine (bcheck_any A' n' c' B ns w1 hN1 HN'.out hl').mono ?_
      rintro e w2 ⟨rfl, rfl⟩
      go_wp2
      go_ret
      exact ⟨by rw [hE.out]; rfl, below_of_alloc hb1⟩
    · have hE := hide (e0.trans (if_neg k2))
      have HS := hide hs
      have hn8 : n ≤ 8 := by
        have := of_decide_eq_true hs
        unfold shP at this
        omega
      have t2 : (k == 2) = false := by rw [beq_eq_false_iff_ne]; exact k2
      clear e0 hs
      go_enter Tryd.func57, Tryd.ntmps57
      go_wp2_with fail
      refine (shaped_any k A A' n c n' c' _).mono ?_
      rintro e w1 ⟨rfl, hb1⟩
      rw [HS.out]
      obtain ⟨c0, c1, c2, hz⟩ := val_box hb1
      have hC1 : HasC w1 B A cs := (hC.alloc hB _).on (by simp; omega) hb1
      have hb1' := below_of_alloc hb1
      clear hb1
      go_wp2_with fail
      have HCC : Hid (∀ W, Below w1.heap.size w1 W → HasC W B A cs) := hide (fun W h => hC1.on (by omega) h)
      clear hC hC1
      go_loopw [18] (fun i wr => ∃ j : Nat, j ≤ n ∧ i = .int .i64 j ∧ Hid (chkCs cs = chkCs (cs.drop j)) ∧ Below w1.heap.size w1 wr) (fun i _ => n - (intOf i).toNat)
      case atStart => exact ⟨0, Nat.zero_le _, rfl, hide rfl, Below.refl _ _⟩
      case round =>
        obtain ⟨j, hj, rfl, hcs, hbr⟩ := hrel
        by_cases hlt : j < n
        · have hlt' : j < cs.length := by rw [HN.out]; exact hlt
          have hcl := HCC.out _ hbr j hlt'
          have hok : Hid (chkC cs[j] = 0 → chkCs cs = chkCs (cs.drop (j + 1))) := hide (fun h => hcs.out.trans (chkCs_ok hlt' h))
          have hbad : Hid (chkC cs[j] ≠ 0 → chkCs cs = chkC cs[j]) := hide (fun h => hcs.out.trans (chkCs_bad hlt' h))
          generalize cs[j] = cm at *
          obtain ⟨ab, ao, rfl, hab, e0, e1, e2, e3, e4, e5, e6, e7⟩ := hcl
          go_wp2_with fail
          refine (checkcmd_any cm _).mono ?_
          rintro e w2 ⟨rfl, hb2⟩
          have hb2' := hbr.trans ((below_of_alloc hb2).mono hbr.size)
          by_cases h0 : chkC cm = 0
          · have T := hide (hok.out h0)
            rw [h0]
            clear h0 hok hbad
            go_wp2
            go_roundw
            case rel => exact ⟨j + 1, by omega, by go_num, T, hb2'⟩
            case measure => simp [intOf]; omega
          · have T := hide (hbad.out h0)
            have t1 : (chkC cm != 0) = true := by rw [bne_iff_ne]; exact h0
            clear h0 hok hbad
            go_wp2
            go_ret
            exact ⟨by rw [hE.out, T.out]; rfl, hb1'.trans (hb2'.mono hb1'.size)⟩
        · obtain rfl : j = n := by omega
          have T : Hid (chkCs cs = 0) := hide (by rw [hcs.out, List.drop_of_length_le (by rw [HN.out]; omega)]; rfl)
          go_wp2
          go_ret
          exact ⟨by rw [hE.out, T.out]; rfl, hb1'.trans (hbr.mono hb1'.size)⟩
  · have e0 : chkV k cs ns = 25 := by unfold chkV; rw [HN.out, HN'.out]; exact if_neg hs
    have HS := hide (Bool.eq_false_iff.2 hs)
    rw [e0]
    clear e0 hs
    go_enter Tryd.func57, Tryd.ntmps57
    go_wp2_with fail
    refine (shaped_any k A A' n c n' c' _).mono ?_
    rintro e w1 ⟨rfl, hb1⟩
    rw [HS.out]
    go_wp2
    go_ret
    exact ⟨rfl, below_of_alloc hb1⟩
end Go.Proofs.YtapbcpilklhoiabDoor

namespace Go.Proofs.YtapbcpilklhoiabDoor
open Go.RowKit

theorem chkS_in {ns : List Int} (h : chkS ns = 0) : ns.length ≤ 7 ∧ ∀ m ∈ ns, 0 ≤ m ∧ m ≤ 9 := by
  have hr : rightS ns := by
    by_cases h1 : rightS ns
    · exact h1
    · unfold chkS at h; rw [if_neg h1] at h; omega
  refine ⟨hr.2.1, fun m hm => ?_⟩
  obtain ⟨j, hj, rfl⟩ := List.getElem_of_mem hm
  have := (hr.2.2 j hj).1
  rw [getD_at hj] at this
  have h2 := of_decide_eq_true this
  omega
/-- What Check lets through. -/
theorem chkV_fine {k : Int} {cs : List Cmdv} {ns : List Int} (hc : ∀ c ∈ cs, IsCmd c) (h : chkV k cs ns = 0) : FineV k cs ns := by
  unfold chkV at h
  by_cases hs : shB k cs.length ns.length = true
  · rw [if_pos hs] at h
    have hp : shP k cs.length ns.length := of_decide_eq_true hs
    unfold shP at hp
    by_cases k2 : k = 2
    · rw [if_pos k2] at h
      obtain ⟨h1, h2⟩ := chkS_in h
      exact ⟨by omega, by omega, hc, h1, h2⟩
    · have hn0 : ns = [] := List.eq_nil_of_length_eq_zero (by omega)
      subst hn0
      exact ⟨by omega, by omega, hc, by simp, by simp⟩
  · rw [if_neg hs] at h
    omega
theorem encV_len {k : Int} {cs : List Cmdv} {ns : List Int} (h : FineV k cs ns) : (encV k cs ns).length ≤ 1000 := by
  have h1 := encNs_length ns
  have h2 := bw_le (unb k)
  have h3 := bw_le cs.length
  have h4 := bw_le ns.length
  have h5 := encCs_length cs
  have h6 := h.cl
  have h7 := h.nl
  unfold encV
  simp only [List.length_append, enc_length]
  omega

end Go.Proofs.YtapbcpilklhoiabDoor
