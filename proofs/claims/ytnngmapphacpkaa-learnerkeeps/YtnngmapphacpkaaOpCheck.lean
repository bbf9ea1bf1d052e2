/-
  Check of package app, in the words of the Value laws. No condition.
-/
import Derived.Test.YtnngmapphacpkaaWords
import Derived.Test.YtnngmapphacpkaaEqual
import Derived.Test.YtnngmapphacpkaaGauss
import Derived.Handy
import Derived.Deep.MidRow
import Derived.Deep.RegionHeld3
import Derived.Deep.QuietTactic
import Derived.BigQuiet
import Derived.ChangeKeysEq
import Derived.Laws.StructEq
set_option linter.unusedSimpArgs false
set_option linter.unusedVariables false
namespace Go.Proofs.Ytnngmapphacpkaa
open Go.RowKit

theorem fields_reg : (Try.prog.fieldsOf 114).toList.map (fun f => (f.type, f.offset, f.name == "_")) = [(3, 0, false), (3, 1, false)] := by kernel_rfl

theorem equal_regs (d : Nat) (a b c e : Int) (w : World) : (Op.equalIn (d + 2) 114 (.agg #[.int .i64 a, .int .i64 b]) (.agg #[.int .i64 c, .int .i64 e])).run Try.prog w = .ok (decide ([a, b] = [c, e])) w := by
  rw [show d + 2 = (d + 1) + 1 from rfl, run_equalIn_struct w (d + 1) 114 _ _ (by kernel_rfl) (by kernel_rfl)]
  have hf := fields_reg
  generalize (Try.prog.fieldsOf 114).toList = fs at hf
  refine eqFields_ints d _ _ w fs _ _ (by have := congrArg List.length hf; simpa using this) (by have := congrArg List.length hf; simpa using this) ?_
  match fs, (show fs.length = 2 by have := congrArg List.length hf; simpa using this), hf with
  | [f0, f1], _, hf =>
    simp only [List.map_cons, List.map_nil, List.cons.injEq, Prod.mk.injEq, and_true] at hf
    obtain ⟨⟨t0, o0, n0⟩, t1, o1, n1⟩ := hf
    intro i f x y e1 e2 e3
    match i with
    | 0 => simp at e1 e2 e3; subst e1 e2 e3; exact ⟨t0, n0, by simp [o0], by simp [o0]⟩
    | 1 => simp at e1 e2 e3; subst e1 e2 e3; exact ⟨t1, n1, by simp [o1], by simp [o1]⟩
    | i + 2 => simp at e1

theorem operand_any (k r t re im : Int) (w : World) : Calls Try.prog 75 #[.agg #[.int .i64 k, .int .i64 r, .int .i64 t, .int .i64 re, .int .i64 im]] w fun e w' => e = .returned (.agg #[.int .i64 re, .int .i64 im]) ∧ Below w.heap.size w w' := by
  go_enter Try.func75, Try.ntmps75
  go_wp2
  go_returns
  exact ⟨rfl, by go_grown⟩

/-- How many values To may have. -/
def tos (k : Int) : Int := if k = 1 ∨ k = 2 ∨ k = 3 ∨ k = 4 then 1 else if k = 5 then 4 else if k = 6 ∨ k = 7 then 8 else 0

/-- Whether Re and Im are a number. -/
def numB (k : Int) : Bool := k == 2 || k == 3 || k == 4 || k == 7

theorem uses_any (k : Int) (w : World) : Calls Try.prog 74 #[.int .i64 k] w fun e w' => e = .returned (.tuple #[.int .i64 (tos k), .bool (numB k)]) ∧ w = w' := by
  by_cases h1 : k = 1
  · subst h1
    go_enter Try.func74, Try.ntmps74
    go_wp2
    go_ret2
    exact ⟨rfl, rfl⟩
  by_cases h2 : k = 2
  · subst h2
    go_enter Try.func74, Try.ntmps74
    go_wp2
    go_ret2
    exact ⟨rfl, rfl⟩
  by_cases h3 : k = 3
  · subst h3
    go_enter Try.func74, Try.ntmps74
    go_wp2
    go_ret2
    exact ⟨rfl, rfl⟩
  by_cases h4 : k = 4
  · subst h4
    go_enter Try.func74, Try.ntmps74
    go_wp2
    go_ret2
    exact ⟨rfl, rfl⟩
  by_cases h5 : k = 5
  · subst h5
    go_enter Try.func74, Try.ntmps74
    go_wp2
    go_ret2
    exact ⟨rfl, rfl⟩
  by_cases h6 : k = 6
  · subst h6
    go_enter Try.func74, Try.ntmps74
    go_wp2
    go_ret2
    exact ⟨rfl, rfl⟩
  by_cases h7 : k = 7
  · subst h7
    go_enter Try.func74, Try.ntmps74
    go_wp2
    go_ret2
    exact ⟨rfl, rfl⟩
  · have e1 : tos k = 0 := by unfold tos; rw [if_neg (by omega), if_neg (by omega), if_neg (by omega)]
    have e2 : numB k = false := by simp [numB, h2, h3, h4, h7]
    rw [e1, e2]
    clear e1 e2
    go_enter Try.func74, Try.ntmps74
    go_wp2
    go_ret2
    exact ⟨rfl, rfl⟩

/-- A right operation. -/
def rightOp (k r t re im : Int) : Prop := 0 ≤ r ∧ r < 8 ∧ 0 ≤ t ∧ t < tos k ∧ (numB k = true ∨ re = 0 ∧ im = 0) ∧ inB re ∧ inB im

instance (k r t re im : Int) : Decidable (rightOp k r t re im) := by unfold rightOp; infer_instance
def chk (k r t re im : Int) : Int := if rightOp k r t re im then 0 else 22

theorem op_cells {w w1 : World} {a b c d e : Value} {t : TypeId} (hb : Below (w.alloc (.cells #[a, b, c, d, e] t)).heap.size (w.alloc (.cells #[a, b, c, d, e] t)) w1) :
    w1.cell? ⟨w.heap.size, 0, none⟩ = some a ∧ w1.cell? ⟨w.heap.size, 1, none⟩ = some b ∧ w1.cell? ⟨w.heap.size, 2, none⟩ = some c ∧ w1.cell? ⟨w.heap.size, 3, none⟩ = some d ∧ w1.cell? ⟨w.heap.size, 4, none⟩ = some e := by
  have key : ∀ i, w1.cell? ⟨w.heap.size, i, none⟩ = (#[a, b, c, d, e] : Array Value)[i]? := by
    intro i
    rw [hb.cell (p := ⟨w.heap.size, i, none⟩) (by simp)]
    exact cell_of_row _ _ _ _ _ _ (heap_alloc_new w _)
  refine ⟨key 0, key 1, key 2, key 3, key 4⟩

set_option maxHeartbeats 800000 in
theorem check_any (k r t re im : Int) (w : World) : Calls Try.prog 66 #[.agg #[.int .i64 k, .int .i64 r, .int .i64 t, .int .i64 re, .int .i64 im]] w fun e w' => e = .returned (.int .i64 (chk k r t re im)) ∧ Below w.heap.size w w' := by
  by_cases hc : 0 ≤ r ∧ r < 8 ∧ 0 ≤ t ∧ t < tos k
  · obtain ⟨h1, h2, h3, h4⟩ := hc
    have k1 : ¬ r < 0 := by omega
    have k2 : ¬ 8 ≤ r := by omega
    have k3 : ¬ t < 0 := by omega
    have k4 : ¬ tos k ≤ t := by omega
    go_enter Try.func66, Try.ntmps66
    go_wp2_with fail
    refine (uses_any k _).mono ?_
    rintro e w' ⟨rfl, rfl⟩
    rcases hn : numB k with _ | _
    · go_wp2_with fail
      refine (operand_any k r t re im _).mono ?_
      rintro e w1 ⟨rfl, hb⟩
      obtain ⟨c0, c1, c2, c3, c4⟩ := op_cells hb
      have kn := fun w => equal_regs 9998 re im 0 0 w
      by_cases hz : re = 0 ∧ im = 0
      · obtain ⟨rfl, rfl⟩ := hz
        have e : chk k r t 0 0 = 0 := if_pos ⟨h1, h2, h3, h4, .inr ⟨rfl, rfl⟩, by unfold inB; omega, by unfold inB; omega⟩
        have HE := hide e
        have hb' := below_of_alloc hb
        clear e hb
        go_wp2_with fail
        refine (of_yes 0 0 (by unfold inB; omega) (by unfold inB; omega) _).mono ?_
        rintro e w' ⟨rfl, rfl⟩
        go_wp2
        go_ret
        exact ⟨by rw [HE.out]; rfl, hb'⟩
      · have e : chk k r t re im = 22 := if_neg fun h => by
          rcases h.2.2.2.2.1 with h' | h'
          · rw [hn] at h'; cases h'
          · exact hz h'
        have HE := hide e
        have hb' := below_of_alloc hb
        have hz' : decide ([re, im] = [0, 0]) = false := decide_eq_false (by simpa using hz)
        rw [hz'] at kn
        clear e hb hz
        go_wp2
        go_ret
        exact ⟨by rw [HE.out]; rfl, hb'⟩
    · by_cases hin : inB re ∧ inB im
      · have e : chk k r t re im = 0 := if_pos ⟨h1, h2, h3, h4, .inl hn, hin.1, hin.2⟩
        have HE := hide e
        clear e
        go_wp2_with fail
        refine (of_yes re im hin.1 hin.2 _).mono ?_
        rintro e w' ⟨rfl, rfl⟩
        go_wp2
        go_ret
        exact ⟨by rw [HE.out]; rfl, by go_grown⟩
      · have e : chk k r t re im = 22 := if_neg fun h => hin h.2.2.2.2.2
        have HE := hide e
        clear e
        go_wp2_with fail
        refine (of_no re im hin _).mono ?_
        rintro e w' ⟨rfl, rfl⟩
        go_wp2
        go_ret
        exact ⟨by rw [HE.out]; rfl, by go_grown⟩
  · have e : chk k r t re im = 22 := if_neg fun h => hc ⟨h.1, h.2.1, h.2.2.1, h.2.2.2.1⟩
    rw [e]
    have hd : r < 0 ∨ 8 ≤ r ∨ t < 0 ∨ tos k ≤ t := by omega
    clear hc e
    go_enter Try.func66, Try.ntmps66
    go_wp2_with fail
    refine (uses_any k _).mono ?_
    rintro e w' ⟨rfl, rfl⟩
    rcases hd with h | h | h | h
    all_goals
      go_wp2
      all_goals first
        | (go_ret; exact ⟨rfl, by go_grown⟩)
        | skip
end Go.Proofs.Ytnngmapphacpkaa
