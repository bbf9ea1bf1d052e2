/-
  The registers as memory holds them; registers, results and states compared. No condition.
-/
import Derived.Test.YtogkgmbldmfpiaaRefTurn
import Derived.Test.YtogkgmbldmfpiaaGaussHead
import Derived.Below
import Derived.Deep.MidRow
import Derived.Deep.RegionHeld3
import Derived.Deep.QuietTactic
import Derived.BigQuiet
import Derived.Deep.Draws
import Derived.ChangeKeysEq
import Derived.Laws.StructEq
set_option linter.unusedSimpArgs false
set_option linter.unusedVariables false
namespace Go.Proofs.Ytogkgmbldmfpiaa
open Go.RowKit

/-- The cells of eight registers: S 0, S 1 are the first one's parts. -/
def cl (S : Nat → Int) : List Value := (List.range 16).map fun i => .int .i64 (S i)

theorem cl_length (S : Nat → Int) : (cl S).length = 16 := by simp [cl]
theorem cl_get (S : Nat → Int) (i : Nat) (h : i < 16) : (cl S)[i]? = some (.int .i64 (S i)) := by simp [cl, h]
theorem cl_one (S : Nat → Int) : ∀ v ∈ cl S, v.oneCell' = true := by
  intro v hv
  simp [cl] at hv
  obtain ⟨i, _, rfl⟩ := hv
  rfl
theorem cl_size (S : Nat → Int) : (cl S).toArray.size = 16 := by simp [cl_length]

/-- All registers hold right numbers. -/
def okS (S : Nat → Int) : Prop := ∀ j, j < 8 → inB (S (2 * j)) ∧ inB (S (2 * j + 1))
instance (S : Nat → Int) : Decidable (okS S) := inferInstanceAs (Decidable (∀ j, j < 8 → _))
def vB (S : Nat → Int) : Bool := decide (okS S)

theorem idx_state (S : Nat → Int) (i : Nat) (hi : i < 8) (w : World) : (Instr.index 45 (.agg (cl S).toArray) (.int .i64 (i : Int))).run Try.prog w = .ok (.agg #[.int .i64 (S (2 * i)), .int .i64 (S (2 * i + 1))]) w := by
  have e0 := cl_get S (2 * i) (by omega)
  have e1 := cl_get S (2 * i + 1) (by omega)
  have hs : (sizeOf 37).run Try.prog w = .ok 2 w := by kernel_rfl
  have hag : (isAgg 37).run Try.prog w = .ok true w := by kernel_rfl
  have hext : List.take 2 (List.drop (i * 2) (cl S)) = [.int .i64 (S (2 * i)), .int .i64 (S (2 * i + 1))] := by
    apply List.ext_getElem?
    intro k
    simp only [List.getElem?_take, List.getElem?_drop]
    match k with
    | 0 => simp [Nat.mul_comm i 2, e0]
    | 1 => simp [Nat.mul_comm i 2, e1]
    | k + 2 => rw [if_neg (by omega)]; simp
  simp [Instr.index, asIntOf, run_underlying Try.underlying45, hs, part, hag, hext, hi, cl_length]
  try omega

theorem fields_reg : (Try.prog.fieldsOf 37).toList.map (fun f => (f.type, f.offset, f.name == "_")) = [(3, 0, false), (3, 1, false)] := by kernel_rfl
theorem fields_res : (Try.prog.fieldsOf 50).toList.map (fun f => (f.type, f.offset, f.name == "_")) = [(3, 0, false), (3, 1, false), (3, 2, false)] := by kernel_rfl

theorem part_int (xs : Array Value) (o : Nat) (a : Int) (h : xs[o]? = some (.int .i64 a)) (w : World) : (part 3 xs o).run Try.prog w = .ok (.int .i64 a) w := by
  have hs : (sizeOf 3).run Try.prog w = .ok 1 w := by kernel_rfl
  have hag : (isAgg 3).run Try.prog w = .ok false w := by kernel_rfl
  obtain ⟨ho, he⟩ := Array.getElem?_eq_some_iff.1 h
  simp [part, hs, hag, h]

theorem eqFields_ints (d : Nat) (xs ys : Array Value) (w : World) : ∀ (fs : List Field) (la lb : List Int), fs.length = la.length → fs.length = lb.length →
    (∀ (i : Nat) (f : Field) (a b : Int), fs[i]? = some f → la[i]? = some a → lb[i]? = some b → f.type = 3 ∧ (f.name == "_") = false ∧ xs[f.offset]? = some (.int .i64 a) ∧ ys[f.offset]? = some (.int .i64 b)) →
    (Op.eqFields (d + 1) xs ys fs).run Try.prog w = .ok (decide (la = lb)) w
  | [], [], [], _, _, _ => by simp [Op.eqFields]
  | f :: fs, a :: la, b :: lb, h1, h2, h => by
    obtain ⟨ht, hn, hx, hy⟩ := h 0 f a b rfl rfl rfl
    have ih := eqFields_ints d xs ys w fs la lb (by simpa using h1) (by simpa using h2) (fun i f' a' b' e1 e2 e3 => h (i + 1) f' a' b' (by simpa using e1) (by simpa using e2) (by simpa using e3))
    have hn' : f.name ≠ "_" := by simpa using hn
    have he := run_equalIn_int (P := Try.prog) w d 3 .i64 .i64 a b Try.underlying3
    simp only [Op.eqFields, Sem.run_bind, Sem.run_ite, if_pos hn', ht, part_int xs _ a hx w, part_int ys _ b hy w, Result.andThen_ok, he]
    by_cases hab : a = b
    · subst hab
      simp [ih]
    · simp [hab]

/-- Two registers compared, two results. -/
theorem equal_regs (d : Nat) (a b c e : Int) (w : World) : (Op.equalIn (d + 2) 37 (.agg #[.int .i64 a, .int .i64 b]) (.agg #[.int .i64 c, .int .i64 e])).run Try.prog w = .ok (decide ([a, b] = [c, e])) w := by
  rw [show d + 2 = (d + 1) + 1 from rfl, run_equalIn_struct w (d + 1) 37 _ _ (by kernel_rfl) (by kernel_rfl)]
  have hf := fields_reg
  generalize (Try.prog.fieldsOf 37).toList = fs at hf
  refine eqFields_ints d _ _ w fs _ _ (by have := congrArg List.length hf; simpa using this) (by have := congrArg List.length hf; simpa using this) ?_
  match fs, (show fs.length = 2 by have := congrArg List.length hf; simpa using this), hf with
  | [f0, f1], _, hf =>
    simp only [List.map_cons, List.map_nil, List.cons.injEq, Prod.mk.injEq, and_true] at hf
    obtain ⟨⟨t0, o0, n0⟩, t1, o1, n1⟩ := hf
    intro i f x y e1 e2 e3
    match i with
    | 0 => simp at e1 e2 e3; subst e1 e2 e3; exact ⟨t0, n0, by simp [o0], by simp [o0]⟩
    | 1 => simp at e1 e2 e3; subst e1 e2 e3; exact ⟨t1, n1, by simp [o1], by simp [o1]⟩
    | i + 2 => simp at e1
theorem equal_res (d : Nat) (a b c a' b' c' : Int) (w : World) : (Op.equalIn (d + 2) 50 (.agg #[.int .i64 a, .int .i64 b, .int .i64 c]) (.agg #[.int .i64 a', .int .i64 b', .int .i64 c'])).run Try.prog w = .ok (decide ([a, b, c] = [a', b', c'])) w := by
  rw [show d + 2 = (d + 1) + 1 from rfl, run_equalIn_struct w (d + 1) 50 _ _ (by kernel_rfl) (by kernel_rfl)]
  have hf := fields_res
  generalize (Try.prog.fieldsOf 50).toList = fs at hf
  refine eqFields_ints d _ _ w fs _ _ (by have := congrArg List.length hf; simpa using this) (by have := congrArg List.length hf; simpa using this) ?_
  match fs, (show fs.length = 3 by have := congrArg List.length hf; simpa using this), hf with
  | [f0, f1, f2], _, hf =>
    simp only [List.map_cons, List.map_nil, List.cons.injEq, Prod.mk.injEq, and_true] at hf
    obtain ⟨⟨t0, o0, n0⟩, ⟨t1, o1, n1⟩, t2, o2, n2⟩ := hf
    intro i f x y e1 e2 e3
    match i with
    | 0 => simp at e1 e2 e3; subst e1 e2 e3; exact ⟨t0, n0, by simp [o0], by simp [o0]⟩
    | 1 => simp at e1 e2 e3; subst e1 e2 e3; exact ⟨t1, n1, by simp [o1], by simp [o1]⟩
    | 2 => simp at e1 e2 e3; subst e1 e2 e3; exact ⟨t2, n2, by simp [o2], by simp [o2]⟩
    | i + 3 => simp at e1

theorem part_reg (S : Nat → Int) (i : Nat) (hi : i < 8) (w : World) : (part 37 (cl S).toArray (i * 2)).run Try.prog w = .ok (.agg #[.int .i64 (S (2 * i)), .int .i64 (S (2 * i + 1))]) w := by
  have h := idx_state S i hi w
  have hs : (sizeOf 37).run Try.prog w = .ok 2 w := by kernel_rfl
  simp only [Instr.index, asIntOf, Sem.run_bind, Sem.run_pure, Result.andThen_ok, run_underlying Try.underlying45] at h
  rw [Sem.run_ite, if_pos ⟨by omega, by omega⟩] at h
  simpa [hs] using h

theorem eqItems_state (d : Nat) (S T : Nat → Int) (w : World) : ∀ (is : List Nat), (∀ i ∈ is, i < 8) →
    (Op.eqItems (d + 2) 37 2 (cl S).toArray (cl T).toArray is).run Try.prog w = .ok (is.all fun i => decide ([S (2 * i), S (2 * i + 1)] = [T (2 * i), T (2 * i + 1)])) w
  | [], _ => by simp [Op.eqItems]
  | i :: is, h => by
    have hi := h i (by simp)
    have ih := eqItems_state d S T w is (fun j hj => h j (by simp [hj]))
    simp only [Op.eqItems, Sem.run_bind, part_reg S i hi w, part_reg T i hi w, Result.andThen_ok, equal_regs d _ _ _ _ w]
    by_cases hab : [S (2 * i), S (2 * i + 1)] = [T (2 * i), T (2 * i + 1)]
    · rw [decide_eq_true hab]
      simp [ih]
      exact fun _ => by simpa using hab
    · rw [decide_eq_false hab]
      simp only [Bool.not_false, if_true, Sem.run_pure, List.all_cons, decide_eq_false hab, Bool.false_and]

/-- Whether two states are one. -/
def sameS (S T : Nat → Int) : Bool := (List.range 8).all fun i => decide ([S (2 * i), S (2 * i + 1)] = [T (2 * i), T (2 * i + 1)])
theorem equal_state (S T : Nat → Int) (w : World) : (Op.equalIn 10000 45 (.agg (cl S).toArray) (.agg (cl T).toArray)).run Try.prog w = .ok (sameS S T) w := by
  obtain ⟨i, hi⟩ : ∃ i, Try.prog.info? 37 = some i := Option.isSome_iff_exists.1 (by kernel_rfl)
  rw [show (10000 : Nat) = 9999 + 1 from rfl, run_equalIn_array w 9999 _ _ Try.underlying45 hi, show Try.prog.cellsOf 37 = 2 from by kernel_rfl]
  exact eqItems_state 9997 S T w _ (fun i hi => by simpa using hi)

theorem sameS_iff (S T : Nat → Int) : sameS S T = true ↔ ∀ i, i < 16 → S i = T i := by
  unfold sameS
  simp only [List.all_eq_true, List.mem_range, decide_eq_true_eq, List.cons.injEq, and_true]
  constructor
  · intro h i hi
    have := h (i / 2) (by omega)
    rcases Nat.mod_two_eq_zero_or_one i with h2 | h2
    · rw [show 2 * (i / 2) = i from by omega] at this; exact this.1
    · rw [show 2 * (i / 2) + 1 = i from by omega] at this; exact this.2
  · intro h i hi
    exact ⟨h _ (by omega), h _ (by omega)⟩
theorem sameS_refl (S : Nat → Int) : sameS S S = true := (sameS_iff S S).2 fun _ _ => rfl
theorem cl_congr {S T : Nat → Int} (h : ∀ i, i < 16 → S i = T i) : cl S = cl T := by
  unfold cl
  apply List.map_congr_left
  intro i hi
  rw [h i (by simpa using hi)]
end Go.Proofs.Ytogkgmbldmfpiaa
