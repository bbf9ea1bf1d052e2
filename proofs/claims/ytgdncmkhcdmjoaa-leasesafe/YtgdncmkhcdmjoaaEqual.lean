/-
  Structs of whole numbers compared. No condition.
-/
import Derived.Test.YtgdncmkhcdmjoaaInts
import Derived.ChangeKeysEq
import Derived.Laws.StructEq
set_option linter.unusedSimpArgs false
set_option linter.unusedVariables false
namespace Go.Proofs.Ytgdncmkhcdmjoaa
open Go.RowKit

theorem fields_bal : (Try.prog.fieldsOf 46).toList.map (fun f => (f.type, f.offset, f.name == "_")) = [(3, 0, false), (3, 1, false)] := by kernel_rfl

theorem part_int (xs : Array Value) (o : Nat) (a : Int) (h : xs[o]? = some (.int .i64 a)) (w : World) : (part 3 xs o).run Try.prog w = .ok (.int .i64 a) w := by
  have hs : (sizeOf 3).run Try.prog w = .ok 1 w := by kernel_rfl
  have hag : (isAgg 3).run Try.prog w = .ok false w := by kernel_rfl
  obtain ⟨ho, he⟩ := Array.getElem?_eq_some_iff.1 h
  simp [part, hs, hag, h]

theorem eqFields_ints (d : Nat) (xs ys : Array Value) (w : World) : ∀ (fs : List Field) (la lb : List Int), fs.length = la.length → fs.length = lb.length →
    (∀ (i : Nat) (f : Field) (a b : Int), fs[i]? = some f → la[i]? = some a → lb[i]? = some b → f.type = 3 ∧ (f.name == "_") = false ∧ xs[f.offset]? = some (.int .i64 a) ∧ ys[f.offset]? = some (.int .i64 b)) →
    (Op.eqFields (d + 1) xs ys fs).run Try.prog w = .ok (decide (la = lb)) w
  | [], [], [], _, _, _ => by simp [Op.eqFields]
  | f :: fs, a :: la, b :: lb, h1, h2, h => by
    obtain ⟨ht, hn, hx, hy⟩ := h 0 f a b rfl rfl rfl
    have ih := eqFields_ints d xs ys w fs la lb (by simpa using h1) (by simpa using h2) (fun i f' a' b' e1 e2 e3 => h (i + 1) f' a' b' (by simpa using e1) (by simpa using e2) (by simpa using e3))
    have hn' : f.name ≠ "_" := by simpa using hn
    have he := run_equalIn_int (P := Try.prog) w d 3 .i64 .i64 a b Try.underlying3
    simp only [Op.eqFields, Sem.run_bind, Sem.run_ite, if_pos hn', ht, part_int xs _ a hx w, part_int ys _ b hy w, Result.andThen_ok, he]
    by_cases hab : a = b
    · subst hab
      simp [ih]
    · simp [hab]

theorem equal_bal (d : Nat) (a b c e : Int) (w : World) : (Op.equalIn (d + 2) 46 (.agg #[.int .i64 a, .int .i64 b]) (.agg #[.int .i64 c, .int .i64 e])).run Try.prog w = .ok (decide ([a, b] = [c, e])) w := by
  rw [show d + 2 = (d + 1) + 1 from rfl, run_equalIn_struct w (d + 1) 46 _ _ (by kernel_rfl) (by kernel_rfl)]
  have hf := fields_bal
  generalize (Try.prog.fieldsOf 46).toList = fs at hf
  refine eqFields_ints d _ _ w fs _ _ (by have := congrArg List.length hf; simpa using this) (by have := congrArg List.length hf; simpa using this) ?_
  match fs, (show fs.length = 2 by have := congrArg List.length hf; simpa using this), hf with
  | [f0, f1], _, hf =>
    simp only [List.map_cons, List.map_nil, List.cons.injEq, Prod.mk.injEq, and_true] at hf
    obtain ⟨⟨t0, o0, n0⟩, t1, o1, n1⟩ := hf
    intro i f x y e1 e2 e3
    match i with
    | 0 => simp at e1 e2 e3; subst e1 e2 e3; exact ⟨t0, n0, by simp [o0], by simp [o0]⟩
    | 1 => simp at e1 e2 e3; subst e1 e2 e3; exact ⟨t1, n1, by simp [o1], by simp [o1]⟩
    | i + 2 => simp at e1
end Go.Proofs.Ytgdncmkhcdmjoaa
