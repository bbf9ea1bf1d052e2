/-
  Letters of package link: their rows, and whether one is due. No condition.
-/
import Derived.Test.YtpbfibofjkinmaaRec
import Derived.Test.YtpbfibofjkinmaaClone
import Derived.Test.YtpbfibofjkinmaaCopy
import Derived.Test.YtpbfibofjkinmaaSame
import Derived.Deep.RegionHeld3
import Derived.Deep.DrawnRows
import Derived.Deep.DeepCutAuto
set_option linter.unusedSimpArgs false
set_option linter.unusedVariables false
namespace Go.Proofs.Ytpbfibofjkinmaa
open Go.RowKit

theorem rowL : RowT 93 84 4 48 (.agg #[.int .i64 0, .slice none 0 0, .bool false, .int .i64 0]) := ⟨Try.underlying84, by kernel_rfl, rfl, by omega⟩

/-- A message that waits, with the bytes that its data reads as. -/
structure Ltr where
  num : Int
  A : Option Addr
  n : Nat
  c : Nat
  sent : Bool
  at_ : Int
  xs : List UInt8
def Ltr.cells (l : Ltr) : List Value := [.int .i64 l.num, .slice l.A l.n l.c, .bool l.sent, .int .i64 l.at_]
def Ltr.sl (l : Ltr) : Value := .slice l.A l.n l.c
theorem Ltr.wide (ls : List Ltr) : Wide 4 (ls.map Ltr.cells) := fun r hr => by
  obtain ⟨p, _, rfl⟩ := List.mem_map.1 hr
  refine ⟨rfl, fun u hu => ?_⟩
  simp only [Ltr.cells, List.mem_cons, List.not_mem_nil, or_false] at hu
  rcases hu with rfl | rfl | rfl | rfl <;> rfl

/-- A number without its sign. -/
def u64 (x : Int) : Int := IntKind.u64.wrap x
/-- Is a letter due at a time? -/
def dueB (l : Ltr) (now retry : Int) : Bool := !l.sent || decide (now < l.at_) || decide (u64 retry ≤ u64 (u64 now - u64 l.at_))

set_option maxRecDepth 20000 in
theorem ldue_any (l : Ltr) (now retry : Int) (w : World) :
    Calls Try.prog 61 #[.agg #[.int .i64 l.num, .slice l.A l.n l.c, .bool l.sent, .int .i64 l.at_], .int .i64 now, .int .i64 retry] w fun e w' => e = .returned (.bool (dueB l now retry)) ∧ Below w.heap.size w w' := by
  obtain ⟨num, A, n, c, sent, a, xs⟩ := l
  cases sent
  · have e : dueB ⟨num, A, n, c, false, a, xs⟩ now retry = true := by simp [dueB]
    have HE := hide e
    clear e
    go_enter Try.func61, Try.ntmps61
    go_wp2
    go_ret
    exact ⟨by rw [HE.out]; rfl, by go_grown⟩
  · by_cases h : now < a
    · have e : dueB ⟨num, A, n, c, true, a, xs⟩ now retry = true := by simp [dueB, h]
      have HE := hide e
      clear e
      go_enter Try.func61, Try.ntmps61
      go_wp2
      go_ret
      exact ⟨by rw [HE.out]; rfl, by go_grown⟩
    · have e : dueB ⟨num, A, n, c, true, a, xs⟩ now retry = decide (u64 retry ≤ u64 (u64 now - u64 a)) := by simp [dueB, h]
      have HE := hide e
      have d1 : decide (now < a) = false := decide_eq_false h
      clear e
      go_enter Try.func61, Try.ntmps61
      go_wp2
      go_ret
      exact ⟨by rw [HE.out]; rfl, by go_grown⟩
end Go.Proofs.Ytpbfibofjkinmaa
