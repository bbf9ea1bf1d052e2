/-
  has of package link's inbox. No condition but that the number is one of 64 bits.
-/
import Derived.Test.YtpbfibofjkinmaaLinkE
import Derived.Maps.OwnOps
import Derived.Maps.RangeWalk
set_option linter.unusedSimpArgs false
set_option linter.unusedVariables false
namespace Go.Proofs.Ytpbfibofjkinmaa
open Go.RowKit Go.Maps

theorem int_law : Keyed Try.prog 3 := int_keyed Try.underlying3
theorem zeroU (w : World) : (zeroValue 136).run Try.prog w = .ok (.agg #[]) w := by kernel_rfl

/-- Has a number come? -/
def Lk.come (k : Lk) (n : Int) : Bool := decide (n ≤ k.all) || k.S n

theorem lnil (n : Int) (hw : (Lit.int .i64 n).wf = true) (w : World) : (Instr.lookup 85 (.map none) (.int .i64 n) true).run Try.prog w = .ok (.tuple #[.agg #[], .bool false]) w := by
  have := Maps.look_nil (P := Try.prog) (w := w) true int_law Try.underlying85 (zeroU w) (keyOf_int_mk Try.underlying3 hw)
  simpa using this

set_option maxRecDepth 20000 in
theorem lhas_any (base g : Nat) (wv mv dv : Value) (k : Lk) (n : Int) (w : World) (h : IsK w base g wv mv dv k) (hw : (Lit.int .i64 n).wf = true) :
    Calls Try.prog 85 #[.pointer (some ⟨g, 4, none⟩), .int .i64 n] w fun e w' => e = .returned (.bool (k.come n)) ∧ Below w.heap.size w w' := by
  have c2 := (row_cells h.blk 6).1
  have c1 := (row_cells h.blk 5).1
  have hgl := lt_of_block h.blk
  simp only [List.getElem?_toArray, List.getElem?_cons_succ, List.getElem?_cons_zero] at c1 c2
  rcases h.set with ⟨rfl, hS⟩ | ⟨b, rfl, hb, D, ho, hh⟩
  · have hln := lnil n hw
    have HE : Hid (k.come n = decide (n ≤ k.all)) := hide (by unfold Lk.come; rw [hS, Bool.or_false])
    clear h hS
    cases hd : decide (n ≤ k.all)
    all_goals
      go_enter Try.func85, Try.ntmps85
      go_wp2
      go_ret
      exact ⟨by rw [HE.out, hd]; rfl, by go_grown⟩
  · have HE : Hid (k.come n = (decide (n ≤ k.all) || Maps.has D (.int .i64 n))) := hide (by unfold Lk.come; rw [hh])
    clear h
    go_enter Try.func85, Try.ntmps85
    go_wp2_with (at_lookup; refine wpList_lookup_own_unit _ rfl _ _ 85 rfl 3 136 int_law Try.underlying85 (zeroU _) b k.cnt D rfl ho _ _ rfl (keyOf_int_mk Try.underlying3 hw) ?_)
    all_goals go_ret
    all_goals exact ⟨by unfold Lk.come; simp_all, by go_grown⟩
end Go.Proofs.Ytpbfibofjkinmaa
