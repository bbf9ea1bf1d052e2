/-
  Read of package value where there are no commands. Condition: the count of commands is read as 0.
-/
import Derived.Test.YtnngmapphacpkaaValRead
import Derived.Deep.RegionHeld3
import Derived.Deep.DrawnRows
import Derived.Deep.RegionLaw
set_option linter.unusedSimpArgs false
set_option linter.unusedVariables false
namespace Go.Proofs.Ytnngmapphacpkaa
open Go.RowKit

/-- So many members are read. -/
def rdN : Nat → RSt → List Int × RSt
  | 0, s => ([], s)
  | m + 1, s => (((rdN m s).1 ++ [((rc 9 (rdN m s).2).1 : Int)]), (rc 9 (rdN m s).2).2)
theorem rdN_len (m : Nat) (s : RSt) : (rdN m s).1.length = m := by
  induction m with
  | zero => rfl
  | succ m ih => simp [rdN, ih]

theorem isInt_lit {n : Int} (h : -9223372036854775808 ≤ n ∧ n ≤ 9223372036854775807) : IsInt n := h

theorem step_append_ints {ops : Array Oper} {o : Oper} {a : Act} {K : Act → World → Prop} {Q : Exit → Act → World → Prop} {E : Prop} (w : World) (hgd : o.guard = none) (s x : Operand)
    (ho : o.op = .call { callee := .builtin .append, args := #[s, x], argTypes := #[22, 22] }) (base : Nat) (v : Value) (xs : List Int) (hs : a.eval s = v) (hown : OwnI w base v xs)
    (B : Nat) (A : Option Addr) (m c : Nat) (news : List Int) (hx : a.eval x = .slice A m c) (hr : HasI w B A news) (hm : news.length = m)
    (hlen : xs.length + m ≤ 17592186044416) (hbase : base ≤ w.heap.size)
    (h : ∀ v' w', OwnI w' base v' (xs ++ news) → w.grownBy w' v.ownBlock → (v'.ownBlock = v.ownBlock ∨ v'.ownBlock = some w.heap.size) → K (a.put o.dst v') w') :
    if Region.wanted o (yielded ops a.tmps) = true then Oper.wp Try.prog o a w K Q else E := by
  rw [if_pos (by simp [Region.wanted, hgd])]
  obtain ⟨v', w', hrun, h2, h3, h4⟩ := run_append_ints w o.type base v xs hown B A m c news hr hm hlen hbase
  exact Lib.wp_append_run w s x 22 22 ho _ _ hs hx v' w' hrun (h v' w' h2 h3 h4)

end Go.Proofs.Ytnngmapphacpkaa
