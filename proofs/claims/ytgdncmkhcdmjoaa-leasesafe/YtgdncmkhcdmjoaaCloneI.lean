/-
  slices.Clone of a slice of int. Condition: what is read is in reach.
-/
import Derived.Test.YtgdncmkhcdmjoaaInts
import Derived.Lib.AppendZerosOnto
set_option linter.unusedSimpArgs false
set_option linter.unusedVariables false
namespace Go.Proofs.Ytgdncmkhcdmjoaa
open Go.RowKit

theorem nilI' {w : World} {B : Nat} {ns : List Int} (h : HasI w B none ns) : ns = [] := by
  rcases Nat.eq_zero_or_pos ns.length with h0 | h0
  · exact List.eq_nil_of_length_eq_zero h0
  · obtain ⟨_, _, e, _⟩ := h 0 h0
    cases e
theorem cloneI_any' (A : Option Addr) (n c B : Nat) (ns : List Int) (w : World) (hx : HasI w B A ns) (hB : B ≤ w.heap.size) (hn : ns.length = n) (hl : n ≤ 17592186044416) :
    Calls Try.prog 41 #[.slice A n c] w fun e w' => ∃ v, e = .returned v ∧ OwnI w' w.heap.size v ns ∧ Below w.heap.size w w' := by
  have he := fun (W : World) (a : Option Addr) (n c : Nat) => Lib.run_eql_slice_nil (P := Try.prog) W 22 3 a n c 0 0 Try.underlying22
  rcases A with _ | ad
  · have hx0 := nilI' hx
    subst hx0
    go_enter Try.func41, Try.ntmps41
    go_wp2
    go_ret
    exact ⟨_, rfl, OwnI.nil _ _, Below.refl _ _⟩
  · obtain ⟨v1, wa, hr1, hown1, hba⟩ := run_copy_ints w 22 (some ad) n c B ns hx hn hl hB
    have HR := hide hr1
    clear hr1
    go_enter Try.func41, Try.ntmps41
    go_wp2_with (at_builtin; refine list_append_want _ (by rfl) (.tmp 5) (.tmp 6) 22 22 rfl _ _ rfl rfl _ _ HR.out ?_)
    go_ret
    exact ⟨v1, rfl, hown1, hba⟩
end Go.Proofs.Ytgdncmkhcdmjoaa
