/-
  Clone of bytes: the same bytes in new memory, or nil. Conditions: the slice reads as bytes, at most 2^47 of them.
-/
import Derived.Test.YtpbfibofjkinmaaAppend
import Derived.Lib.SlBytesConst
set_option linter.unusedSimpArgs false
set_option linter.unusedVariables false
namespace Go.Proofs.Ytpbfibofjkinmaa
open Go.RowKit

/-- What a call that answers a byte slice of new memory leaves. -/
def Makes (xs : List UInt8) (w : World) (e : Ending) (w' : World) : Prop := ∃ v, e = .returned v ∧ Own w' w.heap.size v xs ∧ Below w.heap.size w w'

theorem nil_of_none {w : World} {B : Nat} {xs : List UInt8} (h : Has w B none xs) : xs = [] := by
  rcases Nat.eq_zero_or_pos xs.length with h0 | h0
  · exact List.eq_nil_of_length_eq_zero h0
  · obtain ⟨_, _, e, _⟩ := h 0 h0
    cases e

theorem clone_any (A : Option Addr) (n c B : Nat) (xs : List UInt8) (w : World) (hx : Has w B A xs) (hB : B ≤ w.heap.size) (hn : xs.length = n) (hl : n ≤ 140737488355328) :
    Calls Try.prog 57 #[.slice A n c] w (Makes xs w) := by
  subst hn
  have he := fun (W : World) (a : Option Addr) (n c : Nat) => Lib.run_eql_slice_nil (P := Try.prog) W 32 5 a n c 0 0 Try.underlying32
  rcases A with _ | ad
  · have hx0 := nil_of_none hx
    subst hx0
    go_enter Try.func57, Try.ntmps57
    go_wp2
    go_ret
    exact ⟨_, rfl, Own.nil _ _, Below.refl _ _⟩
  · go_enter Try.func57, Try.ntmps57
    go_wp2_with (at_builtin; refine list_append_bytes _ rfl (.tmp 5) (.tmp 6) rfl w.heap.size _ [] rfl (Own.new w [] _ _ rfl (Nat.le_refl _) (by simp)) B (some ad) xs.length c xs rfl (hx.alloc hB _) rfl (by simp; omega) (by simp) ?_; intro v1 w1 hown1 hg1 hat1)
    go_ret
    exact ⟨v1, rfl, by simpa using hown1, ((Below.refl _ _).alloc (Nat.le_refl _) _).grown hg1 (by simp) (by intro k hk; cases hk; exact Nat.le_refl _)⟩
end Go.Proofs.Ytpbfibofjkinmaa
