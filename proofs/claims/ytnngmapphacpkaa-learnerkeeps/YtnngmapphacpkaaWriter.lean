/-
  The writer of pack: what it holds in memory, and what each of its calls does to it. Conditions: at most 2^47 bytes in all.
-/
import Derived.Test.YtnngmapphacpkaaClone
import Derived.Test.YtnngmapphacpkaaWidth
import Derived.Deep.RegionHeld3
import Derived.Deep.DrawnRows
import Derived.Deep.RegionLaw
set_option linter.unusedSimpArgs false
set_option linter.unusedVariables false
namespace Go.Proofs.Ytnngmapphacpkaa
open Go.RowKit

attribute [local go_sem ↓] Go.wp_at_zero Go.wp_at_succ

/-- The blocks of a writer. -/
def Foot (g : Nat) (b : Option Nat) : Nat → Prop := fun k => k = g ∨ b = some k

/-- Where the slice of a writer lies behind two steps. -/
theorem foot_step {g n : Nat} {b b' : Option Nat} (h : b' = b ∨ ∃ k, b' = some k ∧ n ≤ k) : ∀ k, Foot g b' k → Foot g b k ∨ n ≤ k := by
  intro k hk
  rcases hk with rfl | hk
  · exact .inl (.inl rfl)
  · rcases h with rfl | ⟨j, hj, hn⟩
    · exact .inl (.inr hk)
    · rw [hj] at hk
      injection hk with hk
      subst hk
      exact .inr hn
theorem lies_step {n m : Nat} {a b c : Option Nat} (h : b = a ∨ ∃ k, b = some k ∧ n ≤ k) (h' : c = b ∨ ∃ k, c = some k ∧ m ≤ k) (hnm : n ≤ m) : c = a ∨ ∃ k, c = some k ∧ n ≤ k := by
  rcases h' with rfl | ⟨k, hk, hm⟩
  · exact h
  · exact .inr ⟨k, hk, by omega⟩
theorem wrap_u8_of (n : Nat) : IntKind.u8.wrap (n : Int) = ((UInt8.ofNat n).toNat : Int) := by
  rw [IntKind.wrap_u8]; simp
/-- The lowest byte of a number shifted down by whole bytes. -/
theorem wrap_shr8 (u i : Nat) : IntKind.u8.wrap ((u : Int) / 2 ^ (8 * (i : Int)).toNat) = ((UInt8.ofNat (u / 256 ^ i)).toNat : Int) := by
  have e1 : (8 * (i : Int)).toNat = 8 * i := by omega
  have e2 : (2 : Int) ^ (8 * i) = ((256 ^ i : Nat) : Int) := by
    rw [Int.pow_mul]; norm_cast
  rw [e1, e2, ← Int.natCast_ediv, wrap_u8_of]

end Go.Proofs.Ytnngmapphacpkaa
