/-
  The other calls of pack's writer: NewWriter, Int, Text, Bytes; and all of them of a nil writer. Conditions: at most 2^47 bytes in all.
-/
import Derived.Test.YtnngmapphacpkaaWriter
set_option linter.unusedSimpArgs false
set_option linter.unusedVariables false
namespace Go.Proofs.Ytnngmapphacpkaa
open Go.RowKit

/-- A slice that lies in none of these blocks. -/
def Off (F : Nat → Prop) (A : Option Addr) (ys : List UInt8) : Prop := ∀ a, A = some a → ys ≠ [] → ¬ F a.block
theorem Has.kept {F : Nat → Prop} {w w' : World} {B : Nat} {A : Option Addr} {ys : List UInt8} (h : Has w B A ys) (hB : B ≤ w.heap.size) (hk : Kept F w w') (hd : Off F A ys) : Has w' B A ys := by
  intro k hlt
  obtain ⟨b, o, hA, hb, hc⟩ := h k hlt
  have hne : ys ≠ [] := by rintro rfl; simp at hlt
  exact ⟨b, o, hA, hb, (World.cell?_of_block (w := w) (a := ⟨b, o + k, none⟩) (hk.block b (by omega) (hd _ hA hne))).trans hc⟩
theorem Off.low {F : Nat → Prop} {w : World} {B : Nat} {A : Option Addr} {ys : List UInt8} (h : Has w B A ys) (hF : ∀ k, F k → B ≤ k) : Off F A ys := by
  intro a hA hne hF'
  obtain ⟨b, o, e, hb, _⟩ := h 0 (List.length_pos_iff.2 hne)
  rw [e] at hA
  injection hA with hA
  subst hA
  have := hF _ hF'
  simp at this
  omega

end Go.Proofs.Ytnngmapphacpkaa
