/-
  Slices of byte slices that the call itself owns, each piece in the call's own memory. Conditions: at most 2^40 pieces.
-/
import Derived.Test.YtnngmapphacpkaaAppend
import Derived.Test.YtnngmapphacpkaaClone
set_option linter.unusedSimpArgs false
set_option linter.unusedVariables false
namespace Go.Proofs.Ytnngmapphacpkaa
open Go.RowKit

/-- A piece: where it lies, its capacity, its bytes. -/
structure Piece where
  spot : Option Addr
  len : Nat
  cap : Nat
  bs : List UInt8
def Piece.val (p : Piece) : Value := .slice p.spot p.len p.cap
/-- The slice of slices that begins at A holds these pieces, all of it in blocks below B. -/
def HasP (w : World) (B : Nat) (A : Option Addr) (ps : List Piece) : Prop :=
  ∀ k (h : k < ps.length), (∃ b o, A = some ⟨b, o, none⟩ ∧ b < B ∧ w.cell? ⟨b, o + k, none⟩ = some ps[k].val) ∧ Has w B ps[k].spot ps[k].bs ∧ ps[k].bs.length = ps[k].len ∧ ps[k].len ≤ 140737488355328
theorem HasP.below {w w' : World} {B : Nat} {A : Option Addr} {ps : List Piece} (h : HasP w B A ps) (hb : Below B w w') : HasP w' B A ps := by
  intro k hk
  obtain ⟨⟨b, o, hA, hlt, hc⟩, h2, h3⟩ := h k hk
  exact ⟨⟨b, o, hA, hlt, (hb.cell (p := ⟨b, o + k, none⟩) hlt).trans hc⟩, h2.below hb, h3⟩
theorem ownsRow_typed {w : World} {base k n : Nat} {e : TypeId} {v : Value} {cs : List Value} (h : w.ownsRow base e k v n cs) : ∀ g, v.ownBlock = some g → ∃ cur, w.heap[g]? = some (.cells cur e (0, 0)) := by
  intro g hg
  rcases h.2 with ⟨hv, _⟩ | ⟨g', cap, cur, hv, _, hh, _⟩
  · rw [hv] at hg; cases hg
  · rw [hv] at hg; cases hg; exact ⟨cur, hh⟩
theorem Own.has {w : World} {base : Nat} {v : Value} {xs : List UInt8} (h : Own w base v xs) : ∃ A n c, v = .slice A n c ∧ Has w w.heap.size A xs ∧ xs.length = n := by
  obtain ⟨A, n, c, e, h1, _, h2, _⟩ := h.form
  exact ⟨A, n, c, e, h2, h1.out⟩
end Go.Proofs.Ytnngmapphacpkaa
