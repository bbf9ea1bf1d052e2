/-
  A byte slice that the call itself owns, and what append does to it; Clone of bytes. Conditions: what is appended reads as bytes; at most 2^47 in all.
-/
import Derived.Test.YtnngmapphacpkaaCopy
import Derived.Maps.AppendAt
import Derived.RegionTactic
import Derived.OwnWalk
import Derived.WalkSpells
set_option linter.unusedSimpArgs false
set_option linter.unusedVariables false
namespace Go.Proofs.Ytnngmapphacpkaa
open Go.RowKit

/-- The slice value v holds just xs, in a block of the call's own (from base on), or is nil. -/
def Own (w : World) (base : Nat) (v : Value) (xs : List UInt8) : Prop := w.ownsRow base 5 1 v xs.length (xs.map byt)

theorem Own.nil (w : World) (base : Nat) : Own w base (.slice none 0 0) [] := ⟨rfl, .inl ⟨rfl, rfl⟩⟩
theorem Own.drew {w : World} {base : Nat} {v : Value} {xs : List UInt8} (h : Own w base v xs) : Own w.drew base v xs := h
theorem Own.drewN {w : World} {base : Nat} {v : Value} {xs : List UInt8} (h : Own w base v xs) (n : Nat) : Own (w.drewN n) base v xs := h
theorem Own.alloc {w : World} {base : Nat} {v : Value} {xs : List UInt8} (h : Own w base v xs) (o : Obj) : Own (w.alloc o) base v xs := World.ownsRow.alloc h o
theorem Own.keep {w w' : World} {base : Nat} {v : Value} {xs : List UInt8} (h : Own w base v xs) (hk : ∀ g, v.ownBlock = some g → w'.heap[g]? = w.heap[g]?) : Own w' base v xs := by
  refine ⟨h.1, ?_⟩
  rcases h.2 with h2 | ⟨g, cap, cur, hv, hg, hh, r⟩
  · exact .inl h2
  · exact .inr ⟨g, cap, cur, hv, hg, by rw [hk g (by rw [hv]; rfl)]; exact hh, r⟩
theorem Own.lt {w : World} {base : Nat} {v : Value} {xs : List UInt8} (h : Own w base v xs) : ∀ g, v.ownBlock = some g → base ≤ g ∧ g < w.heap.size := World.ownsRow.lt h
theorem Own.from_ {w : World} {base base' : Nat} {v : Value} {xs : List UInt8} (h : Own w base v xs) (hb : base' ≤ base) : Own w base' v xs := by
  refine ⟨h.1, ?_⟩
  rcases h.2 with h2 | ⟨g, cap, cur, hv, hg, r⟩
  · exact .inl h2
  · exact .inr ⟨g, cap, cur, hv, by omega, r⟩
theorem Own.below {w w' : World} {base : Nat} {v : Value} {xs : List UInt8} (h : Own w base v xs) (hb : Below w.heap.size w w') : Own w' base v xs :=
  h.keep fun g hg => hb.block g (h.lt g hg).2
/-- What it is as a value, and what it reads as. -/
theorem Own.form {w : World} {base : Nat} {v : Value} {xs : List UInt8} (h : Own w base v xs) : ∃ A n c, v = .slice A n c ∧ Hid (xs.length = n) ∧ n ≤ c ∧ Has w w.heap.size A xs ∧ (∀ g, v.ownBlock = some g → A = some ⟨g, 0, none⟩) := by
  rcases h.2 with ⟨hv, hn⟩ | ⟨g, cap, cur, hv, hg, hh, hnc, hm, hcs, ht⟩
  · have hx : xs = [] := List.eq_nil_of_length_eq_zero hn
    subst hx
    exact ⟨none, 0, 0, hv, rfl, Nat.le_refl _, Has.nil _ _ _, fun g hg => by rw [hv] at hg; cases hg⟩
  · refine ⟨some ⟨g, 0, none⟩, xs.length, cap, hv, rfl, hnc, ?_, fun g' hg' => by rw [hv] at hg'; simp [Value.ownBlock] at hg'; rw [hg']⟩
    intro k hk
    refine ⟨g, 0, rfl, lt_of_block hh, ?_⟩
    have h1 : (cur.toList.take (xs.length * 1))[k]? = some (byt xs[k]) := by rw [ht]; simp [hk]
    rw [List.getElem?_take_of_lt (by omega)] at h1
    simp only [World.cell?, hh]
    simpa using h1

/-- A block that holds just these bytes is one's own. -/
theorem Own.new (w : World) (xs : List UInt8) (g base : Nat) (hg : g = w.heap.size) (hb : base ≤ g) (hl : xs.length ≤ 140737488355328) : Own (w.alloc (.cells (bcells xs) 5)) base (.slice (some ⟨g, 0, none⟩) xs.length xs.length) xs := by
  subst hg
  refine ⟨by simp, .inr ⟨w.heap.size, xs.length, bcells xs, rfl, hb, heap_alloc_new w _, Nat.le_refl _, by unfold maxLen; omega, by simp [bcells_size], ?_⟩⟩
  rw [Nat.mul_one, bcells, List.take_of_length_le (by simp)]

end Go.Proofs.Ytnngmapphacpkaa
