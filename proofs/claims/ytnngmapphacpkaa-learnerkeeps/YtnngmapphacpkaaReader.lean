/-
  The reader of pack: what it holds in memory, and what each of its calls answers and leaves. Conditions: at most 2^47 bytes.
-/
import Derived.Test.YtnngmapphacpkaaWriterCalls
import Derived.ScopeJumps
import Derived.WalkMore
import Derived.Laws.ByValue
set_option linter.unusedSimpArgs false
set_option linter.unusedVariables false
namespace Go.Proofs.Ytnngmapphacpkaa
open Go.RowKit

/-- A scope in which the run jumps once, forward, to one label. -/
theorem wp_scope_forward {P : Program} {a : Act} {w : World} {Q : Exit → Act → World → Prop} {c rest : Code} (l : Nat) (hf : findLabel c l = some rest)
    (first : c.wp P (Exit.jump l (fun a' w' => rest.wp P (Exit.noGoto Q) a' w') Q) a w) : (Code.scope c).wp P Q a w := by
  refine wp_scope_jumps l _ (fun _ _ => 0) hf first ?_
  intro a' w' hJ
  refine Code.wp_mono ?_ hJ
  intro e a'' w'' h
  cases e <;> first | exact h | exact absurd h (by simp [Exit.noGoto])

theorem two_set0 {w : World} {g : Nat} {x y u : Value} {t : TypeId} (h : w.heap[g]? = some (.cells #[x, y] t (0, 0))) : (w.setCell ⟨g, 0, none⟩ u).heap[g]? = some (.cells #[u, y] t (0, 0)) := by
  simp [World.setCell, Array.getElem?_modify, h]
theorem two_set1 {w : World} {g : Nat} {x y u : Value} {t : TypeId} (h : w.heap[g]? = some (.cells #[x, y] t (0, 0))) : (w.setCell ⟨g, 1, none⟩ u).heap[g]? = some (.cells #[x, u] t (0, 0)) := by
  simp [World.setCell, Array.getElem?_modify, h]
theorem two_cell0 {w : World} {g : Nat} {x y : Value} {t : TypeId} (h : w.heap[g]? = some (.cells #[x, y] t (0, 0))) : w.cell? ⟨g, 0, none⟩ = some x := by simp [World.cell?, h]
theorem two_cell1 {w : World} {g : Nat} {x y : Value} {t : TypeId} (h : w.heap[g]? = some (.cells #[x, y] t (0, 0))) : w.cell? ⟨g, 1, none⟩ = some y := by simp [World.cell?, h]
theorem two_free {w : World} {g i : Nat} {x y : Value} {t : TypeId} (h : w.heap[g]? = some (.cells #[x, y] t (0, 0))) : w.frozen? ⟨g, i, none⟩ = false := by simp [World.frozen?, h]

/-- Bytes in other blocks than g stay where only g turns. -/
theorem Has.apart {w w' : World} {B g : Nat} {A : Option Addr} {xs : List UInt8} (h : Has w B A xs) (hB : B ≤ w.heap.size) (hk : Kept (fun k => k = g) w w') (hd : A.map (·.block) ≠ some g) : Has w' B A xs :=
  h.kept hB hk (fun a e _ hf => hd (by rw [e]; simp [hf]))

end Go.Proofs.Ytnngmapphacpkaa
