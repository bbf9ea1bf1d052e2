/-
  What is read one by one (a slice of Take): how it lies in memory. No condition.
-/
import Derived.Test.YtofdjpophacldaaRefRead
namespace Go.Proofs.Ytofdjpophacldaa
open Go.RowKit

/-- The slice of Takes that begins at A holds these, all of it in blocks below B. -/
def HasT (w : World) (B : Nat) (A : Option Addr) (ts : List (Int × Int)) : Prop :=
  ∀ i (h : i < ts.length), (∃ b o, A = some ⟨b, o, none⟩ ∧ b < B ∧ w.cell? ⟨b, o + i * 2, none⟩ = some (.int .i64 ts[i].1) ∧ w.cell? ⟨b, o + i * 2 + 1, none⟩ = some (.int .i64 ts[i].2)) ∧ IsInt ts[i].1 ∧ IsInt ts[i].2
end Go.Proofs.Ytofdjpophacldaa
