/-
  One end of a link in memory; New, Waiting, oldest. No condition.
-/
import Derived.Test.YtpbfibofjkinmaaLinkA
import Derived.Test.YtpbfibofjkinmaaInts
import Derived.Maps.OwnSet
set_option linter.unusedSimpArgs false
set_option linter.unusedVariables false
namespace Go.Proofs.Ytpbfibofjkinmaa
open Go.RowKit Go.Maps

/-- The map in block b holds just the numbers S, n at most. -/
def IntSet (w : World) (b n : Nat) (S : Int → Bool) : Prop := ∃ D : DataW Unit, w.ownsMap Try.prog 3 (unitElem (H := Unit)) b n D ∧ ∀ x, Maps.has D (.int .i64 x) = S x
theorem IntSet.lt {w : World} {b n : Nat} {S : Int → Bool} (h : IntSet w b n S) : b < w.heap.size := by
  obtain ⟨D, ho, _⟩ := h
  exact ho.lt
theorem IntSet.keep {w w' : World} {b n : Nat} {S : Int → Bool} (h : IntSet w b n S) (e : w'.heap[b]? = w.heap[b]?) : IntSet w' b n S := by
  obtain ⟨D, ⟨es, cl, h1, h2⟩, hh⟩ := h
  exact ⟨D, ⟨es, cl, e.trans h1, h2⟩, hh⟩
/-- The value mv is a map of the call's own that holds just the numbers S, or is nil and S is empty. -/
def SetIs (w : World) (base n : Nat) (mv : Value) (S : Int → Bool) : Prop := (mv = .map none ∧ ∀ x, S x = false) ∨ ∃ b, mv = .map (some b) ∧ base ≤ b ∧ IntSet w b n S
def mapBlock : Value → Option Nat
  | .map b => b
  | _ => none
theorem SetIs.lt {w : World} {base n : Nat} {mv : Value} {S : Int → Bool} (h : SetIs w base n mv S) : ∀ b, mapBlock mv = some b → base ≤ b ∧ b < w.heap.size := by
  intro b hb
  rcases h with ⟨rfl, _⟩ | ⟨b', rfl, h1, h2⟩
  · cases hb
  · injection hb with hb
    subst hb
    exact ⟨h1, h2.lt⟩
theorem SetIs.keep {w w' : World} {base n : Nat} {mv : Value} {S : Int → Bool} (h : SetIs w base n mv S) (hk : ∀ b, mapBlock mv = some b → w'.heap[b]? = w.heap[b]?) : SetIs w' base n mv S := by
  rcases h with h | ⟨b, rfl, h1, h2⟩
  · exact .inl h
  · exact .inr ⟨b, rfl, h1, h2.keep (hk b rfl)⟩

/-- What one end of a link holds. -/
structure Lk where
  life : Int
  retry : Int
  last : Int
  ls : List Ltr
  pl : Int
  all : Int
  S : Int → Bool
  ds : List Int
  cnt : Nat

/-- Block g is the end k; all its blocks lie from base on. -/
structure IsK (w : World) (base g : Nat) (wv mv dv : Value) (k : Lk) : Prop where
  blk : w.heap[g]? = some (.cells #[.int .i64 k.life, .int .i64 k.retry, .int .i64 k.last, wv, .int .i64 k.pl, .int .i64 k.all, mv, dv] 89 (0, 0))
  bg : base ≤ g
  row : OwnR w base 93 4 wv (k.ls.map Ltr.cells)
  dat : ∀ l ∈ k.ls, Own w base l.sl l.xs ∧ l.xs.length ≤ 65472
  set : SetIs w base k.cnt mv k.S
  due : OwnI w base dv k.ds
  len : k.ls.length ≤ 4096
  dsl : k.ds.length ≤ 4096

def clampB (x hi : Int) : Int := min (max x 1) hi
/-- An end that has just begun. -/
def Lk.new (boot retry : Int) : Lk := ⟨clampB boot 1099511627776, clampB retry 1048576, 0, [], 0, 0, fun _ => false, [], 0⟩

theorem lnew_close {b r L R : Int} (w : World) (h1 : L = clampB b 1099511627776) (h2 : R = clampB r 1048576) :
    IsK (w.alloc (.cells #[.int .i64 L, .int .i64 R, .int .i64 0, .slice none 0 0, .int .i64 0, .int .i64 0, .map none, .slice none 0 0] 89)) w.heap.size w.heap.size (.slice none 0 0) (.map none) (.slice none 0 0) (Lk.new b r) := by
  subst h1 h2
  exact ⟨heap_alloc_new w _, Nat.le_refl _, OwnR.nil _ _ _ _, by simp [Lk.new], .inl ⟨rfl, fun _ => rfl⟩, ⟨rfl, .inl ⟨rfl, rfl⟩⟩, by simp [Lk.new], by simp [Lk.new]⟩

theorem lnew_any (b r : Int) (w : World) : Calls Try.prog 35 #[.int .i64 b, .int .i64 r] w fun e w' => e = .returned (.pointer (some ⟨w.heap.size, 0, none⟩)) ∧ IsK w' w.heap.size w.heap.size (.slice none 0 0) (.map none) (.slice none 0 0) (Lk.new b r) ∧ Below w.heap.size w w' := by
  go_enter Try.func35, Try.ntmps35
  go_wp2
  all_goals go_ret
  all_goals exact ⟨rfl, lnew_close w (by unfold clampB; omega) (by unfold clampB; omega), by go_grown⟩
end Go.Proofs.Ytpbfibofjkinmaa
