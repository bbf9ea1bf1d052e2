/-
  Copy and Same of synodref01: a copy in one new block; whether two slices hold the same bytes. Conditions: the slices read as bytes, at most 2^47 of them.
-/
import Derived.Test.YtnngmapphacpkaaRows
import Derived.Test.YtnngmapphacpkaaWords
import Derived.Deep.QuietTactic
import Derived.BigQuiet
import Derived.Outline
set_option linter.unusedSimpArgs false
set_option linter.unusedVariables false
namespace Go.Proofs.Ytnngmapphacpkaa
open Go.RowKit

theorem byte_info : (Try.prog.info? 5).map (fun i => (i.zero, i.size, i.bytes)) = some (some (Value.int .u8 0), 1, 1) := by kernel_rfl

/-- The block that Copy fills, when k bytes are laid. -/
def mix (xs : List UInt8) (k : Nat) : Array Value := Array.ofFn (n := xs.length) fun i => if i.1 < k then byt (xs[i.1]'i.2) else .int .u8 0

theorem made_mix (xs : List UInt8) : madeCells (Value.int .u8 0).cells (xs.length * 1) = mix xs 0 := by
  apply Array.ext
  · simp [madeCells, mix]
  · intro i h1 h2
    simp [madeCells, mix, Value.cells, Nat.mod_one]
theorem mix_set (xs : List UInt8) (k : Nat) (h : k < xs.length) : (mix xs k).setIfInBounds k (byt xs[k]) = mix xs (k + 1) := by
  apply Array.ext_getElem?
  intro i
  rw [Array.getElem?_setIfInBounds]
  by_cases hi : k = i
  · subst hi
    simp [mix, h]
  · have e : i < k + 1 ↔ i < k := by omega
    simp [mix, hi, e, Array.getElem?_ofFn]
theorem mix_all (xs : List UInt8) : mix xs xs.length = bcells xs := by
  unfold bcells
  apply Array.ext
  · simp [mix]
  · intro i h1 h2
    have : i < xs.length := by simpa [mix] using h1
    simp [mix, this]
theorem mix_get (xs : List UInt8) (k i : Nat) (h : i < xs.length) : ∃ v, (mix xs k)[i]? = some (.int .u8 v) := by
  by_cases hk : i < k
  · exact ⟨(xs[i].toNat : Int), by simp [mix, h, hk, byt]⟩
  · exact ⟨0, by simp [mix, h, hk]⟩

end Go.Proofs.Ytnngmapphacpkaa
