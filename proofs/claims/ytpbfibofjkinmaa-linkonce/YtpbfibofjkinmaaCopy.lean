/-
  Copy and Same of synodref01: a copy in one new block; whether two slices hold the same bytes. Conditions: the slices read as bytes, at most 2^47 of them.
-/
import Derived.Test.YtpbfibofjkinmaaRows
import Derived.Test.YtpbfibofjkinmaaWords
import Derived.Deep.QuietTactic
import Derived.BigQuiet
import Derived.Outline
set_option linter.unusedSimpArgs false
set_option linter.unusedVariables false
namespace Go.Proofs.Ytpbfibofjkinmaa
open Go.RowKit

theorem byte_info : (Try.prog.info? 5).map (fun i => (i.zero, i.size, i.bytes)) = some (some (Value.int .u8 0), 1, 1) := by kernel_rfl

/-- The block that Copy fills, when k bytes are laid. -/
def mix (xs : List UInt8) (k : Nat) : Array Value := Array.ofFn (n := xs.length) fun i => if i.1 < k then byt (xs[i.1]'i.2) else .int .u8 0

theorem made_mix (xs : List UInt8) : madeCells (Value.int .u8 0).cells (xs.length * 1) = mix xs 0 := by
  apply Array.ext
  · simp [madeCells, mix]
  · intro i h1 h2
    simp [madeCells, mix, Value.cells, Nat.mod_one]
theorem mix_set (xs : List UInt8) (k : Nat) (h : k < xs.length) : (mix xs k).setIfInBounds k (byt xs[k]) = mix xs (k + 1) := by
  apply Array.ext_getElem?
  intro i
  rw [Array.getElem?_setIfInBounds]
  by_cases hi : k = i
  · subst hi
    simp [mix, h]
  · have e : i < k + 1 ↔ i < k := by omega
    simp [mix, hi, e, Array.getElem?_ofFn]
theorem mix_all (xs : List UInt8) : mix xs xs.length = bcells xs := by
  unfold bcells
  apply Array.ext
  · simp [mix]
  · intro i h1 h2
    have : i < xs.length := by simpa [mix] using h1
    simp [mix, this]
theorem mix_get (xs : List UInt8) (k i : Nat) (h : i < xs.length) : ∃ v, (mix xs k)[i]? = some (.int .u8 v) := by
  by_cases hk : i < k
  · exact ⟨(xs[i].toNat : Int), by simp [mix, h, hk, byt]⟩
  · exact ⟨0, by simp [mix, h, hk]⟩

set_option maxHeartbeats 400000 in
theorem copy_any (A : Option Addr) (n c : Nat) (xs : List UInt8) (w : World) (hx : Has w w.heap.size A xs) (hxn : xs.length = n) (hn : n ≤ 140737488355328) :
    Calls Try.prog 22 #[.slice A n c] w fun e w' => e = .returned (.slice (some ⟨w.heap.size, 0, none⟩) n n) ∧ w.alloc (.cells (bcells xs) 5) = w' := by
  subst hxn
  obtain ⟨i0, hi0, hz0, hz1, hz2⟩ := info_parts byte_info
  have hmk := fun W => run_make (P := Try.prog) W 32 5 i0 (.int .u8 0) Try.underlying32 hi0 hz0 .i64 .i64 xs.length xs.length (by omega) (by omega) (by rw [hz2]; omega) (by omega)
  simp only [Int.toNat_natCast, hz1, made_mix] at hmk
  go_enter Try.func22, Try.ntmps22
  go_wp2
  clear hmk
  go_loopw [10] (fun i wr => ∃ k : Nat, k ≤ xs.length ∧ i = .int .i64 k ∧ wr = w.alloc (.cells (mix xs k) 5)) (fun i _ => xs.length - (intOf i).toNat)
  case atStart => exact ⟨0, Nat.zero_le _, rfl, rfl⟩
  case round =>
    obtain ⟨k, hk, rfl, rfl⟩ := hrel
    by_cases hlt : k < xs.length
    · obtain ⟨b, o, rfl, hb, hc⟩ := hx k hlt
      have hbne : w.heap.size ≠ b := by omega
      obtain ⟨v, hv⟩ := mix_get xs k k hlt
      have hs := mix_set xs k hlt
      have HS := hs
      clear hs
      unfold byt at hc HS
      go_wp2
      go_roundw
      case rel => exact ⟨k + 1, by omega, by go_num, rfl⟩
      case measure => simp [intOf]; omega
    · go_wp2
      go_ret
      have e : k = xs.length := by omega
      subst e
      exact ⟨rfl, by rw [mix_all]⟩
end Go.Proofs.Ytpbfibofjkinmaa
