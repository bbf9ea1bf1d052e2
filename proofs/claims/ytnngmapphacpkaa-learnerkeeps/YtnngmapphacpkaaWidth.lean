/-
  Len64 of math/bits as the library's contract gives it, width, Size, fold and unfold of pack, Fold and Unfold of synodref01. Conditions: the number is one of 64 bits.
-/
import Derived.Shelf.Strconv.Itoa0
import Derived.Test.YtnngmapphacpkaaRows
import Derived.Test.YtnngmapphacpkaaEnc
set_option linter.unusedSimpArgs false
set_option linter.unusedVariables false
namespace Go.Proofs.Ytnngmapphacpkaa
open Go.Shelf Go.RowKit

theorem aux_bounds : ∀ (f x : Nat), x < 2 ^ f → x ≠ 0 → 1 ≤ Lib.bitLenAux f x ∧ 2 ^ (Lib.bitLenAux f x - 1) ≤ x ∧ x < 2 ^ Lib.bitLenAux f x := by
  intro f
  induction f with
  | zero => intro x h h0; simp at h; omega
  | succ f ih =>
    intro x h h0
    rw [Lib.bitLenAux, if_neg h0]
    by_cases h2 : x / 2 = 0
    · have hx : x = 1 := by omega
      have e : Lib.bitLenAux f (x / 2) = 0 := by rw [h2]; cases f <;> simp [Lib.bitLenAux]
      rw [e, hx]
      simp
    · rw [Nat.pow_succ] at h
      obtain ⟨a, b, c⟩ := ih (x / 2) (by omega) h2
      generalize Lib.bitLenAux f (x / 2) = l at *
      obtain ⟨m, rfl⟩ : ∃ m, l = m + 1 := ⟨l - 1, by omega⟩
      have e1 : 1 + (m + 1) - 1 = m + 1 := by omega
      have e2 : 1 + (m + 1) = m + 1 + 1 := by omega
      rw [e1, e2]
      simp only [Nat.add_sub_cancel, Nat.pow_succ] at *
      omega

theorem bitLen_bw (u : Nat) (h : u < 18446744073709551616) : (Lib.bitLen u + 7) / 8 = bw u ∧ Lib.bitLen u ≤ 64 := by
  have h64 : Lib.bitLen u ≤ 64 := Lib.bitLen_le u 64 (by omega) (by simpa using h)
  refine ⟨?_, h64⟩
  by_cases h0 : u = 0
  · subst h0; rfl
  · obtain ⟨h1, h2, h3⟩ := aux_bounds 64 u (by simpa using h) h0
    have e : Lib.bitLenAux 64 u = Lib.bitLen u := rfl
    rw [e] at h1 h2 h3
    generalize Lib.bitLen u = l at *
    have key : ∀ k, u < 2 ^ k ↔ l ≤ k := by
      intro k
      constructor
      · intro hu
        rcases Nat.lt_or_ge k l with hl | hl
        · have := Nat.pow_le_pow_right (show 0 < 2 by omega) (show k ≤ l - 1 by omega)
          omega
        · exact hl
      · intro hl
        have := Nat.pow_le_pow_right (show 0 < 2 by omega) hl
        omega
    have k1 := key 8
    have k2 := key 16
    have k3 := key 24
    have k4 := key 32
    have k5 := key 40
    have k6 := key 48
    have k7 := key 56
    simp only [Nat.reducePow] at k1 k2 k3 k4 k5 k6 k7
    clear key h2 h3 e
    unfold bw
    repeat' split
    all_goals omega

/-- A number with a sign as one without. -/
def zig (i : Int) : Nat := if i < 0 then (2 * (-i - 1) + 1).toNat else (2 * i).toNat
/-- The way back. -/
def zag (u : Nat) : Int := if u % 2 = 1 then -((u / 2 : Nat) : Int) - 1 else ((u / 2 : Nat) : Int)
/-- A number of an int. -/
def IsInt (i : Int) : Prop := -9223372036854775808 ≤ i ∧ i ≤ 9223372036854775807
theorem zig_lt {i : Int} (h : IsInt i) : zig i < 18446744073709551616 := by
  unfold zig; unfold IsInt at h; split <;> omega
theorem zag_zig {i : Int} (h : IsInt i) : zag (zig i) = i := by
  unfold zag zig; unfold IsInt at h; split <;> split <;> omega
theorem bits_not (i : Int) (h : IsInt i) : bits .xor .i64 (-1) i = -i - 1 := by
  unfold IsInt at h
  show IntKind.i64.wrap ((BitVec.ofInt 64 (-1) ^^^ BitVec.ofInt 64 i).toNat : Int) = _
  have e1 : BitVec.ofInt 64 (-1) = BitVec.allOnes 64 := by decide
  rw [e1, BitVec.allOnes_xor, BitVec.toNat_not, BitVec.toNat_ofInt, IntKind.wrap_i64]
  omega
theorem zig_neg {i : Int} (h : IsInt i) (h0 : i < 0) : IntKind.u64.wrap (IntKind.u64.wrap (2 * IntKind.u64.wrap (bits .xor .i64 (-1) i)) + 1) = (zig i : Int) := by
  rw [bits_not i h]
  unfold IsInt at h
  unfold zig
  rw [if_pos h0]
  simp only [IntKind.wrap_u64]
  omega
theorem zig_pos {i : Int} (h : IsInt i) (h0 : 0 ≤ i) : IntKind.u64.wrap (2 * IntKind.u64.wrap i) = (zig i : Int) := by
  unfold IsInt at h
  unfold zig
  rw [if_neg (by omega)]
  simp only [IntKind.wrap_u64]
  omega
theorem ret_num {k : IntKind} {a b : Int} (h : a = b) : Ending.returned (.int k a) = .returned (.int k b) := by rw [h]
theorem zig_neg2 {i : Int} (h : IsInt i) (h0 : i < 0) : IntKind.u64.wrap (IntKind.u64.wrap (2 * IntKind.u64.wrap (wrap64 (-wrap64 (i + 1)))) + 1) = (zig i : Int) := by
  unfold IsInt at h
  unfold zig wrap64
  rw [if_pos h0]
  simp only [IntKind.wrap_u64]
  omega
theorem half_wrap {u : Nat} (h : u < 18446744073709551616) : wrap64 (IntKind.u64.wrap ((u : Int) / 2)) = ((u / 2 : Nat) : Int) := by
  unfold wrap64
  simp only [IntKind.wrap_u64]
  omega
theorem zag_odd {u : Nat} (h : u < 18446744073709551616) (h0 : u % 2 = 1) : bits .xor .i64 (-1) (wrap64 (IntKind.u64.wrap ((u : Int) / 2))) = zag u := by
  rw [half_wrap h, bits_not _ (by unfold IsInt; omega)]
  unfold zag
  rw [if_pos h0]
theorem zag_odd2 {u : Nat} (h : u < 18446744073709551616) (h0 : u % 2 = 1) : wrap64 (wrap64 (-wrap64 (IntKind.u64.wrap ((u : Int) / 2))) - 1) = zag u := by
  rw [half_wrap h]
  unfold zag wrap64
  rw [if_pos h0]
  omega
theorem zag_even {u : Nat} (h : u < 18446744073709551616) (h0 : ¬ u % 2 = 1) : wrap64 (IntKind.u64.wrap ((u : Int) / 2)) = zag u := by
  rw [half_wrap h]
  unfold zag
  rw [if_neg h0]
end Go.Proofs.Ytnngmapphacpkaa
