/-
  The sum of seal, as plain mathematics: one step, the sum of a list of bytes, and that a step loses nothing. No condition.
-/
import Derived.Test.YtofdjpophacldaaWords
import Derived.Laws.BitsAllLaws
import Derived.Laws.Bits64
namespace Go.Proofs.Ytofdjpophacldaa
open Go.RowKit

/-- One byte taken into a sum. -/
def fstep (h : UInt64) (c : UInt8) : UInt64 := (h ^^^ c.toUInt64) * 1099511628211
/-- The sum goes on over xs. -/
def fsum (h : UInt64) (xs : List UInt8) : UInt64 := xs.foldl fstep h
def basis : UInt64 := 14695981039346656037
/-- A number of 64 bits, as a slot holds it. -/
def u64v (h : UInt64) : Value := .int .u64 (h.toNat : Int)

theorem fsum_append (h : UInt64) (xs ys : List UInt8) : fsum h (xs ++ ys) = fsum (fsum h xs) ys := by simp [fsum]
theorem fsum_take (h : UInt64) (xs : List UInt8) (k : Nat) (hk : k < xs.length) : fsum h (xs.take (k + 1)) = fstep (fsum h (xs.take k)) xs[k] := by
  rw [List.take_succ_eq_append_getElem hk, fsum_append]; rfl

theorem fstep_int (h : UInt64) (c : UInt8) : IntKind.u64.wrap (bits .xor .u64 (h.toNat : Int) (c.toNat : Int) * 1099511628211) = ((fstep h c).toNat : Int) := by
  have h1 := h.toNat_lt
  have h2 := c.toNat_lt
  rw [u64_xor_nat _ _ (by omega) (by omega), IntKind.wrap_u64]
  unfold fstep
  rw [UInt64.toNat_mul, UInt64.toNat_xor]
  have e : c.toUInt64.toNat = c.toNat := by simp
  rw [e]
  generalize h.toNat ^^^ c.toNat = z
  have e3 : (1099511628211 : UInt64).toNat = 1099511628211 := rfl
  rw [e3]
  omega

theorem wrap_byte (c : UInt8) : IntKind.u64.wrap (c.toNat : Int) = (c.toNat : Int) := by
  have := c.toNat_lt
  rw [IntKind.wrap_u64]; omega
theorem fstep_val (h : UInt64) (c : UInt8) : Value.int .u64 (IntKind.u64.wrap (bits .xor .u64 (h.toNat : Int) (IntKind.u64.wrap (c.toNat : Int)) * 1099511628211)) = Value.int .u64 ((fstep h c).toNat : Int) := by
  rw [wrap_byte, fstep_int]

theorem mul_inj (a b : UInt64) (e : a * 1099511628211 = b * 1099511628211) : a = b := by
  have e1 : a * 1099511628211 * 14886173955864302971 = b * 1099511628211 * 14886173955864302971 := by rw [e]
  rw [UInt64.mul_assoc, UInt64.mul_assoc, show (1099511628211 : UInt64) * 14886173955864302971 = 1 from by decide, UInt64.mul_one, UInt64.mul_one] at e1
  exact e1

/-- A step takes two sums apart that were apart. -/
theorem fstep_inj (h k : UInt64) (c : UInt8) (e : fstep h c = fstep k c) : h = k :=
  UInt64.xor_left_inj (c.toUInt64) |>.1 (mul_inj _ _ e)
/-- And two bytes that were apart. -/
theorem fstep_byte (h : UInt64) (c d : UInt8) (e : fstep h c = fstep h d) : c = d := by
  have e1 := UInt64.xor_right_inj h |>.1 (mul_inj _ _ e)
  have e2 : c.toUInt64.toNat = d.toUInt64.toNat := by rw [e1]
  exact UInt8.toNat_inj.1 (by simpa using e2)
theorem fsum_inj (xs : List UInt8) : ∀ h k : UInt64, fsum h xs = fsum k xs → h = k := by
  induction xs with
  | nil => intro h k e; exact e
  | cons c t ih => intro h k e; exact fstep_inj _ _ c (ih _ _ e)
theorem fsum_mid (h : UInt64) (xs ys : List UInt8) (a : UInt8) : fsum h (xs ++ a :: ys) = fsum (fstep (fsum h xs) a) ys := by simp [fsum]
/-- One byte alone makes another sum. -/
theorem fsum_set (h : UInt64) (xs : List UInt8) (i : Nat) (hi : i < xs.length) (c : UInt8) : fsum h (xs.set i c) = fsum h xs ↔ xs[i] = c := by
  constructor
  · intro e
    have e1 : xs.set i c = xs.take i ++ c :: xs.drop (i + 1) := by rw [List.set_eq_take_append_cons_drop, if_pos hi]
    have e2 : fsum h xs = fsum (fstep (fsum h (xs.take i)) xs[i]) (xs.drop (i + 1)) := by
      rw [← fsum_mid, List.getElem_cons_drop, List.take_append_drop]
    rw [e1, fsum_mid, e2] at e
    exact (fstep_byte _ _ _ (fsum_inj _ _ _ e)).symm
  · intro e; rw [← e]; simp
end Go.Proofs.Ytofdjpophacldaa
