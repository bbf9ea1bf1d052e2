/-
  The form of a number in bytes, as plain mathematics: how many bytes it has, its bytes with the highest first, and the way back. No condition.
-/
import Derived.Test.YtnngmapphacpkaaWords
set_option linter.unusedSimpArgs false
set_option linter.unusedVariables false
namespace Go.Proofs.Ytnngmapphacpkaa

/-- The n lowest bytes of u, the highest first. -/
def be : Nat → Nat → List UInt8
  | 0, _ => []
  | n + 1, u => UInt8.ofNat (u / 256 ^ n) :: be n u
/-- How many bytes a number below 2^64 has. -/
def bw (u : Nat) : Nat := if u = 0 then 0 else if u < 256 then 1 else if u < 65536 then 2 else if u < 16777216 then 3 else if u < 4294967296 then 4 else if u < 1099511627776 then 5 else if u < 281474976710656 then 6 else if u < 72057594037927936 then 7 else 8
/-- A number as it is written. -/
def enc (u : Nat) : List UInt8 := UInt8.ofNat (bw u) :: be (bw u) u
/-- The number that bytes are, the highest first. -/
def val (xs : List UInt8) : Nat := xs.foldl (fun a c => 256 * a + c.toNat) 0

theorem be_length (n u : Nat) : (be n u).length = n := by
  induction n with
  | zero => rfl
  | succ n ih => simp [be, ih]
theorem bw_le (u : Nat) : bw u ≤ 8 := by
  unfold bw; repeat' split
  all_goals omega
theorem enc_length (u : Nat) : (enc u).length = bw u + 1 := by simp [enc, be_length]
/-- The last byte taken off. -/
theorem be_snoc (n u : Nat) : be (n + 1) u = be n (u / 256) ++ [UInt8.ofNat u] := by
  induction n with
  | zero => simp [be]
  | succ n ih =>
    rw [be, ih, be]
    simp only [List.cons_append]
    congr 2
    rw [Nat.div_div_eq_div_mul, Nat.pow_succ, Nat.mul_comm]
theorem val_snoc (xs : List UInt8) (c : UInt8) : val (xs ++ [c]) = 256 * val xs + c.toNat := by simp [val]
theorem val_be (n u : Nat) : val (be n u) = u % 256 ^ n := by
  induction n generalizing u with
  | zero => simp [be, val, Nat.mod_one]
  | succ n ih =>
    rw [be_snoc, val_snoc, ih]
    have h : (UInt8.ofNat u).toNat = u % 256 := by simp
    rw [h, Nat.pow_succ, Nat.mul_comm (256 ^ n) 256, Nat.mod_mul]
    omega
theorem bw_lt (u : Nat) (h : u < 18446744073709551616) : u < 256 ^ bw u := by
  unfold bw; repeat' split
  all_goals omega
theorem bw_ge (u : Nat) (h : 0 < bw u) : 256 ^ (bw u - 1) ≤ u := by
  unfold bw at *; revert h; repeat' split
  all_goals omega
theorem bw_zero (u : Nat) : bw u = 0 ↔ u = 0 := by
  unfold bw; repeat' split
  all_goals omega
/-- The number comes back. -/
theorem val_enc (u : Nat) (h : u < 18446744073709551616) : val (be (bw u) u) = u := by
  rw [val_be, Nat.mod_eq_of_lt (bw_lt u h)]
/-- The first byte behind the length is not 0. -/
theorem be_head (u : Nat) (h : u < 18446744073709551616) (h0 : 0 < bw u) : ∃ c t, be (bw u) u = c :: t ∧ c ≠ 0 := by
  have h1 := bw_ge u h0
  have h2 := bw_lt u h
  generalize bw u = n at *
  obtain ⟨m, rfl⟩ : ∃ m, n = m + 1 := ⟨n - 1, by omega⟩
  refine ⟨_, _, rfl, ?_⟩
  intro e
  have e1 : (UInt8.ofNat (u / 256 ^ m)).toNat = 0 := by rw [e]; rfl
  have e2 : (UInt8.ofNat (u / 256 ^ m)).toNat = u / 256 ^ m % 256 := by simp
  simp only [Nat.add_sub_cancel] at h1
  have h3 : 0 < u / 256 ^ m := Nat.div_pos h1 (Nat.pow_pos (by omega))
  have h4 : u / 256 ^ m < 256 := by
    rw [Nat.div_lt_iff_lt_mul (Nat.pow_pos (by omega))]
    rw [Nat.pow_succ] at h2
    omega
  omega
theorem from_right {P : List UInt8 → Prop} (h0 : P []) (h1 : ∀ xs c, P xs → P (xs ++ [c])) (xs : List UInt8) : P xs := by
  have key : ∀ n (l : List UInt8), l.length = n → P l := by
    intro n
    induction n with
    | zero => intro l hl; rw [List.eq_nil_of_length_eq_zero hl]; exact h0
    | succ n ih =>
      intro l hl
      have hne : l ≠ [] := by rintro rfl; simp at hl
      rw [← List.dropLast_concat_getLast hne]
      exact h1 _ _ (ih _ (by simp [hl]))
  exact key _ xs rfl
theorem val_lt (xs : List UInt8) : val xs < 256 ^ xs.length := by
  refine from_right (P := fun xs => val xs < 256 ^ xs.length) (by simp [val]) (fun l c ih => ?_) xs
  have := c.toNat_lt
  rw [val_snoc, List.length_append, List.length_singleton, Nat.pow_succ]
  omega
/-- Bytes are the form of the number that they are, at their own length. -/
theorem be_val (xs : List UInt8) : be xs.length (val xs) = xs := by
  refine from_right (P := fun xs => be xs.length (val xs) = xs) rfl (fun l c ih => ?_) xs
  have hc := c.toNat_lt
  rw [val_snoc, List.length_append, List.length_singleton, be_snoc]
  have e1 : (256 * val l + c.toNat) / 256 = val l := by omega
  have e2 : UInt8.ofNat (256 * val l + c.toNat) = c := by
    apply UInt8.toNat_inj.1
    simp
  rw [e1, e2, ih]
theorem val_cons (c : UInt8) (t : List UInt8) : val (c :: t) = c.toNat * 256 ^ t.length + val t := by
  have key : ∀ (l : List UInt8) (a : Nat), l.foldl (fun a c => 256 * a + c.toNat) a = a * 256 ^ l.length + val l := by
    intro l
    induction l with
    | nil => intro a; simp [val]
    | cons d l ih =>
      intro a
      have h1 := ih (256 * a + d.toNat)
      have h2 := ih d.toNat
      simp only [List.foldl_cons, List.length_cons, val, Nat.mul_zero, Nat.zero_add] at *
      rw [h1, h2, Nat.pow_succ, Nat.add_mul]
      have : 256 * a * 256 ^ l.length = a * (256 ^ l.length * 256) := by rw [Nat.mul_comm 256 a, Nat.mul_assoc, Nat.mul_comm 256]
      omega
  have h := key t c.toNat
  simpa [val] using h
/-- Where the first byte isn't 0 the number has just so many bytes. -/
theorem bw_val (c : UInt8) (t : List UInt8) (hc : c ≠ 0) (hl : t.length < 8) : bw (val (c :: t)) = t.length + 1 := by
  have h1 := val_lt (c :: t)
  have h2 : 256 ^ t.length ≤ val (c :: t) := by
    rw [val_cons]
    have : 1 ≤ c.toNat := by
      rcases Nat.eq_zero_or_pos c.toNat with h | h
      · exact absurd (UInt8.toNat_inj.1 (by simpa using h)) hc
      · exact h
    have := Nat.mul_le_mul_right (256 ^ t.length) this
    omega
  rw [List.length_cons] at h1
  generalize val (c :: t) = v at *
  generalize t.length = n at *
  have hn : n = 0 ∨ n = 1 ∨ n = 2 ∨ n = 3 ∨ n = 4 ∨ n = 5 ∨ n = 6 ∨ n = 7 := by omega
  unfold bw
  rcases hn with rfl | rfl | rfl | rfl | rfl | rfl | rfl | rfl <;> simp only [Nat.reducePow, Nat.reduceAdd] at h1 h2 <;> repeat' split
  all_goals omega
theorem be_get (n u i : Nat) (h : i < n) : (be n u)[i]'(by rw [be_length]; exact h) = UInt8.ofNat (u / 256 ^ (n - 1 - i)) := by
  induction n generalizing i with
  | zero => omega
  | succ n ih =>
    cases i with
    | zero => simp [be]
    | succ i =>
      have e : n + 1 - 1 - (i + 1) = n - 1 - i := by omega
      rw [e, ← ih i (by omega)]
      simp [be]
/-- One byte more off the front. -/
theorem be_take (n u i : Nat) (h : i < n) : (be n u).take (n - i) = (be n u).take (n - (i + 1)) ++ [UInt8.ofNat (u / 256 ^ i)] := by
  have e : n - i = n - (i + 1) + 1 := by omega
  rw [e, List.take_succ_eq_append_getElem (by rw [be_length]; omega), be_get n u _ (by omega), show n - 1 - (n - (i + 1)) = i from by omega]
theorem enc_whole (u : Nat) : UInt8.ofNat (bw u) :: (be (bw u) u).take (bw u - 0) = enc u := by
  rw [Nat.sub_zero, List.take_of_length_le (by rw [be_length]; omega)]; rfl
end Go.Proofs.Ytnngmapphacpkaa
