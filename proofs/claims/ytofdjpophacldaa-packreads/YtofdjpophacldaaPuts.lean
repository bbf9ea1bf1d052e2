/-
  What is written one by one (a slice of Put): how it lies in memory, and the bytes that it makes. No condition.
-/
import Derived.Test.YtofdjpophacldaaPackOneForm
import Derived.Test.YtofdjpophacldaaSum
namespace Go.Proofs.Ytofdjpophacldaa
open Go.RowKit

theorem same_true (A A' : Option Addr) (n n' c c' B B' : Nat) (xs : List UInt8) (w : World) (hx : Has w B A xs) (hy : Has w B' A' xs) (hn : xs.length = n) (hn' : xs.length = n') (hl : n ≤ 140737488355328) :
    Calls Try.prog 23 #[.slice A n c, .slice A' n' c'] w fun e w' => e = .returned (.bool true) ∧ ∃ m, w.drewN m = w' := by
  refine (same_any A A' n n' c c' B B' xs xs w hx hy hn hn' hl).mono ?_
  rintro e w' ⟨rfl, m, rfl⟩
  exact ⟨by rw [decide_eq_true rfl], m, rfl⟩

/-- One thing that is written. -/
structure PutV where
  k : Int
  n : Int
  p : Piece
/-- The slice of Puts that begins at A holds these, all of it in blocks below B. -/
def HasS (w : World) (B : Nat) (A : Option Addr) (qs : List PutV) : Prop :=
  ∀ i (h : i < qs.length), (∃ b o, A = some ⟨b, o, none⟩ ∧ b < B ∧ w.cell? ⟨b, o + i * 3, none⟩ = some (.int .i64 qs[i].k) ∧ w.cell? ⟨b, o + i * 3 + 1, none⟩ = some (.int .i64 qs[i].n) ∧ w.cell? ⟨b, o + i * 3 + 2, none⟩ = some qs[i].p.val) ∧
    IsInt qs[i].k ∧ IsInt qs[i].n ∧ Has w B qs[i].p.spot qs[i].p.bs ∧ qs[i].p.bs.length = qs[i].p.len
theorem HasS.below {w w' : World} {B : Nat} {A : Option Addr} {qs : List PutV} (h : HasS w B A qs) (hb : Below B w w') : HasS w' B A qs := by
  intro k hk
  obtain ⟨⟨b, o, hA, hlt, h1, h2, h3⟩, h4, h5, h6, h7⟩ := h k hk
  exact ⟨⟨b, o, hA, hlt, (hb.cell (p := ⟨b, o + k * 3, none⟩) hlt).trans h1, (hb.cell (p := ⟨b, o + k * 3 + 1, none⟩) hlt).trans h2, (hb.cell (p := ⟨b, o + k * 3 + 2, none⟩) hlt).trans h3⟩, h4, h5, h6.below hb, h7⟩

/-- The number of an int's bits. -/
def unb (n : Int) : Nat := (n % 18446744073709551616).toNat
theorem unb_lt (n : Int) : unb n < 18446744073709551616 := by unfold unb; omega
theorem unb_wrap (n : Int) : IntKind.u64.wrap n = (unb n : Int) := by unfold unb; rw [IntKind.wrap_u64]; omega
/-- The bytes that it makes. -/
def encP (q : PutV) : List UInt8 := if q.k = 0 then enc (unb q.n) else if q.k = 1 then enc (zig q.n) else enc q.p.bs.length ++ q.p.bs
theorem encP_0 (n : Int) (p : Piece) : encP ⟨0, n, p⟩ = enc (unb n) := by simp [encP]
theorem encP_1 (n : Int) (p : Piece) : encP ⟨1, n, p⟩ = enc (zig n) := by simp [encP]
theorem encP_2 {k n : Int} {p : Piece} (h0 : k ≠ 0) (h1 : k ≠ 1) : encP ⟨k, n, p⟩ = enc p.bs.length ++ p.bs := by simp [encP, h0, h1]
def outP (qs : List PutV) : List UInt8 := qs.flatMap encP
theorem outP_take (qs : List PutV) (k : Nat) (hk : k < qs.length) : outP (qs.take (k + 1)) = outP (qs.take k) ++ encP qs[k] := by
  unfold outP
  rw [List.take_succ_eq_append_getElem hk, List.flatMap_append, List.flatMap_singleton]
theorem outP_drop (qs : List PutV) (k : Nat) (hk : k < qs.length) : outP (qs.drop k) = encP qs[k] ++ outP (qs.drop (k + 1)) := by
  unfold outP
  rw [List.drop_eq_getElem_cons hk, List.flatMap_cons]
theorem encP_length (q : PutV) : (encP q).length ≤ 9 + q.p.bs.length := by
  unfold encP
  have h1 := bw_le (unb q.n)
  have h2 := bw_le (zig q.n)
  have h3 := bw_le q.p.bs.length
  split
  · rw [enc_length]; omega
  · split
    · rw [enc_length]; omega
    · rw [List.length_append, enc_length]; omega
theorem outP_part (qs : List PutV) (k : Nat) (hk : k < qs.length) : (outP (qs.take k)).length + (encP qs[k]).length ≤ (outP qs).length := by
  have h : outP qs = outP (qs.take k) ++ outP (qs.drop k) := by
    unfold outP
    rw [← List.flatMap_append, List.take_append_drop]
  rw [h, outP_drop qs k hk]
  simp only [List.length_append]
  omega

/-- A number that was written is read again. -/
theorem rn_enc (u : Nat) (h : u < 18446744073709551616) (r : List UInt8) : rn (enc u ++ r) = (u, r, 0) := by
  have h8 := bw_le u
  have hc : (UInt8.ofNat (bw u)).toNat = bw u := by simp; omega
  have hl := be_length (bw u) u
  have e : enc u ++ r = UInt8.ofNat (bw u) :: (be (bw u) u ++ r) := rfl
  rw [e, rn_ok (by omega) (by rw [List.length_append]; omega) ?_, hc]
  · rw [List.take_append_of_le_length (by omega), List.take_of_length_le (by omega), val_enc u h, List.drop_append_of_le_length (by omega), List.drop_of_length_le (by omega), List.nil_append]
  · rw [hc]
    rintro ⟨h0, h1⟩
    obtain ⟨c, t, hb, hne⟩ := be_head u h h0
    rw [hb] at h1
    simp at h1
    exact hne h1
end Go.Proofs.Ytofdjpophacldaa
