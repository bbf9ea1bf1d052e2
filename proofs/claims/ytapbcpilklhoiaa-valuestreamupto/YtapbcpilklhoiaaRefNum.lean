/-
  Num and Int of the reference of package pack, in the words of the Value laws. No condition.
-/
import Derived.Test.YtapbcpilklhoiaaValPure
set_option linter.unusedSimpArgs false
set_option linter.unusedVariables false
namespace Go.Proofs.Ytapbcpilklhoiaa
open Go.RowKit

theorem digit (m : Nat) : (m : Int) % 256 = ((UInt8.ofNat m).toNat : Int) := by simp

theorem bw_of_zero {u j : Nat} (hj : j ≤ bw u) (h : u / 256 ^ j = 0) : j = bw u := by
  rcases Nat.lt_or_ge j (bw u) with hlt | hge
  · have h1 := bw_ge u (by omega)
    have h2 : u < 256 ^ j := by
      rcases Nat.div_eq_zero_iff.1 h with h | h
      · exact absurd h (Nat.pos_iff_ne_zero.1 (Nat.pow_pos (by omega)))
      · exact h
    have h3 : 256 ^ j ≤ 256 ^ (bw u - 1) := Nat.pow_le_pow_right (by omega) (by omega)
    omega
  · omega

theorem bw_of_pos {u j : Nat} (hu : u < 18446744073709551616) (h : 0 < u / 256 ^ j) : j < bw u := by
  rcases Nat.lt_or_ge j (bw u) with hlt | hge
  · exact hlt
  · have h1 := bw_lt u hu
    have h3 : 256 ^ bw u ≤ 256 ^ j := Nat.pow_le_pow_right (by omega) hge
    rw [Nat.div_eq_of_lt (by omega)] at h
    omega

set_option maxHeartbeats 800000 in
theorem refnum_any (u : Nat) (w : World) (hu : u < 18446744073709551616) : Calls Try.prog 65 #[.int .u64 (u : Int)] w (Makes (enc u) w) := by
  have h8 := bw_le u
  have HU := hide hu
  clear hu
  go_enter Try.func65, Try.ntmps65
  go_wp2_with fail
  go_loopw [0, 3] (fun x d wr => ∃ j : Nat, j ≤ bw u ∧ x = .int .u64 ((u / 256 ^ j : Nat) : Int) ∧ Own wr w.heap.size d (be j u) ∧ Below w.heap.size w wr) (fun x _ _ => (intOf x).toNat)
  case atStart => exact ⟨0, Nat.zero_le _, by simp, Own.new w [] _ _ rfl (Nat.le_refl _) (by simp), (Below.refl _ _).alloc (Nat.le_refl _) _⟩
  case round =>
    obtain ⟨j, hj, rfl, ho, hbl⟩ := hrel
    have HP := hide (@bw_of_pos u j HU.out)
    have HZ := hide (@bw_of_zero u j hj)
    have HBE : Hid (be (j + 1) u = UInt8.ofNat (u / 256 ^ j) :: be j u) := rfl
    have HD : Hid (u / 256 ^ (j + 1) = u / 256 ^ j / 256) := by
      show u / 256 ^ (j + 1) = u / 256 ^ j / 256
      rw [Nat.pow_succ, Nat.div_div_eq_div_mul]
    have hm : u / 256 ^ j < 18446744073709551616 := Nat.lt_of_le_of_lt (Nat.div_le_self _ _) HU.out
    generalize u / 256 ^ j = m at *
    have hbl_len := be_length j u
    have HBL := hide hbl_len
    clear hbl_len
    have hsz := hbl.size
    obtain ⟨A, n, cc, rfl, hn, _, hx, _⟩ := ho.form
    have hn8 : n ≤ 8 := by have := hn.out; have := HBL.out; omega
    by_cases h0 : 0 < m
    · have t1 : decide (0 < m) = true := by simpa using h0
      have hone : Own (wr.alloc (.cells #[.int .u8 ((m : Int) % 256)] 5)) w.heap.size (.slice (some ⟨wr.heap.size, 0, none⟩) 1 1) [UInt8.ofNat m] := by
        rw [digit]
        exact Own.new wr [UInt8.ofNat m] _ _ rfl hsz (by simp)
      go_wp2_with (at_builtin; refine list_append_bytes _ rfl (.tmp 10) (.tmp 11) rfl w.heap.size _ [UInt8.ofNat m] rfl hone wr.heap.size A n cc (be j u) rfl (hx.alloc (Nat.le_refl _) _) hn.out (by simp; omega) (by simp; omega) ?_; intro v2 w2 ho2 hg2 hat2)
      have hb2 : Below w.heap.size w w2 := (hbl.alloc hsz _).grown hg2 (by simp; omega) (fun k e => (hone.lt k e).1)
      go_roundw
      case rel => exact ⟨j + 1, HP.out h0, by rw [HD.out]; go_num, by rw [HBE.out]; exact ho2, hb2⟩
      case measure => simp [intOf]; omega
    · have t1 : decide (0 < m) = false := by simpa using h0
      have e : j = bw u := HZ.out (by omega)
      subst e
      have hone : Own (wr.alloc (.cells #[.int .u8 (n : Int)] 5)) w.heap.size (.slice (some ⟨wr.heap.size, 0, none⟩) 1 1) [UInt8.ofNat (bw u)] := by
        have hnb : (n : Int) = ((UInt8.ofNat (bw u)).toNat : Int) := by
          have := hn.out
          have := HBL.out
          simp
          omega
        rw [hnb]
        exact Own.new wr [UInt8.ofNat (bw u)] _ _ rfl hsz (by simp)
      go_wp2_with (at_builtin; refine list_append_bytes _ rfl (.tmp 18) (.tmp 19) rfl w.heap.size _ [UInt8.ofNat (bw u)] rfl hone wr.heap.size A n cc (be (bw u) u) rfl (hx.alloc (Nat.le_refl _) _) hn.out (by simp; omega) (by simp; omega) ?_; intro v2 w2 ho2 hg2 hat2)
      have hb2 : Below w.heap.size w w2 := (hbl.alloc hsz _).grown hg2 (by simp; omega) (fun k e => (hone.lt k e).1)
      go_ret
      exact ⟨_, rfl, ho2, hb2⟩

theorem refint_any (i : Int) (w : World) (hi : IsInt i) : Calls Try.prog 75 #[.int .i64 i] w (Makes (enc (zig i)) w) := by
  have HF := hide (fun w => reffold_any i w hi)
  have HN := hide (fun w => refnum_any (zig i) w (zig_lt hi))
  clear hi
  go_enter Try.func75, Try.ntmps75
  go_wp2_with fail
  refine (HF.out _).mono ?_
  rintro e w' ⟨rfl, rfl⟩
  go_wp2_with fail
  refine (HN.out _).mono ?_
  rintro e w1 ⟨v1, rfl, h1⟩
  have H1 := hide h1
  clear h1
  go_wp2
  go_ret
  exact ⟨v1, rfl, H1.out⟩

theorem Makes.of_alloc {xs : List UInt8} {w w' : World} {o : Obj} {v : Value} (ho : Own w' (w.alloc o).heap.size v xs) (hb : Below (w.alloc o).heap.size (w.alloc o) w') : Own w' w.heap.size v xs ∧ Below w.heap.size w w' :=
  ⟨ho.from_ (by simp), below_of_alloc hb⟩
end Go.Proofs.Ytapbcpilklhoiaa
