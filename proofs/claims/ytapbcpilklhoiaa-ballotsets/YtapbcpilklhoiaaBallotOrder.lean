/-
  The walk of BallotOrder. No condition.
-/
import Derived.Test.YtapbcpilklhoiaaBallotE
set_option linter.unusedSimpArgs false
set_option linter.unusedVariables false
namespace Go.Proofs.Ytapbcpilklhoiaa
open Go.RowKit

theorem cmp1_cases (a b : Int) : a < b ∧ cmp1 a b = -1 ∨ b < a ∧ cmp1 a b = 1 ∨ a = b ∧ cmp1 a b = 0 := by
  unfold cmp1
  rcases Int.lt_trichotomy a b with h | h | h
  · exact .inl ⟨h, if_pos h⟩
  · exact .inr (.inr ⟨h, by rw [if_neg (by omega), if_neg (by omega)]⟩)
  · exact .inr (.inl ⟨h, by rw [if_neg (by omega), if_pos h]⟩)
theorem cmp2_cases (a b c d : Int) : (a < c ∨ a = c ∧ b < d) ∧ cmp2 a b c d = -1 ∨ (c < a ∨ a = c ∧ d < b) ∧ cmp2 a b c d = 1 ∨ (a = c ∧ b = d) ∧ cmp2 a b c d = 0 := by
  unfold cmp2 pick2
  rcases cmp1_cases a c with ⟨h, e⟩ | ⟨h, e⟩ | ⟨h, e⟩
  · exact .inl ⟨.inl h, by rw [e]; rfl⟩
  · exact .inr (.inl ⟨.inl h, by rw [e]; rfl⟩)
  · rw [e, if_neg (by simp)]
    rcases cmp1_cases b d with ⟨h', e'⟩ | ⟨h', e'⟩ | ⟨h', e'⟩
    · exact .inl ⟨.inr ⟨h, h'⟩, e'⟩
    · exact .inr (.inl ⟨.inr ⟨h, h'⟩, e'⟩)
    · exact .inr (.inr ⟨⟨h, h'⟩, e'⟩)

theorem two_below {a b c d : Int} {w w1 : World} (hb : Below ((w.alloc (.cells #[.int .i64 a, .int .i64 b] 23)).alloc (.cells #[.int .i64 c, .int .i64 d] 23)).heap.size ((w.alloc (.cells #[.int .i64 a, .int .i64 b] 23)).alloc (.cells #[.int .i64 c, .int .i64 d] 23)) w1) :
    w1.cell? ⟨w.heap.size, 0, none⟩ = some (.int .i64 a) ∧ w1.cell? ⟨w.heap.size, 1, none⟩ = some (.int .i64 b) ∧ w1.cell? ⟨w.heap.size + 1, 0, none⟩ = some (.int .i64 c) ∧ w1.cell? ⟨w.heap.size + 1, 1, none⟩ = some (.int .i64 d) := by
  obtain ⟨⟨k0, k1, k2, k3⟩, _⟩ := two_kept a b c d w
  exact ⟨(hb.cell (p := ⟨w.heap.size, 0, none⟩) (by simp; omega)).trans k0, (hb.cell (p := ⟨w.heap.size, 1, none⟩) (by simp; omega)).trans k1, (hb.cell (p := ⟨w.heap.size + 1, 0, none⟩) (by simp)).trans k2, (hb.cell (p := ⟨w.heap.size + 1, 1, none⟩) (by simp)).trans k3⟩
theorem keep2 {W w' : World} {g : Nat} {a b : Value} (hb : Below W.heap.size W w') (hg : g < W.heap.size) (h0 : W.cell? ⟨g, 0, none⟩ = some a) (h1 : W.cell? ⟨g, 1, none⟩ = some b) :
    w'.cell? ⟨g, 0, none⟩ = some a ∧ w'.cell? ⟨g, 1, none⟩ = some b ∧ g < w'.heap.size :=
  ⟨(hb.cell (p := ⟨g, 0, none⟩) hg).trans h0, (hb.cell (p := ⟨g, 1, none⟩) hg).trans h1, Nat.lt_of_lt_of_le hg hb.size⟩
theorem below_two {w w1 : World} {o1 o2 : Obj} (hb : Below ((w.alloc o1).alloc o2).heap.size ((w.alloc o1).alloc o2) w1) : Below w.heap.size w w1 :=
  (((Below.refl _ _).alloc (Nat.le_refl _) o1).alloc (by simp) o2).trans (hb.mono (by simp; omega))

set_option maxHeartbeats 1600000 in
theorem order_walk (a b c d : Int) (w : World) : Calls Try.prog 3 #[.agg #[.int .i64 a, .int .i64 b], .agg #[.int .i64 c, .int .i64 d]] w fun e w' => e = .returned (.bool true) ∧ Below w.heap.size w w' := by
  go_enter Try.func3, Try.ntmps3
  go_wp2_with fail
  refine (head5_any _).mono ?_
  rintro e w1 ⟨rfl, hb1⟩
  have hz1 : w.heap.size + 1 < w1.heap.size := by have := hb1.size; simp at this; omega
  go_wp2_with fail
  refine (compare_any 1 2 2 1 _).mono ?_
  rintro e w2 ⟨rfl, hb2⟩
  rw [show cmp2 1 2 2 1 = -1 from rfl]
  have hb2' := hb1.trans (hb2.mono hb1.size)
  clear hb1 hb2 hz1
  obtain ⟨c0, c1, c2, c3⟩ := two_below hb2'
  go_wp2_with fail
  refine (compare_any a b c d _).mono ?_
  rintro e w3 ⟨rfl, hb3⟩
  have hb3' := hb2'.trans (hb3.mono hb2'.size)
  clear hb2' hb3 c0 c1 c2 c3
  obtain ⟨c0, c1, c2, c3⟩ := two_below hb3'
  obtain ⟨x, hx⟩ : ∃ x, x = cmp2 a b c d := ⟨_, rfl⟩
  obtain ⟨y, hy⟩ : ∃ y, y = cmp2 c d a b := ⟨_, rfl⟩
  have t1 : belB a b c d = decide (x < 0) := decide_eq_decide.2 (by have := cmp2_cases a b c d; omega)
  have t2 : belB c d a b = decide (0 < x) := decide_eq_decide.2 (by have := cmp2_cases a b c d; omega)
  have t3 : y = -x ∧ -1 ≤ x ∧ x ≤ 1 := by have := cmp2_cases a b c d; have := cmp2_cases c d a b; omega
  rw [← hx]
  have HY := hide hy
  have T1 := hide t1
  have T2 := hide t2
  clear hx hy t1 t2
  obtain ⟨rfl, h1, h2⟩ := t3
  go_wp2_with fail
  refine (rbelow_any a b c d _).mono ?_
  rintro e w4 ⟨rfl, hb4⟩
  rw [T1.out]
  have hb4' := hb3'.trans (hb4.mono hb3'.size)
  clear hb3' hb4 c0 c1 c2 c3
  obtain ⟨c0, c1, c2, c3⟩ := two_below hb4'
  go_wp2_with fail
  refine (rbelow_any c d a b _).mono ?_
  rintro e w5 ⟨rfl, hb5⟩
  rw [T2.out]
  have hb5' := hb4'.trans (hb5.mono hb4'.size)
  clear hb4' hb5 c0 c1 c2 c3
  obtain ⟨c0, c1, c2, c3⟩ := two_below hb5'
  go_wp2_with fail
  refine (compare_any c d a b _).mono ?_
  rintro e w6 ⟨rfl, hb6⟩
  rw [← HY.out]
  have hb6' := hb5'.trans (hb6.mono hb5'.size)
  clear hb5' hb6 c0 c1 c2 c3
  obtain ⟨c0, c1, c2, c3⟩ := two_below hb6'
  have hz6 : w.heap.size < w6.heap.size := by have := hb6'.size; simp at this; omega
  have hb6w := below_two hb6'
  clear hb6' c2 c3
  go_wp2_with fail
  go_region_held3 (fun w' => w'.cell? ⟨w.heap.size, 0, none⟩ = some (.int .i64 a) ∧ w'.cell? ⟨w.heap.size, 1, none⟩ = some (.int .i64 b)) (first | exact ⟨c0, c1⟩ | exact ⟨d7.1, d7.2.1⟩ | exact ⟨d8.1, d8.2.1⟩ | go_keep) (first
    | ((go_at_call 17; (with_reducible refine (bvalid_any a b _).mono ?_)); rintro e w7 ⟨rfl, hb7⟩; have d7 := keep2 hb7 hz6 c0 c1)
    | ((go_at_call 18; (with_reducible refine (rbvalid_any a b _).mono ?_)); rintro e w8 ⟨rfl, hb8⟩; have d8 := keep2 hb8 d7.2.2 d7.1 d7.2.1))
  go_wp2
  go_ret
  exact ⟨by simp, (hb6w.drew.trans (hb7.mono hb6w.size)).trans (hb8.mono (Nat.le_trans hb6w.size hb7.size))⟩
end Go.Proofs.Ytapbcpilklhoiaa
