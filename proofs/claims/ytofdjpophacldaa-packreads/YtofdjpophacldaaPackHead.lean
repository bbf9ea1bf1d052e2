/-
  The head of synodlaw01: it answers true, and nothing that was there has turned. No condition.
-/
import Derived.Test.YtofdjpophacldaaReaderText
import Derived.Test.YtofdjpophacldaaSame
import Derived.Lib.SlBytesConst
namespace Go.Proofs.Ytofdjpophacldaa
open Go.RowKit

set_option maxHeartbeats 800000 in
theorem head1_any (w : World) : Calls Try.prog 13 #[] w fun e w' => e = .returned (.bool true) ∧ Below w.heap.size w w' := by
  have kc := fun (w : World) (C : Array Value) (n c : Nat) => Lib.run_convert_bytes_const (P := Try.prog) w 26 5 C n c Try.underlying26 Try.underlying5
  go_enter Try.func13, Try.ntmps13
  go_wp2_with fail
  refine (newwriter_any w).mono ?_
  rintro e w1 ⟨rfl, hw1⟩
  have hwr := wr_new w w.heap.size (Nat.le_refl _)
  have hb1 : Below w.heap.size w w1 := by rw [← hw1]; exact (Below.refl _ _).alloc (Nat.le_refl _) _
  rw [hw1] at hwr
  clear hw1
  go_wp2_with fail
  have hh := Has.new w1 5 [2, 1, 0, 9] (0, 0) _ rfl
  refine (newreader_any (some ⟨w1.heap.size, 0, none⟩) 4 4 _ [2, 1, 0, 9] _ (by simpa [bcells, byt] using hh) (by simp) rfl (by simp)).mono ?_
  rintro e w2 ⟨g2, b2, rfl, hrd, hf2, hbl2⟩
  have hbl := below_of_alloc hbl2
  clear hbl2 hh
  have hwr2 := hwr.below hbl
  have hb2 := hb1.trans (hbl.mono hb1.size)
  have hgw := hwr.lt
  have hd2 : ∀ k, Foot g2 b2 k → ¬ Foot w.heap.size none k := by
    intro k h1 h2
    have := hf2 k h1
    rcases h2 with rfl | h2
    · simp at this; omega
    · cases h2
  clear hbl hb1 hwr
  go_wp2_with fail
  refine (wnum_any w.heap.size w.heap.size none [] 256 w2 hwr2 (by omega) (by simp)).mono ?_
  rintro e w3 ⟨rfl, b3, hwr3, hb3, hk3⟩
  have hrd3 := hrd.kept hk3 hd2
  have hb3' := hb2.trans (hk3.below hb2.size (fun k h => (hwr2.foot k h).1))
  have hd3 : ∀ k, Foot g2 b2 k → ¬ Foot w.heap.size b3 k := by
    intro k h1 h2
    rcases foot_step hb3 k h2 with h | h
    · exact hd2 k h1 h
    · have := (hf2 k h1).2; omega
  have hs3 := hk3.size
  clear hrd hb3 hwr2 hk3 hd2
  rw [show [] ++ enc 256 = [2, 1, 0] from by decide] at hwr3
  go_wp2_with fail
  refine (wint_any w.heap.size w.heap.size b3 [2, 1, 0] (-1) w3 hwr3 (by unfold IsInt; omega) (by simp)).mono ?_
  rintro e w4 ⟨rfl, b4, hwr4, hb4, hk4⟩
  have hrd4 := hrd3.kept hk4 hd3
  have hb4' := hb3'.trans (hk4.below hb3'.size (fun k h => (hwr3.foot k h).1))
  have hd4 : ∀ k, Foot g2 b2 k → ¬ Foot w.heap.size b4 k := by
    intro k h1 h2
    rcases foot_step hb4 k h2 with h | h
    · exact hd3 k h1 h
    · have := (hf2 k h1).2; omega
  have hs4 := hk4.size
  clear hrd3 hb4 hwr3 hk4 hd3
  rw [show [2, 1, 0] ++ enc (zig (-1)) = [2, 1, 0, 1, 1] from by decide] at hwr4
  go_wp2_with fail
  have hh := Has.new w4 5 [97, 98] (2, 3) _ rfl
  have hb5 := hb4'.alloc hb4'.size (.cells (bcells [97, 98]) 5 (2, 3))
  have hwr5 := hwr4.below ((Below.refl _ _).alloc (Nat.le_refl _) (.cells (bcells [97, 98]) 5 (2, 3)))
  have hrd5 := hrd4.below ((Below.refl _ _).alloc (Nat.le_refl _) (.cells (bcells [97, 98]) 5 (2, 3)))
  have hoff : Off (Foot w.heap.size b4) (some ⟨w4.heap.size, 0, none⟩) [97, 98] := by
    intro a e _ hF
    have := (hwr4.foot _ hF).2
    injection e with e
    subst e
    simp at this
  have hs5 : w4.heap.size ≤ (w4.alloc (.cells (bcells [97, 98]) 5 (2, 3))).heap.size := by simp
  have hz5 : (w4.alloc (.cells (bcells [97, 98]) 5 (2, 3))).heap.size = w4.heap.size + 1 := by simp
  have hw5 : w4.alloc (.cells #[.int .u8 97, .int .u8 98] 5 (2, 3)) = w4.alloc (.cells (bcells [97, 98]) 5 (2, 3)) := rfl
  rw [hw5]
  generalize w4.alloc (.cells (bcells [97, 98]) 5 (2, 3)) = w5 at *
  refine (wtext_any w.heap.size w.heap.size (w4.heap.size + 1) b4 [2, 1, 0, 1, 1] (some ⟨w4.heap.size, 0, none⟩) 2 2 [97, 98] w5 hwr5 hh hoff (by omega) rfl (by simp)).mono ?_
  rintro e w6 ⟨rfl, b6, hwr6, hb6, hk6⟩
  have hrd6 := hrd5.kept hk6 hd4
  have hb6' := hb5.trans (hk6.below hb5.size (fun k h => (hwr5.foot k h).1))
  have hs6 := hk6.size
  clear hrd5 hwr5 hk6 hd4 hh hoff hw5 hb6 hrd4 hwr4 hz5
  rw [show [2, 1, 0, 1, 1] ++ (enc 2 ++ [97, 98]) = [2, 1, 0, 1, 1, 1, 2, 97, 98] from by decide] at hwr6
  go_wp2_with fail
  refine (wbytes_any w.heap.size w.heap.size b6 _ w6 hwr6 (by simp)).mono ?_
  rintro e w7 ⟨v7, rfl, ho7, hbl7⟩
  obtain ⟨A7, n7, c7, rfl, hn7, hnc7, hx7, _⟩ := ho7.form
  have hrd7 := hrd6.below hbl7
  have hb7 := hb6'.trans (hbl7.mono hb6'.size)
  clear hwr6 hrd6 hbl7 ho7
  go_wp2_with fail
  have hh := Has.new w7 5 [2, 1, 0, 1, 1, 1, 2, 97, 98] (0, 0) _ rfl
  have hb8 := hb7.alloc hb7.size (.cells (bcells [2, 1, 0, 1, 1, 1, 2, 97, 98]) 5)
  have hrd8 := hrd7.below ((Below.refl _ _).alloc (Nat.le_refl _) (.cells (bcells [2, 1, 0, 1, 1, 1, 2, 97, 98]) 5))
  have hx8 := hx7.alloc (Nat.le_refl _) (.cells (bcells [2, 1, 0, 1, 1, 1, 2, 97, 98]) 5)
  have hw8 : w7.alloc (.cells #[.int .u8 2, .int .u8 1, .int .u8 0, .int .u8 1, .int .u8 1, .int .u8 1, .int .u8 2, .int .u8 97, .int .u8 98] 5) = w7.alloc (.cells (bcells [2, 1, 0, 1, 1, 1, 2, 97, 98]) 5) := rfl
  rw [hw8]
  clear hw8 hx7 hrd7
  generalize w7.alloc (.cells (bcells [2, 1, 0, 1, 1, 1, 2, 97, 98]) 5) = w8 at *
  refine (same_any A7 (some ⟨w7.heap.size, 0, none⟩) n7 9 c7 9 _ _ [2, 1, 0, 1, 1, 1, 2, 97, 98] [2, 1, 0, 1, 1, 1, 2, 97, 98] w8 hx8 hh hn7.out rfl (by have := hn7.out; simp at this; omega)).mono ?_
  rintro e w9 ⟨rfl, m9, rfl⟩
  rw [decide_eq_true rfl]
  have hrd9 : Rd (w8.drewN m9) g2 b2 [2, 1, 0, 9] 0 := hrd8
  have hb9 := below_drewN hb8 m9
  clear hrd8 hx8 hh
  generalize w8.drewN m9 = w9 at *
  go_wp2_with fail
  refine (rnum_any g2 b2 [2, 1, 0, 9] w9 hrd9).mono ?_
  rw [show rn [2, 1, 0, 9] = (256, [9], 0) from by decide]
  rintro e w10 ⟨rfl, b10, hrd10, _, hk10⟩
  have hb10 := hb9.trans (hk10.below hb9.size (fun k h => by
    rw [h]
    have := (hf2 g2 (.inl rfl)).1
    simp at this
    omega))
  clear hrd9 hk10
  go_wp2_with fail
  refine (rerr_any g2 b10 [9] 0 w10 hrd10).mono ?_
  rintro e w11 ⟨rfl, rfl⟩
  go_wp2
  go_ret
  exact ⟨rfl, hb10⟩
end Go.Proofs.Ytofdjpophacldaa
