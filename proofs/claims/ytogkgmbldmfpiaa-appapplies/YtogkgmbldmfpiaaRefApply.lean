/-
  The reference's Apply, whatever the state and the operation: the same function as Apply's. No condition.
-/
import Derived.Test.YtogkgmbldmfpiaaRefApplyA
import Derived.Test.YtogkgmbldmfpiaaRefApplyB
set_option linter.unusedSimpArgs false
set_option linter.unusedVariables false
namespace Go.Proofs.Ytogkgmbldmfpiaa
open Go.RowKit

theorem swp_other (S : Nat → Int) (R T : Nat) : upd (upd S T (S (2 * R)) (S (2 * R + 1))) R (S (2 * T)) (S (2 * T + 1)) = swp S R T := by
  by_cases e : R = T
  · subst e
    unfold swp
    rfl
  · funext i
    rw [swp_at]
    unfold upd
    by_cases h1 : i = 2 * R
    · rw [if_pos h1, if_neg (by omega), if_neg (by omega), if_pos h1]
    · rw [if_neg h1]
      by_cases h2 : i = 2 * R + 1
      · rw [if_pos h2, if_neg (by omega), if_neg (by omega), if_neg h1, if_pos h2]
      · rw [if_neg h2, if_neg h1, if_neg h2]
theorem swp_reg (S : Nat → Int) (R T : Nat) : swp S R T (2 * R) = S (2 * T) ∧ swp S R T (2 * R + 1) = S (2 * T + 1) := by
  rw [← swp_other]
  exact ⟨upd_re _ _ _ _, upd_im _ _ _ _⟩

theorem rapply_any (S : Nat → Int) (k r t re im : Int) (w : World) :
    Calls Try.prog 29 #[.agg (cl S).toArray, .agg #[.int .i64 k, .int .i64 r, .int .i64 t, .int .i64 re, .int .i64 im]] w fun e w' =>
      e = .returned (outV (app S k r t re im)) ∧ Below w.heap.size w w' := by
  by_cases h : okS S ∧ rightOp k r t re im
  · obtain ⟨hS, hr⟩ := h
    obtain ⟨h1, h2, h3, h4, h5, h6, h7⟩ := hr
    have e : app S k r t re im = run S k r.toNat t.toNat t re im := if_pos ⟨hS, h1, h2, h3, h4, h5, h6, h7⟩
    have ht8 := tos_le k
    obtain ⟨R, rfl⟩ : ∃ R : Nat, r = R := ⟨r.toNat, by omega⟩
    obtain ⟨T, rfl⟩ : ∃ T : Nat, t = T := ⟨t.toNat, by omega⟩
    have hR : R < 8 := by omega
    have hT : T < 8 := by omega
    rw [e, Int.toNat_natCast, Int.toNat_natCast]
    have hr : rightOp k R T re im := ⟨h1, h2, h3, h4, h5, h6, h7⟩
    obtain ⟨ia, ib⟩ := hS R hR
    rcases tos_kind h3 h4 with rfl | rfl | rfl | rfl | rfl | rfl | rfl
    · have := rapply_get S R hR T re im hS hr w
      rw [upd_self] at this
      exact this
    · exact rapply_put S R hR T re im hS hr w
    · by_cases hi : inB (S (2 * R) + re) ∧ inB (S (2 * R + 1) + im)
      · have e2 : run S 3 R T T re im = (upd S R (S (2 * R) + re) (S (2 * R + 1) + im), 1, S (2 * R) + re, S (2 * R + 1) + im) := by simp [run, made, hi]
        rw [e2]
        exact rapply_sum_yes S R hR T re im hS hr hi w
      · have e2 : run S 3 R T T re im = (S, 2, 0, 0) := by simp [run, made, hi]
        rw [e2]
        exact rapply_sum_no S R hR T re im hS hr hi w
    · by_cases hi : inB (S (2 * R) * re - S (2 * R + 1) * im) ∧ inB (S (2 * R) * im + S (2 * R + 1) * re)
      · have e2 : run S 4 R T T re im = (upd S R (S (2 * R) * re - S (2 * R + 1) * im) (S (2 * R) * im + S (2 * R + 1) * re), 1, S (2 * R) * re - S (2 * R + 1) * im, S (2 * R) * im + S (2 * R + 1) * re) := by simp [run, made, hi]
        rw [e2]
        exact rapply_prod_yes S R hR T re im hS hr hi w
      · have e2 : run S 4 R T T re im = (S, 2, 0, 0) := by simp [run, made, hi]
        rw [e2]
        exact rapply_prod_no S R hR T re im hS hr hi w
    · have hi := rot_in ((T : Int) % 4).toNat (S (2 * R), S (2 * R + 1)) ia ib
      have e2 : run S 5 R T T re im = (upd S R (rot ((T : Int) % 4).toNat (S (2 * R), S (2 * R + 1))).1 (rot ((T : Int) % 4).toNat (S (2 * R), S (2 * R + 1))).2, 1, (rot ((T : Int) % 4).toNat (S (2 * R), S (2 * R + 1))).1, (rot ((T : Int) % 4).toNat (S (2 * R), S (2 * R + 1))).2) := by
        have hm : made 5 T re im (S (2 * R)) (S (2 * R + 1)) = rot ((T : Int) % 4).toNat (S (2 * R), S (2 * R + 1)) := by simp [made]
        unfold run
        rw [if_neg (by omega), if_neg (by omega), if_neg (by omega), if_neg (by omega), hm, if_pos hi]
      rw [e2]
      exact rapply_turn S R hR T re im hS hr _ _ hi (hide (rot_any (S (2 * R)) (S (2 * R + 1)) T ia ib (by omega) (by omega))) w
    · have := rapply_swap S R hR T hT re im hS hr w
      rw [swp_other] at this
      have e2 : run S 6 R T T re im = (swp S R T, 1, S (2 * T), S (2 * T + 1)) := by
        have hs := swp_reg S R T
        show (swp S R T, (1 : Int), swp S R T (2 * R), swp S R T (2 * R + 1)) = _
        rw [hs.1, hs.2]
      rw [e2]
      exact this
    · by_cases hE : S (2 * R) = re ∧ S (2 * R + 1) = im
      · have e2 : run S 7 R T T re im = (upd S R (S (2 * T)) (S (2 * T + 1)), 1, S (2 * T), S (2 * T + 1)) := by simp [run, hE]
        rw [e2]
        exact rapply_take_yes S R hR T hT re im hS hr hE w
      · have e2 : run S 7 R T T re im = (S, 3, S (2 * R), S (2 * R + 1)) := by simp [run, hE]
        rw [e2]
        exact rapply_take_no S R hR T hT re im hS hr hE w
  · rw [show app S k r t re im = (S, 0, 0, 0) from if_neg h]
    exact rapply_bad S k r t re im h w
end Go.Proofs.Ytogkgmbldmfpiaa
