/-
  Apply of package app, whatever the state and the operation: what it hands back, as a function. No condition.
-/
import Derived.Test.YtogkgmbldmfpiaaApplyPut
import Derived.Test.YtogkgmbldmfpiaaApplyReck3
import Derived.Test.YtogkgmbldmfpiaaApplyReck4
import Derived.Test.YtogkgmbldmfpiaaApplyReck5
import Derived.Test.YtogkgmbldmfpiaaApplySwap
import Derived.Test.YtogkgmbldmfpiaaApplyTake
set_option linter.unusedSimpArgs false
set_option linter.unusedVariables false
namespace Go.Proofs.Ytogkgmbldmfpiaa
open Go.RowKit

/-- What a sum, a product, a turn makes. -/
def made (k t re im a b : Int) : Int × Int := if k = 3 then (a + re, b + im) else if k = 4 then (a * re - b * im, a * im + b * re) else rot (t % 4).toNat (a, b)

/-- Two registers changed about. -/
def swp (S : Nat → Int) (R T : Nat) : Nat → Int := upd (upd S R (S (2 * T)) (S (2 * T + 1))) T (S (2 * R)) (S (2 * R + 1))

/-- The state behind a right operation on a valid state, and the result. -/
def run (S : Nat → Int) (k : Int) (R T : Nat) (t re im : Int) : (Nat → Int) × Int × Int × Int :=
  if k = 1 then (S, 1, S (2 * R), S (2 * R + 1))
  else if k = 2 then (upd S R re im, 1, re, im)
  else if k = 6 then (swp S R T, 1, swp S R T (2 * R), swp S R T (2 * R + 1))
  else if k = 7 then (if S (2 * R) = re ∧ S (2 * R + 1) = im then (upd S R (S (2 * T)) (S (2 * T + 1)), 1, S (2 * T), S (2 * T + 1)) else (S, 3, S (2 * R), S (2 * R + 1)))
  else if inB (made k t re im (S (2 * R)) (S (2 * R + 1))).1 ∧ inB (made k t re im (S (2 * R)) (S (2 * R + 1))).2 then
    (upd S R (made k t re im (S (2 * R)) (S (2 * R + 1))).1 (made k t re im (S (2 * R)) (S (2 * R + 1))).2, 1, (made k t re im (S (2 * R)) (S (2 * R + 1))).1, (made k t re im (S (2 * R)) (S (2 * R + 1))).2)
  else (S, 2, 0, 0)

def app (S : Nat → Int) (k r t re im : Int) : (Nat → Int) × Int × Int × Int :=
  if okS S ∧ rightOp k r t re im then run S k r.toNat t.toNat t re im else (S, 0, 0, 0)

/-- What Apply hands back. -/
def outV (x : (Nat → Int) × Int × Int × Int) : Value := .tuple #[.agg (cl x.1).toArray, .agg #[.int .i64 x.2.1, .int .i64 x.2.2.1, .int .i64 x.2.2.2]]

theorem tos_kind {k t : Int} (h0 : 0 ≤ t) (h : t < tos k) : k = 1 ∨ k = 2 ∨ k = 3 ∨ k = 4 ∨ k = 5 ∨ k = 6 ∨ k = 7 := by
  unfold tos at h
  split at h
  · omega
  · split at h
    · omega
    · split at h
      · omega
      · omega
theorem tos_le (k : Int) : tos k ≤ 8 := by
  unfold tos
  split
  · omega
  · split
    · omega
    · split <;> omega

theorem apply_any (S : Nat → Int) (k r t re im : Int) (w : World) :
    Calls Try.prog 30 #[.agg (cl S).toArray, .agg #[.int .i64 k, .int .i64 r, .int .i64 t, .int .i64 re, .int .i64 im]] w fun e w' =>
      e = .returned (outV (app S k r t re im)) ∧ Below w.heap.size w w' := by
  by_cases h : okS S ∧ rightOp k r t re im
  · obtain ⟨hS, hr⟩ := h
    obtain ⟨h1, h2, h3, h4, h5, h6, h7⟩ := hr
    have e : app S k r t re im = run S k r.toNat t.toNat t re im := if_pos ⟨hS, h1, h2, h3, h4, h5, h6, h7⟩
    have ht8 := tos_le k
    obtain ⟨R, rfl⟩ : ∃ R : Nat, r = R := ⟨r.toNat, by omega⟩
    obtain ⟨T, rfl⟩ : ∃ T : Nat, t = T := ⟨t.toNat, by omega⟩
    have hR : R < 8 := by omega
    have hT : T < 8 := by omega
    rw [e, Int.toNat_natCast, Int.toNat_natCast]
    have hr : rightOp k R T re im := ⟨h1, h2, h3, h4, h5, h6, h7⟩
    obtain ⟨ia, ib⟩ := hS R hR
    rcases tos_kind h3 h4 with rfl | rfl | rfl | rfl | rfl | rfl | rfl
    · exact apply_get S R hR T re im hS hr w
    · have := apply_put S R hR T re im hS hr w
      rw [upd_re, upd_im] at this
      exact this
    · by_cases hi : inB (S (2 * R) + re) ∧ inB (S (2 * R + 1) + im)
      · have hc := fun w => reckon_add (S (2 * R)) (S (2 * R + 1)) R T re im ia ib h6 h7 w
        rw [show px (S (2 * R) + re) (S (2 * R + 1) + im) = _ from if_pos hi, show py (S (2 * R) + re) (S (2 * R + 1) + im) = _ from if_pos hi, rb_yes hi.1 hi.2] at hc
        have := apply_reck_yes3 S R hR T re im hS hr _ _ (hide hc) w
        rw [upd_re, upd_im] at this
        have e2 : run S 3 R T T re im = (upd S R (S (2 * R) + re) (S (2 * R + 1) + im), 1, S (2 * R) + re, S (2 * R + 1) + im) := by simp [run, made, hi]
        rw [e2]
        exact this
      · have hc := fun w => reckon_add (S (2 * R)) (S (2 * R + 1)) R T re im ia ib h6 h7 w
        rw [rb_no hi] at hc
        have := apply_reck_no3 S R hR T re im hS hr _ _ (hide hc) w
        have e2 : run S 3 R T T re im = (S, 2, 0, 0) := by simp [run, made, hi]
        rw [e2]
        exact this
    · by_cases hi : inB (S (2 * R) * re - S (2 * R + 1) * im) ∧ inB (S (2 * R) * im + S (2 * R + 1) * re)
      · have hc := fun w => reckon_mul (S (2 * R)) (S (2 * R + 1)) R T re im ia ib h6 h7 w
        rw [show px (S (2 * R) * re - S (2 * R + 1) * im) (S (2 * R) * im + S (2 * R + 1) * re) = _ from if_pos hi, show py (S (2 * R) * re - S (2 * R + 1) * im) (S (2 * R) * im + S (2 * R + 1) * re) = _ from if_pos hi, rb_yes hi.1 hi.2] at hc
        have := apply_reck_yes4 S R hR T re im hS hr _ _ (hide hc) w
        rw [upd_re, upd_im] at this
        have e2 : run S 4 R T T re im = (upd S R (S (2 * R) * re - S (2 * R + 1) * im) (S (2 * R) * im + S (2 * R + 1) * re), 1, S (2 * R) * re - S (2 * R + 1) * im, S (2 * R) * im + S (2 * R + 1) * re) := by simp [run, made, hi]
        rw [e2]
        exact this
      · have hc := fun w => reckon_mul (S (2 * R)) (S (2 * R + 1)) R T re im ia ib h6 h7 w
        rw [rb_no hi] at hc
        have := apply_reck_no4 S R hR T re im hS hr _ _ (hide hc) w
        have e2 : run S 4 R T T re im = (S, 2, 0, 0) := by simp [run, made, hi]
        rw [e2]
        exact this
    · have hc := fun w => reckon_turn (S (2 * R)) (S (2 * R + 1)) R T re im ia ib h6 h7 w
      have hi := rot_in ((T : Int) % 4).toNat (S (2 * R), S (2 * R + 1)) ia ib
      have := apply_reck_yes5 S R hR T re im hS hr _ _ (hide hc) w
      rw [upd_re, upd_im] at this
      have e2 : run S 5 R T T re im = (upd S R (rot ((T : Int) % 4).toNat (S (2 * R), S (2 * R + 1))).1 (rot ((T : Int) % 4).toNat (S (2 * R), S (2 * R + 1))).2, 1, (rot ((T : Int) % 4).toNat (S (2 * R), S (2 * R + 1))).1, (rot ((T : Int) % 4).toNat (S (2 * R), S (2 * R + 1))).2) := by
        have hm : made 5 T re im (S (2 * R)) (S (2 * R + 1)) = rot ((T : Int) % 4).toNat (S (2 * R), S (2 * R + 1)) := by simp [made]
        unfold run
        rw [if_neg (by omega), if_neg (by omega), if_neg (by omega), if_neg (by omega), hm, if_pos hi]
      rw [e2]
      exact this
    · exact apply_swap S R hR T hT re im hS hr w
    · by_cases hE : S (2 * R) = re ∧ S (2 * R + 1) = im
      · have := apply_take_yes S R hR T hT re im hS hr hE w
        rw [upd_re, upd_im] at this
        have e2 : run S 7 R T T re im = (upd S R (S (2 * T)) (S (2 * T + 1)), 1, S (2 * T), S (2 * T + 1)) := by simp [run, hE]
        rw [e2]
        exact this
      · have := apply_take_no S R hR T hT re im hS hr hE w
        have e2 : run S 7 R T T re im = (S, 3, S (2 * R), S (2 * R + 1)) := by simp [run, hE]
        rw [e2]
        exact this
  · rw [show app S k r t re im = (S, 0, 0, 0) from if_neg h]
    exact apply_bad S k r t re im h w
end Go.Proofs.Ytogkgmbldmfpiaa
