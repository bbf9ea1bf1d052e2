/-
  What Apply's function does: plain facts. No condition but those that stand in each.
-/
import Derived.Test.YtogkgmbldmfpiaaApply
set_option linter.unusedSimpArgs false
set_option linter.unusedVariables false
namespace Go.Proofs.Ytogkgmbldmfpiaa
open Go.RowKit

/-- All registers 0. -/
def Z0 : Nat → Int := fun _ => 0
theorem cl_Z0 : (cl Z0).toArray = #[.int .i64 0, .int .i64 0, .int .i64 0, .int .i64 0, .int .i64 0, .int .i64 0, .int .i64 0, .int .i64 0, .int .i64 0, .int .i64 0, .int .i64 0, .int .i64 0, .int .i64 0, .int .i64 0, .int .i64 0, .int .i64 0] := rfl
theorem okS_Z0 : okS Z0 := by
  intro j _
  show inB 0 ∧ inB 0
  unfold inB
  omega

theorem okS_upd {S : Nat → Int} (h : okS S) (R : Nat) {p q : Int} (hp : inB p) (hq : inB q) : okS (upd S R p q) := by
  intro j hj
  obtain ⟨a, b⟩ := h j hj
  unfold upd
  by_cases e : j = R
  · subst e
    rw [if_pos rfl, if_neg (by omega), if_pos rfl]
    exact ⟨hp, hq⟩
  · rw [if_neg (by omega), if_neg (by omega), if_neg (by omega), if_neg (by omega)]
    exact ⟨a, b⟩

theorem okS_run {S : Nat → Int} (hS : okS S) (k : Int) (R T : Nat) (hR : R < 8) (hT : T < 8) (t re im : Int) (h1 : inB re) (h2 : inB im) : okS (run S k R T t re im).1 := by
  obtain ⟨a, b⟩ := hS R hR
  obtain ⟨c, d⟩ := hS T hT
  unfold run
  split
  · exact hS
  · split
    · exact okS_upd hS R h1 h2
    · split
      · exact okS_upd (okS_upd hS R c d) T a b
      · split
        · split
          · exact okS_upd hS R c d
          · exact hS
        · split
          · rename_i h
            exact okS_upd hS R h.1 h.2
          · exact hS

theorem right_parts {k r t re im : Int} (h : rightOp k r t re im) : ∃ R T : Nat, r = R ∧ t = T ∧ R < 8 ∧ T < 8 ∧ inB re ∧ inB im := by
  obtain ⟨h1, h2, h3, h4, h5, h6, h7⟩ := h
  have := tos_le k
  exact ⟨r.toNat, t.toNat, by omega, by omega, by omega, by omega, h6, h7⟩

theorem okS_app {S : Nat → Int} (hS : okS S) (k r t re im : Int) : okS (app S k r t re im).1 := by
  unfold app
  split
  · rename_i h
    obtain ⟨R, T, rfl, rfl, hR, hT, h1, h2⟩ := right_parts h.2
    exact okS_run hS k _ _ hR hT _ re im h1 h2
  · exact hS

theorem app_right {S : Nat → Int} (hS : okS S) {k : Int} {R T : Nat} {re im : Int} (h : rightOp k R T re im) : app S k R T re im = run S k R T T re im := by
  unfold app
  rw [if_pos ⟨hS, h⟩]
  rfl

theorem app_put {S : Nat → Int} (hS : okS S) {R : Nat} (hR : R < 8) {re im : Int} (h1 : inB re) (h2 : inB im) : app S 2 R 0 re im = (upd S R re im, 1, re, im) :=
  (app_right (T := 0) hS ⟨by omega, by omega, by omega, by decide, .inl (by decide), h1, h2⟩).trans rfl

theorem app_turn {S : Nat → Int} (hS : okS S) {R T : Nat} (hR : R < 8) (hT : T < 4) :
    app S 5 R T 0 0 = (upd S R (rot T (S (2 * R), S (2 * R + 1))).1 (rot T (S (2 * R), S (2 * R + 1))).2, 1, (rot T (S (2 * R), S (2 * R + 1))).1, (rot T (S (2 * R), S (2 * R + 1))).2) := by
  have hi := rot_in T (S (2 * R), S (2 * R + 1)) (hS R hR).1 (hS R hR).2
  have ht : tos 5 = 4 := by decide
  rw [app_right hS ⟨by omega, by omega, by omega, by rw [ht]; omega, .inr ⟨rfl, rfl⟩, by unfold inB; omega, by unfold inB; omega⟩]
  have hm : made 5 T 0 0 (S (2 * R)) (S (2 * R + 1)) = rot T (S (2 * R), S (2 * R + 1)) := by
    unfold made
    rw [if_neg (by omega), if_neg (by omega), show ((T : Int) % 4).toNat = T from by omega]
  unfold run
  rw [if_neg (by omega), if_neg (by omega), if_neg (by omega), if_neg (by omega), hm, if_pos hi]

theorem app_swap {S : Nat → Int} (hS : okS S) {R T : Nat} (hR : R < 8) (hT : T < 8) : (app S 6 R T 0 0).1 = swp S R T := by
  have ht : tos 6 = 8 := by decide
  rw [app_right hS ⟨by omega, by omega, by omega, by rw [ht]; omega, .inr ⟨rfl, rfl⟩, by unfold inB; omega, by unfold inB; omega⟩]
  rfl

theorem app_take {S : Nat → Int} (hS : okS S) {R T : Nat} (hR : R < 8) (hT : T < 8) {re im : Int} (h1 : inB re) (h2 : inB im) :
    app S 7 R T re im = if S (2 * R) = re ∧ S (2 * R + 1) = im then (upd S R (S (2 * T)) (S (2 * T + 1)), 1, S (2 * T), S (2 * T + 1)) else (S, 3, S (2 * R), S (2 * R + 1)) := by
  have ht : tos 7 = 8 := by decide
  rw [app_right hS ⟨by omega, by omega, by omega, by rw [ht]; omega, .inl (by decide), h1, h2⟩]
  rfl

theorem app_add {S : Nat → Int} (hS : okS S) {R : Nat} (hR : R < 8) {re im : Int} (h1 : inB re) (h2 : inB im) :
    app S 3 R 0 re im = if inB (S (2 * R) + re) ∧ inB (S (2 * R + 1) + im) then (upd S R (S (2 * R) + re) (S (2 * R + 1) + im), 1, S (2 * R) + re, S (2 * R + 1) + im) else (S, 2, 0, 0) := by
  rw [show (0 : Int) = ((0 : Nat) : Int) from rfl, app_right hS ⟨by omega, by omega, by omega, by decide, .inl (by decide), h1, h2⟩]
  rfl

theorem upd_upd (S : Nat → Int) (R : Nat) (p q p' q' : Int) : upd (upd S R p q) R p' q' = upd S R p' q' := by
  funext i
  unfold upd
  split
  · rfl
  · split <;> rfl
theorem upd_self (S : Nat → Int) (R : Nat) : upd S R (S (2 * R)) (S (2 * R + 1)) = S := by
  funext i
  unfold upd
  split
  · rename_i h; rw [h]
  · split
    · rename_i h; rw [h]
    · rfl
theorem upd_other (S : Nat → Int) (R : Nat) (p q : Int) (i : Nat) (h1 : i ≠ 2 * R) (h2 : i ≠ 2 * R + 1) : upd S R p q i = S i := by
  unfold upd
  rw [if_neg h1, if_neg h2]

theorem swp_at (S : Nat → Int) (R T i : Nat) : swp S R T i = if i = 2 * T then S (2 * R) else if i = 2 * T + 1 then S (2 * R + 1) else if i = 2 * R then S (2 * T) else if i = 2 * R + 1 then S (2 * T + 1) else S i := rfl
theorem swp_swp (S : Nat → Int) (R T : Nat) : swp (swp S R T) R T = S := by
  funext i
  rw [swp_at]
  by_cases e : R = T
  · subst e
    have e1 : swp S R R = S := by
      funext i
      rw [swp_at]
      split
      · rename_i h; rw [h]
      · split
        · rename_i h; rw [h]
        · rfl
    rw [e1]
    split
    · rename_i h; rw [h]
    · split
      · rename_i h; rw [h]
      · rfl
  · have a1 : swp S R T (2 * R) = S (2 * T) := by rw [swp_at, if_neg (by omega), if_neg (by omega), if_pos rfl]
    have a2 : swp S R T (2 * R + 1) = S (2 * T + 1) := by rw [swp_at, if_neg (by omega), if_neg (by omega), if_neg (by omega), if_pos rfl]
    have a3 : swp S R T (2 * T) = S (2 * R) := by rw [swp_at, if_pos rfl]
    have a4 : swp S R T (2 * T + 1) = S (2 * R + 1) := by rw [swp_at, if_neg (by omega), if_pos rfl]
    rw [a1, a2, a3, a4]
    split
    · rename_i h; rw [h]
    · split
      · rename_i h; rw [h]
      · split
        · rename_i h; rw [h]
        · split
          · rename_i h; rw [h]
          · rename_i h1 h2 h3 h4
            rw [swp_at, if_neg h1, if_neg h2, if_neg h3, if_neg h4]
end Go.Proofs.Ytogkgmbldmfpiaa
