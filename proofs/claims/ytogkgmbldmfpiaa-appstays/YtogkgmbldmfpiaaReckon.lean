/-
  reckon of package app: what a sum, a product or a turn makes of a register. No condition but that the register and the number are right.
-/
import Derived.Test.YtogkgmbldmfpiaaApp
set_option linter.unusedSimpArgs false
set_option linter.unusedVariables false
namespace Go.Proofs.Ytogkgmbldmfpiaa
open Go.RowKit

/-- The parts, if they are right, else 0. -/
def px (p q : Int) : Int := if inB p ∧ inB q then p else 0
def py (p q : Int) : Int := if inB p ∧ inB q then q else 0

theorem px_in (p q : Int) : inB (px p q) ∧ inB (py p q) := by
  unfold px py
  split
  · assumption
  · exact ⟨by unfold inB; omega, by unfold inB; omega⟩
theorem fv_rx (p q : Int) : FV (rx p q) (px p q) := by
  unfold rx px
  split
  · rename_i h; exact fvi h.1
  · exact fv_zero
theorem fv_ry (p q : Int) : FV (ry p q) (py p q) := by
  unfold ry py
  split
  · rename_i h; exact fvi h.2
  · exact fv_zero

theorem reckon_add (a b r t re im : Int) (ha : inB a) (hb : inB b) (hre : inB re) (him : inB im) (w : World) :
    Calls Try.prog 37 #[.agg #[.int .i64 a, .int .i64 b], .agg #[.int .i64 3, .int .i64 r, .int .i64 t, .int .i64 re, .int .i64 im]] w fun e w' =>
      e = .returned (.tuple #[.agg #[.int .i64 (px (a + re) (b + im)), .int .i64 (py (a + re) (b + im))], .bool (rb (a + re) (b + im))]) ∧ Below w.heap.size w w' := by
  have hp := px_in (a + re) (b + im)
  go_enter Try.func37, Try.ntmps37
  go_wp2_with fail
  refine (of_yes a b ha hb _).mono ?_
  rintro e w' ⟨rfl, rfl⟩
  go_wp2_with fail
  refine (of_yes re im hre him _).mono ?_
  rintro e w' ⟨rfl, rfl⟩
  go_wp2_with fail
  refine (add_any _ _ _ _ a b re im (fvi ha) (fvi hb) (fvi hre) (fvi him) ha hb hre him _).mono ?_
  rintro e w' ⟨rfl, rfl⟩
  go_wp2_with fail
  refine (parts_yes _ _ _ _ (fv_rx _ _) (fv_ry _ _) hp.1 hp.2 _).mono ?_
  rintro e w' ⟨rfl, rfl⟩
  go_wp2
  go_returns
  exact ⟨rfl, by go_grown⟩

theorem reckon_mul (a b r t re im : Int) (ha : inB a) (hb : inB b) (hre : inB re) (him : inB im) (w : World) :
    Calls Try.prog 37 #[.agg #[.int .i64 a, .int .i64 b], .agg #[.int .i64 4, .int .i64 r, .int .i64 t, .int .i64 re, .int .i64 im]] w fun e w' =>
      e = .returned (.tuple #[.agg #[.int .i64 (px (a * re - b * im) (a * im + b * re)), .int .i64 (py (a * re - b * im) (a * im + b * re))], .bool (rb (a * re - b * im) (a * im + b * re))]) ∧ Below w.heap.size w w' := by
  have hp := px_in (a * re - b * im) (a * im + b * re)
  go_enter Try.func37, Try.ntmps37
  go_wp2_with fail
  refine (of_yes a b ha hb _).mono ?_
  rintro e w' ⟨rfl, rfl⟩
  go_wp2_with fail
  refine (of_yes re im hre him _).mono ?_
  rintro e w' ⟨rfl, rfl⟩
  go_wp2_with fail
  refine (mul_any _ _ _ _ a b re im (fvi ha) (fvi hb) (fvi hre) (fvi him) ha hb hre him _).mono ?_
  rintro e w' ⟨rfl, rfl⟩
  go_wp2_with fail
  refine (parts_yes _ _ _ _ (fv_rx _ _) (fv_ry _ _) hp.1 hp.2 _).mono ?_
  rintro e w' ⟨rfl, rfl⟩
  go_wp2
  go_returns
  exact ⟨rfl, by go_grown⟩

theorem reckon_turn (a b r t re im : Int) (ha : inB a) (hb : inB b) (hre : inB re) (him : inB im) (w : World) :
    Calls Try.prog 37 #[.agg #[.int .i64 a, .int .i64 b], .agg #[.int .i64 5, .int .i64 r, .int .i64 t, .int .i64 re, .int .i64 im]] w fun e w' =>
      e = .returned (.tuple #[.agg #[.int .i64 (rot (t % 4).toNat (a, b)).1, .int .i64 (rot (t % 4).toNat (a, b)).2], .bool true]) ∧ Below w.heap.size w w' := by
  have hp := rot_in (t % 4).toNat (a, b) ha hb
  have ht := fun w => turn_any _ _ a b t (fvi ha) (fvi hb) ha hb w
  generalize (rot (t % 4).toNat (a, b)).1 = P1 at *
  generalize (rot (t % 4).toNat (a, b)).2 = P2 at *
  have HT := hide ht
  clear ht
  go_enter Try.func37, Try.ntmps37
  go_wp2_with fail
  refine (of_yes a b ha hb _).mono ?_
  rintro e w' ⟨rfl, rfl⟩
  go_wp2_with fail
  refine (of_yes re im hre him _).mono ?_
  rintro e w' ⟨rfl, rfl⟩
  go_wp2_with fail
  refine (HT.out _).mono ?_
  rintro e w' ⟨rfl, rfl⟩
  go_wp2_with fail
  refine (parts_yes _ _ _ _ (fvi hp.1) (fvi hp.2) hp.1 hp.2 _).mono ?_
  rintro e w' ⟨rfl, rfl⟩
  go_wp2
  go_returns
  exact ⟨rfl, by go_grown⟩
end Go.Proofs.Ytogkgmbldmfpiaa
