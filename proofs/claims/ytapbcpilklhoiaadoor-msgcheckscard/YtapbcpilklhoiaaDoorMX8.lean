/-
  Decode of package value, whatever the bytes. Conditions: what is read is in reach.
  Take of the reference of package value, whatever is read. No condition but the reach of what is read.
  The head of synodlaw03, Right of synodref03, is of synodlaw03. No condition.
-/
import Derived.Test.YtapbcpilklhoiaaDoorMX5
import Derived.Test.YtapbcpilklhoiaaDoorMX7
import Derived.Test.YtapbcpilklhoiaaDoorMX4
import Derived.Test.YtapbcpilklhoiaaDoorMX6
set_option linter.unusedSimpArgs false
set_option linter.unusedVariables false

namespace Go.Proofs.YtapbcpilklhoiaaDoor
open Go.RowKit

/-- What Done answers. -/
def dn (s : RSt) : Nat := if s.2 = 0 then (if s.1 = [] then 0 else 13) else s.2
theorem dn_zero {s : RSt} (h : dn s = 0) : s = ([], 0) := by
  obtain ⟨xs, er⟩ := s
  unfold dn at h
  simp only at h
  split at h
  · split at h
    · simp_all
    · omega
  · omega
theorem rdone_st (g : Nat) (b : Option Nat) (s : RSt) (w : World) (h : Rd w g b s.1 s.2) : Calls Tryd.prog 44 #[.pointer (some ⟨g, 0, none⟩)] w fun e w' => e = .returned (.int .i64 (dn s : Int)) ∧ Kept (fun k => k = g) w w' := by
  obtain ⟨xs, er⟩ := s
  unfold dn
  simp only at h ⊢
  by_cases h0 : er = 0
  · subst h0
    by_cases hx : xs = []
    · subst hx
      rw [if_pos rfl, if_pos rfl]
      refine (rdone_end g b w h).mono ?_
      rintro e w' ⟨rfl, rfl⟩
      exact ⟨rfl, Kept.refl _ _⟩
    · rw [if_pos rfl, if_neg hx]
      refine (rdone_trail g b xs w h hx).mono ?_
      rintro e w' ⟨rfl, _, _, _, hk⟩
      exact ⟨rfl, hk⟩
  · rw [if_neg h0]
    refine (rdone_stuck g b xs er w h h0).mono ?_
    rintro e w' ⟨rfl, rfl⟩
    exact ⟨rfl, Kept.refl _ _⟩

/-- What Decode answers beside the value. -/
def decE (xs : List UInt8) : Int := if dn (rdV (xs, 0)).s = 0 then chkV (rdV (xs, 0)).k (rdV (xs, 0)).cs (rdV (xs, 0)).ns else (dn (rdV (xs, 0)).s : Int)
theorem rdV_lens (s : RSt) : (rdV s).cs.length ≤ 8 ∧ (rdV s).ns.length ≤ 7 ∧ (∀ x ∈ (rdV s).cs, IsCmd x) := by
  have h8 := rc_le (s := (rc 2 s).2) (most := 8) (by omega)
  have h7 := rc_le (s := (rdC (rc 8 (rc 2 s).2).1 (rc 8 (rc 2 s).2).2).2) (most := 7) (by omega)
  unfold rdV
  simp only [rdC_len, rdN_len]
  exact ⟨by omega, by omega, rdC_isCmd _ _⟩

/-- How a Decode ends. -/
def DecEnds (de : Int) (V : RdV) (w : World) (e : Ending) (w' : World) : Prop :=
  (∃ A' n' c' D m d, e = .returned (.tuple #[.agg #[.int .i64 (if de = 0 then (V.k : Int) else 0), .slice A' n' c', .slice D m d], .int .i64 de]) ∧ IsV w' w'.heap.size A' n' D m (if de = 0 then V.cs else []) (if de = 0 then V.ns else [])) ∧ Below w.heap.size w w'

end Go.Proofs.YtapbcpilklhoiaaDoor

namespace Go.Proofs.YtapbcpilklhoiaaDoor
open Go.RowKit

section
variable {w : World} {B gv : Nat} {st : RSt} {A : Option Addr} {n c : Nat} {kd : Int} {Av : Option Addr} {nv cv : Nat} {cs : List Cmdv} {D : Option Addr} {m d : Nat} {ns : List Int} {W W' : World}
end
theorem rcx_rc (xs : List UInt8) (er : Nat) (most : Int) : rcx xs most er = rc most (xs, er) := by
  unfold rcx rc rcn rnx
  by_cases h : er = 0
  · subst h
    simp
  · simp [h]

def RcEnds (B : Nat) (q : Nat × RSt) (w : World) (e : Ending) (w' : World) : Prop :=
  ∃ A n c, e = .returned (.tuple #[.agg #[.slice A n c, .int .i64 (q.2.2 : Int)], .int .i64 (q.1 : Int)]) ∧ Hid (q.2.2 = 0 → Left w' B A n c q.2.1) ∧ Below w.heap.size w w'
def TakeEnds (B : Nat) (kd : Nat) (cs : List Cmdv) (ns : List Int) (s : RSt) (w : World) (e : Ending) (w' : World) : Prop :=
  ∃ A n c Av nv cv D m d, e = .returned (.tuple #[.agg #[.slice A n c, .int .i64 (s.2 : Int)], .agg #[.int .i64 (kd : Int), .slice Av nv cv, .slice D m d]]) ∧ Hid (s.2 = 0 → Left w' B A n c s.1) ∧ OwnC w' w.heap.size (.slice Av nv cv) cs ∧ OwnI w' w.heap.size (.slice D m d) ns ∧ Below w.heap.size w w'

end Go.Proofs.YtapbcpilklhoiaaDoor

namespace Go.Proofs.YtapbcpilklhoiaaDoor
open Go.RowKit

theorem fv_3 : FV 4613937818241073152 3 := by
  have := fv_int 3 (by decide)
  rwa [show floatOfInt .f64 3 = 4613937818241073152 from by decide +kernel] at this
theorem fv_4 : FV 4616189618054758400 4 := by
  have := fv_int 4 (by decide)
  rwa [show floatOfInt .f64 4 = 4616189618054758400 from by decide +kernel] at this

theorem fvi {a : Int} (h : inB a) : FV (floatOfInt .f64 a) a := fv_int a (by unfold inB at h; omega)
theorem lti (a : Int) : floatOfInt .f64 a < 18446744073709551616 := by
  have := floatOfInt_wf .f64 a
  simpa [Lit.wf] using this
theorem oeq {x y : Nat} {a : Int} (h : FV x a) (h' : FV y a) : FloatKind.f64.format.order x y = some .eq := by rw [fv_order h h', cmp_eq]
theorem oself (a : Int) (h : inB a) : FloatKind.f64.format.order (floatOfInt .f64 a) (floatOfInt .f64 a) = some .eq := oeq (fvi h) (fvi h)

theorem refright_yes (a b : Int) (ha : inB a) (hb : inB b) (w : World) : Calls Tryd.prog 56 #[.int .i64 a, .int .i64 b] w fun e w' => e = .returned (.bool true) ∧ w = w' := by
  obtain ⟨h1, h2⟩ := ha
  obtain ⟨h3, h4⟩ := hb
  go_enter Tryd.func56, Tryd.ntmps56
  go_wp2
  go_ret
  exact ⟨rfl, rfl⟩

theorem refright_no (a b : Int) (h : ¬ (inB a ∧ inB b)) (w : World) : Calls Tryd.prog 56 #[.int .i64 a, .int .i64 b] w fun e w' => e = .returned (.bool false) ∧ w = w' := by
  unfold inB at h
  have key : ∀ h1 h2 h3 h4 : Bool, decide (-1048576 ≤ a) = h1 → decide (a ≤ 1048576) = h2 → decide (-1048576 ≤ b) = h3 → decide (b ≤ 1048576) = h4 → (h1 && h2 && h3 && h4) = false := by
    rintro _ _ _ _ rfl rfl rfl rfl
    simp
    omega
  by_cases h1 : -1048576 ≤ a <;> by_cases h2 : a ≤ 1048576 <;> by_cases h3 : -1048576 ≤ b <;> by_cases h4 : b ≤ 1048576
  all_goals first
    | (exfalso; omega)
    | (clear h key
       go_enter Tryd.func56, Tryd.ntmps56
       go_wp2
       go_ret
       exact ⟨rfl, rfl⟩)

end Go.Proofs.YtapbcpilklhoiaaDoor
