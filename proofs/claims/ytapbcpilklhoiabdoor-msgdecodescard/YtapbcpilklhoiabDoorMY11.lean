/-
  bounded of package msg. No condition.
  Votes, the command and the result of a message, as package msg looks at them. Conditions: what is read is in reach.
  checkCmd and rightRes of package msg. No condition.
-/
import Derived.Test.YtapbcpilklhoiabDoorMY10
set_option linter.unusedSimpArgs false
set_option linter.unusedVariables false

namespace Go.Proofs.YtapbcpilklhoiabDoor
open Go.RowKit

/-- The plain numbers lie within their bounds; ls is the least slot. -/
def bndB (m : Msgv) (ls : Int) : Bool := insB m.fr 0 9 && insB m.tt 0 9 && insB m.ep 0 1099511627776 && insB m.sl ls 1099511627776 && insB m.lw 0 1099511627776 && insB m.tm 0 1099511627776 && decide (m.dn ≤ 1024)

set_option maxRecDepth 20000 in
set_option maxHeartbeats 1600000 in
theorem bounded_one (m : Msgv) (u : Int) (hu : (bits .and .i64 u 8 != 0) = true) (w : World) :
    Calls Tryd.prog 55 #[.agg #[.int .i64 m.kd, .int .i64 m.fr, .int .i64 m.tt, .int .i64 m.ep, .int .i64 m.br, .int .i64 m.bn, .int .i64 m.sl, .int .i64 m.lw, .int .i64 m.tm, .int .i64 m.v.k, .slice m.v.A m.v.n m.v.c, .slice m.v.D m.v.m m.v.d, .slice m.VA m.vn m.vc, .int .i64 m.cm.s, .int .i64 m.cm.q, .int .i64 m.cm.a, .int .i64 m.cm.k, .int .i64 m.cm.r, .int .i64 m.cm.t, .int .i64 m.cm.re, .int .i64 m.cm.im, .int .i64 m.rk, .int .i64 m.rr, .int .i64 m.ri, .slice m.DA m.dn m.dc], .int .i64 u] w fun e w' => e = .returned (.bool (bndB m 1)) ∧ Below w.heap.size w w' := by
  by_cases h0 : insB m.fr 0 9 = true
  rotate_left
  · have H0 := hide (Bool.eq_false_iff.2 h0)
    have e : bndB m 1 = false := by unfold bndB; rw [H0.out]; simp
    rw [e]
    clear e h0
    go_enter Tryd.func55, Tryd.ntmps55
    go_wp2_with fail
    refine (minside_any m.fr 0 9 _).mono ?_
    rintro e w' ⟨rfl, rfl⟩
    rw [H0.out]
    go_wp2
    go_ret
    exact ⟨rfl, by go_grown⟩
  have H0 := hide h0
  clear h0
  by_cases h1 : insB m.tt 0 9 = true
  rotate_left
  · have H1 := hide (Bool.eq_false_iff.2 h1)
    have e : bndB m 1 = false := by unfold bndB; rw [H0.out, H1.out]; simp
    rw [e]
    clear e h1
    go_enter Tryd.func55, Tryd.ntmps55
    go_wp2_with fail
    refine (minside_any m.fr 0 9 _).mono ?_
    rintro e w' ⟨rfl, rfl⟩
    rw [H0.out]
    go_wp2_with fail
    refine (minside_any m.tt 0 9 _).mono ?_
    rintro e w' ⟨rfl, rfl⟩
    rw [H1.out]
    go_wp2
    go_ret
    exact ⟨rfl, by go_grown⟩
  have H1 := hide h1
  clear h1
  by_cases h2 : insB m.ep 0 1099511627776 = true
  rotate_left
  · have H2 := hide (Bool.eq_false_iff.2 h2)
    have e : bndB m 1 = false := by unfold bndB; rw [H0.out, H1.out, H2.out]; simp
    rw [e]
    clear e h2
    go_enter Tryd.func55, Tryd.ntmps55
    go_wp2_with fail
    refine (minside_any m.fr 0 9 _).mono ?_
    rintro e w' ⟨rfl, rfl⟩
    rw [H0.out]
    go_wp2_with fail
    refine (minside_any m.tt 0 9 _).mono ?_
    rintro e w' ⟨rfl, rfl⟩
    rw [H1.out]
    go_wp2_with fail
    refine (minside_any m.ep 0 1099511627776 _).mono ?_
    rintro e w' ⟨rfl, rfl⟩
    rw [H2.out]
    go_wp2
    go_ret
    exact ⟨rfl, by go_grown⟩
  have H2 := hide h2
  clear h2
  by_cases h3 : insB m.sl 1 1099511627776 = true
  rotate_left
  · have H3 := hide (Bool.eq_false_iff.2 h3)
    have e : bndB m 1 = false := by unfold bndB; rw [H0.out, H1.out, H2.out, H3.out]; simp
    rw [e]
    clear e h3
    go_enter Tryd.func55, Tryd.ntmps55
    go_wp2_with fail
    refine (minside_any m.fr 0 9 _).mono ?_
    rintro e w' ⟨rfl, rfl⟩
    rw [H0.out]
    go_wp2_with fail
    refine (minside_any m.tt 0 9 _).mono ?_
    rintro e w' ⟨rfl, rfl⟩
    rw [H1.out]
    go_wp2_with fail
    refine (minside_any m.ep 0 1099511627776 _).mono ?_
    rintro e w' ⟨rfl, rfl⟩
    rw [H2.out]
    go_wp2_with fail
    refine (minside_any m.sl 1 1099511627776 _).mono ?_
    rintro e w' ⟨rfl, rfl⟩
    rw [H3.out]
    go_wp2
    go_ret
    exact ⟨rfl, by go_grown⟩
  have H3 := hide h3
  clear h3
  by_cases h4 : insB m.lw 0 1099511627776 = true
  rotate_left
  · have H4 := hide (Bool.eq_false_iff.2 h4)
    have e : bndB m 1 = false := by unfold bndB; rw [H0.out, H1.out, H2.out, H3.out, H4.out]; simp
    rw [e]
    clear e h4
    go_enter Tryd.func55, Tryd.ntmps55
    go_wp2_with fail
    refine (minside_any m.fr 0 9 _).mono ?_
    rintro e w' ⟨rfl, rfl⟩
    rw [H0.out]
    go_wp2_with fail
    refine (minside_any m.tt 0 9 _).mono ?_
    rintro e w' ⟨rfl, rfl⟩
    rw [H1.out]
    go_wp2_with fail
    refine (minside_any m.ep 0 1099511627776 _).mono ?_
    rintro e w' ⟨rfl, rfl⟩
    rw [H2.out]
    go_wp2_with fail
    refine (minside_any m.sl 1 1099511627776 _).mono ?_
    rintro e w' ⟨rfl, rfl⟩
    rw [H3.out]
    go_wp2_with fail
    refine (minside_any m.lw 0 1099511627776 _).mono ?_
    rintro e w' ⟨rfl, rfl⟩
    rw [H4.out]
    go_wp2
    go_ret
    exact ⟨rfl, by go_grown⟩
  have H4 := hide h4
  clear h4
  by_cases h5 : insB m.tm 0 1099511627776 = true
  rotate_left
  · have H5 := hide (Bool.eq_false_iff.2 h5)
    have e : bndB m 1 = false := by unfold bndB; rw [H0.out, H1.out, H2.out, H3.out, H4.out, H5.out]; simp
    rw [e]
    clear e h5
    go_enter Tryd.func55, Tryd.ntmps55
    go_wp2_with fail
    refine (minside_any m.fr 0 9 _).mono ?_
    rintro e w' ⟨rfl, rfl⟩
    rw [H0.out]
    go_wp2_with fail
    refine (minside_any m.tt 0 9 _).mono ?_
    rintro e w' ⟨rfl, rfl⟩
    rw [H1.out]
    go_wp2_with fail
    refine (minside_any m.ep 0 1099511627776 _).mono ?_
    rintro e w' ⟨rfl, rfl⟩
    rw [H2.out]
    go_wp2_with fail
    refine (minside_any m.sl 1 1099511627776 _).mono ?_
    rintro e w' ⟨rfl, rfl⟩
    rw [H3.out]
    go_wp2_with fail
    refine (minside_any m.lw 0 1099511627776 _).mono ?_
    rintro e w' ⟨rfl, rfl⟩
    rw [H4.out]
    go_wp2_with fail
    refine (minside_any m.tm 0 1099511627776 _).mono ?_
    rintro e w' ⟨rfl, rfl⟩
    rw [H5.out]
    go_wp2
    go_ret
    exact ⟨rfl, by go_grown⟩
  have H5 := hide h5
  clear h5
  have e : bndB m 1 = decide (m.dn ≤ 1024) := by unfold bndB; rw [H0.out, H1.out, H2.out, H3.out, H4.out, H5.out]; simp
  rw [e]
  clear e
  by_cases hd : m.dn ≤ 1024
  · rw [decide_eq_true hd]
    have hd' : decide ((m.dn : Int) ≤ 1024) = true := by simp; omega
    go_enter Tryd.func55, Tryd.ntmps55
    go_wp2_with fail
    refine (minside_any m.fr 0 9 _).mono ?_
    rintro e w' ⟨rfl, rfl⟩
    rw [H0.out]
    go_wp2_with fail
    refine (minside_any m.tt 0 9 _).mono ?_
    rintro e w' ⟨rfl, rfl⟩
    rw [H1.out]
    go_wp2_with fail
    refine (minside_any m.ep 0 1099511627776 _).mono ?_
    rintro e w' ⟨rfl, rfl⟩
    rw [H2.out]
    go_wp2_with fail
    refine (minside_any m.sl 1 1099511627776 _).mono ?_
    rintro e w' ⟨rfl, rfl⟩
    rw [H3.out]
    go_wp2_with fail
    refine (minside_any m.lw 0 1099511627776 _).mono ?_
    rintro e w' ⟨rfl, rfl⟩
    rw [H4.out]
    go_wp2_with fail
    refine (minside_any m.tm 0 1099511627776 _).mono ?_
    rintro e w' ⟨rfl, rfl⟩
    rw [H5.out]
    go_wp2
    go_ret
    exact ⟨rfl, by go_grown⟩
  · rw [decide_eq_false hd]
    have hd' : decide ((m.dn : Int) ≤ 1024) = false := by simp; omega
    go_enter Tryd.func55, Tryd.ntmps55
    go_wp2_with fail
    refine (minside_any m.fr 0 9 _).mono ?_
    rintro e w' ⟨rfl, rfl⟩
    rw [H0.out]
    go_wp2_with fail
    refine (minside_any m.tt 0 9 _).mono ?_
    rintro e w' ⟨rfl, rfl⟩
    rw [H1.out]
    go_wp2_with fail
    refine (minside_any m.ep 0 1099511627776 _).mono ?_
    rintro e w' ⟨rfl, rfl⟩
    rw [H2.out]
    go_wp2_with fail
    refine (minside_any m.sl 1 1099511627776 _).mono ?_
    rintro e w' ⟨rfl, rfl⟩
    rw [H3.out]
    go_wp2_with fail
    refine (minside_any m.lw 0 1099511627776 _).mono ?_
    rintro e w' ⟨rfl, rfl⟩
    rw [H4.out]
    go_wp2_with fail
    refine (minside_any m.tm 0 1099511627776 _).mono ?_
    rintro e w' ⟨rfl, rfl⟩
    rw [H5.out]
    go_wp2
    go_ret
    exact ⟨rfl, by go_grown⟩
set_option maxRecDepth 20000 in
set_option maxHeartbeats 1600000 in
theorem bounded_nil (m : Msgv) (u : Int) (hu : (bits .and .i64 u 8 != 0) = false) (w : World) :
    Calls Tryd.prog 55 #[.agg #[.int .i64 m.kd, .int .i64 m.fr, .int .i64 m.tt, .int .i64 m.ep, .int .i64 m.br, .int .i64 m.bn, .int .i64 m.sl, .int .i64 m.lw, .int .i64 m.tm, .int .i64 m.v.k, .slice m.v.A m.v.n m.v.c, .slice m.v.D m.v.m m.v.d, .slice m.VA m.vn m.vc, .int .i64 m.cm.s, .int .i64 m.cm.q, .int .i64 m.cm.a, .int .i64 m.cm.k, .int .i64 m.cm.r, .int .i64 m.cm.t, .int .i64 m.cm.re, .int .i64 m.cm.im, .int .i64 m.rk, .int .i64 m.rr, .int .i64 m.ri, .slice m.DA m.dn m.dc], .int .i64 u] w fun e w' => e = .returned (.bool (bndB m 0)) ∧ Below w.heap.size w w' := by
  by_cases h0 : insB m.fr 0 9 = true
  rotate_left
  · have H0 := hide (Bool.eq_false_iff.2 h0)
    have e : bndB m 0 = false := by unfold bndB; rw [H0.out]; simp
    rw [e]
    clear e h0
    go_enter Tryd.func55, Tryd.ntmps55
    go_wp2_with fail
    refine (minside_any m.fr 0 9 _).mono ?_
    rintro e w' ⟨rfl, rfl⟩
    rw [H0.out]
    go_wp2
    go_ret
    exact ⟨rfl, by go_grown⟩
  have H0 := hide h0
  clear h0
  by_cases h1 : insB m.tt 0 9 = true
  rotate_left
  · have H1 := hide (Bool.eq_false_iff.2 h1)
    have e : bndB m 0 = false := by unfold bndB; rw [H0.out, H1.out]; simp
    rw [e]
    clear e h1
    go_enter Tryd.func55, Tryd.ntmps55
    go_wp2_with fail
    refine (minside_any m.fr 0 9 _).mono ?_
    rintro e w' ⟨rfl, rfl⟩
    rw [H0.out]
    go_wp2_with fail
    refine (minside_any m.tt 0 9 _).mono ?_
    rintro e w' ⟨rfl, rfl⟩
    rw [H1.out]
    go_wp2
    go_ret
    exact ⟨rfl, by go_grown⟩
  have H1 := hide h1
  clear h1
  by_cases h2 : insB m.ep 0 1099511627776 = true
  rotate_left
  · have H2 := hide (Bool.eq_false_iff.2 h2)
    have e : bndB m 0 = false := by unfold bndB; rw [H0.out, H1.out, H2.out]; simp
    rw [e]
    clear e h2
    go_enter Tryd.func55, Tryd.ntmps55
    go_wp2_with fail
    refine (minside_any m.fr 0 9 _).mono ?_
    rintro e w' ⟨rfl, rfl⟩
    rw [H0.out]
    go_wp2_with fail
    refine (minside_any m.tt 0 9 _).mono ?_
    rintro e w' ⟨rfl, rfl⟩
    rw [H1.out]
    go_wp2_with fail
    refine (minside_any m.ep 0 1099511627776 _).mono ?_
    rintro e w' ⟨rfl, rfl⟩
    rw [H2.out]
    go_wp2
    go_ret
    exact ⟨rfl, by go_grown⟩
  have H2 := hide h2
  clear h2
  by_cases h3 : insB m.sl 0 1099511627776 = true
  rotate_left
  · have H3 := hide (Bool.eq_false_iff.2 h3)
    have e : bndB m 0 = false := by unfold bndB; rw [H0.out, H1.out, H2.out, H3.out]; simp
    rw [e]
    clear e h3
    go_enter Tryd.func55, Tryd.ntmps55
    go_wp2_with fail
    refine (minside_any m.fr 0 9 _).mono ?_
    rintro e w' ⟨rfl, rfl⟩
    rw [H0.out]
    go_wp2_with fail
    refine (minside_any m.tt 0 9 _).mono ?_
    rintro e w' ⟨rfl, rfl⟩
    rw [H1.out]
    go_wp2_with fail
    refine (minside_any m.ep 0 1099511627776 _).mono ?_
    rintro e w' ⟨rfl, rfl⟩
    rw [H2.out]
    go_wp2_with fail
    refine (minside_any m.sl 0 1099511627776 _).mono ?_
    rintro e w' ⟨rfl, rfl⟩
    rw [H3.out]
    go_wp2
    go_ret
    exact ⟨rfl, by go_grown⟩
  have H3 := hide h3
  clear h3
  by_cases h4 : insB m.lw 0 1099511627776 = true
  rotate_left
  · have H4 := hide (Bool.eq_false_iff.2 h4)
    have e : bndB m 0 = false := by unfold bndB; rw [H0.out, H1.out, H2.out, H3.out, H4.out]; simp
    rw [e]
    clear e h4
    go_enter Tryd.func55, Tryd.ntmps55
    go_wp2_with fail
    refine (minside_any m.fr 0 9 _).mono ?_
    rintro e w' ⟨rfl, rfl⟩
    rw [H0.out]
    go_wp2_with fail
    refine (minside_any m.tt 0 9 _).mono ?_
    rintro e w' ⟨rfl, rfl⟩
    rw [H1.out]
    go_wp2_with fail
    refine (minside_any m.ep 0 1099511627776 _).mono ?_
    rintro e w' ⟨rfl, rfl⟩
    rw [H2.out]
    go_wp2_with fail
    refine (minside_any m.sl 0 1099511627776 _).mono ?_
    rintro e w' ⟨rfl, rfl⟩
    rw [H3.out]
    go_wp2_with fail
    refine (minside_any m.lw 0 1099511627776 _).mono ?_
    rintro e w' ⟨rfl, rfl⟩
    rw [H4.out]
    go_wp2
    go_ret
    exact ⟨rfl, by go_grown⟩
  have H4 := hide h4
  clear h4
  by_cases h5 : insB m.tm 0 1099511627776 = true
  rotate_left
  · have H5 := hide (Bool.eq_false_iff.2 h5)
    have e : bndB m 0 = false := by unfold bndB; rw [H0.out, H1.out, H2.out, H3.out, H4.out, H5.out]; simp
    rw [e]
    clear e h5
    go_enter Tryd.func55, Tryd.ntmps55
    go_wp2_with fail
    refine (minside_any m.fr 0 9 _).mono ?_
    rintro e w' ⟨rfl, rfl⟩
    rw [H0.out]
    go_wp2_with fail
    refine (minside_any m.tt 0 9 _).mono ?_
    rintro e w' ⟨rfl, rfl⟩
    rw [H1.out]
    go_wp2_with fail
    refine (minside_any m.ep 0 1099511627776 _).mono ?_
    rintro e w' ⟨rfl, rfl⟩
    rw [H2.out]
    go_wp2_with fail
    refine (minside_any m.sl 0 1099511627776 _).mono ?_
    rintro e w' ⟨rfl, rfl⟩
    rw [H3.out]
    go_wp2_with fail
    refine (minside_any m.lw 0 1099511627776 _).mono ?_
    rintro e w' ⟨rfl, rfl⟩
    rw [H4.out]
    go_wp2_with fail
    refine (minside_any m.tm 0 1099511627776 _).mono ?_
    rintro e w' ⟨rfl, rfl⟩
    rw [H5.out]
    go_wp2
    go_ret
    exact ⟨rfl, by go_grown⟩
  have H5 := hide h5
  clear h5
  have e : bndB m 0 = decide (m.dn ≤ 1024) := by unfold bndB; rw [H0.out, H1.out, H2.out, H3.out, H4.out, H5.out]; simp
  rw [e]
  clear e
  by_cases hd : m.dn ≤ 1024
  · rw [decide_eq_true hd]
    have hd' : decide ((m.dn : Int) ≤ 1024) = true := by simp; omega
    go_enter Tryd.func55, Tryd.ntmps55
    go_wp2_with fail
    refine (minside_any m.fr 0 9 _).mono ?_
    rintro e w' ⟨rfl, rfl⟩
    rw [H0.out]
    go_wp2_with fail
    refine (minside_any m.tt 0 9 _).mono ?_
    rintro e w' ⟨rfl, rfl⟩
    rw [H1.out]
    go_wp2_with fail
    refine (minside_any m.ep 0 1099511627776 _).mono ?_
    rintro e w' ⟨rfl, rfl⟩
    rw [H2.out]
    go_wp2_with fail
    refine (minside_any m.sl 0 1099511627776 _).mono ?_
    rintro e w' ⟨rfl, rfl⟩
    rw [H3.out]
    go_wp2_with fail
    refine (minside_any m.lw 0 1099511627776 _).mono ?_
    rintro e w' ⟨rfl, rfl⟩
    rw [H4.out]
    go_wp2_with fail
    refine (minside_any m.tm 0 1099511627776 _).mono ?_
    rintro e w' ⟨rfl, rfl⟩
    rw [H5.out]
    go_wp2
    go_ret
    exact ⟨rfl, by go_grown⟩
  · rw [decide_eq_false hd]
    have hd' : decide ((m.dn : Int) ≤ 1024) = false := by simp; omega
    go_enter Tryd.func55, Tryd.ntmps55
    go_wp2_with fail
    refine (minside_any m.fr 0 9 _).mono ?_
    rintro e w' ⟨rfl, rfl⟩
    rw [H0.out]
    go_wp2_with fail
    refine (minside_any m.tt 0 9 _).mono ?_
    rintro e w' ⟨rfl, rfl⟩
    rw [H1.out]
    go_wp2_with fail
    refine (minside_any m.ep 0 1099511627776 _).mono ?_
    rintro e w' ⟨rfl, rfl⟩
    rw [H2.out]
    go_wp2_with fail
    refine (minside_any m.sl 0 1099511627776 _).mono ?_
    rintro e w' ⟨rfl, rfl⟩
    rw [H3.out]
    go_wp2_with fail
    refine (minside_any m.lw 0 1099511627776 _).mono ?_
    rintro e w' ⟨rfl, rfl⟩
    rw [H4.out]
    go_wp2_with fail
    refine (minside_any m.tm 0 1099511627776 _).mono ?_
    rintro e w' ⟨rfl, rfl⟩
    rw [H5.out]
    go_wp2
    go_ret
    exact ⟨rfl, by go_grown⟩
end Go.Proofs.YtapbcpilklhoiabDoor

namespace Go.Proofs.YtapbcpilklhoiabDoor
open Go.RowKit

def valB (a b : Int) : Bool := decide (1 ≤ a ∧ a ≤ 1099511627776 ∧ 1 ≤ b ∧ b ≤ 9)
theorem valB_node {a b : Int} (h1 : 1 ≤ a) (h2 : a ≤ 1099511627776) : nodeB b = valB a b := by
  unfold nodeB valB
  exact decide_eq_decide.2 (by omega)
theorem bvalid_any (a b : Int) (w : World) : Calls Tryd.prog 56 #[.agg #[.int .i64 a, .int .i64 b]] w fun e w' => e = .returned (.bool (valB a b)) ∧ Below w.heap.size w w' := by
  by_cases h1 : 1 ≤ a
  · by_cases h2 : a ≤ 1099511627776
    · have HE := hide (valB_node (b := b) h1 h2)
      go_enter Tryd.func56, Tryd.ntmps56
      go_wp2_with fail
      refine (isNode_any b _).mono ?_
      rintro e w' ⟨rfl, rfl⟩
      go_wp2
      go_ret
      exact ⟨by rw [← HE.out]; rfl, by go_grown⟩
    · have HE : Hid (valB a b = false) := hide (decide_eq_false (by omega))
      go_enter Tryd.func56, Tryd.ntmps56
      go_wp2
      go_ret
      exact ⟨by rw [HE.out]; rfl, by go_grown⟩
  · have HE : Hid (valB a b = false) := hide (decide_eq_false (by omega))
    go_enter Tryd.func56, Tryd.ntmps56
    go_wp2
    go_ret
    exact ⟨by rw [HE.out]; rfl, by go_grown⟩

/-- What is wrong with a vote. -/
def chkVt (v : Votev) (f : Int) : Int := if insB v.sl f 1099511627776 = true then (if valB v.br v.bn = true then chkV v.v.k v.v.cs v.v.ns else 27) else 26
def chkVts : List Votev → Int → Int
  | [], _ => 0
  | v :: vs, f => if chkVt v f = 0 then chkVts vs (v.sl + 1) else chkVt v f
def chkVotes (vs : List Votev) (f : Int) : Int := if vs.length ≤ 64 then chkVts vs f else 26
theorem chkVts_ok {vs : List Votev} {j : Nat} {f : Int} (h : j < vs.length) (h0 : chkVt vs[j] f = 0) : chkVts (vs.drop j) f = chkVts (vs.drop (j + 1)) (vs[j].sl + 1) := by
  rw [List.drop_eq_getElem_cons h, chkVts, if_pos h0]
theorem chkVts_bad {vs : List Votev} {j : Nat} {f : Int} (h : j < vs.length) (h0 : chkVt vs[j] f ≠ 0) : chkVts (vs.drop j) f = chkVt vs[j] f := by
  rw [List.drop_eq_getElem_cons h, chkVts, if_neg h0]

set_option maxHeartbeats 800000 in
theorem checkvote_any (v : Votev) (f : Int) (B : Nat) (w : World) (hv : IsV w B v.v.A v.v.n v.v.D v.v.m v.v.cs v.v.ns) (hB : B ≤ w.heap.size) :
    Calls Tryd.prog 92 #[.agg #[.int .i64 v.sl, .int .i64 v.br, .int .i64 v.bn, .int .i64 v.v.k, .slice v.v.A v.v.n v.v.c, .slice v.v.D v.v.m v.v.d], .int .i64 f] w fun e w' => e = .returned (.int .i64 (chkVt v f)) ∧ Below w.heap.size w w' := by
  by_cases h1 : insB v.sl f 1099511627776 = true
  · by_cases h2 : valB v.br v.bn = true
    · have e : chkVt v f = chkV v.v.k v.v.cs v.v.ns := by unfold chkVt; rw [if_pos h1, if_pos h2]
      have HE := hide e
      have H1 := hide h1
      have H2 := hide h2
      clear e h1 h2
      go_enter Tryd.func92, Tryd.ntmps92
      go_wp2_with fail
      have hp0 := heap_alloc_new w (.cells #[.int .i64 v.sl, .int .i64 v.br, .int .i64 v.bn, .int .i64 v.v.k, .slice v.v.A v.v.n v.v.c, .slice v.v.D v.v.m v.v.d] 54)
      have hb0 : Below w.heap.size w (w.alloc (.cells #[.int .i64 v.sl, .int .i64 v.br, .int .i64 v.bn, .int .i64 v.v.k, .slice v.v.A v.v.n v.v.c, .slice v.v.D v.v.m v.v.d] 54)) := by go_grown
      have c0 := (row_cells hp0 0).1
      simp only [List.getElem?_toArray, List.getElem?_cons_zero] at c0
      generalize w.alloc (.cells #[.int .i64 v.sl, .int .i64 v.br, .int .i64 v.bn, .int .i64 v.v.k, .slice v.v.A v.v.n v.v.c, .slice v.v.D v.v.m v.v.d] 54) = w0 at *
      refine (minside_any v.sl f 1099511627776 _).mono ?_
      rintro e w' ⟨rfl, rfl⟩
      rw [H1.out]
      have c1 := (row_cells hp0 1).1
      have c2 := (row_cells hp0 2).1
      simp only [List.getElem?_toArray, List.getElem?_cons_succ, List.getElem?_cons_zero] at c1 c2
      go_wp2_with fail
      refine (bvalid_any v.br v.bn _).mono ?_
      rintro e w1 ⟨rfl, b1⟩
      rw [H2.out]
      have hp1 := (b1.block w.heap.size (lt_of_block hp0)).trans hp0
      have hb1 := hb0.trans (b1.mono hb0.size)
      have d3 := (row_cells hp1 3).1
      have d4 := (row_cells hp1 4).1
      have d5 := (row_cells hp1 5).1
      simp only [List.getElem?_toArray, List.getElem?_cons_succ, List.getElem?_cons_zero] at d3 d4 d5
      clear c0 c1 c2 hp0 hp1
      go_wp2_with fail
      refine ((hv.on hB hb1).check (by have := hb1.size; omega) v.v.k v.v.c v.v.d).mono ?_
      rintro e w2 ⟨rfl, b2⟩
      go_wp2
      go_ret
      exact ⟨by rw [HE.out]; rfl, hb1.trans (b2.mono hb1.size)⟩
    · have e : chkVt v f = 27 := by unfold chkVt; rw [if_pos h1, if_neg h2]
      rw [e]
      have H1 := hide h1
      have H2 := hide (Bool.eq_false_iff.2 h2)
      clear e h1 h2
      go_enter Tryd.func92, Tryd.ntmps92
      go_wp2_with fail
      refine (minside_any v.sl f 1099511627776 _).mono ?_
      rintro e w' ⟨rfl, rfl⟩
      rw [H1.out]
      go_wp2_with fail
      refine (bvalid_any v.br v.bn _).mono ?_
      rintro e w1 ⟨rfl, b1⟩
      rw [H2.out]
      go_wp2
      go_ret
      exact ⟨rfl, below_of_alloc b1⟩
  · have e : chkVt v f = 26 := by unfold chkVt; rw [if_neg h1]
    rw [e]
    have H1 := hide (Bool.eq_false_iff.2 h1)
    clear e h1
    go_enter Tryd.func92, Tryd.ntmps92
    go_wp2_with fail
    refine (minside_any v.sl f 1099511627776 _).mono ?_
    rintro e w' ⟨rfl, rfl⟩
    rw [H1.out]
    go_wp2
    go_ret
    exact ⟨rfl, by go_grown⟩

set_option maxHeartbeats 1600000 in
theorem checkvotes_any (A : Option Addr) (n c B : Nat) (vs : List Votev) (f : Int) (w : World) (hV : HasVt w B A vs) (hB : B ≤ w.heap.size) (hn : vs.length = n) (hl : n ≤ 140737488355328) (hf : -9223372036854775808 ≤ f) :
    Calls Tryd.prog 58 #[.slice A n c, .int .i64 f] w fun e w' => e = .returned (.int .i64 (chkVotes vs f)) ∧ Below w.heap.size w w' := by
  have HN := hide hn
  clear hn
  by_cases h64 : n ≤ 64
  · have HE : Hid (chkVotes vs f = chkVts vs f) := hide (by unfold chkVotes; rw [if_pos (by rw [HN.out]; exact h64)])
    have HVV : Hid (∀ W, Below w.heap.size w W → HasVt W B A vs) := hide (fun W h => hV.below (h.mono hB))
    clear hV
    go_enter Tryd.func58, Tryd.ntmps58
    go_wp2_with fail
    go_loopw [1, 13] (fun x i wr => ∃ (j : Nat) (f' : Int), j ≤ n ∧ i = .int .i64 j ∧ x = .int .i64 f' ∧ f ≤ f' ∧ Hid (chkVts vs f = chkVts (vs.drop j) f') ∧ Below w.heap.size w wr) (fun _ i _ => n - (intOf i).toNat)
    case atStart => exact ⟨0, f, Nat.zero_le _, rfl, rfl, Int.le_refl _, hide rfl, Below.refl _ _⟩
    case round =>
      obtain ⟨j, f', hj, rfl, rfl, hff, hcs, hbr⟩ := hrel
      by_cases hlt : j < n
      · have hlt' : j < vs.length := by rw [HN.out]; exact hlt
        have hcl := HVV.out _ hbr j hlt'
        have hok : Hid (chkVt vs[j] f' = 0 → chkVts vs f = chkVts (vs.drop (j + 1)) (vs[j].sl + 1)) := hide (fun h => hcs.out.trans (chkVts_ok hlt' h))
        have hbad : Hid (chkVt vs[j] f' ≠ 0 → chkVts vs f = chkVt vs[j] f') := hide (fun h => hcs.out.trans (chkVts_bad hlt' h))
        generalize vs[j] = v at *
        obtain ⟨⟨ab, ao, rfl, hab, e0, e1, e2, e3, e4, e5⟩, hv⟩ := hcl
        go_wp2_with fail
        have hp0 := heap_alloc_new wr (.cells #[.int .i64 v.sl, .int .i64 v.br, .int .i64 v.bn, .int .i64 v.v.k, .slice v.v.A v.v.n v.v.c, .slice v.v.D v.v.m v.v.d] 54)
        have ba := (Below.refl _ wr).alloc (Nat.le_refl _) (.cells #[.int .i64 v.sl, .int .i64 v.br, .int .i64 v.bn, .int .i64 v.v.k, .slice v.v.A v.v.n v.v.c, .slice v.v.D v.v.m v.v.d] 54)
        have hzr := hbr.size
        generalize wr.alloc (.cells #[.int .i64 v.sl, .int .i64 v.br, .int .i64 v.bn, .int .i64 v.v.k, .slice v.v.A v.v.n v.v.c, .slice v.v.D v.v.m v.v.d] 54) = w0 at *
        have hz0 := lt_of_block hp0
        have hv0 := hv.on (by omega) ba
        have hb0 := hbr.trans (ba.mono hbr.size)
        clear e0 e1 e2 e3 e4 e5 hv ba
        refine (checkvote_any v f' B w0 hv0 (by omega)).mono ?_
        rintro e w2 ⟨rfl, b2⟩
        have hp2 := (b2.block wr.heap.size hz0).trans hp0
        have hb2 := hb0.trans (b2.mono hb0.size)
        by_cases h0 : chkVt v f' = 0
        · have T := hide (hok.out h0)
          have hsl : v.sl ≤ 1099511627776 ∧ f' ≤ v.sl := by
            unfold chkVt at h0
            by_cases h1 : insB v.sl f' 1099511627776 = true
            · have h2 : f' ≤ v.sl ∧ v.sl ≤ 1099511627776 := of_decide_eq_true h1
              omega
            · rw [if_neg h1] at h0
              omega
          obtain ⟨hs1, hs2⟩ := hsl
          rw [h0]
          have c0 := (row_cells hp2 0).1
          simp only [List.getElem?_toArray, List.getElem?_cons_zero] at c0
          clear h0 hok hbad hp0 hp2
          go_wp2_with fail
          go_roundw
          case rel => exact ⟨j + 1, v.sl + 1, by omega, by go_num, rfl, by omega, T, hb2⟩
          case measure => simp [intOf]; omega
        · have T := hide (hbad.out h0)
          have t1 : (chkVt v f' != 0) = true := by rw [bne_iff_ne]; exact h0
          clear h0 hok hbad
          go_wp2
          go_ret
          exact ⟨by rw [HE.out, T.out]; rfl, hb2⟩
      · obtain rfl : j = n := by omega
        have T : Hid (chkVts vs f = 0) := hide (by rw [hcs.out, List.drop_of_length_le (by rw [HN.out]; omega)]; rfl)
        go_wp2
        go_ret
        exact ⟨by rw [HE.out, T.out]; rfl, hbr⟩
  · have HE : Hid (chkVotes vs f = 26) := hide (by unfold chkVotes; rw [if_neg (by rw [HN.out]; exact h64)])
    have t1 : decide ((64 : Int) < (n : Int)) = true := by simp; omega
    have t2 : decide (64 < n) = true := by simp; omega
    go_enter Tryd.func58, Tryd.ntmps58
    go_wp2
    go_ret
    exact ⟨by rw [HE.out]; rfl, Below.refl _ _⟩
end Go.Proofs.YtapbcpilklhoiabDoor

namespace Go.Proofs.YtapbcpilklhoiabDoor
open Go.RowKit

/-- The command of a reply bears a session and a number alone. -/
def shortC (c : Cmdv) : Cmdv := ⟨c.s, c.q, 0, 0, 0, 0, 0, 0⟩
def repP (c : Cmdv) : Prop := insB c.s 1 1073741824 = true ∧ insB c.q 1 1099511627776 = true ∧ eqC c (shortC c) = true
instance (c : Cmdv) : Decidable (repP c) := inferInstanceAs (Decidable (_ ∧ _))
/-- What is wrong with a message's command. -/
def chkMC (k : Int) (c : Cmdv) : Int := if k = 13 then chkC c else if k = 14 then (if repP c then 0 else 23) else 0
def resB (k r i : Int) : Bool := insB k 1 9 && (insB r (-1048576) 1048576 && insB i (-1048576) 1048576)

theorem rightres_any (k r i : Int) (w : World) : Calls Tryd.prog 60 #[.agg #[.int .i64 k, .int .i64 r, .int .i64 i]] w fun e w' => e = .returned (.bool (resB k r i)) ∧ Below w.heap.size w w' := by
  by_cases h0 : insB k 1 9 = true
  rotate_left
  · have H0 := hide (Bool.eq_false_iff.2 h0)
    have e : resB k r i = false := by unfold resB; rw [H0.out]; simp
    rw [e]
    clear e h0
    go_enter Tryd.func60, Tryd.ntmps60
    go_wp2_with fail
    refine (minside_any k 1 9 _).mono ?_
    rintro e w' ⟨rfl, rfl⟩
    rw [H0.out]
    go_wp2
    go_ret
    exact ⟨rfl, by go_grown⟩
  have H0 := hide h0
  clear h0
  by_cases h1 : insB r (-1048576) 1048576 = true
  rotate_left
  · have H1 := hide (Bool.eq_false_iff.2 h1)
    have e : resB k r i = false := by unfold resB; rw [H0.out, H1.out]; simp
    rw [e]
    clear e h1
    go_enter Tryd.func60, Tryd.ntmps60
    go_wp2_with fail
    refine (minside_any k 1 9 _).mono ?_
    rintro e w' ⟨rfl, rfl⟩
    rw [H0.out]
    go_wp2_with fail
    refine (minside_any r (-1048576) 1048576 _).mono ?_
    rintro e w' ⟨rfl, rfl⟩
    rw [H1.out]
    go_wp2
    go_ret
    exact ⟨rfl, by go_grown⟩
  have H1 := hide h1
  clear h1
  by_cases h2 : insB i (-1048576) 1048576 = true
  rotate_left
  · have H2 := hide (Bool.eq_false_iff.2 h2)
    have e : resB k r i = false := by unfold resB; rw [H0.out, H1.out, H2.out]; simp
    rw [e]
    clear e h2
    go_enter Tryd.func60, Tryd.ntmps60
    go_wp2_with fail
    refine (minside_any k 1 9 _).mono ?_
    rintro e w' ⟨rfl, rfl⟩
    rw [H0.out]
    go_wp2_with fail
    refine (minside_any r (-1048576) 1048576 _).mono ?_
    rintro e w' ⟨rfl, rfl⟩
    rw [H1.out]
    go_wp2_with fail
    refine (minside_any i (-1048576) 1048576 _).mono ?_
    rintro e w' ⟨rfl, rfl⟩
    rw [H2.out]
    go_wp2
    go_ret
    exact ⟨rfl, by go_grown⟩
  have H2 := hide h2
  clear h2
  have e : resB k r i = true := by unfold resB; rw [H0.out, H1.out, H2.out]; rfl
  rw [e]
  clear e
  go_enter Tryd.func60, Tryd.ntmps60
  go_wp2_with fail
  refine (minside_any k 1 9 _).mono ?_
  rintro e w' ⟨rfl, rfl⟩
  rw [H0.out]
  go_wp2_with fail
  refine (minside_any r (-1048576) 1048576 _).mono ?_
  rintro e w' ⟨rfl, rfl⟩
  rw [H1.out]
  go_wp2_with fail
  refine (minside_any i (-1048576) 1048576 _).mono ?_
  rintro e w' ⟨rfl, rfl⟩
  rw [H2.out]
  go_wp2
  go_ret
  exact ⟨rfl, by go_grown⟩


set_option maxRecDepth 20000 in
set_option maxHeartbeats 1600000 in
theorem checkmcmd_any (m : Msgv) (w : World) : Calls Tryd.prog 59 #[.agg #[.int .i64 m.kd, .int .i64 m.fr, .int .i64 m.tt, .int .i64 m.ep, .int .i64 m.br, .int .i64 m.bn, .int .i64 m.sl, .int .i64 m.lw, .int .i64 m.tm, .int .i64 m.v.k, .slice m.v.A m.v.n m.v.c, .slice m.v.D m.v.m m.v.d, .slice m.VA m.vn m.vc, .int .i64 m.cm.s, .int .i64 m.cm.q, .int .i64 m.cm.a, .int .i64 m.cm.k, .int .i64 m.cm.r, .int .i64 m.cm.t, .int .i64 m.cm.re, .int .i64 m.cm.im, .int .i64 m.rk, .int .i64 m.rr, .int .i64 m.ri, .slice m.DA m.dn m.dc]] w fun e w' => e = .returned (.int .i64 (chkMC m.kd m.cm)) ∧ Below w.heap.size w w' := by
  have hp1 : ((w.alloc (.cells #[.int .i64 m.kd, .int .i64 m.fr, .int .i64 m.tt, .int .i64 m.ep, .int .i64 m.br, .int .i64 m.bn, .int .i64 m.sl, .int .i64 m.lw, .int .i64 m.tm, .int .i64 m.v.k, .slice m.v.A m.v.n m.v.c, .slice m.v.D m.v.m m.v.d, .slice m.VA m.vn m.vc, .int .i64 m.cm.s, .int .i64 m.cm.q, .int .i64 m.cm.a, .int .i64 m.cm.k, .int .i64 m.cm.r, .int .i64 m.cm.t, .int .i64 m.cm.re, .int .i64 m.cm.im, .int .i64 m.rk, .int .i64 m.rr, .int .i64 m.ri, .slice m.DA m.dn m.dc] 37)).alloc (.cells #[.int .i64 m.cm.s, .int .i64 m.cm.q, .int .i64 m.cm.a, .int .i64 m.cm.k, .int .i64 m.cm.r, .int .i64 m.cm.t, .int .i64 m.cm.re, .int .i64 m.cm.im] 32)).heap[w.heap.size + 1]? = some (.cells #[.int .i64 m.cm.s, .int .i64 m.cm.q, .int .i64 m.cm.a, .int .i64 m.cm.k, .int .i64 m.cm.r, .int .i64 m.cm.t, .int .i64 m.cm.re, .int .i64 m.cm.im] 32 (0, 0)) := by
    have := heap_alloc_new (w.alloc (.cells #[.int .i64 m.kd, .int .i64 m.fr, .int .i64 m.tt, .int .i64 m.ep, .int .i64 m.br, .int .i64 m.bn, .int .i64 m.sl, .int .i64 m.lw, .int .i64 m.tm, .int .i64 m.v.k, .slice m.v.A m.v.n m.v.c, .slice m.v.D m.v.m m.v.d, .slice m.VA m.vn m.vc, .int .i64 m.cm.s, .int .i64 m.cm.q, .int .i64 m.cm.a, .int .i64 m.cm.k, .int .i64 m.cm.r, .int .i64 m.cm.t, .int .i64 m.cm.re, .int .i64 m.cm.im, .int .i64 m.rk, .int .i64 m.rr, .int .i64 m.ri, .slice m.DA m.dn m.dc] 37)) (.cells #[.int .i64 m.cm.s, .int .i64 m.cm.q, .int .i64 m.cm.a, .int .i64 m.cm.k, .int .i64 m.cm.r, .int .i64 m.cm.t, .int .i64 m.cm.re, .int .i64 m.cm.im] 32)
    simpa using this
  by_cases h13 : m.kd = 13
  · have HE : Hid (chkMC m.kd m.cm = chkC m.cm) := hide (if_pos h13)
    have t0 : (m.kd == 13) = true := by rw [beq_iff_eq]; exact h13
    clear hp1 h13
    go_enter Tryd.func59, Tryd.ntmps59
    go_wp2_with fail
    refine (checkcmd_any m.cm _).mono ?_
    rintro e w1 ⟨rfl, b1⟩
    go_wp2
    go_ret
    exact ⟨by rw [HE.out]; rfl, below_of_alloc (below_of_alloc b1)⟩
  · have t0 : (m.kd == 13) = false := by rw [beq_eq_false_iff_ne]; exact h13
    by_cases h14 : m.kd = 14
    · have t1 : (m.kd == 14) = true := by rw [beq_iff_eq]; exact h14
      have e0 : chkMC m.kd m.cm = if repP m.cm then 0 else 23 := by unfold chkMC; rw [if_neg h13, if_pos h14]
      have kn := fun w => equal_cmd 9997 m.cm (shortC m.cm) w
      by_cases a1 : insB m.cm.s 1 1073741824 = true
      · by_cases a2 : insB m.cm.q 1 1099511627776 = true
        · by_cases a3 : eqC m.cm (shortC m.cm) = true
          · have HE : Hid (chkMC m.kd m.cm = 0) := hide (e0.trans (if_pos ⟨a1, a2, a3⟩))
            have A1 := hide a1
            have A2 := hide a2
            rw [a3] at kn
            simp only [shortC] at kn
            clear e0 a1 a2 a3 h13 h14 hp1
            go_enter Tryd.func59, Tryd.ntmps59
            go_wp2_with fail
            refine (minside_any m.cm.s 1 1073741824 _).mono ?_
            rintro e w' ⟨rfl, rfl⟩
            rw [A1.out]
            go_wp2_with fail
            refine (minside_any m.cm.q 1 1099511627776 _).mono ?_
            rintro e w' ⟨rfl, rfl⟩
            rw [A2.out]
            go_wp2
            go_ret
            exact ⟨by rw [HE.out]; rfl, by go_grown⟩
          · have HE : Hid (chkMC m.kd m.cm = 23) := hide (e0.trans (if_neg (fun h => a3 h.2.2)))
            have A1 := hide a1
            have A2 := hide a2
            rw [Bool.eq_false_iff.2 a3] at kn
            simp only [shortC] at kn
            clear e0 a1 a2 a3 h13 h14 hp1
            go_enter Tryd.func59, Tryd.ntmps59
            go_wp2_with fail
            refine (minside_any m.cm.s 1 1073741824 _).mono ?_
            rintro e w' ⟨rfl, rfl⟩
            rw [A1.out]
            go_wp2_with fail
            refine (minside_any m.cm.q 1 1099511627776 _).mono ?_
            rintro e w' ⟨rfl, rfl⟩
            rw [A2.out]
            go_wp2
            go_ret
            exact ⟨by rw [HE.out]; rfl, by go_grown⟩
        · have HE : Hid (chkMC m.kd m.cm = 23) := hide (e0.trans (if_neg (fun h => a2 h.2.1)))
          have A1 := hide a1
          have A2 := hide (Bool.eq_false_iff.2 a2)
          clear e0 a1 a2 h13 h14 hp1 kn
          go_enter Tryd.func59, Tryd.ntmps59
          go_wp2_with fail
          refine (minside_any m.cm.s 1 1073741824 _).mono ?_
          rintro e w' ⟨rfl, rfl⟩
          rw [A1.out]
          go_wp2_with fail
          refine (minside_any m.cm.q 1 1099511627776 _).mono ?_
          rintro e w' ⟨rfl, rfl⟩
          rw [A2.out]
          go_wp2
          go_ret
          exact ⟨by rw [HE.out]; rfl, by go_grown⟩
      · have HE : Hid (chkMC m.kd m.cm = 23) := hide (e0.trans (if_neg (fun h => a1 h.1)))
        have A1 := hide (Bool.eq_false_iff.2 a1)
        clear e0 a1 h13 h14 hp1 kn
        go_enter Tryd.func59, Tryd.ntmps59
        go_wp2_with fail
        refine (minside_any m.cm.s 1 1073741824 _).mono ?_
        rintro e w' ⟨rfl, rfl⟩
        rw [A1.out]
        go_wp2
        go_ret
        exact ⟨by rw [HE.out]; rfl, by go_grown⟩
    · have HE : Hid (chkMC m.kd m.cm = 0) := hide (by unfold chkMC; rw [if_neg h13, if_neg h14])
      have t1 : (m.kd == 14) = false := by rw [beq_eq_false_iff_ne]; exact h14
      clear h13 h14 hp1
      go_enter Tryd.func59, Tryd.ntmps59
      go_wp2
      go_ret
      exact ⟨by rw [HE.out]; rfl, by go_grown⟩
end Go.Proofs.YtapbcpilklhoiabDoor
