/-
  Check of package msg. Conditions: what is read is in reach; the package's table is as its text lays it.
-/
import Derived.Test.YtapbcpilklhoiabDoorMY10
import Derived.Test.YtapbcpilklhoiabDoorMY11
set_option linter.unusedSimpArgs false
set_option linter.unusedVariables false

namespace Go.Proofs.YtapbcpilklhoiabDoor
open Go.RowKit

theorem wpList_load_want {P : Program} {ops : Array Oper} {rest : List Oper} {o : Oper} {a : Act} {w : World} {Q : Exit → Act → World → Prop} (hw : Region.wanted o (yielded ops a.tmps) = true) (ty : TypeId) (x : Operand) (ho : o.op = .load ty x)
    (g : Nat) (hx : a.eval x = .pointer (some ⟨g, 0, none⟩)) (t : TypeId) (cs : Array Value) (fr : Nat × Nat) (d : TypeDesc) (hg : w.heap[g]? = some (.cells cs t fr))
    (hu : P.underlying ty = some d) (hd : (match d with | .struct _ | .array _ _ => true | _ => false) = true) (hi : (P.info? ty).map (·.size) = some cs.size)
    (h : wpList P ops Q rest (a.put o.dst (.agg cs)) w) : wpList P ops Q (o :: rest) a w :=
  wpList_step fun K hK => by
    rw [if_pos hw]
    exact wp_load_row ty x ho g hx t cs fr d hg hu hd hi (hK _ _ h)

def lsOf (u : Int) : Int := if (bits .and .i64 u 8 != 0) = true then 1 else 0
theorem bounded_any (m : Msgv) (u : Int) (w : World) : Calls Tryd.prog 55 #[.agg #[.int .i64 m.kd, .int .i64 m.fr, .int .i64 m.tt, .int .i64 m.ep, .int .i64 m.br, .int .i64 m.bn, .int .i64 m.sl, .int .i64 m.lw, .int .i64 m.tm, .int .i64 m.v.k, .slice m.v.A m.v.n m.v.c, .slice m.v.D m.v.m m.v.d, .slice m.VA m.vn m.vc, .int .i64 m.cm.s, .int .i64 m.cm.q, .int .i64 m.cm.a, .int .i64 m.cm.k, .int .i64 m.cm.r, .int .i64 m.cm.t, .int .i64 m.cm.re, .int .i64 m.cm.im, .int .i64 m.rk, .int .i64 m.rr, .int .i64 m.ri, .slice m.DA m.dn m.dc], .int .i64 u] w fun e w' => e = .returned (.bool (bndB m (lsOf u))) ∧ Below w.heap.size w w' := by
  by_cases h : (bits .and .i64 u 8 != 0) = true
  · have e : lsOf u = 1 := if_pos h
    rw [e]
    exact bounded_one m u h w
  · have e : lsOf u = 0 := if_neg h
    rw [e]
    exact bounded_nil m u (Bool.eq_false_iff.2 h) w

/-- What is wrong with a message. -/
def chkM (m : Msgv) : Int :=
  if (usedT m.kd == 0) = true then 26 else
  if (bits .andNot .i64 (filV m) (usedT m.kd) != 0) = true then 26 else
  if bndB m (lsOf (usedT m.kd)) = false then 26 else
  if (bits .and .i64 (usedT m.kd) 2 != 0) = true ∧ valB m.br m.bn = false then 27 else
  if chkV m.v.k m.v.cs m.v.ns ≠ 0 then chkV m.v.k m.v.cs m.v.ns else
  if chkVotes m.vs m.sl ≠ 0 then chkVotes m.vs m.sl else
  if chkMC m.kd m.cm ≠ 0 then chkMC m.kd m.cm else
  if (bits .and .i64 (usedT m.kd) 512 != 0) = true ∧ resB m.rk m.rr m.ri = false then 26 else 0

set_option maxRecDepth 20000 in
set_option maxHeartbeats 6400000 in
theorem mcheck_any (m : Msgv) (B : Nat) (w : World) (ht : TabM w) (hm : IsM w B m) (hB : B ≤ w.heap.size) (h0 : 0 < B) (hsl : -9223372036854775808 ≤ m.sl) :
    Calls Tryd.prog 18 #[.agg #[.int .i64 m.kd, .int .i64 m.fr, .int .i64 m.tt, .int .i64 m.ep, .int .i64 m.br, .int .i64 m.bn, .int .i64 m.sl, .int .i64 m.lw, .int .i64 m.tm, .int .i64 m.v.k, .slice m.v.A m.v.n m.v.c, .slice m.v.D m.v.m m.v.d, .slice m.VA m.vn m.vc, .int .i64 m.cm.s, .int .i64 m.cm.q, .int .i64 m.cm.a, .int .i64 m.cm.k, .int .i64 m.cm.r, .int .i64 m.cm.t, .int .i64 m.cm.re, .int .i64 m.cm.im, .int .i64 m.rk, .int .i64 m.rr, .int .i64 m.ri, .slice m.DA m.dn m.dc]] w fun e w' => e = .returned (.int .i64 (chkM m)) ∧ Below w.heap.size w w' := by
  have HC : Hid (chkM m = (if (usedT m.kd == 0) = true then 26 else if (bits .andNot .i64 (filV m) (usedT m.kd) != 0) = true then 26 else if bndB m (lsOf (usedT m.kd)) = false then 26 else if (bits .and .i64 (usedT m.kd) 2 != 0) = true ∧ valB m.br m.bn = false then 27 else if chkV m.v.k m.v.cs m.v.ns ≠ 0 then chkV m.v.k m.v.cs m.v.ns else if chkVotes m.vs m.sl ≠ 0 then chkVotes m.vs m.sl else if chkMC m.kd m.cm ≠ 0 then chkMC m.kd m.cm else if (bits .and .i64 (usedT m.kd) 512 != 0) = true ∧ resB m.rk m.rr m.ri = false then 26 else 0)) := hide (by unfold chkM; rfl)
  have HM : Hid (∀ W, Below w.heap.size w W → IsM W B m ∧ B ≤ W.heap.size ∧ TabM W) := hide (fun W h => ⟨hm.below (h.mono hB), by have := h.size; omega, ht.below h (by omega)⟩)
  have HBO : Hid (∀ W u, Calls Tryd.prog 55 #[.agg #[.int .i64 m.kd, .int .i64 m.fr, .int .i64 m.tt, .int .i64 m.ep, .int .i64 m.br, .int .i64 m.bn, .int .i64 m.sl, .int .i64 m.lw, .int .i64 m.tm, .int .i64 m.v.k, .slice m.v.A m.v.n m.v.c, .slice m.v.D m.v.m m.v.d, .slice m.VA m.vn m.vc, .int .i64 m.cm.s, .int .i64 m.cm.q, .int .i64 m.cm.a, .int .i64 m.cm.k, .int .i64 m.cm.r, .int .i64 m.cm.t, .int .i64 m.cm.re, .int .i64 m.cm.im, .int .i64 m.rk, .int .i64 m.rr, .int .i64 m.ri, .slice m.DA m.dn m.dc], .int .i64 u] W fun e w' => e = .returned (.bool (bndB m (lsOf u))) ∧ Below W.heap.size W w') := hide (fun W u => bounded_any m u W)
  generalize hu : usedT m.kd = u at *
  have HU := hide hu
  clear hm ht hu
  by_cases t0 : (u == 0) = true
  · have HE := hide (HC.out.trans (if_pos t0))
    clear HC
    go_enter Tryd.func18, Tryd.ntmps18
    go_wp2_with fail
    refine wp_scope_forward 0 rfl ?_
    go_wp2_with fail
    have hp0 := heap_alloc_new w (.cells #[.int .i64 m.kd, .int .i64 m.fr, .int .i64 m.tt, .int .i64 m.ep, .int .i64 m.br, .int .i64 m.bn, .int .i64 m.sl, .int .i64 m.lw, .int .i64 m.tm, .int .i64 m.v.k, .slice m.v.A m.v.n m.v.c, .slice m.v.D m.v.m m.v.d, .slice m.VA m.vn m.vc, .int .i64 m.cm.s, .int .i64 m.cm.q, .int .i64 m.cm.a, .int .i64 m.cm.k, .int .i64 m.cm.r, .int .i64 m.cm.t, .int .i64 m.cm.re, .int .i64 m.cm.im, .int .i64 m.rk, .int .i64 m.rr, .int .i64 m.ri, .slice m.DA m.dn m.dc] 37)
    have b0 : Below w.heap.size w (w.alloc (.cells #[.int .i64 m.kd, .int .i64 m.fr, .int .i64 m.tt, .int .i64 m.ep, .int .i64 m.br, .int .i64 m.bn, .int .i64 m.sl, .int .i64 m.lw, .int .i64 m.tm, .int .i64 m.v.k, .slice m.v.A m.v.n m.v.c, .slice m.v.D m.v.m m.v.d, .slice m.VA m.vn m.vc, .int .i64 m.cm.s, .int .i64 m.cm.q, .int .i64 m.cm.a, .int .i64 m.cm.k, .int .i64 m.cm.r, .int .i64 m.cm.t, .int .i64 m.cm.re, .int .i64 m.cm.im, .int .i64 m.rk, .int .i64 m.rr, .int .i64 m.ri, .slice m.DA m.dn m.dc] 37)) := by go_grown
    generalize w.alloc (.cells #[.int .i64 m.kd, .int .i64 m.fr, .int .i64 m.tt, .int .i64 m.ep, .int .i64 m.br, .int .i64 m.bn, .int .i64 m.sl, .int .i64 m.lw, .int .i64 m.tm, .int .i64 m.v.k, .slice m.v.A m.v.n m.v.c, .slice m.v.D m.v.m m.v.d, .slice m.VA m.vn m.vc, .int .i64 m.cm.s, .int .i64 m.cm.q, .int .i64 m.cm.a, .int .i64 m.cm.k, .int .i64 m.cm.r, .int .i64 m.cm.t, .int .i64 m.cm.re, .int .i64 m.cm.im, .int .i64 m.rk, .int .i64 m.rr, .int .i64 m.ri, .slice m.DA m.dn m.dc] 37) = w0 at *
    have HP0 := hide hp0
    clear hp0
    have hz0 := lt_of_block HP0.out
    have hq0 := HM.out _ b0
    refine (muses_any m.kd w0 hq0.2.2).mono ?_
    rintro e w' ⟨rfl, rfl⟩
    rw [HU.out]
    go_wp2
    go_step3
    refine ⟨rfl, ?_⟩
    go_wp2
    rw [Exit.noGoto_ret]
    go_ret
    exact ⟨by rw [HE.out]; rfl, b0⟩
  have HC := hide (HC.out.trans (if_neg t0))
  have t0 : (u == 0) = false := Bool.eq_false_iff.2 t0
  by_cases t1 : (bits .andNot .i64 (filV m) u != 0) = true
  · have HE := hide (HC.out.trans (if_pos t1))
    clear HC
    go_enter Tryd.func18, Tryd.ntmps18
    go_wp2_with fail
    refine wp_scope_forward 0 rfl ?_
    go_wp2_with fail
    have hp0 := heap_alloc_new w (.cells #[.int .i64 m.kd, .int .i64 m.fr, .int .i64 m.tt, .int .i64 m.ep, .int .i64 m.br, .int .i64 m.bn, .int .i64 m.sl, .int .i64 m.lw, .int .i64 m.tm, .int .i64 m.v.k, .slice m.v.A m.v.n m.v.c, .slice m.v.D m.v.m m.v.d, .slice m.VA m.vn m.vc, .int .i64 m.cm.s, .int .i64 m.cm.q, .int .i64 m.cm.a, .int .i64 m.cm.k, .int .i64 m.cm.r, .int .i64 m.cm.t, .int .i64 m.cm.re, .int .i64 m.cm.im, .int .i64 m.rk, .int .i64 m.rr, .int .i64 m.ri, .slice m.DA m.dn m.dc] 37)
    have b0 : Below w.heap.size w (w.alloc (.cells #[.int .i64 m.kd, .int .i64 m.fr, .int .i64 m.tt, .int .i64 m.ep, .int .i64 m.br, .int .i64 m.bn, .int .i64 m.sl, .int .i64 m.lw, .int .i64 m.tm, .int .i64 m.v.k, .slice m.v.A m.v.n m.v.c, .slice m.v.D m.v.m m.v.d, .slice m.VA m.vn m.vc, .int .i64 m.cm.s, .int .i64 m.cm.q, .int .i64 m.cm.a, .int .i64 m.cm.k, .int .i64 m.cm.r, .int .i64 m.cm.t, .int .i64 m.cm.re, .int .i64 m.cm.im, .int .i64 m.rk, .int .i64 m.rr, .int .i64 m.ri, .slice m.DA m.dn m.dc] 37)) := by go_grown
    generalize w.alloc (.cells #[.int .i64 m.kd, .int .i64 m.fr, .int .i64 m.tt, .int .i64 m.ep, .int .i64 m.br, .int .i64 m.bn, .int .i64 m.sl, .int .i64 m.lw, .int .i64 m.tm, .int .i64 m.v.k, .slice m.v.A m.v.n m.v.c, .slice m.v.D m.v.m m.v.d, .slice m.VA m.vn m.vc, .int .i64 m.cm.s, .int .i64 m.cm.q, .int .i64 m.cm.a, .int .i64 m.cm.k, .int .i64 m.cm.r, .int .i64 m.cm.t, .int .i64 m.cm.re, .int .i64 m.cm.im, .int .i64 m.rk, .int .i64 m.rr, .int .i64 m.ri, .slice m.DA m.dn m.dc] 37) = w0 at *
    have HP0 := hide hp0
    clear hp0
    have hz0 := lt_of_block HP0.out
    have hq0 := HM.out _ b0
    refine (muses_any m.kd w0 hq0.2.2).mono ?_
    rintro e w' ⟨rfl, rfl⟩
    rw [HU.out]
    go_wp2_with (refine wpList_load_want (by rfl) 37 (.tmp 1) rfl w.heap.size rfl _ _ _ _ HP0.out Tryd.underlying37 rfl (by kernel_rfl) ?_)
    refine (filled_any m B w0 hq0.1.v hq0.2.1).mono ?_
    rintro e w1 ⟨rfl, b1'⟩
    have b1 := b0.trans (b1'.mono b0.size)
    have HP1 := hide ((b1'.block w.heap.size (by omega)).trans HP0.out)
    have hz1 := lt_of_block HP1.out
    clear b1'
    go_wp2
    go_step3
    refine ⟨rfl, ?_⟩
    go_wp2
    rw [Exit.noGoto_ret]
    go_ret
    exact ⟨by rw [HE.out]; rfl, b1⟩
  have HC := hide (HC.out.trans (if_neg t1))
  have t1 : (bits .andNot .i64 (filV m) u != 0) = false := Bool.eq_false_iff.2 t1
  by_cases t2 : bndB m (lsOf u) = false
  · have HE := hide (HC.out.trans (if_pos t2))
    have HT2 := hide t2
    clear HC t2
    go_enter Tryd.func18, Tryd.ntmps18
    go_wp2_with fail
    refine wp_scope_forward 0 rfl ?_
    go_wp2_with fail
    have hp0 := heap_alloc_new w (.cells #[.int .i64 m.kd, .int .i64 m.fr, .int .i64 m.tt, .int .i64 m.ep, .int .i64 m.br, .int .i64 m.bn, .int .i64 m.sl, .int .i64 m.lw, .int .i64 m.tm, .int .i64 m.v.k, .slice m.v.A m.v.n m.v.c, .slice m.v.D m.v.m m.v.d, .slice m.VA m.vn m.vc, .int .i64 m.cm.s, .int .i64 m.cm.q, .int .i64 m.cm.a, .int .i64 m.cm.k, .int .i64 m.cm.r, .int .i64 m.cm.t, .int .i64 m.cm.re, .int .i64 m.cm.im, .int .i64 m.rk, .int .i64 m.rr, .int .i64 m.ri, .slice m.DA m.dn m.dc] 37)
    have b0 : Below w.heap.size w (w.alloc (.cells #[.int .i64 m.kd, .int .i64 m.fr, .int .i64 m.tt, .int .i64 m.ep, .int .i64 m.br, .int .i64 m.bn, .int .i64 m.sl, .int .i64 m.lw, .int .i64 m.tm, .int .i64 m.v.k, .slice m.v.A m.v.n m.v.c, .slice m.v.D m.v.m m.v.d, .slice m.VA m.vn m.vc, .int .i64 m.cm.s, .int .i64 m.cm.q, .int .i64 m.cm.a, .int .i64 m.cm.k, .int .i64 m.cm.r, .int .i64 m.cm.t, .int .i64 m.cm.re, .int .i64 m.cm.im, .int .i64 m.rk, .int .i64 m.rr, .int .i64 m.ri, .slice m.DA m.dn m.dc] 37)) := by go_grown
    generalize w.alloc (.cells #[.int .i64 m.kd, .int .i64 m.fr, .int .i64 m.tt, .int .i64 m.ep, .int .i64 m.br, .int .i64 m.bn, .int .i64 m.sl, .int .i64 m.lw, .int .i64 m.tm, .int .i64 m.v.k, .slice m.v.A m.v.n m.v.c, .slice m.v.D m.v.m m.v.d, .slice m.VA m.vn m.vc, .int .i64 m.cm.s, .int .i64 m.cm.q, .int .i64 m.cm.a, .int .i64 m.cm.k, .int .i64 m.cm.r, .int .i64 m.cm.t, .int .i64 m.cm.re, .int .i64 m.cm.im, .int .i64 m.rk, .int .i64 m.rr, .int .i64 m.ri, .slice m.DA m.dn m.dc] 37) = w0 at *
    have HP0 := hide hp0
    clear hp0
    have hz0 := lt_of_block HP0.out
    have hq0 := HM.out _ b0
    refine (muses_any m.kd w0 hq0.2.2).mono ?_
    rintro e w' ⟨rfl, rfl⟩
    rw [HU.out]
    go_wp2_with (refine wpList_load_want (by rfl) 37 (.tmp 1) rfl w.heap.size rfl _ _ _ _ HP0.out Tryd.underlying37 rfl (by kernel_rfl) ?_)
    refine (filled_any m B w0 hq0.1.v hq0.2.1).mono ?_
    rintro e w1 ⟨rfl, b1'⟩
    have b1 := b0.trans (b1'.mono b0.size)
    have HP1 := hide ((b1'.block w.heap.size (by omega)).trans HP0.out)
    have hz1 := lt_of_block HP1.out
    clear b1'
    go_wp2_with (refine wpList_load_want (by rfl) 37 (.tmp 1) rfl w.heap.size rfl _ _ _ _ HP1.out Tryd.underlying37 rfl (by kernel_rfl) ?_)
    refine (HBO.out w1 u).mono ?_
    rintro e w2 ⟨rfl, b2'⟩
    have b2 := b1.trans (b2'.mono b1.size)
    have HP2 := hide ((b2'.block w.heap.size (by omega)).trans HP1.out)
    have hz2 := lt_of_block HP2.out
    clear b2'
    rw [HT2.out]
    go_wp2
    go_step3
    refine ⟨rfl, ?_⟩
    go_wp2
    rw [Exit.noGoto_ret]
    go_ret
    exact ⟨by rw [HE.out]; rfl, b2⟩
  have HC := hide (HC.out.trans (if_neg t2))
  have HT2 := hide (show bndB m (lsOf u) = true by simpa using t2)
  clear t2
  by_cases t3 : (bits .and .i64 u 2 != 0) = true
  rotate_left
  · have HC := hide (HC.out.trans (if_neg (fun h => t3 h.1)))
    have t3 : (bits .and .i64 u 2 != 0) = false := Bool.eq_false_iff.2 t3
    by_cases t4 : chkV m.v.k m.v.cs m.v.ns ≠ 0
    · have HE := hide (HC.out.trans (if_pos t4))
      have t4' : (chkV m.v.k m.v.cs m.v.ns != 0) = true := by rw [bne_iff_ne]; exact t4
      clear HC t4
      go_enter Tryd.func18, Tryd.ntmps18
      go_wp2_with fail
      refine wp_scope_forward 0 rfl ?_
      go_wp2_with fail
      have hp0 := heap_alloc_new w (.cells #[.int .i64 m.kd, .int .i64 m.fr, .int .i64 m.tt, .int .i64 m.ep, .int .i64 m.br, .int .i64 m.bn, .int .i64 m.sl, .int .i64 m.lw, .int .i64 m.tm, .int .i64 m.v.k, .slice m.v.A m.v.n m.v.c, .slice m.v.D m.v.m m.v.d, .slice m.VA m.vn m.vc, .int .i64 m.cm.s, .int .i64 m.cm.q, .int .i64 m.cm.a, .int .i64 m.cm.k, .int .i64 m.cm.r, .int .i64 m.cm.t, .int .i64 m.cm.re, .int .i64 m.cm.im, .int .i64 m.rk, .int .i64 m.rr, .int .i64 m.ri, .slice m.DA m.dn m.dc] 37)
      have b0 : Below w.heap.size w (w.alloc (.cells #[.int .i64 m.kd, .int .i64 m.fr, .int .i64 m.tt, .int .i64 m.ep, .int .i64 m.br, .int .i64 m.bn, .int .i64 m.sl, .int .i64 m.lw, .int .i64 m.tm, .int .i64 m.v.k, .slice m.v.A m.v.n m.v.c, .slice m.v.D m.v.m m.v.d, .slice m.VA m.vn m.vc, .int .i64 m.cm.s, .int .i64 m.cm.q, .int .i64 m.cm.a, .int .i64 m.cm.k, .int .i64 m.cm.r, .int .i64 m.cm.t, .int .i64 m.cm.re, .int .i64 m.cm.im, .int .i64 m.rk, .int .i64 m.rr, .int .i64 m.ri, .slice m.DA m.dn m.dc] 37)) := by go_grown
      generalize w.alloc (.cells #[.int .i64 m.kd, .int .i64 m.fr, .int .i64 m.tt, .int .i64 m.ep, .int .i64 m.br, .int .i64 m.bn, .int .i64 m.sl, .int .i64 m.lw, .int .i64 m.tm, .int .i64 m.v.k, .slice m.v.A m.v.n m.v.c, .slice m.v.D m.v.m m.v.d, .slice m.VA m.vn m.vc, .int .i64 m.cm.s, .int .i64 m.cm.q, .int .i64 m.cm.a, .int .i64 m.cm.k, .int .i64 m.cm.r, .int .i64 m.cm.t, .int .i64 m.cm.re, .int .i64 m.cm.im, .int .i64 m.rk, .int .i64 m.rr, .int .i64 m.ri, .slice m.DA m.dn m.dc] 37) = w0 at *
      have HP0 := hide hp0
      clear hp0
      have hz0 := lt_of_block HP0.out
      have hq0 := HM.out _ b0
      refine (muses_any m.kd w0 hq0.2.2).mono ?_
      rintro e w' ⟨rfl, rfl⟩
      rw [HU.out]
      go_wp2_with (refine wpList_load_want (by rfl) 37 (.tmp 1) rfl w.heap.size rfl _ _ _ _ HP0.out Tryd.underlying37 rfl (by kernel_rfl) ?_)
      refine (filled_any m B w0 hq0.1.v hq0.2.1).mono ?_
      rintro e w1 ⟨rfl, b1'⟩
      have b1 := b0.trans (b1'.mono b0.size)
      have HP1 := hide ((b1'.block w.heap.size (by omega)).trans HP0.out)
      have hz1 := lt_of_block HP1.out
      clear b1'
      go_wp2_with (refine wpList_load_want (by rfl) 37 (.tmp 1) rfl w.heap.size rfl _ _ _ _ HP1.out Tryd.underlying37 rfl (by kernel_rfl) ?_)
      refine (HBO.out w1 u).mono ?_
      rintro e w2 ⟨rfl, b2'⟩
      have b2 := b1.trans (b2'.mono b1.size)
      have HP2 := hide ((b2'.block w.heap.size (by omega)).trans HP1.out)
      have hz2 := lt_of_block HP2.out
      clear b2'
      rw [HT2.out]
      obtain ⟨w3, hw3⟩ : ∃ W, W = w2 := ⟨w2, rfl⟩
      subst hw3
      have b3 := b2
      have HP3 := HP2
      have hz3 := hz2
      have hq3 := HM.out _ b3
      have c9 := (row_cells HP3.out 9).1
      have c10 := (row_cells HP3.out 10).1
      have c11 := (row_cells HP3.out 11).1
      simp only [List.getElem?_toArray, List.getElem?_cons_succ, List.getElem?_cons_zero] at c9 c10 c11
      go_wp2_with fail
      refine (hq3.1.v.check hq3.2.1 m.v.k m.v.c m.v.d).mono ?_
      rintro e w4 ⟨rfl, b4'⟩
      have b4 := b3.trans (b4'.mono b3.size)
      have HP4 := hide ((b4'.block w.heap.size (by omega)).trans HP3.out)
      have hz4 := lt_of_block HP4.out
      clear b4'
      clear c9 c10 c11 hq3
      go_wp2
      go_step3
      refine ⟨rfl, ?_⟩
      go_wp2
      rw [Exit.noGoto_ret]
      go_ret
      exact ⟨by rw [HE.out]; rfl, b4⟩
    have HC := hide (HC.out.trans (if_neg t4))
    have HT4 := hide (show chkV m.v.k m.v.cs m.v.ns = 0 by omega)
    clear t4
    by_cases t5 : chkVotes m.vs m.sl ≠ 0
    · have HE := hide (HC.out.trans (if_pos t5))
      have t5' : (chkVotes m.vs m.sl != 0) = true := by rw [bne_iff_ne]; exact t5
      clear HC t5
      go_enter Tryd.func18, Tryd.ntmps18
      go_wp2_with fail
      refine wp_scope_forward 0 rfl ?_
      go_wp2_with fail
      have hp0 := heap_alloc_new w (.cells #[.int .i64 m.kd, .int .i64 m.fr, .int .i64 m.tt, .int .i64 m.ep, .int .i64 m.br, .int .i64 m.bn, .int .i64 m.sl, .int .i64 m.lw, .int .i64 m.tm, .int .i64 m.v.k, .slice m.v.A m.v.n m.v.c, .slice m.v.D m.v.m m.v.d, .slice m.VA m.vn m.vc, .int .i64 m.cm.s, .int .i64 m.cm.q, .int .i64 m.cm.a, .int .i64 m.cm.k, .int .i64 m.cm.r, .int .i64 m.cm.t, .int .i64 m.cm.re, .int .i64 m.cm.im, .int .i64 m.rk, .int .i64 m.rr, .int .i64 m.ri, .slice m.DA m.dn m.dc] 37)
      have b0 : Below w.heap.size w (w.alloc (.cells #[.int .i64 m.kd, .int .i64 m.fr, .int .i64 m.tt, .int .i64 m.ep, .int .i64 m.br, .int .i64 m.bn, .int .i64 m.sl, .int .i64 m.lw, .int .i64 m.tm, .int .i64 m.v.k, .slice m.v.A m.v.n m.v.c, .slice m.v.D m.v.m m.v.d, .slice m.VA m.vn m.vc, .int .i64 m.cm.s, .int .i64 m.cm.q, .int .i64 m.cm.a, .int .i64 m.cm.k, .int .i64 m.cm.r, .int .i64 m.cm.t, .int .i64 m.cm.re, .int .i64 m.cm.im, .int .i64 m.rk, .int .i64 m.rr, .int .i64 m.ri, .slice m.DA m.dn m.dc] 37)) := by go_grown
      generalize w.alloc (.cells #[.int .i64 m.kd, .int .i64 m.fr, .int .i64 m.tt, .int .i64 m.ep, .int .i64 m.br, .int .i64 m.bn, .int .i64 m.sl, .int .i64 m.lw, .int .i64 m.tm, .int .i64 m.v.k, .slice m.v.A m.v.n m.v.c, .slice m.v.D m.v.m m.v.d, .slice m.VA m.vn m.vc, .int .i64 m.cm.s, .int .i64 m.cm.q, .int .i64 m.cm.a, .int .i64 m.cm.k, .int .i64 m.cm.r, .int .i64 m.cm.t, .int .i64 m.cm.re, .int .i64 m.cm.im, .int .i64 m.rk, .int .i64 m.rr, .int .i64 m.ri, .slice m.DA m.dn m.dc] 37) = w0 at *
      have HP0 := hide hp0
      clear hp0
      have hz0 := lt_of_block HP0.out
      have hq0 := HM.out _ b0
      refine (muses_any m.kd w0 hq0.2.2).mono ?_
      rintro e w' ⟨rfl, rfl⟩
      rw [HU.out]
      go_wp2_with (refine wpList_load_want (by rfl) 37 (.tmp 1) rfl w.heap.size rfl _ _ _ _ HP0.out Tryd.underlying37 rfl (by kernel_rfl) ?_)
      refine (filled_any m B w0 hq0.1.v hq0.2.1).mono ?_
      rintro e w1 ⟨rfl, b1'⟩
      have b1 := b0.trans (b1'.mono b0.size)
      have HP1 := hide ((b1'.block w.heap.size (by omega)).trans HP0.out)
      have hz1 := lt_of_block HP1.out
      clear b1'
      go_wp2_with (refine wpList_load_want (by rfl) 37 (.tmp 1) rfl w.heap.size rfl _ _ _ _ HP1.out Tryd.underlying37 rfl (by kernel_rfl) ?_)
      refine (HBO.out w1 u).mono ?_
      rintro e w2 ⟨rfl, b2'⟩
      have b2 := b1.trans (b2'.mono b1.size)
      have HP2 := hide ((b2'.block w.heap.size (by omega)).trans HP1.out)
      have hz2 := lt_of_block HP2.out
      clear b2'
      rw [HT2.out]
      obtain ⟨w3, hw3⟩ : ∃ W, W = w2 := ⟨w2, rfl⟩
      subst hw3
      have b3 := b2
      have HP3 := HP2
      have hz3 := hz2
      have hq3 := HM.out _ b3
      have c9 := (row_cells HP3.out 9).1
      have c10 := (row_cells HP3.out 10).1
      have c11 := (row_cells HP3.out 11).1
      simp only [List.getElem?_toArray, List.getElem?_cons_succ, List.getElem?_cons_zero] at c9 c10 c11
      go_wp2_with fail
      refine (hq3.1.v.check hq3.2.1 m.v.k m.v.c m.v.d).mono ?_
      rintro e w4 ⟨rfl, b4'⟩
      have b4 := b3.trans (b4'.mono b3.size)
      have HP4 := hide ((b4'.block w.heap.size (by omega)).trans HP3.out)
      have hz4 := lt_of_block HP4.out
      clear b4'
      clear c9 c10 c11 hq3
      rw [HT4.out]
      have hq4 := HM.out _ b4
      have c12 := (row_cells HP4.out 12).1
      have c6 := (row_cells HP4.out 6).1
      simp only [List.getElem?_toArray, List.getElem?_cons_succ, List.getElem?_cons_zero] at c12 c6
      go_wp2_with fail
      refine (checkvotes_any m.VA m.vn m.vc B m.vs m.sl _ hq4.1.vt hq4.2.1 hq4.1.en (by have := hq4.1.ln; omega) hsl).mono ?_
      rintro e w5 ⟨rfl, b5'⟩
      have b5 := b4.trans (b5'.mono b4.size)
      have HP5 := hide ((b5'.block w.heap.size (by omega)).trans HP4.out)
      have hz5 := lt_of_block HP5.out
      clear b5'
      clear c12 c6 hq4
      go_wp2
      go_step3
      refine ⟨rfl, ?_⟩
      go_wp2
      rw [Exit.noGoto_ret]
      go_ret
      exact ⟨by rw [HE.out]; rfl, b5⟩
    have HC := hide (HC.out.trans (if_neg t5))
    have HT5 := hide (show chkVotes m.vs m.sl = 0 by omega)
    clear t5
    by_cases t6 : chkMC m.kd m.cm ≠ 0
    · have HE := hide (HC.out.trans (if_pos t6))
      have t6' : (chkMC m.kd m.cm != 0) = true := by rw [bne_iff_ne]; exact t6
      clear HC t6
      go_enter Tryd.func18, Tryd.ntmps18
      go_wp2_with fail
      refine wp_scope_forward 0 rfl ?_
      go_wp2_with fail
      have hp0 := heap_alloc_new w (.cells #[.int .i64 m.kd, .int .i64 m.fr, .int .i64 m.tt, .int .i64 m.ep, .int .i64 m.br, .int .i64 m.bn, .int .i64 m.sl, .int .i64 m.lw, .int .i64 m.tm, .int .i64 m.v.k, .slice m.v.A m.v.n m.v.c, .slice m.v.D m.v.m m.v.d, .slice m.VA m.vn m.vc, .int .i64 m.cm.s, .int .i64 m.cm.q, .int .i64 m.cm.a, .int .i64 m.cm.k, .int .i64 m.cm.r, .int .i64 m.cm.t, .int .i64 m.cm.re, .int .i64 m.cm.im, .int .i64 m.rk, .int .i64 m.rr, .int .i64 m.ri, .slice m.DA m.dn m.dc] 37)
      have b0 : Below w.heap.size w (w.alloc (.cells #[.int .i64 m.kd, .int .i64 m.fr, .int .i64 m.tt, .int .i64 m.ep, .int .i64 m.br, .int .i64 m.bn, .int .i64 m.sl, .int .i64 m.lw, .int .i64 m.tm, .int .i64 m.v.k, .slice m.v.A m.v.n m.v.c, .slice m.v.D m.v.m m.v.d, .slice m.VA m.vn m.vc, .int .i64 m.cm.s, .int .i64 m.cm.q, .int .i64 m.cm.a, .int .i64 m.cm.k, .int .i64 m.cm.r, .int .i64 m.cm.t, .int .i64 m.cm.re, .int .i64 m.cm.im, .int .i64 m.rk, .int .i64 m.rr, .int .i64 m.ri, .slice m.DA m.dn m.dc] 37)) := by go_grown
      generalize w.alloc (.cells #[.int .i64 m.kd, .int .i64 m.fr, .int .i64 m.tt, .int .i64 m.ep, .int .i64 m.br, .int .i64 m.bn, .int .i64 m.sl, .int .i64 m.lw, .int .i64 m.tm, .int .i64 m.v.k, .slice m.v.A m.v.n m.v.c, .slice m.v.D m.v.m m.v.d, .slice m.VA m.vn m.vc, .int .i64 m.cm.s, .int .i64 m.cm.q, .int .i64 m.cm.a, .int .i64 m.cm.k, .int .i64 m.cm.r, .int .i64 m.cm.t, .int .i64 m.cm.re, .int .i64 m.cm.im, .int .i64 m.rk, .int .i64 m.rr, .int .i64 m.ri, .slice m.DA m.dn m.dc] 37) = w0 at *
      have HP0 := hide hp0
      clear hp0
      have hz0 := lt_of_block HP0.out
      have hq0 := HM.out _ b0
      refine (muses_any m.kd w0 hq0.2.2).mono ?_
      rintro e w' ⟨rfl, rfl⟩
      rw [HU.out]
      go_wp2_with (refine wpList_load_want (by rfl) 37 (.tmp 1) rfl w.heap.size rfl _ _ _ _ HP0.out Tryd.underlying37 rfl (by kernel_rfl) ?_)
      refine (filled_any m B w0 hq0.1.v hq0.2.1).mono ?_
      rintro e w1 ⟨rfl, b1'⟩
      have b1 := b0.trans (b1'.mono b0.size)
      have HP1 := hide ((b1'.block w.heap.size (by omega)).trans HP0.out)
      have hz1 := lt_of_block HP1.out
      clear b1'
      go_wp2_with (refine wpList_load_want (by rfl) 37 (.tmp 1) rfl w.heap.size rfl _ _ _ _ HP1.out Tryd.underlying37 rfl (by kernel_rfl) ?_)
      refine (HBO.out w1 u).mono ?_
      rintro e w2 ⟨rfl, b2'⟩
      have b2 := b1.trans (b2'.mono b1.size)
      have HP2 := hide ((b2'.block w.heap.size (by omega)).trans HP1.out)
      have hz2 := lt_of_block HP2.out
      clear b2'
      rw [HT2.out]
      obtain ⟨w3, hw3⟩ : ∃ W, W = w2 := ⟨w2, rfl⟩
      subst hw3
      have b3 := b2
      have HP3 := HP2
      have hz3 := hz2
      have hq3 := HM.out _ b3
      have c9 := (row_cells HP3.out 9).1
      have c10 := (row_cells HP3.out 10).1
      have c11 := (row_cells HP3.out 11).1
      simp only [List.getElem?_toArray, List.getElem?_cons_succ, List.getElem?_cons_zero] at c9 c10 c11
      go_wp2_with fail
      refine (hq3.1.v.check hq3.2.1 m.v.k m.v.c m.v.d).mono ?_
      rintro e w4 ⟨rfl, b4'⟩
      have b4 := b3.trans (b4'.mono b3.size)
      have HP4 := hide ((b4'.block w.heap.size (by omega)).trans HP3.out)
      have hz4 := lt_of_block HP4.out
      clear b4'
      clear c9 c10 c11 hq3
      rw [HT4.out]
      have hq4 := HM.out _ b4
      have c12 := (row_cells HP4.out 12).1
      have c6 := (row_cells HP4.out 6).1
      simp only [List.getElem?_toArray, List.getElem?_cons_succ, List.getElem?_cons_zero] at c12 c6
      go_wp2_with fail
      refine (checkvotes_any m.VA m.vn m.vc B m.vs m.sl _ hq4.1.vt hq4.2.1 hq4.1.en (by have := hq4.1.ln; omega) hsl).mono ?_
      rintro e w5 ⟨rfl, b5'⟩
      have b5 := b4.trans (b5'.mono b4.size)
      have HP5 := hide ((b5'.block w.heap.size (by omega)).trans HP4.out)
      have hz5 := lt_of_block HP5.out
      clear b5'
      clear c12 c6 hq4
      rw [HT5.out]
      go_wp2_with (refine wpList_load_row rfl 37 _ rfl w.heap.size rfl _ _ _ _ HP5.out Tryd.underlying37 rfl (by kernel_rfl) ?_)
      refine (checkmcmd_any m _).mono ?_
      rintro e w6 ⟨rfl, b6'⟩
      have b6 := b5.trans (b6'.mono b5.size)
      have HP6 := hide ((b6'.block w.heap.size (by omega)).trans HP5.out)
      have hz6 := lt_of_block HP6.out
      clear b6'
      go_wp2
      go_step3
      refine ⟨rfl, ?_⟩
      go_wp2
      rw [Exit.noGoto_ret]
      go_ret
      exact ⟨by rw [HE.out]; rfl, b6⟩
    have HC := hide (HC.out.trans (if_neg t6))
    have HT6 := hide (show chkMC m.kd m.cm = 0 by omega)
    clear t6
    by_cases t7 : (bits .and .i64 u 512 != 0) = true
    rotate_left
    · have HE := hide (HC.out.trans (if_neg (fun h => t7 h.1)))
      have t7 : (bits .and .i64 u 512 != 0) = false := Bool.eq_false_iff.2 t7
      clear HC
      go_enter Tryd.func18, Tryd.ntmps18
      go_wp2_with fail
      refine wp_scope_forward 0 rfl ?_
      go_wp2_with fail
      have hp0 := heap_alloc_new w (.cells #[.int .i64 m.kd, .int .i64 m.fr, .int .i64 m.tt, .int .i64 m.ep, .int .i64 m.br, .int .i64 m.bn, .int .i64 m.sl, .int .i64 m.lw, .int .i64 m.tm, .int .i64 m.v.k, .slice m.v.A m.v.n m.v.c, .slice m.v.D m.v.m m.v.d, .slice m.VA m.vn m.vc, .int .i64 m.cm.s, .int .i64 m.cm.q, .int .i64 m.cm.a, .int .i64 m.cm.k, .int .i64 m.cm.r, .int .i64 m.cm.t, .int .i64 m.cm.re, .int .i64 m.cm.im, .int .i64 m.rk, .int .i64 m.rr, .int .i64 m.ri, .slice m.DA m.dn m.dc] 37)
      have b0 : Below w.heap.size w (w.alloc (.cells #[.int .i64 m.kd, .int .i64 m.fr, .int .i64 m.tt, .int .i64 m.ep, .int .i64 m.br, .int .i64 m.bn, .int .i64 m.sl, .int .i64 m.lw, .int .i64 m.tm, .int .i64 m.v.k, .slice m.v.A m.v.n m.v.c, .slice m.v.D m.v.m m.v.d, .slice m.VA m.vn m.vc, .int .i64 m.cm.s, .int .i64 m.cm.q, .int .i64 m.cm.a, .int .i64 m.cm.k, .int .i64 m.cm.r, .int .i64 m.cm.t, .int .i64 m.cm.re, .int .i64 m.cm.im, .int .i64 m.rk, .int .i64 m.rr, .int .i64 m.ri, .slice m.DA m.dn m.dc] 37)) := by go_grown
      generalize w.alloc (.cells #[.int .i64 m.kd, .int .i64 m.fr, .int .i64 m.tt, .int .i64 m.ep, .int .i64 m.br, .int .i64 m.bn, .int .i64 m.sl, .int .i64 m.lw, .int .i64 m.tm, .int .i64 m.v.k, .slice m.v.A m.v.n m.v.c, .slice m.v.D m.v.m m.v.d, .slice m.VA m.vn m.vc, .int .i64 m.cm.s, .int .i64 m.cm.q, .int .i64 m.cm.a, .int .i64 m.cm.k, .int .i64 m.cm.r, .int .i64 m.cm.t, .int .i64 m.cm.re, .int .i64 m.cm.im, .int .i64 m.rk, .int .i64 m.rr, .int .i64 m.ri, .slice m.DA m.dn m.dc] 37) = w0 at *
      have HP0 := hide hp0
      clear hp0
      have hz0 := lt_of_block HP0.out
      have hq0 := HM.out _ b0
      refine (muses_any m.kd w0 hq0.2.2).mono ?_
      rintro e w' ⟨rfl, rfl⟩
      rw [HU.out]
      go_wp2_with (refine wpList_load_want (by rfl) 37 (.tmp 1) rfl w.heap.size rfl _ _ _ _ HP0.out Tryd.underlying37 rfl (by kernel_rfl) ?_)
      refine (filled_any m B w0 hq0.1.v hq0.2.1).mono ?_
      rintro e w1 ⟨rfl, b1'⟩
      have b1 := b0.trans (b1'.mono b0.size)
      have HP1 := hide ((b1'.block w.heap.size (by omega)).trans HP0.out)
      have hz1 := lt_of_block HP1.out
      clear b1'
      go_wp2_with (refine wpList_load_want (by rfl) 37 (.tmp 1) rfl w.heap.size rfl _ _ _ _ HP1.out Tryd.underlying37 rfl (by kernel_rfl) ?_)
      refine (HBO.out w1 u).mono ?_
      rintro e w2 ⟨rfl, b2'⟩
      have b2 := b1.trans (b2'.mono b1.size)
      have HP2 := hide ((b2'.block w.heap.size (by omega)).trans HP1.out)
      have hz2 := lt_of_block HP2.out
      clear b2'
      rw [HT2.out]
      obtain ⟨w3, hw3⟩ : ∃ W, W = w2 := ⟨w2, rfl⟩
      subst hw3
      have b3 := b2
      have HP3 := HP2
      have hz3 := hz2
      have hq3 := HM.out _ b3
      have c9 := (row_cells HP3.out 9).1
      have c10 := (row_cells HP3.out 10).1
      have c11 := (row_cells HP3.out 11).1
      simp only [List.getElem?_toArray, List.getElem?_cons_succ, List.getElem?_cons_zero] at c9 c10 c11
      go_wp2_with fail
      refine (hq3.1.v.check hq3.2.1 m.v.k m.v.c m.v.d).mono ?_
      rintro e w4 ⟨rfl, b4'⟩
      have b4 := b3.trans (b4'.mono b3.size)
      have HP4 := hide ((b4'.block w.heap.size (by omega)).trans HP3.out)
      have hz4 := lt_of_block HP4.out
      clear b4'
      clear c9 c10 c11 hq3
      rw [HT4.out]
      have hq4 := HM.out _ b4
      have c12 := (row_cells HP4.out 12).1
      have c6 := (row_cells HP4.out 6).1
      simp only [List.getElem?_toArray, List.getElem?_cons_succ, List.getElem?_cons_zero] at c12 c6
      go_wp2_with fail
      refine (checkvotes_any m.VA m.vn m.vc B m.vs m.sl _ hq4.1.vt hq4.2.1 hq4.1.en (by have := hq4.1.ln; omega) hsl).mono ?_
      rintro e w5 ⟨rfl, b5'⟩
      have b5 := b4.trans (b5'.mono b4.size)
      have HP5 := hide ((b5'.block w.heap.size (by omega)).trans HP4.out)
      have hz5 := lt_of_block HP5.out
      clear b5'
      clear c12 c6 hq4
      rw [HT5.out]
      go_wp2_with (refine wpList_load_row rfl 37 _ rfl w.heap.size rfl _ _ _ _ HP5.out Tryd.underlying37 rfl (by kernel_rfl) ?_)
      refine (checkmcmd_any m _).mono ?_
      rintro e w6 ⟨rfl, b6'⟩
      have b6 := b5.trans (b6'.mono b5.size)
      have HP6 := hide ((b6'.block w.heap.size (by omega)).trans HP5.out)
      have hz6 := lt_of_block HP6.out
      clear b6'
      rw [HT6.out]
      go_wp2
      simp only [Exit.jump]
      go_ret
      exact ⟨by rw [HE.out]; rfl, b6⟩
    by_cases t8 : resB m.rk m.rr m.ri = false
    · have HE := hide (HC.out.trans (if_pos ⟨t7, t8⟩))
      have HT8 := hide t8
      clear HC t8
      go_enter Tryd.func18, Tryd.ntmps18
      go_wp2_with fail
      refine wp_scope_forward 0 rfl ?_
      go_wp2_with fail
      have hp0 := heap_alloc_new w (.cells #[.int .i64 m.kd, .int .i64 m.fr, .int .i64 m.tt, .int .i64 m.ep, .int .i64 m.br, .int .i64 m.bn, .int .i64 m.sl, .int .i64 m.lw, .int .i64 m.tm, .int .i64 m.v.k, .slice m.v.A m.v.n m.v.c, .slice m.v.D m.v.m m.v.d, .slice m.VA m.vn m.vc, .int .i64 m.cm.s, .int .i64 m.cm.q, .int .i64 m.cm.a, .int .i64 m.cm.k, .int .i64 m.cm.r, .int .i64 m.cm.t, .int .i64 m.cm.re, .int .i64 m.cm.im, .int .i64 m.rk, .int .i64 m.rr, .int .i64 m.ri, .slice m.DA m.dn m.dc] 37)
      have b0 : Below w.heap.size w (w.alloc (.cells #[.int .i64 m.kd, .int .i64 m.fr, .int .i64 m.tt, .int .i64 m.ep, .int .i64 m.br, .int .i64 m.bn, .int .i64 m.sl, .int .i64 m.lw, .int .i64 m.tm, .int .i64 m.v.k, .slice m.v.A m.v.n m.v.c, .slice m.v.D m.v.m m.v.d, .slice m.VA m.vn m.vc, .int .i64 m.cm.s, .int .i64 m.cm.q, .int .i64 m.cm.a, .int .i64 m.cm.k, .int .i64 m.cm.r, .int .i64 m.cm.t, .int .i64 m.cm.re, .int .i64 m.cm.im, .int .i64 m.rk, .int .i64 m.rr, .int .i64 m.ri, .slice m.DA m.dn m.dc] 37)) := by go_grown
      generalize w.alloc (.cells #[.int .i64 m.kd, .int .i64 m.fr, .int .i64 m.tt, .int .i64 m.ep, .int .i64 m.br, .int .i64 m.bn, .int .i64 m.sl, .int .i64 m.lw, .int .i64 m.tm, .int .i64 m.v.k, .slice m.v.A m.v.n m.v.c, .slice m.v.D m.v.m m.v.d, .slice m.VA m.vn m.vc, .int .i64 m.cm.s, .int .i64 m.cm.q, .int .i64 m.cm.a, .int .i64 m.cm.k, .int .i64 m.cm.r, .int .i64 m.cm.t, .int .i64 m.cm.re, .int .i64 m.cm.im, .int .i64 m.rk, .int .i64 m.rr, .int .i64 m.ri, .slice m.DA m.dn m.dc] 37) = w0 at *
      have HP0 := hide hp0
      clear hp0
      have hz0 := lt_of_block HP0.out
      have hq0 := HM.out _ b0
      refine (muses_any m.kd w0 hq0.2.2).mono ?_
      rintro e w' ⟨rfl, rfl⟩
      rw [HU.out]
      go_wp2_with (refine wpList_load_want (by rfl) 37 (.tmp 1) rfl w.heap.size rfl _ _ _ _ HP0.out Tryd.underlying37 rfl (by kernel_rfl) ?_)
      refine (filled_any m B w0 hq0.1.v hq0.2.1).mono ?_
      rintro e w1 ⟨rfl, b1'⟩
      have b1 := b0.trans (b1'.mono b0.size)
      have HP1 := hide ((b1'.block w.heap.size (by omega)).trans HP0.out)
      have hz1 := lt_of_block HP1.out
      clear b1'
      go_wp2_with (refine wpList_load_want (by rfl) 37 (.tmp 1) rfl w.heap.size rfl _ _ _ _ HP1.out Tryd.underlying37 rfl (by kernel_rfl) ?_)
      refine (HBO.out w1 u).mono ?_
      rintro e w2 ⟨rfl, b2'⟩
      have b2 := b1.trans (b2'.mono b1.size)
      have HP2 := hide ((b2'.block w.heap.size (by omega)).trans HP1.out)
      have hz2 := lt_of_block HP2.out
      clear b2'
      rw [HT2.out]
      obtain ⟨w3, hw3⟩ : ∃ W, W = w2 := ⟨w2, rfl⟩
      subst hw3
      have b3 := b2
      have HP3 := HP2
      have hz3 := hz2
      have hq3 := HM.out _ b3
      have c9 := (row_cells HP3.out 9).1
      have c10 := (row_cells HP3.out 10).1
      have c11 := (row_cells HP3.out 11).1
      simp only [List.getElem?_toArray, List.getElem?_cons_succ, List.getElem?_cons_zero] at c9 c10 c11
      go_wp2_with fail
      refine (hq3.1.v.check hq3.2.1 m.v.k m.v.c m.v.d).mono ?_
      rintro e w4 ⟨rfl, b4'⟩
      have b4 := b3.trans (b4'.mono b3.size)
      have HP4 := hide ((b4'.block w.heap.size (by omega)).trans HP3.out)
      have hz4 := lt_of_block HP4.out
      clear b4'
      clear c9 c10 c11 hq3
      rw [HT4.out]
      have hq4 := HM.out _ b4
      have c12 := (row_cells HP4.out 12).1
      have c6 := (row_cells HP4.out 6).1
      simp only [List.getElem?_toArray, List.getElem?_cons_succ, List.getElem?_cons_zero] at c12 c6
      go_wp2_with fail
      refine (checkvotes_any m.VA m.vn m.vc B m.vs m.sl _ hq4.1.vt hq4.2.1 hq4.1.en (by have := hq4.1.ln; omega) hsl).mono ?_
      rintro e w5 ⟨rfl, b5'⟩
      have b5 := b4.trans (b5'.mono b4.size)
      have HP5 := hide ((b5'.block w.heap.size (by omega)).trans HP4.out)
      have hz5 := lt_of_block HP5.out
      clear b5'
      clear c12 c6 hq4
      rw [HT5.out]
      go_wp2_with (refine wpList_load_row rfl 37 _ rfl w.heap.size rfl _ _ _ _ HP5.out Tryd.underlying37 rfl (by kernel_rfl) ?_)
      refine (checkmcmd_any m _).mono ?_
      rintro e w6 ⟨rfl, b6'⟩
      have b6 := b5.trans (b6'.mono b5.size)
      have HP6 := hide ((b6'.block w.heap.size (by omega)).trans HP5.out)
      have hz6 := lt_of_block HP6.out
      clear b6'
      rw [HT6.out]
      have c21 := (row_cells HP6.out 21).1
      have c22 := (row_cells HP6.out 22).1
      have c23 := (row_cells HP6.out 23).1
      simp only [List.getElem?_toArray, List.getElem?_cons_succ, List.getElem?_cons_zero] at c21 c22 c23
      go_wp2_with fail
      refine (rightres_any m.rk m.rr m.ri _).mono ?_
      rintro e w7 ⟨rfl, b7'⟩
      have b7 := b6.trans (b7'.mono b6.size)
      have HP7 := hide ((b7'.block w.heap.size (by omega)).trans HP6.out)
      have hz7 := lt_of_block HP7.out
      clear b7'
      clear c21 c22 c23
      rw [HT8.out]
      go_wp2
      go_step3
      refine ⟨rfl, ?_⟩
      go_wp2
      rw [Exit.noGoto_ret]
      go_ret
      exact ⟨by rw [HE.out]; rfl, b7⟩
    · have HE := hide (HC.out.trans (if_neg (fun h => t8 h.2)))
      have HT8 := hide (show resB m.rk m.rr m.ri = true by simpa using t8)
      clear HC t8
      go_enter Tryd.func18, Tryd.ntmps18
      go_wp2_with fail
      refine wp_scope_forward 0 rfl ?_
      go_wp2_with fail
      have hp0 := heap_alloc_new w (.cells #[.int .i64 m.kd, .int .i64 m.fr, .int .i64 m.tt, .int .i64 m.ep, .int .i64 m.br, .int .i64 m.bn, .int .i64 m.sl, .int .i64 m.lw, .int .i64 m.tm, .int .i64 m.v.k, .slice m.v.A m.v.n m.v.c, .slice m.v.D m.v.m m.v.d, .slice m.VA m.vn m.vc, .int .i64 m.cm.s, .int .i64 m.cm.q, .int .i64 m.cm.a, .int .i64 m.cm.k, .int .i64 m.cm.r, .int .i64 m.cm.t, .int .i64 m.cm.re, .int .i64 m.cm.im, .int .i64 m.rk, .int .i64 m.rr, .int .i64 m.ri, .slice m.DA m.dn m.dc] 37)
      have b0 : Below w.heap.size w (w.alloc (.cells #[.int .i64 m.kd, .int .i64 m.fr, .int .i64 m.tt, .int .i64 m.ep, .int .i64 m.br, .int .i64 m.bn, .int .i64 m.sl, .int .i64 m.lw, .int .i64 m.tm, .int .i64 m.v.k, .slice m.v.A m.v.n m.v.c, .slice m.v.D m.v.m m.v.d, .slice m.VA m.vn m.vc, .int .i64 m.cm.s, .int .i64 m.cm.q, .int .i64 m.cm.a, .int .i64 m.cm.k, .int .i64 m.cm.r, .int .i64 m.cm.t, .int .i64 m.cm.re, .int .i64 m.cm.im, .int .i64 m.rk, .int .i64 m.rr, .int .i64 m.ri, .slice m.DA m.dn m.dc] 37)) := by go_grown
      generalize w.alloc (.cells #[.int .i64 m.kd, .int .i64 m.fr, .int .i64 m.tt, .int .i64 m.ep, .int .i64 m.br, .int .i64 m.bn, .int .i64 m.sl, .int .i64 m.lw, .int .i64 m.tm, .int .i64 m.v.k, .slice m.v.A m.v.n m.v.c, .slice m.v.D m.v.m m.v.d, .slice m.VA m.vn m.vc, .int .i64 m.cm.s, .int .i64 m.cm.q, .int .i64 m.cm.a, .int .i64 m.cm.k, .int .i64 m.cm.r, .int .i64 m.cm.t, .int .i64 m.cm.re, .int .i64 m.cm.im, .int .i64 m.rk, .int .i64 m.rr, .int .i64 m.ri, .slice m.DA m.dn m.dc] 37) = w0 at *
      have HP0 := hide hp0
      clear hp0
      have hz0 := lt_of_block HP0.out
      have hq0 := HM.out _ b0
      refine (muses_any m.kd w0 hq0.2.2).mono ?_
      rintro e w' ⟨rfl, rfl⟩
      rw [HU.out]
      go_wp2_with (refine wpList_load_want (by rfl) 37 (.tmp 1) rfl w.heap.size rfl _ _ _ _ HP0.out Tryd.underlying37 rfl (by kernel_rfl) ?_)
      refine (filled_any m B w0 hq0.1.v hq0.2.1).mono ?_
      rintro e w1 ⟨rfl, b1'⟩
      have b1 := b0.trans (b1'.mono b0.size)
      have HP1 := hide ((b1'.block w.heap.size (by omega)).trans HP0.out)
      have hz1 := lt_of_block HP1.out
      clear b1'
      go_wp2_with (refine wpList_load_want (by rfl) 37 (.tmp 1) rfl w.heap.size rfl _ _ _ _ HP1.out Tryd.underlying37 rfl (by kernel_rfl) ?_)
      refine (HBO.out w1 u).mono ?_
      rintro e w2 ⟨rfl, b2'⟩
      have b2 := b1.trans (b2'.mono b1.size)
      have HP2 := hide ((b2'.block w.heap.size (by omega)).trans HP1.out)
      have hz2 := lt_of_block HP2.out
      clear b2'
      rw [HT2.out]
      obtain ⟨w3, hw3⟩ : ∃ W, W = w2 := ⟨w2, rfl⟩
      subst hw3
      have b3 := b2
      have HP3 := HP2
      have hz3 := hz2
      have hq3 := HM.out _ b3
      have c9 := (row_cells HP3.out 9).1
      have c10 := (row_cells HP3.out 10).1
      have c11 := (row_cells HP3.out 11).1
      simp only [List.getElem?_toArray, List.getElem?_cons_succ, List.getElem?_cons_zero] at c9 c10 c11
      go_wp2_with fail
      refine (hq3.1.v.check hq3.2.1 m.v.k m.v.c m.v.d).mono ?_
      rintro e w4 ⟨rfl, b4'⟩
      have b4 := b3.trans (b4'.mono b3.size)
      have HP4 := hide ((b4'.block w.heap.size (by omega)).trans HP3.out)
      have hz4 := lt_of_block HP4.out
      clear b4'
      clear c9 c10 c11 hq3
      rw [HT4.out]
      have hq4 := HM.out _ b4
      have c12 := (row_cells HP4.out 12).1
      have c6 := (row_cells HP4.out 6).1
      simp only [List.getElem?_toArray, List.getElem?_cons_succ, List.getElem?_cons_zero] at c12 c6
      go_wp2_with fail
      refine (checkvotes_any m.VA m.vn m.vc B m.vs m.sl _ hq4.1.vt hq4.2.1 hq4.1.en (by have := hq4.1.ln; omega) hsl).mono ?_
      rintro e w5 ⟨rfl, b5'⟩
      have b5 := b4.trans (b5'.mono b4.size)
      have HP5 := hide ((b5'.block w.heap.size (by omega)).trans HP4.out)
      have hz5 := lt_of_block HP5.out
      clear b5'
      clear c12 c6 hq4
      rw [HT5.out]
      go_wp2_with (refine wpList_load_row rfl 37 _ rfl w.heap.size rfl _ _ _ _ HP5.out Tryd.underlying37 rfl (by kernel_rfl) ?_)
      refine (checkmcmd_any m _).mono ?_
      rintro e w6 ⟨rfl, b6'⟩
      have b6 := b5.trans (b6'.mono b5.size)
      have HP6 := hide ((b6'.block w.heap.size (by omega)).trans HP5.out)
      have hz6 := lt_of_block HP6.out
      clear b6'
      rw [HT6.out]
      have c21 := (row_cells HP6.out 21).1
      have c22 := (row_cells HP6.out 22).1
      have c23 := (row_cells HP6.out 23).1
      simp only [List.getElem?_toArray, List.getElem?_cons_succ, List.getElem?_cons_zero] at c21 c22 c23
      go_wp2_with fail
      refine (rightres_any m.rk m.rr m.ri _).mono ?_
      rintro e w7 ⟨rfl, b7'⟩
      have b7 := b6.trans (b7'.mono b6.size)
      have HP7 := hide ((b7'.block w.heap.size (by omega)).trans HP6.out)
      have hz7 := lt_of_block HP7.out
      clear b7'
      clear c21 c22 c23
      rw [HT8.out]
      go_wp2
      simp only [Exit.jump]
      go_ret
      exact ⟨by rw [HE.out]; rfl, b7⟩
  by_cases t3b : valB m.br m.bn = false
  · have HE := hide (HC.out.trans (if_pos ⟨t3, t3b⟩))
    have HT3 := hide t3b
    clear HC t3b
    go_enter Tryd.func18, Tryd.ntmps18
    go_wp2_with fail
    refine wp_scope_forward 0 rfl ?_
    go_wp2_with fail
    have hp0 := heap_alloc_new w (.cells #[.int .i64 m.kd, .int .i64 m.fr, .int .i64 m.tt, .int .i64 m.ep, .int .i64 m.br, .int .i64 m.bn, .int .i64 m.sl, .int .i64 m.lw, .int .i64 m.tm, .int .i64 m.v.k, .slice m.v.A m.v.n m.v.c, .slice m.v.D m.v.m m.v.d, .slice m.VA m.vn m.vc, .int .i64 m.cm.s, .int .i64 m.cm.q, .int .i64 m.cm.a, .int .i64 m.cm.k, .int .i64 m.cm.r, .int .i64 m.cm.t, .int .i64 m.cm.re, .int .i64 m.cm.im, .int .i64 m.rk, .int .i64 m.rr, .int .i64 m.ri, .slice m.DA m.dn m.dc] 37)
    have b0 : Below w.heap.size w (w.alloc (.cells #[.int .i64 m.kd, .int .i64 m.fr, .int .i64 m.tt, .int .i64 m.ep, .int .i64 m.br, .int .i64 m.bn, .int .i64 m.sl, .int .i64 m.lw, .int .i64 m.tm, .int .i64 m.v.k, .slice m.v.A m.v.n m.v.c, .slice m.v.D m.v.m m.v.d, .slice m.VA m.vn m.vc, .int .i64 m.cm.s, .int .i64 m.cm.q, .int .i64 m.cm.a, .int .i64 m.cm.k, .int .i64 m.cm.r, .int .i64 m.cm.t, .int .i64 m.cm.re, .int .i64 m.cm.im, .int .i64 m.rk, .int .i64 m.rr, .int .i64 m.ri, .slice m.DA m.dn m.dc] 37)) := by go_grown
    generalize w.alloc (.cells #[.int .i64 m.kd, .int .i64 m.fr, .int .i64 m.tt, .int .i64 m.ep, .int .i64 m.br, .int .i64 m.bn, .int .i64 m.sl, .int .i64 m.lw, .int .i64 m.tm, .int .i64 m.v.k, .slice m.v.A m.v.n m.v.c, .slice m.v.D m.v.m m.v.d, .slice m.VA m.vn m.vc, .int .i64 m.cm.s, .int .i64 m.cm.q, .int .i64 m.cm.a, .int .i64 m.cm.k, .int .i64 m.cm.r, .int .i64 m.cm.t, .int .i64 m.cm.re, .int .i64 m.cm.im, .int .i64 m.rk, .int .i64 m.rr, .int .i64 m.ri, .slice m.DA m.dn m.dc] 37) = w0 at *
    have HP0 := hide hp0
    clear hp0
    have hz0 := lt_of_block HP0.out
    have hq0 := HM.out _ b0
    refine (muses_any m.kd w0 hq0.2.2).mono ?_
    rintro e w' ⟨rfl, rfl⟩
    rw [HU.out]
    go_wp2_with (refine wpList_load_want (by rfl) 37 (.tmp 1) rfl w.heap.size rfl _ _ _ _ HP0.out Tryd.underlying37 rfl (by kernel_rfl) ?_)
    refine (filled_any m B w0 hq0.1.v hq0.2.1).mono ?_
    rintro e w1 ⟨rfl, b1'⟩
    have b1 := b0.trans (b1'.mono b0.size)
    have HP1 := hide ((b1'.block w.heap.size (by omega)).trans HP0.out)
    have hz1 := lt_of_block HP1.out
    clear b1'
    go_wp2_with (refine wpList_load_want (by rfl) 37 (.tmp 1) rfl w.heap.size rfl _ _ _ _ HP1.out Tryd.underlying37 rfl (by kernel_rfl) ?_)
    refine (HBO.out w1 u).mono ?_
    rintro e w2 ⟨rfl, b2'⟩
    have b2 := b1.trans (b2'.mono b1.size)
    have HP2 := hide ((b2'.block w.heap.size (by omega)).trans HP1.out)
    have hz2 := lt_of_block HP2.out
    clear b2'
    rw [HT2.out]
    have c4 := (row_cells HP2.out 4).1
    have c5 := (row_cells HP2.out 5).1
    simp only [List.getElem?_toArray, List.getElem?_cons_succ, List.getElem?_cons_zero] at c4 c5
    go_wp2_with fail
    refine (bvalid_any m.br m.bn _).mono ?_
    rintro e w3 ⟨rfl, b3'⟩
    have b3 := b2.trans (b3'.mono b2.size)
    have HP3 := hide ((b3'.block w.heap.size (by omega)).trans HP2.out)
    have hz3 := lt_of_block HP3.out
    clear b3'
    clear c4 c5
    rw [HT3.out]
    go_wp2
    go_step3
    refine ⟨rfl, ?_⟩
    go_wp2
    rw [Exit.noGoto_ret]
    go_ret
    exact ⟨by rw [HE.out]; rfl, b3⟩
  have HC := hide (HC.out.trans (if_neg (fun h => t3b h.2)))
  have HT3 := hide (show valB m.br m.bn = true by simpa using t3b)
  clear t3b
  by_cases t4 : chkV m.v.k m.v.cs m.v.ns ≠ 0
  · have HE := hide (HC.out.trans (if_pos t4))
    have t4' : (chkV m.v.k m.v.cs m.v.ns != 0) = true := by rw [bne_iff_ne]; exact t4
    clear HC t4
    go_enter Tryd.func18, Tryd.ntmps18
    go_wp2_with fail
    refine wp_scope_forward 0 rfl ?_
    go_wp2_with fail
    have hp0 := heap_alloc_new w (.cells #[.int .i64 m.kd, .int .i64 m.fr, .int .i64 m.tt, .int .i64 m.ep, .int .i64 m.br, .int .i64 m.bn, .int .i64 m.sl, .int .i64 m.lw, .int .i64 m.tm, .int .i64 m.v.k, .slice m.v.A m.v.n m.v.c, .slice m.v.D m.v.m m.v.d, .slice m.VA m.vn m.vc, .int .i64 m.cm.s, .int .i64 m.cm.q, .int .i64 m.cm.a, .int .i64 m.cm.k, .int .i64 m.cm.r, .int .i64 m.cm.t, .int .i64 m.cm.re, .int .i64 m.cm.im, .int .i64 m.rk, .int .i64 m.rr, .int .i64 m.ri, .slice m.DA m.dn m.dc] 37)
    have b0 : Below w.heap.size w (w.alloc (.cells #[.int .i64 m.kd, .int .i64 m.fr, .int .i64 m.tt, .int .i64 m.ep, .int .i64 m.br, .int .i64 m.bn, .int .i64 m.sl, .int .i64 m.lw, .int .i64 m.tm, .int .i64 m.v.k, .slice m.v.A m.v.n m.v.c, .slice m.v.D m.v.m m.v.d, .slice m.VA m.vn m.vc, .int .i64 m.cm.s, .int .i64 m.cm.q, .int .i64 m.cm.a, .int .i64 m.cm.k, .int .i64 m.cm.r, .int .i64 m.cm.t, .int .i64 m.cm.re, .int .i64 m.cm.im, .int .i64 m.rk, .int .i64 m.rr, .int .i64 m.ri, .slice m.DA m.dn m.dc] 37)) := by go_grown
    generalize w.alloc (.cells #[.int .i64 m.kd, .int .i64 m.fr, .int .i64 m.tt, .int .i64 m.ep, .int .i64 m.br, .int .i64 m.bn, .int .i64 m.sl, .int .i64 m.lw, .int .i64 m.tm, .int .i64 m.v.k, .slice m.v.A m.v.n m.v.c, .slice m.v.D m.v.m m.v.d, .slice m.VA m.vn m.vc, .int .i64 m.cm.s, .int .i64 m.cm.q, .int .i64 m.cm.a, .int .i64 m.cm.k, .int .i64 m.cm.r, .int .i64 m.cm.t, .int .i64 m.cm.re, .int .i64 m.cm.im, .int .i64 m.rk, .int .i64 m.rr, .int .i64 m.ri, .slice m.DA m.dn m.dc] 37) = w0 at *
    have HP0 := hide hp0
    clear hp0
    have hz0 := lt_of_block HP0.out
    have hq0 := HM.out _ b0
    refine (muses_any m.kd w0 hq0.2.2).mono ?_
    rintro e w' ⟨rfl, rfl⟩
    rw [HU.out]
    go_wp2_with (refine wpList_load_want (by rfl) 37 (.tmp 1) rfl w.heap.size rfl _ _ _ _ HP0.out Tryd.underlying37 rfl (by kernel_rfl) ?_)
    refine (filled_any m B w0 hq0.1.v hq0.2.1).mono ?_
    rintro e w1 ⟨rfl, b1'⟩
    have b1 := b0.trans (b1'.mono b0.size)
    have HP1 := hide ((b1'.block w.heap.size (by omega)).trans HP0.out)
    have hz1 := lt_of_block HP1.out
    clear b1'
    go_wp2_with (refine wpList_load_want (by rfl) 37 (.tmp 1) rfl w.heap.size rfl _ _ _ _ HP1.out Tryd.underlying37 rfl (by kernel_rfl) ?_)
    refine (HBO.out w1 u).mono ?_
    rintro e w2 ⟨rfl, b2'⟩
    have b2 := b1.trans (b2'.mono b1.size)
    have HP2 := hide ((b2'.block w.heap.size (by omega)).trans HP1.out)
    have hz2 := lt_of_block HP2.out
    clear b2'
    rw [HT2.out]
    have c4 := (row_cells HP2.out 4).1
    have c5 := (row_cells HP2.out 5).1
    simp only [List.getElem?_toArray, List.getElem?_cons_succ, List.getElem?_cons_zero] at c4 c5
    go_wp2_with fail
    refine (bvalid_any m.br m.bn _).mono ?_
    rintro e w3 ⟨rfl, b3'⟩
    have b3 := b2.trans (b3'.mono b2.size)
    have HP3 := hide ((b3'.block w.heap.size (by omega)).trans HP2.out)
    have hz3 := lt_of_block HP3.out
    clear b3'
    clear c4 c5
    rw [HT3.out]
    have hq3 := HM.out _ b3
    have c9 := (row_cells HP3.out 9).1
    have c10 := (row_cells HP3.out 10).1
    have c11 := (row_cells HP3.out 11).1
    simp only [List.getElem?_toArray, List.getElem?_cons_succ, List.getElem?_cons_zero] at c9 c10 c11
    go_wp2_with fail
    refine (hq3.1.v.check hq3.2.1 m.v.k m.v.c m.v.d).mono ?_
    rintro e w4 ⟨rfl, b4'⟩
    have b4 := b3.trans (b4'.mono b3.size)
    have HP4 := hide ((b4'.block w.heap.size (by omega)).trans HP3.out)
    have hz4 := lt_of_block HP4.out
    clear b4'
    clear c9 c10 c11 hq3
    go_wp2
    go_step3
    refine ⟨rfl, ?_⟩
    go_wp2
    rw [Exit.noGoto_ret]
    go_ret
    exact ⟨by rw [HE.out]; rfl, b4⟩
  have HC := hide (HC.out.trans (if_neg t4))
  have HT4 := hide (show chkV m.v.k m.v.cs m.v.ns = 0 by omega)
  clear t4
  by_cases t5 : chkVotes m.vs m.sl ≠ 0
  · have HE := hide (HC.out.trans (if_pos t5))
    have t5' : (chkVotes m.vs m.sl != 0) = true := by rw [bne_iff_ne]; exact t5
    clear HC t5
    go_enter Tryd.func18, Tryd.ntmps18
    go_wp2_with fail
    refine wp_scope_forward 0 rfl ?_
    go_wp2_with fail
    have hp0 := heap_alloc_new w (.cells #[.int .i64 m.kd, .int .i64 m.fr, .int .i64 m.tt, .int .i64 m.ep, .int .i64 m.br, .int .i64 m.bn, .int .i64 m.sl, .int .i64 m.lw, .int .i64 m.tm, .int .i64 m.v.k, .slice m.v.A m.v.n m.v.c, .slice m.v.D m.v.m m.v.d, .slice m.VA m.vn m.vc, .int .i64 m.cm.s, .int .i64 m.cm.q, .int .i64 m.cm.a, .int .i64 m.cm.k, .int .i64 m.cm.r, .int .i64 m.cm.t, .int .i64 m.cm.re, .int .i64 m.cm.im, .int .i64 m.rk, .int .i64 m.rr, .int .i64 m.ri, .slice m.DA m.dn m.dc] 37)
    have b0 : Below w.heap.size w (w.alloc (.cells #[.int .i64 m.kd, .int .i64 m.fr, .int .i64 m.tt, .int .i64 m.ep, .int .i64 m.br, .int .i64 m.bn, .int .i64 m.sl, .int .i64 m.lw, .int .i64 m.tm, .int .i64 m.v.k, .slice m.v.A m.v.n m.v.c, .slice m.v.D m.v.m m.v.d, .slice m.VA m.vn m.vc, .int .i64 m.cm.s, .int .i64 m.cm.q, .int .i64 m.cm.a, .int .i64 m.cm.k, .int .i64 m.cm.r, .int .i64 m.cm.t, .int .i64 m.cm.re, .int .i64 m.cm.im, .int .i64 m.rk, .int .i64 m.rr, .int .i64 m.ri, .slice m.DA m.dn m.dc] 37)) := by go_grown
    generalize w.alloc (.cells #[.int .i64 m.kd, .int .i64 m.fr, .int .i64 m.tt, .int .i64 m.ep, .int .i64 m.br, .int .i64 m.bn, .int .i64 m.sl, .int .i64 m.lw, .int .i64 m.tm, .int .i64 m.v.k, .slice m.v.A m.v.n m.v.c, .slice m.v.D m.v.m m.v.d, .slice m.VA m.vn m.vc, .int .i64 m.cm.s, .int .i64 m.cm.q, .int .i64 m.cm.a, .int .i64 m.cm.k, .int .i64 m.cm.r, .int .i64 m.cm.t, .int .i64 m.cm.re, .int .i64 m.cm.im, .int .i64 m.rk, .int .i64 m.rr, .int .i64 m.ri, .slice m.DA m.dn m.dc] 37) = w0 at *
    have HP0 := hide hp0
    clear hp0
    have hz0 := lt_of_block HP0.out
    have hq0 := HM.out _ b0
    refine (muses_any m.kd w0 hq0.2.2).mono ?_
    rintro e w' ⟨rfl, rfl⟩
    rw [HU.out]
    go_wp2_with (refine wpList_load_want (by rfl) 37 (.tmp 1) rfl w.heap.size rfl _ _ _ _ HP0.out Tryd.underlying37 rfl (by kernel_rfl) ?_)
    refine (filled_any m B w0 hq0.1.v hq0.2.1).mono ?_
    rintro e w1 ⟨rfl, b1'⟩
    have b1 := b0.trans (b1'.mono b0.size)
    have HP1 := hide ((b1'.block w.heap.size (by omega)).trans HP0.out)
    have hz1 := lt_of_block HP1.out
    clear b1'
    go_wp2_with (refine wpList_load_want (by rfl) 37 (.tmp 1) rfl w.heap.size rfl _ _ _ _ HP1.out Tryd.underlying37 rfl (by kernel_rfl) ?_)
    refine (HBO.out w1 u).mono ?_
    rintro e w2 ⟨rfl, b2'⟩
    have b2 := b1.trans (b2'.mono b1.size)
    have HP2 := hide ((b2'.block w.heap.size (by omega)).trans HP1.out)
    have hz2 := lt_of_block HP2.out
    clear b2'
    rw [HT2.out]
    have c4 := (row_cells HP2.out 4).1
    have c5 := (row_cells HP2.out 5).1
    simp only [List.getElem?_toArray, List.getElem?_cons_succ, List.getElem?_cons_zero] at c4 c5
    go_wp2_with fail
    refine (bvalid_any m.br m.bn _).mono ?_
    rintro e w3 ⟨rfl, b3'⟩
    have b3 := b2.trans (b3'.mono b2.size)
    have HP3 := hide ((b3'.block w.heap.size (by omega)).trans HP2.out)
    have hz3 := lt_of_block HP3.out
    clear b3'
    clear c4 c5
    rw [HT3.out]
    have hq3 := HM.out _ b3
    have c9 := (row_cells HP3.out 9).1
    have c10 := (row_cells HP3.out 10).1
    have c11 := (row_cells HP3.out 11).1
    simp only [List.getElem?_toArray, List.getElem?_cons_succ, List.getElem?_cons_zero] at c9 c10 c11
    go_wp2_with fail
    refine (hq3.1.v.check hq3.2.1 m.v.k m.v.c m.v.d).mono ?_
    rintro e w4 ⟨rfl, b4'⟩
    have b4 := b3.trans (b4'.mono b3.size)
    have HP4 := hide ((b4'.block w.heap.size (by omega)).trans HP3.out)
    have hz4 := lt_of_block HP4.out
    clear b4'
    clear c9 c10 c11 hq3
    rw [HT4.out]
    have hq4 := HM.out _ b4
    have c12 := (row_cells HP4.out 12).1
    have c6 := (row_cells HP4.out 6).1
    simp only [List.getElem?_toArray, List.getElem?_cons_succ, List.getElem?_cons_zero] at c12 c6
    go_wp2_with fail
    refine (checkvotes_any m.VA m.vn m.vc B m.vs m.sl _ hq4.1.vt hq4.2.1 hq4.1.en (by have := hq4.1.ln; omega) hsl).mono ?_
    rintro e w5 ⟨rfl, b5'⟩
    have b5 := b4.trans (b5'.mono b4.size)
    have HP5 := hide ((b5'.block w.heap.size (by omega)).trans HP4.out)
    have hz5 := lt_of_block HP5.out
    clear b5'
    clear c12 c6 hq4
    go_wp2
    go_step3
    refine ⟨rfl, ?_⟩
    go_wp2
    rw [Exit.noGoto_ret]
    go_ret
    exact ⟨by rw [HE.out]; rfl, b5⟩
  have HC := hide (HC.out.trans (if_neg t5))
  have HT5 := hide (show chkVotes m.vs m.sl = 0 by omega)
  clear t5
  by_cases t6 : chkMC m.kd m.cm ≠ 0
  · have HE := hide (HC.out.trans (if_pos t6))
    have t6' : (chkMC m.kd m.cm != 0) = true := by rw [bne_iff_ne]; exact t6
    clear HC t6
    go_enter Tryd.func18, Tryd.ntmps18
    go_wp2_with fail
    refine wp_scope_forward 0 rfl ?_
    go_wp2_with fail
    have hp0 := heap_alloc_new w (.cells #[.int .i64 m.kd, .int .i64 m.fr, .int .i64 m.tt, .int .i64 m.ep, .int .i64 m.br, .int .i64 m.bn, .int .i64 m.sl, .int .i64 m.lw, .int .i64 m.tm, .int .i64 m.v.k, .slice m.v.A m.v.n m.v.c, .slice m.v.D m.v.m m.v.d, .slice m.VA m.vn m.vc, .int .i64 m.cm.s, .int .i64 m.cm.q, .int .i64 m.cm.a, .int .i64 m.cm.k, .int .i64 m.cm.r, .int .i64 m.cm.t, .int .i64 m.cm.re, .int .i64 m.cm.im, .int .i64 m.rk, .int .i64 m.rr, .int .i64 m.ri, .slice m.DA m.dn m.dc] 37)
    have b0 : Below w.heap.size w (w.alloc (.cells #[.int .i64 m.kd, .int .i64 m.fr, .int .i64 m.tt, .int .i64 m.ep, .int .i64 m.br, .int .i64 m.bn, .int .i64 m.sl, .int .i64 m.lw, .int .i64 m.tm, .int .i64 m.v.k, .slice m.v.A m.v.n m.v.c, .slice m.v.D m.v.m m.v.d, .slice m.VA m.vn m.vc, .int .i64 m.cm.s, .int .i64 m.cm.q, .int .i64 m.cm.a, .int .i64 m.cm.k, .int .i64 m.cm.r, .int .i64 m.cm.t, .int .i64 m.cm.re, .int .i64 m.cm.im, .int .i64 m.rk, .int .i64 m.rr, .int .i64 m.ri, .slice m.DA m.dn m.dc] 37)) := by go_grown
    generalize w.alloc (.cells #[.int .i64 m.kd, .int .i64 m.fr, .int .i64 m.tt, .int .i64 m.ep, .int .i64 m.br, .int .i64 m.bn, .int .i64 m.sl, .int .i64 m.lw, .int .i64 m.tm, .int .i64 m.v.k, .slice m.v.A m.v.n m.v.c, .slice m.v.D m.v.m m.v.d, .slice m.VA m.vn m.vc, .int .i64 m.cm.s, .int .i64 m.cm.q, .int .i64 m.cm.a, .int .i64 m.cm.k, .int .i64 m.cm.r, .int .i64 m.cm.t, .int .i64 m.cm.re, .int .i64 m.cm.im, .int .i64 m.rk, .int .i64 m.rr, .int .i64 m.ri, .slice m.DA m.dn m.dc] 37) = w0 at *
    have HP0 := hide hp0
    clear hp0
    have hz0 := lt_of_block HP0.out
    have hq0 := HM.out _ b0
    refine (muses_any m.kd w0 hq0.2.2).mono ?_
    rintro e w' ⟨rfl, rfl⟩
    rw [HU.out]
    go_wp2_with (refine wpList_load_want (by rfl) 37 (.tmp 1) rfl w.heap.size rfl _ _ _ _ HP0.out Tryd.underlying37 rfl (by kernel_rfl) ?_)
    refine (filled_any m B w0 hq0.1.v hq0.2.1).mono ?_
    rintro e w1 ⟨rfl, b1'⟩
    have b1 := b0.trans (b1'.mono b0.size)
    have HP1 := hide ((b1'.block w.heap.size (by omega)).trans HP0.out)
    have hz1 := lt_of_block HP1.out
    clear b1'
    go_wp2_with (refine wpList_load_want (by rfl) 37 (.tmp 1) rfl w.heap.size rfl _ _ _ _ HP1.out Tryd.underlying37 rfl (by kernel_rfl) ?_)
    refine (HBO.out w1 u).mono ?_
    rintro e w2 ⟨rfl, b2'⟩
    have b2 := b1.trans (b2'.mono b1.size)
    have HP2 := hide ((b2'.block w.heap.size (by omega)).trans HP1.out)
    have hz2 := lt_of_block HP2.out
    clear b2'
    rw [HT2.out]
    have c4 := (row_cells HP2.out 4).1
    have c5 := (row_cells HP2.out 5).1
    simp only [List.getElem?_toArray, List.getElem?_cons_succ, List.getElem?_cons_zero] at c4 c5
    go_wp2_with fail
    refine (bvalid_any m.br m.bn _).mono ?_
    rintro e w3 ⟨rfl, b3'⟩
    have b3 := b2.trans (b3'.mono b2.size)
    have HP3 := hide ((b3'.block w.heap.size (by omega)).trans HP2.out)
    have hz3 := lt_of_block HP3.out
    clear b3'
    clear c4 c5
    rw [HT3.out]
    have hq3 := HM.out _ b3
    have c9 := (row_cells HP3.out 9).1
    have c10 := (row_cells HP3.out 10).1
    have c11 := (row_cells HP3.out 11).1
    simp only [List.getElem?_toArray, List.getElem?_cons_succ, List.getElem?_cons_zero] at c9 c10 c11
    go_wp2_with fail
    refine (hq3.1.v.check hq3.2.1 m.v.k m.v.c m.v.d).mono ?_
    rintro e w4 ⟨rfl, b4'⟩
    have b4 := b3.trans (b4'.mono b3.size)
    have HP4 := hide ((b4'.block w.heap.size (by omega)).trans HP3.out)
    have hz4 := lt_of_block HP4.out
    clear b4'
    clear c9 c10 c11 hq3
    rw [HT4.out]
    have hq4 := HM.out _ b4
    have c12 := (row_cells HP4.out 12).1
    have c6 := (row_cells HP4.out 6).1
    simp only [List.getElem?_toArray, List.getElem?_cons_succ, List.getElem?_cons_zero] at c12 c6
    go_wp2_with fail
    refine (checkvotes_any m.VA m.vn m.vc B m.vs m.sl _ hq4.1.vt hq4.2.1 hq4.1.en (by have := hq4.1.ln; omega) hsl).mono ?_
    rintro e w5 ⟨rfl, b5'⟩
    have b5 := b4.trans (b5'.mono b4.size)
    have HP5 := hide ((b5'.block w.heap.size (by omega)).trans HP4.out)
    have hz5 := lt_of_block HP5.out
    clear b5'
    clear c12 c6 hq4
    rw [HT5.out]
    go_wp2_with (refine wpList_load_row rfl 37 _ rfl w.heap.size rfl _ _ _ _ HP5.out Tryd.underlying37 rfl (by kernel_rfl) ?_)
    refine (checkmcmd_any m _).mono ?_
    rintro e w6 ⟨rfl, b6'⟩
    have b6 := b5.trans (b6'.mono b5.size)
    have HP6 := hide ((b6'.block w.heap.size (by omega)).trans HP5.out)
    have hz6 := lt_of_block HP6.out
    clear b6'
    go_wp2
    go_step3
    refine ⟨rfl, ?_⟩
    go_wp2
    rw [Exit.noGoto_ret]
    go_ret
    exact ⟨by rw [HE.out]; rfl, b6⟩
  have HC := hide (HC.out.trans (if_neg t6))
  have HT6 := hide (show chkMC m.kd m.cm = 0 by omega)
  clear t6
  by_cases t7 : (bits .and .i64 u 512 != 0) = true
  rotate_left
  · have HE := hide (HC.out.trans (if_neg (fun h => t7 h.1)))
    have t7 : (bits .and .i64 u 512 != 0) = false := Bool.eq_false_iff.2 t7
    clear HC
    go_enter Tryd.func18, Tryd.ntmps18
    go_wp2_with fail
    refine wp_scope_forward 0 rfl ?_
    go_wp2_with fail
    have hp0 := heap_alloc_new w (.cells #[.int .i64 m.kd, .int .i64 m.fr, .int .i64 m.tt, .int .i64 m.ep, .int .i64 m.br, .int .i64 m.bn, .int .i64 m.sl, .int .i64 m.lw, .int .i64 m.tm, .int .i64 m.v.k, .slice m.v.A m.v.n m.v.c, .slice m.v.D m.v.m m.v.d, .slice m.VA m.vn m.vc, .int .i64 m.cm.s, .int .i64 m.cm.q, .int .i64 m.cm.a, .int .i64 m.cm.k, .int .i64 m.cm.r, .int .i64 m.cm.t, .int .i64 m.cm.re, .int .i64 m.cm.im, .int .i64 m.rk, .int .i64 m.rr, .int .i64 m.ri, .slice m.DA m.dn m.dc] 37)
    have b0 : Below w.heap.size w (w.alloc (.cells #[.int .i64 m.kd, .int .i64 m.fr, .int .i64 m.tt, .int .i64 m.ep, .int .i64 m.br, .int .i64 m.bn, .int .i64 m.sl, .int .i64 m.lw, .int .i64 m.tm, .int .i64 m.v.k, .slice m.v.A m.v.n m.v.c, .slice m.v.D m.v.m m.v.d, .slice m.VA m.vn m.vc, .int .i64 m.cm.s, .int .i64 m.cm.q, .int .i64 m.cm.a, .int .i64 m.cm.k, .int .i64 m.cm.r, .int .i64 m.cm.t, .int .i64 m.cm.re, .int .i64 m.cm.im, .int .i64 m.rk, .int .i64 m.rr, .int .i64 m.ri, .slice m.DA m.dn m.dc] 37)) := by go_grown
    generalize w.alloc (.cells #[.int .i64 m.kd, .int .i64 m.fr, .int .i64 m.tt, .int .i64 m.ep, .int .i64 m.br, .int .i64 m.bn, .int .i64 m.sl, .int .i64 m.lw, .int .i64 m.tm, .int .i64 m.v.k, .slice m.v.A m.v.n m.v.c, .slice m.v.D m.v.m m.v.d, .slice m.VA m.vn m.vc, .int .i64 m.cm.s, .int .i64 m.cm.q, .int .i64 m.cm.a, .int .i64 m.cm.k, .int .i64 m.cm.r, .int .i64 m.cm.t, .int .i64 m.cm.re, .int .i64 m.cm.im, .int .i64 m.rk, .int .i64 m.rr, .int .i64 m.ri, .slice m.DA m.dn m.dc] 37) = w0 at *
    have HP0 := hide hp0
    clear hp0
    have hz0 := lt_of_block HP0.out
    have hq0 := HM.out _ b0
    refine (muses_any m.kd w0 hq0.2.2).mono ?_
    rintro e w' ⟨rfl, rfl⟩
    rw [HU.out]
    go_wp2_with (refine wpList_load_want (by rfl) 37 (.tmp 1) rfl w.heap.size rfl _ _ _ _ HP0.out Tryd.underlying37 rfl (by kernel_rfl) ?_)
    refine (filled_any m B w0 hq0.1.v hq0.2.1).mono ?_
    rintro e w1 ⟨rfl, b1'⟩
    have b1 := b0.trans (b1'.mono b0.size)
    have HP1 := hide ((b1'.block w.heap.size (by omega)).trans HP0.out)
    have hz1 := lt_of_block HP1.out
    clear b1'
    go_wp2_with (refine wpList_load_want (by rfl) 37 (.tmp 1) rfl w.heap.size rfl _ _ _ _ HP1.out Tryd.underlying37 rfl (by kernel_rfl) ?_)
    refine (HBO.out w1 u).mono ?_
    rintro e w2 ⟨rfl, b2'⟩
    have b2 := b1.trans (b2'.mono b1.size)
    have HP2 := hide ((b2'.block w.heap.size (by omega)).trans HP1.out)
    have hz2 := lt_of_block HP2.out
    clear b2'
    rw [HT2.out]
    have c4 := (row_cells HP2.out 4).1
    have c5 := (row_cells HP2.out 5).1
    simp only [List.getElem?_toArray, List.getElem?_cons_succ, List.getElem?_cons_zero] at c4 c5
    go_wp2_with fail
    refine (bvalid_any m.br m.bn _).mono ?_
    rintro e w3 ⟨rfl, b3'⟩
    have b3 := b2.trans (b3'.mono b2.size)
    have HP3 := hide ((b3'.block w.heap.size (by omega)).trans HP2.out)
    have hz3 := lt_of_block HP3.out
    clear b3'
    clear c4 c5
    rw [HT3.out]
    have hq3 := HM.out _ b3
    have c9 := (row_cells HP3.out 9).1
    have c10 := (row_cells HP3.out 10).1
    have c11 := (row_cells HP3.out 11).1
    simp only [List.getElem?_toArray, List.getElem?_cons_succ, List.getElem?_cons_zero] at c9 c10 c11
    go_wp2_with fail
    refine (hq3.1.v.check hq3.2.1 m.v.k m.v.c m.v.d).mono ?_
    rintro e w4 ⟨rfl, b4'⟩
    have b4 := b3.trans (b4'.mono b3.size)
    have HP4 := hide ((b4'.block w.heap.size (by omega)).trans HP3.out)
    have hz4 := lt_of_block HP4.out
    clear b4'
    clear c9 c10 c11 hq3
    rw [HT4.out]
    have hq4 := HM.out _ b4
    have c12 := (row_cells HP4.out 12).1
    have c6 := (row_cells HP4.out 6).1
    simp only [List.getElem?_toArray, List.getElem?_cons_succ, List.getElem?_cons_zero] at c12 c6
    go_wp2_with fail
    refine (checkvotes_any m.VA m.vn m.vc B m.vs m.sl _ hq4.1.vt hq4.2.1 hq4.1.en (by have := hq4.1.ln; omega) hsl).mono ?_
    rintro e w5 ⟨rfl, b5'⟩
    have b5 := b4.trans (b5'.mono b4.size)
    have HP5 := hide ((b5'.block w.heap.size (by omega)).trans HP4.out)
    have hz5 := lt_of_block HP5.out
    clear b5'
    clear c12 c6 hq4
    rw [HT5.out]
    go_wp2_with (refine wpList_load_row rfl 37 _ rfl w.heap.size rfl _ _ _ _ HP5.out Tryd.underlying37 rfl (by kernel_rfl) ?_)
    refine (checkmcmd_any m _).mono ?_
    rintro e w6 ⟨rfl, b6'⟩
    have b6 := b5.trans (b6'.mono b5.size)
    have HP6 := hide ((b6'.block w.heap.size (by omega)).trans HP5.out)
    have hz6 := lt_of_block HP6.out
    clear b6'
    rw [HT6.out]
    go_wp2
    simp only [Exit.jump]
    go_ret
    exact ⟨by rw [HE.out]; rfl, b6⟩
  by_cases t8 : resB m.rk m.rr m.ri = false
  · have HE := hide (HC.out.trans (if_pos ⟨t7, t8⟩))
    have HT8 := hide t8
    clear HC t8
    go_enter Tryd.func18, Tryd.ntmps18
    go_wp2_with fail
    refine wp_scope_forward 0 rfl ?_
    go_wp2_with fail
    have hp0 := heap_alloc_new w (.cells #[.int .i64 m.kd, .int .i64 m.fr, .int .i64 m.tt, .int .i64 m.ep, .int .i64 m.br, .int .i64 m.bn, .int .i64 m.sl, .int .i64 m.lw, .int .i64 m.tm, .int .i64 m.v.k, .slice m.v.A m.v.n m.v.c, .slice m.v.D m.v.m m.v.d, .slice m.VA m.vn m.vc, .int .i64 m.cm.s, .int .i64 m.cm.q, .int .i64 m.cm.a, .int .i64 m.cm.k, .int .i64 m.cm.r, .int .i64 m.cm.t, .int .i64 m.cm.re, .int .i64 m.cm.im, .int .i64 m.rk, .int .i64 m.rr, .int .i64 m.ri, .slice m.DA m.dn m.dc] 37)
    have b0 : Below w.heap.size w (w.alloc (.cells #[.int .i64 m.kd, .int .i64 m.fr, .int .i64 m.tt, .int .i64 m.ep, .int .i64 m.br, .int .i64 m.bn, .int .i64 m.sl, .int .i64 m.lw, .int .i64 m.tm, .int .i64 m.v.k, .slice m.v.A m.v.n m.v.c, .slice m.v.D m.v.m m.v.d, .slice m.VA m.vn m.vc, .int .i64 m.cm.s, .int .i64 m.cm.q, .int .i64 m.cm.a, .int .i64 m.cm.k, .int .i64 m.cm.r, .int .i64 m.cm.t, .int .i64 m.cm.re, .int .i64 m.cm.im, .int .i64 m.rk, .int .i64 m.rr, .int .i64 m.ri, .slice m.DA m.dn m.dc] 37)) := by go_grown
    generalize w.alloc (.cells #[.int .i64 m.kd, .int .i64 m.fr, .int .i64 m.tt, .int .i64 m.ep, .int .i64 m.br, .int .i64 m.bn, .int .i64 m.sl, .int .i64 m.lw, .int .i64 m.tm, .int .i64 m.v.k, .slice m.v.A m.v.n m.v.c, .slice m.v.D m.v.m m.v.d, .slice m.VA m.vn m.vc, .int .i64 m.cm.s, .int .i64 m.cm.q, .int .i64 m.cm.a, .int .i64 m.cm.k, .int .i64 m.cm.r, .int .i64 m.cm.t, .int .i64 m.cm.re, .int .i64 m.cm.im, .int .i64 m.rk, .int .i64 m.rr, .int .i64 m.ri, .slice m.DA m.dn m.dc] 37) = w0 at *
    have HP0 := hide hp0
    clear hp0
    have hz0 := lt_of_block HP0.out
    have hq0 := HM.out _ b0
    refine (muses_any m.kd w0 hq0.2.2).mono ?_
    rintro e w' ⟨rfl, rfl⟩
    rw [HU.out]
    go_wp2_with (refine wpList_load_want (by rfl) 37 (.tmp 1) rfl w.heap.size rfl _ _ _ _ HP0.out Tryd.underlying37 rfl (by kernel_rfl) ?_)
    refine (filled_any m B w0 hq0.1.v hq0.2.1).mono ?_
    rintro e w1 ⟨rfl, b1'⟩
    have b1 := b0.trans (b1'.mono b0.size)
    have HP1 := hide ((b1'.block w.heap.size (by omega)).trans HP0.out)
    have hz1 := lt_of_block HP1.out
    clear b1'
    go_wp2_with (refine wpList_load_want (by rfl) 37 (.tmp 1) rfl w.heap.size rfl _ _ _ _ HP1.out Tryd.underlying37 rfl (by kernel_rfl) ?_)
    refine (HBO.out w1 u).mono ?_
    rintro e w2 ⟨rfl, b2'⟩
    have b2 := b1.trans (b2'.mono b1.size)
    have HP2 := hide ((b2'.block w.heap.size (by omega)).trans HP1.out)
    have hz2 := lt_of_block HP2.out
    clear b2'
    rw [HT2.out]
    have c4 := (row_cells HP2.out 4).1
    have c5 := (row_cells HP2.out 5).1
    simp only [List.getElem?_toArray, List.getElem?_cons_succ, List.getElem?_cons_zero] at c4 c5
    go_wp2_with fail
    refine (bvalid_any m.br m.bn _).mono ?_
    rintro e w3 ⟨rfl, b3'⟩
    have b3 := b2.trans (b3'.mono b2.size)
    have HP3 := hide ((b3'.block w.heap.size (by omega)).trans HP2.out)
    have hz3 := lt_of_block HP3.out
    clear b3'
    clear c4 c5
    rw [HT3.out]
    have hq3 := HM.out _ b3
    have c9 := (row_cells HP3.out 9).1
    have c10 := (row_cells HP3.out 10).1
    have c11 := (row_cells HP3.out 11).1
    simp only [List.getElem?_toArray, List.getElem?_cons_succ, List.getElem?_cons_zero] at c9 c10 c11
    go_wp2_with fail
    refine (hq3.1.v.check hq3.2.1 m.v.k m.v.c m.v.d).mono ?_
    rintro e w4 ⟨rfl, b4'⟩
    have b4 := b3.trans (b4'.mono b3.size)
    have HP4 := hide ((b4'.block w.heap.size (by omega)).trans HP3.out)
    have hz4 := lt_of_block HP4.out
    clear b4'
    clear c9 c10 c11 hq3
    rw [HT4.out]
    have hq4 := HM.out _ b4
    have c12 := (row_cells HP4.out 12).1
    have c6 := (row_cells HP4.out 6).1
    simp only [List.getElem?_toArray, List.getElem?_cons_succ, List.getElem?_cons_zero] at c12 c6
    go_wp2_with fail
    refine (checkvotes_any m.VA m.vn m.vc B m.vs m.sl _ hq4.1.vt hq4.2.1 hq4.1.en (by have := hq4.1.ln; omega) hsl).mono ?_
    rintro e w5 ⟨rfl, b5'⟩
    have b5 := b4.trans (b5'.mono b4.size)
    have HP5 := hide ((b5'.block w.heap.size (by omega)).trans HP4.out)
    have hz5 := lt_of_block HP5.out
    clear b5'
    clear c12 c6 hq4
    rw [HT5.out]
    go_wp2_with (refine wpList_load_row rfl 37 _ rfl w.heap.size rfl _ _ _ _ HP5.out Tryd.underlying37 rfl (by kernel_rfl) ?_)
    refine (checkmcmd_any m _).mono ?_
    rintro e w6 ⟨rfl, b6'⟩
    have b6 := b5.trans (b6'.mono b5.size)
    have HP6 := hide ((b6'.block w.heap.size (by omega)).trans HP5.out)
    have hz6 := lt_of_block HP6.out
    clear b6'
    rw [HT6.out]
    have c21 := (row_cells HP6.out 21).1
    have c22 := (row_cells HP6.out 22).1
    have c23 := (row_cells HP6.out 23).1
    simp only [List.getElem?_toArray, List.getElem?_cons_succ, List.getElem?_cons_zero] at c21 c22 c23
    go_wp2_with fail
    refine (rightres_any m.rk m.rr m.ri _).mono ?_
    rintro e w7 ⟨rfl, b7'⟩
    have b7 := b6.trans (b7'.mono b6.size)
    have HP7 := hide ((b7'.block w.heap.size (by omega)).trans HP6.out)
    have hz7 := lt_of_block HP7.out
    clear b7'
    clear c21 c22 c23
    rw [HT8.out]
    go_wp2
    go_step3
    refine ⟨rfl, ?_⟩
    go_wp2
    rw [Exit.noGoto_ret]
    go_ret
    exact ⟨by rw [HE.out]; rfl, b7⟩
  · have HE := hide (HC.out.trans (if_neg (fun h => t8 h.2)))
    have HT8 := hide (show resB m.rk m.rr m.ri = true by simpa using t8)
    clear HC t8
    go_enter Tryd.func18, Tryd.ntmps18
    go_wp2_with fail
    refine wp_scope_forward 0 rfl ?_
    go_wp2_with fail
    have hp0 := heap_alloc_new w (.cells #[.int .i64 m.kd, .int .i64 m.fr, .int .i64 m.tt, .int .i64 m.ep, .int .i64 m.br, .int .i64 m.bn, .int .i64 m.sl, .int .i64 m.lw, .int .i64 m.tm, .int .i64 m.v.k, .slice m.v.A m.v.n m.v.c, .slice m.v.D m.v.m m.v.d, .slice m.VA m.vn m.vc, .int .i64 m.cm.s, .int .i64 m.cm.q, .int .i64 m.cm.a, .int .i64 m.cm.k, .int .i64 m.cm.r, .int .i64 m.cm.t, .int .i64 m.cm.re, .int .i64 m.cm.im, .int .i64 m.rk, .int .i64 m.rr, .int .i64 m.ri, .slice m.DA m.dn m.dc] 37)
    have b0 : Below w.heap.size w (w.alloc (.cells #[.int .i64 m.kd, .int .i64 m.fr, .int .i64 m.tt, .int .i64 m.ep, .int .i64 m.br, .int .i64 m.bn, .int .i64 m.sl, .int .i64 m.lw, .int .i64 m.tm, .int .i64 m.v.k, .slice m.v.A m.v.n m.v.c, .slice m.v.D m.v.m m.v.d, .slice m.VA m.vn m.vc, .int .i64 m.cm.s, .int .i64 m.cm.q, .int .i64 m.cm.a, .int .i64 m.cm.k, .int .i64 m.cm.r, .int .i64 m.cm.t, .int .i64 m.cm.re, .int .i64 m.cm.im, .int .i64 m.rk, .int .i64 m.rr, .int .i64 m.ri, .slice m.DA m.dn m.dc] 37)) := by go_grown
    generalize w.alloc (.cells #[.int .i64 m.kd, .int .i64 m.fr, .int .i64 m.tt, .int .i64 m.ep, .int .i64 m.br, .int .i64 m.bn, .int .i64 m.sl, .int .i64 m.lw, .int .i64 m.tm, .int .i64 m.v.k, .slice m.v.A m.v.n m.v.c, .slice m.v.D m.v.m m.v.d, .slice m.VA m.vn m.vc, .int .i64 m.cm.s, .int .i64 m.cm.q, .int .i64 m.cm.a, .int .i64 m.cm.k, .int .i64 m.cm.r, .int .i64 m.cm.t, .int .i64 m.cm.re, .int .i64 m.cm.im, .int .i64 m.rk, .int .i64 m.rr, .int .i64 m.ri, .slice m.DA m.dn m.dc] 37) = w0 at *
    have HP0 := hide hp0
    clear hp0
    have hz0 := lt_of_block HP0.out
    have hq0 := HM.out _ b0
    refine (muses_any m.kd w0 hq0.2.2).mono ?_
    rintro e w' ⟨rfl, rfl⟩
    rw [HU.out]
    go_wp2_with (refine wpList_load_want (by rfl) 37 (.tmp 1) rfl w.heap.size rfl _ _ _ _ HP0.out Tryd.underlying37 rfl (by kernel_rfl) ?_)
    refine (filled_any m B w0 hq0.1.v hq0.2.1).mono ?_
    rintro e w1 ⟨rfl, b1'⟩
    have b1 := b0.trans (b1'.mono b0.size)
    have HP1 := hide ((b1'.block w.heap.size (by omega)).trans HP0.out)
    have hz1 := lt_of_block HP1.out
    clear b1'
    go_wp2_with (refine wpList_load_want (by rfl) 37 (.tmp 1) rfl w.heap.size rfl _ _ _ _ HP1.out Tryd.underlying37 rfl (by kernel_rfl) ?_)
    refine (HBO.out w1 u).mono ?_
    rintro e w2 ⟨rfl, b2'⟩
    have b2 := b1.trans (b2'.mono b1.size)
    have HP2 := hide ((b2'.block w.heap.size (by omega)).trans HP1.out)
    have hz2 := lt_of_block HP2.out
    clear b2'
    rw [HT2.out]
    have c4 := (row_cells HP2.out 4).1
    have c5 := (row_cells HP2.out 5).1
    simp only [List.getElem?_toArray, List.getElem?_cons_succ, List.getElem?_cons_zero] at c4 c5
    go_wp2_with fail
    refine (bvalid_any m.br m.bn _).mono ?_
    rintro e w3 ⟨rfl, b3'⟩
    have b3 := b2.trans (b3'.mono b2.size)
    have HP3 := hide ((b3'.block w.heap.size (by omega)).trans HP2.out)
    have hz3 := lt_of_block HP3.out
    clear b3'
    clear c4 c5
    rw [HT3.out]
    have hq3 := HM.out _ b3
    have c9 := (row_cells HP3.out 9).1
    have c10 := (row_cells HP3.out 10).1
    have c11 := (row_cells HP3.out 11).1
    simp only [List.getElem?_toArray, List.getElem?_cons_succ, List.getElem?_cons_zero] at c9 c10 c11
    go_wp2_with fail
    refine (hq3.1.v.check hq3.2.1 m.v.k m.v.c m.v.d).mono ?_
    rintro e w4 ⟨rfl, b4'⟩
    have b4 := b3.trans (b4'.mono b3.size)
    have HP4 := hide ((b4'.block w.heap.size (by omega)).trans HP3.out)
    have hz4 := lt_of_block HP4.out
    clear b4'
    clear c9 c10 c11 hq3
    rw [HT4.out]
    have hq4 := HM.out _ b4
    have c12 := (row_cells HP4.out 12).1
    have c6 := (row_cells HP4.out 6).1
    simp only [List.getElem?_toArray, List.getElem?_cons_succ, List.getElem?_cons_zero] at c12 c6
    go_wp2_with fail
    refine (checkvotes_any m.VA m.vn m.vc B m.vs m.sl _ hq4.1.vt hq4.2.1 hq4.1.en (by have := hq4.1.ln; omega) hsl).mono ?_
    rintro e w5 ⟨rfl, b5'⟩
    have b5 := b4.trans (b5'.mono b4.size)
    have HP5 := hide ((b5'.block w.heap.size (by omega)).trans HP4.out)
    have hz5 := lt_of_block HP5.out
    clear b5'
    clear c12 c6 hq4
    rw [HT5.out]
    go_wp2_with (refine wpList_load_row rfl 37 _ rfl w.heap.size rfl _ _ _ _ HP5.out Tryd.underlying37 rfl (by kernel_rfl) ?_)
    refine (checkmcmd_any m _).mono ?_
    rintro e w6 ⟨rfl, b6'⟩
    have b6 := b5.trans (b6'.mono b5.size)
    have HP6 := hide ((b6'.block w.heap.size (by omega)).trans HP5.out)
    have hz6 := lt_of_block HP6.out
    clear b6'
    rw [HT6.out]
    have c21 := (row_cells HP6.out 21).1
    have c22 := (row_cells HP6.out 22).1
    have c23 := (row_cells HP6.out 23).1
    simp only [List.getElem?_toArray, List.getElem?_cons_succ, List.getElem?_cons_zero] at c21 c22 c23
    go_wp2_with fail
    refine (rightres_any m.rk m.rr m.ri _).mono ?_
    rintro e w7 ⟨rfl, b7'⟩
    have b7 := b6.trans (b7'.mono b6.size)
    have HP7 := hide ((b7'.block w.heap.size (by omega)).trans HP6.out)
    have hz7 := lt_of_block HP7.out
    clear b7'
    clear c21 c22 c23
    rw [HT8.out]
    go_wp2
    simp only [Exit.jump]
    go_ret
    exact ⟨by rw [HE.out]; rfl, b7⟩
end Go.Proofs.YtapbcpilklhoiabDoor
