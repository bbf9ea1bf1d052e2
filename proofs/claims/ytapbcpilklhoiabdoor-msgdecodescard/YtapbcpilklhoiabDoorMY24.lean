/-
  num and rest of the reference of package msg. Conditions: the reader's bytes lie below; the message has a head alone.
-/
import Derived.Test.YtapbcpilklhoiabDoorMY23
import Derived.Test.YtapbcpilklhoiabDoorMY14
import Derived.Test.YtapbcpilklhoiabDoorMY20
import Derived.Deep.RegionHeld3
import Derived.Deep.MidRow
set_option linter.unusedSimpArgs false
set_option linter.unusedVariables false

namespace Go.Proofs.YtapbcpilklhoiabDoor
open Go.RowKit

theorem results_num {tmps : Array Value} {w : World} {g : Nat} {A : Array Value} {t : TypeId} {v : Value} (h2 : tmps.getD 2 undef = .pointer (some ⟨g, 0, none⟩)) (h3 : tmps.getD 3 undef = v) (hA : w.heap[g]? = some (.cells A t (0, 0))) (sA : A.size = 2) :
    (results Tryd.f46 tmps).run Tryd.prog w = .ok (.tuple #[.agg A, v]) w := by
  have h2' : tmps[2]?.getD undef = .pointer (some ⟨g, 0, none⟩) := by simpa using h2
  have h3' : tmps[3]?.getD undef = v := by simpa using h3
  have i1 : (Tryd.prog.info? 89).map (·.size) = some A.size := by rw [sA]; kernel_rfl
  have e1 := run_loadVar_row (P := Tryd.prog) w g t 89 A (0, 0) _ hA Tryd.underlying89 rfl i1
  simp [results, Tryd.results46, h2', h3', asAddr, e1]
  try rfl
set_option maxHeartbeats 1600000 in
theorem rrnum_any (A : Option Addr) (n c B : Nat) (s : RSt) (w : World) (h : s.2 = 0 → Left w B A n c s.1) (hB : B ≤ w.heap.size) :
    Calls Tryd.prog 46 #[.agg #[.slice A n c, .int .i64 (s.2 : Int)]] w (RcEnds B (rc P50 s) w) := by
  have HC : Hid (∀ W, Below w.heap.size w W → Calls Tryd.prog 72 #[.agg #[.slice A n c, .int .i64 (s.2 : Int)], .int .i64 1125899906842624] W (RcEnds B (rc P50 s) W)) := hide (fun W hb => rcount_ref A n c B s P50 W (fun e => (h e).below (hb.mono hB)) (by have := hb.size; omega) (isInt_lit (by unfold P50; omega)))
  clear h
  generalize rc P50 s = q at *
  obtain ⟨x, s1⟩ := q
  go_enter Tryd.func46, Tryd.ntmps46
  go_upto_region 1 with fail
  have hq0 := (Below.heap_alloc (w.alloc (.cells #[.slice A n c, .int .i64 (s.2 : Int)] 89)) (.cells #[.slice none 0 0, .int .i64 0] 89) w.heap.size (by simp)).trans (heap_alloc_new w (.cells #[.slice A n c, .int .i64 (s.2 : Int)] 89))
  have hq1 : ((w.alloc (.cells #[.slice A n c, .int .i64 (s.2 : Int)] 89)).alloc (.cells #[.slice none 0 0, .int .i64 0] 89)).heap[w.heap.size + 1]? = some (.cells #[.slice none 0 0, .int .i64 0] 89 (0, 0)) := by
    have := heap_alloc_new (w.alloc (.cells #[.slice A n c, .int .i64 (s.2 : Int)] 89)) (.cells #[.slice none 0 0, .int .i64 0] 89)
    simpa using this
  have hb0 : Below w.heap.size w ((w.alloc (.cells #[.slice A n c, .int .i64 (s.2 : Int)] 89)).alloc (.cells #[.slice none 0 0, .int .i64 0] 89)) := by go_grown
  generalize (w.alloc (.cells #[.slice A n c, .int .i64 (s.2 : Int)] 89)).alloc (.cells #[.slice none 0 0, .int .i64 0] 89) = W0 at *
  have hz0 := lt_of_block hq1
  obtain ⟨p0, p1, p2, p3⟩ := two_cells hq0
  go_wp2_with fail
  refine (HC.out W0 hb0).mono ?_
  rintro e w1 ⟨A1, n1, c1, rfl, hL1, b1⟩
  simp only at hL1 ⊢
  have hq11 := (b1.block _ hz0).trans hq1
  have hb1 := hb0.trans (b1.mono hb0.size)
  have hz1 := b1.size
  obtain ⟨z0, z1, z2, z3⟩ := two_cells hq11
  have hk2 : Kept (fun k => k = w.heap.size + 1) w1 ((w1.setCell ⟨w.heap.size + 1, 0, none⟩ (.slice A1 n1 c1)).setCell ⟨w.heap.size + 1, 1, none⟩ (.int .i64 (s1.2 : Int))) := ((Kept.refl (fun k => k = w.heap.size + 1) w1).setCell (p := ⟨w.heap.size + 1, 0, none⟩) (.inl rfl) _).setCell (p := ⟨w.heap.size + 1, 1, none⟩) (.inl rfl) _
  have hr2 := two_set1 (u := .int .i64 (s1.2 : Int)) (two_set0 (u := .slice A1 n1 c1) hq11)
  clear p0 p1 p2 p3 hq0 hq1 hb0 HC b1
  go_wp2_with fail
  generalize (w1.setCell ⟨w.heap.size + 1, 0, none⟩ (.slice A1 n1 c1)).setCell ⟨w.heap.size + 1, 1, none⟩ (.int .i64 (s1.2 : Int)) = w2 at *
  refine bodyPost_ret (v := .tuple #[.agg #[.slice A1 n1 c1, .int .i64 (s1.2 : Int)], .int .i64 (x : Int)]) (results_num rfl rfl hr2 rfl) rfl ?_
  exact ⟨A1, n1, c1, rfl, hide (fun e => ⟨(hL1.out e).1.keep fun b hb => hk2.block b (by omega) (by omega), (hL1.out e).2⟩), hb1.trans (hk2.below hb1.size (fun k hk => by omega))⟩


theorem oN_q {t : Bool} {s : RSt} {q : Int × RSt} (h : oN t s = q) (ht : t = true) : ∃ x s1, rc P50 s = (x, s1) ∧ q = ((x : Int), s1) := by
  subst ht
  exact ⟨(rc P50 s).1, (rc P50 s).2, rfl, h.symm⟩
theorem size_alloc3 (w : World) (a b c : Obj) : (((w.alloc a).alloc b).alloc c).heap.size = w.heap.size + 1 + 1 + 1 := by simp
/-- How many votes there are, and what is left behind that number. -/
def cN (t : Bool) (s : RSt) : Nat × RSt := if t = true then rc 64 s else (0, s)
theorem oVts_c (t : Bool) (s : RSt) : oVts t s = rdVts (cN t s).1 (cN t s).2 := by
  cases t
  · rfl
  · unfold oVts cN; rw [if_pos rfl, if_pos rfl]
theorem cN_le (t : Bool) (s : RSt) : (cN t s).1 ≤ 64 := by
  cases t
  · exact Nat.zero_le _
  · have := rc_le (s := s) (most := 64) (by omega)
    unfold cN; rw [if_pos rfl]; omega
theorem yieldsIf_load_rowM {ops : Array Oper} {S : World → Prop} {op : Oper} {a : Act} (hw : Region.wanted op (yielded ops a.tmps) = true) (x : Operand) (ho : op.op = .load 37 x)
    (g : Nat) (hx : a.eval x = .pointer (some ⟨g, 0, none⟩)) (t : TypeId) (cs : Array Value) (hS : ∀ w, S w → w.heap[g]? = some (.cells cs t (0, 0)))
    (hi : (Tryd.prog.info? 37).map (·.size) = some cs.size) : YieldsIf Tryd.prog ops S op (.agg cs) a :=
  .inl ⟨hw, fun w hw' => by
    unfold execOp
    simp only [ho, hx, Instr.loadAt, Instr.sureAddr, Sem.run_bind, Sem.run_pure, Result.andThen_ok, run_loadVar_row (P := Tryd.prog) w g t 37 cs (0, 0) _ (hS w hw') Tryd.underlying37 rfl hi]⟩
theorem results_rest {tmps : Array Value} {w : World} {g g' : Nat} {A A' : Array Value} {t t' : TypeId} (h2 : tmps.getD 4 undef = .pointer (some ⟨g, 0, none⟩)) (h3 : tmps.getD 5 undef = .pointer (some ⟨g', 0, none⟩)) (hA : w.heap[g]? = some (.cells A t (0, 0))) (hA' : w.heap[g']? = some (.cells A' t' (0, 0))) (sA : A.size = 2) (sA' : A'.size = 25) :
    (results Tryd.f47 tmps).run Tryd.prog w = .ok (.tuple #[.agg A, .agg A']) w := by
  have h2' : tmps[4]?.getD undef = .pointer (some ⟨g, 0, none⟩) := by simpa using h2
  have h3' : tmps[5]?.getD undef = .pointer (some ⟨g', 0, none⟩) := by simpa using h3
  have i1 : (Tryd.prog.info? 89).map (·.size) = some A.size := by rw [sA]; kernel_rfl
  have i2 : (Tryd.prog.info? 37).map (·.size) = some A'.size := by rw [sA']; kernel_rfl
  have e1 := run_loadVar_row (P := Tryd.prog) w g t 89 A (0, 0) _ hA Tryd.underlying89 rfl i1
  have e2 := run_loadVar_row (P := Tryd.prog) w g' t' 37 A' (0, 0) _ hA' Tryd.underlying37 rfl i2
  simp [results, Tryd.results47, h2', h3', asAddr, e1, e2]
  try rfl
/-- Nothing but numbers and a value is there yet. -/
def NV (m : Msgv) : Prop := m.VA = none ∧ m.vn = 0 ∧ m.vc = 0 ∧ m.vs = [] ∧ m.ds = []
/-- How the reference's rest ends. -/
def RRestEnds (B : Nat) (x : Msgl) (s : RSt) (w : World) (e : Ending) (w' : World) : Prop :=
  ∃ A n c m, e = .returned (.tuple #[.agg #[.slice A n c, .int .i64 (s.2 : Int)], .agg m.cells]) ∧ Hid (s.2 = 0 → Left w' B A n c s.1) ∧ m.lg = x ∧ IsM w' w'.heap.size m ∧ (∀ k, ReachM m k → w.heap.size ≤ k ∧ k < w'.heap.size) ∧ Below w.heap.size w w'

set_option maxRecDepth 40000 in
set_option maxHeartbeats 60000000 in
theorem rrest_gen (kd fr tt ep : Int) (A : Option Addr) (n c B : Nat) (s : RSt) (w : World) (h : s.2 = 0 → Left w B A n c s.1) (hB : B ≤ w.heap.size) (hu : usedT kd ≠ 0)
    (qa qb qc qd qe : Int × RSt) (qv : RdV) (M : Nat) (s6 : RSt) (qo : List Votel × RSt) (qm : Cmdv × RSt) (qr : RdR) (qy : List UInt8 × RSt) (ha : oN (ut (usedT kd) 2) s = qa) (hb : oN (ut (usedT kd) 2) qa.2 = qb) (hc : oN (ut (usedT kd) 4) qb.2 = qc) (hd : oN (ut (usedT kd) 16) qc.2 = qd) (he : oN (ut (usedT kd) 32) qd.2 = qe) (hv : oV (ut (usedT kd) 64) qe.2 = qv) (hn : cN (ut (usedT kd) 128) qv.s = (M, s6)) (ho : rdVts M s6 = qo) (hm : oC (ut (usedT kd) 256) qo.2 = qm) (hr : oR (ut (usedT kd) 512) qm.2 = qr) (hy : oD (ut (usedT kd) 1024) qr.s = qy) :
    Calls Tryd.prog 47 #[.agg #[.slice A n c, .int .i64 (s.2 : Int)], .agg (mz kd fr tt ep).cells] w (RRestEnds B (⟨kd, fr, tt, ep, qa.1, qb.1, qc.1, qd.1, qe.1, qv.k, qv.cs, qv.ns, qo.1, qm.1, qr.k, qr.r, qr.i, qy.1⟩ : Msgl) qy.2 w) := by
  have hlen : (usOf kd).length ≤ 1000000 := by
    unfold usOf
    split
    · have : ∀ k : Nat, (usS.getD k []).length ≤ 1000000 := fun k => by
        rcases Nat.lt_or_ge k usS.length with h1 | h1
        · have hall : (usS.all fun x => x.length ≤ 1000000) = true := by decide +kernel
          have := List.all_eq_true.1 hall _ (List.getElem_mem h1)
          rw [List.getD_eq_getElem?_getD, List.getElem?_eq_getElem h1]
          simpa using this
        · rw [List.getD_eq_getElem?_getD, List.getElem?_eq_none h1]; simp
      exact this _
    · simp
  have H_hb : Hid (∀ W, Calls Tryd.prog 24 #[.string ⟨(usOf kd).toArray⟩, .int .u8 98] W fun e w' => e = .returned (.bool (ut (usedT kd) 2)) ∧ W = w') := hide (fun W => by have h1 := rhasc_any (usOf kd) 98 W hlen; rw [us_bit hu 98 2 (by decide +kernel)] at h1; exact h1)
  have H_hs : Hid (∀ W, Calls Tryd.prog 24 #[.string ⟨(usOf kd).toArray⟩, .int .u8 115] W fun e w' => e = .returned (.bool (ut (usedT kd) 4)) ∧ W = w') := hide (fun W => by have h1 := rhasc_any (usOf kd) 115 W hlen; rw [us_bit hu 115 4 (by decide +kernel)] at h1; exact h1)
  have H_hl : Hid (∀ W, Calls Tryd.prog 24 #[.string ⟨(usOf kd).toArray⟩, .int .u8 108] W fun e w' => e = .returned (.bool (ut (usedT kd) 16)) ∧ W = w') := hide (fun W => by have h1 := rhasc_any (usOf kd) 108 W hlen; rw [us_bit hu 108 16 (by decide +kernel)] at h1; exact h1)
  have H_ht : Hid (∀ W, Calls Tryd.prog 24 #[.string ⟨(usOf kd).toArray⟩, .int .u8 116] W fun e w' => e = .returned (.bool (ut (usedT kd) 32)) ∧ W = w') := hide (fun W => by have h1 := rhasc_any (usOf kd) 116 W hlen; rw [us_bit hu 116 32 (by decide +kernel)] at h1; exact h1)
  have H_hv : Hid (∀ W, Calls Tryd.prog 24 #[.string ⟨(usOf kd).toArray⟩, .int .u8 118] W fun e w' => e = .returned (.bool (ut (usedT kd) 64)) ∧ W = w') := hide (fun W => by have h1 := rhasc_any (usOf kd) 118 W hlen; rw [us_bit hu 118 64 (by decide +kernel)] at h1; exact h1)
  have H_ho : Hid (∀ W, Calls Tryd.prog 24 #[.string ⟨(usOf kd).toArray⟩, .int .u8 111] W fun e w' => e = .returned (.bool (ut (usedT kd) 128)) ∧ W = w') := hide (fun W => by have h1 := rhasc_any (usOf kd) 111 W hlen; rw [us_bit hu 111 128 (by decide +kernel)] at h1; exact h1)
  have H_hc : Hid (∀ W, Calls Tryd.prog 24 #[.string ⟨(usOf kd).toArray⟩, .int .u8 99] W fun e w' => e = .returned (.bool (ut (usedT kd) 256)) ∧ W = w') := hide (fun W => by have h1 := rhasc_any (usOf kd) 99 W hlen; rw [us_bit hu 99 256 (by decide +kernel)] at h1; exact h1)
  have H_hr : Hid (∀ W, Calls Tryd.prog 24 #[.string ⟨(usOf kd).toArray⟩, .int .u8 114] W fun e w' => e = .returned (.bool (ut (usedT kd) 512)) ∧ W = w') := hide (fun W => by have h1 := rhasc_any (usOf kd) 114 W hlen; rw [us_bit hu 114 512 (by decide +kernel)] at h1; exact h1)
  have H_hd : Hid (∀ W, Calls Tryd.prog 24 #[.string ⟨(usOf kd).toArray⟩, .int .u8 100] W fun e w' => e = .returned (.bool (ut (usedT kd) 1024)) ∧ W = w') := hide (fun W => by have h1 := rhasc_any (usOf kd) 100 W hlen; rw [us_bit hu 100 1024 (by decide +kernel)] at h1; exact h1)
  have H_us : Hid (∀ W, Calls Tryd.prog 20 #[.int .i64 kd] W fun e w' => e = .returned (.string ⟨(usOf kd).toArray⟩) ∧ Below W.heap.size W w') := hide (fun W => ruses_any kd W)
  generalize usOf kd = us at *
  generalize usedT kd = u at *
  have H0 := hide h
  have HA := hide ha
  have HB := hide hb
  have HC := hide hc
  have HD := hide hd
  have HE := hide he
  have HV := hide hv
  have HN := hide hn
  have HO := hide ho
  have HM := hide hm
  have HR := hide hr
  have HY := hide hy
  have HM64 : Hid (M ≤ 64) := hide (by have := cN_le (ut u 128) qv.s; rw [hn] at this; exact this)
  clear h ha hb hc hd he hv hn ho hm hr hy hlen hu
  go_enter Tryd.func47, Tryd.ntmps47
  go_upto_region 1 with fail
  have T : RQ w B s A n c (mz kd fr tt ep) ((((w.alloc (.cells #[.slice A n c, .int .i64 (s.2 : Int)] 89)).alloc (.cells (mz kd fr tt ep).cells 37)).alloc (.cells #[.slice none 0 0, .int .i64 0] 89)).alloc (.cells #[.int .i64 0, .int .i64 0, .int .i64 0, .int .i64 0, .int .i64 0, .int .i64 0, .int .i64 0, .int .i64 0, .int .i64 0, .int .i64 0, .slice none 0 0, .slice none 0 0, .slice none 0 0, .int .i64 0, .int .i64 0, .int .i64 0, .int .i64 0, .int .i64 0, .int .i64 0, .int .i64 0, .int .i64 0, .int .i64 0, .int .i64 0, .int .i64 0, .slice none 0 0] 37)) := by
    have hbl : Below w.heap.size w ((((w.alloc (.cells #[.slice A n c, .int .i64 (s.2 : Int)] 89)).alloc (.cells (mz kd fr tt ep).cells 37)).alloc (.cells #[.slice none 0 0, .int .i64 0] 89)).alloc (.cells #[.int .i64 0, .int .i64 0, .int .i64 0, .int .i64 0, .int .i64 0, .int .i64 0, .int .i64 0, .int .i64 0, .int .i64 0, .int .i64 0, .slice none 0 0, .slice none 0 0, .slice none 0 0, .int .i64 0, .int .i64 0, .int .i64 0, .int .i64 0, .int .i64 0, .int .i64 0, .int .i64 0, .int .i64 0, .int .i64 0, .int .i64 0, .int .i64 0, .slice none 0 0] 37)) := by go_grown
    refine ⟨?_, ?_, ?_, ?_, fun e => (H0.out e).below (hbl.mono hB), isM_mz _ _ _ _ _ _, fun k hk => absurd hk (reach_mz _ _ _ _ k), hbl, hB⟩
    · exact (Below.heap_alloc _ _ _ (by simp <;> omega)).trans ((Below.heap_alloc _ _ _ (by simp <;> omega)).trans ((Below.heap_alloc _ _ _ (by simp)).trans (heap_alloc_new w _)))
    · refine (Below.heap_alloc _ _ _ (by simp <;> omega)).trans ((Below.heap_alloc _ _ _ (by simp)).trans ?_)
      have := heap_alloc_new (w.alloc (.cells #[.slice A n c, .int .i64 (s.2 : Int)] 89)) (.cells (mz kd fr tt ep).cells 37)
      simpa using this
    · refine (Below.heap_alloc _ _ _ (by simp)).trans ?_
      have := heap_alloc_new ((w.alloc (.cells #[.slice A n c, .int .i64 (s.2 : Int)] 89)).alloc (.cells (mz kd fr tt ep).cells 37)) (.cells #[.slice none 0 0, .int .i64 0] 89)
      simpa using this
    · have := heap_alloc_new (((w.alloc (.cells #[.slice A n c, .int .i64 (s.2 : Int)] 89)).alloc (.cells (mz kd fr tt ep).cells 37)).alloc (.cells #[.slice none 0 0, .int .i64 0] 89)) (.cells #[.int .i64 0, .int .i64 0, .int .i64 0, .int .i64 0, .int .i64 0, .int .i64 0, .int .i64 0, .int .i64 0, .int .i64 0, .int .i64 0, .slice none 0 0, .slice none 0 0, .slice none 0 0, .int .i64 0, .int .i64 0, .int .i64 0, .int .i64 0, .int .i64 0, .int .i64 0, .int .i64 0, .int .i64 0, .int .i64 0, .int .i64 0, .int .i64 0, .slice none 0 0] 37)
      simp only [size_alloc3] at this
      exact this
  generalize (((w.alloc (.cells #[.slice A n c, .int .i64 (s.2 : Int)] 89)).alloc (.cells (mz kd fr tt ep).cells 37)).alloc (.cells #[.slice none 0 0, .int .i64 0] 89)).alloc (.cells #[.int .i64 0, .int .i64 0, .int .i64 0, .int .i64 0, .int .i64 0, .int .i64 0, .int .i64 0, .int .i64 0, .int .i64 0, .int .i64 0, .slice none 0 0, .slice none 0 0, .slice none 0 0, .int .i64 0, .int .i64 0, .int .i64 0, .int .i64 0, .int .i64 0, .int .i64 0, .int .i64 0, .int .i64 0, .int .i64 0, .int .i64 0, .int .i64 0, .slice none 0 0] 37) = w0 at *
  have HL0 : Hid ((mz kd fr tt ep).lg = (⟨kd, fr, tt, ep, 0, 0, 0, 0, 0, 0, [], [], [], zeroC, 0, 0, 0, []⟩ : Msgl)) := hide rfl
  have HV0 : Hid (NV (mz kd fr tt ep)) := hide ⟨rfl, rfl, rfl, rfl, rfl⟩
  have k0 := (row_cells T.mb 0).1
  simp only [mz, Msgv.cells, List.getElem?_toArray, List.getElem?_cons_succ, List.getElem?_cons_zero] at k0
  generalize mz kd fr tt ep = m at *
  clear H0
  go_wp2_with fail
  refine (H_us.out _).mono ?_
  rintro e w1 ⟨rfl, b1⟩
  have T1 := T.below b1
  clear T b1 k0 H_us
  go_wp2_with fail
  refine (H_hb.out _).mono ?_
  rintro e _ ⟨rfl, rfl⟩
  clear H_hb
  go_upto_if 17 with fail
  go_cut [] (fun wx => ∃ A n c m, RQ w B qb.2 A n c m wx ∧ Hid (m.lg = (⟨kd, fr, tt, ep, qa.1, qb.1, 0, 0, 0, 0, [], [], [], zeroC, 0, 0, 0, []⟩ : Msgl)) ∧ Hid (NV m))
  case first => as_aux_lemma =>
    by_cases t : ut u 2 = true
    · rw [t]
      obtain ⟨x1, s1, e1, rfl⟩ := oN_q HA.out t
      obtain ⟨x2, s2, e2, rfl⟩ := oN_q HB.out t
      have E1 := hide e1
      have E2 : Hid (rc P50 s1 = (x2, s2)) := hide e2
      clear e1 e2
      obtain ⟨p0, p1, p2, p3⟩ := two_cells T1.box
      go_wp2_with fail
      refine (rrnum_any _ _ _ B s _ T1.left (by have := T1.hB; have := lt_of_block T1.box; omega)).mono ?_
      rw [E1.out]
      rintro e w2 ⟨A2, n2, c2, rfl, hL2, b2⟩
      simp only at hL2 ⊢
      have T2 := T1.below b2
      have T3 := T2.row hL2.out
      have hone : (#[.slice A2 n2 c2, .int .i64 (s1.2 : Int)] : Array Value).all (·.oneCell') = true := by simp [Value.oneCell']
      obtain ⟨kc4, kf4⟩ := row_cells T3.mb 4
      simp only [Msgv.cells, List.getElem?_toArray, List.getElem?_cons_succ, List.getElem?_cons_zero] at kc4
      clear p0 p1 p2 p3 b2 T1 hL2
      go_upto_region 4 with (refine wpList_store_row rfl 89 _ _ rfl w.heap.size #[.slice A2 n2 c2, .int .i64 (s1.2 : Int)] rfl rfl _ _ T2.box (by kernel_rfl) rfl hone ?_; generalize w2.setRow w.heap.size #[.slice A2 n2 c2, .int .i64 (s1.2 : Int)] = w3 at *)
      have T4 := T3.br x1
      generalize w3.setCell ⟨w.heap.size + 1, 4, none⟩ (.int .i64 (x1 : Int)) = w4 at *
      clear T2 T3 kc4 kf4 hone
      obtain ⟨p0, p1, p2, p3⟩ := two_cells T4.box
      go_wp2_with fail
      refine (rrnum_any _ _ _ B s1 _ T4.left (by have := T4.hB; have := lt_of_block T4.box; omega)).mono ?_
      rw [E2.out]
      rintro e w2 ⟨A2, n2, c2, rfl, hL2, b2⟩
      simp only at hL2 ⊢
      have T2 := T4.below b2
      have T3 := T2.row hL2.out
      have hone : (#[.slice A2 n2 c2, .int .i64 (s2.2 : Int)] : Array Value).all (·.oneCell') = true := by simp [Value.oneCell']
      obtain ⟨kc5, kf5⟩ := row_cells T3.mb 5
      simp only [Msgv.cells, List.getElem?_toArray, List.getElem?_cons_succ, List.getElem?_cons_zero] at kc5
      clear p0 p1 p2 p3 b2 T4 hL2
      go_wp2_with (refine wpList_store_row rfl 89 _ _ rfl w.heap.size #[.slice A2 n2 c2, .int .i64 (s2.2 : Int)] rfl rfl _ _ T2.box (by kernel_rfl) rfl hone ?_; generalize w2.setRow w.heap.size #[.slice A2 n2 c2, .int .i64 (s2.2 : Int)] = w3 at *)
      go_meet
      exact ⟨_, _, _, _, T3.bn x2, hide (congrArg (fun x : Msgl => { x with br := (x1 : Int), bn := (x2 : Int) }) HL0.out), HV0⟩
    · have t' : ut u 2 = false := by simpa using t
      rw [t']
      have h1 := oN_f HA.out t'
      have h2 := oN_f HB.out t'
      rw [h1] at h2
      go_wp2_with fail
      go_meet
      exact ⟨_, _, _, _, by rw [h2]; exact T1, hide (by rw [h1, h2]; exact HL0.out), HV0⟩
  clear T1 HL0 HV0
  obtain ⟨A1, n1, c1, m1, T, HL, HNV⟩ := hcut
  generalize wc = w1 at *
  go_wp2_with fail
  refine (H_hs.out _).mono ?_
  rintro e _ ⟨rfl, rfl⟩
  clear H_hs
  go_upto_if 33 with fail
  go_cut [] (fun wx => ∃ A n c m, RQ w B qc.2 A n c m wx ∧ Hid (m.lg = (⟨kd, fr, tt, ep, qa.1, qb.1, qc.1, 0, 0, 0, [], [], [], zeroC, 0, 0, 0, []⟩ : Msgl)) ∧ Hid (NV m))
  case first => as_aux_lemma =>
    by_cases t : ut u 4 = true
    · rw [t]
      obtain ⟨x1, s1, e1, rfl⟩ := oN_q HC.out t
      have E1 := hide e1
      clear e1
      obtain ⟨p0, p1, p2, p3⟩ := two_cells T.box
      go_wp2_with fail
      refine (rrnum_any _ _ _ B qb.2 _ T.left (by have := T.hB; have := lt_of_block T.box; omega)).mono ?_
      rw [E1.out]
      rintro e w2 ⟨A2, n2, c2, rfl, hL2, b2⟩
      simp only at hL2 ⊢
      have T2 := T.below b2
      have T3 := T2.row hL2.out
      have hone : (#[.slice A2 n2 c2, .int .i64 (s1.2 : Int)] : Array Value).all (·.oneCell') = true := by simp [Value.oneCell']
      obtain ⟨kc6, kf6⟩ := row_cells T3.mb 6
      simp only [Msgv.cells, List.getElem?_toArray, List.getElem?_cons_succ, List.getElem?_cons_zero] at kc6
      clear p0 p1 p2 p3 b2 T hL2
      go_wp2_with (refine wpList_store_row rfl 89 _ _ rfl w.heap.size #[.slice A2 n2 c2, .int .i64 (s1.2 : Int)] rfl rfl _ _ T2.box (by kernel_rfl) rfl hone ?_; generalize w2.setRow w.heap.size #[.slice A2 n2 c2, .int .i64 (s1.2 : Int)] = w3 at *)
      go_meet
      exact ⟨_, _, _, _, T3.sl x1, hide (congrArg (fun x : Msgl => { x with sl := (x1 : Int) }) HL.out), HNV⟩
    · have t' : ut u 4 = false := by simpa using t
      rw [t']
      have h1 := oN_f HC.out t'
      go_wp2_with fail
      go_meet
      exact ⟨_, _, _, _, by rw [h1]; exact T, hide (by rw [h1]; exact HL.out), HNV⟩
  clear T HL HNV
  obtain ⟨A1, n1, c1, m1, T, HL, HNV⟩ := hcut
  generalize wc = w1 at *
  go_wp2_with fail
  refine (H_hl.out _).mono ?_
  rintro e _ ⟨rfl, rfl⟩
  clear H_hl
  go_upto_if 41 with fail
  go_cut [] (fun wx => ∃ A n c m, RQ w B qd.2 A n c m wx ∧ Hid (m.lg = (⟨kd, fr, tt, ep, qa.1, qb.1, qc.1, qd.1, 0, 0, [], [], [], zeroC, 0, 0, 0, []⟩ : Msgl)) ∧ Hid (NV m))
  case first => as_aux_lemma =>
    by_cases t : ut u 16 = true
    · rw [t]
      obtain ⟨x1, s1, e1, rfl⟩ := oN_q HD.out t
      have E1 := hide e1
      clear e1
      obtain ⟨p0, p1, p2, p3⟩ := two_cells T.box
      go_wp2_with fail
      refine (rrnum_any _ _ _ B qc.2 _ T.left (by have := T.hB; have := lt_of_block T.box; omega)).mono ?_
      rw [E1.out]
      rintro e w2 ⟨A2, n2, c2, rfl, hL2, b2⟩
      simp only at hL2 ⊢
      have T2 := T.below b2
      have T3 := T2.row hL2.out
      have hone : (#[.slice A2 n2 c2, .int .i64 (s1.2 : Int)] : Array Value).all (·.oneCell') = true := by simp [Value.oneCell']
      obtain ⟨kc7, kf7⟩ := row_cells T3.mb 7
      simp only [Msgv.cells, List.getElem?_toArray, List.getElem?_cons_succ, List.getElem?_cons_zero] at kc7
      clear p0 p1 p2 p3 b2 T hL2
      go_wp2_with (refine wpList_store_row rfl 89 _ _ rfl w.heap.size #[.slice A2 n2 c2, .int .i64 (s1.2 : Int)] rfl rfl _ _ T2.box (by kernel_rfl) rfl hone ?_; generalize w2.setRow w.heap.size #[.slice A2 n2 c2, .int .i64 (s1.2 : Int)] = w3 at *)
      go_meet
      exact ⟨_, _, _, _, T3.lw x1, hide (congrArg (fun x : Msgl => { x with lw := (x1 : Int) }) HL.out), HNV⟩
    · have t' : ut u 16 = false := by simpa using t
      rw [t']
      have h1 := oN_f HD.out t'
      go_wp2_with fail
      go_meet
      exact ⟨_, _, _, _, by rw [h1]; exact T, hide (by rw [h1]; exact HL.out), HNV⟩
  clear T HL HNV
  obtain ⟨A1, n1, c1, m1, T, HL, HNV⟩ := hcut
  generalize wc = w1 at *
  go_wp2_with fail
  refine (H_ht.out _).mono ?_
  rintro e _ ⟨rfl, rfl⟩
  clear H_ht
  go_upto_if 49 with fail
  go_cut [] (fun wx => ∃ A n c m, RQ w B qe.2 A n c m wx ∧ Hid (m.lg = (⟨kd, fr, tt, ep, qa.1, qb.1, qc.1, qd.1, qe.1, 0, [], [], [], zeroC, 0, 0, 0, []⟩ : Msgl)) ∧ Hid (NV m))
  case first => as_aux_lemma =>
    by_cases t : ut u 32 = true
    · rw [t]
      obtain ⟨x1, s1, e1, rfl⟩ := oN_q HE.out t
      have E1 := hide e1
      clear e1
      obtain ⟨p0, p1, p2, p3⟩ := two_cells T.box
      go_wp2_with fail
      refine (rrnum_any _ _ _ B qd.2 _ T.left (by have := T.hB; have := lt_of_block T.box; omega)).mono ?_
      rw [E1.out]
      rintro e w2 ⟨A2, n2, c2, rfl, hL2, b2⟩
      simp only at hL2 ⊢
      have T2 := T.below b2
      have T3 := T2.row hL2.out
      have hone : (#[.slice A2 n2 c2, .int .i64 (s1.2 : Int)] : Array Value).all (·.oneCell') = true := by simp [Value.oneCell']
      obtain ⟨kc8, kf8⟩ := row_cells T3.mb 8
      simp only [Msgv.cells, List.getElem?_toArray, List.getElem?_cons_succ, List.getElem?_cons_zero] at kc8
      clear p0 p1 p2 p3 b2 T hL2
      go_wp2_with (refine wpList_store_row rfl 89 _ _ rfl w.heap.size #[.slice A2 n2 c2, .int .i64 (s1.2 : Int)] rfl rfl _ _ T2.box (by kernel_rfl) rfl hone ?_; generalize w2.setRow w.heap.size #[.slice A2 n2 c2, .int .i64 (s1.2 : Int)] = w3 at *)
      go_meet
      exact ⟨_, _, _, _, T3.tm x1, hide (congrArg (fun x : Msgl => { x with tm := (x1 : Int) }) HL.out), HNV⟩
    · have t' : ut u 32 = false := by simpa using t
      rw [t']
      have h1 := oN_f HE.out t'
      go_wp2_with fail
      go_meet
      exact ⟨_, _, _, _, by rw [h1]; exact T, hide (by rw [h1]; exact HL.out), HNV⟩
  clear T HL HNV
  obtain ⟨A1, n1, c1, m1, T, HL, HNV⟩ := hcut
  generalize wc = w1 at *
  go_wp2_with fail
  refine (H_hv.out _).mono ?_
  rintro e _ ⟨rfl, rfl⟩
  clear H_hv
  go_upto_if 57 with fail
  go_cut [] (fun wx => ∃ A n c m, RQ w B qv.s A n c m wx ∧ Hid (m.lg = (⟨kd, fr, tt, ep, qa.1, qb.1, qc.1, qd.1, qe.1, (qv.k : Int), qv.cs, qv.ns, [], zeroC, 0, 0, 0, []⟩ : Msgl)) ∧ Hid (NV m))
  case first => as_aux_lemma =>
    by_cases t : ut u 64 = true
    · rw [t]
      have E1 : Hid (rdV qe.2 = qv) := hide (by have := HV.out; rw [t] at this; exact this)
      obtain ⟨l8, l7, lc⟩ := rdV_lens qe.2
      have hr := rvtake_any _ _ _ B qe.2 _ T.left (by have := T.hB; have := lt_of_block T.box; omega)
      obtain ⟨p0, p1, p2, p3⟩ := two_cells T.box
      rw [E1.out] at hr l8 l7 lc
      have HR1 := hide hr
      clear hr
      go_wp2_with fail
      refine HR1.out.mono ?_
      rintro e w2 ⟨A2, n2, c2, Av, nv, cv, D, md, dd, rfl, hL2, hoc, hoi, b2⟩
      have T2 := T.below b2
      have T3 := T2.row hL2.out
      have hzT := T2.sz
      have hzT1 := T.sz
      have hlw : w.heap.size < w1.heap.size := lt_of_block T.box
      have hk3 := Kept.of_setRow w2 w.heap.size #[.slice A2 n2 c2, .int .i64 (qv.s.2 : Int)]
      have hoc3 := hoc.keep fun k hk => hk3.block k ((hoc.lt k hk).2) (by have := (hoc.lt k hk).1; omega)
      have hoi3 := hoi.keep fun k hk => hk3.block k ((hoi.lt k hk).2) (by have := (hoi.lt k hk).1; omega)
      have hone : (#[.slice A2 n2 c2, .int .i64 (qv.s.2 : Int)] : Array Value).all (·.oneCell') = true := by simp [Value.oneCell']
      obtain ⟨kc9, kf9⟩ := row_cells T3.mb 9
      obtain ⟨kc10, kf10⟩ := row_cells T3.mb 10
      obtain ⟨kc11, kf11⟩ := row_cells T3.mb 11
      simp only [Msgv.cells, List.getElem?_toArray, List.getElem?_cons_succ, List.getElem?_cons_zero] at kc9 kc10 kc11
      clear p0 p1 p2 p3 b2 T hL2 HR1 hoc hoi hk3
      go_wp2_with (refine wpList_store_row rfl 89 _ _ rfl w.heap.size #[.slice A2 n2 c2, .int .i64 (qv.s.2 : Int)] rfl rfl _ _ T2.box (by kernel_rfl) rfl hone ?_; generalize w2.setRow w.heap.size #[.slice A2 n2 c2, .int .i64 (qv.s.2 : Int)] = w3 at *)
      obtain ⟨_, _, _, ev1, lx1, _, g1⟩ := hoc3.form
      obtain ⟨_, _, _, ev2, lx2, _, g2⟩ := hoi3.form
      injection ev1 with e11 e12 e13
      injection ev2 with e21 e22 e23
      subst e11 e12 e13 e21 e22 e23
      have hx1 := lx1.out
      have hx2 := lx2.out
      have IV3 : IsV w3 w3.heap.size Av nv D md qv.cs qv.ns := ⟨g1, g2, hx1, hx2, by omega, by omega, lc⟩
      go_meet
      exact ⟨_, _, _, _, T3.val ⟨qv.k, Av, nv, cv, D, md, dd, qv.cs, qv.ns⟩ IV3 (fun k hk => by
        rcases hk with ⟨o, e⟩ | ⟨o, e⟩
        · have := hoc3.lt k (own_block e); omega
        · have := hoi3.lt k (own_block e); omega), hide (congrArg (fun x : Msgl => { x with k := (qv.k : Int), cs := qv.cs, ns := qv.ns }) HL.out), HNV⟩
    · have t' : ut u 64 = false := by simpa using t
      rw [t']
      have h1 := oV_f HV.out t'
      go_wp2_with fail
      go_meet
      exact ⟨_, _, _, _, by rw [h1]; exact T, hide (by rw [h1]; exact HL.out), HNV⟩
  clear T HL HNV
  obtain ⟨A1, n1, c1, m1, T, HL, HNV⟩ := hcut
  generalize wc = w1 at *
  go_wp2_with fail
  refine (H_ho.out _).mono ?_
  rintro e _ ⟨rfl, rfl⟩
  clear H_ho
  go_upto_if 65 with fail
  go_cut [7] (fun x wx => ∃ A n c m, x = .int .i64 (M : Int) ∧ RQ w B s6 A n c m wx ∧ Hid (m.lg = (⟨kd, fr, tt, ep, qa.1, qb.1, qc.1, qd.1, qe.1, (qv.k : Int), qv.cs, qv.ns, [], zeroC, 0, 0, 0, []⟩ : Msgl)) ∧ Hid (NV m))
  case first => as_aux_lemma =>
    by_cases t : ut u 128 = true
    · rw [t]
      have E1 : Hid (rc 64 qv.s = (M, s6)) := hide (by have := HN.out; rw [t] at this; exact this)
      obtain ⟨p0, p1, p2, p3⟩ := two_cells T.box
      go_wp2_with fail
      refine (rcount_ref _ _ _ B qv.s 64 _ T.left (by have := T.hB; have := lt_of_block T.box; omega) (isInt_lit (by omega))).mono ?_
      rw [E1.out]
      rintro e w2 ⟨A2, n2, c2, rfl, hL2, b2⟩
      simp only at hL2 ⊢
      have T2 := T.below b2
      have T3 := T2.row hL2.out
      have hone : (#[.slice A2 n2 c2, .int .i64 (s6.2 : Int)] : Array Value).all (·.oneCell') = true := by simp [Value.oneCell']
      clear p0 p1 p2 p3 b2 T hL2
      go_wp2_with (refine wpList_store_row rfl 89 _ _ rfl w.heap.size #[.slice A2 n2 c2, .int .i64 (s6.2 : Int)] rfl rfl _ _ T2.box (by kernel_rfl) rfl hone ?_; generalize w2.setRow w.heap.size #[.slice A2 n2 c2, .int .i64 (s6.2 : Int)] = w3 at *)
      go_meet
      exact ⟨_, _, _, _, rfl, T3, HL, HNV⟩
    · have t' : ut u 128 = false := by simpa using t
      rw [t']
      have E1 : (0, qv.s) = (M, s6) := by have := HN.out; rw [t'] at this; exact this
      injection E1 with e1 e2
      go_wp2_with fail
      go_meet
      exact ⟨_, _, _, _, by rw [← e1]; rfl, by rw [← e2]; exact T, HL, HNV⟩
  clear T HL HNV
  obtain ⟨A1, n1, c1, m1, rfl, T, HL, HNV⟩ := hcut
  generalize wc = w1 at *
  have V0 : VtGo w (w.heap.size + 4) (.slice m1.VA m1.vn m1.vc) [] m1.vs w1 := by
    obtain ⟨h1, h2, h3, h4, h5⟩ := HNV.out
    rw [h1, h2, h3, h4]
    exact ⟨rfl, OwnVt.nil _ _, by simp, by simp⟩
  have N0 : Hid (∀ k, ReachV m1.v k → (Value.slice m1.VA m1.vn m1.vc).ownBlock ≠ some k) := hide (fun k hk e => by rw [HNV.out.1] at e; cases e)
  have D0 : Hid (m1.ds = []) := hide HNV.out.2.2.2.2
  have HVT0 := hide V0
  clear HNV V0
  go_wp2_with fail
  go_loopw [8] (fun i wr => ∃ (j : Nat) (A : Option Addr) (n c : Nat) (m : Msgv), j ≤ M ∧ i = .int .i64 j ∧ RQ w B (rdVts j s6).2 A n c m wr ∧ Hid (m.lg = (⟨kd, fr, tt, ep, qa.1, qb.1, qc.1, qd.1, qe.1, (qv.k : Int), qv.cs, qv.ns, (rdVts j s6).1, zeroC, 0, 0, 0, []⟩ : Msgl)) ∧ Hid (VtGo w (w.heap.size + 4) (.slice m.VA m.vn m.vc) (rdVts j s6).1 m.vs wr) ∧ Hid (∀ k, ReachV m.v k → (Value.slice m.VA m.vn m.vc).ownBlock ≠ some k) ∧ Hid (m.ds = [])) (fun i _ => M - (intOf i).toNat)
  case atStart => exact ⟨0, _, _, _, m1, Nat.zero_le _, rfl, T, HL, HVT0, N0, D0⟩
  case round =>
    clear T HL HVT0 N0 D0
    obtain ⟨j, A1, n1, c1, m1, hj, rfl, T, HL, HVT, HNE, HDS⟩ := hrel
    have hM := HM64.out
    by_cases hlt : j < M
    · have hst : rdVts (j + 1) s6 = ((rdVts j s6).1 ++ [(rdVt (rdVts j s6).2).1], (rdVt (rdVts j s6).2).2) := rfl
      have hlen := rdVts_len j s6
      have HST := hide hst
      clear hst
      generalize rdVts j s6 = q at *
      obtain ⟨xs, st⟩ := q
      simp only at hlen T HVT HST HL
      have E0 : ∃ x1 s1 x2 s2 x3 s3 V, rc P50 st = (x1, s1) ∧ rc P50 s1 = (x2, s2) ∧ rc P50 s2 = (x3, s3) ∧ rdV s3 = V ∧ rdVt st = (⟨(x1 : Int), (x2 : Int), (x3 : Int), (V.k : Int), V.cs, V.ns⟩, V.s) := ⟨_, _, _, _, _, _, _, rfl, rfl, rfl, rfl, rfl⟩
      obtain ⟨x1, s1, x2, s2, x3, s3, V, e1, e2, e3, e4, e5⟩ := E0
      have HS' : Hid (rdVts (j + 1) s6 = (xs ++ [⟨(x1 : Int), (x2 : Int), (x3 : Int), (V.k : Int), V.cs, V.ns⟩], V.s)) := hide (by rw [HST.out, e5])
      have F1 := hide e1
      have F2 := hide e2
      have F3 := hide e3
      have E1 := hide e4
      have hvl : m1.vs.length = j := by have h2 := congrArg List.length HVT.out.eq; rw [List.length_map] at h2; omega
      clear e1 e2 e3 e4 e5 HST
      go_upto_region 20 with fail
      have hvb := heap_alloc_new wr (.cells #[.int .i64 0, .int .i64 0, .int .i64 0, .int .i64 0, .slice none 0 0, .slice none 0 0] 54)
      have ba := (Below.refl _ wr).alloc (Nat.le_refl _) (.cells #[.int .i64 0, .int .i64 0, .int .i64 0, .int .i64 0, .slice none 0 0, .slice none 0 0] 54)
      have hz0 := T.sz
      have hBw := T.hB
      have Q0 : VQ w B wr st A1 n1 c1 #[.int .i64 0, .int .i64 0, .int .i64 0, .int .i64 0, .slice none 0 0, .slice none 0 0] (wr.alloc (.cells #[.int .i64 0, .int .i64 0, .int .i64 0, .int .i64 0, .slice none 0 0, .slice none 0 0] 54)) := ⟨(ba.block _ (by omega)).trans T.box, hvb, fun e => (T.left e).below (ba.mono (by omega)), Kept.of_below ba, T.sz, T.hB⟩
      generalize wr.alloc (.cells #[.int .i64 0, .int .i64 0, .int .i64 0, .int .i64 0, .slice none 0 0, .slice none 0 0] 54) = w0 at *
      clear hvb ba
      obtain ⟨p0, p1, p2, p3⟩ := two_cells Q0.box
      go_wp2_with fail
      refine (rrnum_any _ _ _ B st _ Q0.left (by have := Q0.hB; have := lt_of_block Q0.box; omega)).mono ?_
      rw [F1.out]
      rintro e w2 ⟨A2, n2, c2, rfl, hL2, b2⟩
      simp only at hL2 ⊢
      have T2 := Q0.below b2
      have T3 := T2.row hL2.out
      have hone : (#[.slice A2 n2 c2, .int .i64 (s1.2 : Int)] : Array Value).all (·.oneCell') = true := by simp [Value.oneCell']
      obtain ⟨kc0, kf0⟩ := row_cells T3.vb 0
      simp only [List.getElem?_toArray, List.getElem?_cons_succ, List.getElem?_cons_zero] at kc0
      clear p0 p1 p2 p3 b2 Q0 hL2
      go_upto_region 21 with (refine wpList_store_row rfl 89 _ _ rfl w.heap.size #[.slice A2 n2 c2, .int .i64 (s1.2 : Int)] rfl rfl _ _ T2.box (by kernel_rfl) rfl hone ?_; generalize w2.setRow w.heap.size #[.slice A2 n2 c2, .int .i64 (s1.2 : Int)] = w3 at *)
      have Q1 := T3.put (ro' := #[.int .i64 (x1 : Int), .int .i64 0, .int .i64 0, .int .i64 0, .slice none 0 0, .slice none 0 0]) (keptC w3 _ 0 (.int .i64 (x1 : Int))) (by simp [World.setCell, Array.getElem?_modify, T3.vb])
      generalize w3.setCell ⟨wr.heap.size, 0, none⟩ (.int .i64 (x1 : Int)) = w4 at *
      clear T2 T3 kc0 kf0 hone
      obtain ⟨p0, p1, p2, p3⟩ := two_cells Q1.box
      go_wp2_with fail
      refine (rrnum_any _ _ _ B s1 _ Q1.left (by have := Q1.hB; have := lt_of_block Q1.box; omega)).mono ?_
      rw [F2.out]
      rintro e w2 ⟨A2, n2, c2, rfl, hL2, b2⟩
      simp only at hL2 ⊢
      have T2 := Q1.below b2
      have T3 := T2.row hL2.out
      have hone : (#[.slice A2 n2 c2, .int .i64 (s2.2 : Int)] : Array Value).all (·.oneCell') = true := by simp [Value.oneCell']
      obtain ⟨kc1, kf1⟩ := row_cells T3.vb 1
      simp only [List.getElem?_toArray, List.getElem?_cons_succ, List.getElem?_cons_zero] at kc1
      clear p0 p1 p2 p3 b2 Q1 hL2
      go_upto_region 22 with (refine wpList_store_row rfl 89 _ _ rfl w.heap.size #[.slice A2 n2 c2, .int .i64 (s2.2 : Int)] rfl rfl _ _ T2.box (by kernel_rfl) rfl hone ?_; generalize w2.setRow w.heap.size #[.slice A2 n2 c2, .int .i64 (s2.2 : Int)] = w3 at *)
      have Q2 := T3.put (ro' := #[.int .i64 (x1 : Int), .int .i64 (x2 : Int), .int .i64 0, .int .i64 0, .slice none 0 0, .slice none 0 0]) (keptC w3 _ 1 (.int .i64 (x2 : Int))) (by simp [World.setCell, Array.getElem?_modify, T3.vb])
      generalize w3.setCell ⟨wr.heap.size, 1, none⟩ (.int .i64 (x2 : Int)) = w5 at *
      clear T2 T3 kc1 kf1 hone
      obtain ⟨p0, p1, p2, p3⟩ := two_cells Q2.box
      go_wp2_with fail
      refine (rrnum_any _ _ _ B s2 _ Q2.left (by have := Q2.hB; have := lt_of_block Q2.box; omega)).mono ?_
      rw [F3.out]
      rintro e w2 ⟨A2, n2, c2, rfl, hL2, b2⟩
      simp only at hL2 ⊢
      have T2 := Q2.below b2
      have T3 := T2.row hL2.out
      have hone : (#[.slice A2 n2 c2, .int .i64 (s3.2 : Int)] : Array Value).all (·.oneCell') = true := by simp [Value.oneCell']
      obtain ⟨kc2, kf2⟩ := row_cells T3.vb 2
      simp only [List.getElem?_toArray, List.getElem?_cons_succ, List.getElem?_cons_zero] at kc2
      clear p0 p1 p2 p3 b2 Q2 hL2
      go_upto_region 23 with (refine wpList_store_row rfl 89 _ _ rfl w.heap.size #[.slice A2 n2 c2, .int .i64 (s3.2 : Int)] rfl rfl _ _ T2.box (by kernel_rfl) rfl hone ?_; generalize w2.setRow w.heap.size #[.slice A2 n2 c2, .int .i64 (s3.2 : Int)] = w3 at *)
      have Q3 := T3.put (ro' := #[.int .i64 (x1 : Int), .int .i64 (x2 : Int), .int .i64 (x3 : Int), .int .i64 0, .slice none 0 0, .slice none 0 0]) (keptC w3 _ 2 (.int .i64 (x3 : Int))) (by simp [World.setCell, Array.getElem?_modify, T3.vb])
      generalize w3.setCell ⟨wr.heap.size, 2, none⟩ (.int .i64 (x3 : Int)) = w6 at *
      clear T2 T3 kc2 kf2 hone
      obtain ⟨l8, l7, lc⟩ := rdV_lens s3
      have hr := rvtake_any _ _ _ B s3 _ Q3.left (by have := Q3.hB; have := lt_of_block Q3.box; omega)
      obtain ⟨p0, p1, p2, p3⟩ := two_cells Q3.box
      rw [E1.out] at hr l8 l7 lc
      have HR1 := hide hr
      clear hr
      go_wp2_with fail
      refine HR1.out.mono ?_
      rintro e w2 ⟨A2, n2, c2, Av, nv, cv, D, md, dd, rfl, hL2, hoc, hoi, b2⟩
      have T2 := Q3.below b2
      have T3 := T2.row hL2.out
      have hzT := T2.sz
      have hzT1 := Q3.sz
      have hlw : w.heap.size < w6.heap.size := lt_of_block Q3.box
      have hk3 := Kept.of_setRow w2 w.heap.size #[.slice A2 n2 c2, .int .i64 (V.s.2 : Int)]
      have hoc3 := hoc.keep fun k hk => hk3.block k ((hoc.lt k hk).2) (by have := (hoc.lt k hk).1; omega)
      have hoi3 := hoi.keep fun k hk => hk3.block k ((hoi.lt k hk).2) (by have := (hoi.lt k hk).1; omega)
      have hone : (#[.slice A2 n2 c2, .int .i64 (V.s.2 : Int)] : Array Value).all (·.oneCell') = true := by simp [Value.oneCell']
      obtain ⟨kc3, kf3⟩ := row_cells T3.vb 3
      obtain ⟨kc4, kf4⟩ := row_cells T3.vb 4
      obtain ⟨kc5, kf5⟩ := row_cells T3.vb 5
      simp only [List.getElem?_toArray, List.getElem?_cons_succ, List.getElem?_cons_zero] at kc3 kc4 kc5
      clear p0 p1 p2 p3 b2 Q3 hL2 HR1 hoc hoi hk3
      go_upto_region 24 with (refine wpList_store_row rfl 89 _ _ rfl w.heap.size #[.slice A2 n2 c2, .int .i64 (V.s.2 : Int)] rfl rfl _ _ T2.box (by kernel_rfl) rfl hone ?_; generalize w2.setRow w.heap.size #[.slice A2 n2 c2, .int .i64 (V.s.2 : Int)] = w3 at *)
      obtain ⟨_, _, _, ev1, lx1, _, g1⟩ := hoc3.form
      obtain ⟨_, _, _, ev2, lx2, _, g2⟩ := hoi3.form
      injection ev1 with e11 e12 e13
      injection ev2 with e21 e22 e23
      subst e11 e12 e13 e21 e22 e23
      have hx1 := lx1.out
      have hx2 := lx2.out
      have IV3 : IsV w3 w3.heap.size Av nv D md V.cs V.ns := ⟨g1, g2, hx1, hx2, by omega, by omega, lc⟩
      have hk7 : Kept (fun k => k = wr.heap.size) w3 (((w3.setCell ⟨wr.heap.size, 3, none⟩ (.int .i64 (V.k : Int))).setCell ⟨wr.heap.size, 4, none⟩ (.slice Av nv cv)).setCell ⟨wr.heap.size, 5, none⟩ (.slice D md dd)) := ((keptC w3 wr.heap.size 3 _).setCell (p := ⟨wr.heap.size, 4, none⟩) (.inl rfl) _).setCell (p := ⟨wr.heap.size, 5, none⟩) (.inl rfl) _
      have Q7 := T3.put (ro' := #[.int .i64 (x1 : Int), .int .i64 (x2 : Int), .int .i64 (x3 : Int), .int .i64 (V.k : Int), .slice Av nv cv, .slice D md dd]) hk7 (by simp [World.setCell, Array.getElem?_modify, T3.vb])
      have LV : ∀ k, ReachV ⟨(V.k : Int), Av, nv, cv, D, md, dd, V.cs, V.ns⟩ k → w6.heap.size ≤ k ∧ k < w3.heap.size ∧ Free w3 k := fun k hk => by
        rcases hk with ⟨o, e⟩ | ⟨o, e⟩
        · have := hoc3.lt k (own_block e); exact ⟨by omega, by omega, free_own hoc3 k (own_block e)⟩
        · have := hoi3.lt k (own_block e); exact ⟨by omega, by omega, free_own hoi3 k (own_block e)⟩
      have IV7 := (IV3.keepR (v := ⟨(V.k : Int), Av, nv, cv, D, md, dd, V.cs, V.ns⟩) fun k hr hlt => hk7.block k hlt (by have := (LV k hr).1; omega)).more hk7.size
      have LV7 : ∀ k, ReachV ⟨(V.k : Int), Av, nv, cv, D, md, dd, V.cs, V.ns⟩ k → w6.heap.size ≤ k ∧ k < (((w3.setCell ⟨wr.heap.size, 3, none⟩ (.int .i64 (V.k : Int))).setCell ⟨wr.heap.size, 4, none⟩ (.slice Av nv cv)).setCell ⟨wr.heap.size, 5, none⟩ (.slice D md dd)).heap.size ∧ Free (((w3.setCell ⟨wr.heap.size, 3, none⟩ (.int .i64 (V.k : Int))).setCell ⟨wr.heap.size, 4, none⟩ (.slice Av nv cv)).setCell ⟨wr.heap.size, 5, none⟩ (.slice D md dd)) k := fun k hk => by
        have h := LV k hk
        have := hk7.size
        exact ⟨h.1, by omega, h.2.2.keep (hk7.block k h.2.1 (by omega))⟩
      generalize ((w3.setCell ⟨wr.heap.size, 3, none⟩ (.int .i64 (V.k : Int))).setCell ⟨wr.heap.size, 4, none⟩ (.slice Av nv cv)).setCell ⟨wr.heap.size, 5, none⟩ (.slice D md dd) = w7 at *
      have R7 : RQ w B V.s A2 n2 c2 m1 w7 := T.turn Q7.kp Q7.box Q7.left
      have hv7 := HVT.out.kept Q7.kp (fun k hk => by omega)
      have ba := (Below.refl _ w7).alloc (Nat.le_refl _) (.cells #[.int .i64 (x1 : Int), .int .i64 (x2 : Int), .int .i64 (x3 : Int), .int .i64 (V.k : Int), .slice Av nv cv, .slice D md dd] 54)
      have hp8 := heap_alloc_new w7 (.cells #[.int .i64 (x1 : Int), .int .i64 (x2 : Int), .int .i64 (x3 : Int), .int .i64 (V.k : Int), .slice Av nv cv, .slice D md dd] 54)
      have HR8 := hide (R7.below ba)
      have HV8 := hide (hv7.kept (Kept.of_below (F := fun _ => False) ba) (fun k hk => hk.elim))
      have HI8 := hide ((IV7.below ba).more ba.size)
      have hz7 := Q7.sz
      have HLY : Hid (∀ k, ReachV ⟨(V.k : Int), Av, nv, cv, D, md, dd, V.cs, V.ns⟩ k → w.heap.size + 4 ≤ k ∧ k < (w7.alloc (.cells #[.int .i64 (x1 : Int), .int .i64 (x2 : Int), .int .i64 (x3 : Int), .int .i64 (V.k : Int), .slice Av nv cv, .slice D md dd] 54)).heap.size ∧ (Value.slice m1.VA m1.vn m1.vc).ownBlock ≠ some k ∧ Free (w7.alloc (.cells #[.int .i64 (x1 : Int), .int .i64 (x2 : Int), .int .i64 (x3 : Int), .int .i64 (V.k : Int), .slice Av nv cv, .slice D md dd] 54)) k) := hide (fun k hk => by
        have h := LV7 k hk
        have := ba.size
        refine ⟨by omega, by omega, fun e => ?_, h.2.2.keep (ba.block k h.2.1)⟩
        have := (HVT.out.ow.lt k e).2
        omega)
      have HP7 := hide Q7.vb
      have HP8 := hide hp8
      have c12 := (row_cells R7.mb 12).1
      simp only [Msgv.cells, List.getElem?_toArray, List.getElem?_cons_succ, List.getElem?_cons_zero] at c12
      have HZ8 : Hid (w.heap.size + 4 ≤ (w7.alloc (.cells #[.int .i64 (x1 : Int), .int .i64 (x2 : Int), .int .i64 (x3 : Int), .int .i64 (V.k : Int), .slice Av nv cv, .slice D md dd] 54)).heap.size) := hide (by have := ba.size; omega)
      clear T2 T3 kc3 kf3 kc4 kf4 kc5 kf5 hone Q7 LV LV7 IV7 IV3 hv7 ba hp8 R7 hoc3 hoi3 g1 g2 hk7 lx1 lx2
      go_wp2_with (first
        | (refine wpList_load_row rfl 54 _ rfl wr.heap.size rfl _ _ _ _ HP7.out Tryd.underlying54 rfl (by kernel_rfl) ?_)
        | (at_builtin; refine list_append_vote _ (by rfl) (.tmp 104) (.tmp 106) rfl (w.heap.size + 4) (.slice m1.VA m1.vn m1.vc) m1.vs rfl HV8.out.ow w7.heap.size 1 ⟨(x1 : Int), (x2 : Int), (x3 : Int), ⟨(V.k : Int), Av, nv, cv, D, md, dd, V.cs, V.ns⟩⟩ rfl HP8.out (by omega) HZ8.out ?_; intro v9 w9 ho9 hgr9 hat9; have hv9 := HV8.out.more ⟨(x1 : Int), (x2 : Int), (x3 : Int), ⟨(V.k : Int), Av, nv, cv, D, md, dd, V.cs, V.ns⟩⟩ HI8.out HLY.out ho9 hgr9 hat9; obtain ⟨A9, n9, c9, rfl, hn9, hnc9, hx9⟩ := hv9.ow.form hv9.iv; obtain rfl : n9 = j + 1 := (by rw [← hn9.out, List.length_append, hvl]; rfl); obtain ⟨R9, N9, V9⟩ := HR8.out.vote HNE.out HDS.out HV8.out hgr9 hat9 hv9 (by omega); clear hn9; have hb9 := ((Kept.of_grown (F := fun k => (Value.slice m1.VA m1.vn m1.vc).ownBlock = some k) hgr9 (fun k hk => hk)).block (w.heap.size + 1) (by have := HR8.out.sz; omega) (fun e => by have := (HV8.out.ow.lt _ e).1; omega)).trans HR8.out.mb; obtain ⟨z12, y12⟩ := row_cells hb9 12; simp only [Msgv.cells, List.getElem?_toArray, List.getElem?_cons_succ, List.getElem?_cons_zero] at z12; have HR9 := hide R9; have HN9 := hide N9; have HV9 := hide V9; clear R9 N9 V9 hv9 hx9 hb9 ho9 hgr9 hat9))
      exact ⟨⟨j + 1, A2, n2, c2, { m1 with VA := A9, vn := j + 1, vc := c9, vs := m1.vs ++ [(⟨(x1 : Int), (x2 : Int), (x3 : Int), ⟨(V.k : Int), Av, nv, cv, D, md, dd, V.cs, V.ns⟩⟩ : Votev)] }, by omega, by go_num, by rw [HS'.out]; exact HR9.out, hide (by
        rw [HS'.out]
        have e1 : ({ m1 with VA := A9, vn := j + 1, vc := c9, vs := m1.vs ++ [(⟨(x1 : Int), (x2 : Int), (x3 : Int), ⟨(V.k : Int), Av, nv, cv, D, md, dd, V.cs, V.ns⟩⟩ : Votev)] } : Msgv).lg = { m1.lg with vs := (m1.vs ++ [(⟨(x1 : Int), (x2 : Int), (x3 : Int), ⟨(V.k : Int), Av, nv, cv, D, md, dd, V.cs, V.ns⟩⟩ : Votev)]).map Votev.lg } := rfl
        rw [e1, HL.out, List.map_append, HVT.out.eq]
        rfl), hide (by rw [HS'.out]; exact HV9.out), HN9, HDS⟩, by simp [intOf]; omega⟩
    · obtain rfl : j = M := by omega
      have HLO := HO.out
      rw [HLO] at T
      have HL1 : Hid (m1.lg = (⟨kd, fr, tt, ep, qa.1, qb.1, qc.1, qd.1, qe.1, (qv.k : Int), qv.cs, qv.ns, qo.1, zeroC, 0, 0, 0, []⟩ : Msgl)) := hide (by rw [← HLO]; exact HL.out)
      clear HL HVT HNE HDS HLO hlt hj hM
      generalize wr = w1 at *
      go_wp2_with fail
      refine (H_hc.out _).mono ?_
      rintro e _ ⟨rfl, rfl⟩
      clear H_hc
      go_upto_if 110 with fail
      go_cut [] (fun wx => ∃ A n c m, RQ w B qm.2 A n c m wx ∧ Hid (m.lg = (⟨kd, fr, tt, ep, qa.1, qb.1, qc.1, qd.1, qe.1, (qv.k : Int), qv.cs, qv.ns, qo.1, qm.1, 0, 0, 0, []⟩ : Msgl)))
      case first => as_aux_lemma =>
        by_cases t : ut u 256 = true
        · rw [t]
          have e1 : tk qo.2 = qm := by have := HM.out; rw [t, oC_t] at this; exact this
          have hic : IsCmd qm.1 := by have := oC_isCmd true qo.2; rw [oC_t, e1] at this; exact this
          have htk := rtakecmd_any _ _ _ B qo.2.2 qo.2.1 w1 T.left (by have := T.hB; have := lt_of_block T.box; omega)
          rw [show (qo.2.1, qo.2.2) = qo.2 from rfl, e1] at htk
          clear e1
          obtain ⟨x, st⟩ := qm
          simp only at htk hic
          unfold Cmdv.val at htk
          have HTK := hide htk
          clear htk
          obtain ⟨p0, p1, p2, p3⟩ := two_cells T.box
          go_wp2_with fail
          refine HTK.out.mono ?_
          rintro e w2 ⟨⟨A2, n2, c2, rfl, hL2⟩, b2⟩
          have T2 := T.below b2
          have T3 := T2.row hL2
          have hone : (#[.slice A2 n2 c2, .int .i64 (st.2 : Int)] : Array Value).all (·.oneCell') = true := by simp [Value.oneCell']
          have hth : (w2.setRow w.heap.size #[.slice A2 n2 c2, .int .i64 (st.2 : Int)]).there (w.heap.size + 1) 13 8 := by
            intro i hi
            obtain ⟨e1, e2⟩ := row_cells T3.mb (13 + i)
            refine ⟨?_, e2⟩
            rw [e1]
            match i, hi with
            | 0, _ => rfl
            | 1, _ => rfl
            | 2, _ => rfl
            | 3, _ => rfl
            | 4, _ => rfl
            | 5, _ => rfl
            | 6, _ => rfl
            | 7, _ => rfl
          have hone8 : (#[.int .i64 x.s, .int .i64 x.q, .int .i64 x.a, .int .i64 x.k, .int .i64 x.r, .int .i64 x.t, .int .i64 x.re, .int .i64 x.im] : Array Value).all (·.oneCell') = true := by simp [Value.oneCell']
          have HB2 := hide T2.box
          clear p0 p1 p2 p3 b2 T hL2 HTK T2
          go_wp2_with (first
            | (refine wpList_store_row rfl 89 _ _ rfl w.heap.size #[.slice A2 n2 c2, .int .i64 (st.2 : Int)] rfl rfl _ _ HB2.out (by kernel_rfl) rfl hone ?_; generalize w2.setRow w.heap.size #[.slice A2 n2 c2, .int .i64 (st.2 : Int)] = w3 at *)
            | (refine wpList_store_mid rfl 32 _ _ rfl (w.heap.size + 1) 13 #[.int .i64 x.s, .int .i64 x.q, .int .i64 x.a, .int .i64 x.k, .int .i64 x.r, .int .i64 x.t, .int .i64 x.re, .int .i64 x.im] rfl rfl hth (by kernel_rfl) hone8 ?_))
          go_meet
          exact ⟨_, _, _, _, T3.cmd x hic, hide (congrArg (fun y : Msgl => { y with cm := x }) HL1.out)⟩
        · have t' : ut u 256 = false := by simpa using t
          rw [t']
          have h1 := oC_f HM.out t'
          go_wp2_with fail
          go_meet
          exact ⟨_, _, _, _, by rw [h1]; exact T, hide (by rw [h1]; exact HL1.out)⟩
      clear T HL1
      obtain ⟨A1, n1, c1, m1, T, HL⟩ := hcut
      generalize wc = w1 at *
      go_wp2_with fail
      refine (H_hr.out _).mono ?_
      rintro e _ ⟨rfl, rfl⟩
      clear H_hr
      go_upto_if 118 with fail
      go_cut [] (fun wx => ∃ A n c m, RQ w B qr.s A n c m wx ∧ Hid (m.lg = (⟨kd, fr, tt, ep, qa.1, qb.1, qc.1, qd.1, qe.1, (qv.k : Int), qv.cs, qv.ns, qo.1, qm.1, qr.k, qr.r, qr.i, []⟩ : Msgl)))
      case first => as_aux_lemma =>
        by_cases t : ut u 512 = true
        · rw [t]
          have e1 : rdR qm.2 = qr := by have := HR.out; rw [t, oR_t] at this; exact this
          have E3 : Hid ((riN 3 qm.2).1 = [qr.k, qr.r, qr.i] ∧ (riN 3 qm.2).2 = qr.s) := hide (by rw [← e1]; exact ⟨rfl, rfl⟩)
          have HII : Hid (IsInt qr.k ∧ IsInt qr.r ∧ IsInt qr.i) := hide (by have := oR_isInt (ut u 512) qm.2; rw [HR.out] at this; exact this)
          clear e1
          have hz1 := T.sz
          have HRE : Hid (∀ k, ReachM m1 k → k < w1.heap.size) := hide (fun k hk => (T.re k hk).2)
          have hB1 := T.hB
          go_upto_region 29 with fail
          have ba := (Below.refl _ w1).alloc (Nat.le_refl _) (.cells #[] 3)
          have ho0 : OwnI (w1.alloc (.cells #[] 3)) w1.heap.size (.slice (some ⟨w1.heap.size, 0, none⟩) 0 0) [] := OwnI.new w1 [] w1.heap.size _ rfl (Nat.le_refl _) (by simp)
          have T0 := T.below ba
          have hza : w1.heap.size ≤ (w1.alloc (.cells #[] 3)).heap.size := ba.size
          generalize w1.alloc (.cells #[] 3) = w0 at *
          clear ba T
          go_loopw [10] (fun v wr => ∃ (j : Nat) (A : Option Addr) (n c : Nat), j ≤ 3 ∧ OwnI wr w1.heap.size v (riN j qm.2).1 ∧ RQ w B (riN j qm.2).2 A n c m1 wr ∧ w1.heap.size ≤ wr.heap.size) (fun v _ => match v with | .slice _ n _ => 3 - n | _ => 0)
          case atStart => exact ⟨0, A1, n1, c1, by omega, ho0, T0, hza⟩
          case round =>
            clear ho0 T0 hza
            obtain ⟨j, A2, n2, c2, hj, ho, T, hzr⟩ := hrel
            obtain ⟨Ai, ni, ci, rfl, hni, hnci, hxi⟩ := ho.form
            obtain rfl : j = ni := by rw [← hni.out, riN_len]
            by_cases hlt : j < 3
            · have hst : riN (j + 1) qm.2 = ((riN j qm.2).1 ++ [(ri (riN j qm.2).2).1], (ri (riN j qm.2).2).2) := rfl
              rw [ri_rnx] at hst
              have HST := hide hst
              clear hst
              generalize riN j qm.2 = q at *
              obtain ⟨is, st⟩ := q
              obtain ⟨ys, er⟩ := st
              simp only at ho T HST hni hxi
              obtain ⟨p0, p1, p2, p3⟩ := two_cells T.box
              have hrn := readnum_all _ _ _ B er ys wr T.left (by omega)
              have hu := rnx_lt ys er
              have HRN := hide hrn
              clear hrn hxi
              go_wp2_with fail
              refine HRN.out.mono ?_
              generalize rnx ys er = q at *
              obtain ⟨uu, ys3, e3⟩ := q
              rintro e w3 ⟨A3, n3, c3, rfl, hL3, o1, o2, hw3⟩
              have b3 : Below wr.heap.size wr w3 := by rw [← hw3]; exact below2 wr o1 o2
              simp only at hu hL3 HST ⊢
              have T3 := T.below b3
              have ho3 := ho.below b3
              have hz3 := b3.size
              clear hw3 HRN p0 p1 p2 p3 T ho b3
              go_upto_region 31 with fail
              have ba := (Below.refl _ w3).alloc (Nat.le_refl _) (.cells #[.slice A3 n3 c3, .int .i64 (e3 : Int)] 89)
              have hnew := heap_alloc_new w3 (.cells #[.slice A3 n3 c3, .int .i64 (e3 : Int)] 89)
              have T4 := T3.below ba
              have ho4 := ho3.below ba
              have HL4 : Hid (e3 = 0 → Left (w3.alloc (.cells #[.slice A3 n3 c3, .int .i64 (e3 : Int)] 89)) B A3 n3 c3 ys3) := hide (fun e => (hL3 e).below (ba.mono (by omega)))
              generalize w3.alloc (.cells #[.slice A3 n3 c3, .int .i64 (e3 : Int)] 89) = w4 at *
              have T5 := T4.row (s' := (ys3, e3)) HL4.out
              have hk5 := Kept.of_setRow w4 w.heap.size #[.slice A3 n3 c3, .int .i64 (e3 : Int)]
              have ho5 := ho4.keep fun k hk => hk5.block k ((ho4.lt k hk).2) (by have := (ho4.lt k hk).1; omega)
              have hz4 := ba.size
              have hz5 := hk5.size
              obtain ⟨s0, s1, _, _⟩ := two_cells hnew
              have hone : (#[.slice A3 n3 c3, .int .i64 (e3 : Int)] : Array Value).all (·.oneCell') = true := by simp [Value.oneCell']
              have HT4 := hide T4.box
              clear T3 T4 ho3 ho4 hL3 HL4 ba hnew hk5
              go_upto_region 32 with (refine wpList_store_row rfl 89 _ _ rfl w.heap.size #[.slice A3 n3 c3, .int .i64 (e3 : Int)] rfl rfl _ _ HT4.out (by kernel_rfl) rfl hone ?_; generalize w4.setRow w.heap.size #[.slice A3 n3 c3, .int .i64 (e3 : Int)] = w5 at *)
              clear s0 s1 HT4 hone
              go_wp2_with fail
              refine (refunfold_any uu w5 hu).mono ?_
              rintro e _ ⟨rfl, rfl⟩
              have hone := HasI.new w5 3 [zag uu] (0, 0) _ rfl
              obtain ⟨v6, w6, hr6, ho6, hg6, hat6⟩ := run_append_ints (w5.alloc (.cells (icells [zag uu]) 3)) 25 w1.heap.size _ is (ho5.below ((Below.refl _ _).alloc (Nat.le_refl _) _)) (w5.heap.size + 1) (some ⟨w5.heap.size, 0, none⟩) 1 1 [zag uu] hone rfl (by rw [hni.out]; omega) (by simp; omega)
              have b6 : Below w1.heap.size w5 w6 := ((Below.refl _ w5).alloc (by omega) _).grown hg6 (by simp; omega) (fun k e => (ho5.lt k e).1)
              have T6 := T5.low (b := w1.heap.size) b6 (by omega) HRE.out (by omega)
              have HR6 := hide hr6
              obtain ⟨A6, n6, c6, rfl, hn6, _, _⟩ := ho6.form
              obtain rfl : n6 = j + 1 := by rw [← hn6.out, List.length_append, hni.out]; rfl
              clear hn6
              have HO6 := hide ho6
              have HT6 := hide T6
              have hz6 := b6.size
              clear hr6 hone hg6 hat6 ho6 T6 b6 T5 ho5
              go_wp2_with (at_builtin; refine list_append_want _ (by rfl) (.tmp 129) (.tmp 132) 25 25 rfl _ _ rfl rfl _ _ HR6.out ?_)
              go_roundw
              case rel => exact ⟨j + 1, A3, n3, c3, by omega, by rw [HST.out]; exact HO6.out, by rw [HST.out]; exact HT6.out, by omega⟩
              case measure => simp; omega
            · obtain rfl : j = 3 := by omega
              rw [E3.out.1] at ho hxi
              rw [E3.out.2] at T
              clear hlt hj hni
              obtain ⟨ab, ao, rfl, hab, x0⟩ := hxi 0 (by simp)
              have x0 : wr.cell? ⟨ab, ao, none⟩ = some (.int .i64 qr.k) := x0
              have x1 : wr.cell? ⟨ab, ao + 1, none⟩ = some (.int .i64 qr.r) := (hxi.at_ 1 (by simp)).2
              have x2 : wr.cell? ⟨ab, ao + 2, none⟩ = some (.int .i64 qr.i) := (hxi.at_ 2 (by simp)).2
              have hlo := (ho.lt ab rfl).1
              have hi1 := HII.out
              have HX : Hid (∀ W, Kept (fun k => k = w.heap.size + 1) wr.drew W → W.cell? ⟨ab, ao, none⟩ = some (.int .i64 qr.k) ∧ W.cell? ⟨ab, ao + 1, none⟩ = some (.int .i64 qr.r) ∧ W.cell? ⟨ab, ao + 2, none⟩ = some (.int .i64 qr.i)) := hide (fun W h => by
                have e1 : ∀ i, W.cell? ⟨ab, i, none⟩ = wr.cell? ⟨ab, i, none⟩ := fun i => h.cell (by show ab < wr.heap.size; exact hab) (by omega)
                exact ⟨(e1 _).trans x0, (e1 _).trans x1, (e1 _).trans x2⟩)
              have T7 : RQ w B qr.s A2 n2 c2 m1 wr.drew := ⟨T.box, T.mb, T.r4, T.r5, fun e => ⟨(T.left e).1.keep fun b hb => rfl, (T.left e).2⟩, T.im.keepR fun k hr hlt => rfl, T.re, T.bl.drew, T.hB⟩
              clear T ho x0 x1 x2 hxi hzr
              go_wp2_with fail
              refine wp_region_held_drew (S := fun W => Kept (fun k => k = w.heap.size + 1) wr.drew W) (by kernel_rfl) (Kept.refl _ _) (fun hHeld => ?_)
              generalize wr.drew = w7 at *
              refine wpAnyH_take (i := 0) (oi := _) (v := .slice (some ⟨ab, ao, none⟩) 3 ci) rfl (by kernel_rfl) (by kernel_rfl) (by kernel_rfl) (fun _ _ _ h => h) (Or.inl ⟨by rfl, fun w' hSw => by go_simp⟩) hHeld ?_
              (try simp only [Act.put, List.setIfInBounds_toArray, List.set_cons_zero, List.set_cons_succ, List.getElem_toArray, List.getElem_cons_zero, List.getElem_cons_succ])
              refine wpAnyH_take (i := 1) (oi := _) (v := .pointer (some ⟨ab, ao, none⟩)) rfl (by kernel_rfl) (by kernel_rfl) (by kernel_rfl) (fun _ _ _ h => h) (Or.inl ⟨by rfl, fun w' hSw => by go_simp⟩) hHeld ?_
              (try simp only [Act.put, List.setIfInBounds_toArray, List.set_cons_zero, List.set_cons_succ, List.getElem_toArray, List.getElem_cons_zero, List.getElem_cons_succ])
              refine wpAnyH_take (i := 2) (oi := _) (v := .int .i64 qr.k) rfl (by kernel_rfl) (by kernel_rfl) (by kernel_rfl) (fun _ _ _ h => h) (Or.inl ⟨by rfl, fun w' hSw => by obtain ⟨x0, x1, x2⟩ := HX.out _ hSw; go_simp⟩) hHeld ?_
              (try simp only [Act.put, List.setIfInBounds_toArray, List.set_cons_zero, List.set_cons_succ, List.getElem_toArray, List.getElem_cons_zero, List.getElem_cons_succ])
              refine wpAnyH_take (i := 3) (oi := _) (v := .slice (some ⟨ab, ao, none⟩) 3 ci) rfl (by kernel_rfl) (by kernel_rfl) (by kernel_rfl) (fun _ _ _ h => h) (Or.inl ⟨by rfl, fun w' hSw => by go_simp⟩) hHeld ?_
              (try simp only [Act.put, List.setIfInBounds_toArray, List.set_cons_zero, List.set_cons_succ, List.getElem_toArray, List.getElem_cons_zero, List.getElem_cons_succ])
              refine wpAnyH_take (i := 4) (oi := _) (v := .pointer (some ⟨ab, ao + 1, none⟩)) rfl (by kernel_rfl) (by kernel_rfl) (by kernel_rfl) (fun _ _ _ h => h) (Or.inl ⟨by rfl, fun w' hSw => by go_simp⟩) hHeld ?_
              (try simp only [Act.put, List.setIfInBounds_toArray, List.set_cons_zero, List.set_cons_succ, List.getElem_toArray, List.getElem_cons_zero, List.getElem_cons_succ])
              refine wpAnyH_take (i := 5) (oi := _) (v := .int .i64 qr.r) rfl (by kernel_rfl) (by kernel_rfl) (by kernel_rfl) (fun _ _ _ h => h) (Or.inl ⟨by rfl, fun w' hSw => by obtain ⟨x0, x1, x2⟩ := HX.out _ hSw; go_simp⟩) hHeld ?_
              (try simp only [Act.put, List.setIfInBounds_toArray, List.set_cons_zero, List.set_cons_succ, List.getElem_toArray, List.getElem_cons_zero, List.getElem_cons_succ])
              refine wpAnyH_take (i := 6) (oi := _) (v := .slice (some ⟨ab, ao, none⟩) 3 ci) rfl (by kernel_rfl) (by kernel_rfl) (by kernel_rfl) (fun _ _ _ h => h) (Or.inl ⟨by rfl, fun w' hSw => by go_simp⟩) hHeld ?_
              (try simp only [Act.put, List.setIfInBounds_toArray, List.set_cons_zero, List.set_cons_succ, List.getElem_toArray, List.getElem_cons_zero, List.getElem_cons_succ])
              refine wpAnyH_take (i := 7) (oi := _) (v := .pointer (some ⟨ab, ao + 2, none⟩)) rfl (by kernel_rfl) (by kernel_rfl) (by kernel_rfl) (fun _ _ _ h => h) (Or.inl ⟨by rfl, fun w' hSw => by go_simp⟩) hHeld ?_
              (try simp only [Act.put, List.setIfInBounds_toArray, List.set_cons_zero, List.set_cons_succ, List.getElem_toArray, List.getElem_cons_zero, List.getElem_cons_succ])
              refine wpAnyH_take (i := 8) (oi := _) (v := .int .i64 qr.i) rfl (by kernel_rfl) (by kernel_rfl) (by kernel_rfl) (fun _ _ _ h => h) (Or.inl ⟨by rfl, fun w' hSw => by obtain ⟨x0, x1, x2⟩ := HX.out _ hSw; go_simp⟩) hHeld ?_
              (try simp only [Act.put, List.setIfInBounds_toArray, List.set_cons_zero, List.set_cons_succ, List.getElem_toArray, List.getElem_cons_zero, List.getElem_cons_succ])
              refine wpAnyH_take (i := 9) (oi := _) (v := .agg #[.int .i64 qr.k, .int .i64 qr.r, .int .i64 qr.i]) rfl (by kernel_rfl) (by kernel_rfl) (by kernel_rfl) (fun _ _ _ h => h) (Or.inl ⟨by rfl, fun w' hSw => by go_simp⟩) hHeld ?_
              (try simp only [Act.put, List.setIfInBounds_toArray, List.set_cons_zero, List.set_cons_succ, List.getElem_toArray, List.getElem_cons_zero, List.getElem_cons_succ])
              refine wpAnyH_take (i := 10) (oi := _) (v := .pointer (some ⟨w.heap.size + 1, 21, none⟩)) rfl (by kernel_rfl) (by kernel_rfl) (by kernel_rfl) (fun _ _ _ h => h) (Or.inl ⟨by rfl, fun w' hSw => by go_simp⟩) hHeld ?_
              (try simp only [Act.put, List.setIfInBounds_toArray, List.set_cons_zero, List.set_cons_succ, List.getElem_toArray, List.getElem_cons_zero, List.getElem_cons_succ])
              have hth : w7.there (w.heap.size + 1) 21 3 := by
                intro i hi
                obtain ⟨e1, e2⟩ := row_cells T7.mb (21 + i)
                refine ⟨?_, e2⟩
                rw [e1]
                match i, hi with
                | 0, _ => rfl
                | 1, _ => rfl
                | 2, _ => rfl
              have T8 := T7.res qr.k qr.r qr.i hi1.1 hi1.2.1 hi1.2.2
              refine wpAnyH_ready (rs := [11]) (by kernel_rfl) (by simp) ?_
              refine AllReadyH.cons (o := _) rfl (fun K hK => ?_) AllReadyH.nil
              (try simp only [List.getElem_toArray, List.getElem_cons_zero, List.getElem_cons_succ])
              rw [if_pos (by rfl)]
              refine wp_store_mid 34 (.tmp 144) (.tmp 143) rfl (w.heap.size + 1) 21 #[.int .i64 qr.k, .int .i64 qr.r, .int .i64 qr.i] rfl rfl hth (by kernel_rfl) (by simp; exact ⟨rfl, rfl, rfl⟩) ?_
              refine hK.out _ _ (((hHeld.setCell (p := ⟨w.heap.size + 1, 21, none⟩) (.inl rfl) _).setCell (p := ⟨w.heap.size + 1, 21 + 1, none⟩) (.inl rfl) _).setCell (p := ⟨w.heap.size + 1, 21 + 1 + 1, none⟩) (.inl rfl) _) (fun hHeld => ?_)
              clear hK T7 hth
              (try simp only [Act.put, List.setIfInBounds_toArray, List.set_cons_zero, List.set_cons_succ, List.getElem_toArray, List.getElem_cons_zero, List.getElem_cons_succ])
              refine wpAnyH_done (by kernel_rfl) ?_ _
              have T9 : RQ w B qr.s A2 n2 c2 { m1 with rk := qr.k, rr := qr.r, ri := qr.i } (w7.setCells (w.heap.size + 1) 21 (#[.int .i64 qr.k, .int .i64 qr.r, .int .i64 qr.i] : Array Value).toList) := T8
              generalize w7.setCells (w.heap.size + 1) 21 (#[.int .i64 qr.k, .int .i64 qr.r, .int .i64 qr.i] : Array Value).toList = w8 at *
              have HT9 := hide T9
              clear T8 T9 HX hHeld
              go_wp2_with fail
              go_meet
              exact ⟨_, _, _, _, HT9.out, hide (congrArg (fun y : Msgl => { y with rk := qr.k, rr := qr.r, ri := qr.i }) HL.out)⟩
        · have t' : ut u 512 = false := by simpa using t
          rw [t']
          have h1 := oR_f HR.out t'
          go_wp2_with fail
          go_meet
          exact ⟨_, _, _, _, by rw [h1]; exact T, hide (by rw [h1]; exact HL.out)⟩
      clear T HL
      obtain ⟨A1, n1, c1, m1, T, HL⟩ := hcut
      generalize wc = w1 at *
      go_wp2_with fail
      refine (H_hd.out _).mono ?_
      rintro e _ ⟨rfl, rfl⟩
      clear H_hd
      go_upto_if 146 with fail
      go_cut [] (fun wx => ∃ A n c m, RQ w B qy.2 A n c m wx ∧ Hid (m.lg = (⟨kd, fr, tt, ep, qa.1, qb.1, qc.1, qd.1, qe.1, (qv.k : Int), qv.cs, qv.ns, qo.1, qm.1, qr.k, qr.r, qr.i, qy.1⟩ : Msgl)))
      case first => as_aux_lemma =>
        by_cases t : ut u 1024 = true
        · rw [t]
          have e1 : rt 1024 qr.s = qy := by have := HY.out; rw [t, oD_t] at this; exact this
          have hl1 := rt_len qr.s
          rw [e1] at hl1
          have hr := rtext_ref _ _ _ B qr.s w1 T.left (by have := T.hB; have := lt_of_block T.box; omega)
          rw [e1] at hr
          have HR1 := hide hr
          have hz1 := T.sz
          clear hr e1
          obtain ⟨p0, p1, p2, p3⟩ := two_cells T.box
          go_wp2_with fail
          refine HR1.out.mono ?_
          rintro e w2 ⟨A2, n2, c2, D, l, d, rfl, hL2, ho2, b2⟩
          have T2 := T.below b2
          have T3 := T2.row hL2.out
          have hk3 := Kept.of_setRow w2 w.heap.size #[.slice A2 n2 c2, .int .i64 (qy.2.2 : Int)]
          have ho3 := ho2.keep fun k hk => hk3.block k ((ho2.lt k hk).2) (by have := (ho2.lt k hk).1; omega)
          have hone : (#[.slice A2 n2 c2, .int .i64 (qy.2.2 : Int)] : Array Value).all (·.oneCell') = true := by simp [Value.oneCell']
          obtain ⟨kc24, kf24⟩ := row_cells T3.mb 24
          simp only [Msgv.cells, List.getElem?_toArray, List.getElem?_cons_succ, List.getElem?_cons_zero] at kc24
          clear p0 p1 p2 p3 b2 T hL2 HR1 hk3 ho2
          go_wp2_with (refine wpList_store_row rfl 89 _ _ rfl w.heap.size #[.slice A2 n2 c2, .int .i64 (qy.2.2 : Int)] rfl rfl _ _ T2.box (by kernel_rfl) rfl hone ?_; generalize w2.setRow w.heap.size #[.slice A2 n2 c2, .int .i64 (qy.2.2 : Int)] = w3 at *)
          obtain ⟨_, _, _, ev1, lx1, hc1, g1, _⟩ := ho3.form
          injection ev1 with e11 e12 e13
          subst e11 e12 e13
          have hx1 := lx1.out
          go_meet
          exact ⟨_, _, _, _, T3.data D l d qy.1 g1 hx1 hc1 (by omega) (fun k o e => by have := ho3.lt k (own_block e); omega), hide (congrArg (fun y : Msgl => { y with ds := qy.1 }) HL.out)⟩
        · have t' : ut u 1024 = false := by simpa using t
          rw [t']
          have h1 := oD_f HY.out t'
          go_wp2_with fail
          go_meet
          exact ⟨_, _, _, _, by rw [h1]; exact T, hide (by rw [h1]; exact HL.out)⟩
      clear T HL
      obtain ⟨A1, n1, c1, m1, T, HL⟩ := hcut
      generalize wc = w1 at *
      go_wp2_with fail
      have HS7 : Hid (∀ W, Kept (fun k => k = w.heap.size + 1 + 1 ∨ k = w.heap.size + 1 + 1 + 1) w1.drew W → W.heap[w.heap.size]? = some (.cells #[.slice A1 n1 c1, .int .i64 (qy.2.2 : Int)] 89 (0, 0)) ∧ W.heap[w.heap.size + 1]? = some (.cells m1.cells 37 (0, 0))) := hide (fun W h => ⟨(h.block _ (by have := T.sz; show w.heap.size < w1.heap.size; omega) (by omega)).trans T.box, (h.block _ (by have := T.sz; show w.heap.size + 1 < w1.heap.size; omega) (by omega)).trans T.mb⟩)
      have hq17 : w1.drew.heap[w.heap.size + 1 + 1]? = some (.cells #[.slice none 0 0, .int .i64 0] 89 (0, 0)) := T.r4
      have hq27 : w1.drew.heap[w.heap.size + 1 + 1 + 1]? = some (.cells (mz 0 0 0 0).cells 37 (0, 0)) := T.r5
      have b7 : Below w.heap.size w w1.drew := T.bl.drew
      have hz7 : w.heap.size + 4 ≤ w1.drew.heap.size := T.sz
      have HT7 : Hid (IsM w1.drew w1.drew.heap.size m1) := hide (T.im.keepR fun k hr hlt => rfl)
      have HE7 : Hid (∀ k, ReachM m1 k → w.heap.size + 4 ≤ k ∧ k < w1.drew.heap.size) := hide T.re
      have HL7 : Hid (qy.2.2 = 0 → Left w1.drew B A1 n1 c1 qy.2.1) := hide (fun e => ⟨(T.left e).1.keep fun b hb => rfl, (T.left e).2⟩)
      refine wp_region_held_drew (S := fun W => Kept (fun k => k = w.heap.size + 1 + 1 ∨ k = w.heap.size + 1 + 1 + 1) w1.drew W) (by kernel_rfl) (Kept.refl _ _) (fun hHeld => ?_)
      clear T
      generalize w1.drew = w7 at *
      have hi25 := info_msg m1
      have hone25 := mcells_one m1
      refine wpAnyH_take (i := 0) (oi := _) (v := .agg #[.slice A1 n1 c1, .int .i64 (qy.2.2 : Int)]) rfl (by kernel_rfl) (by kernel_rfl) (by kernel_rfl) (fun _ _ _ h => h) (Or.inl ⟨by rfl, fun w' hSw => by obtain ⟨z0, z1, _, _⟩ := two_cells (HS7.out w' hSw).1; go_simp⟩) hHeld ?_
      (try simp only [Act.put, List.setIfInBounds_toArray, List.set_cons_zero, List.set_cons_succ, List.getElem_toArray, List.getElem_cons_zero, List.getElem_cons_succ])
      refine wpAnyH_take (i := 1) (oi := _) (v := .agg m1.cells) rfl (by kernel_rfl) (by kernel_rfl) (by kernel_rfl) (fun _ _ _ h => h) (yieldsIf_load_rowM (by rfl) (.tmp 3) rfl (w.heap.size + 1) rfl _ m1.cells (fun w' h => (HS7.out w' h).2) hi25) hHeld ?_
      (try simp only [Act.put, List.setIfInBounds_toArray, List.set_cons_zero, List.set_cons_succ, List.getElem_toArray, List.getElem_cons_zero, List.getElem_cons_succ])
      have hk8 := Kept.of_setRow w7 (w.heap.size + 1 + 1) #[.slice A1 n1 c1, .int .i64 (qy.2.2 : Int)]
      have hr81 := set_row_at (B := #[.slice A1 n1 c1, .int .i64 (qy.2.2 : Int)]) hq17
      have hr82 := (hk8.block (w.heap.size + 1 + 1 + 1) (by omega) (by omega)).trans hq27
      refine wpAnyH_ready (rs := [2]) (by kernel_rfl) (by simp) ?_
      refine AllReadyH.cons (o := _) rfl (fun K hK => ?_) AllReadyH.nil
      (try simp only [List.getElem_toArray, List.getElem_cons_zero, List.getElem_cons_succ])
      rw [if_pos (by rfl)]
      refine wp_store_row 89 (.tmp 4) (.tmp 153) rfl (w.heap.size + 1 + 1) #[.slice A1 n1 c1, .int .i64 (qy.2.2 : Int)] rfl rfl _ _ hq17 (by kernel_rfl) rfl (by simp; exact ⟨rfl, rfl⟩) ?_
      refine hK.out _ _ (hHeld.step hk8 (fun k hk => .inl (.inl hk))) (fun hHeld => ?_)
      clear hK
      (try simp only [Act.put, List.setIfInBounds_toArray, List.set_cons_zero, List.set_cons_succ, List.getElem_toArray, List.getElem_cons_zero, List.getElem_cons_succ])
      generalize w7.setRow (w.heap.size + 1 + 1) #[.slice A1 n1 c1, .int .i64 (qy.2.2 : Int)] = w8 at *
      have hz8 := hk8.size
      have hk9 := Kept.of_setRow w8 (w.heap.size + 1 + 1 + 1) m1.cells
      have hr92 := set_row_at (B := m1.cells) hr82
      have hr91 := (hk9.block (w.heap.size + 1 + 1) (by omega) (by omega)).trans hr81
      have hsm : (mz 0 0 0 0).cells.size = m1.cells.size := rfl
      refine wpAnyH_ready (rs := [3]) (by kernel_rfl) (by simp) ?_
      refine AllReadyH.cons (o := _) rfl (fun K hK => ?_) AllReadyH.nil
      (try simp only [List.getElem_toArray, List.getElem_cons_zero, List.getElem_cons_succ])
      rw [if_pos (by rfl)]
      refine wp_store_row 37 (.tmp 5) (.tmp 154) rfl (w.heap.size + 1 + 1 + 1) m1.cells rfl rfl _ _ hr82 hi25 hsm hone25 ?_
      refine hK.out _ _ (hHeld.step hk9 (fun k hk => .inl (.inr hk))) (fun hHeld => ?_)
      clear hK
      (try simp only [Act.put, List.setIfInBounds_toArray, List.set_cons_zero, List.set_cons_succ, List.getElem_toArray, List.getElem_cons_zero, List.getElem_cons_succ])
      generalize w8.setRow (w.heap.size + 1 + 1 + 1) m1.cells = w9 at *
      refine wpAnyH_done (by kernel_rfl) ?_ _
      simp only [Exit.then]
      refine ‹∀ (a : Act) (w_1 : World), Code.wp Tryd.prog Code.ret _ a w_1 → _› _ _ ?_
      refine wp_ret ?_
      have b9 : Below w.heap.size w w9 := (b7.trans (hk8.below (by omega) (fun k hk => by omega))).trans (hk9.below (by omega) (fun k hk => by omega))
      have old : ∀ k, k < w7.heap.size → k ≠ w.heap.size + 1 + 1 → k ≠ w.heap.size + 1 + 1 + 1 → w9.heap[k]? = w7.heap[k]? := fun k h0 h1 h2 => (hk9.block k (by omega) h2).trans (hk8.block k h0 h1)
      refine bodyPost_ret (v := .tuple #[.agg #[.slice A1 n1 c1, .int .i64 (qy.2.2 : Int)], .agg m1.cells]) (results_rest rfl rfl hr91 hr92 rfl rfl) rfl ?_
      refine ⟨A1, n1, c1, m1, rfl, hide (fun e => ?_), HL.out, ?_, fun k hk => ?_, b9⟩
      · have h9 := HL7.out e
        exact ⟨h9.1.keep fun b hlt => old b (by omega) (by omega) (by omega), h9.2⟩
      · have := hk9.size
        exact (HT7.out.keepR fun k hr hlt => old k hlt (by have := HE7.out k hr; omega) (by have := HE7.out k hr; omega)).more (by omega)
      · have := HE7.out k hk
        have := hk9.size
        omega
end Go.Proofs.YtapbcpilklhoiabDoor
