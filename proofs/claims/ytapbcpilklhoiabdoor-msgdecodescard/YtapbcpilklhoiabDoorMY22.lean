/-
  Check of the reference, in general. Conditions: what is read is in reach.
-/
import Derived.Test.YtapbcpilklhoiabDoorMY21
import Derived.Test.YtapbcpilklhoiabDoorMY20
import Derived.Deep.QuietTactic
set_option linter.unusedSimpArgs false
set_option linter.unusedVariables false

namespace Go.Proofs.YtapbcpilklhoiabDoor
open Go.RowKit

theorem regs_at (a b : Int) : ∀ k : Nat, k < 8 → (#[.int .i64 a, .int .i64 b, .int .i64 0, .int .i64 0, .int .i64 0, .int .i64 0, .int .i64 0, .int .i64 0, .int .i64 0, .int .i64 0, .int .i64 0, .int .i64 0, .int .i64 0, .int .i64 0, .int .i64 0, .int .i64 0] : Array Value)[k * 2]? = some (.int .i64 (if k = 0 then a else 0)) ∧ (#[.int .i64 a, .int .i64 b, .int .i64 0, .int .i64 0, .int .i64 0, .int .i64 0, .int .i64 0, .int .i64 0, .int .i64 0, .int .i64 0, .int .i64 0, .int .i64 0, .int .i64 0, .int .i64 0, .int .i64 0, .int .i64 0] : Array Value)[k * 2 + 1]? = some (.int .i64 (if k = 0 then b else 0)) := by
  intro k hk
  match k, hk with
  | 0, _ | 1, _ | 2, _ | 3, _ | 4, _ | 5, _ | 6, _ | 7, _ => exact ⟨rfl, rfl⟩
theorem in_zero : inB 0 := by unfold inB; omega
def in2 (a b : Int) : Bool := decide (inB a ∧ inB b)
set_option maxHeartbeats 1600000 in
theorem rvalid1_any (a b : Int) (w : World) : Calls Tryd.prog 29 #[.agg #[.int .i64 a, .int .i64 b, .int .i64 0, .int .i64 0, .int .i64 0, .int .i64 0, .int .i64 0, .int .i64 0, .int .i64 0, .int .i64 0, .int .i64 0, .int .i64 0, .int .i64 0, .int .i64 0, .int .i64 0, .int .i64 0]] w fun e w' => e = .returned (.bool (in2 a b)) ∧ Below w.heap.size w w' := by
  go_enter Tryd.func29, Tryd.ntmps29
  go_wp2_with fail
  have hp0 := heap_alloc_new w (.cells #[.int .i64 a, .int .i64 b, .int .i64 0, .int .i64 0, .int .i64 0, .int .i64 0, .int .i64 0, .int .i64 0, .int .i64 0, .int .i64 0, .int .i64 0, .int .i64 0, .int .i64 0, .int .i64 0, .int .i64 0, .int .i64 0] 70)
  have b0 : Below w.heap.size w (w.alloc (.cells #[.int .i64 a, .int .i64 b, .int .i64 0, .int .i64 0, .int .i64 0, .int .i64 0, .int .i64 0, .int .i64 0, .int .i64 0, .int .i64 0, .int .i64 0, .int .i64 0, .int .i64 0, .int .i64 0, .int .i64 0, .int .i64 0] 70)) := by go_grown
  generalize w.alloc (.cells #[.int .i64 a, .int .i64 b, .int .i64 0, .int .i64 0, .int .i64 0, .int .i64 0, .int .i64 0, .int .i64 0, .int .i64 0, .int .i64 0, .int .i64 0, .int .i64 0, .int .i64 0, .int .i64 0, .int .i64 0, .int .i64 0] 70) = w0 at *
  go_loopw [3] (fun i wr => ∃ k : Nat, k ≤ 8 ∧ i = .int .i64 k ∧ Hid (0 < k → inB a ∧ inB b) ∧ Hid (wr.heap[w.heap.size]? = some (.cells #[.int .i64 a, .int .i64 b, .int .i64 0, .int .i64 0, .int .i64 0, .int .i64 0, .int .i64 0, .int .i64 0, .int .i64 0, .int .i64 0, .int .i64 0, .int .i64 0, .int .i64 0, .int .i64 0, .int .i64 0, .int .i64 0] 70 (0, 0))) ∧ Below w.heap.size w wr) (fun i _ => 8 - (intOf i).toNat)
  case atStart => exact ⟨0, Nat.zero_le _, rfl, hide (fun h => by omega), hide hp0, b0⟩
  case round =>
    clear hp0 b0
    obtain ⟨k, hk, rfl, hok, HG, hb⟩ := hrel
    by_cases hlt : k < 8
    · obtain ⟨r1, r2⟩ := regs_at a b k hlt
      have c1 := (cell_of_row _ _ _ _ _ _ HG.out).trans r1
      have c2 := (cell_of_row _ _ _ _ _ _ HG.out).trans r2
      have q0 : (0 : Int) ≤ (k : Int) := by omega
      have q1 : (k : Int) < 8 := by omega
      clear r1 r2
      by_cases hin : inB (if k = 0 then a else 0) ∧ inB (if k = 0 then b else 0)
      · have hok' : Hid (0 < k + 1 → inB a ∧ inB b) := hide (fun _ => by
          by_cases h0 : k = 0
          · rw [if_pos h0, if_pos h0] at hin; exact hin
          · exact hok.out (by omega))
        generalize (if k = 0 then a else 0) = x at *
        generalize (if k = 0 then b else 0) = y at *
        go_wp2_with fail
        go_quiet ((go_at_call 66; exact Calls.quiet_of_same ((refright_yes _ _ hin.1 hin.2 _).mono fun _ _ ⟨he, hw⟩ => ⟨he, hw.symm⟩)))
        go_wp2
        go_roundw
        case rel => exact ⟨k + 1, by omega, by go_num, hok', HG, below_drewN hb _⟩
        case measure => simp [intOf]; omega
      · have HF : Hid (in2 a b = false) := hide (decide_eq_false (fun h => hin (by
          by_cases h0 : k = 0
          · rw [if_pos h0, if_pos h0]; exact h
          · rw [if_neg h0, if_neg h0]; exact ⟨in_zero, in_zero⟩)))
        generalize (if k = 0 then a else 0) = x at *
        generalize (if k = 0 then b else 0) = y at *
        go_wp2_with fail
        go_quiet ((go_at_call 66; exact Calls.quiet_of_same ((refright_no _ _ hin _).mono fun _ _ ⟨he, hw⟩ => ⟨he, hw.symm⟩)))
        go_wp2
        go_ret
        exact ⟨by rw [HF.out]; rfl, below_drewN hb _⟩
    · obtain rfl : k = 8 := by omega
      have HF : Hid (in2 a b = true) := hide (decide_eq_true (hok.out (by omega)))
      go_wp2
      go_ret
      exact ⟨by rw [HF.out]; rfl, hb⟩

theorem kinds_all : (List.range 15).all (fun k => (!ut (usedT (k : Int)) 64 || (!ut (usedT (k : Int)) 128 && !ut (usedT (k : Int)) 256)) && (!ut (usedT (k : Int)) 128 || !ut (usedT (k : Int)) 256) && (ut (usedT (k : Int)) 256 == ((k : Int) == 13 || (k : Int) == 14)) && (ut (usedT (k : Int)) 512 == ((k : Int) == 14))) = true := by decide +kernel
structure KindsOk (k : Int) : Prop where
  v : ut (usedT k) 64 = true → ut (usedT k) 128 = false ∧ k ≠ 13 ∧ k ≠ 14
  o : ut (usedT k) 128 = true → k ≠ 13 ∧ k ≠ 14
  c : ut (usedT k) 256 = (k == 13 || k == 14)
  r : ut (usedT k) 512 = (k == 14)
theorem kinds_ok {k : Int} (h : usedT k ≠ 0) : KindsOk k := by
  have hk := used_in h
  have hh := List.all_eq_true.1 kinds_all k.toNat (List.mem_range.2 (by omega))
  rw [Int.toNat_of_nonneg hk.1] at hh
  simp only [Bool.and_eq_true, Bool.or_eq_true, Bool.not_eq_true', beq_iff_eq] at hh
  obtain ⟨⟨⟨h1, h2⟩, h3⟩, h4⟩ := hh
  have nk : ut (usedT k) 256 = false → k ≠ 13 ∧ k ≠ 14 := fun e => by
    rw [h3] at e
    simp at e
    exact e
  refine ⟨fun e => ?_, fun e => ?_, h3, h4⟩
  · rcases h1 with h1 | h1
    · rw [e] at h1; cases h1
    · exact ⟨h1.1, nk h1.2⟩
  · rcases h2 with h2 | h2
    · rw [e] at h2; cases h2
    · exact nk h2

/-- What Check asks behind the plain fields. -/
def chk2 (m : Msgv) : Int :=
  if ut (usedT m.kd) 2 = true ∧ valB m.br m.bn = false then 27 else
  if chkV m.v.k m.v.cs m.v.ns ≠ 0 then chkV m.v.k m.v.cs m.v.ns else
  if chkVotes m.vs m.sl ≠ 0 then chkVotes m.vs m.sl else
  if chkMC m.kd m.cm ≠ 0 then chkMC m.kd m.cm else
  if ut (usedT m.kd) 512 = true ∧ resB m.rk m.rr m.ri = false then 26 else 0
theorem chkM_npl {m : Msgv} (h : ¬ PlP m) : chkM m = 26 := by
  rw [← chk_pl] at h
  unfold chkM
  by_cases h1 : (usedT m.kd == 0) = true
  · rw [if_pos h1]
  rw [if_neg h1]
  by_cases h2 : (bits .andNot .i64 (filV m) (usedT m.kd) != 0) = true
  · rw [if_pos h2]
  rw [if_neg h2]
  by_cases h3 : bndB m (lsOf (usedT m.kd)) = false
  · rw [if_pos h3]
  exact absurd ⟨Bool.eq_false_iff.2 h1, Bool.eq_false_iff.2 h2, by simpa using h3⟩ h
theorem chkM_pl {m : Msgv} (h : PlP m) : chkM m = chk2 m := by
  obtain ⟨h1, h2, h3⟩ := (chk_pl m).2 h
  unfold chkM
  rw [if_neg (by rw [h1]; simp), if_neg (by rw [h2]; simp), if_neg (by rw [h3]; simp)]
  rfl
theorem chkV_zero : chkV 0 [] [] = 0 := by decide +kernel
theorem chkMC_no {k : Int} {c : Cmdv} (h : k ≠ 13 ∧ k ≠ 14) : chkMC k c = 0 := by unfold chkMC; rw [if_neg h.1, if_neg h.2]
theorem chk2_val {m : Msgv} (hp : PlP m) (hen : m.vs.length = m.vn) (h1 : ¬ (ut (usedT m.kd) 2 = true ∧ valB m.br m.bn = false)) (hv : ut (usedT m.kd) 64 = true) : chk2 m = chkV m.v.k m.v.cs m.v.ns := by
  obtain ⟨k1, k2⟩ := (kinds_ok hp.1).v hv
  have hz := hp.2.2.2.1.2.1 k1
  have hvs : m.vs = [] := List.eq_nil_of_length_eq_zero (by rw [hen, hz])
  have hr : ut (usedT m.kd) 512 = false := by rw [(kinds_ok hp.1).r]; simp [k2.2]
  unfold chk2
  rw [if_neg h1, hvs, show chkVotes [] m.sl = 0 from rfl, chkMC_no k2, hr]
  simp
  exact fun h => h.symm
theorem chkV_pl {m : Msgv} (hp : PlP m) (hv : ut (usedT m.kd) 64 = false) : chkV m.v.k m.v.cs m.v.ns = 0 := by
  obtain ⟨e1, e2, e3⟩ := sameV_iff.1 (hp.2.2.2.1.1 hv)
  rw [e1, e2, e3]
  exact chkV_zero
theorem chk2_votes {m : Msgv} (hp : PlP m) (h1 : ¬ (ut (usedT m.kd) 2 = true ∧ valB m.br m.bn = false)) (hv : ut (usedT m.kd) 64 = false) (ho : ut (usedT m.kd) 128 = true) : chk2 m = chkVotes m.vs m.sl := by
  have k2 := (kinds_ok hp.1).o ho
  have hr : ut (usedT m.kd) 512 = false := by rw [(kinds_ok hp.1).r]; simp [k2.2]
  unfold chk2
  rw [if_neg h1, chkV_pl hp hv, chkMC_no k2, hr]
  simp
  exact fun h => h.symm
theorem chk2_rest {m : Msgv} (hp : PlP m) (hen : m.vs.length = m.vn) (h1 : ¬ (ut (usedT m.kd) 2 = true ∧ valB m.br m.bn = false)) (hv : ut (usedT m.kd) 64 = false) (ho : ut (usedT m.kd) 128 = false) : chk2 m = if chkMC m.kd m.cm ≠ 0 then chkMC m.kd m.cm else if m.kd = 14 ∧ resB m.rk m.rr m.ri = false then 26 else 0 := by
  have hz := hp.2.2.2.1.2.1 ho
  have hvs : m.vs = [] := List.eq_nil_of_length_eq_zero (by rw [hen, hz])
  unfold chk2
  rw [if_neg h1, chkV_pl hp hv, hvs, show chkVotes [] m.sl = 0 from rfl, (kinds_ok hp.1).r]
  simp
/-- A reply's command, with an operation that can be looked at. -/
def c14 (c : Cmdv) : Cmdv := ⟨c.s, c.q, 0, 1, 0, 0, 0, 0⟩
theorem chk_get : chk 1 0 0 0 0 = 0 := by decide +kernel
theorem chkMC14 {c : Cmdv} (h : c.a = 0 ∧ [c.k, c.r, c.t, c.re, c.im] = [0, 0, 0, 0, 0]) : chkMC 14 c = chkC (c14 c) := by
  obtain ⟨s, q, a, k, r, t, re, im⟩ := c
  simp only [List.cons.injEq, and_true] at h
  obtain ⟨rfl, rfl, rfl, rfl, rfl, rfl⟩ := h
  have e : eqC ⟨s, q, 0, 0, 0, 0, 0, 0⟩ (shortC ⟨s, q, 0, 0, 0, 0, 0, 0⟩) = true := decide_eq_true rfl
  unfold chkMC chkC c14 repP cmdP
  rw [if_neg (by omega), if_pos rfl]
  simp only [e, and_true, chk_get]
  by_cases h1 : insB s 1 1073741824 = true
  · by_cases h2 : insB q 1 1099511627776 = true
    · have h2' : 1 ≤ q ∧ q ≤ 1099511627776 := of_decide_eq_true h2
      have h3 : insB 0 0 (q - 1) = true := decide_eq_true (by omega)
      simp [h1, h2, h3]
    · simp [h1, h2]
  · simp [h1]
theorem chkMC14_bad {c : Cmdv} (h : ¬ (c.a = 0 ∧ [c.k, c.r, c.t, c.re, c.im] = [0, 0, 0, 0, 0])) : chkMC 14 c = 23 := by
  unfold chkMC
  rw [if_neg (by omega), if_pos rfl, if_neg]
  rintro ⟨_, _, h3⟩
  have := ints_inj (of_decide_eq_true h3 : c.ints = (shortC c).ints)
  unfold shortC at this
  refine h ⟨congrArg Cmdv.a this, ?_⟩
  rw [show c.k = 0 from congrArg Cmdv.k this, show c.r = 0 from congrArg Cmdv.r this, show c.t = 0 from congrArg Cmdv.t this, show c.re = 0 from congrArg Cmdv.re this, show c.im = 0 from congrArg Cmdv.im this]
theorem resB_of {k r i : Int} : resB k r i = (decide (1 ≤ k ∧ k ≤ 9) && in2 r i) := by
  unfold resB insB in2 inB
  rw [Bool.eq_iff_iff]
  simp only [Bool.and_eq_true, decide_eq_true_eq]

set_option maxRecDepth 20000 in
set_option maxHeartbeats 6400000 in
theorem rmcheck_any (m : Msgv) (B : Nat) (w : World) (hm : IsM w B m) (hB : B ≤ w.heap.size) :
    Calls Tryd.prog 10 #[.agg m.cells] w fun e w' => e = .returned (.int .i64 (chkM m)) ∧ Below w.heap.size w w' := by
  have HMM : Hid (∀ W, Below w.heap.size w W → IsM W B m) := hide (fun W h => hm.below (h.mono hB))
  have hen := hm.en
  clear hm
  go_enter Tryd.func10, Tryd.ntmps10
  go_upto_region 1 with fail
  have hp0 := heap_alloc_new w (.cells m.cells 37)
  have b0 : Below w.heap.size w (w.alloc (.cells m.cells 37)) := by go_grown
  generalize w.alloc (.cells m.cells 37) = w0 at *
  have HP0 := hide hp0
  have hz0 := lt_of_block hp0
  clear hp0
  go_wp2_with (refine wpList_load_row rfl 37 _ rfl w.heap.size rfl _ _ _ _ HP0.out Tryd.underlying37 rfl (info_msg _) ?_)
  refine (rplain_any m B w0 (HMM.out _ b0) (by have := b0.size; omega)).mono ?_
  rintro e w1 ⟨rfl, b1'⟩
  have HP1 := hide ((b1'.block w.heap.size hz0).trans HP0.out)
  have b1 := b0.trans (b1'.mono b0.size)
  have hz1 := lt_of_block HP1.out
  clear HP0 b0 b1' hz0
  by_cases hp : PlP m
  rotate_left
  · have HE := hide (chkM_npl hp)
    rw [show plB m = false from decide_eq_false hp]
    go_wp2
    go_ret
    exact ⟨by rw [HE.out]; rfl, b1⟩
  rw [show plB m = true from decide_eq_true hp]
  have HCM := hide (chkM_pl hp)
  have c0 := (row_cells HP1.out 0).1
  simp only [Msgv.cells, List.getElem?_toArray, List.getElem?_cons_zero] at c0
  go_wp2_with fail
  refine (ruses_any m.kd w1).mono ?_
  rintro e w2 ⟨rfl, b2'⟩
  have HP2 := hide ((b2'.block w.heap.size hz1).trans HP1.out)
  have b2 := b1.trans (b2'.mono b1.size)
  have hz2 := lt_of_block HP2.out
  clear HP1 b1 b2' hz1 c0
  have hlen : (usOf m.kd).length ≤ 1000000 := by
    unfold usOf
    split
    · rename_i h
      have hh : (List.range 15).all (fun k => decide ((usS.getD k []).length ≤ 1000000)) = true := by decide +kernel
      exact of_decide_eq_true (List.all_eq_true.1 hh m.kd.toNat (List.mem_range.2 (by omega)))
    · simp
  have H_hb : Hid (∀ W, Calls Tryd.prog 24 #[.string ⟨(usOf m.kd).toArray⟩, .int .u8 98] W fun e w' => e = .returned (.bool (ut (usedT m.kd) 2)) ∧ W = w') := hide (fun W => by have h1 := rhasc_any (usOf m.kd) 98 W hlen; rw [us_bit hp.1 98 2 (by simp [letters])] at h1; exact h1)
  have H_hv : Hid (∀ W, Calls Tryd.prog 24 #[.string ⟨(usOf m.kd).toArray⟩, .int .u8 118] W fun e w' => e = .returned (.bool (ut (usedT m.kd) 64)) ∧ W = w') := hide (fun W => by have h1 := rhasc_any (usOf m.kd) 118 W hlen; rw [us_bit hp.1 118 64 (by simp [letters])] at h1; exact h1)
  have H_ho : Hid (∀ W, Calls Tryd.prog 24 #[.string ⟨(usOf m.kd).toArray⟩, .int .u8 111] W fun e w' => e = .returned (.bool (ut (usedT m.kd) 128)) ∧ W = w') := hide (fun W => by have h1 := rhasc_any (usOf m.kd) 111 W hlen; rw [us_bit hp.1 111 128 (by simp [letters])] at h1; exact h1)
  have H_hc : Hid (∀ W, Calls Tryd.prog 24 #[.string ⟨(usOf m.kd).toArray⟩, .int .u8 99] W fun e w' => e = .returned (.bool (ut (usedT m.kd) 256)) ∧ W = w') := hide (fun W => by have h1 := rhasc_any (usOf m.kd) 99 W hlen; rw [us_bit hp.1 99 256 (by simp [letters])] at h1; exact h1)
  have H_hr : Hid (∀ W, Calls Tryd.prog 24 #[.string ⟨(usOf m.kd).toArray⟩, .int .u8 114] W fun e w' => e = .returned (.bool (ut (usedT m.kd) 512)) ∧ W = w') := hide (fun W => by have h1 := rhasc_any (usOf m.kd) 114 W hlen; rw [us_bit hp.1 114 512 (by simp [letters])] at h1; exact h1)
  unfold str
  generalize usOf m.kd = s at *
  clear hlen
  have HK := hide (kinds_ok hp.1)
  have L27 : Hid (ut (usedT m.kd) 2 = true → valB m.br m.bn = false → chkM m = 27) := hide (fun h1 h2 => by rw [HCM.out]; unfold chk2; rw [if_pos ⟨h1, h2⟩])
  have LV := hide (chk2_val hp hen)
  have LO := hide (chk2_votes hp)
  have LR := hide (chk2_rest hp hen)
  clear hp
  go_upto_region 4 with fail
  go_cut [18] (fun x wx => ∃ bad : Bool, x = .bool bad ∧ Hid (bad = true → chkM m = 27) ∧ Hid (bad = false → ¬ (ut (usedT m.kd) 2 = true ∧ valB m.br m.bn = false)) ∧ Below w.heap.size w wx ∧ Hid (wx.heap[w.heap.size]? = some (.cells m.cells 37 (0, 0))))
  case first =>
    go_wp2_with fail
    refine (H_hb.out _).mono ?_
    rintro e w' ⟨rfl, rfl⟩
    cases hb : ut (usedT m.kd) 2 with
    | false =>
      have HB := hide hb
      clear hb
      go_wp2_with fail
      go_meet
      exact ⟨false, rfl, hide (fun h => by cases h), hide (fun _ h => by rw [HB.out] at h; cases h.1), b2, HP2⟩
    | true =>
      have c4 := (row_cells HP2.out 4).1
      have c5 := (row_cells HP2.out 5).1
      simp only [Msgv.cells, List.getElem?_toArray, List.getElem?_cons_succ, List.getElem?_cons_zero] at c4 c5
      have HB := hide hb
      clear hb
      go_wp2_with fail
      refine (rbvalid_any m.br m.bn _).mono ?_
      rintro e w3 ⟨rfl, b3'⟩
      have HP3 := hide ((b3'.block w.heap.size hz2).trans HP2.out)
      have b3 := b2.trans (b3'.mono b2.size)
      cases hvl : valB m.br m.bn with
      | false =>
        have H27 := hide (L27.out HB.out hvl)
        clear hvl
        go_wp2_with fail
        go_meet
        exact ⟨true, rfl, hide (fun _ => H27.out), hide (fun h => by cases h), b3, HP3⟩
      | true =>
        have HVL := hide hvl
        clear hvl
        go_wp2_with fail
        go_meet
        exact ⟨false, rfl, hide (fun h => by cases h), hide (fun _ h => by rw [HVL.out] at h; cases h.2), b3, HP3⟩
  clear b2 HP2 hz2 L27 H_hb
  obtain ⟨bad, rfl, L1, L2, b3, HP3⟩ := hcut
  have hz3 := lt_of_block HP3.out
  generalize wc = w3 at *
  cases bad with
  | true =>
    have HE := hide (L1.out rfl)
    go_wp2
    go_ret
    exact ⟨by rw [HE.out]; rfl, b3⟩
  | false =>
    have HNB := hide (L2.out rfl)
    clear L1 L2
    go_wp2_with fail
    refine (H_hv.out _).mono ?_
    rintro e w' ⟨rfl, rfl⟩
    cases hv : ut (usedT m.kd) 64 with
    | true =>
      have HE := hide (HCM.out.trans (LV.out HNB.out hv))
      have c9 := (row_cells HP3.out 9).1
      have c10 := (row_cells HP3.out 10).1
      have c11 := (row_cells HP3.out 11).1
      simp only [Msgv.cells, List.getElem?_toArray, List.getElem?_cons_succ, List.getElem?_cons_zero] at c9 c10 c11
      have hm3 := HMM.out _ b3
      clear hv
      go_wp2_with fail
      refine (rvcheck_any m.v.k m.v.A m.v.D m.v.n m.v.c m.v.m m.v.d B m.v.cs m.v.ns w3 hm3.v.c hm3.v.i (by have := b3.size; omega) hm3.v.en hm3.v.em (by have := hm3.v.lm; omega)).mono ?_
      rintro e w4 ⟨rfl, b4⟩
      go_wp2
      go_ret
      exact ⟨by rw [HE.out]; rfl, b3.trans (b4.mono b3.size)⟩
    | false =>
      have HV := hide hv
      clear hv
      go_wp2_with fail
      refine (H_ho.out _).mono ?_
      rintro e w' ⟨rfl, rfl⟩
      cases ho : ut (usedT m.kd) 128 with
      | true =>
        have HE := hide (HCM.out.trans (LO.out HNB.out HV.out ho))
        have c12 := (row_cells HP3.out 12).1
        have c6 := (row_cells HP3.out 6).1
        simp only [Msgv.cells, List.getElem?_toArray, List.getElem?_cons_succ, List.getElem?_cons_zero] at c12 c6
        have hm3 := HMM.out _ b3
        clear ho
        go_wp2_with fail
        refine (rcheckvotes_any m.VA m.vn m.vc B m.vs m.sl w3 hm3.vt (by have := b3.size; omega) hm3.en).mono ?_
        rintro e w4 ⟨rfl, b4⟩
        go_wp2
        go_ret
        exact ⟨by rw [HE.out]; rfl, b3.trans (b4.mono b3.size)⟩
      | false =>
        have HR := hide (HCM.out.trans (LR.out HNB.out HV.out ho))
        clear ho LV LO LR HCM HNB HV
        have hkc := HK.out.c
        have hkr := HK.out.r
        have c13 := (row_cells HP3.out 13).1
        have c14 := (row_cells HP3.out 14).1
        have c15 := (row_cells HP3.out 15).1
        have c16 := (row_cells HP3.out 16).1
        have c17 := (row_cells HP3.out 17).1
        have c18 := (row_cells HP3.out 18).1
        have c19 := (row_cells HP3.out 19).1
        have c20 := (row_cells HP3.out 20).1
        simp only [Msgv.cells, List.getElem?_toArray, List.getElem?_cons_succ, List.getElem?_cons_zero] at c13 c14 c15 c16 c17 c18 c19 c20
        go_upto_region 11 with fail
        have hc4 := heap_alloc_new w3 (.cells #[.int .i64 m.cm.s, .int .i64 m.cm.q, .int .i64 m.cm.a, .int .i64 m.cm.k, .int .i64 m.cm.r, .int .i64 m.cm.t, .int .i64 m.cm.re, .int .i64 m.cm.im] 32)
        have b4' := (Below.refl _ w3).alloc (Nat.le_refl _) (.cells #[.int .i64 m.cm.s, .int .i64 m.cm.q, .int .i64 m.cm.a, .int .i64 m.cm.k, .int .i64 m.cm.r, .int .i64 m.cm.t, .int .i64 m.cm.re, .int .i64 m.cm.im] 32)
        generalize w3.alloc (.cells #[.int .i64 m.cm.s, .int .i64 m.cm.q, .int .i64 m.cm.a, .int .i64 m.cm.k, .int .i64 m.cm.r, .int .i64 m.cm.t, .int .i64 m.cm.re, .int .i64 m.cm.im] 32) = w4 at *
        have HP4 := hide ((b4'.block w.heap.size hz3).trans HP3.out)
        have b4 := b3.trans (b4'.mono b3.size)
        have hz4 := lt_of_block hc4
        clear c13 c14 c15 c16 c17 c18 c19 c20 HP3 b3 b4'
        generalize w3.heap.size = gc at *
        have c0 := (row_cells HP4.out 0).1
        simp only [Msgv.cells, List.getElem?_toArray, List.getElem?_cons_zero] at c0
        by_cases k14 : m.kd = 14
        · have tk : (m.kd == 14) = true := by rw [beq_iff_eq]; exact k14
          rw [tk] at hkr
          rw [tk, Bool.or_true] at hkc
          rw [hkc] at H_hc
          rw [hkr] at H_hr
          have ke := fun w => equal_op 9998 m.cm.k m.cm.r m.cm.t m.cm.re m.cm.im 0 0 0 0 0 w
          obtain ⟨_, f3⟩ := row_cells hc4 3
          have d0 := (row_cells hc4 0).1
          have d1 := (row_cells hc4 1).1
          have d2 := (row_cells hc4 2).1
          have d3 := (row_cells hc4 3).1
          have d4 := (row_cells hc4 4).1
          have d5 := (row_cells hc4 5).1
          have d6 := (row_cells hc4 6).1
          have d7 := (row_cells hc4 7).1
          simp only [List.getElem?_toArray, List.getElem?_cons_succ, List.getElem?_cons_zero] at d0 d1 d2 d3 d4 d5 d6 d7
          by_cases hok : m.cm.a = 0 ∧ [m.cm.k, m.cm.r, m.cm.t, m.cm.re, m.cm.im] = [0, 0, 0, 0, 0]
          rotate_left
          · have HE : Hid (chkM m = 23) := hide (by
              have e := chkMC14_bad hok
              rw [HR.out, k14, e]
              rfl)
            by_cases ha : m.cm.a = 0
            · rw [decide_eq_false (fun h => hok ⟨ha, h⟩)] at ke
              have ta : (m.cm.a != 0) = false := by simp [ha]
              clear hok HR k14
              go_wp2
              go_ret
              exact ⟨by rw [HE.out]; rfl, b4⟩
            · have ta : (m.cm.a != 0) = true := by rw [bne_iff_ne]; exact ha
              clear hok HR k14 ha
              go_wp2
              go_ret
              exact ⟨by rw [HE.out]; rfl, b4⟩
          have hMC := chkMC14 hok
          rw [decide_eq_true hok.2] at ke
          have ta : (m.cm.a != 0) = false := by simp [hok.1]
          have HR2 : Hid (chkM m = if chkC (c14 m.cm) ≠ 0 then chkC (c14 m.cm) else if resB m.rk m.rr m.ri = false then 26 else 0) := hide (by
            rw [HR.out, k14, hMC]
            simp)
          have hc5 : (w4.setCell ⟨gc, 3, none⟩ (.int .i64 1)).heap[gc]? = some (.cells #[.int .i64 m.cm.s, .int .i64 m.cm.q, .int .i64 0, .int .i64 1, .int .i64 0, .int .i64 0, .int .i64 0, .int .i64 0] 32 (0, 0)) := by
            have h2 := hok.2
            simp only [List.cons.injEq, and_true] at h2
            obtain ⟨q1, q2, q3, q4, q5⟩ := h2
            simp [World.setCell, Array.getElem?_modify, hc4, hok.1, q2, q3, q4, q5]
          have hk5 : Kept (fun k => k = gc) w4 (w4.setCell ⟨gc, 3, none⟩ (.int .i64 1)) := (Kept.refl (fun k => k = gc) w4).setCell (p := ⟨gc, 3, none⟩) (.inl rfl) _
          clear hMC hok HR k14
          go_upto_region 15 with fail
          generalize w4.setCell ⟨gc, 3, none⟩ (.int .i64 1) = w5 at *
          have hlm := lt_of_block HP4.out
          have HP5 := hide ((hk5.block w.heap.size (by omega) (by omega)).trans HP4.out)
          have b5 := b4.trans (hk5.below b4.size (fun k hk => by omega))
          have hz5 := lt_of_block hc5
          clear d0 d1 d2 d3 d4 d5 d6 d7 f3 ke ta hc4 hk5 HP4 b4
          have d0 := (row_cells hc5 0).1
          have d1 := (row_cells hc5 1).1
          have d2 := (row_cells hc5 2).1
          have d3 := (row_cells hc5 3).1
          have d4 := (row_cells hc5 4).1
          have d5 := (row_cells hc5 5).1
          have d6 := (row_cells hc5 6).1
          have d7 := (row_cells hc5 7).1
          simp only [List.getElem?_toArray, List.getElem?_cons_succ, List.getElem?_cons_zero] at d0 d1 d2 d3 d4 d5 d6 d7
          go_wp2_with fail
          refine (H_hc.out _).mono ?_
          rintro e w' ⟨rfl, rfl⟩
          go_wp2_with fail
          refine (rcheckcmd_any (c14 m.cm) _).mono ?_
          rintro e w6 ⟨rfl, b6'⟩
          have hc6 := (b6'.block gc hz5).trans hc5
          have HP6 := hide ((b6'.block w.heap.size (by have := b5.size; have := lt_of_block HP5.out; omega)).trans HP5.out)
          have b6 := b5.trans (b6'.mono b5.size)
          clear d0 d1 d2 d3 d4 d5 d6 d7
          by_cases hcc : chkC (c14 m.cm) = 0
          rotate_left
          · have HE := hide (HR2.out.trans (if_pos hcc))
            have tcc : (chkC (c14 m.cm) != 0) = true := by rw [bne_iff_ne]; exact hcc
            have d0 := (row_cells hc6 0).1
            have d1 := (row_cells hc6 1).1
            have d2 := (row_cells hc6 2).1
            have d3 := (row_cells hc6 3).1
            have d4 := (row_cells hc6 4).1
            have d5 := (row_cells hc6 5).1
            have d6 := (row_cells hc6 6).1
            have d7 := (row_cells hc6 7).1
            simp only [List.getElem?_toArray, List.getElem?_cons_succ, List.getElem?_cons_zero] at d0 d1 d2 d3 d4 d5 d6 d7
            go_wp2_with fail
            refine (rcheckcmd_any (c14 m.cm) _).mono ?_
            rintro e w7 ⟨rfl, b7'⟩
            go_wp2
            go_ret
            exact ⟨by rw [HE.out]; rfl, b6.trans (b7'.mono b6.size)⟩
          have HR3 := hide (HR2.out.trans (if_neg (fun h => h hcc)))
          rw [hcc]
          have c21 := (row_cells HP6.out 21).1
          have c22 := (row_cells HP6.out 22).1
          have c23 := (row_cells HP6.out 23).1
          simp only [Msgv.cells, List.getElem?_toArray, List.getElem?_cons_succ, List.getElem?_cons_zero] at c21 c22 c23
          clear HR2 hcc
          go_wp2_with fail
          refine (H_hr.out _).mono ?_
          rintro e w' ⟨rfl, rfl⟩
          have hres := resB_of (k := m.rk) (r := m.rr) (i := m.ri)
          by_cases r1 : m.rk < 1
          · have HE : Hid (chkM m = 26) := hide (HR3.out.trans (if_pos (by rw [hres, decide_eq_false (by omega)]; rfl)))
            have tr1 : decide (m.rk < 1) = true := decide_eq_true r1
            clear r1 hres
            go_wp2
            go_ret
            exact ⟨by rw [HE.out]; rfl, b6⟩
          by_cases r2 : 9 < m.rk
          · have HE : Hid (chkM m = 26) := hide (HR3.out.trans (if_pos (by rw [hres, decide_eq_false (by omega)]; rfl)))
            have tr1 : decide (m.rk < 1) = false := decide_eq_false r1
            have tr2 : decide (9 < m.rk) = true := decide_eq_true r2
            clear r1 r2 hres
            go_wp2
            go_ret
            exact ⟨by rw [HE.out]; rfl, b6⟩
          have tr1 : decide (m.rk < 1) = false := decide_eq_false r1
          have tr2 : decide (9 < m.rk) = false := decide_eq_false r2
          have HR4 : Hid (chkM m = if in2 m.rr m.ri = false then 26 else 0) := hide (by rw [HR3.out, hres, decide_eq_true (show 1 ≤ m.rk ∧ m.rk ≤ 9 by omega)]; rfl)
          clear r1 r2 hres HR3
          go_wp2_with fail
          refine (rvalid1_any m.rr m.ri _).mono ?_
          rintro e w7 ⟨rfl, b7'⟩
          cases hin : in2 m.rr m.ri with
          | true =>
            have HE : Hid (chkM m = 0) := hide (by rw [HR4.out, hin]; rfl)
            clear hin
            go_wp2
            go_ret
            exact ⟨by rw [HE.out]; rfl, b6.trans (b7'.mono b6.size)⟩
          | false =>
            have HE : Hid (chkM m = 26) := hide (by rw [HR4.out, hin]; rfl)
            clear hin
            go_wp2
            go_ret
            exact ⟨by rw [HE.out]; rfl, b6.trans (b7'.mono b6.size)⟩
        · have tk : (m.kd == 14) = false := by rw [beq_eq_false_iff_ne]; exact k14
          rw [tk] at hkr
          rw [tk, Bool.or_false] at hkc
          have HR : Hid (chkM m = chkMC m.kd m.cm) := hide (by
            rw [HR.out]
            by_cases h : chkMC m.kd m.cm ≠ 0
            · rw [if_pos h]
            · rw [if_neg h, if_neg (fun h => k14 h.1)]
              omega)
          rw [hkc] at H_hc
          rw [hkr] at H_hr
          obtain ⟨d0, _⟩ := row_cells hc4 0
          have d1 := (row_cells hc4 1).1
          have d2 := (row_cells hc4 2).1
          have d3 := (row_cells hc4 3).1
          have d4 := (row_cells hc4 4).1
          have d5 := (row_cells hc4 5).1
          have d6 := (row_cells hc4 6).1
          have d7 := (row_cells hc4 7).1
          simp only [List.getElem?_toArray, List.getElem?_cons_succ, List.getElem?_cons_zero] at d0 d1 d2 d3 d4 d5 d6 d7
          by_cases k13 : m.kd = 13
          · have tk13 : (m.kd == 13) = true := by rw [beq_iff_eq]; exact k13
            have HE : Hid (chkM m = chkC m.cm) := hide (by rw [HR.out, k13]; rfl)
            rw [tk13] at H_hc
            go_wp2_with fail
            refine (H_hc.out _).mono ?_
            rintro e w' ⟨rfl, rfl⟩
            go_wp2_with fail
            refine (rcheckcmd_any m.cm _).mono ?_
            rintro e w5 ⟨rfl, b5'⟩
            have hc5 := (b5'.block gc hz4).trans hc4
            have HP5 := hide ((b5'.block w.heap.size (by have := b4.size; have := lt_of_block HP4.out; omega)).trans HP4.out)
            have b5 := b4.trans (b5'.mono b4.size)
            clear d0 d1 d2 d3 d4 d5 d6 d7
            by_cases hcc : chkC m.cm = 0
            · have HE0 : Hid (chkM m = 0) := hide (HE.out.trans hcc)
              rw [hcc]
              go_wp2_with fail
              refine (H_hr.out _).mono ?_
              rintro e w' ⟨rfl, rfl⟩
              go_wp2
              go_ret
              exact ⟨by rw [HE0.out]; rfl, b5⟩
            · have tcc : (chkC m.cm != 0) = true := by rw [bne_iff_ne]; exact hcc
              obtain ⟨d0, _⟩ := row_cells hc5 0
              have d1 := (row_cells hc5 1).1
              have d2 := (row_cells hc5 2).1
              have d3 := (row_cells hc5 3).1
              have d4 := (row_cells hc5 4).1
              have d5 := (row_cells hc5 5).1
              have d6 := (row_cells hc5 6).1
              have d7 := (row_cells hc5 7).1
              simp only [List.getElem?_toArray, List.getElem?_cons_succ, List.getElem?_cons_zero] at d0 d1 d2 d3 d4 d5 d6 d7
              go_wp2_with fail
              refine (rcheckcmd_any m.cm _).mono ?_
              rintro e w6 ⟨rfl, b6'⟩
              go_wp2
              go_ret
              exact ⟨by rw [HE.out]; rfl, b5.trans (b6'.mono b5.size)⟩
          · have tk13 : (m.kd == 13) = false := by rw [beq_eq_false_iff_ne]; exact k13
            have HE : Hid (chkM m = 0) := hide (by rw [HR.out]; exact chkMC_no ⟨k13, k14⟩)
            rw [tk13] at H_hc
            go_wp2_with fail
            refine (H_hc.out _).mono ?_
            rintro e w' ⟨rfl, rfl⟩
            go_wp2_with fail
            refine (H_hr.out _).mono ?_
            rintro e w' ⟨rfl, rfl⟩
            go_wp2
            go_ret
            exact ⟨by rw [HE.out]; rfl, b4⟩
end Go.Proofs.YtapbcpilklhoiabDoor
