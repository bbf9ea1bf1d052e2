/-
  plain of the reference. Conditions: what is read is in reach.
-/
import Derived.Test.YtapbcpilklhoiabDoorMY20
import Derived.Test.YtapbcpilklhoiabDoorMY15
import Derived.Deep.DeepCutAuto
import Derived.Deep.Cut
set_option linter.unusedSimpArgs false
set_option linter.unusedVariables false

namespace Go.Proofs.YtapbcpilklhoiabDoor
open Go.RowKit

def G4 (m : Msgv) : Prop := (ut (usedT m.kd) 2 = false → [m.br, m.bn] = [0, 0]) ∧ (ut (usedT m.kd) 4 = false → m.sl = 0) ∧ (ut (usedT m.kd) 16 = false → m.lw = 0) ∧ (ut (usedT m.kd) 32 = false → m.tm = 0)
instance (m : Msgv) : Decidable (G4 m) := by unfold G4; infer_instance
def G6 (m : Msgv) : Prop := (ut (usedT m.kd) 64 = false → sameV m.v.k m.v.cs m.v.ns 0 [] [] = true) ∧ (ut (usedT m.kd) 128 = false → m.vn = 0) ∧ (ut (usedT m.kd) 256 = false → eqC m.cm zeroC = true)
instance (m : Msgv) : Decidable (G6 m) := by unfold G6; infer_instance
def G8 (m : Msgv) : Prop := (ut (usedT m.kd) 512 = false → [m.rk, m.rr, m.ri] = [0, 0, 0]) ∧ (ut (usedT m.kd) 1024 = false → m.dn = 0) ∧ m.dn ≤ 1024
instance (m : Msgv) : Decidable (G8 m) := by unfold G8; infer_instance
theorem isV_nil7 (w : World) (B : Nat) : IsV w B none 0 none 0 [] [] := ⟨HasC.nil _ _ _, HasI.nil _ _ _, rfl, rfl, by omega, by omega, by simp⟩
set_option maxRecDepth 20000 in
set_option maxHeartbeats 12800000 in
theorem rplain_any (m : Msgv) (B : Nat) (w : World) (hm : IsM w B m) (hB : B ≤ w.heap.size) :
    Calls Tryd.prog 23 #[.agg m.cells] w fun e w' => e = .returned (.bool (plB m)) ∧ Below w.heap.size w w' := by
  have HVV : Hid (∀ W, Below w.heap.size w W → IsV W B m.v.A m.v.n m.v.D m.v.m m.v.cs m.v.ns) := hide (fun W h => hm.v.below (h.mono hB))
  have HEX : Hid (∀ h : ¬ PlP m, plB m = false) := hide (fun h => decide_eq_false h)
  clear hm
  have hlen : (usOf m.kd).length ≤ 1000000 := by
    unfold usOf
    split
    · rename_i h
      have hh : (List.range 15).all (fun k => decide ((usS.getD k []).length ≤ 1000000)) = true := by decide +kernel
      exact of_decide_eq_true (List.all_eq_true.1 hh m.kd.toNat (List.mem_range.2 (by omega)))
    · simp
  go_enter Tryd.func23, Tryd.ntmps23
  go_upto_region 1 with fail
  have hp0 := heap_alloc_new w (.cells m.cells 37)
  have b0 : Below w.heap.size w (w.alloc (.cells m.cells 37)) := by go_grown
  generalize w.alloc (.cells m.cells 37) = w0 at *
  have HP0 := hide hp0
  have hz0 := lt_of_block hp0
  clear hp0
  have c0 := (row_cells HP0.out 0).1
  simp only [Msgv.cells, List.getElem?_toArray, List.getElem?_cons_zero] at c0
  go_wp2_with fail
  refine (ruses_any m.kd w0).mono ?_
  rintro e w1 ⟨rfl, b1'⟩
  have HP1 := hide ((b1'.block w.heap.size hz0).trans HP0.out)
  have b1 := b0.trans (b1'.mono b0.size)
  have hz1 := lt_of_block HP1.out
  clear HP0 b0 b1' hz0 c0
  have hse := us_nil m.kd
  unfold str
  by_cases hu : usedT m.kd = 0
  · have HE := hide (HEX.out (fun h => h.1 hu))
    have t0 : (usedT m.kd == 0) = true := by rw [beq_iff_eq]; exact hu
    rw [t0] at hse
    clear hu t0
    generalize usOf m.kd = s at *
    go_wp2
    go_ret
    exact ⟨by rw [HE.out]; rfl, b1⟩
  have t0 : (usedT m.kd == 0) = false := by rw [beq_eq_false_iff_ne]; exact hu
  rw [t0] at hse
  have H_hb : Hid (∀ W, Calls Tryd.prog 24 #[.string ⟨(usOf m.kd).toArray⟩, .int .u8 98] W fun e w' => e = .returned (.bool (ut (usedT m.kd) 2)) ∧ W = w') := hide (fun W => by have h1 := rhasc_any (usOf m.kd) 98 W hlen; rw [us_bit hu 98 2 (by simp [letters])] at h1; exact h1)
  have H_hs : Hid (∀ W, Calls Tryd.prog 24 #[.string ⟨(usOf m.kd).toArray⟩, .int .u8 115] W fun e w' => e = .returned (.bool (ut (usedT m.kd) 4)) ∧ W = w') := hide (fun W => by have h1 := rhasc_any (usOf m.kd) 115 W hlen; rw [us_bit hu 115 4 (by simp [letters])] at h1; exact h1)
  have H_hl : Hid (∀ W, Calls Tryd.prog 24 #[.string ⟨(usOf m.kd).toArray⟩, .int .u8 108] W fun e w' => e = .returned (.bool (ut (usedT m.kd) 16)) ∧ W = w') := hide (fun W => by have h1 := rhasc_any (usOf m.kd) 108 W hlen; rw [us_bit hu 108 16 (by simp [letters])] at h1; exact h1)
  have H_ht : Hid (∀ W, Calls Tryd.prog 24 #[.string ⟨(usOf m.kd).toArray⟩, .int .u8 116] W fun e w' => e = .returned (.bool (ut (usedT m.kd) 32)) ∧ W = w') := hide (fun W => by have h1 := rhasc_any (usOf m.kd) 116 W hlen; rw [us_bit hu 116 32 (by simp [letters])] at h1; exact h1)
  have H_hv : Hid (∀ W, Calls Tryd.prog 24 #[.string ⟨(usOf m.kd).toArray⟩, .int .u8 118] W fun e w' => e = .returned (.bool (ut (usedT m.kd) 64)) ∧ W = w') := hide (fun W => by have h1 := rhasc_any (usOf m.kd) 118 W hlen; rw [us_bit hu 118 64 (by simp [letters])] at h1; exact h1)
  have H_ho : Hid (∀ W, Calls Tryd.prog 24 #[.string ⟨(usOf m.kd).toArray⟩, .int .u8 111] W fun e w' => e = .returned (.bool (ut (usedT m.kd) 128)) ∧ W = w') := hide (fun W => by have h1 := rhasc_any (usOf m.kd) 111 W hlen; rw [us_bit hu 111 128 (by simp [letters])] at h1; exact h1)
  have H_hc : Hid (∀ W, Calls Tryd.prog 24 #[.string ⟨(usOf m.kd).toArray⟩, .int .u8 99] W fun e w' => e = .returned (.bool (ut (usedT m.kd) 256)) ∧ W = w') := hide (fun W => by have h1 := rhasc_any (usOf m.kd) 99 W hlen; rw [us_bit hu 99 256 (by simp [letters])] at h1; exact h1)
  have H_hr : Hid (∀ W, Calls Tryd.prog 24 #[.string ⟨(usOf m.kd).toArray⟩, .int .u8 114] W fun e w' => e = .returned (.bool (ut (usedT m.kd) 512)) ∧ W = w') := hide (fun W => by have h1 := rhasc_any (usOf m.kd) 114 W hlen; rw [us_bit hu 114 512 (by simp [letters])] at h1; exact h1)
  have H_hd : Hid (∀ W, Calls Tryd.prog 24 #[.string ⟨(usOf m.kd).toArray⟩, .int .u8 100] W fun e w' => e = .returned (.bool (ut (usedT m.kd) 1024)) ∧ W = w') := hide (fun W => by have h1 := rhasc_any (usOf m.kd) 100 W hlen; rw [us_bit hu 100 1024 (by simp [letters])] at h1; exact h1)
  generalize usOf m.kd = s at *
  generalize E_hb' : ut (usedT m.kd) 2 = hb at *
  have E_hb := hide E_hb'
  clear E_hb'
  generalize E_hs' : ut (usedT m.kd) 4 = hs at *
  have E_hs := hide E_hs'
  clear E_hs'
  generalize E_hl' : ut (usedT m.kd) 16 = hl at *
  have E_hl := hide E_hl'
  clear E_hl'
  generalize E_ht' : ut (usedT m.kd) 32 = ht at *
  have E_ht := hide E_ht'
  clear E_ht'
  generalize E_hv' : ut (usedT m.kd) 64 = hv at *
  have E_hv := hide E_hv'
  clear E_hv'
  generalize E_ho' : ut (usedT m.kd) 128 = ho at *
  have E_ho := hide E_ho'
  clear E_ho'
  generalize E_hc' : ut (usedT m.kd) 256 = hc at *
  have E_hc := hide E_hc'
  clear E_hc'
  generalize E_hr' : ut (usedT m.kd) 512 = hr at *
  have E_hr := hide E_hr'
  clear E_hr'
  generalize E_hd' : ut (usedT m.kd) 1024 = hd at *
  have E_hd := hide E_hd'
  clear E_hd'
  have HUU := hide hu
  clear hu t0 hlen
  have c1 := (row_cells HP1.out 1).1
  have c2 := (row_cells HP1.out 2).1
  have c3 := (row_cells HP1.out 3).1
  simp only [Msgv.cells, List.getElem?_toArray, List.getElem?_cons_succ, List.getElem?_cons_zero] at c1 c2 c3
  by_cases q0 : m.fr < 0
  · have HE := hide (HEX.out (fun h => by have := h.2.1; omega))
    have tq0 : decide (m.fr < 0) = true := decide_eq_true q0
    clear q0
    go_wp2
    go_ret
    exact ⟨by rw [HE.out]; rfl, b1⟩
  have tq0 : decide (m.fr < 0) = false := decide_eq_false q0
  have Q0 := hide q0
  clear q0
  by_cases q1 : 9 < m.fr
  · have HE := hide (HEX.out (fun h => by have := h.2.1; omega))
    have tq1 : decide (9 < m.fr) = true := decide_eq_true q1
    clear q1
    go_wp2
    go_ret
    exact ⟨by rw [HE.out]; rfl, b1⟩
  have tq1 : decide (9 < m.fr) = false := decide_eq_false q1
  have Q1 := hide q1
  clear q1
  by_cases q2 : m.tt < 0
  · have HE := hide (HEX.out (fun h => by have := h.2.1; omega))
    have tq2 : decide (m.tt < 0) = true := decide_eq_true q2
    clear q2
    go_wp2
    go_ret
    exact ⟨by rw [HE.out]; rfl, b1⟩
  have tq2 : decide (m.tt < 0) = false := decide_eq_false q2
  have Q2 := hide q2
  clear q2
  by_cases q3 : 9 < m.tt
  · have HE := hide (HEX.out (fun h => by have := h.2.1; omega))
    have tq3 : decide (9 < m.tt) = true := decide_eq_true q3
    clear q3
    go_wp2
    go_ret
    exact ⟨by rw [HE.out]; rfl, b1⟩
  have tq3 : decide (9 < m.tt) = false := decide_eq_false q3
  have Q3 := hide q3
  clear q3
  by_cases q4 : m.ep < 0
  · have HE := hide (HEX.out (fun h => by have := h.2.1; omega))
    have tq4 : decide (m.ep < 0) = true := decide_eq_true q4
    clear q4
    go_wp2
    go_ret
    exact ⟨by rw [HE.out]; rfl, b1⟩
  have tq4 : decide (m.ep < 0) = false := decide_eq_false q4
  have Q4 := hide q4
  clear q4
  by_cases q5 : 1099511627776 < m.ep
  · have HE := hide (HEX.out (fun h => by have := h.2.1; omega))
    have tq5 : decide (1099511627776 < m.ep) = true := decide_eq_true q5
    clear q5
    go_wp2
    go_ret
    exact ⟨by rw [HE.out]; rfl, b1⟩
  have tq5 : decide (1099511627776 < m.ep) = false := decide_eq_false q5
  have Q5 := hide q5
  clear q5
  go_upto_region 4 with fail
  clear c1 c2 c3 tq0 tq1 tq2 tq3 tq4 tq5 hse
  go_cut [78] (fun v wx => v = .bool (decide (¬ G4 m)) ∧ Below w.heap.size w wx ∧ Hid (wx.heap[w.heap.size]? = some (.cells m.cells 37 (0, 0))))
  case first =>
   as_aux_lemma =>
    have c4 := (row_cells HP1.out 4).1
    have c5 := (row_cells HP1.out 5).1
    have c6 := (row_cells HP1.out 6).1
    have c7 := (row_cells HP1.out 7).1
    have c8 := (row_cells HP1.out 8).1
    simp only [Msgv.cells, List.getElem?_toArray, List.getElem?_cons_succ, List.getElem?_cons_zero] at c4 c5 c6 c7 c8
    go_wp2_with fail
    refine (H_hb.out _).mono ?_
    rintro e w' ⟨rfl, rfl⟩
    cases hb with
    | true =>
      go_wp2_with fail
      refine (H_hs.out _).mono ?_
      rintro e w' ⟨rfl, rfl⟩
      cases hs with
      | true =>
        go_wp2_with fail
        refine (H_hl.out _).mono ?_
        rintro e w' ⟨rfl, rfl⟩
        cases hl with
        | true =>
          go_wp2_with fail
          refine (H_ht.out _).mono ?_
          rintro e w' ⟨rfl, rfl⟩
          cases ht with
          | true =>
            go_wp2_with fail
            have HB : Hid (G4 m) := hide ⟨fun e => absurd (E_hb.out.symm.trans e) (by simp), fun e => absurd (E_hs.out.symm.trans e) (by simp), fun e => absurd (E_hl.out.symm.trans e) (by simp), fun e => absurd (E_ht.out.symm.trans e) (by simp)⟩
            go_wp2_with fail
            go_meet
            exact ⟨congrArg Value.bool (decide_eq_false (fun h => h HB.out)).symm, b1, HP1⟩
          | false =>
            by_cases z_tm : m.tm = 0
            · have tz_tm : (m.tm != 0) = false := by simp [z_tm]
              go_wp2_with fail
              have HB : Hid (G4 m) := hide ⟨fun e => absurd (E_hb.out.symm.trans e) (by simp), fun e => absurd (E_hs.out.symm.trans e) (by simp), fun e => absurd (E_hl.out.symm.trans e) (by simp), fun _ => z_tm⟩
              go_wp2_with fail
              go_meet
              exact ⟨congrArg Value.bool (decide_eq_false (fun h => h HB.out)).symm, b1, HP1⟩
            · have tz_tm : (m.tm != 0) = true := by rw [bne_iff_ne]; exact z_tm
              have HB : Hid (¬ G4 m) := hide (fun g => z_tm (g.2.2.2 E_ht.out))
              go_wp2_with fail
              go_meet
              exact ⟨congrArg Value.bool (decide_eq_true HB.out).symm, b1, HP1⟩
        | false =>
          by_cases z_lw : m.lw = 0
          · have tz_lw : (m.lw != 0) = false := by simp [z_lw]
            go_wp2_with fail
            refine (H_ht.out _).mono ?_
            rintro e w' ⟨rfl, rfl⟩
            cases ht with
            | true =>
              go_wp2_with fail
              have HB : Hid (G4 m) := hide ⟨fun e => absurd (E_hb.out.symm.trans e) (by simp), fun e => absurd (E_hs.out.symm.trans e) (by simp), fun _ => z_lw, fun e => absurd (E_ht.out.symm.trans e) (by simp)⟩
              go_wp2_with fail
              go_meet
              exact ⟨congrArg Value.bool (decide_eq_false (fun h => h HB.out)).symm, b1, HP1⟩
            | false =>
              by_cases z_tm : m.tm = 0
              · have tz_tm : (m.tm != 0) = false := by simp [z_tm]
                go_wp2_with fail
                have HB : Hid (G4 m) := hide ⟨fun e => absurd (E_hb.out.symm.trans e) (by simp), fun e => absurd (E_hs.out.symm.trans e) (by simp), fun _ => z_lw, fun _ => z_tm⟩
                go_wp2_with fail
                go_meet
                exact ⟨congrArg Value.bool (decide_eq_false (fun h => h HB.out)).symm, b1, HP1⟩
              · have tz_tm : (m.tm != 0) = true := by rw [bne_iff_ne]; exact z_tm
                have HB : Hid (¬ G4 m) := hide (fun g => z_tm (g.2.2.2 E_ht.out))
                go_wp2_with fail
                go_meet
                exact ⟨congrArg Value.bool (decide_eq_true HB.out).symm, b1, HP1⟩
          · have tz_lw : (m.lw != 0) = true := by rw [bne_iff_ne]; exact z_lw
            have HB : Hid (¬ G4 m) := hide (fun g => z_lw (g.2.2.1 E_hl.out))
            go_wp2_with fail
            go_meet
            exact ⟨congrArg Value.bool (decide_eq_true HB.out).symm, b1, HP1⟩
      | false =>
        by_cases z_sl : m.sl = 0
        · have tz_sl : (m.sl != 0) = false := by simp [z_sl]
          go_wp2_with fail
          refine (H_hl.out _).mono ?_
          rintro e w' ⟨rfl, rfl⟩
          cases hl with
          | true =>
            go_wp2_with fail
            refine (H_ht.out _).mono ?_
            rintro e w' ⟨rfl, rfl⟩
            cases ht with
            | true =>
              go_wp2_with fail
              have HB : Hid (G4 m) := hide ⟨fun e => absurd (E_hb.out.symm.trans e) (by simp), fun _ => z_sl, fun e => absurd (E_hl.out.symm.trans e) (by simp), fun e => absurd (E_ht.out.symm.trans e) (by simp)⟩
              go_wp2_with fail
              go_meet
              exact ⟨congrArg Value.bool (decide_eq_false (fun h => h HB.out)).symm, b1, HP1⟩
            | false =>
              by_cases z_tm : m.tm = 0
              · have tz_tm : (m.tm != 0) = false := by simp [z_tm]
                go_wp2_with fail
                have HB : Hid (G4 m) := hide ⟨fun e => absurd (E_hb.out.symm.trans e) (by simp), fun _ => z_sl, fun e => absurd (E_hl.out.symm.trans e) (by simp), fun _ => z_tm⟩
                go_wp2_with fail
                go_meet
                exact ⟨congrArg Value.bool (decide_eq_false (fun h => h HB.out)).symm, b1, HP1⟩
              · have tz_tm : (m.tm != 0) = true := by rw [bne_iff_ne]; exact z_tm
                have HB : Hid (¬ G4 m) := hide (fun g => z_tm (g.2.2.2 E_ht.out))
                go_wp2_with fail
                go_meet
                exact ⟨congrArg Value.bool (decide_eq_true HB.out).symm, b1, HP1⟩
          | false =>
            by_cases z_lw : m.lw = 0
            · have tz_lw : (m.lw != 0) = false := by simp [z_lw]
              go_wp2_with fail
              refine (H_ht.out _).mono ?_
              rintro e w' ⟨rfl, rfl⟩
              cases ht with
              | true =>
                go_wp2_with fail
                have HB : Hid (G4 m) := hide ⟨fun e => absurd (E_hb.out.symm.trans e) (by simp), fun _ => z_sl, fun _ => z_lw, fun e => absurd (E_ht.out.symm.trans e) (by simp)⟩
                go_wp2_with fail
                go_meet
                exact ⟨congrArg Value.bool (decide_eq_false (fun h => h HB.out)).symm, b1, HP1⟩
              | false =>
                by_cases z_tm : m.tm = 0
                · have tz_tm : (m.tm != 0) = false := by simp [z_tm]
                  go_wp2_with fail
                  have HB : Hid (G4 m) := hide ⟨fun e => absurd (E_hb.out.symm.trans e) (by simp), fun _ => z_sl, fun _ => z_lw, fun _ => z_tm⟩
                  go_wp2_with fail
                  go_meet
                  exact ⟨congrArg Value.bool (decide_eq_false (fun h => h HB.out)).symm, b1, HP1⟩
                · have tz_tm : (m.tm != 0) = true := by rw [bne_iff_ne]; exact z_tm
                  have HB : Hid (¬ G4 m) := hide (fun g => z_tm (g.2.2.2 E_ht.out))
                  go_wp2_with fail
                  go_meet
                  exact ⟨congrArg Value.bool (decide_eq_true HB.out).symm, b1, HP1⟩
            · have tz_lw : (m.lw != 0) = true := by rw [bne_iff_ne]; exact z_lw
              have HB : Hid (¬ G4 m) := hide (fun g => z_lw (g.2.2.1 E_hl.out))
              go_wp2_with fail
              go_meet
              exact ⟨congrArg Value.bool (decide_eq_true HB.out).symm, b1, HP1⟩
        · have tz_sl : (m.sl != 0) = true := by rw [bne_iff_ne]; exact z_sl
          have HB : Hid (¬ G4 m) := hide (fun g => z_sl (g.2.1 E_hs.out))
          go_wp2_with fail
          go_meet
          exact ⟨congrArg Value.bool (decide_eq_true HB.out).symm, b1, HP1⟩
    | false =>
      by_cases z_bal : [m.br, m.bn] = [0, 0]
      · have k_bal := fun w => equal_bal 9998 m.br m.bn 0 0 w
        rw [decide_eq_true z_bal] at k_bal
        go_wp2_with fail
        refine (H_hs.out _).mono ?_
        rintro e w' ⟨rfl, rfl⟩
        cases hs with
        | true =>
          go_wp2_with fail
          refine (H_hl.out _).mono ?_
          rintro e w' ⟨rfl, rfl⟩
          cases hl with
          | true =>
            go_wp2_with fail
            refine (H_ht.out _).mono ?_
            rintro e w' ⟨rfl, rfl⟩
            cases ht with
            | true =>
              go_wp2_with fail
              have HB : Hid (G4 m) := hide ⟨fun _ => z_bal, fun e => absurd (E_hs.out.symm.trans e) (by simp), fun e => absurd (E_hl.out.symm.trans e) (by simp), fun e => absurd (E_ht.out.symm.trans e) (by simp)⟩
              go_wp2_with fail
              go_meet
              exact ⟨congrArg Value.bool (decide_eq_false (fun h => h HB.out)).symm, b1, HP1⟩
            | false =>
              by_cases z_tm : m.tm = 0
              · have tz_tm : (m.tm != 0) = false := by simp [z_tm]
                go_wp2_with fail
                have HB : Hid (G4 m) := hide ⟨fun _ => z_bal, fun e => absurd (E_hs.out.symm.trans e) (by simp), fun e => absurd (E_hl.out.symm.trans e) (by simp), fun _ => z_tm⟩
                go_wp2_with fail
                go_meet
                exact ⟨congrArg Value.bool (decide_eq_false (fun h => h HB.out)).symm, b1, HP1⟩
              · have tz_tm : (m.tm != 0) = true := by rw [bne_iff_ne]; exact z_tm
                have HB : Hid (¬ G4 m) := hide (fun g => z_tm (g.2.2.2 E_ht.out))
                go_wp2_with fail
                go_meet
                exact ⟨congrArg Value.bool (decide_eq_true HB.out).symm, b1, HP1⟩
          | false =>
            by_cases z_lw : m.lw = 0
            · have tz_lw : (m.lw != 0) = false := by simp [z_lw]
              go_wp2_with fail
              refine (H_ht.out _).mono ?_
              rintro e w' ⟨rfl, rfl⟩
              cases ht with
              | true =>
                go_wp2_with fail
                have HB : Hid (G4 m) := hide ⟨fun _ => z_bal, fun e => absurd (E_hs.out.symm.trans e) (by simp), fun _ => z_lw, fun e => absurd (E_ht.out.symm.trans e) (by simp)⟩
                go_wp2_with fail
                go_meet
                exact ⟨congrArg Value.bool (decide_eq_false (fun h => h HB.out)).symm, b1, HP1⟩
              | false =>
                by_cases z_tm : m.tm = 0
                · have tz_tm : (m.tm != 0) = false := by simp [z_tm]
                  go_wp2_with fail
                  have HB : Hid (G4 m) := hide ⟨fun _ => z_bal, fun e => absurd (E_hs.out.symm.trans e) (by simp), fun _ => z_lw, fun _ => z_tm⟩
                  go_wp2_with fail
                  go_meet
                  exact ⟨congrArg Value.bool (decide_eq_false (fun h => h HB.out)).symm, b1, HP1⟩
                · have tz_tm : (m.tm != 0) = true := by rw [bne_iff_ne]; exact z_tm
                  have HB : Hid (¬ G4 m) := hide (fun g => z_tm (g.2.2.2 E_ht.out))
                  go_wp2_with fail
                  go_meet
                  exact ⟨congrArg Value.bool (decide_eq_true HB.out).symm, b1, HP1⟩
            · have tz_lw : (m.lw != 0) = true := by rw [bne_iff_ne]; exact z_lw
              have HB : Hid (¬ G4 m) := hide (fun g => z_lw (g.2.2.1 E_hl.out))
              go_wp2_with fail
              go_meet
              exact ⟨congrArg Value.bool (decide_eq_true HB.out).symm, b1, HP1⟩
        | false =>
          by_cases z_sl : m.sl = 0
          · have tz_sl : (m.sl != 0) = false := by simp [z_sl]
            go_wp2_with fail
            refine (H_hl.out _).mono ?_
            rintro e w' ⟨rfl, rfl⟩
            cases hl with
            | true =>
              go_wp2_with fail
              refine (H_ht.out _).mono ?_
              rintro e w' ⟨rfl, rfl⟩
              cases ht with
              | true =>
                go_wp2_with fail
                have HB : Hid (G4 m) := hide ⟨fun _ => z_bal, fun _ => z_sl, fun e => absurd (E_hl.out.symm.trans e) (by simp), fun e => absurd (E_ht.out.symm.trans e) (by simp)⟩
                go_wp2_with fail
                go_meet
                exact ⟨congrArg Value.bool (decide_eq_false (fun h => h HB.out)).symm, b1, HP1⟩
              | false =>
                by_cases z_tm : m.tm = 0
                · have tz_tm : (m.tm != 0) = false := by simp [z_tm]
                  go_wp2_with fail
                  have HB : Hid (G4 m) := hide ⟨fun _ => z_bal, fun _ => z_sl, fun e => absurd (E_hl.out.symm.trans e) (by simp), fun _ => z_tm⟩
                  go_wp2_with fail
                  go_meet
                  exact ⟨congrArg Value.bool (decide_eq_false (fun h => h HB.out)).symm, b1, HP1⟩
                · have tz_tm : (m.tm != 0) = true := by rw [bne_iff_ne]; exact z_tm
                  have HB : Hid (¬ G4 m) := hide (fun g => z_tm (g.2.2.2 E_ht.out))
                  go_wp2_with fail
                  go_meet
                  exact ⟨congrArg Value.bool (decide_eq_true HB.out).symm, b1, HP1⟩
            | false =>
              by_cases z_lw : m.lw = 0
              · have tz_lw : (m.lw != 0) = false := by simp [z_lw]
                go_wp2_with fail
                refine (H_ht.out _).mono ?_
                rintro e w' ⟨rfl, rfl⟩
                cases ht with
                | true =>
                  go_wp2_with fail
                  have HB : Hid (G4 m) := hide ⟨fun _ => z_bal, fun _ => z_sl, fun _ => z_lw, fun e => absurd (E_ht.out.symm.trans e) (by simp)⟩
                  go_wp2_with fail
                  go_meet
                  exact ⟨congrArg Value.bool (decide_eq_false (fun h => h HB.out)).symm, b1, HP1⟩
                | false =>
                  by_cases z_tm : m.tm = 0
                  · have tz_tm : (m.tm != 0) = false := by simp [z_tm]
                    go_wp2_with fail
                    have HB : Hid (G4 m) := hide ⟨fun _ => z_bal, fun _ => z_sl, fun _ => z_lw, fun _ => z_tm⟩
                    go_wp2_with fail
                    go_meet
                    exact ⟨congrArg Value.bool (decide_eq_false (fun h => h HB.out)).symm, b1, HP1⟩
                  · have tz_tm : (m.tm != 0) = true := by rw [bne_iff_ne]; exact z_tm
                    have HB : Hid (¬ G4 m) := hide (fun g => z_tm (g.2.2.2 E_ht.out))
                    go_wp2_with fail
                    go_meet
                    exact ⟨congrArg Value.bool (decide_eq_true HB.out).symm, b1, HP1⟩
              · have tz_lw : (m.lw != 0) = true := by rw [bne_iff_ne]; exact z_lw
                have HB : Hid (¬ G4 m) := hide (fun g => z_lw (g.2.2.1 E_hl.out))
                go_wp2_with fail
                go_meet
                exact ⟨congrArg Value.bool (decide_eq_true HB.out).symm, b1, HP1⟩
          · have tz_sl : (m.sl != 0) = true := by rw [bne_iff_ne]; exact z_sl
            have HB : Hid (¬ G4 m) := hide (fun g => z_sl (g.2.1 E_hs.out))
            go_wp2_with fail
            go_meet
            exact ⟨congrArg Value.bool (decide_eq_true HB.out).symm, b1, HP1⟩
      · have k_bal := fun w => equal_bal 9998 m.br m.bn 0 0 w
        rw [decide_eq_false z_bal] at k_bal
        have HB : Hid (¬ G4 m) := hide (fun g => z_bal (g.1 E_hb.out))
        go_wp2_with fail
        go_meet
        exact ⟨congrArg Value.bool (decide_eq_true HB.out).symm, b1, HP1⟩
  clear b1 HP1 hz1
  obtain ⟨rfl, b1, HP1⟩ := hcut
  have hz1 := lt_of_block HP1.out
  generalize wc = w1 at *
  by_cases gG4 : G4 m
  rotate_left
  · have HE := hide (HEX.out (fun h => gG4 h.2.2.1))
    rw [decide_eq_true gG4]
    go_wp2
    go_ret
    exact ⟨by rw [HE.out]; rfl, b1⟩
  rw [decide_eq_false (fun h => h gG4)]
  have HGG4 := hide gG4
  clear gG4
  go_upto_region 6 with fail
  go_cut [110] (fun v wx => v = .bool (decide (¬ G6 m)) ∧ Below w.heap.size w wx ∧ Hid (wx.heap[w.heap.size]? = some (.cells m.cells 37 (0, 0))))
  case first =>
   as_aux_lemma =>
    have c9 := (row_cells HP1.out 9).1
    have c10 := (row_cells HP1.out 10).1
    have c11 := (row_cells HP1.out 11).1
    have c12 := (row_cells HP1.out 12).1
    have c13 := (row_cells HP1.out 13).1
    have c14 := (row_cells HP1.out 14).1
    have c15 := (row_cells HP1.out 15).1
    have c16 := (row_cells HP1.out 16).1
    have c17 := (row_cells HP1.out 17).1
    have c18 := (row_cells HP1.out 18).1
    have c19 := (row_cells HP1.out 19).1
    have c20 := (row_cells HP1.out 20).1
    simp only [Msgv.cells, List.getElem?_toArray, List.getElem?_cons_succ, List.getElem?_cons_zero] at c9 c10 c11 c12 c13 c14 c15 c16 c17 c18 c19 c20
    go_wp2_with fail
    refine (H_hv.out _).mono ?_
    rintro e w' ⟨rfl, rfl⟩
    cases hv with
    | true =>
      go_wp2_with fail
      refine (H_ho.out _).mono ?_
      rintro e w' ⟨rfl, rfl⟩
      cases ho with
      | true =>
        go_wp2_with fail
        refine (H_hc.out _).mono ?_
        rintro e w' ⟨rfl, rfl⟩
        cases hc with
        | true =>
          go_wp2_with fail
          have HB : Hid (G6 m) := hide ⟨fun e => absurd (E_hv.out.symm.trans e) (by simp), fun e => absurd (E_ho.out.symm.trans e) (by simp), fun e => absurd (E_hc.out.symm.trans e) (by simp)⟩
          go_wp2_with fail
          go_meet
          exact ⟨congrArg Value.bool (decide_eq_false (fun h => h HB.out)).symm, b1, HP1⟩
        | false =>
          have k_cm := fun w => equal_cmd 9997 m.cm zeroC w
          simp only [zeroC] at k_cm
          rcases z_cm : eqC m.cm zeroC with _ | _
          · have z_cm' : eqC m.cm ⟨0, 0, 0, 0, 0, 0, 0, 0⟩ = false := z_cm
            rw [z_cm'] at k_cm
            have N_cm := hide z_cm
            clear z_cm z_cm'
            have HB : Hid (¬ G6 m) := hide (fun g => (fun h => by rw [N_cm.out] at h; cases h) (g.2.2 E_hc.out))
            go_wp2_with fail
            go_meet
            exact ⟨congrArg Value.bool (decide_eq_true HB.out).symm, b1, HP1⟩
          · have z_cm' : eqC m.cm ⟨0, 0, 0, 0, 0, 0, 0, 0⟩ = true := z_cm
            rw [z_cm'] at k_cm
            have N_cm := hide z_cm
            clear z_cm z_cm'
            go_wp2_with fail
            have HB : Hid (G6 m) := hide ⟨fun e => absurd (E_hv.out.symm.trans e) (by simp), fun e => absurd (E_ho.out.symm.trans e) (by simp), fun _ => N_cm.out⟩
            go_wp2_with fail
            go_meet
            exact ⟨congrArg Value.bool (decide_eq_false (fun h => h HB.out)).symm, b1, HP1⟩
      | false =>
        by_cases z_vn : m.vn = 0
        · have tz_vn : decide ((0 : Int) < (m.vn : Int)) = false := by simp; omega
          have tz_vn' : decide (0 < m.vn) = false := by simp; omega
          go_wp2_with fail
          refine (H_hc.out _).mono ?_
          rintro e w' ⟨rfl, rfl⟩
          cases hc with
          | true =>
            go_wp2_with fail
            have HB : Hid (G6 m) := hide ⟨fun e => absurd (E_hv.out.symm.trans e) (by simp), fun _ => z_vn, fun e => absurd (E_hc.out.symm.trans e) (by simp)⟩
            go_wp2_with fail
            go_meet
            exact ⟨congrArg Value.bool (decide_eq_false (fun h => h HB.out)).symm, b1, HP1⟩
          | false =>
            have k_cm := fun w => equal_cmd 9997 m.cm zeroC w
            simp only [zeroC] at k_cm
            rcases z_cm : eqC m.cm zeroC with _ | _
            · have z_cm' : eqC m.cm ⟨0, 0, 0, 0, 0, 0, 0, 0⟩ = false := z_cm
              rw [z_cm'] at k_cm
              have N_cm := hide z_cm
              clear z_cm z_cm'
              have HB : Hid (¬ G6 m) := hide (fun g => (fun h => by rw [N_cm.out] at h; cases h) (g.2.2 E_hc.out))
              go_wp2_with fail
              go_meet
              exact ⟨congrArg Value.bool (decide_eq_true HB.out).symm, b1, HP1⟩
            · have z_cm' : eqC m.cm ⟨0, 0, 0, 0, 0, 0, 0, 0⟩ = true := z_cm
              rw [z_cm'] at k_cm
              have N_cm := hide z_cm
              clear z_cm z_cm'
              go_wp2_with fail
              have HB : Hid (G6 m) := hide ⟨fun e => absurd (E_hv.out.symm.trans e) (by simp), fun _ => z_vn, fun _ => N_cm.out⟩
              go_wp2_with fail
              go_meet
              exact ⟨congrArg Value.bool (decide_eq_false (fun h => h HB.out)).symm, b1, HP1⟩
        · have tz_vn : decide ((0 : Int) < (m.vn : Int)) = true := by simp; omega
          have tz_vn' : decide (0 < m.vn) = true := by simp; omega
          have HB : Hid (¬ G6 m) := hide (fun g => z_vn (g.2.1 E_ho.out))
          go_wp2_with fail
          go_meet
          exact ⟨congrArg Value.bool (decide_eq_true HB.out).symm, b1, HP1⟩
    | false =>
      go_wp2_with fail
      refine ((HVV.out _ b1).rsame (isV_nil7 _ _) (by have := b1.size; omega) m.v.k m.v.c m.v.d 0 0 0).mono ?_
      rintro e w2 ⟨rfl, b2'⟩
      have HP2 := hide ((b2'.block w.heap.size hz1).trans HP1.out)
      have b2 := b1.trans (b2'.mono b1.size)
      clear c9 c10 c11 c12 c13 c14 c15 c16 c17 c18 c19 c20
      have c12 := (row_cells HP2.out 12).1
      have c13 := (row_cells HP2.out 13).1
      have c14 := (row_cells HP2.out 14).1
      have c15 := (row_cells HP2.out 15).1
      have c16 := (row_cells HP2.out 16).1
      have c17 := (row_cells HP2.out 17).1
      have c18 := (row_cells HP2.out 18).1
      have c19 := (row_cells HP2.out 19).1
      have c20 := (row_cells HP2.out 20).1
      simp only [Msgv.cells, List.getElem?_toArray, List.getElem?_cons_succ, List.getElem?_cons_zero] at c12 c13 c14 c15 c16 c17 c18 c19 c20
      rcases z_v : sameV m.v.k m.v.cs m.v.ns 0 [] [] with _ | _
      · have N_v := hide z_v
        clear z_v
        have HB : Hid (¬ G6 m) := hide (fun g => (fun h => by rw [N_v.out] at h; cases h) (g.1 E_hv.out))
        go_wp2_with fail
        go_meet
        exact ⟨congrArg Value.bool (decide_eq_true HB.out).symm, b2, HP2⟩
      · have N_v := hide z_v
        clear z_v
        go_wp2_with fail
        refine (H_ho.out _).mono ?_
        rintro e w' ⟨rfl, rfl⟩
        cases ho with
        | true =>
          go_wp2_with fail
          refine (H_hc.out _).mono ?_
          rintro e w' ⟨rfl, rfl⟩
          cases hc with
          | true =>
            go_wp2_with fail
            have HB : Hid (G6 m) := hide ⟨fun _ => N_v.out, fun e => absurd (E_ho.out.symm.trans e) (by simp), fun e => absurd (E_hc.out.symm.trans e) (by simp)⟩
            go_wp2_with fail
            go_meet
            exact ⟨congrArg Value.bool (decide_eq_false (fun h => h HB.out)).symm, b2, HP2⟩
          | false =>
            have k_cm := fun w => equal_cmd 9997 m.cm zeroC w
            simp only [zeroC] at k_cm
            rcases z_cm : eqC m.cm zeroC with _ | _
            · have z_cm' : eqC m.cm ⟨0, 0, 0, 0, 0, 0, 0, 0⟩ = false := z_cm
              rw [z_cm'] at k_cm
              have N_cm := hide z_cm
              clear z_cm z_cm'
              have HB : Hid (¬ G6 m) := hide (fun g => (fun h => by rw [N_cm.out] at h; cases h) (g.2.2 E_hc.out))
              go_wp2_with fail
              go_meet
              exact ⟨congrArg Value.bool (decide_eq_true HB.out).symm, b2, HP2⟩
            · have z_cm' : eqC m.cm ⟨0, 0, 0, 0, 0, 0, 0, 0⟩ = true := z_cm
              rw [z_cm'] at k_cm
              have N_cm := hide z_cm
              clear z_cm z_cm'
              go_wp2_with fail
              have HB : Hid (G6 m) := hide ⟨fun _ => N_v.out, fun e => absurd (E_ho.out.symm.trans e) (by simp), fun _ => N_cm.out⟩
              go_wp2_with fail
              go_meet
              exact ⟨congrArg Value.bool (decide_eq_false (fun h => h HB.out)).symm, b2, HP2⟩
        | false =>
          by_cases z_vn : m.vn = 0
          · have tz_vn : decide ((0 : Int) < (m.vn : Int)) = false := by simp; omega
            have tz_vn' : decide (0 < m.vn) = false := by simp; omega
            go_wp2_with fail
            refine (H_hc.out _).mono ?_
            rintro e w' ⟨rfl, rfl⟩
            cases hc with
            | true =>
              go_wp2_with fail
              have HB : Hid (G6 m) := hide ⟨fun _ => N_v.out, fun _ => z_vn, fun e => absurd (E_hc.out.symm.trans e) (by simp)⟩
              go_wp2_with fail
              go_meet
              exact ⟨congrArg Value.bool (decide_eq_false (fun h => h HB.out)).symm, b2, HP2⟩
            | false =>
              have k_cm := fun w => equal_cmd 9997 m.cm zeroC w
              simp only [zeroC] at k_cm
              rcases z_cm : eqC m.cm zeroC with _ | _
              · have z_cm' : eqC m.cm ⟨0, 0, 0, 0, 0, 0, 0, 0⟩ = false := z_cm
                rw [z_cm'] at k_cm
                have N_cm := hide z_cm
                clear z_cm z_cm'
                have HB : Hid (¬ G6 m) := hide (fun g => (fun h => by rw [N_cm.out] at h; cases h) (g.2.2 E_hc.out))
                go_wp2_with fail
                go_meet
                exact ⟨congrArg Value.bool (decide_eq_true HB.out).symm, b2, HP2⟩
              · have z_cm' : eqC m.cm ⟨0, 0, 0, 0, 0, 0, 0, 0⟩ = true := z_cm
                rw [z_cm'] at k_cm
                have N_cm := hide z_cm
                clear z_cm z_cm'
                go_wp2_with fail
                have HB : Hid (G6 m) := hide ⟨fun _ => N_v.out, fun _ => z_vn, fun _ => N_cm.out⟩
                go_wp2_with fail
                go_meet
                exact ⟨congrArg Value.bool (decide_eq_false (fun h => h HB.out)).symm, b2, HP2⟩
          · have tz_vn : decide ((0 : Int) < (m.vn : Int)) = true := by simp; omega
            have tz_vn' : decide (0 < m.vn) = true := by simp; omega
            have HB : Hid (¬ G6 m) := hide (fun g => z_vn (g.2.1 E_ho.out))
            go_wp2_with fail
            go_meet
            exact ⟨congrArg Value.bool (decide_eq_true HB.out).symm, b2, HP2⟩
  clear b1 HP1 hz1
  obtain ⟨rfl, b1, HP1⟩ := hcut
  have hz1 := lt_of_block HP1.out
  generalize wc = w1 at *
  by_cases gG6 : G6 m
  rotate_left
  · have HE := hide (HEX.out (fun h => gG6 h.2.2.2.1))
    rw [decide_eq_true gG6]
    go_wp2
    go_ret
    exact ⟨by rw [HE.out]; rfl, b1⟩
  rw [decide_eq_false (fun h => h gG6)]
  have HGG6 := hide gG6
  clear gG6
  go_upto_region 8 with fail
  go_cut [136] (fun v wx => v = .bool (decide (¬ G8 m)) ∧ Below w.heap.size w wx ∧ Hid (wx.heap[w.heap.size]? = some (.cells m.cells 37 (0, 0))))
  case first =>
   as_aux_lemma =>
    have c21 := (row_cells HP1.out 21).1
    have c22 := (row_cells HP1.out 22).1
    have c23 := (row_cells HP1.out 23).1
    have c24 := (row_cells HP1.out 24).1
    simp only [Msgv.cells, List.getElem?_toArray, List.getElem?_cons_succ, List.getElem?_cons_zero] at c21 c22 c23 c24
    go_wp2_with fail
    refine (H_hr.out _).mono ?_
    rintro e w' ⟨rfl, rfl⟩
    cases hr with
    | true =>
      go_wp2_with fail
      refine (H_hd.out _).mono ?_
      rintro e w' ⟨rfl, rfl⟩
      cases hd with
      | true =>
        go_wp2_with fail
        by_cases q9 : 1024 < m.dn
        · have tq9 : decide ((1024 : Int) < (m.dn : Int)) = true := decide_eq_true (by omega)
          have HB : Hid (¬ G8 m) := hide (fun g => by have := g.2.2; omega)
          clear q9
          go_wp2_with fail
          go_meet
          exact ⟨congrArg Value.bool (tq9.trans (decide_eq_true HB.out).symm), b1, HP1⟩
        · have tq9 : decide ((1024 : Int) < (m.dn : Int)) = false := decide_eq_false (by omega)
          have HB : Hid (G8 m) := hide ⟨fun e => absurd (E_hr.out.symm.trans e) (by simp), fun e => absurd (E_hd.out.symm.trans e) (by simp), by omega⟩
          clear q9
          go_wp2_with fail
          go_meet
          exact ⟨congrArg Value.bool (tq9.trans (decide_eq_false (fun h => h HB.out)).symm), b1, HP1⟩
      | false =>
        by_cases z_dn : m.dn = 0
        · have tz_dn : decide ((0 : Int) < (m.dn : Int)) = false := by simp; omega
          have tz_dn' : decide (0 < m.dn) = false := by simp; omega
          go_wp2_with fail
          have HB : Hid (G8 m) := hide ⟨fun e => absurd (E_hr.out.symm.trans e) (by simp), fun _ => z_dn, by omega⟩
          go_wp2_with fail
          go_meet
          exact ⟨congrArg Value.bool (decide_eq_false (fun h => h HB.out)).symm, b1, HP1⟩
        · have tz_dn : decide ((0 : Int) < (m.dn : Int)) = true := by simp; omega
          have tz_dn' : decide (0 < m.dn) = true := by simp; omega
          have HB : Hid (¬ G8 m) := hide (fun g => z_dn (g.2.1 E_hd.out))
          go_wp2_with fail
          go_meet
          exact ⟨congrArg Value.bool (decide_eq_true HB.out).symm, b1, HP1⟩
    | false =>
      by_cases z_res : [m.rk, m.rr, m.ri] = [0, 0, 0]
      · have k_res := fun w => equal_res 9998 m.rk m.rr m.ri 0 0 0 w
        rw [decide_eq_true z_res] at k_res
        go_wp2_with fail
        refine (H_hd.out _).mono ?_
        rintro e w' ⟨rfl, rfl⟩
        cases hd with
        | true =>
          go_wp2_with fail
          by_cases q9 : 1024 < m.dn
          · have tq9 : decide ((1024 : Int) < (m.dn : Int)) = true := decide_eq_true (by omega)
            have HB : Hid (¬ G8 m) := hide (fun g => by have := g.2.2; omega)
            clear q9
            go_wp2_with fail
            go_meet
            exact ⟨congrArg Value.bool (tq9.trans (decide_eq_true HB.out).symm), b1, HP1⟩
          · have tq9 : decide ((1024 : Int) < (m.dn : Int)) = false := decide_eq_false (by omega)
            have HB : Hid (G8 m) := hide ⟨fun _ => z_res, fun e => absurd (E_hd.out.symm.trans e) (by simp), by omega⟩
            clear q9
            go_wp2_with fail
            go_meet
            exact ⟨congrArg Value.bool (tq9.trans (decide_eq_false (fun h => h HB.out)).symm), b1, HP1⟩
        | false =>
          by_cases z_dn : m.dn = 0
          · have tz_dn : decide ((0 : Int) < (m.dn : Int)) = false := by simp; omega
            have tz_dn' : decide (0 < m.dn) = false := by simp; omega
            go_wp2_with fail
            have HB : Hid (G8 m) := hide ⟨fun _ => z_res, fun _ => z_dn, by omega⟩
            go_wp2_with fail
            go_meet
            exact ⟨congrArg Value.bool (decide_eq_false (fun h => h HB.out)).symm, b1, HP1⟩
          · have tz_dn : decide ((0 : Int) < (m.dn : Int)) = true := by simp; omega
            have tz_dn' : decide (0 < m.dn) = true := by simp; omega
            have HB : Hid (¬ G8 m) := hide (fun g => z_dn (g.2.1 E_hd.out))
            go_wp2_with fail
            go_meet
            exact ⟨congrArg Value.bool (decide_eq_true HB.out).symm, b1, HP1⟩
      · have k_res := fun w => equal_res 9998 m.rk m.rr m.ri 0 0 0 w
        rw [decide_eq_false z_res] at k_res
        have HB : Hid (¬ G8 m) := hide (fun g => z_res (g.1 E_hr.out))
        go_wp2_with fail
        go_meet
        exact ⟨congrArg Value.bool (decide_eq_true HB.out).symm, b1, HP1⟩
  clear b1 HP1 hz1
  obtain ⟨rfl, b1, HP1⟩ := hcut
  have hz1 := lt_of_block HP1.out
  generalize wc = w1 at *
  by_cases gG8 : G8 m
  rotate_left
  · have HE := hide (HEX.out (fun h => gG8 h.2.2.2.2.1))
    rw [decide_eq_true gG8]
    go_wp2
    go_ret
    exact ⟨by rw [HE.out]; rfl, b1⟩
  rw [decide_eq_false (fun h => h gG8)]
  have HGG8 := hide gG8
  clear gG8
  go_upto_region 10 with fail
  have c0 := (row_cells HP1.out 0).1
  have c6 := (row_cells HP1.out 6).1
  have c7 := (row_cells HP1.out 7).1
  have c8 := (row_cells HP1.out 8).1
  simp only [Msgv.cells, List.getElem?_toArray, List.getElem?_cons_succ, List.getElem?_cons_zero] at c0 c6 c7 c8
  by_cases r0 : m.sl < 0
  · have HE := hide (HEX.out (fun h => by have := h.2.2.2.2.2.1; omega))
    have tr0 : decide (m.sl < 0) = true := decide_eq_true r0
    clear r0
    go_wp2
    go_ret
    exact ⟨by rw [HE.out]; rfl, b1⟩
  have tr0 : decide (m.sl < 0) = false := decide_eq_false r0
  have S0 := hide r0
  clear r0
  by_cases r1 : 1099511627776 < m.sl
  · have HE := hide (HEX.out (fun h => by have := h.2.2.2.2.2.1; omega))
    have tr1 : decide (1099511627776 < m.sl) = true := decide_eq_true r1
    clear r1
    go_wp2
    go_ret
    exact ⟨by rw [HE.out]; rfl, b1⟩
  have tr1 : decide (1099511627776 < m.sl) = false := decide_eq_false r1
  have S1 := hide r1
  clear r1
  by_cases r2 : m.lw < 0
  · have HE := hide (HEX.out (fun h => by have := h.2.2.2.2.2.1; omega))
    have tr2 : decide (m.lw < 0) = true := decide_eq_true r2
    clear r2
    go_wp2
    go_ret
    exact ⟨by rw [HE.out]; rfl, b1⟩
  have tr2 : decide (m.lw < 0) = false := decide_eq_false r2
  have S2 := hide r2
  clear r2
  by_cases r3 : 1099511627776 < m.lw
  · have HE := hide (HEX.out (fun h => by have := h.2.2.2.2.2.1; omega))
    have tr3 : decide (1099511627776 < m.lw) = true := decide_eq_true r3
    clear r3
    go_wp2
    go_ret
    exact ⟨by rw [HE.out]; rfl, b1⟩
  have tr3 : decide (1099511627776 < m.lw) = false := decide_eq_false r3
  have S3 := hide r3
  clear r3
  by_cases r4 : m.tm < 0
  · have HE := hide (HEX.out (fun h => by have := h.2.2.2.2.2.1; omega))
    have tr4 : decide (m.tm < 0) = true := decide_eq_true r4
    clear r4
    go_wp2
    go_ret
    exact ⟨by rw [HE.out]; rfl, b1⟩
  have tr4 : decide (m.tm < 0) = false := decide_eq_false r4
  have S4 := hide r4
  clear r4
  by_cases r5 : 1099511627776 < m.tm
  · have HE := hide (HEX.out (fun h => by have := h.2.2.2.2.2.1; omega))
    have tr5 : decide (1099511627776 < m.tm) = true := decide_eq_true r5
    clear r5
    go_wp2
    go_ret
    exact ⟨by rw [HE.out]; rfl, b1⟩
  have tr5 : decide (1099511627776 < m.tm) = false := decide_eq_false r5
  have S5 := hide r5
  clear r5
  have HPL : Hid ((oneK m.kd = true → 1 ≤ m.sl) → plB m = true) := hide (fun h => decide_eq_true ⟨HUU.out, ⟨by have := Q0.out; omega, by have := Q1.out; omega, by have := Q2.out; omega, by have := Q3.out; omega, by have := Q4.out; omega, by have := Q5.out; omega⟩, HGG4.out, HGG6.out, HGG8.out, ⟨by have := S0.out; omega, by have := S1.out; omega, by have := S2.out; omega, by have := S3.out; omega, by have := S4.out; omega, by have := S5.out; omega⟩, h⟩)
  have HNP : Hid (oneK m.kd = true → m.sl < 1 → plB m = false) := hide (fun h1 h2 => HEX.out (fun h => by have := h.2.2.2.2.2.2 h1; omega))
  by_cases hs1 : 1 ≤ m.sl
  · have ts : decide (1 ≤ m.sl) = true := decide_eq_true hs1
    have HE := hide (HPL.out (fun _ => hs1))
    clear HPL HNP hs1
    by_cases k1 : m.kd = 1
    · have tk1 : (m.kd == 1) = true := by rw [beq_iff_eq]; exact k1
      clear k1
      go_wp2
      go_ret
      exact ⟨by rw [HE.out]; rfl, b1⟩
    have tk1 : (m.kd == 1) = false := by rw [beq_eq_false_iff_ne]; exact k1
    by_cases k2 : m.kd = 2
    · have tk2 : (m.kd == 2) = true := by rw [beq_iff_eq]; exact k2
      clear k2
      go_wp2
      go_ret
      exact ⟨by rw [HE.out]; rfl, b1⟩
    have tk2 : (m.kd == 2) = false := by rw [beq_eq_false_iff_ne]; exact k2
    by_cases k4 : m.kd = 4
    · have tk4 : (m.kd == 4) = true := by rw [beq_iff_eq]; exact k4
      clear k4
      go_wp2
      go_ret
      exact ⟨by rw [HE.out]; rfl, b1⟩
    have tk4 : (m.kd == 4) = false := by rw [beq_eq_false_iff_ne]; exact k4
    by_cases k5 : m.kd = 5
    · have tk5 : (m.kd == 5) = true := by rw [beq_iff_eq]; exact k5
      clear k5
      go_wp2
      go_ret
      exact ⟨by rw [HE.out]; rfl, b1⟩
    have tk5 : (m.kd == 5) = false := by rw [beq_eq_false_iff_ne]; exact k5
    by_cases k8 : m.kd = 8
    · have tk8 : (m.kd == 8) = true := by rw [beq_iff_eq]; exact k8
      clear k8
      go_wp2
      go_ret
      exact ⟨by rw [HE.out]; rfl, b1⟩
    have tk8 : (m.kd == 8) = false := by rw [beq_eq_false_iff_ne]; exact k8
    by_cases k9 : m.kd = 9
    · have tk9 : (m.kd == 9) = true := by rw [beq_iff_eq]; exact k9
      clear k9
      go_wp2
      go_ret
      exact ⟨by rw [HE.out]; rfl, b1⟩
    have tk9 : (m.kd == 9) = false := by rw [beq_eq_false_iff_ne]; exact k9
    go_wp2
    go_ret
    exact ⟨by rw [HE.out]; rfl, b1⟩
  · have ts : decide (1 ≤ m.sl) = false := decide_eq_false hs1
    by_cases k1 : m.kd = 1
    · have tk1 : (m.kd == 1) = true := by rw [beq_iff_eq]; exact k1
      have HE := hide (HNP.out (by rw [k1]; rfl) (by omega))
      clear k1
      go_wp2
      go_ret
      exact ⟨by rw [HE.out]; rfl, b1⟩
    have tk1 : (m.kd == 1) = false := by rw [beq_eq_false_iff_ne]; exact k1
    by_cases k2 : m.kd = 2
    · have tk2 : (m.kd == 2) = true := by rw [beq_iff_eq]; exact k2
      have HE := hide (HNP.out (by rw [k2]; rfl) (by omega))
      clear k2
      go_wp2
      go_ret
      exact ⟨by rw [HE.out]; rfl, b1⟩
    have tk2 : (m.kd == 2) = false := by rw [beq_eq_false_iff_ne]; exact k2
    by_cases k4 : m.kd = 4
    · have tk4 : (m.kd == 4) = true := by rw [beq_iff_eq]; exact k4
      have HE := hide (HNP.out (by rw [k4]; rfl) (by omega))
      clear k4
      go_wp2
      go_ret
      exact ⟨by rw [HE.out]; rfl, b1⟩
    have tk4 : (m.kd == 4) = false := by rw [beq_eq_false_iff_ne]; exact k4
    by_cases k5 : m.kd = 5
    · have tk5 : (m.kd == 5) = true := by rw [beq_iff_eq]; exact k5
      have HE := hide (HNP.out (by rw [k5]; rfl) (by omega))
      clear k5
      go_wp2
      go_ret
      exact ⟨by rw [HE.out]; rfl, b1⟩
    have tk5 : (m.kd == 5) = false := by rw [beq_eq_false_iff_ne]; exact k5
    by_cases k8 : m.kd = 8
    · have tk8 : (m.kd == 8) = true := by rw [beq_iff_eq]; exact k8
      have HE := hide (HNP.out (by rw [k8]; rfl) (by omega))
      clear k8
      go_wp2
      go_ret
      exact ⟨by rw [HE.out]; rfl, b1⟩
    have tk8 : (m.kd == 8) = false := by rw [beq_eq_false_iff_ne]; exact k8
    by_cases k9 : m.kd = 9
    · have tk9 : (m.kd == 9) = true := by rw [beq_iff_eq]; exact k9
      have HE := hide (HNP.out (by rw [k9]; rfl) (by omega))
      clear k9
      go_wp2
      go_ret
      exact ⟨by rw [HE.out]; rfl, b1⟩
    have tk9 : (m.kd == 9) = false := by rw [beq_eq_false_iff_ne]; exact k9
    have HE := hide (HPL.out (fun h => by unfold oneK at h; rw [tk1, tk2, tk4, tk5, tk8, tk9] at h; cases h))
    go_wp2
    go_ret
    exact ⟨by rw [HE.out]; rfl, b1⟩
end Go.Proofs.YtapbcpilklhoiabDoor
