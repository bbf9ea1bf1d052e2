/-
  CheckCmd and Check of the reference of package value: the same answers. Conditions: what is read is in reach.
-/
import Derived.Test.YtnngmapphacpkaaValCheck
import Derived.Test.YtnngmapphacpkaaOpRight
set_option linter.unusedSimpArgs false
set_option linter.unusedVariables false
namespace Go.Proofs.Ytnngmapphacpkaa
open Go.RowKit

theorem cmdP_iff (c : Cmdv) : cmdP c ↔ 1 ≤ c.s ∧ c.s ≤ 1073741824 ∧ 1 ≤ c.q ∧ c.q ≤ 1099511627776 ∧ 0 ≤ c.a ∧ c.a < c.q := by
  unfold cmdP insB
  simp only [decide_eq_true_eq]
  omega
theorem chk_rB (k r t re im : Int) : chk k r t re im = if rB k r t re im = true then 0 else 22 := by
  unfold chk rB
  by_cases h : rightOp k r t re im
  · rw [if_pos h, if_pos (decide_eq_true h)]
  · rw [if_neg h, if_neg (by simpa using h)]

set_option maxHeartbeats 1600000 in
theorem rcheckcmd_any (c : Cmdv) (w : World) : Calls Try.prog 48 #[c.val] w fun e w' => e = .returned (.int .i64 (chkC c)) ∧ Below w.heap.size w w' := by
  unfold Cmdv.val
  by_cases h0 : c.s < 1
  · have e : chkC c = 23 := if_neg (fun h => by have := (cmdP_iff c).1 h; omega)
    rw [e]
    clear e
    go_enter Try.func48, Try.ntmps48
    go_wp2
    go_ret
    exact ⟨rfl, by go_grown⟩
  by_cases h1 : 1073741824 < c.s
  · have e : chkC c = 23 := if_neg (fun h => by have := (cmdP_iff c).1 h; omega)
    rw [e]
    clear e
    go_enter Try.func48, Try.ntmps48
    go_wp2
    go_ret
    exact ⟨rfl, by go_grown⟩
  by_cases h2 : c.q < 1
  · have e : chkC c = 23 := if_neg (fun h => by have := (cmdP_iff c).1 h; omega)
    rw [e]
    clear e
    go_enter Try.func48, Try.ntmps48
    go_wp2
    go_ret
    exact ⟨rfl, by go_grown⟩
  by_cases h3 : 1099511627776 < c.q
  · have e : chkC c = 23 := if_neg (fun h => by have := (cmdP_iff c).1 h; omega)
    rw [e]
    clear e
    go_enter Try.func48, Try.ntmps48
    go_wp2
    go_ret
    exact ⟨rfl, by go_grown⟩
  by_cases h4 : c.a < 0
  · have e : chkC c = 23 := if_neg (fun h => by have := (cmdP_iff c).1 h; omega)
    rw [e]
    clear e
    go_enter Try.func48, Try.ntmps48
    go_wp2
    go_ret
    exact ⟨rfl, by go_grown⟩
  by_cases h5 : c.q ≤ c.a
  · have e : chkC c = 23 := if_neg (fun h => by have := (cmdP_iff c).1 h; omega)
    rw [e]
    clear e
    go_enter Try.func48, Try.ntmps48
    go_wp2
    go_ret
    exact ⟨rfl, by go_grown⟩
  have e : chkC c = chk c.k c.r c.t c.re c.im := if_pos ((cmdP_iff c).2 (by omega))
  rw [e, chk_rB]
  clear e
  by_cases hr : rB c.k c.r c.t c.re c.im = true
  · rw [if_pos hr]
    have HR := hide hr
    clear hr
    go_enter Try.func48, Try.ntmps48
    go_wp2_with fail
    refine (opright_any c.k c.r c.t c.re c.im _).mono ?_
    rintro e w1 ⟨rfl, hb⟩
    rw [HR.out]
    go_wp2
    go_ret
    exact ⟨rfl, below_of_alloc hb⟩
  · rw [if_neg hr]
    have HR := hide (Bool.eq_false_iff.2 hr)
    clear hr
    go_enter Try.func48, Try.ntmps48
    go_wp2_with fail
    refine (opright_any c.k c.r c.t c.re c.im _).mono ?_
    rintro e w1 ⟨rfl, hb⟩
    rw [HR.out]
    go_wp2
    go_ret
    exact ⟨rfl, below_of_alloc hb⟩

theorem chkV_bad {k : Int} {cs : List Cmdv} {ns : List Int} (h : ¬ shP k cs.length ns.length) : chkV k cs ns = 25 := by
  unfold chkV
  rw [if_neg (by unfold shB; simpa using h)]
theorem chkV_good {k : Int} {cs : List Cmdv} {ns : List Int} (h : shP k cs.length ns.length) : chkV k cs ns = if k = 2 then chkS ns else chkCs cs := by
  unfold chkV
  rw [if_pos (by unfold shB; simpa using h)]

set_option maxHeartbeats 3200000 in
theorem rvcheck_any (k : Int) (A A' : Option Addr) (n c n' c' B : Nat) (cs : List Cmdv) (ns : List Int) (w : World) (hC : HasC w B A cs) (hN : HasI w B A' ns) (hB : B ≤ w.heap.size) (hn : cs.length = n) (hn' : ns.length = n') (hl' : n' ≤ 140737488355328) :
    Calls Try.prog 24 #[.agg #[.int .i64 k, .slice A n c, .slice A' n' c']] w fun e w' => e = .returned (.int .i64 (chkV k cs ns)) ∧ Below w.heap.size w w' := by
  have hbad := @chkV_bad k cs ns
  have hgood := @chkV_good k cs ns
  rw [hn, hn'] at hbad hgood
  have HN := hide hn
  have HN' := hide hn'
  clear hn hn'
  have HB := hide hbad
  have HG := hide hgood
  clear hbad hgood
  by_cases hk0 : k < 0
  · have hk1 := hk0
    rw [HB.out (by unfold shP; omega)]
    clear HB HG hC hN
    go_enter Try.func24, Try.ntmps24
    go_wp2
    go_ret
    exact ⟨rfl, by go_grown⟩
  by_cases hk2 : 2 < k
  · have hk1 := hk2
    rw [HB.out (by unfold shP; omega)]
    clear HB HG hC hN
    go_enter Try.func24, Try.ntmps24
    go_wp2
    go_ret
    exact ⟨rfl, by go_grown⟩
  have hk : k = 0 ∨ k = 1 ∨ k = 2 := by omega
  clear hk0 hk2
  rcases hk with rfl | rfl | rfl
  · by_cases z : n = 0
    · subst z
      by_cases z' : n' = 0
      · subst z'
        have hE : Hid (chkV 0 cs ns = chkCs cs) := hide ((HG.out (by unfold shP; omega)).trans (if_neg (by omega)))
        clear HB HG
        go_enter Try.func24, Try.ntmps24
        go_wp2_with fail
        have T : Hid (chkCs cs = 0) := hide (by rw [List.eq_nil_of_length_eq_zero HN.out]; rfl)
        go_loop [62] (fun i => i = .int .i64 0) (fun _ => 0)
        case atStart => rfl
        case round =>
          subst hrel
          go_wp2
          go_ret
          exact ⟨by rw [hE.out, T.out]; rfl, by go_grown⟩
      · have z0 := z'
        have tn'a : ((n' : Int) == 0) = false := by rw [beq_eq_false_iff_ne]; omega
        have tn'b : ((n' : Int) != 0) = true := by rw [bne_iff_ne]; omega
        rw [HB.out (by unfold shP; omega)]
        clear HB HG hC hN
        go_enter Try.func24, Try.ntmps24
        go_wp2
        go_ret
        exact ⟨rfl, by go_grown⟩
    · have z0 := z
      have tna : ((n : Int) == 0) = false := by rw [beq_eq_false_iff_ne]; omega
      have tnb : ((n : Int) != 0) = true := by rw [bne_iff_ne]; omega
      rw [HB.out (by unfold shP; omega)]
      clear HB HG hC hN
      go_enter Try.func24, Try.ntmps24
      go_wp2
      go_ret
      exact ⟨rfl, by go_grown⟩
  · by_cases z' : n' = 0
    · subst z'
      by_cases z : n = 0
      · subst z
        rw [HB.out (by unfold shP; omega)]
        clear HB HG hC hN
        go_enter Try.func24, Try.ntmps24
        go_wp2
        go_ret
        exact ⟨rfl, by go_grown⟩
      · have z0 := z
        have tna : ((n : Int) == 0) = false := by rw [beq_eq_false_iff_ne]; omega
        have tnb : ((n : Int) != 0) = true := by rw [bne_iff_ne]; omega
        by_cases z8 : 8 < n
        · have z9 := z8
          rw [HB.out (by unfold shP; omega)]
          clear HB HG hC hN
          go_enter Try.func24, Try.ntmps24
          go_wp2
          go_ret
          exact ⟨rfl, by go_grown⟩
        · have hE : Hid (chkV 1 cs ns = chkCs cs) := hide ((HG.out (by unfold shP; omega)).trans (if_neg (by omega)))
          clear HB HG
          go_enter Try.func24, Try.ntmps24
          go_wp2_with fail
          have hb0 : Below w.heap.size w (w.alloc (.cells #[.int .i64 1, .slice A n c, .slice A' 0 c'] 35)) := (Below.refl _ _).alloc (Nat.le_refl _) _
          have hp0 := heap_alloc_new w (.cells #[.int .i64 1, .slice A n c, .slice A' 0 c'] 35)
          have hC0 := hC.alloc hB (.cells #[.int .i64 1, .slice A n c, .slice A' 0 c'] 35)
          generalize w.alloc (.cells #[.int .i64 1, .slice A n c, .slice A' 0 c'] 35) = W0 at *
          have hz0 := lt_of_block hp0
          have HCC : Hid (∀ W, Below W0.heap.size W0 W → HasC W B A cs ∧ W.cell? ⟨w.heap.size, 1, none⟩ = some (.slice A n c)) := hide (fun W h => ⟨hC0.on (by omega) h, (row_cells ((h.block w.heap.size hz0).trans hp0) 1).1⟩)
          clear hC hC0 hp0
          go_loopw [62] (fun i wr => ∃ j : Nat, j ≤ n ∧ i = .int .i64 j ∧ Hid (chkCs cs = chkCs (cs.drop j)) ∧ Below W0.heap.size W0 wr) (fun i _ => n - (intOf i).toNat)
          case atStart => exact ⟨0, Nat.zero_le _, rfl, hide rfl, Below.refl _ _⟩
          case round =>
            obtain ⟨j, hj, rfl, hcs, hbr⟩ := hrel
            obtain ⟨hcr, hcell⟩ := HCC.out _ hbr
            by_cases hlt : j < n
            · have hlt' : j < cs.length := by rw [HN.out]; exact hlt
              have hcl := hcr j hlt'
              have hok : Hid (chkC cs[j] = 0 → chkCs cs = chkCs (cs.drop (j + 1))) := hide (fun h => hcs.out.trans (chkCs_ok hlt' h))
              have hbad : Hid (chkC cs[j] ≠ 0 → chkCs cs = chkC cs[j]) := hide (fun h => hcs.out.trans (chkCs_bad hlt' h))
              clear hcr
              generalize cs[j] = cm at *
              obtain ⟨ab, ao, rfl, hab, e0, e1, e2, e3, e4, e5, e6, e7⟩ := hcl
              go_wp2_with fail
              refine (rcheckcmd_any cm _).mono ?_
              rintro e w2 ⟨rfl, hb2⟩
              have hb2' := hbr.trans (hb2.mono hbr.size)
              by_cases h0 : chkC cm = 0
              · have T := hide (hok.out h0)
                rw [h0]
                clear h0 hok hbad
                go_wp2
                go_roundw
                case rel => exact ⟨j + 1, by omega, by go_num, T, hb2'⟩
                case measure => simp [intOf]; omega
              · have T := hide (hbad.out h0)
                have t1 : (chkC cm != 0) = true := by rw [bne_iff_ne]; exact h0
                clear h0 hok hbad
                go_wp2
                go_ret
                exact ⟨by rw [hE.out, T.out]; rfl, hb0.trans (hb2'.mono (by omega))⟩
            · obtain rfl : j = n := by omega
              have T : Hid (chkCs cs = 0) := hide (by rw [hcs.out, List.drop_of_length_le (by rw [HN.out]; omega)]; rfl)
              clear hcr
              go_wp2
              go_ret
              exact ⟨by rw [hE.out, T.out]; rfl, hb0.trans (hbr.mono (by omega))⟩
    · have z0 := z'
      have tn'a : ((n' : Int) == 0) = false := by rw [beq_eq_false_iff_ne]; omega
      have tn'b : ((n' : Int) != 0) = true := by rw [bne_iff_ne]; omega
      rw [HB.out (by unfold shP; omega)]
      clear HB HG hC hN
      go_enter Try.func24, Try.ntmps24
      go_wp2
      go_ret
      exact ⟨rfl, by go_grown⟩
  · by_cases z : n = 0
    · subst z
      have hE : Hid (chkV 2 cs ns = chkS ns) := hide ((HG.out (by unfold shP; omega)).trans (if_pos rfl))
      clear HB HG
      by_cases hr : rightS ns
      · have HR : Hid (chkS ns = 0) := hide (if_pos hr)
        have HD : Hid (decide (rightS ns) = true) := hide (decide_eq_true hr)
        clear hr
        go_enter Try.func24, Try.ntmps24
        go_wp2_with fail
        refine (rright_any A' n' c' B ns _ (hN.alloc hB _) HN'.out hl').mono ?_
        rintro e w1 ⟨rfl, m, rfl⟩
        rw [HD.out]
        go_wp2_with fail
        go_loop [62] (fun i => i = .int .i64 0) (fun _ => 0)
        case atStart => rfl
        case round =>
          subst hrel
          go_wp2
          go_ret
          exact ⟨by rw [hE.out, HR.out]; rfl, below_drewN (by go_grown) _⟩
      · have HR : Hid (chkS ns = 24) := hide (if_neg hr)
        have HD : Hid (decide (rightS ns) = false) := hide (decide_eq_false hr)
        clear hr
        go_enter Try.func24, Try.ntmps24
        go_wp2_with fail
        refine (rright_any A' n' c' B ns _ (hN.alloc hB _) HN'.out hl').mono ?_
        rintro e w1 ⟨rfl, m, rfl⟩
        rw [HD.out]
        go_wp2
        go_ret
        exact ⟨by rw [hE.out, HR.out]; rfl, below_drewN (by go_grown) _⟩
    · have z0 := z
      have tna : ((n : Int) == 0) = false := by rw [beq_eq_false_iff_ne]; omega
      have tnb : ((n : Int) != 0) = true := by rw [bne_iff_ne]; omega
      rw [HB.out (by unfold shP; omega)]
      clear HB HG hC hN
      go_enter Try.func24, Try.ntmps24
      go_wp2
      go_ret
      exact ⟨rfl, by go_grown⟩
end Go.Proofs.Ytnngmapphacpkaa
