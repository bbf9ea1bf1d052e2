/-
  CheckCmd and Check of package value, whatever is looked at. Conditions: what is read is in reach.
-/
import Derived.Test.YtnngmapphacpkaaOpCheck
import Derived.Test.YtnngmapphacpkaaValHead
set_option linter.unusedSimpArgs false
set_option linter.unusedVariables false
namespace Go.Proofs.Ytnngmapphacpkaa
open Go.RowKit

def insB (n lo hi : Int) : Bool := decide (lo ≤ n ∧ n ≤ hi)
theorem vinside_any (n lo hi : Int) (w : World) : Calls Try.prog 65 #[.int .i64 n, .int .i64 lo, .int .i64 hi] w fun e w' => e = .returned (.bool (insB n lo hi)) ∧ w' = w := by
  by_cases h1 : lo ≤ n
  · by_cases h2 : n ≤ hi
    · have e : insB n lo hi = true := decide_eq_true ⟨h1, h2⟩
      rw [e]
      clear e
      go_enter Try.func65, Try.ntmps65
      go_wp2
      go_ret
      exact ⟨rfl, rfl⟩
    · have e : insB n lo hi = false := decide_eq_false (fun h => h2 h.2)
      rw [e]
      clear e
      go_enter Try.func65, Try.ntmps65
      go_wp2
      go_ret
      exact ⟨rfl, rfl⟩
  · have e : insB n lo hi = false := decide_eq_false (fun h => h1 h.1)
    rw [e]
    clear e
    go_enter Try.func65, Try.ntmps65
    go_wp2
    go_ret
    exact ⟨rfl, rfl⟩

/-- What CheckCmd gives. -/
def cmdP (c : Cmdv) : Prop := insB c.s 1 1073741824 = true ∧ insB c.q 1 1099511627776 = true ∧ insB c.a 0 (c.q - 1) = true
instance (c : Cmdv) : Decidable (cmdP c) := inferInstanceAs (Decidable (_ ∧ _))
def chkC (c : Cmdv) : Int := if cmdP c then chk c.k c.r c.t c.re c.im else 23

set_option maxHeartbeats 800000 in
theorem checkcmd_any (c : Cmdv) (w : World) : Calls Try.prog 53 #[c.val] w fun e w' => e = .returned (.int .i64 (chkC c)) ∧ Below w.heap.size w w' := by
  unfold Cmdv.val
  by_cases hp : cmdP c
  · have e : chkC c = chk c.k c.r c.t c.re c.im := if_pos hp
    have HE := hide e
    clear e
    obtain ⟨h1, h2, h3⟩ := hp
    have hq : 1 ≤ c.q ∧ c.q ≤ 1099511627776 := of_decide_eq_true h2
    obtain ⟨hq1, hq2⟩ := hq
    have H1 := hide h1
    have H2 := hide h2
    have H3 := hide h3
    clear h1 h2 h3
    go_enter Try.func53, Try.ntmps53
    go_wp2_with fail
    refine (vinside_any c.s 1 1073741824 _).mono ?_
    rintro e w' ⟨rfl, rfl⟩
    rw [H1.out]
    go_wp2_with fail
    refine (vinside_any c.q 1 1099511627776 _).mono ?_
    rintro e w' ⟨rfl, rfl⟩
    rw [H2.out]
    go_wp2_with fail
    refine (vinside_any c.a 0 (c.q - 1) _).mono ?_
    rintro e w' ⟨rfl, rfl⟩
    rw [H3.out]
    go_wp2_with fail
    refine (check_any c.k c.r c.t c.re c.im _).mono ?_
    rintro e w2 ⟨rfl, hb⟩
    go_wp2
    go_ret
    exact ⟨by rw [HE.out]; rfl, below_of_alloc hb⟩
  · have e : chkC c = 23 := if_neg hp
    rw [e]
    clear e
    by_cases h1 : insB c.s 1 1073741824 = true
    · by_cases h2 : insB c.q 1 1099511627776 = true
      · have h3 : insB c.a 0 (c.q - 1) = false := by
          rw [← Bool.not_eq_true]
          exact fun h => hp ⟨h1, h2, h⟩
        have hq : 1 ≤ c.q ∧ c.q ≤ 1099511627776 := of_decide_eq_true h2
        obtain ⟨hq1, hq2⟩ := hq
        have H1 := hide h1
        have H2 := hide h2
        have H3 := hide h3
        clear h1 h2 h3 hp
        go_enter Try.func53, Try.ntmps53
        go_wp2_with fail
        refine (vinside_any c.s 1 1073741824 _).mono ?_
        rintro e w' ⟨rfl, rfl⟩
        rw [H1.out]
        go_wp2_with fail
        refine (vinside_any c.q 1 1099511627776 _).mono ?_
        rintro e w' ⟨rfl, rfl⟩
        rw [H2.out]
        go_wp2_with fail
        refine (vinside_any c.a 0 (c.q - 1) _).mono ?_
        rintro e w' ⟨rfl, rfl⟩
        rw [H3.out]
        go_wp2
        go_ret
        exact ⟨rfl, by go_grown⟩
      · have H1 := hide h1
        have H2 := hide (Bool.eq_false_iff.2 h2)
        clear h1 h2 hp
        go_enter Try.func53, Try.ntmps53
        go_wp2_with fail
        refine (vinside_any c.s 1 1073741824 _).mono ?_
        rintro e w' ⟨rfl, rfl⟩
        rw [H1.out]
        go_wp2_with fail
        refine (vinside_any c.q 1 1099511627776 _).mono ?_
        rintro e w' ⟨rfl, rfl⟩
        rw [H2.out]
        go_wp2
        go_ret
        exact ⟨rfl, by go_grown⟩
    · have H1 := hide (Bool.eq_false_iff.2 h1)
      clear h1 hp
      go_enter Try.func53, Try.ntmps53
      go_wp2_with fail
      refine (vinside_any c.s 1 1073741824 _).mono ?_
      rintro e w' ⟨rfl, rfl⟩
      rw [H1.out]
      go_wp2
      go_ret
      exact ⟨rfl, by go_grown⟩

/-- The shape of a value. -/
def shP (k : Int) (n m : Nat) : Prop := k = 0 ∧ n = 0 ∧ m = 0 ∨ k = 1 ∧ 1 ≤ n ∧ n ≤ 8 ∧ m = 0 ∨ k = 2 ∧ n = 0
instance (k : Int) (n m : Nat) : Decidable (shP k n m) := inferInstanceAs (Decidable (_ ∨ _))
def shB (k : Int) (n m : Nat) : Bool := decide (shP k n m)

theorem insB_nat (n : Nat) : insB (n : Int) 1 8 = decide (1 ≤ n ∧ n ≤ 8) := by
  unfold insB
  apply decide_eq_decide.2
  omega

set_option maxHeartbeats 800000 in
theorem shaped_any (k : Int) (A A' : Option Addr) (n c n' c' : Nat) (w : World) : Calls Try.prog 52 #[.agg #[.int .i64 k, .slice A n c, .slice A' n' c']] w fun e w' => e = .returned (.bool (shB k n n')) ∧ Below w.heap.size w w' := by
  by_cases k0 : k = 0
  · subst k0
    by_cases hn : n = 0
    · subst hn
      by_cases hm : n' = 0
      · subst hm
        rw [show shB 0 0 0 = true from by decide]
        go_enter Try.func52, Try.ntmps52
        go_wp2
        go_ret
        exact ⟨rfl, by go_grown⟩
      · rw [show shB 0 0 n' = false from decide_eq_false (by unfold shP; omega)]
        have t1 : ((n' : Int) == 0) = false := by rw [beq_eq_false_iff_ne]; omega
        go_enter Try.func52, Try.ntmps52
        go_wp2
        go_ret
        exact ⟨rfl, by go_grown⟩
    · rw [show shB 0 n n' = false from decide_eq_false (by unfold shP; omega)]
      have t1 : ((n : Int) == 0) = false := by rw [beq_eq_false_iff_ne]; omega
      go_enter Try.func52, Try.ntmps52
      go_wp2
      go_ret
      exact ⟨rfl, by go_grown⟩
  · by_cases k1 : k = 1
    · subst k1
      by_cases hn : 1 ≤ n ∧ n ≤ 8
      · have t0 : insB (n : Int) 1 8 = true := by rw [insB_nat]; exact decide_eq_true hn
        have T0 := hide t0
        clear t0
        by_cases hm : n' = 0
        · subst hm
          rw [show shB 1 n 0 = true from decide_eq_true (by unfold shP; omega)]
          clear hn
          go_enter Try.func52, Try.ntmps52
          go_wp2_with fail
          refine (vinside_any _ 1 8 _).mono ?_
          rintro e w' ⟨rfl, rfl⟩
          rw [T0.out]
          go_wp2
          go_ret
          exact ⟨rfl, by go_grown⟩
        · rw [show shB 1 n n' = false from decide_eq_false (by unfold shP; omega)]
          have t1 : ((n' : Int) == 0) = false := by rw [beq_eq_false_iff_ne]; omega
          clear hn
          go_enter Try.func52, Try.ntmps52
          go_wp2_with fail
          refine (vinside_any _ 1 8 _).mono ?_
          rintro e w' ⟨rfl, rfl⟩
          rw [T0.out]
          go_wp2
          go_ret
          exact ⟨rfl, by go_grown⟩
      · have t0 : insB (n : Int) 1 8 = false := by rw [insB_nat]; exact decide_eq_false hn
        have T0 := hide t0
        rw [show shB 1 n n' = false from decide_eq_false (by unfold shP; omega)]
        clear t0 hn
        go_enter Try.func52, Try.ntmps52
        go_wp2_with fail
        refine (vinside_any _ 1 8 _).mono ?_
        rintro e w' ⟨rfl, rfl⟩
        rw [T0.out]
        go_wp2
        go_ret
        exact ⟨rfl, by go_grown⟩
    · by_cases k2 : k = 2
      · subst k2
        by_cases hn : n = 0
        · subst hn
          rw [show shB 2 0 n' = true from decide_eq_true (by unfold shP; omega)]
          go_enter Try.func52, Try.ntmps52
          go_wp2
          go_ret
          exact ⟨rfl, by go_grown⟩
        · rw [show shB 2 n n' = false from decide_eq_false (by unfold shP; omega)]
          have t1 : ((n : Int) == 0) = false := by rw [beq_eq_false_iff_ne]; omega
          go_enter Try.func52, Try.ntmps52
          go_wp2
          go_ret
          exact ⟨rfl, by go_grown⟩
      · rw [show shB k n n' = false from decide_eq_false (by unfold shP; omega)]
        have t0 : (k == 0) = false := by rw [beq_eq_false_iff_ne]; exact k0
        have t1 : (k == 1) = false := by rw [beq_eq_false_iff_ne]; exact k1
        have t2 : (k == 2) = false := by rw [beq_eq_false_iff_ne]; exact k2
        go_enter Try.func52, Try.ntmps52
        go_wp2
        go_ret
        exact ⟨rfl, by go_grown⟩

/-- The first error of commands. -/
def chkCs : List Cmdv → Int
  | [] => 0
  | c :: cs => if chkC c = 0 then chkCs cs else chkC c
def chkV (k : Int) (cs : List Cmdv) (ns : List Int) : Int := if shB k cs.length ns.length = true then (if k = 2 then chkS ns else chkCs cs) else 25
theorem chkCs_ok {cs : List Cmdv} {j : Nat} (h : j < cs.length) (h0 : chkC cs[j] = 0) : chkCs (cs.drop j) = chkCs (cs.drop (j + 1)) := by
  rw [List.drop_eq_getElem_cons h, chkCs, if_pos h0]
theorem chkCs_bad {cs : List Cmdv} {j : Nat} (h : j < cs.length) (h0 : chkC cs[j] ≠ 0) : chkCs (cs.drop j) = chkC cs[j] := by
  rw [List.drop_eq_getElem_cons h, chkCs, if_neg h0]

set_option maxHeartbeats 1600000 in
theorem vcheck_any (k : Int) (A A' : Option Addr) (n c n' c' B : Nat) (cs : List Cmdv) (ns : List Int) (w : World) (hC : HasC w B A cs) (hN : HasI w B A' ns) (hB : B ≤ w.heap.size) (hn : cs.length = n) (hn' : ns.length = n') (hl' : n' ≤ 140737488355328) :
    Calls Try.prog 34 #[.agg #[.int .i64 k, .slice A n c, .slice A' n' c']] w fun e w' => e = .returned (.int .i64 (chkV k cs ns)) ∧ Below w.heap.size w w' := by
  have HN := hide hn
  have HN' := hide hn'
  clear hn hn'
  by_cases hs : shB k n n' = true
  · have e0 : chkV k cs ns = if k = 2 then chkS ns else chkCs cs := by unfold chkV; rw [HN.out, HN'.out]; exact if_pos hs
    by_cases k2 : k = 2
    · have hE := hide (e0.trans (if_pos k2))
      have HS := hide hs
      clear e0 hs
      subst k2
      go_enter Try.func34, Try.ntmps34
      go_wp2_with fail
      refine (shaped_any 2 A A' n c n' c' _).mono ?_
      rintro e w1 ⟨rfl, hb1⟩
      rw [HS.out]
      obtain ⟨c0, c1, c2, hz⟩ := val_box hb1
      have hN1 : HasI w1 B A' ns := (hN.alloc hB _).on (by simp; omega) hb1
      go_wp2_with fail
      refine (bcheck_any A' n' c' B ns w1 hN1 HN'.out hl').mono ?_
      rintro e w2 ⟨rfl, rfl⟩
      go_wp2
      go_ret
      exact ⟨by rw [hE.out]; rfl, below_of_alloc hb1⟩
    · have hE := hide (e0.trans (if_neg k2))
      have HS := hide hs
      have hn8 : n ≤ 8 := by
        have := of_decide_eq_true hs
        unfold shP at this
        omega
      have t2 : (k == 2) = false := by rw [beq_eq_false_iff_ne]; exact k2
      clear e0 hs
      go_enter Try.func34, Try.ntmps34
      go_wp2_with fail
      refine (shaped_any k A A' n c n' c' _).mono ?_
      rintro e w1 ⟨rfl, hb1⟩
      rw [HS.out]
      obtain ⟨c0, c1, c2, hz⟩ := val_box hb1
      have hC1 : HasC w1 B A cs := (hC.alloc hB _).on (by simp; omega) hb1
      have hb1' := below_of_alloc hb1
      clear hb1
      go_wp2_with fail
      have HCC : Hid (∀ W, Below w1.heap.size w1 W → HasC W B A cs) := hide (fun W h => hC1.on (by omega) h)
      clear hC hC1
      go_loopw [18] (fun i wr => ∃ j : Nat, j ≤ n ∧ i = .int .i64 j ∧ Hid (chkCs cs = chkCs (cs.drop j)) ∧ Below w1.heap.size w1 wr) (fun i _ => n - (intOf i).toNat)
      case atStart => exact ⟨0, Nat.zero_le _, rfl, hide rfl, Below.refl _ _⟩
      case round =>
        obtain ⟨j, hj, rfl, hcs, hbr⟩ := hrel
        by_cases hlt : j < n
        · have hlt' : j < cs.length := by rw [HN.out]; exact hlt
          have hcl := HCC.out _ hbr j hlt'
          have hok : Hid (chkC cs[j] = 0 → chkCs cs = chkCs (cs.drop (j + 1))) := hide (fun h => hcs.out.trans (chkCs_ok hlt' h))
          have hbad : Hid (chkC cs[j] ≠ 0 → chkCs cs = chkC cs[j]) := hide (fun h => hcs.out.trans (chkCs_bad hlt' h))
          generalize cs[j] = cm at *
          obtain ⟨ab, ao, rfl, hab, e0, e1, e2, e3, e4, e5, e6, e7⟩ := hcl
          go_wp2_with fail
          refine (checkcmd_any cm _).mono ?_
          rintro e w2 ⟨rfl, hb2⟩
          have hb2' := hbr.trans ((below_of_alloc hb2).mono hbr.size)
          by_cases h0 : chkC cm = 0
          · have T := hide (hok.out h0)
            rw [h0]
            clear h0 hok hbad
            go_wp2
            go_roundw
            case rel => exact ⟨j + 1, by omega, by go_num, T, hb2'⟩
            case measure => simp [intOf]; omega
          · have T := hide (hbad.out h0)
            have t1 : (chkC cm != 0) = true := by rw [bne_iff_ne]; exact h0
            clear h0 hok hbad
            go_wp2
            go_ret
            exact ⟨by rw [hE.out, T.out]; rfl, hb1'.trans (hb2'.mono hb1'.size)⟩
        · obtain rfl : j = n := by omega
          have T : Hid (chkCs cs = 0) := hide (by rw [hcs.out, List.drop_of_length_le (by rw [HN.out]; omega)]; rfl)
          go_wp2
          go_ret
          exact ⟨by rw [hE.out, T.out]; rfl, hb1'.trans (hbr.mono hb1'.size)⟩
  · have e0 : chkV k cs ns = 25 := by unfold chkV; rw [HN.out, HN'.out]; exact if_neg hs
    have HS := hide (Bool.eq_false_iff.2 hs)
    rw [e0]
    clear e0 hs
    go_enter Try.func34, Try.ntmps34
    go_wp2_with fail
    refine (shaped_any k A A' n c n' c' _).mono ?_
    rintro e w1 ⟨rfl, hb1⟩
    rw [HS.out]
    go_wp2
    go_ret
    exact ⟨rfl, below_of_alloc hb1⟩
end Go.Proofs.Ytnngmapphacpkaa
