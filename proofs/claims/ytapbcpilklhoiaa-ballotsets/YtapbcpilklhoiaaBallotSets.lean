/-
  The walk of BallotSets. No condition but the reach of what is read.
-/
import Derived.Test.YtapbcpilklhoiaaBallotTurns
set_option linter.unusedSimpArgs false
set_option linter.unusedVariables false
namespace Go.Proofs.Ytapbcpilklhoiaa
open Go.RowKit

theorem NX.eq {xs : List Int} {r v R N E R' N' E' : Int} (hr : rightS xs) (h : NX xs r v R N E) (h' : NX xs r v R' N' E') : R = R' ∧ N = N' ∧ E = E' := by
  rcases h.is_ with ⟨h1, h2, h3, h4⟩ | ⟨p, q, hp, hv, hq, hq2, hh⟩
  · rcases h'.is_ with ⟨g1, g2, g3, _⟩ | ⟨p', q', hp', hv', hq', hq2', hh'⟩
    · omega
    · exfalso
      have hm : v ∈ xs := by rw [← hv', getD_at hp']; exact List.getElem_mem hp'
      rcases h4 with h4 | h4 | h4
      · exact h4 hm
      · omega
      · omega
  · rcases h'.is_ with ⟨g1, g2, g3, g4⟩ | ⟨p', q', hp', hv', hq', hq2', hh'⟩
    · exfalso
      have hm : v ∈ xs := by rw [← hv, getD_at hp]; exact List.getElem_mem hp
      rcases g4 with h4 | h4 | h4
      · exact h4 hm
      · omega
      · omega
    · obtain rfl : q' = q := by omega
      obtain rfl := rightS_inj hr hp' hp (by rw [hv, hv'])
      rcases hh with ⟨a1, a2, a3, a4⟩ | ⟨a1, a2, a3, a4⟩ <;> rcases hh' with ⟨b1, b2, b3, b4⟩ | ⟨b1, b2, b3, b4⟩
      · omega
      · omega
      · omega
      · exact ⟨by rw [a2, b2], by rw [a3, b3], by rw [a1, b1]⟩

theorem right1 : chkS [1] = 0 := by decide
theorem right0 : chkS [] = 24 := by decide

set_option maxRecDepth 20000 in
set_option maxHeartbeats 3200000 in
theorem sets_walk (A A1 : Option Addr) (n n1 c c1 : Nat) (xs ys : List Int) (v r : Int) (w : World) (hx : HasI w w.heap.size A xs) (hy : HasI w w.heap.size A1 ys) (hn : xs.length = n) (hn1 : ys.length = n1) (hl : n ≤ 17592186043904) (hl1 : n1 ≤ 17592186043904) (hr : -9223372036854775808 ≤ r) (hr' : r ≤ 9223372036854775807) :
    Calls Try.prog 4 #[.slice A n c, .slice A1 n1 c1, .int .i64 v, .int .i64 r] w fun e w' => e = .returned (.bool true) ∧ Below w.heap.size w w' := by
  have HN := hide hn
  have HN1 := hide hn1
  clear hn hn1
  go_enter Try.func4, Try.ntmps4
  go_wp2_with fail
  refine (head5_any _).mono ?_
  rintro e w1 ⟨rfl, hb1⟩
  go_wp2_with fail
  refine (bcheck_any _ 1 1 (w1.heap.size + 1) [1] _ (HasI.new w1 3 [1] (0, 0) _ rfl) rfl (by omega)).mono ?_
  rintro e w2 ⟨rfl, rfl⟩
  rw [right1]
  go_wp2_with fail
  refine (bcheck_any none 0 0 0 [] _ (HasI.nil _ _ _) rfl (by omega)).mono ?_
  rintro e w2 ⟨rfl, rfl⟩
  rw [right0]
  have hb2 := hb1.alloc hb1.size (.cells (icells [1]) 3)
  generalize w1.alloc (.cells (icells [1]) 3) = w2 at *
  clear hb1
  have hx1 : HasI w2 w2.heap.size A xs := (hx.below hb2).more hb2.size
  obtain ⟨v1, wa, hr1, hown1, hba⟩ := run_copy_ints w2 28 A n c w2.heap.size xs hx1 HN.out (by omega) (Nat.le_refl _)
  obtain ⟨Aa, na, ca, rfl, hna, hnca, hxa⟩ := hown1.form
  obtain rfl : na = n := by rw [← hna.out, HN.out]
  have HR1 := hide hr1
  have hba' := hb2.trans (hba.mono hb2.size)
  clear hr1
  go_wp2_with (at_builtin; refine list_append_want _ (by rfl) (.tmp 27) (.tmp 28) 28 28 rfl _ _ rfl rfl _ _ HR1.out ?_)
  refine (bcheck_any Aa na ca wa.heap.size xs wa hxa HN.out (by omega)).mono ?_
  rintro e w3 ⟨rfl, rfl⟩
  have hxs : HasI wa wa.heap.size A xs := (hx.below hba').more hba'.size
  clear HR1 hown1 hx1 hba hb2
  by_cases hrs : rightS xs
  · have HC : Hid (chkS xs = 0) := hide (if_pos hrs)
    rw [HC.out]
    have HRS := hide hrs
    have h1n : 1 ≤ na := by rw [← HN.out]; exact hrs.1
    have h7n : na ≤ 7 := by rw [← HN.out]; exact hrs.2.1
    have hd : decide (rightS xs) = true := decide_eq_true hrs
    clear hrs
    go_wp2_with fail
    refine (rright_any A na c wa.heap.size xs wa hxs HN.out (by omega)).mono ?_
    rintro e w3 ⟨rfl, nq, rfl⟩
    rw [hd]
    have hbd := below_drewN hba' nq
    have hxs' : HasI (wa.drewN nq) (wa.drewN nq).heap.size A xs := hxs
    have hxa' : HasI (wa.drewN nq) (wa.drewN nq).heap.size Aa xs := hxa
    generalize wa.drewN nq = wd at *
    clear hd hxs hxa hba'
    go_wp2_with fail
    refine (has_any Aa na ca wd.heap.size xs v wd hxa' HN.out (by omega)).mono ?_
    rintro e w3 ⟨rfl, rfl⟩
    go_wp2_with fail
    refine (rhas_any A na c wd.heap.size xs v wd hxs' HN.out (by omega)).mono ?_
    rintro e w3 ⟨rfl, rfl⟩
    go_wp2_with fail
    refine (quorum_any Aa na ca wd (by omega)).mono ?_
    rintro e w3 ⟨rfl, rfl⟩
    have hy1 : HasI wd wd.heap.size A1 ys := (hy.below hbd).more hbd.size
    obtain ⟨v1, we, hr1, hown1, hbe⟩ := run_copy_ints wd 28 A1 n1 c1 wd.heap.size ys hy1 HN1.out (by omega) (Nat.le_refl _)
    obtain ⟨Ae, ne, ce, rfl, hne, hnce, hye⟩ := hown1.form
    obtain rfl : ne = n1 := by rw [← hne.out, HN1.out]
    have HR1 := hide hr1
    have hbe' := hbd.trans (hbe.mono hbd.size)
    have hxe : HasI we wd.heap.size Aa xs := hxa'.on (Nat.le_refl _) hbe
    have hxe' : HasI we wd.heap.size A xs := hxs'.on (Nat.le_refl _) hbe
    have hye' : HasI we wd.heap.size A1 ys := hy1.on (Nat.le_refl _) hbe
    clear hr1
    go_wp2_with (at_builtin; refine list_append_want _ (by rfl) (.tmp 66) (.tmp 67) 28 28 rfl _ _ rfl rfl _ _ HR1.out ?_)
    refine (enough_any Aa Ae na ne ca ce wd.heap.size we.heap.size xs ys we hxe hye HN.out HN1.out (by omega) (by omega) HRS.out).mono ?_
    rintro e w3 ⟨rfl, rfl⟩
    go_wp2_with fail
    refine (renough_any A A1 na ne c c1 wd.heap.size wd.heap.size xs ys we hxe' hye' HN.out HN1.out (by omega) (by omega)).mono ?_
    rintro e w3 ⟨rfl, rfl⟩
    clear HR1 hown1 hy1 hye
    go_wp2_with fail
    refine (leader_any Aa na ca wd.heap.size xs r we hxe HN.out (by omega) hr hr').mono ?_
    rintro e w3 ⟨rfl, rfl⟩
    go_wp2_with fail
    refine (rleader_any A na c wd.heap.size xs r we hxe' HN.out (by omega) h1n hr hr').mono ?_
    rintro e w3 ⟨rfl, rfl⟩
    have hzd := hbe.size
    go_wp2_with fail
    refine (rnext_any A na c wd.heap.size xs r 0 v we hxe' hzd HN.out HRS.out).mono ?_
    intro e w4 hne4
    obtain ⟨R, N, E, rfl, hnx, hb4⟩ := hne4.one
    have hxf : HasI w4 wd.heap.size Aa xs := hxe.on hzd hb4
    have hzf := Nat.le_trans hzd hb4.size
    have hbf := hbe'.trans (hb4.mono hbe'.size)
    clear hb4 hne4 hxe hxe' hye'
    have HNX : Hid (∀ W, HasI W wd.heap.size Aa xs → wd.heap.size ≤ W.heap.size → Calls Try.prog 29 #[.slice Aa na ca, .agg #[.int .i64 r, .int .i64 0], .int .i64 v] W fun e w' => e = .returned (.tuple #[.agg #[.int .i64 R, .int .i64 N], .int .i64 E]) ∧ Below W.heap.size W w') := hide (fun W h h2 => (next_any Aa na ca wd.heap.size xs r 0 v W h h2 HN.out (by omega)).mono fun _ _ h => by
      obtain ⟨R', N', E', rfl, hnx', hb⟩ := NextEnds.one h
      obtain ⟨rfl, rfl, rfl⟩ := NX.eq HRS.out hnx hnx'
      exact ⟨rfl, hb⟩)
    clear hnx
    go_wp2_with fail
    refine (HNX.out _ ?_ ?_).mono ?_
    · exact hxf.alloc hzf _
    · simp; omega
    rintro e w5 ⟨rfl, hb5⟩
    obtain ⟨c0, c1, hz5⟩ := one_below hb5
    have hz45 : w4.heap.size ≠ w5.heap.size := by omega
    have ke := fun w => equal_bal 9998 R N R N w
    rw [decide_eq_true rfl] at ke
    have hb5' := hbf.trans ((below_of_alloc hb5).mono hbf.size)
    go_wp2
    go_ret
    exact ⟨rfl, hb5'.alloc hb5'.size _⟩
  · have HC : Hid (chkS xs = 24) := hide (if_neg hrs)
    rw [HC.out]
    have hd : decide (rightS xs) = false := decide_eq_false hrs
    clear hrs
    go_wp2_with fail
    refine (rright_any A na c wa.heap.size xs wa hxs HN.out (by omega)).mono ?_
    rintro e w3 ⟨rfl, nq, rfl⟩
    rw [hd]
    go_wp2
    go_ret
    exact ⟨rfl, below_drewN hba' nq⟩
end Go.Proofs.Ytapbcpilklhoiaa
