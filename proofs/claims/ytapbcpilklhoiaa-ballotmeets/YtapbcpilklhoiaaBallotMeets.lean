/-
  The walk of BallotMeets. No condition but the reach of what is read.
-/
import Derived.Test.YtapbcpilklhoiaaBallotE
set_option linter.unusedSimpArgs false
set_option linter.unusedVariables false
namespace Go.Proofs.Ytapbcpilklhoiaa
open Go.RowKit

theorem count_meet (p q : Int → Bool) : ∀ xs : List Int, xs.length < xs.countP p + xs.countP q → ∃ m, m ∈ xs ∧ p m = true ∧ q m = true
  | [], h => by simp at h
  | x :: xs, h => by
    by_cases hp : p x = true
    · by_cases hq : q x = true
      · exact ⟨x, by simp, hp, hq⟩
      · obtain ⟨m, h1, h2, h3⟩ := count_meet p q xs (by
          rw [List.countP_cons_of_pos hp, List.countP_cons_of_neg hq, List.length_cons] at h; omega)
        exact ⟨m, by simp [h1], h2, h3⟩
    · obtain ⟨m, h1, h2, h3⟩ := count_meet p q xs (by
        rw [List.countP_cons_of_neg hp, List.length_cons] at h
        rw [List.countP_cons] at h
        split at h <;> omega)
      exact ⟨m, by simp [h1], h2, h3⟩
theorem meet {xs ys zs : List Int} (h1 : enB xs ys = true) (h2 : enB xs zs = true) : ∃ m, m ∈ xs ∧ m ∈ ys ∧ m ∈ zs := by
  have h1' := of_decide_eq_true h1
  have h2' := of_decide_eq_true h2
  unfold cnt at h1' h2'
  obtain ⟨m, a, b, c⟩ := count_meet (fun m => decide (m ∈ ys)) (fun m => decide (m ∈ zs)) xs (by omega)
  exact ⟨m, a, of_decide_eq_true b, of_decide_eq_true c⟩

set_option maxRecDepth 20000 in
set_option maxHeartbeats 1600000 in
theorem meets_walk (A A1 A2 : Option Addr) (n n1 n2 c c1 c2 : Nat) (xs ys zs : List Int) (w : World) (hx : HasI w w.heap.size A xs) (hy : HasI w w.heap.size A1 ys) (hz : HasI w w.heap.size A2 zs)
    (hn : xs.length = n) (hn1 : ys.length = n1) (hn2 : zs.length = n2) (hl : n ≤ 17592186043904) (hl1 : n1 ≤ 17592186043904) (hl2 : n2 ≤ 17592186043904) :
    Calls Try.prog 5 #[.slice A n c, .slice A1 n1 c1, .slice A2 n2 c2] w fun e w' => e = .returned (.bool true) ∧ Below w.heap.size w w' := by
  have HN := hide hn
  have HN1 := hide hn1
  have HN2 := hide hn2
  clear hn hn1 hn2
  go_enter Try.func5, Try.ntmps5
  go_wp2_with fail
  refine (head5_any _).mono ?_
  rintro e w1 ⟨rfl, hb1⟩
  have hx1 : HasI w1 w1.heap.size A xs := (hx.below hb1).more hb1.size
  obtain ⟨v1, wa, hr1, hown1, hba⟩ := run_copy_ints w1 28 A n c w1.heap.size xs hx1 HN.out (by omega) (Nat.le_refl _)
  obtain ⟨Aa, na, ca, rfl, hna, hnca, hxa⟩ := hown1.form
  obtain rfl : na = n := by rw [← hna.out, HN.out]
  have HR1 := hide hr1
  have hba' := hb1.trans (hba.mono hb1.size)
  clear hr1
  go_wp2_with (at_builtin; refine list_append_want _ (by rfl) (.tmp 14) (.tmp 15) 28 28 rfl _ _ rfl rfl _ _ HR1.out ?_)
  refine (bcheck_any Aa na ca wa.heap.size xs wa hxa HN.out (by omega)).mono ?_
  rintro e w2 ⟨rfl, rfl⟩
  by_cases hr : rightS xs
  · have HC : Hid (chkS xs = 0) := hide (if_pos hr)
    rw [HC.out]
    have HRS := hide hr
    clear hr HR1 hxa hown1
    have hx1 : HasI wa wa.heap.size A xs := (hx.below hba').more hba'.size
    obtain ⟨v1, wb, hr1, hown1, hbb⟩ := run_copy_ints wa 28 A na c wa.heap.size xs hx1 HN.out (by omega) (Nat.le_refl _)
    obtain ⟨Ab, nb, cb, rfl, hnb, hncb, hxb⟩ := hown1.form
    obtain rfl : nb = na := by rw [← hnb.out, HN.out]
    have HR1 := hide hr1
    have hbb' := hba'.trans (hbb.mono hba'.size)
    clear hr1
    have hy1 : HasI wb wb.heap.size A1 ys := (hy.below hbb').more hbb'.size
    obtain ⟨v1, wd, hr1, hown2, hbd⟩ := run_copy_ints wb 28 A1 n1 c1 wb.heap.size ys hy1 HN1.out (by omega) (Nat.le_refl _)
    obtain ⟨Ad, nd, cd, rfl, hnd, hncd, hyd⟩ := hown2.form
    obtain rfl : nd = n1 := by rw [← hnd.out, HN1.out]
    have HR2 := hide hr1
    have hbd' := hbb'.trans (hbd.mono hbb'.size)
    have hxd : HasI wd wb.heap.size Ab xs := hxb.below hbd
    clear hr1 hx1
    go_wp2_with (first
      | (at_builtin; refine list_append_want _ (by rfl) (.tmp 19) (.tmp 20) 28 28 rfl _ _ rfl rfl _ _ HR1.out ?_)
      | (at_builtin; refine list_append_want _ (by rfl) (.tmp 23) (.tmp 24) 28 28 rfl _ _ rfl rfl _ _ HR2.out ?_))
    refine (enough_any Ab Ad nb nd cb cd wb.heap.size wd.heap.size xs ys wd hxd hyd HN.out HN1.out (by omega) (by omega) HRS.out).mono ?_
    rintro e w2 ⟨rfl, rfl⟩
    clear HR1 HR2 hxb hyd hown1 hown2
    by_cases he1 : enB xs ys = true
    · rw [he1]
      have HE1 := hide he1
      clear he1
      have hz1 : HasI wd wd.heap.size A2 zs := (hz.below hbd').more hbd'.size
      obtain ⟨v1, we, hr1, hown2, hbe⟩ := run_copy_ints wd 28 A2 n2 c2 wd.heap.size zs hz1 HN2.out (by omega) (Nat.le_refl _)
      obtain ⟨Ae, ne, ce, rfl, hne, hnce, hze⟩ := hown2.form
      obtain rfl : ne = n2 := by rw [← hne.out, HN2.out]
      have HR3 := hide hr1
      have hbe' := hbd'.trans (hbe.mono hbd'.size)
      have hxe : HasI we wb.heap.size Ab xs := hxd.on hbd.size hbe
      clear hr1
      go_wp2_with (at_builtin; refine list_append_want _ (by rfl) (.tmp 30) (.tmp 31) 28 28 rfl _ _ rfl rfl _ _ HR3.out ?_)
      refine (enough_any Ab Ae nb ne cb ce wb.heap.size we.heap.size xs zs we hxe hze HN.out HN2.out (by omega) (by omega) HRS.out).mono ?_
      rintro e w2 ⟨rfl, rfl⟩
      by_cases he2 : enB xs zs = true
      · rw [he2]
        have HE2 := hide he2
        clear he2 HR3 hown2 hze hz1
        have hye : HasI we we.heap.size A1 ys := (hy.below hbe').more hbe'.size
        have hze : HasI we we.heap.size A2 zs := (hz.below hbe').more hbe'.size
        clear hx hy hz hxd hy1 hbd hbe hbb hba hb1 hba' hbb' hbd'
        have hdn : ys.length = nd := HN1.out
        have hen : zs.length = ne := HN2.out
        subst hdn hen
        go_wp2
        go_loop [38] (fun i => ∃ k : Nat, k ≤ ys.length ∧ i = .int .i64 k ∧ Hid (∀ i (hi : i < ys.length), i < k → ∀ j (hj : j < zs.length), ¬ (ys[i] = zs[j] ∧ ys[i] ∈ xs))) (fun i => ys.length - (intOf i).toNat)
        case atStart => exact ⟨0, Nat.zero_le _, rfl, fun i hi h => absurd h (by omega)⟩
        case round =>
          obtain ⟨k, hk, rfl, hno⟩ := hrel
          by_cases hlt : k < ys.length
          · obtain ⟨b, o, rfl, hb, hc⟩ := hye k hlt
            go_wp2
            go_loop [44] (fun i => ∃ m : Nat, m ≤ zs.length ∧ i = .int .i64 m ∧ Hid (∀ j (hj : j < zs.length), j < m → ¬ (ys[k] = zs[j] ∧ ys[k] ∈ xs))) (fun i => zs.length - (intOf i).toNat)
            case atStart => exact ⟨0, Nat.zero_le _, rfl, fun i hi h => absurd h (by omega)⟩
            case round =>
              obtain ⟨m, hm, rfl, hno2⟩ := hrel
              by_cases hlt2 : m < zs.length
              · have hzm := hze m hlt2
                obtain ⟨b2, o2, rfl, hb2, hc2⟩ := hzm
                by_cases hv : ys[k] = zs[m]
                · have t2 : (ys[k] == zs[m]) = true := by simpa using hv
                  have HV := hide hv
                  clear hv
                  go_wp2_with fail
                  refine (has_any Ab nb cb wb.heap.size xs ys[k] we hxe HN.out (by omega)).mono ?_
                  rintro e w2 ⟨rfl, rfl⟩
                  by_cases hmem : ys[k] ∈ xs
                  · have hd : decide (ys[k] ∈ xs) = true := decide_eq_true hmem
                    rw [hd]
                    clear hd hmem
                    go_wp2
                    go_ret
                    exact ⟨rfl, hbe'⟩
                  · have hd : decide (ys[k] ∈ xs) = false := decide_eq_false hmem
                    have HM := hide hmem
                    rw [hd]
                    clear hd hmem
                    go_wp2
                    go_round
                    case rel => exact ⟨m + 1, by omega, by go_num, fun j hj hjk => by
                      rcases Nat.lt_or_ge j m with h | h
                      · exact hno2.out j hj h
                      · obtain rfl : j = m := by omega
                        exact fun h => HM.out h.2⟩
                    case measure => simp [intOf]; omega
                · have t2 : (ys[k] == zs[m]) = false := by simpa using hv
                  have HV := hide hv
                  clear hv
                  go_wp2
                  go_round
                  case rel => exact ⟨m + 1, by omega, by go_num, fun j hj hjk => by
                    rcases Nat.lt_or_ge j m with h | h
                    · exact hno2.out j hj h
                    · obtain rfl : j = m := by omega
                      exact fun h => HV.out h.1⟩
                  case measure => simp [intOf]; omega
              · go_wp2
                go_round
                case rel => exact ⟨k + 1, by omega, by go_num, fun i hi hik => by
                  rcases Nat.lt_or_ge i k with h | h
                  · exact hno.out i hi h
                  · obtain rfl : i = k := by omega
                    exact fun j hj => hno2.out j hj (by omega)⟩
                case measure => simp [intOf]; omega
          · exfalso
            obtain ⟨m, h1, h2, h3⟩ := meet HE1.out HE2.out
            obtain ⟨i, hi, ei⟩ := List.mem_iff_getElem.1 h2
            obtain ⟨j, hj, ej⟩ := List.mem_iff_getElem.1 h3
            exact hno.out i hi (by omega) j hj ⟨by rw [ei, ej], by rw [ei]; exact h1⟩
      · have he2' : enB xs zs = false := by simpa using he2
        rw [he2']
        go_wp2
        go_ret
        exact ⟨rfl, hbe'⟩
    · have he1' : enB xs ys = false := by simpa using he1
      rw [he1']
      go_wp2
      go_ret
      exact ⟨rfl, hbd'⟩
  · have HC : Hid (chkS xs = 24) := hide (if_neg hr)
    rw [HC.out]
    go_wp2
    go_ret
    exact ⟨rfl, hba'⟩
end Go.Proofs.Ytapbcpilklhoiaa
