/-
  The walk of BallotShares. No condition but the reach of what is read.
-/
import Derived.Test.YtapbcpilklhoiaaBallotE
import Derived.IntWalk
set_option linter.unusedSimpArgs false
set_option linter.unusedVariables false
namespace Go.Proofs.Ytapbcpilklhoiaa
open Go.RowKit

/-- Cut to the lowest bits. -/
theorem and_mask (q : Int) (j : Nat) (hj : j < 63) : bits .and .i64 q (2 ^ j - 1) = q % 2 ^ j := by
  have hp : (2 : Nat) ^ j < 2 ^ 63 := Nat.pow_lt_pow_right (by omega) hj
  have hp0 : 0 < (2 : Nat) ^ j := Nat.two_pow_pos j
  have e2 : ((2 ^ j : Nat) : Int) = (2 : Int) ^ j := by push_cast; rfl
  have hm : (BitVec.ofInt 64 ((2 : Int) ^ j - 1)).toNat = 2 ^ j - 1 := by
    rw [BitVec.toNat_ofInt]
    omega
  have hand : (BitVec.ofInt 64 q &&& BitVec.ofInt 64 ((2 : Int) ^ j - 1)).toNat = (BitVec.ofInt 64 q).toNat % 2 ^ j := by
    rw [BitVec.toNat_and, hm, Nat.and_two_pow_sub_one_eq_mod]
  show IntKind.i64.wrap ((BitVec.ofInt 64 q &&& BitVec.ofInt 64 ((2 : Int) ^ j - 1)).toNat : Int) = _
  rw [hand, BitVec.toNat_ofInt]
  have hlt : (q % 18446744073709551616).toNat % 2 ^ j < 2 ^ j := Nat.mod_lt _ hp0
  rw [IntWalk.i64_in _ (by omega)]
  have hd : ((2 : Int) ^ j) ∣ 18446744073709551616 := by
    refine ⟨2 ^ (64 - j), ?_⟩
    rw [← Int.pow_add, show j + (64 - j) = 64 from by omega]
    rfl
  show (((q % 18446744073709551616).toNat % 2 ^ j : Nat) : Int) = _
  rw [Int.natCast_emod, e2, Int.toNat_of_nonneg (by omega)]
  exact Int.emod_emod_of_dvd q hd

theorem and_65535 (q : Int) : bits .and .i64 q 65535 = q % 65536 := and_mask q 16 (by omega)

/-- The leaders of the first j rounds behind q. -/
def ledL (xs : List Int) (q j : Nat) : List Int := (List.range j).map fun i => xs.getD ((q + i) % xs.length) 0
theorem ledL_succ (xs : List Int) (q j : Nat) : ledL xs q (j + 1) = ledL xs q j ++ [xs.getD ((q + j) % xs.length) 0] := by simp [ledL, List.range_succ]
theorem ledL_len (xs : List Int) (q j : Nat) : (ledL xs q j).length = j := by simp [ledL]
theorem ledL_new {xs : List Int} (h : rightS xs) (q : Nat) {j : Nat} (hj : j < xs.length) : xs.getD ((q + j) % xs.length) 0 ∉ ledL xs q j := by
  intro hm
  obtain ⟨i, hi, he⟩ := List.mem_map.1 hm
  have hi' : i < j := by simpa using hi
  have hpos : 0 < xs.length := by omega
  have h1 := rightS_inj h (Nat.mod_lt _ hpos) (Nat.mod_lt _ hpos) he
  have h2 := (wt_iff (q := q) (Nat.mod_lt (q + j) hpos) hj).1 rfl
  have h3 := (wt_iff (q := q) (Nat.mod_lt (q + j) hpos) (show i < xs.length by omega)).1 h1
  omega
theorem ledL_in {xs : List Int} (h : 0 < xs.length) (q j : Nat) : xs.getD ((q + j) % xs.length) 0 ∈ xs := by
  rw [getD_at (Nat.mod_lt _ h)]
  exact List.getElem_mem _
theorem ledL_enough {xs : List Int} (h : rightS xs) (q : Nat) : enB xs (ledL xs q xs.length) = true := by
  refine decide_eq_true ?_
  have : cnt xs (ledL xs q xs.length) = xs.length := by
    unfold cnt
    refine List.countP_eq_length.2 fun x hx => decide_eq_true ?_
    obtain ⟨p, hp, rfl⟩ := List.mem_iff_getElem.1 hx
    refine List.mem_map.2 ⟨wt xs.length p q, by simpa using wt_lt hp, ?_⟩
    rw [(wt_iff hp (wt_lt hp)).2 rfl, getD_at hp]
  have h1 := h.1
  omega

set_option maxHeartbeats 1600000 in
set_option maxRecDepth 20000 in
theorem shares_walk (A : Option Addr) (n c : Nat) (xs : List Int) (r : Int) (w : World) (hx : HasI w w.heap.size A xs) (hn : xs.length = n) (hl : n ≤ 17592186043904) (hr : -9223372036854775808 ≤ r) (hr' : r ≤ 9223372036854775807) :
    Calls Try.prog 7 #[.slice A n c, .int .i64 r] w fun e w' => e = .returned (.bool true) ∧ Below w.heap.size w w' := by
  have HN := hide hn
  clear hn
  go_enter Try.func7, Try.ntmps7
  go_wp2_with fail
  refine (head5_any _).mono ?_
  rintro e w1 ⟨rfl, hb1⟩
  have hx1 : HasI w1 w1.heap.size A xs := (hx.below hb1).more hb1.size
  obtain ⟨v1, wa, hr1, hown1, hba⟩ := run_copy_ints w1 28 A n c w1.heap.size xs hx1 HN.out (by omega) (Nat.le_refl _)
  obtain ⟨Aa, na, ca, rfl, hna, hnca, hxa⟩ := hown1.form
  obtain rfl : na = n := by rw [← hna.out, HN.out]
  have HR1 := hide hr1
  have hba' := hb1.trans (hba.mono hb1.size)
  clear hr1
  go_wp2_with (at_builtin; refine list_append_want _ (by rfl) (.tmp 11) (.tmp 12) 28 28 rfl _ _ rfl rfl _ _ HR1.out ?_)
  refine (bcheck_any Aa na ca wa.heap.size xs wa hxa HN.out (by omega)).mono ?_
  rintro e w2 ⟨rfl, rfl⟩
  by_cases hrs : rightS xs
  · have HC : Hid (chkS xs = 0) := hide (if_pos hrs)
    rw [HC.out]
    have HRS := hide hrs
    have h1n : 1 ≤ na := by rw [← HN.out]; exact hrs.1
    have h7n : na ≤ 7 := by rw [← HN.out]; exact hrs.2.1
    clear hrs HR1 hxa hown1
    have hx1 : HasI wa wa.heap.size A xs := (hx.below hba').more hba'.size
    obtain ⟨v1, wb, hr1, hown1, hbb⟩ := run_copy_ints wa 28 A na c wa.heap.size xs hx1 HN.out (by omega) (Nat.le_refl _)
    obtain ⟨Ab, nb, cb, rfl, hnb, hncb, hxb⟩ := hown1.form
    obtain rfl : nb = na := by rw [← hnb.out, HN.out]
    have HR1 := hide hr1
    have hbb' := hba'.trans (hbb.mono hba'.size)
    clear hr1
    have ka := and_65535 r
    obtain ⟨q, hq⟩ : ∃ q : Nat, r % 65536 = (q : Int) := ⟨(r % 65536).toNat, by omega⟩
    have hq6 : (q : Int) < 65536 := by omega
    rw [hq] at ka
    go_wp2_with (at_builtin; refine list_append_want _ (by rfl) (.tmp 16) (.tmp 17) 28 28 rfl _ _ rfl rfl _ _ HR1.out ?_)
    have hxn : HasI wb wb.heap.size Ab xs := hxb
    have hb0 := OwnI.new wb [] wb.heap.size wb.heap.size rfl (Nat.le_refl _) (by simp)
    clear HR1 hown1 hx1 hx hb1 hba hba' hbb ka hq hr hr'
    go_loopw [6, 7] (fun s i wr => ∃ j : Nat, j ≤ nb ∧ i = .int .i64 (1 + q + j) ∧ OwnI wr wb.heap.size s (ledL xs q j) ∧ Below wb.heap.size wb wr) (fun _ i _ => q + nb + 1 - (intOf i).toNat)
    case atStart => exact ⟨0, Nat.zero_le _, by congr 1, hb0, (Below.refl _ _).alloc (Nat.le_refl _) _⟩
    case round =>
      obtain ⟨j, hj, rfl, hown, hbr⟩ := hrel
      obtain ⟨Al, nl, cl, rfl, hnl, hncl, hled⟩ := hown.form
      have hjl : nl = j := by rw [← hnl.out, ledL_len]
      subst hjl
      have hxr : HasI wr wb.heap.size Ab xs := hxn.below hbr
      by_cases hlt : nl < nb
      · have e1 : (1 : Int) + q + nl = ((q + nl : Nat) : Int) + 1 := by omega
        have hld : ldr xs (1 + (q : Int) + nl) = xs.getD ((q + nl) % xs.length) 0 := by rw [e1]; exact ldr_nat (by rw [HN.out]; omega) _
        have hin := ledL_in (xs := xs) (by rw [HN.out]; omega) q nl
        have hnew := ledL_new HRS.out q (j := nl) (by rw [HN.out]; exact hlt)
        have hsucc := ledL_succ xs q nl
        generalize xs.getD ((q + nl) % xs.length) 0 = l at *
        have HSU := hide hsucc
        have d1 : decide (l ∈ xs) = true := decide_eq_true hin
        have d2 : decide (l ∈ ledL xs q nl) = false := decide_eq_false hnew
        clear e1 hin hnew hsucc
        go_wp2_with fail
        refine (leader_any Ab nb cb wb.heap.size xs (1 + (q : Int) + nl) wr hxr HN.out (by omega) (by omega) (by omega)).mono ?_
        rintro e w2 ⟨rfl, rfl⟩
        rw [hld]
        go_wp2_with fail
        refine (has_any Ab nb cb wb.heap.size xs l wr hxr HN.out (by omega)).mono ?_
        rintro e w2 ⟨rfl, rfl⟩
        rw [d1]
        go_wp2_with fail
        refine (rhas_any Al nl cl wr.heap.size (ledL xs q nl) l wr hled hnl.out (by omega)).mono ?_
        rintro e w2 ⟨rfl, rfl⟩
        rw [d2]
        have hbase := hbr.size
        obtain ⟨v2, wn, hrn, hownn, hgr, hat⟩ := run_append_ints (wr.alloc (.cells (icells [l]) 3)) 28 wb.heap.size _ _ (hown.below ((Below.refl _ _).alloc (Nat.le_refl _) _)) (wr.heap.size + 1) (some ⟨wr.heap.size, 0, none⟩) 1 1 [l] (HasI.new wr 3 [l] (0, 0) _ rfl) rfl (by rw [hnl.out]; omega) (by simp; omega)
        rw [← HSU.out] at hownn
        obtain ⟨An, nn, cn, rfl, hnn, hncn, hledn⟩ := hownn.form
        have hlt0 := hown.lt
        have hbn : Below wb.heap.size wb wn := ((hbr.alloc hbase _).grown hgr (by simp; omega) (fun k hk => (hlt0 k hk).1))
        have HRN := hide hrn
        clear hrn hat hgr hlt0 hled hown
        go_wp2_with (at_builtin; refine list_append_want _ (by rfl) (.tmp 44) (.tmp 46) 28 28 rfl _ _ rfl rfl _ _ HRN.out ?_)
        go_roundw
        case rel => exact ⟨nl + 1, by omega, by go_num, hownn, hbn⟩
        case measure => simp [intOf]; omega
      · obtain rfl : nl = nb := by omega
        have e1 : (1 : Int) + q + nl = ((q + nl : Nat) : Int) + 1 := by omega
        have hld : ldr xs (1 + (q : Int) + nl) = xs.getD (q % xs.length) 0 := by
          rw [e1, ldr_nat (by rw [HN.out]; omega), ← HN.out, Nat.add_mod_right]
        have h0 : 0 < (ledL xs q nl).length := by rw [ledL_len]; omega
        have hl0 : (ledL xs q nl)[0] = xs.getD (q % xs.length) 0 := by simp [ledL]
        obtain ⟨b, o, rfl, hb, hc⟩ := hled 0 h0
        rw [hl0] at hc
        simp only [Nat.add_zero] at hc
        have hen := ledL_enough HRS.out q
        rw [HN.out] at hen
        have HLD : Hid (∀ W, HasI W wb.heap.size Ab xs → Calls Try.prog 26 #[.slice Ab nl cb, .int .i64 (1 + (q : Int) + nl)] W fun e w' => e = .returned (.int .i64 (xs.getD (q % xs.length) 0)) ∧ W = w') := hide (fun W h => by
          have := leader_any Ab nl cb wb.heap.size xs (1 + (q : Int) + nl) W h HN.out (by omega) (by omega) (by omega)
          rw [hld] at this
          exact this)
        have HEN : Hid (∀ W, HasI W wb.heap.size Ab xs → HasI W wr.heap.size (some ⟨b, o, none⟩) (ledL xs q nl) → Calls Try.prog 24 #[.slice Ab nl cb, .slice (some ⟨b, o, none⟩) nl cl] W fun e w' => e = .returned (.bool true) ∧ W = w') := hide (fun W h h' => by
          have := enough_any Ab _ nl nl cb cl wb.heap.size wr.heap.size xs (ledL xs q nl) W h h' HN.out hnl.out (by omega) (by omega) HRS.out
          rw [hen] at this
          exact this)
        generalize xs.getD (q % xs.length) 0 = l at *
        have i2 : 0 < nl := by omega
        have hwr : IntKind.i64.wrap (1 + (q : Int) + nl) = 1 + (q : Int) + nl := IntWalk.i64_in _ (by omega)
        have e2 : (nl : Int) ≠ 0 := by omega
        have i1 : (0 : Int) < nl := by omega
        clear e1 h0 hl0 hen
        go_wp2_with fail
        go_region_held3 (fun w' => w'.cell? ⟨b, o, none⟩ = some (.int .i64 l)) (first | exact hc | go_keep) (first
          | ((go_at_call 26; (with_reducible refine (HLD.out _ ?_).mono ?_)); exact hxr; rintro e w2 ⟨rfl, rfl⟩)
          | ((go_at_call 24; (with_reducible refine (HEN.out _ ?_ ?_).mono ?_)); exact hxr; exact hled; rintro e w2 ⟨rfl, rfl⟩))
        go_wp2
        go_ret
        exact ⟨rfl, (hbb'.trans (hbr.mono hbb'.size)).drew⟩
  · have HC : Hid (chkS xs = 24) := hide (if_neg hrs)
    rw [HC.out]
    go_wp2
    go_ret
    exact ⟨rfl, hba'⟩
end Go.Proofs.Ytapbcpilklhoiaa
