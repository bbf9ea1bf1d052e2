/-
  The walk of BallotTurns. No condition but the reach of what is read.
-/
import Derived.Test.YtapbcpilklhoiaaBallotOrder
import Derived.IntWalk
import Derived.Deep.DeepCutAuto
import Derived.Deep.DrawnRows
set_option linter.unusedSimpArgs false
set_option linter.unusedVariables false
namespace Go.Proofs.Ytapbcpilklhoiaa
open Go.RowKit

/-- What Next gives: the ballot's round and node, and the error. -/
structure NX (xs : List Int) (r v R N E : Int) : Prop where
  is_ : (E = 1 ∧ R = 0 ∧ N = 0 ∧ (v ∉ xs ∨ r < 0 ∨ 1099511627776 < r)) ∨
    ∃ p q : Nat, p < xs.length ∧ xs.getD p 0 = v ∧ r = q ∧ q ≤ 1099511627776 ∧
      ((E = 27 ∧ R = 0 ∧ N = 0 ∧ 1099511627776 < q + 1 + wt xs.length p q) ∨ (E = 0 ∧ R = ((q + wt xs.length p q : Nat) : Int) + 1 ∧ N = v ∧ q + 1 + wt xs.length p q ≤ 1099511627776))
def NextOne (xs : List Int) (r v : Int) (w : World) (e : Ending) (w' : World) : Prop :=
  ∃ R N E, e = .returned (.tuple #[.agg #[.int .i64 R, .int .i64 N], .int .i64 E]) ∧ NX xs r v R N E ∧ Below w.heap.size w w'
theorem NextEnds.one {xs : List Int} {r v : Int} {w w' : World} {e : Ending} (h : NextEnds xs r v w e w') : NextOne xs r v w e w' := by
  obtain ⟨h, hb⟩ := h
  rcases h with ⟨rfl, h⟩ | ⟨p, q, hp, hv, hq, hq2, ⟨rfl, h⟩ | ⟨rfl, h⟩⟩
  · exact ⟨0, 0, 1, rfl, ⟨.inl ⟨rfl, rfl, rfl, h⟩⟩, hb⟩
  · exact ⟨0, 0, 27, rfl, ⟨.inr ⟨p, q, hp, hv, hq, hq2, .inl ⟨rfl, rfl, rfl, h⟩⟩⟩, hb⟩
  · exact ⟨_, _, 0, rfl, ⟨.inr ⟨p, q, hp, hv, hq, hq2, .inr ⟨rfl, rfl, rfl, h⟩⟩⟩, hb⟩

theorem box_kept {w w1 : World} {a b : Value} {t : TypeId} (hb : Below (w.alloc (.cells #[a, b] t)).drew.heap.size (w.alloc (.cells #[a, b] t)).drew w1) :
    w1.heap[w.heap.size]? = some (.cells #[a, b] t (0, 0)) ∧ w1.cell? ⟨w.heap.size, 0, none⟩ = some a ∧ w1.cell? ⟨w.heap.size, 1, none⟩ = some b ∧ w1.frozen? ⟨w.heap.size, 0, none⟩ = false ∧ w1.frozen? ⟨w.heap.size, 1, none⟩ = false ∧ w.heap.size < w1.heap.size := by
  have hz : w.heap.size < (w.alloc (.cells #[a, b] t)).drew.heap.size := by
    have : (w.alloc (.cells #[a, b] t)).drew.heap.size = w.heap.size + 1 := by simp
    omega
  have h : w1.heap[w.heap.size]? = some (.cells #[a, b] t (0, 0)) := (hb.block _ hz).trans (heap_alloc_new w _)
  exact ⟨h, by rw [cell_of_row _ _ _ _ _ _ h]; rfl, by rw [cell_of_row _ _ _ _ _ _ h]; rfl, by simp [World.frozen?, h], by simp [World.frozen?, h], Nat.lt_of_lt_of_le hz hb.size⟩

theorem set_two {w : World} {g : Nat} {a b : Value} {t : TypeId} {fr : Nat × Nat} (h : w.heap[g]? = some (.cells #[a, b] t fr)) (x y : Value) :
    ((w.setCell ⟨g, 0, none⟩ x).setCell ⟨g, 1, none⟩ y).cell? ⟨g, 0, none⟩ = some x ∧ ((w.setCell ⟨g, 0, none⟩ x).setCell ⟨g, 1, none⟩ y).cell? ⟨g, 1, none⟩ = some y := by
  constructor <;> simp [World.setCell, World.cell?, Array.getElem?_modify, h]
theorem below_set {B : Nat} {a w : World} (h : Below B a w) {p : Addr} (hp : B ≤ p.block) (u : Value) : Below B a (w.setCell p u) :=
  ⟨h.os, h.tape, h.output, by simpa [World.setCell] using h.size, fun k hk => (Below.heap_setCell w p u k (by omega)).trans (h.block k hk)⟩

theorem one_below {a b : Int} {w w1 : World} (hb : Below (w.alloc (.cells #[.int .i64 a, .int .i64 b] 23)).heap.size (w.alloc (.cells #[.int .i64 a, .int .i64 b] 23)) w1) :
    w1.cell? ⟨w.heap.size, 0, none⟩ = some (.int .i64 a) ∧ w1.cell? ⟨w.heap.size, 1, none⟩ = some (.int .i64 b) ∧ w.heap.size < w1.heap.size := by
  refine ⟨(hb.cell (p := ⟨w.heap.size, 0, none⟩) (by simp)).trans (cell_of_row _ _ _ _ _ _ (heap_alloc_new w _)), (hb.cell (p := ⟨w.heap.size, 1, none⟩) (by simp)).trans (cell_of_row _ _ _ _ _ _ (heap_alloc_new w _)), ?_⟩
  have := hb.size
  simp at this
  omega

set_option maxRecDepth 20000 in
set_option maxHeartbeats 1600000 in
theorem turns_walk (A : Option Addr) (n c : Nat) (xs : List Int) (r nd i : Int) (w : World) (hx : HasI w w.heap.size A xs) (hn : xs.length = n) (hl : n ≤ 17592186043904) (hr : -9223372036854775808 ≤ r) (hr' : r ≤ 9223372036854775807) :
    Calls Try.prog 6 #[.slice A n c, .agg #[.int .i64 r, .int .i64 nd], .int .i64 i] w fun e w' => e = .returned (.bool true) ∧ Below w.heap.size w w' := by
  have HN := hide hn
  clear hn
  go_enter Try.func6, Try.ntmps6
  go_wp2_with fail
  refine (head5_any _).mono ?_
  rintro e w1 ⟨rfl, hb1⟩
  have hx1 : HasI w1 w1.heap.size A xs := (((hx.alloc (Nat.le_refl _) _).more (by simp)).below hb1).more hb1.size
  obtain ⟨v1, wa, hr1, hown1, hba⟩ := run_copy_ints w1 28 A n c w1.heap.size xs hx1 HN.out (by omega) (Nat.le_refl _)
  obtain ⟨Aa, na, ca, rfl, hna, hnca, hxa⟩ := hown1.form
  obtain rfl : na = n := by rw [← hna.out, HN.out]
  have HR1 := hide hr1
  have hba' := hb1.trans (hba.mono hb1.size)
  clear hr1
  go_wp2_with (at_builtin; refine list_append_want _ (by rfl) (.tmp 13) (.tmp 14) 28 28 rfl _ _ rfl rfl _ _ HR1.out ?_)
  refine (bcheck_any Aa na ca wa.heap.size xs wa hxa HN.out (by omega)).mono ?_
  rintro e w2 ⟨rfl, rfl⟩
  by_cases hrs : rightS xs
  · have HC : Hid (chkS xs = 0) := hide (if_pos hrs)
    rw [HC.out]
    have HRS := hide hrs
    have h1n : 1 ≤ na := by rw [← HN.out]; exact hrs.1
    have h7n : na ≤ 7 := by rw [← HN.out]; exact hrs.2.1
    clear hrs HR1 hxa hown1
    obtain ⟨c0, c1, hz⟩ := one_below hba'
    by_cases hi0 : i < 0
    · go_wp2
      go_ret
      exact ⟨rfl, below_of_alloc hba'⟩
    by_cases hi1 : (na : Int) ≤ i
    · go_wp2
      go_ret
      exact ⟨rfl, below_of_alloc hba'⟩
    obtain ⟨p, rfl⟩ := Int.eq_ofNat_of_zero_le (show 0 ≤ i by omega)
    have hp : p < xs.length := by rw [HN.out]; omega
    have hx1 : HasI wa wa.heap.size A xs := ((hx.alloc (Nat.le_refl _) _).more (by simp)).below hba' |>.more hba'.size
    obtain ⟨v1, wb, hr1, hown1, hbb⟩ := run_copy_ints wa 28 A na c wa.heap.size xs hx1 HN.out (by omega) (Nat.le_refl _)
    obtain ⟨Ab, nb, cb, rfl, hnb, hncb, hxb⟩ := hown1.form
    obtain rfl : nb = na := by rw [← hnb.out, HN.out]
    have HR1 := hide hr1
    have hbb' := hba'.trans (hbb.mono hba'.size)
    clear hr1 c0 c1
    go_wp2_with (at_builtin; refine list_append_want _ (by rfl) (.tmp 28) (.tmp 29) 28 28 rfl _ _ rfl rfl _ _ HR1.out ?_)
    obtain ⟨c0, c1, hz⟩ := one_below hbb'
    have hxw : HasI wb wb.heap.size A xs := hx1.on (Nat.le_refl _) hbb |>.more hbb.size
    obtain ⟨bx, o, rfl, hbx, hc⟩ := hxw p hp
    have i1 : (p : Int) < (nb : Int) := by omega
    have i2 : p < nb := by omega
    have HNX : Hid (∀ W, HasI W wb.heap.size Ab xs → wb.heap.size ≤ W.heap.size → Calls Try.prog 29 #[.slice Ab nb cb, .agg #[.int .i64 r, .int .i64 nd], .int .i64 xs[p]] W (NextOne xs r xs[p] W)) := hide (fun W h h2 => (next_any Ab nb cb wb.heap.size xs r nd xs[p] W h h2 HN.out (by omega)).mono fun _ _ h => NextEnds.one h)
    have HPV : Hid (xs.getD p 0 = xs[p]) := hide (getD_at hp)
    generalize xs[p] = v at *
    clear HR1 hown1 hx1 hba hba' hbb hx hb1
    have HK : Hid (∀ ob, (wb.alloc ob).cell? ⟨w.heap.size, 0, none⟩ = some (.int .i64 r) ∧ (wb.alloc ob).cell? ⟨w.heap.size, 1, none⟩ = some (.int .i64 nd) ∧ (wb.alloc ob).cell? ⟨bx, o + p, none⟩ = some (.int .i64 v)) := hide (fun ob =>
      ⟨(World.cell?_alloc_past ob _ _ hz).trans c0, (World.cell?_alloc_past ob _ _ hz).trans c1, (World.cell?_alloc_past ob _ _ hbx).trans hc⟩)
    have hzd : ∀ ob, w.heap.size < (wb.alloc ob).drew.heap.size := fun ob => by
      have : (wb.alloc ob).drew.heap.size = wb.heap.size + 1 := by simp
      omega
    have hbd : ∀ ob, bx < (wb.alloc ob).drew.heap.size := fun ob => by
      have : (wb.alloc ob).drew.heap.size = wb.heap.size + 1 := by simp
      omega
    have hwd : ∀ ob, wb.heap.size ≤ (wb.alloc ob).drew.heap.size := fun ob => by
      have : (wb.alloc ob).drew.heap.size = wb.heap.size + 1 := by simp
      omega
    have n1 : w.heap.size ≠ wb.heap.size := by omega
    have n2 : bx ≠ wb.heap.size := by omega
    have n1' : wb.heap.size ≠ w.heap.size := by omega
    have n2' : wb.heap.size ≠ bx := by omega
    have HZD := hide hzd
    have HBD := hide hbd
    have HWD := hide hwd
    clear hzd hbd hwd
    go_cut [8, 9] (fun s1 s2 wx => ∃ g R N E, s1 = .pointer (some ⟨g, 0, none⟩) ∧ s2 = .int .i64 E ∧ NX xs r v R N E ∧ wx.cell? ⟨g, 0, none⟩ = some (.int .i64 R) ∧ wx.cell? ⟨g, 1, none⟩ = some (.int .i64 N) ∧ g < wx.heap.size ∧ wb.heap.size ≤ g ∧ Below wb.heap.size wb wx)
    case first =>
      go_region_held3 (fun w' => w'.cell? ⟨w.heap.size, 0, none⟩ = some (.int .i64 r) ∧ w'.cell? ⟨w.heap.size, 1, none⟩ = some (.int .i64 nd) ∧ w'.cell? ⟨bx, o + p, none⟩ = some (.int .i64 v)) (first | exact ⟨c0, c1, hc⟩ | exact HK.out _ | exact ⟨d7.1, d7.2.1, d8⟩ | go_keep)
        (first
          | ((go_at_call 29; (with_reducible refine (HNX.out _ ?_ ?_).mono ?_)); exact hxb; exact Nat.le_refl _; rintro e w7 ⟨R, N, E, rfl, hnx, hb7⟩; have d7 := keep2 hb7 hz c0 c1; have d8 := (hb7.cell (p := ⟨bx, o + p, none⟩) hbx).trans hc; have n3 : w.heap.size ≠ w7.heap.size := Nat.ne_of_lt d7.2.2; have n4 : bx ≠ w7.heap.size := Nat.ne_of_lt (Nat.lt_of_lt_of_le hbx hb7.size))
          | ((go_at_call 29; (with_reducible refine (HNX.out _ ?_ ?_).mono ?_)); exact hxb.alloc (Nat.le_refl _) _; exact HWD.out _; rintro e w7 ⟨R, N, E, rfl, hnx, hb7⟩; have d7 := keep2 hb7 (HZD.out _) (HK.out _).1 (HK.out _).2.1; have d8 := (hb7.cell (p := ⟨bx, o + p, none⟩) (HBD.out _)).trans (HK.out _).2.2; have d9 := box_kept hb7; obtain ⟨k0, k1, k2, k3, k4, k5⟩ := d9))
      all_goals go_wp2_with fail
      · go_meet
        exact ⟨w7.heap.size, R, N, E, rfl, rfl, hnx, by simp, by simp, by simp, hb7.size, ((Below.refl _ wb).drew.trans (hb7.mono (Nat.le_refl _))).alloc hb7.size _⟩
      · go_meet
        have hs2 := set_two k0 (.int .i64 R) (.int .i64 N)
        exact ⟨wb.heap.size, R, N, E, rfl, rfl, hnx, hs2.1, hs2.2, by simpa [World.setCell] using k5, Nat.le_refl _, below_set (below_set (((Below.refl _ wb).alloc (Nat.le_refl _) _).drew.trans (hb7.mono (HWD.out _))) (Nat.le_refl _) _) (Nat.le_refl _) _⟩
    case rest =>
      obtain ⟨g, R, N, E, rfl, rfl, hnx, g0, g1, hg, hgw, hbc⟩ := hcut
      have hbc' := hbb'.trans (hbc.mono (Nat.le_trans (by simp) hbb'.size))
      obtain ⟨c0, c1, hz⟩ := one_below (hbb'.trans (hbc.mono hbb'.size))
      have hxc : HasI wc wb.heap.size (some ⟨bx, o, none⟩) xs := hxw.below hbc
      have hxbc : HasI wc wb.heap.size Ab xs := hxb.below hbc
      have hcc : wc.cell? ⟨bx, o + p, none⟩ = some (.int .i64 v) := by
        have := (hxc.at_ p hp).2
        rw [← getD_at hp, HPV.out] at this
        exact this
      by_cases hE : E = 0
      · subst hE
        obtain ⟨q, x, rfl, hx7, hq, hR, hNv, hxw2⟩ : ∃ q x : Nat, r = q ∧ x < nb ∧ q ≤ 1099511627776 ∧ R = (q : Int) + x + 1 ∧ N = v ∧ x = wt xs.length p q := by
          rcases hnx.is_ with ⟨h, _⟩ | ⟨p', q, hp', h2, h1, h3, ⟨h, _⟩ | ⟨_, h4, h5, _⟩⟩
          · omega
          · omega
          · have e := rightS_inj HRS.out hp' hp (by rw [h2, HPV.out])
            subst e
            exact ⟨q, wt xs.length p' q, h1, by rw [← HN.out]; exact wt_lt hp', h3, by rw [h4]; omega, h5, rfl⟩
        subst hR
        subst hNv
        have HXW := hide hxw2
        clear hnx hxw2
        have t2 : decide ((q : Int) + x + 1 ≤ q) = false := decide_eq_false (by omega)
        have hwr : IntKind.i64.wrap ((q : Int) + x + 1 - q) = x + 1 := by rw [show (q : Int) + x + 1 - q = x + 1 from by omega]; exact IntWalk.i64_in _ (by omega)
        have t3 : decide ((nb : Int) < x + 1) = false := decide_eq_false (by omega)
        have htl := (turn_iff HRS.out (p := p) (q := q) (j := x) hp (by rw [HN.out]; exact hx7)).2 HXW.out
        rw [HPV.out, show (((q + x : Nat) : Int) + 1) = (q : Int) + x + 1 from by omega] at htl
        have hcm : cmp2 ((q : Int) + x + 1) N q nd = 1 := by have := cmp2_cases ((q : Int) + x + 1) N q nd; omega
        have HLD : Hid (∀ W, HasI W wb.heap.size Ab xs → Calls Try.prog 26 #[.slice Ab nb cb, .int .i64 ((q : Int) + x + 1)] W fun e w' => e = .returned (.int .i64 N) ∧ W = w') := hide (fun W h => by
          have := leader_any Ab nb cb wb.heap.size xs ((q : Int) + x + 1) W h HN.out (by omega) (by omega) (by omega)
          rw [htl] at this
          exact this)
        have HCM : Hid (∀ W, Calls Try.prog 15 #[.agg #[.int .i64 ((q : Int) + x + 1), .int .i64 N], .agg #[.int .i64 q, .int .i64 nd]] W fun e w' => e = .returned (.int .i64 1) ∧ Below W.heap.size W w') := hide (fun W => by
          have := compare_any ((q : Int) + x + 1) N q nd W
          rw [hcm] at this
          exact this)
        clear htl hcm
        have hbx' : bx < wc.heap.size := by have := hbc.size; omega
        go_wp2_with fail
        go_region_held3 (fun w' => w'.cell? ⟨w.heap.size, 0, none⟩ = some (.int .i64 q) ∧ w'.cell? ⟨w.heap.size, 1, none⟩ = some (.int .i64 nd) ∧ w'.cell? ⟨g, 0, none⟩ = some (.int .i64 ((q : Int) + x + 1)) ∧ w'.cell? ⟨g, 1, none⟩ = some (.int .i64 N) ∧ w'.cell? ⟨bx, o + p, none⟩ = some (.int .i64 N)) (first | exact ⟨c0, c1, g0, g1, hcc⟩ | exact ⟨d7.1, d7.2.1, d6.1, d6.2.1, d8⟩ | go_keep)
          (first
            | ((go_at_call 26; (with_reducible refine (HLD.out _ ?_).mono ?_)); exact hxbc; rintro e w2 ⟨rfl, rfl⟩)
            | ((go_at_call 15; (with_reducible refine (HCM.out _).mono ?_)); rintro e w8 ⟨rfl, hb8⟩; have d7 := keep2 hb8 hz c0 c1; have d6 := keep2 hb8 hg g0 g1; have d8 := (hb8.cell (p := ⟨bx, o + p, none⟩) hbx').trans hcc))
        have hxb8 : HasI w8 wb.heap.size Ab xs := hxbc.keep fun b hb => hb8.block b (Nat.lt_of_lt_of_le hb hbc.size)
        have hbe : Below w.heap.size w w8 := (below_of_alloc (hbb'.trans (hbc.mono hbb'.size))).drew.trans (hb8.mono (Nat.le_of_lt hz))
        have d0 := d7.1
        have d1 := d6.1
        clear hxbc hbc' hb8 d7 d6 HCM HLD c0 c1 g0 g1 hcc
        go_wp2_with fail
        go_loopw [10] (fun s wr => ∃ j m : Nat, j ≤ x ∧ s = .int .i64 ((q : Int) + j + 1) ∧ w8.drewN m = wr) (fun s _ => q + x + 1 - (intOf s).toNat)
        case atStart => exact ⟨0, 0, Nat.zero_le _, by congr 1, rfl⟩
        case round =>
          obtain ⟨j, m, hj, rfl, rfl⟩ := hrel
          by_cases hlt : j < x
          · have htl := turn_iff HRS.out (p := p) (q := q) (j := j) hp (by rw [HN.out]; omega)
            rw [HPV.out, show (((q + j : Nat) : Int) + 1) = (q : Int) + j + 1 from by omega, ← HXW.out] at htl
            have hne : ldr xs ((q : Int) + j + 1) ≠ N := fun h => by have := htl.1 h; omega
            generalize hL : ldr xs ((q : Int) + j + 1) = L at *
            have HLD : Hid (∀ W, HasI W wb.heap.size Ab xs → Calls Try.prog 26 #[.slice Ab nb cb, .int .i64 ((q : Int) + j + 1)] W fun e w' => e = .returned (.int .i64 L) ∧ W = w') := hide (fun W h => by
              have := leader_any Ab nb cb wb.heap.size xs ((q : Int) + j + 1) W h HN.out (by omega) (by omega) (by omega)
              rw [hL] at this
              exact this)
            have tL : (L == N) = false := by simpa using hne
            have tl : (q : Int) + j + 1 < (q : Int) + x + 1 := by omega
            clear htl hL hne
            go_wp2_with fail
            go_region_held3 (fun w' => w'.cell? ⟨bx, o + p, none⟩ = some (.int .i64 N)) (first | exact d8 | go_keep)
              (first
                | ((go_at_call 26; (with_reducible refine (HLD.out _ ?_).mono ?_)); exact hxb8; rintro e w2 ⟨rfl, rfl⟩))
            go_wp2
            go_roundw
            case rel => exact ⟨j + 1, m + 1, by omega, by go_num, rfl⟩
            case measure => simp [intOf]; omega
          · obtain rfl : j = x := by omega
            go_wp2
            go_ret
            exact ⟨rfl, below_drewN hbe m⟩
      · have tE : (E != 0) = true := by simpa using hE
        have hout : r < 0 ∨ 1099511627776 - (nb : Int) < r := by
          have hvm : v ∈ xs := by rw [← HPV.out, getD_at hp]; exact List.getElem_mem hp
          have hnl := HN.out
          rcases hnx.is_ with ⟨_, _, _, h | h | h⟩ | ⟨p', q, hp', _, h1, _, ⟨_, _, _, h⟩ | ⟨h, _⟩⟩
          · exact absurd hvm h
          · exact .inl h
          · exact .inr (by omega)
          · have := wt_lt (q := q) hp'
            exact .inr (by omega)
          · exact absurd h hE
        clear hE
        have hwr : IntKind.i64.wrap (1099511627776 - (nb : Int)) = 1099511627776 - (nb : Int) := IntWalk.i64_in _ (by omega)
        by_cases h0 : r < 0
        · go_wp2
          go_ret
          exact ⟨rfl, below_of_alloc (hbb'.trans (hbc.mono hbb'.size))⟩
        · have h1 : 1099511627776 - (nb : Int) < r := by omega
          go_wp2
          go_ret
          exact ⟨rfl, below_of_alloc (hbb'.trans (hbc.mono hbb'.size))⟩
  · have HC : Hid (chkS xs = 24) := hide (if_neg hrs)
    rw [HC.out]
    go_wp2
    go_ret
    exact ⟨rfl, below_of_alloc hba'⟩
end Go.Proofs.Ytapbcpilklhoiaa
