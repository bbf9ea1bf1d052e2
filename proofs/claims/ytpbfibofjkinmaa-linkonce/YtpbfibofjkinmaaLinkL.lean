/-
  take of package link's inbox. Conditions: the numbers are within 2^41.
-/
import Derived.Test.YtpbfibofjkinmaaLinkK
set_option linter.unusedSimpArgs false
set_option linter.unusedVariables false
namespace Go.Proofs.Ytpbfibofjkinmaa
open Go.RowKit Go.Maps

theorem owni_slice {w : World} {base : Nat} {v : Value} {xs : List Int} (h : OwnI w base v xs) : ∃ A n c, v = .slice A n c := by
  rcases h.2 with ⟨hv, _⟩ | ⟨g', cap, cur, hv, _⟩
  · exact ⟨none, 0, 0, hv⟩
  · exact ⟨_, _, _, hv⟩
/-- One number more is due, where there is a place. -/
def Lk.owe (k : Lk) (n : Int) : Lk := if k.ds.length < 32 then { k with ds := k.ds ++ [n] } else k
/-- What take answers, and what it leaves. -/
def TakeP (k : Lk) (lf nm od : Int) (fr : Bool) (k' : Lk) : Prop :=
  (lf < k.pl ∧ fr = false ∧ k' = k) ∨ (¬ lf < k.pl ∧ ∃ a k1, RaiseP (k.born lf) (od - 1) a ∧ k1 = { k.born lf with all := a, S := fun x => (k.born lf).S x && decide (a < x) } ∧
    ((64 < nm - a ∧ fr = false ∧ k' = k1) ∨ (¬ 64 < nm - a ∧ ((k1.come nm = true ∧ fr = false ∧ k' = k1.owe nm) ∨
      (k1.come nm = false ∧ fr = true ∧ ∃ a', RaiseP ((k1.owe nm).plus nm) a a' ∧ k' = { (k1.owe nm).plus nm with all := a', S := fun x => ((k1.owe nm).plus nm).S x && decide (a' < x) })))))
def TakeEnds (base g : Nat) (wv mv dv : Value) (k : Lk) (lf nm od : Int) (w : World) (e : Ending) (w' : World) : Prop :=
  ∃ fr k' mv' dv', e = .returned (.bool fr) ∧ TakeP k lf nm od fr k' ∧ IsK w' base g wv mv' dv' k' ∧ Kept (LBl g wv mv dv) w w' ∧ ∀ j, LBl g wv mv' dv' j → LBl g wv mv dv j ∨ w.heap.size ≤ j

set_option maxHeartbeats 1600000 in
set_option maxRecDepth 20000 in
theorem ltake_any (base g : Nat) (wv mv dv : Value) (k : Lk) (kd lf nm od : Int) (x : Value) (hx1 : x.oneCell' = true) (w : World) (h : IsK w base g wv mv dv k) (h0 : 0 ≤ k.all) (h1 : k.all ≤ 2199023255552) (hS : ∀ x, k.S x = true → x ≤ 2199023255552) (hc : k.cnt < 4096) (hd : k.ds.length < 4096)
    (o0 : 0 ≤ od) (o1 : od ≤ 1099511627776) (n0 : 0 ≤ nm) (n1 : nm ≤ 1099511627776) :
    Calls Try.prog 69 #[.pointer (some ⟨g, 4, none⟩), .agg #[.int .i64 kd, .int .i64 lf, .int .i64 nm, .int .i64 od, x]] w (TakeEnds base g wv mv dv k lf nm od w) := by
  have hp0 := heap_alloc_new w (.cells #[.int .i64 kd, .int .i64 lf, .int .i64 nm, .int .i64 od, x] 97)
  have hb0 : Below w.heap.size w (w.alloc (.cells #[.int .i64 kd, .int .i64 lf, .int .i64 nm, .int .i64 od, x] 97)) := by go_grown
  go_enter Try.func69, Try.ntmps69
  go_upto_region 1 with fail
  generalize w.alloc (.cells #[.int .i64 kd, .int .i64 lf, .int .i64 nm, .int .i64 od, x] 97) = wa at *
  have hIa := h.below hb0
  obtain ⟨b1, m1⟩ := row_cells hp0 1
  have g4 := (row_cells hIa.blk 4).1
  simp only [List.getElem?_toArray, List.getElem?_cons_succ, List.getElem?_cons_zero] at b1 g4
  have HIA := hide hIa
  have HP0 := hide hp0
  clear h hIa hp0
  by_cases hl : lf < k.pl
  · have hl' : decide (lf < k.pl) = true := decide_eq_true hl
    go_quiet (fail)
    go_wp2
    go_ret
    have hb1 := below_drewN (Below.refl wa.heap.size wa) nq
    exact ⟨false, k, mv, dv, rfl, .inl ⟨hl, rfl, rfl⟩, HIA.out.below hb1, Kept.of_below (hb0.trans (hb1.mono hb0.size)), fun j hj => .inl hj⟩
  · have hl' : decide (lf < k.pl) = false := decide_eq_false hl
    go_quiet (fail)
    go_wp2_with fail
    have hIb := HIA.out.below (below_drewN (Below.refl wa.heap.size wa) nq)
    have hbw : Below w.heap.size w (wa.drewN nq) := below_drewN hb0 nq
    have hpb : (wa.drewN nq).heap[w.heap.size]? = some (.cells #[.int .i64 kd, .int .i64 lf, .int .i64 nm, .int .i64 od, x] 97 (0, 0)) := HP0.out
    generalize wa.drewN nq = wb at *
    refine (lbegin_any base g wv mv dv k lf wb hIb).mono ?_
    rintro e w3 ⟨rfl, dv3, hI3, hk3, hd3⟩
    have hp3 : w3.heap[w.heap.size]? = _ := (hk3.block _ (lt_of_block hpb) (hIb.other hpb (by decide) (by decide) (by decide))).trans hpb
    have hK3 : Kept (LBl g wv mv dv) w w3 := (Kept.of_below hbw).step hk3 (fun j hj => .inl hj)
    have hB3 : ∀ y, (k.born lf).S y = true → y ≤ 2199023255552 := fun y hy => by
      unfold Lk.born at hy
      split at hy
      · exact hS y hy
      · cases hy
    have ha3 : 0 ≤ (k.born lf).all ∧ (k.born lf).all ≤ 2199023255552 := by
      unfold Lk.born
      split
      · exact ⟨h0, h1⟩
      · exact ⟨Int.le_refl _, show (0 : Int) ≤ 2199023255552 by omega⟩
    have hc3 : (k.born lf).cnt < 4096 := by
      unfold Lk.born
      split <;> exact hc
    have hd3' : (k.born lf).ds.length < 4096 := by
      unfold Lk.born
      split
      · exact hd
      · show 0 < 4096
        omega
    have hL3 : ∀ j, LBl g wv mv dv3 j → LBl g wv mv dv j := fun j hj => by
      rcases hd3 with rfl | rfl
      · exact hj
      · rcases hj with e | e | e | e
        · exact .inl e
        · exact .inr (.inl e)
        · exact .inr (.inr (.inl e))
        · cases e
    have hw1 : IntKind.i64.wrap (od - 1) = od - 1 := IntWalk.i64_in _ (by omega)
    have hra := lraise_any base g wv mv dv3 (k.born lf) (od - 1) 2199023255552 w3 hI3 ha3.1 ha3.2 (by omega) (by omega) (by omega) hB3
    have c3 := (row_cells hp3 3).1
    simp only [List.getElem?_toArray, List.getElem?_cons_succ, List.getElem?_cons_zero] at c3
    have HP3 := hide hp3
    clear b1 m1 g4 HIA HP0 hb0 hIb hpb hk3
    generalize hkk : k.born lf = kb at *
    have HKB := hide hkk
    clear hkk
    go_wp2_with fail
    refine hra.mono ?_
    rintro e w4 ⟨rfl, a, hpa, hI4, hk4⟩
    have hp4 : w4.heap[w.heap.size]? = _ := (hk4.block _ (lt_of_block HP3.out) (hI3.other HP3.out (by decide) (by decide) (by decide))).trans HP3.out
    have hK4 : Kept (LBl g wv mv dv) w w4 := hK3.step hk4 (fun j hj => .inl (hL3 j hj))
    have hale := hpa.le ha3.2 (by omega) hB3
    have hage : 0 ≤ a := by have := hpa.1; omega
    obtain ⟨k1, hk1⟩ : ∃ k1 : Lk, k1 = { kb with all := a, S := fun x => kb.S x && decide (a < x) } := ⟨_, rfl⟩
    rw [← hk1] at hI4
    have hka : k1.all = a := by rw [hk1]
    have q2 := (row_cells hp4 2).1
    have q5 := (row_cells hI4.blk 5).1
    simp only [List.getElem?_toArray, List.getElem?_cons_succ, List.getElem?_cons_zero] at q2 q5
    rw [hka] at q5
    have hw2 : IntKind.i64.wrap (nm - a) = nm - a := IntWalk.i64_in _ (by omega)
    have HKA := hide hka
    have HK1 := hide hk1
    have HPA := hide hpa
    have HP4 := hide hp4
    have HI4 := hide hI4
    clear c3 hra hI3 hp4 hI4 hka hk1 hpa
    go_upto_region 5 with fail
    by_cases h64 : 64 < nm - a
    · have h64' : decide (64 < nm - a) = true := decide_eq_true h64
      go_quiet (fail)
      go_wp2
      go_ret
      have hb5 := below_drewN (Below.refl w4.heap.size w4) nq
      exact ⟨false, k1, mv, dv3, rfl, .inr ⟨by omega, a, k1, by rw [HKB.out]; exact HPA.out, by rw [HKB.out]; exact HK1.out, .inl ⟨h64, rfl, rfl⟩⟩, HI4.out.below hb5, hK4.step (Kept.of_below (F := fun _ => False) hb5) (fun j hj => hj.elim), fun j hj => .inl (hL3 j hj)⟩
    · have h64' : decide (64 < nm - a) = false := decide_eq_false h64
      go_quiet (fail)
      go_upto_region 7 with fail
      have hb5 := below_drewN (Below.refl w4.heap.size w4) nq
      have hI5 := HI4.out.below hb5
      have hp5 : (w4.drewN nq).heap[w.heap.size]? = some (.cells #[.int .i64 kd, .int .i64 lf, .int .i64 nm, .int .i64 od, x] 97 (0, 0)) := HP4.out
      have hK5 : Kept (LBl g wv mv dv) w (w4.drewN nq) := hK4.step (Kept.of_below (F := fun _ => False) hb5) (fun j hj => hj.elim)
      clear q2 q5 hb5
      generalize w4.drewN nq = w5 at *
      obtain ⟨Ad, nd, cd, rfl, hnd, hncd, hcm, hrd, hzd, hgd⟩ : ∃ Ad nd cd, dv3 = .slice Ad nd cd ∧ Hid (k1.ds.length = nd) ∧ nd ≤ cd ∧ True ∧ True ∧ True ∧ True := by
        rcases hI5.due.2 with ⟨hv, hn0⟩ | ⟨g', cap, cur, hv, _, _, hnc, _⟩
        · exact ⟨none, 0, 0, hv, hide hn0, by omega, trivial, trivial, trivial, trivial⟩
        · exact ⟨_, _, _, hv, rfl, hnc, trivial, trivial, trivial, trivial⟩
      have c7 := (row_cells hI5.blk 7).1
      have e2 := (row_cells hp5 2).1
      simp only [List.getElem?_toArray, List.getElem?_cons_succ, List.getElem?_cons_zero] at c7 e2
      have hdl : k1.ds.length < 4096 := by rw [HK1.out]; exact hd3'
      have HI5 := hide hI5
      have HP5 := hide hp5
      have HK5 := hide hK5
      go_upto_if 34 with fail
      go_cut [] (fun wx => ∃ dv4, Hid (IsK wx base g wv mv dv4 (k1.owe nm)) ∧ Hid (Kept (LBl g wv mv dv) w wx) ∧ Hid (wx.heap[w.heap.size]? = some (.cells #[.int .i64 kd, .int .i64 lf, .int .i64 nm, .int .i64 od, x] 97 (0, 0))) ∧ (∀ j, dv4.ownBlock = some j → dv.ownBlock = some j ∨ w.heap.size ≤ j))
      case first =>
        by_cases h32 : nd < 32
        · have eo : k1.owe nm = { k1 with ds := k1.ds ++ [nm] } := by unfold Lk.owe; rw [if_pos (by rw [hnd.out]; exact h32)]
          have hone : HasI (w5.alloc (.cells #[.int .i64 nm] 3)) (w5.heap.size + 1) (some ⟨w5.heap.size, 0, none⟩) [nm] := fun i hi => by
            simp at hi
            subst hi
            exact ⟨w5.heap.size, 0, rfl, by omega, by simp⟩
          have hbz : base ≤ (w5.alloc (.cells #[.int .i64 nm] 3)).heap.size := by have := HI5.out.bg; have := lt_of_block HI5.out.blk; simp; omega
          have hoi : OwnI (w5.alloc (.cells #[.int .i64 nm] 3)) base (.slice Ad nd cd) k1.ds := (HI5.out.below ((Below.refl _ _).alloc (Nat.le_refl _) _)).due
          have HW : Hid (∀ w6, (w5.alloc (.cells #[.int .i64 nm] 3)).drew.grownBy w6 (Value.slice Ad nd cd).ownBlock → ∃ u, w6.cell? ⟨g, 7, none⟩ = some u ∧ w6.frozen? ⟨g, 7, none⟩ = false) := hide (fun w6 hgr => by
            have h3 := (HI5.out.below ((Below.refl _ _).alloc (Nat.le_refl _) (.cells #[.int .i64 nm] 3))).drew
            have hk := Kept.of_grown (F := fun k => (Value.slice Ad nd cd).ownBlock = some k) hgr (fun k hk => hk)
            have hg6 : w6.heap[g]? = _ := (hk.block g (lt_of_block h3.blk) (fun e => by
              obtain ⟨cur, hc⟩ := ownsRow_typed h3.due g e
              exact typed_ne hc h3.blk (by decide) rfl)).trans h3.blk
            have y1 := (row_cells hg6 7).1
            simp only [List.getElem?_toArray, List.getElem?_cons_succ, List.getElem?_cons_zero] at y1
            exact ⟨_, y1, (row_cells hg6 7).2⟩)
          have hL : Hid (k1.ds.length + 1 ≤ 17592186044416) := hide (by omega)
          have hg5 := lt_of_block HI5.out.blk
          have hx5 := lt_of_block HP5.out
          go_wp2_with fail
          go_region_law (refine step_append_ints _ (by rfl) (.tmp 39) (.tmp 42) (by rfl) base (.slice Ad nd cd) k1.ds (by rfl) hoi (w5.heap.size + 1) (some ⟨w5.heap.size, 0, none⟩) 1 1 [nm] (by rfl) hone rfl hL.out hbz ?_; intro v6 w6 ho6 hgr6 hat6; obtain ⟨u6, q1, q2⟩ := HW.out _ hgr6; obtain ⟨A6, n6, c6, rfl⟩ := owni_slice ho6)
          all_goals go_wp2_with fail
          all_goals go_meet
          all_goals
            have hcl := due_close HI5.out.drew (show (w5.drew.alloc (.cells #[.int .i64 nm] 3)).grownBy w6 (Value.slice Ad nd cd).ownBlock from hgr6) ho6 hdl
            have hk6 : Kept (LBl g wv mv (.slice Ad nd cd)) w5 _ := ⟨hcl.2.os, hcl.2.tape, hcl.2.output, hcl.2.size, hcl.2.block⟩
            have hwz := HK5.out.size
            refine ⟨.slice A6 n6 c6, hide (by rw [eo]; exact hcl.1), hide (HK5.out.step hk6 (fun j hj => .inl (hL3 j hj))), hide ((hk6.block _ hx5 (HI5.out.other HP5.out (by decide) (by decide) (by decide))).trans HP5.out), fun j hj => ?_⟩
            rcases hat6 with e | e
            · rw [e] at hj
              rcases hd3 with e3 | e3
              · rw [← e3]; exact .inl hj
              · rw [e3] at hj; cases hj
            · rw [e] at hj
              injection hj with hj
              have hj' : w5.heap.size + 1 = j := by simpa using hj
              exact .inr (by omega)
        · have eo : k1.owe nm = k1 := by unfold Lk.owe; rw [if_neg (by rw [hnd.out]; exact h32)]
          go_wp2_with fail
          go_meet
          exact ⟨_, hide (by rw [eo]; exact HI5.out), HK5, HP5, fun j hj => by
            rcases hd3 with e | e
            · rw [← e]; exact .inl hj
            · rw [e] at hj; cases hj⟩
      case rest =>
        obtain ⟨dv4, hI6, hK6, hp6, hdd⟩ := hcut
        clear c7 e2
        have e2 := (row_cells hp6.out 2).1
        simp only [List.getElem?_toArray, List.getElem?_cons_succ, List.getElem?_cons_zero] at e2
        have hwf : (Lit.int .i64 nm).wf = true := WalkArith.wf_i64 (by omega)
        have hhas := lhas_any base g wv mv dv4 (k1.owe nm) nm wc hI6.out hwf
        have hcm : (k1.owe nm).come nm = k1.come nm := by unfold Lk.owe; split <;> rfl
        have hS1 : ∀ y, (k1.owe nm).S y = true → y ≤ 2199023255552 := fun y hy => by
          have e : (k1.owe nm).S y = k1.S y := by unfold Lk.owe; split <;> rfl
          rw [e, HK1.out] at hy
          have hy' : (kb.S y && decide (a < y)) = true := hy
          rw [Bool.and_eq_true] at hy'
          exact hB3 y hy'.1
        have ha1 : (k1.owe nm).all = a := by
          have e : (k1.owe nm).all = k1.all := by unfold Lk.owe; split <;> rfl
          rw [e, HKA.out]
        have hcn : (k1.owe nm).cnt < 4096 := by
          have e : (k1.owe nm).cnt = k1.cnt := by unfold Lk.owe; split <;> rfl
          rw [e, HK1.out]
          exact hc3
        rw [hcm] at hhas
        cases hq : k1.come nm
        · rw [hq] at hhas
          have HQ := hide hq
          clear hq hcm
          go_upto_region 11 with (go_at_call 85; refine hhas.mono ?_; rintro e w7 ⟨rfl, hb7⟩)
          have hI7 := hI6.out.below hb7
          have hp7 := (hb7.block _ (lt_of_block hp6.out)).trans hp6.out
          have e3 := (row_cells hp7 2).1
          simp only [List.getElem?_toArray, List.getElem?_cons_succ, List.getElem?_cons_zero] at e3
          have hno := lnote_any base g wv mv dv4 (k1.owe nm) nm 2199023255552 w7 hI7 (by rw [ha1]; exact hage) (by rw [ha1]; exact hale) (by omega) (by omega) (by omega) hS1 hcn
          clear e2 hhas
          go_wp2_with fail
          refine hno.mono ?_
          rintro e w8 ⟨rfl, mv8, a8, hp8, hI8, hk8, hm8⟩
          have hwz8 : w.heap.size ≤ w7.heap.size := Nat.le_trans hK6.out.size hb7.size
          have HM8 := hide hm8
          clear hm8
          have HP8 := hide hp8
          have HI8 := hide hI8
          clear hp8 hI8 hno e3
          go_wp2
          go_ret
          rw [ha1] at HP8
          exact ⟨true, _, mv8, dv4, rfl, .inr ⟨by omega, a, k1, by rw [HKB.out]; exact HPA.out, by rw [HKB.out]; exact HK1.out, .inr ⟨by omega, .inr ⟨HQ.out, rfl, a8, HP8.out, rfl⟩⟩⟩, HI8.out, (hK6.out.step (Kept.of_below (F := fun _ => False) hb7) (fun j hj => hj.elim)).step hk8 (fun j hj => by
            rcases hj with e | e | e | e
            · exact .inl (.inl e)
            · exact .inl (.inr (.inl e))
            · exact .inl (.inr (.inr (.inl e)))
            · rcases hdd j e with e' | e'
              · exact .inl (.inr (.inr (.inr e')))
              · exact .inr e'), fun j hj => (by
            rcases hj with e | e | e | e
            · exact .inl (.inl e)
            · exact .inl (.inr (.inl e))
            · rcases HM8.out j e with e' | e'
              · exact .inl (.inr (.inr (.inl e')))
              · exact .inr (by omega)
            · rcases hdd j e with e' | e'
              · exact .inl (.inr (.inr (.inr e')))
              · exact .inr e')⟩
        · rw [hq] at hhas
          have HQ := hide hq
          clear hq hcm
          go_wp2_with fail
          refine hhas.mono ?_
          rintro e w7 ⟨rfl, hb7⟩
          go_wp2
          go_ret
          exact ⟨false, k1.owe nm, mv, dv4, rfl, .inr ⟨by omega, a, k1, by rw [HKB.out]; exact HPA.out, by rw [HKB.out]; exact HK1.out, .inr ⟨by omega, .inl ⟨HQ.out, rfl, rfl⟩⟩⟩, hI6.out.below hb7, hK6.out.step (Kept.of_below (F := fun _ => False) hb7) (fun j hj => hj.elim), fun j hj => (by
            rcases hj with e | e | e | e
            · exact .inl (.inl e)
            · exact .inl (.inr (.inl e))
            · exact .inl (.inr (.inr (.inl e)))
            · rcases hdd j e with e' | e'
              · exact .inl (.inr (.inr (.inr e')))
              · exact .inr e')⟩
end Go.Proofs.Ytpbfibofjkinmaa
