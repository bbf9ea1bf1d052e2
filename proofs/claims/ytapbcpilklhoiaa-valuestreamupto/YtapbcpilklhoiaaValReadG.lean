/-
  Read of package value, whatever is read. Conditions: the reader's bytes lie below.
-/
import Derived.Test.YtapbcpilklhoiaaValPure
import Derived.Deep.RegionHeld3
import Derived.Deep.DrawnRows
import Derived.Deep.RegionLaw
set_option linter.unusedSimpArgs false
set_option linter.unusedVariables false
namespace Go.Proofs.Ytapbcpilklhoiaa
open Go.RowKit

theorem step_append_cmds {ops : Array Oper} {o : Oper} {a : Act} {K : Act → World → Prop} {Q : Exit → Act → World → Prop} {E : Prop} (w : World) (hgd : o.guard = none) (s x : Operand)
    (ho : o.op = .call { callee := .builtin .append, args := #[s, x], argTypes := #[46, 46] }) (base : Nat) (v : Value) (xs : List Cmdv) (hs : a.eval s = v) (hown : OwnC w base v xs)
    (B : Nat) (A : Option Addr) (m c : Nat) (news : List Cmdv) (hx : a.eval x = .slice A m c) (hr : HasC w B A news) (hm : news.length = m)
    (hlen : xs.length + m ≤ 2199023255552) (hbase : base ≤ w.heap.size)
    (h : ∀ v' w', OwnC w' base v' (xs ++ news) → w.grownBy w' v.ownBlock → (v'.ownBlock = v.ownBlock ∨ v'.ownBlock = some w.heap.size) → K (a.put o.dst v') w') :
    if Region.wanted o (yielded ops a.tmps) = true then Oper.wp Try.prog o a w K Q else E := by
  rw [if_pos (by simp [Region.wanted, hgd])]
  obtain ⟨v', w', hrun, h2, h3, h4⟩ := run_append_cmds w o.type base v xs hown B A m c news hr hm hlen hbase
  exact Lib.wp_append_run w s x 46 46 ho _ _ hs hx v' w' hrun (h v' w' h2 h3 h4)

theorem HasC.one (w : World) (c : Cmdv) (g : Nat) (hg : g = w.heap.size) : HasC (w.alloc (.cells #[.int .i64 c.s, .int .i64 c.q, .int .i64 c.a, .int .i64 c.k, .int .i64 c.r, .int .i64 c.t, .int .i64 c.re, .int .i64 c.im] 52)) (g + 1) (some ⟨g, 0, none⟩) [c] := by
  subst hg
  refine HasC.of_cells (by omega) fun j u hu => ?_
  have e : flatC [c] = [.int .i64 c.s, .int .i64 c.q, .int .i64 c.a, .int .i64 c.k, .int .i64 c.r, .int .i64 c.t, .int .i64 c.re, .int .i64 c.im] := rfl
  rw [e] at hu
  rw [cell_of_row _ _ _ _ _ _ (heap_alloc_new w _)]
  simpa using hu
theorem ownCI_apart {w : World} {B B' : Nat} {v v' : Value} {cs : List Cmdv} {ns : List Int} (h : OwnC w B v cs) (h' : OwnI w B' v' ns) : ∀ j, v.ownBlock = some j → v'.ownBlock ≠ some j := by
  intro j e e'
  rcases h.2 with ⟨rfl, _⟩ | ⟨g, cap, cur, rfl, _, hh, _⟩
  · cases e
  rcases h'.2 with ⟨rfl, _⟩ | ⟨g', cap', cur', rfl, _, hh', _⟩
  · cases e'
  have e1 : g = j := Option.some.inj e
  have e2 : g' = j := Option.some.inj e'
  subst e1 e2
  have := hh.symm.trans hh'
  simp at this
theorem OwnC.from2 {w : World} {base base' : Nat} {v : Value} {cs : List Cmdv} (h : OwnC w base v cs) (hb : base' ≤ base) : OwnC w base' v cs := by
  refine ⟨h.1, ?_⟩
  rcases h.2 with h2 | ⟨g, cap, cur, hv, hg, r⟩
  · exact .inl h2
  · exact .inr ⟨g, cap, cur, hv, by omega, r⟩

set_option maxRecDepth 20000 in
set_option maxHeartbeats 3200000 in
theorem vread_gen (g : Nat) (b : Option Nat) (s : RSt) (w : World) (h : Rd w g b s.1 s.2) (hf : ∀ k, b = some k → k < w.heap.size) (s1 s2 s4 s5 : RSt) (kd M m : Nat) (cs : List Cmdv) (hM : M ≤ 1000) (hm : m ≤ 1000) (h1 : rc 2 s = (kd, s1)) (h2 : rc 8 s1 = (M, s2)) (h3 : rdC M s2 = (cs, s4)) (h4 : rc 7 s4 = (m, s5)) :
    Calls Try.prog 52 #[.pointer (some ⟨g, 0, none⟩)] w fun e w' => ∃ A n c D l d, e = .returned (.agg #[.int .i64 (kd : Int), .slice A n c, .slice D l d]) ∧ Hid (cs.length = n) ∧ Hid ((rdN m s5).1.length = l) ∧ OwnC w' w.heap.size (.slice A n c) cs ∧ OwnI w' w.heap.size (.slice D l d) (rdN m s5).1 ∧ ∃ b', RGo g b w (rdN m s5).2 b' w' := by
  have h0 := RGo.start h
  have hg0 := h0.lt
  have HM := hide hM
  have Hm := hide hm
  have H1 := hide h1
  have H2 := hide h2
  have H3 := hide h3
  have H4 := hide h4
  clear h1 h2 h3 h4
  go_enter Try.func52, Try.ntmps52
  go_wp2_with fail
  have hr1 := heap_alloc_new w (.cells #[.int .i64 0, .slice none 0 0, .slice none 0 0] 48)
  have hb1 : Below w.heap.size w (w.alloc (.cells #[.int .i64 0, .slice none 0 0, .slice none 0 0] 48)) := (Below.refl _ _).alloc (Nat.le_refl _) _
  have h01 := RGo.start (h0.alloc (.cells #[.int .i64 0, .slice none 0 0, .slice none 0 0] 48)).rd
  have hs1 : (w.alloc (.cells #[.int .i64 0, .slice none 0 0, .slice none 0 0] 48)).heap.size = w.heap.size + 1 := by simp
  generalize w.alloc (.cells #[.int .i64 0, .slice none 0 0, .slice none 0 0] 48) = W1 at *
  refine (RGo.count h01 2 (isInt_lit (by omega))).mono ?_
  rintro e w2 ⟨rfl, b2, h2⟩
  rw [H1.out] at h2 ⊢
  simp only at h2 ⊢
  have hr2 : w2.heap[w.heap.size]? = _ := (h2.kept.block w.heap.size (by omega) (by omega)).trans hr1
  have hlt2 := lt_of_block hr2
  have hg2 := h2.lt
  have hl2 := h2.lie
  have hk2 : Kept (fun k => k = g) w w2 := (Kept.of_below hb1).step h2.kept (fun k hk => .inl hk)
  have hr3 := (Below.heap_alloc w2 (.cells #[.int .i64 (kd : Int), .slice none 0 0, .slice none 0 0] 48) w.heap.size hlt2).trans hr2
  have hv3 := heap_alloc_new w2 (.cells #[.int .i64 (kd : Int), .slice none 0 0, .slice none 0 0] 48)
  have hk3 := hk2.step (Kept.of_below (F := fun _ => False) ((Below.refl _ _).alloc (Nat.le_refl _) (.cells #[.int .i64 (kd : Int), .slice none 0 0, .slice none 0 0] 48))) (fun _ h => h.elim)
  have h03 := RGo.start (h2.alloc (.cells #[.int .i64 (kd : Int), .slice none 0 0, .slice none 0 0] 48)).rd
  have hs3 : (w2.alloc (.cells #[.int .i64 (kd : Int), .slice none 0 0, .slice none 0 0] 48)).heap.size = w2.heap.size + 1 := by simp
  go_wp2_with fail
  generalize w2.alloc (.cells #[.int .i64 (kd : Int), .slice none 0 0, .slice none 0 0] 48) = W3 at *
  clear h01 h2 hr2 hk2 h0 hr1
  refine (RGo.count h03 8 (isInt_lit (by omega))).mono ?_
  rintro e w4 ⟨rfl, b4, h4⟩
  rw [H2.out] at h4 ⊢
  simp only at h4 ⊢
  go_wp2_with fail
  have hlt3 : w2.heap.size < W3.heap.size := by omega
  have hr4 := (h4.kept.block w.heap.size (by omega) (by omega)).trans hr3
  have hv4 := (h4.kept.block w2.heap.size (by omega) (by omega)).trans hv3
  have hk4 := hk3.step h4.kept (fun k hk => .inl hk)
  have hz4 := h4.kept.size
  have hl4 : b4 = b ∨ b4 = none := by
    rcases h4.lie with e | e
    · rcases hl2 with e' | e'
      · exact .inl (e.trans e')
      · exact .inr (e.trans e')
    · exact .inr e
  have hrd4 := h4.rd
  clear h4 h03 hr3 hv3 hk3 hs1 hb1
  go_loopw [9] (fun i wr => ∃ (j : Nat) (b' : Option Nat) (A : Option Addr) (n c : Nat), j ≤ M ∧ i = .int .i64 j ∧ Rd wr g b' (rdC j s2).2.1 (rdC j s2).2.2 ∧ (b' = b ∨ b' = none) ∧ Kept (fun k => k = g) w wr ∧ wr.heap[w.heap.size]? = some (.cells #[.int .i64 0, .slice none 0 0, .slice none 0 0] 48 (0, 0)) ∧ wr.heap[w2.heap.size]? = some (.cells #[.int .i64 (kd : Int), .slice A n c, .slice none 0 0] 48 (0, 0)) ∧ OwnC wr W3.heap.size (.slice A n c) (rdC j s2).1 ∧ W3.heap.size ≤ wr.heap.size) (fun i _ => M - (intOf i).toNat)
  case atStart => exact ⟨0, b4, none, 0, 0, Nat.zero_le _, rfl, hrd4, hl4, hk4, hr4, hv4, OwnC.nil _ _, hz4⟩
  case round =>
    clear hrd4 hl4 hk4 hr4 hv4 hz4
    obtain ⟨j, b6, A, n, c, hj, rfl, hrd, hlie, hkw, hrr, hvr, hown, hzr⟩ := hrel
    have hvc := (row_cells hvr 1).1
    simp only [List.getElem?_toArray, List.getElem?_cons_succ, List.getElem?_cons_zero] at hvc
    by_cases hlt : j < M
    · have hst : rdC (j + 1) s2 = ((rdC j s2).1 ++ [(tk (rdC j s2).2).1], (tk (rdC j s2).2).2) := rfl
      have hlen := rdC_len j s2
      have HST := hide hst
      clear hst
      generalize rdC j s2 = q at *
      obtain ⟨ds, st⟩ := q
      simp only at hlen hrd hown HST
      have HC : Hid (∀ W, Rd W g b6 st.1 st.2 → (∀ k, b6 = some k → k < W.heap.size) → Calls Try.prog 53 #[.pointer (some ⟨g, 0, none⟩)] W fun e w' => e = .returned (tk st).1.val ∧ ∃ b', RGo g b6 W (tk st).2 b' w') := hide (fun W h hf => takecmd_any g b6 st W h hf)
      generalize tk st = q9 at *
      obtain ⟨x, st'⟩ := q9
      simp only at HC HST
      unfold Cmdv.val at HC
      have hf6 : Hid (∀ k, b6 = some k → k < wr.drew.heap.size) := hide (fun k hk => by
        have hzw : w.heap.size < wr.heap.size := lt_of_block hrr
        show k < wr.heap.size
        rcases hlie with e | e
        · have := hf k (by rw [← e]; exact hk); omega
        · rw [e] at hk; cases hk)
      have HFW : Hid (∀ w7 b7, RGo g b6 wr.drew st' b7 w7 → w7.cell? ⟨w2.heap.size, 1, none⟩ = some (.slice A n c) ∧ w2.heap.size < w7.heap.size ∧ OwnC w7 W3.heap.size (.slice A n c) ds) := hide (fun w7 b7 h => ⟨(h.kept.cell (k := w2.heap.size) (by show w2.heap.size < wr.heap.size; omega) (by omega)).trans hvc, by have : wr.heap.size ≤ w7.heap.size := h.kept.size; omega, hown.keep fun k hk => h.kept.block k ((hown.lt k hk).2) (by have := (hown.lt k hk).1; omega)⟩)
      have HL : Hid (ds.length + 1 ≤ 2199023255552) := hide (by have := HM.out; omega)
      have HB9 : Hid (∀ w7 b7 ob, RGo g b6 wr.drew st' b7 w7 → W3.heap.size ≤ (w7.alloc ob).heap.size) := hide (fun w7 b7 ob h => by have : wr.heap.size ≤ w7.heap.size := h.kept.size; simp; omega)
      have HV8 : Hid (∀ w7 b7 ob w8, RGo g b6 wr.drew st' b7 w7 → (w7.alloc ob).grownBy w8 (Value.slice A n c).ownBlock → w8.heap[w2.heap.size]? = some (.cells #[.int .i64 (kd : Int), .slice A n c, .slice none 0 0] 48 (0, 0)) ∧ w8.heap[w.heap.size]? = some (.cells #[.int .i64 0, .slice none 0 0, .slice none 0 0] 48 (0, 0)) ∧ Rd w8 g b7 st'.1 st'.2 ∧ Kept (fun k => k = g) w w8 ∧ W3.heap.size ≤ w8.heap.size ∧ ∀ k, Foot g b7 k → k < w.heap.size) := hide (fun w7 b7 ob w8 h hgr => by
        have hsz7 : wr.heap.size ≤ w7.heap.size := h.kept.size
        have ha : (w7.alloc ob).heap.size = w7.heap.size + 1 := by simp
        have hsz8 : (w7.alloc ob).heap.size ≤ w8.heap.size := hgr.size
        have hk1 : Kept (fun k => W3.heap.size ≤ k) w7 w8 := (Kept.of_below (F := fun k => W3.heap.size ≤ k) ((Below.refl _ _).alloc (Nat.le_refl _) ob)).step (Kept.of_grown (F := fun k => W3.heap.size ≤ k) hgr (fun k hk => (hown.lt k hk).1)) (fun k hk => .inl hk)
        have hft : ∀ k, Foot g b7 k → k < w.heap.size := by
          intro k hk
          rcases hk with rfl | hk
          · exact hg0
          · rcases h.lie with e | e
            · rcases hlie with e' | e'
              · exact hf k (by rw [← e', ← e]; exact hk)
              · rw [e, e'] at hk; cases hk
            · rw [e] at hk; cases hk
        have hzw : w.heap.size < wr.heap.size := lt_of_block hrr
        refine ⟨?_, ?_, h.rd.kept hk1 (fun k hk h' => by have := hft k hk; omega), ?_, by omega, hft⟩
        · exact (hk1.block _ (by omega) (by omega)).trans ((h.kept.block w2.heap.size (by show w2.heap.size < wr.heap.size; omega) (by omega)).trans hvr)
        · exact (hk1.block _ (by omega) (by omega)).trans ((h.kept.block w.heap.size (by show w.heap.size < wr.heap.size; omega) (by omega)).trans hrr)
        · exact (hkw.drew.step h.kept (fun k hk => .inl hk)).step hk1 (fun k hk => .inr (by omega)))
      go_wp2_with fail
      go_region_law (first
        | (go_simp; go_at_call 53; (with_reducible refine (HC.out _ ?_ ?_).mono ?_); exact hrd; exact hf6.out; rintro e w7 ⟨rfl, b7, h7⟩; obtain ⟨hv7, hl7, ho7⟩ := HFW.out _ _ h7; have hv7a := (World.cell?_alloc_past (.cells #[.int .i64 x.s, .int .i64 x.q, .int .i64 x.a, .int .i64 x.k, .int .i64 x.r, .int .i64 x.t, .int .i64 x.re, .int .i64 x.im] 52) _ _ hl7).trans hv7; have hone := HasC.one w7 x _ rfl; simp only [])
        | (revert h7; intro h7; refine step_append_cmds _ (by rfl) (.tmp 12) (.tmp 15) (by rfl) W3.heap.size (.slice A n c) ds (by rfl) (ho7.below ((Below.refl _ _).alloc (Nat.le_refl _) _)) (w7.heap.size + 1) (some ⟨w7.heap.size, 0, none⟩) 1 1 [x] (by rfl) hone (by rfl) HL.out (HB9.out _ _ _ h7) ?_; intro v8 w8 ho8 hgr8 hat8; obtain ⟨p1, p2, p3, p4, p5, p6⟩ := HV8.out _ _ _ _ h7 hgr8; have q1 := (row_cells p1 1).1; have q2 := (row_cells p1 1).2; simp only [List.getElem?_toArray, List.getElem?_cons_succ, List.getElem?_cons_zero] at q1; obtain ⟨A8, n8, c8, rfl, hn8, hnc8, hx8⟩ := ho8.form))
      all_goals go_wp2_with fail
      all_goals
        have hks : Kept (fun k => k = w2.heap.size) w8 (w8.setCell ⟨w2.heap.size, 1, none⟩ (.slice A8 n8 c8)) := (Kept.refl (fun k => k = w2.heap.size) w8).setCell (p := ⟨w2.heap.size, 1, none⟩) (.inl rfl) _
        have hz8 := lt_of_block p1
        have hl7' : b7 = b ∨ b7 = none := by
          rcases h7.lie with e | e
          · rcases hlie with e' | e'
            · exact .inl (e.trans e')
            · exact .inr (e.trans e')
          · exact .inr e
        refine ⟨⟨j + 1, b7, A8, n8, c8, by omega, by go_num, ?_, hl7', p4.setCell (p := ⟨w2.heap.size, 1, none⟩) (.inr (Nat.le_of_lt hlt2)) _, (hks.block _ (by omega) (by omega)).trans p2, ?_, ?_, by rw [show (w8.setCell ⟨w2.heap.size, 1, none⟩ (.slice A8 n8 c8)).heap.size = w8.heap.size from by simp [World.setCell]]; exact p5⟩, by simp [intOf]; omega⟩
        · rw [HST.out]
          exact p3.kept hks (fun k hk h => by have := p6 k hk; omega)
        · simp [World.setCell, Array.getElem?_modify, p1]
        · rw [HST.out]
          exact ho8.keep fun k hk => hks.block k ((ho8.lt k hk).2) (by have := (ho8.lt k hk).1; omega)
    · obtain rfl : j = M := by omega
      rw [H3.out] at hrd hown
      simp only at hrd hown
      obtain ⟨AC, nC, cC, e', hnC, hncC, hxC⟩ := hown.form
      injection e' with e1 e2 e3
      subst e1 e2 e3
      obtain ⟨W4, hW4⟩ : ∃ W, W = wr := ⟨wr, rfl⟩
      subst hW4
      go_wp2_with fail
      refine (RGo.count (RGo.start hrd) 7 (isInt_lit (by omega))).mono ?_
      rintro e w5 ⟨rfl, b5, h5⟩
      rw [H4.out] at h5 ⊢
      simp only at h5 ⊢
      go_wp2_with fail
      have hzw4 : w.heap.size < W4.heap.size := lt_of_block hrr
      have hr5 := (h5.kept.block w.heap.size (by omega) (by omega)).trans hrr
      have hv5 := (h5.kept.block w2.heap.size (by omega) (by omega)).trans hvr
      have hk5 := hkw.step h5.kept (fun k hk => .inl hk)
      have hz5' := h5.kept.size
      have hz5 : W3.heap.size ≤ w5.heap.size := by omega
      have ho5 := hown.keep fun k hk => h5.kept.block k ((hown.lt k hk).2) (by have := (hown.lt k hk).1; omega)
      have hl5 : b5 = b ∨ b5 = none := by
        rcases h5.lie with e | e
        · rcases hlie with e' | e'
          · exact .inl (e.trans e')
          · exact .inr (e.trans e')
        · exact .inr e
      have hrd5 := h5.rd
      clear h5 hrd hown hkw hrr hvr hvc hzr hxC hlie
      go_loopw [21] (fun i wr => ∃ (i2 : Nat) (b' : Option Nat) (D : Option Addr) (l d : Nat), i2 ≤ m ∧ i = .int .i64 i2 ∧ Rd wr g b' (rdN i2 s5).2.1 (rdN i2 s5).2.2 ∧ (b' = b ∨ b' = none) ∧ Kept (fun k => k = g) w wr ∧ wr.heap[w.heap.size]? = some (.cells #[.int .i64 0, .slice none 0 0, .slice none 0 0] 48 (0, 0)) ∧ wr.heap[w2.heap.size]? = some (.cells #[.int .i64 (kd : Int), .slice A n c, .slice D l d] 48 (0, 0)) ∧ OwnC wr W3.heap.size (.slice A n c) cs ∧ OwnI wr W3.heap.size (.slice D l d) (rdN i2 s5).1 ∧ W3.heap.size ≤ wr.heap.size) (fun i _ => m - (intOf i).toNat)
      case atStart => exact ⟨0, b5, none, 0, 0, Nat.zero_le _, rfl, hrd5, hl5, hk5, hr5, hv5, ho5, OwnI.nil _ _, hz5⟩
      case round =>
        clear hrd5 hl5 hk5 hr5 hv5 hz5 ho5 hz5' hzw4
        obtain ⟨i2, b6, D, l, d, hj2, rfl, hrd, hlie, hkw, hrr, hvr, hownC, hown, hzr⟩ := hrel
        have hvc := (row_cells hvr 2).1
        simp only [List.getElem?_toArray, List.getElem?_cons_succ, List.getElem?_cons_zero] at hvc
        have hap := ownCI_apart hownC hown
        by_cases hlt : i2 < m
        · have hst : rdN (i2 + 1) s5 = ((rdN i2 s5).1 ++ [((rc 9 (rdN i2 s5).2).1 : Int)], (rc 9 (rdN i2 s5).2).2) := rfl
          have hlen := rdN_len i2 s5
          have HST := hide hst
          clear hst
          generalize rdN i2 s5 = q at *
          obtain ⟨ns, st⟩ := q
          simp only at hlen hrd hown HST
          have HC : Hid (∀ W, Rd W g b6 st.1 st.2 → Calls Try.prog 77 #[.pointer (some ⟨g, 0, none⟩), .int .i64 9] W fun e w' => e = .returned (.int .i64 ((rc 9 st).1 : Int)) ∧ ∃ b', RGo g b6 W (rc 9 st).2 b' w') := hide (fun W h => RGo.count (RGo.start h) 9 (isInt_lit (by omega)))
          generalize rc 9 st = q9 at *
          obtain ⟨x, st'⟩ := q9
          simp only at HC HST
          have HFW : Hid (∀ w7 b7, RGo g b6 wr.drew st' b7 w7 → w7.cell? ⟨w2.heap.size, 2, none⟩ = some (.slice D l d) ∧ w2.heap.size < w7.heap.size ∧ OwnI w7 W3.heap.size (.slice D l d) ns) := hide (fun w7 b7 h => ⟨(h.kept.cell (k := w2.heap.size) (by show w2.heap.size < wr.heap.size; omega) (by omega)).trans hvc, by have : wr.heap.size ≤ w7.heap.size := h.kept.size; omega, hown.keep fun k hk => h.kept.block k ((hown.lt k hk).2) (by have := (hown.lt k hk).1; omega)⟩)
          have HL : Hid (ns.length + 1 ≤ 17592186044416) := hide (by have := Hm.out; omega)
          have HB9 : Hid (∀ w7 b7 ob, RGo g b6 wr.drew st' b7 w7 → W3.heap.size ≤ (w7.alloc ob).heap.size) := hide (fun w7 b7 ob h => by have : wr.heap.size ≤ w7.heap.size := h.kept.size; simp; omega)
          have HV8 : Hid (∀ w7 b7 ob w8, RGo g b6 wr.drew st' b7 w7 → (w7.alloc ob).grownBy w8 (Value.slice D l d).ownBlock → w8.heap[w2.heap.size]? = some (.cells #[.int .i64 (kd : Int), .slice A n c, .slice D l d] 48 (0, 0)) ∧ w8.heap[w.heap.size]? = some (.cells #[.int .i64 0, .slice none 0 0, .slice none 0 0] 48 (0, 0)) ∧ Rd w8 g b7 st'.1 st'.2 ∧ Kept (fun k => k = g) w w8 ∧ W3.heap.size ≤ w8.heap.size ∧ (∀ k, Foot g b7 k → k < w.heap.size) ∧ OwnC w8 W3.heap.size (.slice A n c) cs) := hide (fun w7 b7 ob w8 h hgr => by
            have hsz7 : wr.heap.size ≤ w7.heap.size := h.kept.size
            have ha : (w7.alloc ob).heap.size = w7.heap.size + 1 := by simp
            have hsz8 : (w7.alloc ob).heap.size ≤ w8.heap.size := hgr.size
            have hk1 : Kept (fun k => W3.heap.size ≤ k) w7 w8 := (Kept.of_below (F := fun k => W3.heap.size ≤ k) ((Below.refl _ _).alloc (Nat.le_refl _) ob)).step (Kept.of_grown (F := fun k => W3.heap.size ≤ k) hgr (fun k hk => (hown.lt k hk).1)) (fun k hk => .inl hk)
            have hk2 : Kept (fun k => (Value.slice D l d).ownBlock = some k) w7 w8 := (Kept.of_below (F := fun k => (Value.slice D l d).ownBlock = some k) ((Below.refl _ _).alloc (Nat.le_refl _) ob)).step (Kept.of_grown (F := fun k => (Value.slice D l d).ownBlock = some k) hgr (fun k hk => hk)) (fun k hk => .inl hk)
            have hft : ∀ k, Foot g b7 k → k < w.heap.size := by
              intro k hk
              rcases hk with rfl | hk
              · exact hg0
              · rcases h.lie with e | e
                · rcases hlie with e' | e'
                  · exact hf k (by rw [← e', ← e]; exact hk)
                  · rw [e, e'] at hk; cases hk
                · rw [e] at hk; cases hk
            have hzw : w.heap.size < wr.heap.size := lt_of_block hrr
            have hc7 : OwnC w7 W3.heap.size (.slice A n c) cs := hownC.keep fun k hk => h.kept.block k ((hownC.lt k hk).2) (by have := (hownC.lt k hk).1; omega)
            refine ⟨?_, ?_, h.rd.kept hk1 (fun k hk h' => by have := hft k hk; omega), ?_, by omega, hft, hc7.keep fun k hk => hk2.block k ((hc7.lt k hk).2) (hap k hk)⟩
            · exact (hk1.block _ (by omega) (by omega)).trans ((h.kept.block w2.heap.size (by show w2.heap.size < wr.heap.size; omega) (by omega)).trans hvr)
            · exact (hk1.block _ (by omega) (by omega)).trans ((h.kept.block w.heap.size (by show w.heap.size < wr.heap.size; omega) (by omega)).trans hrr)
            · exact (hkw.drew.step h.kept (fun k hk => .inl hk)).step hk1 (fun k hk => .inr (by omega)))
          clear hap hownC
          go_wp2_with fail
          go_region_law (first
            | (go_simp; go_at_call 77; (with_reducible refine (HC.out _ ?_).mono ?_); exact hrd; rintro e w7 ⟨rfl, b7, h7⟩; obtain ⟨hv7, hl7, ho7⟩ := HFW.out _ _ h7; have hv7a := (World.cell?_alloc_past (.cells #[.int .i64 (x : Int)] 3) _ _ hl7).trans hv7; have hone := HasI.new w7 3 [(x : Int)] (0, 0) _ rfl; simp only [])
            | (revert h7; intro h7; refine step_append_ints _ (by rfl) (.tmp 24) (.tmp 27) (by rfl) W3.heap.size (.slice D l d) ns (by rfl) (ho7.below ((Below.refl _ _).alloc (Nat.le_refl _) _)) (w7.heap.size + 1) (some ⟨w7.heap.size, 0, none⟩) 1 1 [(x : Int)] (by rfl) hone (by rfl) HL.out (HB9.out _ _ _ h7) ?_; intro v8 w8 ho8 hgr8 hat8; obtain ⟨p1, p2, p3, p4, p5, p6, p7⟩ := HV8.out _ _ _ _ h7 hgr8; have q1 := (row_cells p1 2).1; have q2 := (row_cells p1 2).2; simp only [List.getElem?_toArray, List.getElem?_cons_succ, List.getElem?_cons_zero] at q1; obtain ⟨A8, n8, c8, rfl, hn8, hnc8, hx8⟩ := ho8.form))
          all_goals go_wp2_with fail
          all_goals
            have hks : Kept (fun k => k = w2.heap.size) w8 (w8.setCell ⟨w2.heap.size, 2, none⟩ (.slice A8 n8 c8)) := (Kept.refl (fun k => k = w2.heap.size) w8).setCell (p := ⟨w2.heap.size, 2, none⟩) (.inl rfl) _
            have hz8 := lt_of_block p1
            have hl7' : b7 = b ∨ b7 = none := by
              rcases h7.lie with e | e
              · rcases hlie with e' | e'
                · exact .inl (e.trans e')
                · exact .inr (e.trans e')
              · exact .inr e
            refine ⟨⟨i2 + 1, b7, A8, n8, c8, by omega, by go_num, ?_, hl7', p4.setCell (p := ⟨w2.heap.size, 2, none⟩) (.inr (Nat.le_of_lt hlt2)) _, (hks.block _ (by omega) (by omega)).trans p2, ?_, ?_, ?_, by rw [show (w8.setCell ⟨w2.heap.size, 2, none⟩ (.slice A8 n8 c8)).heap.size = w8.heap.size from by simp [World.setCell]]; exact p5⟩, by simp [intOf]; omega⟩
            · rw [HST.out]
              exact p3.kept hks (fun k hk h => by have := p6 k hk; omega)
            · simp [World.setCell, Array.getElem?_modify, p1]
            · exact p7.keep fun k hk => hks.block k ((p7.lt k hk).2) (by have := (p7.lt k hk).1; omega)
            · rw [HST.out]
              exact ho8.keep fun k hk => hks.block k ((ho8.lt k hk).2) (by have := (ho8.lt k hk).1; omega)
        · obtain rfl : i2 = m := by omega
          clear hap
          have hne : w.heap.size ≠ w2.heap.size := by omega
          have hzw := lt_of_block hrr
          have hk11 := Kept.of_setRow wr w.heap.size #[.int .i64 (kd : Int), .slice A n c, .slice D l d]
          have hr11 := set_row_at (B := #[.int .i64 (kd : Int), .slice A n c, .slice D l d]) hrr
          obtain ⟨A', n', c', e', hn', hnc', hx'⟩ := hown.form
          injection e' with e1 e2 e3
          subst e1 e2 e3
          have hft : ∀ k, Foot g b6 k → k < w.heap.size := by
            intro k hk
            rcases hk with rfl | hk
            · exact hg0
            · rcases hlie with e | e
              · exact hf k (by rw [← e]; exact hk)
              · rw [e] at hk; cases hk
          go_wp2_with (first
            | (refine wpList_load_row rfl 48 _ rfl w2.heap.size rfl _ _ _ _ hvr Try.underlying48 rfl (by kernel_rfl) ?_)
            | (refine wpList_store_row rfl 48 _ _ rfl w.heap.size #[.int .i64 (kd : Int), .slice A n c, .slice D l d] rfl rfl _ _ hrr (by kernel_rfl) rfl (by simp; exact ⟨rfl, rfl, rfl⟩) ?_; generalize wr.setRow w.heap.size #[.int .i64 (kd : Int), .slice A n c, .slice D l d] = w11 at *))
          refine bodyPost_ret (v := .agg #[.int .i64 (kd : Int), .slice A n c, .slice D l d]) (results_val rfl hr11 rfl) rfl ⟨A, n, c, D, l, d, rfl, hnC, hn', ?_, ?_, b6, ?_⟩
          · exact (hownC.keep fun k hk => hk11.block k ((hownC.lt k hk).2) (by have := (hownC.lt k hk).1; omega)).from2 (by omega)
          · exact (hown.keep fun k hk => hk11.block k ((hown.lt k hk).2) (by have := (hown.lt k hk).1; omega)).from_ (by omega)
          · exact ⟨hrd.kept hk11 (fun k hk h => by have := hft k hk; omega), hlie, hkw.step hk11 (fun k hk => .inr (by omega))⟩

/-- Whatever is read. -/
theorem vread_any (g : Nat) (b : Option Nat) (s : RSt) (w : World) (h : Rd w g b s.1 s.2) (hf : ∀ k, b = some k → k < w.heap.size) :
    Calls Try.prog 52 #[.pointer (some ⟨g, 0, none⟩)] w fun e w' => ∃ A n c D l d, e = .returned (.agg #[.int .i64 ((rdV s).k : Int), .slice A n c, .slice D l d]) ∧ Hid ((rdV s).cs.length = n) ∧ Hid ((rdV s).ns.length = l) ∧ OwnC w' w.heap.size (.slice A n c) (rdV s).cs ∧ OwnI w' w.heap.size (.slice D l d) (rdV s).ns ∧ ∃ b', RGo g b w (rdV s).s b' w' := by
  have h8 := rc_le (s := (rc 2 s).2) (most := 8) (by omega)
  have h7 := rc_le (s := (rdC (rc 8 (rc 2 s).2).1 (rc 8 (rc 2 s).2).2).2) (most := 7) (by omega)
  exact vread_gen g b s w h hf (rc 2 s).2 (rc 8 (rc 2 s).2).2 (rdC (rc 8 (rc 2 s).2).1 (rc 8 (rc 2 s).2).2).2 (rc 7 (rdC (rc 8 (rc 2 s).2).1 (rc 8 (rc 2 s).2).2).2).2 (rc 2 s).1 (rc 8 (rc 2 s).2).1 (rc 7 (rdC (rc 8 (rc 2 s).2).1 (rc 8 (rc 2 s).2).2).2).1 (rdC (rc 8 (rc 2 s).2).1 (rc 8 (rc 2 s).2).2).1 (by omega) (by omega) rfl rfl rfl rfl
end Go.Proofs.Ytapbcpilklhoiaa
