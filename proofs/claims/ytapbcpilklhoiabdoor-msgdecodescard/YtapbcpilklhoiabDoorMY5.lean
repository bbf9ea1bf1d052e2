/-
  Read of package value, whatever is read. Conditions: the reader's bytes lie below.
  Structs of whole numbers compared. No condition.
  Whole numbers below 2^53 in 64 bit floats: what is read back, sums, differences, products, order, conversions. No condition: plain lemmas.
-/
import Derived.Test.YtapbcpilklhoiabDoorMY3
import Derived.Deep.RegionHeld3
import Derived.Deep.DrawnRows
import Derived.Deep.RegionLaw
import Derived.Test.YtapbcpilklhoiabDoorMY0
import Derived.ChangeKeysEq
import Derived.Laws.StructEq
import Derived.Laws.ComplexArith
set_option linter.unusedSimpArgs false
set_option linter.unusedVariables false

namespace Go.Proofs.YtapbcpilklhoiabDoor
open Go.RowKit

theorem step_append_cmds {ops : Array Oper} {o : Oper} {a : Act} {K : Act → World → Prop} {Q : Exit → Act → World → Prop} {E : Prop} (w : World) (hgd : o.guard = none) (s x : Operand)
    (ho : o.op = .call { callee := .builtin .append, args := #[s, x], argTypes := #[24, 24] }) (base : Nat) (v : Value) (xs : List Cmdv) (hs : a.eval s = v) (hown : OwnC w base v xs)
    (B : Nat) (A : Option Addr) (m c : Nat) (news : List Cmdv) (hx : a.eval x = .slice A m c) (hr : HasC w B A news) (hm : news.length = m)
    (hlen : xs.length + m ≤ 2199023255552) (hbase : base ≤ w.heap.size)
    (h : ∀ v' w', OwnC w' base v' (xs ++ news) → w.grownBy w' v.ownBlock → (v'.ownBlock = v.ownBlock ∨ v'.ownBlock = some w.heap.size) → K (a.put o.dst v') w') :
    if Region.wanted o (yielded ops a.tmps) = true then Oper.wp Tryd.prog o a w K Q else E := by
  rw [if_pos (by simp [Region.wanted, hgd])]
  obtain ⟨v', w', hrun, h2, h3, h4⟩ := run_append_cmds w o.type base v xs hown B A m c news hr hm hlen hbase
  exact Lib.wp_append_run w s x 24 24 ho _ _ hs hx v' w' hrun (h v' w' h2 h3 h4)

theorem HasC.one (w : World) (c : Cmdv) (g : Nat) (hg : g = w.heap.size) : HasC (w.alloc (.cells #[.int .i64 c.s, .int .i64 c.q, .int .i64 c.a, .int .i64 c.k, .int .i64 c.r, .int .i64 c.t, .int .i64 c.re, .int .i64 c.im] 32)) (g + 1) (some ⟨g, 0, none⟩) [c] := by
  subst hg
  refine HasC.of_cells (by omega) fun j u hu => ?_
  have e : flatC [c] = [.int .i64 c.s, .int .i64 c.q, .int .i64 c.a, .int .i64 c.k, .int .i64 c.r, .int .i64 c.t, .int .i64 c.re, .int .i64 c.im] := rfl
  rw [e] at hu
  rw [cell_of_row _ _ _ _ _ _ (heap_alloc_new w _)]
  simpa using hu
theorem ownCI_apart {w : World} {B B' : Nat} {v v' : Value} {cs : List Cmdv} {ns : List Int} (h : OwnC w B v cs) (h' : OwnI w B' v' ns) : ∀ j, v.ownBlock = some j → v'.ownBlock ≠ some j := by
  intro j e e'
  rcases h.2 with ⟨rfl, _⟩ | ⟨g, cap, cur, rfl, _, hh, _⟩
  · cases e
  rcases h'.2 with ⟨rfl, _⟩ | ⟨g', cap', cur', rfl, _, hh', _⟩
  · cases e'
  have e1 : g = j := Option.some.inj e
  have e2 : g' = j := Option.some.inj e'
  subst e1 e2
  have := hh.symm.trans hh'
  simp at this
theorem OwnC.from2 {w : World} {base base' : Nat} {v : Value} {cs : List Cmdv} (h : OwnC w base v cs) (hb : base' ≤ base) : OwnC w base' v cs := by
  refine ⟨h.1, ?_⟩
  rcases h.2 with h2 | ⟨g, cap, cur, hv, hg, r⟩
  · exact .inl h2
  · exact .inr ⟨g, cap, cur, hv, by omega, r⟩

set_option maxRecDepth 20000 in
set_option maxHeartbeats 3200000 in
theorem vread_gen (g : Nat) (b : Option Nat) (s : RSt) (w : World) (h : Rd w g b s.1 s.2) (hf : ∀ k, b = some k → k < w.heap.size) (s1 s2 s4 s5 : RSt) (kd M m : Nat) (cs : List Cmdv) (hM : M ≤ 1000) (hm : m ≤ 1000) (h1 : rc 2 s = (kd, s1)) (h2 : rc 8 s1 = (M, s2)) (h3 : rdC M s2 = (cs, s4)) (h4 : rc 7 s4 = (m, s5)) :
    Calls Tryd.prog 81 #[.pointer (some ⟨g, 0, none⟩)] w fun e w' => ∃ A n c D l d, e = .returned (.agg #[.int .i64 (kd : Int), .slice A n c, .slice D l d]) ∧ Hid (cs.length = n) ∧ Hid ((rdN m s5).1.length = l) ∧ OwnC w' w.heap.size (.slice A n c) cs ∧ OwnI w' w.heap.size (.slice D l d) (rdN m s5).1 ∧ ∃ b', RGo g b w (rdN m s5).2 b' w' := by
  have h0 := RGo.start h
  have hg0 := h0.lt
  have HM := hide hM
  have Hm := hide hm
  have H1 := hide h1
  have H2 := hide h2
  have H3 := hide h3
  have H4 := hide h4
  clear h1 h2 h3 h4
  go_enter Tryd.func81, Tryd.ntmps81
  go_wp2_with fail
  have hr1 := heap_alloc_new w (.cells #[.int .i64 0, .slice none 0 0, .slice none 0 0] 27)
  have hb1 : Below w.heap.size w (w.alloc (.cells #[.int .i64 0, .slice none 0 0, .slice none 0 0] 27)) := (Below.refl _ _).alloc (Nat.le_refl _) _
  have h01 := RGo.start (h0.alloc (.cells #[.int .i64 0, .slice none 0 0, .slice none 0 0] 27)).rd
  have hs1 : (w.alloc (.cells #[.int .i64 0, .slice none 0 0, .slice none 0 0] 27)).heap.size = w.heap.size + 1 := by simp
  generalize w.alloc (.cells #[.int .i64 0, .slice none 0 0, .slice none 0 0] 27) = W1 at *
  refine (RGo.count h01 2 (isInt_lit (by omega))).mono ?_
  rintro e w2 ⟨rfl, b2, h2⟩
  rw [H1.out] at h2 ⊢
  simp only at h2 ⊢
  have hr2 : w2.heap[w.heap.size]? = _ := (h2.kept.block w.heap.size (by omega) (by omega)).trans hr1
  have hlt2 := lt_of_block hr2
  have hg2 := h2.lt
  have hl2 := h2.lie
  have hk2 : Kept (fun k => k = g) w w2 := (Kept.of_below hb1).step h2.kept (fun k hk => .inl hk)
  have hr3 := (Below.heap_alloc w2 (.cells #[.int .i64 (kd : Int), .slice none 0 0, .slice none 0 0] 27) w.heap.size hlt2).trans hr2
  have hv3 := heap_alloc_new w2 (.cells #[.int .i64 (kd : Int), .slice none 0 0, .slice none 0 0] 27)
  have hk3 := hk2.step (Kept.of_below (F := fun _ => False) ((Below.refl _ _).alloc (Nat.le_refl _) (.cells #[.int .i64 (kd : Int), .slice none 0 0, .slice none 0 0] 27))) (fun _ h => h.elim)
  have h03 := RGo.start (h2.alloc (.cells #[.int .i64 (kd : Int), .slice none 0 0, .slice none 0 0] 27)).rd
  have hs3 : (w2.alloc (.cells #[.int .i64 (kd : Int), .slice none 0 0, .slice none 0 0] 27)).heap.size = w2.heap.size + 1 := by simp
  go_wp2_with fail
  generalize w2.alloc (.cells #[.int .i64 (kd : Int), .slice none 0 0, .slice none 0 0] 27) = W3 at *
  clear h01 h2 hr2 hk2 h0 hr1
  refine (RGo.count h03 8 (isInt_lit (by omega))).mono ?_
  rintro e w4 ⟨rfl, b4, h4⟩
  rw [H2.out] at h4 ⊢
  simp only at h4 ⊢
  go_wp2_with fail
  have hlt3 : w2.heap.size < W3.heap.size := by omega
  have hr4 := (h4.kept.block w.heap.size (by omega) (by omega)).trans hr3
  have hv4 := (h4.kept.block w2.heap.size (by omega) (by omega)).trans hv3
  have hk4 := hk3.step h4.kept (fun k hk => .inl hk)
  have hz4 := h4.kept.size
  have hl4 : b4 = b ∨ b4 = none := by
    rcases h4.lie with e | e
    · rcases hl2 with e' | e'
      · exact .inl (e.trans e')
      · exact .inr (e.trans e')
    · exact .inr e
  have hrd4 := h4.rd
  clear h4 h03 hr3 hv3 hk3 hs1 hb1
  go_loopw [9] (fun i wr => ∃ (j : Nat) (b' : Option Nat) (A : Option Addr) (n c : Nat), j ≤ M ∧ i = .int .i64 j ∧ Rd wr g b' (rdC j s2).2.1 (rdC j s2).2.2 ∧ (b' = b ∨ b' = none) ∧ Kept (fun k => k = g) w wr ∧ wr.heap[w.heap.size]? = some (.cells #[.int .i64 0, .slice none 0 0, .slice none 0 0] 27 (0, 0)) ∧ wr.heap[w2.heap.size]? = some (.cells #[.int .i64 (kd : Int), .slice A n c, .slice none 0 0] 27 (0, 0)) ∧ OwnC wr W3.heap.size (.slice A n c) (rdC j s2).1 ∧ W3.heap.size ≤ wr.heap.size) (fun i _ => M - (intOf i).toNat)
  case atStart => exact ⟨0, b4, none, 0, 0, Nat.zero_le _, rfl, hrd4, hl4, hk4, hr4, hv4, OwnC.nil _ _, hz4⟩
  case round =>
    clear hrd4 hl4 hk4 hr4 hv4 hz4
    obtain ⟨j, b6, A, n, c, hj, rfl, hrd, hlie, hkw, hrr, hvr, hown, hzr⟩ := hrel
    have hvc := (row_cells hvr 1).1
    simp only [List.getElem?_toArray, List.getElem?_cons_succ, List.getElem?_cons_zero] at hvc
    by_cases hlt : j < M
    · have hst : rdC (j + 1) s2 = ((rdC j s2).1 ++ [(tk (rdC j s2).2).1], (tk (rdC j s2).2).2) := rfl
      have hlen := rdC_len j s2
      have HST := hide hst
      clear hst
      generalize rdC j s2 = q at *
      obtain ⟨ds, st⟩ := q
      simp only at hlen hrd hown HST
      have HC : Hid (∀ W, Rd W g b6 st.1 st.2 → (∀ k, b6 = some k → k < W.heap.size) → Calls Tryd.prog 83 #[.pointer (some ⟨g, 0, none⟩)] W fun e w' => e = .returned (tk st).1.val ∧ ∃ b', RGo g b6 W (tk st).2 b' w') := hide (fun W h hf => takecmd_any g b6 st W h hf)
      generalize tk st = q9 at *
      obtain ⟨x, st'⟩ := q9
      simp only at HC HST
      unfold Cmdv.val at HC
      have hf6 : Hid (∀ k, b6 = some k → k < wr.drew.heap.size) := hide (fun k hk => by
        have hzw : w.heap.size < wr.heap.size := lt_of_block hrr
        show k < wr.heap.size
        rcases hlie with e | e
        · have := hf k (by rw [← e]; exact hk); omega
        · rw [e] at hk; cases hk)
      have HFW : Hid (∀ w7 b7, RGo g b6 wr.drew st' b7 w7 → w7.cell? ⟨w2.heap.size, 1, none⟩ = some (.slice A n c) ∧ w2.heap.size < w7.heap.size ∧ OwnC w7 W3.heap.size (.slice A n c) ds) := hide (fun w7 b7 h => ⟨(h.kept.cell (k := w2.heap.size) (by show w2.heap.size < wr.heap.size; omega) (by omega)).trans hvc, by have : wr.heap.size ≤ w7.heap.size := h.kept.size; omega, hown.keep fun k hk => h.kept.block k ((hown.lt k hk).2) (by have := (hown.lt k hk).1; omega)⟩)
      have HL : Hid (ds.length + 1 ≤ 2199023255552) := hide (by have := HM.out; omega)
      have HB9 : Hid (∀ w7 b7 ob, RGo g b6 wr.drew st' b7 w7 → W3.heap.size ≤ (w7.alloc ob).heap.size) := hide (fun w7 b7 ob h => by have : wr.heap.size ≤ w7.heap.size := h.kept.size; simp; omega)
      have HV8 : Hid (∀ w7 b7 ob w8, RGo g b6 wr.drew st' b7 w7 → (w7.alloc ob).grownBy w8 (Value.slice A n c).ownBlock → w8.heap[w2.heap.size]? = some (.cells #[.int .i64 (kd : Int), .slice A n c, .slice none 0 0] 27 (0, 0)) ∧ w8.heap[w.heap.size]? = some (.cells #[.int .i64 0, .slice none 0 0, .slice none 0 0] 27 (0, 0)) ∧ Rd w8 g b7 st'.1 st'.2 ∧ Kept (fun k => k = g) w w8 ∧ W3.heap.size ≤ w8.heap.size ∧ ∀ k, Foot g b7 k → k < w.heap.size) := hide (fun w7 b7 ob w8 h hgr => by
        have hsz7 : wr.heap.size ≤ w7.heap.size := h.kept.size
        have ha : (w7.alloc ob).heap.size = w7.heap.size + 1 := by simp
        have hsz8 : (w7.alloc ob).heap.size ≤ w8.heap.size := hgr.size
        have hk1 : Kept (fun k => W3.heap.size ≤ k) w7 w8 := (Kept.of_below (F := fun k => W3.heap.size ≤ k) ((Below.refl _ _).alloc (Nat.le_refl _) ob)).step (Kept.of_grown (F := fun k => W3.heap.size ≤ k) hgr (fun k hk => (hown.lt k hk).1)) (fun k hk => .inl hk)
        have hft : ∀ k, Foot g b7 k → k < w.heap.size := by
          intro k hk
          rcases hk with rfl | hk
          · exact hg0
          · rcases h.lie with e | e
            · rcases hlie with e' | e'
              · exact hf k (by rw [← e', ← e]; exact hk)
              · rw [e, e'] at hk; cases hk
            · rw [e] at hk; cases hk
        have hzw : w.heap.size < wr.heap.size := lt_of_block hrr
        refine ⟨?_, ?_, h.rd.kept hk1 (fun k hk h' => by have := hft k hk; omega), ?_, by omega, hft⟩
        · exact (hk1.block _ (by omega) (by omega)).trans ((h.kept.block w2.heap.size (by show w2.heap.size < wr.heap.size; omega) (by omega)).trans hvr)
        · exact (hk1.block _ (by omega) (by omega)).trans ((h.kept.block w.heap.size (by show w.heap.size < wr.heap.size; omega) (by omega)).trans hrr)
        · exact (hkw.drew.step h.kept (fun k hk => .inl hk)).step hk1 (fun k hk => .inr (by omega)))
      go_wp2_with fail
      go_region_law (first
        | (go_simp; go_at_call 83; (with_reducible refine (HC.out _ ?_ ?_).mono ?_); exact hrd; exact hf6.out; rintro e w7 ⟨rfl, b7, h7⟩; obtain ⟨hv7, hl7, ho7⟩ := HFW.out _ _ h7; have hv7a := (World.cell?_alloc_past (.cells #[.int .i64 x.s, .int .i64 x.q, .int .i64 x.a, .int .i64 x.k, .int .i64 x.r, .int .i64 x.t, .int .i64 x.re, .int .i64 x.im] 32) _ _ hl7).trans hv7; have hone := HasC.one w7 x _ rfl; simp only [])
        | (revert h7; intro h7; refine step_append_cmds _ (by rfl) (.tmp 12) (.tmp 15) (by rfl) W3.heap.size (.slice A n c) ds (by rfl) (ho7.below ((Below.refl _ _).alloc (Nat.le_refl _) _)) (w7.heap.size + 1) (some ⟨w7.heap.size, 0, none⟩) 1 1 [x] (by rfl) hone (by rfl) HL.out (HB9.out _ _ _ h7) ?_; intro v8 w8 ho8 hgr8 hat8; obtain ⟨p1, p2, p3, p4, p5, p6⟩ := HV8.out _ _ _ _ h7 hgr8; have q1 := (row_cells p1 1).1; have q2 := (row_cells p1 1).2; simp only [List.getElem?_toArray, List.getElem?_cons_succ, List.getElem?_cons_zero] at q1; obtain ⟨A8, n8, c8, rfl, hn8, hnc8, hx8⟩ := ho8.form))
      all_goals go_wp2_with fail
      all_goals
        have hks : Kept (fun k => k = w2.heap.size) w8 (w8.setCell ⟨w2.heap.size, 1, none⟩ (.slice A8 n8 c8)) := (Kept.refl (fun k => k = w2.heap.size) w8).setCell (p := ⟨w2.heap.size, 1, none⟩) (.inl rfl) _
        have hz8 := lt_of_block p1
        have hl7' : b7 = b ∨ b7 = none := by
          rcases h7.lie with e | e
          · rcases hlie with e' | e'
            · exact .inl (e.trans e')
            · exact .inr (e.trans e')
          · exact .inr e
        refine ⟨⟨j + 1, b7, A8, n8, c8, by omega, by go_num, ?_, hl7', p4.setCell (p := ⟨w2.heap.size, 1, none⟩) (.inr (Nat.le_of_lt hlt2)) _, (hks.block _ (by omega) (by omega)).trans p2, ?_, ?_, by rw [show (w8.setCell ⟨w2.heap.size, 1, none⟩ (.slice A8 n8 c8)).heap.size = w8.heap.size from by simp [World.setCell]]; exact p5⟩, by simp [intOf]; omega⟩
        · rw [HST.out]
          exact p3.kept hks (fun k hk h => by have := p6 k hk; omega)
        · simp [World.setCell, Array.getElem?_modify, p1]
        · rw [HST.out]
          exact ho8.keep fun k hk => hks.block k ((ho8.lt k hk).2) (by have := (ho8.lt k hk).1; omega)
    · obtain rfl : j = M := by omega
      rw [H3.out] at hrd hown
      simp only at hrd hown
      obtain ⟨AC, nC, cC, e', hnC, hncC, hxC⟩ := hown.form
      injection e' with e1 e2 e3
      subst e1 e2 e3
      obtain ⟨W4, hW4⟩ : ∃ W, W = wr := ⟨wr, rfl⟩
      subst hW4
      go_wp2_with fail
      refine (RGo.count (RGo.start hrd) 7 (isInt_lit (by omega))).mono ?_
      rintro e w5 ⟨rfl, b5, h5⟩
      rw [H4.out] at h5 ⊢
      simp only at h5 ⊢
      go_wp2_with fail
      have hzw4 : w.heap.size < W4.heap.size := lt_of_block hrr
      have hr5 := (h5.kept.block w.heap.size (by omega) (by omega)).trans hrr
      have hv5 := (h5.kept.block w2.heap.size (by omega) (by omega)).trans hvr
      have hk5 := hkw.step h5.kept (fun k hk => .inl hk)
      have hz5' := h5.kept.size
      have hz5 : W3.heap.size ≤ w5.heap.size := by omega
      have ho5 := hown.keep fun k hk => h5.kept.block k ((hown.lt k hk).2) (by have := (hown.lt k hk).1; omega)
      have hl5 : b5 = b ∨ b5 = none := by
        rcases h5.lie with e | e
        · rcases hlie with e' | e'
          · exact .inl (e.trans e')
          · exact .inr (e.trans e')
        · exact .inr e
      have hrd5 := h5.rd
      clear h5 hrd hown hkw hrr hvr hvc hzr hxC hlie
      go_loopw [21] (fun i wr => ∃ (i2 : Nat) (b' : Option Nat) (D : Option Addr) (l d : Nat), i2 ≤ m ∧ i = .int .i64 i2 ∧ Rd wr g b' (rdN i2 s5).2.1 (rdN i2 s5).2.2 ∧ (b' = b ∨ b' = none) ∧ Kept (fun k => k = g) w wr ∧ wr.heap[w.heap.size]? = some (.cells #[.int .i64 0, .slice none 0 0, .slice none 0 0] 27 (0, 0)) ∧ wr.heap[w2.heap.size]? = some (.cells #[.int .i64 (kd : Int), .slice A n c, .slice D l d] 27 (0, 0)) ∧ OwnC wr W3.heap.size (.slice A n c) cs ∧ OwnI wr W3.heap.size (.slice D l d) (rdN i2 s5).1 ∧ W3.heap.size ≤ wr.heap.size) (fun i _ => m - (intOf i).toNat)
      case atStart => exact ⟨0, b5, none, 0, 0, Nat.zero_le _, rfl, hrd5, hl5, hk5, hr5, hv5, ho5, OwnI.nil _ _, hz5⟩
      case round =>
        clear hrd5 hl5 hk5 hr5 hv5 hz5 ho5 hz5' hzw4
        obtain ⟨i2, b6, D, l, d, hj2, rfl, hrd, hlie, hkw, hrr, hvr, hownC, hown, hzr⟩ := hrel
        have hvc := (row_cells hvr 2).1
        simp only [List.getElem?_toArray, List.getElem?_cons_succ, List.getElem?_cons_zero] at hvc
        have hap := ownCI_apart hownC hown
        by_cases hlt : i2 < m
        · have hst : rdN (i2 + 1) s5 = ((rdN i2 s5).1 ++ [((rc 9 (rdN i2 s5).2).1 : Int)], (rc 9 (rdN i2 s5).2).2) := rfl
          have hlen := rdN_len i2 s5
          have HST := hide hst
          clear hst
          generalize rdN i2 s5 = q at *
          obtain ⟨ns, st⟩ := q
          simp only at hlen hrd hown HST
          have HC : Hid (∀ W, Rd W g b6 st.1 st.2 → Calls Tryd.prog 50 #[.pointer (some ⟨g, 0, none⟩), .int .i64 9] W fun e w' => e = .returned (.int .i64 ((rc 9 st).1 : Int)) ∧ ∃ b', RGo g b6 W (rc 9 st).2 b' w') := hide (fun W h => RGo.count (RGo.start h) 9 (isInt_lit (by omega)))
          generalize rc 9 st = q9 at *
          obtain ⟨x, st'⟩ := q9
          simp only at HC HST
          have HFW : Hid (∀ w7 b7, RGo g b6 wr.drew st' b7 w7 → w7.cell? ⟨w2.heap.size, 2, none⟩ = some (.slice D l d) ∧ w2.heap.size < w7.heap.size ∧ OwnI w7 W3.heap.size (.slice D l d) ns) := hide (fun w7 b7 h => ⟨(h.kept.cell (k := w2.heap.size) (by show w2.heap.size < wr.heap.size; omega) (by omega)).trans hvc, by have : wr.heap.size ≤ w7.heap.size := h.kept.size; omega, hown.keep fun k hk => h.kept.block k ((hown.lt k hk).2) (by have := (hown.lt k hk).1; omega)⟩)
          have HL : Hid (ns.length + 1 ≤ 17592186044416) := hide (by have := Hm.out; omega)
          have HB9 : Hid (∀ w7 b7 ob, RGo g b6 wr.drew st' b7 w7 → W3.heap.size ≤ (w7.alloc ob).heap.size) := hide (fun w7 b7 ob h => by have : wr.heap.size ≤ w7.heap.size := h.kept.size; simp; omega)
          have HV8 : Hid (∀ w7 b7 ob w8, RGo g b6 wr.drew st' b7 w7 → (w7.alloc ob).grownBy w8 (Value.slice D l d).ownBlock → w8.heap[w2.heap.size]? = some (.cells #[.int .i64 (kd : Int), .slice A n c, .slice D l d] 27 (0, 0)) ∧ w8.heap[w.heap.size]? = some (.cells #[.int .i64 0, .slice none 0 0, .slice none 0 0] 27 (0, 0)) ∧ Rd w8 g b7 st'.1 st'.2 ∧ Kept (fun k => k = g) w w8 ∧ W3.heap.size ≤ w8.heap.size ∧ (∀ k, Foot g b7 k → k < w.heap.size) ∧ OwnC w8 W3.heap.size (.slice A n c) cs) := hide (fun w7 b7 ob w8 h hgr => by
            have hsz7 : wr.heap.size ≤ w7.heap.size := h.kept.size
            have ha : (w7.alloc ob).heap.size = w7.heap.size + 1 := by simp
            have hsz8 : (w7.alloc ob).heap.size ≤ w8.heap.size := hgr.size
            have hk1 : Kept (fun k => W3.heap.size ≤ k) w7 w8 := (Kept.of_below (F := fun k => W3.heap.size ≤ k) ((Below.refl _ _).alloc (Nat.le_refl _) ob)).step (Kept.of_grown (F := fun k => W3.heap.size ≤ k) hgr (fun k hk => (hown.lt k hk).1)) (fun k hk => .inl hk)
            have hk2 : Kept (fun k => (Value.slice D l d).ownBlock = some k) w7 w8 := (Kept.of_below (F := fun k => (Value.slice D l d).ownBlock = some k) ((Below.refl _ _).alloc (Nat.le_refl _) ob)).step (Kept.of_grown (F := fun k => (Value.slice D l d).ownBlock = some k) hgr (fun k hk => hk)) (fun k hk => .inl hk)
            have hft : ∀ k, Foot g b7 k → k < w.heap.size := by
              intro k hk
              rcases hk with rfl | hk
              · exact hg0
              · rcases h.lie with e | e
                · rcases hlie with e' | e'
                  · exact hf k (by rw [← e', ← e]; exact hk)
                  · rw [e, e'] at hk; cases hk
                · rw [e] at hk; cases hk
            have hzw : w.heap.size < wr.heap.size := lt_of_block hrr
            have hc7 : OwnC w7 W3.heap.size (.slice A n c) cs := hownC.keep fun k hk => h.kept.block k ((hownC.lt k hk).2) (by have := (hownC.lt k hk).1; omega)
            refine ⟨?_, ?_, h.rd.kept hk1 (fun k hk h' => by have := hft k hk; omega), ?_, by omega, hft, hc7.keep fun k hk => hk2.block k ((hc7.lt k hk).2) (hap k hk)⟩
            · exact (hk1.block _ (by omega) (by omega)).trans ((h.kept.block w2.heap.size (by show w2.heap.size < wr.heap.size; omega) (by omega)).trans hvr)
            · exact (hk1.block _ (by omega) (by omega)).trans ((h.kept.block w.heap.size (by show w.heap.size < wr.heap.size; omega) (by omega)).trans hrr)
            · exact (hkw.drew.step h.kept (fun k hk => .inl hk)).step hk1 (fun k hk => .inr (by omega)))
          clear hap hownC
          go_wp2_with fail
          go_region_law (first
            | (go_simp; go_at_call 50; (with_reducible refine (HC.out _ ?_).mono ?_); exact hrd; rintro e w7 ⟨rfl, b7, h7⟩; obtain ⟨hv7, hl7, ho7⟩ := HFW.out _ _ h7; have hv7a := (World.cell?_alloc_past (.cells #[.int .i64 (x : Int)] 3) _ _ hl7).trans hv7; have hone := HasI.new w7 3 [(x : Int)] (0, 0) _ rfl; simp only [])
            | (revert h7; intro h7; refine step_append_ints _ (by rfl) (.tmp 24) (.tmp 27) (by rfl) W3.heap.size (.slice D l d) ns (by rfl) (ho7.below ((Below.refl _ _).alloc (Nat.le_refl _) _)) (w7.heap.size + 1) (some ⟨w7.heap.size, 0, none⟩) 1 1 [(x : Int)] (by rfl) hone (by rfl) HL.out (HB9.out _ _ _ h7) ?_; intro v8 w8 ho8 hgr8 hat8; obtain ⟨p1, p2, p3, p4, p5, p6, p7⟩ := HV8.out _ _ _ _ h7 hgr8; have q1 := (row_cells p1 2).1; have q2 := (row_cells p1 2).2; simp only [List.getElem?_toArray, List.getElem?_cons_succ, List.getElem?_cons_zero] at q1; obtain ⟨A8, n8, c8, rfl, hn8, hnc8, hx8⟩ := ho8.form))
          all_goals go_wp2_with fail
          all_goals
            have hks : Kept (fun k => k = w2.heap.size) w8 (w8.setCell ⟨w2.heap.size, 2, none⟩ (.slice A8 n8 c8)) := (Kept.refl (fun k => k = w2.heap.size) w8).setCell (p := ⟨w2.heap.size, 2, none⟩) (.inl rfl) _
            have hz8 := lt_of_block p1
            have hl7' : b7 = b ∨ b7 = none := by
              rcases h7.lie with e | e
              · rcases hlie with e' | e'
                · exact .inl (e.trans e')
                · exact .inr (e.trans e')
              · exact .inr e
            refine ⟨⟨i2 + 1, b7, A8, n8, c8, by omega, by go_num, ?_, hl7', p4.setCell (p := ⟨w2.heap.size, 2, none⟩) (.inr (Nat.le_of_lt hlt2)) _, (hks.block _ (by omega) (by omega)).trans p2, ?_, ?_, ?_, by rw [show (w8.setCell ⟨w2.heap.size, 2, none⟩ (.slice A8 n8 c8)).heap.size = w8.heap.size from by simp [World.setCell]]; exact p5⟩, by simp [intOf]; omega⟩
            · rw [HST.out]
              exact p3.kept hks (fun k hk h => by have := p6 k hk; omega)
            · simp [World.setCell, Array.getElem?_modify, p1]
            · exact p7.keep fun k hk => hks.block k ((p7.lt k hk).2) (by have := (p7.lt k hk).1; omega)
            · rw [HST.out]
              exact ho8.keep fun k hk => hks.block k ((ho8.lt k hk).2) (by have := (ho8.lt k hk).1; omega)
        · obtain rfl : i2 = m := by omega
          clear hap
          have hne : w.heap.size ≠ w2.heap.size := by omega
          have hzw := lt_of_block hrr
          have hk11 := Kept.of_setRow wr w.heap.size #[.int .i64 (kd : Int), .slice A n c, .slice D l d]
          have hr11 := set_row_at (B := #[.int .i64 (kd : Int), .slice A n c, .slice D l d]) hrr
          obtain ⟨A', n', c', e', hn', hnc', hx'⟩ := hown.form
          injection e' with e1 e2 e3
          subst e1 e2 e3
          have hft : ∀ k, Foot g b6 k → k < w.heap.size := by
            intro k hk
            rcases hk with rfl | hk
            · exact hg0
            · rcases hlie with e | e
              · exact hf k (by rw [← e]; exact hk)
              · rw [e] at hk; cases hk
          go_wp2_with (first
            | (refine wpList_load_row rfl 27 _ rfl w2.heap.size rfl _ _ _ _ hvr Tryd.underlying27 rfl (by kernel_rfl) ?_)
            | (refine wpList_store_row rfl 27 _ _ rfl w.heap.size #[.int .i64 (kd : Int), .slice A n c, .slice D l d] rfl rfl _ _ hrr (by kernel_rfl) rfl (by simp; exact ⟨rfl, rfl, rfl⟩) ?_; generalize wr.setRow w.heap.size #[.int .i64 (kd : Int), .slice A n c, .slice D l d] = w11 at *))
          refine bodyPost_ret (v := .agg #[.int .i64 (kd : Int), .slice A n c, .slice D l d]) (results_val rfl hr11 rfl) rfl ⟨A, n, c, D, l, d, rfl, hnC, hn', ?_, ?_, b6, ?_⟩
          · exact (hownC.keep fun k hk => hk11.block k ((hownC.lt k hk).2) (by have := (hownC.lt k hk).1; omega)).from2 (by omega)
          · exact (hown.keep fun k hk => hk11.block k ((hown.lt k hk).2) (by have := (hown.lt k hk).1; omega)).from_ (by omega)
          · exact ⟨hrd.kept hk11 (fun k hk h => by have := hft k hk; omega), hlie, hkw.step hk11 (fun k hk => .inr (by omega))⟩

/-- Whatever is read. -/
theorem vread_any (g : Nat) (b : Option Nat) (s : RSt) (w : World) (h : Rd w g b s.1 s.2) (hf : ∀ k, b = some k → k < w.heap.size) :
    Calls Tryd.prog 81 #[.pointer (some ⟨g, 0, none⟩)] w fun e w' => ∃ A n c D l d, e = .returned (.agg #[.int .i64 ((rdV s).k : Int), .slice A n c, .slice D l d]) ∧ Hid ((rdV s).cs.length = n) ∧ Hid ((rdV s).ns.length = l) ∧ OwnC w' w.heap.size (.slice A n c) (rdV s).cs ∧ OwnI w' w.heap.size (.slice D l d) (rdV s).ns ∧ ∃ b', RGo g b w (rdV s).s b' w' := by
  have h8 := rc_le (s := (rc 2 s).2) (most := 8) (by omega)
  have h7 := rc_le (s := (rdC (rc 8 (rc 2 s).2).1 (rc 8 (rc 2 s).2).2).2) (most := 7) (by omega)
  exact vread_gen g b s w h hf (rc 2 s).2 (rc 8 (rc 2 s).2).2 (rdC (rc 8 (rc 2 s).2).1 (rc 8 (rc 2 s).2).2).2 (rc 7 (rdC (rc 8 (rc 2 s).2).1 (rc 8 (rc 2 s).2).2).2).2 (rc 2 s).1 (rc 8 (rc 2 s).2).1 (rc 7 (rdC (rc 8 (rc 2 s).2).1 (rc 8 (rc 2 s).2).2).2).1 (rdC (rc 8 (rc 2 s).2).1 (rc 8 (rc 2 s).2).2).1 (by omega) (by omega) rfl rfl rfl rfl
end Go.Proofs.YtapbcpilklhoiabDoor

namespace Go.Proofs.YtapbcpilklhoiabDoor
open Go.RowKit

theorem fields_bal : (Tryd.prog.fieldsOf 23).toList.map (fun f => (f.type, f.offset, f.name == "_")) = [(3, 0, false), (3, 1, false)] := by kernel_rfl

theorem part_int (xs : Array Value) (o : Nat) (a : Int) (h : xs[o]? = some (.int .i64 a)) (w : World) : (part 3 xs o).run Tryd.prog w = .ok (.int .i64 a) w := by
  have hs : (sizeOf 3).run Tryd.prog w = .ok 1 w := by kernel_rfl
  have hag : (isAgg 3).run Tryd.prog w = .ok false w := by kernel_rfl
  obtain ⟨ho, he⟩ := Array.getElem?_eq_some_iff.1 h
  simp [part, hs, hag, h]

theorem eqFields_ints (d : Nat) (xs ys : Array Value) (w : World) : ∀ (fs : List Field) (la lb : List Int), fs.length = la.length → fs.length = lb.length →
    (∀ (i : Nat) (f : Field) (a b : Int), fs[i]? = some f → la[i]? = some a → lb[i]? = some b → f.type = 3 ∧ (f.name == "_") = false ∧ xs[f.offset]? = some (.int .i64 a) ∧ ys[f.offset]? = some (.int .i64 b)) →
    (Op.eqFields (d + 1) xs ys fs).run Tryd.prog w = .ok (decide (la = lb)) w
  | [], [], [], _, _, _ => by simp [Op.eqFields]
  | f :: fs, a :: la, b :: lb, h1, h2, h => by
    obtain ⟨ht, hn, hx, hy⟩ := h 0 f a b rfl rfl rfl
    have ih := eqFields_ints d xs ys w fs la lb (by simpa using h1) (by simpa using h2) (fun i f' a' b' e1 e2 e3 => h (i + 1) f' a' b' (by simpa using e1) (by simpa using e2) (by simpa using e3))
    have hn' : f.name ≠ "_" := by simpa using hn
    have he := run_equalIn_int (P := Tryd.prog) w d 3 .i64 .i64 a b Tryd.underlying3
    simp only [Op.eqFields, Sem.run_bind, Sem.run_ite, if_pos hn', ht, part_int xs _ a hx w, part_int ys _ b hy w, Result.andThen_ok, he]
    by_cases hab : a = b
    · subst hab
      simp [ih]
    · simp [hab]

theorem equal_bal (d : Nat) (a b c e : Int) (w : World) : (Op.equalIn (d + 2) 23 (.agg #[.int .i64 a, .int .i64 b]) (.agg #[.int .i64 c, .int .i64 e])).run Tryd.prog w = .ok (decide ([a, b] = [c, e])) w := by
  rw [show d + 2 = (d + 1) + 1 from rfl, run_equalIn_struct w (d + 1) 23 _ _ (by kernel_rfl) (by kernel_rfl)]
  have hf := fields_bal
  generalize (Tryd.prog.fieldsOf 23).toList = fs at hf
  refine eqFields_ints d _ _ w fs _ _ (by have := congrArg List.length hf; simpa using this) (by have := congrArg List.length hf; simpa using this) ?_
  match fs, (show fs.length = 2 by have := congrArg List.length hf; simpa using this), hf with
  | [f0, f1], _, hf =>
    simp only [List.map_cons, List.map_nil, List.cons.injEq, Prod.mk.injEq, and_true] at hf
    obtain ⟨⟨t0, o0, n0⟩, t1, o1, n1⟩ := hf
    intro i f x y e1 e2 e3
    match i with
    | 0 => simp at e1 e2 e3; subst e1 e2 e3; exact ⟨t0, n0, by simp [o0], by simp [o0]⟩
    | 1 => simp at e1 e2 e3; subst e1 e2 e3; exact ⟨t1, n1, by simp [o1], by simp [o1]⟩
    | i + 2 => simp at e1
end Go.Proofs.YtapbcpilklhoiabDoor

namespace Go.Proofs.YtapbcpilklhoiabDoor
open Ieee

/-- A magnitude with its sign. -/
def sg (s : Bool) (m : Nat) : Int := if s then -(m : Int) else m

theorem signed_sg (s : Bool) (m u : Nat) : signed s m u = sg s m * 2 ^ u := by
  unfold signed sg
  rw [Nat.shiftLeft_eq]
  cases s <;> simp [Int.neg_mul]

theorem sg_natAbs (s : Bool) (m : Nat) : (sg s m).natAbs = m := by unfold sg; cases s <;> simp
theorem sg_mul (s t : Bool) (m n : Nat) : sg (s ^^ t) (m * n) = sg s m * sg t n := by
  unfold sg; cases s <;> cases t <;> simp [Int.neg_mul, Int.mul_neg]
theorem sg_opp (s : Bool) (m : Nat) : sg (!s) m = - sg s m := by unfold sg; cases s <;> simp

theorem two_pow_pos' (k : Nat) : (0 : Int) < 2 ^ k := by
  have : (0 : Nat) < 2 ^ k := Nat.two_pow_pos k
  have h : ((2 ^ k : Nat) : Int) = (2 : Int) ^ k := by push_cast; rfl
  omega

theorem pow_split (a b c : Nat) (h : a = b + c) : (2 : Int) ^ a = 2 ^ b * 2 ^ c := by rw [h, Int.pow_add]

/-- The datum of this sign, magnitude and place is the whole number n. -/
def Rep (s : Bool) (m : Nat) (e : Int) (n : Int) : Prop := ∀ k : Nat, 0 ≤ e + k → sg s m * 2 ^ (e + k).toNat = n * 2 ^ k

theorem Rep.of {s : Bool} {m : Nat} {e n : Int} (k : Nat) (h0 : 0 ≤ e + k) (h : sg s m * 2 ^ (e + k).toNat = n * 2 ^ k) : Rep s m e n := by
  intro j hj
  rcases Nat.le_total k j with hl | hl
  · rw [pow_split (e + j).toNat (e + k).toNat (j - k) (by omega), pow_split j k (j - k) (by omega), ← Int.mul_assoc, h, Int.mul_assoc]
  · rw [pow_split (e + k).toNat (e + j).toNat (k - j) (by omega), pow_split k j (k - j) (by omega), ← Int.mul_assoc, ← Int.mul_assoc] at h
    exact Int.eq_of_mul_eq_mul_right (Int.ne_of_gt (two_pow_pos' (k - j))) h

theorem Rep.inj {s : Bool} {m : Nat} {e a b : Int} (h : Rep s m e a) (h' : Rep s m e b) : a = b := by
  have h1 := h (-e).toNat (by omega)
  have h2 := h' (-e).toNat (by omega)
  exact Int.eq_of_mul_eq_mul_right (Int.ne_of_gt (two_pow_pos' (-e).toNat)) (h1.symm.trans h2)

theorem Rep.opp {s : Bool} {m : Nat} {e n : Int} (h : Rep s m e n) : Rep (!s) m e (-n) := by
  intro k hk
  rw [sg_opp, Int.neg_mul, h k hk, Int.neg_mul]

theorem Rep.abs {s : Bool} {m : Nat} {e n : Int} (h : Rep s m e n) (k : Nat) (hk : 0 ≤ e + k) : m * 2 ^ (e + k).toNat = n.natAbs * 2 ^ k := by
  have := congrArg Int.natAbs (h k hk)
  rw [Int.natAbs_mul, Int.natAbs_mul, sg_natAbs, Int.natAbs_pow, Int.natAbs_pow] at this
  simpa using this

/-- The sign of it. -/
theorem Rep.sgn {s : Bool} {m : Nat} {e n : Int} (h : Rep s m e n) : n = sg s n.natAbs := by
  have h1 := h (-e).toNat (by omega)
  have hp := two_pow_pos' (-e).toNat
  have hq := two_pow_pos' (e + (-e).toNat).toNat
  unfold sg at *
  cases s
  · simp only [Bool.false_eq_true, if_false] at *
    have : 0 ≤ n := by
      rcases Int.lt_or_le n 0 with hn | hn
      · have a := Int.mul_neg_of_neg_of_pos hn hp
        have b := Int.mul_nonneg (Int.natCast_nonneg m) (Int.le_of_lt hq)
        omega
      · exact hn
    omega
  · simp only [if_true] at *
    have : n ≤ 0 := by
      rcases Int.lt_or_le 0 n with hn | hn
      · have a := Int.mul_pos hn hp
        have b := Int.mul_nonneg (Int.natCast_nonneg m) (Int.le_of_lt hq)
        rw [Int.neg_mul] at h1
        omega
      · exact hn
    omega

theorem log2_mul (a b : Nat) (h : a ≠ 0) : (a * 2 ^ b).log2 = a.log2 + b := by
  have hb : 0 < 2 ^ b := Nat.two_pow_pos b
  rw [Nat.log2_eq_iff (Nat.mul_ne_zero h (by omega))]
  have h1 := Nat.log2_self_le h
  have h2 := @Nat.lt_log2_self a
  refine ⟨?_, ?_⟩
  · rw [Nat.pow_add]; exact Nat.mul_le_mul_right _ h1
  · rw [show a.log2 + b + 1 = (a.log2 + 1) + b from by omega, Nat.pow_add]
    exact Nat.mul_lt_mul_of_pos_right h2 hb

theorem cut_even_exact (neg : Bool) (x d : Nat) (hx : x ≠ 0) : Toward.even.cut neg (x * 2 ^ d) d = x := by
  unfold Toward.cut
  have hl : (x * 2 ^ d).log2 = x.log2 + d := log2_mul x d hx
  have hp : 0 < 2 ^ d := Nat.two_pow_pos d
  have hm : min d ((x * 2 ^ d).log2 + 2) = d := by omega
  simp only [hm, Nat.one_shiftLeft, Nat.mul_mod_left, Nat.mul_div_cancel _ hp]
  have hne : ¬ (2 ^ d < 2 * 0) := by omega
  have hne2 : (2 ^ d == 2 * 0) = false := by simp
  simp [hne]

theorem cut_zero_exact (neg : Bool) (x d : Nat) : Toward.zero.cut neg (x * 2 ^ d) d = x := by
  unfold Toward.cut
  have hp : 0 < 2 ^ d := Nat.two_pow_pos d
  by_cases hx : x = 0
  · subst hx; simp
  · have hl : (x * 2 ^ d).log2 = x.log2 + d := log2_mul x d hx
    have hm : min d ((x * 2 ^ d).log2 + 2) = d := by omega
    simp only [hm, Nat.one_shiftLeft, Nat.mul_div_cancel _ hp]
    simp

theorem read_word (s : Bool) (q K : Nat) (hq : q ≤ 1074) (h1 : 4503599627370496 ≤ K) (h2 : K < 9007199254740992) :
    double.read (double.word s (q * 4503599627370496 + K)) = .number s K (-1074 + q) := by
  have e1 : double.signWeight = 9223372036854775808 := by decide
  have e2 : double.binade = 4503599627370496 := by decide
  have e3 : double.infRung = 9218868437227405312 := by decide
  have e4 : double.leastPlace = -1074 := by decide
  unfold Format.read Format.word
  simp only [e1, e2, e3, e4]
  have r1 : (q * 4503599627370496 + K) % 9223372036854775808 = q * 4503599627370496 + K := by omega
  have r2 : (9223372036854775808 + (q * 4503599627370496 + K)) % 9223372036854775808 = q * 4503599627370496 + K := by omega
  have r3 : (q * 4503599627370496 + K) / 9223372036854775808 % 2 = 0 := by omega
  have r4 : (9223372036854775808 + (q * 4503599627370496 + K)) / 9223372036854775808 % 2 = 1 := by omega
  have r5 : ¬ (q * 4503599627370496 + K < 4503599627370496) := by omega
  have r6 : q * 4503599627370496 + K < 9218868437227405312 := by omega
  have r7 : 4503599627370496 + (q * 4503599627370496 + K) % 4503599627370496 = K := by omega
  have r8 : (q * 4503599627370496 + K) / 4503599627370496 - 1 = q := by omega
  cases s
  · simp only [Bool.false_eq_true, if_false, r1, r3, r5, r6, r7, r8, if_true]; simp
  · simp only [if_true, r2, r4, r5, r6, r7, r8, if_false]; simp

/-- A whole number below 2^53 is written as it is. -/
theorem write_exact {s : Bool} {m : Nat} {e n : Int} (h : Rep s m e n) (hn : n.natAbs < 9007199254740992) :
    ∃ K e', double.read (double.nearest s m e) = .number s K e' ∧ Rep s K e' n := by
  by_cases hm : m = 0
  · subst hm
    have h0 : n = 0 := by
      have := h.abs (-e).toNat (by omega)
      have hp : 0 < 2 ^ (-e).toNat := Nat.two_pow_pos _
      rw [Nat.zero_mul] at this
      rcases Nat.mul_eq_zero.1 this.symm with h1 | h1
      · omega
      · omega
    subst h0
    refine ⟨0, -1074, ?_, fun k _ => by simp [sg]⟩
    unfold Format.nearest
    rw [if_pos rfl]
    cases s <;> decide
  · have hN : n.natAbs ≠ 0 := by
      intro h0
      have := h.abs (-e).toNat (by omega)
      rw [h0] at this
      have hp : 0 < 2 ^ (e + (-e).toNat).toNat := Nat.two_pow_pos _
      rw [Nat.zero_mul] at this
      rcases Nat.mul_eq_zero.1 this with h1 | h1
      · exact hm h1
      · omega
    have hsg := h.sgn
    generalize hNN : n.natAbs = N at *
    have hL : (e + m.log2 : Int) = N.log2 := by
      have h1 := h.abs (-e).toNat (by omega)
      rw [hNN] at h1
      have h2 := congrArg Nat.log2 h1
      rw [log2_mul _ _ hm, log2_mul _ _ hN] at h2
      omega
    have hL52 : N.log2 ≤ 52 := by
      have : N.log2 < 53 := (Nat.log2_lt hN).2 (by simpa using hn)
      omega
    have hK1 : 4503599627370496 ≤ N * 2 ^ (52 - N.log2) := by
      have h1 := Nat.log2_self_le hN
      have h2 : 2 ^ N.log2 * 2 ^ (52 - N.log2) ≤ N * 2 ^ (52 - N.log2) := Nat.mul_le_mul_right _ h1
      rw [← Nat.pow_add, show N.log2 + (52 - N.log2) = 52 from by omega] at h2
      simpa using h2
    have hK2 : N * 2 ^ (52 - N.log2) < 9007199254740992 := by
      have h1 := @Nat.lt_log2_self N
      have h2 : N * 2 ^ (52 - N.log2) < 2 ^ (N.log2 + 1) * 2 ^ (52 - N.log2) := Nat.mul_lt_mul_of_pos_right h1 (Nat.two_pow_pos _)
      rw [← Nat.pow_add, show N.log2 + 1 + (52 - N.log2) = 53 from by omega] at h2
      simpa using h2
    have hcut : Toward.even.cut s (m <<< (e - (N.log2 - 52 : Int)).toNat) ((N.log2 - 52 : Int) - e).toNat = N * 2 ^ (52 - N.log2) := by
      rcases Int.le_total (N.log2 - 52) e with hc | hc
      · rw [show ((N.log2 - 52 : Int) - e).toNat = 0 from by omega, Nat.shiftLeft_eq]
        have h1 := h.abs (52 - N.log2) (by omega)
        rw [hNN, show (e + (52 - N.log2 : Nat)).toNat = (e - (N.log2 - 52 : Int)).toNat from by omega] at h1
        rw [h1]
        have := cut_even_exact s (N * 2 ^ (52 - N.log2)) 0 (by omega)
        simpa using this
      · rw [show (e - (N.log2 - 52 : Int)).toNat = 0 from by omega]
        have h1 := h.abs (-e).toNat (by omega)
        rw [hNN, show (e + (-e).toNat).toNat = 0 from by omega, show (-e).toNat = (52 - N.log2) + ((N.log2 - 52 : Int) - e).toNat from by omega, Nat.pow_add, ← Nat.mul_assoc] at h1
        have h2 : m = N * 2 ^ (52 - N.log2) * 2 ^ ((N.log2 - 52 : Int) - e).toNat := by simpa using h1
        rw [Nat.shiftLeft_eq, Nat.pow_zero, Nat.mul_one]
        rw [congrArg (fun x => Toward.even.cut s x ((N.log2 - 52 : Int) - e).toNat) h2]
        exact cut_even_exact s (N * 2 ^ (52 - N.log2)) _ (by omega)
    refine ⟨N * 2 ^ (52 - N.log2), N.log2 - 52, ?_, ?_⟩
    · have hlast : max (e + m.log2 - (double.fractionBits : Int)) double.leastPlace = (N.log2 - 52 : Int) := by
        rw [show double.leastPlace = -1074 from by decide, show (double.fractionBits : Int) = 52 from by decide]
        omega
      unfold Format.nearest
      rw [if_neg hm]
      simp only [hlast, hcut]
      rw [show ((N.log2 - 52 : Int) - double.leastPlace).toNat = N.log2 + 1022 from by rw [show double.leastPlace = -1074 from by decide]; omega,
        show double.binade = 4503599627370496 from by decide, show double.infRung = 9218868437227405312 from by decide, Nat.min_eq_left (by omega), read_word s _ _ (by omega) hK1 hK2]
      rw [show (-1074 + ((N.log2 + 1022 : Nat) : Int)) = (N.log2 - 52 : Int) from by omega]
    · refine Rep.of (52 - N.log2) (by omega) ?_
      rw [show ((N.log2 - 52 : Int) + (52 - N.log2 : Nat)).toNat = 0 from by omega]
      conv => rhs; rw [hsg]
      unfold sg
      cases s <;> simp [Int.neg_mul]

/-- The bits stand for the whole number n. -/
def FV (x : Nat) (n : Int) : Prop := ∃ s m e, double.read x = .number s m e ∧ Rep s m e n

theorem FV.inj {x : Nat} {a b : Int} (h : FV x a) (h' : FV x b) : a = b := by
  obtain ⟨s, m, e, hr, hp⟩ := h
  obtain ⟨s', m', e', hr', hp'⟩ := h'
  rw [hr] at hr'
  injection hr' with h1 h2 h3
  subst h1 h2 h3
  exact hp.inj hp'

theorem rep_int (n : Int) : Rep (decide (n < 0)) n.natAbs 0 n := by
  intro k _
  rw [show ((0 : Int) + k).toNat = k from by omega]
  congr 1
  unfold sg
  by_cases h : n < 0 <;> simp [h] <;> omega

theorem fv_int (n : Int) (hn : n.natAbs < 9007199254740992) : FV (floatOfInt .f64 n) n := by
  obtain ⟨K, e', hr, hp⟩ := write_exact (rep_int n) hn
  exact ⟨_, K, e', hr, hp⟩

theorem fv_zero : FV 0 0 := ⟨false, 0, -1074, by decide, fun k _ => by simp [sg]⟩

theorem rep_sum {s t : Bool} {m n : Nat} {i j a b : Int} (h : Rep s m i a) (h' : Rep t n j b) :
    ∃ u M e, Datum.sum (.number s m i) (.number t n j) = some (.number u M e) ∧ Rep u M e (a + b) := by
  refine ⟨_, _, _, rfl, ?_⟩
  have key : ∀ total : Int, ∀ z : Bool, sg (if total = 0 then z else decide (total < 0)) total.natAbs = total := by
    intro total z
    unfold sg
    by_cases h0 : total = 0
    · subst h0; cases z <;> simp
    · by_cases h1 : total < 0 <;> simp [h0, h1] <;> omega
  refine Rep.of ((-i).toNat + (-j).toNat) (by omega) ?_
  simp only [key, signed_sg]
  have h1 := h ((-i).toNat + (-j).toNat) (by omega)
  have h2 := h' ((-i).toNat + (-j).toNat) (by omega)
  rw [Int.add_mul, Int.add_mul, ← h1, ← h2, Int.mul_assoc, Int.mul_assoc]
  rw [← pow_split (i + ((-i).toNat + (-j).toNat : Nat)).toNat (i - min i j).toNat (min i j + ((-i).toNat + (-j).toNat : Nat)).toNat (by omega)]
  rw [← pow_split (j + ((-i).toNat + (-j).toNat : Nat)).toNat (j - min i j).toNat (min i j + ((-i).toNat + (-j).toNat : Nat)).toNat (by omega)]

theorem rep_product {s t : Bool} {m n : Nat} {i j a b : Int} (h : Rep s m i a) (h' : Rep t n j b) : Rep (s ^^ t) (m * n) (i + j) (a * b) := by
  refine Rep.of ((-i).toNat + (-j).toNat) (by omega) ?_
  have h1 := h (-i).toNat (by omega)
  have h2 := h' (-j).toNat (by omega)
  rw [sg_mul, pow_split (i + j + ((-i).toNat + (-j).toNat : Nat)).toNat (i + (-i).toNat).toNat (j + (-j).toNat).toNat (by omega), Int.pow_add]
  calc sg s m * sg t n * (2 ^ (i + (-i).toNat).toNat * 2 ^ (j + (-j).toNat).toNat) = (sg s m * 2 ^ (i + (-i).toNat).toNat) * (sg t n * 2 ^ (j + (-j).toNat).toNat) := by ac_rfl
    _ = a * 2 ^ (-i).toNat * (b * 2 ^ (-j).toNat) := by rw [h1, h2]
    _ = a * b * (2 ^ (-i).toNat * 2 ^ (-j).toNat) := by ac_rfl

theorem fv_add {x y : Nat} {a b : Int} (h : FV x a) (h' : FV y b) (hn : (a + b).natAbs < 9007199254740992) : ∃ r, floatBits .add .f64 x y = some r ∧ FV r (a + b) := by
  obtain ⟨s, m, e, hr, hp⟩ := h
  obtain ⟨t, n, j, hr', hp'⟩ := h'
  obtain ⟨u, M, E, hs, hR⟩ := rep_sum hp hp'
  obtain ⟨K, e', hw, hW⟩ := write_exact hR hn
  refine ⟨double.nearest u M E, ?_, u, K, e', hw, hW⟩
  show double.add x y = _
  unfold Format.add
  rw [hr, hr', hs]
  rfl

theorem fv_sub {x y : Nat} {a b : Int} (h : FV x a) (h' : FV y b) (hn : (a - b).natAbs < 9007199254740992) : ∃ r, floatBits .sub .f64 x y = some r ∧ FV r (a - b) := by
  obtain ⟨s, m, e, hr, hp⟩ := h
  obtain ⟨t, n, j, hr', hp'⟩ := h'
  obtain ⟨u, M, E, hs, hR⟩ := rep_sum hp hp'.opp
  rw [← Int.sub_eq_add_neg] at hR
  obtain ⟨K, e', hw, hW⟩ := write_exact hR hn
  refine ⟨double.nearest u M E, ?_, u, K, e', hw, hW⟩
  show double.sub x y = _
  unfold Format.sub
  rw [hr, hr']
  show (Datum.sum (.number s m e) (.number (!t) n j)).map _ = _
  rw [hs]
  rfl

theorem fv_mul {x y : Nat} {a b : Int} (h : FV x a) (h' : FV y b) (hn : (a * b).natAbs < 9007199254740992) : ∃ r, floatBits .mul .f64 x y = some r ∧ FV r (a * b) := by
  obtain ⟨s, m, e, hr, hp⟩ := h
  obtain ⟨t, n, j, hr', hp'⟩ := h'
  have hR := rep_product hp hp'
  obtain ⟨K, e', hw, hW⟩ := write_exact hR hn
  refine ⟨double.nearest (s ^^ t) (m * n) (e + j), ?_, _, K, e', hw, hW⟩
  show double.mul x y = _
  unfold Format.mul
  rw [hr, hr']
  rfl

theorem compare_scale (X Y p : Int) (hp : 0 < p) : compare (X * p) (Y * p) = compare X Y := by
  rcases Int.lt_trichotomy X Y with h | h | h
  · rw [Int.compare_eq_lt.2 h, Int.compare_eq_lt.2 (Int.mul_lt_mul_of_pos_right h hp)]
  · subst h; simp
  · rw [Int.compare_eq_gt.2 h, Int.compare_eq_gt.2 (Int.mul_lt_mul_of_pos_right h hp)]

/-- Two finite numbers stand as their values do. -/
theorem order_number (s t : Bool) (m n : Nat) (i j : Int) (k : Nat) (hi : 0 ≤ i + k) (hj : 0 ≤ j + k) :
    Datum.order (.number s m i) (.number t n j) = some (compare (sg s m * 2 ^ (i + k).toNat) (sg t n * 2 ^ (j + k).toNat)) := by
  show some (compare (signed s m (i - min i j).toNat) (signed t n (j - min i j).toNat)) = _
  rw [signed_sg, signed_sg, ← compare_scale _ _ _ (two_pow_pos' (min i j + k).toNat), Int.mul_assoc, Int.mul_assoc]
  rw [← pow_split (i + k).toNat (i - min i j).toNat (min i j + k).toNat (by omega)]
  rw [← pow_split (j + k).toNat (j - min i j).toNat (min i j + k).toNat (by omega)]

theorem fv_order {x y : Nat} {a b : Int} (h : FV x a) (h' : FV y b) : FloatKind.f64.format.order x y = some (compare a b) := by
  obtain ⟨s, m, e, hr, hp⟩ := h
  obtain ⟨t, n, j, hr', hp'⟩ := h'
  show Datum.order (double.read x) (double.read y) = _
  rw [hr, hr', order_number s t m n e j ((-e).toNat + (-j).toNat) (by omega) (by omega), hp _ (by omega), hp' _ (by omega), compare_scale _ _ _ (two_pow_pos' _)]

/-- What is the same as a whole number is that number. -/
theorem fv_of_order {x y : Nat} {a : Int} (h : FV x a) (h' : FloatKind.f64.format.order x y = some .eq) : FV y a := by
  obtain ⟨s, m, e, hr, hp⟩ := h
  change Datum.order (double.read x) (double.read y) = _ at h'
  rw [hr] at h'
  cases hy : double.read y with
  | number t n j =>
    refine ⟨t, n, j, hy, ?_⟩
    rw [hy, order_number s t m n e j ((-e).toNat + (-j).toNat) (by omega) (by omega), hp _ (by omega)] at h'
    have h2 : a * 2 ^ ((-e).toNat + (-j).toNat) = _ := Int.compare_eq_eq.1 (Option.some.inj h')
    exact Rep.of ((-e).toNat + (-j).toNat) (by omega) h2.symm
  | infinity t => rw [hy] at h'; cases t <;> simp [Datum.order] at h'
  | nan t f => rw [hy] at h'; simp [Datum.order] at h'

theorem rep_toInt {s : Bool} {m : Nat} {e n : Int} (h : Rep s m e n) : (Datum.number s m e).toInt .zero = some n := by
  have hsg := h.sgn
  show some (signed s (Toward.zero.cut s (m <<< e.toNat) (-e).toNat) 0) = _
  congr 1
  rw [signed_sg, Int.pow_zero, Int.mul_one]
  rcases Int.le_total 0 e with he | he
  · have h1 := h.abs 0 (by omega)
    rw [show (-e).toNat = 0 from by omega, Nat.shiftLeft_eq]
    rw [show (e + (0 : Nat)).toNat = e.toNat from by omega] at h1
    rw [h1]
    rw [cut_zero_exact s n.natAbs 0]
    exact hsg.symm
  · have h1 := h.abs (-e).toNat (by omega)
    rw [show (e + (-e).toNat).toNat = 0 from by omega, Nat.pow_zero, Nat.mul_one] at h1
    rw [show e.toNat = 0 from by omega, Nat.shiftLeft_eq, Nat.pow_zero, Nat.mul_one, h1, cut_zero_exact]
    exact hsg.symm

theorem fv_toInt {x : Nat} {n : Int} (h : FV x n) (hn : n.natAbs < 9007199254740992) : floatToIntVal .f64 x .i64 = some n := by
  obtain ⟨s, m, e, hr, hp⟩ := h
  unfold floatToIntVal
  rw [show FloatKind.f64.decode x = .number s m e from hr, rep_toInt hp]
  simp only
  rw [if_pos]
  have e1 : IntKind.i64.min = -9223372036854775808 := by decide
  have e2 : IntKind.i64.max = 9223372036854775807 := by decide
  omega

/-- A number between two whole ones has an integer in that range. -/
theorem toInt_between {x y z : Nat} {a b : Int} (ha : FV y a) (hb : FV z b) (h0 : a ≤ 0) (h1 : 0 ≤ b) (ha' : -9223372036854775808 ≤ a) (hb' : b ≤ 9223372036854775807)
    (hl : FloatKind.f64.format.order y x = some .lt ∨ FloatKind.f64.format.order y x = some .eq) (hr : FloatKind.f64.format.order x z = some .lt ∨ FloatKind.f64.format.order x z = some .eq) :
    ∃ n, floatToIntVal .f64 x .i64 = some n ∧ a ≤ n ∧ n ≤ b := by
  obtain ⟨s, m, e, hy, hp⟩ := ha
  obtain ⟨t, n, j, hz, hq⟩ := hb
  change Datum.order (double.read y) (double.read x) = _ ∨ Datum.order (double.read y) (double.read x) = _ at hl
  change Datum.order (double.read x) (double.read z) = _ ∨ Datum.order (double.read x) (double.read z) = _ at hr
  rw [hy] at hl
  rw [hz] at hr
  cases hx : double.read x with
  | number u M i =>
    rw [hx, order_number s u m M e i ((-e).toNat + (-j).toNat + (-i).toNat) (by omega) (by omega), hp _ (by omega)] at hl
    rw [hx, order_number u t M n i j ((-e).toNat + (-j).toNat + (-i).toNat) (by omega) (by omega), hq _ (by omega)] at hr
    generalize hk : (-e).toNat + (-j).toNat + (-i).toNat = k at hl hr
    have hpk := two_pow_pos' k
    have hl' : a * 2 ^ k ≤ sg u M * 2 ^ (i + k).toNat := by
      rcases hl with h | h
      · exact Int.le_of_lt (Int.compare_eq_lt.1 (Option.some.inj h))
      · exact Int.le_of_eq (Int.compare_eq_eq.1 (Option.some.inj h))
    have hr' : sg u M * 2 ^ (i + k).toNat ≤ b * 2 ^ k := by
      rcases hr with h | h
      · exact Int.le_of_lt (Int.compare_eq_lt.1 (Option.some.inj h))
      · exact Int.le_of_eq (Int.compare_eq_eq.1 (Option.some.inj h))
    clear hl hr
    have hcut : ∃ c, Toward.zero.cut u (M <<< i.toNat) (-i).toNat = c ∧ c * 2 ^ k ≤ M * 2 ^ (i + k).toNat := by
      refine ⟨_, rfl, ?_⟩
      unfold Toward.cut
      simp only [Nat.shiftLeft_eq, Nat.one_mul, Bool.toNat_false, Nat.add_zero]
      rcases Int.le_total 0 i with hi | hi
      · rw [show (-i).toNat = 0 from by omega, Nat.zero_min, Nat.pow_zero, Nat.div_one, Nat.mul_assoc, ← Nat.pow_add, show i.toNat + k = (i + k).toNat from by omega]
        exact Nat.le_refl _
      · rw [show i.toNat = 0 from by omega, Nat.pow_zero, Nat.mul_one]
        rcases Nat.le_total (-i).toNat (M.log2 + 2) with hg | hg
        · rw [Nat.min_eq_left hg, show k = (-i).toNat + (i + k).toNat from by omega, Nat.pow_add, ← Nat.mul_assoc]
          rw [show (i + ((-i).toNat + (i + k).toNat : Nat)).toNat = (i + k).toNat from by omega]
          exact Nat.mul_le_mul_right _ (Nat.div_mul_le_self _ _)
        · rw [Nat.min_eq_right hg, Nat.div_eq_of_lt, Nat.zero_mul]
          · exact Nat.zero_le _
          · have := @Nat.lt_log2_self M
            have h2 : 2 ^ (M.log2 + 2) = 2 ^ (M.log2 + 1) * 2 := Nat.pow_succ _ _
            omega
    obtain ⟨c, hc, hc2⟩ := hcut
    have hti : (Datum.number u M i).toInt .zero = some (sg u c) := by
      show some (signed u (Toward.zero.cut u (M <<< i.toNat) (-i).toNat) 0) = _
      rw [hc, signed_sg, Int.pow_zero, Int.mul_one]
    have hc3 : (c : Int) * 2 ^ k ≤ (M : Int) * 2 ^ (i + k).toNat := by
      have := Int.ofNat_le.2 hc2
      push_cast at this
      exact this
    have hab : a ≤ sg u c ∧ sg u c ≤ b := by
      unfold sg at *
      cases u
      · simp only [Bool.false_eq_true, if_false] at *
        refine ⟨by omega, Int.le_of_mul_le_mul_right (Int.le_trans hc3 hr') hpk⟩
      · simp only [if_true] at *
        refine ⟨Int.le_of_mul_le_mul_right (a := 2 ^ k) ?_ hpk, by omega⟩
        rw [Int.neg_mul] at *
        omega
    refine ⟨sg u c, ?_, hab⟩
    unfold floatToIntVal
    rw [show FloatKind.f64.decode x = .number u M i from hx, hti]
    simp only
    rw [if_pos]
    have e1 : IntKind.i64.min = -9223372036854775808 := by decide
    have e2 : IntKind.i64.max = 9223372036854775807 := by decide
    omega
  | infinity u =>
    rw [hx] at hl hr
    cases u <;> simp [Datum.order] at hl hr
  | nan u f =>
    rw [hx] at hl
    simp [Datum.order] at hl

/-- The other sign. -/
theorem read_neg (x : Nat) (hx : x < 18446744073709551616) : double.read (Op.negFloat .f64 x) = (double.read x).opposite := by
  have e1 : double.signWeight = 9223372036854775808 := by decide
  have hn : Op.negFloat .f64 x = if x < 9223372036854775808 then x + 9223372036854775808 else x - 9223372036854775808 := by
    unfold Op.negFloat
    rw [show 2 ^ (FloatKind.f64.format.exponentBits + FloatKind.f64.format.fractionBits) = 2 ^ 63 from by decide]
    by_cases h : x < 9223372036854775808
    · rw [if_pos h]
      have := Nat.two_pow_add_eq_or_of_lt (i := 63) (b := x) (by simpa using h) 1
      have h2 : x ^^^ 2 ^ 63 = 2 ^ 63 * 1 + x := by
        rw [this]
        apply Nat.eq_of_testBit_eq
        intro i
        simp only [Nat.testBit_xor, Nat.testBit_or, Nat.testBit_two_pow, Nat.mul_one]
        by_cases hi : 63 = i
        · subst hi
          have : x.testBit 63 = false := Nat.testBit_lt_two_pow (by simpa using h)
          simp [this]
        · simp [hi]
      omega
    · rw [if_neg h]
      have hy : x - 9223372036854775808 < 2 ^ 63 := by omega
      have := Nat.two_pow_add_eq_or_of_lt (i := 63) (b := x - 9223372036854775808) hy 1
      have hx2 : x = 2 ^ 63 * 1 ||| (x - 9223372036854775808) := by rw [← this]; omega
      generalize x - 9223372036854775808 = y at *
      subst hx2
      apply Nat.eq_of_testBit_eq
      intro i
      simp only [Nat.testBit_xor, Nat.testBit_or, Nat.testBit_two_pow, Nat.mul_one]
      by_cases hi : 63 = i
      · subst hi
        have : y.testBit 63 = false := Nat.testBit_lt_two_pow hy
        simp [this]
      · simp [hi]
  rw [hn]
  unfold Format.read
  simp only [e1]
  by_cases h : x < 9223372036854775808
  · rw [if_pos h]
    have r1 : (x + 9223372036854775808) % 9223372036854775808 = x % 9223372036854775808 := by omega
    have r2 : ((x + 9223372036854775808) / 9223372036854775808 % 2 == 1) = !(x / 9223372036854775808 % 2 == 1) := by
      rw [show (x + 9223372036854775808) / 9223372036854775808 % 2 = 1 from by omega, show x / 9223372036854775808 % 2 = 0 from by omega]; rfl
    rw [r1, r2]
    split
    · rfl
    · split
      · rfl
      · split <;> rfl
  · rw [if_neg h]
    have r1 : (x - 9223372036854775808) % 9223372036854775808 = x % 9223372036854775808 := by omega
    have r2 : ((x - 9223372036854775808) / 9223372036854775808 % 2 == 1) = !(x / 9223372036854775808 % 2 == 1) := by
      rw [show (x - 9223372036854775808) / 9223372036854775808 % 2 = 0 from by omega, show x / 9223372036854775808 % 2 = 1 from by omega]; rfl
    rw [r1, r2]
    split
    · rfl
    · split
      · rfl
      · split <;> rfl

theorem fv_neg {x : Nat} {n : Int} (hx : x < 18446744073709551616) (h : FV x n) : FV (Op.negFloat .f64 x) (-n) := by
  obtain ⟨s, m, e, hr, hp⟩ := h
  exact ⟨!s, m, e, by rw [read_neg x hx, hr]; rfl, hp.opp⟩

theorem fv_neg_back {x : Nat} {n : Int} (hx : x < 18446744073709551616) (h : FV (Op.negFloat .f64 x) n) : FV x (-n) := by
  obtain ⟨s, m, e, hr, hp⟩ := h
  rw [read_neg x hx] at hr
  cases hd : double.read x with
  | number t k i =>
    rw [hd] at hr
    injection hr with h1 h2 h3
    subst h1 h2 h3
    refine ⟨t, k, i, hd, ?_⟩
    have := hp.opp
    rwa [Bool.not_not] at this
  | infinity t => rw [hd] at hr; cases hr
  | nan t f => rw [hd] at hr; cases hr
end Go.Proofs.YtapbcpilklhoiabDoor
