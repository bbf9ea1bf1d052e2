/-
  Read of package value where there are no commands. Condition: the count of commands is read as 0.
  The small calls of package ballot and of its reference. No condition but the reach of what is read.
  Check, Quorum, Enough, Leader of package ballot, and their references. No condition but the reach of what is read.
  Values and their bytes as plain mathematics: what is written is read again, and what is read is what would be written. No condition but that the numbers are in range.
-/
import Derived.Test.YtapbcpilklhoiabDoorMY2
import Derived.Deep.RegionHeld3
import Derived.Deep.DrawnRows
import Derived.Deep.RegionLaw
import Derived.Test.YtapbcpilklhoiabDoorMY0
set_option linter.unusedSimpArgs false
set_option linter.unusedVariables false

namespace Go.Proofs.YtapbcpilklhoiabDoor
open Go.RowKit

/-- So many members are read. -/
def rdN : Nat → RSt → List Int × RSt
  | 0, s => ([], s)
  | m + 1, s => (((rdN m s).1 ++ [((rc 9 (rdN m s).2).1 : Int)]), (rc 9 (rdN m s).2).2)
theorem rdN_len (m : Nat) (s : RSt) : (rdN m s).1.length = m := by
  induction m with
  | zero => rfl
  | succ m ih => simp [rdN, ih]

theorem isInt_lit {n : Int} (h : -9223372036854775808 ≤ n ∧ n ≤ 9223372036854775807) : IsInt n := h

theorem step_append_ints {ops : Array Oper} {o : Oper} {a : Act} {K : Act → World → Prop} {Q : Exit → Act → World → Prop} {E : Prop} (w : World) (hgd : o.guard = none) (s x : Operand)
    (ho : o.op = .call { callee := .builtin .append, args := #[s, x], argTypes := #[25, 25] }) (base : Nat) (v : Value) (xs : List Int) (hs : a.eval s = v) (hown : OwnI w base v xs)
    (B : Nat) (A : Option Addr) (m c : Nat) (news : List Int) (hx : a.eval x = .slice A m c) (hr : HasI w B A news) (hm : news.length = m)
    (hlen : xs.length + m ≤ 17592186044416) (hbase : base ≤ w.heap.size)
    (h : ∀ v' w', OwnI w' base v' (xs ++ news) → w.grownBy w' v.ownBlock → (v'.ownBlock = v.ownBlock ∨ v'.ownBlock = some w.heap.size) → K (a.put o.dst v') w') :
    if Region.wanted o (yielded ops a.tmps) = true then Oper.wp Tryd.prog o a w K Q else E := by
  rw [if_pos (by simp [Region.wanted, hgd])]
  obtain ⟨v', w', hrun, h2, h3, h4⟩ := run_append_ints w o.type base v xs hown B A m c news hr hm hlen hbase
  exact Lib.wp_append_run w s x 25 25 ho _ _ hs hx v' w' hrun (h v' w' h2 h3 h4)

theorem results_val {tmps : Array Value} {w : World} {g : Nat} {A : Array Value} {t : TypeId} (h2 : tmps.getD 2 undef = .pointer (some ⟨g, 0, none⟩)) (hA : w.heap[g]? = some (.cells A t (0, 0))) (sA : A.size = 3) :
    (results Tryd.f81 tmps).run Tryd.prog w = .ok (.agg A) w := by
  have h2' : tmps[2]?.getD undef = .pointer (some ⟨g, 0, none⟩) := by simpa using h2
  have i1 : (Tryd.prog.info? 27).map (·.size) = some A.size := by rw [sA]; kernel_rfl
  have e1 := run_loadVar_row (P := Tryd.prog) w g t 27 A (0, 0) _ hA Tryd.underlying27 rfl i1
  simp [results, Tryd.results81, h2', asAddr, e1]

set_option maxRecDepth 20000 in
set_option maxHeartbeats 1600000 in
theorem vread0 (g : Nat) (b : Option Nat) (s : RSt) (w : World) (h : Rd w g b s.1 s.2) (hf : ∀ k, b = some k → k < w.heap.size) (s1 s2 s3 : RSt) (kd m : Nat) (hm : m ≤ 1000) (h1 : rc 2 s = (kd, s1)) (h2 : rc 8 s1 = (0, s2)) (h3 : rc 7 s2 = (m, s3)) :
    Calls Tryd.prog 81 #[.pointer (some ⟨g, 0, none⟩)] w fun e w' => ∃ A n c, e = .returned (.agg #[.int .i64 (kd : Int), .slice none 0 0, .slice A n c]) ∧ Hid ((rdN m s3).1.length = n) ∧ OwnI w' w.heap.size (.slice A n c) (rdN m s3).1 ∧ ∃ b', RGo g b w (rdN m s3).2 b' w' := by
  have h0 := RGo.start h
  have hg0 := h0.lt
  have HM := hide hm
  have H1 := hide h1
  have H2 := hide h2
  have H3 := hide h3
  clear h1 h2 h3
  go_enter Tryd.func81, Tryd.ntmps81
  go_wp2_with fail
  have hr1 := heap_alloc_new w (.cells #[.int .i64 0, .slice none 0 0, .slice none 0 0] 27)
  have hb1 : Below w.heap.size w (w.alloc (.cells #[.int .i64 0, .slice none 0 0, .slice none 0 0] 27)) := (Below.refl _ _).alloc (Nat.le_refl _) _
  have h01 := RGo.start (h0.alloc (.cells #[.int .i64 0, .slice none 0 0, .slice none 0 0] 27)).rd
  have hs1 : (w.alloc (.cells #[.int .i64 0, .slice none 0 0, .slice none 0 0] 27)).heap.size = w.heap.size + 1 := by simp
  generalize w.alloc (.cells #[.int .i64 0, .slice none 0 0, .slice none 0 0] 27) = W1 at *
  refine (RGo.count h01 2 (isInt_lit (by omega))).mono ?_
  rintro e w2 ⟨rfl, b2, h2⟩
  rw [H1.out] at h2 ⊢
  simp only at h2 ⊢
  have hr2 : w2.heap[w.heap.size]? = _ := (h2.kept.block w.heap.size (by omega) (by omega)).trans hr1
  have hlt2 := lt_of_block hr2
  have hg2 := h2.lt
  have hl2 := h2.lie
  have hk2 : Kept (fun k => k = g) w w2 := (Kept.of_below hb1).step h2.kept (fun k hk => .inl hk)
  have hr3 := (Below.heap_alloc w2 (.cells #[.int .i64 (kd : Int), .slice none 0 0, .slice none 0 0] 27) w.heap.size hlt2).trans hr2
  have hv3 := heap_alloc_new w2 (.cells #[.int .i64 (kd : Int), .slice none 0 0, .slice none 0 0] 27)
  have hk3 := hk2.step (Kept.of_below (F := fun _ => False) ((Below.refl _ _).alloc (Nat.le_refl _) (.cells #[.int .i64 (kd : Int), .slice none 0 0, .slice none 0 0] 27))) (fun _ h => h.elim)
  have h03 := RGo.start (h2.alloc (.cells #[.int .i64 (kd : Int), .slice none 0 0, .slice none 0 0] 27)).rd
  have hs3 : (w2.alloc (.cells #[.int .i64 (kd : Int), .slice none 0 0, .slice none 0 0] 27)).heap.size = w2.heap.size + 1 := by simp
  go_wp2_with fail
  generalize w2.alloc (.cells #[.int .i64 (kd : Int), .slice none 0 0, .slice none 0 0] 27) = W3 at *
  clear h01 h2 hr2 hk2 h0 hr1
  refine (RGo.count h03 8 (isInt_lit (by omega))).mono ?_
  rintro e w4 ⟨rfl, b4, h4⟩
  rw [H2.out] at h4 ⊢
  simp only at h4 ⊢
  go_wp2_with fail
  go_loop [9] (fun i => i = .int .i64 0) (fun _ => 0)
  case atStart => rfl
  case round =>
    subst hrel
    go_wp2_with fail
    refine (RGo.count h4 7 (isInt_lit (by omega))).mono ?_
    rintro e w5 ⟨rfl, b5, h5⟩
    rw [H3.out] at h5 ⊢
    simp only at h5 ⊢
    go_wp2_with fail
    have hg3 : g < w.heap.size := hg0
    have hlt3 : w2.heap.size < W3.heap.size := by omega
    have hr5 := (h5.kept.block w.heap.size (by omega) (by omega)).trans hr3
    have hv5 := (h5.kept.block w2.heap.size (by omega) (by omega)).trans hv3
    have hk5 := hk3.step h5.kept (fun k hk => .inl hk)
    have hz5 := h5.kept.size
    have hl5 : b5 = b ∨ b5 = none := by
      rcases h5.lie with e | e
      · rcases hl2 with e' | e'
        · exact .inl (e.trans e')
        · exact .inr (e.trans e')
      · exact .inr e
    have hrd5 := h5.rd
    clear h5 h4 h03 hr3 hv3 hk3 hs1 hb1
    go_loopw [21] (fun i wr => ∃ (j : Nat) (b' : Option Nat) (A : Option Addr) (n c : Nat), j ≤ m ∧ i = .int .i64 j ∧ Rd wr g b' (rdN j s3).2.1 (rdN j s3).2.2 ∧ (b' = b ∨ b' = none) ∧ Kept (fun k => k = g) w wr ∧ wr.heap[w.heap.size]? = some (.cells #[.int .i64 0, .slice none 0 0, .slice none 0 0] 27 (0, 0)) ∧ wr.heap[w2.heap.size]? = some (.cells #[.int .i64 (kd : Int), .slice none 0 0, .slice A n c] 27 (0, 0)) ∧ OwnI wr W3.heap.size (.slice A n c) (rdN j s3).1 ∧ W3.heap.size ≤ wr.heap.size) (fun i _ => m - (intOf i).toNat)
    case atStart => exact ⟨0, b5, none, 0, 0, Nat.zero_le _, rfl, hrd5, hl5, hk5, hr5, hv5, OwnI.nil _ _, hz5⟩
    case round =>
      clear hrd5 hl5 hk5 hr5 hv5 hz5
      obtain ⟨j, b6, A, n, c, hj, rfl, hrd, hlie, hkw, hrr, hvr, hown, hzr⟩ := hrel
      have hvc := (row_cells hvr 2).1
      simp only [List.getElem?_toArray, List.getElem?_cons_succ, List.getElem?_cons_zero] at hvc
      by_cases hlt : j < m
      · have hst : rdN (j + 1) s3 = ((rdN j s3).1 ++ [((rc 9 (rdN j s3).2).1 : Int)], (rc 9 (rdN j s3).2).2) := rfl
        have hlen := rdN_len j s3
        have HST := hide hst
        clear hst
        generalize rdN j s3 = q at *
        obtain ⟨ns, st⟩ := q
        simp only at hlen hrd hown HST
        have HC : Hid (∀ W, Rd W g b6 st.1 st.2 → Calls Tryd.prog 50 #[.pointer (some ⟨g, 0, none⟩), .int .i64 9] W fun e w' => e = .returned (.int .i64 ((rc 9 st).1 : Int)) ∧ ∃ b', RGo g b6 W (rc 9 st).2 b' w') := hide (fun W h => RGo.count (RGo.start h) 9 (isInt_lit (by omega)))
        generalize rc 9 st = q9 at *
        obtain ⟨x, st'⟩ := q9
        simp only at HC HST
        have HFW : Hid (∀ w7 b7, RGo g b6 wr.drew st' b7 w7 → w7.cell? ⟨w2.heap.size, 2, none⟩ = some (.slice A n c) ∧ w2.heap.size < w7.heap.size ∧ OwnI w7 W3.heap.size (.slice A n c) ns) := hide (fun w7 b7 h => ⟨(h.kept.cell (k := w2.heap.size) (by show w2.heap.size < wr.heap.size; omega) (by omega)).trans hvc, by have : wr.heap.size ≤ w7.heap.size := h.kept.size; omega, hown.keep fun k hk => h.kept.block k ((hown.lt k hk).2) (by have := (hown.lt k hk).1; omega)⟩)
        have HL : Hid (ns.length + 1 ≤ 17592186044416) := hide (by have := HM.out; omega)
        have HB9 : Hid (∀ w7 b7 ob, RGo g b6 wr.drew st' b7 w7 → W3.heap.size ≤ (w7.alloc ob).heap.size) := hide (fun w7 b7 ob h => by have : wr.heap.size ≤ w7.heap.size := h.kept.size; simp; omega)
        have HV8 : Hid (∀ w7 b7 ob w8, RGo g b6 wr.drew st' b7 w7 → (w7.alloc ob).grownBy w8 (Value.slice A n c).ownBlock → w8.heap[w2.heap.size]? = some (.cells #[.int .i64 (kd : Int), .slice none 0 0, .slice A n c] 27 (0, 0)) ∧ w8.heap[w.heap.size]? = some (.cells #[.int .i64 0, .slice none 0 0, .slice none 0 0] 27 (0, 0)) ∧ Rd w8 g b7 st'.1 st'.2 ∧ Kept (fun k => k = g) w w8 ∧ W3.heap.size ≤ w8.heap.size ∧ ∀ k, Foot g b7 k → k < w.heap.size) := hide (fun w7 b7 ob w8 h hgr => by
          have hsz7 : wr.heap.size ≤ w7.heap.size := h.kept.size
          have ha : (w7.alloc ob).heap.size = w7.heap.size + 1 := by simp
          have hsz8 : (w7.alloc ob).heap.size ≤ w8.heap.size := hgr.size
          have hk1 : Kept (fun k => W3.heap.size ≤ k) w7 w8 := (Kept.of_below (F := fun k => W3.heap.size ≤ k) ((Below.refl _ _).alloc (Nat.le_refl _) ob)).step (Kept.of_grown (F := fun k => W3.heap.size ≤ k) hgr (fun k hk => (hown.lt k hk).1)) (fun k hk => .inl hk)
          have hft : ∀ k, Foot g b7 k → k < w.heap.size := by
            intro k hk
            rcases hk with rfl | hk
            · exact hg0
            · rcases h.lie with e | e
              · rcases hlie with e' | e'
                · exact hf k (by rw [← e', ← e]; exact hk)
                · rw [e, e'] at hk; cases hk
              · rw [e] at hk; cases hk
          have hzw : w.heap.size < wr.heap.size := lt_of_block hrr
          refine ⟨?_, ?_, h.rd.kept hk1 (fun k hk h' => by have := hft k hk; omega), ?_, by omega, hft⟩
          · exact (hk1.block _ (by omega) (by omega)).trans ((h.kept.block w2.heap.size (by show w2.heap.size < wr.heap.size; omega) (by omega)).trans hvr)
          · exact (hk1.block _ (by omega) (by omega)).trans ((h.kept.block w.heap.size (by show w.heap.size < wr.heap.size; omega) (by omega)).trans hrr)
          · exact (hkw.drew.step h.kept (fun k hk => .inl hk)).step hk1 (fun k hk => .inr (by omega)))
        go_wp2_with fail
        go_region_law (first
          | (go_simp; go_at_call 50; (with_reducible refine (HC.out _ ?_).mono ?_); exact hrd; rintro e w7 ⟨rfl, b7, h7⟩; obtain ⟨hv7, hl7, ho7⟩ := HFW.out _ _ h7; have hv7a := (World.cell?_alloc_past (.cells #[.int .i64 (x : Int)] 3) _ _ hl7).trans hv7; have hone := HasI.new w7 3 [(x : Int)] (0, 0) _ rfl; simp only [])
          | (revert h7; intro h7; refine step_append_ints _ (by rfl) (.tmp 24) (.tmp 27) (by rfl) W3.heap.size (.slice A n c) ns (by rfl) (ho7.below ((Below.refl _ _).alloc (Nat.le_refl _) _)) (w7.heap.size + 1) (some ⟨w7.heap.size, 0, none⟩) 1 1 [(x : Int)] (by rfl) hone (by rfl) HL.out (HB9.out _ _ _ h7) ?_; intro v8 w8 ho8 hgr8 hat8; obtain ⟨p1, p2, p3, p4, p5, p6⟩ := HV8.out _ _ _ _ h7 hgr8; have q1 := (row_cells p1 2).1; have q2 := (row_cells p1 2).2; simp only [List.getElem?_toArray, List.getElem?_cons_succ, List.getElem?_cons_zero] at q1; obtain ⟨A8, n8, c8, rfl, hn8, hnc8, hx8⟩ := ho8.form))
        all_goals go_wp2_with fail
        all_goals
          have hks : Kept (fun k => k = w2.heap.size) w8 (w8.setCell ⟨w2.heap.size, 2, none⟩ (.slice A8 n8 c8)) := (Kept.refl (fun k => k = w2.heap.size) w8).setCell (p := ⟨w2.heap.size, 2, none⟩) (.inl rfl) _
          have hz8 := lt_of_block p1
          have hl7' : b7 = b ∨ b7 = none := by
            rcases h7.lie with e | e
            · rcases hlie with e' | e'
              · exact .inl (e.trans e')
              · exact .inr (e.trans e')
            · exact .inr e
          refine ⟨⟨j + 1, b7, A8, n8, c8, by omega, by go_num, ?_, hl7', p4.setCell (p := ⟨w2.heap.size, 2, none⟩) (.inr (Nat.le_of_lt hlt2)) _, (hks.block _ (by omega) (by omega)).trans p2, ?_, ?_, by rw [show (w8.setCell ⟨w2.heap.size, 2, none⟩ (.slice A8 n8 c8)).heap.size = w8.heap.size from by simp [World.setCell]]; exact p5⟩, by simp [intOf]; omega⟩
          · rw [HST.out]
            exact p3.kept hks (fun k hk h => by have := p6 k hk; omega)
          · simp [World.setCell, Array.getElem?_modify, p1]
          · rw [HST.out]
            exact ho8.keep fun k hk => hks.block k ((ho8.lt k hk).2) (by have := (ho8.lt k hk).1; omega)
      · obtain rfl : j = m := by omega
        have hne : w.heap.size ≠ w2.heap.size := by omega
        have hzw := lt_of_block hrr
        have hk11 := Kept.of_setRow wr w.heap.size #[.int .i64 (kd : Int), .slice none 0 0, .slice A n c]
        have hr11 := set_row_at (B := #[.int .i64 (kd : Int), .slice none 0 0, .slice A n c]) hrr
        obtain ⟨A', n', c', e', hn', hnc', hx'⟩ := hown.form
        injection e' with e1 e2 e3
        subst e1 e2 e3
        have hft : ∀ k, Foot g b6 k → k < w.heap.size := by
          intro k hk
          rcases hk with rfl | hk
          · exact hg0
          · rcases hlie with e | e
            · exact hf k (by rw [← e]; exact hk)
            · rw [e] at hk; cases hk
        go_wp2_with (first
          | (refine wpList_load_row rfl 27 _ rfl w2.heap.size rfl _ _ _ _ hvr Tryd.underlying27 rfl (by kernel_rfl) ?_)
          | (refine wpList_store_row rfl 27 _ _ rfl w.heap.size #[.int .i64 (kd : Int), .slice none 0 0, .slice A n c] rfl rfl _ _ hrr (by kernel_rfl) rfl (by simp; exact ⟨rfl, rfl, rfl⟩) ?_; generalize wr.setRow w.heap.size #[.int .i64 (kd : Int), .slice none 0 0, .slice A n c] = w11 at *))
        refine bodyPost_ret (v := .agg #[.int .i64 (kd : Int), .slice none 0 0, .slice A n c]) (results_val rfl hr11 rfl) rfl ⟨A, n, c, rfl, hn', ?_, b6, ?_⟩
        · exact (hown.keep fun k hk => hk11.block k ((hown.lt k hk).2) (by have := (hown.lt k hk).1; omega)).from_ (by omega)
        · exact ⟨hrd.kept hk11 (fun k hk h => by have := hft k hk; omega), hlie, hkw.step hk11 (fun k hk => .inr (by omega))⟩
end Go.Proofs.YtapbcpilklhoiabDoor

namespace Go.Proofs.YtapbcpilklhoiabDoor
open Go.RowKit

def nodeB (n : Int) : Bool := decide (1 ≤ n ∧ n ≤ 9)

theorem isNode_any (n : Int) (w : World) : Calls Tryd.prog 88 #[.int .i64 n] w fun e w' => e = .returned (.bool (nodeB n)) ∧ w = w' := by
  by_cases h : 1 ≤ n
  · by_cases h2 : n ≤ 9
    · have e : nodeB n = true := decide_eq_true ⟨h, h2⟩
      rw [e]
      go_enter Tryd.func88, Tryd.ntmps88
      go_wp2
      go_ret
      exact ⟨rfl, rfl⟩
    · have e : nodeB n = false := decide_eq_false fun h => h2 h.2
      rw [e]
      go_enter Tryd.func88, Tryd.ntmps88
      go_wp2
      go_ret
      exact ⟨rfl, rfl⟩
  · have e : nodeB n = false := decide_eq_false fun h' => h h'.1
    rw [e]
    go_enter Tryd.func88, Tryd.ntmps88
    go_wp2
    go_ret
    exact ⟨rfl, rfl⟩

/-- What Index answers: the first place of v, or -1. -/
def IxEnds (xs : List Int) (v : Int) (w : World) (e : Ending) (w' : World) : Prop :=
  (e = .returned (.int .i64 (-1)) ∧ v ∉ xs ∨ ∃ p : Nat, e = .returned (.int .i64 (p : Int)) ∧ p < xs.length ∧ xs[p]? = some v) ∧ w = w'

theorem not_mem_all {xs : List Int} {v : Int} (h : ∀ j (hj : j < xs.length), xs[j] ≠ v) : v ∉ xs := by
  intro hm
  obtain ⟨j, hj, e⟩ := List.mem_iff_getElem.1 hm
  exact h j hj e

end Go.Proofs.YtapbcpilklhoiabDoor

namespace Go.Proofs.YtapbcpilklhoiabDoor
open Go.RowKit

def prv (xs : List Int) : Nat → Int
  | 0 => 0
  | k + 1 => xs.getD k 0
def okAt (xs : List Int) (k : Nat) : Prop := nodeB (xs.getD k 0) = true ∧ prv xs k < xs.getD k 0
instance (xs : List Int) (k : Nat) : Decidable (okAt xs k) := inferInstanceAs (Decidable (_ ∧ _))
/-- A right set of members. -/
def rightS (xs : List Int) : Prop := 1 ≤ xs.length ∧ xs.length ≤ 7 ∧ ∀ k, k < xs.length → okAt xs k
instance (xs : List Int) : Decidable (rightS xs) := inferInstanceAs (Decidable (_ ∧ _))
def chkS (xs : List Int) : Int := if rightS xs then 0 else 24

theorem getD_at {xs : List Int} {k : Nat} (h : k < xs.length) : xs.getD k 0 = xs[k] := by simp [List.getD_eq_getElem?_getD, h]

set_option maxHeartbeats 400000 in
theorem bcheck_any (A : Option Addr) (n c B : Nat) (xs : List Int) (w : World) (hx : HasI w B A xs) (hn : xs.length = n) (hl : n ≤ 140737488355328) :
    Calls Tryd.prog 90 #[.slice A n c] w fun e w' => e = .returned (.int .i64 (chkS xs)) ∧ w = w' := by
  subst hn
  by_cases h1 : 1 ≤ xs.length
  · by_cases h7 : xs.length ≤ 7
    · have t1 : decide ((xs.length : Int) < 1) = false := by simp; omega
      have t2 : decide ((7 : Int) < xs.length) = false := by simp; omega
      go_enter Tryd.func90, Tryd.ntmps90
      go_wp2
      go_loop [3, 16] (fun s i => ∃ k : Nat, k ≤ xs.length ∧ i = .int .i64 k ∧ s = .int .i64 (prv xs k) ∧ Hid (∀ j, j < k → okAt xs j)) (fun _ i => xs.length - (intOf i).toNat)
      case atStart => exact ⟨0, Nat.zero_le _, rfl, rfl, fun j h => absurd h (by omega)⟩
      case round =>
        obtain ⟨k, hk, rfl, rfl, hok⟩ := hrel
        by_cases hlt : k < xs.length
        · obtain ⟨b, o, rfl, hb, hc⟩ := hx k hlt
          have eg := getD_at hlt
          have ep : prv xs (k + 1) = xs[k] := getD_at hlt
          have EG := hide eg
          have EP := hide ep
          clear eg ep
          generalize hp : prv xs k = pv at *
          have HP := hide hp
          clear hp
          by_cases hnd : nodeB xs[k] = true
          · by_cases hgt : pv < xs[k]
            · have t3 : decide (xs[k] ≤ pv) = false := by simp; omega
              have hstep : okAt xs k := ⟨by rw [EG.out]; exact hnd, by rw [EG.out, HP.out]; exact hgt⟩
              have HST := hide hstep
              clear hstep
              go_wp2_with fail
              refine (isNode_any xs[k] w).mono ?_
              rintro e w' ⟨rfl, rfl⟩
              go_wp2
              go_round
              case rel => exact ⟨k + 1, by omega, by go_num, by rw [EP.out], fun j hj => by
                rcases Nat.lt_or_ge j k with h | h
                · exact hok.out j h
                · obtain rfl : j = k := by omega
                  exact HST.out⟩
              case measure => simp [intOf]; omega
            · have t3 : decide (xs[k] ≤ pv) = true := by simp; omega
              have e : chkS xs = 24 := if_neg fun h => by
                have := (h.2.2 k hlt).2
                rw [EG.out, HP.out] at this
                exact hgt this
              have HE := hide e
              clear e
              go_wp2_with fail
              refine (isNode_any xs[k] w).mono ?_
              rintro e w' ⟨rfl, rfl⟩
              go_wp2
              go_ret
              exact ⟨by rw [HE.out]; rfl, rfl⟩
          · have e : chkS xs = 24 := if_neg fun h => by
              have := (h.2.2 k hlt).1
              rw [EG.out] at this
              exact hnd this
            have HE := hide e
            have hnd' : nodeB xs[k] = false := by simpa using hnd
            clear e hnd
            go_wp2_with fail
            refine (isNode_any xs[k] w).mono ?_
            rintro e w' ⟨rfl, rfl⟩
            go_wp2
            go_ret
            exact ⟨by rw [HE.out]; rfl, rfl⟩
        · have e : chkS xs = 0 := if_pos ⟨h1, h7, fun j hj => hok.out j (by omega)⟩
          have HE := hide e
          clear e
          go_wp2
          go_ret
          exact ⟨by rw [HE.out]; rfl, rfl⟩
    · have e : chkS xs = 24 := if_neg fun h => h7 h.2.1
      rw [e]
      go_enter Tryd.func90, Tryd.ntmps90
      go_wp2
      go_ret
      exact ⟨rfl, rfl⟩
  · have e : chkS xs = 24 := if_neg fun h => h1 h.1
    rw [e]
    go_enter Tryd.func90, Tryd.ntmps90
    go_wp2
    go_ret
    exact ⟨rfl, rfl⟩

theorem rright_any (A : Option Addr) (n c B : Nat) (xs : List Int) (w : World) (hx : HasI w B A xs) (hn : xs.length = n) (hl : n ≤ 140737488355328) :
    Calls Tryd.prog 64 #[.slice A n c] w fun e w' => e = .returned (.bool (decide (rightS xs))) ∧ ∃ n, w.drewN n = w' := by
  subst hn
  by_cases h1 : 1 ≤ xs.length
  · by_cases h7 : xs.length ≤ 7
    · have t1 : ((xs.length : Int) == 0) = false := beq_eq_false_iff_ne.2 (by omega)
      have t2 : decide ((7 : Int) < xs.length) = false := by simp; omega
      go_enter Tryd.func64, Tryd.ntmps64
      go_wp2
      go_loopw [14] (fun i wr => ∃ k m : Nat, k ≤ xs.length ∧ i = .int .i64 k ∧ Hid (∀ j, j < k → okAt xs j) ∧ w.drewN m = wr) (fun i _ => xs.length - (intOf i).toNat)
      case atStart => exact ⟨0, 0, Nat.zero_le _, rfl, fun j h => absurd h (by omega), rfl⟩
      case round =>
        obtain ⟨k, m, hk, rfl, hok, rfl⟩ := hrel
        by_cases hlt : k < xs.length
        · have i1 : (k : Int) < (xs.length : Int) := by omega
          have i3 : (0 : Int) ≤ (k : Int) := by omega
          obtain ⟨b, o, rfl, hb, hc⟩ := hx k hlt
          have eg := getD_at hlt
          have EG := hide eg
          clear eg
          by_cases hnd : 1 ≤ xs[k] ∧ xs[k] ≤ 9
          · have t3 : decide (xs[k] < 1) = false := by simp; omega
            have t4 : decide ((9 : Int) < xs[k]) = false := by simp; omega
            by_cases hk0 : k = 0
            · subst hk0
              simp only [Nat.add_zero] at hc
              have hstep : okAt xs 0 := ⟨by rw [EG.out]; exact decide_eq_true hnd, by rw [EG.out]; show (0 : Int) < _; omega⟩
              have HST := hide hstep
              clear hstep hnd
              go_wp2_with fail
              go_quiet (fail)
              go_wp2
              go_roundw
              case rel => exact ⟨1, m + nq, by omega, by go_num, fun j hj => by
                  obtain rfl : j = 0 := by omega
                  exact HST.out, by simp⟩
              case measure => simp [intOf]; omega
            · obtain ⟨k', rfl⟩ : ∃ k', k = k' + 1 := ⟨k - 1, by omega⟩
              have hlt' : k' < xs.length := by omega
              have hcp := (hx.at_ k' hlt').2
              have t5 : decide ((0 : Int) < ((k' + 1 : Nat) : Int)) = true := decide_eq_true (by omega)
              have EP : Hid (prv xs (k' + 1) = xs[k']) := getD_at hlt'
              by_cases hgt : xs[k'] < xs[k' + 1]
              · have t6 : decide (xs[k' + 1] ≤ xs[k']) = false := by simp; omega
                have hstep : okAt xs (k' + 1) := ⟨by rw [EG.out]; exact decide_eq_true hnd, by rw [EG.out, EP.out]; exact hgt⟩
                have HST := hide hstep
                clear hstep hnd
                go_wp2_with fail
                go_quiet (fail)
                go_wp2
                go_roundw
                case rel => exact ⟨k' + 2, m + nq, by omega, by go_num, fun j hj => by
                  rcases Nat.lt_or_ge j (k' + 1) with h | h
                  · exact hok.out j h
                  · obtain rfl : j = k' + 1 := by omega
                    exact HST.out, by simp⟩
                case measure => simp [intOf]; omega
              · have t6 : decide (xs[k' + 1] ≤ xs[k']) = true := by simp; omega
                have e : decide (rightS xs) = false := decide_eq_false fun h => by
                  have := (h.2.2 (k' + 1) hlt).2
                  rw [EG.out, EP.out] at this
                  exact hgt this
                have HE := hide e
                clear e hnd
                go_wp2_with fail
                go_quiet (fail)
                go_wp2
                go_ret
                exact ⟨by rw [HE.out]; rfl, m + nq, by simp⟩
          · have e : decide (rightS xs) = false := decide_eq_false fun h => by
              have := (h.2.2 k hlt).1
              rw [EG.out] at this
              exact hnd (of_decide_eq_true this)
            have HE := hide e
            clear e
            by_cases h1' : xs[k] < 1
            · have t3 : decide (xs[k] < 1) = true := by simpa using h1'
              clear hnd h1'
              go_wp2_with fail
              go_quiet (fail)
              go_wp2
              go_ret
              exact ⟨by rw [HE.out]; rfl, m + nq, by simp⟩
            · have t3 : decide (xs[k] < 1) = false := by simpa using h1'
              have t4 : decide ((9 : Int) < xs[k]) = true := by simp; omega
              clear hnd h1'
              go_wp2_with fail
              go_quiet (fail)
              go_wp2
              go_ret
              exact ⟨by rw [HE.out]; rfl, m + nq, by simp⟩
        · have e : decide (rightS xs) = true := decide_eq_true ⟨h1, h7, fun j hj => hok.out j (by omega)⟩
          have HE := hide e
          clear e
          go_wp2
          go_ret
          exact ⟨by rw [HE.out]; rfl, m, rfl⟩
    · have e : decide (rightS xs) = false := decide_eq_false fun h => h7 h.2.1
      rw [e]
      have t1 : ((xs.length : Int) == 0) = false := beq_eq_false_iff_ne.2 (by omega)
      go_enter Tryd.func64, Tryd.ntmps64
      go_wp2
      go_ret
      exact ⟨rfl, 0, rfl⟩
  · have e : decide (rightS xs) = false := decide_eq_false fun h => h1 h.1
    have t1 : ((xs.length : Int) == 0) = true := beq_iff_eq.2 (by omega)
    rw [e]
    go_enter Tryd.func64, Tryd.ntmps64
    go_wp2
    go_ret
    exact ⟨rfl, 0, rfl⟩
end Go.Proofs.YtapbcpilklhoiabDoor

namespace Go.Proofs.YtapbcpilklhoiabDoor
open Go.RowKit

/-- A number that was written is read again. -/
theorem rn_enc (u : Nat) (h : u < 18446744073709551616) (r : List UInt8) : rn (enc u ++ r) = (u, r, 0) := by
  have h8 := bw_le u
  have hc : (UInt8.ofNat (bw u)).toNat = bw u := by simp; omega
  have hl := be_length (bw u) u
  have e : enc u ++ r = UInt8.ofNat (bw u) :: (be (bw u) u ++ r) := rfl
  rw [e, rn_ok (by omega) (by rw [List.length_append]; omega) ?_, hc]
  · rw [List.take_append_of_le_length (by omega), List.take_of_length_le (by omega), val_enc u h, List.drop_append_of_le_length (by omega), List.drop_of_length_le (by omega), List.nil_append]
  · rw [hc]
    rintro ⟨h0, h1⟩
    obtain ⟨c, t, hb, hne⟩ := be_head u h h0
    rw [hb] at h1
    simp at h1
    exact hne h1
/-- A number that was read without an error stands there in its one form. -/
theorem rn_form {xs : List UInt8} (h : (rn xs).2.2 = 0) : enc (rn xs).1 ++ (rn xs).2.1 = xs := by
  cases xs with
  | nil => simp [rn] at h
  | cons c t =>
    by_cases h8 : 8 < c.toNat
    · rw [rn_wide h8] at h; simp at h
    by_cases hs : t.length < c.toNat
    · rw [rn_short h8 hs] at h; simp at h
    by_cases hz : 0 < c.toNat ∧ t.head? = some 0
    · rw [rn_zero h8 hs hz] at h; simp at h
    · rw [rn_ok h8 hs hz]
      have hl : (t.take c.toNat).length = c.toNat := by rw [List.length_take]; omega
      have hb : bw (val (t.take c.toNat)) = c.toNat := by
        cases ht : t.take c.toNat with
        | nil => rw [ht] at hl; simp at hl; rw [← hl]; rfl
        | cons x r =>
          rw [ht] at hl
          simp at hl
          rw [bw_val x r ?_ (by omega)]
          · exact hl
          · intro hx
            apply hz
            refine ⟨by omega, ?_⟩
            cases t with
            | nil => simp at ht
            | cons y s =>
              obtain ⟨m, hm⟩ : ∃ m, c.toNat = m + 1 := ⟨c.toNat - 1, by omega⟩
              rw [hm, List.take_succ_cons] at ht
              injection ht with e1 _
              rw [List.head?_cons, e1, hx]
      unfold enc
      simp only
      rw [hb]
      have hv := be_val (t.take c.toNat)
      rw [hl] at hv
      rw [hv, List.cons_append, List.take_append_drop]
      congr 1
      apply UInt8.toNat_inj.1
      simp
theorem zig_zag (u : Nat) : zig (zag u) = u := by
  unfold zig zag; split <;> split <;> omega
theorem zag_isInt {u : Nat} (h : u < 18446744073709551616) : IsInt (zag u) := by
  unfold IsInt zag; split <;> omega

/-- Forward: an int that was written. -/
theorem ri_enc {i : Int} (h : IsInt i) (r : List UInt8) : ri (enc (zig i) ++ r, 0) = (i, (r, 0)) := by
  unfold ri
  simp only [if_true, rn_enc _ (zig_lt h), zag_zig h]
theorem rc_enc {u : Nat} {most : Int} (h : u ≤ most.toNat) (hm : most.toNat < 18446744073709551616) (r : List UInt8) : rc most (enc u ++ r, 0) = (u, (r, 0)) := by
  unfold rc rcn
  simp only [if_true, rn_enc u (by omega)]
  rw [if_neg (by omega)]

/-- Back: an int that was read without an error. -/
theorem ri_back {s t : RSt} {i : Int} (h : ri s = (i, t)) (ht : t.2 = 0) : s.2 = 0 ∧ s.1 = enc (zig i) ++ t.1 ∧ IsInt i := by
  unfold ri at h
  by_cases h0 : s.2 = 0
  · rw [if_pos h0] at h
    have e1 : zag (rn s.1).1 = i := congrArg Prod.fst h
    have e2 : (rn s.1).2 = t := congrArg Prod.snd h
    subst e1 e2
    exact ⟨h0, by rw [zig_zag]; exact (rn_form ht).symm, zag_isInt (rn_lt _)⟩
  · rw [if_neg h0] at h
    have e2 : s = t := congrArg Prod.snd h
    subst e2
    exact absurd ht h0
theorem rc_back {s t : RSt} {u : Nat} {most : Int} (h : rc most s = (u, t)) (ht : t.2 = 0) : s.2 = 0 ∧ s.1 = enc u ++ t.1 ∧ u ≤ most.toNat := by
  unfold rc at h
  by_cases h0 : s.2 = 0
  · rw [if_pos h0] at h
    unfold rcn at h
    split at h
    · have e2 := congrArg (fun x => x.2.2) h
      simp only at e2
      rw [ht] at e2
      omega
    · have e1 : (rn s.1).1 = u := congrArg Prod.fst h
      have e2 : (rn s.1).2 = t := congrArg Prod.snd h
      subst e1 e2
      exact ⟨h0, (rn_form ht).symm, by omega⟩
  · rw [if_neg h0] at h
    have e2 : s = t := congrArg Prod.snd h
    subst e2
    exact absurd ht h0
/-- Whatever is read, a count is within its bound, an int is one. -/
theorem rc_le {s : RSt} {most : Int} (h : 0 ≤ most) : ((rc most s).1 : Int) ≤ most := by
  unfold rc
  split
  · unfold rcn
    split
    · simp; omega
    · omega
  · simp; omega
theorem ri_isInt (s : RSt) : IsInt (ri s).1 := by
  unfold ri
  split
  · exact zag_isInt (rn_lt _)
  · unfold IsInt; omega

theorem tk_enc {c : Cmdv} (h : IsCmd c) (r : List UInt8) : tk (encL c.ints ++ r, 0) = (c, (r, 0)) := by
  have hh : ∀ i, i ∈ [c.s, c.q, c.a, c.k, c.r, c.t, c.re, c.im] → IsInt i := h
  have e : encL c.ints ++ r = enc (zig c.s) ++ (enc (zig c.q) ++ (enc (zig c.a) ++ (enc (zig c.k) ++ (enc (zig c.r) ++ (enc (zig c.t) ++ (enc (zig c.re) ++ (enc (zig c.im) ++ r))))))) := by
    simp [encL, Cmdv.ints]
  rw [e]
  unfold tk
  simp only [ri_enc (hh c.s (by simp)), ri_enc (hh c.q (by simp)), ri_enc (hh c.a (by simp)), ri_enc (hh c.k (by simp)), ri_enc (hh c.r (by simp)), ri_enc (hh c.t (by simp)), ri_enc (hh c.re (by simp)), ri_enc (hh c.im (by simp))]
theorem tk_back {s t : RSt} {c : Cmdv} (h : tk s = (c, t)) (ht : t.2 = 0) : s.2 = 0 ∧ s.1 = encL c.ints ++ t.1 := by
  unfold tk at h
  simp only [Prod.mk.injEq] at h
  obtain ⟨hc, h8⟩ := h
  subst hc
  subst h8
  generalize e1 : ri s = q1 at *
  generalize e2 : ri q1.2 = q2 at *
  generalize e3 : ri q2.2 = q3 at *
  generalize e4 : ri q3.2 = q4 at *
  generalize e5 : ri q4.2 = q5 at *
  generalize e6 : ri q5.2 = q6 at *
  generalize e7 : ri q6.2 = q7 at *
  generalize e8 : ri q7.2 = q8 at *
  obtain ⟨a8, b8, _⟩ := ri_back (t := q8.2) (i := q8.1) (e8) ht
  obtain ⟨a7, b7, _⟩ := ri_back (t := q7.2) (i := q7.1) (e7) a8
  obtain ⟨a6, b6, _⟩ := ri_back (t := q6.2) (i := q6.1) (e6) a7
  obtain ⟨a5, b5, _⟩ := ri_back (t := q5.2) (i := q5.1) (e5) a6
  obtain ⟨a4, b4, _⟩ := ri_back (t := q4.2) (i := q4.1) (e4) a5
  obtain ⟨a3, b3, _⟩ := ri_back (t := q3.2) (i := q3.1) (e3) a4
  obtain ⟨a2, b2, _⟩ := ri_back (t := q2.2) (i := q2.1) (e2) a3
  obtain ⟨a1, b1, _⟩ := ri_back (t := q1.2) (i := q1.1) (e1) a2
  refine ⟨a1, ?_⟩
  rw [b1, b2, b3, b4, b5, b6, b7, b8]
  simp [encL, Cmdv.ints]
theorem tk_isCmd (s : RSt) : IsCmd (tk s).1 := by
  intro i hi
  simp only [tk, Cmdv.ints, List.mem_cons, List.not_mem_nil, or_false] at hi
  rcases hi with rfl | rfl | rfl | rfl | rfl | rfl | rfl | rfl <;> exact ri_isInt _

/-- So many commands are read. -/
def rdC : Nat → RSt → List Cmdv × RSt
  | 0, s => ([], s)
  | m + 1, s => (((rdC m s).1 ++ [(tk (rdC m s).2).1]), (tk (rdC m s).2).2)
theorem rdC_len (m : Nat) (s : RSt) : (rdC m s).1.length = m := by
  induction m with
  | zero => rfl
  | succ m ih => simp [rdC, ih]
theorem rdC_isCmd (m : Nat) (s : RSt) : ∀ c ∈ (rdC m s).1, IsCmd c := by
  induction m with
  | zero => intro c hc; simp [rdC] at hc
  | succ m ih =>
    intro c hc
    simp only [rdC, List.mem_append, List.mem_singleton] at hc
    rcases hc with h | rfl
    · exact ih c h
    · exact tk_isCmd _
theorem encCs_append (cs ds : List Cmdv) : encCs (cs ++ ds) = encCs cs ++ encCs ds := List.flatMap_append
theorem encNs_append (ns ms : List Int) : encNs (ns ++ ms) = encNs ns ++ encNs ms := List.flatMap_append
theorem rdC_enc (cs : List Cmdv) (h : ∀ c ∈ cs, IsCmd c) (r : List UInt8) : ∀ k, k ≤ cs.length → rdC k (encCs cs ++ r, 0) = (cs.take k, (encCs (cs.drop k) ++ r, 0)) := by
  intro k
  induction k with
  | zero => intro _; rfl
  | succ k ih =>
    intro hk
    have e : encCs (cs.drop k) ++ r = encL cs[k].ints ++ (encCs (cs.drop (k + 1)) ++ r) := by
      rw [List.drop_eq_getElem_cons (by omega), show encCs (cs[k] :: cs.drop (k + 1)) = encL cs[k].ints ++ encCs (cs.drop (k + 1)) from rfl, List.append_assoc]
    have ht := tk_enc (h cs[k] (List.getElem_mem (by omega))) (encCs (cs.drop (k + 1)) ++ r)
    simp only [rdC, ih (by omega), e, ht]
    rw [List.take_succ_eq_append_getElem (by omega)]
theorem rdC_back (s : RSt) : ∀ k, (rdC k s).2.2 = 0 → s.2 = 0 ∧ s.1 = encCs (rdC k s).1 ++ (rdC k s).2.1 := by
  intro k
  induction k with
  | zero => intro h; exact ⟨h, rfl⟩
  | succ k ih =>
    intro h
    have er : rdC (k + 1) s = ((rdC k s).1 ++ [(tk (rdC k s).2).1], (tk (rdC k s).2).2) := rfl
    rw [er] at h ⊢
    generalize rdC k s = q at *
    generalize e1 : tk q.2 = q1 at *
    obtain ⟨h1, h2⟩ := tk_back (s := q.2) (c := q1.1) (t := q1.2) e1 h
    obtain ⟨h3, h4⟩ := ih h1
    refine ⟨h3, ?_⟩
    rw [h4, h2]
    simp [encCs_append, encCs]
theorem rdN_enc (ns : List Int) (h : ∀ m ∈ ns, 0 ≤ m ∧ m ≤ 9) (r : List UInt8) : ∀ k, k ≤ ns.length → rdN k (encNs ns ++ r, 0) = (ns.take k, (encNs (ns.drop k) ++ r, 0)) := by
  intro k
  induction k with
  | zero => intro _; rfl
  | succ k ih =>
    intro hk
    have e : encNs (ns.drop k) ++ r = enc (unb ns[k]) ++ (encNs (ns.drop (k + 1)) ++ r) := by
      rw [List.drop_eq_getElem_cons (by omega), show encNs (ns[k] :: ns.drop (k + 1)) = enc (unb ns[k]) ++ encNs (ns.drop (k + 1)) from rfl, List.append_assoc]
    have hm := h _ (List.getElem_mem (show k < ns.length by omega))
    have hu : unb ns[k] = ns[k].toNat := by unfold unb; omega
    have hrc := rc_enc (u := unb ns[k]) (most := 9) (by rw [hu]; omega) (by omega) (encNs (ns.drop (k + 1)) ++ r)
    simp only [rdN, ih (by omega), e, hrc]
    rw [List.take_succ_eq_append_getElem (by omega), hu, show ((ns[k].toNat : Nat) : Int) = ns[k] from by omega]
theorem rdN_back (s : RSt) : ∀ k, (rdN k s).2.2 = 0 → s.2 = 0 ∧ s.1 = encNs (rdN k s).1 ++ (rdN k s).2.1 := by
  intro k
  induction k with
  | zero => intro h; exact ⟨h, rfl⟩
  | succ k ih =>
    intro h
    have er : rdN (k + 1) s = ((rdN k s).1 ++ [((rc 9 (rdN k s).2).1 : Int)], (rc 9 (rdN k s).2).2) := rfl
    rw [er] at h ⊢
    generalize rdN k s = q at *
    generalize e1 : rc 9 q.2 = q1 at *
    obtain ⟨h1, h2, h5⟩ := rc_back (s := q.2) (u := q1.1) (t := q1.2) (most := 9) e1 h
    obtain ⟨h3, h4⟩ := ih h1
    refine ⟨h3, ?_⟩
    have hu : unb (q1.1 : Int) = q1.1 := unb_nat _ (by omega)
    rw [h4, h2]
    simp [encNs_append, encNs, hu]
theorem rdN_in (m : Nat) (s : RSt) : ∀ c ∈ (rdN m s).1, 0 ≤ c ∧ c ≤ 9 := by
  induction m with
  | zero => intro c hc; simp [rdN] at hc
  | succ m ih =>
    intro c hc
    simp only [rdN, List.mem_append, List.mem_singleton] at hc
    rcases hc with h | rfl
    · exact ih c h
    · have := rc_le (s := (rdN m s).2) (most := 9) (by omega)
      omega

/-- A value as it is read: its kind, its commands, its next members, and what is left. -/
structure RdV where
  k : Nat
  cs : List Cmdv
  ns : List Int
  s : RSt
def rdV (s : RSt) : RdV :=
  let a := rc 2 s
  let b := rc 8 a.2
  let c := rdC b.1 b.2
  let d := rc 7 c.2
  let e := rdN d.1 d.2
  ⟨a.1, c.1, e.1, e.2⟩
theorem rdV_enc {k : Int} {cs : List Cmdv} {ns : List Int} (hk : 0 ≤ k ∧ k ≤ 2) (hcl : cs.length ≤ 8) (hc : ∀ c ∈ cs, IsCmd c) (hnl : ns.length ≤ 7) (hn : ∀ m ∈ ns, 0 ≤ m ∧ m ≤ 9) (r : List UInt8) :
    rdV (encV k cs ns ++ r, 0) = ⟨k.toNat, cs, ns, (r, 0)⟩ := by
  have hu : unb k = k.toNat := by unfold unb; omega
  have e : encV k cs ns ++ r = enc k.toNat ++ (enc cs.length ++ (encCs cs ++ (enc ns.length ++ (encNs ns ++ r)))) := by
    unfold encV
    rw [hu]
    simp
  have h1 := rc_enc (u := k.toNat) (most := 2) (by omega) (by omega) (enc cs.length ++ (encCs cs ++ (enc ns.length ++ (encNs ns ++ r))))
  have h2 := rc_enc (u := cs.length) (most := 8) (by omega) (by omega) (encCs cs ++ (enc ns.length ++ (encNs ns ++ r)))
  have h3 := rdC_enc cs hc (enc ns.length ++ (encNs ns ++ r)) cs.length (Nat.le_refl _)
  have h4 := rc_enc (u := ns.length) (most := 7) (by omega) (by omega) (encNs ns ++ r)
  have h5 := rdN_enc ns hn r ns.length (Nat.le_refl _)
  rw [e]
  unfold rdV
  simp only [h1, h2, h3, List.take_length, List.drop_length, show encCs [] = [] from rfl, List.nil_append, h4, h5, show encNs [] = [] from rfl]
theorem rdV_back {s : RSt} (h : (rdV s).s.2 = 0) : s.2 = 0 ∧ s.1 = encV (rdV s).k (rdV s).cs (rdV s).ns ++ (rdV s).s.1 := by
  unfold rdV at *
  simp only at *
  generalize e1 : rc 2 s = q1 at *
  generalize e2 : rc 8 q1.2 = q2 at *
  generalize e4 : rc 7 (rdC q2.1 q2.2).2 = q4 at *
  obtain ⟨a5, b5⟩ := rdN_back q4.2 q4.1 h
  obtain ⟨a4, b4, c4⟩ := rc_back (t := q4.2) (u := q4.1) e4 a5
  obtain ⟨a3, b3⟩ := rdC_back q2.2 q2.1 a4
  obtain ⟨a2, b2, c2⟩ := rc_back (t := q2.2) (u := q2.1) e2 a3
  obtain ⟨a1, b1, c1⟩ := rc_back (t := q1.2) (u := q1.1) e1 a2
  refine ⟨a1, ?_⟩
  unfold encV
  rw [b1, b2, b3, b4, b5, rdC_len, rdN_len, unb_nat _ (by omega)]
  simp

/-- A right value. -/
structure FineV (k : Int) (cs : List Cmdv) (ns : List Int) : Prop where
  k0 : 0 ≤ k ∧ k ≤ 2
  cl : cs.length ≤ 8
  cc : ∀ c ∈ cs, IsCmd c
  nl : ns.length ≤ 7
  nn : ∀ m ∈ ns, 0 ≤ m ∧ m ≤ 9
theorem FineV.read {k : Int} {cs : List Cmdv} {ns : List Int} (h : FineV k cs ns) (r : List UInt8) : rdV (encV k cs ns ++ r, 0) = ⟨k.toNat, cs, ns, (r, 0)⟩ :=
  rdV_enc h.k0 h.cl h.cc h.nl h.nn r
/-- No bytes of a value begin another one's. -/
theorem encV_unlike {k k' : Int} {cs cs' : List Cmdv} {ns ns' : List Int} (h : FineV k cs ns) (h' : FineV k' cs' ns') {r : List UInt8} (he : encV k cs ns ++ r = encV k' cs' ns') : k = k' ∧ cs = cs' ∧ ns = ns' := by
  have e1 := h.read r
  have e2 := h'.read []
  rw [he] at e1
  rw [List.append_nil, e1] at e2
  have hk := h.k0
  have hk' := h'.k0
  injection e2 with a b c d
  exact ⟨by omega, b, c⟩
end Go.Proofs.YtapbcpilklhoiabDoor
