/-
  Clone of package msg: new memory, the same message. Conditions: what is read is in reach.
  A vote of a row is given another value. No condition.
-/
import Derived.Test.YtapbcpilklhoiabDoorMY16
import Derived.Test.YtapbcpilklhoiabDoorMY17
import Derived.Deep.MidRow
import Derived.Deep.RegionHeld3
set_option linter.unusedSimpArgs false
set_option linter.unusedVariables false

namespace Go.Proofs.YtapbcpilklhoiabDoor
open Go.RowKit

theorem flat_other (us rest : List Votev) (v : Votev) (x : Valv) (p : Nat) (h3 : p ≠ us.length * 6 + 3) (h4 : p ≠ us.length * 6 + 4) (h5 : p ≠ us.length * 6 + 5) : (flatVt (us ++ { v with v := x } :: rest))[p]? = (flatVt (us ++ v :: rest))[p]? := by
  rw [flatVt_append, flatVt_append]
  have e1 : ∀ a : Votev, flatVt (a :: rest) = a.cells ++ flatVt rest := fun _ => rfl
  rw [e1, e1]
  by_cases hp : p < (flatVt us).length
  · rw [List.getElem?_append_left hp, List.getElem?_append_left hp]
  · have hr : ∀ l : List Value, (flatVt us ++ l)[p]? = l[p - us.length * 6]? := fun l => by rw [List.getElem?_append_right (by omega), flatVt_length]
    rw [hr, hr]
    rw [flatVt_length] at hp
    have q3 : p - us.length * 6 ≠ 3 := by omega
    have q4 : p - us.length * 6 ≠ 4 := by omega
    have q5 : p - us.length * 6 ≠ 5 := by omega
    generalize p - us.length * 6 = q at *
    by_cases h6 : q < 6
    · match q, h6 with
      | 0, _ => rfl
      | 1, _ => rfl
      | 2, _ => rfl
      | 3, _ => exact absurd rfl q3
      | 4, _ => exact absurd rfl q4
      | 5, _ => exact absurd rfl q5
    · have hq : ∀ a : Votev, (a.cells ++ flatVt rest)[q]? = (flatVt rest)[q - 6]? := fun a => by
        rw [List.getElem?_append_right (show a.cells.length ≤ q from by show 6 ≤ q; omega)]
        rfl
      rw [hq, hq]
theorem flat_mid (us rest : List Votev) (v : Votev) (r : Nat) (hr : r < 6) : (flatVt (us ++ v :: rest))[us.length * 6 + r]? = v.cells[r]? := by
  rw [flatVt_get (us ++ v :: rest) us.length r (by simp) hr]
  simp
/-- The cells behind the stores. -/
theorem flat_put {W : World} {g o : Nat} {us rest : List Votev} {v : Votev} (x : Valv) (h : ∀ p u, (flatVt (us ++ v :: rest))[p]? = some u → W.cell? ⟨g, o + p, none⟩ = some u) (q : Nat) (hq : q = o + us.length * 6 + 3) :
    ∀ p u, (flatVt (us ++ { v with v := x } :: rest))[p]? = some u → (W.setCells g q [.int .i64 x.k, .slice x.A x.n x.c, .slice x.D x.m x.d]).cell? ⟨g, o + p, none⟩ = some u := by
  subst hq
  intro p u hu
  have hin := World.cell?_setCells_in g [.int .i64 x.k, .slice x.A x.n x.c, .slice x.D x.m x.d] (o + us.length * 6 + 3) W (fun j hj => by
    have hj3 : j < 3 := hj
    have e := flat_mid us rest v (3 + j) (by omega)
    have hs : ∃ y, v.cells[3 + j]? = some y := ⟨_, List.getElem?_eq_getElem (show 3 + j < v.cells.length from by show 3 + j < 6; omega)⟩
    obtain ⟨y, hy⟩ := hs
    have := h _ _ (e.trans hy)
    rw [show o + us.length * 6 + 3 + j = o + (us.length * 6 + (3 + j)) from by omega, this]
    rfl)
  by_cases hr : us.length * 6 + 3 ≤ p ∧ p < us.length * 6 + 6
  · obtain ⟨h3, h6⟩ := hr
    obtain ⟨j, rfl⟩ : ∃ j, p = us.length * 6 + 3 + j := ⟨p - (us.length * 6 + 3), by omega⟩
    have hj : j < 3 := by omega
    have e := hin j hj
    rw [show o + (us.length * 6 + 3 + j) = o + us.length * 6 + 3 + j from by omega, e, ← hu, show us.length * 6 + 3 + j = us.length * 6 + (3 + j) from by omega, flat_mid us rest _ (3 + j) (by omega)]
    match j, hj with
    | 0, _ => rfl
    | 1, _ => rfl
    | 2, _ => rfl
  · rw [World.cell?_setCells_out g _ _ W ⟨g, o + p, none⟩ (fun _ _ => by
      show o + p < o + us.length * 6 + 3 ∨ o + us.length * 6 + 3 + 3 ≤ o + p
      omega)]
    rw [flat_other us rest v x p (by omega) (by omega) (by omega)] at hu
    exact h p u hu
theorem OwnVt.shape {w : World} {base : Nat} {v : Value} {vs : List Votev} (h : OwnVt w base v vs) (n : Nat) (hn : vs.length = n) : ∃ A c g o, v = .slice A n c ∧ (0 < n → A = some ⟨g, o, none⟩ ∧ base ≤ g ∧ g < w.heap.size ∧ Free w g ∧ ∀ p u, (flatVt vs)[p]? = some u → w.cell? ⟨g, o + p, none⟩ = some u) ∧ ∀ k o, A = some ⟨k, o, none⟩ → base ≤ k ∧ k < w.heap.size := by
  subst hn
  have hlt := h.lt
  rcases h.2 with ⟨hv, hn⟩ | ⟨g, cap, cur, hv, hg, hh, hnc, hm, hcs, ht⟩
  · refine ⟨none, 0, 0, 0, by rw [hv, hn], fun h0 => by omega, fun k o e => by cases e⟩
  · refine ⟨_, cap, g, 0, hv, fun _ => ⟨rfl, hg, lt_of_block hh, ⟨_, _, hh⟩, fun j u hu => ?_⟩, fun k o e => hlt k (by rw [hv]; exact own_block e)⟩
    rw [← ht] at hu
    have hj : j < vs.length * 6 := by
      rcases Nat.lt_or_ge j (vs.length * 6) with h1 | h1
      · exact h1
      · rw [List.getElem?_eq_none (by rw [List.length_take]; omega)] at hu; cases hu
    rw [List.getElem?_take_of_lt hj] at hu
    rw [Nat.zero_add]
    simp only [World.cell?, hh]
    simpa using hu
/-- Within the loop of Clone: us are done. -/
structure CL (n g o : Nat) (vs : List Votev) (w4 W : World) (j : Nat) (us : List Votev) : Prop where
  len : us.length = j
  lg : us.map Votev.lg = (vs.take j).map Votev.lg
  kp : Kept (fun k => k = g ∧ 0 < n) w4 W
  fr : 0 < n → Free W g
  ce : 0 < n → ∀ p u, (flatVt (us ++ vs.drop j))[p]? = some u → W.cell? ⟨g, o + p, none⟩ = some u
  iv : ∀ x ∈ us, IsV W W.heap.size x.v.A x.v.n x.v.D x.v.m x.v.cs x.v.ns
  re : ∀ x ∈ us, ∀ k, ReachV x.v k → w4.heap.size ≤ k ∧ k < W.heap.size
theorem CL.below {n g o : Nat} {vs : List Votev} {w4 W W' : World} {j : Nat} {us : List Votev} (h : CL n g o vs w4 W j us) (hg : 0 < n → g < w4.heap.size) (hb : Below W.heap.size W W') : CL n g o vs w4 W' j us := by
  have hz := h.kp.size
  have hz' := hb.size
  refine ⟨h.len, h.lg, h.kp.step (Kept.of_below (F := fun _ => False) hb) (fun k hk => hk.elim), fun h0 => (h.fr h0).keep (hb.block g (by have := hg h0; omega)), fun h0 p u hu => (World.cell?_of_block (w := W) (a := ⟨g, o + p, none⟩) (hb.block g (by have := hg h0; omega))).trans (h.ce h0 p u hu), fun x hx => ((h.iv x hx).keepR (v := x.v) fun k _ hlt => hb.block k hlt).more hz', fun x hx k hr => ?_⟩
  have := h.re x hx k hr
  omega
/-- One vote more is done. -/
theorem CL.more {n g o : Nat} {vs : List Votev} {w4 W : World} {j : Nat} {us : List Votev} (h : CL n g o vs w4 W j us) (hg : g < w4.heap.size) (h0 : 0 < n) (hj : j < vs.length) (x : Valv) (W' : World)
    (hl : (⟨vs[j].sl, vs[j].br, vs[j].bn, x⟩ : Votev).lg = vs[j].lg) (hx : IsV W W.heap.size x.A x.n x.D x.m x.cs x.ns) (hr : ∀ k, ReachV x k → w4.heap.size ≤ k ∧ k < W.heap.size) (q : Nat) (hq : q = o + j * 6 + 3)
    (hW : W.setCells g q [.int .i64 x.k, .slice x.A x.n x.c, .slice x.D x.m x.d] = W') : CL n g o vs w4 W' (j + 1) (us ++ [⟨vs[j].sl, vs[j].br, vs[j].bn, x⟩]) := by
  have hk : Kept (fun k => k = g ∧ 0 < n) W W' := by
    rw [← hW]
    exact (((Kept.refl (fun k => k = g ∧ 0 < n) W).setCell (p := ⟨g, q, none⟩) (.inl ⟨rfl, h0⟩) _).setCell (p := ⟨g, q + 1, none⟩) (.inl ⟨rfl, h0⟩) _).setCell (p := ⟨g, q + 1 + 1, none⟩) (.inl ⟨rfl, h0⟩) _
  have hz := hk.size
  have hz4 := h.kp.size
  have hall : ∀ y ∈ us ++ [(⟨vs[j].sl, vs[j].br, vs[j].bn, x⟩ : Votev)], IsV W W.heap.size y.v.A y.v.n y.v.D y.v.m y.v.cs y.v.ns ∧ ∀ k, ReachV y.v k → w4.heap.size ≤ k ∧ k < W.heap.size := fun y hy => by
    rcases List.mem_append.1 hy with h1 | h1
    · exact ⟨h.iv y h1, h.re y h1⟩
    · rw [List.mem_singleton.1 h1]; exact ⟨hx, hr⟩
  refine ⟨by simp [h.len], ?_, h.kp.step hk (fun k hk => .inl hk), fun _ => ?_, fun _ => ?_, fun y hy => ?_, fun y hy k hr => ?_⟩
  · rw [List.take_succ_eq_append_getElem hj, List.map_append, List.map_append, h.lg]
    exact congrArg _ (congrArg (fun z => [z]) hl)
  · rw [← hW]
    obtain ⟨cur, t, e⟩ := h.fr h0
    exact ⟨((cur.set! q (.int .i64 x.k)).set! (q + 1) (.slice x.A x.n x.c)).set! (q + 1 + 1) (.slice x.D x.m x.d), t, by simp [World.setCells, World.setCell, Array.getElem?_modify, e]⟩
  · have hd : vs.drop j = vs[j] :: vs.drop (j + 1) := List.drop_eq_getElem_cons hj
    have hc := h.ce h0
    rw [hd] at hc
    have := flat_put (W := W) (g := g) (o := o) x hc q (by rw [h.len]; exact hq)
    rw [hW] at this
    rw [List.append_assoc]
    exact this
  · exact (((hall y hy).1.keepR (v := y.v) fun k hr hlt => hk.block k hlt (fun e => by have := (hall y hy).2 k hr; omega)).more hz)
  · have := (hall y hy).2 k hr
    omega
end Go.Proofs.YtapbcpilklhoiabDoor

namespace Go.Proofs.YtapbcpilklhoiabDoor
open Go.RowKit

theorem results_mclone {tmps : Array Value} {w : World} {g : Nat} {A : Array Value} {t : TypeId} (h2 : tmps.getD 2 undef = .pointer (some ⟨g, 0, none⟩)) (hA : w.heap[g]? = some (.cells A t (0, 0))) (sA : A.size = 25) :
    (results Tryd.f19 tmps).run Tryd.prog w = .ok (.agg A) w := by
  have h2' : tmps[2]?.getD undef = .pointer (some ⟨g, 0, none⟩) := by simpa using h2
  have i1 : (Tryd.prog.info? 37).map (·.size) = some A.size := by rw [sA]; kernel_rfl
  have e1 := run_loadVar_row (P := Tryd.prog) w g t 37 A (0, 0) _ hA Tryd.underlying37 rfl i1
  simp [results, Tryd.results19, h2', asAddr, e1]
theorem range3 {w : World} {g : Nat} {t : TypeId} {a0 a1 a2 a3 a4 a5 : Value} (h : w.heap[g]? = some (.cells #[a0, a1, a2, a3, a4, a5] t (0, 0))) : w.rangeAt g 3 [a3, a4, a5] := by
  intro j v hv
  rw [cell_of_row _ _ _ _ _ _ h]
  match j with
  | 0 => exact hv
  | 1 => exact hv
  | 2 => exact hv
  | j + 3 => simp at hv
theorem there3 {n g o : Nat} {vs : List Votev} {w4 W : World} {j : Nat} {us : List Votev} (h : CL n g o vs w4 W j us) (h0 : 0 < n) (hj : j < vs.length) : W.there g (o + j * 6 + 3) 3 := by
  intro i hi
  refine ⟨?_, (h.fr h0).ice _⟩
  have hd : vs.drop j = vs[j] :: vs.drop (j + 1) := List.drop_eq_getElem_cons hj
  have hc := h.ce h0
  rw [hd] at hc
  have e := flat_mid us (vs.drop (j + 1)) vs[j] (3 + i) (by omega)
  rw [h.len] at e
  have hy := hc _ _ (e.trans (List.getElem?_eq_getElem (show 3 + i < vs[j].cells.length from by show 3 + i < 6; omega)))
  rw [show o + j * 6 + 3 + i = o + (j * 6 + (3 + i)) from by omega, hy]
  rfl
/-- The six cells of the vote that is next. -/
theorem CL.row {n g o : Nat} {vs : List Votev} {w4 W : World} {j : Nat} {us : List Votev} (h : CL n g o vs w4 W j us) (h0 : 0 < n) (hj : j < vs.length) (r : Nat) (hr : r < 6) : W.cell? ⟨g, o + j * 6 + r, none⟩ = vs[j].cells[r]? := by
  have hd : vs.drop j = vs[j] :: vs.drop (j + 1) := List.drop_eq_getElem_cons hj
  have hc := h.ce h0
  rw [hd] at hc
  have e := flat_mid us (vs.drop (j + 1)) vs[j] r hr
  rw [h.len] at e
  have hs := List.getElem?_eq_getElem (show r < vs[j].cells.length from hr)
  have hy := hc _ _ (e.trans hs)
  rw [show o + j * 6 + r = o + (j * 6 + r) from by omega, hy, hs]
theorem CL.last {n g o : Nat} {vs : List Votev} {w4 W : World} {us : List Votev} {A : Option Addr} (h : CL n g o vs w4 W n us) (hn : vs.length = n) (hA : 0 < n → A = some ⟨g, o, none⟩) (hg : 0 < n → g < w4.heap.size) : HasVt W W.heap.size A us := by
  intro i hi
  have h0 : 0 < n := by have := h.len; omega
  have hc := h.ce h0
  rw [List.drop_of_length_le (by omega), List.append_nil] at hc
  have key : ∀ r, r < 6 → ∀ u, us[i].cells[r]? = some u → W.cell? ⟨g, o + i * 6 + r, none⟩ = some u := fun r hr u hu => by
    rw [show o + i * 6 + r = o + (i * 6 + r) from by omega]
    exact hc _ _ ((flatVt_get us i r hi hr).trans hu)
  exact ⟨⟨g, o, hA h0, by have := hg h0; have := h.kp.size; omega, key 0 (by omega) _ rfl, key 1 (by omega) _ rfl, key 2 (by omega) _ rfl, key 3 (by omega) _ rfl, key 4 (by omega) _ rfl, key 5 (by omega) _ rfl⟩, h.iv _ (List.getElem_mem hi)⟩

/-- How a clone ends. -/
def MCloneEnds (x : Msgl) (w : World) (e : Ending) (w' : World) : Prop :=
  ∃ m : Msgv, e = .returned (.agg m.cells) ∧ m.lg = x ∧ IsM w' w'.heap.size m ∧ (∀ k, ReachM m k → w.heap.size ≤ k ∧ k < w'.heap.size) ∧ Below w.heap.size w w'

set_option maxRecDepth 20000 in
set_option maxHeartbeats 3200000 in
theorem mclone_any (m : Msgv) (B : Nat) (w : World) (hm : IsM w B m) (hB : B ≤ w.heap.size) (hvn : m.vn ≤ 1759218604440) :
    Calls Tryd.prog 19 #[.agg m.cells] w (MCloneEnds m.lg w) := by
  have HMM : Hid (∀ W, Below w.heap.size w W → IsM W B m) := hide (fun W h => hm.below (h.mono hB))
  clear hm
  go_enter Tryd.func19, Tryd.ntmps19
  go_upto_region 1 with fail
  have hp0 := (Below.heap_alloc (w.alloc (.cells m.cells 37)) (.cells #[.int .i64 0, .int .i64 0, .int .i64 0, .int .i64 0, .int .i64 0, .int .i64 0, .int .i64 0, .int .i64 0, .int .i64 0, .int .i64 0, .slice none 0 0, .slice none 0 0, .slice none 0 0, .int .i64 0, .int .i64 0, .int .i64 0, .int .i64 0, .int .i64 0, .int .i64 0, .int .i64 0, .int .i64 0, .int .i64 0, .int .i64 0, .int .i64 0, .slice none 0 0] 37) w.heap.size (by simp)).trans (heap_alloc_new w (.cells m.cells 37))
  have hr0 := heap_alloc_new (w.alloc (.cells m.cells 37)) (.cells #[.int .i64 0, .int .i64 0, .int .i64 0, .int .i64 0, .int .i64 0, .int .i64 0, .int .i64 0, .int .i64 0, .int .i64 0, .int .i64 0, .slice none 0 0, .slice none 0 0, .slice none 0 0, .int .i64 0, .int .i64 0, .int .i64 0, .int .i64 0, .int .i64 0, .int .i64 0, .int .i64 0, .int .i64 0, .int .i64 0, .int .i64 0, .int .i64 0, .slice none 0 0] 37)
  have b0 : Below w.heap.size w ((w.alloc (.cells m.cells 37)).alloc (.cells #[.int .i64 0, .int .i64 0, .int .i64 0, .int .i64 0, .int .i64 0, .int .i64 0, .int .i64 0, .int .i64 0, .int .i64 0, .int .i64 0, .slice none 0 0, .slice none 0 0, .slice none 0 0, .int .i64 0, .int .i64 0, .int .i64 0, .int .i64 0, .int .i64 0, .int .i64 0, .int .i64 0, .int .i64 0, .int .i64 0, .int .i64 0, .int .i64 0, .slice none 0 0] 37)) := by go_grown
  rw [show (w.alloc (.cells m.cells 37)).heap.size = w.heap.size + 1 by simp] at hr0
  have hs0 : w.heap.size + 1 < ((w.alloc (.cells m.cells 37)).alloc (.cells #[.int .i64 0, .int .i64 0, .int .i64 0, .int .i64 0, .int .i64 0, .int .i64 0, .int .i64 0, .int .i64 0, .int .i64 0, .int .i64 0, .slice none 0 0, .slice none 0 0, .slice none 0 0, .int .i64 0, .int .i64 0, .int .i64 0, .int .i64 0, .int .i64 0, .int .i64 0, .int .i64 0, .int .i64 0, .int .i64 0, .int .i64 0, .int .i64 0, .slice none 0 0] 37)).heap.size := by simp
  generalize (w.alloc (.cells m.cells 37)).alloc (.cells #[.int .i64 0, .int .i64 0, .int .i64 0, .int .i64 0, .int .i64 0, .int .i64 0, .int .i64 0, .int .i64 0, .int .i64 0, .int .i64 0, .slice none 0 0, .slice none 0 0, .slice none 0 0, .int .i64 0, .int .i64 0, .int .i64 0, .int .i64 0, .int .i64 0, .int .i64 0, .int .i64 0, .int .i64 0, .int .i64 0, .int .i64 0, .int .i64 0, .slice none 0 0] 37) = W0 at *
  generalize hg2 : w.heap.size + 1 = g2 at *
  have hlt2 : w.heap.size < g2 := by omega
  clear hg2
  have HR0 := hide hr0
  clear hr0
  have hm0 := HMM.out _ b0
  have hz0 := b0.size
  have c9 := (row_cells hp0 9).1
  have c10 := (row_cells hp0 10).1
  have c11 := (row_cells hp0 11).1
  simp only [Msgv.cells, List.getElem?_toArray, List.getElem?_cons_succ, List.getElem?_cons_zero] at c9 c10 c11
  go_wp2_with fail
  refine (vclone_any m.v.k m.v.A m.v.D m.v.n m.v.c m.v.m m.v.d B m.v.cs m.v.ns W0 hm0.v.c hm0.v.i (by omega) hm0.v.en hm0.v.em hm0.v.ln (by have := hm0.v.lm; omega)).mono ?_
  rintro e w1 ⟨A1, c1, D1, d1, rfl, hoc, hoi, b1⟩
  have hp1 := (b1.block w.heap.size (by omega)).trans hp0
  have HR1 := hide ((b1.block g2 (by omega)).trans HR0.out)
  have hz1 := b1.size
  obtain ⟨q9, f9⟩ := row_cells hp1 9
  obtain ⟨q10, f10⟩ := row_cells hp1 10
  obtain ⟨q11, f11⟩ := row_cells hp1 11
  simp only [Msgv.cells, List.getElem?_toArray, List.getElem?_cons_succ, List.getElem?_cons_zero] at q9 q10 q11
  clear c9 c10 c11 hp0 HR0
  go_upto_region 2 with fail
  have hp2 : (((w1.setCell ⟨w.heap.size, 9, none⟩ (.int .i64 m.v.k)).setCell ⟨w.heap.size, 10, none⟩ (.slice A1 m.v.n c1)).setCell ⟨w.heap.size, 11, none⟩ (.slice D1 m.v.m d1)).heap[w.heap.size]? = some (.cells ({ m with v := ⟨m.v.k, A1, m.v.n, c1, D1, m.v.m, d1, m.v.cs, m.v.ns⟩ } : Msgv).cells 37 (0, 0)) := by simp [World.setCell, Array.getElem?_modify, hp1, Msgv.cells]
  have hk2 : Kept (fun k => k = w.heap.size) w1 (((w1.setCell ⟨w.heap.size, 9, none⟩ (.int .i64 m.v.k)).setCell ⟨w.heap.size, 10, none⟩ (.slice A1 m.v.n c1)).setCell ⟨w.heap.size, 11, none⟩ (.slice D1 m.v.m d1)) := ((((Kept.refl (fun k => k = w.heap.size) w1).setCell (p := ⟨w.heap.size, 9, none⟩) (.inl rfl) _).setCell (p := ⟨w.heap.size, 10, none⟩) (.inl rfl) _).setCell (p := ⟨w.heap.size, 11, none⟩) (.inl rfl) _)
  generalize ((w1.setCell ⟨w.heap.size, 9, none⟩ (.int .i64 m.v.k)).setCell ⟨w.heap.size, 10, none⟩ (.slice A1 m.v.n c1)).setCell ⟨w.heap.size, 11, none⟩ (.slice D1 m.v.m d1) = w2 at *
  clear q9 q10 q11 f9 f10 f11 hp1
  have hoc2 := hoc.keep fun k hk => hk2.block k ((hoc.lt k hk).2) (by have := (hoc.lt k hk).1; omega)
  have hoi2 := hoi.keep fun k hk => hk2.block k ((hoi.lt k hk).2) (by have := (hoi.lt k hk).1; omega)
  have HR2 := hide ((hk2.block g2 (by omega) (by omega)).trans HR1.out)
  have b2 := (b0.trans (b1.mono b0.size)).trans (hk2.below (by omega) (fun k hk => by omega))
  have hm2 := HMM.out _ b2
  have hz2 := hk2.size
  have c12 := (row_cells hp2 12).1
  simp only [Msgv.cells, List.getElem?_toArray, List.getElem?_cons_succ, List.getElem?_cons_zero] at c12
  clear HR1 b0 b1 hk2 hoc hoi
  go_wp2_with fail
  refine (clonevt_any m.VA m.vn m.vc B m.vs w2 hm2.vt (by omega) hm2.en hvn).mono ?_
  rintro e w3 ⟨v3, rfl, hv3, b3⟩
  obtain ⟨A3, c3, g3, o3, rfl, hA3, hl3⟩ := hv3.shape m.vn hm2.en
  have hp3 := (b3.block w.heap.size (by omega)).trans hp2
  have HR3 := hide ((b3.block g2 (by omega)).trans HR2.out)
  have hz3 := b3.size
  have HOZ : Hid ((∀ k, (Value.slice A1 m.v.n c1).ownBlock = some k → k < w2.heap.size) ∧ ∀ k, (Value.slice D1 m.v.m d1).ownBlock = some k → k < w2.heap.size) := hide ⟨fun k hk => (hoc2.lt k hk).2, fun k hk => (hoi2.lt k hk).2⟩
  have hoc3 := hoc2.below b3
  have hoi3 := hoi2.below b3
  obtain ⟨q12, f12⟩ := row_cells hp3 12
  simp only [Msgv.cells, List.getElem?_toArray, List.getElem?_cons_succ, List.getElem?_cons_zero] at q12
  have HEN := hide hm2.en
  have HVN := hide hvn
  clear c12 hp2 HR2 hoc2 hoi2 hv3 hvn
  go_upto_region 3 with fail
  have hp4 : (w3.setCell ⟨w.heap.size, 12, none⟩ (.slice A3 m.vn c3)).heap[w.heap.size]? = some (.cells ({ m with v := ⟨m.v.k, A1, m.v.n, c1, D1, m.v.m, d1, m.v.cs, m.v.ns⟩, VA := A3, vc := c3 } : Msgv).cells 37 (0, 0)) := by simp [World.setCell, Array.getElem?_modify, hp3, Msgv.cells]
  have hk4 : Kept (fun k => k = w.heap.size) w3 (w3.setCell ⟨w.heap.size, 12, none⟩ (.slice A3 m.vn c3)) := ((Kept.refl (fun k => k = w.heap.size) w3).setCell (p := ⟨w.heap.size, 12, none⟩) (.inl rfl) _)
  generalize w3.setCell ⟨w.heap.size, 12, none⟩ (.slice A3 m.vn c3) = w4 at *
  clear q12 f12 hp3
  have hoc4 := hoc3.keep fun k hk => hk4.block k ((hoc3.lt k hk).2) (by have := (hoc3.lt k hk).1; omega)
  have hoi4 := hoi3.keep fun k hk => hk4.block k ((hoi3.lt k hk).2) (by have := (hoi3.lt k hk).1; omega)
  have HR4 := hide ((hk4.block g2 (by omega) (by omega)).trans HR3.out)
  have b4 := (b2.trans (b3.mono b2.size)).trans (hk4.below (by omega) (fun k hk => by omega))
  have hz4 := hk4.size
  have HA3 : Hid (0 < m.vn → A3 = some ⟨g3, o3, none⟩) := hide (fun h => (hA3 h).1)
  have HG3 : Hid (0 < m.vn → w2.heap.size ≤ g3 ∧ g3 < w4.heap.size) := hide (fun h => ⟨(hA3 h).2.1, by have := (hA3 h).2.2.1; omega⟩)
  have HL3 : Hid (∀ k o, A3 = some ⟨k, o, none⟩ → w2.heap.size ≤ k ∧ k < w4.heap.size) := hide (fun k o e => by have := hl3 k o e; omega)
  have C4 : CL m.vn g3 o3 m.vs w4 w4 0 [] := ⟨rfl, rfl, Kept.refl _ _, fun h => (hA3 h).2.2.2.1.keep (hk4.block g3 (hA3 h).2.2.1 (by have := (hA3 h).2.1; omega)), fun h p u hu => (World.cell?_of_block (w := w3) (a := ⟨g3, o3 + p, none⟩) (hk4.block g3 (hA3 h).2.2.1 (by have := (hA3 h).2.1; omega))).trans ((hA3 h).2.2.2.2 p u hu), by simp, by simp⟩
  have HVZ : Hid (∀ k, (w3.heap.size ≤ k ∨ k < w2.heap.size) → ¬ (k = g3 ∧ 0 < m.vn)) := hide (fun k hk e => by have := (hA3 e.2).2.1; have := (hA3 e.2).2.2.1; omega)
  have HP4 := hide hp4
  have HOC4 := hide hoc4
  have HOI4 := hide hoi4
  have HB4 := hide b4
  have c12 := (row_cells hp4 12).1
  simp only [Msgv.cells, List.getElem?_toArray, List.getElem?_cons_succ, List.getElem?_cons_zero] at c12
  clear HR3 b2 b3 hk4 hoc3 hoi3 hA3 hl3 hp4 hoc4 hoi4 b4
  go_wp2_with fail
  go_loopw [16] (fun i wr => ∃ (j : Nat) (us : List Votev), j ≤ m.vn ∧ i = .int .i64 j ∧ CL m.vn g3 o3 m.vs w4 wr j us) (fun i _ => m.vn - (intOf i).toNat)
  case atStart => exact ⟨0, [], Nat.zero_le _, rfl, C4⟩
  case round =>
    clear C4 c12
    obtain ⟨j, us, hj, rfl, hC⟩ := hrel
    have hzr := hC.kp.size
    have hvn' := HVN.out
    by_cases hlt : j < m.vn
    · have h0 : 0 < m.vn := by omega
      have hlt' : j < m.vs.length := by rw [HEN.out]; exact hlt
      have HJ := hide hlt
      obtain ⟨hg2', hg3⟩ := HG3.out h0
      have hA := HA3.out h0
      have HG3' := hide hg3
      have bwr : Below w.heap.size w wr := HB4.out.trans (hC.kp.below (by omega) (fun k hk => by omega))
      have hbr := (hC.kp.block w.heap.size (by omega) (by omega)).trans HP4.out
      have c12 := (row_cells hbr 12).1
      simp only [Msgv.cells, List.getElem?_toArray, List.getElem?_cons_succ, List.getElem?_cons_zero] at c12
      rw [hA] at c12
      have HVR : Hid (∀ W, Below w.heap.size w W → IsV W B m.vs[j].v.A m.vs[j].v.n m.vs[j].v.D m.vs[j].v.m m.vs[j].v.cs m.vs[j].v.ns) := hide (fun W h => ((HMM.out W h).vt j hlt').2)
      have HMORE : Hid (∀ (x : Valv) (W W' : World), CL m.vn g3 o3 m.vs w4 W j us → (⟨m.vs[j].sl, m.vs[j].br, m.vs[j].bn, x⟩ : Votev).lg = m.vs[j].lg → IsV W W.heap.size x.A x.n x.D x.m x.cs x.ns → (∀ k, ReachV x k → w4.heap.size ≤ k ∧ k < W.heap.size) → W.setCells g3 (o3 + j * 6 + 3) [.int .i64 x.k, .slice x.A x.n x.c, .slice x.D x.m x.d] = W' → CL m.vn g3 o3 m.vs w4 W' (j + 1) (us ++ [⟨m.vs[j].sl, m.vs[j].br, m.vs[j].bn, x⟩])) := hide (fun x W W' hC hl hx hr hW => hC.more HG3'.out h0 hlt' x W' hl hx hr _ rfl hW)
      have HTH : Hid (∀ W, CL m.vn g3 o3 m.vs w4 W j us → W.there g3 (o3 + j * 6 + 3) 3) := hide (fun W h => there3 h h0 hlt')
      have e0 := hC.row h0 hlt' 0 (by omega)
      have e1 := hC.row h0 hlt' 1 (by omega)
      have e2 := hC.row h0 hlt' 2 (by omega)
      have e3 := hC.row h0 hlt' 3 (by omega)
      have e4 := hC.row h0 hlt' 4 (by omega)
      have e5 := hC.row h0 hlt' 5 (by omega)
      simp only [Votev.cells, List.getElem?_cons_succ, List.getElem?_cons_zero, Nat.add_zero] at e0 e1 e2 e3 e4 e5
      generalize m.vs[j] = v at *
      subst hA
      have HC := hide hC
      clear hC
      go_upto_region 6 with fail
      have hpv := heap_alloc_new wr (.cells #[.int .i64 v.sl, .int .i64 v.br, .int .i64 v.bn, .int .i64 v.v.k, .slice v.v.A v.v.n v.v.c, .slice v.v.D v.v.m v.v.d] 54)
      have ba := (Below.refl _ wr).alloc (Nat.le_refl _) (.cells #[.int .i64 v.sl, .int .i64 v.br, .int .i64 v.bn, .int .i64 v.v.k, .slice v.v.A v.v.n v.v.c, .slice v.v.D v.v.m v.v.d] 54)
      generalize wr.alloc (.cells #[.int .i64 v.sl, .int .i64 v.br, .int .i64 v.bn, .int .i64 v.v.k, .slice v.v.A v.v.n v.v.c, .slice v.v.D v.v.m v.v.d] 54) = w5 at *
      have hz5 := lt_of_block hpv
      have b5 : Below w.heap.size w w5 := bwr.trans (ba.mono bwr.size)
      have C5 := HC.out.below (fun _ => HG3'.out) ba
      have HPV : Hid (∀ W, Kept (fun k => k = g3) w5 W → W.heap[wr.heap.size]? = some (.cells #[.int .i64 v.sl, .int .i64 v.br, .int .i64 v.bn, .int .i64 v.v.k, .slice v.v.A v.v.n v.v.c, .slice v.v.D v.v.m v.v.d] 54 (0, 0))) := hide (fun W h => (h.block _ hz5 (by omega)).trans hpv)
      have HB12 : Hid (∀ W, Kept (fun k => k = g3) w5 W → W.cell? ⟨w.heap.size, 12, none⟩ = some (.slice (some ⟨g3, o3, none⟩) m.vn c3)) := hide (fun W h => (h.cell (by omega) (by omega)).trans ((World.cell?_of_block (w := wr) (a := ⟨w.heap.size, 12, none⟩) (ba.block w.heap.size (by omega))).trans c12))
      have HIX := hide (HVR.out _ b5)
      clear e0 e1 e2 e3 e4 e5 c12 hpv
      go_wp2_with fail
      refine wp_region_held_drew (S := fun W => Kept (fun k => k = g3) w5 W) (by kernel_rfl) (Kept.refl _ w5).drew (fun hHeld => ?_)
      have b5d := (Below.refl w5.heap.size w5).drew
      have C6 := C5.below (fun _ => HG3'.out) b5d
      have hs6 : w5.heap.size ≤ w5.drew.heap.size := Nat.le_refl _
      have b6 : Below w.heap.size w w5.drew := b5.trans (b5d.mono b5.size)
      clear C5 b5d
      generalize w5.drew = w6 at *
      refine wpAnyH_take (i := 0) (oi := _) (v := .pointer (some ⟨w.heap.size, 12, none⟩)) rfl (by kernel_rfl) (by kernel_rfl) (by kernel_rfl) (fun _ _ _ h => h) (Or.inl ⟨by rfl, fun w' hSw => by go_simp⟩) hHeld ?_
      (try simp only [Act.put, List.setIfInBounds_toArray, List.set_cons_zero, List.set_cons_succ, List.getElem_toArray, List.getElem_cons_zero, List.getElem_cons_succ])
      refine wpAnyH_take (i := 1) (oi := _) (v := .slice (some ⟨g3, o3, none⟩) m.vn c3) rfl (by kernel_rfl) (by kernel_rfl) (by kernel_rfl) (fun _ _ _ h => h) (Or.inl ⟨by rfl, fun w' hSw => by have c12 := HB12.out _ hSw; go_simp⟩) hHeld ?_
      (try simp only [Act.put, List.setIfInBounds_toArray, List.set_cons_zero, List.set_cons_succ, List.getElem_toArray, List.getElem_cons_zero, List.getElem_cons_succ])
      refine wpAnyH_take (i := 2) (oi := _) (v := .int .i64 j) rfl (by kernel_rfl) (by kernel_rfl) (by kernel_rfl) (fun _ _ _ h => h) (Or.inl ⟨by rfl, fun w' hSw => by go_simp⟩) hHeld ?_
      (try simp only [Act.put, List.setIfInBounds_toArray, List.set_cons_zero, List.set_cons_succ, List.getElem_toArray, List.getElem_cons_zero, List.getElem_cons_succ])
      refine wpAnyH_take (i := 3) (oi := _) (v := .pointer (some ⟨wr.heap.size, 3, none⟩)) rfl (by kernel_rfl) (by kernel_rfl) (by kernel_rfl) (fun _ _ _ h => h) (Or.inl ⟨by rfl, fun w' hSw => by go_simp⟩) hHeld ?_
      (try simp only [Act.put, List.setIfInBounds_toArray, List.set_cons_zero, List.set_cons_succ, List.getElem_toArray, List.getElem_cons_zero, List.getElem_cons_succ])
      refine wpAnyH_take (i := 4) (oi := _) (v := .agg #[.int .i64 v.v.k, .slice v.v.A v.v.n v.v.c, .slice v.v.D v.v.m v.v.d]) rfl (by kernel_rfl) (by kernel_rfl) (by kernel_rfl) (fun _ _ _ h => h) (yieldsIf_load_mid (by rfl) 27 (.tmp 24) rfl wr.heap.size 3 rfl [.int .i64 v.v.k, .slice v.v.A v.v.n v.v.c, .slice v.v.D v.v.m v.v.d] _ (fun w' hSw => range3 (HPV.out w' hSw)) Tryd.underlying27 rfl (by kernel_rfl)) hHeld ?_
      (try simp only [Act.put, List.setIfInBounds_toArray, List.set_cons_zero, List.set_cons_succ, List.getElem_toArray, List.getElem_cons_zero, List.getElem_cons_succ])
      refine wpAnyH_ready (rs := [5]) (by kernel_rfl) (by simp) ?_
      refine AllReadyH.cons (o := _) rfl (fun K hK => ?_) AllReadyH.nil
      simp only [List.getElem_toArray, List.getElem_cons_zero, List.getElem_cons_succ]
      go_simp
      refine (vclone_any v.v.k v.v.A v.v.D v.v.n v.v.c v.v.m v.v.d B v.v.cs v.v.ns w6 (HVR.out _ b6).c (HVR.out _ b6).i (by have := b6.size; omega) HIX.out.en HIX.out.em HIX.out.ln (by have := HIX.out.lm; omega)).mono ?_
      rintro e w7 ⟨A7, c7, D7, d7, rfl, hoc7, hoi7, b7⟩
      have hX : Kept (fun k => k = g3) w5 w7 := hHeld.step (Kept.of_below (F := fun _ => False) b7) (fun k hk => hk.elim)
      have C7 := C6.below (fun _ => HG3'.out) b7
      clear C6
      go_wp2_with fail
      refine hK.out _ _ hX (fun hHeld => ?_)
      clear hK hX
      (try simp only [Act.put, List.setIfInBounds_toArray, List.set_cons_zero, List.set_cons_succ, List.getElem_toArray, List.getElem_cons_zero, List.getElem_cons_succ])
      refine wpAnyH_take (i := 6) (oi := _) (v := .pointer (some ⟨g3, o3 + j * 6, none⟩)) rfl (by kernel_rfl) (by kernel_rfl) (by kernel_rfl) (fun _ _ _ h => h) (Or.inl ⟨by rfl, fun w' hSw => by go_simp⟩) hHeld ?_
      (try simp only [Act.put, List.setIfInBounds_toArray, List.set_cons_zero, List.set_cons_succ, List.getElem_toArray, List.getElem_cons_zero, List.getElem_cons_succ])
      refine wpAnyH_take (i := 7) (oi := _) (v := .pointer (some ⟨g3, o3 + j * 6 + 3, none⟩)) rfl (by kernel_rfl) (by kernel_rfl) (by kernel_rfl) (fun _ _ _ h => h) (Or.inl ⟨by rfl, fun w' hSw => by go_simp⟩) hHeld ?_
      (try simp only [Act.put, List.setIfInBounds_toArray, List.set_cons_zero, List.set_cons_succ, List.getElem_toArray, List.getElem_cons_zero, List.getElem_cons_succ])
      have ht7 : w7.there g3 (o3 + j * 6 + 3) 3 := HTH.out w7 C7
      have hlt7 : ∀ k, ReachV ⟨v.v.k, A7, v.v.n, c7, D7, v.v.m, d7, v.v.cs, v.v.ns⟩ k → w4.heap.size ≤ k ∧ k < w7.heap.size := fun k hk => by
        rcases hk with ⟨o, e⟩ | ⟨o, e⟩
        · have := hoc7.lt k (own_block e); omega
        · have := hoi7.lt k (own_block e); omega
      obtain ⟨_, _, _, q1, _, _, i1⟩ := hoc7.form
      obtain ⟨_, _, _, q2, _, _, i2⟩ := hoi7.form
      injection q1 with q11 q12 q13
      injection q2 with q21 q22 q23
      subst q11 q12 q13 q21 q22 q23
      have C8 : CL m.vn g3 o3 m.vs w4 (w7.setCells g3 (o3 + j * 6 + 3) (#[.int .i64 v.v.k, .slice A7 v.v.n c7, .slice D7 v.v.m d7] : Array Value).toList) (j + 1) (us ++ [⟨v.sl, v.br, v.bn, ⟨v.v.k, A7, v.v.n, c7, D7, v.v.m, d7, v.v.cs, v.v.ns⟩⟩]) := HMORE.out ⟨v.v.k, A7, v.v.n, c7, D7, v.v.m, d7, v.v.cs, v.v.ns⟩ w7 _ C7 rfl ⟨i1, i2, HIX.out.en, HIX.out.em, HIX.out.ln, HIX.out.lm, HIX.out.cc⟩ hlt7 rfl
      refine wpAnyH_ready (rs := [8]) (by kernel_rfl) (by simp) ?_
      refine AllReadyH.cons (o := _) rfl (fun K hK => ?_) AllReadyH.nil
      (try simp only [List.getElem_toArray, List.getElem_cons_zero, List.getElem_cons_succ])
      rw [if_pos (by rfl)]
      refine wp_store_mid 27 (.tmp 28) (.tmp 26) rfl g3 (o3 + j * 6 + 3) #[.int .i64 v.v.k, .slice A7 v.v.n c7, .slice D7 v.v.m d7] rfl rfl ht7 (by kernel_rfl) (by simp; exact ⟨rfl, rfl, rfl⟩) ?_
      refine hK.out _ _ (((hHeld.setCell (p := ⟨g3, o3 + j * 6 + 3, none⟩) (.inl rfl) _).setCell (p := ⟨g3, o3 + j * 6 + 3 + 1, none⟩) (.inl rfl) _).setCell (p := ⟨g3, o3 + j * 6 + 3 + 1 + 1, none⟩) (.inl rfl) _) (fun hHeld => ?_)
      clear hK C7
      (try simp only [Act.put, List.setIfInBounds_toArray, List.set_cons_zero, List.set_cons_succ, List.getElem_toArray, List.getElem_cons_zero, List.getElem_cons_succ])
      refine wpAnyH_done (by kernel_rfl) ?_ _
      generalize w7.setCells g3 (o3 + j * 6 + 3) (#[.int .i64 v.v.k, .slice A7 v.v.n c7, .slice D7 v.v.m d7] : Array Value).toList = w8 at *
      go_wp2_with fail
      exact ⟨⟨j + 1, us ++ [⟨v.sl, v.br, v.bn, ⟨v.v.k, A7, v.v.n, c7, D7, v.v.m, d7, v.v.cs, v.v.ns⟩⟩], by have := HJ.out; omega, by go_num, C8⟩, by have := HJ.out; simp [intOf]; omega⟩
    · obtain rfl : j = m.vn := by omega
      have hus := hC.last HEN.out HA3.out (fun h => (HG3.out h).2)
      have bwr : Below w.heap.size w wr := HB4.out.trans (hC.kp.below (by omega) (fun k hk => by have := (HG3.out hk.2).1; omega))
      have hp5 := (hC.kp.block w.heap.size (by omega) (fun hk => by have := (HG3.out hk.2).1; omega)).trans HP4.out
      have HR5 := hide ((hC.kp.block g2 (by omega) (fun hk => by have := (HG3.out hk.2).1; omega)).trans HR4.out)
      have hoc5 := HOC4.out.keep fun k hk => hC.kp.block k ((HOC4.out.lt k hk).2) (HVZ.out k (.inr (HOZ.out.1 k hk)))
      have hoi5 := HOI4.out.keep fun k hk => hC.kp.block k ((HOI4.out.lt k hk).2) (HVZ.out k (.inr (HOZ.out.2 k hk)))
      have hm5 := HMM.out _ bwr
      have HUSE := hide hC.lg
      have HRE := hide hC.re
      have hzu := hC.len
      have c24 := (row_cells hp5 24).1
      simp only [Msgv.cells, List.getElem?_toArray, List.getElem?_cons_succ, List.getElem?_cons_zero] at c24
      clear hC HB4 HP4 HR4 HOC4 HOI4
      generalize wr = w5 at *
      go_wp2_with fail
      refine (clone_any m.DA m.dn m.dc B m.ds w5 hm5.d (by have := bwr.size; omega) hm5.ed (by have := hm5.ld; omega)).mono ?_
      rintro e w6 ⟨v6, rfl, ho6, b6⟩
      obtain ⟨D6, n6, d6, rfl, hn6, hnc6, hx6, _⟩ := ho6.form
      obtain rfl : n6 = m.dn := by rw [← hn6.out]; exact hm5.ed
      have hp6 := (b6.block w.heap.size (lt_of_block hp5)).trans hp5
      have HR6 := hide ((b6.block g2 (lt_of_block HR5.out)).trans HR5.out)
      have hoc6 := hoc5.below b6
      have hoi6 := hoi5.below b6
      have hz6 := b6.size
      have hus6 := (hus.below b6).more b6.size
      have bw6 := bwr.trans (b6.mono bwr.size)
      obtain ⟨q24, f24⟩ := row_cells hp6 24
      simp only [Msgv.cells, List.getElem?_toArray, List.getElem?_cons_succ, List.getElem?_cons_zero] at q24
      clear c24 hp5 HR5 hoc5 hoi5 hus b6 bwr
      go_upto_region 9 with fail
      have hp7 : (w6.setCell ⟨w.heap.size, 24, none⟩ (.slice D6 m.dn d6)).heap[w.heap.size]? = some (.cells ({ m with v := ⟨m.v.k, A1, m.v.n, c1, D1, m.v.m, d1, m.v.cs, m.v.ns⟩, VA := A3, vc := c3, vs := us, DA := D6, dc := d6 } : Msgv).cells 37 (0, 0)) := by simp [World.setCell, Array.getElem?_modify, hp6, Msgv.cells]
      have hk7 : Kept (fun k => k = w.heap.size) w6 (w6.setCell ⟨w.heap.size, 24, none⟩ (.slice D6 m.dn d6)) := ((Kept.refl (fun k => k = w.heap.size) w6).setCell (p := ⟨w.heap.size, 24, none⟩) (.inl rfl) _)
      generalize w6.setCell ⟨w.heap.size, 24, none⟩ (.slice D6 m.dn d6) = w7 at *
      have HR7 := hide ((hk7.block g2 (lt_of_block HR6.out) (by omega)).trans HR6.out)
      have hz7 := hk7.size
      clear q24 f24 hp6 HR6
      obtain ⟨_, _, _, e1, _, _, g1⟩ := hoc6.form
      obtain ⟨_, _, _, e2, _, _, g2'⟩ := hoi6.form
      injection e1 with e11 e12 e13
      injection e2 with e21 e22 e23
      subst e11 e12 e13 e21 e22 e23
      have IM6 : IsM w6 w6.heap.size ({ m with v := ⟨m.v.k, A1, m.v.n, c1, D1, m.v.m, d1, m.v.cs, m.v.ns⟩, VA := A3, vc := c3, vs := us, DA := D6, dc := d6 } : Msgv) := ⟨⟨g1, g2', hm5.v.en, hm5.v.em, hm5.v.ln, hm5.v.lm, hm5.v.cc⟩, hus6, hzu, hm5.ln, hx6, hm5.ed, hnc6, hm5.ld, hm5.cm, hm5.i1, hm5.i2, hm5.i3⟩
      have RE6 : ∀ k, ReachM ({ m with v := ⟨m.v.k, A1, m.v.n, c1, D1, m.v.m, d1, m.v.cs, m.v.ns⟩, VA := A3, vc := c3, vs := us, DA := D6, dc := d6 } : Msgv) k → W0.heap.size ≤ k ∧ k < w6.heap.size := by
        rintro k ((⟨o, e⟩ | ⟨o, e⟩) | ⟨o, e⟩ | ⟨x, hx, hr⟩ | ⟨o, e⟩)
        · have := hoc6.lt k (own_block e); omega
        · have := hoi6.lt k (own_block e); omega
        · have := HL3.out k o e; omega
        · have := HRE.out x hx k hr; omega
        · have := ho6.lt k (own_block e); omega
      generalize hM3 : ({ m with v := ⟨m.v.k, A1, m.v.n, c1, D1, m.v.m, d1, m.v.cs, m.v.ns⟩, VA := A3, vc := c3, vs := us, DA := D6, dc := d6 } : Msgv) = M at *
      have hk8 := Kept.of_setRow w7 g2 M.cells
      have hr8 := set_row_at (B := M.cells) HR7.out
      have i25 : (Tryd.prog.info? 37).map (·.size) = some M.cells.size := (show (Tryd.prog.info? 37).map (·.size) = some 25 by kernel_rfl)
      have hone : M.cells.all (·.oneCell') = true := by simp [Msgv.cells, Value.oneCell']
      go_wp2_with (first
        | (refine wpList_load_row rfl 37 _ rfl w.heap.size rfl _ _ _ _ hp7 Tryd.underlying37 rfl i25 ?_)
        | (refine wpList_store_row rfl 37 _ _ rfl g2 M.cells rfl rfl _ _ HR7.out i25 rfl hone ?_; generalize w7.setRow g2 M.cells = w8 at *))
      refine bodyPost_ret (v := .agg M.cells) (results_mclone rfl hr8 rfl) rfl ⟨M, rfl, ?_, ?_, ?_, ?_⟩
      · rw [← hM3]
        unfold Msgv.lg
        simp only
        rw [HUSE.out, List.take_of_length_le (by rw [HEN.out]; exact Nat.le_refl _)]
      · exact (((IM6.keepR fun k hk hlt => hk7.block k hlt (fun e => by have := RE6 k hk; omega)).keepR (w' := w8) fun k hk hlt => hk8.block k (by omega) (fun e => by have := RE6 k hk; omega)).more (by have := hk8.size; omega))
      · intro k hk
        have h5 := RE6 k hk
        have := hk8.size
        omega
      · exact (bw6.trans (hk7.below (by omega) (fun k hk => by omega))).trans (hk8.below (by omega) (fun k hk => by omega))
end Go.Proofs.YtapbcpilklhoiabDoor
