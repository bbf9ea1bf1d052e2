/-
  The reference's Put of package net. Conditions: what is read is in reach.
-/
import Derived.Test.YtpbfibofjkinmaaNetJ
set_option linter.unusedSimpArgs false
set_option linter.unusedVariables false
namespace Go.Proofs.Ytpbfibofjkinmaa
open Go.RowKit

theorem OwnR.flat {w : World} {base : Nat} {e : TypeId} {k g n c : Nat} {rs : List (List Value)} (h : OwnR w base e k (.slice (some ⟨g, 0, none⟩) n c) rs) : ∀ j u, rs.flatten[j]? = some u → w.cell? ((⟨g, 0, none⟩ : Addr).add j) = some u := by
  intro j u hu
  rcases h.row.2 with ⟨hv, _⟩ | ⟨g', cap, cur, hv, hg, hh, hnc, hm, hcs, ht⟩
  · cases hv
  · injection hv with e1 e2 e3
    injection e1 with e1
    injection e1 with e1 _
    subst e1
    rw [← ht] at hu
    have h2 : cur.toList[j]? = some u := by
      rw [List.getElem?_take] at hu
      split at hu
      · exact hu
      · cases hu
    have h3 := (row_cells hh j).1
    rw [show ((⟨g, 0, none⟩ : Addr).add j) = ⟨g, j, none⟩ from by simp [Addr.add]; intro h; omega, h3]
    simpa using h2

theorem copy_own (A : Option Addr) (n c B : Nat) (xs : List UInt8) (w : World) (hx : Has w B A xs) (hB : B ≤ w.heap.size) (hn : xs.length = n) (hl : n ≤ 140737488355328) :
    Calls Try.prog 22 #[.slice A n c] w fun e w' => ∃ g, e = .returned (.slice (some ⟨g, 0, none⟩) n n) ∧ Own w' w.heap.size (.slice (some ⟨g, 0, none⟩) n n) xs ∧ Below w.heap.size w w' ∧ Hid (g = w.heap.size) := by
  refine (copy_any A n c xs w (hx.more hB) hn hl).mono ?_
  rintro e w' ⟨rfl, rfl⟩
  subst hn
  exact ⟨_, rfl, Own.new w xs _ _ rfl (Nat.le_refl _) hl, by go_grown, rfl⟩

/-- What the reference's Put leaves. -/
def RPutEnds (gR n c : Nat) (ps : List Pkt) (f t : Int) (xs : List UInt8) (w : World) (e : Ending) (w' : World) : Prop :=
  ∃ g' n' c', e = .returned (.tuple #[.slice (some ⟨g', 0, none⟩) n' c', .int .i64 (putE ps.length f t xs.length)]) ∧ Below w.heap.size w w' ∧
    (putE ps.length f t xs.length ≠ 0 → g' = gR ∧ n' = n ∧ c' = c) ∧ (putE ps.length f t xs.length = 0 → ∃ A m cc, OwnR w' w.heap.size 34 3 (.slice (some ⟨g', 0, none⟩) n' c') ((ps ++ [(⟨f, t, A, m, cc, xs⟩ : Pkt)]).map Pkt.cells) ∧ Own w' w.heap.size (.slice A m cc) xs)
theorem RPutEnds.stay {gR n c : Nat} {ps : List Pkt} {f t : Int} {xs : List UInt8} {w w' : World} {x : Int} (hb : Below w.heap.size w w') (hx : putE ps.length f t xs.length = x) (h0 : x ≠ 0) :
    RPutEnds gR n c ps f t xs w (.returned (.tuple #[.slice (some ⟨gR, 0, none⟩) n c, .int .i64 x])) w' := by
  subst hx
  exact ⟨gR, n, c, rfl, hb, fun _ => ⟨rfl, rfl, rfl⟩, fun e => absurd e h0⟩

theorem rput_close {gR n c : Nat} {ps : List Pkt} {f t : Int} {xs : List UInt8} {w w3 w4 w5 : World} {g4 m g5 n5 c5 : Nat} {v : Value} {ob : Obj} (he : putE ps.length f t xs.length = 0) (hb3 : Below w.heap.size w w3) (b4 : Below w3.heap.size w3.drew w4)
    (ho4 : Own w4 w3.heap.size (.slice (some ⟨g4, 0, none⟩) m m) xs) (hgr : (w4.alloc ob).grownBy w5 v.ownBlock) (ho5 : OwnR w5 w.heap.size 34 3 (.slice (some ⟨g5, 0, none⟩) n5 c5) (ps.map Pkt.cells ++ [[(.int .i64 f : Value), .int .i64 t, .slice (some ⟨g4, 0, none⟩) m m]]))
    (hv : ∀ k, v.ownBlock = some k → w.heap.size ≤ k) (hx : OwnR (w4.alloc ob) w.heap.size 34 3 v (ps.map Pkt.cells)) :
    RPutEnds gR n c ps f t xs w (.returned (.tuple #[.slice (some ⟨g5, 0, none⟩) n5 c5, .int .i64 0])) w5 := by
  have z3 := hb3.size
  have z4 : w3.heap.size ≤ w4.heap.size := b4.size
  have hb4 : Below w.heap.size w (w4.alloc ob) := (hb3.drew.trans (b4.mono z3)).alloc (by omega) ob
  refine ⟨g5, n5, c5, by rw [he], hb4.grown hgr hb4.size hv, fun h => absurd he h, fun _ => ⟨some ⟨g4, 0, none⟩, m, m, ?_, ?_⟩⟩
  · rw [List.map_append]
    exact ho5
  · have ho4' := ho4.alloc ob
    have hk := Kept.of_grown (F := fun k => v.ownBlock = some k) hgr (fun k hk => hk)
    refine (ho4'.keep fun k hk' => hk.block k (ho4'.lt k hk').2 (fun hf => ?_)).from_ z3
    obtain ⟨cur, hc⟩ := own_typed ho4' k hk'
    obtain ⟨cur', hc'⟩ := hx.typed k hf
    exact typed_ne hc hc' (by decide) rfl

set_option maxHeartbeats 1600000 in
set_option maxRecDepth 20000 in
theorem nrput_any (base gR n c : Nat) (ps : List Pkt) (f t : Int) (A : Option Addr) (m cc B : Nat) (xs : List UInt8) (w : World) (h : OwnR w base 34 3 (.slice (some ⟨gR, 0, none⟩) n c) (ps.map Pkt.cells)) (hx : Has w B A xs) (hB : B ≤ w.heap.size) (hm : xs.length = m) (h512 : ps.length ≤ 512) :
    Calls Try.prog 23 #[.slice (some ⟨gR, 0, none⟩) n c, .agg #[.int .i64 f, .int .i64 t, .slice A m cc]] w (RPutEnds gR n c ps f t xs w) := by
  have HM := hide hm
  clear hm
  have hb0 : Below w.heap.size w (w.alloc (.cells #[.int .i64 f, .int .i64 t, .slice A m cc] 34)) := by go_grown
  have hp0 := heap_alloc_new w (.cells #[.int .i64 f, .int .i64 t, .slice A m cc] 34)
  have h0 := h.below hb0
  have hx0 : Has (w.alloc (.cells #[.int .i64 f, .int .i64 t, .slice A m cc] 34)) B A xs := hx.alloc hB _
  have hn : Hid (ps.length = n) := hide (by
    obtain ⟨A', n', c', e', hn, _⟩ := h.form
    injection e' with e1 e2 e3
    subst e1 e2 e3
    have := hn.out
    simpa using this)
  obtain ⟨k0, m0⟩ := row_cells hp0 0
  obtain ⟨k1, m1⟩ := row_cells hp0 1
  obtain ⟨k2, m2⟩ := row_cells hp0 2
  simp only [List.getElem?_toArray, List.getElem?_cons_succ, List.getElem?_cons_zero] at k0 k1 k2
  have HH := hide h
  clear h
  go_enter Try.func23, Try.ntmps23
  go_upto_region 1 with fail
  generalize w.alloc (.cells #[.int .i64 f, .int .i64 t, .slice A m cc] 34) = w1 at *
  by_cases hf0 : f < 0
  · have HE : Hid (putE ps.length f t xs.length = 1) := hide (by unfold putE; rw [if_neg]; unfold nodeP; rw [decide_eq_false (by omega)]; decide)
    go_wp2
    go_ret2
    exact RPutEnds.stay hb0 HE.out (by decide)
  by_cases hf9 : 9 < f
  · have HE : Hid (putE ps.length f t xs.length = 1) := hide (by unfold putE; rw [if_neg]; unfold nodeP; rw [decide_eq_false (by omega)]; decide)
    have d1 : decide (f < 0) = false := decide_eq_false hf0
    go_wp2
    go_ret2
    exact RPutEnds.stay hb0 HE.out (by decide)
  by_cases ht0 : t < 0
  · have HE : Hid (putE ps.length f t xs.length = 1) := hide (by unfold putE; split; rw [if_neg]; unfold nodeP; rw [decide_eq_false (by omega)]; decide; rfl)
    have d1 : decide (f < 0) = false := decide_eq_false hf0
    have d2 : decide (9 < f) = false := decide_eq_false hf9
    go_wp2
    go_ret2
    exact RPutEnds.stay hb0 HE.out (by decide)
  by_cases ht9 : 9 < t
  · have HE : Hid (putE ps.length f t xs.length = 1) := hide (by unfold putE; split; rw [if_neg]; unfold nodeP; rw [decide_eq_false (by omega)]; decide; rfl)
    have d1 : decide (f < 0) = false := decide_eq_false hf0
    have d2 : decide (9 < f) = false := decide_eq_false hf9
    have d3 : decide (t < 0) = false := decide_eq_false ht0
    go_wp2
    go_ret2
    exact RPutEnds.stay hb0 HE.out (by decide)
  have d1 : decide (f < 0) = false := decide_eq_false hf0
  have d2 : decide (9 < f) = false := decide_eq_false hf9
  have d3 : decide (t < 0) = false := decide_eq_false ht0
  have d4 : decide (9 < t) = false := decide_eq_false ht9
  have hpe : putE ps.length f t xs.length = (if m ≤ 65536 then (if n < 512 then 0 else 43) else 12) := by
    unfold putE nodeP
    rw [decide_eq_true (by omega), decide_eq_true (by omega), if_pos rfl, if_pos rfl, HM.out, hn.out]
  by_cases h6 : m ≤ 65536
  · by_cases h5 : n < 512
    · have HE : Hid (putE ps.length f t xs.length = 0) := hide (by rw [hpe, if_pos h6, if_pos h5])
      clear hpe hf0 hf9 ht0 ht9
      have HF : Hid (∀ w2, Below w.heap.size w w2 → ∀ j u, (ps.map Pkt.cells).flatten[j]? = some u → w2.cell? ((⟨gR, 0, none⟩ : Addr).add j) = some u) := hide (fun w2 hb => (HH.out.below hb).flat)
      have HW : Hid (Wide 3 (ps.map Pkt.cells)) := hide (Pkt.wide ps)
      have hb1 : Below w.heap.size w (w1.alloc (.cells #[] 34)) := hb0.alloc hb0.size _
      have hz1 := hb0.size
      have ho1 : OwnR (w1.alloc (.cells #[] 34)) w.heap.size 34 3 (.slice (some ⟨w1.heap.size, 0, none⟩) 0 0) [] := OwnR.empty w1 _ _ _ _ rfl hz1
      have hp1 := (Below.heap_alloc w1 (.cells #[] 34) w.heap.size (lt_of_block hp0)).trans hp0
      have hx1 := hx0.alloc (by omega) (.cells #[] 34)
      have L0 : Hid ((ps.map Pkt.cells).length = n) := hide (by rw [List.length_map]; exact hn.out)
      have L1 : Hid (([] : List (List Value)).length + n ≤ maxLen) := hide (by unfold maxLen; rw [List.length_nil]; omega)
      have L2 : Hid ((([] : List (List Value)).length + n) * 40 ≤ 140737488355328) := hide (by rw [List.length_nil]; omega)
      have L3 : Hid (w.heap.size ≤ (w1.alloc (.cells #[] 34)).heap.size) := hide (by simp; omega)
      go_upto_region 8 with (at_builtin; refine list_append_rows rowP _ (by rfl) (.tmp 35) (.tmp 36) (by rfl) w.heap.size (.slice (some ⟨w1.heap.size, 0, none⟩) 0 0) [] (by rfl) ho1 ⟨gR, 0, none⟩ n c (ps.map Pkt.cells) (by rfl) HW.out L0.out (HF.out _ hb1) L1.out L2.out L3.out ?_; intro v3 w3 ho3 hgr3 hat3; obtain ⟨A3, n3, c3, rfl, hn3, hnc3, hx3⟩ := ho3.form)
      have hgr3' := Kept.of_grown (F := fun k => k = w1.heap.size) hgr3 (fun k hk => by injection hk with hk; exact hk.symm)
      have hb3 : Below w.heap.size w w3 := hb1.grown hgr3 hb1.size (fun k hk => (ho1.lt k hk).1)
      have hz0 := lt_of_block hp0
      have hp3 : w3.heap[w.heap.size]? = _ := (hgr3'.block w.heap.size (lt_of_block hp1) (by omega)).trans hp1
      have hx3 : Has w3 B A xs := hx.below (hb3.mono hB)
      have hz3 := hb3.size
      have hB3 : B ≤ w3.heap.size := by omega
      have HC : Hid (∀ W, Has W B A xs → B ≤ W.heap.size → Calls Try.prog 22 #[.slice A m cc] W fun e w' => ∃ g, e = .returned (.slice (some ⟨g, 0, none⟩) m m) ∧ Own w' W.heap.size (.slice (some ⟨g, 0, none⟩) m m) xs ∧ Below W.heap.size W w' ∧ Hid (g = W.heap.size)) := hide (fun W a b => copy_own A m cc B xs W a b HM.out (by omega))
      have HP : Hid (∀ w4, Below w3.heap.size w3.drew w4 → w4.cell? ⟨w.heap.size, 0, none⟩ = some (.int .i64 f) ∧ w4.cell? ⟨w.heap.size, 1, none⟩ = some (.int .i64 t)) := hide (fun w4 hb => by
        have h1 : w4.heap[w.heap.size]? = _ := (hb.block w.heap.size (lt_of_block hp3)).trans hp3
        exact ⟨by have := (row_cells h1 0).1; simpa using this, by have := (row_cells h1 1).1; simpa using this⟩)
      rw [List.nil_append] at ho3
      have HV : Hid (∀ w4 ob, Below w3.heap.size w3.drew w4 → OwnR (w4.alloc ob) w.heap.size 34 3 (.slice A3 n3 c3) (ps.map Pkt.cells) ∧ w.heap.size ≤ (w4.alloc ob).heap.size) := hide (fun w4 ob hb => by
        have h1 := (show OwnR w3.drew w.heap.size 34 3 (.slice A3 n3 c3) (ps.map Pkt.cells) from ho3.keep fun _ _ => rfl).below hb
        refine ⟨h1.below ((Below.refl _ _).alloc (Nat.le_refl _) ob), ?_⟩
        have : w3.heap.size ≤ w4.heap.size := hb.size
        simp
        omega)
      have hwd : Hid (∀ A' n' c', Wide 3 [[(.int .i64 f : Value), .int .i64 t, .slice A' n' c']]) := hide (fun A' n' c' => Pkt.wide [⟨f, t, A', n', c', []⟩])
      have M1 : Hid ((ps.map Pkt.cells).length + 1 ≤ maxLen) := hide (by rw [List.length_map]; unfold maxLen; omega)
      have M2 : Hid (((ps.map Pkt.cells).length + 1) * 40 ≤ 140737488355328) := hide (by rw [List.length_map]; omega)
      have c0 := (row_cells hp3 0).1
      have c1 := (row_cells hp3 1).1
      have c2 := (row_cells hp3 2).1
      simp only [List.getElem?_toArray, List.getElem?_cons_succ, List.getElem?_cons_zero] at c0 c1 c2
      have HB3 := hide hb3
      clear k0 k1 k2 m0 m1 m2 hb1 hp1 hx1 ho1 hgr3 hgr3' hp0 hx0 h0 hb0
      go_region_law (first
        | (go_simp; go_at_call 22; (with_reducible refine (HC.out _ ?_ ?_).mono ?_); exact hx3; exact hB3; rintro e w4 ⟨g4, rfl, ho4, b4, hg4⟩; obtain ⟨y0, y1⟩ := HP.out _ b4; simp only [])
        | (revert b4; intro b4; obtain ⟨x1, x2⟩ := HV.out _ (.cells #[.int .i64 f, .int .i64 t, .slice (some ⟨g4, 0, none⟩) m m] 34) b4; have hone := one_row (heap_alloc_new w4 (.cells #[.int .i64 f, .int .i64 t, .slice (some ⟨g4, 0, none⟩) m m] 34)); refine step_append_rows rowP _ (by rfl) (.tmp 38) (.tmp 47) (by rfl) w.heap.size (.slice A3 n3 c3) _ (by rfl) x1 ⟨w4.heap.size, 0, none⟩ 1 1 [[(.int .i64 f : Value), .int .i64 t, .slice (some ⟨g4, 0, none⟩) m m]] (by rfl) (hwd.out _ m m) (by rfl) hone M1.out M2.out x2 ?_; intro v5 w5 ho5 hgr5 hat5; obtain ⟨A5, n5, c5, rfl, hn5, hnc5, hx5⟩ := ho5.form; obtain ⟨g5, rfl⟩ := ho5.nonnil (by simp)))
      all_goals go_wp2_with fail
      all_goals go_ret2
      all_goals exact rput_close HE.out HB3.out b4 ho4 hgr5 ho5 (fun k hk => (x1.lt k hk).1) x1
    · have HE : Hid (putE ps.length f t xs.length = 43) := hide (by rw [hpe, if_pos h6, if_neg h5])
      clear hpe hf0 hf9 ht0 ht9
      go_wp2
      go_ret2
      exact RPutEnds.stay hb0 HE.out (by decide)
  · have HE : Hid (putE ps.length f t xs.length = 12) := hide (by rw [hpe, if_neg h6])
    clear hpe hf0 hf9 ht0 ht9
    go_wp2
    go_ret2
    exact RPutEnds.stay hb0 HE.out (by decide)
end Go.Proofs.Ytpbfibofjkinmaa
