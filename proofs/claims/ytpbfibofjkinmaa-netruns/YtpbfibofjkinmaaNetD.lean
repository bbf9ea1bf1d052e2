/-
  Take and Copy of package net. Conditions: what is read is in reach.
-/
import Derived.Test.YtpbfibofjkinmaaNetC
set_option linter.unusedSimpArgs false
set_option linter.unusedVariables false
namespace Go.Proofs.Ytpbfibofjkinmaa
open Go.RowKit

theorem results_take {tmps : Array Value} {w : World} {g : Nat} {A : Array Value} {t : TypeId} {b : Bool} (h4 : tmps.getD 4 undef = .pointer (some ⟨g, 0, none⟩)) (h5 : tmps.getD 5 undef = .bool b) (hA : w.heap[g]? = some (.cells A t (0, 0))) (sA : A.size = 3) :
    (results Try.f25 tmps).run Try.prog w = .ok (.tuple #[.agg A, .bool b]) w := by
  have h4' : tmps[4]?.getD undef = .pointer (some ⟨g, 0, none⟩) := by simpa using h4
  have h5' : tmps[5]?.getD undef = .bool b := by simpa using h5
  have i1 : (Try.prog.info? 34).map (·.size) = some A.size := by rw [sA]; kernel_rfl
  have e1 := run_loadVar_row (P := Try.prog) w g t 34 A (0, 0) _ hA Try.underlying34 rfl i1
  simp [results, Try.results25, h4', h5', asAddr, e1]

theorem ntake_no (p : Value) (n : Nat) (i : Int) (w : World) (h : ∀ W, Below w.heap.size w W → Calls Try.prog 32 #[p] W fun e w' => e = .returned (.int .i64 (n : Int)) ∧ W = w') (hi : hasB i n = false) :
    Calls Try.prog 25 #[p, .int .i64 i] w fun e w' => e = .returned (.tuple #[.agg #[.int .i64 0, .int .i64 0, .slice none 0 0], .bool false]) ∧ Below w.heap.size w w' := by
  have hp0 := heap_alloc_new w (.cells #[.int .i64 0, .int .i64 0, .slice none 0 0] 34)
  have hb0 : Below w.heap.size w (w.alloc (.cells #[.int .i64 0, .int .i64 0, .slice none 0 0] 34)) := by go_grown
  go_enter Try.func25, Try.ntmps25
  go_upto_region 1 with fail
  generalize w.alloc (.cells #[.int .i64 0, .int .i64 0, .slice none 0 0] 34) = w1 at *
  have hc := nhas_of p n i w1 (h w1 hb0)
  rw [hi] at hc
  obtain ⟨k0, m0⟩ := row_cells hp0 0
  obtain ⟨k1, m1⟩ := row_cells hp0 1
  obtain ⟨k2, m2⟩ := row_cells hp0 2
  simp only [List.getElem?_toArray, List.getElem?_cons_succ, List.getElem?_cons_zero] at k0 k1 k2
  go_wp2_with fail
  refine hc.mono ?_
  rintro e w' ⟨rfl, rfl⟩
  go_wp2_with fail
  have hk9 : Kept (fun j => j = w.heap.size) w1 (((w1.setCell ⟨w.heap.size, 0, none⟩ (.int .i64 0)).setCell ⟨w.heap.size, 1, none⟩ (.int .i64 0)).setCell ⟨w.heap.size, 2, none⟩ (.slice none 0 0)) :=
    (((Kept.refl (fun j => j = w.heap.size) w1).setCell (p := ⟨w.heap.size, 0, none⟩) (.inl rfl) _).setCell (p := ⟨w.heap.size, 1, none⟩) (.inl rfl) _).setCell (p := ⟨w.heap.size, 2, none⟩) (.inl rfl) _
  have hr9 : (((w1.setCell ⟨w.heap.size, 0, none⟩ (.int .i64 0)).setCell ⟨w.heap.size, 1, none⟩ (.int .i64 0)).setCell ⟨w.heap.size, 2, none⟩ (.slice none 0 0)).heap[w.heap.size]? = some (.cells #[.int .i64 0, .int .i64 0, .slice none 0 0] 34 (0, 0)) := by simp [World.setCell, Array.getElem?_modify, hp0]
  generalize ((w1.setCell ⟨w.heap.size, 0, none⟩ (.int .i64 0)).setCell ⟨w.heap.size, 1, none⟩ (.int .i64 0)).setCell ⟨w.heap.size, 2, none⟩ (.slice none 0 0) = w9 at *
  refine bodyPost_ret (v := .tuple #[.agg #[.int .i64 0, .int .i64 0, .slice none 0 0], .bool false]) (results_take rfl rfl hr9 rfl) rfl ⟨rfl, ?_⟩
  exact hb0.trans (hk9.below (by have := hb0.size; omega) (fun j hj => by omega))

theorem nlen_below {base g : Nat} {v : Value} {ps : List Pkt} {w : World} (h : IsN w base g v ps) : ∀ W, Below w.heap.size w W → Calls Try.prog 32 #[.pointer (some ⟨g, 0, none⟩)] W fun e w' => e = .returned (.int .i64 (ps.length : Int)) ∧ W = w' :=
  fun W hb => nlen_any base g v ps W (h.below hb)

/-- What Take leaves where there is a k-th packet. -/
def TakeEnds (base g : Nat) (v : Value) (ps : List Pkt) (p : Pkt) (k : Nat) (w : World) (e : Ending) (w' : World) : Prop :=
  e = .returned (.tuple #[.agg #[.int .i64 p.f, .int .i64 p.t, .slice p.A p.n p.c], .bool true]) ∧ ∃ v', IsN w' base g v' (ps.take k ++ ps.drop (k + 1)) ∧ v'.ownBlock = v.ownBlock ∧ Kept (NB g v) w w' ∧ Own w' base p.sl p.xs

set_option maxHeartbeats 1600000 in
set_option maxRecDepth 20000 in
theorem ntake_yes (base g : Nat) (v : Value) (ps : List Pkt) (k : Nat) (p : Pkt) (w : World) (h : IsN w base g v ps) (hp : ps[k]? = some p) :
    Calls Try.prog 25 #[.pointer (some ⟨g, 0, none⟩), .int .i64 (k : Int)] w (TakeEnds base g v ps p k w) := by
  have hk : k < ps.length := (List.getElem?_eq_some_iff.1 hp).1
  have hpk : ps[k] = p := (List.getElem?_eq_some_iff.1 hp).2
  clear hp
  have hp0 := heap_alloc_new w (.cells #[.int .i64 0, .int .i64 0, .slice none 0 0] 34)
  have hb0 : Below w.heap.size w (w.alloc (.cells #[.int .i64 0, .int .i64 0, .slice none 0 0] 34)) := by go_grown
  have hi : hasB (k : Int) ps.length = true := decide_eq_true ⟨by omega, by omega⟩
  have h512 := h.len
  have hkb : k < 512 := by omega
  go_enter Try.func25, Try.ntmps25
  go_upto_region 1 with fail
  generalize w.alloc (.cells #[.int .i64 0, .int .i64 0, .slice none 0 0] 34) = w1 at *
  have hc := nhas_of _ ps.length (k : Int) w1 (nlen_below h w1 hb0)
  rw [hi] at hc
  clear hi
  have h1 := h.below hb0
  obtain ⟨Av, nv, cv, rfl, hnv, hncv, hcm, hrv, _, hgv⟩ := h1.row.form
  have hnv' : Hid (ps.length = nv) := hide (by have := hnv.out; simpa using this)
  have hkn : k < nv := by rw [← hnv'.out]; exact hk
  obtain ⟨gb, rfl, hra, hth, hgl⟩ := hrv k (by simpa using hk)
  have hcell : (ps.map Pkt.cells)[k]'(by simpa using hk) = [(.int .i64 ps[k].f : Value), .int .i64 ps[k].t, .slice ps[k].A ps[k].n ps[k].c] := by simp [Pkt.cells]
  rw [hcell] at hra
  have hpm : ps[k] ∈ ps := List.getElem_mem hk
  have HPM := hide hpm
  have hrest : (ps.take k ++ ps.drop (k + 1)).map Pkt.cells = (ps.map Pkt.cells).take k ++ (ps.map Pkt.cells).drop (k + 1) := by simp
  have HRE := hide hrest
  clear hrest hcell hpm hrv
  rw [hpk] at hra HPM
  clear hpk
  have c0 := (row_cells h1.blk 0).1
  simp only [List.getElem?_toArray, List.getElem?_cons_zero] at c0
  obtain ⟨m, rfl⟩ : ∃ m, nv = m + 1 := ⟨nv - 1, by omega⟩
  have hil : (k : Int) < ((m : Int) + 1) := by omega
  have H1 := hide h1
  have HK := hide hk
  have hz1 := lt_of_block hp0
  clear h1 hnv hk
  go_upto_region 4 with (first
    | (go_at_call 51; refine hc.mono ?_; rintro e w' ⟨rfl, rfl⟩)
    | (refine wpList_load_mid rfl 34 _ rfl gb (k * 3) (by simp [Act.eval, Act.put]) [(.int .i64 p.f : Value), .int .i64 p.t, .slice p.A p.n p.c] _ hra Try.underlying34 rfl (by kernel_rfl) ?_))
  have hp1 := heap_alloc_new w1 (.cells #[.int .i64 p.f, .int .i64 p.t, .slice p.A p.n p.c] 34)
  have hb1 : Below w1.heap.size w1 (w1.alloc (.cells #[.int .i64 p.f, .int .i64 p.t, .slice p.A p.n p.c] 34)) := by go_grown
  generalize w1.alloc (.cells #[.int .i64 p.f, .int .i64 p.t, .slice p.A p.n p.c] 34) = w2 at *
  have h2 := H1.out.below hb1
  have c0 := (row_cells h2.blk 0).1
  simp only [List.getElem?_toArray, List.getElem?_cons_zero] at c0
  have hdel := ndelete_any base gb m cv k _ w2 h2.row hkn
  have hr2 := (hb1.block _ hz1).trans hp0
  have hz2 := lt_of_block hp1
  have H2 := hide h2
  clear hra hc hp0 H1 h2 hth
  go_wp2_with fail
  refine hdel.mono ?_
  rintro e w3 ⟨rfl, ho3, hk3⟩
  have hg3 : w3.heap[g]? = _ := (hk3.block g (lt_of_block H2.out.blk) (fun e => H2.out.ng (by rw [e]; rfl))).trans H2.out.blk
  have q0 := (row_cells hg3 0).1
  have q1 := (row_cells hg3 0).2
  simp only [List.getElem?_toArray, List.getElem?_cons_zero] at q0
  clear hdel c0
  go_upto_region 5 with fail
  have hk4' : Kept (fun j => j = g) w3 (w3.setCell ⟨g, 0, none⟩ (.slice (some ⟨gb, 0, none⟩) m cv)) := (Kept.refl (fun j => j = g) w3).setCell (p := ⟨g, 0, none⟩) (.inl rfl) _
  have hg4 : (w3.setCell ⟨g, 0, none⟩ (.slice (some ⟨gb, 0, none⟩) m cv)).heap[g]? = some (.cells #[.slice (some ⟨gb, 0, none⟩) m cv] 79 (0, 0)) := by rw [set_cell_at _ hg3]; rfl
  have hk4 : Kept (NB g (.slice (some ⟨gb, 0, none⟩) (m + 1) cv)) w2 (w3.setCell ⟨g, 0, none⟩ (.slice (some ⟨gb, 0, none⟩) m cv)) := (hk3.weak (fun k hk => .inr (by rw [hk]; rfl))).step hk4' (fun k hk => .inl (.inl hk))
  have ho4 : OwnR (w3.setCell ⟨g, 0, none⟩ (.slice (some ⟨gb, 0, none⟩) m cv)) base 34 3 (.slice (some ⟨gb, 0, none⟩) m cv) _ := ho3.keep fun j hj => hk4'.block j (ho3.lt j hj).2 (fun e => H2.out.ng (by rw [← e]; exact hj))
  clear q0 q1
  generalize w3.setCell ⟨g, 0, none⟩ (.slice (some ⟨gb, 0, none⟩) m cv) = w4 at *
  have hap : ∀ j, w.heap.size ≤ j → j < w2.heap.size → j ≠ g → j ≠ gb → ¬ NB g (.slice (some ⟨gb, 0, none⟩) (m + 1) cv) j := fun j _ _ h1 h2 hn => by
    rcases hn with e | e
    · exact h1 e
    · exact h2 (Option.some.inj e).symm
  have hgl' : g < w.heap.size := lt_of_block h.blk
  have hgb : gb < w.heap.size := (h.row.lt gb rfl).2
  have hp4 : w4.heap[w1.heap.size]? = _ := (hk4.block w1.heap.size hz2 (hap _ (by omega) hz2 (by omega) (by omega))).trans hp1
  have hr4 : w4.heap[w.heap.size]? = _ := (hk4.block w.heap.size (by omega) (hap _ (by omega) (by omega) (by omega) (by omega))).trans hr2
  have hk5 := Kept.of_setRow w4 w.heap.size #[.int .i64 p.f, .int .i64 p.t, .slice p.A p.n p.c]
  have hr5 := set_row_at (B := #[.int .i64 p.f, .int .i64 p.t, .slice p.A p.n p.c]) hr4
  go_wp2_with (first
    | (refine wpList_load_row rfl 34 _ rfl w1.heap.size rfl _ _ _ _ hp4 Try.underlying34 rfl (by kernel_rfl) ?_)
    | (refine wpList_store_row rfl 34 _ _ rfl w.heap.size #[.int .i64 p.f, .int .i64 p.t, .slice p.A p.n p.c] rfl rfl _ _ hr4 (by kernel_rfl) rfl (by simp; exact ⟨rfl, rfl, rfl⟩) ?_; generalize w4.setRow w.heap.size #[.int .i64 p.f, .int .i64 p.t, .slice p.A p.n p.c] = w5 at *))
  have hsub : ∀ q, q ∈ ps.take k ++ ps.drop (k + 1) → q ∈ ps := fun q hq => by
    rcases List.mem_append.1 hq with h1 | h1
    · exact List.mem_of_mem_take h1
    · exact List.mem_of_mem_drop h1
  have hz3 := hk4.size
  have hd5 : ∀ q ∈ ps, Own w5 base q.sl q.xs := fun q hq => by
    have h1 := (H2.out.dat q hq).keep fun j hj => hk4.block j ((H2.out.dat q hq).lt j hj).2 (H2.out.apart hq j hj)
    refine h1.keep fun j hj => hk5.block j (h1.lt j hj).2 (fun e => ?_)
    have := ((h.dat q hq).lt j hj).2
    omega
  refine bodyPost_ret (v := .tuple #[.agg #[.int .i64 p.f, .int .i64 p.t, .slice p.A p.n p.c], .bool true]) (results_take rfl rfl hr5 rfl) rfl ⟨rfl, .slice (some ⟨gb, 0, none⟩) m cv, ⟨?_, h.bg, ?_, fun q hq => hd5 q (hsub q hq), fun q hq => h.ok q (hsub q hq), ?_⟩, rfl, ?_, hd5 p HPM.out⟩
  · exact (hk5.block g (by omega) (by omega)).trans hg4
  · rw [HRE.out]
    exact ho4.keep fun j hj => hk5.block j (ho4.lt j hj).2 (fun e => by have e' : gb = j := Option.some.inj hj; omega)
  · simp; omega
  · have hk6 : Kept (NB g (.slice (some ⟨gb, 0, none⟩) (m + 1) cv)) w w4 := (Kept.of_below (hb0.trans (hb1.mono (by omega)))).step hk4 (fun j hj => .inl hj)
    exact hk6.step hk5 (fun j hj => .inr (by omega))
end Go.Proofs.Ytpbfibofjkinmaa
