/-
  Put of package net. Conditions: what is read is in reach.
-/
import Derived.Test.YtpbfibofjkinmaaNetA
set_option linter.unusedSimpArgs false
set_option linter.unusedVariables false
namespace Go.Proofs.Ytpbfibofjkinmaa
open Go.RowKit

/-- What Put answers. -/
def putE (k : Nat) (f t : Int) (n : Nat) : Int := if nodeP f = true then (if nodeP t = true then (if n ≤ 65536 then (if k < 512 then 0 else 43) else 12) else 1) else 1

/-- What Put leaves. -/
def PutEnds (base g : Nat) (v : Value) (ps : List Pkt) (f t : Int) (xs : List UInt8) (w : World) (e : Ending) (w' : World) : Prop :=
  e = .returned (.int .i64 (putE ps.length f t xs.length)) ∧ ∃ v' ps', IsN w' base g v' ps' ∧ Kept (NB g v) w w' ∧ (v'.ownBlock = v.ownBlock ∨ ∀ k, v'.ownBlock = some k → w.heap.size ≤ k) ∧
    (putE ps.length f t xs.length ≠ 0 → v' = v ∧ ps' = ps) ∧ (putE ps.length f t xs.length = 0 → ∃ A n c, ps' = ps ++ [⟨f, t, A, n, c, xs⟩] ∧ ∀ k, (Value.slice A n c).ownBlock = some k → w.heap.size ≤ k)

theorem PutEnds.stay {base g : Nat} {v : Value} {ps : List Pkt} {f t : Int} {xs : List UInt8} {w w' : World} {x : Int} (h : IsN w base g v ps) (hb : Below w.heap.size w w') (hx : putE ps.length f t xs.length = x) (h0 : x ≠ 0) :
    PutEnds base g v ps f t xs w (.returned (.int .i64 x)) w' := by
  subst hx
  exact ⟨rfl, v, ps, h.below hb, Kept.of_below hb, .inl rfl, fun _ => ⟨rfl, rfl⟩, fun e => absurd e h0⟩

theorem put_close {w1 w2 w3 : World} {base g : Nat} {v v3 : Value} {ps : List Pkt} {f t : Int} {A2 : Option Addr} {n2 c2 : Nat} {xs : List UInt8} {ob : Obj} (h : IsN w1 base g v ps) (hb : Below w1.heap.size w1.drew w2) (ho2 : Own w2 w1.heap.size (.slice A2 n2 c2) xs)
    (hgr : (w2.alloc ob).grownBy w3 v.ownBlock) (ho3 : OwnR w3 base 34 3 v3 (ps.map Pkt.cells ++ [[(.int .i64 f : Value), .int .i64 t, .slice A2 n2 c2]])) (p1 : w3.heap[g]? = some (.cells #[v] 79 (0, 0))) (p2 : ∀ p ∈ ps, Own w3 base p.sl p.xs) (hok : okP f t xs.length) (h5 : ps.length < 512) :
    IsN (w3.setCell ⟨g, 0, none⟩ v3) base g v3 (ps ++ [⟨f, t, A2, n2, c2, xs⟩]) := by
  have hz : w1.heap.size ≤ w2.heap.size := hb.size
  have hbase : base ≤ w1.heap.size := by have := h.bg; have := lt_of_block h.blk; omega
  have ho4 : Own w3 w1.heap.size (.slice A2 n2 c2) xs := (ho2.alloc ob).keep fun k hk => (Kept.of_grown (F := fun k => v.ownBlock = some k) hgr (fun k hk => hk)).block k ((ho2.alloc ob).lt k hk).2 (fun hf => by
    have h1 := ((ho2.alloc ob).lt k hk).1
    have h2 := (h.row.lt k hf).2
    omega)
  refine ⟨by rw [set_cell_at _ p1]; rfl, h.bg, ?_, fun p hp => ?_, fun p hp => ?_, by simp; omega⟩
  · have e : (ps ++ [(⟨f, t, A2, n2, c2, xs⟩ : Pkt)]).map Pkt.cells = ps.map Pkt.cells ++ [[(.int .i64 f : Value), .int .i64 t, .slice A2 n2 c2]] := by simp [Pkt.cells]
    rw [e]
    exact ho3.keep fun k hk => Below.heap_setCell _ _ _ _ (by
      obtain ⟨cur, hc⟩ := ho3.typed k hk
      exact typed_ne hc p1 (by decide))
  · have key : ∀ {b : Nat} {s : Value} {ys : List UInt8}, Own w3 b s ys → Own (w3.setCell ⟨g, 0, none⟩ v3) b s ys := fun ho => ho.keep fun k hk => Below.heap_setCell _ _ _ _ (by
      obtain ⟨cur, hc⟩ := own_typed ho k hk
      exact typed_ne hc p1 (by decide))
    rcases List.mem_append.1 hp with h1 | h1
    · exact key (p2 p h1)
    · simp at h1
      subst h1
      exact (key ho4).from_ hbase
  · rcases List.mem_append.1 hp with h1 | h1
    · exact h.ok p h1
    · simp at h1
      subst h1
      exact hok

theorem nodeP_iff {f : Int} (h : nodeP f = true) : 0 ≤ f ∧ f ≤ 9 := of_decide_eq_true h

set_option maxHeartbeats 1600000 in
set_option maxRecDepth 20000 in
theorem nput_any (base g : Nat) (v : Value) (ps : List Pkt) (f t : Int) (A : Option Addr) (n c B : Nat) (xs : List UInt8) (w : World) (h : IsN w base g v ps) (hx : Has w B A xs) (hB : B ≤ w.heap.size) (hn : xs.length = n) :
    Calls Try.prog 24 #[.pointer (some ⟨g, 0, none⟩), .agg #[.int .i64 f, .int .i64 t, .slice A n c]] w (PutEnds base g v ps f t xs w) := by
  have HN := hide hn
  clear hn
  have hb0 : Below w.heap.size w (w.alloc (.cells #[.int .i64 f, .int .i64 t, .slice A n c] 34)) := by go_grown
  have hp0 := heap_alloc_new w (.cells #[.int .i64 f, .int .i64 t, .slice A n c] 34)
  have hN0 := h.below hb0
  have hx0 : Has (w.alloc (.cells #[.int .i64 f, .int .i64 t, .slice A n c] 34)) B A xs := hx.alloc hB _
  have hB0 : B ≤ (w.alloc (.cells #[.int .i64 f, .int .i64 t, .slice A n c] 34)).heap.size := by have := hb0.size; omega
  obtain ⟨k0, m0⟩ := row_cells hp0 0
  obtain ⟨k1, m1⟩ := row_cells hp0 1
  obtain ⟨k2, m2⟩ := row_cells hp0 2
  simp only [List.getElem?_toArray, List.getElem?_cons_succ, List.getElem?_cons_zero] at k0 k1 k2
  have HH := hide h
  go_enter Try.func24, Try.ntmps24
  go_upto_region 1 with fail
  generalize w.alloc (.cells #[.int .i64 f, .int .i64 t, .slice A n c] 34) = w1 at *
  cases hf : nodeP f
  · have HE : Hid (putE ps.length f t xs.length = 1) := hide (by unfold putE; rw [hf]; rfl)
    have hc := nisNode_any f w1
    rw [hf] at hc
    clear hf
    go_wp2_with fail
    refine hc.mono ?_
    rintro e w' ⟨rfl, rfl⟩
    go_wp2
    go_ret
    exact PutEnds.stay h hb0 HE.out (by decide)
  have hc := nisNode_any f w1
  rw [hf] at hc
  cases ht : nodeP t
  · have HE : Hid (putE ps.length f t xs.length = 1) := hide (by unfold putE; rw [hf, ht]; rfl)
    have hc' := nisNode_any t w1
    rw [ht] at hc'
    clear hf ht
    go_wp2_with fail
    refine hc.mono ?_
    rintro e w' ⟨rfl, rfl⟩
    go_wp2_with fail
    refine hc'.mono ?_
    rintro e w' ⟨rfl, rfl⟩
    go_wp2
    go_ret
    exact PutEnds.stay h hb0 HE.out (by decide)
  have hc' := nisNode_any t w1
  rw [ht] at hc'
  by_cases h6 : n ≤ 65536
  · have hlen := nlen_any base g v ps w1 hN0
    have hl512 := h.len
    by_cases h5 : ps.length < 512
    · have HE : Hid (putE ps.length f t xs.length = 0) := hide (by unfold putE; rw [hf, ht, HN.out]; simp [h6, h5])
      have HF := hide hf
      have HT := hide ht
      clear hf ht
      go_wp2_with fail
      refine hc.mono ?_
      rintro e w' ⟨rfl, rfl⟩
      go_wp2_with fail
      refine hc'.mono ?_
      rintro e w' ⟨rfl, rfl⟩
      go_wp2_with fail
      refine hlen.mono ?_
      rintro e w' ⟨rfl, rfl⟩
      go_upto_region 7 with fail
      obtain ⟨Av, nv, cv, rfl, hnv, hncv, hcm, hrv, _, _⟩ := hN0.row.form
      have c0 := (row_cells hN0.blk 0).1
      simp only [List.getElem?_toArray, List.getElem?_cons_zero] at c0
      have HC : Hid (∀ W, Has W B A xs → B ≤ W.heap.size → Calls Try.prog 50 #[.agg #[.int .i64 f, .int .i64 t, .slice A n c]] W fun e w' => ∃ A' n' c', e = .returned (.agg #[.int .i64 f, .int .i64 t, .slice A' n' c']) ∧ Hid (xs.length = n') ∧ Own w' W.heap.size (.slice A' n' c') xs ∧ Below W.heap.size W w') := hide (fun W h1 h2 => nclone_any f t A n c B xs W h1 h2 HN.out (by omega))
      have HV : Hid (∀ w2 ob, Below w1.heap.size w1.drew w2 → (w2.alloc ob).cell? ⟨g, 0, none⟩ = some (.slice Av nv cv) ∧ OwnR (w2.alloc ob) base 34 3 (.slice Av nv cv) (ps.map Pkt.cells) ∧ base ≤ (w2.alloc ob).heap.size ∧ w2.cell? ⟨g, 0, none⟩ = some (.slice Av nv cv)) := hide (fun w2 ob hb => by
        have h2 := (hN0.drew.below hb)
        have h3 := h2.below ((Below.refl _ _).alloc (Nat.le_refl _) ob)
        exact ⟨by have := (row_cells h3.blk 0).1; simpa using this, h3.row, by have := h3.bg; have := lt_of_block h3.blk; omega, by have := (row_cells h2.blk 0).1; simpa using this⟩)
      have HW : Hid (∀ w2 ob w3, Below w1.heap.size w1.drew w2 → (w2.alloc ob).grownBy w3 (Value.slice Av nv cv).ownBlock → w3.heap[g]? = some (.cells #[.slice Av nv cv] 79 (0, 0)) ∧ (∀ p ∈ ps, Own w3 base p.sl p.xs) ∧ Kept (NB g (.slice Av nv cv)) w w3) := hide (fun w2 ob w3 hb hgr => by
        have h2 := (hN0.drew.below hb)
        have h3 := h2.below ((Below.refl _ _).alloc (Nat.le_refl _) ob)
        have hk := Kept.of_grown (F := fun k => (Value.slice Av nv cv).ownBlock = some k) hgr (fun k hk => hk)
        refine ⟨(hk.block g (lt_of_block h3.blk) h3.ng).trans h3.blk, fun p hp => (h3.dat p hp).keep fun k hk' => hk.block k ((h3.dat p hp).lt k hk').2 (fun hf => h3.apart hp k hk' (.inr hf)), ?_⟩
        have hkb : Kept (NB g (.slice Av nv cv)) w (w2.alloc ob) := Kept.of_below ((hb0.drew.trans (hb.mono hb0.size)).alloc (by have := hb0.size; have : w1.heap.size ≤ w2.heap.size := hb.size; omega) ob)
        exact hkb.step hk (fun k hk => .inl (.inr hk)))
      have hwd : Hid (∀ A' n' c', Wide 3 [[(.int .i64 f : Value), .int .i64 t, .slice A' n' c']]) := hide (fun A' n' c' => Pkt.wide [⟨f, t, A', n', c', []⟩])
      have HL1 : Hid ((ps.map Pkt.cells).length + 1 ≤ maxLen) := hide (by rw [List.length_map]; unfold maxLen; omega)
      have HL2 : Hid (((ps.map Pkt.cells).length + 1) * 40 ≤ 140737488355328) := hide (by rw [List.length_map]; omega)
      go_region_law (first
        | (go_simp; go_at_call 50; (with_reducible refine (HC.out _ ?_ ?_).mono ?_); exact hx0; exact hB0; rintro e w2 ⟨A2, n2, c2, rfl, hn2, ho2, b2⟩; obtain ⟨x0, x1, x2, x3⟩ := HV.out _ (.cells #[.int .i64 f, .int .i64 t, .slice A2 n2 c2] 34) b2; have hone := one_row (heap_alloc_new w2 (.cells #[.int .i64 f, .int .i64 t, .slice A2 n2 c2] 34)); simp only [])
        | (revert b2; intro b2; refine step_append_rows rowP _ (by rfl) (.tmp 30) (.tmp 33) (by rfl) base (.slice Av nv cv) _ (by rfl) x1 ⟨w2.heap.size, 0, none⟩ 1 1 [[(.int .i64 f : Value), .int .i64 t, .slice A2 n2 c2]] (by rfl) (hwd.out A2 n2 c2) (by rfl) hone HL1.out HL2.out x2 ?_; intro v3 w3 ho3 hgr3 hat3; obtain ⟨p1, p2, p3⟩ := HW.out _ _ _ b2 hgr3; have q1 := (row_cells p1 0).1; have q2 := (row_cells p1 0).2; simp only [List.getElem?_toArray, List.getElem?_cons_succ, List.getElem?_cons_zero] at q1; obtain ⟨A3, n3, c3, rfl, hn3, hnc3, hx3⟩ := ho3.form))
      all_goals go_wp2_with fail
      all_goals go_ret
      all_goals
        refine ⟨by rw [HE.out]; rfl, .slice A3 n3 c3, ps ++ [⟨f, t, A2, n2, c2, xs⟩], put_close hN0 b2 ho2 hgr3 ho3 p1 p2 ?_ h5, p3.setCell (p := ⟨g, 0, none⟩) (.inl (.inl rfl)) _, ?_, fun e => absurd HE.out e, fun _ => ⟨A2, n2, c2, rfl, fun k hk => ?_⟩⟩
        · have h1 := nodeP_iff HF.out
          have h2 := nodeP_iff HT.out
          exact ⟨h1.1, h1.2, h2.1, h2.2, by rw [HN.out]; exact h6⟩
        · rcases hat3 with e | e
          · exact .inl e
          · refine .inr fun k hk => ?_
            have e2 := Option.some.inj (e.symm.trans hk)
            have z1 := hb0.size
            have z2 : w1.heap.size ≤ w2.heap.size := b2.size
            have z3 : (w2.alloc (.cells #[.int .i64 f, .int .i64 t, .slice A2 n2 c2] 34)).heap.size = w2.heap.size + 1 := by simp
            omega
        · have h1 : w1.heap.size ≤ k := (ho2.lt k hk).1
          have z1 := hb0.size
          omega
    · have HE : Hid (putE ps.length f t xs.length = 43) := hide (by unfold putE; rw [hf, ht, HN.out]; simp [h6, h5])
      clear hf ht
      go_wp2_with fail
      refine hc.mono ?_
      rintro e w' ⟨rfl, rfl⟩
      go_wp2_with fail
      refine hc'.mono ?_
      rintro e w' ⟨rfl, rfl⟩
      go_wp2_with fail
      refine hlen.mono ?_
      rintro e w' ⟨rfl, rfl⟩
      go_wp2
      go_ret
      exact PutEnds.stay h hb0 HE.out (by decide)
  · have HE : Hid (putE ps.length f t xs.length = 12) := hide (by unfold putE; rw [hf, ht, HN.out]; simp [h6])
    clear hf ht
    go_wp2_with fail
    refine hc.mono ?_
    rintro e w' ⟨rfl, rfl⟩
    go_wp2_with fail
    refine hc'.mono ?_
    rintro e w' ⟨rfl, rfl⟩
    go_wp2
    go_ret
    exact PutEnds.stay h hb0 HE.out (by decide)
end Go.Proofs.Ytpbfibofjkinmaa
