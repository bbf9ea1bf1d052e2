/-
  Send of package link. Conditions: what is read is in reach, the numbers are within 2^62.
-/
import Derived.Test.YtpbfibofjkinmaaLinkC
set_option linter.unusedSimpArgs false
set_option linter.unusedVariables false
namespace Go.Proofs.Ytpbfibofjkinmaa
open Go.RowKit Go.Maps

section
variable {w w' : World} {base g : Nat} {wv mv dv : Value} {k : Lk}
/-- Where only the end's own block and its row of letters are turned, the rest stays. -/
theorem IsK.rest {F : Nat → Prop} (h : IsK w base g wv mv dv k) (hk : Kept F w w') (hF : ∀ j, F j → j = g ∨ wv.ownBlock = some j) :
    (∀ l ∈ k.ls, Own w' base l.sl l.xs ∧ l.xs.length ≤ 65472) ∧ SetIs w' base k.cnt mv k.S ∧ OwnI w' base dv k.ds := by
  have hL : ∀ j, F j → LBl g wv mv dv j := fun j hj => by
    rcases hF j hj with e | e
    · exact .inl e
    · exact .inr (.inl e)
  refine ⟨fun l hl => ⟨(h.dat l hl).1.keep fun j hj => hk.block j ((h.dat l hl).1.lt j hj).2 (fun hf => h.apart hl j hj (hL j hf)), (h.dat l hl).2⟩,
    h.set.keep fun j hj => hk.block j (h.set.lt j hj).2 (fun hf => by
      rcases hF j hf with e | e
      · rw [e] at hj
        exact h.set.block g hj _ _ _ h.blk
      · obtain ⟨cur, hc⟩ := h.row.typed j e
        exact h.set.block j hj _ _ _ hc), ?_⟩
  · have hd := h.due
    refine ⟨hd.1, ?_⟩
    rcases hd.2 with h2 | ⟨g', cap, cur, hv, hg, hh, r⟩
    · exact .inl h2
    · have hnf : ¬ F g' := fun hf => by
        rcases hF g' hf with e | e
        · exact typed_ne hh h.blk (by decide) e
        · obtain ⟨cur', hc'⟩ := h.row.typed g' e
          exact typed_ne hh hc' (by decide) rfl
      exact .inr ⟨g', cap, cur, hv, hg, (hk.block g' (lt_of_block hh) hnf).trans hh, r⟩
theorem IsK.ng (h : IsK w base g wv mv dv k) : wv.ownBlock ≠ some g := fun hk => by
  obtain ⟨cur', hc'⟩ := h.row.typed g hk
  exact typed_ne h.blk hc' (by decide) rfl
end

theorem lsend_close {w1 w2 w3 : World} {base g : Nat} {wv mv dv v3 : Value} {k : Lk} {num : Int} {A2 : Option Addr} {n2 c2 : Nat} {xs : List UInt8} {ob : Obj} (h : IsK w1 base g wv mv dv k) (hb : Below w1.heap.size w1.drew w2) (ho2 : Own w2 w1.heap.size (.slice A2 n2 c2) xs)
    (hgr : (w2.alloc ob).grownBy w3 wv.ownBlock) (ho3 : OwnR w3 base 93 4 v3 (k.ls.map Ltr.cells ++ [[(.int .i64 num : Value), .slice A2 n2 c2, .bool false, .int .i64 0]])) (hx : xs.length ≤ 65472) (hl : k.ls.length < 4096) :
    IsK (w3.setCell ⟨g, 3, none⟩ v3) base g v3 mv dv { k with ls := k.ls ++ [⟨num, A2, n2, c2, false, 0, xs⟩] } ∧ Kept (LBl g wv mv dv) w1 (w3.setCell ⟨g, 3, none⟩ v3) := by
  have hz : w1.heap.size ≤ w2.heap.size := hb.size
  have hbase : base ≤ w1.heap.size := by have := h.bg; have := lt_of_block h.blk; omega
  have h2 := (h.drew.below hb).below ((Below.refl _ _).alloc (Nat.le_refl _) ob)
  have hkA := Kept.of_grown (F := fun j => wv.ownBlock = some j) hgr (fun j hj => hj)
  have hg3 := (hkA.block g (lt_of_block h2.blk) h2.ng).trans h2.blk
  have hk4 : Kept (fun j => j = g) w3 (w3.setCell ⟨g, 3, none⟩ v3) := (Kept.refl (fun j => j = g) w3).setCell (p := ⟨g, 3, none⟩) (.inl rfl) _
  have hkF : Kept (fun j => j = g ∨ wv.ownBlock = some j) (w2.alloc ob) (w3.setCell ⟨g, 3, none⟩ v3) := (hkA.weak (fun j hj => .inr hj)).step hk4 (fun j hj => .inl (.inl hj))
  obtain ⟨r1, r2, r3⟩ := h2.rest hkF (fun j hj => hj)
  have ho2' := ho2.alloc ob
  have ho4 : Own (w3.setCell ⟨g, 3, none⟩ v3) w1.heap.size (.slice A2 n2 c2) xs := ho2'.keep fun j hj => hkF.block j (ho2'.lt j hj).2 (fun hf => by
    have h5 := (ho2'.lt j hj).1
    rcases hf with e | e
    · have := lt_of_block h.blk
      omega
    · have := (h.row.lt j e).2
      omega)
  have hbb : Below w1.heap.size w1 (w2.alloc ob) := (((Below.refl _ w1).drew).trans hb).alloc hz ob
  refine ⟨⟨by rw [set_cell_at _ hg3]; rfl, h.bg, ?_, ?_, r2, r3, by simp; omega, h.dsl⟩, (Kept.of_below hbb).step hkF (fun j hj => .inl (by
    rcases hj with e | e
    · exact .inl e
    · exact .inr (.inl e)))⟩
  · have e : (k.ls ++ [(⟨num, A2, n2, c2, false, 0, xs⟩ : Ltr)]).map Ltr.cells = k.ls.map Ltr.cells ++ [[(.int .i64 num : Value), .slice A2 n2 c2, .bool false, .int .i64 0]] := by simp [Ltr.cells]
    show OwnR _ base 93 4 v3 ((k.ls ++ [(⟨num, A2, n2, c2, false, 0, xs⟩ : Ltr)]).map Ltr.cells)
    rw [e]
    exact ho3.keep fun j hj => hk4.block j (ho3.lt j hj).2 (fun e => by
      obtain ⟨cur, hc⟩ := ho3.typed j hj
      exact typed_ne hc hg3 (by decide) e)
  · intro l hl'
    rcases List.mem_append.1 hl' with h5 | h5
    · exact r1 l h5
    · simp at h5
      subst h5
      exact ⟨ho4.from_ hbase, hx⟩

/-- What Send answers. -/
def sendE (k : Lk) (n : Nat) : Int := if n ≤ 65472 then (if k.last + 1 - k.old < 32 then 0 else 64) else 12

/-- What Send leaves. -/
def SendEnds (base g : Nat) (wv mv dv : Value) (k : Lk) (xs : List UInt8) (w : World) (e : Ending) (w' : World) : Prop :=
  e = .returned (.int .i64 (sendE k xs.length)) ∧ ∃ wv' k', IsK w' base g wv' mv dv k' ∧ Kept (LBl g wv mv dv) w w' ∧ (∀ j, wv'.ownBlock = some j → wv.ownBlock = some j ∨ w.heap.size ≤ j) ∧ (sendE k xs.length ≠ 0 → k' = k ∧ wv' = wv) ∧
    (sendE k xs.length = 0 → ∃ A n c, k' = { k with last := k.last + 1, ls := k.ls ++ [⟨k.last + 1, A, n, c, false, 0, xs⟩] } ∧ ∀ j, (Value.slice A n c).ownBlock = some j → w.heap.size ≤ j)
theorem SendEnds.stay {base g : Nat} {wv mv dv : Value} {k : Lk} {xs : List UInt8} {w : World} {x : Int} (h : IsK w base g wv mv dv k) (hx : sendE k xs.length = x) (h0 : x ≠ 0) : SendEnds base g wv mv dv k xs w (.returned (.int .i64 x)) w := by
  subst hx
  exact ⟨rfl, wv, k, h, Kept.refl _ _, fun j hj => .inl hj, fun _ => ⟨rfl, rfl⟩, fun e => absurd e h0⟩
theorem lsend_nil (x : Value) (w : World) : Calls Try.prog 38 #[.pointer none, x] w fun e w' => e = .returned (.int .i64 1) ∧ w = w' := by
  go_enter Try.func38, Try.ntmps38
  go_wp2
  go_ret
  exact ⟨rfl, rfl⟩

set_option maxHeartbeats 1600000 in
set_option maxRecDepth 20000 in
theorem lsend_any (base g : Nat) (wv mv dv : Value) (k : Lk) (A : Option Addr) (n c B : Nat) (xs : List UInt8) (w : World) (h : IsK w base g wv mv dv k) (hx : Has w B A xs) (hB : B ≤ w.heap.size) (hn : xs.length = n) (hap : ∀ j o, A = some ⟨j, o, none⟩ → j ≠ g)
    (h0 : 0 ≤ k.last) (h1 : k.last ≤ 4611686018427387904) (h2 : 0 ≤ k.old) (h3 : k.old ≤ k.last + 1) (hl : k.ls.length < 4096) :
    Calls Try.prog 38 #[.pointer (some ⟨g, 0, none⟩), .slice A n c] w (SendEnds base g wv mv dv k xs w) := by
  have HN := hide hn
  clear hn
  by_cases h6 : n ≤ 65472
  · have hold := loldest_any base g wv mv dv k w h h0 h1
    have hc2 := (row_cells h.blk 2).1
    have hf2 := (row_cells h.blk 2).2
    simp only [List.getElem?_toArray, List.getElem?_cons_succ, List.getElem?_cons_zero] at hc2
    have hw1 : IntKind.i64.wrap (k.last + 1) = k.last + 1 := IntWalk.i64_in _ (by omega)
    have hw2 : IntKind.i64.wrap (k.last + 1 - k.old) = k.last + 1 - k.old := IntWalk.i64_in _ (by omega)
    by_cases hq : k.last + 1 - k.old < 32
    · have HE : Hid (sendE k xs.length = 0) := hide (by unfold sendE; rw [HN.out, if_pos h6, if_pos hq])
      have hq' : decide (32 ≤ k.last + 1 - k.old) = false := decide_eq_false (by omega)
      have HH := hide h
      clear h hq
      go_enter Try.func38, Try.ntmps38
      go_upto_region 9 with (go_at_call 56; refine hold.mono ?_; rintro e w2 ⟨rfl, rfl⟩)
      have hk1 : Kept (fun j => j = g) w (w.setCell ⟨g, 2, none⟩ (.int .i64 (k.last + 1))) := (Kept.refl (fun j => j = g) w).setCell (p := ⟨g, 2, none⟩) (.inl rfl) _
      have h1' : IsK (w.setCell ⟨g, 2, none⟩ (.int .i64 (k.last + 1))) base g wv mv dv { k with last := k.last + 1 } := by
        obtain ⟨r1, r2, r3⟩ := HH.out.rest hk1 (fun j hj => .inl hj)
        exact ⟨by rw [set_cell_at _ HH.out.blk]; rfl, HH.out.bg, HH.out.row.keep fun j hj => hk1.block j (HH.out.row.lt j hj).2 (fun e => HH.out.ng (by rw [← e]; exact hj)), r1, r2, r3, HH.out.len, HH.out.dsl⟩
      have HK1 := hide hk1
      have hx1 : Has (w.setCell ⟨g, 2, none⟩ (.int .i64 (k.last + 1))) B A xs := fun i hi => by
        obtain ⟨b, o, hA, hb, hc⟩ := hx i hi
        refine ⟨b, o, hA, hb, ?_⟩
        rw [Kept.cell hk1 (by omega) (hap b o hA)]
        exact hc
      have hB1 : B ≤ (w.setCell ⟨g, 2, none⟩ (.int .i64 (k.last + 1))).heap.size := by have := hk1.size; omega
      generalize w.setCell ⟨g, 2, none⟩ (.int .i64 (k.last + 1)) = w1 at *
      have hz1 := hk1.size
      obtain ⟨Av, nv, cv, rfl, hnv, hncv, hcm, hrv, _, _⟩ := h1'.row.form
      have c0 := (row_cells h1'.blk 3).1
      simp only [List.getElem?_toArray, List.getElem?_cons_succ, List.getElem?_cons_zero] at c0
      have HC : Hid (∀ W, Has W B A xs → B ≤ W.heap.size → Calls Try.prog 57 #[.slice A n c] W (Makes xs W)) := hide (fun W a b => clone_any A n c B xs W a b HN.out (by omega))
      have HV : Hid (∀ w2 ob, Below w1.heap.size w1.drew w2 → (w2.alloc ob).cell? ⟨g, 3, none⟩ = some (.slice Av nv cv) ∧ OwnR (w2.alloc ob) base 93 4 (.slice Av nv cv) (k.ls.map Ltr.cells) ∧ base ≤ (w2.alloc ob).heap.size ∧ w2.cell? ⟨g, 3, none⟩ = some (.slice Av nv cv)) := hide (fun w2 ob hb => by
        have h2 := (h1'.drew.below hb)
        have h3 := h2.below ((Below.refl _ _).alloc (Nat.le_refl _) ob)
        exact ⟨by have := (row_cells h3.blk 3).1; simpa using this, h3.row, by have := h3.bg; have := lt_of_block h3.blk; omega, by have := (row_cells h2.blk 3).1; simpa using this⟩)
      have HW : Hid (∀ w2 ob w3, Below w1.heap.size w1.drew w2 → (w2.alloc ob).grownBy w3 (Value.slice Av nv cv).ownBlock → ∃ u, w3.cell? ⟨g, 3, none⟩ = some u ∧ w3.frozen? ⟨g, 3, none⟩ = false) := hide (fun w2 ob w3 hb hgr => by
        have h2 := (h1'.drew.below hb)
        have h3 := h2.below ((Below.refl _ _).alloc (Nat.le_refl _) ob)
        have hk := Kept.of_grown (F := fun k => (Value.slice Av nv cv).ownBlock = some k) hgr (fun k hk => hk)
        have hg3 : w3.heap[g]? = _ := (hk.block g (lt_of_block h3.blk) h3.ng).trans h3.blk
        have y1 := (row_cells hg3 3).1
        simp only [List.getElem?_toArray, List.getElem?_cons_succ, List.getElem?_cons_zero] at y1
        exact ⟨_, y1, (row_cells hg3 3).2⟩)
      have hwd : Hid (∀ A' n' c', Wide 4 [[(.int .i64 (k.last + 1) : Value), .slice A' n' c', .bool false, .int .i64 0]]) := hide (fun A' n' c' => Ltr.wide [⟨k.last + 1, A', n', c', false, 0, []⟩])
      have HL1 : Hid ((k.ls.map Ltr.cells).length + 1 ≤ maxLen) := hide (by rw [List.length_map]; unfold maxLen; omega)
      have HL2 : Hid (((k.ls.map Ltr.cells).length + 1) * 48 ≤ 140737488355328) := hide (by rw [List.length_map]; omega)
      have HH1 := hide h1'
      clear hk1 h1' hrv
      go_region_law (first
        | (go_simp; go_at_call 57; (with_reducible refine (HC.out _ ?_ ?_).mono ?_); exact hx1; exact hB1; rintro e w2 ⟨v2, rfl, ho2, b2⟩; obtain ⟨A2, n2, c2, rfl, hn2, _, _, _⟩ := ho2.form; obtain ⟨x0, x1, x2, x3⟩ := HV.out _ (.cells #[.int .i64 (k.last + 1), .slice A2 n2 c2, .bool false, .int .i64 0] 93) b2; have hone := one_row (heap_alloc_new w2 (.cells #[.int .i64 (k.last + 1), .slice A2 n2 c2, .bool false, .int .i64 0] 93)); simp only [])
        | (revert b2; intro b2; refine step_append_rows rowL _ (by rfl) (.tmp 29) (.tmp 34) (by rfl) base (.slice Av nv cv) _ (by rfl) x1 ⟨w2.heap.size, 0, none⟩ 1 1 [[(.int .i64 (k.last + 1) : Value), .slice A2 n2 c2, .bool false, .int .i64 0]] (by rfl) (hwd.out A2 n2 c2) (by rfl) hone HL1.out HL2.out x2 ?_; intro v3 w3 ho3 hgr3 hat3; obtain ⟨u3, q1, q2⟩ := HW.out _ _ _ b2 hgr3; obtain ⟨A3, n3, c3, rfl, hn3, hnc3, hx3⟩ := ho3.form))
      all_goals go_wp2_with fail
      all_goals go_ret
      all_goals
        have hcl := lsend_close HH1.out b2 ho2 hgr3 ho3 (by rw [HN.out]; exact h6) hl
        have hz2 : w1.heap.size ≤ w2.heap.size := b2.size
        exact ⟨by rw [HE.out]; rfl, .slice A3 n3 c3, _, hcl.1, (HK1.out.weak (fun j hj => .inl hj)).step hcl.2 (fun j hj => .inl hj), fun j hj => (by
          rcases hat3 with e | e
          · rw [e] at hj; exact .inl hj
          · rw [e] at hj
            injection hj with hj
            have hj' : w2.heap.size + 1 = j := by simpa using hj
            exact .inr (by omega)), fun e => absurd HE.out e, fun _ => ⟨A2, n2, c2, rfl, fun j hj => by have h5 : w1.heap.size ≤ j := (ho2.lt j hj).1; omega⟩⟩
    · have HE : Hid (sendE k xs.length = 64) := hide (by unfold sendE; rw [HN.out, if_pos h6, if_neg hq])
      have hq' : decide (32 ≤ k.last + 1 - k.old) = true := decide_eq_true (by omega)
      have HH := hide h
      clear h hq
      go_enter Try.func38, Try.ntmps38
      go_wp2_with fail
      refine hold.mono ?_
      rintro e w2 ⟨rfl, rfl⟩
      go_wp2
      go_ret
      exact SendEnds.stay HH.out HE.out (by decide)
  · have HE : Hid (sendE k xs.length = 12) := hide (by unfold sendE; rw [HN.out, if_neg h6])
    have HH := hide h
    clear h
    go_enter Try.func38, Try.ntmps38
    go_wp2
    go_ret
    exact SendEnds.stay HH.out HE.out (by decide)
end Go.Proofs.Ytpbfibofjkinmaa
