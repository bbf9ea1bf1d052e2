/-
  LearnerKeeps of the statements: for every input the law returns true, and what came in reads as it did. No condition.
  LearnerKeeps: the walk. No condition but the reach of what is read.
  forget, Trim and Jump of package learner. No condition but that a slot is a number of 64 bits.
-/
import Derived.Test.YtnngmapphacpkaaML1
import Derived.Laws.IdiomRangeMap
import Derived.Test.YtnngmapphacpkaaML2
set_option linter.unusedSimpArgs false
set_option linter.unusedVariables false

namespace Go.Proofs.Ytnngmapphacpkaa
open Go.RowKit Go.Maps

/-- What is left above a slot. -/
def cutM {α : Type} (M : Int → Option α) (last : Int) : Int → Option α := fun s => if s ≤ last then none else M s
theorem cutM_some {α : Type} {M : Int → Option α} {last s : Int} {x : α} (h : cutM M last s = some x) : last < s ∧ M s = some x := by
  unfold cutM at h
  by_cases e : s ≤ last
  · rw [if_pos e] at h; cases h
  · rw [if_neg e] at h; exact ⟨by omega, h⟩
theorem cutM_isSome {α : Type} {M : Int → Option α} {last s : Int} : (cutM M last s).isSome = (decide (last < s) && (M s).isSome) := by
  unfold cutM
  by_cases e : s ≤ last
  · rw [if_pos e, decide_eq_false (by omega)]; rfl
  · rw [if_neg e, decide_eq_true (by omega)]; rfl
/-- The loop's memory. -/
structure FG (w : World) (b r n : Nat) (M : Int → Option Value) (last : Int) (D' : DataW Value) (left : Lit → Bool) (cnt : Nat) (wr : World) : Prop where
  rg : wr.ranges Try.prog 3 raw b r n D' left cnt
  has : ∀ x, Maps.has D' (.int .i64 x) = ((M x).isSome && (decide (last < x) || left (.int .i64 x)))
  val : ∀ x v, M x = some v → (last < x ∨ left (.int .i64 x) = true) → ∀ z, D'.atKey (.int .i64 x) z = .held v
  kept : Kept (fun j => j = b) w wr
theorem FG.fin {w wr : World} {b r n cnt : Nat} {M : Int → Option Value} {last : Int} {D' : DataW Value} {left : Lit → Bool} (h : FG w b r n M last D' left cnt wr) (hl : ∀ k, left k = false) : IMap wr b (cutM M last) :=
  ⟨D', owns_tight h.rg.owns, fun x => by rw [h.has, hl, Bool.or_false, cutM_isSome, Bool.and_comm], fun x v hx z => by
    obtain ⟨h1, h2⟩ := cutM_some hx
    exact h.val x v h2 (.inl h1) z⟩
theorem FG.del {w wr w' : World} {b r n cnt cnt' : Nat} {M : Int → Option Value} {last x : Int} {D' : DataW Value} {left : Lit → Bool} (h : FG w b r n M last D' left cnt wr) (hx : x ≤ last)
    (hr : w'.ranges Try.prog 3 raw b r n (D'.del (.int .i64 x)) (fun k => left k && !k.sameKey (.int .i64 x)) cnt') (hk : Kept (fun j => j = b) w w') : FG w b r n M last (D'.del (.int .i64 x)) (fun k => left k && !k.sameKey (.int .i64 x)) cnt' w' :=
  ⟨hr, fun y => by
    by_cases e : y = x
    · subst e
      rw [Maps.has_del_same, same_key, decide_eq_true rfl, decide_eq_false (by omega)]
      simp
    · rw [Maps.has_del_other (lit_ne e), h.has y, same_key, decide_eq_false e]
      simp, fun y v hy hl z => by
    try dsimp only at hl
    by_cases e : y = x
    · subst e
      rw [same_key, decide_eq_true rfl] at hl
      rcases hl with h1 | h1
      · omega
      · simp at h1
    · rw [same_key, decide_eq_false e] at hl
      rw [Maps.atKey_del_other (lit_ne e)]
      exact h.val y v hy (by simpa using hl) z, hk⟩
theorem FG.stay {w wr w' : World} {b r n cnt cnt' : Nat} {M : Int → Option Value} {last x : Int} {D' : DataW Value} {left : Lit → Bool} (h : FG w b r n M last D' left cnt wr) (hx : ¬ x ≤ last)
    (hr : w'.ranges Try.prog 3 raw b r n D' (fun k => left k && !k.sameKey (.int .i64 x)) cnt') (hk : Kept (fun j => j = b) w w') : FG w b r n M last D' (fun k => left k && !k.sameKey (.int .i64 x)) cnt' w' :=
  ⟨hr, fun y => by
    by_cases e : y = x
    · subst e
      rw [h.has y, decide_eq_true (show last < y by omega)]
      simp
    · rw [h.has y, same_key, decide_eq_false e]
      simp, fun y v hy hl z => by
    try dsimp only at hl
    by_cases e : y = x
    · subst e
      exact h.val y v hy (.inl (by omega)) z
    · rw [same_key, decide_eq_false e] at hl
      exact h.val y v hy (by simpa using hl) z, hk⟩
set_option maxHeartbeats 1600000 in
set_option maxRecDepth 20000 in
theorem eforgetV_any {w : World} {b : Nat} {M : Int → Option Value} (h : IMap w b M) (last : Int) : Calls Try.prog 42 #[.map (some b), .int .i64 last] w fun e w' => e = .returned (.tuple #[]) ∧ IMap w' b (cutM M last) ∧ Kept (fun j => j = b) w w' := by
  obtain ⟨D, ho, hh, hv⟩ := h
  have hbw := ho.lt
  have HH := hide hh
  have HV := hide hv
  clear hh hv
  go_enter Try.func42, Try.ntmps42
  go_wp2_with (first | (at_range; refine wpList_range_own _ rfl _ 74 rfl 3 84 int_key Try.underlying74 _ b (Maps.size D) D rfl ho ?_; intro w0 hrg0 hg0 hs0) | fail)
  (try go_frame)
  have k0 : Kept (fun j => j = b) w w0 := Kept.of_grown (F := fun j => j = b) hg0 (fun j hj => by cases hj)
  have HF0 : Hid (FG w b w.heap.size (Maps.size D) M last D (Maps.has D) (Maps.size D) w0) := hide ⟨hrg0, fun x => by rw [HH.out x]; cases (M x).isSome <;> simp, fun x v hx _ z => HV.out x v hx z, k0⟩
  generalize hrr : w.heap.size = r at *
  clear hrg0 hg0 hs0 k0 ho
  go_loopw [4] (fun _ wr => ∃ (D' : DataW Value) (left : Lit → Bool) (cnt : Nat), Hid (FG w b r (Maps.size D) M last D' left cnt wr)) (fun _ wr => wr.rangeLeft b r)
  case atStart => exact ⟨D, _, _, HF0⟩
  case round =>
    clear HF0
    obtain ⟨D', left, cnt, hF⟩ := hrel
    have hrg := hF.out.rg
    go_wp2_with (first | (at_next; refine wpList_next_ranges _ rfl _ rfl 3 int_key raw (Value.int .i64) (fun (v : Value) => v) (fun key kl hkey => (by obtain ⟨x, e⟩ := Maps.keyOf_int_inv Try.underlying3 hkey; exact ⟨x, e.1⟩)) (fun v y hv => ⟨v, rfl⟩) b r (Maps.size D) D' left cnt rfl hrg ?_ ?_) | fail)
    · intro hc0 hl0
      have HE := hide (And.intro (hF.out.fin (fun k => by rw [hl0])) hF.out.kept)
      clear hc0 hl0 hrg
      go_wp2
      go_end0
      exact ⟨rfl, HE.out⟩
    · intro x u kl yd yp w3 cnt3 hkey hlk hvy hat hrg3 hlt hg3 hs3 hen
      obtain ⟨x', hx'⟩ := Maps.keyOf_int_inv Try.underlying3 hkey
      have ex : x' = x := by have := hx'.1; injection this with _ e; exact e.symm
      subst ex
      obtain ⟨_, ekl, hwx⟩ := hx'
      subst ekl
      have hrl := hrg.lt
      have hrm : wr.rangeLeft b r = cnt := hrg.left_eq
      have hkr : Kept (fun j => j = b) w w3 := hF.out.kept.step (Kept.of_grown (F := fun j => j = r) hg3 (fun j hj => (Option.some.inj hj).symm)) (fun j hj => .inr (by omega))
      have HKR := hide hkr
      clear hkr hat hvy hrg
      by_cases hxa : x' ≤ last
      · go_wp2_with (first | (at_delete; refine wpList_delete_ranges _ rfl _ _ 74 3 rfl 84 int_key Try.underlying74 raw b r (Maps.size D) D' _ cnt3 rfl hrg3 _ (.int .i64 x') rfl hkey ?_; intro w4 cnt4 hrg4 hle4 hturn4) | (at_delete; trace_state; fail) | fail)
        rw [Maps.strike_twice] at hrg4
        have hk4 : Kept (fun j => j = b) w w4 := HKR.out.step (Kept.of_grown (F := fun j => j = b) hturn4.grown (fun j hj => (Option.some.inj hj).symm)) (fun j hj => .inl hj)
        refine ⟨⟨_, _, _, _, _, _, _, _, _, _, ⟨_, _, cnt4, hide (hF.out.del hxa hrg4 hk4)⟩, rfl⟩, by rw [hrg4.left_eq]; omega⟩
      · go_wp2_with fail
        exact ⟨⟨D', _, cnt3, hide (hF.out.stay hxa hrg3 HKR.out)⟩, by rw [hrg3.left_eq, hrm]; exact hlt⟩
set_option maxHeartbeats 1600000 in
set_option maxRecDepth 20000 in
theorem eforgetD_any {w : World} {b : Nat} {M : Int → Option Value} (h : IMap w b M) (last : Int) : Calls Try.prog 43 #[.map (some b), .int .i64 last] w fun e w' => e = .returned (.tuple #[]) ∧ IMap w' b (cutM M last) ∧ Kept (fun j => j = b) w w' := by
  obtain ⟨D, ho, hh, hv⟩ := h
  have hbw := ho.lt
  have HH := hide hh
  have HV := hide hv
  clear hh hv
  go_enter Try.func43, Try.ntmps43
  go_wp2_with (first | (at_range; refine wpList_range_own _ rfl _ 75 rfl 3 35 int_key Try.underlying75 _ b (Maps.size D) D rfl ho ?_; intro w0 hrg0 hg0 hs0) | fail)
  (try go_frame)
  have k0 : Kept (fun j => j = b) w w0 := Kept.of_grown (F := fun j => j = b) hg0 (fun j hj => by cases hj)
  have HF0 : Hid (FG w b w.heap.size (Maps.size D) M last D (Maps.has D) (Maps.size D) w0) := hide ⟨hrg0, fun x => by rw [HH.out x]; cases (M x).isSome <;> simp, fun x v hx _ z => HV.out x v hx z, k0⟩
  generalize hrr : w.heap.size = r at *
  clear hrg0 hg0 hs0 k0 ho
  go_loopw [4] (fun _ wr => ∃ (D' : DataW Value) (left : Lit → Bool) (cnt : Nat), Hid (FG w b r (Maps.size D) M last D' left cnt wr)) (fun _ wr => wr.rangeLeft b r)
  case atStart => exact ⟨D, _, _, HF0⟩
  case round =>
    clear HF0
    obtain ⟨D', left, cnt, hF⟩ := hrel
    have hrg := hF.out.rg
    go_wp2_with (first | (at_next; refine wpList_next_ranges _ rfl _ rfl 3 int_key raw (Value.int .i64) (fun (v : Value) => v) (fun key kl hkey => (by obtain ⟨x, e⟩ := Maps.keyOf_int_inv Try.underlying3 hkey; exact ⟨x, e.1⟩)) (fun v y hv => ⟨v, rfl⟩) b r (Maps.size D) D' left cnt rfl hrg ?_ ?_) | fail)
    · intro hc0 hl0
      have HE := hide (And.intro (hF.out.fin (fun k => by rw [hl0])) hF.out.kept)
      clear hc0 hl0 hrg
      go_wp2
      go_end0
      exact ⟨rfl, HE.out⟩
    · intro x u kl yd yp w3 cnt3 hkey hlk hvy hat hrg3 hlt hg3 hs3 hen
      obtain ⟨x', hx'⟩ := Maps.keyOf_int_inv Try.underlying3 hkey
      have ex : x' = x := by have := hx'.1; injection this with _ e; exact e.symm
      subst ex
      obtain ⟨_, ekl, hwx⟩ := hx'
      subst ekl
      have hrl := hrg.lt
      have hrm : wr.rangeLeft b r = cnt := hrg.left_eq
      have hkr : Kept (fun j => j = b) w w3 := hF.out.kept.step (Kept.of_grown (F := fun j => j = r) hg3 (fun j hj => (Option.some.inj hj).symm)) (fun j hj => .inr (by omega))
      have HKR := hide hkr
      clear hkr hat hvy hrg
      by_cases hxa : x' ≤ last
      · go_wp2_with (first | (at_delete; refine wpList_delete_ranges _ rfl _ _ 75 3 rfl 35 int_key Try.underlying75 raw b r (Maps.size D) D' _ cnt3 rfl hrg3 _ (.int .i64 x') rfl hkey ?_; intro w4 cnt4 hrg4 hle4 hturn4) | (at_delete; trace_state; fail) | fail)
        rw [Maps.strike_twice] at hrg4
        have hk4 : Kept (fun j => j = b) w w4 := HKR.out.step (Kept.of_grown (F := fun j => j = b) hturn4.grown (fun j hj => (Option.some.inj hj).symm)) (fun j hj => .inl hj)
        refine ⟨⟨_, _, _, _, _, _, _, _, _, _, ⟨_, _, cnt4, hide (hF.out.del hxa hrg4 hk4)⟩, rfl⟩, by rw [hrg4.left_eq]; omega⟩
      · go_wp2_with fail
        exact ⟨⟨D', _, cnt3, hide (hF.out.stay hxa hrg3 HKR.out)⟩, by rw [hrg3.left_eq, hrm]; exact hlt⟩
section
variable {w w' : World} {F : Nat → Prop} {g : Nat} {A : Option Addr} {n c vb db : Nat} {I : Int → Nat} {l : Lv}
theorem IsDec.cut {D : Int → Option Vl} (h : IsDec w F db D) : ∃ M, IMap w db M ∧ ∀ w' last, IMap w' db (cutM M last) → RowsSame w w' → IsDec w' F db (cutM D last) := by
  obtain ⟨M, h1, h2, h3⟩ := h
  refine ⟨M, h1, fun w' last hm hs => ⟨_, hm, fun k hk => ?_, fun k y hy => ?_⟩⟩
  · unfold cutM at hk ⊢
    by_cases e : k ≤ last
    · rw [if_pos e]
    · rw [if_neg e] at hk ⊢
      exact h2 k hk
  · obtain ⟨e, hy'⟩ := cutM_some hy
    obtain ⟨u, hu, hv⟩ := h3 k y hy'
    exact ⟨u, by unfold cutM; rw [if_neg (by omega)]; exact hu, hv.same hs⟩
theorem vs_cut {V : Int → Option (Int → Option Vt)} (last : Int) : cutM (fun s => (V s).map fun _ => Value.map (some (I s))) last = fun s => (cutM V last s).map fun _ => Value.map (some (I s)) := by
  funext s
  unfold cutM
  by_cases e : s ≤ last
  · rw [if_pos e, if_pos e]; rfl
  · rw [if_neg e, if_neg e]
/-- A learner of which less is kept. -/
theorem IsL.less (h : IsL w F g A n c vb db I l) {l' : Lv} (hms : l'.ms = l.ms) (hgd : l'.Good) (hk : Kept (fun j => j = g ∨ j = vb ∨ j = db) w w') (hss : RowsSame w w')
    (hb : w'.heap[g]? = some (.cells #[.slice A n c, .int .i64 l'.next, .int .i64 l'.heard, .map (some vb), .map (some db)] 78 (0, 0))) (hvs : IsVs w' vb I l'.V) (hV : ∀ s N, l'.V s = some N → l.V s = some N) (hdec : IsDec w' F db l'.D) :
    IsL w' F g A n c vb db I l' ∧ Kept F w w' := by
  have hg := h.gno
  have hVs : ∀ s, (l'.V s).isSome = true → (l.V s).isSome = true := fun s hs => by
    obtain ⟨N, hN⟩ := Option.isSome_iff_exists.1 hs
    rw [hV s N hN]; rfl
  refine ⟨⟨hgd, hb, ?_, hvs, fun s N hN => ?_, hdec, fun a b ha hb => h.inj a b (hVs a ha) (hVs b hb), fun s hs => h.iv s (hVs s hs), h.vd, h.Fg, h.Fv, h.Fd, fun s hs => h.Fi s (hVs s hs), h.Fm, fun j hj => Nat.lt_of_lt_of_le (h.Flt j hj) hk.size⟩, hk.weak (fun j hj => by
    rcases hj with e | e | e <;> rw [e]
    · exact h.Fg
    · exact h.Fv
    · exact h.Fd)⟩
  · rw [hms]
    exact h.ms.keep fun j hj => by
      obtain ⟨cur, hc⟩ := ownsRow_typed h.ms j hj
      exact hss j cur _ hc (by decide)
  · have hN' := hV s N hN
    have hs : (l.V s).isSome = true := by rw [hN']; rfl
    exact (h.inn s N hN').same hss (hk.block _ (h.Flt _ (h.Fi s hs)) (fun e => by
      have h1 := h.iv s hs
      rcases e with e | e | e
      · exact hg.2.2 s hs e
      · exact h1.1 e
      · exact h1.2 e))
def Lv.trim (l : Lv) (s : Int) : Lv := { l with D := cutM l.D (min s (l.next - 1)) }
def Lv.jump (l : Lv) (x : Int) : Lv × Bool := if l.next < x ∧ x ≤ 1099511627776 then ({ l with next := x, V := cutM l.V (x - 1), D := cutM l.D (x - 1) }, true) else (l, false)
theorem Lv.Good.trim (h : l.Good) (s : Int) : (l.trim s).Good :=
  ⟨h.rt, h.nx, h.hd, h.vr, fun y hy => by
    have hy' : (cutM l.D (min s (l.next - 1)) y).isSome = true := hy
    rw [cutM_isSome, Bool.and_eq_true] at hy'
    exact h.dr y hy'.2, fun y hy => by
    show cutM l.D (min s (l.next - 1)) y = none
    unfold cutM
    rw [h.dj y hy]
    simp, h.nr⟩
theorem Lv.Good.jump (h : l.Good) {x : Int} (hx : l.next < x ∧ x ≤ 1099511627776) : ({ l with next := x, V := cutM l.V (x - 1), D := cutM l.D (x - 1) } : Lv).Good := by
  have hn := h.nx
  refine ⟨h.rt, ⟨?_, ?_⟩, h.hd, fun y hy => ?_, fun y hy => ?_, fun y hy => ?_, fun y N hy => ?_⟩
  · show 1 ≤ x; omega
  · show x ≤ 1099511627777; omega
  · have hy' : (cutM l.V (x - 1) y).isSome = true := hy
    rw [cutM_isSome, Bool.and_eq_true] at hy'
    have h1 := of_decide_eq_true hy'.1
    have h2 := h.vr y hy'.2
    show x ≤ y ∧ y < x + 128 ∧ y ≤ 1099511627776
    omega
  · have hy' : (cutM l.D (x - 1) y).isSome = true := hy
    rw [cutM_isSome, Bool.and_eq_true] at hy'
    have h2 := h.dr y hy'.2
    show 1 ≤ y ∧ y < x + 128 ∧ y ≤ 1099511627776
    omega
  · have hy' : (cutM l.V (x - 1) y).isSome = true := hy
    rw [cutM_isSome, Bool.and_eq_true] at hy'
    show cutM l.D (x - 1) y = none
    unfold cutM
    rw [h.dj y hy'.2]
    simp
  · exact h.nr y N (cutM_some (show cutM l.V (x - 1) y = some N from hy)).2
set_option maxHeartbeats 1600000 in
set_option maxRecDepth 20000 in
theorem etrim_any (h : IsL w F g A n c vb db I l) (s : Int) (hs : (Lit.int .i64 s).wf = true) : Calls Try.prog 28 #[.pointer (some ⟨g, 0, none⟩), .int .i64 s] w (LEnds F g A n c vb db (l.trim s) (.tuple #[]) w) := by
  have hm := emade_any h
  have hnx := h.good.nx
  have c1 := h.cells.1.2.1
  have c4 := h.cells.1.2.2.2.2
  have hwr : IntKind.i64.wrap (l.next - 1) = l.next - 1 := IntWalk.i64_in _ (by omega)
  have hd := h.below ((Below.refl _ w).drew)
  obtain ⟨M, hM, hcut⟩ := hd.dec.cut
  have hf := eforgetD_any hM (min s (l.next - 1))
  have HF : Hid (∀ w', IMap w' db (cutM M (min s (l.next - 1))) → Kept (fun j => j = db) w.drew w' → LEnds F g A n c vb db (l.trim s) (.tuple #[]) w (.returned (.tuple #[])) w') := hide (fun w' h1 h2 => by
    obtain ⟨es, cl, ho⟩ := hM.obj
    have hss := RowsSame.of_kept h2 (fun j hj => .inl ⟨es, cl, by rw [hj]; exact ho⟩)
    have hg := hd.gno
    obtain ⟨r1, r2⟩ := hd.less (l' := l.trim s) rfl (hd.good.trim s) (h2.weak fun j hj => .inr (.inr hj)) hss ((h2.block g (hd.Flt g hd.Fg) (fun e => hg.2.1 e)).trans hd.blk) (hd.vs.keep (h2.block vb (hd.Flt vb hd.Fv) (fun e => hd.vd e))) (fun _ _ h => h) (hcut w' _ h1 hss)
    exact ⟨rfl, I, F, r1, ((Kept.of_below (F := F) ((Below.refl _ w).drew)).step r2 (fun j hj => .inl hj)), fun j hj => .inl hj⟩)
  clear h hd hM hcut
  go_enter Try.func28, Try.ntmps28
  go_wp2_with fail
  refine hm.mono ?_
  rintro e _ ⟨rfl, rfl⟩
  clear hm
  generalize hmn : min s (l.next - 1) = mn at *
  go_upto_region 1 with fail
  go_region_law (go_simp; go_at_call 43; (with_reducible refine hf.mono ?_); rintro e w1 ⟨rfl, hm1, hk1⟩; simp only [])
  all_goals go_wp2_with fail
  all_goals go_end0
  all_goals exact HF.out _ hm1 hk1
set_option maxHeartbeats 1600000 in
set_option maxRecDepth 20000 in
theorem ejump_any (h : IsL w F g A n c vb db I l) (x : Int) (hx : (Lit.int .i64 x).wf = true) : Calls Try.prog 18 #[.pointer (some ⟨g, 0, none⟩), .int .i64 x] w (LEnds F g A n c vb db (l.jump x).1 (.bool (l.jump x).2) w) := by
  have hm := emade_any h
  have hnx := h.good.nx
  have c1 := h.cells.1.2.1
  have f1 := h.cells.2 1
  by_cases h1 : x ≤ l.next
  · have HE : Hid (l.jump x = (l, false)) := hide (if_neg (by omega))
    have hd1 : decide (x ≤ l.next) = true := decide_eq_true h1
    have HH := hide h
    clear h
    go_enter Try.func18, Try.ntmps18
    go_wp2_with fail
    refine hm.mono ?_
    rintro e _ ⟨rfl, rfl⟩
    go_wp2_with fail
    go_ret
    exact ⟨by rw [HE.out]; rfl, I, F, by rw [HE.out]; exact HH.out, Kept.refl _ _, fun j hj => .inl hj⟩
  · have hd1 : decide (x ≤ l.next) = false := decide_eq_false h1
    by_cases h2 : x ≤ 1099511627776
    · have hd2 : decide (1099511627776 < x) = false := decide_eq_false (by omega)
      have HE : Hid (l.jump x = ({ l with next := x, V := cutM l.V (x - 1), D := cutM l.D (x - 1) }, true)) := hide (if_pos ⟨by omega, h2⟩)
      have hwr : IntKind.i64.wrap (x - 1) = x - 1 := IntWalk.i64_in _ (by omega)
      have hg := h.gno
      have hbx : (w.setCell ⟨g, 1, none⟩ (.int .i64 x)).heap[g]? = some (.cells #[.slice A n c, .int .i64 x, .int .i64 l.heard, .map (some vb), .map (some db)] 78 (0, 0)) := by rw [heap_setCell_same w g 1 _ _ _ h.blk]; rfl
      have hk0 : Kept (fun j => j = g) w (w.setCell ⟨g, 1, none⟩ (.int .i64 x)) := (Kept.refl (fun j => j = g) w).setCell (p := ⟨g, 1, none⟩) (.inl rfl) _
      have hs0 := RowsSame.of_set (i := 1) h.blk (.int .i64 x)
      have hv0 := h.vs.keep (hk0.block vb (h.Flt vb h.Fv) (fun e => hg.1 e.symm))
      have hd0 := h.dec.same hs0 (hk0.block db (h.Flt db h.Fd) (fun e => hg.2.1 e.symm))
      have HH := hide h
      have HGJ := hide (h.good.jump (x := x) ⟨by omega, h2⟩)
      have HB0 := hide hbx
      have HK0 := hide hk0
      have HS0 := hide hs0
      have HV0 := hide hv0
      have HD0 := hide hd0
      have HZ : Hid (g < (w.setCell ⟨g, 1, none⟩ (.int .i64 x)).heap.size ∧ vb < (w.setCell ⟨g, 1, none⟩ (.int .i64 x)).heap.size ∧ db < (w.setCell ⟨g, 1, none⟩ (.int .i64 x)).heap.size) := hide ⟨Nat.lt_of_lt_of_le (h.Flt g h.Fg) hk0.size, Nat.lt_of_lt_of_le (h.Flt vb h.Fv) hk0.size, Nat.lt_of_lt_of_le (h.Flt db h.Fd) hk0.size⟩
      have HG := hide hg
      have HVD := hide h.vd
      clear h hk0 hs0 hv0 hd0 hg hbx
      go_enter Try.func18, Try.ntmps18
      go_wp2_with fail
      refine hm.mono ?_
      rintro e _ ⟨rfl, rfl⟩
      clear hm
      go_upto_region 4 with fail
      generalize w.setCell ⟨g, 1, none⟩ (.int .i64 x) = w1 at *
      have c3 := (row_cells HB0.out 3).1
      simp only [List.getElem?_toArray, List.getElem?_cons_succ, List.getElem?_cons_zero] at c3
      have hfv := eforgetV_any HV0.out (x - 1)
      clear c1 f1
      go_wp2_with fail
      refine hfv.mono ?_
      rintro e w2 ⟨rfl, hm2, hk2⟩
      have hb2 := (hk2.block g HZ.out.1 (fun e => HG.out.1 e)).trans HB0.out
      have c4 := (row_cells hb2 4).1
      simp only [List.getElem?_toArray, List.getElem?_cons_succ, List.getElem?_cons_zero] at c4
      obtain ⟨es, cl, hov⟩ := IMap.obj HV0.out
      have hs2 : RowsSame w1 w2 := RowsSame.of_kept hk2 (fun j hj => .inl ⟨es, cl, by rw [hj]; exact hov⟩)
      have hd2' := HD0.out.same hs2 (hk2.block db HZ.out.2.2 (fun e => HVD.out e.symm))
      obtain ⟨M, hM, hcut⟩ := hd2'.cut
      have hfd := eforgetD_any hM (x - 1)
      have HM := hide hM
      have HCUT := hide hcut
      have HM2 := hide hm2
      have HK2 := hide hk2
      have HS2 := hide hs2
      have HB2 := hide hb2
      clear c3 hfv hm2 hk2 hs2 hd2' hM hcut hov hb2
      go_wp2_with fail
      refine hfd.mono ?_
      rintro e w3 ⟨rfl, hm3, hk3⟩
      obtain ⟨es3, cl3, hod⟩ := HM.out.obj
      have hs3 : RowsSame w2 w3 := RowsSame.of_kept hk3 (fun j hj => .inl ⟨es3, cl3, by rw [hj]; exact hod⟩)
      have hz2 := HK2.out.size
      have hz := HZ.out
      have hkk : Kept (fun j => j = g ∨ j = vb ∨ j = db) w w3 := ((HK0.out.weak (fun j hj => .inl hj)).step HK2.out (fun j hj => .inl (.inr (.inl hj)))).step hk3 (fun j hj => .inl (.inr (.inr hj)))
      have hvs3 : IsVs w3 vb I (cutM l.V (x - 1)) := by
        have h3 : IMap w2 vb (fun s => (cutM l.V (x - 1) s).map fun _ => Value.map (some (I s))) := by
          rw [← vs_cut]
          exact HM2.out
        exact h3.keep (hk3.block vb (by omega) (fun e => HVD.out e))
      have hlast := HH.out.less (l' := { l with next := x, V := cutM l.V (x - 1), D := cutM l.D (x - 1) }) rfl HGJ.out hkk ((HS0.out.trans HS2.out).trans hs3) ((hk3.block g (by omega) (fun e => HG.out.2.1 e)).trans HB2.out) hvs3 (fun s N hN => (cutM_some hN).2) (HCUT.out w3 _ hm3 hs3)
      have HL := hide hlast
      clear hlast hvs3 hkk hs3 hod hm3 hk3 hfd c4
      go_wp2_with fail
      go_ret
      exact ⟨by rw [HE.out]; rfl, I, F, by rw [HE.out]; exact HL.out.1, HL.out.2, fun j hj => .inl hj⟩
    · have hd2 : decide (1099511627776 < x) = true := decide_eq_true (by omega)
      have HE : Hid (l.jump x = (l, false)) := hide (if_neg (by omega))
      have HH := hide h
      clear h
      go_enter Try.func18, Try.ntmps18
      go_wp2_with fail
      refine hm.mono ?_
      rintro e _ ⟨rfl, rfl⟩
      go_wp2_with fail
      go_ret
      exact ⟨by rw [HE.out]; rfl, I, F, by rw [HE.out]; exact HH.out, Kept.refl _ _, fun j hj => .inl hj⟩
theorem el_trim (h : EL w F g l) (s : Int) (hs : (Lit.int .i64 s).wf = true) : Calls Try.prog 28 #[.pointer (some ⟨g, 0, none⟩), .int .i64 s] w (ELEnds F g (l.trim s) (.tuple #[]) w) := by
  obtain ⟨A, n', c, vb, db, I, h⟩ := h
  exact (etrim_any h s hs).mono fun e w' h => h.el
theorem el_jump (h : EL w F g l) (x : Int) (hx : (Lit.int .i64 x).wf = true) : Calls Try.prog 18 #[.pointer (some ⟨g, 0, none⟩), .int .i64 x] w (ELEnds F g (l.jump x).1 (.bool (l.jump x).2) w) := by
  obtain ⟨A, n', c, vb, db, I, h⟩ := h
  exact (ejump_any h x hx).mono fun e w' h => h.el
end
end Go.Proofs.Ytnngmapphacpkaa

namespace Go.Proofs.Ytnngmapphacpkaa
open Go.RowKit

theorem trim_has {l : Lv} {s tr : Int} {x : Vl} (h : l.D s = some x) : ((l.trim tr).D s).isSome = !(decide (s ≤ tr) && decide (s < l.next)) := by
  show (cutM l.D (min tr (l.next - 1)) s).isSome = _
  rw [cutM_isSome, h, show (some x).isSome = true from rfl, Bool.and_true]
  by_cases h1 : s ≤ tr
  · by_cases h2 : s < l.next
    · rw [decide_eq_true h1, decide_eq_true h2, decide_eq_false (by omega)]; rfl
    · rw [decide_eq_true h1, decide_eq_false h2, decide_eq_true (by omega)]; rfl
  · rw [decide_eq_false h1, decide_eq_true (by omega)]; rfl
theorem trim_val {l : Lv} {s tr : Int} {x : Vl} (h : l.D s = some x) (h2 : ((l.trim tr).D s).isSome = true) : (l.trim tr).known s = x := by
  obtain ⟨y, hy⟩ := Option.isSome_iff_exists.1 h2
  have h3 := (cutM_some (show cutM l.D (min tr (l.next - 1)) s = some y from hy)).2
  unfold Lv.known
  rw [hy]
  rw [h] at h3
  exact (Option.some.inj h3).symm
theorem jump_has (l : Lv) (jp s : Int) : ((l.jump jp).1.D s).isSome = ((l.D s).isSome && !((!((l.jump jp).1.next == l.next)) && decide (s < (l.jump jp).1.next))) := by
  unfold Lv.jump
  split
  · rename_i h
    show (cutM l.D (jp - 1) s).isSome = ((l.D s).isSome && !((!(jp == l.next)) && decide (s < jp)))
    have e : (jp == l.next) = false := beq_eq_false_iff_ne.2 (by omega)
    rw [cutM_isSome, e, Bool.and_comm]
    by_cases h1 : s < jp
    · rw [decide_eq_true h1, decide_eq_false (by omega)]; rfl
    · rw [decide_eq_false h1, decide_eq_true (by omega)]; rfl
  · show (l.D s).isSome = ((l.D s).isSome && !((!(l.next == l.next)) && decide (s < l.next)))
    simp
theorem jump_does (l : Lv) (jp : Int) : (l.jump jp).2 = (decide (l.next < jp) && decide (jp ≤ 1099511627776)) ∧ (l.jump jp).1.next = max l.next (min jp (l.jump jp).1.next) := by
  unfold Lv.jump
  split
  · rename_i h
    exact ⟨by rw [decide_eq_true h.1, decide_eq_true h.2]; rfl, by show jp = max l.next (min jp jp); omega⟩
  · rename_i h
    refine ⟨?_, by show l.next = max l.next (min jp l.next); omega⟩
    by_cases h1 : l.next < jp
    · rw [decide_eq_true h1, decide_eq_false (by omega)]; rfl
    · rw [decide_eq_false h1]; rfl
theorem passed_D (l : Lv) : l.passed.D = l.D := by
  unfold Lv.passed
  split <;> rfl
/-- What the loops hold. -/
structure KRd (w : World) (g : Nat) (ts : List Eop) (l : Lv) (fs : List Eop) (F : Nat → Prop) (s4 : Value) (wr : World) : Prop where
  el : EL wr F g l
  own : OwnR wr w.heap.size 42 6 s4 (fs.map Eop.row)
  sub : ∀ q ∈ fs, q ∈ ts
  fl : ∀ j, F j → w.heap.size ≤ j
  off : ∀ j, s4.ownBlock = some j → ¬ F j
  bel : Below w.heap.size w wr
theorem KRd.below {w wr w' : World} {g : Nat} {ts fs : List Eop} {l : Lv} {F : Nat → Prop} {s4 : Value} (h : KRd w g ts l fs F s4 wr) (hb : Below wr.heap.size wr w') : KRd w g ts l fs F s4 w' :=
  ⟨h.el.below hb, h.own.below hb, h.sub, h.fl, h.off, h.bel.trans (hb.mono h.bel.size)⟩
/-- Behind a call that may turn the learner. -/
theorem KRd.turn {w wr w' : World} {g : Nat} {ts fs : List Eop} {l l' : Lv} {F F' : Nat → Prop} {s4 : Value} (h : KRd w g ts l fs F s4 wr) (he : EL w' F' g l') (hk : Kept F wr w') (hs : ∀ j, F' j → F j ∨ wr.heap.size ≤ j) : KRd w g ts l' fs F' s4 w' :=
  ⟨he, h.own.keep fun j hj => hk.block j (h.own.lt j hj).2 (h.off j hj), h.sub, fun j hj => (hs j hj).elim (h.fl j) (fun e => by have := h.bel.size; omega), fun j hj hf => (hs j hf).elim (h.off j hj) (fun e => by have := (h.own.lt j hj).2; omega), h.bel.trans (hk.below h.bel.size h.fl)⟩
set_option maxHeartbeats 6400000 in
set_option maxRecDepth 20000 in
theorem keeps_walk (Ae : Option Addr) (ne ce : Nat) (ts : List Eop) (tr jp : Int) (w : World) (hE : HasE w w.heap.size Ae ts) (eE : ts.length = ne) (lE : ne ≤ 1353245080300) (htr : (Lit.int .i64 tr).wf = true) (hjp : (Lit.int .i64 jp).wf = true) :
    Calls Try.prog 7 #[.slice Ae ne ce, .int .i64 tr, .int .i64 jp] w fun e w' => e = .returned (.bool true) ∧ Below w.heap.size w w' := by
  have HEE := hide hE
  have HNE := hide eE
  have HTR := hide htr
  have HJP := hide hjp
  clear hE eE htr hjp
  go_enter Try.func7, Try.ntmps7
  go_wp2_with fail
  refine (head15_any w).mono ?_
  rintro e w1 ⟨rfl, hb1⟩
  have hm1 : HasI (w1.alloc (.cells (icells [1, 2, 3]) 3)) (w1.heap.size + 1) (some ⟨w1.heap.size, 0, none⟩) [1, 2, 3] := HasI.new w1 3 [1, 2, 3] (0, 0) w1.heap.size rfl
  have ba1 := (Below.refl _ w1).alloc (Nat.le_refl _) (.cells (icells [1, 2, 3]) 3)
  have hic : icells [1, 2, 3] = #[.int .i64 1, .int .i64 2, .int .i64 3] := rfl
  rw [hic] at hm1 ba1
  have hz1 : (w1.alloc (.cells #[.int .i64 1, .int .i64 2, .int .i64 3] 3)).heap.size = w1.heap.size + 1 := by simp
  go_wp2_with fail
  generalize w1.alloc (.cells #[.int .i64 1, .int .i64 2, .int .i64 3] 3) = w2 at *
  refine (el_new _ 3 _ _ _ 1 w2 hm1 (by omega) rfl (by omega) right123 ⟨by omega, by omega⟩).mono ?_
  rintro e w3 ⟨g, rfl, h3, hb3⟩
  have hbe := (Below.refl _ w3).alloc (Nat.le_refl _) (.cells #[] 42)
  have hb12 := hb1.trans (ba1.mono hb1.size)
  have hb13 := hb12.trans (hb3.mono hb12.size)
  have HOR0 : Hid (KRd w g ts (Lv.new [1, 2, 3] 1) [] (fun j => w2.heap.size ≤ j ∧ j < w3.heap.size) (.slice (some ⟨w3.heap.size, 0, none⟩) 0 0) (w3.alloc (.cells #[] 42))) := hide
    ⟨h3.below hbe, OwnR.emptyE w3 _ _ 42 6 rfl hb13.size, fun q hq => absurd hq (by simp), fun j hj => Nat.le_trans hb12.size hj.1, fun j hj hf => by
      have e : w3.heap.size = j := by simpa [Value.ownBlock] using hj
      omega, hb13.trans (hbe.mono hb13.size)⟩
  clear h3 hm1 ba1 hb3 hbe hb12 hb13 hz1 hb1
  go_upto_region 5 with fail
  generalize w3.alloc (.cells #[] 42) = w4 at *
  go_wp2_with fail
  go_loopw [8, 9] (fun s8 s9 wr => ∃ (j : Nat) (l : Lv) (fs : List Eop) (F : Nat → Prop), j ≤ 60 ∧ s9 = .int .i64 (j : Int) ∧ fs.length ≤ j ∧ Hid (KRd w g ts l fs F s8 wr) ∧ Hid (∀ f ∈ fs, l.D f.S = some f.v)) (fun _ s9 _ => 60 - (intOf s9).toNat)
  case atStart => exact ⟨0, Lv.new [1, 2, 3] 1, [], _, by omega, rfl, by simp, HOR0, hide (fun f hf => absurd hf (by simp))⟩
  case round =>
    clear HOR0
    obtain ⟨j, l, fs, F, hj, rfl, hfl, hor, hinv⟩ := hrel
    go_upto_region 6 with fail
    go_cut [39] (fun s39 wx => ∃ cb, s39 = .bool cb ∧ wx = wr ∧ Hid (cb = true → (j : Int) < (ne : Int) ∧ (j : Int) < 60))
    case first =>
      by_cases hg1 : (j : Int) < (ne : Int)
      · have hg1' : decide ((j : Int) < (ne : Int)) = true := decide_eq_true hg1
        by_cases hg2 : (j : Int) < 60
        · have hg2' : decide ((j : Int) < 60) = true := decide_eq_true hg2
          go_wp2_with fail
          go_meet
          exact ⟨true, rfl, rfl, hide (fun _ => ⟨hg1, hg2⟩)⟩
        · have hg2' : decide ((j : Int) < 60) = false := decide_eq_false hg2
          go_wp2_with fail
          go_meet
          exact ⟨false, rfl, rfl, hide (fun e => by cases e)⟩
      · have hg1' : decide ((j : Int) < (ne : Int)) = false := decide_eq_false hg1
        go_wp2_with fail
        go_meet
        exact ⟨false, rfl, rfl, hide (fun e => by cases e)⟩
    obtain ⟨cb, rfl, hwx, HCB⟩ := hcut
    rw [hwx]
    clear hwx
    cases cb
    · skip
      have hkn := el_next hor.out.el
      unfold NextEnds' at hkn
      obtain ⟨sm0, hsm0⟩ : ∃ b, b = (l.D l.next).isSome := ⟨_, rfl⟩
      obtain ⟨kx0, hkx0⟩ : ∃ x, x = l.known l.next := ⟨_, rfl⟩
      rw [← hsm0, ← hkx0] at hkn
      clear hsm0 hkx0
      go_wp2_with fail
      refine hkn.mono ?_
      rintro e w12 ⟨A6, n6, c6, D6, m6, d6, rfl, _, _, hb6⟩
      have hba := (Below.refl _ w12).alloc (Nat.le_refl _) (.cells #[.int .i64 kx0.k, .slice A6 n6 c6, .slice D6 m6 d6] 35)
      have HR6 := hide ((hor.out.below hb6).below hba)
      clear hkn hb6 hba hor
      go_upto_region 14 with fail
      generalize w12.alloc (.cells #[.int .i64 kx0.k, .slice A6 n6 c6, .slice D6 m6 d6] 35) = w13 at *
      have htm := el_trim HR6.out.el tr HTR.out
      go_wp2_with fail
      refine htm.mono ?_
      rintro e w14 ⟨rfl, F14, h14, hk14, hf14⟩
      have HT := hide (HR6.out.turn h14 hk14 hf14)
      clear htm h14 hk14 hf14 HR6
      obtain ⟨A5, n5, c5, hu5, hn5, hnc5, hcm5, hx5, _, _⟩ := HT.out.own.form
      have hn5' : Hid (fs.length = n5) := hide (by have := hn5.out; rwa [List.length_map] at this)
      have HX5 := hide hx5
      clear hn5 hx5
      subst hu5
      go_wp2_with fail
      go_loopw [103] (fun sj wx => ∃ jj : Nat, jj ≤ n5 ∧ sj = .int .i64 (jj : Int) ∧ Hid (Below w14.heap.size w14 wx)) (fun sj _ => n5 - (intOf sj).toNat)
      case atStart => exact ⟨0, Nat.zero_le _, rfl, hide (Below.refl _ _)⟩
      case round =>
        obtain ⟨jj, hjj, rfl, hbw⟩ := hrel
        by_cases hjn : jj < n5
        · have hjf : jj < fs.length := by rw [hn5'.out]; exact hjn
          obtain ⟨gb, eA, hra, _, hgl⟩ := HX5.out jj (by simpa using hjf)
          have hra' : wr.rangeAt gb (jj * 6) (fs[jj]).row := by
            rw [List.getElem_map] at hra
            exact fun i u hu => (hbw.out.cell (p := ⟨gb, jj * 6 + i, none⟩) hgl).trans (hra i u hu)
          have hft := HT.out.sub _ (List.getElem_mem hjf)
          have hin := hinv.out _ (List.getElem_mem hjf)
          generalize fs[jj] = f at *
          subst eA
          obtain ⟨hvf, hfS, _⟩ := HEE.out.val f hft
          have HVF := hide hvf
          have hba := (Below.refl _ wr).alloc (Nat.le_refl _) (.cells #[.int .i64 f.S, .int .i64 f.R, .int .i64 f.Bn, .int .i64 f.vk, .slice f.A f.n f.c, .slice f.D f.m f.d] 42)
          have hbf := heap_alloc_new wr (.cells #[.int .i64 f.S, .int .i64 f.R, .int .i64 f.Bn, .int .i64 f.vk, .slice f.A f.n f.c, .slice f.D f.m f.d] 42)
          have HB2 := hide (hbw.out.trans (hba.mono hbw.out.size))
          have HBF := hide hbf
          go_upto_region 18 with (refine wpList_load_mid rfl 42 _ rfl gb (jj * 6) (by simp [Act.eval, Act.put]) [(.int .i64 f.S : Value), .int .i64 f.R, .int .i64 f.Bn, .int .i64 f.vk, .slice f.A f.n f.c, .slice f.D f.m f.d] _ hra' Try.underlying42 rfl (by kernel_rfl) ?_)
          generalize wr.alloc (.cells #[.int .i64 f.S, .int .i64 f.R, .int .i64 f.Bn, .int .i64 f.vk, .slice f.A f.n f.c, .slice f.D f.m f.d] 42) = w15 at *
          generalize wr.heap.size = p15 at *
          obtain ⟨⟨f0, f1, f2, f3, f4, f5⟩, _⟩ := six_cells hbf
          have hkn := el_known (HT.out.below HB2.out).el hfS
          unfold KnownEnds at hkn
          obtain ⟨sm, hsm⟩ : ∃ b, b = ((l.trim tr).D f.S).isSome := ⟨_, rfl⟩
          obtain ⟨kx, hkx⟩ : ∃ x, x = (l.trim tr).known f.S := ⟨_, rfl⟩
          rw [← hsm, ← hkx] at hkn
          have HSM : Hid (sm = !(decide (f.S ≤ tr) && decide (f.S < l.next))) := hide (hsm.trans (trim_has hin))
          have HKX : Hid (sm = true → kx = f.v) := hide (fun e => by rw [hkx]; exact trim_val hin (hsm.symm.trans e))
          clear hsm hkx
          clear hra hra' hba hbf hbw hvf hfS hin
          go_wp2_with fail
          refine hkn.mono ?_
          rintro e w16 ⟨A7, n7, c7, D7, m7, d7, rfl, ho7, hi7, hb7⟩
          have hba := (Below.refl _ w16).alloc (Nat.le_refl _) (.cells #[.int .i64 kx.k, .slice A7 n7 c7, .slice D7 m7 d7] 35)
          have hq7 := heap_alloc_new w16 (.cells #[.int .i64 kx.k, .slice A7 n7 c7, .slice D7 m7 d7] 35)
          have HO7 := hide (ho7.below hba)
          have HI7 := hide (hi7.below hba)
          have hb8 := hb7.trans (hba.mono hb7.size)
          have HB3 := hide (HB2.out.trans (hb8.mono HB2.out.size))
          have hbf2 := (hb8.block _ (lt_of_block HBF.out)).trans HBF.out
          have HQ7 := hide hq7
          have HBF2 := hide hbf2
          clear f0 f1 f2 f3 f4 f5 hkn ho7 hi7 hb7 hb8 hba hq7 hbf2
          go_upto_region 19 with fail
          generalize w16.alloc (.cells #[.int .i64 kx.k, .slice A7 n7 c7, .slice D7 m7 d7] 35) = w17 at *
          generalize w16.heap.size = p17 at *
          obtain ⟨⟨f0, f1, f2, f3, f4, f5⟩, _⟩ := six_cells HBF2.out
          go_cut [18] (fun s18 wx => s18 = .bool (!sm) ∧ wx = w17)
          case first =>
            by_cases a1 : f.S ≤ tr
            · have a1' : decide (f.S ≤ tr) = true := decide_eq_true a1
              by_cases a2 : f.S < l.next
              · have a2' : decide (f.S < l.next) = true := decide_eq_true a2
                have HS2 : Hid ((.bool true : Value) = .bool (!sm)) := hide (by rw [HSM.out, a1', a2']; rfl)
                go_wp2_with fail
                go_meet
                exact ⟨HS2.out, rfl⟩
              · have a2' : decide (f.S < l.next) = false := decide_eq_false a2
                have HS2 : Hid ((.bool false : Value) = .bool (!sm)) := hide (by rw [HSM.out, a1', a2']; rfl)
                go_wp2_with fail
                go_meet
                exact ⟨HS2.out, rfl⟩
            · have a1' : decide (f.S ≤ tr) = false := decide_eq_false a1
              have HS2 : Hid ((.bool false : Value) = .bool (!sm)) := hide (by rw [HSM.out, a1']; rfl)
              go_wp2_with fail
              go_meet
              exact ⟨HS2.out, rfl⟩
          obtain ⟨rfl, hwx⟩ := hcut
          rw [hwx]
          clear hwx
          cases sm
          · go_wp2_with fail
            go_roundw
            case rel => exact ⟨jj + 1, by omega, by go_num, HB3⟩
            case measure => simp [intOf]; omega
          · obtain rfl := HKX.out rfl
            have hbelow := HT.out.bel.trans (HB3.out.mono HT.out.bel.size)
            have hvw := (HVF.out.below hbelow).more hbelow.size
            obtain ⟨a5, a6⟩ := ownc_slice HO7.out
            obtain ⟨a7, a8⟩ := owni_slice' HI7.out
            obtain ⟨g0, g1, g2⟩ := And.intro (row_cells HQ7.out 0).1 (And.intro (row_cells HQ7.out 1).1 (row_cells HQ7.out 2).1)
            simp only [List.getElem?_toArray, List.getElem?_cons_succ, List.getElem?_cons_zero] at g0 g1 g2
            have hsv := rvsame_any f.v.k f.vk A7 f.A D7 f.D n7 f.n c7 f.c m7 f.m d7 f.d w17.heap.size f.v.cs f.cs f.v.ns f.ns w17 a6 a8 hvw.c hvw.i (Nat.le_refl _) a5 hvw.en a7 hvw.em (by have := hvw.ln; have : f.v.cs = f.cs := rfl; have e1 := hvw.en; rw [this] at a5; omega) (by have := hvw.lm; have : f.v.ns = f.ns := rfl; have e1 := hvw.em; rw [this] at a7; omega)
            rw [show sameV f.v.k f.v.cs f.v.ns f.vk f.cs f.ns = true from sameV_refl f.v.k f.v.cs f.v.ns] at hsv
            clear hvw a5 a6 a7 a8
            go_wp2_with fail
            refine hsv.mono ?_
            rintro e w18 ⟨rfl, hb18⟩
            have HB4 := hide (HB3.out.trans (hb18.mono HB3.out.size))
            clear hsv
            go_wp2_with fail
            go_roundw
            case rel => exact ⟨jj + 1, by omega, by go_num, HB4⟩
            case measure => simp [intOf]; omega
        · obtain rfl : jj = n5 := by omega
          have HT2 := hide (HT.out.below hbw.out)
          clear HT hbw HX5
          go_upto_region 23 with fail
          go_cut [148] (fun s148 wx => s148 = .bool false ∧ ∃ F18, Hid (KRd w g ts ((l.trim tr).jump jp).1 fs F18 (.slice A5 jj c5) wx))
          case first =>
            have hjm := el_jump HT2.out.el jp HJP.out
            have hjd : ((l.trim tr).jump jp).2 = (decide (l.next < jp) && decide (jp ≤ 1099511627776)) := (jump_does (l.trim tr) jp).1
            rw [hjd] at hjm
            clear hjd
            by_cases b1 : l.next < jp
            · have b1' : decide (l.next < jp) = true := decide_eq_true b1
              by_cases b2 : jp ≤ 1099511627776
              · have b2' : decide (jp ≤ 1099511627776) = true := decide_eq_true b2
                rw [b1', b2'] at hjm
                go_wp2_with fail
                refine hjm.mono ?_
                rintro e w18 ⟨rfl, F18, h18, hk18, hf18⟩
                have HJ18 := hide (HT2.out.turn h18 hk18 hf18)
                clear hjm h18 hk18 hf18
                go_wp2_with fail
                go_meet
                exact ⟨rfl, F18, HJ18⟩
              · have b2' : decide (jp ≤ 1099511627776) = false := decide_eq_false b2
                rw [b1', b2'] at hjm
                go_wp2_with fail
                refine hjm.mono ?_
                rintro e w18 ⟨rfl, F18, h18, hk18, hf18⟩
                have HJ18 := hide (HT2.out.turn h18 hk18 hf18)
                clear hjm h18 hk18 hf18
                go_wp2_with fail
                go_meet
                exact ⟨rfl, F18, HJ18⟩
            · have b1' : decide (l.next < jp) = false := decide_eq_false b1
              rw [b1'] at hjm
              go_wp2_with fail
              refine hjm.mono ?_
              rintro e w18 ⟨rfl, F18, h18, hk18, hf18⟩
              have HJ18 := hide (HT2.out.turn h18 hk18 hf18)
              clear hjm h18 hk18 hf18
              go_wp2_with fail
              go_meet
              exact ⟨rfl, F18, HJ18⟩
          obtain ⟨rfl, F18, hk18⟩ := hcut
          have HJH : Hid (∀ s, (((l.trim tr).jump jp).1.D s).isSome = (((l.trim tr).D s).isSome && !((!(((l.trim tr).jump jp).1.next == l.next)) && decide (s < ((l.trim tr).jump jp).1.next)))) := hide (jump_has (l.trim tr) jp)
          have HEND : Hid ((((l.trim tr).jump jp).1.next == max l.next (min jp ((l.trim tr).jump jp).1.next)) = true) := hide (beq_iff_eq.2 (jump_does (l.trim tr) jp).2)
          generalize ((l.trim tr).jump jp).1 = l3 at *
          clear HT2
          have hkn := el_next hk18.out.el
          unfold NextEnds' at hkn
          obtain ⟨sm1, hsm1⟩ : ∃ b, b = (l3.D l3.next).isSome := ⟨_, rfl⟩
          obtain ⟨kx1, hkx1⟩ : ∃ x, x = l3.known l3.next := ⟨_, rfl⟩
          rw [← hsm1, ← hkx1] at hkn
          clear hsm1 hkx1
          go_wp2_with fail
          refine hkn.mono ?_
          rintro e w19 ⟨A9, n9, c9, D9, m9, d9, rfl, _, _, hb9⟩
          have hba := (Below.refl _ w19).alloc (Nat.le_refl _) (.cells #[.int .i64 kx1.k, .slice A9 n9 c9, .slice D9 m9 d9] 35)
          have HU := hide ((hk18.out.below hb9).below hba)
          clear hkn hb9 hba hk18
          go_upto_region 26 with fail
          generalize w19.alloc (.cells #[.int .i64 kx1.k, .slice A9 n9 c9, .slice D9 m9 d9] 35) = w20 at *
          obtain ⟨A8, n8, c8, hu8, hn8, hnc8, hcm8, hx8, _, _⟩ := HU.out.own.form
          have hn8' : Hid (fs.length = n8) := hide (by have := hn8.out; rwa [List.length_map] at this)
          have HX8 := hide hx8
          clear hn8 hx8
          cases hu8
          go_wp2_with fail
          go_loopw [157] (fun sj wx => ∃ jj2 : Nat, jj2 ≤ jj ∧ sj = .int .i64 (jj2 : Int) ∧ Hid (Below w20.heap.size w20 wx)) (fun sj _ => jj - (intOf sj).toNat)
          case atStart => exact ⟨0, Nat.zero_le _, rfl, hide (Below.refl _ _)⟩
          case round =>
            obtain ⟨jj2, hjj2, rfl, hbw⟩ := hrel
            by_cases hjn : jj2 < jj
            · have hjf : jj2 < fs.length := by rw [hn8'.out]; exact hjn
              obtain ⟨gb, eA, hra, _, hgl⟩ := HX8.out jj2 (by simpa using hjf)
              have hra' : wr.rangeAt gb (jj2 * 6) (fs[jj2]).row := by
                rw [List.getElem_map] at hra
                exact fun i u hu => (hbw.out.cell (p := ⟨gb, jj2 * 6 + i, none⟩) hgl).trans (hra i u hu)
              have hft := HU.out.sub _ (List.getElem_mem hjf)
              have hin := hinv.out _ (List.getElem_mem hjf)
              generalize fs[jj2] = f at *
              subst eA
              obtain ⟨hvf, hfS, _⟩ := HEE.out.val f hft
              have HVF := hide hvf
              have hba := (Below.refl _ wr).alloc (Nat.le_refl _) (.cells #[.int .i64 f.S, .int .i64 f.R, .int .i64 f.Bn, .int .i64 f.vk, .slice f.A f.n f.c, .slice f.D f.m f.d] 42)
              have hbf := heap_alloc_new wr (.cells #[.int .i64 f.S, .int .i64 f.R, .int .i64 f.Bn, .int .i64 f.vk, .slice f.A f.n f.c, .slice f.D f.m f.d] 42)
              have HB2 := hide (hbw.out.trans (hba.mono hbw.out.size))
              have HBF := hide hbf
              go_upto_region 29 with (refine wpList_load_mid rfl 42 _ rfl gb (jj2 * 6) (by simp [Act.eval, Act.put]) [(.int .i64 f.S : Value), .int .i64 f.R, .int .i64 f.Bn, .int .i64 f.vk, .slice f.A f.n f.c, .slice f.D f.m f.d] _ hra' Try.underlying42 rfl (by kernel_rfl) ?_)
              generalize wr.alloc (.cells #[.int .i64 f.S, .int .i64 f.R, .int .i64 f.Bn, .int .i64 f.vk, .slice f.A f.n f.c, .slice f.D f.m f.d] 42) = w15 at *
              generalize wr.heap.size = p15 at *
              obtain ⟨⟨f0, f1, f2, f3, f4, f5⟩, _⟩ := six_cells hbf
              have hkn := el_known (HU.out.below HB2.out).el hfS
              unfold KnownEnds at hkn
              obtain ⟨sm, hsm⟩ : ∃ b, b = (l3.D f.S).isSome := ⟨_, rfl⟩
              obtain ⟨kx, hkx⟩ : ∃ x, x = l3.known f.S := ⟨_, rfl⟩
              rw [← hsm, ← hkx] at hkn
              have HSM : Hid (sm = ((!(decide (f.S ≤ tr) && decide (f.S < l.next))) && !((l3.next != l.next) && decide (f.S < l3.next)))) := hide (by rw [hsm, HJH.out f.S, trim_has hin]; rfl)
              clear hsm hkx
              clear hra hra' hba hbf hbw hvf hfS hin
              go_wp2_with fail
              refine hkn.mono ?_
              rintro e w16 ⟨A7, n7, c7, D7, m7, d7, rfl, ho7, hi7, hb7⟩
              have hba := (Below.refl _ w16).alloc (Nat.le_refl _) (.cells #[.int .i64 kx.k, .slice A7 n7 c7, .slice D7 m7 d7] 35)
              have hq7 := heap_alloc_new w16 (.cells #[.int .i64 kx.k, .slice A7 n7 c7, .slice D7 m7 d7] 35)
              have HO7 := hide (ho7.below hba)
              have HI7 := hide (hi7.below hba)
              have hb8 := hb7.trans (hba.mono hb7.size)
              have HB3 := hide (HB2.out.trans (hb8.mono HB2.out.size))
              have hbf2 := (hb8.block _ (lt_of_block HBF.out)).trans HBF.out
              have HQ7 := hide hq7
              have HBF2 := hide hbf2
              clear f0 f1 f2 f3 f4 f5 hkn ho7 hi7 hb7 hb8 hba hq7 hbf2
              go_upto_region 30 with fail
              generalize w16.alloc (.cells #[.int .i64 kx.k, .slice A7 n7 c7, .slice D7 m7 d7] 35) = w17 at *
              generalize w16.heap.size = p17 at *
              obtain ⟨⟨f0, f1, f2, f3, f4, f5⟩, _⟩ := six_cells HBF2.out
              go_cut [26] (fun s26 wx => s26 = .bool (!sm) ∧ wx = w17)
              case first =>
                by_cases a1 : f.S ≤ tr
                · have a1' : decide (f.S ≤ tr) = true := decide_eq_true a1
                  by_cases a2 : f.S < l.next
                  · have a2' : decide (f.S < l.next) = true := decide_eq_true a2
                    have HS2 : Hid ((.bool true : Value) = .bool (!sm)) := hide (by rw [HSM.out, a1', a2']; rfl)
                    go_wp2_with fail
                    go_meet
                    exact ⟨HS2.out, rfl⟩
                  · have a2' : decide (f.S < l.next) = false := decide_eq_false a2
                    cases hc1 : (l3.next != l.next)
                    · skip
                      have HS2 : Hid ((.bool false : Value) = .bool (!sm)) := hide (by rw [HSM.out, a1', a2', hc1]; rfl)
                      go_wp2_with fail
                      go_meet
                      exact ⟨HS2.out, rfl⟩
                    · by_cases c2 : f.S < l3.next
                      · have c2' : decide (f.S < l3.next) = true := decide_eq_true c2
                        have HS2 : Hid ((.bool true : Value) = .bool (!sm)) := hide (by rw [HSM.out, a1', a2', hc1, c2']; rfl)
                        go_wp2_with fail
                        go_meet
                        exact ⟨HS2.out, rfl⟩
                      · have c2' : decide (f.S < l3.next) = false := decide_eq_false c2
                        have HS2 : Hid ((.bool false : Value) = .bool (!sm)) := hide (by rw [HSM.out, a1', a2', hc1, c2']; rfl)
                        go_wp2_with fail
                        go_meet
                        exact ⟨HS2.out, rfl⟩
                · have a1' : decide (f.S ≤ tr) = false := decide_eq_false a1
                  cases hc1 : (l3.next != l.next)
                  · skip
                    have HS2 : Hid ((.bool false : Value) = .bool (!sm)) := hide (by rw [HSM.out, a1', hc1]; rfl)
                    go_wp2_with fail
                    go_meet
                    exact ⟨HS2.out, rfl⟩
                  · by_cases c2 : f.S < l3.next
                    · have c2' : decide (f.S < l3.next) = true := decide_eq_true c2
                      have HS2 : Hid ((.bool true : Value) = .bool (!sm)) := hide (by rw [HSM.out, a1', hc1, c2']; rfl)
                      go_wp2_with fail
                      go_meet
                      exact ⟨HS2.out, rfl⟩
                    · have c2' : decide (f.S < l3.next) = false := decide_eq_false c2
                      have HS2 : Hid ((.bool false : Value) = .bool (!sm)) := hide (by rw [HSM.out, a1', hc1, c2']; rfl)
                      go_wp2_with fail
                      go_meet
                      exact ⟨HS2.out, rfl⟩
              obtain ⟨rfl, hwx⟩ := hcut
              rw [hwx]
              clear hwx
              cases sm
              · go_wp2_with fail
                go_roundw
                case rel => exact ⟨jj2 + 1, by omega, by go_num, HB3⟩
                case measure => simp [intOf]; omega
              · go_wp2_with fail
                go_roundw
                case rel => exact ⟨jj2 + 1, by omega, by go_num, HB3⟩
                case measure => simp [intOf]; omega
            · obtain rfl : jj2 = jj := by omega
              have HFB := hide (HU.out.below hbw.out).bel
              clear HU hbw HX8
              go_wp2_with fail
              go_ret
              exact ⟨congrArg (fun b => Ending.returned (.bool b)) HEND.out, HFB.out⟩
    · obtain ⟨hg1, hg2⟩ := HCB.out rfl
      clear HCB
      have hjl : j < ts.length := by rw [HNE.out]; omega
      obtain ⟨b, o, hA, hbb, hcc⟩ := (HEE.out.below hor.out.bel).at_ j hjl
      obtain ⟨hqv, hqS, hqN⟩ := HEE.out.val _ (List.getElem_mem hjl)
      have HQT : Hid (ts[j] ∈ ts) := hide (List.getElem_mem hjl)
      generalize ts[j] = q at *
      subst hA
      have hbx := heap_alloc_new wr (.cells #[.int .i64 q.K, .int .i64 q.Nd, .int .i64 q.S, .int .i64 q.R, .int .i64 q.Bn, .int .i64 q.vk, .slice q.A q.n q.c, .slice q.D q.m q.d, .int .i64 q.N] 50)
      have ba := (Below.refl _ wr).alloc (Nat.le_refl _) (.cells #[.int .i64 q.K, .int .i64 q.Nd, .int .i64 q.S, .int .i64 q.R, .int .i64 q.Bn, .int .i64 q.vk, .slice q.A q.n q.c, .slice q.D q.m q.d, .int .i64 q.N] 50)
      have HQS := hide hqS
      have HQM : Hid (q.m ≤ 17592186043904) := hide hqv.lm
      have HQ0 := hide hqv
      have hcc' : wr.rangeAt b (o + j * 9) q.cells := hcc
      clear hcc hqv hqS hqN
      go_upto_region 9 with (refine wpList_load_mid rfl 50 _ rfl b (o + j * 9) (by simp [Act.eval, Act.put]) [(.int .i64 q.K : Value), .int .i64 q.Nd, .int .i64 q.S, .int .i64 q.R, .int .i64 q.Bn, .int .i64 q.vk, .slice q.A q.n q.c, .slice q.D q.m q.d, .int .i64 q.N] _ hcc' Try.underlying50 rfl (by kernel_rfl) ?_)
      have HPF : Hid (¬ F wr.heap.size) := hide (fun hf => by have := hor.out.el.lt _ hf; omega)
      have HPO : Hid (∀ i, u8.ownBlock = some i → i ≠ wr.heap.size) := hide (fun i hi => by have := (hor.out.own.lt i hi).2; omega)
      have HOR := hide (hor.out.below ba)
      clear hor hcc'
      generalize wr.alloc (.cells #[.int .i64 q.K, .int .i64 q.Nd, .int .i64 q.S, .int .i64 q.R, .int .i64 q.Bn, .int .i64 q.vk, .slice q.A q.n q.c, .slice q.D q.m q.d, .int .i64 q.N] 50) = w9 at *
      generalize wr.heap.size = pb at *
      have bd : Below w9.heap.size w9 w9.drew := (Below.refl _ _).drew
      have HOD := hide (HOR.out.below bd)
      have HEL := hide HOD.out.el
      have HBX : Hid (EopBox q pb w9.drew) := hide hbx
      have HQV : Hid (IsV w9.drew w9.drew.heap.size q.A q.n q.D q.m q.cs q.ns) := hide ((HQ0.out.below HOD.out.bel).more HOD.out.bel.size)
      clear ba hbx bd hbb
      go_cut [81] (fun s81 wx => ∃ F', EStep w9.drew F g (ostep l q).1 F' wx ∧ s81 = .bool (ostep l q).2)
      case first =>
        by_cases hK1 : q.K = 1
        · have hk1 : (q.K == 1) = true := by rw [hK1]; rfl
          have hk0 : (q.K == 0) = false := by rw [hK1]; rfl
          have HE : Hid (ostep l q = l.told q.S q.v) := hide (if_pos hK1)
          clear hK1
          cases ht : (l.told q.S q.v).2
          · have HT := hide ht
            clear ht
            go_wp2_with fail
            refine wp_region_held_drew (S := fun W => EopBox q pb W) (by kernel_rfl) HBX.out (fun hHeld => ?_)
            refine wpAnyH_take (i := 0) (oi := _) (v := .pointer (some ⟨pb, 0, none⟩)) rfl (by kernel_rfl) (by kernel_rfl) (by kernel_rfl) (fun _ _ _ h => h) (Or.inl ⟨by rfl, fun w' hSw => by go_simp⟩) hHeld ?_
            (try simp only [Act.put, List.setIfInBounds_toArray, List.set_cons_zero, List.set_cons_succ, List.getElem_toArray, List.getElem_cons_zero, List.getElem_cons_succ])
            refine wpAnyH_take (i := 1) (oi := _) (v := .int .i64 q.K) rfl (by kernel_rfl) (by kernel_rfl) (by kernel_rfl) (fun _ _ _ h => h) (Or.inl ⟨by rfl, fun w' hSw => by obtain ⟨⟨x0, x1, x2⟩, ⟨x3, x4, x5⟩, ⟨x6, x7, x8⟩⟩ := nine_cells hSw; go_simp⟩) hHeld ?_
            (try simp only [Act.put, List.setIfInBounds_toArray, List.set_cons_zero, List.set_cons_succ, List.getElem_toArray, List.getElem_cons_zero, List.getElem_cons_succ])
            refine wpAnyH_take (i := 2) (oi := _) (v := .bool true) rfl (by kernel_rfl) (by kernel_rfl) (by kernel_rfl) (fun _ _ _ h => h) (Or.inl ⟨by rfl, fun w' hSw => by go_simp⟩) hHeld ?_
            (try simp only [Act.put, List.setIfInBounds_toArray, List.set_cons_zero, List.set_cons_succ, List.getElem_toArray, List.getElem_cons_zero, List.getElem_cons_succ])
            refine wpAnyH_take (i := 3) (oi := _) (v := .bool true) rfl (by kernel_rfl) (by kernel_rfl) (by kernel_rfl) (fun _ _ _ h => h) (Or.inl ⟨by rfl, fun w' hSw => by go_simp⟩) hHeld ?_
            (try simp only [Act.put, List.setIfInBounds_toArray, List.set_cons_zero, List.set_cons_succ, List.getElem_toArray, List.getElem_cons_zero, List.getElem_cons_succ])
            refine wpAnyH_take (i := 4) (oi := _) (v := .pointer (some ⟨g, 0, none⟩)) rfl (by kernel_rfl) (by kernel_rfl) (by kernel_rfl) (fun _ _ _ h => h) (Or.inl ⟨by rfl, fun w' hSw => by go_simp⟩) hHeld ?_
            (try simp only [Act.put, List.setIfInBounds_toArray, List.set_cons_zero, List.set_cons_succ, List.getElem_toArray, List.getElem_cons_zero, List.getElem_cons_succ])
            refine wpAnyH_take (i := 5) (oi := _) (v := .pointer (some ⟨pb, 2, none⟩)) rfl (by kernel_rfl) (by kernel_rfl) (by kernel_rfl) (fun _ _ _ h => h) (Or.inl ⟨by rfl, fun w' hSw => by go_simp⟩) hHeld ?_
            (try simp only [Act.put, List.setIfInBounds_toArray, List.set_cons_zero, List.set_cons_succ, List.getElem_toArray, List.getElem_cons_zero, List.getElem_cons_succ])
            refine wpAnyH_take (i := 6) (oi := _) (v := .pointer (some ⟨pb, 2, none⟩)) rfl (by kernel_rfl) (by kernel_rfl) (by kernel_rfl) (fun _ _ _ h => h) (Or.inl ⟨by rfl, fun w' hSw => by go_simp⟩) hHeld ?_
            (try simp only [Act.put, List.setIfInBounds_toArray, List.set_cons_zero, List.set_cons_succ, List.getElem_toArray, List.getElem_cons_zero, List.getElem_cons_succ])
            refine wpAnyH_take (i := 7) (oi := _) (v := .int .i64 q.S) rfl (by kernel_rfl) (by kernel_rfl) (by kernel_rfl) (fun _ _ _ h => h) (Or.inl ⟨by rfl, fun w' hSw => by obtain ⟨⟨x0, x1, x2⟩, ⟨x3, x4, x5⟩, ⟨x6, x7, x8⟩⟩ := nine_cells hSw; go_simp⟩) hHeld ?_
            (try simp only [Act.put, List.setIfInBounds_toArray, List.set_cons_zero, List.set_cons_succ, List.getElem_toArray, List.getElem_cons_zero, List.getElem_cons_succ])
            refine wpAnyH_take (i := 8) (oi := _) (v := .pointer (some ⟨pb, 2, none⟩)) rfl (by kernel_rfl) (by kernel_rfl) (by kernel_rfl) (fun _ _ _ h => h) (Or.inl ⟨by rfl, fun w' hSw => by go_simp⟩) hHeld ?_
            (try simp only [Act.put, List.setIfInBounds_toArray, List.set_cons_zero, List.set_cons_succ, List.getElem_toArray, List.getElem_cons_zero, List.getElem_cons_succ])
            refine wpAnyH_take (i := 9) (oi := _) (v := .pointer (some ⟨pb, 5, none⟩)) rfl (by kernel_rfl) (by kernel_rfl) (by kernel_rfl) (fun _ _ _ h => h) (Or.inl ⟨by rfl, fun w' hSw => by go_simp⟩) hHeld ?_
            (try simp only [Act.put, List.setIfInBounds_toArray, List.set_cons_zero, List.set_cons_succ, List.getElem_toArray, List.getElem_cons_zero, List.getElem_cons_succ])
            refine wpAnyH_take (i := 10) (oi := _) (v := .agg #[.int .i64 q.vk, .slice q.A q.n q.c, .slice q.D q.m q.d]) rfl (by kernel_rfl) (by kernel_rfl) (by kernel_rfl) (fun _ _ _ h => h) (Or.inl ⟨by rfl, fun w' hSw => by obtain ⟨⟨x0, x1, x2⟩, ⟨x3, x4, x5⟩, ⟨x6, x7, x8⟩⟩ := nine_cells hSw; go_simp⟩) hHeld ?_
            (try simp only [Act.put, List.setIfInBounds_toArray, List.set_cons_zero, List.set_cons_succ, List.getElem_toArray, List.getElem_cons_zero, List.getElem_cons_succ])
            refine wpAnyH_ready (rs := [11]) (by kernel_rfl) (by simp) ?_
            refine AllReadyH.cons (o := _) rfl (fun K hK => ?_) AllReadyH.nil
            simp only [List.getElem_toArray, List.getElem_cons_zero, List.getElem_cons_succ]
            go_simp
            refine (estep_copy HQV.out).mono ?_
            rintro e wc ⟨A', c', D', d', rfl, hoc, hic', hbc⟩
            have hbxc : EopBox q pb wc := (hbc.block _ (lt_of_block HBX.out)).trans HBX.out
            go_wp2_with fail
            refine hK.out _ _ hbxc (fun hHeld => ?_)
            clear hK
            (try simp only [Act.put, List.setIfInBounds_toArray, List.set_cons_zero, List.set_cons_succ, List.getElem_toArray, List.getElem_cons_zero, List.getElem_cons_succ])
            refine wpAnyH_ready (rs := [12]) (by kernel_rfl) (by simp) ?_
            refine AllReadyH.cons (o := _) rfl (fun K hK => ?_) AllReadyH.nil
            simp only [List.getElem_toArray, List.getElem_cons_zero, List.getElem_cons_succ]
            go_simp
            refine (estep_told HEL.out HQS.out HQM.out hoc hic' hbc).mono ?_
            rintro e wv ⟨rfl, F', hst⟩
            rw [HT.out]
            have hbxv : EopBox q pb wv := (hst.kept.block _ (lt_of_block HBX.out) HPF.out).trans HBX.out
            go_wp2_with fail
            refine hK.out _ _ hbxv (fun hHeld => ?_)
            clear hK
            (try simp only [Act.put, List.setIfInBounds_toArray, List.set_cons_zero, List.set_cons_succ, List.getElem_toArray, List.getElem_cons_zero, List.getElem_cons_succ])
            refine wpAnyH_take (i := 13) (oi := _) (v := .bool false) rfl (by kernel_rfl) (by kernel_rfl) (by kernel_rfl) (fun _ _ _ h => h) (Or.inl ⟨by rfl, fun w' hSw => by go_simp⟩) hHeld ?_
            (try simp only [Act.put, List.setIfInBounds_toArray, List.set_cons_zero, List.set_cons_succ, List.getElem_toArray, List.getElem_cons_zero, List.getElem_cons_succ])
            refine wpAnyH_take (i := 14) (oi := _) (v := .bool false) rfl (by kernel_rfl) (by kernel_rfl) (by kernel_rfl) (fun _ _ _ h => h) (Or.inl ⟨by rfl, fun w' hSw => by go_simp⟩) hHeld ?_
            (try simp only [Act.put, List.setIfInBounds_toArray, List.set_cons_zero, List.set_cons_succ, List.getElem_toArray, List.getElem_cons_zero, List.getElem_cons_succ])
            refine wpAnyH_take (i := 15) (oi := _) (v := .pointer (some ⟨pb, 0, none⟩)) rfl (by kernel_rfl) (by kernel_rfl) (by kernel_rfl) (fun _ _ _ h => h) (Or.inl ⟨by rfl, fun w' hSw => by go_simp⟩) hHeld ?_
            (try simp only [Act.put, List.setIfInBounds_toArray, List.set_cons_zero, List.set_cons_succ, List.getElem_toArray, List.getElem_cons_zero, List.getElem_cons_succ])
            refine wpAnyH_take (i := 16) (oi := _) (v := .int .i64 q.K) rfl (by kernel_rfl) (by kernel_rfl) (by kernel_rfl) (fun _ _ _ h => h) (Or.inl ⟨by rfl, fun w' hSw => by obtain ⟨⟨x0, x1, x2⟩, ⟨x3, x4, x5⟩, ⟨x6, x7, x8⟩⟩ := nine_cells hSw; go_simp⟩) hHeld ?_
            (try simp only [Act.put, List.setIfInBounds_toArray, List.set_cons_zero, List.set_cons_succ, List.getElem_toArray, List.getElem_cons_zero, List.getElem_cons_succ])
            refine wpAnyH_take (i := 17) (oi := _) (v := .bool false) rfl (by kernel_rfl) (by kernel_rfl) (by kernel_rfl) (fun _ _ _ h => h) (Or.inl ⟨by rfl, fun w' hSw => by go_simp⟩) hHeld ?_
            (try simp only [Act.put, List.setIfInBounds_toArray, List.set_cons_zero, List.set_cons_succ, List.getElem_toArray, List.getElem_cons_zero, List.getElem_cons_succ])
            refine wpAnyH_take (i := 18) (oi := _) (v := .bool false) rfl (by kernel_rfl) (by kernel_rfl) (by kernel_rfl) (fun _ _ _ h => h) (Or.inl ⟨by rfl, fun w' hSw => by go_simp⟩) hHeld ?_
            (try simp only [Act.put, List.setIfInBounds_toArray, List.set_cons_zero, List.set_cons_succ, List.getElem_toArray, List.getElem_cons_zero, List.getElem_cons_succ])
            refine wpAnyH_take (i := 19) (oi := _) (v := undef) rfl (by kernel_rfl) (by kernel_rfl) (by kernel_rfl) (fun _ _ _ h => h) (Or.inr ⟨by rfl, rfl⟩) hHeld ?_
            (try simp only [Act.put, List.setIfInBounds_toArray, List.set_cons_zero, List.set_cons_succ, List.getElem_toArray, List.getElem_cons_zero, List.getElem_cons_succ])
            refine wpAnyH_take (i := 20) (oi := _) (v := undef) rfl (by kernel_rfl) (by kernel_rfl) (by kernel_rfl) (fun _ _ _ h => h) (Or.inr ⟨by rfl, rfl⟩) hHeld ?_
            (try simp only [Act.put, List.setIfInBounds_toArray, List.set_cons_zero, List.set_cons_succ, List.getElem_toArray, List.getElem_cons_zero, List.getElem_cons_succ])
            refine wpAnyH_take (i := 21) (oi := _) (v := undef) rfl (by kernel_rfl) (by kernel_rfl) (by kernel_rfl) (fun _ _ _ h => h) (Or.inr ⟨by rfl, rfl⟩) hHeld ?_
            (try simp only [Act.put, List.setIfInBounds_toArray, List.set_cons_zero, List.set_cons_succ, List.getElem_toArray, List.getElem_cons_zero, List.getElem_cons_succ])
            refine wpAnyH_take (i := 22) (oi := _) (v := undef) rfl (by kernel_rfl) (by kernel_rfl) (by kernel_rfl) (fun _ _ _ h => h) (Or.inr ⟨by rfl, rfl⟩) hHeld ?_
            (try simp only [Act.put, List.setIfInBounds_toArray, List.set_cons_zero, List.set_cons_succ, List.getElem_toArray, List.getElem_cons_zero, List.getElem_cons_succ])
            refine wpAnyH_take (i := 23) (oi := _) (v := undef) rfl (by kernel_rfl) (by kernel_rfl) (by kernel_rfl) (fun _ _ _ h => h) (Or.inr ⟨by rfl, rfl⟩) hHeld ?_
            (try simp only [Act.put, List.setIfInBounds_toArray, List.set_cons_zero, List.set_cons_succ, List.getElem_toArray, List.getElem_cons_zero, List.getElem_cons_succ])
            refine wpAnyH_take (i := 24) (oi := _) (v := undef) rfl (by kernel_rfl) (by kernel_rfl) (by kernel_rfl) (fun _ _ _ h => h) (Or.inr ⟨by rfl, rfl⟩) hHeld ?_
            (try simp only [Act.put, List.setIfInBounds_toArray, List.set_cons_zero, List.set_cons_succ, List.getElem_toArray, List.getElem_cons_zero, List.getElem_cons_succ])
            refine wpAnyH_take (i := 25) (oi := _) (v := undef) rfl (by kernel_rfl) (by kernel_rfl) (by kernel_rfl) (fun _ _ _ h => h) (Or.inr ⟨by rfl, rfl⟩) hHeld ?_
            (try simp only [Act.put, List.setIfInBounds_toArray, List.set_cons_zero, List.set_cons_succ, List.getElem_toArray, List.getElem_cons_zero, List.getElem_cons_succ])
            refine wpAnyH_take (i := 26) (oi := _) (v := undef) rfl (by kernel_rfl) (by kernel_rfl) (by kernel_rfl) (fun _ _ _ h => h) (Or.inr ⟨by rfl, rfl⟩) hHeld ?_
            (try simp only [Act.put, List.setIfInBounds_toArray, List.set_cons_zero, List.set_cons_succ, List.getElem_toArray, List.getElem_cons_zero, List.getElem_cons_succ])
            refine wpAnyH_take (i := 27) (oi := _) (v := undef) rfl (by kernel_rfl) (by kernel_rfl) (by kernel_rfl) (fun _ _ _ h => h) (Or.inr ⟨by rfl, rfl⟩) hHeld ?_
            (try simp only [Act.put, List.setIfInBounds_toArray, List.set_cons_zero, List.set_cons_succ, List.getElem_toArray, List.getElem_cons_zero, List.getElem_cons_succ])
            refine wpAnyH_take (i := 28) (oi := _) (v := undef) rfl (by kernel_rfl) (by kernel_rfl) (by kernel_rfl) (fun _ _ _ h => h) (Or.inr ⟨by rfl, rfl⟩) hHeld ?_
            (try simp only [Act.put, List.setIfInBounds_toArray, List.set_cons_zero, List.set_cons_succ, List.getElem_toArray, List.getElem_cons_zero, List.getElem_cons_succ])
            refine wpAnyH_take (i := 29) (oi := _) (v := undef) rfl (by kernel_rfl) (by kernel_rfl) (by kernel_rfl) (fun _ _ _ h => h) (Or.inr ⟨by rfl, rfl⟩) hHeld ?_
            (try simp only [Act.put, List.setIfInBounds_toArray, List.set_cons_zero, List.set_cons_succ, List.getElem_toArray, List.getElem_cons_zero, List.getElem_cons_succ])
            refine wpAnyH_take (i := 30) (oi := _) (v := undef) rfl (by kernel_rfl) (by kernel_rfl) (by kernel_rfl) (fun _ _ _ h => h) (Or.inr ⟨by rfl, rfl⟩) hHeld ?_
            (try simp only [Act.put, List.setIfInBounds_toArray, List.set_cons_zero, List.set_cons_succ, List.getElem_toArray, List.getElem_cons_zero, List.getElem_cons_succ])
            refine wpAnyH_take (i := 31) (oi := _) (v := undef) rfl (by kernel_rfl) (by kernel_rfl) (by kernel_rfl) (fun _ _ _ h => h) (Or.inr ⟨by rfl, rfl⟩) hHeld ?_
            (try simp only [Act.put, List.setIfInBounds_toArray, List.set_cons_zero, List.set_cons_succ, List.getElem_toArray, List.getElem_cons_zero, List.getElem_cons_succ])
            refine wpAnyH_take (i := 32) (oi := _) (v := undef) rfl (by kernel_rfl) (by kernel_rfl) (by kernel_rfl) (fun _ _ _ h => h) (Or.inr ⟨by rfl, rfl⟩) hHeld ?_
            (try simp only [Act.put, List.setIfInBounds_toArray, List.set_cons_zero, List.set_cons_succ, List.getElem_toArray, List.getElem_cons_zero, List.getElem_cons_succ])
            refine wpAnyH_take (i := 33) (oi := _) (v := undef) rfl (by kernel_rfl) (by kernel_rfl) (by kernel_rfl) (fun _ _ _ h => h) (Or.inr ⟨by rfl, rfl⟩) hHeld ?_
            (try simp only [Act.put, List.setIfInBounds_toArray, List.set_cons_zero, List.set_cons_succ, List.getElem_toArray, List.getElem_cons_zero, List.getElem_cons_succ])
            refine wpAnyH_take (i := 34) (oi := _) (v := .bool false) rfl (by kernel_rfl) (by kernel_rfl) (by kernel_rfl) (fun _ _ _ h => h) (Or.inl ⟨by rfl, fun w' hSw => by go_simp⟩) hHeld ?_
            (try simp only [Act.put, List.setIfInBounds_toArray, List.set_cons_zero, List.set_cons_succ, List.getElem_toArray, List.getElem_cons_zero, List.getElem_cons_succ])
            refine wpAnyH_take (i := 35) (oi := _) (v := .bool false) rfl (by kernel_rfl) (by kernel_rfl) (by kernel_rfl) (fun _ _ _ h => h) (Or.inl ⟨by rfl, fun w' hSw => by go_simp⟩) hHeld ?_
            (try simp only [Act.put, List.setIfInBounds_toArray, List.set_cons_zero, List.set_cons_succ, List.getElem_toArray, List.getElem_cons_zero, List.getElem_cons_succ])
            refine wpAnyH_done (by kernel_rfl) ?_ _
            go_wp2_with fail
            go_meet
            exact ⟨F', by rw [HE.out]; exact hst, by rw [HE.out, HT.out]⟩
          · have HT := hide ht
            clear ht
            go_wp2_with fail
            refine wp_region_held_drew (S := fun W => EopBox q pb W) (by kernel_rfl) HBX.out (fun hHeld => ?_)
            refine wpAnyH_take (i := 0) (oi := _) (v := .pointer (some ⟨pb, 0, none⟩)) rfl (by kernel_rfl) (by kernel_rfl) (by kernel_rfl) (fun _ _ _ h => h) (Or.inl ⟨by rfl, fun w' hSw => by go_simp⟩) hHeld ?_
            (try simp only [Act.put, List.setIfInBounds_toArray, List.set_cons_zero, List.set_cons_succ, List.getElem_toArray, List.getElem_cons_zero, List.getElem_cons_succ])
            refine wpAnyH_take (i := 1) (oi := _) (v := .int .i64 q.K) rfl (by kernel_rfl) (by kernel_rfl) (by kernel_rfl) (fun _ _ _ h => h) (Or.inl ⟨by rfl, fun w' hSw => by obtain ⟨⟨x0, x1, x2⟩, ⟨x3, x4, x5⟩, ⟨x6, x7, x8⟩⟩ := nine_cells hSw; go_simp⟩) hHeld ?_
            (try simp only [Act.put, List.setIfInBounds_toArray, List.set_cons_zero, List.set_cons_succ, List.getElem_toArray, List.getElem_cons_zero, List.getElem_cons_succ])
            refine wpAnyH_take (i := 2) (oi := _) (v := .bool true) rfl (by kernel_rfl) (by kernel_rfl) (by kernel_rfl) (fun _ _ _ h => h) (Or.inl ⟨by rfl, fun w' hSw => by go_simp⟩) hHeld ?_
            (try simp only [Act.put, List.setIfInBounds_toArray, List.set_cons_zero, List.set_cons_succ, List.getElem_toArray, List.getElem_cons_zero, List.getElem_cons_succ])
            refine wpAnyH_take (i := 3) (oi := _) (v := .bool true) rfl (by kernel_rfl) (by kernel_rfl) (by kernel_rfl) (fun _ _ _ h => h) (Or.inl ⟨by rfl, fun w' hSw => by go_simp⟩) hHeld ?_
            (try simp only [Act.put, List.setIfInBounds_toArray, List.set_cons_zero, List.set_cons_succ, List.getElem_toArray, List.getElem_cons_zero, List.getElem_cons_succ])
            refine wpAnyH_take (i := 4) (oi := _) (v := .pointer (some ⟨g, 0, none⟩)) rfl (by kernel_rfl) (by kernel_rfl) (by kernel_rfl) (fun _ _ _ h => h) (Or.inl ⟨by rfl, fun w' hSw => by go_simp⟩) hHeld ?_
            (try simp only [Act.put, List.setIfInBounds_toArray, List.set_cons_zero, List.set_cons_succ, List.getElem_toArray, List.getElem_cons_zero, List.getElem_cons_succ])
            refine wpAnyH_take (i := 5) (oi := _) (v := .pointer (some ⟨pb, 2, none⟩)) rfl (by kernel_rfl) (by kernel_rfl) (by kernel_rfl) (fun _ _ _ h => h) (Or.inl ⟨by rfl, fun w' hSw => by go_simp⟩) hHeld ?_
            (try simp only [Act.put, List.setIfInBounds_toArray, List.set_cons_zero, List.set_cons_succ, List.getElem_toArray, List.getElem_cons_zero, List.getElem_cons_succ])
            refine wpAnyH_take (i := 6) (oi := _) (v := .pointer (some ⟨pb, 2, none⟩)) rfl (by kernel_rfl) (by kernel_rfl) (by kernel_rfl) (fun _ _ _ h => h) (Or.inl ⟨by rfl, fun w' hSw => by go_simp⟩) hHeld ?_
            (try simp only [Act.put, List.setIfInBounds_toArray, List.set_cons_zero, List.set_cons_succ, List.getElem_toArray, List.getElem_cons_zero, List.getElem_cons_succ])
            refine wpAnyH_take (i := 7) (oi := _) (v := .int .i64 q.S) rfl (by kernel_rfl) (by kernel_rfl) (by kernel_rfl) (fun _ _ _ h => h) (Or.inl ⟨by rfl, fun w' hSw => by obtain ⟨⟨x0, x1, x2⟩, ⟨x3, x4, x5⟩, ⟨x6, x7, x8⟩⟩ := nine_cells hSw; go_simp⟩) hHeld ?_
            (try simp only [Act.put, List.setIfInBounds_toArray, List.set_cons_zero, List.set_cons_succ, List.getElem_toArray, List.getElem_cons_zero, List.getElem_cons_succ])
            refine wpAnyH_take (i := 8) (oi := _) (v := .pointer (some ⟨pb, 2, none⟩)) rfl (by kernel_rfl) (by kernel_rfl) (by kernel_rfl) (fun _ _ _ h => h) (Or.inl ⟨by rfl, fun w' hSw => by go_simp⟩) hHeld ?_
            (try simp only [Act.put, List.setIfInBounds_toArray, List.set_cons_zero, List.set_cons_succ, List.getElem_toArray, List.getElem_cons_zero, List.getElem_cons_succ])
            refine wpAnyH_take (i := 9) (oi := _) (v := .pointer (some ⟨pb, 5, none⟩)) rfl (by kernel_rfl) (by kernel_rfl) (by kernel_rfl) (fun _ _ _ h => h) (Or.inl ⟨by rfl, fun w' hSw => by go_simp⟩) hHeld ?_
            (try simp only [Act.put, List.setIfInBounds_toArray, List.set_cons_zero, List.set_cons_succ, List.getElem_toArray, List.getElem_cons_zero, List.getElem_cons_succ])
            refine wpAnyH_take (i := 10) (oi := _) (v := .agg #[.int .i64 q.vk, .slice q.A q.n q.c, .slice q.D q.m q.d]) rfl (by kernel_rfl) (by kernel_rfl) (by kernel_rfl) (fun _ _ _ h => h) (Or.inl ⟨by rfl, fun w' hSw => by obtain ⟨⟨x0, x1, x2⟩, ⟨x3, x4, x5⟩, ⟨x6, x7, x8⟩⟩ := nine_cells hSw; go_simp⟩) hHeld ?_
            (try simp only [Act.put, List.setIfInBounds_toArray, List.set_cons_zero, List.set_cons_succ, List.getElem_toArray, List.getElem_cons_zero, List.getElem_cons_succ])
            refine wpAnyH_ready (rs := [11]) (by kernel_rfl) (by simp) ?_
            refine AllReadyH.cons (o := _) rfl (fun K hK => ?_) AllReadyH.nil
            simp only [List.getElem_toArray, List.getElem_cons_zero, List.getElem_cons_succ]
            go_simp
            refine (estep_copy HQV.out).mono ?_
            rintro e wc ⟨A', c', D', d', rfl, hoc, hic', hbc⟩
            have hbxc : EopBox q pb wc := (hbc.block _ (lt_of_block HBX.out)).trans HBX.out
            go_wp2_with fail
            refine hK.out _ _ hbxc (fun hHeld => ?_)
            clear hK
            (try simp only [Act.put, List.setIfInBounds_toArray, List.set_cons_zero, List.set_cons_succ, List.getElem_toArray, List.getElem_cons_zero, List.getElem_cons_succ])
            refine wpAnyH_ready (rs := [12]) (by kernel_rfl) (by simp) ?_
            refine AllReadyH.cons (o := _) rfl (fun K hK => ?_) AllReadyH.nil
            simp only [List.getElem_toArray, List.getElem_cons_zero, List.getElem_cons_succ]
            go_simp
            refine (estep_told HEL.out HQS.out HQM.out hoc hic' hbc).mono ?_
            rintro e wv ⟨rfl, F', hst⟩
            rw [HT.out]
            have hbxv : EopBox q pb wv := (hst.kept.block _ (lt_of_block HBX.out) HPF.out).trans HBX.out
            go_wp2_with fail
            refine hK.out _ _ hbxv (fun hHeld => ?_)
            clear hK
            (try simp only [Act.put, List.setIfInBounds_toArray, List.set_cons_zero, List.set_cons_succ, List.getElem_toArray, List.getElem_cons_zero, List.getElem_cons_succ])
            refine wpAnyH_take (i := 13) (oi := _) (v := .bool true) rfl (by kernel_rfl) (by kernel_rfl) (by kernel_rfl) (fun _ _ _ h => h) (Or.inl ⟨by rfl, fun w' hSw => by go_simp⟩) hHeld ?_
            (try simp only [Act.put, List.setIfInBounds_toArray, List.set_cons_zero, List.set_cons_succ, List.getElem_toArray, List.getElem_cons_zero, List.getElem_cons_succ])
            refine wpAnyH_take (i := 14) (oi := _) (v := .bool true) rfl (by kernel_rfl) (by kernel_rfl) (by kernel_rfl) (fun _ _ _ h => h) (Or.inl ⟨by rfl, fun w' hSw => by go_simp⟩) hHeld ?_
            (try simp only [Act.put, List.setIfInBounds_toArray, List.set_cons_zero, List.set_cons_succ, List.getElem_toArray, List.getElem_cons_zero, List.getElem_cons_succ])
            refine wpAnyH_take (i := 15) (oi := _) (v := undef) rfl (by kernel_rfl) (by kernel_rfl) (by kernel_rfl) (fun _ _ _ h => h) (Or.inr ⟨by rfl, rfl⟩) hHeld ?_
            (try simp only [Act.put, List.setIfInBounds_toArray, List.set_cons_zero, List.set_cons_succ, List.getElem_toArray, List.getElem_cons_zero, List.getElem_cons_succ])
            refine wpAnyH_take (i := 16) (oi := _) (v := undef) rfl (by kernel_rfl) (by kernel_rfl) (by kernel_rfl) (fun _ _ _ h => h) (Or.inr ⟨by rfl, rfl⟩) hHeld ?_
            (try simp only [Act.put, List.setIfInBounds_toArray, List.set_cons_zero, List.set_cons_succ, List.getElem_toArray, List.getElem_cons_zero, List.getElem_cons_succ])
            refine wpAnyH_take (i := 17) (oi := _) (v := undef) rfl (by kernel_rfl) (by kernel_rfl) (by kernel_rfl) (fun _ _ _ h => h) (Or.inr ⟨by rfl, rfl⟩) hHeld ?_
            (try simp only [Act.put, List.setIfInBounds_toArray, List.set_cons_zero, List.set_cons_succ, List.getElem_toArray, List.getElem_cons_zero, List.getElem_cons_succ])
            refine wpAnyH_take (i := 18) (oi := _) (v := undef) rfl (by kernel_rfl) (by kernel_rfl) (by kernel_rfl) (fun _ _ _ h => h) (Or.inr ⟨by rfl, rfl⟩) hHeld ?_
            (try simp only [Act.put, List.setIfInBounds_toArray, List.set_cons_zero, List.set_cons_succ, List.getElem_toArray, List.getElem_cons_zero, List.getElem_cons_succ])
            refine wpAnyH_take (i := 19) (oi := _) (v := undef) rfl (by kernel_rfl) (by kernel_rfl) (by kernel_rfl) (fun _ _ _ h => h) (Or.inr ⟨by rfl, rfl⟩) hHeld ?_
            (try simp only [Act.put, List.setIfInBounds_toArray, List.set_cons_zero, List.set_cons_succ, List.getElem_toArray, List.getElem_cons_zero, List.getElem_cons_succ])
            refine wpAnyH_take (i := 20) (oi := _) (v := undef) rfl (by kernel_rfl) (by kernel_rfl) (by kernel_rfl) (fun _ _ _ h => h) (Or.inr ⟨by rfl, rfl⟩) hHeld ?_
            (try simp only [Act.put, List.setIfInBounds_toArray, List.set_cons_zero, List.set_cons_succ, List.getElem_toArray, List.getElem_cons_zero, List.getElem_cons_succ])
            refine wpAnyH_take (i := 21) (oi := _) (v := undef) rfl (by kernel_rfl) (by kernel_rfl) (by kernel_rfl) (fun _ _ _ h => h) (Or.inr ⟨by rfl, rfl⟩) hHeld ?_
            (try simp only [Act.put, List.setIfInBounds_toArray, List.set_cons_zero, List.set_cons_succ, List.getElem_toArray, List.getElem_cons_zero, List.getElem_cons_succ])
            refine wpAnyH_take (i := 22) (oi := _) (v := undef) rfl (by kernel_rfl) (by kernel_rfl) (by kernel_rfl) (fun _ _ _ h => h) (Or.inr ⟨by rfl, rfl⟩) hHeld ?_
            (try simp only [Act.put, List.setIfInBounds_toArray, List.set_cons_zero, List.set_cons_succ, List.getElem_toArray, List.getElem_cons_zero, List.getElem_cons_succ])
            refine wpAnyH_take (i := 23) (oi := _) (v := undef) rfl (by kernel_rfl) (by kernel_rfl) (by kernel_rfl) (fun _ _ _ h => h) (Or.inr ⟨by rfl, rfl⟩) hHeld ?_
            (try simp only [Act.put, List.setIfInBounds_toArray, List.set_cons_zero, List.set_cons_succ, List.getElem_toArray, List.getElem_cons_zero, List.getElem_cons_succ])
            refine wpAnyH_take (i := 24) (oi := _) (v := undef) rfl (by kernel_rfl) (by kernel_rfl) (by kernel_rfl) (fun _ _ _ h => h) (Or.inr ⟨by rfl, rfl⟩) hHeld ?_
            (try simp only [Act.put, List.setIfInBounds_toArray, List.set_cons_zero, List.set_cons_succ, List.getElem_toArray, List.getElem_cons_zero, List.getElem_cons_succ])
            refine wpAnyH_take (i := 25) (oi := _) (v := undef) rfl (by kernel_rfl) (by kernel_rfl) (by kernel_rfl) (fun _ _ _ h => h) (Or.inr ⟨by rfl, rfl⟩) hHeld ?_
            (try simp only [Act.put, List.setIfInBounds_toArray, List.set_cons_zero, List.set_cons_succ, List.getElem_toArray, List.getElem_cons_zero, List.getElem_cons_succ])
            refine wpAnyH_take (i := 26) (oi := _) (v := undef) rfl (by kernel_rfl) (by kernel_rfl) (by kernel_rfl) (fun _ _ _ h => h) (Or.inr ⟨by rfl, rfl⟩) hHeld ?_
            (try simp only [Act.put, List.setIfInBounds_toArray, List.set_cons_zero, List.set_cons_succ, List.getElem_toArray, List.getElem_cons_zero, List.getElem_cons_succ])
            refine wpAnyH_take (i := 27) (oi := _) (v := undef) rfl (by kernel_rfl) (by kernel_rfl) (by kernel_rfl) (fun _ _ _ h => h) (Or.inr ⟨by rfl, rfl⟩) hHeld ?_
            (try simp only [Act.put, List.setIfInBounds_toArray, List.set_cons_zero, List.set_cons_succ, List.getElem_toArray, List.getElem_cons_zero, List.getElem_cons_succ])
            refine wpAnyH_take (i := 28) (oi := _) (v := undef) rfl (by kernel_rfl) (by kernel_rfl) (by kernel_rfl) (fun _ _ _ h => h) (Or.inr ⟨by rfl, rfl⟩) hHeld ?_
            (try simp only [Act.put, List.setIfInBounds_toArray, List.set_cons_zero, List.set_cons_succ, List.getElem_toArray, List.getElem_cons_zero, List.getElem_cons_succ])
            refine wpAnyH_take (i := 29) (oi := _) (v := undef) rfl (by kernel_rfl) (by kernel_rfl) (by kernel_rfl) (fun _ _ _ h => h) (Or.inr ⟨by rfl, rfl⟩) hHeld ?_
            (try simp only [Act.put, List.setIfInBounds_toArray, List.set_cons_zero, List.set_cons_succ, List.getElem_toArray, List.getElem_cons_zero, List.getElem_cons_succ])
            refine wpAnyH_take (i := 30) (oi := _) (v := undef) rfl (by kernel_rfl) (by kernel_rfl) (by kernel_rfl) (fun _ _ _ h => h) (Or.inr ⟨by rfl, rfl⟩) hHeld ?_
            (try simp only [Act.put, List.setIfInBounds_toArray, List.set_cons_zero, List.set_cons_succ, List.getElem_toArray, List.getElem_cons_zero, List.getElem_cons_succ])
            refine wpAnyH_take (i := 31) (oi := _) (v := undef) rfl (by kernel_rfl) (by kernel_rfl) (by kernel_rfl) (fun _ _ _ h => h) (Or.inr ⟨by rfl, rfl⟩) hHeld ?_
            (try simp only [Act.put, List.setIfInBounds_toArray, List.set_cons_zero, List.set_cons_succ, List.getElem_toArray, List.getElem_cons_zero, List.getElem_cons_succ])
            refine wpAnyH_take (i := 32) (oi := _) (v := undef) rfl (by kernel_rfl) (by kernel_rfl) (by kernel_rfl) (fun _ _ _ h => h) (Or.inr ⟨by rfl, rfl⟩) hHeld ?_
            (try simp only [Act.put, List.setIfInBounds_toArray, List.set_cons_zero, List.set_cons_succ, List.getElem_toArray, List.getElem_cons_zero, List.getElem_cons_succ])
            refine wpAnyH_take (i := 33) (oi := _) (v := undef) rfl (by kernel_rfl) (by kernel_rfl) (by kernel_rfl) (fun _ _ _ h => h) (Or.inr ⟨by rfl, rfl⟩) hHeld ?_
            (try simp only [Act.put, List.setIfInBounds_toArray, List.set_cons_zero, List.set_cons_succ, List.getElem_toArray, List.getElem_cons_zero, List.getElem_cons_succ])
            refine wpAnyH_take (i := 34) (oi := _) (v := undef) rfl (by kernel_rfl) (by kernel_rfl) (by kernel_rfl) (fun _ _ _ h => h) (Or.inr ⟨by rfl, rfl⟩) hHeld ?_
            (try simp only [Act.put, List.setIfInBounds_toArray, List.set_cons_zero, List.set_cons_succ, List.getElem_toArray, List.getElem_cons_zero, List.getElem_cons_succ])
            refine wpAnyH_take (i := 35) (oi := _) (v := .bool true) rfl (by kernel_rfl) (by kernel_rfl) (by kernel_rfl) (fun _ _ _ h => h) (Or.inl ⟨by rfl, fun w' hSw => by go_simp⟩) hHeld ?_
            (try simp only [Act.put, List.setIfInBounds_toArray, List.set_cons_zero, List.set_cons_succ, List.getElem_toArray, List.getElem_cons_zero, List.getElem_cons_succ])
            refine wpAnyH_done (by kernel_rfl) ?_ _
            go_wp2_with fail
            go_meet
            exact ⟨F', by rw [HE.out]; exact hst, by rw [HE.out, HT.out]⟩
        · have hk1 : (q.K == 1) = false := beq_eq_false_iff_ne.2 hK1
          by_cases hK0 : q.K = 0
          · have hk0 : (q.K == 0) = true := by rw [hK0]; rfl
            have HE : Hid (ostep l q = l.voted q.Nd ⟨q.S, q.R, q.Bn, q.v⟩) := hide (by unfold ostep; rw [if_neg hK1, if_pos hK0])
            clear hK1 hK0
            obtain ⟨t, ht⟩ : ∃ t, t = (l.voted q.Nd ⟨q.S, q.R, q.Bn, q.v⟩).2 := ⟨_, rfl⟩
            have HT : Hid ((l.voted q.Nd ⟨q.S, q.R, q.Bn, q.v⟩).2 = t) := hide ht.symm
            clear ht
            go_wp2_with fail
            refine wp_region_held_drew (S := fun W => EopBox q pb W) (by kernel_rfl) HBX.out (fun hHeld => ?_)
            refine wpAnyH_take (i := 0) (oi := _) (v := .pointer (some ⟨pb, 0, none⟩)) rfl (by kernel_rfl) (by kernel_rfl) (by kernel_rfl) (fun _ _ _ h => h) (Or.inl ⟨by rfl, fun w' hSw => by go_simp⟩) hHeld ?_
            (try simp only [Act.put, List.setIfInBounds_toArray, List.set_cons_zero, List.set_cons_succ, List.getElem_toArray, List.getElem_cons_zero, List.getElem_cons_succ])
            refine wpAnyH_take (i := 1) (oi := _) (v := .int .i64 q.K) rfl (by kernel_rfl) (by kernel_rfl) (by kernel_rfl) (fun _ _ _ h => h) (Or.inl ⟨by rfl, fun w' hSw => by obtain ⟨⟨x0, x1, x2⟩, ⟨x3, x4, x5⟩, ⟨x6, x7, x8⟩⟩ := nine_cells hSw; go_simp⟩) hHeld ?_
            (try simp only [Act.put, List.setIfInBounds_toArray, List.set_cons_zero, List.set_cons_succ, List.getElem_toArray, List.getElem_cons_zero, List.getElem_cons_succ])
            refine wpAnyH_take (i := 2) (oi := _) (v := .bool false) rfl (by kernel_rfl) (by kernel_rfl) (by kernel_rfl) (fun _ _ _ h => h) (Or.inl ⟨by rfl, fun w' hSw => by go_simp⟩) hHeld ?_
            (try simp only [Act.put, List.setIfInBounds_toArray, List.set_cons_zero, List.set_cons_succ, List.getElem_toArray, List.getElem_cons_zero, List.getElem_cons_succ])
            refine wpAnyH_take (i := 3) (oi := _) (v := .bool false) rfl (by kernel_rfl) (by kernel_rfl) (by kernel_rfl) (fun _ _ _ h => h) (Or.inl ⟨by rfl, fun w' hSw => by go_simp⟩) hHeld ?_
            (try simp only [Act.put, List.setIfInBounds_toArray, List.set_cons_zero, List.set_cons_succ, List.getElem_toArray, List.getElem_cons_zero, List.getElem_cons_succ])
            refine wpAnyH_take (i := 4) (oi := _) (v := undef) rfl (by kernel_rfl) (by kernel_rfl) (by kernel_rfl) (fun _ _ _ h => h) (Or.inr ⟨by rfl, rfl⟩) hHeld ?_
            (try simp only [Act.put, List.setIfInBounds_toArray, List.set_cons_zero, List.set_cons_succ, List.getElem_toArray, List.getElem_cons_zero, List.getElem_cons_succ])
            refine wpAnyH_take (i := 5) (oi := _) (v := undef) rfl (by kernel_rfl) (by kernel_rfl) (by kernel_rfl) (fun _ _ _ h => h) (Or.inr ⟨by rfl, rfl⟩) hHeld ?_
            (try simp only [Act.put, List.setIfInBounds_toArray, List.set_cons_zero, List.set_cons_succ, List.getElem_toArray, List.getElem_cons_zero, List.getElem_cons_succ])
            refine wpAnyH_take (i := 6) (oi := _) (v := undef) rfl (by kernel_rfl) (by kernel_rfl) (by kernel_rfl) (fun _ _ _ h => h) (Or.inr ⟨by rfl, rfl⟩) hHeld ?_
            (try simp only [Act.put, List.setIfInBounds_toArray, List.set_cons_zero, List.set_cons_succ, List.getElem_toArray, List.getElem_cons_zero, List.getElem_cons_succ])
            refine wpAnyH_take (i := 7) (oi := _) (v := undef) rfl (by kernel_rfl) (by kernel_rfl) (by kernel_rfl) (fun _ _ _ h => h) (Or.inr ⟨by rfl, rfl⟩) hHeld ?_
            (try simp only [Act.put, List.setIfInBounds_toArray, List.set_cons_zero, List.set_cons_succ, List.getElem_toArray, List.getElem_cons_zero, List.getElem_cons_succ])
            refine wpAnyH_take (i := 8) (oi := _) (v := undef) rfl (by kernel_rfl) (by kernel_rfl) (by kernel_rfl) (fun _ _ _ h => h) (Or.inr ⟨by rfl, rfl⟩) hHeld ?_
            (try simp only [Act.put, List.setIfInBounds_toArray, List.set_cons_zero, List.set_cons_succ, List.getElem_toArray, List.getElem_cons_zero, List.getElem_cons_succ])
            refine wpAnyH_take (i := 9) (oi := _) (v := undef) rfl (by kernel_rfl) (by kernel_rfl) (by kernel_rfl) (fun _ _ _ h => h) (Or.inr ⟨by rfl, rfl⟩) hHeld ?_
            (try simp only [Act.put, List.setIfInBounds_toArray, List.set_cons_zero, List.set_cons_succ, List.getElem_toArray, List.getElem_cons_zero, List.getElem_cons_succ])
            refine wpAnyH_take (i := 10) (oi := _) (v := undef) rfl (by kernel_rfl) (by kernel_rfl) (by kernel_rfl) (fun _ _ _ h => h) (Or.inr ⟨by rfl, rfl⟩) hHeld ?_
            (try simp only [Act.put, List.setIfInBounds_toArray, List.set_cons_zero, List.set_cons_succ, List.getElem_toArray, List.getElem_cons_zero, List.getElem_cons_succ])
            refine wpAnyH_take (i := 11) (oi := _) (v := undef) rfl (by kernel_rfl) (by kernel_rfl) (by kernel_rfl) (fun _ _ _ h => h) (Or.inr ⟨by rfl, rfl⟩) hHeld ?_
            (try simp only [Act.put, List.setIfInBounds_toArray, List.set_cons_zero, List.set_cons_succ, List.getElem_toArray, List.getElem_cons_zero, List.getElem_cons_succ])
            refine wpAnyH_take (i := 12) (oi := _) (v := undef) rfl (by kernel_rfl) (by kernel_rfl) (by kernel_rfl) (fun _ _ _ h => h) (Or.inr ⟨by rfl, rfl⟩) hHeld ?_
            (try simp only [Act.put, List.setIfInBounds_toArray, List.set_cons_zero, List.set_cons_succ, List.getElem_toArray, List.getElem_cons_zero, List.getElem_cons_succ])
            refine wpAnyH_take (i := 13) (oi := _) (v := .bool false) rfl (by kernel_rfl) (by kernel_rfl) (by kernel_rfl) (fun _ _ _ h => h) (Or.inl ⟨by rfl, fun w' hSw => by go_simp⟩) hHeld ?_
            (try simp only [Act.put, List.setIfInBounds_toArray, List.set_cons_zero, List.set_cons_succ, List.getElem_toArray, List.getElem_cons_zero, List.getElem_cons_succ])
            refine wpAnyH_take (i := 14) (oi := _) (v := .bool false) rfl (by kernel_rfl) (by kernel_rfl) (by kernel_rfl) (fun _ _ _ h => h) (Or.inl ⟨by rfl, fun w' hSw => by go_simp⟩) hHeld ?_
            (try simp only [Act.put, List.setIfInBounds_toArray, List.set_cons_zero, List.set_cons_succ, List.getElem_toArray, List.getElem_cons_zero, List.getElem_cons_succ])
            refine wpAnyH_take (i := 15) (oi := _) (v := .pointer (some ⟨pb, 0, none⟩)) rfl (by kernel_rfl) (by kernel_rfl) (by kernel_rfl) (fun _ _ _ h => h) (Or.inl ⟨by rfl, fun w' hSw => by go_simp⟩) hHeld ?_
            (try simp only [Act.put, List.setIfInBounds_toArray, List.set_cons_zero, List.set_cons_succ, List.getElem_toArray, List.getElem_cons_zero, List.getElem_cons_succ])
            refine wpAnyH_take (i := 16) (oi := _) (v := .int .i64 q.K) rfl (by kernel_rfl) (by kernel_rfl) (by kernel_rfl) (fun _ _ _ h => h) (Or.inl ⟨by rfl, fun w' hSw => by obtain ⟨⟨x0, x1, x2⟩, ⟨x3, x4, x5⟩, ⟨x6, x7, x8⟩⟩ := nine_cells hSw; go_simp⟩) hHeld ?_
            (try simp only [Act.put, List.setIfInBounds_toArray, List.set_cons_zero, List.set_cons_succ, List.getElem_toArray, List.getElem_cons_zero, List.getElem_cons_succ])
            refine wpAnyH_take (i := 17) (oi := _) (v := .bool true) rfl (by kernel_rfl) (by kernel_rfl) (by kernel_rfl) (fun _ _ _ h => h) (Or.inl ⟨by rfl, fun w' hSw => by go_simp⟩) hHeld ?_
            (try simp only [Act.put, List.setIfInBounds_toArray, List.set_cons_zero, List.set_cons_succ, List.getElem_toArray, List.getElem_cons_zero, List.getElem_cons_succ])
            refine wpAnyH_take (i := 18) (oi := _) (v := .bool true) rfl (by kernel_rfl) (by kernel_rfl) (by kernel_rfl) (fun _ _ _ h => h) (Or.inl ⟨by rfl, fun w' hSw => by go_simp⟩) hHeld ?_
            (try simp only [Act.put, List.setIfInBounds_toArray, List.set_cons_zero, List.set_cons_succ, List.getElem_toArray, List.getElem_cons_zero, List.getElem_cons_succ])
            refine wpAnyH_take (i := 19) (oi := _) (v := .pointer (some ⟨g, 0, none⟩)) rfl (by kernel_rfl) (by kernel_rfl) (by kernel_rfl) (fun _ _ _ h => h) (Or.inl ⟨by rfl, fun w' hSw => by go_simp⟩) hHeld ?_
            (try simp only [Act.put, List.setIfInBounds_toArray, List.set_cons_zero, List.set_cons_succ, List.getElem_toArray, List.getElem_cons_zero, List.getElem_cons_succ])
            refine wpAnyH_take (i := 20) (oi := _) (v := .pointer (some ⟨pb, 1, none⟩)) rfl (by kernel_rfl) (by kernel_rfl) (by kernel_rfl) (fun _ _ _ h => h) (Or.inl ⟨by rfl, fun w' hSw => by go_simp⟩) hHeld ?_
            (try simp only [Act.put, List.setIfInBounds_toArray, List.set_cons_zero, List.set_cons_succ, List.getElem_toArray, List.getElem_cons_zero, List.getElem_cons_succ])
            refine wpAnyH_take (i := 21) (oi := _) (v := .int .i64 q.Nd) rfl (by kernel_rfl) (by kernel_rfl) (by kernel_rfl) (fun _ _ _ h => h) (Or.inl ⟨by rfl, fun w' hSw => by obtain ⟨⟨x0, x1, x2⟩, ⟨x3, x4, x5⟩, ⟨x6, x7, x8⟩⟩ := nine_cells hSw; go_simp⟩) hHeld ?_
            (try simp only [Act.put, List.setIfInBounds_toArray, List.set_cons_zero, List.set_cons_succ, List.getElem_toArray, List.getElem_cons_zero, List.getElem_cons_succ])
            refine wpAnyH_take (i := 22) (oi := _) (v := .pointer (some ⟨pb, 2, none⟩)) rfl (by kernel_rfl) (by kernel_rfl) (by kernel_rfl) (fun _ _ _ h => h) (Or.inl ⟨by rfl, fun w' hSw => by go_simp⟩) hHeld ?_
            (try simp only [Act.put, List.setIfInBounds_toArray, List.set_cons_zero, List.set_cons_succ, List.getElem_toArray, List.getElem_cons_zero, List.getElem_cons_succ])
            refine wpAnyH_take (i := 23) (oi := _) (v := .pointer (some ⟨pb, 2, none⟩)) rfl (by kernel_rfl) (by kernel_rfl) (by kernel_rfl) (fun _ _ _ h => h) (Or.inl ⟨by rfl, fun w' hSw => by go_simp⟩) hHeld ?_
            (try simp only [Act.put, List.setIfInBounds_toArray, List.set_cons_zero, List.set_cons_succ, List.getElem_toArray, List.getElem_cons_zero, List.getElem_cons_succ])
            refine wpAnyH_take (i := 24) (oi := _) (v := .int .i64 q.S) rfl (by kernel_rfl) (by kernel_rfl) (by kernel_rfl) (fun _ _ _ h => h) (Or.inl ⟨by rfl, fun w' hSw => by obtain ⟨⟨x0, x1, x2⟩, ⟨x3, x4, x5⟩, ⟨x6, x7, x8⟩⟩ := nine_cells hSw; go_simp⟩) hHeld ?_
            (try simp only [Act.put, List.setIfInBounds_toArray, List.set_cons_zero, List.set_cons_succ, List.getElem_toArray, List.getElem_cons_zero, List.getElem_cons_succ])
            refine wpAnyH_take (i := 25) (oi := _) (v := .pointer (some ⟨pb, 2, none⟩)) rfl (by kernel_rfl) (by kernel_rfl) (by kernel_rfl) (fun _ _ _ h => h) (Or.inl ⟨by rfl, fun w' hSw => by go_simp⟩) hHeld ?_
            (try simp only [Act.put, List.setIfInBounds_toArray, List.set_cons_zero, List.set_cons_succ, List.getElem_toArray, List.getElem_cons_zero, List.getElem_cons_succ])
            refine wpAnyH_take (i := 26) (oi := _) (v := .pointer (some ⟨pb, 3, none⟩)) rfl (by kernel_rfl) (by kernel_rfl) (by kernel_rfl) (fun _ _ _ h => h) (Or.inl ⟨by rfl, fun w' hSw => by go_simp⟩) hHeld ?_
            (try simp only [Act.put, List.setIfInBounds_toArray, List.set_cons_zero, List.set_cons_succ, List.getElem_toArray, List.getElem_cons_zero, List.getElem_cons_succ])
            refine wpAnyH_take (i := 27) (oi := _) (v := .agg #[.int .i64 q.R, .int .i64 q.Bn]) rfl (by kernel_rfl) (by kernel_rfl) (by kernel_rfl) (fun _ _ _ h => h) (Or.inl ⟨by rfl, fun w' hSw => by obtain ⟨⟨x0, x1, x2⟩, ⟨x3, x4, x5⟩, ⟨x6, x7, x8⟩⟩ := nine_cells hSw; go_simp⟩) hHeld ?_
            (try simp only [Act.put, List.setIfInBounds_toArray, List.set_cons_zero, List.set_cons_succ, List.getElem_toArray, List.getElem_cons_zero, List.getElem_cons_succ])
            refine wpAnyH_take (i := 28) (oi := _) (v := .pointer (some ⟨pb, 2, none⟩)) rfl (by kernel_rfl) (by kernel_rfl) (by kernel_rfl) (fun _ _ _ h => h) (Or.inl ⟨by rfl, fun w' hSw => by go_simp⟩) hHeld ?_
            (try simp only [Act.put, List.setIfInBounds_toArray, List.set_cons_zero, List.set_cons_succ, List.getElem_toArray, List.getElem_cons_zero, List.getElem_cons_succ])
            refine wpAnyH_take (i := 29) (oi := _) (v := .pointer (some ⟨pb, 5, none⟩)) rfl (by kernel_rfl) (by kernel_rfl) (by kernel_rfl) (fun _ _ _ h => h) (Or.inl ⟨by rfl, fun w' hSw => by go_simp⟩) hHeld ?_
            (try simp only [Act.put, List.setIfInBounds_toArray, List.set_cons_zero, List.set_cons_succ, List.getElem_toArray, List.getElem_cons_zero, List.getElem_cons_succ])
            refine wpAnyH_take (i := 30) (oi := _) (v := .agg #[.int .i64 q.vk, .slice q.A q.n q.c, .slice q.D q.m q.d]) rfl (by kernel_rfl) (by kernel_rfl) (by kernel_rfl) (fun _ _ _ h => h) (Or.inl ⟨by rfl, fun w' hSw => by obtain ⟨⟨x0, x1, x2⟩, ⟨x3, x4, x5⟩, ⟨x6, x7, x8⟩⟩ := nine_cells hSw; go_simp⟩) hHeld ?_
            (try simp only [Act.put, List.setIfInBounds_toArray, List.set_cons_zero, List.set_cons_succ, List.getElem_toArray, List.getElem_cons_zero, List.getElem_cons_succ])
            refine wpAnyH_ready (rs := [31]) (by kernel_rfl) (by simp) ?_
            refine AllReadyH.cons (o := _) rfl (fun K hK => ?_) AllReadyH.nil
            simp only [List.getElem_toArray, List.getElem_cons_zero, List.getElem_cons_succ]
            go_simp
            refine (estep_copy HQV.out).mono ?_
            rintro e wc ⟨A', c', D', d', rfl, hoc, hic', hbc⟩
            have hbxc : EopBox q pb wc := (hbc.block _ (lt_of_block HBX.out)).trans HBX.out
            go_wp2_with fail
            refine hK.out _ _ hbxc (fun hHeld => ?_)
            clear hK
            (try simp only [Act.put, List.setIfInBounds_toArray, List.set_cons_zero, List.set_cons_succ, List.getElem_toArray, List.getElem_cons_zero, List.getElem_cons_succ])
            refine wpAnyH_take (i := 32) (oi := _) (v := .agg #[.int .i64 q.S, .int .i64 q.R, .int .i64 q.Bn, .int .i64 q.vk, .slice A' q.n c', .slice D' q.m d']) rfl (by kernel_rfl) (by kernel_rfl) (by kernel_rfl) (fun _ _ _ h => h) (Or.inl ⟨by rfl, fun w' hSw => by go_simp⟩) hHeld ?_
            (try simp only [Act.put, List.setIfInBounds_toArray, List.set_cons_zero, List.set_cons_succ, List.getElem_toArray, List.getElem_cons_zero, List.getElem_cons_succ])
            refine wpAnyH_ready (rs := [33]) (by kernel_rfl) (by simp) ?_
            refine AllReadyH.cons (o := _) rfl (fun K hK => ?_) AllReadyH.nil
            simp only [List.getElem_toArray, List.getElem_cons_zero, List.getElem_cons_succ]
            go_simp
            refine (estep_voted HEL.out HQS.out HQM.out hoc hic' hbc).mono ?_
            rintro e wv ⟨rfl, F', hst⟩
            rw [HT.out]
            have hbxv : EopBox q pb wv := (hst.kept.block _ (lt_of_block HBX.out) HPF.out).trans HBX.out
            go_wp2_with fail
            refine hK.out _ _ hbxv (fun hHeld => ?_)
            clear hK
            (try simp only [Act.put, List.setIfInBounds_toArray, List.set_cons_zero, List.set_cons_succ, List.getElem_toArray, List.getElem_cons_zero, List.getElem_cons_succ])
            refine wpAnyH_take (i := 34) (oi := _) (v := .bool t) rfl (by kernel_rfl) (by kernel_rfl) (by kernel_rfl) (fun _ _ _ h => h) (Or.inl ⟨by rfl, fun w' hSw => by go_simp⟩) hHeld ?_
            (try simp only [Act.put, List.setIfInBounds_toArray, List.set_cons_zero, List.set_cons_succ, List.getElem_toArray, List.getElem_cons_zero, List.getElem_cons_succ])
            refine wpAnyH_take (i := 35) (oi := _) (v := .bool t) rfl (by kernel_rfl) (by kernel_rfl) (by kernel_rfl) (fun _ _ _ h => h) (Or.inl ⟨by rfl, fun w' hSw => by go_simp⟩) hHeld ?_
            (try simp only [Act.put, List.setIfInBounds_toArray, List.set_cons_zero, List.set_cons_succ, List.getElem_toArray, List.getElem_cons_zero, List.getElem_cons_succ])
            refine wpAnyH_done (by kernel_rfl) ?_ _
            go_wp2_with fail
            go_meet
            exact ⟨F', by rw [HE.out]; exact hst, by rw [HE.out, HT.out]⟩
          · have hk0 : (q.K == 0) = false := beq_eq_false_iff_ne.2 hK0
            have HE : Hid (ostep l q = (l, false)) := hide (by unfold ostep; rw [if_neg hK1, if_neg hK0])
            clear hK1 hK0
            go_wp2_with fail
            refine wp_region_held_drew (S := fun W => EopBox q pb W) (by kernel_rfl) HBX.out (fun hHeld => ?_)
            refine wpAnyH_take (i := 0) (oi := _) (v := .pointer (some ⟨pb, 0, none⟩)) rfl (by kernel_rfl) (by kernel_rfl) (by kernel_rfl) (fun _ _ _ h => h) (Or.inl ⟨by rfl, fun w' hSw => by go_simp⟩) hHeld ?_
            (try simp only [Act.put, List.setIfInBounds_toArray, List.set_cons_zero, List.set_cons_succ, List.getElem_toArray, List.getElem_cons_zero, List.getElem_cons_succ])
            refine wpAnyH_take (i := 1) (oi := _) (v := .int .i64 q.K) rfl (by kernel_rfl) (by kernel_rfl) (by kernel_rfl) (fun _ _ _ h => h) (Or.inl ⟨by rfl, fun w' hSw => by obtain ⟨⟨x0, x1, x2⟩, ⟨x3, x4, x5⟩, ⟨x6, x7, x8⟩⟩ := nine_cells hSw; go_simp⟩) hHeld ?_
            (try simp only [Act.put, List.setIfInBounds_toArray, List.set_cons_zero, List.set_cons_succ, List.getElem_toArray, List.getElem_cons_zero, List.getElem_cons_succ])
            refine wpAnyH_take (i := 2) (oi := _) (v := .bool false) rfl (by kernel_rfl) (by kernel_rfl) (by kernel_rfl) (fun _ _ _ h => h) (Or.inl ⟨by rfl, fun w' hSw => by go_simp⟩) hHeld ?_
            (try simp only [Act.put, List.setIfInBounds_toArray, List.set_cons_zero, List.set_cons_succ, List.getElem_toArray, List.getElem_cons_zero, List.getElem_cons_succ])
            refine wpAnyH_take (i := 3) (oi := _) (v := .bool false) rfl (by kernel_rfl) (by kernel_rfl) (by kernel_rfl) (fun _ _ _ h => h) (Or.inl ⟨by rfl, fun w' hSw => by go_simp⟩) hHeld ?_
            (try simp only [Act.put, List.setIfInBounds_toArray, List.set_cons_zero, List.set_cons_succ, List.getElem_toArray, List.getElem_cons_zero, List.getElem_cons_succ])
            refine wpAnyH_take (i := 4) (oi := _) (v := undef) rfl (by kernel_rfl) (by kernel_rfl) (by kernel_rfl) (fun _ _ _ h => h) (Or.inr ⟨by rfl, rfl⟩) hHeld ?_
            (try simp only [Act.put, List.setIfInBounds_toArray, List.set_cons_zero, List.set_cons_succ, List.getElem_toArray, List.getElem_cons_zero, List.getElem_cons_succ])
            refine wpAnyH_take (i := 5) (oi := _) (v := undef) rfl (by kernel_rfl) (by kernel_rfl) (by kernel_rfl) (fun _ _ _ h => h) (Or.inr ⟨by rfl, rfl⟩) hHeld ?_
            (try simp only [Act.put, List.setIfInBounds_toArray, List.set_cons_zero, List.set_cons_succ, List.getElem_toArray, List.getElem_cons_zero, List.getElem_cons_succ])
            refine wpAnyH_take (i := 6) (oi := _) (v := undef) rfl (by kernel_rfl) (by kernel_rfl) (by kernel_rfl) (fun _ _ _ h => h) (Or.inr ⟨by rfl, rfl⟩) hHeld ?_
            (try simp only [Act.put, List.setIfInBounds_toArray, List.set_cons_zero, List.set_cons_succ, List.getElem_toArray, List.getElem_cons_zero, List.getElem_cons_succ])
            refine wpAnyH_take (i := 7) (oi := _) (v := undef) rfl (by kernel_rfl) (by kernel_rfl) (by kernel_rfl) (fun _ _ _ h => h) (Or.inr ⟨by rfl, rfl⟩) hHeld ?_
            (try simp only [Act.put, List.setIfInBounds_toArray, List.set_cons_zero, List.set_cons_succ, List.getElem_toArray, List.getElem_cons_zero, List.getElem_cons_succ])
            refine wpAnyH_take (i := 8) (oi := _) (v := undef) rfl (by kernel_rfl) (by kernel_rfl) (by kernel_rfl) (fun _ _ _ h => h) (Or.inr ⟨by rfl, rfl⟩) hHeld ?_
            (try simp only [Act.put, List.setIfInBounds_toArray, List.set_cons_zero, List.set_cons_succ, List.getElem_toArray, List.getElem_cons_zero, List.getElem_cons_succ])
            refine wpAnyH_take (i := 9) (oi := _) (v := undef) rfl (by kernel_rfl) (by kernel_rfl) (by kernel_rfl) (fun _ _ _ h => h) (Or.inr ⟨by rfl, rfl⟩) hHeld ?_
            (try simp only [Act.put, List.setIfInBounds_toArray, List.set_cons_zero, List.set_cons_succ, List.getElem_toArray, List.getElem_cons_zero, List.getElem_cons_succ])
            refine wpAnyH_take (i := 10) (oi := _) (v := undef) rfl (by kernel_rfl) (by kernel_rfl) (by kernel_rfl) (fun _ _ _ h => h) (Or.inr ⟨by rfl, rfl⟩) hHeld ?_
            (try simp only [Act.put, List.setIfInBounds_toArray, List.set_cons_zero, List.set_cons_succ, List.getElem_toArray, List.getElem_cons_zero, List.getElem_cons_succ])
            refine wpAnyH_take (i := 11) (oi := _) (v := undef) rfl (by kernel_rfl) (by kernel_rfl) (by kernel_rfl) (fun _ _ _ h => h) (Or.inr ⟨by rfl, rfl⟩) hHeld ?_
            (try simp only [Act.put, List.setIfInBounds_toArray, List.set_cons_zero, List.set_cons_succ, List.getElem_toArray, List.getElem_cons_zero, List.getElem_cons_succ])
            refine wpAnyH_take (i := 12) (oi := _) (v := undef) rfl (by kernel_rfl) (by kernel_rfl) (by kernel_rfl) (fun _ _ _ h => h) (Or.inr ⟨by rfl, rfl⟩) hHeld ?_
            (try simp only [Act.put, List.setIfInBounds_toArray, List.set_cons_zero, List.set_cons_succ, List.getElem_toArray, List.getElem_cons_zero, List.getElem_cons_succ])
            refine wpAnyH_take (i := 13) (oi := _) (v := .bool false) rfl (by kernel_rfl) (by kernel_rfl) (by kernel_rfl) (fun _ _ _ h => h) (Or.inl ⟨by rfl, fun w' hSw => by go_simp⟩) hHeld ?_
            (try simp only [Act.put, List.setIfInBounds_toArray, List.set_cons_zero, List.set_cons_succ, List.getElem_toArray, List.getElem_cons_zero, List.getElem_cons_succ])
            refine wpAnyH_take (i := 14) (oi := _) (v := .bool false) rfl (by kernel_rfl) (by kernel_rfl) (by kernel_rfl) (fun _ _ _ h => h) (Or.inl ⟨by rfl, fun w' hSw => by go_simp⟩) hHeld ?_
            (try simp only [Act.put, List.setIfInBounds_toArray, List.set_cons_zero, List.set_cons_succ, List.getElem_toArray, List.getElem_cons_zero, List.getElem_cons_succ])
            refine wpAnyH_take (i := 15) (oi := _) (v := .pointer (some ⟨pb, 0, none⟩)) rfl (by kernel_rfl) (by kernel_rfl) (by kernel_rfl) (fun _ _ _ h => h) (Or.inl ⟨by rfl, fun w' hSw => by go_simp⟩) hHeld ?_
            (try simp only [Act.put, List.setIfInBounds_toArray, List.set_cons_zero, List.set_cons_succ, List.getElem_toArray, List.getElem_cons_zero, List.getElem_cons_succ])
            refine wpAnyH_take (i := 16) (oi := _) (v := .int .i64 q.K) rfl (by kernel_rfl) (by kernel_rfl) (by kernel_rfl) (fun _ _ _ h => h) (Or.inl ⟨by rfl, fun w' hSw => by obtain ⟨⟨x0, x1, x2⟩, ⟨x3, x4, x5⟩, ⟨x6, x7, x8⟩⟩ := nine_cells hSw; go_simp⟩) hHeld ?_
            (try simp only [Act.put, List.setIfInBounds_toArray, List.set_cons_zero, List.set_cons_succ, List.getElem_toArray, List.getElem_cons_zero, List.getElem_cons_succ])
            refine wpAnyH_take (i := 17) (oi := _) (v := .bool false) rfl (by kernel_rfl) (by kernel_rfl) (by kernel_rfl) (fun _ _ _ h => h) (Or.inl ⟨by rfl, fun w' hSw => by go_simp⟩) hHeld ?_
            (try simp only [Act.put, List.setIfInBounds_toArray, List.set_cons_zero, List.set_cons_succ, List.getElem_toArray, List.getElem_cons_zero, List.getElem_cons_succ])
            refine wpAnyH_take (i := 18) (oi := _) (v := .bool false) rfl (by kernel_rfl) (by kernel_rfl) (by kernel_rfl) (fun _ _ _ h => h) (Or.inl ⟨by rfl, fun w' hSw => by go_simp⟩) hHeld ?_
            (try simp only [Act.put, List.setIfInBounds_toArray, List.set_cons_zero, List.set_cons_succ, List.getElem_toArray, List.getElem_cons_zero, List.getElem_cons_succ])
            refine wpAnyH_take (i := 19) (oi := _) (v := undef) rfl (by kernel_rfl) (by kernel_rfl) (by kernel_rfl) (fun _ _ _ h => h) (Or.inr ⟨by rfl, rfl⟩) hHeld ?_
            (try simp only [Act.put, List.setIfInBounds_toArray, List.set_cons_zero, List.set_cons_succ, List.getElem_toArray, List.getElem_cons_zero, List.getElem_cons_succ])
            refine wpAnyH_take (i := 20) (oi := _) (v := undef) rfl (by kernel_rfl) (by kernel_rfl) (by kernel_rfl) (fun _ _ _ h => h) (Or.inr ⟨by rfl, rfl⟩) hHeld ?_
            (try simp only [Act.put, List.setIfInBounds_toArray, List.set_cons_zero, List.set_cons_succ, List.getElem_toArray, List.getElem_cons_zero, List.getElem_cons_succ])
            refine wpAnyH_take (i := 21) (oi := _) (v := undef) rfl (by kernel_rfl) (by kernel_rfl) (by kernel_rfl) (fun _ _ _ h => h) (Or.inr ⟨by rfl, rfl⟩) hHeld ?_
            (try simp only [Act.put, List.setIfInBounds_toArray, List.set_cons_zero, List.set_cons_succ, List.getElem_toArray, List.getElem_cons_zero, List.getElem_cons_succ])
            refine wpAnyH_take (i := 22) (oi := _) (v := undef) rfl (by kernel_rfl) (by kernel_rfl) (by kernel_rfl) (fun _ _ _ h => h) (Or.inr ⟨by rfl, rfl⟩) hHeld ?_
            (try simp only [Act.put, List.setIfInBounds_toArray, List.set_cons_zero, List.set_cons_succ, List.getElem_toArray, List.getElem_cons_zero, List.getElem_cons_succ])
            refine wpAnyH_take (i := 23) (oi := _) (v := undef) rfl (by kernel_rfl) (by kernel_rfl) (by kernel_rfl) (fun _ _ _ h => h) (Or.inr ⟨by rfl, rfl⟩) hHeld ?_
            (try simp only [Act.put, List.setIfInBounds_toArray, List.set_cons_zero, List.set_cons_succ, List.getElem_toArray, List.getElem_cons_zero, List.getElem_cons_succ])
            refine wpAnyH_take (i := 24) (oi := _) (v := undef) rfl (by kernel_rfl) (by kernel_rfl) (by kernel_rfl) (fun _ _ _ h => h) (Or.inr ⟨by rfl, rfl⟩) hHeld ?_
            (try simp only [Act.put, List.setIfInBounds_toArray, List.set_cons_zero, List.set_cons_succ, List.getElem_toArray, List.getElem_cons_zero, List.getElem_cons_succ])
            refine wpAnyH_take (i := 25) (oi := _) (v := undef) rfl (by kernel_rfl) (by kernel_rfl) (by kernel_rfl) (fun _ _ _ h => h) (Or.inr ⟨by rfl, rfl⟩) hHeld ?_
            (try simp only [Act.put, List.setIfInBounds_toArray, List.set_cons_zero, List.set_cons_succ, List.getElem_toArray, List.getElem_cons_zero, List.getElem_cons_succ])
            refine wpAnyH_take (i := 26) (oi := _) (v := undef) rfl (by kernel_rfl) (by kernel_rfl) (by kernel_rfl) (fun _ _ _ h => h) (Or.inr ⟨by rfl, rfl⟩) hHeld ?_
            (try simp only [Act.put, List.setIfInBounds_toArray, List.set_cons_zero, List.set_cons_succ, List.getElem_toArray, List.getElem_cons_zero, List.getElem_cons_succ])
            refine wpAnyH_take (i := 27) (oi := _) (v := undef) rfl (by kernel_rfl) (by kernel_rfl) (by kernel_rfl) (fun _ _ _ h => h) (Or.inr ⟨by rfl, rfl⟩) hHeld ?_
            (try simp only [Act.put, List.setIfInBounds_toArray, List.set_cons_zero, List.set_cons_succ, List.getElem_toArray, List.getElem_cons_zero, List.getElem_cons_succ])
            refine wpAnyH_take (i := 28) (oi := _) (v := undef) rfl (by kernel_rfl) (by kernel_rfl) (by kernel_rfl) (fun _ _ _ h => h) (Or.inr ⟨by rfl, rfl⟩) hHeld ?_
            (try simp only [Act.put, List.setIfInBounds_toArray, List.set_cons_zero, List.set_cons_succ, List.getElem_toArray, List.getElem_cons_zero, List.getElem_cons_succ])
            refine wpAnyH_take (i := 29) (oi := _) (v := undef) rfl (by kernel_rfl) (by kernel_rfl) (by kernel_rfl) (fun _ _ _ h => h) (Or.inr ⟨by rfl, rfl⟩) hHeld ?_
            (try simp only [Act.put, List.setIfInBounds_toArray, List.set_cons_zero, List.set_cons_succ, List.getElem_toArray, List.getElem_cons_zero, List.getElem_cons_succ])
            refine wpAnyH_take (i := 30) (oi := _) (v := undef) rfl (by kernel_rfl) (by kernel_rfl) (by kernel_rfl) (fun _ _ _ h => h) (Or.inr ⟨by rfl, rfl⟩) hHeld ?_
            (try simp only [Act.put, List.setIfInBounds_toArray, List.set_cons_zero, List.set_cons_succ, List.getElem_toArray, List.getElem_cons_zero, List.getElem_cons_succ])
            refine wpAnyH_take (i := 31) (oi := _) (v := undef) rfl (by kernel_rfl) (by kernel_rfl) (by kernel_rfl) (fun _ _ _ h => h) (Or.inr ⟨by rfl, rfl⟩) hHeld ?_
            (try simp only [Act.put, List.setIfInBounds_toArray, List.set_cons_zero, List.set_cons_succ, List.getElem_toArray, List.getElem_cons_zero, List.getElem_cons_succ])
            refine wpAnyH_take (i := 32) (oi := _) (v := undef) rfl (by kernel_rfl) (by kernel_rfl) (by kernel_rfl) (fun _ _ _ h => h) (Or.inr ⟨by rfl, rfl⟩) hHeld ?_
            (try simp only [Act.put, List.setIfInBounds_toArray, List.set_cons_zero, List.set_cons_succ, List.getElem_toArray, List.getElem_cons_zero, List.getElem_cons_succ])
            refine wpAnyH_take (i := 33) (oi := _) (v := undef) rfl (by kernel_rfl) (by kernel_rfl) (by kernel_rfl) (fun _ _ _ h => h) (Or.inr ⟨by rfl, rfl⟩) hHeld ?_
            (try simp only [Act.put, List.setIfInBounds_toArray, List.set_cons_zero, List.set_cons_succ, List.getElem_toArray, List.getElem_cons_zero, List.getElem_cons_succ])
            refine wpAnyH_take (i := 34) (oi := _) (v := .bool false) rfl (by kernel_rfl) (by kernel_rfl) (by kernel_rfl) (fun _ _ _ h => h) (Or.inl ⟨by rfl, fun w' hSw => by go_simp⟩) hHeld ?_
            (try simp only [Act.put, List.setIfInBounds_toArray, List.set_cons_zero, List.set_cons_succ, List.getElem_toArray, List.getElem_cons_zero, List.getElem_cons_succ])
            refine wpAnyH_take (i := 35) (oi := _) (v := .bool false) rfl (by kernel_rfl) (by kernel_rfl) (by kernel_rfl) (fun _ _ _ h => h) (Or.inl ⟨by rfl, fun w' hSw => by go_simp⟩) hHeld ?_
            (try simp only [Act.put, List.setIfInBounds_toArray, List.set_cons_zero, List.set_cons_succ, List.getElem_toArray, List.getElem_cons_zero, List.getElem_cons_succ])
            refine wpAnyH_done (by kernel_rfl) ?_ _
            go_wp2_with fail
            go_meet
            exact ⟨F, by rw [HE.out]; exact ⟨HEL.out, Kept.refl _ _, fun j hj => .inl hj⟩, by rw [HE.out]⟩

      obtain ⟨F', hst, rfl⟩ := hcut
      obtain ⟨hd1, hd2, hd3⟩ := ostep_did l q
      have HST := hide hst
      generalize hl1 : (ostep l q).1 = l1 at *
      generalize (ostep l q).2 = hit at *
      clear hst hl1 hd1
      go_upto_if 81 with fail
      go_cut [8] (fun s8 wx => ∃ fs', fs'.length ≤ fs.length + 1 ∧ Hid (KRd w g ts l1 fs' F' s8 wx) ∧ Hid (∀ f ∈ fs', l1.D f.S = some f.v) ∧ Hid (EopBox q pb wx))
      case first =>
        have hbxc : EopBox q pb wc := (HST.out.kept.block _ (lt_of_block HBX.out) HPF.out).trans HBX.out
        cases hit
        · have HT := hide (HOD.out.turn HST.out.el HST.out.kept HST.out.sub)
          have HI : Hid (∀ f ∈ fs, l1.D f.S = some f.v) := hide (by rw [hd3 rfl]; exact hinv.out)
          have HB := hide hbxc
          clear hbxc
          go_wp2_with fail
          go_meet
          exact ⟨fs, by omega, HT, HI, HB⟩
        · obtain ⟨hDn, hDu⟩ := hd2 rfl
          have hownc := HOD.out.own.keep fun i hi => HST.out.kept.block i (HOD.out.own.lt i hi).2 (HOD.out.off i hi)
          obtain ⟨A4', n4, c4, rfl, hn4, hnc4, hcm4, _, _, _⟩ := hownc.form
          have HDU := hide hDu
          have HDN := hide hDn
          have HBXC := hide hbxc
          obtain ⟨⟨x0, x1, x2⟩, ⟨x3, x4, x5⟩, ⟨x6, x7, x8⟩⟩ := nine_cells hbxc
          have hba := (Below.refl _ wc).alloc (Nat.le_refl _) (.cells (q.row).toArray 42)
          have hone := one_row (heap_alloc_new wc (.cells (q.row).toArray 42))
          have HOA := hide (hownc.below hba)
          have HBA := hide hba
          have hrow : (q.row).toArray = #[.int .i64 q.S, .int .i64 q.R, .int .i64 q.Bn, .int .i64 q.vk, .slice q.A q.n q.c, .slice q.D q.m q.d] := rfl
          have hbz : w.heap.size ≤ wc.heap.size := by
            have h1 := HOD.out.bel.size
            have h2 := HST.out.kept.size
            omega
          rw [hrow] at hba hone HOA HBA
          have hone' : ∀ i u, ([q.row] : List (List Value)).flatten[i]? = some u → (wc.alloc (.cells #[.int .i64 q.S, .int .i64 q.R, .int .i64 q.Bn, .int .i64 q.vk, .slice q.A q.n q.c, .slice q.D q.m q.d] 42)).cell? ((⟨wc.heap.size, 0, none⟩ : Addr).add i) = some u := hone
          have HBZ : Hid (w.heap.size ≤ (wc.alloc (.cells #[.int .i64 q.S, .int .i64 q.R, .int .i64 q.Bn, .int .i64 q.vk, .slice q.A q.n q.c, .slice q.D q.m q.d] 42)).heap.size) := hide (Nat.le_trans hbz hba.size)
          have HZ1 : Hid ((wc.alloc (.cells #[.int .i64 q.S, .int .i64 q.R, .int .i64 q.Bn, .int .i64 q.vk, .slice q.A q.n q.c, .slice q.D q.m q.d] 42)).heap.size = wc.heap.size + 1) := hide (by simp)
          have hn4' : Hid (fs.length = n4) := hide (by have := hn4.out; rwa [List.length_map] at this)
          have HL1 : Hid ((fs.map Eop.row).length + 1 ≤ maxLen) := hide (by rw [List.length_map]; unfold maxLen; omega)
          have HL2 : Hid (((fs.map Eop.row).length + 1) * 80 ≤ 140737488355328) := hide (by rw [List.length_map]; omega)
          clear hone hrow hba hbz hbxc hd2 hd3 hDn hDu hownc hn4
          go_wp2_with (first
            | (refine list_append_rows rowV _ rfl (.tmp 82) (.tmp 85) rfl w.heap.size (.slice A4' n4 c4) (fs.map Eop.row) rfl HOA.out ⟨wc.heap.size, 0, none⟩ 1 1 [q.row] rfl q.row_wide rfl hone' HL1.out HL2.out HBZ.out ?_; intro v12 w12 ho12 hg12 hat12; have HO12 := hide ho12; have HG12 := hide hg12; have HAT := hide hat12; clear ho12 hg12 hat12)
            | fail)
          go_meet
          have hk12 : Kept (fun i => (Value.slice A4' n4 c4).ownBlock = some i) _ w12 := Kept.of_grown (F := fun i => (Value.slice A4' n4 c4).ownBlock = some i) HG12.out (fun i hi => hi)
          have hel12 : EL w12 F' g l1 := (HST.out.el.below HBA.out).kept hk12 (fun i hi e => by
            have h1 := HOD.out.off i e
            rcases HST.out.sub i hi with h2 | h2
            · exact h1 h2
            · have := (HOD.out.own.lt i e).2
              omega)
          have hbw12 : Below w.heap.size w w12 := by
            have h1 := HOD.out.bel.trans (HST.out.kept.below HOD.out.bel.size HOD.out.fl)
            have h2 := h1.trans (HBA.out.mono h1.size)
            exact h2.trans (hk12.below h2.size (fun i hi => (HOA.out.lt i hi).1))
          have hbx12 : EopBox q pb w12 := by
            have h1 : EopBox q pb (wc.alloc (.cells #[.int .i64 q.S, .int .i64 q.R, .int .i64 q.Bn, .int .i64 q.vk, .slice q.A q.n q.c, .slice q.D q.m q.d] 42)) := (HBA.out.block _ (lt_of_block HBXC.out)).trans HBXC.out
            exact (hk12.block _ (lt_of_block h1) (fun e => HPO.out _ e rfl)).trans h1
          refine ⟨fs ++ [q], by simp, hide ⟨hel12, by rw [List.map_append]; exact HO12.out, fun f hf => ?_, fun i hi => ?_, fun i hi hf => ?_, hbw12⟩, hide (fun f hf => ?_), hide hbx12⟩
          · rcases List.mem_append.1 hf with h1 | h1
            · exact HOR.out.sub f h1
            · rw [List.mem_singleton.1 h1]; exact HQT.out
          · rcases HST.out.sub i hi with h1 | h1
            · exact HOD.out.fl i h1
            · have := HOD.out.bel.size; omega
          · rcases HAT.out with h1 | h1
            · rw [h1] at hi
              rcases HST.out.sub i hf with h2 | h2
              · exact HOD.out.off i hi h2
              · have := (HOD.out.own.lt i hi).2
                omega
            · rw [h1] at hi
              have e : _ = i := Option.some.inj hi
              have h2 := HST.out.el.lt i hf
              have h4 := HZ1.out
              omega
          · rw [HDU.out]
            show (if f.S = q.S then some q.v else l.D f.S) = some f.v
            rcases List.mem_append.1 hf with h1 | h1
            · have h2 := hinv.out f h1
              have h3 : f.S ≠ q.S := fun e => by rw [e, HDN.out] at h2; cases h2
              rw [if_neg h3]
              exact h2
            · rw [List.mem_singleton.1 h1, if_pos rfl]
      obtain ⟨fs', hfl', hor', hinv', hbx'⟩ := hcut
      obtain ⟨⟨x0, _, _⟩, _, _⟩ := nine_cells hbx'.out
      clear HST HOD HEL HBX HQV HPF HPO HOR HQ0 HQS HQM HQT hd2 hd3 hinv
      by_cases hK2 : q.K = 2
      · have hk2 : (q.K == 2) = true := by rw [hK2]; rfl
        have hps := el_pass hor'.out.el
        obtain ⟨sm, hsm⟩ : ∃ b, b = (l1.D l1.next).isSome := ⟨_, rfl⟩
        rw [← hsm] at hps
        clear hsm hK2
        go_wp2_with fail
        refine hps.mono ?_
        rintro e w16 ⟨rfl, F16, h16, hk16, hf16⟩
        have HR16 := hide (hor'.out.turn h16 hk16 hf16)
        have HI16 : Hid (∀ f ∈ fs', l1.passed.D f.S = some f.v) := hide (by rw [passed_D]; exact hinv'.out)
        clear hps h16 hk16 hf16 x0
        go_wp2_with fail
        go_roundw
        case rel => exact ⟨j + 1, l1.passed, fs', F16, by omega, by go_num, by omega, HR16, HI16⟩
        case measure => simp [intOf]; omega
      · have hk2 : (q.K == 2) = false := beq_eq_false_iff_ne.2 hK2
        go_wp2_with fail
        go_roundw
        case rel => exact ⟨j + 1, l1, fs', F', by omega, by go_num, by omega, hor', hinv'⟩
        case measure => simp [intOf]; omega
end Go.Proofs.Ytnngmapphacpkaa

namespace Go.Proofs.Ytnngmapphacpkaa
open Go.ChangeShapes Go.WideShapes Go.ChangeAt Go.RowKit
set_option linter.unusedVariables false

set_option maxRecDepth 100000 in
theorem learnerKeeps_lifted (os : Os) (started : os.Started) (H : Type) (enc : TypeId × Value → H) :
    ReturnsInHanded {} Try.checked os 7 .any (Rows.learnerKeepsSpec.pre6 enc Try.prog Try.f7 Rows.learnerKeepsRow.domain false) (Rows.learnerKeepsSpec.post enc Try.prog Try.f7 false true false false) := by
  refine returnsInHanded_of_change_sized (C := Try.checked) ownKnob_none started (by kernel_rfl) Try.func7
    (ChangeSpec.witness6 (enc := enc) (C := Try.checked) false ⟨#[], #[.slice none 0 0, .int .i64 0, .int .i64 0], []⟩ 8 (by kernel_rfl) (by kernel_rfl) (by kernel_rfl) (by kernel_rfl)) ?_
  intro W base args ds gs before hval0 hW hcnd hsz0 _
  have hval : ∀ (j : Nat) t v, Try.f7.params[j]? = some t → args[j]? = some v → Value.okWide Try.prog W .any base t v := hval0
  have hsz : (DataW.weightsEach Try.prog (Try.f7.params.toList ++ Rows.learnerKeepsSpec.plain.varTypes Try.prog) (ds ++ gs)).all (· ≤ reachBytes) = true := hsz0
  have hW' := hW
  obtain ⟨p, q, hA0, hV, rfl, hfz, hnd⟩ := hW
  have hA : DataW.TrodAll enc Try.prog W 0 (fun _ => true) true Try.f7.params.toList args.toList ds p := hA0
  rw [Try.params7] at hA hval hsz
  obtain ⟨v0, vs0, d0, ds0, p0, q0, hargs, rfl, rfl, h0, r0⟩ := trodAll_cons hA
  obtain ⟨v1, vs1, d1, ds1, p1, q1, rfl, rfl, rfl, h1, r1⟩ := trodAll_cons r0
  obtain ⟨v2, vs2, d2, ds2, p2, q2, rfl, rfl, rfl, h2, r2⟩ := trodAll_cons r1
  obtain ⟨rfl, rfl, rfl⟩ := trodAll_nil r2
  obtain rfl : args = #[v0, v1, v2] := by cases args; simp_all
  obtain ⟨rfl, rfl⟩ := trodVars_none hV
  have t0 := h0
  have lt0 : ∀ x ∈ p0, x.block < W.heap.size := by obtain ⟨m, hm⟩ := t0; exact DataW.trod_lt m _ _ _ hm
  obtain ⟨a0, len0, cap0, rfl⟩ := okWide_slice Try.underlying23 (hval 0 23 v0 rfl rfl)
  obtain ⟨ts0, hT0, e0, hl0⟩ := open_eops h0 (Light.of_each hsz (j := 0) rfl rfl)
  obtain ⟨n1, rfl, rfl, rfl, w1⟩ := open_int Try.underlying3 (hval 1 3 v1 rfl rfl) h1
  obtain ⟨n2, rfl, rfl, rfl, w2⟩ := open_int Try.underlying3 (hval 2 3 v2 rfl rfl) h2
  clear hA0 hval0
  refine (keeps_walk a0 len0 cap0 ts0 n1 n2 W hT0 e0 hl0 w1 w2).mono fun e W' ⟨he, bel⟩ => ?_
  subst he
  exact ⟨_, rfl, _, _, _, [], _, [], hW', trodAll_mk1 (shut_bool Try.underlying4 _), (trodAll_cons_mk (Below.trod laid_out (by kernel_rfl) (of_decide_eq_true (by kernel_rfl)) t0 bel lt0) (trodAll_cons_mk (shut_int Try.underlying3 w1) (trodAll_cons_mk (shut_int Try.underlying3 w2) trodAll_mk0))), rfl, bel.frame _, fun h => by cases h⟩

theorem learnerKeeps_holds : Rows.LearnerKeepsSaid :=
  OpenClaim.holds_of_wide 7 Try.f7 rfl rfl rfl rfl rfl rfl rfl ⟨rfl, rfl, rfl, rfl, rfl⟩ rfl rfl rfl rfl rfl (by kernel_rfl) Try.func7 (by kernel_rfl)
    (of_decide_eq_true (by kernel_rfl)) (by unfold Func.isWrapper; first | (rw [if_pos (by decide +kernel)]; kernel_rfl) | (rw [if_neg (by decide +kernel)]; exact ⟨rfl, rfl⟩))
    (fun os started H enc _ => learnerKeeps_lifted os started H enc)
#print axioms learnerKeeps_holds
end Go.Proofs.Ytnngmapphacpkaa
