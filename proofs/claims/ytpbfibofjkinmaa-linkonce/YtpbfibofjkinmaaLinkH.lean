/-
  note of package link's inbox. Conditions: the numbers are within 2^61.
-/
import Derived.Test.YtpbfibofjkinmaaLinkG
set_option linter.unusedSimpArgs false
set_option linter.unusedVariables false
namespace Go.Proofs.Ytpbfibofjkinmaa
open Go.RowKit Go.Maps

/-- One number more has come. -/
def Lk.plus (k : Lk) (n : Int) : Lk := { k with S := fun x => k.S x || decide (x = n), cnt := k.cnt + 1 }

/-- What note leaves. -/
def NoteEnds (base g : Nat) (wv mv dv : Value) (k : Lk) (n : Int) (w : World) (e : Ending) (w' : World) : Prop :=
  e = .returned (.tuple #[]) ∧ ∃ mv' a, RaiseP (k.plus n) k.all a ∧ IsK w' base g wv mv' dv { k.plus n with all := a, S := fun x => (k.plus n).S x && decide (a < x) } ∧ Kept (LBl g wv mv dv) w w' ∧ ∀ j, mapBlock mv' = some j → mapBlock mv = some j ∨ w.heap.size ≤ j

theorem alloc_set (w : World) (g i : Nat) (v : Value) (o : Obj) (h : g < w.heap.size) : (w.setCell ⟨g, i, none⟩ v).alloc o = (w.alloc o).setCell ⟨g, i, none⟩ v := (World.setCell_alloc_past (w := w) o g i v h).symm
theorem eqm_nil (w : World) : (binOp .eql 85 (.map none) (.map none)).run Try.prog w = .ok (.bool true) w := by kernel_rfl
theorem eqm_some (b : Nat) (w : World) : (binOp .eql 85 (.map (some b)) (.map none)).run Try.prog w = .ok (.bool false) w := by kernel_rfl

section
variable {w : World} {base g : Nat} {wv dv : Value} {k : Lk}
theorem IsK.make (h : IsK w base g wv (.map none) dv k) :
    IsK ((w.alloc (.map #[] 0)).setCell ⟨g, 6, none⟩ (.map (some w.heap.size))) base g wv (.map (some w.heap.size)) dv k ∧ Kept (LBl g wv (.map none) dv) w ((w.alloc (.map #[] 0)).setCell ⟨g, 6, none⟩ (.map (some w.heap.size))) := by
  have hb : Below w.heap.size w (w.alloc (.map #[] 0)) := (Below.refl _ _).alloc (Nat.le_refl _) _
  have h1 := h.below hb
  have hk : Kept (fun j => j = g) (w.alloc (.map #[] 0)) ((w.alloc (.map #[] 0)).setCell ⟨g, 6, none⟩ (.map (some w.heap.size))) := (Kept.refl (fun j => j = g) _).setCell (p := ⟨g, 6, none⟩) (.inl rfl) _
  obtain ⟨r1, _, r3⟩ := h1.rest hk (fun j hj => .inl hj)
  have hS : ∀ x, k.S x = false := by
    rcases h.set with ⟨_, hS⟩ | ⟨b, hb, _⟩
    · exact hS
    · cases hb
  have hgl := lt_of_block h.blk
  have hs : IntSet (w.alloc (.map #[] 0)) w.heap.size k.cnt k.S := ⟨_, (World.ownsMap_made w _ _ _).mono (Nat.zero_le _), fun x => by rw [hS x]; rfl⟩
  refine ⟨⟨by rw [set_cell_at _ h1.blk]; rfl, h.bg, h1.row.keep fun j hj => hk.block j (h1.row.lt j hj).2 (fun e => h1.ng (by rw [← e]; exact hj)), r1, .inr ⟨w.heap.size, rfl, by have := h.bg; omega, hs.keep (hk.block _ (by simp) (by omega))⟩, r3, h.len, h.dsl⟩, (Kept.of_below hb).step hk (fun j hj => .inl (.inl hj))⟩
end

set_option maxHeartbeats 1600000 in
set_option maxRecDepth 20000 in
theorem lnote_any (base g : Nat) (wv mv dv : Value) (k : Lk) (n hi : Int) (w : World) (h : IsK w base g wv mv dv k) (h0 : 0 ≤ k.all) (h1 : k.all ≤ hi) (h2 : -2305843009213693952 ≤ n) (h3 : n ≤ hi) (h4 : hi ≤ 2305843009213693952) (hS : ∀ x, k.S x = true → x ≤ hi) (hc : k.cnt < 4096) :
    Calls Try.prog 86 #[.pointer (some ⟨g, 4, none⟩), .int .i64 n] w (NoteEnds base g wv mv dv k n w) := by
  have c6 := (row_cells h.blk 6).1
  have f6 := (row_cells h.blk 6).2
  simp only [List.getElem?_toArray, List.getElem?_cons_succ, List.getElem?_cons_zero] at c6
  have hmm := @run_makeMap Try.prog
  have hgl := lt_of_block h.blk
  go_enter Try.func86, Try.ntmps86
  rcases h.set with ⟨rfl, hS0⟩ | ⟨b, rfl, hb, _⟩
  · obtain ⟨m1, m2⟩ := h.make
    obtain ⟨b, hbz⟩ : ∃ b, b = w.heap.size := ⟨_, rfl⟩
    have hbb : mapBlock (.map none) = some b ∨ w.heap.size ≤ b := .inr (by omega)
    clear h hS0
    have heq := eqm_nil w
    go_upto_region 2 with fail
    have ew : (w.setCell ⟨g, 6, none⟩ (.map (some w.heap.size))).alloc (.map #[] 0) = (w.alloc (.map #[] 0)).setCell ⟨g, 6, none⟩ (.map (some w.heap.size)) := alloc_set w g 6 _ _ hgl
    rw [ew]
    clear ew
    generalize (w.alloc (.map #[] 0)).setCell ⟨g, 6, none⟩ (.map (some w.heap.size)) = wx at *
    rw [← hbz] at m1
    have hI := hide m1
    have hK := hide m2
    clear m1 m2 hbz c6 f6 hmm
    have c6 := (row_cells hI.out.blk 6).1
    simp only [List.getElem?_toArray, List.getElem?_cons_succ, List.getElem?_cons_zero] at c6
    have hwf : (Lit.int .i64 n).wf = true := WalkArith.wf_i64 (by omega)
    have hkey := keyOf_int_mk Try.underlying3 hwf
    obtain ⟨D, ho, hh⟩ : IntSet wx b k.cnt k.S := by
      rcases hI.out.set with ⟨e, _⟩ | ⟨b', e, _, hs⟩
      · cases e
      · have e' : b = b' := by simpa using e
        rw [e']
        exact hs
    go_upto_region 3 with (first | (at_mapUpdate; refine wpList_mapUpdate_own _ rfl _ _ _ 85 rfl 3 136 int_law Try.underlying85 (unitElem (H := Unit)) b k.cnt D rfl ho (by unfold maxLen; omega) (.int .i64 n) (.agg #[]) (.int .i64 n) rfl rfl hkey (.agg []) [] unitElem_mk ?_; intro w3 ho3 hg3) | fail)
    (try go_frame)

    have hk3 : Kept (fun j => j = b) wx w3 := Kept.of_grown (F := fun j => j = b) hg3 (fun j hj => (Option.some.inj hj).symm)
    have hbase : base ≤ b := (hI.out.set.lt b rfl).1
    have hset : SetIs w3 base (k.cnt + 1) (.map (some b)) (k.plus n).S := .inr ⟨b, rfl, hbase, _, ho3, fun x => by
      show _ = (k.S x || decide (x = n))
      by_cases hx : x = n
      · subst hx
        rw [has_put_same ho.isMap (int_law.key hkey), decide_eq_true rfl, Bool.or_true]
      · rw [has_put_other (by intro e; injection e with _ e; exact hx e), hh x, decide_eq_false hx, Bool.or_false]⟩
    have h3' : IsK w3 base g wv (.map (some b)) dv (k.plus n) := hI.out.setMap rfl hk3 hset
    have hkk : Kept (LBl g wv (.map none) dv) w w3 := hK.out.step hk3 (fun j hj => by
      subst hj
      rcases hbb with e | e
      · exact .inl (.inr (.inr (.inl e)))
      · exact .inr e)
    have hra := lraise_any base g wv (.map (some b)) dv (k.plus n) k.all hi w3 h3' h0 h1 (by omega) h1 h4 (fun x hx => by
      have hx' : (k.S x || decide (x = n)) = true := hx
      rw [Bool.or_eq_true] at hx'
      rcases hx' with e | e
      · exact hS x e
      · have := of_decide_eq_true e
        omega)
    have c5 := (row_cells h3'.blk 5).1
    simp only [List.getElem?_toArray, List.getElem?_cons_succ, List.getElem?_cons_zero] at c5
    have e5 : (k.plus n).all = k.all := rfl
    rw [e5] at c5
    have HKK := hide hkk
    have HBB := hide hbb
    clear c6 hset h3' hkk hK hI hbb hS
    go_wp2_with fail
    refine hra.mono ?_
    rintro e w4 ⟨rfl, a, hp4, hI4, hk4⟩
    have HP4 := hide hp4
    have HI4 := hide hI4
    clear hp4 hI4 hra
    go_wp2
    go_end0
    exact ⟨rfl, .map (some b), a, HP4.out, HI4.out, HKK.out.step hk4 (fun j hj => by
      rcases hj with e | e | e | e
      · exact .inl (.inl e)
      · exact .inl (.inr (.inl e))
      · injection e with e
        subst e
        rcases HBB.out with e | e
        · exact .inl (.inr (.inr (.inl e)))
        · exact .inr e
      · exact .inl (.inr (.inr (.inr e)))), fun j hj => by
      injection hj with hj
      subst hj
      exact HBB.out⟩
  · have hbb : mapBlock (.map (some b)) = some b ∨ w.heap.size ≤ b := .inl rfl
    have hI := hide h
    have hK := hide (Kept.refl (LBl g wv (.map (some b)) dv) w)
    have heq := eqm_some b w
    go_upto_region 2 with fail
    clear h hb c6 f6 hmm
    have c6 := (row_cells hI.out.blk 6).1
    simp only [List.getElem?_toArray, List.getElem?_cons_succ, List.getElem?_cons_zero] at c6
    have hwf : (Lit.int .i64 n).wf = true := WalkArith.wf_i64 (by omega)
    have hkey := keyOf_int_mk Try.underlying3 hwf
    obtain ⟨D, ho, hh⟩ : IntSet w b k.cnt k.S := by
      rcases hI.out.set with ⟨e, _⟩ | ⟨b', e, _, hs⟩
      · cases e
      · have e' : b = b' := by simpa using e
        rw [e']
        exact hs
    go_upto_region 3 with (first | (at_mapUpdate; refine wpList_mapUpdate_own _ rfl _ _ _ 85 rfl 3 136 int_law Try.underlying85 (unitElem (H := Unit)) b k.cnt D rfl ho (by unfold maxLen; omega) (.int .i64 n) (.agg #[]) (.int .i64 n) rfl rfl hkey (.agg []) [] unitElem_mk ?_; intro w3 ho3 hg3) | fail)
    (try go_frame)

    have hk3 : Kept (fun j => j = b) w w3 := Kept.of_grown (F := fun j => j = b) hg3 (fun j hj => (Option.some.inj hj).symm)
    have hbase : base ≤ b := (hI.out.set.lt b rfl).1
    have hset : SetIs w3 base (k.cnt + 1) (.map (some b)) (k.plus n).S := .inr ⟨b, rfl, hbase, _, ho3, fun x => by
      show _ = (k.S x || decide (x = n))
      by_cases hx : x = n
      · subst hx
        rw [has_put_same ho.isMap (int_law.key hkey), decide_eq_true rfl, Bool.or_true]
      · rw [has_put_other (by intro e; injection e with _ e; exact hx e), hh x, decide_eq_false hx, Bool.or_false]⟩
    have h3' : IsK w3 base g wv (.map (some b)) dv (k.plus n) := hI.out.setMap rfl hk3 hset
    have hkk : Kept (LBl g wv (.map (some b)) dv) w w3 := hK.out.step hk3 (fun j hj => by
      subst hj
      rcases hbb with e | e
      · exact .inl (.inr (.inr (.inl e)))
      · exact .inr e)
    have hra := lraise_any base g wv (.map (some b)) dv (k.plus n) k.all hi w3 h3' h0 h1 (by omega) h1 h4 (fun x hx => by
      have hx' : (k.S x || decide (x = n)) = true := hx
      rw [Bool.or_eq_true] at hx'
      rcases hx' with e | e
      · exact hS x e
      · have := of_decide_eq_true e
        omega)
    have c5 := (row_cells h3'.blk 5).1
    simp only [List.getElem?_toArray, List.getElem?_cons_succ, List.getElem?_cons_zero] at c5
    have e5 : (k.plus n).all = k.all := rfl
    rw [e5] at c5
    have HKK := hide hkk
    have HBB := hide hbb
    clear c6 hset h3' hkk hK hI hbb hS
    go_wp2_with fail
    refine hra.mono ?_
    rintro e w4 ⟨rfl, a, hp4, hI4, hk4⟩
    have HP4 := hide hp4
    have HI4 := hide hI4
    clear hp4 hI4 hra
    go_wp2
    go_end0
    exact ⟨rfl, .map (some b), a, HP4.out, HI4.out, HKK.out.step hk4 (fun j hj => by
      rcases hj with e | e | e | e
      · exact .inl (.inl e)
      · exact .inl (.inr (.inl e))
      · injection e with e
        subst e
        rcases HBB.out with e | e
        · exact .inl (.inr (.inr (.inl e)))
        · exact .inr e
      · exact .inl (.inr (.inr (.inr e)))), fun j hj => by
      injection hj with hj
      subst hj
      exact HBB.out⟩
end Go.Proofs.Ytpbfibofjkinmaa
