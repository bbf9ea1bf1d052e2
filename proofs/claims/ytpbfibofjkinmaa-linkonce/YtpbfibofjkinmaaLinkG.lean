/-
  raise of package link's inbox. Conditions: the numbers are within 2^61.
-/
import Derived.Test.YtpbfibofjkinmaaLinkF
import Derived.Laws.IdiomRangeMap
set_option linter.unusedSimpArgs false
set_option linter.unusedVariables false
namespace Go.Proofs.Ytpbfibofjkinmaa
open Go.RowKit Go.Maps

/-- What 'all' comes to, where all up to n count as come. -/
def RaiseP (k : Lk) (n a : Int) : Prop := max k.all n ≤ a ∧ (∀ x, max k.all n < x → x ≤ a → k.S x = true) ∧ k.S (a + 1) = false

section
variable {w w' : World} {base g : Nat} {wv mv dv : Value} {k : Lk}
/-- Where only the end's own block is turned, and but one number in it. -/
theorem IsK.setAll (h : IsK w base g wv mv dv k) (a : Int) : IsK (w.setCell ⟨g, 5, none⟩ (.int .i64 a)) base g wv mv dv { k with all := a } ∧ Kept (LBl g wv mv dv) w (w.setCell ⟨g, 5, none⟩ (.int .i64 a)) := by
  have hk : Kept (fun j => j = g) w (w.setCell ⟨g, 5, none⟩ (.int .i64 a)) := (Kept.refl (fun j => j = g) w).setCell (p := ⟨g, 5, none⟩) (.inl rfl) _
  obtain ⟨r1, r2, r3⟩ := h.rest hk (fun j hj => .inl hj)
  exact ⟨⟨by rw [set_cell_at _ h.blk]; rfl, h.bg, h.row.keep fun j hj => hk.block j (h.row.lt j hj).2 (fun e => h.ng (by rw [← e]; exact hj)), r1, r2, r3, h.len, h.dsl⟩, hk.weak (fun j hj => .inl hj)⟩
theorem IsK.setMap (h : IsK w base g wv mv dv k) {b : Nat} (hb : mapBlock mv = some b) (hk : Kept (fun j => j = b) w w') {S' : Int → Bool} {c' : Nat} (hs : SetIs w' base c' mv S') : IsK w' base g wv mv dv { k with S := S', cnt := c' } := by
  have hn : ∀ j cs t f, w.heap[j]? = some (.cells cs t f) → ¬ j = b := fun j cs t f hj e => h.set.block b hb cs t f (by rw [← e]; exact hj)
  refine ⟨(hk.block g (lt_of_block h.blk) (hn g _ _ _ h.blk)).trans h.blk, h.bg, ?_, fun l hl => ⟨?_, (h.dat l hl).2⟩, hs, ?_, h.len, h.dsl⟩
  · exact h.row.keep fun j hj => by
      obtain ⟨cur, hc⟩ := h.row.typed j hj
      exact hk.block j (lt_of_block hc) (hn j _ _ _ hc)
  · exact (h.dat l hl).1.keep fun j hj => by
      obtain ⟨cur, hc⟩ := ownsRow_typed (h.dat l hl).1 j hj
      exact hk.block j (lt_of_block hc) (hn j _ _ _ hc)
  · have hd := h.due
    refine ⟨hd.1, ?_⟩
    rcases hd.2 with h2 | ⟨g', cap, cur, hv, hg, hh, r⟩
    · exact .inl h2
    · exact .inr ⟨g', cap, cur, hv, hg, (hk.block g' (lt_of_block hh) (hn g' _ _ _ hh)).trans hh, r⟩
end

/-- What raise leaves. -/
def RaiseEnds (base g : Nat) (wv mv dv : Value) (k : Lk) (n : Int) (w : World) (e : Ending) (w' : World) : Prop :=
  e = .returned (.tuple #[]) ∧ ∃ a, RaiseP k n a ∧ IsK w' base g wv mv dv { k with all := a, S := fun x => k.S x && decide (a < x) } ∧ Kept (LBl g wv mv dv) w w'

theorem same_int (x y : Int) : (Lit.int .i64 y).sameKey (.int .i64 x) = decide (y = x) := by
  simp [Lit.sameKey]

set_option maxHeartbeats 1600000 in
set_option maxRecDepth 20000 in
theorem lraise_any (base g : Nat) (wv mv dv : Value) (k : Lk) (n hi : Int) (w : World) (h : IsK w base g wv mv dv k) (h0 : 0 ≤ k.all) (h1 : k.all ≤ hi) (h2 : -2305843009213693952 ≤ n) (h3 : n ≤ hi) (h4 : hi ≤ 2305843009213693952) (hS : ∀ x, k.S x = true → x ≤ hi) :
    Calls Try.prog 84 #[.pointer (some ⟨g, 4, none⟩), .int .i64 n] w (RaiseEnds base g wv mv dv k n w) := by
  have c1 := (row_cells h.blk 5).1
  have f1 := (row_cells h.blk 5).2
  simp only [List.getElem?_toArray, List.getElem?_cons_succ, List.getElem?_cons_zero] at c1
  obtain ⟨m0, hm0⟩ : ∃ m0, m0 = max k.all n := ⟨_, rfl⟩
  have hlo : m0 ≤ hi ∧ 0 ≤ m0 := by omega
  have hmx : ∀ a b : Int, k.all = a → n = b → max k.all n = m0 := fun _ _ _ _ => hm0.symm
  have hst := h.setAll m0
  have HS := hide hS
  have HM := hide hm0
  have HH := hide h
  clear h hS hmx
  go_enter Try.func84, Try.ntmps84
  go_upto_region 0 with fail
  go_cut [] (fun wx => wx = w.setCell ⟨g, 5, none⟩ (.int .i64 m0))
  case first =>
    by_cases hkn : k.all < n
    · obtain rfl : m0 = n := by omega
      clear hm0
      go_wp2_with fail
      go_meet
      exact rfl
    · obtain rfl : m0 = k.all := by omega
      clear hm0
      go_wp2_with fail
      go_meet
      exact rfl
  case rest =>
    obtain rfl := hcut.symm
    clear c1 f1 hm0
    obtain ⟨hst1, hst2⟩ := hst
    have HST2 := hide hst2
    clear hst2
    generalize w.setCell ⟨g, 5, none⟩ (.int .i64 m0) = w1 at *
    go_wp2_with fail
    go_loopw [] (fun wr => ∃ a : Int, m0 ≤ a ∧ a ≤ hi ∧ Hid (∀ x, m0 < x → x ≤ a → k.S x = true) ∧ Hid (IsK wr base g wv mv dv { k with all := a }) ∧ Hid (Kept (LBl g wv mv dv) w wr)) (fun wr => (hi - intOf ((wr.cell? ⟨g, 5, none⟩).getD undef)).toNat)
    case atStart => exact ⟨m0, Int.le_refl _, hlo.1, hide (fun x h1 h2 => by omega), hide hst1, HST2⟩
    case round =>
      obtain ⟨a, ha1, ha2, hall, hI, hK⟩ := hrel
      have hwf : (Lit.int .i64 (a + 1)).wf = true := WalkArith.wf_i64 (by omega)
      have hhas := lhas_any base g wv mv dv { k with all := a } (a + 1) wr hI.out hwf
      have hce : ({ k with all := a } : Lk).come (a + 1) = k.S (a + 1) := by
        show (decide (a + 1 ≤ a) || k.S (a + 1)) = _
        rw [decide_eq_false (by omega), Bool.false_or]
      rw [hce] at hhas
      have c1 := (row_cells hI.out.blk 5).1
      simp only [List.getElem?_toArray, List.getElem?_cons_succ, List.getElem?_cons_zero] at c1
      have hwr : IntKind.i64.wrap (a + 1) = a + 1 := IntWalk.i64_in _ (by omega)
      cases hq : k.S (a + 1)
      · rw [hq] at hhas
        have HQ := hide hq
        clear hq hce
        go_wp2_with fail
        refine hhas.mono ?_
        rintro e w2 ⟨rfl, hb2⟩
        have hI2 := hI.out.below hb2
        have hK2 : Kept (LBl g wv mv dv) w w2 := hK.out.step (Kept.of_below (F := fun _ => False) hb2) (fun j hj => hj.elim)
        have HP : Hid (RaiseP k n a) := hide ⟨by rw [← HM.out]; exact ha1, by rw [← HM.out]; exact hall.out, HQ.out⟩
        have c6 := (row_cells hI2.blk 6).1
        have c5 := (row_cells hI2.blk 5).1
        simp only [List.getElem?_toArray, List.getElem?_cons_succ, List.getElem?_cons_zero] at c5 c6
        clear c1 hhas
        rcases hI2.set with ⟨rfl, hS0⟩ | ⟨b, rfl, hb, D, ho, hh⟩
        · have hrn := run_range_nilMap (P := Try.prog) w2 85 3 136 Try.underlying85
          have hnn := fun ty => run_next_nilMap (P := Try.prog) w2 ty 0 0 #[]
          go_wp2_with fail
          refine wp_loop_rounds 1 ?_
          rw [rounds_succ]
          go_wp2
          go_end0
          have hIn := hI2.below ((Below.refl _ _).alloc (Nat.le_refl _) (.mapIter none 0 #[] 0))
          have eS : (fun x => k.S x && decide (a < x)) = k.S := by
            funext x
            have : k.S x = false := hS0 x
            rw [this]
            rfl
          refine ⟨rfl, a, HP.out, by rw [eS]; exact hIn, hK2.step (Kept.of_below (F := fun _ => False) ((Below.refl _ _).alloc (Nat.le_refl _) _)) (fun j hj => hj.elim)⟩
        · go_wp2_with (first | (at_range; refine wpList_range_own _ rfl _ 85 rfl 3 136 int_law Try.underlying85 _ b k.cnt D rfl ho ?_; intro w0 hrg0 hg0 hs0) | fail)
          (try go_frame)
          have hbw := ho.lt
          have hgw := lt_of_block hI2.blk
          have k0 : Kept (fun j => j = b) w2 w0 := Kept.of_grown (F := fun j => j = b) hg0 (fun j hj => by cases hj)
          generalize hrr : w2.heap.size = r at *
          have hgb : g ≠ b := fun e => hI2.set.block b rfl _ _ _ (by rw [← e]; exact hI2.blk)
          have HI2 := hide hI2
          have HK2 := hide hK2
          have HH2 := hide hh
          have hg0' : w0.heap[g]? = w2.heap[g]? := k0.block g (by omega) hgb
          clear hI2 hK2 hh c5 c6 ho
          go_loopw [4] (fun _ wr => ∃ (D' : DataW Unit) (left : Lit → Bool) (cnt : Nat), wr.ranges Try.prog 3 (unitElem (H := Unit)) b r k.cnt D' left cnt ∧ Hid (∀ x, Maps.has D' (.int .i64 x) = (k.S x && (decide (a < x) || left (.int .i64 x)))) ∧ Hid (Kept (fun j => j = b) w2 wr)) (fun _ wr => wr.rangeLeft b r)
          case atStart => exact ⟨D, _, _, hrg0, hide (fun x => by rw [HH2.out x]; show k.S x = (k.S x && (decide (a < x) || k.S x)); cases k.S x <;> simp), hide k0⟩
          case round =>
            clear hrg0 hg0 hs0 k0 hg0'
            obtain ⟨D', left, cnt, hrg, hD, hk⟩ := hrel
            have hgr : wr.heap[g]? = _ := (hk.out.block g (by omega) hgb).trans HI2.out.blk
            go_wp2_with (first | (at_next; refine wpList_next_ranges _ rfl _ rfl 3 int_law (unitElem (H := Unit)) (Value.int .i64) (fun (_ : Unit) => Value.agg #[]) (fun key kl hkey => (by obtain ⟨x, e, _, _⟩ := Maps.keyOf_int_inv Try.underlying3 hkey; exact ⟨x, e⟩)) (fun v y hv => ⟨(), (unitElem_inv hv).1⟩) b r k.cnt D' left cnt rfl hrg ?_ ?_) | fail)
            · intro hc0 hl0
              have hset : SetIs wr base k.cnt (.map (some b)) (fun x => k.S x && decide (a < x)) := .inr ⟨b, rfl, hb, D', hrg.owns, fun x => by rw [hD.out x, hl0, Bool.or_false]⟩
              have hfin := HI2.out.setMap rfl hk.out hset
              have hkf := HK2.out.step hk.out (fun j hj => .inl (.inr (.inr (.inl (by rw [hj]; rfl)))))
              have HF := hide hfin
              have HKF := hide hkf
              clear hset hfin hkf hrg hc0 hl0 hk hgr
              go_wp2
              go_end0
              exact ⟨rfl, a, HP.out, HF.out, HKF.out⟩
            · intro x _ kl y w3 cnt3 hkey hlk hvy hat hrg3 hlt hg3 hs3 hen
              obtain ⟨x', e1, rfl, hwx⟩ := Maps.keyOf_int_inv Try.underlying3 hkey
              injection e1 with _ e1
              subst e1
              have hrl := hrg.lt
              have hkr : Kept (fun j => j = b) w2 w3 := hk.out.step (Kept.of_grown (F := fun j => j = r) hg3 (fun j hj => (Option.some.inj hj).symm)) (fun j hj => .inr (by omega))
              have hg3' : w3.heap[g]? = _ := (hkr.block g (by omega) hgb).trans HI2.out.blk
              have c5 := (row_cells hg3' 5).1
              have c6 := (row_cells hg3' 6).1
              simp only [List.getElem?_toArray, List.getElem?_cons_succ, List.getElem?_cons_zero] at c5 c6
              have hrm : wr.rangeLeft b r = cnt := hrg.left_eq
              have HKR := hide hkr
              clear hkr hk hgr hg3' hat hvy
              by_cases hxa : x ≤ a
              · go_wp2_with (first | (at_delete; refine wpList_delete_ranges _ rfl _ _ 85 3 rfl 136 int_law Try.underlying85 (unitElem (H := Unit)) b r k.cnt D' _ cnt3 rfl hrg3 _ (.int .i64 x) rfl hkey ?_; intro w4 cnt4 hrg4 hle4 hturn4) | fail)
                (try go_frame)
                rw [Maps.strike_twice] at hrg4
                have hk4 : Kept (fun j => j = b) w2 w4 := HKR.out.step (Kept.of_grown (F := fun j => j = b) hturn4.grown (fun j hj => (Option.some.inj hj).symm)) (fun j hj => .inl hj)
                refine ⟨⟨D'.del (.int .i64 x), _, ⟨cnt4, hrg4⟩, hide fun y => ?_, hide hk4⟩, by rw [hrg4.left_eq]; omega⟩
                by_cases hyx : y = x
                · subst hyx
                  rw [Maps.has_del_same, same_int, decide_eq_true rfl, decide_eq_false (by omega)]
                  simp
                · rw [Maps.has_del_other (by intro e; injection e with _ e; exact hyx e), hD.out y, same_int, decide_eq_false hyx]
                  simp
              · go_wp2_with fail
                refine ⟨⟨D', _, cnt3, hrg3, hide fun y => ?_, HKR⟩, by rw [hrg3.left_eq, hrm]; exact hlt⟩
                by_cases hyx : y = x
                · subst hyx
                  rw [hD.out y, same_int, decide_eq_true rfl, decide_eq_true (show a < y by omega)]
                  simp
                · rw [hD.out y, same_int, decide_eq_false hyx]
                  simp
      · rw [hq] at hhas
        have hle : a + 1 ≤ hi := HS.out _ hq
        have HQ := hide hq
        clear hq hce
        go_wp2_with fail
        refine hhas.mono ?_
        rintro e w2 ⟨rfl, hb2⟩
        have hI2 := hI.out.below hb2
        have c2 := (row_cells hI2.blk 5).1
        have f2 := (row_cells hI2.blk 5).2
        simp only [List.getElem?_toArray, List.getElem?_cons_succ, List.getElem?_cons_zero] at c2
        obtain ⟨n1, n2⟩ := hI2.setAll (a + 1)
        have HI3 := hide n1
        have HK3 : Hid (Kept (LBl g wv mv dv) w (w2.setCell ⟨g, 5, none⟩ (.int .i64 (a + 1)))) := hide ((hK.out.step (Kept.of_below (F := fun _ => False) hb2) (fun j hj => hj.elim)).step n2 (fun j hj => .inl hj))
        clear n1 n2 c1 hI2
        go_wp2_with fail
        refine ⟨⟨a + 1, by omega, hle, hide fun x x1 x2 => ?_, HI3, HK3⟩, ?_⟩
        · rcases Int.lt_or_le x (a + 1) with h5 | h5
          · exact hall.out x x1 (by omega)
          · obtain rfl : x = a + 1 := by omega
            exact HQ.out
        · have e1 := (row_cells HI3.out.blk 5).1
          simp only [List.getElem?_toArray, List.getElem?_cons_succ, List.getElem?_cons_zero] at e1
          have e2 : wr.cell? ⟨g, 5, none⟩ = some (.int .i64 a) := by
            have := (row_cells hI.out.blk 5).1
            simpa using this
          rw [e1, e2]
          simp [intOf]
          omega
end Go.Proofs.Ytpbfibofjkinmaa
