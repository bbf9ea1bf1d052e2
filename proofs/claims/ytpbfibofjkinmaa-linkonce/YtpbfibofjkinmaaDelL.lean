/-
  slices.IndexFunc and slices.DeleteFunc over letters (letters). Conditions: the slice is the call's own.
-/
import Derived.Test.YtpbfibofjkinmaaLinkD
set_option linter.unusedSimpArgs false
set_option linter.unusedVariables false
namespace Go.Proofs.Ytpbfibofjkinmaa
open Go.RowKit

theorem zeroL (w : World) : (zeroValue 93).run Try.prog w = .ok (.agg #[.int .i64 0, .slice none 0 0, .bool false, .int .i64 0]) w := Try.zeroValue93 w

/-- Is it the letter of that number? -/
def ofNum (x : Int) (p : Ltr) : Bool := p.num == x

theorem lrel1_any (x : Int) (p : Ltr) (b : Nat) (w : World) (hb : w.heap[b]? = some (.cells #[.int .i64 x] 3 (0, 0))) :
    Calls Try.prog 82 #[.agg #[.int .i64 p.num, .slice p.A p.n p.c, .bool p.sent, .int .i64 p.at_], .pointer (some ⟨b, 0, none⟩)] w fun e w' => e = .returned (.bool (ofNum x p)) ∧ Below w.heap.size w w' := by
  obtain ⟨num, A, n, c, sent, at_, xs⟩ := p
  have hbl := lt_of_block hb
  have hc : (w.alloc (.cells #[.int .i64 num, .slice A n c, .bool sent, .int .i64 at_] 93)).cell? ⟨b, 0, none⟩ = some (.int .i64 x) := by
    have := (row_cells ((Below.heap_alloc w (.cells #[.int .i64 num, .slice A n c, .bool sent, .int .i64 at_] 93) b (by omega)).trans hb) 0).1
    simpa using this
  clear hb
  have HB := hide hbl
  clear hbl
  go_enter Try.func82, Try.ntmps82
  go_wp2
  go_ret
  exact ⟨rfl, by go_grown⟩

/-- The first of the letters with that answer. -/
def firstOf (q : Ltr → Bool) : List Ltr → Nat
  | [] => 0
  | p :: ps => if q p then 0 else firstOf q ps + 1
theorem firstOf_le (q : Ltr → Bool) (ps : List Ltr) : firstOf q ps ≤ ps.length := by
  induction ps with
  | nil => simp [firstOf]
  | cons p ps ih => unfold firstOf; split <;> simp; omega
theorem firstOf_no {q : Ltr → Bool} {ps : List Ltr} {j : Nat} (h : ∀ i p, i < j → ps[i]? = some p → q p = false) (hj : j ≤ ps.length) : j ≤ firstOf q ps := by
  induction ps generalizing j with
  | nil => simp at hj; omega
  | cons p ps ih =>
    rcases j with _ | j
    · omega
    · have h0 := h 0 p (by omega) rfl
      unfold firstOf
      rw [if_neg (by simp [h0])]
      have := ih (j := j) (fun i p' hi hp => h (i + 1) p' (by omega) (by simpa using hp)) (by simpa using hj)
      omega
theorem firstOf_at {q : Ltr → Bool} {ps : List Ltr} {j : Nat} {p : Ltr} (h : ∀ i p, i < j → ps[i]? = some p → q p = false) (hp : ps[j]? = some p) (hq : q p = true) : firstOf q ps = j := by
  induction ps generalizing j with
  | nil => simp at hp
  | cons p0 ps ih =>
    rcases j with _ | j
    · simp at hp
      subst hp
      simp [firstOf, hq]
    · have h0 := h 0 p0 (by omega) rfl
      unfold firstOf
      rw [if_neg (by simp [h0]), ih (j := j) (fun i p' hi hp' => h (i + 1) p' (by omega) (by simpa using hp')) (by simpa using hp)]

/-- IndexFunc's answer. -/
def idxV (q : Ltr → Bool) (ps : List Ltr) (n : Nat) : Int := if firstOf q ps = n then -1 else (firstOf q ps : Int)

set_option maxHeartbeats 800000 in
set_option maxRecDepth 20000 in
/-- IndexFunc with Lose's test. -/
theorem idxL_any (x : Int) (b : Nat) (A : Option Addr) (n c : Nat) (ps : List Ltr) (w : World) (hr : HasR w A 4 (ps.map Ltr.cells)) (hn : ps.length = n) (hl : n ≤ 4096) (hb : w.heap[b]? = some (.cells #[.int .i64 x] 3 (0, 0))) :
    Calls Try.prog 91 #[.slice A n c, .func (.func 82) #[] #[.pointer (some ⟨b, 0, none⟩)]] w fun e w' => e = .returned (.int .i64 (idxV (ofNum x) ps n)) ∧ Below w.heap.size w w' := by
  have HN := hide hn
  clear hn
  go_enter Try.func91, Try.ntmps91
  go_wp2
  go_loopw [5, 8] (fun _ i wr => ∃ j : Nat, j ≤ n ∧ i = .int .i64 (j : Int) ∧ (∀ i p, i < j → ps[i]? = some p → ofNum x p = false) ∧ Below w.heap.size w wr) (fun _ i _ => n - (intOf i).toNat)
  case atStart => exact ⟨0, by omega, rfl, (fun i p h => by omega), Below.refl _ _⟩
  case round =>
    obtain ⟨j, hj, rfl, hno, hbw⟩ := hrel
    by_cases hlt : j < n
    · have hjl : j < ps.length := by rw [HN.out]; exact hlt
      obtain ⟨gb, rfl, hra, _, hgl⟩ := hr j (by simpa using hjl)
      have hcell : (ps.map Ltr.cells)[j]'(by simpa using hjl) = ps[j].cells := by simp
      rw [hcell] at hra
      have hpj : ps[j]? = some ps[j] := List.getElem?_eq_getElem hjl
      generalize ps[j] = p at *
      have hra' : wr.rangeAt gb (j * 4) [(.int .i64 p.num : Value), .slice p.A p.n p.c, .bool p.sent, .int .i64 p.at_] := fun i u hu => by
        rw [hbw.cell (p := ⟨gb, j * 4 + i, none⟩) hgl]
        exact hra i u hu
      have hcl := lrel1_any x p b wr ((hbw.block b (lt_of_block hb)).trans hb)
      have hil : (j : Int) < (n : Int) := by omega
      have HPJ := hide hpj
      have HNO := hide hno
      clear hra hcell hr hpj hno
      go_wp2_with (refine wpList_load_mid rfl 93 _ rfl gb (j * 4) (by simp [Act.eval, Act.put]) [(.int .i64 p.num : Value), .slice p.A p.n p.c, .bool p.sent, .int .i64 p.at_] _ hra' Try.underlying93 rfl (by kernel_rfl) ?_)
      refine hcl.mono ?_
      rintro e w2 ⟨rfl, hk2⟩
      have hb2 := hbw.trans (hk2.mono hbw.size)
      cases hq : ofNum x p
      · have HQ := hide hq
        clear hq hcl hra' hk2
        go_wp2_with fail
        go_roundw
        case rel =>
          refine ⟨j + 1, by omega, by go_num, fun i p' hi hp' => ?_, hb2⟩
          rcases Nat.lt_or_ge i j with h1 | h1
          · exact HNO.out i p' h1 hp'
          · obtain rfl : i = j := by omega
            rw [HPJ.out] at hp'
            injection hp' with hp'
            subst hp'
            exact HQ.out
        case measure => simp [intOf]; omega
      · have hf := firstOf_at HNO.out HPJ.out hq
        have HF := hide hf
        have HQ := hide hq
        clear hf hq hcl hra' hk2
        go_wp2
        go_ret
        exact ⟨by unfold idxV; rw [HF.out, if_neg (by omega)]; rfl, hb2⟩
    · obtain rfl : j = n := by omega
      have hf : firstOf (ofNum x) ps = j := by
        have h1 := firstOf_no hno (by rw [HN.out]; omega)
        have h2 := firstOf_le (ofNum x) ps
        have h3 := HN.out
        omega
      have HF := hide hf
      clear hf hno
      go_wp2
      go_ret
      exact ⟨by unfold idxV; rw [HF.out, if_pos rfl]; rfl, hbw⟩

theorem take_succ_cells (ps : List Ltr) (j : Nat) (p : Ltr) (h : ps[j]? = some p) : ps.take (j + 1) = ps.take j ++ [p] := by
  rw [List.take_add_one, h]
  rfl
theorem firstOf_take (q : Ltr → Bool) (ps : List Ltr) : (ps.take (firstOf q ps + 1)).filter (fun p => !q p) = ps.take (firstOf q ps) := by
  induction ps with
  | nil => simp [firstOf]
  | cons p ps ih =>
    unfold firstOf
    cases hq : q p
    · simp [hq, ih]
    · simp [hq]
theorem firstOf_none (q : Ltr → Bool) (ps : List Ltr) (h : firstOf q ps = ps.length) : ps.filter (fun p => !q p) = ps := by
  induction ps with
  | nil => rfl
  | cons p ps ih =>
    unfold firstOf at h
    cases hq : q p
    · simp [hq] at h ⊢
      have := ih h
      simpa using this
    · simp [hq] at h

/-- What DeleteFunc leaves. -/
def DelEnds (x : Int) (base g n c : Nat) (ps : List Ltr) (w : World) (e : Ending) (w' : World) : Prop :=
  ∃ m, e = .returned (.slice (some ⟨g, 0, none⟩) m c) ∧ OwnR w' base 93 4 (.slice (some ⟨g, 0, none⟩) m c) ((ps.filter (fun p => !ofNum x p)).map Ltr.cells) ∧ Kept (fun k => k = g) w w'

set_option maxHeartbeats 1600000 in
set_option maxRecDepth 20000 in
theorem delL_any (x : Int) (base g n c b : Nat) (ps : List Ltr) (w : World) (h : OwnR w base 93 4 (.slice (some ⟨g, 0, none⟩) n c) (ps.map Ltr.cells)) (hl : n ≤ 4096) (hb : w.heap[b]? = some (.cells #[.int .i64 x] 3 (0, 0))) :
    Calls Try.prog 81 #[.slice (some ⟨g, 0, none⟩) n c, .func (.func 82) #[] #[.pointer (some ⟨b, 0, none⟩)]] w (DelEnds x base g n c ps w) := by
  obtain ⟨A', n', c', e', hn', hnc, hcm, hr, _, hgl⟩ := h.form
  injection e' with e1 e2 e3
  subst e1 e2 e3
  obtain ⟨_, e4, hbg, hgw⟩ := hgl _ rfl
  injection e4 with e4
  subst e4
  have hn : ps.length = n := by have := hn'.out; simpa using this
  have hm : c ≤ 9223372036854775807 := by unfold maxLen at hcm; omega
  have hidx := idxL_any x b (some ⟨g, 0, none⟩) n c ps w hr hn hl hb
  have hbb := lt_of_block hb
  have hgb : b ≠ g := by
    obtain ⟨cur, hc⟩ := h.typed g rfl
    exact typed_ne hb hc (by decide)
  have hgw' := h.lt g rfl
  have HN := hide hn
  have HH := hide h
  clear hn hn' hr hgl h
  by_cases hf : firstOf (ofNum x) ps = n
  · rw [show idxV (ofNum x) ps n = -1 from by unfold idxV; rw [if_pos hf]] at hidx
    have hkeep : ps.filter (fun p => !ofNum x p) = ps := firstOf_none _ _ (by rw [HN.out]; exact hf)
    have HK := hide hkeep
    clear hf hkeep
    go_enter Try.func81, Try.ntmps81
    go_wp2_with fail
    refine hidx.mono ?_
    rintro e w1 ⟨rfl, hk1⟩
    go_wp2
    go_ret
    exact ⟨n, rfl, by rw [HK.out]; exact HH.out.below hk1, Kept.of_below hk1⟩
  · rw [show idxV (ofNum x) ps n = (firstOf (ofNum x) ps : Int) from by unfold idxV; rw [if_neg hf]] at hidx
    obtain ⟨i0, hi0⟩ : ∃ i0, i0 = firstOf (ofNum x) ps := ⟨_, rfl⟩
    rw [← hi0] at hidx
    have hi1 : i0 < n := by
      have h1 := firstOf_le (ofNum x) ps
      rw [HN.out] at h1
      omega
    have ht0 := firstOf_take (ofNum x) ps
    rw [← hi0] at ht0
    have HT := hide ht0
    clear hf hi0 ht0
    go_enter Try.func81, Try.ntmps81
    go_wp2_with fail
    refine hidx.mono ?_
    rintro e w1 ⟨rfl, hk1⟩
    clear hidx
    have hne1 : ((i0 : Int) == -1) = false := by simp
    go_wp2
    go_loopw [5, 6, 7] (fun si sj _ wr => ∃ (i j : Nat) (cur : List (List Value)), i < j ∧ j ≤ n ∧ si = .int .i64 (i : Int) ∧ sj = .int .i64 (j : Int) ∧ Hid (cur.length = n ∧ cur.take i = ((ps.take j).filter (fun p => !ofNum x p)).map Ltr.cells ∧ cur.drop j = (ps.drop j).map Ltr.cells) ∧ Hid (OwnR wr base 93 4 (.slice (some ⟨g, 0, none⟩) n c) cur) ∧ Kept (fun k => k = g) w wr) (fun _ sj _ _ => n - (intOf sj).toNat)
    case atStart => exact ⟨i0, i0 + 1, ps.map Ltr.cells, by omega, by omega, rfl, by go_num, hide ⟨by simp [HN.out], by rw [HT.out, List.map_take], by rw [List.map_drop]⟩, hide (HH.out.below hk1), Kept.of_below hk1⟩
    case round =>
      obtain ⟨i, j, cur, hij, hj, rfl, rfl, hcur, ho, hkw⟩ := hrel
      by_cases hlt : j < n
      · obtain ⟨hc1, hc2, hc3⟩ := hcur.out
        obtain ⟨A', n', c', e', hn', _, _, hr, _, _⟩ := ho.out.form
        injection e' with e1 e2 e3
        subst e1 e2 e3
        have hjl : j < ps.length := by rw [HN.out]; exact hlt
        obtain ⟨gb, e4, hra, hth, hgl⟩ := hr j (by omega)
        injection e4 with e4
        injection e4 with e4
        subst e4
        have hpj : ps[j]? = some ps[j] := List.getElem?_eq_getElem hjl
        have hcell : cur[j]'(by omega) = ps[j].cells := by
          have h1 : (cur.drop j)[0]? = ((ps.drop j).map Ltr.cells)[0]? := by rw [hc3]
          rw [List.getElem?_drop, List.getElem?_map, List.getElem?_drop, Nat.add_zero, hpj, List.getElem?_eq_getElem (by omega)] at h1
          simpa using h1
        rw [hcell] at hra
        generalize ps[j] = p at *
        have hra' : wr.rangeAt g (j * 4) [(.int .i64 p.num : Value), .slice p.A p.n p.c, .bool p.sent, .int .i64 p.at_] := hra
        have hjl : (j : Int) < (n : Int) := by omega
        have hthi : wr.there g (i * 4) 4 := by
          obtain ⟨gb, e4, _, hth, _⟩ := hr i (by omega)
          injection e4 with e4
          injection e4 with e4
          subst e4
          exact hth
        have hbw := hkw.block b hbb hgb
        have HPJ := hide hpj
        have HTH := hide hthi
        clear hra hth hcell hr hpj hc1 hc2 hc3 hn' hthi
        go_upto_region 8 with (refine wpList_load_mid rfl 93 _ rfl g (j * 4) (by simp [Act.eval, Act.put]) [(.int .i64 p.num : Value), .slice p.A p.n p.c, .bool p.sent, .int .i64 p.at_] _ hra' Try.underlying93 rfl (by kernel_rfl) ?_)
        have hp1 := heap_alloc_new wr (.cells #[.int .i64 p.num, .slice p.A p.n p.c, .bool p.sent, .int .i64 p.at_] 93)
        have hb1 : Below wr.heap.size wr (wr.alloc (.cells #[.int .i64 p.num, .slice p.A p.n p.c, .bool p.sent, .int .i64 p.at_] 93)) := by go_grown
        generalize wr.alloc (.cells #[.int .i64 p.num, .slice p.A p.n p.c, .bool p.sent, .int .i64 p.at_] 93) = w2 at *
        have hbx2 := (hb1.block b (by have := hkw.size; omega)).trans (hbw.trans hb)
        have hcl := lrel1_any x p b w2 hbx2
        have hz2 := lt_of_block hp1
        clear hra'
        go_wp2_with (refine wpList_load_row rfl 93 _ rfl wr.heap.size rfl _ _ _ _ hp1 Try.underlying93 rfl (by kernel_rfl) ?_)
        refine hcl.mono ?_
        rintro e w3 ⟨rfl, hk3⟩
        have hp3 := (hk3.block wr.heap.size hz2).trans hp1
        have hb3 := hb1.trans (hk3.mono (by have := hb1.size; omega))
        have ho3 := ho.out.below hb3
        have hk3' : Kept (fun k => k = g) w w3 := hkw.step (Kept.of_below (F := fun _ => False) (hb3.mono (by have := hkw.size; omega))) (fun k hk => hk.elim)
        clear hcl hk3
        cases hq : ofNum x p
        · have HQ := hide hq
          clear hq
          have hth3 : w3.there g (i * 4) 4 := by
            obtain ⟨A', n', c', e', hn', _, _, hr, _, _⟩ := ho3.form
            injection e' with e1 e2 e3
            subst e1 e2 e3
            obtain ⟨gb, e4, _, hth, _⟩ := hr i (by rw [hn'.out]; omega)
            injection e4 with e4
            injection e4 with e4
            subst e4
            exact hth
          have hil : (i : Int) < (n : Int) := by omega
          have HO4 := hide (show OwnR (w3.setCells g (i * 4) (#[(.int .i64 p.num : Value), .slice p.A p.n p.c, .bool p.sent, .int .i64 p.at_] : Array Value).toList) base 93 4 (.slice (some ⟨g, 0, none⟩) n c) (cur.take i ++ [p.cells] ++ cur.drop (i + 1)) from by
            have h4 := ho3.put i [p.cells] (Ltr.wide [p]) (by have := hcur.out.1; simp; omega)
            rw [show [p.cells].flatten = [(.int .i64 p.num : Value), .slice p.A p.n p.c, .bool p.sent, .int .i64 p.at_] from by simp [Ltr.cells]] at h4
            exact h4)
          have HK4 := hide (show Kept (fun k => k = g) w (w3.setCells g (i * 4) (#[(.int .i64 p.num : Value), .slice p.A p.n p.c, .bool p.sent, .int .i64 p.at_] : Array Value).toList) from hk3'.setCells (.inl rfl) _ _)
          clear ho3
          go_wp2_with (first
            | (refine wpList_load_row rfl 93 _ rfl wr.heap.size rfl _ _ _ _ hp3 Try.underlying93 rfl (by kernel_rfl) ?_)
            | (refine wpList_store_mid rfl 93 (.tmp 33) (.tmp 32) rfl g (i * 4) #[(.int .i64 p.num : Value), .slice p.A p.n p.c, .bool p.sent, .int .i64 p.at_] (by simp [Act.eval, Act.put]) (by simp [Act.eval, Act.put]) hth3 (by kernel_rfl) (by simp; exact ⟨rfl, rfl, rfl, rfl⟩) ?_; generalize w3.setCells g (i * 4) (#[(.int .i64 p.num : Value), .slice p.A p.n p.c, .bool p.sent, .int .i64 p.at_] : Array Value).toList = w4 at HO4 HK4 ⊢))
          go_roundw
          case rel =>
            obtain ⟨c1, c2, c3⟩ := hcur.out
            refine ⟨i + 1, j + 1, cur.take i ++ [p.cells] ++ cur.drop (i + 1), by omega, by omega, by go_num, by go_num, hide ⟨by simp; omega, ?_, ?_⟩, HO4, HK4.out⟩
            · rw [List.take_append_of_le_length (by simp; omega), List.take_of_length_le (by simp; omega), c2, take_succ_cells ps j p HPJ.out, List.filter_append, List.map_append]
              simp [HQ.out]
            · rw [List.drop_append, List.drop_of_length_le (by simp; omega), List.nil_append, List.drop_drop]
              have e1 : i + 1 + (j + 1 - (cur.take i ++ [p.cells]).length) = j + 1 := by simp; omega
              rw [e1, ← List.drop_drop, c3, ← List.map_drop, List.drop_drop]
          case measure => simp [intOf]; omega
        · have HQ := hide hq
          have HO3 := hide ho3
          clear hq ho3
          go_wp2_with (refine wpList_load_row rfl 93 _ rfl wr.heap.size rfl _ _ _ _ hp3 Try.underlying93 rfl (by kernel_rfl) ?_)
          go_roundw
          case rel =>
            obtain ⟨c1, c2, c3⟩ := hcur.out
            refine ⟨i, j + 1, cur, by omega, by omega, rfl, by go_num, hide ⟨c1, ?_, ?_⟩, HO3, hk3'⟩
            · rw [c2, take_succ_cells ps j p HPJ.out, List.filter_append, List.map_append]
              simp [HQ.out]
            · rw [← List.drop_drop, c3, ← List.map_drop, List.drop_drop]
          case measure => simp [intOf]; omega
      · obtain rfl : j = n := by omega
        obtain ⟨d1, d2, _⟩ := hcur.out
        obtain ⟨A', n', c', e', hn', _, _, hr, _, _⟩ := ho.out.form
        injection e' with e1 e2 e3
        subst e1 e2 e3
        have hth : wr.there g (i * 4) ((j - i) * 4) := fun t ht => by
          obtain ⟨gb, e4, _, hth, _⟩ := hr (i + t / 4) (by omega)
          injection e4 with e4
          injection e4 with e4
          subst e4
          have h1 := hth (t % 4) (by omega)
          rwa [show (i + t / 4) * 4 + t % 4 = i * 4 + t by omega] at h1
        have hcl : ∀ ty, (Builtin.clear_ #[84] ty #[.slice (some ⟨g, i * 4, none⟩) (j - i) (c - i)]).run Try.prog wr = .ok (.tuple #[]) (wr.setCells g (i * 4) (List.replicate (j - i) [(.int .i64 0 : Value), .slice none 0 0, .bool false, .int .i64 0]).flatten) :=
          fun ty => run_clear_rows rowL wr ty g _ _ _ (by intro u hu; simp [Value.cells] at hu; rcases hu with rfl | rfl | rfl | rfl <;> rfl) hth zeroL
        have ho2 : OwnR (wr.setCells g (i * 4) (List.replicate (j - i) [(.int .i64 0 : Value), .slice none 0 0, .bool false, .int .i64 0]).flatten) base 93 4 (.slice (some ⟨g, 0, none⟩) i c) (cur.take i) := by
          have hw : Wide 4 (List.replicate (j - i) [(.int .i64 0 : Value), .slice none 0 0, .bool false, .int .i64 0]) := fun r hr => by
            have := List.eq_of_mem_replicate hr
            subst this
            exact Ltr.wide [⟨0, none, 0, 0, false, 0, []⟩] _ (by simp [Ltr.cells])
          have h3 := ho.out.put i _ hw (by simp; omega)
          have h4 := h3.cut i (by simp; omega)
          have e : (cur.take i ++ List.replicate (j - i) [(.int .i64 0 : Value), .slice none 0 0, .bool false, .int .i64 0] ++ cur.drop (i + (List.replicate (j - i) [(.int .i64 0 : Value), .slice none 0 0, .bool false, .int .i64 0]).length)).take i = cur.take i := by
            rw [List.append_assoc, List.take_append_of_le_length (by simp; omega), List.take_take, Nat.min_self]
          rw [e] at h4
          exact h4
        have hk2 : Kept (fun k => k = g) w (wr.setCells g (i * 4) (List.replicate (j - i) [(.int .i64 0 : Value), .slice none 0 0, .bool false, .int .i64 0]).flatten) := hkw.setCells (.inl rfl) _ _
        generalize wr.setCells g (i * 4) (List.replicate (j - i) [(.int .i64 0 : Value), .slice none 0 0, .bool false, .int .i64 0]).flatten = W2 at *
        rw [d2, List.take_of_length_le (by rw [HN.out]; exact Nat.le_refl _)] at ho2
        have HO2 := hide ho2
        have hic : ¬ c = i := by omega
        clear d1 d2 hr hth hn' hcur ho ho2 HT HH
        go_wp2_with fail
        go_ret
        exact ⟨i, rfl, HO2.out, hk2⟩
end Go.Proofs.Ytpbfibofjkinmaa
