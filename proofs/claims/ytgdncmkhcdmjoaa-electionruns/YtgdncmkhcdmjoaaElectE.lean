/-
  The reference of package election: near, New, Tick. No condition but that times are numbers within 2^62.
-/
import Derived.Test.YtgdncmkhcdmjoaaElectD
import Derived.Deep.DrawnRows
set_option linter.unusedSimpArgs false
set_option linter.unusedVariables false
namespace Go.Proofs.Ytgdncmkhcdmjoaa
open Go.RowKit
theorem seven_cells {w : World} {p : Nat} {a b c d e f h : Value} {t : TypeId} (hp : w.heap[p]? = some (.cells #[a, b, c, d, e, f, h] t (0, 0))) : (w.cell? ⟨p, 0, none⟩ = some a ∧ w.cell? ⟨p, 1, none⟩ = some b ∧ w.cell? ⟨p, 2, none⟩ = some c ∧ w.cell? ⟨p, 3, none⟩ = some d ∧ w.cell? ⟨p, 4, none⟩ = some e ∧ w.cell? ⟨p, 5, none⟩ = some f ∧ w.cell? ⟨p, 6, none⟩ = some h) ∧ ∀ i, w.frozen? ⟨p, i, none⟩ = false :=
  ⟨⟨(row_cells hp 0).1, (row_cells hp 1).1, (row_cells hp 2).1, (row_cells hp 3).1, (row_cells hp 4).1, (row_cells hp 5).1, (row_cells hp 6).1⟩, fun i => (row_cells hp i).2⟩
def Tm.rc (t : Tm) (A : Option Addr) (n c : Nat) : Array Value := #[.int .i64 t.me, .slice A n c, .int .i64 t.base, .int .i64 t.most, .int .i64 t.wait, .int .i64 t.since, .int .i64 t.round]
theorem near_any (x lo hi : Int) (h : lo ≤ hi) (w : World) : Calls Try.prog 38 #[.int .i64 x, .int .i64 lo, .int .i64 hi] w fun e w' => e = .returned (.int .i64 (nearN x lo hi)) ∧ w = w' := by
  by_cases h1 : x < lo
  · have HE : Hid (lo = nearN x lo hi) := hide (by unfold nearN; omega)
    go_enter Try.func38, Try.ntmps38
    go_wp2
    go_ret
    exact ⟨ret_int HE.out, rfl⟩
  · by_cases h2 : hi < x
    · have HE : Hid (hi = nearN x lo hi) := hide (by unfold nearN; omega)
      have d1 : decide (x < lo) = false := decide_eq_false h1
      clear h1
      go_enter Try.func38, Try.ntmps38
      go_wp2
      go_ret
      exact ⟨ret_int HE.out, rfl⟩
    · have HE : Hid (x = nearN x lo hi) := hide (by unfold nearN; omega)
      have d1 : decide (x < lo) = false := decide_eq_false h1
      have d2 : decide (hi < x) = false := decide_eq_false h2
      clear h1 h2
      go_enter Try.func38, Try.ntmps38
      go_wp2
      go_ret
      exact ⟨ret_int HE.out, rfl⟩
theorem results_rtick {tmps : Array Value} {w : World} {g : Nat} {A : Array Value} {t : TypeId} {v : Value} (h2 : tmps.getD 4 undef = .pointer (some ⟨g, 0, none⟩)) (h3 : tmps.getD 5 undef = v) (hA : w.heap[g]? = some (.cells A t (0, 0))) (sA : A.size = 7) :
    (results Try.f18 tmps).run Try.prog w = .ok (.tuple #[.agg A, v]) w := by
  have h2' : tmps[4]?.getD undef = .pointer (some ⟨g, 0, none⟩) := by simpa using h2
  have h3' : tmps[5]?.getD undef = v := by simpa using h3
  have i1 : (Try.prog.info? 26).map (·.size) = some A.size := by rw [sA]; kernel_rfl
  have e1 := run_loadVar_row (P := Try.prog) w g t 26 A (0, 0) _ hA Try.underlying26 rfl i1
  simp [results, Try.results18, h2', h3', asAddr, e1]
  try rfl
/-- What the reference's Tick answers. -/
def RTickEnds (t : Tm) (A : Option Addr) (n c : Nat) (now : Int) (w : World) (e : Ending) (w' : World) : Prop :=
  e = .returned (.tuple #[.agg ((t.tick now).1.rc A n c), .bool (t.tick now).2]) ∧ Below w.heap.size w w'
def In62 (x : Int) : Prop := -4611686018427387904 ≤ x ∧ x ≤ 4611686018427387904
set_option maxHeartbeats 1600000 in
set_option maxRecDepth 20000 in
theorem rtick_any (me : Int) (ms : List Int) (base most round since wait : Int) (A : Option Addr) (n c B : Nat) (now : Int) (w : World) (hg : Tm.Good ⟨me, ms, base, most, round, since, wait⟩) (hs : In62 since) (hn : In62 now) (hm : HasI w B A ms) (hB : B ≤ w.heap.size) (hl : ms.length = n) :
    Calls Try.prog 18 #[.agg #[.int .i64 me, .slice A n c, .int .i64 base, .int .i64 most, .int .i64 wait, .int .i64 since, .int .i64 round], .int .i64 now] w (RTickEnds ⟨me, ms, base, most, round, since, wait⟩ A n c now w) := by
  have gr := hg.rt
  have gb := hg.b
  have gd := hg.r
  have gw := hg.w
  simp only at gr gb gd gw
  unfold In62 at hs hn
  obtain ⟨w0, hw0, hz0, hp0, hq0, hb0⟩ : ∃ w0, (w.alloc (.cells #[.int .i64 me, .slice A n c, .int .i64 base, .int .i64 most, .int .i64 wait, .int .i64 since, .int .i64 round] 26)).alloc (.cells #[.int .i64 0, .slice none 0 0, .int .i64 0, .int .i64 0, .int .i64 0, .int .i64 0, .int .i64 0] 26) = w0 ∧ w0.heap.size = w.heap.size + 2 ∧ w0.heap[w.heap.size]? = some (.cells #[.int .i64 me, .slice A n c, .int .i64 base, .int .i64 most, .int .i64 wait, .int .i64 since, .int .i64 round] 26 (0, 0)) ∧ w0.heap[w.heap.size + 1]? = some (.cells #[.int .i64 0, .slice none 0 0, .int .i64 0, .int .i64 0, .int .i64 0, .int .i64 0, .int .i64 0] 26 (0, 0)) ∧ Below w.heap.size w w0 := by
    refine ⟨_, rfl, by simp, (Below.heap_alloc _ _ _ (by simp)).trans (heap_alloc_new w _), ?_, by go_grown⟩
    have := heap_alloc_new (w.alloc (.cells #[.int .i64 me, .slice A n c, .int .i64 base, .int .i64 most, .int .i64 wait, .int .i64 since, .int .i64 round] 26)) (.cells #[.int .i64 0, .slice none 0 0, .int .i64 0, .int .i64 0, .int .i64 0, .int .i64 0, .int .i64 0] 26)
    simpa using this
  have ML := hide (And.intro gr hl)
  have HM := hide hm
  have HB0 := hide hb0
  have HZ0 := hide hz0
  clear hg hm hb0 hz0 gr hl
  go_enter Try.func18, Try.ntmps18
  by_cases h1 : 1099511627776 ≤ round
  · have HE : Hid (Tm.tick ⟨me, ms, base, most, round, since, wait⟩ now = (⟨me, ms, base, most, round, since, wait⟩, false)) := hide (if_pos (by show round = _; omega))
    obtain ⟨⟨x0, x1, x2, x3, x4, x5, x6⟩, hf⟩ := seven_cells hp0
    have HP := hide hp0
    have HQ := hide hq0
    clear hp0 hq0 hs hn gb gd gw
    go_upto_region 2 with fail
    have hk5 := Kept.of_setRow w0 (w.heap.size + 1) #[.int .i64 me, .slice A n c, .int .i64 base, .int .i64 most, .int .i64 wait, .int .i64 since, .int .i64 round]
    have hr5 := set_row_at (B := #[.int .i64 me, .slice A n c, .int .i64 base, .int .i64 most, .int .i64 wait, .int .i64 since, .int .i64 round]) HQ.out
    go_wp2_with (first
      | (refine wpList_load_row rfl 26 _ rfl w.heap.size rfl _ _ _ _ HP.out Try.underlying26 rfl (by kernel_rfl) ?_)
      | (refine wpList_store_row rfl 26 _ _ rfl (w.heap.size + 1) #[.int .i64 me, .slice A n c, .int .i64 base, .int .i64 most, .int .i64 wait, .int .i64 since, .int .i64 round] rfl rfl _ _ HQ.out (by kernel_rfl) rfl (by simp; exact ⟨rfl, rfl, rfl, rfl, rfl, rfl, rfl⟩) ?_; generalize w0.setRow (w.heap.size + 1) #[.int .i64 me, .slice A n c, .int .i64 base, .int .i64 most, .int .i64 wait, .int .i64 since, .int .i64 round] = w5 at *))
    refine bodyPost_ret (v := .tuple #[.agg #[.int .i64 me, .slice A n c, .int .i64 base, .int .i64 most, .int .i64 wait, .int .i64 since, .int .i64 round], .bool false]) (results_rtick rfl rfl hr5 rfl) rfl ?_
    exact ⟨by rw [HE.out]; rfl, HB0.out.trans (hk5.below HB0.out.size (fun j hj => by omega))⟩
  have d1 : decide (1099511627776 ≤ round) = false := decide_eq_false h1
  obtain ⟨s, hsd⟩ : ∃ s, s = min since now := ⟨_, rfl⟩
  have hs1 : s ≤ now ∧ -4611686018427387904 ≤ s := by omega
  have HT : Hid (Tm.tick ⟨me, ms, base, most, round, since, wait⟩ now = if now - s < wait then (⟨me, ms, base, most, round, s, wait⟩, false) else (⟨me, ms, base, most, round + 1, now, min (2 * wait) most⟩, ldr ms (round + 1) == me)) := hide (by unfold Tm.tick; rw [if_neg (show ¬ round = 1099511627776 by omega), hsd])
  have HSD := hide hsd
  clear hsd
  obtain ⟨⟨x0, x1, x2, x3, x4, x5, x6⟩, hf⟩ := seven_cells hp0
  have f5 := hf 5
  have HP := hide hp0
  have HQ := hide hq0
  clear hp0 hq0 hf
  go_upto_if 14 with fail
  go_cut [] (fun wx => wx.heap[w.heap.size]? = some (.cells #[.int .i64 me, .slice A n c, .int .i64 base, .int .i64 most, .int .i64 wait, .int .i64 s, .int .i64 round] 26 (0, 0)) ∧ wx.heap[w.heap.size + 1]? = some (.cells #[.int .i64 0, .slice none 0 0, .int .i64 0, .int .i64 0, .int .i64 0, .int .i64 0, .int .i64 0] 26 (0, 0)) ∧ Below w.heap.size w wx)
  case first =>
    by_cases hlt : now < since
    · have hk := (Kept.refl (fun j => j = w.heap.size) w0).setCell (p := ⟨w.heap.size, 5, none⟩) (.inl rfl) (.int .i64 now)
      have e : s = now := by have := HSD.out; omega
      go_wp2_with fail
      go_meet
      refine ⟨?_, (hk.block _ (by have := HZ0.out; omega) (by omega)).trans HQ.out, HB0.out.trans (hk.below HB0.out.size (fun j hj => by omega))⟩
      rw [set_cell_at _ HP.out, e]
      rfl
    · have e : s = since := by have := HSD.out; omega
      go_wp2_with fail
      go_meet
      exact ⟨by rw [e]; exact HP.out, HQ.out, HB0.out⟩
  case rest =>
  obtain ⟨hp1, hq1, hb1⟩ := hcut
  clear x0 x1 x2 x3 x4 x5 x6 f5 HP HQ HB0 HZ0
  obtain ⟨⟨x0, x1, x2, x3, x4, x5, x6⟩, hf⟩ := seven_cells hp1
  have f4 := hf 4
  have f5 := hf 5
  have f6 := hf 6
  have HP := hide hp1
  have HQ := hide hq1
  have HB1 := hide hb1
  clear hp1 hq1 hb1 hf
  have v1 : IntKind.i64.wrap (now - wait) = now - wait := IntWalk.i64_in _ (by omega)
  have d3 : decide (now - wait < now) = true := decide_eq_true (by omega)
  by_cases he : now - s < wait
  · have d2 : decide (now - wait < s) = true := decide_eq_true (by omega)
    have HE : Hid (Tm.tick ⟨me, ms, base, most, round, since, wait⟩ now = (⟨me, ms, base, most, round, s, wait⟩, false)) := hide (by rw [HT.out]; exact if_pos he)
    clear hs hn gb gd gw he hs1
    go_upto_region 7 with fail
    have hk5 := Kept.of_setRow wc (w.heap.size + 1) #[.int .i64 me, .slice A n c, .int .i64 base, .int .i64 most, .int .i64 wait, .int .i64 s, .int .i64 round]
    have hr5 := set_row_at (B := #[.int .i64 me, .slice A n c, .int .i64 base, .int .i64 most, .int .i64 wait, .int .i64 s, .int .i64 round]) HQ.out
    go_wp2_with (first
      | (refine wpList_load_row rfl 26 _ rfl w.heap.size rfl _ _ _ _ HP.out Try.underlying26 rfl (by kernel_rfl) ?_)
      | (refine wpList_store_row rfl 26 _ _ rfl (w.heap.size + 1) #[.int .i64 me, .slice A n c, .int .i64 base, .int .i64 most, .int .i64 wait, .int .i64 s, .int .i64 round] rfl rfl _ _ HQ.out (by kernel_rfl) rfl (by simp; exact ⟨rfl, rfl, rfl, rfl, rfl, rfl, rfl⟩) ?_; generalize wc.setRow (w.heap.size + 1) #[.int .i64 me, .slice A n c, .int .i64 base, .int .i64 most, .int .i64 wait, .int .i64 s, .int .i64 round] = w5 at *))
    refine bodyPost_ret (v := .tuple #[.agg #[.int .i64 me, .slice A n c, .int .i64 base, .int .i64 most, .int .i64 wait, .int .i64 s, .int .i64 round], .bool false]) (results_rtick rfl rfl hr5 rfl) rfl ?_
    exact ⟨by rw [HE.out]; rfl, HB1.out.trans (hk5.below HB1.out.size (fun j hj => by omega))⟩
  · have d2 : decide (now - wait < s) = false := decide_eq_false (by omega)
    obtain ⟨x, hxd⟩ : ∃ x, x = min (2 * wait) most := ⟨_, rfl⟩
    have HE : Hid (Tm.tick ⟨me, ms, base, most, round, since, wait⟩ now = (⟨me, ms, base, most, round + 1, now, x⟩, ldr ms (round + 1) == me)) := hide (by rw [HT.out, hxd]; exact if_neg he)
    have hnr : Hid (nearN (2 * wait) 1 most = x) := hide (by unfold nearN; omega)
    have v2 : IntKind.i64.wrap (round + 1) = round + 1 := IntWalk.i64_in _ (by omega)
    have v3 : IntKind.i64.wrap (2 * wait) = 2 * wait := IntWalk.i64_in _ (by omega)
    have hne := near_any (2 * wait) 1 most (by omega)
    rw [hnr.out] at hne
    have HR : Hid (-9223372036854775808 ≤ round + 1 ∧ round + 1 ≤ 9223372036854775807) := hide (by omega)
    have k6 := (Kept.refl (fun j => j = w.heap.size) wc).setCell (p := ⟨w.heap.size, 6, none⟩) (.inl rfl) (.int .i64 (round + 1))
    have k5 := k6.setCell (p := ⟨w.heap.size, 5, none⟩) (.inl rfl) (.int .i64 now)
    have k4 := k5.setCell (p := ⟨w.heap.size, 4, none⟩) (.inl rfl) (.int .i64 x)
    have hp4 := set_cell_at (i := 4) (.int .i64 x) (set_cell_at (i := 5) (.int .i64 now) (set_cell_at (i := 6) (.int .i64 (round + 1)) HP.out))
    have hp4 : (((wc.setCell ⟨w.heap.size, 6, none⟩ (.int .i64 (round + 1))).setCell ⟨w.heap.size, 5, none⟩ (.int .i64 now)).setCell ⟨w.heap.size, 4, none⟩ (.int .i64 x)).heap[w.heap.size]? = some (.cells #[.int .i64 me, .slice A n c, .int .i64 base, .int .i64 most, .int .i64 x, .int .i64 now, .int .i64 (round + 1)] 26 (0, 0)) := hp4
    have hz4 := (k4.block (w.heap.size + 1) (lt_of_block HQ.out) (by omega)).trans HQ.out
    have hb4 := HB1.out.trans (k4.below HB1.out.size (fun j hj => by omega))
    have HP4' := hide hp4
    have HZ4' := hide hz4
    have HB4' := hide hb4
    clear hs hn gb gd gw he hs1 hxd k6 k5 k4 hp4 hz4 hb4
    go_upto_region 11 with (first
      | (refine (hne _).mono ?_; rintro e _ ⟨rfl, rfl⟩)
      | fail)
    generalize ((wc.setCell ⟨w.heap.size, 6, none⟩ (.int .i64 (round + 1))).setCell ⟨w.heap.size, 5, none⟩ (.int .i64 now)).setCell ⟨w.heap.size, 4, none⟩ (.int .i64 x) = w4 at *
    have HP4 : Hid (w4.drew.heap[w.heap.size]? = some (.cells #[.int .i64 me, .slice A n c, .int .i64 base, .int .i64 most, .int .i64 x, .int .i64 now, .int .i64 (round + 1)] 26 (0, 0))) := HP4'
    have HZ4 : Hid (w4.drew.heap[w.heap.size + 1]? = some (.cells #[.int .i64 0, .slice none 0 0, .int .i64 0, .int .i64 0, .int .i64 0, .int .i64 0, .int .i64 0] 26 (0, 0))) := HZ4'
    have HB4 := HB4'
    have HL := hide (rleader_any A n c B ms (round + 1) w4.drew (HM.out.keep fun b hb => HB4.out.block b (by omega)) ML.out.2 (by have := ML.out.1.2.1; have := ML.out.2; omega) (by have := ML.out.1.1; have := ML.out.2; omega) HR.out.1 HR.out.2)
    clear x0 x1 x2 x3 x4 x5 x6 f4 f5 f6 v1 v2 v3 d1 d2 d3 hne
    refine wp_region_held_drew (S := fun W => W.heap[w.heap.size]? = some (.cells #[.int .i64 me, .slice A n c, .int .i64 base, .int .i64 most, .int .i64 x, .int .i64 now, .int .i64 (round + 1)] 26 (0, 0)) ∧ True) (by kernel_rfl) ⟨HP4.out, trivial⟩ (fun hHeld => ?_)
    refine wpAnyH_take (i := 0) (oi := _) (v := .agg #[.int .i64 me, .slice A n c, .int .i64 base, .int .i64 most, .int .i64 x, .int .i64 now, .int .i64 (round + 1)]) rfl (by kernel_rfl) (by kernel_rfl) (by kernel_rfl) (fun _ _ _ h => h) (Or.inl ⟨by rfl, fun w' hSw => by obtain ⟨⟨x0, x1, x2, x3, x4, x5, x6⟩, _⟩ := seven_cells hSw.1; go_simp⟩) hHeld ?_
    (try simp only [Act.put, List.setIfInBounds_toArray, List.set_cons_zero, List.set_cons_succ, List.getElem_toArray, List.getElem_cons_zero, List.getElem_cons_succ])
    refine wpAnyH_take (i := 1) (oi := _) (v := .pointer (some ⟨w.heap.size, 1, none⟩)) rfl (by kernel_rfl) (by kernel_rfl) (by kernel_rfl) (fun _ _ _ h => h) (Or.inl ⟨by rfl, fun w' hSw => by obtain ⟨⟨x0, x1, x2, x3, x4, x5, x6⟩, _⟩ := seven_cells hSw.1; go_simp⟩) hHeld ?_
    (try simp only [Act.put, List.setIfInBounds_toArray, List.set_cons_zero, List.set_cons_succ, List.getElem_toArray, List.getElem_cons_zero, List.getElem_cons_succ])
    refine wpAnyH_take (i := 2) (oi := _) (v := .slice A n c) rfl (by kernel_rfl) (by kernel_rfl) (by kernel_rfl) (fun _ _ _ h => h) (Or.inl ⟨by rfl, fun w' hSw => by obtain ⟨⟨x0, x1, x2, x3, x4, x5, x6⟩, _⟩ := seven_cells hSw.1; go_simp⟩) hHeld ?_
    (try simp only [Act.put, List.setIfInBounds_toArray, List.set_cons_zero, List.set_cons_succ, List.getElem_toArray, List.getElem_cons_zero, List.getElem_cons_succ])
    refine wpAnyH_take (i := 3) (oi := _) (v := .pointer (some ⟨w.heap.size, 6, none⟩)) rfl (by kernel_rfl) (by kernel_rfl) (by kernel_rfl) (fun _ _ _ h => h) (Or.inl ⟨by rfl, fun w' hSw => by obtain ⟨⟨x0, x1, x2, x3, x4, x5, x6⟩, _⟩ := seven_cells hSw.1; go_simp⟩) hHeld ?_
    (try simp only [Act.put, List.setIfInBounds_toArray, List.set_cons_zero, List.set_cons_succ, List.getElem_toArray, List.getElem_cons_zero, List.getElem_cons_succ])
    refine wpAnyH_take (i := 4) (oi := _) (v := .int .i64 (round + 1)) rfl (by kernel_rfl) (by kernel_rfl) (by kernel_rfl) (fun _ _ _ h => h) (Or.inl ⟨by rfl, fun w' hSw => by obtain ⟨⟨x0, x1, x2, x3, x4, x5, x6⟩, _⟩ := seven_cells hSw.1; go_simp⟩) hHeld ?_
    (try simp only [Act.put, List.setIfInBounds_toArray, List.set_cons_zero, List.set_cons_succ, List.getElem_toArray, List.getElem_cons_zero, List.getElem_cons_succ])
    refine wpAnyH_take (i := 6) (oi := _) (v := .pointer (some ⟨w.heap.size, 0, none⟩)) rfl (by kernel_rfl) (by kernel_rfl) (by kernel_rfl) (fun _ _ _ h => h) (Or.inl ⟨by rfl, fun w' hSw => by obtain ⟨⟨x0, x1, x2, x3, x4, x5, x6⟩, _⟩ := seven_cells hSw.1; go_simp⟩) hHeld ?_
    (try simp only [Act.put, List.setIfInBounds_toArray, List.set_cons_zero, List.set_cons_succ, List.getElem_toArray, List.getElem_cons_zero, List.getElem_cons_succ])
    refine wpAnyH_take (i := 7) (oi := _) (v := .int .i64 me) rfl (by kernel_rfl) (by kernel_rfl) (by kernel_rfl) (fun _ _ _ h => h) (Or.inl ⟨by rfl, fun w' hSw => by obtain ⟨⟨x0, x1, x2, x3, x4, x5, x6⟩, _⟩ := seven_cells hSw.1; go_simp⟩) hHeld ?_
    (try simp only [Act.put, List.setIfInBounds_toArray, List.set_cons_zero, List.set_cons_succ, List.getElem_toArray, List.getElem_cons_zero, List.getElem_cons_succ])
    refine wpAnyH_ready (rs := [5]) (by kernel_rfl) (by simp) ?_
    refine AllReadyH.cons (o := _) rfl (fun K hK => ?_) AllReadyH.nil
    (try simp only [List.getElem_toArray, List.getElem_cons_zero, List.getElem_cons_succ])
    go_simp
    refine HL.out.mono ?_
    rintro e _ ⟨rfl, rfl⟩
    go_wp2_with fail
    refine hK.out _ _ ⟨HP4.out, trivial⟩ (fun hHeld => ?_)
    clear hK
    (try simp only [Act.put, List.setIfInBounds_toArray, List.set_cons_zero, List.set_cons_succ, List.getElem_toArray, List.getElem_cons_zero, List.getElem_cons_succ])
    refine wpAnyH_take (i := 8) (oi := _) (v := .bool (ldr ms (round + 1) == me)) rfl (by kernel_rfl) (by kernel_rfl) (by kernel_rfl) (fun _ _ _ h => h) (Or.inl ⟨by rfl, fun w' hSw => by go_simp⟩) hHeld ?_
    (try simp only [Act.put, List.setIfInBounds_toArray, List.set_cons_zero, List.set_cons_succ, List.getElem_toArray, List.getElem_cons_zero, List.getElem_cons_succ])
    refine wpAnyH_ready (rs := [9]) (by kernel_rfl) (by simp) ?_
    refine AllReadyH.cons (o := _) rfl (fun K hK => ?_) AllReadyH.nil
    (try simp only [List.getElem_toArray, List.getElem_cons_zero, List.getElem_cons_succ])
    rw [if_pos (by rfl)]
    refine wp_store_row 26 (.tmp 4) (.tmp 47) rfl (w.heap.size + 1) #[.int .i64 me, .slice A n c, .int .i64 base, .int .i64 most, .int .i64 x, .int .i64 now, .int .i64 (round + 1)] rfl rfl _ _ HZ4.out (by kernel_rfl) rfl (by simp; exact ⟨rfl, rfl, rfl, rfl, rfl, rfl, rfl⟩) ?_
    have hk5 := Kept.of_setRow w4.drew (w.heap.size + 1) #[.int .i64 me, .slice A n c, .int .i64 base, .int .i64 most, .int .i64 x, .int .i64 now, .int .i64 (round + 1)]
    have hr5 := set_row_at (B := #[.int .i64 me, .slice A n c, .int .i64 base, .int .i64 most, .int .i64 x, .int .i64 now, .int .i64 (round + 1)]) HZ4.out
    have HB5 := hide (HB4.out.drew.trans (hk5.below HB4.out.size (fun j hj => by omega)))
    generalize w4.drew.setRow (w.heap.size + 1) #[.int .i64 me, .slice A n c, .int .i64 base, .int .i64 most, .int .i64 x, .int .i64 now, .int .i64 (round + 1)] = w5 at *
    refine hK.out _ _ ⟨(hk5.block w.heap.size (lt_of_block HP4.out) (by omega)).trans HP4.out, trivial⟩ (fun hHeld => ?_)
    clear hK
    (try simp only [Act.put, List.setIfInBounds_toArray, List.set_cons_zero, List.set_cons_succ, List.getElem_toArray, List.getElem_cons_zero, List.getElem_cons_succ])
    refine wpAnyH_take (i := 10) (oi := _) (v := .bool (ldr ms (round + 1) == me)) rfl (by kernel_rfl) (by kernel_rfl) (by kernel_rfl) (fun _ _ _ h => h) (Or.inl ⟨by rfl, fun w' hSw => by go_simp⟩) hHeld ?_
    (try simp only [Act.put, List.setIfInBounds_toArray, List.set_cons_zero, List.set_cons_succ, List.getElem_toArray, List.getElem_cons_zero, List.getElem_cons_succ])
    refine wpAnyH_done (by kernel_rfl) ?_ _
    go_wp2_with fail
    refine bodyPost_ret (v := .tuple #[.agg #[.int .i64 me, .slice A n c, .int .i64 base, .int .i64 most, .int .i64 x, .int .i64 now, .int .i64 (round + 1)], .bool (ldr ms (round + 1) == me)]) (results_rtick rfl rfl hr5 rfl) rfl ?_
    exact ⟨by rw [HE.out]; rfl, HB5.out⟩
end Go.Proofs.Ytgdncmkhcdmjoaa
