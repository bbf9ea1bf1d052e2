/-
  The reference of package lease: NewGranter, At, Grant. No condition but that times are numbers within 2^61.
-/
import Derived.Test.YtgdncmkhcdmjoaaLeaseE
set_option linter.unusedSimpArgs false
set_option linter.unusedVariables false
namespace Go.Proofs.Ytgdncmkhcdmjoaa
open Go.RowKit
def Gr.rc (q : Gr) : Array Value := #[.int .i64 q.len, .int .i64 q.since, .int .i64 q.r, .int .i64 q.n, .bool q.st]
theorem Gr.rc_one (q : Gr) : q.rc.all (·.oneCell') = true := by simp [Gr.rc, Value.oneCell']
theorem Gr.rc_size (q : Gr) : (Try.prog.info? 48).map (·.size) = some q.rc.size := by kernel_rfl
theorem gone_cell {tmps : Array Value} {w : World} {g : Nat} {A : Array Value} {t : TypeId} (h2 : tmps.getD 6 undef = .pointer (some ⟨g, 0, none⟩)) (hA : w.heap[g]? = some (.cells A t (0, 0))) (sA : A.size = 5) :
    (results Try.f23 tmps).run Try.prog w = .ok (.agg A) w := by
  have h2' : tmps[6]?.getD undef = .pointer (some ⟨g, 0, none⟩) := by simpa using h2
  have i1 : (Try.prog.info? 48).map (·.size) = some A.size := by rw [sA]; kernel_rfl
  have e1 := run_loadVar_row (P := Try.prog) w g t 48 A (0, 0) _ hA Try.underlying48 rfl i1
  simp [results, Try.results23, h2', asAddr, e1]
theorem gat_cell {tmps : Array Value} {w : World} {g : Nat} {A : Array Value} {t : TypeId} (h2 : tmps.getD 4 undef = .pointer (some ⟨g, 0, none⟩)) (hA : w.heap[g]? = some (.cells A t (0, 0))) (sA : A.size = 5) :
    (results Try.f24 tmps).run Try.prog w = .ok (.agg A) w := by
  have h2' : tmps[4]?.getD undef = .pointer (some ⟨g, 0, none⟩) := by simpa using h2
  have i1 : (Try.prog.info? 48).map (·.size) = some A.size := by rw [sA]; kernel_rfl
  have e1 := run_loadVar_row (P := Try.prog) w g t 48 A (0, 0) _ hA Try.underlying48 rfl i1
  simp [results, Try.results24, h2', asAddr, e1]
theorem ggr_cell {tmps : Array Value} {w : World} {g : Nat} {A : Array Value} {t : TypeId} {v : Value} (h2 : tmps.getD 6 undef = .pointer (some ⟨g, 0, none⟩)) (h3 : tmps.getD 7 undef = v) (hA : w.heap[g]? = some (.cells A t (0, 0))) (sA : A.size = 5) :
    (results Try.f26 tmps).run Try.prog w = .ok (.tuple #[.agg A, v]) w := by
  have h2' : tmps[6]?.getD undef = .pointer (some ⟨g, 0, none⟩) := by simpa using h2
  have h3' : tmps[7]?.getD undef = v := by simpa using h3
  have i1 : (Try.prog.info? 48).map (·.size) = some A.size := by rw [sA]; kernel_rfl
  have e1 := run_loadVar_row (P := Try.prog) w g t 48 A (0, 0) _ hA Try.underlying48 rfl i1
  simp [results, Try.results26, h2', h3', asAddr, e1]
  try rfl
/-- What the reference's calls do. -/
def Gr.rnew (len now : Int) (anew : Bool) : Gr := ⟨nearN len 0 1048576, anew && decide (0 < nearN len 0 1048576), 0, 0, now⟩
def Gr.rat (q : Gr) (now : Int) : Gr :=
  if q.st = true then (if now < q.since then { q with since := now, st := decide (0 < q.len) } else { q with st := decide (now < q.since + q.len) }) else q
def Gr.rgrant (q : Gr) (a b now : Int) : Gr × Bool :=
  if q.len = 0 ∨ valB a b = false ∨ ((q.rat now).st && !sameBal (q.rat now).r (q.rat now).n a b) = true then (q.rat now, false) else (⟨q.len, true, a, b, now⟩, true)
theorem grnew_any (len now : Int) (anew : Bool) (w : World) : Calls Try.prog 23 #[.int .i64 len, .int .i64 now, .bool anew] w fun e w' => e = .returned (.agg (Gr.rnew len now anew).rc) ∧ Below w.heap.size w w' := by
  have hq0 := heap_alloc_new w (.cells #[.int .i64 0, .int .i64 0, .int .i64 0, .int .i64 0, .bool false] 48)
  have hb0 : Below w.heap.size w (w.alloc (.cells #[.int .i64 0, .int .i64 0, .int .i64 0, .int .i64 0, .bool false] 48)) := (Below.refl _ _).alloc (Nat.le_refl _) _
  obtain ⟨L, hL⟩ : ∃ L, nearN len 0 1048576 = L := ⟨_, rfl⟩
  obtain ⟨pb, hpb⟩ : ∃ pb, decide (0 < L) = pb := ⟨_, rfl⟩
  have HE : Hid (Gr.rnew len now anew = ⟨L, anew && pb, 0, 0, now⟩) := hide (by unfold Gr.rnew; rw [hL, hpb])
  have hL1 : (len < 0 ∧ L = 0) ∨ (0 ≤ len ∧ 1048576 < len ∧ L = 1048576) ∨ (0 ≤ len ∧ len ≤ 1048576 ∧ L = len) := by unfold nearN at hL; omega
  clear hL
  go_enter Try.func23, Try.ntmps23
  go_upto_region 1 with fail
  generalize w.alloc (.cells #[.int .i64 0, .int .i64 0, .int .i64 0, .int .i64 0, .bool false] 48) = w0 at *
  have hk5 := Kept.of_setRow w0 w.heap.size #[.int .i64 L, .int .i64 now, .int .i64 0, .int .i64 0, .bool (anew && pb)]
  have hr5 := set_row_at (B := #[.int .i64 L, .int .i64 now, .int .i64 0, .int .i64 0, .bool (anew && pb)]) hq0
  have HQ := hide hq0
  have HB := hide hb0
  have HK := hide hk5
  have HR := hide hr5
  clear hq0 hb0 hk5 hr5
  cases anew
  · have HR : Hid ((w0.setRow w.heap.size #[.int .i64 L, .int .i64 now, .int .i64 0, .int .i64 0, .bool false]).heap[w.heap.size]? = some (.cells #[.int .i64 L, .int .i64 now, .int .i64 0, .int .i64 0, .bool false] 48 (0, 0))) := HR
    have HK : Hid (Kept (fun k => k = w.heap.size) w0 (w0.setRow w.heap.size #[.int .i64 L, .int .i64 now, .int .i64 0, .int .i64 0, .bool false])) := HK
    rcases hL1 with ⟨h1, rfl⟩ | ⟨h1, h2, rfl⟩ | ⟨h1, h2, rfl⟩
    · have e : pb = false := by rw [← hpb]; rfl
      subst e
      clear hpb
      go_wp2_with (refine wpList_store_row rfl 48 _ _ rfl w.heap.size #[.int .i64 0, .int .i64 now, .int .i64 0, .int .i64 0, .bool false] rfl rfl _ _ HQ.out (by kernel_rfl) rfl (by simp [Value.oneCell']) ?_; generalize w0.setRow w.heap.size #[.int .i64 0, .int .i64 now, .int .i64 0, .int .i64 0, .bool false] = w9 at *)
      refine bodyPost_ret (v := .agg #[.int .i64 0, .int .i64 now, .int .i64 0, .int .i64 0, .bool false]) (gone_cell rfl HR.out rfl) rfl ?_
      exact ⟨by rw [HE.out]; rfl, HB.out.trans (HK.out.below HB.out.size (fun j hj => by omega))⟩
    · have e : pb = true := by rw [← hpb]; rfl
      subst e
      clear hpb
      have d1 : decide (len < 0) = false := decide_eq_false (by omega)
      go_wp2_with (refine wpList_store_row rfl 48 _ _ rfl w.heap.size #[.int .i64 1048576, .int .i64 now, .int .i64 0, .int .i64 0, .bool false] rfl rfl _ _ HQ.out (by kernel_rfl) rfl (by simp [Value.oneCell']) ?_; generalize w0.setRow w.heap.size #[.int .i64 1048576, .int .i64 now, .int .i64 0, .int .i64 0, .bool false] = w9 at *)
      refine bodyPost_ret (v := .agg #[.int .i64 1048576, .int .i64 now, .int .i64 0, .int .i64 0, .bool false]) (gone_cell rfl HR.out rfl) rfl ?_
      exact ⟨by rw [HE.out]; rfl, HB.out.trans (HK.out.below HB.out.size (fun j hj => by omega))⟩
    · have d1 : decide (L < 0) = false := decide_eq_false (by omega)
      have d2 : decide (1048576 < L) = false := decide_eq_false (by omega)
      go_wp2_with (refine wpList_store_row rfl 48 _ _ rfl w.heap.size #[.int .i64 L, .int .i64 now, .int .i64 0, .int .i64 0, .bool false] rfl rfl _ _ HQ.out (by kernel_rfl) rfl (by simp [Value.oneCell']) ?_; generalize w0.setRow w.heap.size #[.int .i64 L, .int .i64 now, .int .i64 0, .int .i64 0, .bool false] = w9 at *)
      refine bodyPost_ret (v := .agg #[.int .i64 L, .int .i64 now, .int .i64 0, .int .i64 0, .bool false]) (gone_cell rfl HR.out rfl) rfl ?_
      exact ⟨by rw [HE.out]; rfl, HB.out.trans (HK.out.below HB.out.size (fun j hj => by omega))⟩
  · have HR : Hid ((w0.setRow w.heap.size #[.int .i64 L, .int .i64 now, .int .i64 0, .int .i64 0, .bool pb]).heap[w.heap.size]? = some (.cells #[.int .i64 L, .int .i64 now, .int .i64 0, .int .i64 0, .bool pb] 48 (0, 0))) := HR
    have HK : Hid (Kept (fun k => k = w.heap.size) w0 (w0.setRow w.heap.size #[.int .i64 L, .int .i64 now, .int .i64 0, .int .i64 0, .bool pb])) := HK
    rcases hL1 with ⟨h1, rfl⟩ | ⟨h1, h2, rfl⟩ | ⟨h1, h2, rfl⟩
    · have e : pb = false := by rw [← hpb]; rfl
      subst e
      clear hpb
      go_wp2_with (refine wpList_store_row rfl 48 _ _ rfl w.heap.size #[.int .i64 0, .int .i64 now, .int .i64 0, .int .i64 0, .bool false] rfl rfl _ _ HQ.out (by kernel_rfl) rfl (by simp [Value.oneCell']) ?_; generalize w0.setRow w.heap.size #[.int .i64 0, .int .i64 now, .int .i64 0, .int .i64 0, .bool false] = w9 at *)
      refine bodyPost_ret (v := .agg #[.int .i64 0, .int .i64 now, .int .i64 0, .int .i64 0, .bool false]) (gone_cell rfl HR.out rfl) rfl ?_
      exact ⟨by rw [HE.out]; rfl, HB.out.trans (HK.out.below HB.out.size (fun j hj => by omega))⟩
    · have e : pb = true := by rw [← hpb]; rfl
      subst e
      clear hpb
      have d1 : decide (len < 0) = false := decide_eq_false (by omega)
      go_wp2_with (refine wpList_store_row rfl 48 _ _ rfl w.heap.size #[.int .i64 1048576, .int .i64 now, .int .i64 0, .int .i64 0, .bool true] rfl rfl _ _ HQ.out (by kernel_rfl) rfl (by simp [Value.oneCell']) ?_; generalize w0.setRow w.heap.size #[.int .i64 1048576, .int .i64 now, .int .i64 0, .int .i64 0, .bool true] = w9 at *)
      refine bodyPost_ret (v := .agg #[.int .i64 1048576, .int .i64 now, .int .i64 0, .int .i64 0, .bool true]) (gone_cell rfl HR.out rfl) rfl ?_
      exact ⟨by rw [HE.out]; rfl, HB.out.trans (HK.out.below HB.out.size (fun j hj => by omega))⟩
    · have d1 : decide (L < 0) = false := decide_eq_false (by omega)
      have d2 : decide (1048576 < L) = false := decide_eq_false (by omega)
      go_wp2_with (refine wpList_store_row rfl 48 _ _ rfl w.heap.size #[.int .i64 L, .int .i64 now, .int .i64 0, .int .i64 0, .bool pb] rfl rfl _ _ HQ.out (by kernel_rfl) rfl (by simp [Value.oneCell']) ?_; generalize w0.setRow w.heap.size #[.int .i64 L, .int .i64 now, .int .i64 0, .int .i64 0, .bool pb] = w9 at *)
      refine bodyPost_ret (v := .agg #[.int .i64 L, .int .i64 now, .int .i64 0, .int .i64 0, .bool pb]) (gone_cell rfl HR.out rfl) rfl ?_
      exact ⟨by rw [HE.out]; rfl, HB.out.trans (HK.out.below HB.out.size (fun j hj => by omega))⟩
def RAtEnds (q : Gr) (now : Int) (w : World) (e : Ending) (w' : World) : Prop := e = .returned (.agg (q.rat now).rc) ∧ Below w.heap.size w w'
set_option maxHeartbeats 800000 in
set_option maxRecDepth 20000 in
theorem grat_any (len r n since now : Int) (st : Bool) (w : World) (hl : 0 ≤ len ∧ len ≤ 1048576) (hs : -2305843009213693952 ≤ since ∧ since ≤ 2305843009213693952) (hn : -2305843009213693952 ≤ now ∧ now ≤ 2305843009213693952) :
    Calls Try.prog 24 #[.agg #[.int .i64 len, .int .i64 since, .int .i64 r, .int .i64 n, .bool st], .int .i64 now] w (RAtEnds ⟨len, st, r, n, since⟩ now w) := by
  obtain ⟨w0, hw0, hz0, hp0, hq0, hb0⟩ : ∃ w0, (w.alloc (.cells #[.int .i64 len, .int .i64 since, .int .i64 r, .int .i64 n, .bool st] 48)).alloc (.cells #[.int .i64 0, .int .i64 0, .int .i64 0, .int .i64 0, .bool false] 48) = w0 ∧ w0.heap.size = w.heap.size + 2 ∧ w0.heap[w.heap.size]? = some (.cells #[.int .i64 len, .int .i64 since, .int .i64 r, .int .i64 n, .bool st] 48 (0, 0)) ∧ w0.heap[w.heap.size + 1]? = some (.cells #[.int .i64 0, .int .i64 0, .int .i64 0, .int .i64 0, .bool false] 48 (0, 0)) ∧ Below w.heap.size w w0 := by
    refine ⟨_, rfl, by simp, (Below.heap_alloc _ _ _ (by simp)).trans (heap_alloc_new w _), ?_, by go_grown⟩
    have := heap_alloc_new (w.alloc (.cells #[.int .i64 len, .int .i64 since, .int .i64 r, .int .i64 n, .bool st] 48)) (.cells #[.int .i64 0, .int .i64 0, .int .i64 0, .int .i64 0, .bool false] 48)
    simpa using this
  have HQ := hide hq0
  have HB0 := hide hb0
  have HP0 := hide hp0
  obtain ⟨c1, f1⟩ := row_cells hp0 1
  obtain ⟨c0, _⟩ := row_cells hp0 0
  obtain ⟨c4, f4⟩ := row_cells hp0 4
  simp only [List.getElem?_toArray, List.getElem?_cons_succ, List.getElem?_cons_zero] at c0 c1 c4
  clear hq0 hb0 hz0 hp0
  go_enter Try.func24, Try.ntmps24
  cases st
  · have HE : Hid ((⟨len, false, r, n, since⟩ : Gr).rat now = ⟨len, false, r, n, since⟩) := hide (by unfold Gr.rat; simp)
    cases dn : decide (now < since)
    · go_upto_region 5 with fail
      have hk9 := Kept.of_setRow w0 (w.heap.size + 1) #[.int .i64 len, .int .i64 since, .int .i64 r, .int .i64 n, .bool false]
      have hr9 := set_row_at (B := #[.int .i64 len, .int .i64 since, .int .i64 r, .int .i64 n, .bool false]) HQ.out
      go_wp2_with (first | (refine wpList_load_row rfl 48 _ rfl w.heap.size rfl _ _ _ _ HP0.out Try.underlying48 rfl (by kernel_rfl) ?_) | (refine wpList_store_row rfl 48 _ _ rfl (w.heap.size + 1) #[.int .i64 len, .int .i64 since, .int .i64 r, .int .i64 n, .bool false] rfl rfl _ _ HQ.out (by kernel_rfl) rfl (by simp [Value.oneCell']) ?_; generalize w0.setRow (w.heap.size + 1) #[.int .i64 len, .int .i64 since, .int .i64 r, .int .i64 n, .bool false] = w9 at *))
      refine bodyPost_ret (v := .agg #[.int .i64 len, .int .i64 since, .int .i64 r, .int .i64 n, .bool false]) (gat_cell rfl hr9 rfl) rfl ?_
      exact ⟨by rw [HE.out]; rfl, HB0.out.trans (hk9.below HB0.out.size (fun j hj => by omega))⟩
    · go_upto_region 5 with fail
      have hk9 := Kept.of_setRow w0 (w.heap.size + 1) #[.int .i64 len, .int .i64 since, .int .i64 r, .int .i64 n, .bool false]
      have hr9 := set_row_at (B := #[.int .i64 len, .int .i64 since, .int .i64 r, .int .i64 n, .bool false]) HQ.out
      go_wp2_with (first | (refine wpList_load_row rfl 48 _ rfl w.heap.size rfl _ _ _ _ HP0.out Try.underlying48 rfl (by kernel_rfl) ?_) | (refine wpList_store_row rfl 48 _ _ rfl (w.heap.size + 1) #[.int .i64 len, .int .i64 since, .int .i64 r, .int .i64 n, .bool false] rfl rfl _ _ HQ.out (by kernel_rfl) rfl (by simp [Value.oneCell']) ?_; generalize w0.setRow (w.heap.size + 1) #[.int .i64 len, .int .i64 since, .int .i64 r, .int .i64 n, .bool false] = w9 at *))
      refine bodyPost_ret (v := .agg #[.int .i64 len, .int .i64 since, .int .i64 r, .int .i64 n, .bool false]) (gat_cell rfl hr9 rfl) rfl ?_
      exact ⟨by rw [HE.out]; rfl, HB0.out.trans (hk9.below HB0.out.size (fun j hj => by omega))⟩
  · by_cases hlt : now < since
    · have d1 : decide (now < since) = true := decide_eq_true hlt
      have v1 : IntKind.i64.wrap (now + len) = now + len := IntWalk.i64_in _ (by omega)
      have hk1 := (Kept.refl (fun j => j = w.heap.size) w0).setCell (p := ⟨w.heap.size, 1, none⟩) (.inl rfl) (.int .i64 now)
      have hp1 : (w0.setCell ⟨w.heap.size, 1, none⟩ (.int .i64 now)).heap[w.heap.size]? = some (.cells #[.int .i64 len, .int .i64 now, .int .i64 r, .int .i64 n, .bool true] 48 (0, 0)) := set_cell_at _ HP0.out
      have HQ1 := hide ((hk1.block (w.heap.size + 1) (lt_of_block HQ.out) (by omega)).trans HQ.out)
      have HB1 := hide (HB0.out.trans (hk1.below HB0.out.size (fun j hj => by omega)))
      clear hk1
      go_upto_region 3 with fail
      generalize w0.setCell ⟨w.heap.size, 1, none⟩ (.int .i64 now) = w1 at *
      clear c0 c1 c4 f1 f4
      obtain ⟨c1, f1⟩ := row_cells hp1 1
      obtain ⟨c0, _⟩ := row_cells hp1 0
      obtain ⟨c4, f4⟩ := row_cells hp1 4
      simp only [List.getElem?_toArray, List.getElem?_cons_succ, List.getElem?_cons_zero] at c0 c1 c4
      have HP1 := hide hp1
      clear hp1
      by_cases hl0 : now + len ≤ now
      · have d2 : decide (now + len ≤ now) = true := decide_eq_true hl0
        have HE : Hid ((⟨len, true, r, n, since⟩ : Gr).rat now = ⟨len, false, r, n, now⟩) := hide (by unfold Gr.rat; simp only [if_true, if_pos hlt]; rw [decide_eq_false (by omega)])
        have hk4 := (Kept.refl (fun j => j = w.heap.size) w1).setCell (p := ⟨w.heap.size, 4, none⟩) (.inl rfl) (.bool false)
        have hp4 : (w1.setCell ⟨w.heap.size, 4, none⟩ (.bool false)).heap[w.heap.size]? = some (.cells #[.int .i64 len, .int .i64 now, .int .i64 r, .int .i64 n, .bool false] 48 (0, 0)) := set_cell_at _ HP1.out
        have HQ4 := hide ((hk4.block (w.heap.size + 1) (lt_of_block HQ1.out) (by omega)).trans HQ1.out)
        have HB4 := hide (HB1.out.trans (hk4.below HB1.out.size (fun j hj => by omega)))
        have HP4 := hide hp4
        clear hk4 hp4
        go_upto_region 5 with fail
        generalize w1.setCell ⟨w.heap.size, 4, none⟩ (.bool false) = w4 at *
        have hk9 := Kept.of_setRow w4 (w.heap.size + 1) #[.int .i64 len, .int .i64 now, .int .i64 r, .int .i64 n, .bool false]
        have hr9 := set_row_at (B := #[.int .i64 len, .int .i64 now, .int .i64 r, .int .i64 n, .bool false]) HQ4.out
        go_wp2_with (first | (refine wpList_load_row rfl 48 _ rfl w.heap.size rfl _ _ _ _ HP4.out Try.underlying48 rfl (by kernel_rfl) ?_) | (refine wpList_store_row rfl 48 _ _ rfl (w.heap.size + 1) #[.int .i64 len, .int .i64 now, .int .i64 r, .int .i64 n, .bool false] rfl rfl _ _ HQ4.out (by kernel_rfl) rfl (by simp [Value.oneCell']) ?_; generalize w4.setRow (w.heap.size + 1) #[.int .i64 len, .int .i64 now, .int .i64 r, .int .i64 n, .bool false] = w9 at *))
        refine bodyPost_ret (v := .agg #[.int .i64 len, .int .i64 now, .int .i64 r, .int .i64 n, .bool false]) (gat_cell rfl hr9 rfl) rfl ?_
        exact ⟨by rw [HE.out]; rfl, HB4.out.trans (hk9.below HB4.out.size (fun j hj => by omega))⟩
      · have d2 : decide (now + len ≤ now) = false := decide_eq_false hl0
        have HE : Hid ((⟨len, true, r, n, since⟩ : Gr).rat now = ⟨len, true, r, n, now⟩) := hide (by unfold Gr.rat; simp only [if_true, if_pos hlt]; rw [decide_eq_true (by omega)])
        go_upto_region 5 with fail
        have hk9 := Kept.of_setRow w1 (w.heap.size + 1) #[.int .i64 len, .int .i64 now, .int .i64 r, .int .i64 n, .bool true]
        have hr9 := set_row_at (B := #[.int .i64 len, .int .i64 now, .int .i64 r, .int .i64 n, .bool true]) HQ1.out
        go_wp2_with (first | (refine wpList_load_row rfl 48 _ rfl w.heap.size rfl _ _ _ _ HP1.out Try.underlying48 rfl (by kernel_rfl) ?_) | (refine wpList_store_row rfl 48 _ _ rfl (w.heap.size + 1) #[.int .i64 len, .int .i64 now, .int .i64 r, .int .i64 n, .bool true] rfl rfl _ _ HQ1.out (by kernel_rfl) rfl (by simp [Value.oneCell']) ?_; generalize w1.setRow (w.heap.size + 1) #[.int .i64 len, .int .i64 now, .int .i64 r, .int .i64 n, .bool true] = w9 at *))
        refine bodyPost_ret (v := .agg #[.int .i64 len, .int .i64 now, .int .i64 r, .int .i64 n, .bool true]) (gat_cell rfl hr9 rfl) rfl ?_
        exact ⟨by rw [HE.out]; rfl, HB1.out.trans (hk9.below HB1.out.size (fun j hj => by omega))⟩
    · have d1 : decide (now < since) = false := decide_eq_false hlt
      have v1 : IntKind.i64.wrap (since + len) = since + len := IntWalk.i64_in _ (by omega)
      by_cases hl0 : since + len ≤ now
      · have d2 : decide (since + len ≤ now) = true := decide_eq_true hl0
        have HE : Hid ((⟨len, true, r, n, since⟩ : Gr).rat now = ⟨len, false, r, n, since⟩) := hide (by unfold Gr.rat; simp only [if_true, if_neg hlt]; rw [decide_eq_false (by omega)])
        have hk4 := (Kept.refl (fun j => j = w.heap.size) w0).setCell (p := ⟨w.heap.size, 4, none⟩) (.inl rfl) (.bool false)
        have hp4 : (w0.setCell ⟨w.heap.size, 4, none⟩ (.bool false)).heap[w.heap.size]? = some (.cells #[.int .i64 len, .int .i64 since, .int .i64 r, .int .i64 n, .bool false] 48 (0, 0)) := set_cell_at _ HP0.out
        have HQ4 := hide ((hk4.block (w.heap.size + 1) (lt_of_block HQ.out) (by omega)).trans HQ.out)
        have HB4 := hide (HB0.out.trans (hk4.below HB0.out.size (fun j hj => by omega)))
        have HP4 := hide hp4
        clear hk4 hp4
        go_upto_region 5 with fail
        generalize w0.setCell ⟨w.heap.size, 4, none⟩ (.bool false) = w4 at *
        have hk9 := Kept.of_setRow w4 (w.heap.size + 1) #[.int .i64 len, .int .i64 since, .int .i64 r, .int .i64 n, .bool false]
        have hr9 := set_row_at (B := #[.int .i64 len, .int .i64 since, .int .i64 r, .int .i64 n, .bool false]) HQ4.out
        go_wp2_with (first | (refine wpList_load_row rfl 48 _ rfl w.heap.size rfl _ _ _ _ HP4.out Try.underlying48 rfl (by kernel_rfl) ?_) | (refine wpList_store_row rfl 48 _ _ rfl (w.heap.size + 1) #[.int .i64 len, .int .i64 since, .int .i64 r, .int .i64 n, .bool false] rfl rfl _ _ HQ4.out (by kernel_rfl) rfl (by simp [Value.oneCell']) ?_; generalize w4.setRow (w.heap.size + 1) #[.int .i64 len, .int .i64 since, .int .i64 r, .int .i64 n, .bool false] = w9 at *))
        refine bodyPost_ret (v := .agg #[.int .i64 len, .int .i64 since, .int .i64 r, .int .i64 n, .bool false]) (gat_cell rfl hr9 rfl) rfl ?_
        exact ⟨by rw [HE.out]; rfl, HB4.out.trans (hk9.below HB4.out.size (fun j hj => by omega))⟩
      · have d2 : decide (since + len ≤ now) = false := decide_eq_false hl0
        have HE : Hid ((⟨len, true, r, n, since⟩ : Gr).rat now = ⟨len, true, r, n, since⟩) := hide (by unfold Gr.rat; simp only [if_true, if_neg hlt]; rw [decide_eq_true (by omega)])
        go_upto_region 5 with fail
        have hk9 := Kept.of_setRow w0 (w.heap.size + 1) #[.int .i64 len, .int .i64 since, .int .i64 r, .int .i64 n, .bool true]
        have hr9 := set_row_at (B := #[.int .i64 len, .int .i64 since, .int .i64 r, .int .i64 n, .bool true]) HQ.out
        go_wp2_with (first | (refine wpList_load_row rfl 48 _ rfl w.heap.size rfl _ _ _ _ HP0.out Try.underlying48 rfl (by kernel_rfl) ?_) | (refine wpList_store_row rfl 48 _ _ rfl (w.heap.size + 1) #[.int .i64 len, .int .i64 since, .int .i64 r, .int .i64 n, .bool true] rfl rfl _ _ HQ.out (by kernel_rfl) rfl (by simp [Value.oneCell']) ?_; generalize w0.setRow (w.heap.size + 1) #[.int .i64 len, .int .i64 since, .int .i64 r, .int .i64 n, .bool true] = w9 at *))
        refine bodyPost_ret (v := .agg #[.int .i64 len, .int .i64 since, .int .i64 r, .int .i64 n, .bool true]) (gat_cell rfl hr9 rfl) rfl ?_
        exact ⟨by rw [HE.out]; rfl, HB0.out.trans (hk9.below HB0.out.size (fun j hj => by omega))⟩
end Go.Proofs.Ytgdncmkhcdmjoaa
