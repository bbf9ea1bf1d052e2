/-
  The walk of ElectionRuns. No condition but the reach of what is read.
-/
import Derived.Test.YtgdncmkhcdmjoaaElectF
import Derived.Deep.CutBlock
set_option linter.unusedSimpArgs false
set_option linter.unusedVariables false
namespace Go.Proofs.Ytgdncmkhcdmjoaa
open Go.RowKit

/-- A step over a timer. -/
structure Top where
  K : Int
  M : Int
  N : Int
def Top.cells (q : Top) : List Value := [.int .i64 q.K, .int .i64 q.M, .int .i64 q.N]
/-- A slice of steps. -/
def HasTo (w : World) (B : Nat) (a : Option Addr) (ts : List Top) : Prop := ∀ k (h : k < ts.length), ∃ b o, a = some ⟨b, o, none⟩ ∧ b < B ∧ w.rangeAt b (o + k * 3) ts[k].cells
theorem HasTo.below {w w' : World} {B : Nat} {a : Option Addr} {ts : List Top} (h : HasTo w B a ts) (hb : Below B w w') : HasTo w' B a ts := by
  intro k hk
  obtain ⟨b, o, e, h1, h2⟩ := h k hk
  exact ⟨b, o, e, h1, fun i u hu => (World.cell?_of_block (w := w) (a := ⟨b, o + k * 3 + i, none⟩) (hb.block b h1)).trans (h2 i u hu)⟩
/-- What is there between two steps: the timer and the reference's. -/
structure TRI (w : World) (ms : List Int) (bm g : Nat) (A : Option Addr) (n c : Nat) (Ar : Option Addr) (nr cr : Nat) (t : Tm) (wr : World) : Prop where
  tm : IsT wr g A n c t
  rf : wr.heap[bm]? = some (.cells (t.rc Ar nr cr) 26 (0, 0))
  mr : OwnI wr 0 (.slice Ar nr cr) ms
  eq : t.ms = ms
  bel : Below w.heap.size w wr
  g0 : w.heap.size ≤ g
  m0 : w.heap.size ≤ bm
  ne : g ≠ bm
section
variable {w w' wr : World} {ms : List Int} {bm g : Nat} {A : Option Addr} {n c : Nat} {Ar : Option Addr} {nr cr : Nat} {t : Tm}
theorem TRI.below (h : TRI w ms bm g A n c Ar nr cr t wr) (hb : Below wr.heap.size wr w') : TRI w ms bm g A n c Ar nr cr t w' :=
  ⟨h.tm.below hb, (hb.block bm (lt_of_block h.rf)).trans h.rf, h.mr.below hb, h.eq, h.bel.trans (hb.mono h.bel.size), h.g0, h.m0, h.ne⟩
/-- The timer goes on, and the reference's row is set behind it. -/
theorem TRI.tim (h : TRI w ms bm g A n c Ar nr cr t wr) {t' : Tm} (hi : IsT w' g A n c t') (hk : Kept (fun j => j = g) wr w') : w'.heap[bm]? = some (.cells (t.rc Ar nr cr) 26 (0, 0)) ∧ OwnI w' 0 (.slice Ar nr cr) ms ∧ Below w.heap.size w w' :=
  ⟨(hk.block bm (lt_of_block h.rf) (fun e => h.ne e.symm)).trans h.rf, h.mr.keep fun j hj => hk.block j (h.mr.lt j hj).2 (fun e => ownI_ne h.mr h.tm.blk (by decide) (by rw [← e]; exact hj)), h.bel.trans (hk.below h.bel.size (fun j hj => by have := h.g0; omega))⟩
/-- The reference's box is turned. -/
theorem TRI.box (h : TRI w ms bm g A n c Ar nr cr t wr) (hk : Kept (fun j => j = bm) wr w') : IsT w' g A n c t ∧ OwnI w' 0 (.slice Ar nr cr) ms ∧ Below w.heap.size w w' :=
  ⟨h.tm.kept hk h.ne h.rf (by decide), h.mr.keep fun j hj => hk.block j (h.mr.lt j hj).2 (fun e => ownI_ne h.mr h.rf (by decide) (by rw [← e]; exact hj)), h.bel.trans (hk.below h.bel.size (fun j hj => by have := h.m0; omega))⟩
theorem TRI.has (h : TRI w ms bm g A n c Ar nr cr t wr) : HasI wr wr.heap.size Ar t.ms ∧ t.ms.length = nr := by
  obtain ⟨_, _, _, e1, h1, _, h2⟩ := h.mr.form
  cases e1
  rw [h.eq]
  exact ⟨h2, h1.out⟩
end
theorem rtick_t (t : Tm) (A : Option Addr) (n c B : Nat) (now : Int) (w : World) (hg : t.Good) (hs : In62 t.since) (hn : In62 now) (hm : HasI w B A t.ms) (hB : B ≤ w.heap.size) (hl : t.ms.length = n) :
    Calls Try.prog 18 #[.agg (t.rc A n c), .int .i64 now] w (RTickEnds t A n c now w) := by
  obtain ⟨me, ms, base, most, round, since, wait⟩ := t
  exact rtick_any me ms base most round since wait A n c B now w hg hs hn hm hB hl
theorem tick_since {t : Tm} {now : Int} (hs : In62 t.since) (hn : In62 now) : In62 (t.tick now).1.since := by
  unfold In62 at *
  unfold Tm.tick
  split
  · exact hs
  · split
    · show _ ≤ min t.since now ∧ min t.since now ≤ _
      omega
    · exact hn
theorem tick_ms (t : Tm) (now : Int) : (t.tick now).1.ms = t.ms := by
  unfold Tm.tick
  split
  · rfl
  · split <;> rfl
theorem in64_of62 {x : Int} (h : In62 x) : In64' x := by unfold In62 at h; unfold In64'; omega
theorem rc_one (t : Tm) (A : Option Addr) (n c : Nat) : (t.rc A n c).all (·.oneCell') = true := by
  simp [Tm.rc, Value.oneCell']
theorem rc_size (t : Tm) (A : Option Addr) (n c : Nat) : (Try.prog.info? 26).map (·.size) = some (t.rc A n c).size := by kernel_rfl
/-- A row that is stored into a new box. -/
theorem box_row {w w3 : World} {t : TypeId} {Z R : Array Value} (h : (w.alloc (.cells Z t)).setRow w.heap.size R = w3) : w3.heap[w.heap.size]? = some (.cells R t (0, 0)) ∧ Below w.heap.size w w3 ∧ w3.heap.size = w.heap.size + 1 := by
  subst h
  have hk := Kept.of_setRow (w.alloc (.cells Z t)) w.heap.size R
  refine ⟨set_row_at (heap_alloc_new w _), ((Below.refl _ _).alloc (Nat.le_refl _) _).trans (hk.below (by simp) (fun j hj => by omega)), ?_⟩
  rw [show ((w.alloc (.cells Z t)).setRow w.heap.size R).heap.size = (w.alloc (.cells Z t)).heap.size from by simp [World.setRow]]
  simp
set_option maxHeartbeats 8000000 in
set_option maxRecDepth 40000 in
theorem eruns_walk (me : Int) (Am : Option Addr) (nm cm : Nat) (ms : List Int) (base most now : Int) (a : Option Addr) (len cap : Nat) (ts : List Top) (w : World) (hm : HasI w w.heap.size Am ms) (hn : ms.length = nm) (hl : nm ≤ 17592186043904) (hw : In64' now)
    (hT : HasTo w w.heap.size a ts) (he : ts.length = len) (hlen : len ≤ 140737488355328) :
    Calls Try.prog 3 #[.int .i64 me, .slice Am nm cm, .int .i64 base, .int .i64 most, .int .i64 now, .slice a len cap] w fun e w' => e = .returned (.bool true) ∧ Below w.heap.size w w' := by
  have HN := hide hn
  have HL := hide he
  have HW := hide hw
  clear hn he hw
  go_enter Try.func3, Try.ntmps3
  go_wp2_with fail
  refine (head17_any w).mono ?_
  rintro e w1 ⟨rfl, hb1⟩
  have hm1 := hm.below hb1
  go_wp2_with fail
  refine (rnew_any me Am nm cm w.heap.size ms base most now w1 hm1 hb1.size HN.out (by omega)).mono ?_
  rintro e w2 ⟨hy, hno, hb2⟩
  by_cases hr : rightS ms
  · obtain ⟨Ar, nr, cr, rfl, hor⟩ := hy hr
    have HR := hide hr
    have HOR := hide hor
    clear hy hno hr hor
    generalize ht0 : Tm.new me ms base most now = t0 at *
    go_upto_region 4 with (refine wpList_store_row rfl 26 _ _ rfl w2.heap.size (t0.rc Ar nr cr) rfl rfl _ _ (heap_alloc_new w2 (.cells #[.int .i64 0, .slice none 0 0, .int .i64 0, .int .i64 0, .int .i64 0, .int .i64 0, .int .i64 0] 26)) (rc_size _ _ _ _) rfl (rc_one _ _ _ _) ?_; generalize hw3 : (w2.alloc (.cells #[.int .i64 0, .slice none 0 0, .int .i64 0, .int .i64 0, .int .i64 0, .int .i64 0, .int .i64 0] 26)).setRow w2.heap.size (t0.rc Ar nr cr) = w3 at *)
    obtain ⟨hx3, hb3, hz3⟩ := box_row hw3
    clear hw3
    have hm3 := (hm1.below (hb2.mono hb1.size)).below (hb3.mono (by have := hb1.size; have := hb2.size; omega))
    obtain ⟨v1, wa, hr1, hown1, hba⟩ := run_copy_ints w3 22 Am nm cm w.heap.size ms hm3 HN.out (by omega) (by have := hb1.size; have := hb2.size; omega)
    obtain ⟨Aa, na, ca, rfl, hna, hnca, hxa⟩ := hown1.form
    obtain rfl : na = nm := by rw [← hna.out, HN.out]
    have hnew := tnew_any me Aa na ca wa.heap.size ms base most now wa hxa (Nat.le_refl _) HN.out (by omega) HW.out
    have HR1 := hide hr1
    have b1 := hb1.trans (hb2.mono hb1.size)
    have b3 := b1.trans (hb3.mono b1.size)
    have b4 := b3.trans (hba.mono b3.size)
    have hx4 := (hba.block _ (lt_of_block hx3)).trans hx3
    have HB4 := hide b4
    have HX4 := hide hx4
    have HO4 := hide ((HOR.out.below hb3).below hba)
    have HZ := hide (show w.heap.size ≤ w2.heap.size ∧ w2.heap.size < wa.heap.size by have := b1.size; have := lt_of_block hx4; omega)
    clear hr1 hown1 hxa hna hx3 hx4 hb3 hz3 hba b1 b3 b4 hm1 hm3 hb1 hb2
    go_wp2_with (first
      | (at_builtin; refine list_append_want _ (by rfl) (.tmp 34) (.tmp 35) 22 22 rfl _ _ rfl rfl _ _ HR1.out ?_)
      | fail)
    refine hnew.mono ?_
    rintro e w5 ⟨h1, _, hb5⟩
    obtain ⟨g, A, n, c, rfl, h1, hg⟩ := h1 HR.out
    rw [ht0] at h1
    have hT0 : TRI w ms w2.heap.size g A n c Ar nr cr t0 w5 := ⟨h1, (hb5.block _ HZ.out.2).trans HX4.out, (HO4.out.below hb5).from_ (Nat.zero_le _), by rw [← ht0]; rfl, HB4.out.trans (hb5.mono HB4.out.size), by have := HB4.out.size; omega, HZ.out.1, by have := HZ.out; omega⟩
    have HT0 := hide hT0
    have q2 := neq_pT g
    have q1 := eq_pT g
    have hn0 : In62 now → In62 t0.since := fun h => by rw [← ht0]; exact h
    have HN0 := hide hn0
    clear h1 hb5 hT0 hnew HX4 HO4 HB4 hn0
    generalize w2.heap.size = bm at *
    clear ht0 HR1 HZ hg
    go_wp2_with fail
    go_loopw [16, 17, 18, 19, 20, 21] (fun s16 s17 s18 s19 s20 s21 wr => ∃ (k : Nat) (t : Tm), s16 = .int .i64 k ∧ k ≤ len ∧ k ≤ 100 ∧ Hid (In62 now → In62 t.since) ∧ Hid (TRI w ms bm g A n c Ar nr cr t wr)) (fun s16 _ _ _ _ _ _ => (100 - intOf s16).toNat)
    case atStart => exact ⟨0, t0, rfl, by omega, by omega, HN0, HT0⟩
    case round =>
      obtain ⟨k, t, rfl, hk1, hk2, hsi, hI⟩ := hrel
      by_cases hlt : k < len
      · by_cases h100 : k < 100
        · have hjl : k < ts.length := by rw [HL.out]; exact hlt
          obtain ⟨b, o, rfl, hbb, hra⟩ := (hT.below hI.out.bel) k hjl
          generalize ts[k] = q at *
          obtain ⟨K, M, N⟩ := q
          have hra' : wr.rangeAt b (o + k * 3) [(.int .i64 K : Value), .int .i64 M, .int .i64 N] := hra
          have hil : (k : Int) < (len : Int) := by omega
          have hi6 : (k : Int) < 100 := by omega
          clear hra
          go_upto_region 13 with (refine wpList_load_mid rfl 35 _ rfl b (o + k * 3) (by simp [Act.eval, Act.put]) [(.int .i64 K : Value), .int .i64 M, .int .i64 N] _ hra' Try.underlying35 rfl (by kernel_rfl) ?_)
          have hbo := heap_alloc_new wr (.cells #[.int .i64 K, .int .i64 M, .int .i64 N] 35)
          have HI1 := hide (hI.out.below ((Below.refl _ _).alloc (Nat.le_refl _) (.cells #[.int .i64 K, .int .i64 M, .int .i64 N] 35)))
          have hbo' : wr.heap.size ≠ bm := by have := lt_of_block hI.out.rf; omega
          have hbg' : wr.heap.size ≠ g := by have := hI.out.tm.lt; omega
          generalize wr.alloc (.cells #[.int .i64 K, .int .i64 M, .int .i64 N] 35) = w3 at *
          generalize wr.heap.size = bo at *
          obtain ⟨o0, p0⟩ := row_cells hbo 0
          obtain ⟨o1, p1⟩ := row_cells hbo 1
          obtain ⟨o2, p2⟩ := row_cells hbo 2
          simp only [List.getElem?_toArray, List.getElem?_cons_succ, List.getElem?_cons_zero] at o0 o1 o2
          clear hra'
          by_cases n1 : N < -4611686018427387904
          · go_wp2
            go_roundw
            case rel => exact ⟨k + 1, t, by go_num, by omega, by omega, hsi, HI1⟩
            case measure => simp [intOf]; omega
          by_cases n2 : 4611686018427387904 < N
          · go_wp2
            go_roundw
            case rel => exact ⟨k + 1, t, by go_num, by omega, by omega, hsi, HI1⟩
            case measure => simp [intOf]; omega
          by_cases n3 : now < -4611686018427387904
          · go_wp2
            go_roundw
            case rel => exact ⟨k + 1, t, by go_num, by omega, by omega, hsi, HI1⟩
            case measure => simp [intOf]; omega
          by_cases n4 : 4611686018427387904 < now
          · go_wp2
            go_roundw
            case rel => exact ⟨k + 1, t, by go_num, by omega, by omega, hsi, HI1⟩
            case measure => simp [intOf]; omega
          have HS := hide (hsi.out (by unfold In62; omega))
          have HNN : Hid (In62 N) := hide (by unfold In62; omega)
          have d1 : decide (N < -4611686018427387904) = false := decide_eq_false n1
          have d2 : decide (4611686018427387904 < N) = false := decide_eq_false n2
          have d3 : decide (now < -4611686018427387904) = false := decide_eq_false n3
          have d4 : decide (4611686018427387904 < now) = false := decide_eq_false n4
          clear n1 n2 n3 n4 hsi
          go_upto_block 2 with fail
          clear d1 d2 d3 d4
          go_cut [18, 19, 20, 21] from 100 to 179 (fun s18 s19 s20 s21 wx => ∃ t', Hid (In62 t'.since) ∧ Hid (TRI w ms bm g A n c Ar nr cr t' wx))
          case first =>
            have HBX := hide hbo
            have hbo2 : ¬ bm = bo := fun e => hbo' e.symm
            by_cases k0 : K = 0
            · skip
              subst k0
              have hrt := rtick_t t Ar nr cr w3.heap.size N w3 HI1.out.tm.good HS.out HNN.out HI1.out.has.1 (Nat.le_refl _) HI1.out.has.2
              have HRF := hide HI1.out.rf
              have HTS := hide (tick_since HS.out HNN.out)
              have HTM := hide (tick_ms t N)
              go_wp2_with (first
                | (refine wpList_load_row rfl 26 _ rfl bm rfl _ _ _ _ HRF.out Try.underlying26 rfl (rc_size _ _ _ _) ?_)
                | fail)
              refine hrt.mono ?_
              rintro e w4 ⟨rfl, hb4⟩
              have HI4 := hide (HI1.out.below hb4)
              have hbo4 := (hb4.block _ (lt_of_block hbo)).trans hbo
              obtain ⟨t', ht'⟩ : ∃ t', (t.tick N).1 = t' := ⟨_, rfl⟩
              obtain ⟨v', hv'⟩ : ∃ v', (t.tick N).2 = v' := ⟨_, rfl⟩
              have hti := fun W (h : IsT W g A n c t) => ttick_any h N (in64_of62 HNN.out)
              rw [ht', hv'] at hti
              have HTI := hide hti
              rw [ht'] at HTS HTM
              rw [ht', hv']
              clear o0 o1 o2 p0 p1 p2 hrt hti ht' hv'
              go_upto_region 17 with (refine wpList_store_row rfl 26 _ _ rfl w4.heap.size (t'.rc Ar nr cr) rfl rfl _ _ (heap_alloc_new w4 (.cells #[.int .i64 0, .slice none 0 0, .int .i64 0, .int .i64 0, .int .i64 0, .int .i64 0, .int .i64 0] 26)) (rc_size _ _ _ _) rfl (rc_one _ _ _ _) ?_; generalize hw5 : (w4.alloc (.cells #[.int .i64 0, .slice none 0 0, .int .i64 0, .int .i64 0, .int .i64 0, .int .i64 0, .int .i64 0] 26)).setRow w4.heap.size (t'.rc Ar nr cr) = w5 at *)
              obtain ⟨hx5, hb5, hz5⟩ := box_row hw5
              clear hw5
              have HI5 := hide (HI4.out.below hb5)
              have hbo5 := (hb5.block _ (lt_of_block hbo4)).trans hbo4
              have HX5 := hide hx5
              have HR5 := hide HI5.out.rf
              have hk6 := Kept.of_setRow w5 bm (t'.rc Ar nr cr)
              have hr6 := set_row_at (B := t'.rc Ar nr cr) HI5.out.rf
              have HK6 := hide hk6
              have HR6 := hide hr6
              have HBO5 := hide hbo5
              clear hx5 hb5 hz5 hbo4 hbo5 hb4 hk6 hr6
              go_upto_region 18 with (first
                | (refine wpList_load_row rfl 26 _ rfl w4.heap.size rfl _ _ _ _ HX5.out Try.underlying26 rfl (rc_size _ _ _ _) ?_)
                | (refine wpList_store_row rfl 26 _ _ rfl bm (t'.rc Ar nr cr) rfl rfl _ _ HR5.out (rc_size _ _ _ _) rfl (rc_one _ _ _ _) ?_; generalize w5.setRow bm (t'.rc Ar nr cr) = w6 at *))
              obtain ⟨i6, m6, b6⟩ := HI5.out.box HK6.out
              have hbo6 := (HK6.out.block bo (lt_of_block HBO5.out) hbo').trans HBO5.out
              have x2 := (row_cells hbo6 2).1
              simp only [List.getElem?_toArray, List.getElem?_cons_succ, List.getElem?_cons_zero] at x2
              have hti6 := HTI.out w6 i6
              have HM6 := hide m6
              have HB6 := hide b6
              have HI6 := hide i6
              clear hbo6 m6 b6 i6
              go_wp2_with fail
              refine hti6.mono ?_
              rintro e w7 ⟨rfl, i7, k7⟩
              have hr7 := (k7.block bm (lt_of_block HR6.out) (fun e => HI5.out.ne e.symm)).trans HR6.out
              have HI7 : Hid (TRI w ms bm g A n c Ar nr cr t' w7) := hide ⟨i7, hr7, HM6.out.keep fun j hj => k7.block j (HM6.out.lt j hj).2 (fun e => ownI_ne HM6.out HI6.out.blk (by decide) (by rw [← e]; exact hj)), HTM.out.trans HI1.out.eq, HB6.out.trans (k7.below HB6.out.size (fun j hj => by have := HI1.out.g0; omega)), HI1.out.g0, HI1.out.m0, HI1.out.ne⟩
              clear i7 k7 hr7 hti6
              cases v'
              all_goals go_wp2_with fail
              all_goals go_meet
              all_goals exact ⟨t', HTS, HI7⟩
            by_cases k1 : K = 1
            · skip
              subst k1
              have y6 : w3.cell? ⟨bm, 6, none⟩ = some (.int .i64 t.round) := (row_cells HI1.out.rf 6).1
              have y2 : w3.cell? ⟨bm, 2, none⟩ = some (.int .i64 t.base) := (row_cells HI1.out.rf 2).1
              have z6 := (row_cells HI1.out.rf 6).2
              have z4 := (row_cells HI1.out.rf 4).2
              have z5 := (row_cells HI1.out.rf 5).2
              have hev := fun W (h : IsT W g A n c t) => theard_any h M N (in64_of62 HNN.out)
              have HEV := hide hev
              clear hev
              cases e1 : decide (t.round ≤ M) <;> cases e2 : decide (1 ≤ M) <;> cases e3 : decide (M ≤ 1099511627776)
              case true.true.true =>
                have fe1 := of_decide_eq_true e1
                have fe2 := of_decide_eq_true e2
                have fe3 := of_decide_eq_true e3
                have HE : Hid (t.heard M N = ({ t with round := M, since := N, wait := t.base }, true)) := hide (if_pos (by omega))
                have HKA0 := hide (Kept.refl (fun j => j = bm) w3)
                have HRA0 := hide HI1.out.rf
                clear fe1 fe2 fe3
                have HZ0 := hide (show True from trivial)
                have HKA1 := hide (HKA0.out.setCell (p := ⟨bm, 6, none⟩) (.inl rfl) (.int .i64 M))
                have HRA1 := hide (set_cell_at (i := 6) (.int .i64 M) HRA0.out)
                go_upto_region 24 with fail
                generalize w3.setCell ⟨bm, 6, none⟩ (.int .i64 M) = wa1 at *
                clear o0 o1 o2 p0 p1 p2 y6 y2 z6 z4 z5
                have hb1 := (HKA1.out.block bo (lt_of_block HBX.out) hbo').trans HBX.out
                have g01 := (row_cells hb1 0).1
                have g11 := (row_cells hb1 1).1
                have g21 := (row_cells hb1 2).1
                have yb1 : wa1.cell? ⟨bm, 2, none⟩ = some (.int .i64 t.base) := (row_cells HRA1.out 2).1
                have z61 := (row_cells HRA1.out 6).2
                have z41 := (row_cells HRA1.out 4).2
                have z51 := (row_cells HRA1.out 5).2
                have v41 : wa1.cell? ⟨bm, 4, none⟩ = some (.int .i64 t.wait) := (row_cells HRA1.out 4).1
                have v51 : wa1.cell? ⟨bm, 5, none⟩ = some (.int .i64 t.since) := (row_cells HRA1.out 5).1
                simp only [List.getElem?_toArray, List.getElem?_cons_succ, List.getElem?_cons_zero] at g01 g11 g21
                clear hb1
                have HKA2 := hide (HKA1.out.setCell (p := ⟨bm, 4, none⟩) (.inl rfl) (.int .i64 t.base))
                have HRA2 := hide (set_cell_at (i := 4) (.int .i64 t.base) HRA1.out)
                go_upto_region 25 with fail
                generalize wa1.setCell ⟨bm, 4, none⟩ (.int .i64 t.base) = wa2 at *
                clear g01 g11 g21 yb1 z61 z41 z51 v41 v51
                have hb2 := (HKA2.out.block bo (lt_of_block HBX.out) hbo').trans HBX.out
                have g02 := (row_cells hb2 0).1
                have g12 := (row_cells hb2 1).1
                have g22 := (row_cells hb2 2).1
                have yb2 : wa2.cell? ⟨bm, 2, none⟩ = some (.int .i64 t.base) := (row_cells HRA2.out 2).1
                have z62 := (row_cells HRA2.out 6).2
                have z42 := (row_cells HRA2.out 4).2
                have z52 := (row_cells HRA2.out 5).2
                have v52 : wa2.cell? ⟨bm, 5, none⟩ = some (.int .i64 t.since) := (row_cells HRA2.out 5).1
                simp only [List.getElem?_toArray, List.getElem?_cons_succ, List.getElem?_cons_zero] at g02 g12 g22
                clear hb2
                have HKA3 := hide (HKA2.out.setCell (p := ⟨bm, 5, none⟩) (.inl rfl) (.int .i64 N))
                have HRA3 := hide (set_cell_at (i := 5) (.int .i64 N) HRA2.out)
                go_upto_region 26 with fail
                generalize wa2.setCell ⟨bm, 5, none⟩ (.int .i64 N) = wa3 at *
                clear g02 g12 g22 yb2 z62 z42 z52 v52
                have HK4 := HKA3
                have HR4 : Hid (wa3.heap[bm]? = some (.cells (({ t with round := M, since := N, wait := t.base } : Tm).rc Ar nr cr) 26 (0, 0))) := HRA3
                obtain ⟨i4, m4, b4⟩ := HI1.out.box HK4.out
                have hbo4 := (HK4.out.block bo (lt_of_block HBX.out) hbo').trans HBX.out
                have x1 := (row_cells hbo4 1).1
                have x2 := (row_cells hbo4 2).1
                simp only [List.getElem?_toArray, List.getElem?_cons_succ, List.getElem?_cons_zero] at x1 x2
                have hev4 := HEV.out _ i4
                rw [HE.out] at hev4
                have HM4 := hide m4
                have HB4 := hide b4
                have HI4 := hide i4
                clear hbo4 m4 b4 i4
                go_wp2_with fail
                refine hev4.mono ?_
                rintro e w7 ⟨rfl, i7, k7⟩
                have hr7 := (k7.block bm (lt_of_block HR4.out) (fun e => HI1.out.ne e.symm)).trans HR4.out
                have HI7 : Hid (TRI w ms bm g A n c Ar nr cr { t with round := M, since := N, wait := t.base } w7) := hide ⟨i7, hr7, HM4.out.keep fun j hj => k7.block j (HM4.out.lt j hj).2 (fun e => ownI_ne HM4.out HI4.out.blk (by decide) (by rw [← e]; exact hj)), HI1.out.eq, HB4.out.trans (k7.below HB4.out.size (fun j hj => by have := HI1.out.g0; omega)), HI1.out.g0, HI1.out.m0, HI1.out.ne⟩
                clear i7 k7 hr7 hev4
                go_wp2_with fail
                go_meet
                exact ⟨{ t with round := M, since := N, wait := t.base }, HNN, HI7⟩
              all_goals have HE : Hid (t.heard M N = (t, false)) := hide (if_neg (by simp at e1 e2 e3; omega))
              all_goals have hev4 := HEV.out w3 HI1.out.tm
              all_goals rw [HE.out] at hev4
              all_goals go_wp2_with fail
              all_goals refine hev4.mono ?_
              all_goals rintro e w7 ⟨rfl, i7, k7⟩
              all_goals obtain ⟨r7, m7, b7⟩ := HI1.out.tim i7 k7
              all_goals have HI7 : Hid (TRI w ms bm g A n c Ar nr cr t w7) := hide ⟨i7, r7, m7, HI1.out.eq, b7, HI1.out.g0, HI1.out.m0, HI1.out.ne⟩
              all_goals clear i7 r7 m7 b7 k7 hev4
              all_goals go_wp2_with fail
              all_goals go_meet
              all_goals exact ⟨t, HS, HI7⟩
            by_cases k2 : K = 2
            · skip
              subst k2
              have y6 : w3.cell? ⟨bm, 6, none⟩ = some (.int .i64 t.round) := (row_cells HI1.out.rf 6).1
              have y2 : w3.cell? ⟨bm, 2, none⟩ = some (.int .i64 t.base) := (row_cells HI1.out.rf 2).1
              have z6 := (row_cells HI1.out.rf 6).2
              have z5 := (row_cells HI1.out.rf 5).2
              have hev := fun W (h : IsT W g A n c t) => tseen_any h M N (in64_of62 HNN.out)
              have HEV := hide hev
              clear hev
              cases e1 : decide (t.round < M) <;> cases e3 : decide (M ≤ 1099511627776)
              case true.true =>
                have fe1 := of_decide_eq_true e1
                have fe3 := of_decide_eq_true e3
                have HE : Hid (t.seen M N = ({ t with round := M, since := N }, true)) := hide (if_pos (by omega))
                have HKA0 := hide (Kept.refl (fun j => j = bm) w3)
                have HRA0 := hide HI1.out.rf
                clear fe1 fe3
                have HZ0 := hide (show True from trivial)
                have HKA1 := hide (HKA0.out.setCell (p := ⟨bm, 6, none⟩) (.inl rfl) (.int .i64 M))
                have HRA1 := hide (set_cell_at (i := 6) (.int .i64 M) HRA0.out)
                go_upto_region 32 with fail
                generalize w3.setCell ⟨bm, 6, none⟩ (.int .i64 M) = wa1 at *
                clear o0 o1 o2 p0 p1 p2 y6 y2 z6 z5
                have hb1 := (HKA1.out.block bo (lt_of_block HBX.out) hbo').trans HBX.out
                have g01 := (row_cells hb1 0).1
                have g11 := (row_cells hb1 1).1
                have g21 := (row_cells hb1 2).1
                have yb1 : wa1.cell? ⟨bm, 2, none⟩ = some (.int .i64 t.base) := (row_cells HRA1.out 2).1
                have z61 := (row_cells HRA1.out 6).2
                have z51 := (row_cells HRA1.out 5).2
                have v51 : wa1.cell? ⟨bm, 5, none⟩ = some (.int .i64 t.since) := (row_cells HRA1.out 5).1
                simp only [List.getElem?_toArray, List.getElem?_cons_succ, List.getElem?_cons_zero] at g01 g11 g21
                clear hb1
                have HKA2 := hide (HKA1.out.setCell (p := ⟨bm, 5, none⟩) (.inl rfl) (.int .i64 N))
                have HRA2 := hide (set_cell_at (i := 5) (.int .i64 N) HRA1.out)
                go_upto_region 33 with fail
                generalize wa1.setCell ⟨bm, 5, none⟩ (.int .i64 N) = wa2 at *
                clear g01 g11 g21 yb1 z61 z51 v51
                have HK4 := HKA2
                have HR4 : Hid (wa2.heap[bm]? = some (.cells (({ t with round := M, since := N } : Tm).rc Ar nr cr) 26 (0, 0))) := HRA2
                obtain ⟨i4, m4, b4⟩ := HI1.out.box HK4.out
                have hbo4 := (HK4.out.block bo (lt_of_block HBX.out) hbo').trans HBX.out
                have x1 := (row_cells hbo4 1).1
                have x2 := (row_cells hbo4 2).1
                simp only [List.getElem?_toArray, List.getElem?_cons_succ, List.getElem?_cons_zero] at x1 x2
                have hev4 := HEV.out _ i4
                rw [HE.out] at hev4
                have HM4 := hide m4
                have HB4 := hide b4
                have HI4 := hide i4
                clear hbo4 m4 b4 i4
                go_wp2_with fail
                refine hev4.mono ?_
                rintro e w7 ⟨rfl, i7, k7⟩
                have hr7 := (k7.block bm (lt_of_block HR4.out) (fun e => HI1.out.ne e.symm)).trans HR4.out
                have HI7 : Hid (TRI w ms bm g A n c Ar nr cr { t with round := M, since := N } w7) := hide ⟨i7, hr7, HM4.out.keep fun j hj => k7.block j (HM4.out.lt j hj).2 (fun e => ownI_ne HM4.out HI4.out.blk (by decide) (by rw [← e]; exact hj)), HI1.out.eq, HB4.out.trans (k7.below HB4.out.size (fun j hj => by have := HI1.out.g0; omega)), HI1.out.g0, HI1.out.m0, HI1.out.ne⟩
                clear i7 k7 hr7 hev4
                go_wp2_with fail
                go_meet
                exact ⟨{ t with round := M, since := N }, HNN, HI7⟩
              all_goals have HE : Hid (t.seen M N = (t, false)) := hide (if_neg (by simp at e1 e3; omega))
              all_goals have hev4 := HEV.out w3 HI1.out.tm
              all_goals rw [HE.out] at hev4
              all_goals go_wp2_with fail
              all_goals refine hev4.mono ?_
              all_goals rintro e w7 ⟨rfl, i7, k7⟩
              all_goals obtain ⟨r7, m7, b7⟩ := HI1.out.tim i7 k7
              all_goals have HI7 : Hid (TRI w ms bm g A n c Ar nr cr t w7) := hide ⟨i7, r7, m7, HI1.out.eq, b7, HI1.out.g0, HI1.out.m0, HI1.out.ne⟩
              all_goals clear i7 r7 m7 b7 k7 hev4
              all_goals go_wp2_with fail
              all_goals go_meet
              all_goals exact ⟨t, HS, HI7⟩
            have d0 : (K == 0) = false := by simpa using k0
            have d1 : (K == 1) = false := by simpa using k1
            have d2 : (K == 2) = false := by simpa using k2
            clear k0 k1 k2
            go_wp2_with fail
            go_meet
            exact ⟨t, HS, HI1⟩
          case rest =>
            obtain ⟨t', HS', HI'⟩ := hcut
            have y6 : wc.cell? ⟨bm, 6, none⟩ = some (.int .i64 t'.round) := (row_cells HI'.out.rf 6).1
            have y4 : wc.cell? ⟨bm, 4, none⟩ = some (.int .i64 t'.wait) := (row_cells HI'.out.rf 4).1
            have hro : ∀ m, Calls Try.prog 16 #[.pointer (some ⟨g, 0, none⟩)] (wc.drewN m) fun e w' => e = .returned (.int .i64 t'.round) ∧ w' = wc.drewN m := fun m => (tround_any (HI'.out.tm.below (below_drewN (Below.refl _ _) m))).mono fun _ _ ⟨he, hw⟩ => ⟨he, hw.symm⟩
            have hwa : ∀ m, Calls Try.prog 17 #[.pointer (some ⟨g, 0, none⟩)] (wc.drewN m) fun e w' => e = .returned (.int .i64 t'.wait) ∧ w' = wc.drewN m := fun m => (twait_any (HI'.out.tm.below (below_drewN (Below.refl _ _) m))).mono fun _ _ ⟨he, hw⟩ => ⟨he, hw.symm⟩
            have r1 : (t'.round != t'.round) = false := by simp
            have r2 : (t'.wait != t'.wait) = false := by simp
            clear hbo o0 o1 o2 p0 p1 p2
            go_wp2_with fail
            go_quiet ((first | (go_at_call 16; exact Calls.quiet_of_same (hro _)) | (go_at_call 17; exact Calls.quiet_of_same (hwa _))))
            go_wp2
            go_roundw
            case rel => exact ⟨k + 1, t', by go_num, by omega, by omega, fun _ => HS'.out, HI'.out.below (below_drewN (Below.refl _ _) _)⟩
            case measure => simp [intOf]; omega
        · go_wp2
          go_ret
          exact ⟨rfl, hI.out.bel⟩
      · go_wp2
        go_ret
        exact ⟨rfl, hI.out.bel⟩
  · obtain rfl := hno hr
    have HR := hide hr
    clear hy hno hr
    go_upto_region 4 with (refine wpList_store_row rfl 26 _ _ rfl w2.heap.size #[.int .i64 0, .slice none 0 0, .int .i64 0, .int .i64 0, .int .i64 0, .int .i64 0, .int .i64 0] rfl rfl _ _ (heap_alloc_new w2 (.cells #[.int .i64 0, .slice none 0 0, .int .i64 0, .int .i64 0, .int .i64 0, .int .i64 0, .int .i64 0] 26)) (by kernel_rfl) rfl (by simp [Value.oneCell']) ?_; generalize hw3 : (w2.alloc (.cells #[.int .i64 0, .slice none 0 0, .int .i64 0, .int .i64 0, .int .i64 0, .int .i64 0, .int .i64 0] 26)).setRow w2.heap.size #[.int .i64 0, .slice none 0 0, .int .i64 0, .int .i64 0, .int .i64 0, .int .i64 0, .int .i64 0] = w3 at *)
    obtain ⟨hx3, hb3, hz3⟩ := box_row hw3
    clear hw3
    have hm3 := (hm1.below (hb2.mono hb1.size)).below (hb3.mono (by have := hb1.size; have := hb2.size; omega))
    obtain ⟨v1, wa, hr1, hown1, hba⟩ := run_copy_ints w3 22 Am nm cm w.heap.size ms hm3 HN.out (by omega) (by have := hb1.size; have := hb2.size; omega)
    obtain ⟨Aa, na, ca, rfl, hna, hnca, hxa⟩ := hown1.form
    obtain rfl : na = nm := by rw [← hna.out, HN.out]
    have hnew := tnew_any me Aa na ca wa.heap.size ms base most now wa hxa (Nat.le_refl _) HN.out (by omega) HW.out
    have HR1 := hide hr1
    have b1 := hb1.trans (hb2.mono hb1.size)
    have b3 := b1.trans (hb3.mono b1.size)
    have b4 := b3.trans (hba.mono b3.size)
    have HB4 := hide b4
    clear hr1 hown1 hxa hna hx3 hb3 hz3 hba b1 b3 b4 hm1 hm3 hb1 hb2
    go_wp2_with (first
      | (at_builtin; refine list_append_want _ (by rfl) (.tmp 34) (.tmp 35) 22 22 rfl _ _ rfl rfl _ _ HR1.out ?_)
      | fail)
    refine hnew.mono ?_
    rintro e w5 ⟨_, h1, hb5⟩
    obtain rfl := h1 HR.out
    go_wp2_with fail
    refine (tnil_tick _ _).mono ?_
    rintro e _ ⟨rfl, rfl⟩
    go_wp2_with fail
    refine (tnil_heard _ _ _).mono ?_
    rintro e _ ⟨rfl, rfl⟩
    go_wp2_with fail
    refine (tnil_seen _ _ _).mono ?_
    rintro e _ ⟨rfl, rfl⟩
    go_wp2_with fail
    refine (tnil_round _).mono ?_
    rintro e _ ⟨rfl, rfl⟩
    go_wp2_with fail
    refine (tnil_wait _).mono ?_
    rintro e _ ⟨rfl, rfl⟩
    go_wp2
    go_ret
    exact ⟨rfl, HB4.out.trans (hb5.mono HB4.out.size)⟩
end Go.Proofs.Ytgdncmkhcdmjoaa
