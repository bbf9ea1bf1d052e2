/-
  TakeCmd of the reference of package value, whatever is read. No condition but the reach of what is read.
-/
import Derived.Test.YtapbcpilklhoiaaRefRd
import Derived.StillTailTactics
import Derived.Deep.RegionHeld3
import Derived.Deep.DrawnRows
import Derived.ChangeAlike
import Derived.Deep.DeepCutAuto
set_option linter.unusedSimpArgs false
set_option linter.unusedVariables false
namespace Go.Proofs.Ytapbcpilklhoiaa
open Go.RowKit

/-- So many ints are read. -/
def riN : Nat → RSt → List Int × RSt
  | 0, s => ([], s)
  | m + 1, s => (((riN m s).1 ++ [(ri (riN m s).2).1]), (ri (riN m s).2).2)
theorem riN_len (m : Nat) (s : RSt) : (riN m s).1.length = m := by
  induction m with
  | zero => rfl
  | succ m ih => simp [riN, ih]
theorem ri_rnx (s : RSt) : ri s = (zag (rnx s.1 s.2).1, (rnx s.1 s.2).2) := by
  unfold ri rnx
  by_cases h : s.2 = 0
  · rw [if_pos h, if_pos h]
  · rw [if_neg h, if_neg h]
    simp [zag]
theorem tk_riN (s : RSt) : (tk s).1.ints = (riN 8 s).1 ∧ (tk s).2 = (riN 8 s).2 := by
  simp only [tk, riN, Cmdv.ints, List.nil_append, List.cons_append, and_self]
theorem two_cells {w : World} {g : Nat} {a b : Value} {t : TypeId} (h : w.heap[g]? = some (.cells #[a, b] t (0, 0))) : w.cell? ⟨g, 0, none⟩ = some a ∧ w.cell? ⟨g, 1, none⟩ = some b ∧ w.frozen? ⟨g, 0, none⟩ = false ∧ w.frozen? ⟨g, 1, none⟩ = false := ⟨two_cell0 h, two_cell1 h, two_free h, two_free h⟩

theorem results_take {tmps : Array Value} {w : World} {g g' : Nat} {A A' : Array Value} {t t' : TypeId} (h2 : tmps.getD 2 undef = .pointer (some ⟨g, 0, none⟩)) (h3 : tmps.getD 3 undef = .pointer (some ⟨g', 0, none⟩)) (hA : w.heap[g]? = some (.cells A t (0, 0))) (hA' : w.heap[g']? = some (.cells A' t' (0, 0))) (sA : A.size = 2) (sA' : A'.size = 8) :
    (results Try.f88 tmps).run Try.prog w = .ok (.tuple #[.agg A, .agg A']) w := by
  have h2' : tmps[2]?.getD undef = .pointer (some ⟨g, 0, none⟩) := by simpa using h2
  have h3' : tmps[3]?.getD undef = .pointer (some ⟨g', 0, none⟩) := by simpa using h3
  have i1 : (Try.prog.info? 96).map (·.size) = some A.size := by rw [sA]; kernel_rfl
  have i2 : (Try.prog.info? 52).map (·.size) = some A'.size := by rw [sA']; kernel_rfl
  have e1 := run_loadVar_row (P := Try.prog) w g t 96 A (0, 0) _ hA Try.underlying96 rfl i1
  have e2 := run_loadVar_row (P := Try.prog) w g' t' 52 A' (0, 0) _ hA' Try.underlying52 rfl i2
  simp [results, Try.results88, h2', h3', asAddr, e1, e2]
  try rfl

set_option maxRecDepth 20000 in
set_option maxHeartbeats 1600000 in
theorem rtakecmd_any (A : Option Addr) (n c B er : Nat) (xs : List UInt8) (w : World) (h : er = 0 → Left w B A n c xs) (hB : B ≤ w.heap.size) :
    Calls Try.prog 88 #[.agg #[.slice A n c, .int .i64 (er : Int)]] w fun e w' => (∃ A' n' c', e = .returned (.tuple #[.agg #[.slice A' n' c', .int .i64 ((tk (xs, er)).2.2 : Int)], (tk (xs, er)).1.val]) ∧ ((tk (xs, er)).2.2 = 0 → Left w' B A' n' c' (tk (xs, er)).2.1)) ∧ Below w.heap.size w w' := by
  have HH := hide h
  clear h
  go_enter Try.func88, Try.ntmps88
  go_wp2_with fail
  have hq0 : ((((w.alloc (.cells #[.slice A n c, .int .i64 (er : Int)] 96)).alloc (.cells #[.slice none 0 0, .int .i64 0] 96)).alloc (.cells #[.int .i64 0, .int .i64 0, .int .i64 0, .int .i64 0, .int .i64 0, .int .i64 0, .int .i64 0, .int .i64 0] 52)).alloc (.cells #[] 3)).heap[w.heap.size]? = some (.cells #[.slice A n c, .int .i64 (er : Int)] 96 (0, 0)) :=
    (Below.heap_alloc _ _ _ (by simp <;> omega)).trans ((Below.heap_alloc _ _ _ (by simp <;> omega)).trans ((Below.heap_alloc _ _ _ (by simp)).trans (heap_alloc_new w _)))
  have hq1 : ((((w.alloc (.cells #[.slice A n c, .int .i64 (er : Int)] 96)).alloc (.cells #[.slice none 0 0, .int .i64 0] 96)).alloc (.cells #[.int .i64 0, .int .i64 0, .int .i64 0, .int .i64 0, .int .i64 0, .int .i64 0, .int .i64 0, .int .i64 0] 52)).alloc (.cells #[] 3)).heap[w.heap.size + 1]? = some (.cells #[.slice none 0 0, .int .i64 0] 96 (0, 0)) := by
    refine (Below.heap_alloc _ _ _ (by simp <;> omega)).trans ((Below.heap_alloc _ _ _ (by simp)).trans ?_)
    have := heap_alloc_new (w.alloc (.cells #[.slice A n c, .int .i64 (er : Int)] 96)) (.cells #[.slice none 0 0, .int .i64 0] 96)
    simpa using this
  have hq2 : ((((w.alloc (.cells #[.slice A n c, .int .i64 (er : Int)] 96)).alloc (.cells #[.slice none 0 0, .int .i64 0] 96)).alloc (.cells #[.int .i64 0, .int .i64 0, .int .i64 0, .int .i64 0, .int .i64 0, .int .i64 0, .int .i64 0, .int .i64 0] 52)).alloc (.cells #[] 3)).heap[w.heap.size + 1 + 1]? = some (.cells #[.int .i64 0, .int .i64 0, .int .i64 0, .int .i64 0, .int .i64 0, .int .i64 0, .int .i64 0, .int .i64 0] 52 (0, 0)) := by
    refine (Below.heap_alloc _ _ _ (by simp)).trans ?_
    have := heap_alloc_new ((w.alloc (.cells #[.slice A n c, .int .i64 (er : Int)] 96)).alloc (.cells #[.slice none 0 0, .int .i64 0] 96)) (.cells #[.int .i64 0, .int .i64 0, .int .i64 0, .int .i64 0, .int .i64 0, .int .i64 0, .int .i64 0, .int .i64 0] 52)
    simpa using this
  have ho0 : OwnI ((((w.alloc (.cells #[.slice A n c, .int .i64 (er : Int)] 96)).alloc (.cells #[.slice none 0 0, .int .i64 0] 96)).alloc (.cells #[.int .i64 0, .int .i64 0, .int .i64 0, .int .i64 0, .int .i64 0, .int .i64 0, .int .i64 0, .int .i64 0] 52)).alloc (.cells #[] 3)) (w.heap.size + 1 + 1 + 1) (.slice (some ⟨w.heap.size + 1 + 1 + 1, 0, none⟩) 0 0) [] :=
    OwnI.new ((((w.alloc (.cells #[.slice A n c, .int .i64 (er : Int)] 96)).alloc (.cells #[.slice none 0 0, .int .i64 0] 96)).alloc (.cells #[.int .i64 0, .int .i64 0, .int .i64 0, .int .i64 0, .int .i64 0, .int .i64 0, .int .i64 0, .int .i64 0] 52))) [] (w.heap.size + 1 + 1 + 1) _ (by simp) (Nat.le_refl _) (by simp)
  have hb0 : Below w.heap.size w ((((w.alloc (.cells #[.slice A n c, .int .i64 (er : Int)] 96)).alloc (.cells #[.slice none 0 0, .int .i64 0] 96)).alloc (.cells #[.int .i64 0, .int .i64 0, .int .i64 0, .int .i64 0, .int .i64 0, .int .i64 0, .int .i64 0, .int .i64 0] 52)).alloc (.cells #[] 3)) := by go_grown
  generalize (((w.alloc (.cells #[.slice A n c, .int .i64 (er : Int)] 96)).alloc (.cells #[.slice none 0 0, .int .i64 0] 96)).alloc (.cells #[.int .i64 0, .int .i64 0, .int .i64 0, .int .i64 0, .int .i64 0, .int .i64 0, .int .i64 0, .int .i64 0] 52)).alloc (.cells #[] 3) = W0 at *
  have HL0 : Hid (er = 0 → Left W0 B A n c xs) := hide (fun e => (HH.out e).below (hb0.mono hB))
  have hz0 : w.heap.size + 1 + 1 + 1 < W0.heap.size := (ho0.lt _ rfl).2
  clear HH
  go_loopw [4] (fun v wr => ∃ (j : Nat) (A1 : Option Addr) (n1 c1 : Nat), j ≤ 8 ∧ OwnI wr (w.heap.size + 1 + 1 + 1) v (riN j (xs, er)).1 ∧ wr.heap[w.heap.size]? = some (.cells #[.slice A1 n1 c1, .int .i64 ((riN j (xs, er)).2.2 : Int)] 96 (0, 0)) ∧ wr.heap[w.heap.size + 1]? = some (.cells #[.slice none 0 0, .int .i64 0] 96 (0, 0)) ∧ wr.heap[w.heap.size + 1 + 1]? = some (.cells #[.int .i64 0, .int .i64 0, .int .i64 0, .int .i64 0, .int .i64 0, .int .i64 0, .int .i64 0, .int .i64 0] 52 (0, 0)) ∧ Hid ((riN j (xs, er)).2.2 = 0 → Left wr B A1 n1 c1 (riN j (xs, er)).2.1) ∧ Below w.heap.size w wr ∧ w.heap.size + 1 + 1 + 1 < wr.heap.size) (fun v _ => 8 - (match v with | .slice _ l _ => l | _ => 0))
  case atStart => exact ⟨0, A, n, c, by omega, ho0, hq0, hq1, hq2, HL0, hb0, hz0⟩
  case round =>
    clear ho0 hq0 hq1 hq2 HL0 hb0 hz0
    obtain ⟨j, A1, n1, c1, hj, ho, hq0, hq1, hq2, hL, hb, hz⟩ := hrel
    obtain ⟨A2, n2, c2, rfl, hn2, hnc2, hx2⟩ := ho.form
    obtain rfl : j = n2 := by rw [← hn2.out, riN_len]
    obtain ⟨p0, p1, p2, p3⟩ := two_cells hq0
    by_cases hlt : j < 8
    · have hst : riN (j + 1) (xs, er) = ((riN j (xs, er)).1 ++ [(ri (riN j (xs, er)).2).1], (ri (riN j (xs, er)).2).2) := rfl
      rw [ri_rnx] at hst
      have HST := hide hst
      clear hst
      generalize riN j (xs, er) = q at *
      obtain ⟨is, st⟩ := q
      obtain ⟨ys, e1⟩ := st
      simp only at ho hq0 hL HST p0 p1 hn2 hx2
      go_wp2_with fail
      refine (readnum_all A1 n1 c1 B e1 ys wr hL.out (by have := hb.size; omega)).mono ?_
      rintro e w3 ⟨A3, n3, c3, rfl, hL3, o1, o2, hw3⟩
      have b3' : Below wr.heap.size wr w3 := by rw [← hw3]; exact below2 wr o1 o2
      clear hw3
      have hu := rnx_lt ys e1
      generalize rnx ys e1 = q at *
      obtain ⟨u, ys3, e3⟩ := q
      simp only at hu hL3 HST
      have hz3 := b3'.size
      have h30 := (b3'.block _ (lt_of_block hq0)).trans hq0
      have h31 := (b3'.block _ (lt_of_block hq1)).trans hq1
      have h32 := (b3'.block _ (lt_of_block hq2)).trans hq2
      have ho3 := ho.below b3'
      have b3 := hb.trans (b3'.mono hb.size)
      clear p0 p1 p2 p3 hq0 hq1 hq2 ho hL hb b3' hx2
      have ba := (Below.refl _ w3).alloc (Nat.le_refl _) (.cells #[.slice A3 n3 c3, .int .i64 (e3 : Int)] 96)
      have hnew := heap_alloc_new w3 (.cells #[.slice A3 n3 c3, .int .i64 (e3 : Int)] 96)
      have ha0 := (Below.heap_alloc w3 (.cells #[.slice A3 n3 c3, .int .i64 (e3 : Int)] 96) w.heap.size (by omega)).trans h30
      go_upto_region 4 with fail
      generalize w3.alloc (.cells #[.slice A3 n3 c3, .int .i64 (e3 : Int)] 96) = w3a at *
      have hza := lt_of_block hnew
      obtain ⟨p0, p1, p2, p3⟩ := two_cells ha0
      obtain ⟨s0, s1, _, _⟩ := two_cells hnew
      go_wp2_with fail
      have hk4 : Kept (fun k => k = w.heap.size) w3 ((w3a.setCell ⟨w.heap.size, 0, none⟩ (.slice A3 n3 c3)).setCell ⟨w.heap.size, 1, none⟩ (.int .i64 (e3 : Int))) :=
        ((Kept.of_below (F := fun k => k = w.heap.size) ba).setCell (p := ⟨w.heap.size, 0, none⟩) (.inl rfl) _).setCell (p := ⟨w.heap.size, 1, none⟩) (.inl rfl) _
      have h40 := two_set1 (u := .int .i64 (e3 : Int)) (two_set0 (u := .slice A3 n3 c3) ha0)
      generalize (w3a.setCell ⟨w.heap.size, 0, none⟩ (.slice A3 n3 c3)).setCell ⟨w.heap.size, 1, none⟩ (.int .i64 (e3 : Int)) = w4 at *
      have hz4 := hk4.size
      have h41 := (hk4.block _ (by omega) (by omega)).trans h31
      have h42 := (hk4.block _ (by omega) (by omega)).trans h32
      have ho4 := ho3.keep fun g hg => hk4.block g ((ho3.lt g hg).2) (by have := (ho3.lt g hg).1; omega)
      have hL4 : Hid (e3 = 0 → Left w4 B A3 n3 c3 ys3) := hide (fun e => ⟨(hL3 e).1.keep fun b hlt => hk4.block b (by omega) (by omega), (hL3 e).2⟩)
      have b4 : Below w.heap.size w w4 := b3.trans (hk4.below (by omega) (fun k hk => by omega))
      clear p0 p1 p2 p3 h30 h31 h32 ho3 hL3 b3 hk4 s0 s1 ba hnew ha0 hza
      refine (refunfold_any u w4 hu).mono ?_
      rintro e w5 ⟨rfl, rfl⟩
      have hone := HasI.new w4 3 [zag u] (0, 0) _ rfl
      obtain ⟨v6, w6, hr6, ho6, hg6, hat6⟩ := run_append_ints (w4.alloc (.cells (icells [zag u]) 3)) 28 (w.heap.size + 1 + 1 + 1) _ is (ho4.below ((Below.refl _ _).alloc (Nat.le_refl _) _)) (w4.heap.size + 1) (some ⟨w4.heap.size, 0, none⟩) 1 1 [zag u] hone rfl (by rw [hn2.out]; omega) (by simp; omega)
      have b6 : Below (w.heap.size + 1 + 1 + 1) w4 w6 := ((Below.refl _ w4).alloc (by omega) _).grown hg6 (by simp; omega) (fun k e => (ho4.lt k e).1)
      have HR6 := hide hr6
      clear hr6 hone hg6 hat6
      go_wp2_with (at_builtin; refine list_append_want _ (by rfl) (.tmp 17) (.tmp 20) 28 28 rfl _ _ rfl rfl _ _ HR6.out ?_)
      have hz6 := b6.size
      have b6' := b4.trans (b6.mono (by omega))
      have hL6 : Hid (e3 = 0 → Left w6 B A3 n3 c3 ys3) := hide (fun e => (hL4.out e).below (b6.mono (by omega)))
      have h60 := (b6.block w.heap.size (by omega)).trans h40
      have h61 := (b6.block (w.heap.size + 1) (by omega)).trans h41
      have h62 := (b6.block (w.heap.size + 1 + 1) (by omega)).trans h42
      obtain ⟨A6, n6, c6, rfl, hn6, _, _⟩ := ho6.form
      have hn6' : n6 = j + 1 := by rw [← hn6.out, List.length_append, hn2.out]; rfl
      go_roundw
      case rel => exact ⟨j + 1, A3, n3, c3, by omega, by rw [HST.out]; exact ho6, by rw [HST.out]; exact h60, h61, h62, by rw [HST.out]; exact hL6, b6', by omega⟩
      case measure => simp; omega
    · obtain rfl : j = 8 := by omega
      have ht := tk_riN (xs, er)
      have HT1 := hide ht.1
      have HT2 := hide ht.2
      clear ht
      rw [← HT2.out] at hq0 hL
      rw [← HT1.out] at ho hn2 hx2
      generalize hst : (tk (xs, er)).2 = st at *
      generalize hcm : (tk (xs, er)).1 = cm at *
      have HST := hide hst
      have HCM := hide hcm
      clear hst hcm HT1 HT2
      obtain ⟨ab, ao, rfl, _, x0⟩ := hx2 0 (by show 0 < 8; omega)
      have x0 : wr.cell? ⟨ab, ao, none⟩ = some (.int .i64 cm.s) := x0
      have hab := (ho.lt ab rfl).1
      have HA1 : ab ≠ w.heap.size + 1 := by omega
      have HA2 : ab ≠ w.heap.size + 1 + 1 := by omega
      have x1 : wr.cell? ⟨ab, ao + 1, none⟩ = some (.int .i64 cm.q) := (hx2.at_ 1 (by show 1 < 8; omega)).2
      have x2 : wr.cell? ⟨ab, ao + 2, none⟩ = some (.int .i64 cm.a) := (hx2.at_ 2 (by show 2 < 8; omega)).2
      have x3 : wr.cell? ⟨ab, ao + 3, none⟩ = some (.int .i64 cm.k) := (hx2.at_ 3 (by show 3 < 8; omega)).2
      have x4 : wr.cell? ⟨ab, ao + 4, none⟩ = some (.int .i64 cm.r) := (hx2.at_ 4 (by show 4 < 8; omega)).2
      have x5 : wr.cell? ⟨ab, ao + 5, none⟩ = some (.int .i64 cm.t) := (hx2.at_ 5 (by show 5 < 8; omega)).2
      have x6 : wr.cell? ⟨ab, ao + 6, none⟩ = some (.int .i64 cm.re) := (hx2.at_ 6 (by show 6 < 8; omega)).2
      have x7 : wr.cell? ⟨ab, ao + 7, none⟩ = some (.int .i64 cm.im) := (hx2.at_ 7 (by show 7 < 8; omega)).2
      obtain ⟨p0, p1, p2, p3⟩ := two_cells hq0
      obtain ⟨z0, z1, z2, z3⟩ := two_cells hq1
      obtain ⟨y0a, y0b⟩ := row_cells hq2 0
      obtain ⟨y1a, y1b⟩ := row_cells hq2 1
      obtain ⟨y2a, y2b⟩ := row_cells hq2 2
      obtain ⟨y3a, y3b⟩ := row_cells hq2 3
      obtain ⟨y4a, y4b⟩ := row_cells hq2 4
      obtain ⟨y5a, y5b⟩ := row_cells hq2 5
      obtain ⟨y6a, y6b⟩ := row_cells hq2 6
      obtain ⟨y7a, y7b⟩ := row_cells hq2 7
      simp only [List.getElem?_toArray, List.getElem?_cons_succ, List.getElem?_cons_zero] at y0a y1a y2a y3a y4a y5a y6a y7a
      go_wp2_with fail
      have hzab := (ho.lt ab rfl).2
      have HS : Hid (∀ W, Kept (fun k => k = w.heap.size + 1 ∨ k = w.heap.size + 1 + 1) wr W → W.cell? ⟨w.heap.size, 0, none⟩ = some (.slice A1 n1 c1) ∧ W.cell? ⟨w.heap.size, 1, none⟩ = some (.int .i64 (st.2 : Int)) ∧ W.cell? ⟨ab, ao, none⟩ = some (.int .i64 cm.s) ∧ W.cell? ⟨ab, ao + 1, none⟩ = some (.int .i64 cm.q) ∧ W.cell? ⟨ab, ao + 2, none⟩ = some (.int .i64 cm.a) ∧ W.cell? ⟨ab, ao + 3, none⟩ = some (.int .i64 cm.k) ∧ W.cell? ⟨ab, ao + 4, none⟩ = some (.int .i64 cm.r) ∧ W.cell? ⟨ab, ao + 5, none⟩ = some (.int .i64 cm.t) ∧ W.cell? ⟨ab, ao + 6, none⟩ = some (.int .i64 cm.re) ∧ W.cell? ⟨ab, ao + 7, none⟩ = some (.int .i64 cm.im)) := hide (fun W h => by
        have e1 : ∀ i, W.cell? ⟨w.heap.size, i, none⟩ = wr.cell? ⟨w.heap.size, i, none⟩ := fun i => h.cell (by omega) (by omega)
        have e2 : ∀ i, W.cell? ⟨ab, i, none⟩ = wr.cell? ⟨ab, i, none⟩ := fun i => h.cell (by omega) (by omega)
        exact ⟨(e1 _).trans p0, (e1 _).trans p1, (e2 _).trans x0, (e2 _).trans x1, (e2 _).trans x2, (e2 _).trans x3, (e2 _).trans x4, (e2 _).trans x5, (e2 _).trans x6, (e2 _).trans x7⟩)
      clear hab HA1 HA2
      have HS7 : Hid (∀ W, Kept (fun k => k = w.heap.size + 1 ∨ k = w.heap.size + 1 + 1) wr.drew W → W.cell? ⟨w.heap.size, 0, none⟩ = some (.slice A1 n1 c1) ∧ W.cell? ⟨w.heap.size, 1, none⟩ = some (.int .i64 (st.2 : Int)) ∧ W.cell? ⟨ab, ao, none⟩ = some (.int .i64 cm.s) ∧ W.cell? ⟨ab, ao + 1, none⟩ = some (.int .i64 cm.q) ∧ W.cell? ⟨ab, ao + 2, none⟩ = some (.int .i64 cm.a) ∧ W.cell? ⟨ab, ao + 3, none⟩ = some (.int .i64 cm.k) ∧ W.cell? ⟨ab, ao + 4, none⟩ = some (.int .i64 cm.r) ∧ W.cell? ⟨ab, ao + 5, none⟩ = some (.int .i64 cm.t) ∧ W.cell? ⟨ab, ao + 6, none⟩ = some (.int .i64 cm.re) ∧ W.cell? ⟨ab, ao + 7, none⟩ = some (.int .i64 cm.im)) := hide (fun W h => HS.out W ((Kept.refl _ wr).drew.step h (fun k hk => .inl hk)))
      have hq17 : wr.drew.heap[w.heap.size + 1]? = some (.cells #[.slice none 0 0, .int .i64 0] 96 (0, 0)) := hq1
      have hq27 : wr.drew.heap[w.heap.size + 1 + 1]? = some (.cells #[.int .i64 0, .int .i64 0, .int .i64 0, .int .i64 0, .int .i64 0, .int .i64 0, .int .i64 0, .int .i64 0] 52 (0, 0)) := hq2
      have b7 : Below w.heap.size w wr.drew := hb.drew
      have hL7 : Hid (st.2 = 0 → Left wr.drew B A1 n1 c1 st.1) := hL
      have hz7 : w.heap.size + 1 + 1 + 1 < wr.drew.heap.size := hz
      refine wp_region_held_drew (S := fun W => W.cell? ⟨w.heap.size, 0, none⟩ = some (.slice A1 n1 c1) ∧ W.cell? ⟨w.heap.size, 1, none⟩ = some (.int .i64 (st.2 : Int)) ∧ W.cell? ⟨ab, ao, none⟩ = some (.int .i64 cm.s) ∧ W.cell? ⟨ab, ao + 1, none⟩ = some (.int .i64 cm.q) ∧ W.cell? ⟨ab, ao + 2, none⟩ = some (.int .i64 cm.a) ∧ W.cell? ⟨ab, ao + 3, none⟩ = some (.int .i64 cm.k) ∧ W.cell? ⟨ab, ao + 4, none⟩ = some (.int .i64 cm.r) ∧ W.cell? ⟨ab, ao + 5, none⟩ = some (.int .i64 cm.t) ∧ W.cell? ⟨ab, ao + 6, none⟩ = some (.int .i64 cm.re) ∧ W.cell? ⟨ab, ao + 7, none⟩ = some (.int .i64 cm.im)) (by kernel_rfl) (HS7.out _ (Kept.refl _ _)) (fun hHeld => ?_)
      clear HS hq1 hq2 hb hL hz hq0 p0 p1 p2 p3 z0 z1 z2 z3 y0a y0b x0 y1a y1b x1 y2a y2b x2 y3a y3b x3 y4a y4b x4 y5a y5b x5 y6a y6b x6 y7a y7b x7 hx2 hn2 hzab
      generalize wr.drew = w7 at *
      refine wpAnyH_take (i := 0) (oi := _) (v := .agg #[.slice A1 n1 c1, .int .i64 (st.2 : Int)]) rfl (by kernel_rfl) (by kernel_rfl) (by kernel_rfl) (fun _ _ _ h => h) (Or.inl ⟨by rfl, fun w' hSw => by dsimp only at hSw; go_simp⟩) hHeld ?_
      (try simp only [Act.put, List.setIfInBounds_toArray, List.set_cons_zero, List.set_cons_succ, List.getElem_toArray, List.getElem_cons_zero, List.getElem_cons_succ])
      refine wpAnyH_take (i := 1) (oi := _) (v := .slice (some ⟨ab, ao, none⟩) 8 c2) rfl (by kernel_rfl) (by kernel_rfl) (by kernel_rfl) (fun _ _ _ h => h) (Or.inl ⟨by rfl, fun w' hSw => by dsimp only at hSw; go_simp⟩) hHeld ?_
      (try simp only [Act.put, List.setIfInBounds_toArray, List.set_cons_zero, List.set_cons_succ, List.getElem_toArray, List.getElem_cons_zero, List.getElem_cons_succ])
      refine wpAnyH_take (i := 2) (oi := _) (v := .pointer (some ⟨ab, ao, none⟩)) rfl (by kernel_rfl) (by kernel_rfl) (by kernel_rfl) (fun _ _ _ h => h) (Or.inl ⟨by rfl, fun w' hSw => by dsimp only at hSw; go_simp⟩) hHeld ?_
      (try simp only [Act.put, List.setIfInBounds_toArray, List.set_cons_zero, List.set_cons_succ, List.getElem_toArray, List.getElem_cons_zero, List.getElem_cons_succ])
      refine wpAnyH_take (i := 3) (oi := _) (v := .int .i64 cm.s) rfl (by kernel_rfl) (by kernel_rfl) (by kernel_rfl) (fun _ _ _ h => h) (Or.inl ⟨by rfl, fun w' hSw => by dsimp only at hSw; go_simp⟩) hHeld ?_
      (try simp only [Act.put, List.setIfInBounds_toArray, List.set_cons_zero, List.set_cons_succ, List.getElem_toArray, List.getElem_cons_zero, List.getElem_cons_succ])
      refine wpAnyH_take (i := 4) (oi := _) (v := .slice (some ⟨ab, ao, none⟩) 8 c2) rfl (by kernel_rfl) (by kernel_rfl) (by kernel_rfl) (fun _ _ _ h => h) (Or.inl ⟨by rfl, fun w' hSw => by dsimp only at hSw; go_simp⟩) hHeld ?_
      (try simp only [Act.put, List.setIfInBounds_toArray, List.set_cons_zero, List.set_cons_succ, List.getElem_toArray, List.getElem_cons_zero, List.getElem_cons_succ])
      refine wpAnyH_take (i := 5) (oi := _) (v := .pointer (some ⟨ab, ao + 1, none⟩)) rfl (by kernel_rfl) (by kernel_rfl) (by kernel_rfl) (fun _ _ _ h => h) (Or.inl ⟨by rfl, fun w' hSw => by dsimp only at hSw; go_simp⟩) hHeld ?_
      (try simp only [Act.put, List.setIfInBounds_toArray, List.set_cons_zero, List.set_cons_succ, List.getElem_toArray, List.getElem_cons_zero, List.getElem_cons_succ])
      refine wpAnyH_take (i := 6) (oi := _) (v := .int .i64 cm.q) rfl (by kernel_rfl) (by kernel_rfl) (by kernel_rfl) (fun _ _ _ h => h) (Or.inl ⟨by rfl, fun w' hSw => by dsimp only at hSw; go_simp⟩) hHeld ?_
      (try simp only [Act.put, List.setIfInBounds_toArray, List.set_cons_zero, List.set_cons_succ, List.getElem_toArray, List.getElem_cons_zero, List.getElem_cons_succ])
      refine wpAnyH_take (i := 7) (oi := _) (v := .slice (some ⟨ab, ao, none⟩) 8 c2) rfl (by kernel_rfl) (by kernel_rfl) (by kernel_rfl) (fun _ _ _ h => h) (Or.inl ⟨by rfl, fun w' hSw => by dsimp only at hSw; go_simp⟩) hHeld ?_
      (try simp only [Act.put, List.setIfInBounds_toArray, List.set_cons_zero, List.set_cons_succ, List.getElem_toArray, List.getElem_cons_zero, List.getElem_cons_succ])
      refine wpAnyH_take (i := 8) (oi := _) (v := .pointer (some ⟨ab, ao + 2, none⟩)) rfl (by kernel_rfl) (by kernel_rfl) (by kernel_rfl) (fun _ _ _ h => h) (Or.inl ⟨by rfl, fun w' hSw => by dsimp only at hSw; go_simp⟩) hHeld ?_
      (try simp only [Act.put, List.setIfInBounds_toArray, List.set_cons_zero, List.set_cons_succ, List.getElem_toArray, List.getElem_cons_zero, List.getElem_cons_succ])
      refine wpAnyH_take (i := 9) (oi := _) (v := .int .i64 cm.a) rfl (by kernel_rfl) (by kernel_rfl) (by kernel_rfl) (fun _ _ _ h => h) (Or.inl ⟨by rfl, fun w' hSw => by dsimp only at hSw; go_simp⟩) hHeld ?_
      (try simp only [Act.put, List.setIfInBounds_toArray, List.set_cons_zero, List.set_cons_succ, List.getElem_toArray, List.getElem_cons_zero, List.getElem_cons_succ])
      refine wpAnyH_take (i := 10) (oi := _) (v := .slice (some ⟨ab, ao, none⟩) 8 c2) rfl (by kernel_rfl) (by kernel_rfl) (by kernel_rfl) (fun _ _ _ h => h) (Or.inl ⟨by rfl, fun w' hSw => by dsimp only at hSw; go_simp⟩) hHeld ?_
      (try simp only [Act.put, List.setIfInBounds_toArray, List.set_cons_zero, List.set_cons_succ, List.getElem_toArray, List.getElem_cons_zero, List.getElem_cons_succ])
      refine wpAnyH_take (i := 11) (oi := _) (v := .pointer (some ⟨ab, ao + 3, none⟩)) rfl (by kernel_rfl) (by kernel_rfl) (by kernel_rfl) (fun _ _ _ h => h) (Or.inl ⟨by rfl, fun w' hSw => by dsimp only at hSw; go_simp⟩) hHeld ?_
      (try simp only [Act.put, List.setIfInBounds_toArray, List.set_cons_zero, List.set_cons_succ, List.getElem_toArray, List.getElem_cons_zero, List.getElem_cons_succ])
      refine wpAnyH_take (i := 12) (oi := _) (v := .int .i64 cm.k) rfl (by kernel_rfl) (by kernel_rfl) (by kernel_rfl) (fun _ _ _ h => h) (Or.inl ⟨by rfl, fun w' hSw => by dsimp only at hSw; go_simp⟩) hHeld ?_
      (try simp only [Act.put, List.setIfInBounds_toArray, List.set_cons_zero, List.set_cons_succ, List.getElem_toArray, List.getElem_cons_zero, List.getElem_cons_succ])
      refine wpAnyH_take (i := 13) (oi := _) (v := .slice (some ⟨ab, ao, none⟩) 8 c2) rfl (by kernel_rfl) (by kernel_rfl) (by kernel_rfl) (fun _ _ _ h => h) (Or.inl ⟨by rfl, fun w' hSw => by dsimp only at hSw; go_simp⟩) hHeld ?_
      (try simp only [Act.put, List.setIfInBounds_toArray, List.set_cons_zero, List.set_cons_succ, List.getElem_toArray, List.getElem_cons_zero, List.getElem_cons_succ])
      refine wpAnyH_take (i := 14) (oi := _) (v := .pointer (some ⟨ab, ao + 4, none⟩)) rfl (by kernel_rfl) (by kernel_rfl) (by kernel_rfl) (fun _ _ _ h => h) (Or.inl ⟨by rfl, fun w' hSw => by dsimp only at hSw; go_simp⟩) hHeld ?_
      (try simp only [Act.put, List.setIfInBounds_toArray, List.set_cons_zero, List.set_cons_succ, List.getElem_toArray, List.getElem_cons_zero, List.getElem_cons_succ])
      refine wpAnyH_take (i := 15) (oi := _) (v := .int .i64 cm.r) rfl (by kernel_rfl) (by kernel_rfl) (by kernel_rfl) (fun _ _ _ h => h) (Or.inl ⟨by rfl, fun w' hSw => by dsimp only at hSw; go_simp⟩) hHeld ?_
      (try simp only [Act.put, List.setIfInBounds_toArray, List.set_cons_zero, List.set_cons_succ, List.getElem_toArray, List.getElem_cons_zero, List.getElem_cons_succ])
      refine wpAnyH_take (i := 16) (oi := _) (v := .slice (some ⟨ab, ao, none⟩) 8 c2) rfl (by kernel_rfl) (by kernel_rfl) (by kernel_rfl) (fun _ _ _ h => h) (Or.inl ⟨by rfl, fun w' hSw => by dsimp only at hSw; go_simp⟩) hHeld ?_
      (try simp only [Act.put, List.setIfInBounds_toArray, List.set_cons_zero, List.set_cons_succ, List.getElem_toArray, List.getElem_cons_zero, List.getElem_cons_succ])
      refine wpAnyH_take (i := 17) (oi := _) (v := .pointer (some ⟨ab, ao + 5, none⟩)) rfl (by kernel_rfl) (by kernel_rfl) (by kernel_rfl) (fun _ _ _ h => h) (Or.inl ⟨by rfl, fun w' hSw => by dsimp only at hSw; go_simp⟩) hHeld ?_
      (try simp only [Act.put, List.setIfInBounds_toArray, List.set_cons_zero, List.set_cons_succ, List.getElem_toArray, List.getElem_cons_zero, List.getElem_cons_succ])
      refine wpAnyH_take (i := 18) (oi := _) (v := .int .i64 cm.t) rfl (by kernel_rfl) (by kernel_rfl) (by kernel_rfl) (fun _ _ _ h => h) (Or.inl ⟨by rfl, fun w' hSw => by dsimp only at hSw; go_simp⟩) hHeld ?_
      (try simp only [Act.put, List.setIfInBounds_toArray, List.set_cons_zero, List.set_cons_succ, List.getElem_toArray, List.getElem_cons_zero, List.getElem_cons_succ])
      refine wpAnyH_take (i := 19) (oi := _) (v := .slice (some ⟨ab, ao, none⟩) 8 c2) rfl (by kernel_rfl) (by kernel_rfl) (by kernel_rfl) (fun _ _ _ h => h) (Or.inl ⟨by rfl, fun w' hSw => by dsimp only at hSw; go_simp⟩) hHeld ?_
      (try simp only [Act.put, List.setIfInBounds_toArray, List.set_cons_zero, List.set_cons_succ, List.getElem_toArray, List.getElem_cons_zero, List.getElem_cons_succ])
      refine wpAnyH_take (i := 20) (oi := _) (v := .pointer (some ⟨ab, ao + 6, none⟩)) rfl (by kernel_rfl) (by kernel_rfl) (by kernel_rfl) (fun _ _ _ h => h) (Or.inl ⟨by rfl, fun w' hSw => by dsimp only at hSw; go_simp⟩) hHeld ?_
      (try simp only [Act.put, List.setIfInBounds_toArray, List.set_cons_zero, List.set_cons_succ, List.getElem_toArray, List.getElem_cons_zero, List.getElem_cons_succ])
      refine wpAnyH_take (i := 21) (oi := _) (v := .int .i64 cm.re) rfl (by kernel_rfl) (by kernel_rfl) (by kernel_rfl) (fun _ _ _ h => h) (Or.inl ⟨by rfl, fun w' hSw => by dsimp only at hSw; go_simp⟩) hHeld ?_
      (try simp only [Act.put, List.setIfInBounds_toArray, List.set_cons_zero, List.set_cons_succ, List.getElem_toArray, List.getElem_cons_zero, List.getElem_cons_succ])
      refine wpAnyH_take (i := 22) (oi := _) (v := .slice (some ⟨ab, ao, none⟩) 8 c2) rfl (by kernel_rfl) (by kernel_rfl) (by kernel_rfl) (fun _ _ _ h => h) (Or.inl ⟨by rfl, fun w' hSw => by dsimp only at hSw; go_simp⟩) hHeld ?_
      (try simp only [Act.put, List.setIfInBounds_toArray, List.set_cons_zero, List.set_cons_succ, List.getElem_toArray, List.getElem_cons_zero, List.getElem_cons_succ])
      refine wpAnyH_take (i := 23) (oi := _) (v := .pointer (some ⟨ab, ao + 7, none⟩)) rfl (by kernel_rfl) (by kernel_rfl) (by kernel_rfl) (fun _ _ _ h => h) (Or.inl ⟨by rfl, fun w' hSw => by dsimp only at hSw; go_simp⟩) hHeld ?_
      (try simp only [Act.put, List.setIfInBounds_toArray, List.set_cons_zero, List.set_cons_succ, List.getElem_toArray, List.getElem_cons_zero, List.getElem_cons_succ])
      refine wpAnyH_take (i := 24) (oi := _) (v := .int .i64 cm.im) rfl (by kernel_rfl) (by kernel_rfl) (by kernel_rfl) (fun _ _ _ h => h) (Or.inl ⟨by rfl, fun w' hSw => by dsimp only at hSw; go_simp⟩) hHeld ?_
      (try simp only [Act.put, List.setIfInBounds_toArray, List.set_cons_zero, List.set_cons_succ, List.getElem_toArray, List.getElem_cons_zero, List.getElem_cons_succ])
      refine wpAnyH_take (i := 25) (oi := _) (v := .agg #[.int .i64 cm.k, .int .i64 cm.r, .int .i64 cm.t, .int .i64 cm.re, .int .i64 cm.im]) rfl (by kernel_rfl) (by kernel_rfl) (by kernel_rfl) (fun _ _ _ h => h) (Or.inl ⟨by rfl, fun w' hSw => by dsimp only at hSw; go_simp⟩) hHeld ?_
      (try simp only [Act.put, List.setIfInBounds_toArray, List.set_cons_zero, List.set_cons_succ, List.getElem_toArray, List.getElem_cons_zero, List.getElem_cons_succ])
      refine wpAnyH_take (i := 26) (oi := _) (v := .agg #[.int .i64 cm.s, .int .i64 cm.q, .int .i64 cm.a, .int .i64 cm.k, .int .i64 cm.r, .int .i64 cm.t, .int .i64 cm.re, .int .i64 cm.im]) rfl (by kernel_rfl) (by kernel_rfl) (by kernel_rfl) (fun _ _ _ h => h) (Or.inl ⟨by rfl, fun w' hSw => by dsimp only at hSw; go_simp⟩) hHeld ?_
      (try simp only [Act.put, List.setIfInBounds_toArray, List.set_cons_zero, List.set_cons_succ, List.getElem_toArray, List.getElem_cons_zero, List.getElem_cons_succ])
      have hk8 := Kept.of_setRow w7 (w.heap.size + 1) #[.slice A1 n1 c1, .int .i64 (st.2 : Int)]
      have hr81 := set_row_at (B := #[.slice A1 n1 c1, .int .i64 (st.2 : Int)]) hq17
      have hr82 := (hk8.block (w.heap.size + 1 + 1) (by omega) (by omega)).trans hq27
      refine wpAnyH_ready (rs := [27]) (by kernel_rfl) (by simp) ?_
      refine AllReadyH.cons (o := _) rfl (fun K hK => ?_) AllReadyH.nil
      (try simp only [List.getElem_toArray, List.getElem_cons_zero, List.getElem_cons_succ])
      rw [if_pos (by rfl)]
      refine wp_store_row 96 (.tmp 2) (.tmp 22) rfl (w.heap.size + 1) #[.slice A1 n1 c1, .int .i64 (st.2 : Int)] rfl rfl _ _ hq17 (by kernel_rfl) rfl (by simp; exact ⟨rfl, rfl⟩) ?_
      refine hK.out _ _ (HS7.out _ ((Kept.refl _ w7).step hk8 (fun k hk => .inl (.inl hk)))) (fun hHeld => ?_)
      clear hK
      (try simp only [Act.put, List.setIfInBounds_toArray, List.set_cons_zero, List.set_cons_succ, List.getElem_toArray, List.getElem_cons_zero, List.getElem_cons_succ])
      generalize w7.setRow (w.heap.size + 1) #[.slice A1 n1 c1, .int .i64 (st.2 : Int)] = w8 at *
      have hz8 := hk8.size
      have hk9 := Kept.of_setRow w8 (w.heap.size + 1 + 1) #[.int .i64 cm.s, .int .i64 cm.q, .int .i64 cm.a, .int .i64 cm.k, .int .i64 cm.r, .int .i64 cm.t, .int .i64 cm.re, .int .i64 cm.im]
      have hr92 := set_row_at (B := #[.int .i64 cm.s, .int .i64 cm.q, .int .i64 cm.a, .int .i64 cm.k, .int .i64 cm.r, .int .i64 cm.t, .int .i64 cm.re, .int .i64 cm.im]) hr82
      have hr91 := (hk9.block (w.heap.size + 1) (by omega) (by omega)).trans hr81
      refine wpAnyH_ready (rs := [28]) (by kernel_rfl) (by simp) ?_
      refine AllReadyH.cons (o := _) rfl (fun K hK => ?_) AllReadyH.nil
      (try simp only [List.getElem_toArray, List.getElem_cons_zero, List.getElem_cons_succ])
      rw [if_pos (by rfl)]
      refine wp_store_row 52 (.tmp 3) (.tmp 48) rfl (w.heap.size + 1 + 1) #[.int .i64 cm.s, .int .i64 cm.q, .int .i64 cm.a, .int .i64 cm.k, .int .i64 cm.r, .int .i64 cm.t, .int .i64 cm.re, .int .i64 cm.im] rfl rfl _ _ hr82 (by kernel_rfl) rfl (by simp; exact ⟨rfl, rfl, rfl, rfl, rfl, rfl, rfl, rfl⟩) ?_
      refine hK.out _ _ (HS7.out _ (((Kept.refl _ w7).step hk8 (fun k hk => .inl (.inl hk))).step hk9 (fun k hk => .inl (.inr hk)))) (fun hHeld => ?_)
      clear hK
      (try simp only [Act.put, List.setIfInBounds_toArray, List.set_cons_zero, List.set_cons_succ, List.getElem_toArray, List.getElem_cons_zero, List.getElem_cons_succ])
      generalize w8.setRow (w.heap.size + 1 + 1) #[.int .i64 cm.s, .int .i64 cm.q, .int .i64 cm.a, .int .i64 cm.k, .int .i64 cm.r, .int .i64 cm.t, .int .i64 cm.re, .int .i64 cm.im] = w9 at *
      refine wpAnyH_done (by kernel_rfl) ?_ _
      go_wp2_with fail
      have b9 : Below w.heap.size w w9 := (b7.trans (hk8.below (by omega) (fun k hk => by omega))).trans (hk9.below (by omega) (fun k hk => by omega))
      refine bodyPost_ret (v := .tuple #[.agg #[.slice A1 n1 c1, .int .i64 (st.2 : Int)], .agg #[.int .i64 cm.s, .int .i64 cm.q, .int .i64 cm.a, .int .i64 cm.k, .int .i64 cm.r, .int .i64 cm.t, .int .i64 cm.re, .int .i64 cm.im]]) (results_take rfl rfl hr91 hr92 rfl rfl) rfl ⟨⟨A1, n1, c1, by rw [HST.out, HCM.out]; rfl, fun e => ?_⟩, b9⟩
      rw [HST.out] at e ⊢
      have h9 := hL7.out e
      exact ⟨h9.1.keep fun b hlt => (hk9.block b (by have := b7.size; omega) (by omega)).trans (hk8.block b (by have := b7.size; omega) (by omega)), h9.2⟩
end Go.Proofs.Ytapbcpilklhoiaa
