/-
  Check, Encode, Decode of a Stop. Conditions: the members are a right set, in reach.
-/
import Derived.Test.YtapbcpilklhoiaaValRead0
import Derived.Test.YtapbcpilklhoiaaBallotB
set_option linter.unusedSimpArgs false
set_option linter.unusedVariables false
namespace Go.Proofs.Ytapbcpilklhoiaa
open Go.RowKit

theorem shaped_stop (A A' : Option Addr) (c n' c' : Nat) (w : World) : Calls Try.prog 61 #[.agg #[.int .i64 2, .slice A 0 c, .slice A' n' c']] w fun e w' => e = .returned (.bool true) ∧ Below w.heap.size w w' := by
  go_enter Try.func61, Try.ntmps61
  go_wp2
  go_ret
  exact ⟨rfl, by go_grown⟩

theorem val_box {w w1 : World} {a b c : Value} {t : TypeId} (hb : Below (w.alloc (.cells #[a, b, c] t)).heap.size (w.alloc (.cells #[a, b, c] t)) w1) :
    w1.cell? ⟨w.heap.size, 0, none⟩ = some a ∧ w1.cell? ⟨w.heap.size, 1, none⟩ = some b ∧ w1.cell? ⟨w.heap.size, 2, none⟩ = some c ∧ w.heap.size < w1.heap.size := by
  have hz : w.heap.size < (w.alloc (.cells #[a, b, c] t)).heap.size := by simp
  refine ⟨(hb.cell (p := ⟨w.heap.size, 0, none⟩) hz).trans (cell_of_row _ _ _ _ _ _ (heap_alloc_new w _)), (hb.cell (p := ⟨w.heap.size, 1, none⟩) hz).trans (cell_of_row _ _ _ _ _ _ (heap_alloc_new w _)), (hb.cell (p := ⟨w.heap.size, 2, none⟩) hz).trans (cell_of_row _ _ _ _ _ _ (heap_alloc_new w _)), Nat.lt_of_lt_of_le hz hb.size⟩
theorem below_of_alloc' {w w1 : World} {o : Obj} (h : Below (w.alloc o).heap.size (w.alloc o) w1) : Below w.heap.size w w1 :=
  ((Below.refl _ _).alloc (Nat.le_refl _) o).trans (h.mono (by simp))

theorem vcheck_stop (A A' : Option Addr) (c n' c' B : Nat) (ns : List Int) (w : World) (hN : HasI w B A' ns) (hB : B ≤ w.heap.size) (hn : ns.length = n') (hl : n' ≤ 140737488355328) :
    Calls Try.prog 31 #[.agg #[.int .i64 2, .slice A 0 c, .slice A' n' c']] w fun e w' => e = .returned (.int .i64 (chkS ns)) ∧ Below w.heap.size w w' := by
  go_enter Try.func31, Try.ntmps31
  go_wp2_with fail
  refine (shaped_stop A A' c n' c' _).mono ?_
  rintro e w1 ⟨rfl, hb1⟩
  obtain ⟨c0, c1, c2, hz⟩ := val_box hb1
  have hN1 : HasI w1 B A' ns := (hN.alloc hB _).on (by simp; omega) hb1
  go_wp2_with fail
  refine (bcheck_any A' n' c' B ns w1 hN1 hn hl).mono ?_
  rintro e w2 ⟨rfl, rfl⟩
  go_wp2
  go_ret
  exact ⟨rfl, below_of_alloc' hb1⟩

set_option maxHeartbeats 800000 in
theorem vencode_stop (A A' : Option Addr) (c n' c' B : Nat) (ns : List Int) (w : World) (hN : HasI w B A' ns) (hB : B ≤ w.heap.size) (hn : ns.length = n') (hr : rightS ns) :
    Calls Try.prog 36 #[.agg #[.int .i64 2, .slice A 0 c, .slice A' n' c']] w fun e w' => ∃ v, e = .returned (.tuple #[v, .int .i64 0]) ∧ Own w' w.heap.size v (encV 2 [] ns) ∧ Below w.heap.size w w' := by
  have h7 : n' ≤ 7 := by rw [← hn]; exact hr.2.1
  have HC : Hid (chkS ns = 0) := hide (if_pos hr)
  have hlv : (encV 2 [] ns).length ≤ 1000 := by
    have h1 := encNs_length ns
    have h2 := bw_le (unb 2)
    have h3 := bw_le 0
    have h4 := bw_le ns.length
    unfold encV
    simp only [List.length_append, enc_length, List.length_nil, encCs, List.flatMap_nil]
    omega
  go_enter Try.func36, Try.ntmps36
  go_wp2_with fail
  refine (vcheck_stop A A' c n' c' B ns _ (hN.alloc hB _) (by simp; omega) hn (by omega)).mono ?_
  rintro e w1 ⟨rfl, hb1⟩
  rw [HC.out]
  obtain ⟨c0, c1, c2, hz⟩ := val_box hb1
  have hN1 : HasI w1 B A' ns := (hN.alloc hB _).on (by simp; omega) hb1
  have hb1' := below_of_alloc' hb1
  clear hb1
  go_wp2_with fail
  refine (newwriter_any w1).mono ?_
  rintro e w2 ⟨rfl, hw2⟩
  have hwr := wr_new w1 w1.heap.size (Nat.le_refl _)
  have hb2 : Below w1.heap.size w1 (w1.alloc (.cells #[.slice none 0 0] 104)) := (Below.refl _ _).alloc (Nat.le_refl _) _
  rw [hw2] at hwr hb2
  have hk0 : ∀ i, w2.cell? ⟨w.heap.size, i, none⟩ = w1.cell? ⟨w.heap.size, i, none⟩ := fun i => hb2.cell (p := ⟨w.heap.size, i, none⟩) hz
  have d0 := (hk0 0).trans c0
  have d1 := (hk0 1).trans c1
  have d2 := (hk0 2).trans c2
  have hN2 : HasI w2 B A' ns := hN1.on (by omega) hb2
  clear hw2 hk0
  go_wp2_with fail
  refine (vwrite_any w1.heap.size w1.heap.size none [] 2 A A' 0 c n' c' B [] ns w2 hwr (HasC.nil _ _ _) hN2 (by omega) rfl hn (by simp) (by simp; omega)).mono ?_
  rintro e w3 ⟨rfl, b3, hw3, _, hk3⟩
  have hb3 : Below w1.heap.size w2 w3 := hk3.below hb2.size (fun k hk => (hwr.foot k hk).1)
  have hb3' := hb1'.trans ((hb2.trans hb3).mono hb1'.size)
  rw [List.nil_append] at hw3
  go_wp2_with fail
  refine (wbytes_any w1.heap.size w1.heap.size b3 (encV 2 [] ns) w3 hw3 (by omega)).mono ?_
  rintro e w4 ⟨v4, rfl, ho4, hb4⟩
  go_wp2
  go_returns
  exact ⟨v4, rfl, ho4.from_ hb3'.size, hb3'.trans (hb4.mono hb3'.size)⟩

/-- The bytes of the head. -/
def hb9 : List UInt8 := [1, 2, 0, 1, 2, 1, 1, 1, 2]
theorem encV_head : encV 2 [] [1, 2] = hb9 := by decide
theorem rd_head : rc 2 (hb9, 0) = (2, ([0, 1, 2, 1, 1, 1, 2], 0)) ∧ rc 8 ([0, 1, 2, 1, 1, 1, 2], 0) = (0, ([1, 2, 1, 1, 1, 2], 0)) ∧ rc 7 ([1, 2, 1, 1, 1, 2], 0) = (2, ([1, 1, 1, 2], 0)) ∧ rdN 2 ([1, 1, 1, 2], 0) = ([1, 2], ([], 0)) := by decide

theorem results_dec {tmps : Array Value} {w : World} {g : Nat} {A : Array Value} {t : TypeId} {e : Int} (h2 : tmps.getD 2 undef = .pointer (some ⟨g, 0, none⟩)) (h3 : tmps.getD 3 undef = .int .i64 e) (hA : w.heap[g]? = some (.cells A t (0, 0))) (sA : A.size = 3) :
    (results Try.f41 tmps).run Try.prog w = .ok (.tuple #[.agg A, .int .i64 e]) w := by
  have h2' : tmps[2]?.getD undef = .pointer (some ⟨g, 0, none⟩) := by simpa using h2
  have h3' : tmps[3]?.getD undef = .int .i64 e := by simpa using h3
  have i1 : (Try.prog.info? 48).map (·.size) = some A.size := by rw [sA]; kernel_rfl
  have e1 := run_loadVar_row (P := Try.prog) w g t 48 A (0, 0) _ hA Try.underlying48 rfl i1
  simp [results, Try.results41, h2', h3', asAddr, e1]
  try rfl

set_option maxHeartbeats 800000 in
theorem vdecode_head (A : Option Addr) (c B : Nat) (w : World) (hx : Has w B A hb9) (hB : B ≤ w.heap.size) :
    Calls Try.prog 41 #[.slice A 9 c] w fun e w' => ∃ A' c', e = .returned (.tuple #[.agg #[.int .i64 2, .slice none 0 0, .slice A' 2 c'], .int .i64 0]) ∧ OwnI w' w.heap.size (.slice A' 2 c') [1, 2] ∧ Below w.heap.size w w' := by
  obtain ⟨r1, r2, r3, r4⟩ := rd_head
  go_enter Try.func41, Try.ntmps41
  go_wp2_with fail
  have hr0 := heap_alloc_new w (.cells #[.int .i64 0, .slice none 0 0, .slice none 0 0] 48)
  have hb0 : Below w.heap.size w (w.alloc (.cells #[.int .i64 0, .slice none 0 0, .slice none 0 0] 48)) := (Below.refl _ _).alloc (Nat.le_refl _) _
  have hs0 : (w.alloc (.cells #[.int .i64 0, .slice none 0 0, .slice none 0 0] 48)).heap.size = w.heap.size + 1 := by simp
  have hx0 : Has (w.alloc (.cells #[.int .i64 0, .slice none 0 0, .slice none 0 0] 48)) B A hb9 := hx.alloc hB _
  generalize w.alloc (.cells #[.int .i64 0, .slice none 0 0, .slice none 0 0] 48) = W0 at *
  refine (newreader_any A 9 c B hb9 W0 hx0 (by omega) rfl (by omega)).mono ?_
  rintro e w1 ⟨g, b, rfl, hrd, hft, hb1⟩
  have hr1 := (hb1.block w.heap.size (by omega)).trans hr0
  have hgf : W0.heap.size ≤ g := (hft g (.inl rfl)).1
  go_wp2_with fail
  refine (vread0 g b (hb9, 0) w1 hrd (fun k hk => (hft k (.inr hk)).2) _ _ _ 2 2 (by omega) r1 r2 r3).mono ?_
  rintro e w2 ⟨A2, n2, c2, rfl, hn2, ho2, b2, h2⟩
  rw [r4] at hn2 ho2 h2
  have hn2' : n2 = 2 := by rw [← hn2.out]; rfl
  subst hn2'
  simp only at ho2 h2
  obtain ⟨A', n', c', e', _, _, hx2⟩ := ho2.form
  injection e' with e1 e2 e3
  subst e1 e2 e3
  have hr2 := (h2.kept.block w.heap.size (lt_of_block hr1) (by omega)).trans hr1
  have hb2 : Below w.heap.size w w2 := (hb0.trans (hb1.mono (by omega))).trans (h2.kept.below (by have := hb1.size; omega) (fun k hk => by omega))
  have hz2 := lt_of_block hr2
  have hnb := heap_alloc_new w2 (.cells #[.int .i64 2, .slice none 0 0, .slice A2 2 c2] 48)
  have hr3 := (Below.heap_alloc w2 (.cells #[.int .i64 2, .slice none 0 0, .slice A2 2 c2] 48) w.heap.size hz2).trans hr2
  have hrd3 := (h2.alloc (.cells #[.int .i64 2, .slice none 0 0, .slice A2 2 c2] 48)).rd
  have ho3 := ho2.below ((Below.refl _ _).alloc (Nat.le_refl _) (.cells #[.int .i64 2, .slice none 0 0, .slice A2 2 c2] 48))
  have hx3 : HasI (w2.alloc (.cells #[.int .i64 2, .slice none 0 0, .slice A2 2 c2] 48)) w2.heap.size A2 [1, 2] := hx2.alloc (Nat.le_refl _) _
  have hb3 := hb2.alloc hb2.size (.cells #[.int .i64 2, .slice none 0 0, .slice A2 2 c2] 48)
  have hs3 : (w2.alloc (.cells #[.int .i64 2, .slice none 0 0, .slice A2 2 c2] 48)).heap.size = w2.heap.size + 1 := by simp
  go_wp2_with fail
  generalize w2.alloc (.cells #[.int .i64 2, .slice none 0 0, .slice A2 2 c2] 48) = W3 at *
  refine (rdone_end g b2 W3 hrd3).mono ?_
  rintro e w4 ⟨rfl, rfl⟩
  have k0 := (row_cells hnb 0).1
  have k1 := (row_cells hnb 1).1
  have k2 := (row_cells hnb 2).1
  simp only [List.getElem?_toArray, List.getElem?_cons_succ, List.getElem?_cons_zero] at k0 k1 k2
  go_wp2_with fail
  refine (vcheck_stop none A2 0 2 c2 w2.heap.size [1, 2] W3 hx3 (by omega) rfl (by omega)).mono ?_
  rintro e w5 ⟨rfl, hb5⟩
  rw [show chkS [1, 2] = 0 from by decide]
  have hnb5 := (hb5.block w2.heap.size (by omega)).trans hnb
  have hr5 := (hb5.block w.heap.size (by omega)).trans hr3
  have ho5 := ho3.below hb5
  have hb5' := hb3.trans (hb5.mono hb3.size)
  have hz5 := lt_of_block hnb5
  have hr11 := set_row_at (B := #[.int .i64 2, .slice none 0 0, .slice A2 2 c2]) hr5
  have hk11 := Kept.of_setRow w5 w.heap.size #[.int .i64 2, .slice none 0 0, .slice A2 2 c2]
  go_wp2_with (first
    | (refine wpList_load_row rfl 48 _ rfl w2.heap.size rfl _ _ _ _ hnb5 Try.underlying48 rfl (by kernel_rfl) ?_)
    | (refine wpList_store_row rfl 48 _ _ rfl w.heap.size #[.int .i64 2, .slice none 0 0, .slice A2 2 c2] rfl rfl _ _ hr5 (by kernel_rfl) rfl (by simp; exact ⟨rfl, rfl, rfl⟩) ?_; generalize w5.setRow w.heap.size #[.int .i64 2, .slice none 0 0, .slice A2 2 c2] = w11 at *))
  refine bodyPost_ret (v := .tuple #[.agg #[.int .i64 2, .slice none 0 0, .slice A2 2 c2], .int .i64 0]) (results_dec rfl rfl hr11 rfl) rfl ⟨A2, c2, rfl, ?_, ?_⟩
  · have hz1 := hb1.size
    exact (ho5.keep fun k hk => hk11.block k ((ho5.lt k hk).2) (by have := (ho5.lt k hk).1; omega)).from_ (by omega)
  · exact hb5'.trans (hk11.below (by omega) (fun k hk => by omega))
end Go.Proofs.Ytapbcpilklhoiaa
