/-
  The head of the laws of package lease; far. No condition.
-/
import Derived.Test.YtgdncmkhcdmjoaaLeaseD
set_option linter.unusedSimpArgs false
set_option linter.unusedVariables false
namespace Go.Proofs.Ytgdncmkhcdmjoaa
open Go.RowKit
/-- A row that is stored into a new box. -/
theorem box_rowL {w w3 : World} {t : TypeId} {Z R : Array Value} (h : (w.alloc (.cells Z t)).setRow w.heap.size R = w3) : w3.heap[w.heap.size]? = some (.cells R t (0, 0)) ∧ Below w.heap.size w w3 ∧ w3.heap.size = w.heap.size + 1 := by
  subst h
  have hk := Kept.of_setRow (w.alloc (.cells Z t)) w.heap.size R
  refine ⟨set_row_at (heap_alloc_new w _), ((Below.refl _ _).alloc (Nat.le_refl _) _).trans (hk.below (by simp) (fun j hj => by omega)), ?_⟩
  rw [show ((w.alloc (.cells Z t)).setRow w.heap.size R).heap.size = (w.alloc (.cells Z t)).heap.size from by simp [World.setRow]]
  simp
theorem far_any (n : Int) (w : World) : Calls Try.prog 21 #[.int .i64 n] w fun e w' => e = .returned (.bool (decide (n < -1152921504606846976 ∨ 1152921504606846976 < n))) ∧ w = w' := by
  by_cases h1 : n < -1152921504606846976
  · rw [decide_eq_true (show n < -1152921504606846976 ∨ 1152921504606846976 < n from .inl h1)]
    go_enter Try.func21, Try.ntmps21
    go_wp2
    go_ret
    exact ⟨rfl, rfl⟩
  · by_cases h2 : 1152921504606846976 < n
    · rw [decide_eq_true (show n < -1152921504606846976 ∨ 1152921504606846976 < n from .inr h2)]
      go_enter Try.func21, Try.ntmps21
      go_wp2
      go_ret
      exact ⟨rfl, rfl⟩
    · rw [decide_eq_false (show ¬ (n < -1152921504606846976 ∨ 1152921504606846976 < n) by omega)]
      have d1 : decide (n < -1152921504606846976) = false := decide_eq_false h1
      have d2 : decide (1152921504606846976 < n) = false := decide_eq_false h2
      clear h1 h2
      go_enter Try.func21, Try.ntmps21
      go_wp2
      go_ret
      exact ⟨rfl, rfl⟩
def hg0 : Gr := Gr.new 10 0 false
def hg1 : Gr := (hg0.grant 1 2 5).1
def hg2 : Gr := hg1.look 14
def hg3 : Gr := hg2.look 14
def hg4 : Gr := hg3.look 15
def hh0 : Hd := Hd.new [1, 2, 3] 10 0
def hh1 : Hd := (hh0.granted 1 4).1
def hh2 : Hd := (hh1.granted 3 6).1
theorem hg_all : (hg0.grant 1 2 5).2 = true ∧ hg2.bars 2 3 = true ∧ hg3.bars 1 2 = false ∧ hg4.bars 2 3 = false := by decide
theorem hh_all : (hh0.granted 1 4).2 = true ∧ (hh1.granted 3 6).2 = true ∧ hh2.valid 13 = true ∧ hh2.valid 14 = false := by decide
set_option maxHeartbeats 3200000 in
set_option maxRecDepth 20000 in
theorem head18_any (w : World) : Calls Try.prog 20 #[] w fun e w' => e = .returned (.bool true) ∧ Below w.heap.size w w' := by
  obtain ⟨a1, a2, a3, a4⟩ := hg_all
  obtain ⟨b1, b2, b3, b4⟩ := hh_all
  go_enter Try.func20, Try.ntmps20
  go_wp2_with fail
  refine (gnew_any 10 0 false w (by unfold In64'; omega)).mono ?_
  rintro e w1 ⟨rfl, hg, hb1⟩
  have hg : IsG w1 w.heap.size hg0 := hg
  have hm0 : HasI (w1.alloc (.cells (icells [1, 2, 3]) 3)) (w1.heap.size + 1) (some ⟨w1.heap.size, 0, none⟩) [1, 2, 3] := HasI.new w1 3 [1, 2, 3] (0, 0) w1.heap.size rfl
  have ba := (Below.refl _ w1).alloc (Nat.le_refl _) (.cells (icells [1, 2, 3]) 3)
  have hic : icells [1, 2, 3] = #[.int .i64 1, .int .i64 2, .int .i64 3] := rfl
  rw [hic] at hm0 ba
  have hz0 : w1.heap.size + 1 ≤ (w1.alloc (.cells #[.int .i64 1, .int .i64 2, .int .i64 3] 3)).heap.size := by simp
  clear hic
  go_wp2_with fail
  generalize w1.alloc (.cells #[.int .i64 1, .int .i64 2, .int .i64 3] 3) = w2 at *
  refine (hnew_any _ 3 _ _ _ 10 0 w2 hm0 hz0 rfl (by omega)).mono ?_
  rintro e w3 ⟨h1, _, hb3⟩
  obtain ⟨gh, A, n, c, mb, rfl, hh, hgh, hmb⟩ := h1 (by decide)
  have hh : IsH w3 gh A n c mb hh0 := hh
  have b13 : Below w1.heap.size w1 w3 := ba.trans (hb3.mono ba.size)
  have HG3 := hide (hg.below b13)
  have HH3 := hide hh
  have HB3 := hide (hb1.trans (b13.mono hb1.size))
  have HS3 := hide (And.intro (show w.heap.size ≤ gh by have := hb1.size; omega) (show w.heap.size ≤ mb by have := hb1.size; omega))
  have qg := eq_pG w.heap.size
  have qh := eq_pH gh
  clear h1 hm0 ba hz0 hb1 hb3 b13 hg hh hgh hmb
  go_upto_region 5 with fail
  have ha := heap_alloc_new w3 (.cells #[.int .i64 1, .int .i64 2] 46)
  have hb4 := (Below.refl _ w3).alloc (Nat.le_refl _) (.cells #[.int .i64 1, .int .i64 2] 46)
  have hz4 : (w3.alloc (.cells #[.int .i64 1, .int .i64 2] 46)).heap.size = w3.heap.size + 1 := by simp
  have hb := heap_alloc_new (w3.alloc (.cells #[.int .i64 1, .int .i64 2] 46)) (.cells #[.int .i64 2, .int .i64 3] 46)
  have hb5 := (Below.refl _ (w3.alloc (.cells #[.int .i64 1, .int .i64 2] 46))).alloc (Nat.le_refl _) (.cells #[.int .i64 2, .int .i64 3] 46)
  rw [hz4] at hb
  generalize (w3.alloc (.cells #[.int .i64 1, .int .i64 2] 46)).alloc (.cells #[.int .i64 2, .int .i64 3] 46) = w5 at *
  generalize w3.alloc (.cells #[.int .i64 1, .int .i64 2] 46) = w4 at *
  have ha5 := (hb5.block _ (lt_of_block ha)).trans ha
  have b35 := hb4.trans (hb5.mono hb4.size)
  have HA := hide ha5
  have HB := hide hb
  have HG5 := hide (HG3.out.below b35)
  have HGX : Hid (w5.heap[w.heap.size]? = _) := hide HG5.out.blk
  have HH5 := hide (HH3.out.below b35)
  have HB5 := hide (HB3.out.trans (b35.mono HB3.out.size))
  have HGA : Hid (w.heap.size < w3.heap.size) := hide HG3.out.lt
  obtain ⟨pb, hpb⟩ : ∃ pb, pb = w3.heap.size + 1 := ⟨_, rfl⟩
  rw [← hpb] at HB ⊢
  have HPB := hide hpb
  clear hpb
  generalize w3.heap.size = pa at *
  have HNE : Hid (pa ≠ w.heap.size ∧ pb ≠ w.heap.size) := hide (by have := HGA.out; have := HPB.out; omega)
  clear ha ha5 hb hb4 hb5 b35 HG3 HH3 HB3 hz4
  obtain ⟨x0, _⟩ := row_cells HA.out 0
  obtain ⟨x1, _⟩ := row_cells HA.out 1
  simp only [List.getElem?_toArray, List.getElem?_cons_succ, List.getElem?_cons_zero] at x0 x1
  go_wp2_with fail
  refine (ggrant_any HG5.out 1 2 5 (by unfold In64'; omega)).mono ?_
  rintro e w6 ⟨rfl, g6, k6⟩
  rw [a1]
  have g6 : IsG w6 w.heap.size hg1 := g6
  have ha6 := (k6.block pa (lt_of_block HA.out) HNE.out.1).trans HA.out
  have hb6 := (k6.block pb (lt_of_block HB.out) HNE.out.2).trans HB.out
  have HA6 := hide ha6
  have HB6 := hide hb6
  have K6 := hide k6
  clear x0 x1 ha6 hb6 k6
  obtain ⟨x0, _⟩ := row_cells HB6.out 0
  obtain ⟨x1, _⟩ := row_cells HB6.out 1
  simp only [List.getElem?_toArray, List.getElem?_cons_succ, List.getElem?_cons_zero] at x0 x1
  go_wp2_with fail
  refine (gbars_any g6 2 3 14 (by unfold In64'; omega)).mono ?_
  rintro e w7 ⟨rfl, g7, k7⟩
  rw [show (hg1.look 14).bars 2 3 = true from a2]
  have g7 : IsG w7 w.heap.size hg2 := g7
  have ha7 := (k7.block pa (lt_of_block HA6.out) HNE.out.1).trans HA6.out
  have hb7 := (k7.block pb (lt_of_block HB6.out) HNE.out.2).trans HB6.out
  have HA7 := hide ha7
  have HB7 := hide hb7
  have K7 := hide (K6.out.step k7 (fun j hj => .inl hj))
  clear x0 x1 ha7 hb7 k7 g6
  obtain ⟨x0, _⟩ := row_cells HA7.out 0
  obtain ⟨x1, _⟩ := row_cells HA7.out 1
  simp only [List.getElem?_toArray, List.getElem?_cons_succ, List.getElem?_cons_zero] at x0 x1
  go_wp2_with fail
  refine (gbars_any g7 1 2 14 (by unfold In64'; omega)).mono ?_
  rintro e w8 ⟨rfl, g8, k8⟩
  rw [show (hg2.look 14).bars 1 2 = false from a3]
  have g8 : IsG w8 w.heap.size hg3 := g8
  have hb8 := (k8.block pb (lt_of_block HB7.out) HNE.out.2).trans HB7.out
  have HB8 := hide hb8
  have K8 := hide (K7.out.step k8 (fun j hj => .inl hj))
  clear x0 x1 hb8 k8 g7
  obtain ⟨x0, _⟩ := row_cells HB8.out 0
  obtain ⟨x1, _⟩ := row_cells HB8.out 1
  simp only [List.getElem?_toArray, List.getElem?_cons_succ, List.getElem?_cons_zero] at x0 x1
  go_wp2_with fail
  refine (gbars_any g8 2 3 15 (by unfold In64'; omega)).mono ?_
  rintro e w9 ⟨rfl, g9, k9⟩
  rw [show (hg3.look 15).bars 2 3 = false from a4]
  have K9 := hide (K8.out.step k9 (fun j hj => .inl hj))
  have B9 := hide (HB5.out.trans (K9.out.below HB5.out.size (fun j hj => by omega)))
  have HH9 : IsH w9 gh A n c mb hh0 := HH5.out.kept K9.out (HGX.out.trans rfl) (by decide) (by decide)
  clear x0 x1 k9 g8 g9
  go_wp2_with fail
  refine (hgranted_any HH9 1 4 (by decide) (by unfold In64'; omega)).mono ?_
  rintro e w10 ⟨rfl, h10, k10⟩
  rw [b1]
  have h10 : IsH w10 gh A n c mb hh1 := h10
  go_wp2_with fail
  refine (hgranted_any h10 3 6 (by decide) (by unfold In64'; omega)).mono ?_
  rintro e w11 ⟨rfl, h11, k11⟩
  rw [b2]
  have h11 : IsH w11 gh A n c mb hh2 := h11
  have B11 := hide (B9.out.trans ((k10.step k11 (fun j hj => .inl hj)).below B9.out.size (fun j hj => by have := HS3.out; omega)))
  clear h10 k10 k11
  go_wp2_with fail
  refine (hvalid_any h11 13 (by unfold In64'; omega)).mono ?_
  rintro e w12 ⟨rfl, hb12⟩
  rw [b3]
  go_wp2_with fail
  refine (hvalid_any (h11.below hb12) 14 (by unfold In64'; omega)).mono ?_
  rintro e w13 ⟨rfl, hb13⟩
  rw [b4]
  go_wp2
  go_ret
  exact ⟨rfl, B11.out.trans ((hb12.trans (hb13.mono hb12.size)).mono B11.out.size)⟩
end Go.Proofs.Ytgdncmkhcdmjoaa
