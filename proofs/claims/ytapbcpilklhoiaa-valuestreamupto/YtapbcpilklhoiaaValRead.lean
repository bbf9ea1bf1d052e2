/-
  TakeCmd and Read of package value, whatever is read. No condition.
-/
import Derived.Test.YtapbcpilklhoiaaValOwn
import Derived.Test.YtapbcpilklhoiaaValWrite
import Derived.Deep.DeepCutAuto
set_option linter.unusedSimpArgs false
set_option linter.unusedVariables false
namespace Go.Proofs.Ytapbcpilklhoiaa
open Go.RowKit

/-- What a reader has left, and its error. -/
abbrev RSt := List UInt8 × Nat
def ri (s : RSt) : Int × RSt := if s.2 = 0 then (zag (rn s.1).1, (rn s.1).2) else (0, s)
def rc (most : Int) (s : RSt) : Nat × RSt := if s.2 = 0 then rcn s.1 most else (0, s)

theorem rint_st (g : Nat) (b : Option Nat) (s : RSt) (w : World) (h : Rd w g b s.1 s.2) : Calls Try.prog 78 #[.pointer (some ⟨g, 0, none⟩)] w (REnds g b (.int .i64 (ri s).1) (ri s).2.1 (ri s).2.2 w) := by
  obtain ⟨xs, er⟩ := s
  by_cases h0 : er = 0
  · subst h0
    exact rint_any g b xs w h
  · have e : ri (xs, er) = (0, (xs, er)) := if_neg h0
    rw [e]
    refine (rint_stuck g b xs er w h h0).mono ?_
    rintro e w' ⟨rfl, rfl⟩
    exact ⟨rfl, b, h, .inl rfl, Kept.refl _ _⟩
theorem rcount_st (g : Nat) (b : Option Nat) (s : RSt) (most : Int) (w : World) (h : Rd w g b s.1 s.2) (hm : IsInt most) : Calls Try.prog 77 #[.pointer (some ⟨g, 0, none⟩), .int .i64 most] w (REnds g b (.int .i64 ((rc most s).1 : Int)) (rc most s).2.1 (rc most s).2.2 w) := by
  obtain ⟨xs, er⟩ := s
  by_cases h0 : er = 0
  · subst h0
    exact rcount_any g b xs most w h hm
  · have e : rc most (xs, er) = (0, (xs, er)) := if_neg h0
    rw [e]
    refine (rcount_stuck g b xs er most w h h0 hm).mono ?_
    rintro e w' ⟨rfl, rfl⟩
    exact ⟨rfl, b, h, .inl rfl, Kept.refl _ _⟩

/-- What stands behind calls that read. -/
structure RGo (g : Nat) (b : Option Nat) (W0 : World) (s : RSt) (b' : Option Nat) (w' : World) : Prop where
  rd : Rd w' g b' s.1 s.2
  lie : b' = b ∨ b' = none
  kept : Kept (fun k => k = g) W0 w'
theorem RGo.step {g : Nat} {b b1 : Option Nat} {W0 w1 w2 : World} {s t : RSt} (h : RGo g b W0 s b1 w1) {b2 : Option Nat} (hr : Rd w2 g b2 t.1 t.2) (hl : b2 = b1 ∨ b2 = none) (hk : Kept (fun k => k = g) w1 w2) : RGo g b W0 t b2 w2 :=
  ⟨hr, by rcases hl with h1 | h1; rw [h1]; exact h.lie; exact .inr h1, h.kept.step hk (fun _ h => .inl h)⟩
theorem RGo.int {g : Nat} {b b1 : Option Nat} {W0 w1 : World} {s : RSt} (h : RGo g b W0 s b1 w1) : Calls Try.prog 78 #[.pointer (some ⟨g, 0, none⟩)] w1 fun e w' => e = .returned (.int .i64 (ri s).1) ∧ ∃ b', RGo g b W0 (ri s).2 b' w' :=
  (rint_st g b1 s w1 h.rd).mono fun e w' ⟨he, b2, hr, hl, hk⟩ => ⟨he, b2, h.step hr hl hk⟩
theorem RGo.count {g : Nat} {b b1 : Option Nat} {W0 w1 : World} {s : RSt} (h : RGo g b W0 s b1 w1) (most : Int) (hm : IsInt most) : Calls Try.prog 77 #[.pointer (some ⟨g, 0, none⟩), .int .i64 most] w1 fun e w' => e = .returned (.int .i64 ((rc most s).1 : Int)) ∧ ∃ b', RGo g b W0 (rc most s).2 b' w' :=
  (rcount_st g b1 s most w1 h.rd hm).mono fun e w' ⟨he, b2, hr, hl, hk⟩ => ⟨he, b2, h.step hr hl hk⟩
theorem RGo.alloc {g : Nat} {b b1 : Option Nat} {W0 w1 : World} {s : RSt} (h : RGo g b W0 s b1 w1) (o : Obj) : RGo g b W0 s b1 (w1.alloc o) :=
  ⟨h.rd.below ((Below.refl _ _).alloc (Nat.le_refl _) o), h.lie, h.kept.step (Kept.of_below (F := fun _ => False) ((Below.refl _ _).alloc (Nat.le_refl _) o)) (fun _ h => h.elim)⟩
theorem RGo.start {g : Nat} {b : Option Nat} {w : World} {s : RSt} (h : Rd w g b s.1 s.2) : RGo g b w s b w := ⟨h, .inl rfl, Kept.refl _ _⟩
theorem RGo.lt {g : Nat} {b b1 : Option Nat} {W0 w1 : World} {s : RSt} (h : RGo g b W0 s b1 w1) : g < w1.heap.size := by
  obtain ⟨_, _, _, hv, _⟩ := h.rd
  exact lt_of_block hv

/-- A command as it is read. -/
def tk (s : RSt) : Cmdv × RSt :=
  let s1 := (ri s).2
  let s2 := (ri s1).2
  let s3 := (ri s2).2
  let s4 := (ri s3).2
  let s5 := (ri s4).2
  let s6 := (ri s5).2
  let s7 := (ri s6).2
  (⟨(ri s).1, (ri s1).1, (ri s2).1, (ri s3).1, (ri s4).1, (ri s5).1, (ri s6).1, (ri s7).1⟩, (ri s7).2)

def zc8 : Array Value := #[.int .i64 0, .int .i64 0, .int .i64 0, .int .i64 0, .int .i64 0, .int .i64 0, .int .i64 0, .int .i64 0]
theorem row_cells {w : World} {g : Nat} {cs : Array Value} {t : TypeId} (h : w.heap[g]? = some (.cells cs t (0, 0))) (i : Nat) : w.cell? ⟨g, i, none⟩ = cs[i]? ∧ w.frozen? ⟨g, i, none⟩ = false := ⟨cell_of_row _ _ _ _ _ _ h, by simp [World.frozen?, h]⟩

theorem five_set {w : World} {g : Nat} {t : TypeId} {a0 a1 a2 a3 a4 a5 a6 a7 : Value} (h : w.heap[g]? = some (.cells #[a0, a1, a2, a3, a4, a5, a6, a7] t (0, 0))) (y3 y4 y5 y6 y7 : Value) :
    (((((w.setCell ⟨g, 3, none⟩ y3).setCell ⟨g, 4, none⟩ y4).setCell ⟨g, 5, none⟩ y5).setCell ⟨g, 6, none⟩ y6).setCell ⟨g, 7, none⟩ y7).heap[g]? = some (.cells #[a0, a1, a2, y3, y4, y5, y6, y7] t (0, 0)) := by
  simp [World.setCell, Array.getElem?_modify, h]
theorem Kept.of_setRow (w : World) (g : Nat) (A : Array Value) : Kept (fun k => k = g) w (w.setRow g A) :=
  ⟨rfl, rfl, rfl, by simp [World.setRow], fun k _ hn => by simp only [World.setRow, Array.getElem?_modify]; rw [if_neg (fun h => hn h.symm)]⟩
theorem set_row_at {w : World} {g : Nat} {t : TypeId} {A B : Array Value} {fr : Nat × Nat} (h : w.heap[g]? = some (.cells A t fr)) : (w.setRow g B).heap[g]? = some (.cells B t fr) := by
  simp [World.setRow, Array.getElem?_modify, h]

theorem results_cmd {tmps : Array Value} {w : World} {g : Nat} {A : Array Value} {t : TypeId} (h2 : tmps.getD 2 undef = .pointer (some ⟨g, 0, none⟩)) (hA : w.heap[g]? = some (.cells A t (0, 0))) (sA : A.size = 8) :
    (results Try.f53 tmps).run Try.prog w = .ok (.agg A) w := by
  have h2' : tmps[2]?.getD undef = .pointer (some ⟨g, 0, none⟩) := by simpa using h2
  have i1 : (Try.prog.info? 52).map (·.size) = some A.size := by rw [sA]; kernel_rfl
  have e1 := run_loadVar_row (P := Try.prog) w g t 52 A (0, 0) _ hA Try.underlying52 rfl i1
  simp [results, Try.results53, h2', asAddr, e1]

set_option maxHeartbeats 1600000 in
theorem takecmd_any (g : Nat) (b : Option Nat) (s : RSt) (w : World) (h : Rd w g b s.1 s.2) (hf : ∀ k, b = some k → k < w.heap.size) : Calls Try.prog 53 #[.pointer (some ⟨g, 0, none⟩)] w fun e w' => e = .returned (tk s).1.val ∧ ∃ b', RGo g b w (tk s).2 b' w' := by
  have h0 := RGo.start h
  have hg0 := h0.lt
  go_enter Try.func53, Try.ntmps53
  go_wp2_with fail
  have hr1 := heap_alloc_new w (.cells zc8 52)
  have hb1 : Below w.heap.size w (w.alloc (.cells zc8 52)) := (Below.refl _ _).alloc (Nat.le_refl _) _
  have h01 := RGo.start (h0.alloc (.cells zc8 52)).rd
  have hs1 : (w.alloc (.cells zc8 52)).heap.size = w.heap.size + 1 := by simp
  unfold zc8 at hr1 hb1 h01 hs1
  generalize w.alloc (.cells #[.int .i64 0, .int .i64 0, .int .i64 0, .int .i64 0, .int .i64 0, .int .i64 0, .int .i64 0, .int .i64 0] 52) = W1 at *
  refine (RGo.int h01).mono ?_
  rintro e w1 ⟨rfl, b1, h1⟩
  go_wp2_with fail
  refine (RGo.int h1).mono ?_
  rintro e w2 ⟨rfl, b2, h2⟩
  go_wp2_with fail
  refine (RGo.int h2).mono ?_
  rintro e w3 ⟨rfl, b3, h3⟩
  have e8 : tk s = (⟨(ri s).1, (ri (ri s).2).1, (ri (ri (ri s).2).2).1, (ri (ri (ri (ri s).2).2).2).1, (ri (ri (ri (ri (ri s).2).2).2).2).1, (ri (ri (ri (ri (ri (ri s).2).2).2).2).2).1, (ri (ri (ri (ri (ri (ri (ri s).2).2).2).2).2).2).1, (ri (ri (ri (ri (ri (ri (ri (ri s).2).2).2).2).2).2).2).1⟩, (ri (ri (ri (ri (ri (ri (ri (ri s).2).2).2).2).2).2).2).2) := rfl
  have E8 := hide e8
  clear e8 h1 h2 h01
  generalize (ri s).1 = x1 at *
  generalize (ri (ri s).2).1 = x2 at *
  generalize (ri (ri (ri s).2).2).1 = x3 at *
  generalize (ri (ri (ri s).2).2).2 = s3 at *
  go_wp2_with fail
  have hr3 : w3.heap[w.heap.size]? = _ := (h3.kept.block w.heap.size (by omega) (by omega)).trans hr1
  have hr4 := (Below.heap_alloc w3 (.cells #[.int .i64 x1, .int .i64 x2, .int .i64 x3, .int .i64 0, .int .i64 0, .int .i64 0, .int .i64 0, .int .i64 0] 52) w.heap.size (lt_of_block hr3)).trans hr3
  have hc4 := heap_alloc_new w3 (.cells #[.int .i64 x1, .int .i64 x2, .int .i64 x3, .int .i64 0, .int .i64 0, .int .i64 0, .int .i64 0, .int .i64 0] 52)
  have hb4 := h3.kept.step (Kept.of_below (F := fun _ => False) ((Below.refl _ _).alloc (Nat.le_refl _) (.cells #[.int .i64 x1, .int .i64 x2, .int .i64 x3, .int .i64 0, .int .i64 0, .int .i64 0, .int .i64 0, .int .i64 0] 52))) (fun _ h => h.elim)
  have h04 := RGo.start (h3.alloc (.cells #[.int .i64 x1, .int .i64 x2, .int .i64 x3, .int .i64 0, .int .i64 0, .int .i64 0, .int .i64 0, .int .i64 0] 52)).rd
  have hs4 : (w3.alloc (.cells #[.int .i64 x1, .int .i64 x2, .int .i64 x3, .int .i64 0, .int .i64 0, .int .i64 0, .int .i64 0, .int .i64 0] 52)).heap.size = w3.heap.size + 1 := by simp
  have hlt3 := lt_of_block hr3
  have hg3 := h3.lt
  have hl3 := h3.lie
  generalize w3.alloc (.cells #[.int .i64 x1, .int .i64 x2, .int .i64 x3, .int .i64 0, .int .i64 0, .int .i64 0, .int .i64 0, .int .i64 0] 52) = W4 at *
  clear hr3 h3
  refine (RGo.int h04).mono ?_
  rintro e w5 ⟨rfl, b5, h5⟩
  go_wp2_with fail
  refine (RGo.int h5).mono ?_
  rintro e w6 ⟨rfl, b6, h6⟩
  go_wp2_with fail
  refine (RGo.int h6).mono ?_
  rintro e w7 ⟨rfl, b7, h7⟩
  go_wp2_with fail
  refine (RGo.int h7).mono ?_
  rintro e w8 ⟨rfl, b8, h8⟩
  go_wp2_with fail
  refine (RGo.int h8).mono ?_
  rintro e w9 ⟨rfl, b9, h9⟩
  have hg9 := h9.lt
  have hr9 := (h9.kept.block w.heap.size (by omega) (by omega)).trans hr4
  have hc9 := (h9.kept.block w3.heap.size (by omega) (by omega)).trans hc4
  have hz9 := lt_of_block hc9
  generalize (ri s3).1 = x4 at *
  generalize (ri (ri s3).2).1 = x5 at *
  generalize (ri (ri (ri s3).2).2).1 = x6 at *
  generalize (ri (ri (ri (ri s3).2).2).2).1 = x7 at *
  generalize (ri (ri (ri (ri (ri s3).2).2).2).2).1 = x8 at *
  generalize (ri (ri (ri (ri (ri s3).2).2).2).2).2 = s8 at *
  clear h5 h6 h7 h8 h04 hr4 hc4 hr1
  have ne1 : w.heap.size ≠ w3.heap.size := by omega
  have c3 := (row_cells hc9 3).1
  have c4 := (row_cells hc9 4).1
  have c5 := (row_cells hc9 5).1
  have c6 := (row_cells hc9 6).1
  have c7 := (row_cells hc9 7).1
  have f3 := (row_cells hc9 3).2
  have f4 := (row_cells hc9 4).2
  have f5 := (row_cells hc9 5).2
  have f6 := (row_cells hc9 6).2
  have f7 := (row_cells hc9 7).2
  simp only [List.getElem?_toArray, List.getElem?_cons_succ, List.getElem?_cons_zero] at c3 c4 c5 c6 c7
  have H9 := hide h9
  have HR9 := hide hr9
  have HC9 := hide hc9
  have HB4 := hide hb4
  clear hs1 hs4 hb4 h9 hr9 hc9
  go_upto_region 3 with fail
  have hc10 := five_set HC9.out (.int .i64 x4) (.int .i64 x5) (.int .i64 x6) (.int .i64 x7) (.int .i64 x8)
  have hk10 : Kept (fun k => k = w3.heap.size) w9 (((((w9.setCell ⟨w3.heap.size, 3, none⟩ (.int .i64 x4)).setCell ⟨w3.heap.size, 4, none⟩ (.int .i64 x5)).setCell ⟨w3.heap.size, 5, none⟩ (.int .i64 x6)).setCell ⟨w3.heap.size, 6, none⟩ (.int .i64 x7)).setCell ⟨w3.heap.size, 7, none⟩ (.int .i64 x8)) :=
    (((((Kept.refl (fun k => k = w3.heap.size) w9).setCell (p := ⟨w3.heap.size, 3, none⟩) (.inl rfl) _).setCell (p := ⟨w3.heap.size, 4, none⟩) (.inl rfl) _).setCell (p := ⟨w3.heap.size, 5, none⟩) (.inl rfl) _).setCell (p := ⟨w3.heap.size, 6, none⟩) (.inl rfl) _).setCell (p := ⟨w3.heap.size, 7, none⟩) (.inl rfl) _
  generalize ((((w9.setCell ⟨w3.heap.size, 3, none⟩ (.int .i64 x4)).setCell ⟨w3.heap.size, 4, none⟩ (.int .i64 x5)).setCell ⟨w3.heap.size, 5, none⟩ (.int .i64 x6)).setCell ⟨w3.heap.size, 6, none⟩ (.int .i64 x7)).setCell ⟨w3.heap.size, 7, none⟩ (.int .i64 x8) = w10 at *
  have hr10 := (hk10.block w.heap.size (by omega) ne1).trans HR9.out
  have hk11 := Kept.of_setRow w10 w.heap.size #[.int .i64 x1, .int .i64 x2, .int .i64 x3, .int .i64 x4, .int .i64 x5, .int .i64 x6, .int .i64 x7, .int .i64 x8]
  have hr11 := set_row_at (B := #[.int .i64 x1, .int .i64 x2, .int .i64 x3, .int .i64 x4, .int .i64 x5, .int .i64 x6, .int .i64 x7, .int .i64 x8]) hr10
  clear c3 c4 c5 c6 c7 f3 f4 f5 f6 f7
  go_wp2_with (first
    | (refine wpList_load_row rfl 52 _ rfl w3.heap.size rfl _ _ _ _ hc10 Try.underlying52 rfl (by kernel_rfl) ?_)
    | (refine wpList_store_row rfl 52 _ _ rfl w.heap.size #[.int .i64 x1, .int .i64 x2, .int .i64 x3, .int .i64 x4, .int .i64 x5, .int .i64 x6, .int .i64 x7, .int .i64 x8] rfl rfl _ _ hr10 (by kernel_rfl) rfl (by simp; exact ⟨rfl, rfl, rfl, rfl, rfl, rfl, rfl, rfl⟩) ?_; generalize w10.setRow w.heap.size #[.int .i64 x1, .int .i64 x2, .int .i64 x3, .int .i64 x4, .int .i64 x5, .int .i64 x6, .int .i64 x7, .int .i64 x8] = w11 at *))
  have hlie : ∀ k, Foot g b9 k → k < w.heap.size := by
    intro k hk
    rcases hk with rfl | hk
    · exact hg0
    · rcases H9.out.lie with e | e
      · rcases hl3 with e' | e'
        · exact hf k (by rw [← e', ← e]; exact hk)
        · rw [e, e'] at hk; cases hk
      · rw [e] at hk; cases hk
  refine bodyPost_ret (v := .agg #[.int .i64 x1, .int .i64 x2, .int .i64 x3, .int .i64 x4, .int .i64 x5, .int .i64 x6, .int .i64 x7, .int .i64 x8]) (results_cmd rfl hr11 rfl) rfl ⟨by rw [E8.out]; rfl, b9, ?_⟩
  rw [E8.out]
  refine ⟨(H9.out.rd.kept hk10 (fun k hk h => by have := hlie k hk; omega)).kept hk11 (fun k hk h => by have := hlie k hk; omega), ?_, ?_⟩
  · rcases H9.out.lie with e | e
    · rcases hl3 with e' | e'
      · exact .inl (e.trans e')
      · exact .inr (e.trans e')
    · exact .inr e
  · exact (((((Kept.of_below (F := fun k => k = g) hb1).step HB4.out (fun k hk => .inl hk)).step H9.out.kept (fun k hk => .inl hk)).step hk10 (fun k hk => .inr (by omega))).step hk11 (fun k hk => .inr (by omega)))
end Go.Proofs.Ytapbcpilklhoiaa
