/-
  The reference's Without and Lose of package net. Conditions: what is read is in reach.
-/
import Derived.Test.YtpbfibofjkinmaaNetI
set_option linter.unusedSimpArgs false
set_option linter.unusedVariables false
namespace Go.Proofs.Ytpbfibofjkinmaa
open Go.RowKit

theorem OwnR.empty (w : World) (g base : Nat) (e : TypeId) (k : Nat) (hg : g = w.heap.size) (hb : base ≤ g) : OwnR (w.alloc (.cells #[] e)) base e k (.slice (some ⟨g, 0, none⟩) 0 0) [] := by
  subst hg
  refine ⟨⟨by simp, .inr ⟨w.heap.size, 0, #[], rfl, hb, heap_alloc_new w _, by simp, by unfold maxLen; omega, by simp, by simp⟩⟩, Wide.nil k⟩

/-- The packets without the i-th. -/
def wo (i : Int) (ps : List Pkt) : List Pkt := if 0 ≤ i ∧ i < (ps.length : Int) then ps.take i.toNat ++ ps.drop (i.toNat + 1) else ps
theorem wo_snoc (i : Int) (ps : List Pkt) (p : Pkt) : wo i (ps ++ [p]) = if (ps.length : Int) = i then wo i ps else wo i ps ++ [p] := by
  unfold wo
  by_cases h : (ps.length : Int) = i
  · rw [if_pos h, if_pos (by simp; omega), if_neg (by omega)]
    have e : i.toNat = ps.length := by omega
    rw [e, List.take_append_of_le_length (Nat.le_refl _), List.take_length, List.drop_of_length_le (by simp)]
    simp
  · rw [if_neg h]
    by_cases h2 : 0 ≤ i ∧ i < (ps.length : Int)
    · rw [if_pos (by simp; omega), if_pos h2, List.take_append_of_le_length (by omega), List.drop_append_of_le_length (by omega), List.append_assoc]
    · rw [if_neg (by simp; omega), if_neg h2]
theorem wo_nil (i : Int) : wo i [] = [] := by unfold wo; simp
theorem wo_len (i : Int) (ps : List Pkt) : (wo i ps).length ≤ ps.length := by
  unfold wo
  split
  · simp; omega
  · exact Nat.le_refl _

/-- What a function of the reference's makes: new rows. -/
def MadeR (qs : List Pkt) (w : World) (e : Ending) (w' : World) : Prop := ∃ g n c, e = .returned (.slice (some ⟨g, 0, none⟩) n c) ∧ OwnR w' w.heap.size 34 3 (.slice (some ⟨g, 0, none⟩) n c) (qs.map Pkt.cells) ∧ Below w.heap.size w w'
theorem OwnR.nonnil {w : World} {base : Nat} {e : TypeId} {k : Nat} {A : Option Addr} {n c : Nat} {rs : List (List Value)} (h : OwnR w base e k (.slice A n c) rs) (hne : 0 < rs.length) : ∃ g, A = some ⟨g, 0, none⟩ := by
  obtain ⟨A', n', c', e', hn, _, _, _, h0, hs⟩ := h.form
  injection e' with e1 e2 e3
  subst e1 e2 e3
  cases A with
  | none => have := h0 rfl; have := hn.out; omega
  | some a => obtain ⟨g, e, _⟩ := hs a rfl; exact ⟨g, by rw [e]⟩

/-- What stands at place j of rows that are read. -/
theorem row_at {w wr : World} {A : Option Addr} {ps : List Pkt} {j : Nat} (hr : HasR w A 3 (ps.map Pkt.cells)) (hb : Below w.heap.size w wr) (hj : j < ps.length) : ∃ g, A = some ⟨g, 0, none⟩ ∧ wr.rangeAt g (j * 3) [(.int .i64 ps[j].f : Value), .int .i64 ps[j].t, .slice ps[j].A ps[j].n ps[j].c] := by
  obtain ⟨g, e, hra, _, hgl⟩ := hr j (by simpa using hj)
  refine ⟨g, e, fun i u hu => ?_⟩
  rw [hb.cell (p := ⟨g, j * 3 + i, none⟩) hgl]
  exact hra i u (by simpa [Pkt.cells] using hu)

set_option maxHeartbeats 1600000 in
set_option maxRecDepth 20000 in
theorem nrwithout_any (A : Option Addr) (n c : Nat) (i : Int) (ps : List Pkt) (w : World) (hr : HasR w A 3 (ps.map Pkt.cells)) (hn : ps.length = n) (hl : n ≤ 512) :
    Calls Try.prog 27 #[.slice A n c, .int .i64 i] w (MadeR (wo i ps) w) := by
  have HN := hide hn
  clear hn
  go_enter Try.func27, Try.ntmps27
  go_wp2
  go_loopw [5, 6, 10] (fun s _ x wr => ∃ (j : Nat) (g' : Nat) (n' c' : Nat), j ≤ n ∧ s = .slice (some ⟨g', 0, none⟩) n' c' ∧ x = .int .i64 (j : Int) ∧ OwnR wr w.heap.size 34 3 (.slice (some ⟨g', 0, none⟩) n' c') ((wo i (ps.take j)).map Pkt.cells) ∧ Below w.heap.size w wr) (fun _ _ x _ => n - (intOf x).toNat)
  case atStart => exact ⟨0, _, 0, 0, by omega, rfl, rfl, by rw [List.take_zero, wo_nil]; exact OwnR.empty w _ _ _ _ rfl (Nat.le_refl _), by go_grown⟩
  case round =>
    obtain ⟨j, g', n', c', hj, rfl, rfl, ho, hb⟩ := hrel
    by_cases hlt : j < n
    · have hjl : j < ps.length := by rw [HN.out]; exact hlt
      obtain ⟨gb, rfl, hra⟩ := row_at hr hb hjl
      have hsn : wo i (ps.take (j + 1)) = if (j : Int) = i then wo i (ps.take j) else wo i (ps.take j) ++ [ps[j]] := by
        rw [take_succ_cells ps j ps[j] (List.getElem?_eq_getElem hjl), wo_snoc]
        rw [List.length_take, Nat.min_eq_left (by omega)]
      generalize ps[j] = p at *
      have hlw := wo_len i (ps.take j)
      rw [List.length_take, Nat.min_eq_left (by omega)] at hlw
      have hil : (j : Int) < (n : Int) := by omega
      by_cases hji : (j : Int) = i
      · rw [if_pos hji] at hsn
        have hd : ((j : Int) != i) = false := by simpa using hji
        have HS := hide hsn
        clear hsn hji hr hra
        go_wp2_with fail
        go_roundw
        case rel => exact ⟨j + 1, g', n', c', by omega, rfl, by go_num, by rw [HS.out]; exact ho, hb⟩
        case measure => simp [intOf]; omega
      · rw [if_neg hji] at hsn
        have hd : ((j : Int) != i) = true := by simpa using hji
        have HS := hide hsn
        have ho2 := ho.below ((Below.refl _ _).alloc (Nat.le_refl _) (.cells #[.int .i64 p.f, .int .i64 p.t, .slice p.A p.n p.c] 34))
        have hone := one_row (heap_alloc_new wr (.cells #[.int .i64 p.f, .int .i64 p.t, .slice p.A p.n p.c] 34))
        have hwd : Wide 3 [[(.int .i64 p.f : Value), .int .i64 p.t, .slice p.A p.n p.c]] := Pkt.wide [p]
        have L1 : Hid (((wo i (ps.take j)).map Pkt.cells).length + 1 ≤ maxLen) := hide (by rw [List.length_map]; unfold maxLen; omega)
        have L2 : Hid ((((wo i (ps.take j)).map Pkt.cells).length + 1) * 40 ≤ 140737488355328) := hide (by rw [List.length_map]; omega)
        have hz := hb.size
        have L3 : Hid (w.heap.size ≤ (wr.alloc (.cells #[.int .i64 p.f, .int .i64 p.t, .slice p.A p.n p.c] 34)).heap.size) := hide (by simp; omega)
        have HB3 := hide (hb.alloc hz (.cells #[.int .i64 p.f, .int .i64 p.t, .slice p.A p.n p.c] 34))
        have HO2 := hide ho2
        clear hsn hji hr ho ho2
        go_wp2_with (first
          | (refine wpList_load_mid rfl 34 _ rfl gb (j * 3) (by simp [Act.eval, Act.put]) [(.int .i64 p.f : Value), .int .i64 p.t, .slice p.A p.n p.c] _ hra Try.underlying34 rfl (by kernel_rfl) ?_)
          | (at_builtin; refine list_append_rows rowP _ (by rfl) (.tmp 16) (.tmp 21) (by rfl) w.heap.size (.slice (some ⟨g', 0, none⟩) n' c') _ (by rfl) HO2.out ⟨wr.heap.size, 0, none⟩ 1 1 [[(.int .i64 p.f : Value), .int .i64 p.t, .slice p.A p.n p.c]] (by rfl) hwd (by rfl) hone L1.out L2.out L3.out ?_; intro v3 w3 ho3 hgr3 hat3; obtain ⟨A3, n3, c3, rfl, hn3, hnc3, hx3⟩ := ho3.form; obtain ⟨g3, rfl⟩ := ho3.nonnil (by simp)))
        have hb4 : Below w.heap.size w w3 := HB3.out.grown hgr3 HB3.out.size (fun k hk => (HO2.out.lt k hk).1)
        go_roundw
        case rel =>
          refine ⟨j + 1, g3, n3, c3, by omega, rfl, by go_num, ?_, hb4⟩
          rw [HS.out, List.map_append]
          exact ho3
        case measure => simp [intOf]; omega
    · obtain rfl : j = n := by omega
      rw [List.take_of_length_le (by rw [HN.out]; exact Nat.le_refl _)] at ho
      go_wp2
      go_ret
      exact ⟨g', n', c', rfl, ho, hb⟩

theorem keep_snoc (x : Int) (ps : List Pkt) (p : Pkt) : (ps ++ [p]).filter (fun p => !ofNode x p) = if ofNode x p = true then ps.filter (fun p => !ofNode x p) else ps.filter (fun p => !ofNode x p) ++ [p] := by
  rw [List.filter_append]
  cases h : ofNode x p <;> simp [h]

set_option maxHeartbeats 1600000 in
set_option maxRecDepth 20000 in
theorem nrlose_any (A : Option Addr) (n c : Nat) (i : Int) (ps : List Pkt) (w : World) (hr : HasR w A 3 (ps.map Pkt.cells)) (hn : ps.length = n) (hl : n ≤ 512) :
    Calls Try.prog 29 #[.slice A n c, .int .i64 i] w (MadeR (ps.filter (fun p => !ofNode i p)) w) := by
  have HN := hide hn
  clear hn
  go_enter Try.func29, Try.ntmps29
  go_wp2
  go_loopw [5, 6, 10] (fun s _ x wr => ∃ (j : Nat) (g' : Nat) (n' c' : Nat), j ≤ n ∧ s = .slice (some ⟨g', 0, none⟩) n' c' ∧ x = .int .i64 (j : Int) ∧ OwnR wr w.heap.size 34 3 (.slice (some ⟨g', 0, none⟩) n' c') (((ps.take j).filter (fun p => !ofNode i p)).map Pkt.cells) ∧ Below w.heap.size w wr) (fun _ _ x _ => n - (intOf x).toNat)
  case atStart => exact ⟨0, _, 0, 0, by omega, rfl, rfl, by rw [List.take_zero]; exact OwnR.empty w _ _ _ _ rfl (Nat.le_refl _), by go_grown⟩
  case round =>
    obtain ⟨j, g', n', c', hj, rfl, rfl, ho, hb⟩ := hrel
    by_cases hlt : j < n
    · have hjl : j < ps.length := by rw [HN.out]; exact hlt
      obtain ⟨gb, rfl, hra⟩ := row_at hr hb hjl
      have hsn : (ps.take (j + 1)).filter (fun p => !ofNode i p) = if ofNode i ps[j] = true then (ps.take j).filter (fun p => !ofNode i p) else (ps.take j).filter (fun p => !ofNode i p) ++ [ps[j]] := by
        rw [take_succ_cells ps j ps[j] (List.getElem?_eq_getElem hjl), keep_snoc]
      generalize ps[j] = p at *
      obtain ⟨pf, pt, pA, pn, pc, px⟩ := p
      simp only at hra
      have hlw : ((ps.take j).filter (fun p => !ofNode i p)).length ≤ j := by
        refine Nat.le_trans (List.length_filter_le _ _) ?_
        rw [List.length_take]
        omega
      have hil : (j : Int) < (n : Int) := by omega
      have r0 := hra 0 _ rfl
      have r1 := hra 1 _ rfl
      simp only [Nat.add_zero] at r0
      cases hq : ofNode i ⟨pf, pt, pA, pn, pc, px⟩
      · rw [hq, if_neg (by decide)] at hsn
        have hq' := hq
        simp only [ofNode, Bool.or_eq_false_iff] at hq'
        have t1 : (pf != i) = true := by simp [bne, hq'.1]
        have t2 : (pt != i) = true := by simp [bne, hq'.2]
        have HS := hide hsn
        have ho2 := ho.below ((Below.refl _ _).alloc (Nat.le_refl _) (.cells #[.int .i64 pf, .int .i64 pt, .slice pA pn pc] 34))
        have hone := one_row (heap_alloc_new wr (.cells #[.int .i64 pf, .int .i64 pt, .slice pA pn pc] 34))
        have hwd : Wide 3 [[(.int .i64 pf : Value), .int .i64 pt, .slice pA pn pc]] := Pkt.wide [⟨pf, pt, pA, pn, pc, px⟩]
        have L1 : Hid ((((ps.take j).filter (fun p => !ofNode i p)).map Pkt.cells).length + 1 ≤ maxLen) := hide (by rw [List.length_map]; unfold maxLen; omega)
        have L2 : Hid (((((ps.take j).filter (fun p => !ofNode i p)).map Pkt.cells).length + 1) * 40 ≤ 140737488355328) := hide (by rw [List.length_map]; omega)
        have hz := hb.size
        have L3 : Hid (w.heap.size ≤ (wr.alloc (.cells #[.int .i64 pf, .int .i64 pt, .slice pA pn pc] 34)).heap.size) := hide (by simp; omega)
        have HB3 := hide (hb.alloc hz (.cells #[.int .i64 pf, .int .i64 pt, .slice pA pn pc] 34))
        have HO2 := hide ho2
        clear hsn hq hq' hr ho ho2
        go_wp2_with (first
          | (refine wpList_load_mid rfl 34 _ rfl gb (j * 3) (by simp [Act.eval, Act.put]) [(.int .i64 pf : Value), .int .i64 pt, .slice pA pn pc] _ hra Try.underlying34 rfl (by kernel_rfl) ?_)
          | (at_builtin; refine list_append_rows rowP _ (by rfl) (.tmp 29) (.tmp 34) (by rfl) w.heap.size (.slice (some ⟨g', 0, none⟩) n' c') _ (by rfl) HO2.out ⟨wr.heap.size, 0, none⟩ 1 1 [[(.int .i64 pf : Value), .int .i64 pt, .slice pA pn pc]] (by rfl) hwd (by rfl) hone L1.out L2.out L3.out ?_; intro v3 w3 ho3 hgr3 hat3; obtain ⟨A3, n3, c3, rfl, hn3, hnc3, hx3⟩ := ho3.form; obtain ⟨g3, rfl⟩ := ho3.nonnil (by simp)))
        have hb4 : Below w.heap.size w w3 := HB3.out.grown hgr3 HB3.out.size (fun k hk => (HO2.out.lt k hk).1)
        go_roundw
        case rel =>
          refine ⟨j + 1, g3, n3, c3, by omega, rfl, by go_num, ?_, hb4⟩
          rw [HS.out, List.map_append]
          exact ho3
        case measure => simp [intOf]; omega
      · rw [hq, if_pos rfl] at hsn
        have HS := hide hsn
        clear hsn hr hra
        simp only [ofNode, Bool.or_eq_true] at hq
        cases t1 : (pf == i)
        · have t2 : (pt == i) = true := by rcases hq with h | h; exact absurd (t1.symm.trans h) (by decide); exact h
          have u1 : (pf != i) = true := by simp [bne, t1]
          have u2 : (pt != i) = false := by simp [bne, t2]
          clear hq t1 t2
          go_wp2_with fail
          go_roundw
          case rel => exact ⟨j + 1, g', n', c', by omega, rfl, by go_num, by rw [HS.out]; exact ho, hb⟩
          case measure => simp [intOf]; omega
        · have u1 : (pf != i) = false := by simp [bne, t1]
          clear hq t1
          go_wp2_with fail
          go_roundw
          case rel => exact ⟨j + 1, g', n', c', by omega, rfl, by go_num, by rw [HS.out]; exact ho, hb⟩
          case measure => simp [intOf]; omega
    · obtain rfl : j = n := by omega
      rw [List.take_of_length_le (by rw [HN.out]; exact Nat.le_refl _)] at ho
      go_wp2
      go_ret
      exact ⟨g', n', c', rfl, ho, hb⟩
end Go.Proofs.Ytpbfibofjkinmaa
