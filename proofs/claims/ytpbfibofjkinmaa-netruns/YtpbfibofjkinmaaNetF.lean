/-
  The head of synodlaw12, and the walk of NetNil. No condition.
-/
import Derived.Test.YtpbfibofjkinmaaNetE
set_option linter.unusedSimpArgs false
set_option linter.unusedVariables false
namespace Go.Proofs.Ytpbfibofjkinmaa
open Go.RowKit

theorem putE_zero {k : Nat} {f t : Int} {n : Nat} (h : okP f t n) (hk : k < 512) : putE k f t n = 0 := by rw [putE_ok h, if_pos hk]

/-- Put of what fits. -/
theorem nput_ok (base g : Nat) (v : Value) (ps : List Pkt) (f t : Int) (A : Option Addr) (n c B : Nat) (xs : List UInt8) (w : World) (h : IsN w base g v ps) (hx : Has w B A xs) (hB : B ≤ w.heap.size) (hn : xs.length = n) (h0 : putE ps.length f t xs.length = 0) :
    Calls Try.prog 24 #[.pointer (some ⟨g, 0, none⟩), .agg #[.int .i64 f, .int .i64 t, .slice A n c]] w fun e w' => e = .returned (.int .i64 0) ∧ ∃ v' A' n' c', IsN w' base g v' (ps ++ [⟨f, t, A', n', c', xs⟩]) ∧ Below base w w' := by
  refine (nput_any base g v ps f t A n c B xs w h hx hB hn).mono ?_
  rintro e w' ⟨rfl, v', ps', h1, h2, _, _, h4⟩
  rw [h0] at h4 ⊢
  obtain ⟨A', n', c', rfl, _⟩ := h4 rfl
  exact ⟨rfl, v', A', n', c', h1, h2.below (by have := h.bg; have := lt_of_block h.blk; omega) (fun k hk => (h.lt k hk).1)⟩
/-- Put of what does not fit. -/
theorem nput_not (base g : Nat) (v : Value) (ps : List Pkt) (f t : Int) (A : Option Addr) (n c B : Nat) (xs : List UInt8) (w : World) (x : Int) (h : IsN w base g v ps) (hx : Has w B A xs) (hB : B ≤ w.heap.size) (hn : xs.length = n) (h0 : putE ps.length f t xs.length = x) (hne : x ≠ 0) :
    Calls Try.prog 24 #[.pointer (some ⟨g, 0, none⟩), .agg #[.int .i64 f, .int .i64 t, .slice A n c]] w fun e w' => e = .returned (.int .i64 x) ∧ IsN w' base g v ps ∧ Below base w w' := by
  refine (nput_any base g v ps f t A n c B xs w h hx hB hn).mono ?_
  rintro e w' ⟨rfl, v', ps', h1, h2, _, h3, _⟩
  rw [h0] at h3 ⊢
  obtain ⟨rfl, rfl⟩ := h3 hne
  exact ⟨rfl, h1, h2.below (by have := h.bg; have := lt_of_block h.blk; omega) (fun k hk => (h.lt k hk).1)⟩
/-- Copy where there is a place. -/
theorem ncopy_ok (base g : Nat) (v : Value) (ps : List Pkt) (k : Nat) (p : Pkt) (w : World) (h : IsN w base g v ps) (hp : ps[k]? = some p) (hl : ps.length < 512) :
    Calls Try.prog 28 #[.pointer (some ⟨g, 0, none⟩), .int .i64 (k : Int)] w fun e w' => e = .returned (.bool true) ∧ ∃ v' A n c, IsN w' base g v' (ps ++ [⟨p.f, p.t, A, n, c, p.xs⟩]) ∧ Below base w w' := by
  refine (ncopy_yes base g v ps k p w h hp).mono ?_
  rintro e w' ⟨rfl, v', ps', h1, h2, _, h3, _⟩
  obtain ⟨A', n', c', rfl, _⟩ := h3 hl
  rw [decide_eq_true hl]
  exact ⟨rfl, v', A', n', c', h1, h2.below (by have := h.bg; have := lt_of_block h.blk; omega) (fun k hk => (h.lt k hk).1)⟩
/-- Copy where there is none. -/
theorem ncopy_full (base g : Nat) (v : Value) (ps : List Pkt) (k : Nat) (p : Pkt) (w : World) (h : IsN w base g v ps) (hp : ps[k]? = some p) (hl : ¬ ps.length < 512) :
    Calls Try.prog 28 #[.pointer (some ⟨g, 0, none⟩), .int .i64 (k : Int)] w fun e w' => e = .returned (.bool false) ∧ IsN w' base g v ps ∧ Below base w w' := by
  refine (ncopy_yes base g v ps k p w h hp).mono ?_
  rintro e w' ⟨rfl, v', ps', h1, h2, _, _, h3⟩
  obtain ⟨rfl, rfl⟩ := h3 hl
  rw [decide_eq_false hl]
  exact ⟨rfl, h1, h2.below (by have := h.bg; have := lt_of_block h.blk; omega) (fun k hk => (h.lt k hk).1)⟩
/-- Take where there is one. -/
theorem ntake_ok (base g : Nat) (v : Value) (ps : List Pkt) (k : Nat) (p : Pkt) (w : World) (h : IsN w base g v ps) (hp : ps[k]? = some p) :
    Calls Try.prog 25 #[.pointer (some ⟨g, 0, none⟩), .int .i64 (k : Int)] w fun e w' => e = .returned (.tuple #[.agg #[.int .i64 p.f, .int .i64 p.t, .slice p.A p.n p.c], .bool true]) ∧ ∃ v', IsN w' base g v' (ps.take k ++ ps.drop (k + 1)) ∧ Own w' base p.sl p.xs ∧ Below base w w' := by
  refine (ntake_yes base g v ps k p w h hp).mono ?_
  rintro e w' ⟨rfl, v', h1, _, h2, h3⟩
  exact ⟨rfl, v', h1, h3, h2.below (by have := h.bg; have := lt_of_block h.blk; omega) (fun k hk => (h.lt k hk).1)⟩

set_option maxHeartbeats 1600000 in
set_option maxRecDepth 20000 in
theorem head12_any (w : World) : Calls Try.prog 20 #[] w fun e w' => e = .returned (.bool true) ∧ Below w.heap.size w w' := by
  go_enter Try.func20, Try.ntmps20
  go_wp2_with fail
  refine (nnew_any w).mono ?_
  rintro e w1 ⟨rfl, hN1, hb1⟩
  go_wp2_with fail
  have hx2 : Has (w1.alloc (.cells #[.int .u8 7] 5)) (w1.heap.size + 1) (some ⟨w1.heap.size, 0, none⟩) [7] := Has.new w1 5 [7] (0, 0) _ rfl
  have hb2 : Below w.heap.size w (w1.alloc (.cells #[.int .u8 7] 5)) := hb1.alloc hb1.size _
  have hN2 := hN1.below ((Below.refl _ _).alloc (Nat.le_refl _) (.cells #[.int .u8 7] 5))
  have hs2 : w1.heap.size + 1 ≤ (w1.alloc (.cells #[.int .u8 7] 5)).heap.size := by simp
  generalize w1.alloc (.cells #[.int .u8 7] 5) = w2 at *
  refine (nput_ok w.heap.size w.heap.size _ [] 1 2 (some ⟨w1.heap.size, 0, none⟩) 1 1 (w1.heap.size + 1) [7] w2 hN2 hx2 hs2 rfl (putE_zero (by unfold okP; simp) (by simp))).mono ?_
  rintro e w3 ⟨rfl, v3, A3, n3, c3, hN3, hk3⟩
  have hb3 : Below w.heap.size w w3 := hb2.trans hk3
  clear hk3 hN2 hN1 hs2 hx2 hb2 hb1
  go_wp2_with fail
  refine (nput_ok w.heap.size w.heap.size _ _ 2 1 none 0 0 0 [] w3 hN3 (Has.nil _ _ _) (by omega) rfl (putE_zero (by unfold okP; simp) (by simp))).mono ?_
  rintro e w4 ⟨rfl, v4, A4, n4, c4, hN4, hk4⟩
  have hb4 : Below w.heap.size w w4 := hb3.trans hk4
  clear hk4 hN3 hb3
  go_wp2_with fail
  refine (ncopy_ok w.heap.size w.heap.size _ _ 0 ⟨1, 2, A3, n3, c3, [7]⟩ w4 hN4 rfl (by simp)).mono ?_
  rintro e w5 ⟨rfl, v5, A5, n5, c5, hN5, hk5⟩
  have hb5 : Below w.heap.size w w5 := hb4.trans hk5
  clear hk5 hN4 hb4
  go_wp2_with fail
  refine (ntake_ok w.heap.size w.heap.size _ _ 1 ⟨2, 1, A4, n4, c4, []⟩ w5 hN5 rfl).mono ?_
  rintro e w6 ⟨rfl, v6, hN6, _, hk6⟩
  have hb6 : Below w.heap.size w w6 := hb5.trans hk6
  clear hk6 hN5 hb5
  go_wp2_with fail
  have hN7 := hN6.below ((Below.refl _ _).alloc (Nat.le_refl _) (.cells #[.int .i64 2, .int .i64 1, .slice A4 n4 c4] 34))
  have hb7 : Below w.heap.size w (w6.alloc (.cells #[.int .i64 2, .int .i64 1, .slice A4 n4 c4] 34)) := hb6.alloc hb6.size _
  generalize w6.alloc (.cells #[.int .i64 2, .int .i64 1, .slice A4 n4 c4] 34) = w7 at *
  refine (nlen_any w.heap.size w.heap.size _ _ w7 hN7).mono ?_
  rintro e w8 ⟨rfl, rfl⟩
  go_wp2_with fail
  refine (nlist_any w.heap.size w.heap.size _ _ w7 hN7).mono ?_
  rintro e w8 ⟨v8, qs, rfl, ho8, hl8, _, _, hb8⟩
  obtain ⟨A8, n8, c8, rfl, hn8, _⟩ := ho8.form
  have hn8' : n8 = 2 := by have := hn8.out; simp at this; rw [← this, hl8]; rfl
  subst hn8'
  have hb9 := hb7.trans (hb8.mono hb7.size)
  clear hn8 hl8 ho8
  go_wp2
  go_ret
  exact ⟨rfl, hb9⟩

theorem nput_nil (f t : Int) (x : Value) (w : World) : Calls Try.prog 24 #[.pointer none, .agg #[.int .i64 f, .int .i64 t, x]] w fun e w' => e = .returned (.int .i64 1) ∧ Below w.heap.size w w' := by
  go_enter Try.func24, Try.ntmps24
  go_wp2
  go_ret
  exact ⟨rfl, by go_grown⟩
theorem nlose_nil (n : Int) (w : World) : Calls Try.prog 30 #[.pointer none, .int .i64 n] w fun e w' => e = .returned (.int .i64 0) ∧ Below w.heap.size w w' := by
  go_enter Try.func30, Try.ntmps30
  go_wp2
  go_ret
  exact ⟨rfl, by go_grown⟩

theorem hasB_zero (i : Int) : hasB i 0 = false := by unfold hasB; rw [decide_eq_false]; omega

theorem netNil_walk (i : Int) (w : World) (_ : (Lit.int .i64 i).wf = true) : Calls Try.prog 8 #[.int .i64 i] w fun e w' => e = .returned (.bool true) ∧ Below w.heap.size w w' := by
  go_enter Try.func8, Try.ntmps8
  go_wp2_with fail
  refine (ntake_no (.pointer none) 0 i w (fun W _ => nlen_nil W) (hasB_zero i)).mono ?_
  rintro e w1 ⟨rfl, hb1⟩
  go_wp2_with fail
  have hb2 : Below w.heap.size w (w1.alloc (.cells #[.int .i64 0, .int .i64 0, .slice none 0 0] 34)) := hb1.alloc hb1.size _
  generalize w1.alloc (.cells #[.int .i64 0, .int .i64 0, .slice none 0 0] 34) = w2 at *
  refine (head12_any w2).mono ?_
  rintro e w3 ⟨rfl, hk3⟩
  have hb3 := hb2.trans (hk3.mono hb2.size)
  clear hk3 hb2 hb1
  go_wp2_with fail
  refine (nput_nil 1 1 _ w3).mono ?_
  rintro e w4 ⟨rfl, hk4⟩
  have hb4 := hb3.trans (hk4.mono hb3.size)
  clear hk4 hb3
  go_wp2_with fail
  refine (nlen_nil w4).mono ?_
  rintro e w5 ⟨rfl, rfl⟩
  go_wp2_with fail
  refine (ncopy_no (.pointer none) 0 i w4 (nlen_nil w4) (hasB_zero i)).mono ?_
  rintro e w5 ⟨rfl, rfl⟩
  go_wp2_with fail
  refine (nlose_nil i w4).mono ?_
  rintro e w5 ⟨rfl, hk5⟩
  have hb5 := hb4.trans (hk5.mono hb4.size)
  clear hk5 hb4
  go_wp2_with fail
  refine (nlist_nil w5).mono ?_
  rintro e w6 ⟨rfl, rfl⟩
  go_wp2
  go_ret
  exact ⟨rfl, hb5⟩
end Go.Proofs.Ytpbfibofjkinmaa
