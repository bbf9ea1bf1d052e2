/-
  A net in memory; New, Len, has, isNode and clone of package net. Conditions: what is read is in reach.
-/
import Derived.Test.YtpbfibofjkinmaaRec
import Derived.Test.YtpbfibofjkinmaaClone
import Derived.Test.YtpbfibofjkinmaaCopy
import Derived.Test.YtpbfibofjkinmaaSame
import Derived.Deep.RegionHeld3
import Derived.Deep.DrawnRows
import Derived.Deep.DeepCutAuto
set_option linter.unusedSimpArgs false
set_option linter.unusedVariables false
namespace Go.Proofs.Ytpbfibofjkinmaa
open Go.RowKit

theorem rowP : RowT 34 31 3 40 (.agg #[.int .i64 0, .int .i64 0, .slice none 0 0]) := ⟨Try.underlying31, by kernel_rfl, rfl, by omega⟩

/-- A packet, with the bytes that its data reads as. -/
structure Pkt where
  f : Int
  t : Int
  A : Option Addr
  n : Nat
  c : Nat
  xs : List UInt8
def Pkt.cells (p : Pkt) : List Value := [.int .i64 p.f, .int .i64 p.t, .slice p.A p.n p.c]
def Pkt.sl (p : Pkt) : Value := .slice p.A p.n p.c
def okP (f t : Int) (n : Nat) : Prop := 0 ≤ f ∧ f ≤ 9 ∧ 0 ≤ t ∧ t ≤ 9 ∧ n ≤ 65536

theorem Pkt.wide (ps : List Pkt) : Wide 3 (ps.map Pkt.cells) := fun r hr => by
  obtain ⟨p, _, rfl⟩ := List.mem_map.1 hr
  refine ⟨rfl, fun u hu => ?_⟩
  simp only [Pkt.cells, List.mem_cons, List.not_mem_nil, or_false] at hu
  rcases hu with rfl | rfl | rfl <;> rfl

/-- Block g is a net with the packets ps under way, its slice is v; all its blocks lie from base on. -/
structure IsN (w : World) (base g : Nat) (v : Value) (ps : List Pkt) : Prop where
  blk : w.heap[g]? = some (.cells #[v] 79 (0, 0))
  bg : base ≤ g
  row : OwnR w base 34 3 v (ps.map Pkt.cells)
  dat : ∀ p ∈ ps, Own w base p.sl p.xs
  ok : ∀ p ∈ ps, okP p.f p.t p.xs.length
  len : ps.length ≤ 512

/-- The blocks that a call on a net may turn. -/
def NB (g : Nat) (v : Value) (k : Nat) : Prop := k = g ∨ v.ownBlock = some k

theorem own_typed {w : World} {base : Nat} {v : Value} {xs : List UInt8} (h : Own w base v xs) : ∀ g, v.ownBlock = some g → ∃ cur, w.heap[g]? = some (.cells cur 5 (0, 0)) := by
  intro g hg
  rcases h.2 with ⟨hv, _⟩ | ⟨g', cap, cur, hv, _, hh, _⟩
  · rw [hv] at hg; cases hg
  · rw [hv] at hg; cases hg; exact ⟨cur, hh⟩
/-- Blocks of two types are two. -/
theorem typed_ne {w : World} {a b : Nat} {ca cb : Array Value} {ta tb : TypeId} {fa fb : Nat × Nat} (h : w.heap[a]? = some (.cells ca ta fa)) (h' : w.heap[b]? = some (.cells cb tb fb)) (hne : ta ≠ tb) : a ≠ b := by
  rintro rfl
  rw [h] at h'
  injection h' with h1
  injection h1 with _ h2
  exact hne h2

theorem IsN.lt {w : World} {base g : Nat} {v : Value} {ps : List Pkt} (h : IsN w base g v ps) : ∀ k, NB g v k → base ≤ k ∧ k < w.heap.size := by
  rintro k (rfl | hk)
  · exact ⟨h.bg, lt_of_block h.blk⟩
  · exact h.row.lt k hk
/-- The data lie apart from what calls turn. -/
theorem IsN.apart {w : World} {base g : Nat} {v : Value} {ps : List Pkt} (h : IsN w base g v ps) {p : Pkt} (hp : p ∈ ps) : ∀ k, p.sl.ownBlock = some k → ¬ NB g v k := by
  intro k hk hn
  obtain ⟨cur, hc⟩ := own_typed (h.dat p hp) k hk
  rcases hn with rfl | hn
  · exact typed_ne hc h.blk (by decide) rfl
  · obtain ⟨cur', hc'⟩ := h.row.typed k hn
    exact typed_ne hc hc' (by decide) rfl
theorem IsN.ng {w : World} {base g : Nat} {v : Value} {ps : List Pkt} (h : IsN w base g v ps) : v.ownBlock ≠ some g := fun hk => by
  obtain ⟨cur', hc'⟩ := h.row.typed g hk
  exact typed_ne h.blk hc' (by decide) rfl
theorem IsN.kept {w w' : World} {base g : Nat} {v : Value} {ps : List Pkt} {F : Nat → Prop} (h : IsN w base g v ps) (hk : Kept F w w') (hF : ∀ k, F k → NB g v k ∨ (∃ p ∈ ps, p.sl.ownBlock = some k) → False) : IsN w' base g v ps :=
  ⟨(hk.block g (lt_of_block h.blk) (fun hf => hF g hf (.inl (.inl rfl)))).trans h.blk, h.bg,
    h.row.keep fun k hk' => hk.block k (h.row.lt k hk').2 (fun hf => hF k hf (.inl (.inr hk'))),
    fun p hp => (h.dat p hp).keep fun k hk' => hk.block k ((h.dat p hp).lt k hk').2 (fun hf => hF k hf (.inr ⟨p, hp, hk'⟩)), h.ok, h.len⟩
theorem IsN.below {w w' : World} {base g : Nat} {v : Value} {ps : List Pkt} (h : IsN w base g v ps) (hb : Below w.heap.size w w') : IsN w' base g v ps :=
  h.kept (F := fun _ => False) (Kept.of_below hb) (fun _ hf => hf.elim)
theorem IsN.drew {w : World} {base g : Nat} {v : Value} {ps : List Pkt} (h : IsN w base g v ps) : IsN w.drew base g v ps := h.below (Below.refl _ _).drew

theorem nnew_any (w : World) : Calls Try.prog 21 #[] w fun e w' => e = .returned (.pointer (some ⟨w.heap.size, 0, none⟩)) ∧ IsN w' w.heap.size w.heap.size (.slice none 0 0) [] ∧ Below w.heap.size w w' := by
  go_enter Try.func21, Try.ntmps21
  go_wp2
  go_ret
  exact ⟨rfl, ⟨heap_alloc_new w _, Nat.le_refl _, OwnR.nil _ _ _ _, by simp, by simp, by simp⟩, by go_grown⟩

theorem nlen_any (base g : Nat) (v : Value) (ps : List Pkt) (w : World) (h : IsN w base g v ps) : Calls Try.prog 32 #[.pointer (some ⟨g, 0, none⟩)] w fun e w' => e = .returned (.int .i64 (ps.length : Int)) ∧ w = w' := by
  obtain ⟨A, n, c, rfl, hn, hnc, hm, _⟩ := h.row.form
  have hc := (row_cells h.blk 0).1
  simp only [List.getElem?_toArray, List.getElem?_cons_zero] at hc
  have hn' : Hid (ps.length = n) := hide (by have := hn.out; simpa using this)
  go_enter Try.func32, Try.ntmps32
  go_wp2
  go_ret
  exact ⟨by rw [hn'.out]; rfl, rfl⟩
theorem nlen_nil (w : World) : Calls Try.prog 32 #[.pointer none] w fun e w' => e = .returned (.int .i64 0) ∧ w = w' := by
  go_enter Try.func32, Try.ntmps32
  go_wp2
  go_ret
  exact ⟨rfl, rfl⟩

def nodeP (n : Int) : Bool := decide (0 ≤ n ∧ n ≤ 9)
theorem nisNode_any (n : Int) (w : World) : Calls Try.prog 49 #[.int .i64 n] w fun e w' => e = .returned (.bool (nodeP n)) ∧ w = w' := by
  by_cases h : 0 ≤ n
  · by_cases h2 : n ≤ 9
    · have e : nodeP n = true := decide_eq_true ⟨h, h2⟩
      rw [e]
      go_enter Try.func49, Try.ntmps49
      go_wp2
      go_ret
      exact ⟨rfl, rfl⟩
    · have e : nodeP n = false := decide_eq_false fun h => h2 h.2
      rw [e]
      go_enter Try.func49, Try.ntmps49
      go_wp2
      go_ret
      exact ⟨rfl, rfl⟩
  · have e : nodeP n = false := decide_eq_false fun h' => h h'.1
    rw [e]
    go_enter Try.func49, Try.ntmps49
    go_wp2
    go_ret
    exact ⟨rfl, rfl⟩

def hasB (i : Int) (n : Nat) : Bool := decide (0 ≤ i ∧ i < (n : Int))
theorem nhas_of (p : Value) (n : Nat) (i : Int) (w : World) (h : Calls Try.prog 32 #[p] w fun e w' => e = .returned (.int .i64 (n : Int)) ∧ w = w') : Calls Try.prog 51 #[p, .int .i64 i] w fun e w' => e = .returned (.bool (hasB i n)) ∧ w = w' := by
  by_cases h0 : 0 ≤ i
  · by_cases h2 : i < (n : Int)
    · have e : hasB i n = true := decide_eq_true ⟨h0, h2⟩
      rw [e]
      go_enter Try.func51, Try.ntmps51
      go_wp2_with fail
      refine h.mono ?_
      rintro e w' ⟨rfl, rfl⟩
      go_wp2
      go_ret
      exact ⟨rfl, rfl⟩
    · have e : hasB i n = false := decide_eq_false fun h => h2 h.2
      have d2 : decide (i < (n : Int)) = false := decide_eq_false h2
      rw [e]
      go_enter Try.func51, Try.ntmps51
      go_wp2_with fail
      refine h.mono ?_
      rintro e w' ⟨rfl, rfl⟩
      go_wp2
      go_ret
      exact ⟨rfl, rfl⟩
  · have e : hasB i n = false := decide_eq_false fun h' => h0 h'.1
    rw [e]
    go_enter Try.func51, Try.ntmps51
    go_wp2
    go_ret
    exact ⟨rfl, rfl⟩

theorem results_nclone {tmps : Array Value} {w : World} {g : Nat} {A : Array Value} {t : TypeId} (h2 : tmps.getD 2 undef = .pointer (some ⟨g, 0, none⟩)) (hA : w.heap[g]? = some (.cells A t (0, 0))) (sA : A.size = 3) :
    (results Try.f50 tmps).run Try.prog w = .ok (.agg A) w := by
  have h2' : tmps[2]?.getD undef = .pointer (some ⟨g, 0, none⟩) := by simpa using h2
  have i1 : (Try.prog.info? 34).map (·.size) = some A.size := by rw [sA]; kernel_rfl
  have e1 := run_loadVar_row (P := Try.prog) w g t 34 A (0, 0) _ hA Try.underlying34 rfl i1
  simp [results, Try.results50, h2', asAddr, e1]

/-- clone: the same packet in new memory. -/
theorem nclone_any (f t : Int) (A : Option Addr) (n c B : Nat) (xs : List UInt8) (w : World) (hx : Has w B A xs) (hB : B ≤ w.heap.size) (hn : xs.length = n) (hl : n ≤ 140737488355328) :
    Calls Try.prog 50 #[.agg #[.int .i64 f, .int .i64 t, .slice A n c]] w fun e w' => ∃ A' n' c', e = .returned (.agg #[.int .i64 f, .int .i64 t, .slice A' n' c']) ∧ Hid (xs.length = n') ∧ Own w' w.heap.size (.slice A' n' c') xs ∧ Below w.heap.size w w' := by
  have HN := hide hn
  clear hn
  go_enter Try.func50, Try.ntmps50
  go_upto_region 1 with fail
  have hp0 : ((w.alloc (.cells #[.int .i64 f, .int .i64 t, .slice A n c] 34)).alloc (.cells #[.int .i64 0, .int .i64 0, .slice none 0 0] 34)).heap[w.heap.size]? = some (.cells #[.int .i64 f, .int .i64 t, .slice A n c] 34 (0, 0)) :=
    (Below.heap_alloc _ _ _ (by simp)).trans (heap_alloc_new w _)
  have hr0 : ((w.alloc (.cells #[.int .i64 f, .int .i64 t, .slice A n c] 34)).alloc (.cells #[.int .i64 0, .int .i64 0, .slice none 0 0] 34)).heap[w.heap.size + 1]? = some (.cells #[.int .i64 0, .int .i64 0, .slice none 0 0] 34 (0, 0)) := by
    have := heap_alloc_new (w.alloc (.cells #[.int .i64 f, .int .i64 t, .slice A n c] 34)) (.cells #[.int .i64 0, .int .i64 0, .slice none 0 0] 34)
    simpa using this
  have hb0 : Below w.heap.size w ((w.alloc (.cells #[.int .i64 f, .int .i64 t, .slice A n c] 34)).alloc (.cells #[.int .i64 0, .int .i64 0, .slice none 0 0] 34)) := by go_grown
  have hs0 : ((w.alloc (.cells #[.int .i64 f, .int .i64 t, .slice A n c] 34)).alloc (.cells #[.int .i64 0, .int .i64 0, .slice none 0 0] 34)).heap.size = w.heap.size + 1 + 1 := by simp
  generalize (w.alloc (.cells #[.int .i64 f, .int .i64 t, .slice A n c] 34)).alloc (.cells #[.int .i64 0, .int .i64 0, .slice none 0 0] 34) = W0 at *
  have hx0 : Has W0 B A xs := hx.keep fun b hb => hb0.block b (by omega)
  have hB0 : B ≤ W0.heap.size := by omega
  have z0 : w.heap.size < W0.heap.size := by omega
  have z1 : w.heap.size + 1 < W0.heap.size := by omega
  clear hs0
  obtain ⟨k0, m0⟩ := row_cells hp0 0
  obtain ⟨k1, m1⟩ := row_cells hp0 1
  obtain ⟨k2, m2⟩ := row_cells hp0 2
  simp only [List.getElem?_toArray, List.getElem?_cons_succ, List.getElem?_cons_zero] at k0 k1 k2
  go_wp2_with fail
  refine (clone_any A n c B xs W0 hx0 hB0 HN.out hl).mono ?_
  rintro e w1 ⟨v1, rfl, ho1, hb1⟩
  obtain ⟨A1, n1, c1, rfl, hn1, _, _, _⟩ := ho1.form
  have hp1 := (hb1.block _ z0).trans hp0
  have hr1 := (hb1.block _ z1).trans hr0
  have q2 := (row_cells hp1 2).1
  have y2 := (row_cells hp1 2).2
  simp only [List.getElem?_toArray, List.getElem?_cons_succ, List.getElem?_cons_zero] at q2
  clear k0 k1 k2 m0 m1 m2
  go_upto_region 2 with fail
  have hk2 : Kept (fun j => j = w.heap.size) w1 (w1.setCell ⟨w.heap.size, 2, none⟩ (.slice A1 n1 c1)) := (Kept.refl (fun j => j = w.heap.size) w1).setCell (p := ⟨w.heap.size, 2, none⟩) (.inl rfl) _
  have hp2 : (w1.setCell ⟨w.heap.size, 2, none⟩ (.slice A1 n1 c1)).heap[w.heap.size]? = some (.cells #[.int .i64 f, .int .i64 t, .slice A1 n1 c1] 34 (0, 0)) := by rw [set_cell_at _ hp1]; rfl
  clear q2 y2
  generalize w1.setCell ⟨w.heap.size, 2, none⟩ (.slice A1 n1 c1) = w2 at *
  have hz1 := hb1.size
  have hr2 := (hk2.block (w.heap.size + 1) (by omega) (by omega)).trans hr1
  have ho2 := ho1.keep fun g hg => hk2.block g ((ho1.lt g hg).2) (by have := (ho1.lt g hg).1; omega)
  have hk3 := Kept.of_setRow w2 (w.heap.size + 1) #[.int .i64 f, .int .i64 t, .slice A1 n1 c1]
  have hr3 := set_row_at (B := #[.int .i64 f, .int .i64 t, .slice A1 n1 c1]) hr2
  go_wp2_with (first
    | (refine wpList_load_row rfl 34 _ rfl w.heap.size rfl _ _ _ _ hp2 Try.underlying34 rfl (by kernel_rfl) ?_)
    | (refine wpList_store_row rfl 34 _ _ rfl (w.heap.size + 1) #[.int .i64 f, .int .i64 t, .slice A1 n1 c1] rfl rfl _ _ hr2 (by kernel_rfl) rfl (by simp; exact ⟨rfl, rfl, rfl⟩) ?_; generalize w2.setRow (w.heap.size + 1) #[.int .i64 f, .int .i64 t, .slice A1 n1 c1] = w3 at *))
  refine bodyPost_ret (v := .agg #[.int .i64 f, .int .i64 t, .slice A1 n1 c1]) (results_nclone rfl hr3 rfl) rfl ⟨A1, n1, c1, rfl, hn1, ?_, ?_⟩
  · exact (ho2.keep fun g hg => hk3.block g ((ho2.lt g hg).2) (by have := (ho2.lt g hg).1; omega)).from_ (by omega)
  · exact ((hb0.trans (hb1.mono (by omega))).trans (hk2.below (by omega) (fun j hj => by omega))).trans (hk3.below (by have := hk2.size; omega) (fun j hj => by omega))
end Go.Proofs.Ytpbfibofjkinmaa
