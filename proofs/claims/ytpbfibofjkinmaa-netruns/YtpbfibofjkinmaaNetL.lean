/-
  Numbers that are written over; the two sides of NetRuns, and what their calls leave. No condition.
-/
import Derived.Test.YtpbfibofjkinmaaNetK
set_option linter.unusedSimpArgs false
set_option linter.unusedVariables false
namespace Go.Proofs.Ytpbfibofjkinmaa
open Go.RowKit

def Free (w : World) (k : Nat) : Prop := ∃ cur t, w.heap[k]? = some (.cells cur t (0, 0))

/-- Behind writes of numbers over numbers in the blocks R. -/
structure Mut (R : Nat → Prop) (w W : World) : Prop where
  kept : Kept R w W
  int : ∀ k, R k → ∀ i kd x, w.cell? ⟨k, i, none⟩ = some (.int kd x) → ∃ y, W.cell? ⟨k, i, none⟩ = some (.int kd y)
  slc : ∀ k, R k → ∀ i A n c, w.cell? ⟨k, i, none⟩ = some (.slice A n c) → W.cell? ⟨k, i, none⟩ = some (.slice A n c)
  free : ∀ k, R k → Free w k → Free W k
section
variable {R : Nat → Prop} {w W : World}
theorem Mut.refl (R : Nat → Prop) (w : World) : Mut R w w := ⟨Kept.refl _ _, fun _ _ _ _ x h => ⟨x, h⟩, fun _ _ _ _ _ _ h => h, fun _ _ h => h⟩
theorem Mut.set (h : Mut R w W) {k i : Nat} {kd : IntKind} {x : Int} (hk : R k) (hc : W.cell? ⟨k, i, none⟩ = some (.int kd x)) (y : Int) : Mut R w (W.setCell ⟨k, i, none⟩ (.int kd y)) := by
  refine ⟨h.kept.setCell (.inl hk) _, ?_, ?_, ?_⟩
  · intro k' hk' i' kd' x' e
    obtain ⟨y', e'⟩ := h.int k' hk' i' kd' x' e
    by_cases he : (⟨k, i, none⟩ : Addr) = ⟨k', i', none⟩
    · injection he with h1 h2
      subst h1 h2
      rw [hc] at e'
      injection e' with e'
      injection e' with e1 e2
      subst e1
      exact ⟨y, World.cell?_setCell_same _ _ _ hc⟩
    · exact ⟨y', (World.cell?_setCell_other _ _ _ _ he).trans e'⟩
  · intro k' hk' i' A n c e
    have e' := h.slc k' hk' i' A n c e
    by_cases he : (⟨k, i, none⟩ : Addr) = ⟨k', i', none⟩
    · injection he with h1 h2
      subst h1 h2
      rw [hc] at e'
      cases e'
    · exact (World.cell?_setCell_other _ _ _ _ he).trans e'
  · intro k' hk' hf
    obtain ⟨cur, t, e⟩ := h.free k' hk' hf
    by_cases he : k = k'
    · subst he
      exact ⟨cur.set! i (.int kd y), t, by simp [World.setCell, Array.getElem?_modify, e]⟩
    · exact ⟨cur, t, by simp [World.setCell, Array.getElem?_modify, he, e]⟩
theorem Mut.drewN (h : Mut R w W) (m : Nat) : Mut R w (W.drewN m) := ⟨h.kept.drewN m, h.int, h.slc, h.free⟩
theorem Free.ice {k : Nat} (h : Free W k) (i : Nat) : W.frozen? ⟨k, i, none⟩ = false := by
  obtain ⟨cur, t, e⟩ := h
  exact (row_cells e i).2
end
theorem Own.free {w : World} {base : Nat} {A : Option Addr} {n c : Nat} {xs : List UInt8} (h : Own w base (.slice A n c) xs) : ∀ g, A.map (·.block) = some g → Free w g := fun g hg => by
  rcases h.2 with ⟨hv, _⟩ | ⟨g', cap, cur, hv, _, hh, _⟩
  · injection hv with e1
    subst e1
    cases hg
  · injection hv with e1
    subst e1
    injection hg with hg
    subst hg
    exact ⟨cur, _, hh⟩

/-- What the reference holds: its slice, the rows in it, and their data. -/
structure RI (w : World) (b0 gR nR cR : Nat) (rs : List Pkt) : Prop where
  row : OwnR w b0 34 3 (.slice (some ⟨gR, 0, none⟩) nR cR) (rs.map Pkt.cells)
  dat : ∀ q ∈ rs, Own w b0 q.sl q.xs
  len : rs.length ≤ 512
theorem RI.lt {w : World} {b0 gR nR cR : Nat} {rs : List Pkt} (h : RI w b0 gR nR cR rs) : b0 ≤ gR ∧ gR < w.heap.size := h.row.lt gR rfl
theorem RI.n {w : World} {b0 gR nR cR : Nat} {rs : List Pkt} (h : RI w b0 gR nR cR rs) : rs.length = nR := by
  obtain ⟨A', n', c', e', hn, _⟩ := h.row.form
  injection e' with e1 e2 e3
  subst e1 e2 e3
  have := hn.out
  simpa using this
theorem RI.kept {w w' : World} {b0 gR nR cR : Nat} {rs : List Pkt} {F : Nat → Prop} (h : RI w b0 gR nR cR rs) (hk : Kept F w w') (h1 : ¬ F gR) (h2 : ∀ q ∈ rs, ∀ k, q.sl.ownBlock = some k → ¬ F k) : RI w' b0 gR nR cR rs :=
  ⟨h.row.keep fun k hk' => hk.block k (h.row.lt k hk').2 (by have e : gR = k := Option.some.inj hk'; rw [← e]; exact h1), fun q hq => (h.dat q hq).keep fun k hk' => hk.block k ((h.dat q hq).lt k hk').2 (h2 q hq k hk'), h.len⟩
theorem RI.below {w w' : World} {b0 gR nR cR : Nat} {rs : List Pkt} (h : RI w b0 gR nR cR rs) (hb : Below w.heap.size w w') : RI w' b0 gR nR cR rs :=
  h.kept (F := fun _ => False) (Kept.of_below hb) (fun h => h) (fun _ _ _ _ h => h)
/-- Calls on the net leave the reference as it is. -/
theorem RI.net {w w' : World} {b0 gR nR cR g : Nat} {rs ns : List Pkt} {v : Value} (h : RI w b0 gR nR cR rs) (hN : IsN w b0 g v ns) (hd : v.ownBlock ≠ some gR) (hk : Kept (NB g v) w w') : RI w' b0 gR nR cR rs := by
  obtain ⟨cR', hR⟩ := h.row.typed gR rfl
  refine h.kept hk ?_ ?_
  · rintro (e | e)
    · exact typed_ne hR hN.blk (by decide) e
    · exact hd e
  · intro q hq k hk' hf
    obtain ⟨cq, hq'⟩ := own_typed (h.dat q hq) k hk'
    rcases hf with e | e
    · exact typed_ne hq' hN.blk (by decide) e
    · obtain ⟨cv, hv⟩ := hN.row.typed k e
      exact typed_ne hq' hv (by decide) rfl
theorem RI.reads {w : World} {b0 gR nR cR : Nat} {rs : List Pkt} (h : RI w b0 gR nR cR rs) (hl : ∀ q ∈ rs, q.xs.length ≤ 65536) : Reads w w.heap.size (some ⟨gR, 0, none⟩) rs ∧ rs.length = nR :=
  Reads.of h.row fun q hq => by
    obtain ⟨h1, h2⟩ := own_has (h.dat q hq)
    have := hl q hq
    exact ⟨h1, h2, by omega⟩

/-- What the reference's Put leaves of its side. -/
def RPut (b0 gR nR cR : Nat) (rs : List Pkt) (f t : Int) (xs : List UInt8) (x : Int) (w : World) (e : Ending) (w' : World) : Prop :=
  ∃ g' n' c' rs', e = .returned (.tuple #[.slice (some ⟨g', 0, none⟩) n' c', .int .i64 x]) ∧ RI w' b0 g' n' c' rs' ∧ Below w.heap.size w w' ∧ (x ≠ 0 → g' = gR ∧ n' = nR ∧ c' = cR ∧ rs' = rs) ∧
    (x = 0 → rs'.map Pkt.key = rs.map Pkt.key ++ [(f, t, xs)]) ∧ (g' = gR ∨ w.heap.size ≤ g') ∧ (∀ q ∈ rs', q ∈ rs ∨ ∀ k, q.sl.ownBlock = some k → w.heap.size ≤ k)
theorem putE_lt {k : Nat} {f t : Int} {n : Nat} (h : putE k f t n = 0) : okP f t n ∧ k < 512 := by
  unfold putE at h
  split at h
  · next h1 =>
    split at h
    · next h2 =>
      split at h
      · next h3 =>
        split at h
        · next h4 =>
          have := nodeP_iff h1
          have := nodeP_iff h2
          exact ⟨⟨by omega, by omega, by omega, by omega, h3⟩, h4⟩
        · cases h
      · cases h
    · cases h
  · cases h
theorem rput_any (b0 gR nR cR : Nat) (rs : List Pkt) (f t : Int) (A : Option Addr) (m cc B : Nat) (xs : List UInt8) (w : World) (h : RI w b0 gR nR cR rs) (hx : Has w B A xs) (hB : B ≤ w.heap.size) (hm : xs.length = m) (hb0 : b0 ≤ w.heap.size) :
    Calls Try.prog 23 #[.slice (some ⟨gR, 0, none⟩) nR cR, .agg #[.int .i64 f, .int .i64 t, .slice A m cc]] w (RPut b0 gR nR cR rs f t xs (putE rs.length f t xs.length) w) := by
  refine (nrput_any b0 gR nR cR rs f t A m cc B xs w h.row hx hB hm h.len).mono ?_
  rintro e w' ⟨g', n', c', rfl, hb, h1, h2⟩
  by_cases h0 : putE rs.length f t xs.length = 0
  · obtain ⟨A', m', cc', h3, h4⟩ := h2 h0
    have hlt := (putE_lt h0).2
    refine ⟨g', n', c', rs ++ [⟨f, t, A', m', cc', xs⟩], rfl, ⟨h3.from_ hb0, fun q hq => ?_, by simp; omega⟩, hb, fun hn => absurd h0 hn, fun _ => by simp [Pkt.key], .inr (h3.lt g' rfl).1, fun q hq => ?_⟩
    · rcases List.mem_append.1 hq with h5 | h5
      · exact (h.dat q h5).below hb
      · simp at h5
        subst h5
        exact h4.from_ hb0
    · rcases List.mem_append.1 hq with h5 | h5
      · exact .inl h5
      · simp at h5
        subst h5
        exact .inr fun k hk => (h4.lt k hk).1
  · obtain ⟨rfl, rfl, rfl⟩ := h1 h0
    exact ⟨_, _, _, rs, rfl, h.below hb, hb, fun _ => ⟨rfl, rfl, rfl, rfl⟩, fun he => absurd he h0, .inl rfl, fun q hq => .inl hq⟩

/-- What Put leaves of the net. -/
def NPut (b0 g : Nat) (v : Value) (ns : List Pkt) (f t : Int) (xs : List UInt8) (x : Int) (w : World) (e : Ending) (w' : World) : Prop :=
  e = .returned (.int .i64 x) ∧ ∃ v' ns', IsN w' b0 g v' ns' ∧ Kept (NB g v) w w' ∧ (v'.ownBlock = v.ownBlock ∨ ∀ k, v'.ownBlock = some k → w.heap.size ≤ k) ∧ (x ≠ 0 → ns' = ns) ∧
    (x = 0 → ns'.map Pkt.key = ns.map Pkt.key ++ [(f, t, xs)]) ∧ (∀ q ∈ ns', q ∈ ns ∨ ∀ k, q.sl.ownBlock = some k → w.heap.size ≤ k)
theorem npt_any (b0 g : Nat) (v : Value) (ns : List Pkt) (f t : Int) (A : Option Addr) (n c B : Nat) (xs : List UInt8) (w : World) (h : IsN w b0 g v ns) (hx : Has w B A xs) (hB : B ≤ w.heap.size) (hn : xs.length = n) :
    Calls Try.prog 24 #[.pointer (some ⟨g, 0, none⟩), .agg #[.int .i64 f, .int .i64 t, .slice A n c]] w (NPut b0 g v ns f t xs (putE ns.length f t xs.length) w) := by
  refine (nput_any b0 g v ns f t A n c B xs w h hx hB hn).mono ?_
  rintro e w' ⟨rfl, v', ns', h1, h2, h3, h4, h5⟩
  refine ⟨rfl, v', ns', h1, h2, h3, fun h => (h4 h).2, fun h => ?_, fun q hq => ?_⟩
  · obtain ⟨A', n', c', rfl, _⟩ := h5 h
    simp [Pkt.key]
  · by_cases h0 : putE ns.length f t xs.length = 0
    · obtain ⟨A', n', c', rfl, h6⟩ := h5 h0
      rcases List.mem_append.1 hq with h7 | h7
      · exact .inl h7
      · simp at h7
        subst h7
        exact .inr h6
    · obtain ⟨_, rfl⟩ := h4 h0
      exact .inl hq
/-- Copy on the net. -/
theorem ncp_any (b0 g : Nat) (v : Value) (ns : List Pkt) (k : Nat) (p : Pkt) (w : World) (h : IsN w b0 g v ns) (hp : ns[k]? = some p) :
    Calls Try.prog 28 #[.pointer (some ⟨g, 0, none⟩), .int .i64 (k : Int)] w fun e w' => e = .returned (.bool (decide (ns.length < 512))) ∧ ∃ v' ns', IsN w' b0 g v' ns' ∧ Kept (NB g v) w w' ∧ (v'.ownBlock = v.ownBlock ∨ ∀ k, v'.ownBlock = some k → w.heap.size ≤ k) ∧
      ns'.map Pkt.key = (if ns.length < 512 then ns.map Pkt.key ++ [p.key] else ns.map Pkt.key) := by
  refine (ncopy_yes b0 g v ns k p w h hp).mono ?_
  rintro e w' ⟨rfl, v', ns', h1, h2, h3, h4, h5⟩
  refine ⟨rfl, v', ns', h1, h2, h3, ?_⟩
  by_cases hl : ns.length < 512
  · obtain ⟨A', n', c', rfl, _⟩ := h4 hl
    rw [if_pos hl]
    simp [Pkt.key]
  · obtain ⟨_, rfl⟩ := h5 hl
    rw [if_neg hl]
end Go.Proofs.Ytpbfibofjkinmaa
