/-
  A slice of commands that the call owns, and append onto it. Conditions: what is read is in reach.
-/
import Derived.Test.YtnngmapphacpkaaValPut
set_option linter.unusedSimpArgs false
set_option linter.unusedVariables false
namespace Go.Proofs.Ytnngmapphacpkaa
open Go.RowKit

theorem cmd_info : (Try.prog.info? 58).map (fun i => (i.zero, i.size, i.bytes)) = some (some (Value.agg #[.int .i64 0, .int .i64 0, .int .i64 0, .int .i64 0, .int .i64 0, .int .i64 0, .int .i64 0, .int .i64 0]), 8, 64) := by kernel_rfl

def Cmdv.cells (c : Cmdv) : List Value := [.int .i64 c.s, .int .i64 c.q, .int .i64 c.a, .int .i64 c.k, .int .i64 c.r, .int .i64 c.t, .int .i64 c.re, .int .i64 c.im]
def flatC (cs : List Cmdv) : List Value := cs.flatMap Cmdv.cells
theorem flatC_length (cs : List Cmdv) : (flatC cs).length = cs.length * 8 := by
  induction cs with
  | nil => rfl
  | cons c cs ih =>
    have e : flatC (c :: cs) = c.cells ++ flatC cs := rfl
    have h8 : c.cells.length = 8 := rfl
    rw [e, List.length_append, ih, List.length_cons, h8]
    omega
theorem flatC_get (cs : List Cmdv) (i r : Nat) (hi : i < cs.length) (hr : r < 8) : (flatC cs)[i * 8 + r]? = cs[i].cells[r]? := by
  induction cs generalizing i with
  | nil => simp at hi
  | cons c cs ih =>
    have e : flatC (c :: cs) = c.cells ++ flatC cs := rfl
    have h8 : c.cells.length = 8 := rfl
    rw [e]
    match i with
    | 0 => rw [List.getElem?_append_left (by rw [h8]; omega)]; simp
    | i + 1 =>
      rw [List.getElem?_append_right (by rw [h8]; omega), h8, show (i + 1) * 8 + r - 8 = i * 8 + r from by omega, ih i (by simpa using hi)]
      simp
theorem flatC_one (cs : List Cmdv) : ∀ u ∈ flatC cs, u.oneCell' = true := by
  intro u hu
  obtain ⟨c, _, h⟩ := List.mem_flatMap.1 hu
  simp only [Cmdv.cells, List.mem_cons, List.not_mem_nil, or_false] at h
  rcases h with rfl | rfl | rfl | rfl | rfl | rfl | rfl | rfl <;> rfl
theorem flatC_append (cs ds : List Cmdv) : flatC (cs ++ ds) = flatC cs ++ flatC ds := List.flatMap_append

/-- Cells that are laid one behind the other read as commands. -/
theorem HasC.of_cells {w : World} {B g : Nat} {cs : List Cmdv} (hg : g < B) (h : ∀ j u, (flatC cs)[j]? = some u → w.cell? ⟨g, j, none⟩ = some u) : HasC w B (some ⟨g, 0, none⟩) cs := by
  intro i hi
  have key : ∀ r, r < 8 → ∀ u, cs[i].cells[r]? = some u → w.cell? ⟨g, 0 + i * 8 + r, none⟩ = some u := fun r hr u hu => by
    rw [Nat.zero_add]
    exact h _ _ ((flatC_get cs i r hi hr).trans hu)
  exact ⟨g, 0, rfl, hg, key 0 (by omega) _ rfl, key 1 (by omega) _ rfl, key 2 (by omega) _ rfl, key 3 (by omega) _ rfl, key 4 (by omega) _ rfl, key 5 (by omega) _ rfl, key 6 (by omega) _ rfl, key 7 (by omega) _ rfl⟩
/-- And the other way. -/
theorem HasC.cells {w : World} {B : Nat} {b o : Nat} {cs : List Cmdv} (h : HasC w B (some ⟨b, o, none⟩) cs) (j : Nat) (u : Value) (hu : (flatC cs)[j]? = some u) : w.cell? ⟨b, o + j, none⟩ = some u := by
  have hj : j < cs.length * 8 := by
    rw [← flatC_length]
    rcases Nat.lt_or_ge j (flatC cs).length with h1 | h1
    · exact h1
    · rw [List.getElem?_eq_none h1] at hu; cases hu
  have hi : j / 8 < cs.length := by omega
  obtain ⟨b', o', e, _, h0, h1, h2, h3, h4, h5, h6, h7⟩ := h (j / 8) hi
  cases e
  have e8 := flatC_get cs (j / 8) (j % 8) hi (by omega)
  rw [show j / 8 * 8 + j % 8 = j from by omega, hu] at e8
  have ej : o + j = o + j / 8 * 8 + j % 8 := by omega
  rw [ej]
  have hr : j % 8 < 8 := by omega
  generalize j % 8 = r at *
  match r, hr with
  | 0, _ => rw [Nat.add_zero, h0]; exact e8.symm
  | 1, _ => rw [h1]; exact e8.symm
  | 2, _ => rw [h2]; exact e8.symm
  | 3, _ => rw [h3]; exact e8.symm
  | 4, _ => rw [h4]; exact e8.symm
  | 5, _ => rw [h5]; exact e8.symm
  | 6, _ => rw [h6]; exact e8.symm
  | 7, _ => rw [h7]; exact e8.symm

/-- The slice value v holds just cs, in a block of the call's own (from base on), or is nil. -/
def OwnC (w : World) (base : Nat) (v : Value) (cs : List Cmdv) : Prop := w.ownsRow base 58 8 v cs.length (flatC cs)
theorem OwnC.nil (w : World) (base : Nat) : OwnC w base (.slice none 0 0) [] := ⟨rfl, .inl ⟨rfl, rfl⟩⟩
theorem OwnC.lt {w : World} {base : Nat} {v : Value} {cs : List Cmdv} (h : OwnC w base v cs) : ∀ g, v.ownBlock = some g → base ≤ g ∧ g < w.heap.size := World.ownsRow.lt h
theorem OwnC.keep {w w' : World} {base : Nat} {v : Value} {cs : List Cmdv} (h : OwnC w base v cs) (hk : ∀ g, v.ownBlock = some g → w'.heap[g]? = w.heap[g]?) : OwnC w' base v cs := by
  refine ⟨h.1, ?_⟩
  rcases h.2 with h2 | ⟨g, cap, cur, hv, hg, hh, r⟩
  · exact .inl h2
  · exact .inr ⟨g, cap, cur, hv, hg, by rw [hk g (by rw [hv]; rfl)]; exact hh, r⟩
theorem OwnC.below {w w' : World} {base : Nat} {v : Value} {cs : List Cmdv} (h : OwnC w base v cs) (hb : Below w.heap.size w w') : OwnC w' base v cs :=
  h.keep fun g hg => hb.block g (h.lt g hg).2
theorem OwnC.form {w : World} {base : Nat} {v : Value} {cs : List Cmdv} (h : OwnC w base v cs) : ∃ A n c, v = .slice A n c ∧ Hid (cs.length = n) ∧ n ≤ c ∧ HasC w w.heap.size A cs := by
  rcases h.2 with ⟨hv, hn⟩ | ⟨g, cap, cur, hv, hg, hh, hnc, hm, hcs, ht⟩
  · have hx : cs = [] := List.eq_nil_of_length_eq_zero hn
    subst hx
    exact ⟨none, 0, 0, hv, rfl, Nat.le_refl _, HasC.nil _ _ _⟩
  · refine ⟨some ⟨g, 0, none⟩, cs.length, cap, hv, rfl, hnc, HasC.of_cells (lt_of_block hh) fun j u hu => ?_⟩
    rw [← ht] at hu
    have hj : j < cs.length * 8 := by
      rcases Nat.lt_or_ge j (cs.length * 8) with h1 | h1
      · exact h1
      · rw [List.getElem?_eq_none (by rw [List.length_take]; omega)] at hu; cases hu
    rw [List.getElem?_take_of_lt hj] at hu
    simp only [World.cell?, hh]
    simpa using hu

theorem run_append_cmds (w : World) (ty base : Nat) (v : Value) (cs : List Cmdv) (hown : OwnC w base v cs) (B : Nat) (A : Option Addr) (m c : Nat) (news : List Cmdv) (hr : HasC w B A news) (hm : news.length = m)
    (hlen : cs.length + m ≤ 2199023255552) (hbase : base ≤ w.heap.size) :
    ∃ v' w', (Builtin.append_ #[33, 33] ty #[v, .slice A m c]).run Try.prog w = .ok v' w' ∧ OwnC w' base v' (cs ++ news) ∧ w.grownBy w' v.ownBlock ∧ (v'.ownBlock = v.ownBlock ∨ v'.ownBlock = some w.heap.size) := by
  obtain ⟨i0, hi0, hz0, hz1, hz2⟩ := info_parts cmd_info
  subst hm
  rcases A with _ | ad
  · have hn : news = [] := by
      rcases Nat.eq_zero_or_pos news.length with h0 | h0
      · exact List.eq_nil_of_length_eq_zero h0
      · obtain ⟨_, _, e, _⟩ := hr 0 h0
        cases e
    subst hn
    refine ⟨v, w, ?_, by simpa using hown, World.grownBy.refl w _, .inl rfl⟩
    rcases hown.2 with ⟨rfl, _⟩ | ⟨g, cap, cur, rfl, _, _, hnc, _⟩
    · simp [Builtin.append_, run_underlying Try.underlying33, sizeOf, typeInfo, hi0, Builtin.lenOf, Builtin.firstCells]
    · simp [Builtin.append_, run_underlying Try.underlying33, sizeOf, typeInfo, hi0, Builtin.lenOf, Builtin.firstCells, hnc, storeCells]
  · have hcells : ∀ j u, (flatC news)[j]? = some u → w.cell? (ad.add j) = some u := by
      intro j u hu
      rcases Nat.eq_zero_or_pos news.length with h0 | h0
      · have : news = [] := List.eq_nil_of_length_eq_zero h0
        subst this
        simp [flatC] at hu
      · obtain ⟨b, o, e, _⟩ := hr 0 h0
        have e' := Option.some.inj e
        subst e'
        have ea : (⟨b, o, none⟩ : Addr).add j = ⟨b, o + j, none⟩ := by
          unfold Addr.add
          split <;> simp_all
        rw [ea]
        exact hr.cells j u hu
    obtain ⟨v', w', hrun, h2, h3, _, h5⟩ := run_append_own_at (P := Try.prog) w base 33 ty 58 i0 _ 8 64 Try.underlying33 hi0 hz0 hz1 hz2 rfl (by omega) v cs.length (flatC cs) hown ad news.length c (flatC news) (flatC_length news) hcells (flatC_one news)
      (by unfold maxLen; omega) (by omega) hbase
    exact ⟨v', w', hrun, by unfold OwnC; rw [List.length_append, flatC_append]; exact h2, h3, h5⟩

theorem OwnC.empty (w : World) (g base : Nat) (hg : g = w.heap.size) (hb : base ≤ g) : OwnC (w.alloc (.cells #[] 58)) base (.slice (some ⟨g, 0, none⟩) 0 0) [] := by
  subst hg
  exact ⟨rfl, .inr ⟨w.heap.size, 0, #[], rfl, hb, heap_alloc_new w _, Nat.le_refl _, by unfold maxLen; omega, rfl, rfl⟩⟩

/-- A copy: what append of commands onto an empty slice gives. -/
theorem run_copy_cmds (w : World) (ty : Nat) (A : Option Addr) (m c B : Nat) (cs : List Cmdv) (hr : HasC w B A cs) (hm : cs.length = m) (hlen : m ≤ 2199023255552) (hB : B ≤ w.heap.size) :
    ∃ v' w', (Builtin.append_ #[33, 33] ty #[.slice (some ⟨w.heap.size, 0, none⟩) 0 0, .slice A m c]).run Try.prog (w.alloc (.cells #[] 58)) = .ok v' w' ∧ OwnC w' w.heap.size v' cs ∧ Below w.heap.size w w' := by
  obtain ⟨v', w', h1, h2, h3, h4⟩ := run_append_cmds (w.alloc (.cells #[] 58)) ty w.heap.size _ [] (OwnC.empty w _ _ rfl (Nat.le_refl _)) B A m c cs (hr.alloc hB _) hm (by simp; omega) (by simp)
  exact ⟨v', w', h1, by simpa using h2, ((Below.refl _ _).alloc (Nat.le_refl _) _).grown h3 (by simp) (by intro k hk; cases hk; exact Nat.le_refl _)⟩
end Go.Proofs.Ytnngmapphacpkaa
