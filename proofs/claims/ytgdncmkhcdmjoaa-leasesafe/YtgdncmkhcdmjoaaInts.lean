/-
  Words for slices of int in memory, and append onto one that the call owns. No condition but the reach of what is read.
-/
import Derived.Test.YtgdncmkhcdmjoaaRows
import Derived.Test.YtgdncmkhcdmjoaaWords
import Derived.Deep.QuietTactic
import Derived.BigQuiet
import Derived.Outline
import Derived.Handy
import Derived.Maps.AppendAt
import Derived.RegionTactic
import Derived.OwnWalk
import Derived.WalkSpells
import Derived.Lib.AppendZeros
set_option linter.unusedSimpArgs false
set_option linter.unusedVariables false
namespace Go.Proofs.Ytgdncmkhcdmjoaa
open Go.RowKit

theorem int_info : (Try.prog.info? 3).map (fun i => (i.zero, i.size, i.bytes)) = some (some (Value.int .i64 0), 1, 8) := by kernel_rfl

/-- The slice that begins at A reads as the numbers xs, and lies in a block below B. -/
def HasI (w : World) (B : Nat) (A : Option Addr) (xs : List Int) : Prop :=
  ∀ k (h : k < xs.length), ∃ b o, A = some ⟨b, o, none⟩ ∧ b < B ∧ w.cell? ⟨b, o + k, none⟩ = some (.int .i64 xs[k])

theorem HasI.nil (w : World) (B : Nat) (A : Option Addr) : HasI w B A [] := fun k h => absurd h (by simp)
theorem HasI.keep {w w' : World} {B : Nat} {A : Option Addr} {xs : List Int} (h : HasI w B A xs) (hk : ∀ b, b < B → w'.heap[b]? = w.heap[b]?) : HasI w' B A xs := by
  intro k hlt
  obtain ⟨b, o, hA, hb, hc⟩ := h k hlt
  exact ⟨b, o, hA, hb, (World.cell?_of_block (w := w) (a := ⟨b, o + k, none⟩) (hk b hb)).trans hc⟩
theorem HasI.more {w : World} {B B' : Nat} {A : Option Addr} {xs : List Int} (h : HasI w B A xs) (hB : B ≤ B') : HasI w B' A xs := by
  intro k hlt
  obtain ⟨b, o, hA, hb, hc⟩ := h k hlt
  exact ⟨b, o, hA, by omega, hc⟩
theorem HasI.below {w w' : World} {B : Nat} {A : Option Addr} {xs : List Int} (h : HasI w B A xs) (hb : Below B w w') : HasI w' B A xs := h.keep fun b hlt => hb.block b hlt
theorem HasI.on {w w' : World} {B : Nat} {A : Option Addr} {xs : List Int} (h : HasI w B A xs) (hB : B ≤ w.heap.size) (hb : Below w.heap.size w w') : HasI w' B A xs := h.keep fun b hlt => hb.block b (by omega)
theorem HasI.alloc {w : World} {B : Nat} {A : Option Addr} {xs : List Int} (h : HasI w B A xs) (hB : B ≤ w.heap.size) (o : Obj) : HasI (w.alloc o) B A xs :=
  h.keep fun b hlt => Below.heap_alloc w o b (by omega)
theorem HasI.drewN {w : World} {B : Nat} {A : Option Addr} {xs : List Int} (h : HasI w B A xs) (n : Nat) : HasI (w.drewN n) B A xs := h
theorem HasI.drew {w : World} {B : Nat} {A : Option Addr} {xs : List Int} (h : HasI w B A xs) : HasI w.drew B A xs := h
theorem HasI.at_ {w : World} {B : Nat} {b o : Nat} {xs : List Int} (h : HasI w B (some ⟨b, o, none⟩) xs) (k : Nat) (hk : k < xs.length) : b < B ∧ w.cell? ⟨b, o + k, none⟩ = some (.int .i64 xs[k]) := by
  obtain ⟨b', o', e, hb, hc⟩ := h k hk
  cases e
  exact ⟨hb, hc⟩

def icells (xs : List Int) : Array Value := (xs.map (Value.int .i64)).toArray
theorem HasI.block {w : World} {B g : Nat} {t : TypeId} {xs : List Int} {m : Nat × Nat} (h : w.heap[g]? = some (.cells (icells xs) t m)) (hg : g < B) : HasI w B (some ⟨g, 0, none⟩) xs := by
  intro k hlt
  refine ⟨g, 0, rfl, hg, ?_⟩
  simp [World.cell?, h, hlt, icells]
theorem HasI.new (w : World) (t : TypeId) (xs : List Int) (m : Nat × Nat) (g : Nat) (hg : g = w.heap.size) : HasI (w.alloc (.cells (icells xs) t m)) (g + 1) (some ⟨g, 0, none⟩) xs := by
  subst hg
  exact HasI.block (t := t) (heap_alloc_new w _) (by omega)

/-- The slice value v holds just xs, in a block of the call's own (from base on), or is nil. -/
def OwnI (w : World) (base : Nat) (v : Value) (xs : List Int) : Prop := w.ownsRow base 3 1 v xs.length (xs.map (Value.int .i64))

theorem OwnI.nil (w : World) (base : Nat) : OwnI w base (.slice none 0 0) [] := ⟨rfl, .inl ⟨rfl, rfl⟩⟩
theorem OwnI.keep {w w' : World} {base : Nat} {v : Value} {xs : List Int} (h : OwnI w base v xs) (hk : ∀ g, v.ownBlock = some g → w'.heap[g]? = w.heap[g]?) : OwnI w' base v xs := by
  refine ⟨h.1, ?_⟩
  rcases h.2 with h2 | ⟨g, cap, cur, hv, hg, hh, r⟩
  · exact .inl h2
  · exact .inr ⟨g, cap, cur, hv, hg, by rw [hk g (by rw [hv]; rfl)]; exact hh, r⟩
theorem OwnI.lt {w : World} {base : Nat} {v : Value} {xs : List Int} (h : OwnI w base v xs) : ∀ g, v.ownBlock = some g → base ≤ g ∧ g < w.heap.size := World.ownsRow.lt h
theorem OwnI.from_ {w : World} {base base' : Nat} {v : Value} {xs : List Int} (h : OwnI w base v xs) (hb : base' ≤ base) : OwnI w base' v xs := by
  refine ⟨h.1, ?_⟩
  rcases h.2 with h2 | ⟨g, cap, cur, hv, hg, r⟩
  · exact .inl h2
  · exact .inr ⟨g, cap, cur, hv, by omega, r⟩
theorem OwnI.below {w w' : World} {base : Nat} {v : Value} {xs : List Int} (h : OwnI w base v xs) (hb : Below w.heap.size w w') : OwnI w' base v xs :=
  h.keep fun g hg => hb.block g (h.lt g hg).2
theorem OwnI.form {w : World} {base : Nat} {v : Value} {xs : List Int} (h : OwnI w base v xs) : ∃ A n c, v = .slice A n c ∧ Hid (xs.length = n) ∧ n ≤ c ∧ HasI w w.heap.size A xs := by
  rcases h.2 with ⟨hv, hn⟩ | ⟨g, cap, cur, hv, hg, hh, hnc, hm, hcs, ht⟩
  · have hx : xs = [] := List.eq_nil_of_length_eq_zero hn
    subst hx
    exact ⟨none, 0, 0, hv, rfl, Nat.le_refl _, HasI.nil _ _ _⟩
  · refine ⟨some ⟨g, 0, none⟩, xs.length, cap, hv, rfl, hnc, ?_⟩
    intro k hk
    refine ⟨g, 0, rfl, lt_of_block hh, ?_⟩
    have h1 : (cur.toList.take (xs.length * 1))[k]? = some (.int .i64 xs[k]) := by rw [ht]; simp [hk]
    rw [List.getElem?_take_of_lt (by omega)] at h1
    simp only [World.cell?, hh]
    simpa using h1
theorem OwnI.new (w : World) (xs : List Int) (g base : Nat) (hg : g = w.heap.size) (hb : base ≤ g) (hl : xs.length ≤ 140737488355328) : OwnI (w.alloc (.cells (icells xs) 3)) base (.slice (some ⟨g, 0, none⟩) xs.length xs.length) xs := by
  subst hg
  refine ⟨by simp, .inr ⟨w.heap.size, xs.length, icells xs, rfl, hb, heap_alloc_new w _, Nat.le_refl _, by unfold maxLen; omega, by simp [icells], ?_⟩⟩
  rw [Nat.mul_one, icells, List.take_of_length_le (by simp)]

theorem int_oneCell (xs : List Int) : ∀ u ∈ xs.map (Value.int .i64), u.oneCell' = true := by
  intro u hu
  obtain ⟨c, _, rfl⟩ := List.mem_map.1 hu
  rfl

theorem run_append_ints (w : World) (ty base : Nat) (v : Value) (xs : List Int) (hown : OwnI w base v xs) (B : Nat) (A : Option Addr) (m c : Nat) (news : List Int) (hr : HasI w B A news) (hm : news.length = m)
    (hlen : xs.length + m ≤ 17592186044416) (hbase : base ≤ w.heap.size) :
    ∃ v' w', (Builtin.append_ #[22, 22] ty #[v, .slice A m c]).run Try.prog w = .ok v' w' ∧ OwnI w' base v' (xs ++ news) ∧ w.grownBy w' v.ownBlock ∧ (v'.ownBlock = v.ownBlock ∨ v'.ownBlock = some w.heap.size) := by
  obtain ⟨i0, hi0, hz0, hz1, hz2⟩ := info_parts int_info
  subst hm
  rcases A with _ | ad
  · have hn : news = [] := by
      rcases Nat.eq_zero_or_pos news.length with h0 | h0
      · exact List.eq_nil_of_length_eq_zero h0
      · obtain ⟨_, _, e, _⟩ := hr 0 h0
        cases e
    subst hn
    refine ⟨v, w, ?_, by simpa using hown, World.grownBy.refl w _, .inl rfl⟩
    rcases hown.2 with ⟨rfl, _⟩ | ⟨g, cap, cur, rfl, _, _, hnc, _⟩
    · simp [Builtin.append_, run_underlying Try.underlying22, sizeOf, typeInfo, hi0, Builtin.lenOf, Builtin.firstCells]
    · simp [Builtin.append_, run_underlying Try.underlying22, sizeOf, typeInfo, hi0, Builtin.lenOf, Builtin.firstCells, hnc, storeCells]
  · have hcells : ∀ j u, (news.map (Value.int .i64))[j]? = some u → w.cell? (ad.add j) = some u := by
      intro j u hu
      have hj : j < news.length := by
        rcases Nat.lt_or_ge j news.length with h | h
        · exact h
        · rw [List.getElem?_eq_none (by simpa using h)] at hu; cases hu
      obtain ⟨b, o, e, _, hc⟩ := hr j hj
      have e' := Option.some.inj e
      subst e'
      simp [hj] at hu
      subst hu
      have ea : (⟨b, o, none⟩ : Addr).add j = ⟨b, o + j, none⟩ := by
        unfold Addr.add
        split <;> simp_all
      rw [ea]
      exact hc
    obtain ⟨v', w', hrun, h2, h3, _, h5⟩ := run_append_own_at (P := Try.prog) w base 22 ty 3 i0 (.int .i64 0) 1 8 Try.underlying22 hi0 hz0 hz1 hz2 rfl (by omega) v xs.length (xs.map (Value.int .i64)) hown ad news.length c (news.map (Value.int .i64)) (by simp) hcells (int_oneCell news)
      (by unfold maxLen; omega) (by omega) hbase
    exact ⟨v', w', hrun, by unfold OwnI; rw [List.length_append, List.map_append]; exact h2, h3, h5⟩

/-- A copy: what append of a slice onto an empty one gives. -/
theorem run_copy_ints (w : World) (ty : Nat) (A : Option Addr) (m c B : Nat) (xs : List Int) (hr : HasI w B A xs) (hm : xs.length = m) (hlen : m ≤ 17592186044416) (hB : B ≤ w.heap.size) :
    ∃ v' w', (Builtin.append_ #[22, 22] ty #[.slice (some ⟨w.heap.size, 0, none⟩) 0 0, .slice A m c]).run Try.prog (w.alloc (.cells #[] 3)) = .ok v' w' ∧ OwnI w' w.heap.size v' xs ∧ Below w.heap.size w w' := by
  have ho := OwnI.new w [] w.heap.size w.heap.size rfl (Nat.le_refl _) (by simp)
  obtain ⟨v', w', h1, h2, h3, h4⟩ := run_append_ints (w.alloc (.cells (icells []) 3)) ty w.heap.size _ [] ho B A m c xs (hr.alloc hB _) hm (by simp; omega) (by simp)
  exact ⟨v', w', h1, by simpa using h2, ((Below.refl _ _).alloc (Nat.le_refl _) _).grown h3 (by simp) (by intro k hk; cases hk; exact Nat.le_refl _)⟩

/-- append at a plain region's list of operations, where it is wanted. -/
theorem list_append_want {P : Program} (w : World) {ops : Array Oper} {rest : List Oper} {o : Oper} {a : Act} {Q : Exit → Act → World → Prop} (hw : Region.wanted o (yielded ops a.tmps) = true) (s x : Operand) (t tn : TypeId)
    (ho : o.op = .call { callee := .builtin .append, args := #[s, x], argTypes := #[t, tn] }) (vs vx : Value) (hs : a.eval s = vs) (hx : a.eval x = vx)
    (v' : Value) (w' : World) (hr : (Builtin.append_ #[t, tn] o.type #[vs, vx]).run P w = .ok v' w') (h : wpList P ops Q rest (a.put o.dst v') w') : wpList P ops Q (o :: rest) a w :=
  wpList_step fun _ hK => by
    rw [if_pos hw]
    exact Lib.wp_append_run w s x t tn ho vs vx hs hx v' w' hr (hK _ _ h)
end Go.Proofs.Ytgdncmkhcdmjoaa
