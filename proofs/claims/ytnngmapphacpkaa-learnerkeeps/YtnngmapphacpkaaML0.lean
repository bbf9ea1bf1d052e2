/-
  Next and New of package learner. Conditions: the members are in reach.
  New, Known, Next, Pass and Size of package learner. Conditions: a slot is a number of 64 bits; the members are in reach.
  open, Told, Known, Next, Pass and Size of package learner. Conditions: a slot is a number of 64 bits; a value is in reach.
  open, decide and Told of package learner. Conditions: a slot is a number of 64 bits; a value is in reach.
  A learner in memory; its small calls. No condition but that a slot is a number of 64 bits.
-/
import Derived.Test.YtnngmapphacpkaaIntMap
import Derived.Test.YtnngmapphacpkaaValCheck
import Derived.Test.YtnngmapphacpkaaValClone
import Derived.Test.YtnngmapphacpkaaBallotE
import Derived.Test.YtnngmapphacpkaaPcs
import Derived.Deep.DeepCutAuto
import Derived.Deep.Cut
import Derived.Deep.MidRow
import Derived.Deep.RegionHeld3
import Derived.BigQuiet
set_option linter.unusedSimpArgs false
set_option linter.unusedVariables false

namespace Go.Proofs.Ytnngmapphacpkaa
open Go.RowKit

/-- A value, a vote. -/
structure Vl where
  k : Int
  cs : List Cmdv
  ns : List Int
structure Vt where
  s : Int
  r : Int
  n : Int
  v : Vl
/-- What a learner is: members, next slot, highest slot heard of, votes by slot and node, decisions by slot. -/
structure Lv where
  ms : List Int
  next : Int
  heard : Int
  V : Int → Option (Int → Option Vt)
  D : Int → Option Vl

/-- A value that is kept in blocks of F. -/
structure StV (w : World) (F : Nat → Prop) (A : Option Addr) (n c : Nat) (D : Option Addr) (m d : Nat) (x : Vl) : Prop where
  hc : OwnC w 0 (.slice A n c) x.cs
  hi : OwnI w 0 (.slice D m d) x.ns
  fc : ∀ j, (Value.slice A n c).ownBlock = some j → F j
  fi : ∀ j, (Value.slice D m d).ownBlock = some j → F j
  ok : chkV x.k x.cs x.ns = 0
def IsVal (w : World) (F : Nat → Prop) (u : Value) (x : Vl) : Prop := ∃ A n c D m d, u = .agg #[.int .i64 x.k, .slice A n c, .slice D m d] ∧ StV w F A n c D m d x
def IsVote (w : World) (F : Nat → Prop) (u : Value) (y : Vt) : Prop := ∃ A n c D m d, u = .agg #[.int .i64 y.s, .int .i64 y.r, .int .i64 y.n, .int .i64 y.v.k, .slice A n c, .slice D m d] ∧ StV w F A n c D m d y.v

/-- Rows that are no learner stand. -/
def RowsSame (w w' : World) : Prop := ∀ (j : Nat) (cur : Array Value) (t : TypeId), w.heap[j]? = some (.cells cur t (0, 0)) → t ≠ 78 → w'.heap[j]? = w.heap[j]?
theorem RowsSame.trans {a b c : World} (h : RowsSame a b) (h' : RowsSame b c) : RowsSame a c := fun j cur t hj ht => (h' j cur t ((h j cur t hj ht).trans hj) ht).trans (h j cur t hj ht)
theorem RowsSame.of_below {w w' : World} (h : Below w.heap.size w w') : RowsSame w w' := fun j _ _ hj _ => h.block j (lt_of_block hj)
theorem RowsSame.of_set {w : World} {g i : Nat} {cur : Array Value} (hg : w.heap[g]? = some (.cells cur 78 (0, 0))) (v : Value) : RowsSame w (w.setCell ⟨g, i, none⟩ v) := fun j cur' t hj ht =>
  Below.heap_setCell w ⟨g, i, none⟩ v j (fun e => by
    have e' : j = g := e
    rw [e', hg] at hj
    injection hj with hj
    injection hj with _ h2
    exact ht h2.symm)
theorem RowsSame.of_kept {w w' : World} {T : Nat → Prop} (h : Kept T w w') (hT : ∀ j, T j → (∃ es cl, w.heap[j]? = some (.map es cl)) ∨ ∃ cur, w.heap[j]? = some (.cells cur 78 (0, 0))) : RowsSame w w' := fun j cur t hj ht =>
  h.block j (lt_of_block hj) (fun hf => by
    rcases hT j hf with ⟨es, cl, e⟩ | ⟨cur', e⟩
    · rw [e] at hj; cases hj
    · rw [e] at hj
      injection hj with hj
      injection hj with _ h2
      exact ht h2.symm)
theorem RowsSame.of_map {w w' : World} {b : Nat} (h : w.mapTurned w' b) : RowsSame w w' := RowsSame.of_kept (T := fun j => j = b) (Kept.of_grown (F := fun j => j = b) h.grown (fun j hj => (Option.some.inj hj).symm)) (fun j hj => by
  obtain ⟨es, cl, es', cl', hb, _⟩ := h
  exact .inl ⟨es, cl, by rw [hj]; exact hb⟩)
section
variable {w w' : World} {F F' : Nat → Prop} {A D : Option Addr} {n c m d : Nat} {x : Vl}
theorem StV.same (h : StV w F A n c D m d x) (hs : RowsSame w w') : StV w' F A n c D m d x :=
  ⟨h.hc.keep fun j hj => by
    obtain ⟨cur, hc⟩ := ownsRow_typed h.hc j hj
    exact hs j cur _ hc (by decide), h.hi.keep fun j hj => by
    obtain ⟨cur, hc⟩ := ownsRow_typed h.hi j hj
    exact hs j cur _ hc (by decide), h.fc, h.fi, h.ok⟩
theorem StV.keep (h : StV w F A n c D m d x) (hs : ∀ j, F j → w'.heap[j]? = w.heap[j]?) : StV w' F A n c D m d x :=
  ⟨h.hc.keep fun j hj => hs j (h.fc j hj), h.hi.keep fun j hj => hs j (h.fi j hj), h.fc, h.fi, h.ok⟩
theorem StV.more (h : StV w F A n c D m d x) (hF : ∀ j, F j → F' j) : StV w F' A n c D m d x := ⟨h.hc, h.hi, fun j hj => hF j (h.fc j hj), fun j hj => hF j (h.fi j hj), h.ok⟩
theorem chkV_len {k : Int} {cs : List Cmdv} {ns : List Int} (h : chkV k cs ns = 0) : cs.length ≤ 8 ∧ ns.length ≤ 7 := by
  unfold chkV at h
  split at h
  · rename_i hs
    have hs' : shP k cs.length ns.length := of_decide_eq_true hs
    unfold shP at hs'
    split at h
    · rename_i hk
      unfold chkS at h
      split at h
      · rename_i hr
        have := hr.2.1
        omega
      · omega
    · rename_i hk
      omega
  · omega
theorem StV.len (h : StV w F A n c D m d x) : x.cs.length = n ∧ x.ns.length = m ∧ n ≤ 8 ∧ m ≤ 7 := by
  obtain ⟨_, _, _, e1, h1, _, _⟩ := h.hc.form
  obtain ⟨_, _, _, e2, h2, _, _⟩ := h.hi.form
  cases e1
  cases e2
  have h3 := h1.out
  have h4 := h2.out
  have := chkV_len h.ok
  omega
theorem StV.has (h : StV w F A n c D m d x) : HasC w w.heap.size A x.cs ∧ HasI w w.heap.size D x.ns := by
  obtain ⟨_, _, _, e1, _, _, h1⟩ := h.hc.form
  obtain ⟨_, _, _, e2, _, _, h2⟩ := h.hi.form
  cases e1
  cases e2
  exact ⟨h1, h2⟩
theorem IsVal.same {u : Value} (h : IsVal w F u x) (hs : RowsSame w w') : IsVal w' F u x := by
  obtain ⟨A, n, c, D, m, d, e, h⟩ := h
  exact ⟨A, n, c, D, m, d, e, h.same hs⟩
theorem IsVal.keep {u : Value} (h : IsVal w F u x) (hs : ∀ j, F j → w'.heap[j]? = w.heap[j]?) : IsVal w' F u x := by
  obtain ⟨A, n, c, D, m, d, e, h⟩ := h
  exact ⟨A, n, c, D, m, d, e, h.keep hs⟩
theorem IsVal.more {u : Value} (h : IsVal w F u x) (hF : ∀ j, F j → F' j) : IsVal w F' u x := by
  obtain ⟨A, n, c, D, m, d, e, h⟩ := h
  exact ⟨A, n, c, D, m, d, e, h.more hF⟩
theorem IsVote.same {u : Value} {y : Vt} (h : IsVote w F u y) (hs : RowsSame w w') : IsVote w' F u y := by
  obtain ⟨A, n, c, D, m, d, e, h⟩ := h
  exact ⟨A, n, c, D, m, d, e, h.same hs⟩
theorem IsVote.keep {u : Value} {y : Vt} (h : IsVote w F u y) (hs : ∀ j, F j → w'.heap[j]? = w.heap[j]?) : IsVote w' F u y := by
  obtain ⟨A, n, c, D, m, d, e, h⟩ := h
  exact ⟨A, n, c, D, m, d, e, h.keep hs⟩
theorem IsVote.more {u : Value} {y : Vt} (h : IsVote w F u y) (hF : ∀ j, F j → F' j) : IsVote w F' u y := by
  obtain ⟨A, n, c, D, m, d, e, h⟩ := h
  exact ⟨A, n, c, D, m, d, e, h.more hF⟩
end

/-- The numbers of a learner are right. -/
structure Lv.Good (l : Lv) : Prop where
  rt : rightS l.ms
  nx : 1 ≤ l.next ∧ l.next ≤ 1099511627777
  hd : 0 ≤ l.heard ∧ l.heard ≤ 1099511627776
  vr : ∀ s, (l.V s).isSome = true → l.next ≤ s ∧ s < l.next + 128 ∧ s ≤ 1099511627776
  dr : ∀ s, (l.D s).isSome = true → 1 ≤ s ∧ s < l.next + 128 ∧ s ≤ 1099511627776
  dj : ∀ s, (l.V s).isSome = true → l.D s = none
  nr : ∀ s N, l.V s = some N → ∀ k, (N k).isSome = true → 1 ≤ k ∧ k ≤ 9
/-- The votes of a slot. -/
def IsN (w : World) (F : Nat → Prop) (b : Nat) (N : Int → Option Vt) : Prop := ∃ M, IMap w b M ∧ (∀ k, N k = none → M k = none) ∧ ∀ k y, N k = some y → ∃ u, M k = some u ∧ IsVote w F u y
def IsDec (w : World) (F : Nat → Prop) (b : Nat) (D : Int → Option Vl) : Prop := ∃ M, IMap w b M ∧ (∀ k, D k = none → M k = none) ∧ ∀ k y, D k = some y → ∃ u, M k = some u ∧ IsVal w F u y
def IsVs (w : World) (b : Nat) (I : Int → Nat) (V : Int → Option (Int → Option Vt)) : Prop := IMap w b (fun s => (V s).map fun _ => Value.map (some (I s)))
/-- Block g is the learner l. -/
structure IsL (w : World) (F : Nat → Prop) (g : Nat) (A : Option Addr) (n c vb db : Nat) (I : Int → Nat) (l : Lv) : Prop where
  good : l.Good
  blk : w.heap[g]? = some (.cells #[.slice A n c, .int .i64 l.next, .int .i64 l.heard, .map (some vb), .map (some db)] 78 (0, 0))
  ms : OwnI w 0 (.slice A n c) l.ms
  vs : IsVs w vb I l.V
  inn : ∀ s N, l.V s = some N → IsN w F (I s) N
  dec : IsDec w F db l.D
  inj : ∀ s s', (l.V s).isSome = true → (l.V s').isSome = true → I s = I s' → s = s'
  iv : ∀ s, (l.V s).isSome = true → I s ≠ vb ∧ I s ≠ db
  vd : vb ≠ db
  Fg : F g
  Fv : F vb
  Fd : F db
  Fi : ∀ s, (l.V s).isSome = true → F (I s)
  Fm : ∀ j, (Value.slice A n c).ownBlock = some j → F j
  Flt : ∀ j, F j → j < w.heap.size
section
variable {w w' : World} {F F' : Nat → Prop} {b : Nat}
theorem IsN.same {N : Int → Option Vt} (h : IsN w F b N) (hs : RowsSame w w') (hb : w'.heap[b]? = w.heap[b]?) : IsN w' F b N := by
  obtain ⟨M, h1, h2, h3⟩ := h
  refine ⟨M, h1.keep hb, h2, fun k y hy => ?_⟩
  obtain ⟨u, hu, hv⟩ := h3 k y hy
  exact ⟨u, hu, hv.same hs⟩
theorem IsDec.same {D : Int → Option Vl} (h : IsDec w F b D) (hs : RowsSame w w') (hb : w'.heap[b]? = w.heap[b]?) : IsDec w' F b D := by
  obtain ⟨M, h1, h2, h3⟩ := h
  refine ⟨M, h1.keep hb, h2, fun k y hy => ?_⟩
  obtain ⟨u, hu, hv⟩ := h3 k y hy
  exact ⟨u, hu, hv.same hs⟩
theorem IsN.more {N : Int → Option Vt} (h : IsN w F b N) (hF : ∀ j, F j → F' j) : IsN w F' b N := by
  obtain ⟨M, h1, h2, h3⟩ := h
  refine ⟨M, h1, h2, fun k y hy => ?_⟩
  obtain ⟨u, hu, hv⟩ := h3 k y hy
  exact ⟨u, hu, hv.more hF⟩
theorem IsDec.more {D : Int → Option Vl} (h : IsDec w F b D) (hF : ∀ j, F j → F' j) : IsDec w F' b D := by
  obtain ⟨M, h1, h2, h3⟩ := h
  refine ⟨M, h1, h2, fun k y hy => ?_⟩
  obtain ⟨u, hu, hv⟩ := h3 k y hy
  exact ⟨u, hu, hv.more hF⟩
theorem IsN.obj {N : Int → Option Vt} (h : IsN w F b N) : ∃ es cl, w.heap[b]? = some (.map es cl) := by
  obtain ⟨M, h1, _⟩ := h
  exact h1.obj
theorem IsDec.obj {D : Int → Option Vl} (h : IsDec w F b D) : ∃ es cl, w.heap[b]? = some (.map es cl) := by
  obtain ⟨M, h1, _⟩ := h
  exact h1.obj
end
section
variable {w w' : World} {F G : Nat → Prop} {g : Nat} {A : Option Addr} {n c vb db : Nat} {I : Int → Nat} {l : Lv}
/-- A learner none of whose blocks is turned. -/
theorem IsL.kept (h : IsL w F g A n c vb db I l) (hk : Kept G w w') (hd : ∀ j, F j → ¬ G j) : IsL w' F g A n c vb db I l := by
  have e : ∀ j, F j → w'.heap[j]? = w.heap[j]? := fun j hj => hk.block j (h.Flt j hj) (hd j hj)
  refine ⟨h.good, (e g h.Fg).trans h.blk, h.ms.keep fun j hj => e j (h.Fm j hj), h.vs.keep (e vb h.Fv), fun s N hN => ?_, ?_, h.inj, h.iv, h.vd, h.Fg, h.Fv, h.Fd, h.Fi, h.Fm, fun j hj => Nat.lt_of_lt_of_le (h.Flt j hj) hk.size⟩
  · obtain ⟨M, h1, h2, h3⟩ := h.inn s N hN
    refine ⟨M, h1.keep (e _ (h.Fi s (by rw [hN]; rfl))), h2, fun k y hy => ?_⟩
    obtain ⟨u, hu, hv⟩ := h3 k y hy
    exact ⟨u, hu, hv.keep e⟩
  · obtain ⟨M, h1, h2, h3⟩ := h.dec
    refine ⟨M, h1.keep (e _ h.Fd), h2, fun k y hy => ?_⟩
    obtain ⟨u, hu, hv⟩ := h3 k y hy
    exact ⟨u, hu, hv.keep e⟩
theorem IsL.below (h : IsL w F g A n c vb db I l) (hb : Below w.heap.size w w') : IsL w' F g A n c vb db I l := h.kept (Kept.of_below (F := fun _ => False) hb) (fun _ _ hf => hf)
theorem IsL.more {F' : Nat → Prop} (h : IsL w F g A n c vb db I l) (hF : ∀ j, F j → F' j) (hlt : ∀ j, F' j → j < w.heap.size) : IsL w F' g A n c vb db I l :=
  ⟨h.good, h.blk, h.ms, h.vs, fun s N hN => (h.inn s N hN).more hF, h.dec.more hF, h.inj, h.iv, h.vd, hF _ h.Fg, hF _ h.Fv, hF _ h.Fd, fun s hs => hF _ (h.Fi s hs), fun j hj => hF _ (h.Fm j hj), hlt⟩
theorem IsL.gno (h : IsL w F g A n c vb db I l) : g ≠ vb ∧ g ≠ db ∧ ∀ s, (l.V s).isSome = true → I s ≠ g := by
  have hb := h.blk
  refine ⟨fun e => ?_, fun e => ?_, fun s hs e => ?_⟩
  · obtain ⟨es, cl, h1⟩ := h.vs.obj
    rw [← e, hb] at h1
    cases h1
  · obtain ⟨es, cl, h1⟩ := h.dec.obj
    rw [← e, hb] at h1
    cases h1
  · obtain ⟨N, hN⟩ := Option.isSome_iff_exists.1 hs
    obtain ⟨es, cl, h1⟩ := (h.inn s N hN).obj
    rw [e, hb] at h1
    cases h1
end
theorem zero_val (w : World) : (zeroValue 35).run Try.prog w = .ok (.agg #[.int .i64 0, .slice none 0 0, .slice none 0 0]) w := by kernel_rfl
theorem zero_vote (w : World) : (zeroValue 42).run Try.prog w = .ok (.agg #[.int .i64 0, .int .i64 0, .int .i64 0, .int .i64 0, .slice none 0 0, .slice none 0 0]) w := by kernel_rfl
theorem zero_votes (w : World) : (zeroValue 84).run Try.prog w = .ok (.map none) w := by kernel_rfl

theorem neq_pl (b : Nat) (w : World) : (binOp .neq 31 (.pointer (some ⟨b, 0, none⟩)) (.pointer none)).run Try.prog w = .ok (.bool true) w := by kernel_rfl
section
variable {w : World} {F : Nat → Prop} {g : Nat} {A : Option Addr} {n c vb db : Nat} {I : Int → Nat} {l : Lv}
theorem IsL.cells (h : IsL w F g A n c vb db I l) : (w.cell? ⟨g, 0, none⟩ = some (.slice A n c) ∧ w.cell? ⟨g, 1, none⟩ = some (.int .i64 l.next) ∧ w.cell? ⟨g, 2, none⟩ = some (.int .i64 l.heard) ∧ w.cell? ⟨g, 3, none⟩ = some (.map (some vb)) ∧ w.cell? ⟨g, 4, none⟩ = some (.map (some db))) ∧ ∀ i, w.frozen? ⟨g, i, none⟩ = false :=
  ⟨⟨(row_cells h.blk 0).1, (row_cells h.blk 1).1, (row_cells h.blk 2).1, (row_cells h.blk 3).1, (row_cells h.blk 4).1⟩, fun i => (row_cells h.blk i).2⟩
theorem emade_any (h : IsL w F g A n c vb db I l) : Calls Try.prog 32 #[.pointer (some ⟨g, 0, none⟩)] w fun e w' => e = .returned (.bool true) ∧ w = w' := by
  have c1 := h.cells.1.2.1
  have hn := h.good.nx.1
  have hd : decide (0 < l.next) = true := decide_eq_true (by omega)
  clear h
  go_enter Try.func32, Try.ntmps32
  go_wp2
  go_ret
  exact ⟨rfl, rfl⟩
/-- What a lookup of a decision gives. -/
theorem IsDec.look (h : IsDec w F db l.D) (b : Bool) {s : Int} (hs : (Lit.int .i64 s).wf = true) : ∃ A n c D m d k, (Instr.lookup 75 (.map (some db)) (.int .i64 s) b).run Try.prog w = .ok (if b then .tuple #[.agg #[.int .i64 k, .slice A n c, .slice D m d], .bool (l.D s).isSome] else .agg #[.int .i64 k, .slice A n c, .slice D m d]) w ∧ (∀ x, l.D s = some x → x.k = k ∧ StV w F A n c D m d x) := by
  obtain ⟨M, h1, h2, h3⟩ := h
  have hl := h1.look Try.underlying75 b hs (zero_val w)
  cases hD : l.D s with
  | none =>
    rw [h2 s hD] at hl
    exact ⟨none, 0, 0, none, 0, 0, 0, by rw [hl]; rfl, fun x e => by cases e⟩
  | some x =>
    obtain ⟨u, hu, A, n, c, D, m, d, rfl, hx⟩ := h3 s x hD
    rw [hu] at hl
    exact ⟨A, n, c, D, m, d, x.k, by rw [hl]; rfl, fun y e => by cases e; exact ⟨rfl, hx⟩⟩
set_option maxHeartbeats 800000 in
theorem ehas_any (h : IsL w F g A n c vb db I l) {s : Int} (hs : (Lit.int .i64 s).wf = true) : Calls Try.prog 41 #[.pointer (some ⟨g, 0, none⟩), .int .i64 s] w fun e w' => e = .returned (.bool (l.D s).isSome) ∧ Below w.heap.size w w' := by
  have c4 := h.cells.1.2.2.2.2
  obtain ⟨A', n', c', D', m', d', k', hl, _⟩ := h.dec.look true hs
  rw [if_pos rfl] at hl
  clear h hs
  go_enter Try.func41, Try.ntmps41
  go_wp2
  go_ret
  exact ⟨rfl, by go_grown⟩
end
end Go.Proofs.Ytnngmapphacpkaa

namespace Go.Proofs.Ytnngmapphacpkaa
open Go.RowKit

theorem Kept.weak {F G : Nat → Prop} {w w' : World} (h : Kept F w w') (hF : ∀ k, F k → G k) : Kept G w w' := ⟨h.os, h.tape, h.output, h.size, fun k hk hn => h.block k hk (fun hf => hn (hF k hf))⟩
theorem wpList_delete_im {ops : Array Oper} {rest : List Oper} {o : Oper} {a : Act} {Q : Exit → Act → World → Prop} (w : World) (hg : o.guard = none) (m x : Operand) (t k : TypeId) (hop : o.op = Op.call { callee := Callee.builtin Builtin.delete, args := #[m, x], argTypes := #[t, k] })
    (mv xv : Value) (hm : a.eval m = mv) (hx : a.eval x = xv) (w' : World) (hrun : (Builtin.delete_ #[t, k] o.type #[mv, xv]).run Try.prog w = .ok (.tuple #[]) w')
    (hK : wpList Try.prog ops Q rest (a.put o.dst (.tuple #[])) w') : wpList Try.prog ops Q (o :: rest) a w := by
  refine wpList_plain hg fun K' hK' => ?_
  unfold Oper.wp
  simp [execOp, hop, resolve, invoke, builtin, hm, hx, hrun, Result.andThen]
  exact hK' _ _ hK
section
variable {w w' : World} {F : Nat → Prop} {b : Nat}
theorem IsDec.store {D : Int → Option Vl} (h : IsDec w F b D) (hr : ∀ s, (D s).isSome = true → 1 ≤ s ∧ s ≤ 1099511627776) {s : Int} (hs : (Lit.int .i64 s).wf = true) {u : Value} {x : Vl} (hu : IsVal w F u x) :
    ∃ w', (Instr.mapUpdate 75 (.map (some b)) (.int .i64 s) u).run Try.prog w = .ok () w' ∧ IsDec w' F b (fun y => if y = s then some x else D y) ∧ w.mapTurned w' b := by
  obtain ⟨M, h1, h2, h3⟩ := h
  obtain ⟨w', hrun, hM, ht⟩ := h1.store Try.underlying75 (fun y v hy => hr y (by
    cases hD : D y with
    | none => rw [h2 y hD] at hy; cases hy
    | some _ => rfl)) hs u
  have hss := RowsSame.of_map ht
  refine ⟨w', hrun, ⟨_, hM, fun y hy => ?_, fun y v hy => ?_⟩, ht⟩
  · dsimp only at hy ⊢
    by_cases e : y = s
    · rw [if_pos e] at hy; cases hy
    · rw [if_neg e] at hy ⊢
      exact h2 y hy
  · dsimp only at hy ⊢
    by_cases e : y = s
    · rw [if_pos e] at hy ⊢
      cases hy
      exact ⟨u, rfl, hu.same hss⟩
    · rw [if_neg e] at hy ⊢
      obtain ⟨u', h4, h5⟩ := h3 y v hy
      exact ⟨u', h4, h5.same hss⟩
theorem IsVs.drop {I : Int → Nat} {V : Int → Option (Int → Option Vt)} (h : IsVs w b I V) {s : Int} (hs : (Lit.int .i64 s).wf = true) (ty : TypeId) :
    ∃ w', (Builtin.delete_ #[74, 3] ty #[.map (some b), .int .i64 s]).run Try.prog w = .ok (.tuple #[]) w' ∧ IsVs w' b I (fun y => if y = s then none else V y) ∧ w.mapTurned w' b := by
  obtain ⟨w', hrun, hM, ht⟩ := IMap.drop Try.underlying74 h hs ty
  refine ⟨w', hrun, ?_, ht⟩
  have e : (fun y => (if y = s then none else V y).map fun _ => Value.map (some (I y))) = fun y => if y = s then none else (V y).map fun _ => Value.map (some (I y)) := by
    funext y
    by_cases e : y = s
    · rw [if_pos e, if_pos e]; rfl
    · rw [if_neg e, if_neg e]
  unfold IsVs
  rw [e]
  exact hM
end
/-- A slot that is decided. -/
def Lv.dec (l : Lv) (s : Int) (x : Vl) : Lv := { l with D := fun y => if y = s then some x else l.D y, V := fun y => if y = s then none else l.V y }
theorem Kept.of_map {w w' : World} {b : Nat} (h : w.mapTurned w' b) : Kept (fun j => j = b) w w' := Kept.of_grown (F := fun j => j = b) h.grown (fun j hj => (Option.some.inj hj).symm)
section
variable {w w1 w2 : World} {F : Nat → Prop} {g : Nat} {A : Option Addr} {n c vb db : Nat} {I : Int → Nat} {l : Lv}
theorem IsL.decided (h : IsL w F g A n c vb db I l) {s : Int} {x : Vl} (hs : l.next ≤ s ∧ s < l.next + 128 ∧ s ≤ 1099511627776) (ht : w.mapTurned w1 db) (hd : IsDec w1 F db (fun y => if y = s then some x else l.D y)) (ht2 : w1.mapTurned w2 vb) (hv : IsVs w2 vb I (fun y => if y = s then none else l.V y)) :
    IsL w2 F g A n c vb db I (l.dec s x) ∧ Kept F w w2 := by
  have hss := (RowsSame.of_map ht).trans (RowsSame.of_map ht2)
  have k1 := Kept.of_map ht
  have k2 := Kept.of_map ht2
  have hk : Kept (fun j => j = vb ∨ j = db) w w2 := (k1.weak (fun j hj => .inr hj)).step k2 (fun j hj => .inl (.inl hj))
  have hg := h.gno
  have hV : ∀ y, (((l.dec s x).V y).isSome = true) → y ≠ s ∧ (l.V y).isSome = true := fun y hy => by
    have hy' : ((if y = s then none else l.V y)).isSome = true := hy
    by_cases e : y = s
    · rw [if_pos e] at hy'; cases hy'
    · rw [if_neg e] at hy'; exact ⟨e, hy'⟩
  have hVe : ∀ y N, ((l.dec s x).V y) = some N → y ≠ s ∧ l.V y = some N := fun y N hy => by
    have hy' : ((if y = s then none else l.V y)) = some N := hy
    by_cases e : y = s
    · rw [if_pos e] at hy'; cases hy'
    · rw [if_neg e] at hy'; exact ⟨e, hy'⟩
  refine ⟨⟨⟨h.good.rt, h.good.nx, h.good.hd, fun y hy => h.good.vr y (hV y hy).2, fun y hy => ?_, fun y hy => ?_, fun y N hy => h.good.nr y N (hVe y N hy).2⟩, (hk.block g (h.Flt g h.Fg) (fun e => by rcases e with e | e; exact hg.1 e; exact hg.2.1 e)).trans h.blk, h.ms.keep fun j hj => ?_, hv, fun y N hy => ?_, ?_, fun a b ha hb => h.inj a b (hV a ha).2 (hV b hb).2, fun y hy => h.iv y (hV y hy).2, h.vd, h.Fg, h.Fv, h.Fd, fun y hy => h.Fi y (hV y hy).2, h.Fm, fun j hj => Nat.lt_of_lt_of_le (h.Flt j hj) hk.size⟩, hk.weak (fun j hj => by rcases hj with e | e <;> rw [e]; exact h.Fv; exact h.Fd)⟩
  · have hy' : ((if y = s then some x else l.D y)).isSome = true := hy
    have := h.good.nx
    by_cases e : y = s
    · rw [e]
      exact ⟨by omega, hs.2.1, hs.2.2⟩
    · rw [if_neg e] at hy'
      exact h.good.dr y hy'
  · obtain ⟨e, hy'⟩ := hV y hy
    show (if y = s then some x else l.D y) = none
    rw [if_neg e]
    exact h.good.dj y hy'
  · obtain ⟨cur, hc⟩ := ownsRow_typed h.ms j hj
    exact hss j cur _ hc (by decide)
  · obtain ⟨e, hy'⟩ := hVe y N hy
    have hys : (l.V y).isSome = true := by rw [hy']; rfl
    exact (h.inn y N hy').same hss (hk.block _ (h.Flt _ (h.Fi y hys)) (fun e' => by
      have := h.iv y hys
      rcases e' with e' | e'
      · exact this.1 e'
      · exact this.2 e'))
  · exact hd.same (RowsSame.of_map ht2) (k2.block db (by have := h.Flt db h.Fd; have := k1.size; omega) (fun e => h.vd e.symm))
/-- What decide leaves. -/
def DecEnds (F : Nat → Prop) (g : Nat) (A : Option Addr) (n c vb db : Nat) (I : Int → Nat) (l : Lv) (s : Int) (x : Vl) (w : World) (e : Ending) (w' : World) : Prop :=
  e = .returned (.tuple #[]) ∧ ∃ F', IsL w' F' g A n c vb db I (l.dec s x) ∧ Kept F w w' ∧ ∀ j, F' j → F j ∨ w.heap.size ≤ j
def CloneEnds (k : Int) (n m : Nat) (cs : List Cmdv) (ns : List Int) (w : World) (e : Ending) (w' : World) : Prop :=
  ∃ A' c' D' d', e = .returned (.agg #[.int .i64 k, .slice A' n c', .slice D' m d']) ∧ OwnC w' w.heap.size (.slice A' n c') cs ∧ OwnI w' w.heap.size (.slice D' m d') ns ∧ Below w.heap.size w w'
theorem stv_clone {w0 : World} {k : Int} {cs : List Cmdv} {ns : List Int} {A D : Option Addr} {n c m d : Nat} (hc : OwnC w1 w0.heap.size (.slice A n c) cs) (hi : OwnI w1 w0.heap.size (.slice D m d) ns) (h0 : w.heap.size ≤ w0.heap.size) (hok : chkV k cs ns = 0) :
    StV w1 (fun j => F j ∨ w.heap.size ≤ j ∧ j < w1.heap.size) A n c D m d ⟨k, cs, ns⟩ :=
  ⟨hc.from_ (Nat.zero_le _), hi.from_ (Nat.zero_le _), fun j hj => .inr ⟨by have := (hc.lt j hj).1; omega, (hc.lt j hj).2⟩, fun j hj => .inr ⟨by have := (hi.lt j hj).1; omega, (hi.lt j hj).2⟩, hok⟩
set_option maxHeartbeats 1600000 in
set_option maxRecDepth 20000 in
theorem edecide_any (h : IsL w F g A n c vb db I l) {s : Int} (hs : l.next ≤ s ∧ s < l.next + 128 ∧ s ≤ 1099511627776) (k : Int) (Av : Option Addr) (nv cv : Nat) (Dv : Option Addr) (mv dv B : Nat) (cs : List Cmdv) (ns : List Int)
    (hC : HasC w B Av cs) (hN : HasI w B Dv ns) (hB : B ≤ w.heap.size) (en : cs.length = nv) (em : ns.length = mv) (hok : chkV k cs ns = 0) :
    Calls Try.prog 40 #[.pointer (some ⟨g, 0, none⟩), .int .i64 s, .agg #[.int .i64 k, .slice Av nv cv, .slice Dv mv dv]] w (DecEnds F g A n c vb db I l s ⟨k, cs, ns⟩ w) := by
  have hwf : (Lit.int .i64 s).wf = true := WalkArith.wf_i64 (by have := h.good.nx; omega)
  have hlen := chkV_len hok
  have hp0 := heap_alloc_new w (.cells #[.int .i64 k, .slice Av nv cv, .slice Dv mv dv] 35)
  have hb0 : Below w.heap.size w (w.alloc (.cells #[.int .i64 k, .slice Av nv cv, .slice Dv mv dv] 35)) := (Below.refl _ _).alloc (Nat.le_refl _) _
  go_enter Try.func40, Try.ntmps40
  go_upto_region 1 with fail
  generalize w.alloc (.cells #[.int .i64 k, .slice Av nv cv, .slice Dv mv dv] 35) = w0 at *
  have p0 := (row_cells hp0 0).1
  have p1 := (row_cells hp0 1).1
  have p2 := (row_cells hp0 2).1
  simp only [List.getElem?_toArray, List.getElem?_cons_succ, List.getElem?_cons_zero] at p0 p1 p2
  have h0 := h.below hb0
  have c4 := h0.cells.1.2.2.2.2
  have hz0 := hb0.size
  have HC : Hid (∀ W, Below w0.heap.size w0 W → Calls Try.prog 50 #[.agg #[.int .i64 k, .slice Av nv cv, .slice Dv mv dv]] W (CloneEnds k nv mv cs ns W)) := hide (fun W hW => by
    have hC' := (hC.on hB hb0).on (by omega) hW
    have hN' := (hN.on hB hb0).on (by omega) hW
    refine (vclone_any k Av Dv nv cv mv dv B cs ns W hC' hN' (by have := hW.size; omega) en em (by omega) (by omega)).mono ?_
    rintro e W' ⟨A1, c1, D1, d1, rfl, ho, hi, hb⟩
    obtain ⟨_, _, _, e1, q1, _⟩ := ho.form
    obtain ⟨_, _, _, e2, q2, _⟩ := hi.form
    cases e1
    cases e2
    exact ⟨A1, c1, D1, d1, rfl, ho, hi, hb⟩)
  have HH := hide h0
  have HGD := hide h.good
  have HW : Hid (∀ W0 W A1 c1 D1 d1, Below w0.heap.size w0 W0 → Below W0.heap.size W0 W → OwnC W W0.heap.size (.slice A1 nv c1) cs → OwnI W W0.heap.size (.slice D1 mv d1) ns → W.cell? ⟨g, 4, none⟩ = some (.map (some db)) ∧
      ∃ wz, (Instr.mapUpdate 75 (.map (some db)) (.int .i64 s) (.agg #[.int .i64 k, .slice A1 nv c1, .slice D1 mv d1])).run Try.prog W = .ok () wz ∧ Hid (IsL W (fun j => F j ∨ w.heap.size ≤ j ∧ j < W.heap.size) g A n c vb db I l ∧ IsDec wz (fun j => F j ∨ w.heap.size ≤ j ∧ j < W.heap.size) db (fun y => if y = s then some ⟨k, cs, ns⟩ else l.D y) ∧ W.mapTurned wz db) ∧ wz.cell? ⟨g, 3, none⟩ = some (.map (some vb)) ∧
      ∃ w5, (Builtin.delete_ #[74, 3] 0 #[.map (some vb), .int .i64 s]).run Try.prog wz = .ok (.tuple #[]) w5 ∧ Hid (DecEnds F g A n c vb db I l s ⟨k, cs, ns⟩ w (.returned (.tuple #[])) w5)) := hide (fun W0 W A1 c1 D1 d1 hb1 hb2 ho hi => by
    have hbW : Below w0.heap.size w0 W := hb1.trans (hb2.mono hb1.size)
    have hbW' : Below w.heap.size w W := hb0.trans (hbW.mono hz0)
    have hW := HH.out.below hbW
    have hW2 : IsL W (fun j => F j ∨ w.heap.size ≤ j ∧ j < W.heap.size) g A n c vb db I l := hW.more (fun j hj => .inl hj) (fun j hj => by
      rcases hj with hj | hj
      · exact hW.Flt j hj
      · exact hj.2)
    obtain ⟨wz, q1, q2, q3⟩ := hW2.dec.store (fun y hy => by have := h.good.dr y hy; omega) hwf ⟨A1, nv, c1, D1, mv, d1, rfl, stv_clone ho hi (by have := hb1.size; omega) hok⟩
    have kz := Kept.of_map q3
    have hgo := hW2.gno
    have hvz : IsVs wz vb I l.V := hW2.vs.keep (kz.block vb (hW2.Flt vb hW2.Fv) (fun e => hW2.vd e))
    obtain ⟨w5, r1, r2, r3⟩ := hvz.drop hwf 0
    have hbg := (kz.block g (hW2.Flt g hW2.Fg) (fun e => hgo.2.1 e)).trans hW2.blk
    obtain ⟨f1, f2⟩ := hW2.decided hs q3 q2 r3 r2
    refine ⟨hW2.cells.1.2.2.2.2, wz, q1, hide ⟨hW2, q2, q3⟩, (row_cells hbg 3).1, w5, r1, hide ⟨rfl, _, f1, ?_, ?_⟩⟩
    · refine ((Kept.of_below (F := F) hbW').step f2 (fun j hj => ?_))
      rcases hj with hj | hj
      · exact .inl hj
      · exact .inr hj.1
    · rintro j (hj | hj)
      · exact .inl hj
      · exact .inr hj.1)
  have hBd : Hid (∀ W', Below w0.drew.heap.size w0.drew W' → Below w0.heap.size w0 W') := hide (fun W' h => (Below.refl _ w0).drew.trans (h.mono (Nat.le_refl _)))
  clear hC hN h h0 hok hs hp0
  go_region_law (go_simp; go_at_call 50; (with_reducible refine (HC.out _ ?_).mono ?_); exact (Below.refl _ _).drew; rintro e w1 ⟨A1, c1, D1, d1, rfl, ho1, hi1, b1⟩; obtain ⟨x4, wz, xz, hz, xv, w5, x5, hfin⟩ := HW.out _ _ _ _ _ _ ((Below.refl _ _).drew) b1 ho1 hi1; simp only [])
  all_goals go_wp2_with (first | (refine wpList_delete_im _ rfl _ _ 74 3 rfl _ _ rfl rfl _ x5 ?_) | fail)
  all_goals go_end0
  all_goals exact hfin.out
end
end Go.Proofs.Ytnngmapphacpkaa

namespace Go.Proofs.Ytnngmapphacpkaa
open Go.RowKit

/-- May something be heard of a slot? -/
def Lv.opn (l : Lv) (s : Int) : Bool := decide (l.next ≤ s ∧ s - l.next < 128 ∧ s ≤ 1099511627776) && !(l.D s).isSome
section
variable {w w1 w2 : World} {F : Nat → Prop} {g : Nat} {A : Option Addr} {n c vb db : Nat} {I : Int → Nat} {l : Lv}
set_option maxHeartbeats 800000 in
set_option maxRecDepth 20000 in
theorem eopen_any (h : IsL w F g A n c vb db I l) {s : Int} (hs : (Lit.int .i64 s).wf = true) : Calls Try.prog 33 #[.pointer (some ⟨g, 0, none⟩), .int .i64 s] w fun e w' => e = .returned (.bool (l.opn s)) ∧ Below w.heap.size w w' := by
  have hm := emade_any h
  have hh := ehas_any h hs
  have c1 := h.cells.1.2.1
  have hnx := h.good.nx
  have hsb := bounds_i64 hs
  by_cases h1 : l.next ≤ s
  · have hw : IntKind.i64.wrap (s - l.next) = s - l.next := IntWalk.i64_in _ (by omega)
    by_cases h2 : s - l.next < 128
    · by_cases h3 : s ≤ 1099511627776
      · have HE : Hid (l.opn s = !(l.D s).isSome) := hide (by unfold Lv.opn; rw [decide_eq_true ⟨h1, h2, h3⟩, Bool.true_and])
        clear h
        generalize (l.D s).isSome = b at *
        go_enter Try.func33, Try.ntmps33
        go_wp2_with fail
        refine hm.mono ?_
        rintro e _ ⟨rfl, rfl⟩
        go_wp2_with fail
        refine hh.mono ?_
        rintro e w1 ⟨rfl, hb1⟩
        cases b
        all_goals go_wp2
        all_goals go_ret
        all_goals exact ⟨by rw [HE.out]; rfl, hb1⟩
      · have HE : Hid (l.opn s = false) := hide (by unfold Lv.opn; rw [decide_eq_false (fun h => h3 h.2.2), Bool.false_and])
        clear h hh
        go_enter Try.func33, Try.ntmps33
        go_wp2_with fail
        refine hm.mono ?_
        rintro e _ ⟨rfl, rfl⟩
        go_wp2
        go_ret
        exact ⟨by rw [HE.out]; rfl, Below.refl _ _⟩
    · have HE : Hid (l.opn s = false) := hide (by unfold Lv.opn; rw [decide_eq_false (fun h => h2 h.2.1), Bool.false_and])
      clear h hh
      go_enter Try.func33, Try.ntmps33
      go_wp2_with fail
      refine hm.mono ?_
      rintro e _ ⟨rfl, rfl⟩
      go_wp2
      go_ret
      exact ⟨by rw [HE.out]; rfl, Below.refl _ _⟩
  · have HE : Hid (l.opn s = false) := hide (by unfold Lv.opn; rw [decide_eq_false (fun h => h1 h.1), Bool.false_and])
    clear h hh
    go_enter Try.func33, Try.ntmps33
    go_wp2_with fail
    refine hm.mono ?_
    rintro e _ ⟨rfl, rfl⟩
    go_wp2
    go_ret
    exact ⟨by rw [HE.out]; rfl, Below.refl _ _⟩
theorem Lv.opn_iff {l : Lv} {s : Int} (h : l.opn s = true) : (l.next ≤ s ∧ s < l.next + 128 ∧ s ≤ 1099511627776) ∧ l.D s = none := by
  unfold Lv.opn at h
  rw [Bool.and_eq_true] at h
  have h1 := of_decide_eq_true h.1
  refine ⟨by omega, ?_⟩
  cases hD : l.D s with
  | none => rfl
  | some x => rw [hD] at h; simp at h

theorem IsL.setHeard (h : IsL w F g A n c vb db I l) (a : Int) (ha : 0 ≤ a ∧ a ≤ 1099511627776) : IsL (w.setCell ⟨g, 2, none⟩ (.int .i64 a)) F g A n c vb db I { l with heard := a } ∧ Kept F w (w.setCell ⟨g, 2, none⟩ (.int .i64 a)) := by
  have hk : Kept (fun j => j = g) w (w.setCell ⟨g, 2, none⟩ (.int .i64 a)) := (Kept.refl (fun j => j = g) w).setCell (p := ⟨g, 2, none⟩) (.inl rfl) _
  have hss : RowsSame w (w.setCell ⟨g, 2, none⟩ (.int .i64 a)) := RowsSame.of_set h.blk _
  have hg := h.gno
  have hgood : ({ l with heard := a } : Lv).Good := ⟨h.good.rt, h.good.nx, ha, h.good.vr, h.good.dr, h.good.dj, h.good.nr⟩
  refine ⟨⟨hgood, by rw [heap_setCell_same w g 2 _ _ _ h.blk]; rfl, h.ms.keep fun j hj => ?_, h.vs.keep (hk.block vb (h.Flt vb h.Fv) (fun e => hg.1 e.symm)), fun s N hN => ?_, h.dec.same hss (hk.block db (h.Flt db h.Fd) (fun e => hg.2.1 e.symm)), h.inj, h.iv, h.vd, h.Fg, h.Fv, h.Fd, h.Fi, h.Fm, fun j hj => Nat.lt_of_lt_of_le (h.Flt j hj) hk.size⟩, hk.weak (fun j hj => by rw [hj]; exact h.Fg)⟩
  · obtain ⟨cur, hc⟩ := ownsRow_typed h.ms j hj
    exact hss j cur _ hc (by decide)
  · have hsm : (l.V s).isSome = true := by
      have : l.V s = some N := hN
      rw [this]; rfl
    exact (h.inn s N hN).same hss (hk.block _ (h.Flt _ (h.Fi s hsm)) (hg.2.2 s hsm))
theorem IsL.setNext (h : IsL w F g A n c vb db I l) (hD : (l.D l.next).isSome = true) : IsL (w.setCell ⟨g, 1, none⟩ (.int .i64 (l.next + 1))) F g A n c vb db I { l with next := l.next + 1 } ∧ Kept F w (w.setCell ⟨g, 1, none⟩ (.int .i64 (l.next + 1))) := by
  have hk : Kept (fun j => j = g) w (w.setCell ⟨g, 1, none⟩ (.int .i64 (l.next + 1))) := (Kept.refl (fun j => j = g) w).setCell (p := ⟨g, 1, none⟩) (.inl rfl) _
  have hss : RowsSame w (w.setCell ⟨g, 1, none⟩ (.int .i64 (l.next + 1))) := RowsSame.of_set h.blk _
  have hg := h.gno
  have hgood : ({ l with next := l.next + 1 } : Lv).Good := ⟨h.good.rt, by have := h.good.nx; have := h.good.dr _ hD; show 1 ≤ l.next + 1 ∧ l.next + 1 ≤ 1099511627777; omega, h.good.hd, fun s hs => by
    have h1 := h.good.vr s hs
    have h2 := h.good.dj s hs
    have h3 : s ≠ l.next := fun e => by rw [e] at h2; rw [h2] at hD; cases hD
    show l.next + 1 ≤ s ∧ s < l.next + 1 + 128 ∧ _
    omega, fun s hs => by
    have h1 := h.good.dr s hs
    show 1 ≤ s ∧ s < l.next + 1 + 128 ∧ _
    omega, h.good.dj, h.good.nr⟩
  refine ⟨⟨hgood, by rw [heap_setCell_same w g 1 _ _ _ h.blk]; rfl, h.ms.keep fun j hj => ?_, h.vs.keep (hk.block vb (h.Flt vb h.Fv) (fun e => hg.1 e.symm)), fun s N hN => ?_, h.dec.same hss (hk.block db (h.Flt db h.Fd) (fun e => hg.2.1 e.symm)), h.inj, h.iv, h.vd, h.Fg, h.Fv, h.Fd, h.Fi, h.Fm, fun j hj => Nat.lt_of_lt_of_le (h.Flt j hj) hk.size⟩, hk.weak (fun j hj => by rw [hj]; exact h.Fg)⟩
  · obtain ⟨cur, hc⟩ := ownsRow_typed h.ms j hj
    exact hss j cur _ hc (by decide)
  · have hsm : (l.V s).isSome = true := by
      have : l.V s = some N := hN
      rw [this]; rfl
    exact (h.inn s N hN).same hss (hk.block _ (h.Flt _ (h.Fi s hsm)) (hg.2.2 s hsm))

/-- A value that came in, none of whose memory is the learner's. -/
structure ArgV (w : World) (F : Nat → Prop) (A : Option Addr) (n : Nat) (D : Option Addr) (m : Nat) (x : Vl) : Prop where
  hc : HasC w w.heap.size A x.cs
  hi : HasI w w.heap.size D x.ns
  en : x.cs.length = n
  em : x.ns.length = m
  lm : m ≤ 140737488355328
  oc : ∀ b o, A = some ⟨b, o, none⟩ → ¬ F b
  oi : ∀ b o, D = some ⟨b, o, none⟩ → ¬ F b
theorem HasC.kept {w w' : World} {B : Nat} {A : Option Addr} {cs : List Cmdv} (h : HasC w B A cs) (hk : Kept F w w') (hB : B ≤ w.heap.size) (ho : ∀ b o, A = some ⟨b, o, none⟩ → ¬ F b) : HasC w' w'.heap.size A cs := by
  rcases A with _ | ⟨b, o, sp⟩
  · have := nilC h
    subst this
    exact fun i hi => absurd hi (by simp)
  · intro i hi
    obtain ⟨b', o', hA, hb, hc⟩ := h i hi
    refine ⟨b', o', hA, Nat.lt_of_lt_of_le hb (Nat.le_trans hB hk.size), ?_⟩
    have e : w'.heap[b']? = w.heap[b']? := hk.block b' (by omega) (ho b' o' hA)
    simpa [World.cell?, e] using hc
theorem HasI.kept {w w' : World} {B : Nat} {A : Option Addr} {ns : List Int} (h : HasI w B A ns) (hk : Kept F w w') (hB : B ≤ w.heap.size) (ho : ∀ b o, A = some ⟨b, o, none⟩ → ¬ F b) : HasI w' w'.heap.size A ns := by
  intro i hi
  obtain ⟨b', o', hA, hb, hc⟩ := h i hi
  refine ⟨b', o', hA, Nat.lt_of_lt_of_le hb (Nat.le_trans hB hk.size), ?_⟩
  have e : w'.heap[b']? = w.heap[b']? := hk.block b' (by omega) (ho b' o' hA)
  simpa [World.cell?, e] using hc
theorem ArgV.kept {w w' : World} {A D : Option Addr} {n m : Nat} {x : Vl} (h : ArgV w F A n D m x) (hk : Kept F w w') : ArgV w' F A n D m x :=
  ⟨h.hc.kept hk (Nat.le_refl _) h.oc, h.hi.kept hk (Nat.le_refl _) h.oi, h.en, h.em, h.lm, h.oc, h.oi⟩

/-- What Told does. -/
def Lv.told (l : Lv) (s : Int) (x : Vl) : Lv × Bool := if l.opn s = true ∧ chkV x.k x.cs x.ns = 0 then (({ l with heard := max l.heard s } : Lv).dec s x, true) else (l, false)
/-- What a call leaves that may turn the learner. -/
def LEnds (F : Nat → Prop) (g : Nat) (A : Option Addr) (n c vb db : Nat) (l : Lv) (r : Value) (w : World) (e : Ending) (w' : World) : Prop :=
  e = .returned r ∧ ∃ I' F', IsL w' F' g A n c vb db I' l ∧ Kept F w w' ∧ ∀ j, F' j → F j ∨ w.heap.size ≤ j

set_option maxHeartbeats 1600000 in
set_option maxRecDepth 20000 in
theorem etold_any (h : IsL w F g A n c vb db I l) {s : Int} (hs : (Lit.int .i64 s).wf = true) (Av : Option Addr) (nv cv : Nat) (Dv : Option Addr) (mv dv : Nat) (x : Vl) (hx : ArgV w F Av nv Dv mv x) :
    Calls Try.prog 14 #[.pointer (some ⟨g, 0, none⟩), .int .i64 s, .agg #[.int .i64 x.k, .slice Av nv cv, .slice Dv mv dv]] w (LEnds F g A n c vb db (l.told s x).1 (.bool (l.told s x).2) w) := by
  have hp0 := heap_alloc_new w (.cells #[.int .i64 x.k, .slice Av nv cv, .slice Dv mv dv] 35)
  have hb0 : Below w.heap.size w (w.alloc (.cells #[.int .i64 x.k, .slice Av nv cv, .slice Dv mv dv] 35)) := (Below.refl _ _).alloc (Nat.le_refl _) _
  go_enter Try.func14, Try.ntmps14
  go_upto_region 1 with fail
  generalize w.alloc (.cells #[.int .i64 x.k, .slice Av nv cv, .slice Dv mv dv] 35) = w0 at *
  have h0 := h.below hb0
  have hx0 := hx.kept (Kept.of_below (F := F) hb0)
  have hop := eopen_any h0 hs
  cases hq : l.opn s
  · rw [hq] at hop
    have HE : Hid (l.told s x = (l, false)) := hide (by unfold Lv.told; rw [if_neg (by rw [hq]; simp)])
    have HH := hide h0
    clear h h0 hx hx0 hp0
    go_wp2_with fail
    refine hop.mono ?_
    rintro e w1 ⟨rfl, hb1⟩
    go_wp2
    go_ret
    exact ⟨by rw [HE.out]; rfl, I, F, by rw [HE.out]; exact HH.out.below hb1, Kept.of_below (hb0.trans (hb1.mono hb0.size)), fun j hj => .inl hj⟩
  · rw [hq] at hop
    have HH := hide h0
    have HX := hide hx0
    have HP := hide hp0
    have HQ := hide hq
    clear h h0 hx hx0 hp0 hq
    go_wp2_with fail
    refine hop.mono ?_
    rintro e w1 ⟨rfl, hb1⟩
    have hp1 := (hb1.block _ (lt_of_block HP.out)).trans HP.out
    have p0 := (row_cells hp1 0).1
    have p1 := (row_cells hp1 1).1
    have p2 := (row_cells hp1 2).1
    simp only [List.getElem?_toArray, List.getElem?_cons_succ, List.getElem?_cons_zero] at p0 p1 p2
    have hx1 := HX.out.kept (Kept.of_below (F := F) hb1)
    have hck := vcheck_any x.k Av Dv nv cv mv dv w1.heap.size x.cs x.ns w1 hx1.hc hx1.hi (Nat.le_refl _) hx1.en hx1.em hx1.lm
    have HX1 := hide hx1
    have HP1 := hide hp1
    clear hx1 hop
    by_cases hc : chkV x.k x.cs x.ns = 0
    · rw [hc] at hck
      have HE : Hid (l.told s x = (({ l with heard := max l.heard s } : Lv).dec s x, true)) := hide (by unfold Lv.told; rw [if_pos ⟨HQ.out, hc⟩])
      have HCK := hide hc
      clear hc hp1
      go_wp2_with fail
      refine hck.mono ?_
      rintro e w2 ⟨rfl, hb2⟩
      have hb12 := hb1.trans (hb2.mono hb1.size)
      have h2 := HH.out.below hb12
      obtain ⟨hs1, hs2⟩ := Lv.opn_iff HQ.out
      have hnx := h2.good.nx
      have hhd := h2.good.hd
      have hmr : 0 ≤ max l.heard s ∧ max l.heard s ≤ 1099511627776 := by omega
      obtain ⟨h3, hk3⟩ := h2.setHeard (max l.heard s) hmr
      have hp2 := (hb2.block _ (lt_of_block HP1.out)).trans HP1.out
      obtain ⟨⟨_, _, c2, _, _⟩, hf⟩ := h2.cells
      have f2 := hf 2
      have hpne : w.heap.size ≠ g := by
        intro e
        have e2 := h2.blk
        rw [← e, hp2] at e2
        injection e2 with e2
        injection e2 with _ e2
        exact absurd e2 (by decide)
      have hp3 : (w2.setCell ⟨g, 2, none⟩ (.int .i64 (max l.heard s))).heap[w.heap.size]? = _ := (Below.heap_setCell w2 ⟨g, 2, none⟩ _ _ hpne).trans hp2
      have HX3 := hide ((HX1.out.kept (Kept.of_below (F := F) hb2)).kept hk3)
      have HB : Hid (Below w.heap.size w w2) := hide (hb0.trans (hb12.mono hb0.size))
      have H3 := hide h3
      have HK3 := hide hk3
      have HS1 := hide hs1
      clear h2 h3 hk3 hf hck hs1 hs2 hmr hnx hhd hp2 p0 p1 p2 hpne
      go_upto_region 4 with fail
      focus
        generalize w2.setCell ⟨g, 2, none⟩ (.int .i64 (max l.heard s)) = w3 at *
        have p0 := (row_cells hp3 0).1
        have p1 := (row_cells hp3 1).1
        have p2 := (row_cells hp3 2).1
        simp only [List.getElem?_toArray, List.getElem?_cons_succ, List.getElem?_cons_zero] at p0 p1 p2
        have hde := edecide_any H3.out (s := s) HS1.out x.k Av nv cv Dv mv dv w3.heap.size x.cs x.ns HX3.out.hc HX3.out.hi (Nat.le_refl _) HX3.out.en HX3.out.em HCK.out
        clear c2 f2 hp3
        go_wp2_with fail
        refine hde.mono ?_
        rintro e w4 ⟨rfl, F4, h4, hk4, hf4⟩
        have HF := hide hf4
        have H4 := hide h4
        clear h4 hf4 hde
        go_wp2
        go_ret
        refine ⟨by rw [HE.out]; rfl, I, F4, by rw [HE.out]; exact H4.out, ((Kept.of_below (F := F) HB.out).step HK3.out (fun j hj => .inl hj)).step hk4 (fun j hj => .inl hj), fun j hj => ?_⟩
        rcases HF.out j hj with e | e
        · exact .inl e
        · have := HB.out.size
          have := HK3.out.size
          exact .inr (by omega)
    · have HE : Hid (l.told s x = (l, false)) := hide (by unfold Lv.told; rw [if_neg (fun h => hc h.2)])
      have hcb : (chkV x.k x.cs x.ns == 0) = false := beq_eq_false_iff_ne.2 hc
      clear hc hp1
      go_wp2_with fail
      refine hck.mono ?_
      rintro e w2 ⟨rfl, hb2⟩
      generalize chkV x.k x.cs x.ns = y at *
      go_wp2
      go_ret
      have hb12 := hb1.trans (hb2.mono hb1.size)
      exact ⟨by rw [HE.out]; rfl, I, F, by rw [HE.out]; exact HH.out.below hb12, Kept.of_below (hb0.trans (hb12.mono hb0.size)), fun j hj => .inl hj⟩
end
end Go.Proofs.Ytnngmapphacpkaa

namespace Go.Proofs.Ytnngmapphacpkaa
open Go.RowKit

theorem results_known {tmps : Array Value} {w : World} {g : Nat} {A : Array Value} {t : TypeId} {v : Value} (h2 : tmps.getD 4 undef = .pointer (some ⟨g, 0, none⟩)) (h3 : tmps.getD 5 undef = v) (hA : w.heap[g]? = some (.cells A t (0, 0))) (sA : A.size = 3) :
    (results Try.f27 tmps).run Try.prog w = .ok (.tuple #[.agg A, v]) w := by
  have h2' : tmps[4]?.getD undef = .pointer (some ⟨g, 0, none⟩) := by simpa using h2
  have h3' : tmps[5]?.getD undef = v := by simpa using h3
  have i1 : (Try.prog.info? 35).map (·.size) = some A.size := by rw [sA]; kernel_rfl
  have e1 := run_loadVar_row (P := Try.prog) w g t 35 A (0, 0) _ hA Try.underlying35 rfl i1
  simp [results, Try.results27, h2', h3', asAddr, e1]
  try rfl
theorem results_next {tmps : Array Value} {w : World} {g : Nat} {A : Array Value} {t : TypeId} {u v : Value} (h1 : tmps.getD 2 undef = u) (h2 : tmps.getD 3 undef = .pointer (some ⟨g, 0, none⟩)) (h3 : tmps.getD 4 undef = v) (hA : w.heap[g]? = some (.cells A t (0, 0))) (sA : A.size = 3) :
    (results Try.f11 tmps).run Try.prog w = .ok (.tuple #[u, .agg A, v]) w := by
  have h1' : tmps[2]?.getD undef = u := by simpa using h1
  have h2' : tmps[3]?.getD undef = .pointer (some ⟨g, 0, none⟩) := by simpa using h2
  have h3' : tmps[4]?.getD undef = v := by simpa using h3
  have i1 : (Try.prog.info? 35).map (·.size) = some A.size := by rw [sA]; kernel_rfl
  have e1 := run_loadVar_row (P := Try.prog) w g t 35 A (0, 0) _ hA Try.underlying35 rfl i1
  simp [results, Try.results11, h1', h2', h3', asAddr, e1]
  try rfl

/-- The zero value; what is known of a slot. -/
def zeroVl : Vl := ⟨0, [], []⟩
def Lv.known (l : Lv) (s : Int) : Vl := (l.D s).getD zeroVl
/-- What Known answers: a clone. -/
def KnownEnds (l : Lv) (s : Int) (w : World) (e : Ending) (w' : World) : Prop :=
  ∃ A n c D m d, e = .returned (.tuple #[.agg #[.int .i64 (l.known s).k, .slice A n c, .slice D m d], .bool (l.D s).isSome]) ∧ OwnC w' w.heap.size (.slice A n c) (l.known s).cs ∧ OwnI w' w.heap.size (.slice D m d) (l.known s).ns ∧ Below w.heap.size w w'
section
variable {w w1 w2 : World} {F : Nat → Prop} {g : Nat} {A : Option Addr} {n c vb db : Nat} {I : Int → Nat} {l : Lv}
set_option maxHeartbeats 1600000 in
set_option maxRecDepth 20000 in
theorem eknown_any (h : IsL w F g A n c vb db I l) {s : Int} (hs : (Lit.int .i64 s).wf = true) : Calls Try.prog 27 #[.pointer (some ⟨g, 0, none⟩), .int .i64 s] w (KnownEnds l s w) := by
  have ba := (Below.refl _ w).alloc (Nat.le_refl _) (.cells #[.int .i64 0, .slice none 0 0, .slice none 0 0] 35)
  have h0 := h.below ba
  have hr0 := heap_alloc_new w (.cells #[.int .i64 0, .slice none 0 0, .slice none 0 0] 35)
  go_enter Try.func27, Try.ntmps27
  go_upto_region 1 with fail
  generalize w.alloc (.cells #[.int .i64 0, .slice none 0 0, .slice none 0 0] 35) = w0 at *
  have hm := emade_any h0
  have hh := ehas_any h0 hs
  have hz0 := ba.size
  cases hD : l.D s with
  | none =>
    rw [hD] at hh
    have HE : Hid (l.known s = zeroVl ∧ l.D s = none) := hide ⟨by unfold Lv.known; rw [hD]; rfl, hD⟩
    have HR := hide hr0
    clear h h0 hr0 hD
    go_wp2_with fail
    refine hm.mono ?_
    rintro e _ ⟨rfl, rfl⟩
    go_wp2_with fail
    refine hh.mono ?_
    rintro e w1 ⟨rfl, hb1⟩
    have hr1 := (hb1.block _ (lt_of_block HR.out)).trans HR.out
    have hk2 := Kept.of_setRow w1 w.heap.size #[.int .i64 0, .slice none 0 0, .slice none 0 0]
    have hr2 := set_row_at (B := #[.int .i64 0, .slice none 0 0, .slice none 0 0]) hr1
    have hone : (#[.int .i64 0, .slice none 0 0, .slice none 0 0] : Array Value).all (·.oneCell') = true := by simp [Value.oneCell']
    have i2 : (Try.prog.info? 35).map (·.size) = some (#[.int .i64 0, .slice none 0 0, .slice none 0 0] : Array Value).size := by kernel_rfl
    have HR1 := hide hr1
    have HR2 := hide hr2
    have HK2 := hide hk2
    clear hr1 hr2 hk2
    go_wp2_with (refine wpList_store_row rfl 35 _ _ rfl w.heap.size #[.int .i64 0, .slice none 0 0, .slice none 0 0] rfl rfl _ _ HR1.out i2 rfl hone ?_; generalize w1.setRow w.heap.size #[.int .i64 0, .slice none 0 0, .slice none 0 0] = wz at *)
    refine bodyPost_ret (v := .tuple #[.agg #[.int .i64 0, .slice none 0 0, .slice none 0 0], .bool false]) (results_known rfl rfl HR2.out rfl) rfl ?_
    refine ⟨none, 0, 0, none, 0, 0, by rw [HE.out.1, HE.out.2]; rfl, by rw [HE.out.1]; exact OwnC.nil _ _, by rw [HE.out.1]; exact OwnI.nil _ _, (ba.trans (hb1.mono hz0)).trans (HK2.out.below (by have := hb1.size; omega) (fun k hk => by omega))⟩
  | some x =>
    rw [hD] at hh
    have HE : Hid (l.known s = x ∧ l.D s = some x) := hide ⟨by unfold Lv.known; rw [hD]; rfl, hD⟩
    have HR := hide hr0
    have HH := hide h0
    clear h h0 hr0 hD
    go_wp2_with fail
    refine hm.mono ?_
    rintro e _ ⟨rfl, rfl⟩
    go_wp2_with fail
    refine hh.mono ?_
    rintro e w1 ⟨rfl, hb1⟩
    have h1 := HH.out.below hb1
    have c4 := h1.cells.1.2.2.2.2
    obtain ⟨A', n', c', D', m', d', k', hl, hx'⟩ := h1.dec.look false hs
    obtain ⟨hk', hx⟩ := hx' x HE.out.2
    rw [if_neg (by simp)] at hl
    obtain ⟨l1, l2, l3, l4⟩ := hx.len
    obtain ⟨q1, q2⟩ := hx.has
    have hcl := vclone_any k' A' D' n' c' m' d' w1.heap.size x.cs x.ns w1 q1 q2 (Nat.le_refl _) l1 l2 (by omega) (by omega)
    have hr1 := (hb1.block _ (lt_of_block HR.out)).trans HR.out
    have HR1 := hide hr1
    have HKE := hide hk'
    have HL := hide (And.intro l1 l2)
    clear hr1 hx' hx q1 q2 h1 l1 l2
    go_wp2_with fail
    refine hcl.mono ?_
    rintro e w2 ⟨A2, c2, D2, d2, rfl, ho2, hi2, hb2⟩
    have hr2 := (hb2.block _ (lt_of_block HR1.out)).trans HR1.out
    have hk3 := Kept.of_setRow w2 w.heap.size #[.int .i64 k', .slice A2 n' c2, .slice D2 m' d2]
    have hr3 := set_row_at (B := #[.int .i64 k', .slice A2 n' c2, .slice D2 m' d2]) hr2
    have hone : (#[.int .i64 k', .slice A2 n' c2, .slice D2 m' d2] : Array Value).all (·.oneCell') = true := by simp [Value.oneCell']
    have i2 : (Try.prog.info? 35).map (·.size) = some (#[.int .i64 k', .slice A2 n' c2, .slice D2 m' d2] : Array Value).size := by kernel_rfl
    have HR2 := hide hr2
    have HR3 := hide hr3
    have HK3 := hide hk3
    clear hr2 hr3 hk3 hl hcl
    go_wp2_with (refine wpList_store_row rfl 35 _ _ rfl w.heap.size #[.int .i64 k', .slice A2 n' c2, .slice D2 m' d2] rfl rfl _ _ HR2.out i2 rfl hone ?_; generalize w2.setRow w.heap.size #[.int .i64 k', .slice A2 n' c2, .slice D2 m' d2] = wz at *)
    refine bodyPost_ret (v := .tuple #[.agg #[.int .i64 k', .slice A2 n' c2, .slice D2 m' d2], .bool true]) (results_known rfl rfl HR3.out rfl) rfl ?_
    have hz1 := hb1.size
    have hz2 := hb2.size
    have hsz := lt_of_block HR.out
    refine ⟨A2, n', c2, D2, m', d2, by rw [HE.out.1, HE.out.2, HKE.out]; rfl, ?_, ?_, ((ba.trans (hb1.mono hz0)).trans (hb2.mono (by omega))).trans (HK3.out.below (by omega) (fun k hk => by omega))⟩
    · rw [HE.out.1]
      exact (ho2.keep fun j hj => HK3.out.block j (ho2.lt j hj).2 (by have := (ho2.lt j hj).1; omega)).from_ (by omega)
    · rw [HE.out.1]
      exact (hi2.keep fun j hj => HK3.out.block j (hi2.lt j hj).2 (by have := (hi2.lt j hj).1; omega)).from_ (by omega)

/-- What Next answers. -/
def NextEnds' (l : Lv) (w : World) (e : Ending) (w' : World) : Prop :=
  ∃ A n c D m d, e = .returned (.tuple #[.int .i64 l.next, .agg #[.int .i64 (l.known l.next).k, .slice A n c, .slice D m d], .bool (l.D l.next).isSome]) ∧ OwnC w' w.heap.size (.slice A n c) (l.known l.next).cs ∧ OwnI w' w.heap.size (.slice D m d) (l.known l.next).ns ∧ Below w.heap.size w w'
set_option maxHeartbeats 1600000 in
set_option maxRecDepth 20000 in
theorem epass_any (h : IsL w F g A n c vb db I l) : Calls Try.prog 15 #[.pointer (some ⟨g, 0, none⟩)] w (LEnds F g A n c vb db (if (l.D l.next).isSome = true then { l with next := l.next + 1 } else l) (.bool (l.D l.next).isSome) w) := by
  have hnx := h.good.nx
  have hwf : (Lit.int .i64 l.next).wf = true := WalkArith.wf_i64 (by omega)
  have hm := emade_any h
  have hh := ehas_any h hwf
  have c1 := h.cells.1.2.1
  cases hD : (l.D l.next).isSome
  · rw [hD] at hh
    rw [if_neg (by simp)]
    have HH := hide h
    clear h hD
    go_enter Try.func15, Try.ntmps15
    go_wp2_with fail
    refine hm.mono ?_
    rintro e _ ⟨rfl, rfl⟩
    go_wp2_with fail
    refine hh.mono ?_
    rintro e w1 ⟨rfl, hb1⟩
    go_wp2
    go_ret
    exact ⟨rfl, I, F, HH.out.below hb1, Kept.of_below hb1, fun j hj => .inl hj⟩
  · rw [hD] at hh
    rw [if_pos rfl]
    have HH := hide h
    have HD := hide hD
    clear h hD
    go_enter Try.func15, Try.ntmps15
    go_wp2_with fail
    refine hm.mono ?_
    rintro e _ ⟨rfl, rfl⟩
    go_wp2_with fail
    refine hh.mono ?_
    rintro e w1 ⟨rfl, hb1⟩
    have h1 := HH.out.below hb1
    obtain ⟨⟨_, x1, _, _, _⟩, hf⟩ := h1.cells
    have f1 := hf 1
    obtain ⟨h2, hk2⟩ := h1.setNext HD.out
    have H2 := hide h2
    have HK2 := hide hk2
    have hw : IntKind.i64.wrap (l.next + 1) = l.next + 1 := IntWalk.i64_in _ (by omega)
    clear h1 hf h2 hk2 c1 hh
    go_wp2_with fail
    generalize w1.setCell ⟨g, 1, none⟩ (.int .i64 (l.next + 1)) = w2 at *
    go_ret
    exact ⟨rfl, I, F, H2.out, (Kept.of_below (F := F) hb1).step HK2.out (fun j hj => .inl hj), fun j hj => .inl hj⟩
theorem IMap.len {T E : TypeId} (hT : Try.prog.underlying T = some (.map 3 E)) {b : Nat} {M : Int → Option Value} (h : IMap w b M) (ty : TypeId) :
    ∃ k : Nat, (Builtin.len_ #[T] ty #[.map (some b)]).run Try.prog w = .ok (.int .i64 (k : Int)) w ∧ ∃ ks : List Int, ks.Nodup ∧ (∀ x, x ∈ ks ↔ (M x).isSome = true) ∧ ks.length = k := by
  obtain ⟨D, ho, hh, _⟩ := h
  obtain ⟨ks, h1, h2, h3⟩ := IMap.keys ho
  exact ⟨_, ho.len hT ty, ks, h1, fun x => by rw [h2, hh], h3⟩
theorem step_len {ops : Array Oper} {o : Oper} {a : Act} {K : Act → World → Prop} {Q : Exit → Act → World → Prop} {E : Prop} (w : World) (hgd : o.guard = none) (m : Operand) (t : TypeId) (ho : o.op = .call { callee := .builtin .len, args := #[m], argTypes := #[t] }) (mv : Value) (hm : a.eval m = mv)
    (k : Int) (hrun : (Builtin.len_ #[t] o.type #[mv]).run Try.prog w = .ok (.int .i64 k) w) (h : K (a.put o.dst (.int .i64 k)) w) : if Region.wanted o (yielded ops a.tmps) = true then Oper.wp Try.prog o a w K Q else E := by
  rw [if_pos (by simp [Region.wanted, hgd])]
  unfold Oper.wp
  simp [execOp, ho, resolve, invoke, builtin, hm, hrun, Result.andThen]
  exact h
/-- How many slots something is kept of. -/
def Lv.Sz (l : Lv) (k : Int) : Prop := ∃ ks : List Int, ks.Nodup ∧ (∀ x, x ∈ ks ↔ ((l.V x).isSome = true ∨ (l.D x).isSome = true)) ∧ k = ks.length
set_option maxHeartbeats 1600000 in
set_option maxRecDepth 20000 in
theorem esize_any (h : IsL w F g A n c vb db I l) : Calls Try.prog 17 #[.pointer (some ⟨g, 0, none⟩)] w fun e w' => ∃ k, e = .returned (.int .i64 k) ∧ l.Sz k ∧ Below w.heap.size w w' := by
  have hm := emade_any h
  have c3 := h.cells.1.2.2.2.1
  have c4 := h.cells.1.2.2.2.2
  have hv := IMap.len (w := w.drew) Try.underlying74 h.vs 3
  obtain ⟨M, hM, hM0, hM1⟩ := h.dec
  have hd := IMap.len (w := w.drew) Try.underlying75 hM 3
  obtain ⟨kv, rv, ks, s1, s2, s3⟩ := hv
  obtain ⟨kd, rd, ts, t1, t2, t3⟩ := hd
  have e1 : ∀ x, x ∈ ks ↔ (l.V x).isSome = true := fun x => by
    rw [s2]
    cases l.V x <;> simp
  have e2 : ∀ x, x ∈ ts ↔ (l.D x).isSome = true := fun x => by
    rw [t2]
    cases hD : l.D x with
    | none => rw [hM0 x hD]; simp
    | some y =>
      obtain ⟨u, hu, _⟩ := hM1 x y hD
      rw [hu]
      simp
  have hsz : l.Sz ((kv : Int) + kd) := ⟨ks ++ ts, List.nodup_append.2 ⟨s1, t1, fun a ha b hb e => by
      subst e
      have h1 := (e1 a).1 ha
      have h2 := (e2 a).1 hb
      rw [h.good.dj a h1] at h2
      cases h2⟩, fun x => by rw [List.mem_append, e1, e2], by rw [List.length_append, s3, t3]; omega⟩
  have hb1 : (kv : Int) ≤ 1099511627776 := by
    have := pigeon 0 1099511627776 ks s1 (fun x hx => by have := h.good.vr x ((e1 x).1 hx); have := h.good.nx; omega)
    omega
  have hb2 : (kd : Int) ≤ 1099511627776 := by
    have := pigeon 0 1099511627776 ts t1 (fun x hx => by have := h.good.dr x ((e2 x).1 hx); omega)
    omega
  have hw : IntKind.i64.wrap ((kv : Int) + kd) = (kv : Int) + kd := IntWalk.i64_in _ (by omega)
  have HS := hide hsz
  clear h hM hM0 hM1 s1 s2 s3 t1 t2 t3 e1 e2 hsz hb1 hb2
  go_enter Try.func17, Try.ntmps17
  go_wp2_with fail
  refine hm.mono ?_
  rintro e _ ⟨rfl, rfl⟩
  clear hm
  go_upto_region 3 with fail
  go_region_law (first
    | (refine step_len _ (by rfl) _ 74 (by rfl) _ (by rfl) _ rv ?_)
    | (refine step_len _ (by rfl) _ 75 (by rfl) _ (by rfl) _ rd ?_))
  all_goals go_wp2_with fail
  all_goals go_ret
  all_goals exact ⟨_, rfl, HS.out, (Below.refl _ _).drew⟩
end
end Go.Proofs.Ytnngmapphacpkaa

namespace Go.Proofs.Ytnngmapphacpkaa
open Go.RowKit

section
variable {w w1 w2 : World} {F : Nat → Prop} {g : Nat} {A : Option Addr} {n c vb db : Nat} {I : Int → Nat} {l : Lv}
theorem ownc_slice {w : World} {base : Nat} {A : Option Addr} {n c : Nat} {cs : List Cmdv} (h : OwnC w base (.slice A n c) cs) : cs.length = n ∧ HasC w w.heap.size A cs := by
  obtain ⟨_, _, _, e1, h1, _, h2⟩ := h.form
  cases e1
  exact ⟨h1.out, h2⟩
theorem owni_slice' {w : World} {base : Nat} {A : Option Addr} {n c : Nat} {ns : List Int} (h : OwnI w base (.slice A n c) ns) : ns.length = n ∧ HasI w w.heap.size A ns := by
  obtain ⟨_, _, _, e1, h1, _, h2⟩ := h.form
  cases e1
  exact ⟨h1.out, h2⟩
set_option maxHeartbeats 1600000 in
set_option maxRecDepth 20000 in
theorem enext_any (h : IsL w F g A n c vb db I l) : Calls Try.prog 11 #[.pointer (some ⟨g, 0, none⟩)] w (NextEnds' l w) := by
  have ba := (Below.refl _ w).alloc (Nat.le_refl _) (.cells #[.int .i64 0, .slice none 0 0, .slice none 0 0] 35)
  have h0 := h.below ba
  have hr0 := heap_alloc_new w (.cells #[.int .i64 0, .slice none 0 0, .slice none 0 0] 35)
  go_enter Try.func11, Try.ntmps11
  go_upto_region 1 with fail
  generalize w.alloc (.cells #[.int .i64 0, .slice none 0 0, .slice none 0 0] 35) = w0 at *
  have hm := emade_any h0
  have hwf : (Lit.int .i64 l.next).wf = true := WalkArith.wf_i64 (by have := h.good.nx; omega)
  have hkn := eknown_any h0 hwf
  have hz0 := ba.size
  have c1 := h0.cells.1.2.1
  have HR := hide hr0
  have HH := hide h0
  clear h h0 hr0
  go_wp2_with fail
  refine hm.mono ?_
  rintro e _ ⟨rfl, rfl⟩
  go_wp2_with fail
  refine hkn.mono ?_
  rintro e w1 ⟨A1, n1, c1', D1, m1, d1, rfl, ho1, hi1, hb1⟩
  have h1 := HH.out.below hb1
  have hb1a := (Below.refl _ w1).alloc (Nat.le_refl _) (.cells #[.int .i64 (l.known l.next).k, .slice A1 n1 c1', .slice D1 m1 d1] 35)
  have h1a := h1.below hb1a
  have hp := heap_alloc_new w1 (.cells #[.int .i64 (l.known l.next).k, .slice A1 n1 c1', .slice D1 m1 d1] 35)
  have hr1 := (hb1a.block _ (by have := lt_of_block HR.out; have := hb1.size; omega)).trans ((hb1.block _ (lt_of_block HR.out)).trans HR.out)
  have ho2 := ho1.below hb1a
  have hi2 := hi1.below hb1a
  go_upto_region 4 with fail
  generalize w1.alloc (.cells #[.int .i64 (l.known l.next).k, .slice A1 n1 c1', .slice D1 m1 d1] 35) = w2 at *
  clear c1 hkn hm
  have c1 := h1a.cells.1.2.1
  have p0 := (row_cells hp 0).1
  have p1 := (row_cells hp 1).1
  have p2 := (row_cells hp 2).1
  have r0 := row_cells hr1 0
  have r1 := row_cells hr1 1
  have r2 := row_cells hr1 2
  obtain ⟨r0a, r0b⟩ := r0
  obtain ⟨r1a, r1b⟩ := r1
  obtain ⟨r2a, r2b⟩ := r2
  simp only [List.getElem?_toArray, List.getElem?_cons_succ, List.getElem?_cons_zero] at p0 p1 p2 r0a r1a r2a
  have HP := hide hp
  have HR1 := hide hr1
  have HO := hide ho2
  have HI := hide hi2
  have HZ := hide (And.intro hb1.size hb1a.size)
  have HB := hide (hb1.trans (hb1a.mono hb1.size))
  have HLT := hide (lt_of_block HR.out)
  clear h1 h1a hp hr1 ho1 hi1 ho2 hi2
  go_region_law (fail)
  all_goals go_wp2_with fail
  all_goals
    have hk9 : Kept (fun j => j = w.heap.size) w2 (((w2.setCell ⟨w.heap.size, 0, none⟩ (.int .i64 (l.known l.next).k)).setCell ⟨w.heap.size, 1, none⟩ (.slice A1 n1 c1')).setCell ⟨w.heap.size, 2, none⟩ (.slice D1 m1 d1)) :=
      (((Kept.refl (fun j => j = w.heap.size) w2).setCell (p := ⟨w.heap.size, 0, none⟩) (.inl rfl) _).setCell (p := ⟨w.heap.size, 1, none⟩) (.inl rfl) _).setCell (p := ⟨w.heap.size, 2, none⟩) (.inl rfl) _
    have hr9 : (((w2.setCell ⟨w.heap.size, 0, none⟩ (.int .i64 (l.known l.next).k)).setCell ⟨w.heap.size, 1, none⟩ (.slice A1 n1 c1')).setCell ⟨w.heap.size, 2, none⟩ (.slice D1 m1 d1)).heap[w.heap.size]? = some (.cells #[.int .i64 (l.known l.next).k, .slice A1 n1 c1', .slice D1 m1 d1] 35 (0, 0)) := by simp [World.setCell, Array.getElem?_modify, HR1.out]
    have hz := HZ.out
    have hlt := HLT.out
    generalize ((w2.setCell ⟨w.heap.size, 0, none⟩ (.int .i64 (l.known l.next).k)).setCell ⟨w.heap.size, 1, none⟩ (.slice A1 n1 c1')).setCell ⟨w.heap.size, 2, none⟩ (.slice D1 m1 d1) = w9 at *
    refine bodyPost_ret (v := .tuple #[.int .i64 l.next, .agg #[.int .i64 (l.known l.next).k, .slice A1 n1 c1', .slice D1 m1 d1], .bool (l.D l.next).isSome]) (results_next rfl rfl rfl hr9 rfl) rfl ⟨A1, n1, c1', D1, m1, d1, rfl, ?_, ?_, ?_⟩
    · exact (HO.out.keep fun j hj => hk9.block j (HO.out.lt j hj).2 (by have := (HO.out.lt j hj).1; omega)).from_ (by omega)
    · exact (HI.out.keep fun j hj => hk9.block j (HI.out.lt j hj).2 (by have := (HI.out.lt j hj).1; omega)).from_ (by omega)
    · exact ((ba.trans (HB.out.mono hz0)).trans (hk9.below (by have := HZ.out; omega) (fun j hj => by omega))).drew

/-- A new learner. -/
def Lv.new (ms : List Int) (from_ : Int) : Lv := ⟨ms, from_, 0, fun _ => none, fun _ => none⟩
/-- What New answers. -/
def ENewEnds (ms : List Int) (fr : Int) (w : World) (e : Ending) (w' : World) : Prop :=
  (rightS ms ∧ 1 ≤ fr ∧ fr ≤ 1099511627776 → ∃ g A n c vb db I, e = .returned (.pointer (some ⟨g, 0, none⟩)) ∧ IsL w' (fun j => w.heap.size ≤ j ∧ j < w'.heap.size) g A n c vb db I (Lv.new ms fr)) ∧
  (¬ (rightS ms ∧ 1 ≤ fr ∧ fr ≤ 1099511627776) → e = .returned (.pointer none)) ∧ Below w.heap.size w w'
theorem enew_is {w w1 : World} {ms : List Int} {fr : Int} {A1 : Option Addr} {n1 c1 : Nat} (hr : rightS ms) (hf : 1 ≤ fr ∧ fr ≤ 1099511627776) (hb : Below w.heap.size w w1) (ho : OwnI w1 w.heap.size (.slice A1 n1 c1) ms) :
    IsL (((w1.alloc (.map #[] 0)).alloc (.map #[] 0)).alloc (.cells #[.slice A1 n1 c1, .int .i64 fr, .int .i64 0, .map (some w1.heap.size), .map (some (w1.heap.size + 1))] 78))
      (fun j => w.heap.size ≤ j ∧ j < (((w1.alloc (.map #[] 0)).alloc (.map #[] 0)).alloc (.cells #[.slice A1 n1 c1, .int .i64 fr, .int .i64 0, .map (some w1.heap.size), .map (some (w1.heap.size + 1))] 78)).heap.size)
      (w1.heap.size + 1 + 1) A1 n1 c1 w1.heap.size (w1.heap.size + 1) (fun _ => 0) (Lv.new ms fr) := by
  have m1 := IMap.new w1
  have m2 := IMap.new (w1.alloc (.map #[] 0))
  have s1 : (w1.alloc (.map #[] 0)).heap.size = w1.heap.size + 1 := by simp
  rw [s1] at m2
  have b1 : Below w1.heap.size w1 (w1.alloc (.map #[] 0)) := (Below.refl _ _).alloc (Nat.le_refl _) _
  generalize w1.alloc (.map #[] 0) = wA at *
  have s2 : (wA.alloc (.map #[] 0)).heap.size = w1.heap.size + 1 + 1 := by simp [s1]
  have b2 : Below wA.heap.size wA (wA.alloc (.map #[] 0)) := (Below.refl _ _).alloc (Nat.le_refl _) _
  generalize wA.alloc (.map #[] 0) = wB at *
  have hg := heap_alloc_new wB (.cells #[.slice A1 n1 c1, .int .i64 fr, .int .i64 0, .map (some w1.heap.size), .map (some (w1.heap.size + 1))] 78)
  rw [s2] at hg
  have s3 : (wB.alloc (.cells #[.slice A1 n1 c1, .int .i64 fr, .int .i64 0, .map (some w1.heap.size), .map (some (w1.heap.size + 1))] 78)).heap.size = w1.heap.size + 1 + 1 + 1 := by simp [s2]
  have b3 : Below wB.heap.size wB (wB.alloc (.cells #[.slice A1 n1 c1, .int .i64 fr, .int .i64 0, .map (some w1.heap.size), .map (some (w1.heap.size + 1))] 78)) := (Below.refl _ _).alloc (Nat.le_refl _) _
  generalize wB.alloc (.cells #[.slice A1 n1 c1, .int .i64 fr, .int .i64 0, .map (some w1.heap.size), .map (some (w1.heap.size + 1))] 78) = wC at *
  have hz := hb.size
  have bb : Below w1.heap.size w1 wC := (b1.trans (b2.mono (by omega))).trans (b3.mono (by omega))
  have n1 : ∀ s, ((Lv.new ms fr).V s).isSome = true → False := fun s hs => by cases hs
  have n2 : ∀ s, ((Lv.new ms fr).D s).isSome = true → False := fun s hs => by cases hs
  have n3 : ∀ s N, (Lv.new ms fr).V s = some N → False := fun s N hs => by cases hs
  have hgood : (Lv.new ms fr).Good := ⟨hr, ⟨hf.1, by show fr ≤ 1099511627777; omega⟩, ⟨Int.le_refl _, by show (0 : Int) ≤ 1099511627776; omega⟩, fun s hs => (n1 s hs).elim, fun s hs => (n2 s hs).elim, fun s hs => (n1 s hs).elim, fun s N hN => (n3 s N hN).elim⟩
  have hd : IsDec wC (fun j => w.heap.size ≤ j ∧ j < wC.heap.size) (w1.heap.size + 1) (Lv.new ms fr).D := ⟨fun _ => none, m2.keep (b3.block _ (by omega)), fun _ _ => rfl, fun _ _ e => by cases e⟩
  refine ⟨hgood, hg, (ho.below bb).from_ (Nat.zero_le _), ?_, fun s N hN => (n3 s N hN).elim, hd, fun s _ hs => (n1 s hs).elim, fun s hs => (n1 s hs).elim, by omega, by omega, by omega, by omega, fun s hs => (n1 s hs).elim, fun j hj => ?_, fun j hj => hj.2⟩
  · exact (m1.keep (b2.block _ (by omega))).keep (b3.block _ (by omega))
  · have := ho.lt j hj
    omega
set_option maxHeartbeats 1600000 in
set_option maxRecDepth 20000 in
theorem enew_any (Am : Option Addr) (nm cm B : Nat) (ms : List Int) (fr : Int) (w : World) (hm : HasI w B Am ms) (hB : B ≤ w.heap.size) (hn : ms.length = nm) (hl : nm ≤ 17592186044416) :
    Calls Try.prog 10 #[.slice Am nm cm, .int .i64 fr] w (ENewEnds ms fr w) := by
  have hck := bcheck_any Am nm cm B ms w hm hn (by omega)
  have hcl := cloneI_any Am nm cm B ms w hm hB hn hl
  by_cases hr : rightS ms
  · rw [show chkS ms = 0 from if_pos hr] at hck
    by_cases h1 : 1 ≤ fr
    · by_cases h2 : fr ≤ 1099511627776
      · have HR := hide hr
        have HN := hide hn
        have hmm := @run_makeMap Try.prog
        clear hm hr hn
        go_enter Try.func10, Try.ntmps10
        go_wp2_with fail
        refine hck.mono ?_
        rintro e _ ⟨rfl, rfl⟩
        have ht1 : decide (fr < 1) = false := decide_eq_false (by omega)
        have ht2 : decide (1099511627776 < fr) = false := decide_eq_false (by omega)
        go_wp2_with fail
        refine hcl.mono ?_
        rintro e w1 ⟨v1, rfl, ho1, hb1⟩
        obtain ⟨A1, n1, c1, rfl, hn1, _, _⟩ := ho1.form
        go_wp2_with fail
        go_ret
        refine ⟨fun _ => ⟨w1.heap.size + 1 + 1, A1, n1, c1, w1.heap.size, w1.heap.size + 1, fun _ => 0, rfl, enew_is HR.out ⟨by omega, by omega⟩ hb1 ho1⟩, fun h => absurd ⟨HR.out, h1, h2⟩ h, ?_⟩
        have hz := hb1.size
        exact ((hb1.alloc (by omega) _).alloc (by simp; omega) _).alloc (by simp; omega) _
      · go_enter Try.func10, Try.ntmps10
        go_wp2_with fail
        refine hck.mono ?_
        rintro e _ ⟨rfl, rfl⟩
        have ht1 : decide (fr < 1) = false := decide_eq_false (by omega)
        have ht2 : decide (1099511627776 < fr) = true := decide_eq_true (by omega)
        go_wp2
        go_ret
        exact ⟨fun h => absurd h.2.2 (by omega), fun _ => rfl, Below.refl _ _⟩
    · go_enter Try.func10, Try.ntmps10
      go_wp2_with fail
      refine hck.mono ?_
      rintro e _ ⟨rfl, rfl⟩
      have ht1 : decide (fr < 1) = true := decide_eq_true (by omega)
      go_wp2
      go_ret
      exact ⟨fun h => absurd h.2.1 (by omega), fun _ => rfl, Below.refl _ _⟩
  · rw [show chkS ms = 24 from if_neg hr] at hck
    go_enter Try.func10, Try.ntmps10
    go_wp2_with fail
    refine hck.mono ?_
    rintro e _ ⟨rfl, rfl⟩
    go_wp2
    go_ret
    exact ⟨fun h => absurd h.1 hr, fun _ => rfl, Below.refl _ _⟩
end
end Go.Proofs.Ytnngmapphacpkaa
