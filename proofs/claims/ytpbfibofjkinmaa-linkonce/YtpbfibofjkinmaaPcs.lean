/-
  Slices of byte slices that the call itself owns, each piece in the call's own memory. Conditions: at most 2^40 pieces.
-/
import Derived.Test.YtpbfibofjkinmaaAppend
import Derived.Test.YtpbfibofjkinmaaClone
set_option linter.unusedSimpArgs false
set_option linter.unusedVariables false
namespace Go.Proofs.Ytpbfibofjkinmaa
open Go.RowKit

/-- A piece: where it lies, its capacity, its bytes. -/
structure Piece where
  spot : Option Addr
  len : Nat
  cap : Nat
  bs : List UInt8
def Piece.val (p : Piece) : Value := .slice p.spot p.len p.cap
/-- The slice of slices that begins at A holds these pieces, all of it in blocks below B. -/
def HasP (w : World) (B : Nat) (A : Option Addr) (ps : List Piece) : Prop :=
  ∀ k (h : k < ps.length), (∃ b o, A = some ⟨b, o, none⟩ ∧ b < B ∧ w.cell? ⟨b, o + k, none⟩ = some ps[k].val) ∧ Has w B ps[k].spot ps[k].bs ∧ ps[k].bs.length = ps[k].len ∧ ps[k].len ≤ 140737488355328
theorem HasP.below {w w' : World} {B : Nat} {A : Option Addr} {ps : List Piece} (h : HasP w B A ps) (hb : Below B w w') : HasP w' B A ps := by
  intro k hk
  obtain ⟨⟨b, o, hA, hlt, hc⟩, h2, h3⟩ := h k hk
  exact ⟨⟨b, o, hA, hlt, (hb.cell (p := ⟨b, o + k, none⟩) hlt).trans hc⟩, h2.below hb, h3⟩
/-- One piece, laid in a new block. -/
theorem bytes_info : (Try.prog.info? 32).map (fun i => (i.zero, i.size, i.bytes)) = some (some (Value.slice none 0 0), 1, 24) := by kernel_rfl

/-- The value v holds just these slices, in a block of the call's own (from base on), or is nil. -/
def OwnP (w : World) (base : Nat) (v : Value) (ps : List Piece) : Prop := w.ownsRow base 32 1 v ps.length (ps.map Piece.val)

theorem OwnP.keep {w w' : World} {base : Nat} {v : Value} {ps : List Piece} (h : OwnP w base v ps) (hk : ∀ g, v.ownBlock = some g → w'.heap[g]? = w.heap[g]?) : OwnP w' base v ps := by
  refine ⟨h.1, ?_⟩
  rcases h.2 with h2 | ⟨g, cap, cur, hv, hg, hh, r⟩
  · exact .inl h2
  · exact .inr ⟨g, cap, cur, hv, hg, by rw [hk g (by rw [hv]; rfl)]; exact hh, r⟩
theorem OwnP.lt {w : World} {base : Nat} {v : Value} {ps : List Piece} (h : OwnP w base v ps) : ∀ g, v.ownBlock = some g → base ≤ g ∧ g < w.heap.size := World.ownsRow.lt h
theorem OwnP.empty (w : World) (g base : Nat) (hg : g = w.heap.size) (hb : base ≤ g) : OwnP (w.alloc (.cells #[] 32)) base (.slice (some ⟨g, 0, none⟩) 0 0) [] := by
  subst hg
  exact ⟨rfl, .inr ⟨w.heap.size, 0, #[], rfl, hb, heap_alloc_new w _, Nat.le_refl _, by unfold maxLen; omega, rfl, rfl⟩⟩

/-- append of one piece that lies in a new block at a plain region's list of operations. -/
theorem list_append_piece {ops : Array Oper} {rest : List Oper} {o : Oper} {a : Act} {Q : Exit → Act → World → Prop} (w : World) (hgd : o.guard = none) (s x : Operand)
    (ho : o.op = .call { callee := .builtin .append, args := #[s, x], argTypes := #[65, 65] }) (base : Nat) (v : Value) (ps : List Piece) (hs : a.eval s = v) (hown : OwnP w base v ps)
    (ad : Addr) (c : Nat) (p : Piece) (hx : a.eval x = .slice (some ad) 1 c) (hr : w.cell? ad = some p.val)
    (hlen : ps.length + 1 ≤ 1099511627776) (hbase : base ≤ w.heap.size)
    (h : ∀ v' w', OwnP w' base v' (ps ++ [p]) → w.grownBy w' v.ownBlock → (v'.ownBlock = v.ownBlock ∨ v'.ownBlock = some w.heap.size) → wpList Try.prog ops Q rest (a.put o.dst v') w') : wpList Try.prog ops Q (o :: rest) a w := by
  obtain ⟨i0, hi0, hz0, hz1, hz2⟩ := info_parts bytes_info
  refine wpList_append_own_at (P := Try.prog) w hgd s x 65 ho base 32 i0 (.slice none 0 0) 1 24 Try.underlying65 hi0 hz0 hz1 hz2 rfl (by omega) v ps.length (ps.map Piece.val) hs hown ad 1 c [p.val] hx rfl ?_ ?_ (by unfold maxLen; omega) (by omega) hbase ?_
  · intro j u hu
    have hj : j = 0 := by
      rcases Nat.eq_zero_or_pos j with h0 | h0
      · exact h0
      · rw [List.getElem?_eq_none (by simp; omega)] at hu; cases hu
    subst hj
    simp at hu
    subst hu
    rw [← hr]
    rfl
  · intro u hu
    simp at hu
    subst hu
    rfl
  · intro v' w' h1 h2 _ h4
    exact h v' w' (by unfold OwnP; rw [List.length_append, List.map_append]; exact h1) h2 h4


theorem OwnP.from_ {w : World} {base base' : Nat} {v : Value} {ps : List Piece} (h : OwnP w base v ps) (hb : base' ≤ base) : OwnP w base' v ps := by
  refine ⟨h.1, ?_⟩
  rcases h.2 with h2 | ⟨g, cap, cur, hv, hg, hh, r⟩
  · exact .inl h2
  · exact .inr ⟨g, cap, cur, hv, Nat.le_trans hb hg, hh, r⟩
theorem OwnP.nil (w : World) (base : Nat) : OwnP w base (.slice none 0 0) [] := ⟨rfl, .inl ⟨rfl, rfl⟩⟩

/-- A slice of byte slices that the call owns, as are the pieces. -/
structure OwnF (w : World) (base : Nat) (v : Value) (ps : List Piece) : Prop where
  row : OwnP w base v ps
  dat : ∀ p ∈ ps, Own w base p.val p.bs
theorem OwnF.nil (w : World) (base : Nat) : OwnF w base (.slice none 0 0) [] := ⟨OwnP.nil w base, fun p hp => absurd hp (by simp)⟩
theorem OwnF.empty (w : World) (g base : Nat) (hg : g = w.heap.size) (hb : base ≤ g) : OwnF (w.alloc (.cells #[] 32)) base (.slice (some ⟨g, 0, none⟩) 0 0) [] := ⟨OwnP.empty w g base hg hb, fun p hp => absurd hp (by simp)⟩
theorem OwnF.from_ {w : World} {base base' : Nat} {v : Value} {ps : List Piece} (h : OwnF w base v ps) (hb : base' ≤ base) : OwnF w base' v ps := ⟨h.row.from_ hb, fun p hp => (h.dat p hp).from_ hb⟩
theorem ownsRow_typed {w : World} {base k n : Nat} {e : TypeId} {v : Value} {cs : List Value} (h : w.ownsRow base e k v n cs) : ∀ g, v.ownBlock = some g → ∃ cur, w.heap[g]? = some (.cells cur e (0, 0)) := by
  intro g hg
  rcases h.2 with ⟨hv, _⟩ | ⟨g', cap, cur, hv, _, hh, _⟩
  · rw [hv] at hg; cases hg
  · rw [hv] at hg; cases hg; exact ⟨cur, hh⟩
/-- What turns no block of bytes and of byte slices turns nothing of them. -/
theorem OwnF.kept {F : Nat → Prop} {w w' : World} {base : Nat} {v : Value} {ps : List Piece} (h : OwnF w base v ps) (hk : Kept F w w') (hF : ∀ j cur t, w.heap[j]? = some (.cells cur t (0, 0)) → t = 32 ∨ t = 5 → ¬ F j) : OwnF w' base v ps :=
  ⟨h.row.keep fun g hg => by
    obtain ⟨cur, hc⟩ := ownsRow_typed h.row g hg
    exact hk.block g (lt_of_block hc) (hF g cur _ hc (.inl rfl)), fun p hp => (h.dat p hp).keep fun g hg => by
    obtain ⟨cur, hc⟩ := ownsRow_typed (h.dat p hp) g hg
    exact hk.block g (lt_of_block hc) (hF g cur _ hc (.inr rfl))⟩
theorem OwnF.below {w w' : World} {base : Nat} {v : Value} {ps : List Piece} (h : OwnF w base v ps) (hb : Below w.heap.size w w') : OwnF w' base v ps :=
  h.kept (F := fun _ => False) (Kept.of_below hb) (fun _ _ _ _ _ hf => hf)
theorem Own.has {w : World} {base : Nat} {v : Value} {xs : List UInt8} (h : Own w base v xs) : ∃ A n c, v = .slice A n c ∧ Has w w.heap.size A xs ∧ xs.length = n := by
  obtain ⟨A, n, c, e, h1, _, h2, _⟩ := h.form
  exact ⟨A, n, c, e, h2, h1.out⟩
theorem OwnF.form {w : World} {base : Nat} {v : Value} {ps : List Piece} (h : OwnF w base v ps) (hb : ∀ p ∈ ps, p.bs.length ≤ 140737488355328) : ∃ A n c, v = .slice A n c ∧ Hid (ps.length = n) ∧ n ≤ c ∧ HasP w w.heap.size A ps := by
  have key : ∀ p ∈ ps, Has w w.heap.size p.spot p.bs ∧ p.bs.length = p.len ∧ p.len ≤ 140737488355328 := fun p hp => by
    obtain ⟨A, n, c, e, h1, _, h2, _⟩ := (h.dat p hp).form
    injection e with e1 e2 e3
    subst e1 e2 e3
    exact ⟨h2, h1.out, by have := h1.out; have := hb p hp; omega⟩
  rcases h.row.2 with ⟨hv, hn⟩ | ⟨g, cap, cur, hv, hg, hh, hnc, hm, hcs, ht⟩
  · have hx : ps = [] := List.eq_nil_of_length_eq_zero hn
    subst hx
    exact ⟨none, 0, 0, hv, rfl, Nat.le_refl _, fun k hk => absurd hk (by simp)⟩
  · refine ⟨some ⟨g, 0, none⟩, ps.length, cap, hv, rfl, hnc, fun k hk => ⟨⟨g, 0, rfl, lt_of_block hh, ?_⟩, key _ (List.getElem_mem hk)⟩⟩
    have h1 : (cur.toList.take (ps.length * 1))[k]? = some ps[k].val := by rw [ht]; simp [hk]
    rw [List.getElem?_take_of_lt (by omega)] at h1
    simp only [World.cell?, hh]
    simpa using h1
theorem OwnF.app {w w' : World} {base : Nat} {v v' : Value} {ps : List Piece} {p : Piece} (h : OwnF w base v ps) (hp : Own w base p.val p.bs) (ho : OwnP w' base v' (ps ++ [p])) (hg : w.grownBy w' v.ownBlock) : OwnF w' base v' (ps ++ [p]) := by
  refine ⟨ho, fun q hq => ?_⟩
  have key : ∀ q : Piece, Own w base q.val q.bs → Own w' base q.val q.bs := fun q hq => hq.keep fun g e => by
    obtain ⟨cur, hc⟩ := ownsRow_typed hq g e
    refine hg.block g (lt_of_block hc) (fun e2 => ?_)
    obtain ⟨cur', hc'⟩ := ownsRow_typed h.row g e2.symm
    rw [hc] at hc'
    injection hc' with hc'
    injection hc' with _ hc'
    exact absurd hc' (by decide)
  rcases List.mem_append.1 hq with h1 | h1
  · exact key q (h.dat q h1)
  · simp at h1
    subst h1
    exact key q hp
end Go.Proofs.Ytpbfibofjkinmaa
