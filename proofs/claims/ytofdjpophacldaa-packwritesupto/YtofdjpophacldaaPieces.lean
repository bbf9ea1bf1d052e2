/-
  A slice of byte slices that the call itself owns, and what append of one does to it. Conditions: at most 2^40 pieces.
-/
import Derived.Test.YtofdjpophacldaaAppend
import Derived.Test.YtofdjpophacldaaSum
namespace Go.Proofs.Ytofdjpophacldaa
open Go.RowKit

theorem bytes_info : (Try.prog.info? 26).map (fun i => (i.zero, i.size, i.bytes)) = some (some (Value.slice none 0 0), 1, 24) := by kernel_rfl

/-- The value v holds just these slices, in a block of the call's own (from base on), or is nil. -/
def OwnP (w : World) (base : Nat) (v : Value) (ps : List Piece) : Prop := w.ownsRow base 26 1 v ps.length (ps.map Piece.val)

theorem OwnP.keep {w w' : World} {base : Nat} {v : Value} {ps : List Piece} (h : OwnP w base v ps) (hk : ∀ g, v.ownBlock = some g → w'.heap[g]? = w.heap[g]?) : OwnP w' base v ps := by
  refine ⟨h.1, ?_⟩
  rcases h.2 with h2 | ⟨g, cap, cur, hv, hg, hh, r⟩
  · exact .inl h2
  · exact .inr ⟨g, cap, cur, hv, hg, by rw [hk g (by rw [hv]; rfl)]; exact hh, r⟩
theorem OwnP.lt {w : World} {base : Nat} {v : Value} {ps : List Piece} (h : OwnP w base v ps) : ∀ g, v.ownBlock = some g → base ≤ g ∧ g < w.heap.size := World.ownsRow.lt h
theorem OwnP.empty (w : World) (g base : Nat) (hg : g = w.heap.size) (hb : base ≤ g) : OwnP (w.alloc (.cells #[] 26)) base (.slice (some ⟨g, 0, none⟩) 0 0) [] := by
  subst hg
  exact ⟨rfl, .inr ⟨w.heap.size, 0, #[], rfl, hb, heap_alloc_new w _, Nat.le_refl _, by unfold maxLen; omega, rfl, rfl⟩⟩

/-- The pieces lie each in one block, away from the two rows. -/
def Lies (w : World) (base : Nat) (va vm : Value) (ps : List Piece) : Prop :=
  ∀ k (h : k < ps.length), ∃ g, ps[k].spot = some ⟨g, 0, none⟩ ∧ base ≤ g ∧ w.heap[g]? = some (.cells (bcells ps[k].bs) 5) ∧ ps[k].len = ps[k].bs.length ∧ va.ownBlock ≠ some g ∧ vm.ownBlock ≠ some g

theorem OwnP.form {w : World} {base : Nat} {v va vm : Value} {ps : List Piece} (h : OwnP w base v ps) (hl : Lies w base va vm ps) (hb : ∀ k (h : k < ps.length), ps[k].len ≤ 140737488355328) :
    ∃ A n c, v = .slice A n c ∧ Hid (ps.length = n) ∧ n ≤ c ∧ HasP w w.heap.size A ps := by
  rcases h.2 with ⟨hv, hn⟩ | ⟨g, cap, cur, hv, hg, hh, hnc, hm, hcs, ht⟩
  · have hx : ps = [] := List.eq_nil_of_length_eq_zero hn
    subst hx
    exact ⟨none, 0, 0, hv, rfl, Nat.le_refl _, fun k hk => absurd hk (by simp)⟩
  · refine ⟨some ⟨g, 0, none⟩, ps.length, cap, hv, rfl, hnc, ?_⟩
    intro k hk
    obtain ⟨g', hs, _, hc, hlen, _⟩ := hl k hk
    refine ⟨⟨g, 0, rfl, lt_of_block hh, ?_⟩, by rw [hs]; exact Has.block hc (lt_of_block hc), hlen.symm, hb k hk⟩
    have h1 : (cur.toList.take (ps.length * 1))[k]? = some ps[k].val := by rw [ht]; simp [hk]
    rw [List.getElem?_take_of_lt (by omega)] at h1
    simp only [World.cell?, hh]
    simpa using h1

/-- append of one piece that lies in a new block at a plain region's list of operations. -/
theorem list_append_piece {ops : Array Oper} {rest : List Oper} {o : Oper} {a : Act} {Q : Exit → Act → World → Prop} (w : World) (hgd : o.guard = none) (s x : Operand)
    (ho : o.op = .call { callee := .builtin .append, args := #[s, x], argTypes := #[63, 63] }) (base : Nat) (v : Value) (ps : List Piece) (hs : a.eval s = v) (hown : OwnP w base v ps)
    (ad : Addr) (c : Nat) (p : Piece) (hx : a.eval x = .slice (some ad) 1 c) (hr : w.cell? ad = some p.val)
    (hlen : ps.length + 1 ≤ 1099511627776) (hbase : base ≤ w.heap.size)
    (h : ∀ v' w', OwnP w' base v' (ps ++ [p]) → w.grownBy w' v.ownBlock → (v'.ownBlock = v.ownBlock ∨ v'.ownBlock = some w.heap.size) → wpList Try.prog ops Q rest (a.put o.dst v') w') : wpList Try.prog ops Q (o :: rest) a w := by
  obtain ⟨i0, hi0, hz0, hz1, hz2⟩ := info_parts bytes_info
  refine wpList_append_own_at (P := Try.prog) w hgd s x 63 ho base 26 i0 (.slice none 0 0) 1 24 Try.underlying63 hi0 hz0 hz1 hz2 rfl (by omega) v ps.length (ps.map Piece.val) hs hown ad 1 c [p.val] hx rfl ?_ ?_ (by unfold maxLen; omega) (by omega) hbase ?_
  · intro j u hu
    have hj : j = 0 := by
      rcases Nat.eq_zero_or_pos j with h0 | h0
      · exact h0
      · rw [List.getElem?_eq_none (by simp; omega)] at hu; cases hu
    subst hj
    simp at hu
    subst hu
    rw [← hr]
    rfl
  · intro u hu
    simp at hu
    subst hu
    rfl
  · intro v' w' h1 h2 _ h4
    exact h v' w' (by unfold OwnP; rw [List.length_append, List.map_append]; exact h1) h2 h4

/-- What the law has gathered: all bytes behind one another, and the copies of the pieces, each in its own memory. -/
structure Gath (w : World) (base : Nat) (va vm : Value) (zs : List UInt8) (qs : List Piece) : Prop where
  own : Own w base va zs
  ownp : OwnP w base vm qs
  lies : Lies w base va vm qs
  apart : ∀ g, va.ownBlock = some g → vm.ownBlock ≠ some g

theorem Gath.alloc {w : World} {base : Nat} {va vm : Value} {zs : List UInt8} {qs : List Piece} (h : Gath w base va vm zs qs) (o : Obj) : Gath (w.alloc o) base va vm zs qs := by
  refine ⟨h.own.alloc o, World.ownsRow.alloc h.ownp o, fun k hk => ?_, h.apart⟩
  obtain ⟨g, h1, h2, h3, h4⟩ := h.lies k hk
  exact ⟨g, h1, h2, (Below.heap_alloc w o g (lt_of_block h3)).trans h3, h4⟩

theorem Gath.all {w w2 : World} {base : Nat} {va vm va2 : Value} {zs zs2 : List UInt8} {qs : List Piece} (h : Gath w base va vm zs qs) (ho : Own w2 base va2 zs2) (hg : w.grownBy w2 va.ownBlock)
    (hat : va2.ownBlock = va.ownBlock ∨ va2.ownBlock = some w.heap.size) : Gath w2 base va2 vm zs2 qs := by
  refine ⟨ho, h.ownp.keep fun g e => hg.block g (h.ownp.lt g e).2 (fun e2 => h.apart g e2.symm e), fun k hk => ?_, fun g e => ?_⟩
  · obtain ⟨g, h1, h2, h3, h4, h5, h6⟩ := h.lies k hk
    have hl := lt_of_block h3
    refine ⟨g, h1, h2, (hg.block g hl (fun e2 => h5 e2.symm)).trans h3, h4, ?_, h6⟩
    rcases hat with e | e
    · rw [e]; exact h5
    · rw [e]; intro e2; injection e2; omega
  · rcases hat with e2 | e2
    · rw [e2] at e; exact h.apart g e
    · rw [e2] at e
      injection e with e
      intro e3
      have := (h.ownp.lt g e3).2
      omega

theorem Gath.piece {w w2 : World} {base : Nat} {va vm vm2 : Value} {zs : List UInt8} {qs : List Piece} {p : Piece} (h : Gath w base va vm zs qs) {g0 : Nat} (hp : p.spot = some ⟨g0, 0, none⟩) (hb : base ≤ g0)
    (hc : w.heap[g0]? = some (.cells (bcells p.bs) 5)) (hl : p.len = p.bs.length) (ha : va.ownBlock ≠ some g0) (hm : vm.ownBlock ≠ some g0) (ho : OwnP w2 base vm2 (qs ++ [p])) (hg : w.grownBy w2 vm.ownBlock)
    (hat : vm2.ownBlock = vm.ownBlock ∨ vm2.ownBlock = some w.heap.size) : Gath w2 base va vm2 zs (qs ++ [p]) := by
  have key : ∀ g x, w.heap[g]? = some x → vm.ownBlock ≠ some g → w2.heap[g]? = some x ∧ vm2.ownBlock ≠ some g := by
    intro g x h3 h6
    have hl := lt_of_block h3
    refine ⟨(hg.block g hl (fun e2 => h6 e2.symm)).trans h3, ?_⟩
    rcases hat with e | e
    · rw [e]; exact h6
    · rw [e]; intro e2; injection e2; omega
  refine ⟨h.own.keep fun g e => hg.block g (h.own.lt g e).2 (fun e2 => h.apart g e e2.symm), ho, fun k hk => ?_, fun g e => ?_⟩
  · by_cases hk' : k < qs.length
    · rw [List.getElem_append_left hk']
      obtain ⟨g, h1, h2, h3, h4, h5, h6⟩ := h.lies k hk'
      obtain ⟨h7, h8⟩ := key g _ h3 h6
      exact ⟨g, h1, h2, h7, h4, h5, h8⟩
    · have e : k = qs.length := by simp at hk; omega
      subst e
      rw [List.getElem_append_right (Nat.le_refl _)]
      simp only [Nat.sub_self, List.getElem_cons_zero]
      obtain ⟨h7, h8⟩ := key g0 _ hc hm
      exact ⟨g0, hp, hb, h7, hl, ha, h8⟩
  · have hlt := (h.own.lt g e).2
    rcases hat with e2 | e2
    · rw [e2]; exact h.apart g e
    · rw [e2]; intro e3; injection e3; omega

theorem len_le_catP (ps : List Piece) (k : Nat) (hk : k < ps.length) : ps[k].bs.length ≤ (catP ps).length := by
  have h1 := catP_take ps k hk
  have h2 : catP ps = catP (ps.take (k + 1)) ++ catP (ps.drop (k + 1)) := by
    unfold catP
    rw [← List.flatMap_append, List.take_append_drop]
  rw [h2, h1]
  simp
  omega
theorem catP_of_bs {ps qs : List Piece} (h : qs.map Piece.bs = ps.map Piece.bs) : catP qs = catP ps := by
  unfold catP
  rw [List.flatMap_def, List.flatMap_def, h]
theorem bs_at {ps qs : List Piece} (h : qs.map Piece.bs = ps.map Piece.bs) (k : Nat) (hk : k < ps.length) (hk' : k < qs.length) : qs[k].bs = ps[k].bs := by
  have h1 : (qs.map Piece.bs)[k]? = (ps.map Piece.bs)[k]? := by rw [h]
  simpa [hk, hk'] using h1
theorem bs_take {ps qs : List Piece} {k : Nat} (hk : k < ps.length) {p : Piece} (h : qs.map Piece.bs = (ps.take k).map Piece.bs) (hp : p.bs = ps[k].bs) : (qs ++ [p]).map Piece.bs = (ps.take (k + 1)).map Piece.bs := by
  rw [List.take_succ_eq_append_getElem hk, List.map_append, List.map_append, h]
  simp [hp]
end Go.Proofs.Ytofdjpophacldaa
