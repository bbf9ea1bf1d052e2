/-
  append of numbers in a drawn region, and what take does to an end's due numbers. No condition.
-/
import Derived.Test.YtpbfibofjkinmaaLinkJ
set_option linter.unusedSimpArgs false
set_option linter.unusedVariables false
namespace Go.Proofs.Ytpbfibofjkinmaa
open Go.RowKit Go.Maps

theorem step_append_ints {ops : Array Oper} {o : Oper} {a : Act} {K : Act → World → Prop} {Q : Exit → Act → World → Prop} {E : Prop} (w : World) (hgd : o.guard = none) (s x : Operand)
    (ho : o.op = .call { callee := .builtin .append, args := #[s, x], argTypes := #[26, 26] }) (base : Nat) (v : Value) (xs : List Int) (hs : a.eval s = v) (hown : OwnI w base v xs) (B : Nat) (A : Option Addr) (m c : Nat) (news : List Int) (hx : a.eval x = .slice A m c)
    (hr : HasI w B A news) (hm : news.length = m) (hlen : xs.length + m ≤ 17592186044416) (hbase : base ≤ w.heap.size)
    (h : ∀ v' w', OwnI w' base v' (xs ++ news) → w.grownBy w' v.ownBlock → (v'.ownBlock = v.ownBlock ∨ v'.ownBlock = some w.heap.size) → K (a.put o.dst v') w') :
    if Region.wanted o (yielded ops a.tmps) = true then Oper.wp Try.prog o a w K Q else E := by
  rw [if_pos (by simp [Region.wanted, hgd])]
  obtain ⟨v', w', hrun, h2, h3, h4⟩ := run_append_ints w o.type base v xs hown B A m c news hr hm hlen hbase
  exact Lib.wp_append_run w s x 26 26 ho _ _ hs hx v' w' hrun (h v' w' h2 h3 h4)

section
variable {w w' : World} {base g : Nat} {wv mv dv : Value} {k : Lk}
/-- Where only the end's own block and its due numbers are turned, the rest stays. -/
theorem IsK.rest2 {F : Nat → Prop} (h : IsK w base g wv mv dv k) (hk : Kept F w w') (hF : ∀ j, F j → j = g ∨ dv.ownBlock = some j) :
    OwnR w' base 93 4 wv (k.ls.map Ltr.cells) ∧ (∀ l ∈ k.ls, Own w' base l.sl l.xs ∧ l.xs.length ≤ 65472) ∧ SetIs w' base k.cnt mv k.S := by
  have hL : ∀ j, F j → LBl g wv mv dv j := fun j hj => by
    rcases hF j hj with e | e
    · exact .inl e
    · exact .inr (.inr (.inr e))
  refine ⟨h.row.keep fun j hj => hk.block j (h.row.lt j hj).2 (fun hf => ?_), fun l hl => ⟨(h.dat l hl).1.keep fun j hj => hk.block j ((h.dat l hl).1.lt j hj).2 (fun hf => h.apart hl j hj (hL j hf)), (h.dat l hl).2⟩,
    h.set.keep fun j hj => hk.block j (h.set.lt j hj).2 (fun hf => ?_)⟩
  · obtain ⟨cur, hc⟩ := h.row.typed j hj
    rcases hF j hf with e | e
    · exact typed_ne hc h.blk (by decide) e
    · obtain ⟨cur', hc'⟩ := ownsRow_typed h.due j e
      exact typed_ne hc hc' (by decide) rfl
  · rcases hF j hf with e | e
    · rw [e] at hj
      exact h.set.block g hj _ _ _ h.blk
    · obtain ⟨cur, hc⟩ := ownsRow_typed h.due j e
      exact h.set.block j hj _ _ _ hc
end

theorem due_close {w1 w3 : World} {base g : Nat} {wv mv dv v3 : Value} {k : Lk} {num : Int} {ob : Obj} (h : IsK w1 base g wv mv dv k)
    (hgr : (w1.alloc ob).grownBy w3 dv.ownBlock) (ho3 : OwnI w3 base v3 (k.ds ++ [num])) (hl : k.ds.length < 4096) :
    IsK (w3.setCell ⟨g, 7, none⟩ v3) base g wv mv v3 { k with ds := k.ds ++ [num] } ∧ Kept (LBl g wv mv dv) w1 (w3.setCell ⟨g, 7, none⟩ v3) := by
  have hb : Below w1.heap.size w1 (w1.alloc ob) := (Below.refl _ _).alloc (Nat.le_refl _) ob
  have h2 := h.below hb
  have hkA := Kept.of_grown (F := fun j => dv.ownBlock = some j) hgr (fun j hj => hj)
  have hng : dv.ownBlock ≠ some g := fun e => by
    obtain ⟨cur, hc⟩ := ownsRow_typed h2.due g e
    exact typed_ne hc h2.blk (by decide) rfl
  have hg3 := (hkA.block g (lt_of_block h2.blk) hng).trans h2.blk
  have hk4 : Kept (fun j => j = g) w3 (w3.setCell ⟨g, 7, none⟩ v3) := (Kept.refl (fun j => j = g) w3).setCell (p := ⟨g, 7, none⟩) (.inl rfl) _
  have hkF : Kept (fun j => j = g ∨ dv.ownBlock = some j) (w1.alloc ob) (w3.setCell ⟨g, 7, none⟩ v3) := (hkA.weak (fun j hj => .inr hj)).step hk4 (fun j hj => .inl (.inl hj))
  obtain ⟨r1, r2, r3⟩ := h2.rest2 hkF (fun j hj => hj)
  refine ⟨⟨by rw [set_cell_at _ hg3]; rfl, h.bg, r1, r2, r3, ?_, h.len, by simp; omega⟩, (Kept.of_below hb).step hkF (fun j hj => .inl (by
    rcases hj with e | e
    · exact .inl e
    · exact .inr (.inr (.inr e))))⟩
  refine ⟨ho3.1, ?_⟩
  rcases ho3.2 with h5 | ⟨g', cap, cur, hv, hg, hh, r⟩
  · exact .inl h5
  · exact .inr ⟨g', cap, cur, hv, hg, (hk4.block g' (lt_of_block hh) (fun e => typed_ne hh hg3 (by decide) e)).trans hh, r⟩

/-- Where 'all' comes to is bounded by what bounds the set. -/
theorem RaiseP.le {k : Lk} {n a hi : Int} (h : RaiseP k n a) (h1 : k.all ≤ hi) (h2 : n ≤ hi) (hS : ∀ x, k.S x = true → x ≤ hi) : a ≤ hi := by
  rcases Int.lt_or_le (max k.all n) a with h3 | h3
  · exact hS a (h.2.1 a h3 (Int.le_refl _))
  · omega
end Go.Proofs.Ytpbfibofjkinmaa
