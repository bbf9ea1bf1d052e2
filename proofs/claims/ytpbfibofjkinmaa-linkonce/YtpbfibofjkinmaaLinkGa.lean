/-
  LinkLives as plain mathematics; three ends in memory. No condition.
-/
import Derived.Test.YtpbfibofjkinmaaLinkFb
set_option linter.unusedSimpArgs false
set_option linter.unusedVariables false
namespace Go.Proofs.Ytpbfibofjkinmaa
open Go.RowKit Go.Maps

theorem OwnF.len {w : World} {base : Nat} {v : Value} {ps : List Piece} (h : OwnF w base v ps) : ∃ A c, v = .slice A ps.length c := by
  rcases h.row.2 with ⟨hv, hn⟩ | ⟨g, cap, cur, hv, _⟩
  · exact ⟨none, 0, by rw [hv, hn]⟩
  · exact ⟨_, cap, hv⟩
theorem ss_send_any {k k' : Lk} {lf : Int} {lo n : Nat} {xs : List UInt8} (h : SS k lf lo n) (hs : SendP k xs k') (hn : n < 32) : (sendE k xs.length = 0 ∧ SS k' lf lo (n + 1)) ∨ (sendE k xs.length ≠ 0 ∧ k' = k) := by
  by_cases he : sendE k xs.length = 0
  · refine .inl ⟨he, h.send hs hn ?_⟩
    unfold sendE at he
    by_cases h6 : xs.length ≤ 65472
    · exact h6
    · rw [if_neg h6] at he; omega
  · exact .inr ⟨he, hs.1 he⟩
/-- What is carried of letters in a row. -/
theorem SS.carry {k : Lk} {lf lo n : Nat} (h : SS k lf lo n) (hd : ∀ l ∈ k.ls, l.xs.length ≤ 65472) (now : Int) {f : List UInt8} (hf : f ∈ k.recs ++ k.carries now) :
    ∃ (nm : Nat) (xs : List UInt8), lo < nm ∧ nm ≤ lo + n ∧ xs.length ≤ 65472 ∧ f = frB 1 lf nm (lo + 1) xs := by
  have e2 : k.recs = [] := by unfold Lk.recs; rw [h.ds]; rfl
  rw [e2, List.nil_append] at hf
  obtain ⟨l, hl, rfl⟩ := List.mem_map.1 hf
  have hl' := (List.mem_filter.1 hl).1
  have hm : l.num ∈ nums lo n := by rw [← h.num]; exact List.mem_map_of_mem hl'
  have := nums_mem hm
  refine ⟨l.num.toNat, l.xs, by omega, by omega, hd l hl', ?_⟩
  have e3 : k.car l = frB 1 lf l.num.toNat (lo + 1) l.xs := by
    unfold Lk.car
    rw [h.old, h.life]
    rfl
  exact e3
theorem carries_le (k : Lk) (now : Int) : (k.carries now).length ≤ k.ls.length := by
  unfold Lk.carries
  rw [List.length_map]
  exact List.length_filter_le _ _
theorem SS.all_le {k : Lk} {lf : Int} {lo n : Nat} (h : SS k lf lo n) (now : Int) : (k.recs ++ k.carries now).length ≤ n := by
  have e2 : k.recs = [] := by unfold Lk.recs; rw [h.ds]; rfl
  rw [e2, List.nil_append, ← h.len]
  exact carries_le k now
theorem pieces_le {k : Lk} {lf lo n : Nat} (h : SS k lf lo n) (hd : ∀ l ∈ k.ls, l.xs.length ≤ 65472) (now : Int) {ps : List Piece} (hp : ps.map Piece.bs = k.recs ++ k.carries now) : ∀ p ∈ ps, p.bs.length ≤ 140737488355328 := fun p hp' => by
  obtain ⟨nm, xs, _, _, h3, h4⟩ := h.carry hd now (f := p.bs) (by rw [← hp]; exact List.mem_map_of_mem hp')
  rw [h4]
  exact frB_len _ _ _ _ _ (by omega)
/-- Frames of an older life do nothing. -/
theorem MoveP.older {k k' : Lk} {fs os : List (List UInt8)} (h : MoveP k fs k' os) (lf : Nat) (h1 : 0 < lf ∧ lf ≤ 1099511627776) (hl : (lf : Int) < k.pl)
    (hfs : ∀ f ∈ fs, ∃ (nm od : Nat) (xs : List UInt8), 0 < od ∧ od ≤ nm ∧ nm ≤ 1099511627776 ∧ xs.length ≤ 65472 ∧ f = frB 1 lf nm od xs) : k' = k ∧ os = [] := by
  induction h with
  | none => exact ⟨rfl, rfl⟩
  | snoc h2 h3 ih =>
    obtain ⟨rfl, rfl⟩ := ih (fun f hf => hfs f (by simp [hf]))
    obtain ⟨nm, od, xs, q1, q2, q3, q4, rfl⟩ := hfs _ (List.mem_append_right _ (List.mem_singleton_self _))
    rw [rdF_car lf nm od xs h1.2 q3 (by omega) (by omega)] at h3
    obtain ⟨fr, ht, rfl⟩ := h3.car h1.1 (by omega) q1 q2
    rcases ht with ⟨_, rfl, rfl⟩ | ⟨h5, _⟩
    · exact ⟨rfl, rfl⟩
    · exact absurd hl h5
/-- Frames that have come already bring nothing. -/
theorem MoveP.again {k k' : Lk} {fs os : List (List UInt8)} (h : MoveP k fs k' os) (lf m : Nat) (h1 : 0 < lf ∧ lf ≤ 1099511627776) (hl : k.pl = (lf : Int)) (ha : k.all = (m : Int)) (hS : ∀ x, k.S x = false)
    (hfs : ∀ f ∈ fs, ∃ (nm od : Nat) (xs : List UInt8), 0 < od ∧ od ≤ nm ∧ nm ≤ m ∧ m ≤ 1099511627776 ∧ xs.length ≤ 65472 ∧ f = frB 1 lf nm od xs) : k'.pl = (lf : Int) ∧ k'.all = (m : Int) ∧ (∀ x, k'.S x = false) ∧ os = [] := by
  induction h with
  | none => exact ⟨hl, ha, hS, rfl⟩
  | snoc h2 h3 ih =>
    rename_i fs k1 k2 os f o
    obtain ⟨i1, i2, i3, rfl⟩ := ih (fun f hf => hfs f (by simp [hf]))
    obtain ⟨nm, od, xs, q1, q2, q3, q5, q4, rfl⟩ := hfs _ (List.mem_append_right _ (List.mem_singleton_self _))
    rw [rdF_car lf nm od xs h1.2 (by omega) (by omega) (by omega)] at h3
    obtain ⟨fr, ht, rfl⟩ := h3.car h1.1 (by omega) q1 q2
    have eb : k1.born (lf : Int) = k1 := by unfold Lk.born; rw [if_pos (by omega)]
    obtain ⟨rfl, rfl⟩ := take_again ht (by omega) (fun x => by rw [eb]; exact i3 x) (by rw [eb, i2]; omega)
    rw [eb]
    refine ⟨i1, ?_, fun _ => rfl, rfl⟩
    show max k1.all _ = _
    rw [i2]
    omega

/-- Three ends in memory that share nothing. -/
structure Trio (w W : World) (ga gb gc : Nat) (ka kb kc : Lk) (Fa Fb Fc : Nat → Prop) : Prop where
  a : EK W w.heap.size ga ka Fa
  b : EK W w.heap.size gb kb Fb
  c : EK W w.heap.size gc kc Fc
  ab : ∀ j, Fa j → ¬ Fb j
  ac : ∀ j, Fa j → ¬ Fc j
  bc : ∀ j, Fb j → ¬ Fc j
  bel : Below w.heap.size w W
section
variable {w W w' : World} {ga gb gc : Nat} {ka kb kc ka' : Lk} {Fa Fb Fc Fa' : Nat → Prop}
theorem Trio.rot (h : Trio w W ga gb gc ka kb kc Fa Fb Fc) : Trio w W gb gc ga kb kc ka Fb Fc Fa := ⟨h.b, h.c, h.a, h.bc, fun j hb ha => h.ab j ha hb, fun j hc ha => h.ac j ha hc, h.bel⟩
theorem Trio.below (h : Trio w W ga gb gc ka kb kc Fa Fb Fc) (hb : Below W.heap.size W w') : Trio w w' ga gb gc ka kb kc Fa Fb Fc := ⟨h.a.below hb, h.b.below hb, h.c.below hb, h.ab, h.ac, h.bc, h.bel.trans (hb.mono h.bel.size)⟩
theorem Trio.step (h : Trio w W ga gb gc ka kb kc Fa Fb Fc) (hE : EK w' w.heap.size ga ka' Fa') (hk : Kept Fa W w') (hfr : ∀ j, Fa' j → Fa j ∨ W.heap.size ≤ j) : Trio w w' ga gb gc ka' kb kc Fa' Fb Fc := by
  have d1 : Duo w W ga gb ka kb Fa Fb := ⟨h.a, h.b, h.ab, h.bel⟩
  have d2 : Duo w W ga gc ka kc Fa Fc := ⟨h.a, h.c, h.ac, h.bel⟩
  have s1 := d1.step hE hk hfr
  have s2 := d2.step hE hk hfr
  exact ⟨s1.a, s1.b, s2.b, s1.dis, s2.dis, h.bc, s1.bel⟩
theorem Trio.stepN (h : Trio w W ga gb gc ka kb kc Fa Fb Fc) (hE : EK w' w.heap.size ga ka' Fa') (hk : Kept (fun j => Fa j ∨ (Value.slice none 0 0).ownBlock = some j) W w') (hfr : ∀ j, Fa' j → Fa j ∨ W.heap.size ≤ j) : Trio w w' ga gb gc ka' kb kc Fa' Fb Fc :=
  h.step hE (hk.weak (fun j hj => hj.elim id (fun e => by cases e))) hfr
end
end Go.Proofs.Ytpbfibofjkinmaa
