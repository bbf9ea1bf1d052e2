/-
  What frames say; frames that come in order; two ends in memory. No condition but the numbers' reach.
-/
import Derived.Test.YtpbfibofjkinmaaLinkV
set_option linter.unusedSimpArgs false
set_option linter.unusedVariables false
namespace Go.Proofs.Ytpbfibofjkinmaa
open Go.RowKit Go.Maps

theorem m40_nat : M40.toNat = 1099511627776 := rfl
theorem rdF_rec (lf nm : Nat) (h1 : lf ≤ 1099511627776) (h2 : nm ≤ 1099511627776) : rdF (frB 2 lf nm 0 []) = ⟨2, lf, nm, 0, [], ([], 0)⟩ := by
  have hm := m40_nat
  have e0 : frB 2 lf nm 0 [] = enc 2 ++ (enc lf ++ (enc nm ++ [])) := by
    unfold frB
    rw [if_neg (by omega), List.append_nil, List.append_assoc]
  have r0 := rc_enc (u := 2) (most := 2) (by decide) (by decide) (enc lf ++ (enc nm ++ []))
  have r1 := rc_enc (u := lf) (most := M40) (by omega) (by omega) (enc nm ++ [])
  have r2 := rc_enc (u := nm) (most := M40) (by omega) (by omega) []
  have e3 : rd3 (frB 2 lf nm 0 []) = ⟨2, lf, nm, 0, [], ([], 0)⟩ := by
    unfold rd3
    rw [e0, r0]
    simp only [r1, r2]
  unfold rdF rd5
  rw [e3]
  rfl
theorem rt_enc (most : Int) (xs r : List UInt8) (h : xs.length ≤ most.toNat) (hm : most.toNat < 18446744073709551616) : rt most (enc xs.length ++ (xs ++ r), 0) = (xs, (r, 0)) := by
  have r0 := rc_enc (u := xs.length) (most := most) h hm (xs ++ r)
  unfold rt
  rw [r0]
  simp
theorem rdF_car (lf nm od : Nat) (xs : List UInt8) (h1 : lf ≤ 1099511627776) (h2 : nm ≤ 1099511627776) (h3 : od ≤ 1099511627776) (h4 : xs.length ≤ 65536) : rdF (frB 1 lf nm od xs) = ⟨1, lf, nm, od, xs, ([], 0)⟩ := by
  have hm := m40_nat
  have e0 : frB 1 lf nm od xs = enc 1 ++ (enc lf ++ (enc nm ++ (enc od ++ (enc xs.length ++ (xs ++ []))))) := by
    unfold frB
    rw [if_pos rfl, List.append_nil]
    simp only [List.append_assoc]
  have r0 := rc_enc (u := 1) (most := 2) (by decide) (by decide) (enc lf ++ (enc nm ++ (enc od ++ (enc xs.length ++ (xs ++ [])))))
  have r1 := rc_enc (u := lf) (most := M40) (by omega) (by omega) (enc nm ++ (enc od ++ (enc xs.length ++ (xs ++ []))))
  have r2 := rc_enc (u := nm) (most := M40) (by omega) (by omega) (enc od ++ (enc xs.length ++ (xs ++ [])))
  have r3 := rc_enc (u := od) (most := M40) (by omega) (by omega) (enc xs.length ++ (xs ++ []))
  have r4 := rt_enc 65536 xs [] (by have : (65536 : Int).toNat = 65536 := rfl; omega) (by have : (65536 : Int).toNat = 65536 := rfl; omega)
  have e3 : rd3 (frB 1 lf nm od xs) = ⟨1, lf, nm, 0, [], (enc od ++ (enc xs.length ++ (xs ++ [])), 0)⟩ := by
    unfold rd3
    rw [e0, r0]
    simp only [r1, r2]
  unfold rdF rd5
  rw [e3]
  simp only [if_true, r3]
  rw [r4]
theorem err_rec (lf nm : Nat) (h1 : 0 < lf) (h2 : 0 < nm) : (⟨2, lf, nm, 0, [], ([], 0)⟩ : RdF).err = 0 := by
  have e1 : ((lf : Int) == 0) = false := by simp; omega
  have e2 : ((nm : Int) == 0) = false := by simp; omega
  simp [RdF.err, dn, rightF, e1, e2]
theorem err_car (lf nm od : Nat) (xs : List UInt8) (h1 : 0 < lf) (h2 : 0 < nm) (h3 : 0 < od) (h4 : od ≤ nm) : (⟨1, lf, nm, od, xs, ([], 0)⟩ : RdF).err = 0 := by
  have e1 : ((lf : Int) == 0) = false := by simp; omega
  have e2 : ((nm : Int) == 0) = false := by simp; omega
  simp [RdF.err, dn, rightF, e1, e2]
  omega

/-- A letter that comes next in order, nothing above it. -/
theorem take_next {k k' : Lk} {lf nm od : Int} {fr : Bool} (h : TakeP k lf nm od fr k') (hl : ¬ lf < k.pl) (hS : ∀ x, (k.born lf).S x = false) (hn : nm = max (k.born lf).all (od - 1) + 1) :
    fr = true ∧ k' = { k.born lf with all := nm, S := fun _ => false, ds := ((k.born lf).owe nm).ds, cnt := (k.born lf).cnt + 1 } := by
  rcases h with ⟨h1, _⟩ | ⟨_, a, k1, hr, rfl, hc⟩
  · exact absurd h1 hl
  · generalize k.born lf = kb at *
    have ha := hr.of_empty (fun x _ => hS x)
    have eS : (fun x => kb.S x && decide (a < x)) = fun _ => false := by funext x; rw [hS x]; rfl
    rw [eS] at hc
    rcases hc with ⟨h64, _⟩ | ⟨_, ⟨hcm, _⟩ | ⟨_, rfl, a', hr', rfl⟩⟩
    · omega
    · exfalso
      unfold Lk.come at hcm
      simp at hcm
      omega
    · refine ⟨rfl, ?_⟩
      have hS2 : ∀ x, ((({ kb with all := a, S := fun _ => false } : Lk).owe nm).plus nm).S x = decide (x = nm) := fun x => by
        unfold Lk.owe Lk.plus
        split <;> simp
      have hA2 : ((({ kb with all := a, S := fun _ => false } : Lk).owe nm).plus nm).all = a := by
        unfold Lk.owe Lk.plus
        split <;> rfl
      have ea : a' = nm := by
        have h1 := hr'.1
        have h2 := hr'.2.1 a'
        have h3 := hr'.2.2
        rw [hA2] at h1 h2
        rw [hS2] at h3
        have h3' := of_decide_eq_false h3
        rcases Int.lt_or_le (max a a) a' with h4 | h4
        · have h5 := h2 h4 (Int.le_refl _)
          rw [hS2] at h5
          exact of_decide_eq_true h5
        · omega
      subst ea
      have eS2 : (fun x => ((({ kb with all := a, S := fun _ => false } : Lk).owe a').plus a').S x && decide (a' < x)) = fun _ => false := by
        funext x
        rw [hS2]
        by_cases hx : x = a' <;> simp [hx]
      rw [eS2]
      unfold Lk.owe Lk.plus
      split <;> rfl
/-- A letter that has come already. -/
theorem take_again {k k' : Lk} {lf nm od : Int} {fr : Bool} (h : TakeP k lf nm od fr k') (hl : ¬ lf < k.pl) (hS : ∀ x, (k.born lf).S x = false) (hn : nm ≤ max (k.born lf).all (od - 1)) :
    fr = false ∧ k' = { k.born lf with all := max (k.born lf).all (od - 1), S := fun _ => false, ds := ((k.born lf).owe nm).ds } := by
  rcases h with ⟨h1, _⟩ | ⟨_, a, k1, hr, rfl, hc⟩
  · exact absurd h1 hl
  · generalize k.born lf = kb at *
    have ha := hr.of_empty (fun x _ => hS x)
    have eS : (fun x => kb.S x && decide (a < x)) = fun _ => false := by funext x; rw [hS x]; rfl
    rw [eS] at hc
    rcases hc with ⟨h64, _⟩ | ⟨_, ⟨hcm, rfl, rfl⟩ | ⟨hcm, _⟩⟩
    · omega
    · refine ⟨rfl, ?_⟩
      subst ha
      unfold Lk.owe
      split <;> rfl
    · exfalso
      unfold Lk.come at hcm
      simp at hcm
      omega

/-- Two ends in memory that share nothing. -/
structure Duo (w W : World) (ga gb : Nat) (ka kb : Lk) (Fa Fb : Nat → Prop) : Prop where
  a : EK W w.heap.size ga ka Fa
  b : EK W w.heap.size gb kb Fb
  dis : ∀ j, Fa j → ¬ Fb j
  bel : Below w.heap.size w W
section
variable {w W w' : World} {ga gb : Nat} {ka kb ka' kb' : Lk} {Fa Fb Fa' Fb' : Nat → Prop}
theorem Duo.swap (h : Duo w W ga gb ka kb Fa Fb) : Duo w W gb ga kb ka Fb Fa := ⟨h.b, h.a, fun j hb ha => h.dis j ha hb, h.bel⟩
theorem Duo.below (h : Duo w W ga gb ka kb Fa Fb) (hb : Below W.heap.size W w') : Duo w w' ga gb ka kb Fa Fb := ⟨h.a.below hb, h.b.below hb, h.dis, h.bel.trans (hb.mono h.bel.size)⟩
theorem Duo.stepG (h : Duo w W ga gb ka kb Fa Fb) {b2 : Nat} {vg : Value} {gs : List Piece} (hg : OwnF W b2 vg gs) (hb2 : w.heap.size ≤ b2) (hE : EK w' w.heap.size ga ka' Fa') (hk : Kept (fun j => Fa j ∨ vg.ownBlock = some j) W w')
    (hfr : ∀ j, Fa' j → Fa j ∨ W.heap.size ≤ j) : Duo w w' ga gb ka' kb Fa' Fb := by
  refine ⟨hE, h.b.kept hk (fun j hj e => ?_) (fun j cur hc e => ?_), fun j ha hb => ?_, h.bel.trans (hk.below h.bel.size (fun j hj => ?_))⟩
  · rcases e with e | e
    · exact h.dis j e hj
    · obtain ⟨cur, hc⟩ := ownsRow_typed hg.row j e
      exact h.b.no j cur _ hc (.inl rfl) hj
  · rcases e with e | e
    · exact h.a.no j cur _ hc (.inr rfl) e
    · obtain ⟨cur', hc'⟩ := ownsRow_typed hg.row j e
      exact typed_ne hc hc' (by decide) rfl
  · rcases hfr j ha with e | e
    · exact h.dis j e hb
    · have := (h.b.lt j hb).2
      omega
  · rcases hj with e | e
    · exact (h.a.lt j e).1
    · exact Nat.le_trans hb2 (hg.row.lt j e).1
theorem Duo.step (h : Duo w W ga gb ka kb Fa Fb) (hE : EK w' w.heap.size ga ka' Fa') (hk : Kept Fa W w') (hfr : ∀ j, Fa' j → Fa j ∨ W.heap.size ≤ j) : Duo w w' ga gb ka' kb Fa' Fb :=
  h.stepG (b2 := w.heap.size) (vg := .slice none 0 0) (gs := []) (OwnF.nil _ _) (Nat.le_refl _) hE (hk.weak (fun j hj => .inl hj)) hfr
end
end Go.Proofs.Ytpbfibofjkinmaa
