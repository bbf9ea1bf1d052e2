/-
  Frames from one end to the other (the law's move). Conditions: the numbers are in reach, no more than 4095 frames.
-/
import Derived.Test.YtpbfibofjkinmaaLinkU
set_option linter.unusedSimpArgs false
set_option linter.unusedVariables false
namespace Go.Proofs.Ytpbfibofjkinmaa
open Go.RowKit Go.Maps

/-- Frames that come in one after the other, and what comes out. -/
inductive MoveP (k : Lk) : List (List UInt8) → Lk → List (List UInt8) → Prop where
  | none : MoveP k [] k []
  | snoc {fs : List (List UInt8)} {k1 k2 : Lk} {os : List (List UInt8)} {f : List UInt8} {o : Option (List UInt8)} : MoveP k fs k1 os → InP k1 (rdF f) k2 o → MoveP k (fs ++ [f]) k2 (os ++ o.toList)
theorem MoveP.fit {k k' : Lk} {fs os : List (List UInt8)} (h : MoveP k fs k' os) (hf : Fit k) : Fit k' ∧ k'.cnt ≤ k.cnt + os.length ∧ os.length ≤ fs.length ∧ Like k k' := by
  induction h with
  | none => exact ⟨hf, by simp, by simp, Like.refl _⟩
  | snoc h1 h2 ih =>
    obtain ⟨i1, i2, i3, i4⟩ := ih
    obtain ⟨j1, j2, j3⟩ := i1.in_ h2
    refine ⟨j1, ?_, ?_, i4.trans j3⟩
    · rw [List.length_append]; omega
    · rw [List.length_append, List.length_append]
      rename_i o
      cases o <;> simp <;> omega

set_option maxHeartbeats 4000000 in
set_option maxRecDepth 20000 in
theorem lmove_any {w : World} {base g b1 b2 : Nat} {k : Lk} {F : Nat → Prop} (Af : Option Addr) (nf cf : Nat) (vg : Value) (ps gs : List Piece) (h : EK w base g k F) (hf : Fit k) (hfs : OwnF w b1 (.slice Af nf cf) ps) (hps : ∀ p ∈ ps, p.bs.length ≤ 140737488355328)
    (hgs : OwnF w b2 vg gs) (hb2 : b2 ≤ w.heap.size) (hne : ∀ j, vg.ownBlock = some j → (Value.slice Af nf cf).ownBlock ≠ some j) (hc : k.cnt + ps.length < 4096) (hgl : gs.length ≤ 1000000) :
    Calls Try.prog 45 #[.slice Af nf cf, .pointer (some ⟨g, 0, none⟩), vg] w fun e w' => ∃ v' gs' k' F' os, e = .returned v' ∧ OwnF w' b2 v' (gs ++ gs') ∧ gs'.map Piece.bs = os ∧ MoveP k (ps.map Piece.bs) k' os ∧ EK w' base g k' F' ∧ Kept (fun j => F j ∨ vg.ownBlock = some j) w w' ∧
      (∀ j, F' j → F j ∨ w.heap.size ≤ j) ∧ (v'.ownBlock = vg.ownBlock ∨ ∃ j, v'.ownBlock = some j ∧ w.heap.size ≤ j) := by
  obtain ⟨_, _, _, e', hn, hnc, _⟩ := hfs.form hps
  injection e' with e1 e2 e3
  subst e1 e2 e3
  have hnf : nf ≤ 4096 := by have := hn.out; omega
  have HFS := hide hfs
  have HPS := hide hps
  have HH := hide h
  have HF := hide hf
  have HNE := hide hne
  have HGS := hide hgs
  have HC := hide hc
  have hG : Hid (∀ (W : World), Kept (fun j => F j ∨ vg.ownBlock = some j) w W → OwnF W b1 (.slice Af nf cf) ps) := hide (fun W hk => ⟨hfs.row.keep fun q hq => by
      obtain ⟨cur, hc⟩ := ownsRow_typed hfs.row q hq
      refine hk.block q (lt_of_block hc) (fun e => ?_)
      rcases e with e | e
      · exact h.no q cur _ hc (.inl rfl) e
      · exact hne q e hq, fun p hp => (hfs.dat p hp).keep fun q hq => by
      obtain ⟨cur, hc⟩ := ownsRow_typed (hfs.dat p hp) q hq
      refine hk.block q (lt_of_block hc) (fun e => ?_)
      rcases e with e | e
      · exact h.no q cur _ hc (.inr rfl) e
      · obtain ⟨cur', hc'⟩ := ownsRow_typed hgs.row q e
        exact typed_ne hc hc' (by decide) rfl⟩)
  clear h hf hfs hps hgs hne hc
  go_enter Try.func45, Try.ntmps45
  go_wp2_with fail
  go_loopw [2, 14] (fun v2 i wr => ∃ (j : Nat) (gs' : List Piece) (kj : Lk) (Fj : Nat → Prop) (os : List (List UInt8)), j ≤ nf ∧ i = .int .i64 (j : Int) ∧ Hid (OwnF wr b2 v2 (gs ++ gs')) ∧ Hid (gs'.map Piece.bs = os) ∧ Hid (MoveP k ((ps.map Piece.bs).take j) kj os) ∧ Hid (EK wr base g kj Fj) ∧ Hid (Kept (fun q => F q ∨ vg.ownBlock = some q) w wr) ∧
      Hid (∀ q, Fj q → F q ∨ w.heap.size ≤ q) ∧ Hid (v2.ownBlock = vg.ownBlock ∨ ∃ q, v2.ownBlock = some q ∧ w.heap.size ≤ q)) (fun _ i _ => nf - (intOf i).toNat)
  case atStart => exact ⟨0, [], k, F, [], by omega, rfl, hide (by rw [List.append_nil]; exact HGS.out), rfl, hide (by rw [List.take_zero]; exact .none), HH, hide (Kept.refl _ _), hide (fun q hq => .inl hq), hide (.inl rfl)⟩
  case round =>
    obtain ⟨j, gs', kj, Fj, os, hj, rfl, hO, hos, hM, hE, hK, hFr, hV⟩ := hrel
    by_cases hlt : j < nf
    · have hjl : j < ps.length := by rw [hn.out]; exact hlt
      obtain ⟨_, _, _, e', _, _, hP⟩ := (hG.out _ hK.out).form HPS.out
      injection e' with e1 e2 e3
      subst e1 e2 e3
      obtain ⟨⟨b, o, rfl, hbb, hcell⟩, hx, hxn, hxl⟩ := hP j hjl
      have htk : (ps.map Piece.bs).take (j + 1) = (ps.map Piece.bs).take j ++ [ps[j].bs] := by
        rw [List.take_succ_eq_append_getElem (by simpa using hjl)]
        simp
      obtain ⟨m1, m2, m3, m4⟩ := hM.out.fit HF.out
      have hosl : os.length ≤ j := by rw [List.length_take] at m3; omega
      have hgsl : gs'.length ≤ j := by
        have := congrArg List.length hos.out
        simp at this
        omega
      have hin := ein ps[j].spot ps[j].len ps[j].cap wr.heap.size ps[j].bs hE.out m1 hx (Nat.le_refl _) hxn hxl (by have := HC.out; have := hn.out; omega)
      have hvv : ps[j].val = .slice ps[j].spot ps[j].len ps[j].cap := rfl
      rw [hvv] at hcell
      generalize ps[j] = p at *
      obtain ⟨pA, pn, pc, pb⟩ := p
      simp only at hcell hin htk
      have HTK := hide htk
      have hjn : (j : Int) < (nf : Int) := by omega
      clear hx hxn hxl hP hjl htk m1 m2 m3 m4 hvv
      go_wp2_with fail
      refine hin.mono ?_
      rintro e w2 ⟨k2, oo, v, F2, rfl, ho2, hp2, hE2, hk2, hf2⟩
      have hM2 : MoveP k ((ps.map Piece.bs).take (j + 1)) k2 (os ++ oo.toList) := by rw [HTK.out]; exact hM.out.snoc hp2
      have hO2 := hE.out.ownF hO.out hk2
      have hzr := hK.out.size
      have hK2 : Kept (fun q => F q ∨ vg.ownBlock = some q) w w2 := hK.out.step hk2 (fun q hq => (hFr.out q hq).elim (fun e => .inl (.inl e)) .inr)
      have hFr2 : ∀ q, F2 q → F q ∨ w.heap.size ≤ q := fun q hq => (hf2 q hq).elim (fun e => hFr.out q e) (fun e => .inr (by omega))
      have HM2 := hide hM2
      have HO2 := hide hO2
      have HK2 := hide hK2
      have HFR2 := hide hFr2
      have HE2 := hide hE2
      have HOO := hide ho2
      have hz2 : w.heap.size ≤ w2.heap.size := hK2.size
      have hzr2 : wr.heap.size ≤ w2.heap.size := hk2.size
      clear hin hp2 hE2 hk2 hf2 hM2 hO2 hK2 hFr2 ho2 hM hO hE hK hFr hcell hG
      cases oo with
      | none =>
        simp only [outB, Option.isSome_none, Option.toList_none, List.append_nil] at HM2 ⊢
        go_wp2_with fail
        go_roundw
        case rel => exact ⟨j + 1, gs', k2, F2, os, by omega, by go_num, HO2, hos, HM2, HE2, HK2, HFR2, hV⟩
        case measure => simp [intOf]; omega
      | some xs =>
        simp only [outB, Option.isSome_some, Option.toList_some, outX, Option.getD_some] at HM2 HOO ⊢
        obtain ⟨A2, n2, c2, rfl, _, _, _, _⟩ := HOO.out.form
        have hb3 : Below w2.heap.size w2 (w2.alloc (.cells #[.slice A2 n2 c2] 32)) := (Below.refl _ _).alloc (Nat.le_refl _) _
        have HO3 := hide (HO2.out.below hb3)
        have HK3 := hide (HK2.out.step (Kept.of_below (F := fun _ => False) hb3) (fun q hq => hq.elim))
        have HQ3 := hide ((HOO.out.alloc (.cells #[.slice A2 n2 c2] 32)).from_ (show b2 ≤ wr.heap.size by omega))
        have HE3 := hide (HE2.out.below hb3)
        have hps : (gs ++ gs').length + 1 ≤ 1099511627776 := by rw [List.length_append]; omega
        have HPL := hide hps
        clear hps hb3 HO2 HK2 HE2
        go_wp2_with (at_builtin; refine list_append_piece _ rfl (.tmp 26) (.tmp 28) rfl b2 _ (gs ++ gs') rfl HO3.out.row ⟨w2.heap.size, 0, none⟩ 1 ⟨A2, n2, c2, xs⟩ rfl (by simp [Piece.val]) HPL.out (by simp; omega) ?_; intro v4 w4 ho4 hg4 hat4)
        have HO4 := hide (HO3.out.app (p := ⟨A2, n2, c2, xs⟩) HQ3.out ho4 hg4)
        have hk4 := Kept.of_grown (F := fun q => u2.ownBlock = some q) hg4 (fun q hq => hq)
        have HE4 : Hid (EK w4 base g k2 F2) := hide (HE3.out.kept hk4 (fun q hq e => by
          obtain ⟨cur, hc⟩ := ownsRow_typed HO3.out.row q e
          exact HE3.out.no q cur _ hc (.inl rfl) hq) (fun q cur hc e => by
          obtain ⟨cur', hc'⟩ := ownsRow_typed HO3.out.row q e
          exact typed_ne hc hc' (by decide) rfl))
        have HK4 := hide (HK3.out.step hk4 (fun q hq => by
          rcases hV.out with e | ⟨q', e, hle⟩
          · rw [e] at hq; exact .inl (.inr hq)
          · rw [e] at hq; injection hq with hq; subst hq; exact .inr hle))
        have HV4 : Hid (v4.ownBlock = vg.ownBlock ∨ ∃ q, v4.ownBlock = some q ∧ w.heap.size ≤ q) := hide (by
          rcases hat4 with e | e
          · rw [e]; exact hV.out
          · exact .inr ⟨_, e, by simp; omega⟩)
        have HOS : Hid ((gs' ++ [(⟨A2, n2, c2, xs⟩ : Piece)]).map Piece.bs = os ++ [xs]) := hide (by rw [List.map_append, hos.out]; rfl)
        rw [List.append_assoc] at HO4
        clear ho4 hg4 hat4 hk4 HO3 HK3 HE3
        go_roundw
        case rel => exact ⟨j + 1, _, k2, F2, _, by omega, by go_num, HO4, HOS, HM2, HE4, HK4, HFR2, HV4⟩
        case measure => simp [intOf]; omega
    · obtain rfl : nf = j := by omega
      have hM9 := hM.out
      rw [List.take_of_length_le (by have := hn.out; simp; omega)] at hM9
      have HM9 := hide hM9
      clear hM9 hM
      go_wp2_with fail
      go_ret
      exact ⟨_, gs', kj, Fj, os, rfl, hO.out, hos.out, HM9.out, hE.out, hK.out, hFr.out, hV.out⟩
end Go.Proofs.Ytpbfibofjkinmaa
