/-
  Slices of texts that lie apart; what LinkOnce knows of both ends. No condition.
-/
import Derived.Test.YtpbfibofjkinmaaLinkIb
set_option linter.unusedSimpArgs false
set_option linter.unusedVariables false
namespace Go.Proofs.Ytpbfibofjkinmaa
open Go.RowKit Go.Maps

/-- Two slices lie in two blocks. -/
def Apt (u v : Value) : Prop := ∀ q, u.ownBlock = some q → v.ownBlock ≠ some q
theorem Apt.symm {u v : Value} (h : Apt u v) : Apt v u := fun q h1 h2 => h q h2 h1
abbrev Sl := Value × List Piece
structure SL (w : World) (b : Nat) (L : List Sl) : Prop where
  own : ∀ x ∈ L, OwnF w b x.1 x.2
  apt : L.Pairwise (fun x y => Apt x.1 y.1)
theorem SL.kept {F : Nat → Prop} {w w' : World} {b : Nat} {L : List Sl} (h : SL w b L) (hk : Kept F w w') (hF : ∀ j cur t, w.heap[j]? = some (.cells cur t (0, 0)) → t = 32 ∨ t = 5 → ¬ F j) : SL w' b L :=
  ⟨fun x hx => (h.own x hx).kept hk hF, h.apt⟩
theorem SL.below {w w' : World} {b : Nat} {L : List Sl} (h : SL w b L) (hb : Below w.heap.size w w') : SL w' b L := ⟨fun x hx => (h.own x hx).below hb, h.apt⟩
theorem SL.sub {w : World} {b : Nat} {L M : List Sl} (h : SL w b L) (hs : M.Sublist L) : SL w b M := ⟨fun x hx => h.own x (hs.mem hx), h.apt.sublist hs⟩
theorem SL.push {w w' : World} {b : Nat} {L : List Sl} (h : SL w b L) (hb : Below w.heap.size w w') {v : Value} {ps : List Piece} (ho : OwnF w' b v ps) (hf : ∀ q, v.ownBlock = some q → w.heap.size ≤ q) : SL w' b ((v, ps) :: L) := by
  refine ⟨fun x hx => ?_, List.pairwise_cons.2 ⟨fun x hx q h1 h2 => ?_, h.apt⟩⟩
  · rcases List.mem_cons.1 hx with rfl | hx
    · exact ho
    · exact (h.own x hx).below hb
  · have := ((h.own x hx).row.lt q h2).2
    have := hf q h1
    omega
/-- One of them is turned, in its own block or anew; besides, what holds no texts. -/
theorem SL.upd {F : Nat → Prop} {w w' : World} {b : Nat} {L1 L2 : List Sl} {v v' : Value} {ps ps' : List Piece} (h : SL w b (L1 ++ (v, ps) :: L2)) (hk : Kept (fun j => F j ∨ v.ownBlock = some j) w w')
    (hF : ∀ j cur t, w.heap[j]? = some (.cells cur t (0, 0)) → t = 32 ∨ t = 5 → ¬ F j) (ho : OwnF w' b v' ps') (hv : v'.ownBlock = v.ownBlock ∨ ∃ j, v'.ownBlock = some j ∧ w.heap.size ≤ j) : SL w' b (L1 ++ (v', ps') :: L2) := by
  have hap := h.apt
  rw [List.pairwise_append, List.pairwise_cons] at hap
  obtain ⟨p1, ⟨p2, p3⟩, p4⟩ := hap
  have hvo := h.own (v, ps) (by simp)
  have key : ∀ x : Sl, OwnF w b x.1 x.2 → Apt v x.1 → OwnF w' b x.1 x.2 ∧ Apt v' x.1 := fun x hx hap => by
    refine ⟨⟨hx.row.keep fun g hg => ?_, fun p hp => (hx.dat p hp).keep fun g hg => ?_⟩, fun q h1 h2 => ?_⟩
    · obtain ⟨cur, hc⟩ := ownsRow_typed hx.row g hg
      refine hk.block g (lt_of_block hc) (fun e => ?_)
      rcases e with e | e
      · exact hF g cur _ hc (.inl rfl) e
      · exact hap g e hg
    · obtain ⟨cur, hc⟩ := ownsRow_typed (hx.dat p hp) g hg
      refine hk.block g (lt_of_block hc) (fun e => ?_)
      rcases e with e | e
      · exact hF g cur _ hc (.inr rfl) e
      · obtain ⟨cur', hc'⟩ := ownsRow_typed hvo.row g e
        exact typed_ne hc hc' (by decide) rfl
    · rcases hv with e | ⟨j, e, hj⟩
      · rw [e] at h1; exact hap q h1 h2
      · rw [e] at h1
        injection h1 with h1
        subst h1
        have := (hx.row.lt _ h2).2
        omega
  refine ⟨fun x hx => ?_, ?_⟩
  · rcases List.mem_append.1 hx with q | q
    · exact (key x (h.own x (by simp [q])) (p4 x q (v, ps) (by simp)).symm).1
    · rcases List.mem_cons.1 q with rfl | q
      · exact ho
      · exact (key x (h.own x (by simp [q])) (p2 x q)).1
  · rw [List.pairwise_append, List.pairwise_cons]
    refine ⟨p1, ⟨fun x hx => (key x (h.own x (by simp [hx])) (p2 x hx)).2, p3⟩, fun x hx y hy => ?_⟩
    rcases List.mem_cons.1 hy with rfl | hy
    · exact (key x (h.own x (by simp [hx])) (p4 x hx (v, ps) (by simp)).symm).2.symm
    · exact p4 x hx y (by simp [hy])
theorem SL.app {w w' : World} {b : Nat} {L1 L2 : List Sl} {v v' : Value} {ps ps' : List Piece} (h : SL w b (L1 ++ (v, ps) :: L2)) (hg : w.grownBy w' v.ownBlock) (ho : OwnF w' b v' ps') (hat : v'.ownBlock = v.ownBlock ∨ v'.ownBlock = some w.heap.size) : SL w' b (L1 ++ (v', ps') :: L2) :=
  h.upd (F := fun _ => False) (Kept.of_grown (F := fun j => False ∨ v.ownBlock = some j) hg (fun j hj => .inr hj)) (fun _ _ _ _ _ hf => hf) ho (hat.elim .inl (fun e => .inr ⟨_, e, Nat.le_refl _⟩))

/-- What both ends and all that was taken have in common. -/
structure PU (ka kb : Lk) (T : Txts) (D : List Nat) : Prop where
  a : AI ka T D
  b : BI kb T.length D
  nd : D.Nodup
  dn : ∀ n ∈ D, 1 ≤ n ∧ n ≤ T.length
  tl : ∀ x ∈ T, x.length ≤ 65472
  fa : Fit ka
  fb : Fit kb
  at_ : ∀ l ∈ ka.ls, l.sent = false ∨ (0 ≤ l.at_ ∧ l.at_ ≤ 59)
theorem PU.dlen {ka kb : Lk} {T : Txts} {D : List Nat} (h : PU ka kb T D) : D.length ≤ T.length := by
  have := nodup_le (l2 := List.range' 1 T.length) h.nd (fun n hn => by
    have := h.dn n hn
    rw [List.mem_range'_1]
    omega)
  simpa using this
theorem PU.send {ka kb k' : Lk} {T : Txts} {D : List Nat} {d : List UInt8} (h : PU ka kb T D) (hs : SendP ka d k') (hT : T.length ≤ 1000) :
    (sendE ka d.length = 0 ∧ d.length ≤ 65472 ∧ PU k' kb (T ++ [d]) D) ∨ ((sendE ka d.length = 64 ∨ sendE ka d.length = 12) ∧ k' = ka) := by
  have hE : sendE ka d.length = 0 ∨ sendE ka d.length = 64 ∨ sendE ka d.length = 12 := by
    unfold sendE
    split
    · split <;> simp
    · simp
  by_cases he : sendE ka d.length = 0
  · have hd : d.length ≤ 65472 := by
      unfold sendE at he
      by_cases h6 : d.length ≤ 65472
      · exact h6
      · rw [if_neg h6] at he; omega
    have hl := h.a.last
    refine .inl ⟨he, hd, ⟨h.a.send hs he, h.b.more (by simp), h.nd, fun n hn => by have := h.dn n hn; simp; omega, fun x hx => ?_, h.fa.send hs (by omega), h.fb, fun l hl' => ?_⟩⟩
    · rcases List.mem_append.1 hx with q | q
      · exact h.tl x q
      · simp at q; rw [q]; exact hd
    · obtain ⟨A, n, c, rfl⟩ := hs.2 he
      rcases List.mem_append.1 hl' with q | q
      · exact h.at_ l q
      · simp at q
        subst q
        exact .inl rfl
  · exact .inr ⟨by omega, hs.1 he⟩
theorem PU.outA {ka kb : Lk} {T : Txts} {D : List Nat} (h : PU ka kb T D) (now : Int) (h0 : 0 ≤ now ∧ now ≤ 59) : PU (ka.sentAt now) kb T D :=
  ⟨h.a.out now, h.b, h.nd, h.dn, h.tl, h.fa.out now, h.fb, fun l hl => by
    obtain ⟨l', h1, rfl⟩ := List.mem_map.1 hl
    unfold Ltr.stamp
    split
    · exact .inr h0
    · exact h.at_ l' h1⟩
theorem PU.outA0 {ka kb : Lk} {T : Txts} {D : List Nat} (h : PU ka kb T D) (now : Int) (h0 : ka.ls = []) : PU (ka.sentAt now) kb T D :=
  ⟨h.a.out now, h.b, h.nd, h.dn, h.tl, h.fa.out now, h.fb, fun l hl => by
    have e : (ka.sentAt now).ls = [] := by show ka.ls.map _ = []; rw [h0]; rfl
    rw [e] at hl
    cases hl⟩
theorem PU.outB {ka kb : Lk} {T : Txts} {D : List Nat} (h : PU ka kb T D) (now : Int) : PU ka (kb.sentAt now) T D := ⟨h.a, h.b.out now, h.nd, h.dn, h.tl, h.fa, h.fb.out now, h.at_⟩
/-- Frames to the hearing end. -/
theorem PU.toB {ka kb k' : Lk} {T : Txts} {D : List Nat} {fs os : List (List UInt8)} (h : PU ka kb T D) (hm : MoveP kb fs k' os) (hT : T.length ≤ 60) (ns : List Nat) (hl : ns.length = fs.length) (hfs : ∀ i (hi : i < fs.length) (hi' : i < ns.length), GF T D fs[i] ns[i]) :
    ∃ new, os = new.map (TX T) ∧ PU ka k' T (D ++ new) ∧ (∀ n ∈ ns, n ∈ D ++ new) ∧ (kb.ds.length + fs.length ≤ 32 → k'.ds = kb.ds ++ ns.map (fun (n : Nat) => (n : Int))) := by
  obtain ⟨new, e, i1, i2, i3, i4, i5⟩ := h.b.move hm hT h.tl h.nd ns hl hfs
  refine ⟨new, e, ⟨h.a.more (fun x hx => List.mem_append_left _ hx), i1, i2, fun n hn => ?_, h.tl, h.fa, (hm.fit h.fb).1, h.at_⟩, i3, i5⟩
  rcases List.mem_append.1 hn with q | q
  · exact h.dn n q
  · have hq := i4 n q
    obtain ⟨i, hi, rfl⟩ := List.getElem_of_mem hq
    obtain ⟨od, g1, g2, g3, _⟩ := hfs i (by omega) hi
    omega
/-- Receipts to the sending end. -/
theorem PU.toA {ka kb k' : Lk} {T : Txts} {D : List Nat} {fs os : List (List UInt8)} (h : PU ka kb T D) (hm : MoveP ka fs k' os) (hT : T.length ≤ 60) (hfs : ∀ f ∈ fs, ∃ n ∈ D, 1 ≤ n ∧ n ≤ 60 ∧ f = frB 2 5 n 0 []) :
    PU k' kb T D ∧ (∀ l ∈ k'.ls, l ∈ ka.ls ∧ ∀ n : Nat, n ≤ 60 → frB 2 5 n 0 [] ∈ fs → l.num ≠ (n : Int)) := by
  obtain ⟨i1, _, i3⟩ := h.a.move hm hT hfs
  exact ⟨⟨i1, h.b, h.nd, h.dn, h.tl, (hm.fit h.fa).1, h.fb, fun l hl => h.at_ l (i3 l hl).1⟩, i3⟩
/-- At 100 all letters are due. -/
theorem PU.due {ka kb : Lk} {T : Txts} {D : List Nat} (h : PU ka kb T D) : (ka.ls.filter fun l => dueB l 100 ka.retry) = ka.ls := by
  refine List.filter_eq_self.2 (fun l hl => ?_)
  rcases h.at_ l hl with q | ⟨q1, q2⟩
  · unfold dueB; rw [q]; rfl
  · have e : decide (u64 3 ≤ u64 (u64 100 - u64 l.at_)) = true := by
      refine decide_eq_true ?_
      unfold u64
      simp only [IntKind.wrap_u64]
      omega
    unfold dueB
    rw [h.a.retry, e, Bool.or_true]
/-- All that waits has come out, where nothing waits. -/
theorem PU.all {ka kb : Lk} {T : Txts} {D : List Nat} (h : PU ka kb T D) (h0 : ka.ls = []) : D.length = T.length := by
  have h1 := h.dlen
  have h2 := nodup_le (l1 := List.range' 1 T.length) (l2 := D) List.nodup_range' (fun n hn => by
    rw [List.mem_range'_1] at hn
    rcases h.a.gone n hn.1 (by omega) with q | q
    · exact q
    · rw [h0] at q; simp at q)
  simp at h2
  omega
end Go.Proofs.Ytpbfibofjkinmaa
