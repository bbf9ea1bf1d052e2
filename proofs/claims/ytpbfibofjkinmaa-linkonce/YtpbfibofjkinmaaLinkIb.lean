/-
  LinkOnce as plain mathematics: the sending end; lists without doubles; two pieces appended. No condition.
-/
import Derived.Test.YtpbfibofjkinmaaLinkIa
set_option linter.unusedSimpArgs false
set_option linter.unusedVariables false
namespace Go.Proofs.Ytpbfibofjkinmaa
open Go.RowKit Go.Maps

theorem nodup_le {α : Type} [DecidableEq α] {l1 l2 : List α} (h : l1.Nodup) (hs : ∀ x ∈ l1, x ∈ l2) : l1.length ≤ l2.length := by
  induction l1 generalizing l2 with
  | nil => simp
  | cons x l1 ih =>
    have hx : x ∈ l2 := hs x (by simp)
    have hn := List.nodup_cons.1 h
    have h1 := ih (l2 := l2.erase x) hn.2 (fun y hy => by
      have hne : y ≠ x := fun e => hn.1 (by rw [← e]; exact hy)
      exact (List.mem_erase_of_ne hne).2 (hs y (by simp [hy])))
    have h2 := List.length_erase_of_mem hx
    have h3 := List.length_pos_of_mem hx
    rw [List.length_cons]
    omega
theorem TX.mem {T : Txts} {n : Nat} (h1 : 1 ≤ n) (h2 : n ≤ T.length) : TX T n ∈ T := by
  unfold TX
  rw [List.getD_eq_getElem?_getD, List.getElem?_eq_getElem (by omega)]
  exact List.getElem_mem _
theorem TX.inj {T : Txts} (h : T.Nodup) {n m : Nat} (h1 : 1 ≤ n) (h2 : n ≤ T.length) (h3 : 1 ≤ m) (h4 : m ≤ T.length) (e : TX T n = TX T m) : n = m := by
  unfold TX at e
  rw [List.getD_eq_getElem?_getD, List.getD_eq_getElem?_getD, List.getElem?_eq_getElem (by omega), List.getElem?_eq_getElem (by omega)] at e
  simp only [Option.getD_some] at e
  have hp := List.pairwise_iff_getElem.1 h
  rcases Nat.lt_trichotomy n m with q | q | q
  · exact absurd e (hp (n - 1) (m - 1) (by omega) (by omega) (by omega))
  · exact q
  · exact absurd e.symm (hp (m - 1) (n - 1) (by omega) (by omega) (by omega))
theorem TX.nodup {T : Txts} (h : T.Nodup) {D : List Nat} (hD : D.Nodup) (hb : ∀ n ∈ D, 1 ≤ n ∧ n ≤ T.length) : (D.map (TX T)).Nodup := by
  refine List.pairwise_map.2 (List.Pairwise.imp_of_mem (fun {a b} ha hb' hab => ?_) hD)
  intro e
  exact hab (TX.inj h (hb a ha).1 (hb a ha).2 (hb b hb').1 (hb b hb').2 e)

theorem sorted_len {l : List Int} (h : l.Pairwise (· < ·)) (lo hi : Int) (hb : ∀ x ∈ l, lo ≤ x ∧ x ≤ hi) : (l.length : Int) ≤ max 0 (hi - lo + 1) := by
  induction l generalizing lo with
  | nil => simp; omega
  | cons x l ih =>
    have h1 := List.pairwise_cons.1 h
    have hx := hb x (by simp)
    have := ih h1.2 (x + 1) (fun y hy => ⟨by have := h1.1 y hy; omega, (hb y (by simp [hy])).2⟩)
    rw [List.length_cons]
    push_cast
    omega

/-- The sending end: its letters are those that were not acknowledged; what is gone has come out. -/
structure AI (k : Lk) (T : Txts) (D : List Nat) : Prop where
  life : k.life = 5
  last : k.last = (T.length : Int)
  ds : k.ds = []
  cnt : k.cnt = 0
  retry : k.retry = 3
  ls : ∀ l ∈ k.ls, ∃ n : Nat, l.num = (n : Int) ∧ 1 ≤ n ∧ n ≤ T.length ∧ l.xs = TX T n
  sort : (k.ls.map Ltr.num).Pairwise (· < ·)
  gone : ∀ n : Nat, 1 ≤ n → n ≤ T.length → n ∈ D ∨ (n : Int) ∈ k.ls.map Ltr.num
  span : k.last + 1 - k.old ≤ 32
theorem AI.old {k : Lk} {T : Txts} {D : List Nat} (h : AI k T D) : 1 ≤ k.old ∧ k.old ≤ (T.length : Int) + 1 ∧ (∀ l ∈ k.ls, k.old ≤ l.num) := by
  have hs := h.sort
  have hl := h.last
  have hq := h.ls
  unfold Lk.old
  cases hk : k.ls with
  | nil => exact ⟨by show 1 ≤ k.last + 1; omega, by show k.last + 1 ≤ _; omega, fun l hl => by cases hl⟩
  | cons a r =>
    rw [hk] at hs hq
    obtain ⟨n, e, n1, n2, _⟩ := hq a (by simp)
    refine ⟨by show 1 ≤ a.num; omega, by show a.num ≤ _; omega, fun l hl => ?_⟩
    show a.num ≤ l.num
    rcases List.mem_cons.1 hl with rfl | hl
    · exact Int.le_refl _
    · have := (List.pairwise_cons.1 hs).1 l.num (List.mem_map_of_mem hl)
      omega
theorem AI.low {k : Lk} {T : Txts} {D : List Nat} (h : AI k T D) (x : Nat) (h1 : 1 ≤ x) (h2 : (x : Int) < k.old) : x ∈ D := by
  obtain ⟨o1, o2, o3⟩ := h.old
  rcases h.gone x h1 (by omega) with q | q
  · exact q
  · obtain ⟨l, hl, e⟩ := List.mem_map.1 q
    have := o3 l hl
    omega
theorem AI.len {k : Lk} {T : Txts} {D : List Nat} (h : AI k T D) : k.ls.length ≤ 32 := by
  obtain ⟨o1, o2, o3⟩ := h.old
  have hs := h.span
  have hl := h.last
  have := sorted_len h.sort k.old k.last (fun x hx => by
    obtain ⟨l, hl', rfl⟩ := List.mem_map.1 hx
    obtain ⟨n, e, n1, n2, _⟩ := h.ls l hl'
    exact ⟨o3 l hl', by omega⟩)
  rw [List.length_map] at this
  omega
theorem AI.more {k : Lk} {T : Txts} {D D' : List Nat} (h : AI k T D) (hD : ∀ x ∈ D, x ∈ D') : AI k T D' :=
  ⟨h.life, h.last, h.ds, h.cnt, h.retry, h.ls, h.sort, fun n h1 h2 => (h.gone n h1 h2).elim (fun q => .inl (hD n q)) .inr, h.span⟩
theorem AI.send {k k' : Lk} {T : Txts} {D : List Nat} {d : List UInt8} (h : AI k T D) (hs : SendP k d k') (he : sendE k d.length = 0) : AI k' (T ++ [d]) D := by
  obtain ⟨A, m, c, rfl⟩ := hs.2 he
  have hl := h.last
  have hq : k.last + 1 - k.old < 32 := by
    unfold sendE at he
    split at he
    · split at he
      · assumption
      · omega
    · omega
  have hlen : (T ++ [d]).length = T.length + 1 := by simp
  refine ⟨h.life, by show k.last + 1 = _; rw [hlen]; omega, h.ds, h.cnt, h.retry, fun l hl' => ?_, ?_, fun n n1 n2 => ?_, ?_⟩
  · rcases List.mem_append.1 hl' with q | q
    · obtain ⟨n, e, n1, n2, e2⟩ := h.ls l q
      exact ⟨n, e, n1, by rw [hlen]; omega, by rw [TX.app n1 n2]; exact e2⟩
    · simp at q
      subst q
      exact ⟨T.length + 1, by show k.last + 1 = _; omega, by omega, by rw [hlen]; exact Nat.le_refl _, (TX.last T d).symm⟩
  · show ((k.ls ++ _).map Ltr.num).Pairwise _
    rw [List.map_append, List.pairwise_append]
    refine ⟨h.sort, by simp, fun x hx y hy => ?_⟩
    obtain ⟨l, hl', rfl⟩ := List.mem_map.1 hx
    obtain ⟨n, e, n1, n2, _⟩ := h.ls l hl'
    simp at hy
    subst hy
    omega
  · show n ∈ D ∨ (n : Int) ∈ (k.ls ++ _).map Ltr.num
    rw [hlen] at n2
    by_cases hn : n ≤ T.length
    · rcases h.gone n n1 hn with q | q
      · exact .inl q
      · exact .inr (by rw [List.map_append]; exact List.mem_append_left _ q)
    · refine .inr ?_
      rw [List.map_append]
      refine List.mem_append_right _ ?_
      simp
      omega
  · have ho : ({ k with last := k.last + 1, ls := k.ls ++ [(⟨k.last + 1, A, m, c, false, 0, d⟩ : Ltr)] } : Lk).old = if k.ls = [] then k.last + 1 else k.old := by
      unfold Lk.old
      cases k.ls with
      | nil => simp
      | cons a r => simp
    rw [ho]
    show k.last + 1 + 1 - _ ≤ 32
    split <;> omega
theorem AI.out {k : Lk} {T : Txts} {D : List Nat} (h : AI k T D) (now : Int) : AI (k.sentAt now) T D := by
  have e : (k.sentAt now).ls.map Ltr.num = k.ls.map Ltr.num := by
    show (k.ls.map (Ltr.stamp now k.retry)).map Ltr.num = _
    rw [List.map_map]
    congr 1
    funext l
    exact (stamp_num now k.retry l).1
  have eo : (k.sentAt now).old = k.old := by
    unfold Lk.old
    show (match k.ls.map (Ltr.stamp now k.retry) with | [] => k.last + 1 | l :: _ => l.num) = _
    cases k.ls with
    | nil => rfl
    | cons a r => exact (stamp_num now k.retry a).1
  refine ⟨h.life, h.last, rfl, h.cnt, h.retry, fun l hl => ?_, by rw [e]; exact h.sort, fun n h1 h2 => by rw [e]; exact h.gone n h1 h2, by rw [eo]; exact h.span⟩
  obtain ⟨l', h1, rfl⟩ := List.mem_map.1 hl
  rw [(stamp_num now k.retry l').1, (stamp_num now k.retry l').2]
  exact h.ls l' h1
/-- Its frames, with their numbers. -/
def numsOf (k : Lk) (now : Int) : List Nat := (k.ls.filter fun l => dueB l now k.retry).map fun l => l.num.toNat
theorem AI.frames {k : Lk} {T : Txts} {D : List Nat} (h : AI k T D) (now : Int) : k.recs = [] ∧ (numsOf k now).length = (k.carries now).length ∧ (k.carries now).length ≤ 32 ∧ ∀ i (hi : i < (k.carries now).length) (hi' : i < (numsOf k now).length), GF T D (k.carries now)[i] (numsOf k now)[i] := by
  refine ⟨by unfold Lk.recs; rw [h.ds]; rfl, by unfold numsOf Lk.carries; rw [List.length_map, List.length_map], by have := carries_le k now; have := h.len; omega, fun i hi hi' => ?_⟩
  obtain ⟨L, hL⟩ : ∃ L, (k.ls.filter fun l => dueB l now k.retry) = L := ⟨_, rfl⟩
  have c1 : k.carries now = L.map k.car := by unfold Lk.carries; rw [hL]
  have c2 : numsOf k now = L.map fun l => l.num.toNat := by unfold numsOf; rw [hL]
  have hiL : i < L.length := by rw [c1, List.length_map] at hi; exact hi
  rw [List.getElem_of_eq c1 hi, List.getElem_of_eq c2 hi', List.getElem_map, List.getElem_map]
  have hm : L[i] ∈ k.ls := by
    have : L[i] ∈ (k.ls.filter fun l => dueB l now k.retry) := by rw [hL]; exact List.getElem_mem hiL
    exact (List.mem_filter.1 this).1
  generalize L[i] = l at *
  obtain ⟨n, e, n1, n2, e2⟩ := h.ls l hm
  obtain ⟨o1, o2, o3⟩ := h.old
  have := o3 l hm
  refine ⟨k.old.toNat, by omega, by omega, by omega, fun x x1 x2 => h.low x x1 (by omega), ?_⟩
  unfold Lk.car
  rw [h.life, e, e2]
  rfl
theorem AI.free {k : Lk} {T : Txts} {D : List Nat} (h : AI k T D) {n : Nat} (hn : n ∈ D) : AI (k.free (n : Int)) T D := by
  have hsub : (k.free (n : Int)).ls.Sublist k.ls := List.filter_sublist
  refine ⟨h.life, h.last, h.ds, h.cnt, h.retry, fun l hl => h.ls l (hsub.mem hl), h.sort.sublist (hsub.map _), fun m h1 h2 => ?_, ?_⟩
  · rcases h.gone m h1 h2 with q | q
    · exact .inl q
    · by_cases hmn : m = n
      · subst hmn; exact .inl hn
      · obtain ⟨l, hl, e⟩ := List.mem_map.1 q
        refine .inr (List.mem_map.2 ⟨l, List.mem_filter.2 ⟨hl, ?_⟩, e⟩)
        unfold ofNum
        simp
        omega
  · obtain ⟨o1, o2, o3⟩ := h.old
    have hs := h.span
    have hl := h.last
    have : k.old ≤ (k.free (n : Int)).old := by
      unfold Lk.old
      cases hk : (k.free (n : Int)).ls with
      | nil =>
        have e2 : (k.free (n : Int)).last = k.last := rfl
        simp only [e2]
        have := o2
        unfold Lk.old at this
        omega
      | cons a r => exact o3 a (hsub.mem (by rw [hk]; simp))
    show k.last + 1 - _ ≤ 32
    omega
/-- Receipts of what has come out. -/
theorem AI.move {k k' : Lk} {T : Txts} {D : List Nat} {fs os : List (List UInt8)} (hm : MoveP k fs k' os) (h : AI k T D) (hT : T.length ≤ 60) (hfs : ∀ f ∈ fs, ∃ n ∈ D, 1 ≤ n ∧ n ≤ 60 ∧ f = frB 2 5 n 0 []) :
    AI k' T D ∧ os = [] ∧ (∀ l ∈ k'.ls, l ∈ k.ls ∧ ∀ n : Nat, n ≤ 60 → frB 2 5 n 0 [] ∈ fs → l.num ≠ (n : Int)) := by
  induction hm with
  | none => exact ⟨h, rfl, fun l hl => ⟨hl, fun n _ hn => by cases hn⟩⟩
  | snoc h1 h2 ih =>
    obtain ⟨i1, rfl, i3⟩ := ih (fun f hf => hfs f (by simp [hf]))
    obtain ⟨n, hn, n1, n2, rfl⟩ := hfs _ (List.mem_append_right _ (List.mem_singleton_self _))
    rw [rdF_rec 5 n (by omega) (by omega)] at h2
    obtain ⟨rfl, rfl⟩ := h2.rec_ (by omega) (by omega)
    rw [if_pos (by rw [i1.life]; rfl)]
    refine ⟨i1.free hn, rfl, fun l hl => ?_⟩
    obtain ⟨q1, q2⟩ := List.mem_filter.1 hl
    obtain ⟨q3, q4⟩ := i3 l q1
    refine ⟨q3, fun m hm60 hm => ?_⟩
    rcases List.mem_append.1 hm with q | q
    · exact q4 m hm60 q
    · simp only [List.mem_singleton] at q
      have e1 := congrArg rdF q
      rw [rdF_rec 5 n (by omega) (by omega), rdF_rec 5 m (by omega) (by omega)] at e1
      injection e1 with _ _ e1
      unfold ofNum at q2
      simp at q2
      omega
/-- What the hearing end owes. -/
theorem BI.recs {k : Lk} {N : Nat} {D : List Nat} (h : BI k N D) (now : Int) : (k.recs ++ k.carries now) = k.ds.map (fun d => frB 2 5 d.toNat 0 []) ∧ k.ds.length ≤ 4096 → ∀ f ∈ k.recs ++ k.carries now, ∃ n ∈ D, 1 ≤ n ∧ n ≤ N ∧ f = frB 2 5 n 0 [] := by
  rintro ⟨e, _⟩ f hf
  rw [e] at hf
  obtain ⟨d, hd, rfl⟩ := List.mem_map.1 hf
  obtain ⟨n, h1, rfl, h2, h3⟩ := h.ds d hd
  exact ⟨n, h1, h2, h3, rfl⟩
theorem BI.recs_eq {k : Lk} {N : Nat} {D : List Nat} (h : BI k N D) (now : Int) : (k.recs ++ k.carries now) = k.ds.map (fun d => frB 2 5 d.toNat 0 []) := by
  have e1 : k.carries now = [] := by unfold Lk.carries; rw [h.ls]; rfl
  rw [e1, List.append_nil]
  unfold Lk.recs
  rcases h.pl with e | ⟨_, _, e⟩
  · rw [e]; rfl
  · rw [e]; rfl

/-- append of two pieces at a plain region's list of operations. -/
theorem list_append_two {ops : Array Oper} {rest : List Oper} {o : Oper} {a : Act} {Q : Exit → Act → World → Prop} (w : World) (hgd : o.guard = none) (s x : Operand)
    (ho : o.op = .call { callee := .builtin .append, args := #[s, x], argTypes := #[65, 65] }) (base : Nat) (v : Value) (ps : List Piece) (hs : a.eval s = v) (hown : OwnP w base v ps)
    (g c : Nat) (p q : Piece) (hx : a.eval x = .slice (some ⟨g, 0, none⟩) 2 c) (hr : w.cell? ⟨g, 0, none⟩ = some p.val) (hr2 : w.cell? ⟨g, 1, none⟩ = some q.val)
    (hlen : ps.length + 2 ≤ 1099511627776) (hbase : base ≤ w.heap.size)
    (h : ∀ v' w', OwnP w' base v' (ps ++ [p, q]) → w.grownBy w' v.ownBlock → (v'.ownBlock = v.ownBlock ∨ v'.ownBlock = some w.heap.size) → wpList Try.prog ops Q rest (a.put o.dst v') w') : wpList Try.prog ops Q (o :: rest) a w := by
  obtain ⟨i0, hi0, hz0, hz1, hz2⟩ := info_parts bytes_info
  refine wpList_append_own_at (P := Try.prog) w hgd s x 65 ho base 32 i0 (.slice none 0 0) 1 24 Try.underlying65 hi0 hz0 hz1 hz2 rfl (by omega) v ps.length (ps.map Piece.val) hs hown ⟨g, 0, none⟩ 2 c [p.val, q.val] hx rfl ?_ ?_ (by unfold maxLen; omega) (by omega) hbase ?_
  · intro j u hu
    rcases j with _ | _ | j
    · simp at hu
      subst hu
      exact hr
    · simp at hu
      subst hu
      exact hr2
    · simp at hu
  · intro u hu
    simp at hu
    rcases hu with rfl | rfl <;> rfl
  · intro v' w' h1 h2 _ h4
    exact h v' w' (by unfold OwnP; rw [List.length_append, List.map_append]; exact h1) h2 h4
end Go.Proofs.Ytpbfibofjkinmaa
