/-
  LinkAnew as plain mathematics. No condition.
-/
import Derived.Test.YtpbfibofjkinmaaLinkOa
set_option linter.unusedSimpArgs false
set_option linter.unusedVariables false
namespace Go.Proofs.Ytpbfibofjkinmaa
open Go.RowKit Go.Maps

theorem MoveP.nil {k k' : Lk} {fs os : List (List UInt8)} (h : MoveP k fs k' os) (hf : fs = []) : k' = k ∧ os = [] := by
  cases h with
  | none => exact ⟨rfl, rfl⟩
  | snoc h1 h2 => simp at hf
theorem MoveP.one {k k' : Lk} {fs os : List (List UInt8)} {f : List UInt8} (h : MoveP k fs k' os) (hf : fs = [f]) : ∃ o, InP k (rdF f) k' o ∧ os = o.toList := by
  cases h with
  | none => cases hf
  | snoc h1 h2 =>
    rename_i fs' k1 os' f' o
    have hl : fs' = [] := by
      cases fs' with
      | nil => rfl
      | cons a r => simp at hf
    subst hl
    obtain ⟨rfl, rfl⟩ := h1.nil rfl
    simp at hf
    subst hf
    exact ⟨o, h2, rfl⟩

/-- An end that has heard j letters of life lf in order, and owes nothing. -/
structure B1 (k : Lk) (lf j : Nat) : Prop where
  pl : k.pl = (lf : Int) ∨ (k.pl = 0 ∧ j = 0)
  all : k.all = (j : Int)
  S : ∀ x, k.S x = false
  ds : k.ds = []
  ls : k.ls = []
  cnt : k.cnt ≤ j
theorem B1.next {k k' : Lk} {lf j : Nat} {xs : List UInt8} {o : Option (List UInt8)} (h : B1 k lf j) (hi : InP k (rdF (frB 1 lf (j + 1) (j + 1) xs)) k' o) (hlf : 0 < lf ∧ lf ≤ 1099511627776) (hj : j < 4096) (hx : xs.length ≤ 65472) :
    o = some xs ∧ B1 (k'.sentAt 0) lf (j + 1) ∧ k'.ds = [((j + 1 : Nat) : Int)] ∧ k'.pl = (lf : Int) ∧ k'.ls = [] := by
  rw [rdF_car lf (j + 1) (j + 1) xs hlf.2 (by omega) (by omega) (by omega)] at hi
  obtain ⟨fr, ht, rfl⟩ := hi.car hlf.1 (by omega) (by omega) (by omega)
  have hb : (k.born (lf : Int)).all = (j : Int) ∧ (∀ x, (k.born (lf : Int)).S x = false) ∧ (k.born (lf : Int)).ds = [] ∧ (k.born (lf : Int)).ls = [] ∧ (k.born (lf : Int)).pl = (lf : Int) ∧ (k.born (lf : Int)).cnt ≤ j := by
    unfold Lk.born
    rcases h.pl with e | ⟨e, rfl⟩
    · rw [if_pos (by omega)]
      exact ⟨h.all, h.S, h.ds, h.ls, e, h.cnt⟩
    · rw [if_neg (by omega)]
      exact ⟨rfl, fun _ => rfl, rfl, h.ls, rfl, h.cnt⟩
  obtain ⟨c1, c2, c3, c4, c5, c6⟩ := hb
  obtain ⟨rfl, rfl⟩ := take_next ht (by rcases h.pl with e | ⟨e, _⟩ <;> omega) c2 (by rw [c1]; omega)
  have hds : ((k.born (lf : Int)).owe ((j + 1 : Nat) : Int)).ds = [((j + 1 : Nat) : Int)] := by
    unfold Lk.owe
    rw [if_pos (by rw [c3]; simp)]
    show (k.born (lf : Int)).ds ++ _ = _
    rw [c3]
    rfl
  refine ⟨rfl, ⟨.inl c5, rfl, fun _ => rfl, rfl, ?_, ?_⟩, hds, c5, c4⟩
  · show (k.born (lf : Int)).ls.map _ = []
    rw [c4]
    rfl
  · show (k.born (lf : Int)).cnt + 1 ≤ j + 1
    omega
theorem sentAt_nil {k : Lk} (h : k.ls = []) (a b : Int) : k.sentAt a = k.sentAt b := by
  unfold Lk.sentAt
  rw [h]
  rfl
theorem recs_one {k : Lk} {lf : Nat} {d : Int} (h1 : k.ds = [d]) (h2 : k.pl = (lf : Int)) (h3 : k.ls = []) (now : Int) : k.recs ++ k.carries now = [frB 2 lf d.toNat 0 []] := by
  unfold Lk.recs Lk.carries
  rw [h1, h2, h3]
  rfl

/-- A new end that has heard j letters of life lf behind number kk, and owes their receipts. -/
structure BD (k : Lk) (lf kk j : Nat) : Prop where
  pl : k.pl = if j = 0 then 0 else (lf : Int)
  all : k.all = if j = 0 then 0 else ((kk + j : Nat) : Int)
  S : ∀ x, k.S x = false
  ds : k.ds = nums kk j
  ls : k.ls = []
theorem BD.new (b r : Int) (lf kk : Nat) : BD (Lk.new b r) lf kk 0 := ⟨rfl, rfl, fun _ => rfl, rfl, rfl⟩
theorem BD.move {k k' : Lk} {lf kk : Nat} {fs os xss : List (List UInt8)} (h : BD k lf kk 0) (hm : MoveP k fs k' os) (hl : fs.length ≤ 32) (hk : kk < 4096) (hlf : 0 < lf ∧ lf ≤ 1099511627776)
    (hx : xss.length = fs.length) (hfs : ∀ i (hi : i < fs.length), xss[i].length ≤ 65472 ∧ fs[i] = frB 1 lf (kk + i + 1) (kk + 1) xss[i]) : BD k' lf kk fs.length ∧ os = xss := by
  induction hm generalizing xss with
  | none =>
    have : xss = [] := List.eq_nil_of_length_eq_zero hx
    exact ⟨h, this.symm⟩
  | snoc h1 h2 ih =>
    rename_i fs k1 k2 os f o
    rw [List.length_append, List.length_singleton] at hl hx
    obtain ⟨i1, i2⟩ := ih (by omega) (xss := xss.take fs.length) (by simp; omega) (fun i hi => by
      have := hfs i (by rw [List.length_append]; simp; omega)
      rw [List.getElem_append_left hi] at this
      rw [List.getElem_take]
      exact this)
    have hf := hfs fs.length (by simp)
    rw [List.getElem_append_right (Nat.le_refl _)] at hf
    simp only [Nat.sub_self, List.getElem_cons_zero] at hf
    obtain ⟨xs, hxs, hx5, hf5⟩ : ∃ xs, xss = xss.take fs.length ++ [xs] ∧ xs.length ≤ 65472 ∧ f = frB 1 lf (kk + fs.length + 1) (kk + 1) xs :=
      ⟨xss[fs.length], by rw [← List.take_succ_eq_append_getElem (by omega), List.take_of_length_le (by omega)], hf.1, hf.2⟩
    clear hf hfs
    subst hf5
    rw [rdF_car lf (kk + fs.length + 1) (kk + 1) xs hlf.2 (by omega) (by omega) (by omega)] at h2
    obtain ⟨fr, ht, rfl⟩ := h2.car hlf.1 (by omega) (by omega) (by omega)
    have hpl := i1.pl
    have hal := i1.all
    have hds := i1.ds
    have hborn : (k1.born (lf : Int)).all = (if fs.length = 0 then 0 else ((kk + fs.length : Nat) : Int)) ∧ (∀ x, (k1.born (lf : Int)).S x = false) ∧ (k1.born (lf : Int)).ds = nums kk fs.length ∧ (k1.born (lf : Int)).ls = [] ∧ (k1.born (lf : Int)).pl = (lf : Int) := by
      unfold Lk.born
      split
      · rename_i hle
        have hne : ¬ fs.length = 0 := fun e => by rw [if_pos e] at hpl; omega
        rw [if_neg hne] at hpl
        exact ⟨hal, i1.S, hds, i1.ls, hpl⟩
      · rename_i hle
        have he : fs.length = 0 := by
          rcases Nat.eq_zero_or_pos fs.length with e | e
          · exact e
          · rw [if_neg (by omega)] at hpl; omega
        rw [he]
        exact ⟨rfl, fun _ => rfl, rfl, i1.ls, rfl⟩
    obtain ⟨c1, c2, c3, c4, c5⟩ := hborn
    obtain ⟨rfl, rfl⟩ := take_next ht (by
      rw [hpl]
      split <;> omega) c2 (by
      rw [c1]
      split <;> omega)
    refine ⟨⟨?_, ?_, fun _ => rfl, ?_, c4⟩, ?_⟩
    · rw [List.length_append, List.length_singleton, if_neg (by omega)]
      exact c5
    · rw [List.length_append, List.length_singleton, if_neg (by omega)]
      show (((kk + fs.length + 1 : Nat) : Nat) : Int) = _
      omega
    · show ((k1.born (lf : Int)).owe _).ds = _
      unfold Lk.owe
      rw [if_pos (by rw [c3, nums_len]; omega)]
      show (k1.born (lf : Int)).ds ++ _ = _
      rw [c3, List.length_append, List.length_singleton, nums_snoc]
    · rw [i2]
      exact hxs.symm
theorem BD.recs {k : Lk} {lf kk j : Nat} (h : BD k lf kk j) (now : Int) : (k.recs ++ k.carries now).length = j ∧ ∀ i (hi : i < (k.recs ++ k.carries now).length), (k.recs ++ k.carries now)[i] = frB 2 lf (kk + i + 1) 0 [] := by
  have e1 : k.carries now = [] := by unfold Lk.carries; rw [h.ls]; rfl
  have e2 : k.recs = (nums kk j).map fun d => frB 2 k.pl.toNat d.toNat 0 [] := by unfold Lk.recs; rw [h.ds]
  rw [e1, List.append_nil]
  refine ⟨by rw [e2, List.length_map, nums_len], fun i hi => ?_⟩
  have hj : i < j := by rw [e2, List.length_map, nums_len] at hi; exact hi
  simp only [e2, List.getElem_map]
  rw [nums_get kk j i hj, h.pl, if_neg (by omega)]
  congr 1
/-- What is carried of letters that were not sent yet, with their data. -/
theorem SS.carries2 {k : Lk} {lf lo n : Nat} (h : SS k lf lo n) (hu : UnS k) (hd : ∀ l ∈ k.ls, l.xs.length ≤ 65472) (now : Int) :
    (k.carries now).length = n ∧ (k.ls.map Ltr.xs).length = n ∧ ∀ i (hi : i < (k.carries now).length) (hi' : i < (k.ls.map Ltr.xs).length), (k.ls.map Ltr.xs)[i].length ≤ 65472 ∧ (k.carries now)[i] = frB 1 lf (lo + i + 1) (lo + 1) (k.ls.map Ltr.xs)[i] := by
  have e : k.carries now = k.ls.map k.car := by
    unfold Lk.carries
    rw [List.filter_eq_self.2 (fun l hl => by unfold dueB; rw [hu l hl]; rfl)]
  have hl := h.len
  rw [e]
  refine ⟨by rw [List.length_map, hl], by rw [List.length_map, hl], fun i hi hi2 => ?_⟩
  have hi' : i < k.ls.length := by rw [List.length_map] at hi; exact hi
  have hn : k.ls[i].num = ((lo + i + 1 : Nat) : Int) := by
    have h1 : (k.ls.map Ltr.num)[i]? = (nums lo n)[i]? := by rw [h.num]
    rw [List.getElem?_map, List.getElem?_eq_getElem hi', List.getElem?_eq_getElem (by rw [nums_len]; omega), nums_get lo n i (by omega)] at h1
    simpa using h1
  have e3 : k.car k.ls[i] = frB 1 lf (lo + i + 1) (lo + 1) k.ls[i].xs := by
    unfold Lk.car
    rw [hn, h.old, h.life]
    rfl
  rw [List.getElem_map, List.getElem_map]
  exact ⟨hd _ (List.getElem_mem hi'), e3⟩
theorem send_xs {k k' : Lk} {xs : List UInt8} (hs : SendP k xs k') (he : sendE k xs.length = 0) : k'.ls.map Ltr.xs = k.ls.map Ltr.xs ++ [xs] := by
  obtain ⟨A, n, c, rfl⟩ := hs.2 he
  simp
theorem unS_none {k : Lk} {lf : Int} {lo : Nat} (h : SS k lf lo 0) : UnS k ∧ k.ls = [] := by
  have : k.ls = [] := List.eq_nil_of_length_eq_zero h.len
  exact ⟨fun l hl => (by rw [this] at hl; cases hl), this⟩
/-- A slice of texts that grows turns no end. -/
theorem Duo.grownF {w W w' : World} {ga gb : Nat} {ka kb : Lk} {Fa Fb : Nat → Prop} (h : Duo w W ga gb ka kb Fa Fb) {b2 : Nat} {vg : Value} {gs : List Piece} (hg : OwnF W b2 vg gs) (hb2 : w.heap.size ≤ b2) (hgr : W.grownBy w' vg.ownBlock) : Duo w w' ga gb ka kb Fa Fb := by
  have hk := Kept.of_grown (F := fun q => vg.ownBlock = some q) hgr (fun q hq => hq)
  have key : ∀ {g k F}, EK W w.heap.size g k F → EK w' w.heap.size g k F := fun hE => hE.kept hk (fun q hq e => by
    obtain ⟨cur, hc⟩ := ownsRow_typed hg.row q e
    exact hE.no q cur _ hc (.inl rfl) hq) (fun q cur hc e => by
    obtain ⟨cur', hc'⟩ := ownsRow_typed hg.row q e
    exact typed_ne hc hc' (by decide) rfl)
  exact ⟨key h.a, key h.b, h.dis, h.bel.grown hgr h.bel.size (fun q e => Nat.le_trans hb2 (hg.row.lt q e).1)⟩
end Go.Proofs.Ytpbfibofjkinmaa
