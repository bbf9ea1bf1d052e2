/-
  LinkFull as plain mathematics: letters in a row, receipts that free them. No condition.
-/
import Derived.Test.YtpbfibofjkinmaaLinkY
set_option linter.unusedSimpArgs false
set_option linter.unusedVariables false
namespace Go.Proofs.Ytpbfibofjkinmaa
open Go.RowKit Go.Maps

def nums (lo n : Nat) : List Int := (List.range' (lo + 1) n).map fun (x : Nat) => (x : Int)
theorem nums_len (lo n : Nat) : (nums lo n).length = n := by simp [nums]
theorem nums_zero (lo : Nat) : nums lo 0 = [] := rfl
theorem nums_succ (lo n : Nat) : nums lo (n + 1) = ((lo + 1 : Nat) : Int) :: nums (lo + 1) n := by simp [nums, List.range'_succ]
theorem nums_snoc (lo n : Nat) : nums lo (n + 1) = nums lo n ++ [((lo + n + 1 : Nat) : Int)] := by
  unfold nums
  rw [List.range'_concat, List.map_append, List.map_singleton]
  congr 3
  omega
theorem nums_get (lo n i : Nat) (h : i < n) : (nums lo n)[i]'(by rw [nums_len]; exact h) = ((lo + i + 1 : Nat) : Int) := by
  simp [nums]
  omega
theorem nums_mem {lo n : Nat} {x : Int} (h : x ∈ nums lo n) : (lo : Int) < x ∧ x ≤ (lo : Int) + n := by
  unfold nums at h
  obtain ⟨y, h1, rfl⟩ := List.mem_map.1 h
  have := List.mem_range'_1.1 h1
  omega

/-- An end of life lf whose letters are those above lo up to hi. -/
structure SS (k : Lk) (lf : Int) (lo n : Nat) : Prop where
  life : k.life = lf
  last : k.last = ((lo + n : Nat) : Int)
  num : k.ls.map Ltr.num = nums lo n
  ds : k.ds = []
  cnt : k.cnt = 0
theorem SS.len {k : Lk} {lf : Int} {lo n : Nat} (h : SS k lf lo n) : k.ls.length = n := by
  have := congrArg List.length h.num
  rwa [List.length_map, nums_len] at this
theorem SS.old {k : Lk} {lf : Int} {lo n : Nat} (h : SS k lf lo n) : k.old = ((lo + 1 : Nat) : Int) := by
  have h1 := h.num
  unfold Lk.old
  cases hk : k.ls with
  | nil =>
    rw [hk] at h1
    have h2 := h.last
    have : n = 0 := by have := congrArg List.length h1; rw [nums_len] at this; simpa using this.symm
    subst this
    show k.last + 1 = _
    rw [h2]
    omega
  | cons l ls =>
    rw [hk] at h1
    cases n with
    | zero => rw [nums_zero] at h1; simp at h1
    | succ n =>
      rw [nums_succ, List.map_cons] at h1
      injection h1 with h1 _
theorem SS.sendE {k : Lk} {lf : Int} {lo n : Nat} (h : SS k lf lo n) (m : Nat) (hm : m ≤ 65472) : Go.Proofs.Ytpbfibofjkinmaa.sendE k m = if n < 32 then 0 else 64 := by
  unfold Go.Proofs.Ytpbfibofjkinmaa.sendE
  rw [if_pos hm, h.old, h.last]
  by_cases hn : n < 32
  · rw [if_pos hn, if_pos (by omega)]
  · rw [if_neg hn, if_neg (by omega)]
theorem SS.send {k k' : Lk} {lf : Int} {lo n : Nat} {xs : List UInt8} (h : SS k lf lo n) (hs : SendP k xs k') (hn : n < 32) (hx : xs.length ≤ 65472) : SS k' lf lo (n + 1) := by
  obtain ⟨A, m, c, rfl⟩ := hs.2 (by rw [h.sendE _ hx, if_pos hn])
  refine ⟨h.life, ?_, ?_, h.ds, h.cnt⟩
  · show k.last + 1 = _
    rw [h.last]
    omega
  · show (k.ls ++ _).map Ltr.num = _
    rw [List.map_append, h.num, nums_snoc, List.map_singleton, h.last]
    congr 2
theorem SS.full {k k' : Lk} {lf : Int} {lo n : Nat} {xs : List UInt8} (h : SS k lf lo n) (hs : SendP k xs k') (hn : 32 ≤ n) (hx : xs.length ≤ 65472) : k' = k :=
  hs.1 (by rw [h.sendE _ hx, if_neg (by omega)]; decide)
theorem SS.out {k : Lk} {lf : Int} {lo n : Nat} (h : SS k lf lo n) (now : Int) : SS (k.sentAt now) lf lo n := by
  refine ⟨h.life, h.last, ?_, rfl, h.cnt⟩
  rw [← h.num]
  show (k.ls.map (Ltr.stamp now k.retry)).map Ltr.num = _
  rw [List.map_map]
  congr 1
  funext l
  exact (stamp_num now k.retry l).1
theorem SS.free {k : Lk} {lf : Int} {lo n : Nat} (h : SS k lf lo (n + 1)) : SS (k.free ((lo + 1 : Nat) : Int)) lf (lo + 1) n := by
  refine ⟨h.life, by show k.last = _; rw [h.last]; omega, ?_, h.ds, h.cnt⟩
  have e : ∀ ls : List Ltr, (ls.filter (fun p => !ofNum ((lo + 1 : Nat) : Int) p)).map Ltr.num = (ls.map Ltr.num).filter (fun x => !decide (x = ((lo + 1 : Nat) : Int))) := fun ls => by
    induction ls with
    | nil => rfl
    | cons l ls ih =>
      rw [List.filter_cons, List.map_cons, List.filter_cons]
      have e1 : ofNum ((lo + 1 : Nat) : Int) l = decide (l.num = ((lo + 1 : Nat) : Int)) := by unfold ofNum; rw [Bool.eq_iff_iff]; simp
      rw [e1]
      split
      · rw [List.map_cons, ih]
      · exact ih
  show (k.ls.filter _).map Ltr.num = _
  rw [e, h.num, nums_succ, List.filter_cons]
  simp only [decide_true, Bool.not_true, Bool.false_eq_true, if_false]
  refine List.filter_eq_self.2 (fun x hx => ?_)
  have := nums_mem hx
  simp
  omega
/-- The first m receipts of life lf free the first m letters. -/
theorem SS.move {k k' : Lk} {lf lo n : Nat} {fs os : List (List UInt8)} (h : SS k lf lo n) (hm : MoveP k fs k' os) (hl : fs.length ≤ n) (hb : lo + n ≤ 1099511627776) (hlf : 0 < lf ∧ lf ≤ 1099511627776)
    (hfs : ∀ i (hi : i < fs.length), fs[i] = frB 2 lf (lo + i + 1) 0 []) : SS k' lf (lo + fs.length) (n - fs.length) ∧ os = [] := by
  induction hm with
  | none => exact ⟨h, rfl⟩
  | snoc h1 h2 ih =>
    rename_i fs k1 k2 os f o
    rw [List.length_append, List.length_singleton] at hl
    obtain ⟨i1, rfl⟩ := ih (by omega) (fun i hi => by
      have := hfs i (by rw [List.length_append]; simp; omega)
      rwa [List.getElem_append_left hi] at this)
    have hf := hfs fs.length (by simp)
    rw [List.getElem_append_right (Nat.le_refl _)] at hf
    simp only [Nat.sub_self, List.getElem_cons_zero] at hf
    subst hf
    rw [rdF_rec lf (lo + fs.length + 1) hlf.2 (by omega)] at h2
    obtain ⟨rfl, rfl⟩ := h2.rec_ hlf.1 (by omega)
    rw [if_pos i1.life.symm]
    obtain ⟨d, hd⟩ : ∃ d, n - fs.length = d + 1 := ⟨n - fs.length - 1, by omega⟩
    rw [hd] at i1
    have := i1.free
    rw [List.length_append, List.length_singleton, show n - (fs.length + 1) = d by omega, show lo + (fs.length + 1) = lo + fs.length + 1 by omega]
    exact ⟨this, rfl⟩

/-- An end that has heard j letters of life lf in order, and owes their receipts. -/
structure BB (k : Lk) (lf j : Nat) : Prop where
  pl : k.pl = if j = 0 then 0 else (lf : Int)
  all : k.all = (j : Int)
  S : ∀ x, k.S x = false
  ds : k.ds = nums 0 j
  ls : k.ls = []
theorem BB.new (b r : Int) (lf : Nat) : BB (Lk.new b r) lf 0 := ⟨rfl, rfl, fun _ => rfl, rfl, rfl⟩
theorem BB.move {k k' : Lk} {lf : Nat} {fs os : List (List UInt8)} (h : BB k lf 0) (hm : MoveP k fs k' os) (hl : fs.length ≤ 32) (hlf : 0 < lf ∧ lf ≤ 1099511627776)
    (hfs : ∀ i (hi : i < fs.length), ∃ xs : List UInt8, xs.length ≤ 65472 ∧ fs[i] = frB 1 lf (i + 1) 1 xs) : BB k' lf fs.length ∧ os.length = fs.length := by
  induction hm with
  | none => exact ⟨h, rfl⟩
  | snoc h1 h2 ih =>
    rename_i fs k1 k2 os f o
    rw [List.length_append, List.length_singleton] at hl
    obtain ⟨i1, i2⟩ := ih (by omega) (fun i hi => by
      have := hfs i (by rw [List.length_append]; simp; omega)
      rwa [List.getElem_append_left hi] at this)
    obtain ⟨xs, hx, hf⟩ := hfs fs.length (by simp)
    rw [List.getElem_append_right (Nat.le_refl _)] at hf
    simp only [Nat.sub_self, List.getElem_cons_zero] at hf
    subst hf
    rw [rdF_car lf (fs.length + 1) 1 xs hlf.2 (by omega) (by omega) (by omega)] at h2
    obtain ⟨fr, ht, rfl⟩ := h2.car hlf.1 (by omega) (by omega) (by omega)
    have hpl := i1.pl
    have hds := i1.ds
    have hborn : (k1.born (lf : Int)).all = (fs.length : Int) ∧ (∀ x, (k1.born (lf : Int)).S x = false) ∧ (k1.born (lf : Int)).ds = nums 0 fs.length ∧ (k1.born (lf : Int)).ls = [] ∧ (k1.born (lf : Int)).pl = (lf : Int) := by
      unfold Lk.born
      split
      · rename_i hle
        have hne : ¬ fs.length = 0 := fun e => by rw [if_pos e] at hpl; omega
        rw [if_neg hne] at hpl
        exact ⟨i1.all, i1.S, hds, i1.ls, hpl⟩
      · rename_i hle
        have he : fs.length = 0 := by
          rcases Nat.eq_zero_or_pos fs.length with e | e
          · exact e
          · rw [if_neg (by omega)] at hpl; omega
        rw [he]
        exact ⟨rfl, fun _ => rfl, rfl, i1.ls, rfl⟩
    obtain ⟨c1, c2, c3, c4, c5⟩ := hborn
    obtain ⟨rfl, rfl⟩ := take_next ht (by
      rw [hpl]
      split <;> omega) c2 (by rw [c1]; omega)
    refine ⟨⟨?_, ?_, fun _ => rfl, ?_, c4⟩, ?_⟩
    · rw [List.length_append, List.length_singleton, if_neg (by omega)]
      exact c5
    · rw [List.length_append, List.length_singleton]
    · show ((k1.born (lf : Int)).owe _).ds = _
      unfold Lk.owe
      rw [if_pos (by rw [c3, nums_len]; omega)]
      show (k1.born (lf : Int)).ds ++ _ = _
      rw [c3, List.length_append, List.length_singleton, nums_snoc]
      congr 3
      omega
    · rw [List.length_append, List.length_append, i2]
      rfl
theorem BB.recs {k : Lk} {lf j : Nat} (h : BB k lf j) (now : Int) : (k.recs ++ k.carries now).length = j ∧ ∀ i (hi : i < (k.recs ++ k.carries now).length), (k.recs ++ k.carries now)[i] = frB 2 lf (i + 1) 0 [] := by
  have e1 : k.carries now = [] := by unfold Lk.carries; rw [h.ls]; rfl
  have e2 : k.recs = (nums 0 j).map fun d => frB 2 k.pl.toNat d.toNat 0 [] := by unfold Lk.recs; rw [h.ds]
  rw [e1, List.append_nil]
  refine ⟨by rw [e2, List.length_map, nums_len], fun i hi => ?_⟩
  have hj : i < j := by rw [e2, List.length_map, nums_len] at hi; exact hi
  simp only [e2, List.getElem_map]
  rw [nums_get 0 j i hj, h.pl, if_neg (by omega)]
  congr 1
  omega
end Go.Proofs.Ytpbfibofjkinmaa
