/-
  Ends of a link as plain mathematics: what Send, Out, In make of an end in reach; what a frame says. No condition.
-/
import Derived.Test.YtpbfibofjkinmaaLinkT
set_option linter.unusedSimpArgs false
set_option linter.unusedVariables false
namespace Go.Proofs.Ytpbfibofjkinmaa
open Go.RowKit Go.Maps

theorem clampB_num (x hi : Int) (h1 : 1 ≤ hi) (h2 : hi ≤ 1099511627776) : 1 ≤ clampB x hi ∧ clampB x hi ≤ 1099511627776 := by unfold clampB; omega
theorem Fit.new (b r : Int) : Fit (Lk.new b r) := by
  have h1 := clampB_num b 1099511627776 (by omega) (by omega)
  refine ⟨⟨?_, ?_, ?_, ?_, ?_⟩, ?_, ?_, ?_, ?_⟩
  · exact ⟨by show 0 ≤ clampB b 1099511627776; omega, by show clampB b 1099511627776 ≤ _; omega⟩
  · exact ⟨Int.le_refl _, by show (0 : Int) ≤ _; omega⟩
  · exact ⟨Int.le_refl _, by show (0 : Int) ≤ _; omega⟩
  · intro d hd; cases hd
  · intro d hd; cases hd
  · exact ⟨Int.le_refl _, by show (0 : Int) ≤ _; omega⟩
  · intro x hx; cases hx
  · exact Nat.zero_le _
  · intro d hd; cases hd
theorem Fit.send {k k' : Lk} {xs : List UInt8} (h : Fit k) (hs : SendP k xs k') (h1 : k.last ≤ 1099511627776) : Fit k' := by
  by_cases he : sendE k xs.length = 0
  · obtain ⟨A, n, c, rfl⟩ := hs.2 he
    have h0 := h.nums.last
    unfold Num at h0
    refine ⟨⟨h.nums.life, h.nums.pl, ⟨by show 0 ≤ k.last + 1; omega, by show k.last + 1 ≤ _; omega⟩, h.nums.ds, fun l hl => ?_⟩, h.all, h.S, h.ds, fun l hl => ?_⟩
    · rcases List.mem_append.1 hl with h5 | h5
      · exact h.nums.ls l h5
      · simp at h5
        subst h5
        exact ⟨by show 0 ≤ k.last + 1; omega, by show k.last + 1 ≤ _; omega⟩
    · rcases List.mem_append.1 hl with h5 | h5
      · have := h.le l h5
        show l.num ≤ k.last + 1
        omega
      · simp at h5
        subst h5
        exact Int.le_refl _
  · rw [hs.1 he]; exact h
theorem stamp_num (now r : Int) (l : Ltr) : (Ltr.stamp now r l).num = l.num ∧ (Ltr.stamp now r l).xs = l.xs := by
  unfold Ltr.stamp
  split <;> exact ⟨rfl, rfl⟩
theorem Fit.out {k : Lk} (h : Fit k) (now : Int) : Fit (k.sentAt now) := by
  refine ⟨⟨h.nums.life, h.nums.pl, h.nums.last, fun d hd => (by cases hd), fun l hl => ?_⟩, h.all, h.S, Nat.zero_le _, fun l hl => ?_⟩
  · obtain ⟨l', h1, rfl⟩ := List.mem_map.1 hl
    rw [(stamp_num now k.retry l').1]
    exact h.nums.ls l' h1
  · obtain ⟨l', h1, rfl⟩ := List.mem_map.1 hl
    rw [(stamp_num now k.retry l').1]
    exact h.le l' h1

/-- What 'all' comes to is one number. -/
theorem RaiseP.uniq {k : Lk} {n a b : Int} (h : RaiseP k n a) (h' : RaiseP k n b) : a = b := by
  rcases Int.lt_trichotomy a b with hl | rfl | hl
  · have h1 := h'.2.1 (a + 1) (by have := h.1; omega) (by omega)
    rw [h.2.2] at h1
    cases h1
  · rfl
  · have h1 := h.2.1 (b + 1) (by have := h'.1; omega) (by omega)
    rw [h'.2.2] at h1
    cases h1
theorem RaiseP.of_empty {k : Lk} {n a : Int} (h : RaiseP k n a) (hS : ∀ x, max k.all n < x → k.S x = false) : a = max k.all n := by
  rcases Int.lt_or_le (max k.all n) a with h3 | h3
  · have := h.2.1 a h3 (Int.le_refl _)
    rw [hS a h3] at this
    cases this
  · have := h.1
    omega

theorem Fit.born {k : Lk} (h : Fit k) {lf : Int} (hl : Num lf) : Fit (k.born lf) ∧ (k.born lf).cnt = k.cnt ∧ (k.born lf).life = k.life ∧ (k.born lf).last = k.last ∧ (k.born lf).ls = k.ls ∧ (k.born lf).retry = k.retry := by
  unfold Lk.born
  split
  · exact ⟨h, rfl, rfl, rfl, rfl, rfl⟩
  · refine ⟨⟨⟨h.nums.life, hl, h.nums.last, fun d hd => (by cases hd), h.nums.ls⟩, ⟨Int.le_refl _, by show (0 : Int) ≤ _; omega⟩, fun x hx => (by cases hx), Nat.zero_le _, h.le⟩, rfl, rfl, rfl, rfl, rfl⟩
theorem Fit.raise {k : Lk} (h : Fit k) {n a : Int} (hr : RaiseP k n a) (hn : n ≤ 2199023255552) : Fit { k with all := a, S := fun x => k.S x && decide (a < x) } := by
  have ha := h.all
  unfold Num at ha
  have h1 := hr.le ha.2 hn h.S
  have h2 := hr.1
  refine ⟨⟨h.nums.life, h.nums.pl, h.nums.last, h.nums.ds, h.nums.ls⟩, ⟨by show 0 ≤ a; omega, h1⟩, fun x hx => ?_, h.ds, h.le⟩
  have hx' : (k.S x && decide (a < x)) = true := hx
  rw [Bool.and_eq_true] at hx'
  exact h.S x hx'.1
theorem Fit.owe {k : Lk} (h : Fit k) {n : Int} (hn : Num n) : Fit (k.owe n) ∧ (k.owe n).cnt = k.cnt ∧ (k.owe n).life = k.life ∧ (k.owe n).last = k.last ∧ (k.owe n).ls = k.ls ∧ (k.owe n).retry = k.retry := by
  unfold Lk.owe
  split
  · refine ⟨⟨⟨h.nums.life, h.nums.pl, h.nums.last, fun d hd => ?_, h.nums.ls⟩, h.all, h.S, ?_, h.le⟩, rfl, rfl, rfl, rfl, rfl⟩
    · rcases List.mem_append.1 hd with h5 | h5
      · exact h.nums.ds d h5
      · simp at h5
        rw [h5]
        exact hn
    · show (k.ds ++ [n]).length ≤ 32
      rw [List.length_append]
      simp
      omega
  · exact ⟨h, rfl, rfl, rfl, rfl, rfl⟩
theorem Fit.plus {k : Lk} (h : Fit k) {n : Int} (hn : Num n) : Fit (k.plus n) := by
  refine ⟨⟨h.nums.life, h.nums.pl, h.nums.last, h.nums.ds, h.nums.ls⟩, h.all, fun x hx => ?_, h.ds, h.le⟩
  have hx' : (k.S x || decide (x = n)) = true := hx
  rw [Bool.or_eq_true] at hx'
  rcases hx' with e | e
  · exact h.S x e
  · rw [of_decide_eq_true e]; exact hn.2

/-- What stays of an end, whatever comes in. -/
structure Like (k k' : Lk) : Prop where
  life : k'.life = k.life
  last : k'.last = k.last
  retry : k'.retry = k.retry
  ls : k'.ls.Sublist k.ls
theorem Like.refl (k : Lk) : Like k k := ⟨rfl, rfl, rfl, List.Sublist.refl _⟩
theorem Like.trans {a b c : Lk} (h : Like a b) (h' : Like b c) : Like a c := ⟨h'.life.trans h.life, h'.last.trans h.last, h'.retry.trans h.retry, h'.ls.trans h.ls⟩

theorem Fit.take {k k' : Lk} {lf nm od : Int} {fr : Bool} (h : Fit k) (ht : TakeP k lf nm od fr k') (hl : Num lf) (hn : Num nm) (ho : Num od) : Fit k' ∧ k'.cnt ≤ k.cnt + (if fr = true then 1 else 0) ∧ k'.life = k.life ∧ k'.last = k.last ∧ k'.ls = k.ls ∧ k'.retry = k.retry := by
  rcases ht with ⟨_, rfl, rfl⟩ | ⟨_, a, k1, hr, rfl, hc⟩
  · exact ⟨h, by simp, rfl, rfl, rfl, rfl⟩
  · obtain ⟨b1, b2, b3, b4, b5, b6⟩ := h.born hl
    have r1 := b1.raise hr (by unfold Num at ho; omega)
    generalize k.born lf = kb at *
    have hcm : ∀ k1 : Lk, k1 = ({ kb with all := a, S := fun x => kb.S x && decide (a < x) } : Lk) → k1.cnt = kb.cnt ∧ k1.life = kb.life ∧ k1.last = kb.last ∧ k1.ls = kb.ls ∧ k1.all = a ∧ k1.retry = kb.retry := by rintro k1 rfl; exact ⟨rfl, rfl, rfl, rfl, rfl, rfl⟩
    obtain ⟨d1, d2, d3, d4, d5, d6⟩ := hcm _ rfl
    generalize ({ kb with all := a, S := fun x => kb.S x && decide (a < x) } : Lk) = k1 at *
    rcases hc with ⟨_, rfl, rfl⟩ | ⟨_, ⟨_, rfl, rfl⟩ | ⟨_, rfl, a', hr', rfl⟩⟩
    · exact ⟨r1, by omega, d2.trans b3, d3.trans b4, d4.trans b5, d6.trans b6⟩
    · obtain ⟨e1, e2, e3, e4, e5, e6⟩ := r1.owe hn
      exact ⟨e1, by omega, e3.trans (d2.trans b3), e4.trans (d3.trans b4), e5.trans (d4.trans b5), e6.trans (d6.trans b6)⟩
    · obtain ⟨e1, e2, e3, e4, e5, e6⟩ := r1.owe hn
      have ha := r1.all
      rw [d5] at ha
      refine ⟨(e1.plus hn).raise hr' (by unfold Num at ha; omega), ?_, e3.trans (d2.trans b3), e4.trans (d3.trans b4), e5.trans (d4.trans b5), e6.trans (d6.trans b6)⟩
      show (k1.owe nm).cnt + 1 ≤ _
      simp
      omega
theorem rdF_num (fs : List UInt8) : Num ((rdF fs).lf : Int) ∧ Num ((rdF fs).nm : Int) ∧ Num ((rdF fs).od : Int) := by
  have h := rdF_le fs
  unfold M40 at h
  unfold Num
  omega
theorem Fit.in_ {k k' : Lk} {fs : List UInt8} {o : Option (List UInt8)} (h : Fit k) (hp : InP k (rdF fs) k' o) : Fit k' ∧ k'.cnt ≤ k.cnt + o.toList.length ∧ Like k k' := by
  obtain ⟨n1, n2, n3⟩ := rdF_num fs
  rcases hp with ⟨_, rfl, rfl⟩ | ⟨_, _, rfl, rfl⟩ | ⟨_, _, fr, ht, rfl⟩
  · exact ⟨h, by simp, Like.refl _⟩
  · split
    · refine ⟨⟨⟨h.nums.life, h.nums.pl, h.nums.last, h.nums.ds, fun l hl => h.nums.ls l (List.mem_filter.1 hl).1⟩, h.all, h.S, h.ds, fun l hl => h.le l (List.mem_filter.1 hl).1⟩, by simp [Lk.free], rfl, rfl, rfl, List.filter_sublist⟩
    · exact ⟨h, by simp, Like.refl _⟩
  · obtain ⟨f1, f2, f3, f4, f5, f6⟩ := h.take ht n1 n2 n3
    refine ⟨f1, ?_, f3, f4, f6, by rw [f5]; exact List.Sublist.refl _⟩
    cases fr
    · simpa using f2
    · simpa using f2
end Go.Proofs.Ytpbfibofjkinmaa
