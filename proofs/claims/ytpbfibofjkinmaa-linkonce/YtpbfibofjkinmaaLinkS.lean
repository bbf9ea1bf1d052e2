/-
  A letter that is stamped, and due numbers that are let go: what that makes of an end. No condition.
-/
import Derived.Test.YtpbfibofjkinmaaLinkL
import Derived.Test.YtpbfibofjkinmaaLinkP
set_option linter.unusedSimpArgs false
set_option linter.unusedVariables false
namespace Go.Proofs.Ytpbfibofjkinmaa
open Go.RowKit Go.Maps

theorem flatten_set {k : Nat} {rs : List (List Value)} (h : Wide k rs) (i j : Nat) (hj : j < k) (u : Value) (hi : i < rs.length) : rs.flatten.set (i * k + j) u = (rs.set i (rs[i].set j u)).flatten := by
  induction rs generalizing i with
  | nil => simp at hi
  | cons r rs ih =>
    have hr : r.length = k := (h r (by simp)).1
    cases i with
    | zero =>
      simp only [List.flatten_cons, Nat.zero_mul, Nat.zero_add, List.getElem_cons_zero, List.set_cons_zero]
      rw [List.set_append_left _ _ (by omega)]
    | succ i =>
      have hi' : i < rs.length := by simpa using hi
      simp only [List.flatten_cons, List.getElem_cons_succ, List.set_cons_succ]
      rw [← ih h.tail i hi', List.set_append_right _ _ (by rw [Nat.add_mul]; omega)]
      congr 2
      rw [Nat.add_mul]
      omega

/-- One cell of a row. -/
theorem OwnR.set1 {w : World} {base : Nat} {e : TypeId} {k g n c : Nat} {rs : List (List Value)} (h : OwnR w base e k (.slice (some ⟨g, 0, none⟩) n c) rs) (i j : Nat) (hj : j < k) (u : Value) (hu : u.oneCell' = true) (hi : i < rs.length) :
    OwnR (w.setCell ⟨g, i * k + j, none⟩ u) base e k (.slice (some ⟨g, 0, none⟩) n c) (rs.set i (rs[i].set j u)) := by
  obtain ⟨g', cap, cur, hv, hg, hh, hnc, hm, hcs, ht⟩ : ∃ g' cap cur, (.slice (some ⟨g, 0, none⟩) n c : Value) = .slice (some ⟨g', 0, none⟩) rs.length cap ∧ base ≤ g' ∧ w.heap[g']? = some (.cells cur e (0, 0)) ∧ rs.length ≤ cap ∧ cap ≤ maxLen ∧ cur.size = cap * k ∧ cur.toList.take (rs.length * k) = rs.flatten := by
    rcases h.row.2 with ⟨hv, _⟩ | h2
    · cases hv
    · exact h2
  injection hv with ha hn' hc'
  injection ha with ha'
  injection ha' with ha''
  subst ha'' hn' hc'
  have hwide : Wide k (rs.set i (rs[i].set j u)) := fun r hr => by
    rcases List.mem_or_eq_of_mem_set hr with h1 | h1
    · exact h.wide r h1
    · subst h1
      refine ⟨by rw [List.length_set]; exact (h.wide _ (List.getElem_mem hi)).1, fun v hv => ?_⟩
      rcases List.mem_or_eq_of_mem_set hv with h2 | h2
      · exact (h.wide _ (List.getElem_mem hi)).2 v h2
      · rw [h2]; exact hu
  have hll : (rs.set i (rs[i].set j u)).length = rs.length := List.length_set
  refine ⟨⟨hwide.len, .inr ⟨g, c, cur.setIfInBounds (i * k + j) u, by rw [hll], hg, heap_setCell_same w g (i * k + j) cur e u hh, by rw [hll]; exact hnc, hm, by simpa using hcs, ?_⟩⟩, hwide⟩
  rw [hll, ← flatten_set h.wide i j hj u hi, ← ht]
  simp only [Array.toList_setIfInBounds]
  rw [List.take_set]

section
variable {w w' : World} {base g : Nat} {wv mv dv : Value} {k : Lk}
/-- The due numbers are let go. -/
theorem IsK.dueNil (h : IsK w base g wv mv dv k) : IsK (w.setCell ⟨g, 7, none⟩ (.slice none 0 0)) base g wv mv (.slice none 0 0) { k with ds := [] } ∧ Kept (fun j => j = g) w (w.setCell ⟨g, 7, none⟩ (.slice none 0 0)) := by
  have hk : Kept (fun j => j = g) w (w.setCell ⟨g, 7, none⟩ (.slice none 0 0)) := (Kept.refl (fun j => j = g) w).setCell (p := ⟨g, 7, none⟩) (.inl rfl) _
  obtain ⟨r1, r2, _⟩ := h.rest hk (fun j hj => .inl hj)
  exact ⟨⟨by rw [set_cell_at _ h.blk]; rfl, h.bg, h.row.keep fun j hj => hk.block j (h.row.lt j hj).2 (fun e => h.ng (by rw [← e]; exact hj)), r1, r2, ⟨rfl, .inl ⟨rfl, rfl⟩⟩, h.len, by simp⟩, hk⟩
end
/-- A letter counts as sent. -/
theorem IsK.stampAt {w : World} {base g gb n c : Nat} {mv dv : Value} {k : Lk} (h : IsK w base g (.slice (some ⟨gb, 0, none⟩) n c) mv dv k) (i : Nat) (hi : i < k.ls.length) (now : Int) :
    IsK ((w.setCell ⟨gb, i * 4 + 2, none⟩ (.bool true)).setCell ⟨gb, i * 4 + 3, none⟩ (.int .i64 now)) base g (.slice (some ⟨gb, 0, none⟩) n c) mv dv { k with ls := k.ls.set i { k.ls[i] with sent := true, at_ := now } } ∧
      Kept (fun j => j = gb) w ((w.setCell ⟨gb, i * 4 + 2, none⟩ (.bool true)).setCell ⟨gb, i * 4 + 3, none⟩ (.int .i64 now)) := by
  have hk : Kept (fun j => j = gb) w ((w.setCell ⟨gb, i * 4 + 2, none⟩ (.bool true)).setCell ⟨gb, i * 4 + 3, none⟩ (.int .i64 now)) :=
    ((Kept.refl (fun j => j = gb) w).setCell (p := ⟨gb, i * 4 + 2, none⟩) (.inl rfl) _).setCell (p := ⟨gb, i * 4 + 3, none⟩) (.inl rfl) _
  have hgb : ¬ g = gb := fun e => h.ng (by rw [e]; rfl)
  obtain ⟨r1, r2, r3⟩ := h.rest hk (fun j hj => .inr (by rw [hj]; rfl))
  have hm : i < (k.ls.map Ltr.cells).length := by simpa using hi
  have s1 := h.row.set1 i 2 (by omega) (.bool true) rfl hm
  have s2 := s1.set1 i 3 (by omega) (.int .i64 now) rfl (by rw [List.length_set]; exact hm)
  refine ⟨⟨(hk.block g (lt_of_block h.blk) hgb).trans h.blk, h.bg, ?_, fun l hl => ?_, r2, r3, by rw [List.length_set]; exact h.len, h.dsl⟩, hk⟩
  · have e : (k.ls.set i { k.ls[i] with sent := true, at_ := now }).map Ltr.cells = ((k.ls.map Ltr.cells).set i ((k.ls.map Ltr.cells)[i].set 2 (.bool true))).set i ((((k.ls.map Ltr.cells).set i ((k.ls.map Ltr.cells)[i].set 2 (.bool true)))[i]'(by rw [List.length_set]; exact hm)).set 3 (.int .i64 now)) := by
      rw [List.map_set, List.set_set, List.getElem_set_self]
      congr 1
      simp [Ltr.cells]
    show OwnR _ base 93 4 _ ((k.ls.set i { k.ls[i] with sent := true, at_ := now }).map Ltr.cells)
    rw [e]
    exact s2
  · rcases List.mem_or_eq_of_mem_set hl with h1 | h1
    · exact r1 l h1
    · rw [h1]
      exact r1 k.ls[i] (List.getElem_mem hi)
/-- A letter behind an Out: it counts as sent where it was due. -/
def Ltr.stamp (now retry : Int) (l : Ltr) : Ltr := if dueB l now retry = true then { l with sent := true, at_ := now } else l
/-- The end behind an Out. -/
def Lk.sentAt (k : Lk) (now : Int) : Lk := { k with ds := [], ls := k.ls.map (Ltr.stamp now k.retry) }
/-- The frames of an Out: receipts, and what is carried. -/
def Lk.recs (k : Lk) : List (List UInt8) := k.ds.map fun d => frB 2 k.pl.toNat d.toNat 0 []
def Lk.car (k : Lk) (l : Ltr) : List UInt8 := frB 1 k.life.toNat l.num.toNat k.old.toNat l.xs
def Lk.carries (k : Lk) (now : Int) : List (List UInt8) := (k.ls.filter fun l => dueB l now k.retry).map k.car

/-- The end in the midst of an Out: the first j letters are looked at. -/
def Lk.mid (k : Lk) (now : Int) (j : Nat) : Lk := { k with ds := [], ls := (k.ls.take j).map (Ltr.stamp now k.retry) ++ k.ls.drop j }
theorem mid_zero (k : Lk) (now : Int) : k.mid now 0 = { k with ds := [] } := by simp [Lk.mid]
theorem mid_all (k : Lk) (now : Int) : k.mid now k.ls.length = k.sentAt now := by simp [Lk.mid, Lk.sentAt]
theorem mid_at {k : Lk} {now : Int} {j : Nat} (h : j < k.ls.length) : ∃ h' : j < (k.mid now j).ls.length, (k.mid now j).ls[j] = k.ls[j] := by
  have hl : ((k.ls.take j).map (Ltr.stamp now k.retry)).length = j := by simp; omega
  refine ⟨by show j < ((k.ls.take j).map (Ltr.stamp now k.retry) ++ k.ls.drop j).length; rw [List.length_append, hl]; simp; omega, ?_⟩
  show ((k.ls.take j).map (Ltr.stamp now k.retry) ++ k.ls.drop j)[j]'_ = _
  rw [List.getElem_append_right (by omega)]
  simp only [hl, Nat.sub_self, List.getElem_drop, Nat.add_zero]
theorem mid_due {k : Lk} {now : Int} {j : Nat} (h : j < k.ls.length) (hd : dueB k.ls[j] now k.retry = true) : ({ k.mid now j with ls := (k.mid now j).ls.set j { k.ls[j] with sent := true, at_ := now } } : Lk) = k.mid now (j + 1) := by
  have hl : ((k.ls.take j).map (Ltr.stamp now k.retry)).length = j := by simp; omega
  have e : (k.mid now j).ls.set j { k.ls[j] with sent := true, at_ := now } = (k.ls.take (j + 1)).map (Ltr.stamp now k.retry) ++ k.ls.drop (j + 1) := by
    show ((k.ls.take j).map (Ltr.stamp now k.retry) ++ k.ls.drop j).set j _ = _
    rw [List.set_append_right _ _ (by omega), hl, Nat.sub_self, List.take_succ_eq_append_getElem h, List.drop_eq_getElem_cons h, List.set_cons_zero, List.map_append, List.map_singleton, List.append_assoc, List.singleton_append]
    rw [show Ltr.stamp now k.retry k.ls[j] = { k.ls[j] with sent := true, at_ := now } from by unfold Ltr.stamp; rw [if_pos hd]]
  rw [e]
  rfl
theorem mid_not {k : Lk} {now : Int} {j : Nat} (h : j < k.ls.length) (hd : dueB k.ls[j] now k.retry = false) : k.mid now (j + 1) = k.mid now j := by
  have e : (k.ls.take (j + 1)).map (Ltr.stamp now k.retry) ++ k.ls.drop (j + 1) = (k.ls.take j).map (Ltr.stamp now k.retry) ++ k.ls.drop j := by
    rw [List.take_succ_eq_append_getElem h, List.drop_eq_getElem_cons h, List.map_append, List.map_singleton, List.append_assoc, List.singleton_append]
    rw [show Ltr.stamp now k.retry k.ls[j] = k.ls[j] from by unfold Ltr.stamp; rw [if_neg (by rw [hd]; simp)]]
  unfold Lk.mid
  rw [e]
theorem mid_old (k : Lk) (now : Int) (j : Nat) : (k.mid now j).old = k.old := by
  unfold Lk.old Lk.mid
  cases h : k.ls with
  | nil => simp
  | cons l ls =>
    cases j with
    | zero => simp
    | succ j =>
      simp only [List.take_succ_cons, List.map_cons, List.cons_append, Ltr.stamp]
      split <;> rfl
/-- What is carried of the first j letters. -/
def Lk.part (k : Lk) (now : Int) (j : Nat) : List (List UInt8) := ((k.ls.take j).filter fun l => dueB l now k.retry).map k.car
theorem part_due {k : Lk} {now : Int} {j : Nat} (h : j < k.ls.length) (hd : dueB k.ls[j] now k.retry = true) : k.part now (j + 1) = k.part now j ++ [k.car k.ls[j]] := by
  unfold Lk.part
  rw [List.take_succ_eq_append_getElem h, List.filter_append, List.filter_cons, if_pos hd, List.filter_nil, List.map_append, List.map_singleton]
theorem part_not {k : Lk} {now : Int} {j : Nat} (h : j < k.ls.length) (hd : dueB k.ls[j] now k.retry = false) : k.part now (j + 1) = k.part now j := by
  unfold Lk.part
  rw [List.take_succ_eq_append_getElem h, List.filter_append, List.filter_cons, if_neg (by rw [hd]; simp), List.filter_nil, List.append_nil]
theorem part_all (k : Lk) (now : Int) : k.part now k.ls.length = k.carries now := by simp [Lk.part, Lk.carries]
theorem part_le (k : Lk) (now : Int) (j : Nat) : (k.part now j).length ≤ k.ls.length := by
  unfold Lk.part
  rw [List.length_map]
  exact Nat.le_trans (List.length_filter_le _ _) (by simp; omega)

end Go.Proofs.Ytpbfibofjkinmaa
