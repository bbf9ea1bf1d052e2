/-
  What calls on an end may turn; Waiting, oldest. No condition.
-/
import Derived.Test.YtpbfibofjkinmaaLinkB
import Derived.Test.YtpbfibofjkinmaaPcs
set_option linter.unusedSimpArgs false
set_option linter.unusedVariables false
namespace Go.Proofs.Ytpbfibofjkinmaa
open Go.RowKit Go.Maps

/-- The blocks that a call on an end may turn. -/
def LBl (g : Nat) (wv mv dv : Value) (j : Nat) : Prop := j = g ∨ wv.ownBlock = some j ∨ mapBlock mv = some j ∨ dv.ownBlock = some j

/-- Blocks of two types are two. -/
theorem typed_ne {w : World} {a b : Nat} {ca cb : Array Value} {ta tb : TypeId} {fa fb : Nat × Nat} (h : w.heap[a]? = some (.cells ca ta fa)) (h' : w.heap[b]? = some (.cells cb tb fb)) (hne : ta ≠ tb) : a ≠ b := by
  rintro rfl
  rw [h] at h'
  injection h' with h1
  injection h1 with _ h2
  exact hne h2
theorem SetIs.block {w : World} {base n : Nat} {mv : Value} {S : Int → Bool} (h : SetIs w base n mv S) : ∀ b, mapBlock mv = some b → ∀ cs t f, w.heap[b]? ≠ some (.cells cs t f) := by
  intro b hb cs t f he
  rcases h with ⟨rfl, _⟩ | ⟨b', rfl, _, D, ⟨es, cl, h1, h2⟩, _⟩
  · cases hb
  · injection hb with hb
    subst hb
    rw [h1] at he
    cases he

section
variable {w w' : World} {base g : Nat} {wv mv dv : Value} {k : Lk}
theorem IsK.lt (h : IsK w base g wv mv dv k) : ∀ j, LBl g wv mv dv j → base ≤ j ∧ j < w.heap.size := by
  rintro j (rfl | hj | hj | hj)
  · exact ⟨h.bg, lt_of_block h.blk⟩
  · exact h.row.lt j hj
  · exact h.set.lt j hj
  · exact World.ownsRow.lt h.due j hj
/-- A block of other cells than those is none of them. -/
theorem IsK.other (h : IsK w base g wv mv dv k) {j : Nat} {cs : Array Value} {t : TypeId} {f : Nat × Nat} (hj : w.heap[j]? = some (.cells cs t f)) (h1 : t ≠ 89) (h2 : t ≠ 93) (h3 : t ≠ 3) : ¬ LBl g wv mv dv j := by
  rintro (rfl | e | e | e)
  · exact typed_ne hj h.blk h1 rfl
  · obtain ⟨cur, hc⟩ := h.row.typed j e
    exact typed_ne hj hc h2 rfl
  · exact h.set.block j e cs t f hj
  · obtain ⟨cur, hc⟩ := ownsRow_typed h.due j e
    exact typed_ne hj hc h3 rfl
theorem IsK.apart (h : IsK w base g wv mv dv k) {l : Ltr} (hl : l ∈ k.ls) : ∀ j, l.sl.ownBlock = some j → ¬ LBl g wv mv dv j := fun j hj => by
  obtain ⟨cur, hc⟩ := ownsRow_typed (h.dat l hl).1 j hj
  exact h.other hc (by decide) (by decide) (by decide)
theorem IsK.kept {F : Nat → Prop} (h : IsK w base g wv mv dv k) (hk : Kept F w w') (hF : ∀ j, F j → ¬ LBl g wv mv dv j ∧ ∀ l ∈ k.ls, l.sl.ownBlock ≠ some j) : IsK w' base g wv mv dv k :=
  ⟨(hk.block g (lt_of_block h.blk) (fun hf => (hF g hf).1 (.inl rfl))).trans h.blk, h.bg,
    h.row.keep fun j hj => hk.block j (h.row.lt j hj).2 (fun hf => (hF j hf).1 (.inr (.inl hj))),
    fun l hl => ⟨(h.dat l hl).1.keep fun j hj => hk.block j ((h.dat l hl).1.lt j hj).2 (fun hf => (hF j hf).2 l hl hj), (h.dat l hl).2⟩,
    h.set.keep fun j hj => hk.block j (h.set.lt j hj).2 (fun hf => (hF j hf).1 (.inr (.inr (.inl hj)))),
    by
      have hd := h.due
      refine ⟨hd.1, ?_⟩
      rcases hd.2 with h2 | ⟨g', cap, cur, hv, hg, hh, r⟩
      · exact .inl h2
      · exact .inr ⟨g', cap, cur, hv, hg, by rw [hk.block g' (lt_of_block hh) (fun hf => (hF g' hf).1 (.inr (.inr (.inr (by rw [hv]; rfl)))))]; exact hh, r⟩, h.len, h.dsl⟩
theorem IsK.below (h : IsK w base g wv mv dv k) (hb : Below w.heap.size w w') : IsK w' base g wv mv dv k := h.kept (F := fun _ => False) (Kept.of_below hb) (fun _ hf => hf.elim)
theorem IsK.drew (h : IsK w base g wv mv dv k) : IsK w.drew base g wv mv dv k := h.below (Below.refl _ _).drew
end

theorem lwaiting_any (base g : Nat) (wv mv dv : Value) (k : Lk) (w : World) (h : IsK w base g wv mv dv k) : Calls Try.prog 44 #[.pointer (some ⟨g, 0, none⟩)] w fun e w' => e = .returned (.int .i64 (k.ls.length : Int)) ∧ w = w' := by
  obtain ⟨A, n, c, rfl, hn, hnc, hm, _⟩ := h.row.form
  have hc := (row_cells h.blk 3).1
  simp only [List.getElem?_toArray, List.getElem?_cons_succ, List.getElem?_cons_zero] at hc
  have hn' : Hid (k.ls.length = n) := hide (by have := hn.out; simpa using this)
  go_enter Try.func44, Try.ntmps44
  go_wp2
  go_ret
  exact ⟨by rw [hn'.out]; rfl, rfl⟩
theorem lwaiting_nil (w : World) : Calls Try.prog 44 #[.pointer none] w fun e w' => e = .returned (.int .i64 0) ∧ w = w' := by
  go_enter Try.func44, Try.ntmps44
  go_wp2
  go_ret
  exact ⟨rfl, rfl⟩

/-- The number of the oldest letter, or of the next one. -/
def Lk.old (k : Lk) : Int := match k.ls with | [] => k.last + 1 | l :: _ => l.num

theorem loldest_any (base g : Nat) (wv mv dv : Value) (k : Lk) (w : World) (h : IsK w base g wv mv dv k) (h0 : 0 ≤ k.last) (h1 : k.last ≤ 4611686018427387904) : Calls Try.prog 56 #[.pointer (some ⟨g, 0, none⟩)] w fun e w' => e = .returned (.int .i64 k.old) ∧ w = w' := by
  obtain ⟨A, n, c, rfl, hn, hnc, hm, hr, h00, _⟩ := h.row.form
  have hc := (row_cells h.blk 3).1
  have hc2 := (row_cells h.blk 2).1
  simp only [List.getElem?_toArray, List.getElem?_cons_succ, List.getElem?_cons_zero] at hc hc2
  have hn' : k.ls.length = n := by have := hn.out; simpa using this
  obtain ⟨life, retry, last, ls, pl, all, S, ds, cnt⟩ := k
  simp only at *
  cases ls with
  | nil =>
    obtain rfl : n = 0 := by simpa using hn'.symm
    have hw : IntKind.i64.wrap (last + 1) = last + 1 := IntWalk.i64_in _ (by omega)
    go_enter Try.func56, Try.ntmps56
    go_wp2
    go_ret
    exact ⟨rfl, rfl⟩
  | cons l ls =>
    obtain ⟨gb, rfl, hra, _, _⟩ := hr 0 (by simp)
    have r0 := hra 0 (.int .i64 l.num) (by simp [Ltr.cells])
    simp only [Nat.zero_mul, Nat.add_zero] at r0
    have hnz : ((n : Int) == 0) = false := by simp at hn' ⊢; omega
    have hnp : (0 : Int) < (n : Int) := by simp at hn'; omega
    clear hr hra hn hn'
    go_enter Try.func56, Try.ntmps56
    go_wp2
    go_ret
    exact ⟨rfl, rfl⟩
end Go.Proofs.Ytpbfibofjkinmaa
