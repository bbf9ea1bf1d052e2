/-
  begin of package link's inbox. No condition.
-/
import Derived.Test.YtpbfibofjkinmaaLinkH
set_option linter.unusedSimpArgs false
set_option linter.unusedVariables false
namespace Go.Proofs.Ytpbfibofjkinmaa
open Go.RowKit Go.Maps

theorem clear_nil (w : World) (ty : TypeId) : (Builtin.clear_ #[85] ty #[.map none]).run Try.prog w = .ok (.tuple #[]) w := by
  simp [Builtin.clear_, run_underlying Try.underlying85, Result.andThen]
theorem clear_some {w : World} {b n : Nat} {S : Int → Bool} (h : IntSet w b n S) :
    ∃ w', (∀ ty, (Builtin.clear_ #[85] ty #[.map (some b)]).run Try.prog w = .ok (.tuple #[]) w') ∧ IntSet w' b n (fun _ => false) ∧ Kept (fun j => j = b) w w' := by
  obtain ⟨D, ⟨es, cl, hb, hf, hs, _⟩, _⟩ := h
  refine ⟨{ w with heap := w.heap.setIfInBounds b (.map #[] cl) }, fun ty => ?_, ⟨.map [], ⟨#[], cl, (MapKept.heap_set hb).1, ⟨by simp, MapKept.stamped_empty _, by simp⟩, by simp, rfl⟩, fun _ => rfl⟩, ?_⟩
  · simp [Builtin.clear_, run_underlying Try.underlying85, MapKept.run_getObj_map hb, MapKept.run_setObj_map _ hb, Result.andThen]
  · exact ⟨rfl, rfl, rfl, by simp, fun j _ hj => (MapKept.heap_set hb).2 j hj⟩

/-- The end behind a life that may be newer. -/
def Lk.born (k : Lk) (life : Int) : Lk := if life ≤ k.pl then k else { k with pl := life, all := 0, ds := [], S := fun _ => false }

/-- What begin leaves. -/
def BeginEnds (base g : Nat) (wv mv dv : Value) (k : Lk) (life : Int) (w : World) (e : Ending) (w' : World) : Prop :=
  e = .returned (.tuple #[]) ∧ ∃ dv', IsK w' base g wv mv dv' (k.born life) ∧ Kept (LBl g wv mv dv) w w' ∧ (dv' = dv ∨ dv' = .slice none 0 0)

section
variable {w : World} {base g : Nat} {wv mv dv : Value} {k : Lk}
theorem IsK.born0 (h : IsK w base g wv mv dv k) (life : Int) :
    IsK (((w.setCell ⟨g, 4, none⟩ (.int .i64 life)).setCell ⟨g, 5, none⟩ (.int .i64 0)).setCell ⟨g, 7, none⟩ (.slice none 0 0)) base g wv mv (.slice none 0 0) { k with pl := life, all := 0, ds := [] } ∧
      Kept (fun j => j = g) w (((w.setCell ⟨g, 4, none⟩ (.int .i64 life)).setCell ⟨g, 5, none⟩ (.int .i64 0)).setCell ⟨g, 7, none⟩ (.slice none 0 0)) := by
  have hk : Kept (fun j => j = g) w (((w.setCell ⟨g, 4, none⟩ (.int .i64 life)).setCell ⟨g, 5, none⟩ (.int .i64 0)).setCell ⟨g, 7, none⟩ (.slice none 0 0)) :=
    (((Kept.refl (fun j => j = g) w).setCell (p := ⟨g, 4, none⟩) (.inl rfl) _).setCell (p := ⟨g, 5, none⟩) (.inl rfl) _).setCell (p := ⟨g, 7, none⟩) (.inl rfl) _
  obtain ⟨r1, r2, _⟩ := h.rest hk (fun j hj => .inl hj)
  exact ⟨⟨by simp [World.setCell, Array.getElem?_modify, h.blk], h.bg, h.row.keep fun j hj => hk.block j (h.row.lt j hj).2 (fun e => h.ng (by rw [← e]; exact hj)), r1, r2, ⟨rfl, .inl ⟨rfl, rfl⟩⟩, h.len, by simp⟩, hk⟩
end

set_option maxRecDepth 20000 in
theorem lbegin_any (base g : Nat) (wv mv dv : Value) (k : Lk) (life : Int) (w : World) (h : IsK w base g wv mv dv k) :
    Calls Try.prog 83 #[.pointer (some ⟨g, 4, none⟩), .int .i64 life] w (BeginEnds base g wv mv dv k life w) := by
  have c4 := (row_cells h.blk 4).1
  have c5 := (row_cells h.blk 5).1
  have c7 := (row_cells h.blk 7).1
  have f4 := (row_cells h.blk 4).2
  have f5 := (row_cells h.blk 5).2
  have f7 := (row_cells h.blk 7).2
  simp only [List.getElem?_toArray, List.getElem?_cons_succ, List.getElem?_cons_zero] at c4 c5 c7
  by_cases hl : life ≤ k.pl
  · have HE : Hid (k.born life = k) := hide (by unfold Lk.born; rw [if_pos hl])
    have HH := hide h
    clear h
    go_enter Try.func83, Try.ntmps83
    go_wp2
    go_end0
    exact ⟨rfl, dv, by rw [HE.out]; exact HH.out, Kept.refl _ _, .inl rfl⟩
  · have HE : Hid (k.born life = { k with pl := life, all := 0, ds := [], S := fun _ => false }) := hide (by unfold Lk.born; rw [if_neg hl])
    have hd : decide (life ≤ k.pl) = false := decide_eq_false hl
    obtain ⟨h1, h2⟩ := h.born0 life
    have HH := hide h
    clear h
    go_enter Try.func83, Try.ntmps83
    go_upto_region 2 with fail
    generalize ((w.setCell ⟨g, 4, none⟩ (.int .i64 life)).setCell ⟨g, 5, none⟩ (.int .i64 0)).setCell ⟨g, 7, none⟩ (.slice none 0 0) = w1 at *
    have c6 := (row_cells h1.blk 6).1
    simp only [List.getElem?_toArray, List.getElem?_cons_succ, List.getElem?_cons_zero] at c6
    have H1 := hide h1
    have H2 := hide h2
    clear h1 h2 c4 c5 c7 f4 f5 f7
    rcases H1.out.set with ⟨rfl, hS0⟩ | ⟨b, rfl, hb, hs⟩
    · have hcl := clear_nil w1
      go_wp2
      go_end0
      have eS : k.S = fun _ => false := funext hS0
      exact ⟨rfl, _, by rw [HE.out, ← eS]; exact H1.out, H2.out.weak (fun j hj => .inl hj), .inr rfl⟩
    · obtain ⟨w2, hcl, hs2, hk2⟩ := clear_some hs
      have H3 := hide (H1.out.setMap rfl hk2 (.inr ⟨b, rfl, hb, hs2⟩))
      have HK := hide hk2
      clear hs hs2 hk2
      go_wp2
      go_end0
      exact ⟨rfl, _, by rw [HE.out]; exact H3.out, (H2.out.weak (fun j hj => .inl hj)).step HK.out (fun j hj => .inl (.inr (.inr (.inl (by rw [hj]; rfl))))), .inr rfl⟩
end Go.Proofs.Ytpbfibofjkinmaa
