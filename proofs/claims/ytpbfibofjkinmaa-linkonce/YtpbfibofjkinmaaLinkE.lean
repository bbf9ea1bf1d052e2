/-
  release of package link. No condition.
-/
import Derived.Test.YtpbfibofjkinmaaDelL
set_option linter.unusedSimpArgs false
set_option linter.unusedVariables false
namespace Go.Proofs.Ytpbfibofjkinmaa
open Go.RowKit Go.Maps

set_option maxHeartbeats 800000 in
set_option maxRecDepth 20000 in
theorem delL_nil (x : Int) (n c b : Nat) (w : World) (hn : n = 0) (hb : w.heap[b]? = some (.cells #[.int .i64 x] 3 (0, 0))) :
    Calls Try.prog 81 #[.slice none n c, .func (.func 82) #[] #[.pointer (some ⟨b, 0, none⟩)]] w fun e w' => e = .returned (.slice none n c) ∧ Below w.heap.size w w' := by
  have hidx := idxL_any x b none n c [] w (fun i hi => absurd hi (by simp)) (by rw [hn]; rfl) (by omega) hb
  rw [show idxV (ofNum x) [] n = -1 from by unfold idxV; rw [if_pos (by rw [hn]; rfl)]] at hidx
  clear hb hn
  go_enter Try.func81, Try.ntmps81
  go_wp2_with fail
  refine hidx.mono ?_
  rintro e w1 ⟨rfl, hk1⟩
  clear hidx
  go_wp2
  go_ret
  exact ⟨rfl, hk1⟩

/-- Without the letter of a number. -/
def Lk.free (k : Lk) (x : Int) : Lk := { k with ls := k.ls.filter (fun p => !ofNum x p) }

theorem lrelease_close {w1 w3 : World} {base g : Nat} {wv mv dv v3 : Value} {k : Lk} (x : Int) (h : IsK w1 base g wv mv dv k) (hk3 : Kept (fun j => wv.ownBlock = some j) w1 w3) (ho3 : OwnR w3 base 93 4 v3 ((k.free x).ls.map Ltr.cells)) :
    IsK (w3.setCell ⟨g, 3, none⟩ v3) base g v3 mv dv (k.free x) ∧ Kept (LBl g wv mv dv) w1 (w3.setCell ⟨g, 3, none⟩ v3) := by
  have hg3 := (hk3.block g (lt_of_block h.blk) h.ng).trans h.blk
  have hk4 : Kept (fun j => j = g) w3 (w3.setCell ⟨g, 3, none⟩ v3) := (Kept.refl (fun j => j = g) w3).setCell (p := ⟨g, 3, none⟩) (.inl rfl) _
  have hkF : Kept (fun j => j = g ∨ wv.ownBlock = some j) w1 (w3.setCell ⟨g, 3, none⟩ v3) := (hk3.weak (fun j hj => .inr hj)).step hk4 (fun j hj => .inl (.inl hj))
  obtain ⟨r1, r2, r3⟩ := h.rest hkF (fun j hj => hj)
  refine ⟨⟨by rw [set_cell_at _ hg3]; rfl, h.bg, ?_, fun l hl => r1 l (List.mem_filter.1 hl).1, r2, r3, Nat.le_trans (List.length_filter_le _ _) h.len, h.dsl⟩, hkF.weak (fun j hj => by
    rcases hj with e | e
    · exact .inl e
    · exact .inr (.inl e))⟩
  exact ho3.keep fun j hj => hk4.block j (ho3.lt j hj).2 (fun e => by
    obtain ⟨cur, hc⟩ := ho3.typed j hj
    exact typed_ne hc hg3 (by decide) e)

/-- What release leaves. -/
def RelEnds (base g : Nat) (wv mv dv : Value) (k : Lk) (x : Int) (w : World) (e : Ending) (w' : World) : Prop :=
  e = .returned (.tuple #[]) ∧ ∃ wv', IsK w' base g wv' mv dv (k.free x) ∧ Kept (LBl g wv mv dv) w w' ∧ ∀ j, wv'.ownBlock = some j → wv.ownBlock = some j

set_option maxHeartbeats 1600000 in
set_option maxRecDepth 20000 in
theorem lrelease_any (base g : Nat) (wv mv dv : Value) (k : Lk) (x : Int) (w : World) (h : IsK w base g wv mv dv k) : Calls Try.prog 68 #[.pointer (some ⟨g, 0, none⟩), .int .i64 x] w (RelEnds base g wv mv dv k x w) := by
  have hp0 := heap_alloc_new w (.cells #[.int .i64 x] 3)
  have hb0 : Below w.heap.size w (w.alloc (.cells #[.int .i64 x] 3)) := by go_grown
  go_enter Try.func68, Try.ntmps68
  go_upto_region 1 with fail
  generalize w.alloc (.cells #[.int .i64 x] 3) = w1 at *
  have h1 := h.below hb0
  obtain ⟨Av, nv, cv, rfl, hnv, hncv, hcm, hrv, hz, hgv⟩ := h1.row.form
  have hnv' : Hid (k.ls.length = nv) := hide (by have := hnv.out; simpa using this)
  have hn5 : nv ≤ 4096 := by have := hnv'.out; have := h1.len; omega
  have c0 := (row_cells h1.blk 3).1
  simp only [List.getElem?_toArray, List.getElem?_cons_succ, List.getElem?_cons_zero] at c0
  have hmf : ∀ (fn : Fn) (first cap : Array Value) (w : World), (Instr.makeFunc fn first cap).run Try.prog w = .ok (.func fn first cap) w := fun _ _ _ _ => rfl
  rcases Av with _ | ⟨gb, o, sp⟩
  · have hz0 := hz rfl
    have hls : k.ls = [] := List.eq_nil_of_length_eq_zero (by have := hnv'.out; omega)
    obtain rfl : nv = 0 := hz0
    have hdel := delL_nil x 0 cv w.heap.size w1 rfl hp0
    go_wp2_with fail
    refine hdel.mono ?_
    rintro e w3 ⟨rfl, hk3⟩
    have hcl := lrelease_close (v3 := .slice none 0 cv) x h1 (Kept.of_below hk3) (by
      have : (k.free x).ls = k.ls := by unfold Lk.free; rw [hls]; rfl
      rw [this]
      exact h1.row.below hk3)
    have hg3 := (h1.below hk3).blk
    have y0 := (row_cells hg3 3).1
    have y1 := (row_cells hg3 3).2
    simp only [List.getElem?_toArray, List.getElem?_cons_succ, List.getElem?_cons_zero] at y0
    have HCL := hide hcl
    clear c0 hdel hcl
    go_wp2
    go_end0
    exact ⟨rfl, _, HCL.out.1, (Kept.of_below hb0).step HCL.out.2 (fun j hj => .inl hj), fun j hj => hj⟩
  · obtain ⟨gb', e', hbb, hgw⟩ := hgv _ rfl
    injection e' with e1 e2 e3
    subst e1 e2 e3
    have hdel := delL_any x base gb nv cv w.heap.size k.ls w1 h1.row hn5 hp0
    go_wp2_with fail
    refine hdel.mono ?_
    rintro e w3 ⟨m, rfl, ho3, hk3⟩
    have hk3' : Kept (fun j => (Value.slice (some ⟨gb, 0, none⟩) nv cv).ownBlock = some j) w1 w3 := hk3.weak (fun j hj => by rw [hj]; rfl)
    have hcl := lrelease_close (v3 := .slice (some ⟨gb, 0, none⟩) m cv) x h1 hk3' ho3
    have hg3 := (hk3'.block g (lt_of_block h1.blk) h1.ng).trans h1.blk
    have y0 := (row_cells hg3 3).1
    have y1 := (row_cells hg3 3).2
    simp only [List.getElem?_toArray, List.getElem?_cons_succ, List.getElem?_cons_zero] at y0
    have HCL := hide hcl
    clear c0 hdel hcl ho3
    go_wp2
    go_end0
    exact ⟨rfl, _, HCL.out.1, (Kept.of_below hb0).step HCL.out.2 (fun j hj => .inl hj), fun j hj => hj⟩
end Go.Proofs.Ytpbfibofjkinmaa
