/-
  Lose of package net. No condition.
-/
import Derived.Test.YtpbfibofjkinmaaDelP
set_option linter.unusedSimpArgs false
set_option linter.unusedVariables false
namespace Go.Proofs.Ytpbfibofjkinmaa
open Go.RowKit

set_option maxHeartbeats 800000 in
set_option maxRecDepth 20000 in
theorem delP_nil (x : Int) (n c b : Nat) (w : World) (hn : n = 0) (hb : w.heap[b]? = some (.cells #[.int .i64 x] 3 (0, 0))) :
    Calls Try.prog 53 #[.slice none n c, .func (.func 54) #[] #[.pointer (some ⟨b, 0, none⟩)]] w fun e w' => e = .returned (.slice none n c) ∧ Below w.heap.size w w' := by
  have hidx := idxP_any x b none n c [] w (fun i hi => absurd hi (by simp)) (by rw [hn]; rfl) (by omega) hb
  rw [show idxV (ofNode x) [] n = -1 from by unfold idxV; rw [if_pos (by rw [hn]; rfl)]] at hidx
  clear hb hn
  go_enter Try.func53, Try.ntmps53
  go_wp2_with fail
  refine hidx.mono ?_
  rintro e w1 ⟨rfl, hk1⟩
  clear hidx
  go_wp2
  go_ret
  exact ⟨rfl, hk1⟩

theorem filter_dat {w : World} {base : Nat} {q : Pkt → Bool} {ps : List Pkt} (h : ∀ p ∈ ps, Own w base p.sl p.xs) : ∀ p ∈ ps.filter q, Own w base p.sl p.xs := fun p hp => h p (List.mem_filter.1 hp).1

/-- What Lose leaves. -/
def LoseEnds (x : Int) (base g : Nat) (v : Value) (ps : List Pkt) (w : World) (e : Ending) (w' : World) : Prop :=
  e = .returned (.int .i64 ((ps.length : Int) - ((ps.filter (fun p => !ofNode x p)).length : Int))) ∧ ∃ v', IsN w' base g v' (ps.filter (fun p => !ofNode x p)) ∧ v'.ownBlock = v.ownBlock ∧ Kept (NB g v) w w'

set_option maxHeartbeats 1600000 in
set_option maxRecDepth 20000 in
theorem nlose_any (x : Int) (base g : Nat) (v : Value) (ps : List Pkt) (w : World) (h : IsN w base g v ps) :
    Calls Try.prog 30 #[.pointer (some ⟨g, 0, none⟩), .int .i64 x] w (LoseEnds x base g v ps w) := by
  have hp0 := heap_alloc_new w (.cells #[.int .i64 x] 3)
  have hb0 : Below w.heap.size w (w.alloc (.cells #[.int .i64 x] 3)) := by go_grown
  have hsz := lt_of_block h.blk
  have hbg := h.bg
  have hl5 := h.len
  obtain ⟨fl, hfl⟩ : ∃ fl, fl = (ps.filter (fun p => !ofNode x p)).length := ⟨_, rfl⟩
  have hfle : fl ≤ ps.length := by rw [hfl]; exact List.length_filter_le _ _
  go_enter Try.func30, Try.ntmps30
  go_upto_region 1 with fail
  generalize w.alloc (.cells #[.int .i64 x] 3) = w1 at *
  have h1 := h.below hb0
  have hlen := nlen_any base g v ps w1 h1
  go_wp2_with fail
  refine hlen.mono ?_
  rintro e w2 ⟨rfl, rfl⟩
  obtain ⟨Av, nv, cv, rfl, hnv, hncv, hcm, hrv, hz, hgv⟩ := h1.row.form
  have hnv' : Hid (ps.length = nv) := hide (by have := hnv.out; simpa using this)
  have hn5 : nv ≤ 512 := by have := hnv'.out; omega
  have c0 := (row_cells h1.blk 0).1
  simp only [List.getElem?_toArray, List.getElem?_cons_zero] at c0
  have hmf : ∀ (fn : Fn) (first cap : Array Value) (w : World), (Instr.makeFunc fn first cap).run Try.prog w = .ok (.func fn first cap) w := fun _ _ _ _ => rfl
  rcases Av with _ | ⟨gb, o, sp⟩
  · have hz0 := hz rfl
    have hps : ps = [] := List.eq_nil_of_length_eq_zero (by have := hnv'.out; omega)
    subst hps
    obtain rfl : nv = 0 := hz0
    have hdel := delP_nil x 0 cv w.heap.size w1 rfl hp0
    go_wp2_with fail
    refine hdel.mono ?_
    rintro e w3 ⟨rfl, hk3⟩
    have h3 := h1.below hk3
    have hb3 := hb0.trans (hk3.mono hb0.size)
    have hg3 := h3.blk
    have y0 := (row_cells hg3 0).1
    have y1 := (row_cells hg3 0).2
    simp only [List.getElem?_toArray, List.getElem?_cons_zero] at y0
    clear c0 hdel
    have hk4 : Kept (fun k => k = g) w3 (w3.setCell ⟨g, 0, none⟩ (.slice none 0 cv)) := (Kept.refl (fun k => k = g) w3).setCell (p := ⟨g, 0, none⟩) (.inl rfl) _
    have h4 : IsN (w3.setCell ⟨g, 0, none⟩ (.slice none 0 cv)) base g (.slice none 0 cv) [] := by
      refine ⟨by rw [set_cell_at _ hg3]; rfl, h3.bg, ?_, by simp, by simp, by simp⟩
      exact h3.row.keep fun j hj => hk4.block j (h3.row.lt j hj).2 (fun e => h3.ng (by rw [← e]; exact hj))
    have H4 := hide h4
    clear h4
    go_upto_region 5 with fail
    generalize w3.setCell ⟨g, 0, none⟩ (.slice none 0 cv) = w4 at *
    go_wp2_with fail
    refine (nlen_any base g (.slice none 0 cv) [] w4 H4.out).mono ?_
    rintro e w5 ⟨rfl, rfl⟩
    go_wp2
    go_ret
    exact ⟨rfl, .slice none 0 cv, H4.out, rfl, (Kept.of_below hb3).step hk4 (fun j hj => .inl (.inl hj))⟩
  · obtain ⟨gb', e', hbb, hgw⟩ := hgv _ rfl
    injection e' with e1 e2 e3
    subst e1 e2 e3
    have hdel := delP_any x base gb nv cv w.heap.size ps w1 h1.row hn5 hp0
    go_wp2_with fail
    refine hdel.mono ?_
    rintro e w3 ⟨m, rfl, ho3, hk3⟩
    have hng := h1.ng
    have hg3 : w3.heap[g]? = some (.cells #[.slice (some ⟨gb, 0, none⟩) nv cv] 79 (0, 0)) := (hk3.block g (lt_of_block h1.blk) (fun e => hng (by rw [e]; rfl))).trans h1.blk
    have y0 := (row_cells hg3 0).1
    have y1 := (row_cells hg3 0).2
    simp only [List.getElem?_toArray, List.getElem?_cons_zero] at y0
    have hd3 : ∀ p ∈ ps, Own w3 base p.sl p.xs := fun p hp => (h1.dat p hp).keep fun k hk => hk3.block k ((h1.dat p hp).lt k hk).2 (fun e => h1.apart hp k hk (.inr (by rw [e]; rfl)))
    have hk4 : Kept (fun k => k = g) w3 (w3.setCell ⟨g, 0, none⟩ (.slice (some ⟨gb, 0, none⟩) m cv)) := (Kept.refl (fun k => k = g) w3).setCell (p := ⟨g, 0, none⟩) (.inl rfl) _
    have h4 : IsN (w3.setCell ⟨g, 0, none⟩ (.slice (some ⟨gb, 0, none⟩) m cv)) base g (.slice (some ⟨gb, 0, none⟩) m cv) (ps.filter (fun p => !ofNode x p)) := by
      refine ⟨by rw [set_cell_at _ hg3]; rfl, h1.bg, ?_, ?_, fun p hp => h1.ok p (List.mem_filter.1 hp).1, by omega⟩
      · exact ho3.keep fun j hj => hk4.block j (ho3.lt j hj).2 (fun e => hng (by rw [← e]; exact hj))
      · exact filter_dat fun p hp => (hd3 p hp).keep fun k hk => hk4.block k ((hd3 p hp).lt k hk).2 (fun e => h1.apart hp k hk (.inl e))
    have HK : Hid (Kept (NB g (.slice (some ⟨gb, 0, none⟩) nv cv)) w (w3.setCell ⟨g, 0, none⟩ (.slice (some ⟨gb, 0, none⟩) m cv))) :=
      hide (((Kept.of_below hb0).step hk3 (fun j hj => .inl (.inr (by rw [hj]; rfl)))).step hk4 (fun j hj => .inl (.inl hj)))
    have H4 := hide h4
    clear h4 hk4 c0 hdel hd3 ho3
    go_upto_region 5 with fail
    generalize w3.setCell ⟨g, 0, none⟩ (.slice (some ⟨gb, 0, none⟩) m cv) = w4 at *
    have hlen4 := nlen_any base g _ _ w4 H4.out
    rw [← hfl] at hlen4
    go_wp2_with fail
    refine hlen4.mono ?_
    rintro e w5 ⟨rfl, rfl⟩
    have hsub : IntKind.i64.wrap ((ps.length : Int) - (fl : Int)) = (ps.length : Int) - (fl : Int) := IntWalk.i64_in _ (by omega)
    go_wp2
    go_ret
    exact ⟨by rw [← hfl]; rfl, _, H4.out, rfl, HK.out⟩
end Go.Proofs.Ytpbfibofjkinmaa
