/-
  Tick and New of package election. No condition but that times are numbers of 64 bits.
-/
import Derived.Test.YtgdncmkhcdmjoaaElectB
set_option linter.unusedSimpArgs false
set_option linter.unusedVariables false
namespace Go.Proofs.Ytgdncmkhcdmjoaa
open Go.RowKit
section
variable {w w' : World} {g : Nat} {A : Option Addr} {n c : Nat} {t : Tm}
set_option maxHeartbeats 1600000 in
set_option maxRecDepth 20000 in
theorem ttick_any (h : IsT w g A n c t) (now : Int) (hn : In64' now) :
    Calls Try.prog 13 #[.pointer (some ⟨g, 0, none⟩), .int .i64 now] w (TmEnds g A n c (t.tick now).1 (.bool (t.tick now).2) w) := by
  have hm := tmade_any h
  have hr := h.good.r
  have hs := h.good.s
  have hw := h.good.w
  have hb := h.good.b
  obtain ⟨⟨_, _, c2, _, c4, c5, c6⟩, hf⟩ := h.cells
  have f5 := hf 5
  by_cases h1 : t.round = 1099511627776
  · have d1 : (t.round == 1099511627776) = true := by simpa using h1
    have HE : Hid (t.tick now = (t, false)) := hide (if_pos h1)
    have HH := hide h
    clear h h1 hr hs hw hb hn hf
    go_enter Try.func13, Try.ntmps13
    go_wp2_with fail
    refine hm.mono ?_
    rintro e w' ⟨rfl, rfl⟩
    go_wp2
    go_ret
    rw [HE.out]
    exact ⟨rfl, HH.out, Kept.refl _ _⟩
  have d1 : (t.round == 1099511627776) = false := by simpa using h1
  have hmn : min t.since now ≤ now := Int.min_le_right _ _
  obtain ⟨s, hsd⟩ : ∃ s, s = min t.since now := ⟨_, rfl⟩
  have hs2 : In64' s := by unfold In64' at hn ⊢; omega
  have hmx : (if now < t.since then now else t.since) = s := by rw [hsd]; split <;> omega
  obtain ⟨h2, k2⟩ := h.set (i := 5) (v := .int .i64 s) (t' := { t with since := s }) ⟨h.good.rt, h.good.b, h.good.r, hs2, h.good.w⟩ rfl rfl
  have hov := tover_any h2 now hn (by show s ≤ now; omega)
  have HT : Hid (t.tick now = if now - s < t.wait then ({ t with since := s }, false) else ({ t with round := t.round + 1, since := now, wait := min (2 * t.wait) t.most }, ldr t.ms (t.round + 1) == t.me)) := hide (by unfold Tm.tick; rw [if_neg h1, hsd])
  have HR : Hid (t.round ≠ 1099511627776) := hide h1
  generalize hw1 : w.setCell ⟨g, 5, none⟩ (.int .i64 s) = w1 at *
  have H2 := hide h2
  have K2 := hide k2
  clear h h1 hf hmn hsd h2 k2
  have hmx' := hide hmx
  cases ho : Tm.over { t with since := s } now
  · rw [ho] at hov
    have HE : Hid (t.tick now = ({ t with since := s }, false)) := hide (by rw [HT.out]; exact if_pos (by have := of_decide_eq_false ho; simp only at this; omega))
    clear ho hr hs hw hb hn hs2
    go_enter Try.func13, Try.ntmps13
    go_wp2_with fail
    refine hm.mono ?_
    rintro e _ ⟨rfl, rfl⟩
    go_wp2_with fail
    refine hov.mono ?_
    rintro e w3 ⟨rfl, hb3⟩
    go_wp2
    go_ret
    rw [HE.out]
    exact ⟨rfl, H2.out.below hb3, K2.out.step (Kept.of_below (F := fun j => j = g) hb3) (fun j hj => .inl hj)⟩
  · rw [ho] at hov
    have HE : Hid (t.tick now = ({ t with round := t.round + 1, since := now, wait := min (2 * t.wait) t.most }, ldr t.ms (t.round + 1) == t.me)) := hide (by rw [HT.out]; exact if_neg (by have := of_decide_eq_true ho; simp only at this; omega))
    obtain ⟨x, hxd⟩ : ∃ x, x = min (2 * t.wait) t.most := ⟨_, rfl⟩
    have hx1 : 1 ≤ x ∧ x ≤ t.most := by omega
    have hx2 : (if t.most < 2 * t.wait then t.most else 2 * t.wait) = x := by rw [hxd]; split <;> omega
    have v1 : IntKind.i64.wrap (t.round + 1) = t.round + 1 := IntWalk.i64_in _ (by omega)
    have v2 : IntKind.i64.wrap (2 * t.wait) = 2 * t.wait := IntWalk.i64_in _ (by omega)
    have hr1 : 0 ≤ t.round + 1 ∧ t.round + 1 ≤ 1099511627776 := by have := HR.out; omega
    rw [← hxd] at HE
    have HN := hide hn
    have HR1 := hide hr1
    have HX1 := hide hx1
    clear ho hr hs hw hb hn hs2 HT hxd hr1 hx1
    go_enter Try.func13, Try.ntmps13
    go_wp2_with fail
    refine hm.mono ?_
    rintro e _ ⟨rfl, rfl⟩
    go_wp2_with fail
    refine hov.mono ?_
    rintro e w3 ⟨rfl, hb3⟩
    have h3 := H2.out.below hb3
    have hk3 := K2.out.step (Kept.of_below (F := fun j => j = g) hb3) (fun j hj => .inl hj)
    have hen := tenter_any h3.drew (t.round + 1) now x HR1.out HN.out HX1.out
    clear c2 c4 c5 c6 f5
    obtain ⟨⟨_, _, _, c3, c4, _, c6⟩, _⟩ := h3.cells
    have H3 := hide h3
    have K3 := hide hk3
    clear h3 hk3 hov hm
    go_upto_region 6 with fail
    go_cut [] (fun wx => IsT wx g A n c { t with round := t.round + 1, since := now, wait := x } ∧ Kept (fun j => j = g) w wx)
    case first =>
      go_region_law (go_simp; go_at_call 44; (with_reducible refine hen.mono ?_); rintro e w4 ⟨rfl, h4, hk4⟩; simp only [])
      all_goals go_wp2_with fail
      all_goals go_meet
      all_goals exact ⟨h4, (K3.out.step (Kept.of_below (F := fun j => j = g) ((Below.refl _ w3).drew)) (fun j hj => .inl hj)).step hk4 (fun j hj => .inl hj)⟩
    case rest =>
      obtain ⟨h4, k4⟩ := hcut
      obtain ⟨q0, q1, q2, q3⟩ := h4.mem
      clear c3 c4 c6 hen
      obtain ⟨⟨d0, d1, _, _, d4, _, _⟩, _⟩ := h4.cells
      have H4 := hide h4
      have HL : ∀ m, Calls Try.prog 45 #[.slice A n c, .int .i64 (t.round + 1)] (wc.drewN m) fun e w' => e = .returned (.int .i64 (ldr t.ms (t.round + 1))) ∧ w' = wc.drewN m := fun m => (leader_any A n c wc.heap.size t.ms (t.round + 1) (wc.drewN m) q0 q1 (by omega) (by have := HR1.out; omega) (by have := HR1.out; omega)).mono fun _ _ ⟨he, hw⟩ => ⟨he, hw.symm⟩
      clear h4 q0 q1 q2 q3
      go_wp2_with fail
      go_quiet ((go_at_call 45; exact Calls.quiet_of_same (HL _)))
      go_wp2
      go_ret
      rw [HE.out]
      exact ⟨rfl, H4.out.below (below_drewN (Below.refl _ _) _), (k4.drewN _)⟩
end
end Go.Proofs.Ytgdncmkhcdmjoaa
