/-
  slices.Delete of one packet. Conditions: the slice is the call's own.
-/
import Derived.Test.YtpbfibofjkinmaaNetB
set_option linter.unusedSimpArgs false
set_option linter.unusedVariables false
namespace Go.Proofs.Ytpbfibofjkinmaa
open Go.RowKit

theorem take_drop_one {α : Type} (l : List α) (i : Nat) (hi : i < l.length) : l = l.take i ++ l[i] :: l.drop (i + 1) := by
  rw [List.getElem_cons_drop]
  exact (List.take_append_drop i l).symm

theorem zeroP (w : World) : (zeroValue 34).run Try.prog w = .ok (.agg #[.int .i64 0, .int .i64 0, .slice none 0 0]) w := Try.zeroValue34 w

set_option maxHeartbeats 1600000 in
set_option maxRecDepth 20000 in
theorem ndelete_any (base g m c i : Nat) (rs : List (List Value)) (w : World) (h : OwnR w base 34 3 (.slice (some ⟨g, 0, none⟩) (m + 1) c) rs) (hi : i < m + 1) :
    Calls Try.prog 52 #[.slice (some ⟨g, 0, none⟩) (m + 1) c, .int .i64 (i : Int), .int .i64 ((i : Int) + 1)] w fun e w' => e = .returned (.slice (some ⟨g, 0, none⟩) m c) ∧ OwnR w' base 34 3 (.slice (some ⟨g, 0, none⟩) m c) (rs.take i ++ rs.drop (i + 1)) ∧ Kept (fun k => k = g) w w' := by
  obtain ⟨i0, hi0, hz0, hz1, hz2⟩ := infoR rowP.info
  obtain ⟨A', n', c', e', hn', hnc, hcm, hr, _, _⟩ := h.form
  injection e' with e1 e2 e3
  subst e1 e2 e3
  have hm : c ≤ 9223372036854775807 := by unfold maxLen at hcm; omega
  have hrl : rs.length = m + 1 := hn'.out
  have hnl : (rs.drop (i + 1)).flatten.length = (m - i) * 3 := by rw [(h.wide.drop _).len, List.length_drop, hrl]; omega
  obtain ⟨A, hA, hsrc⟩ : ∃ A : Addr, (if c = i + 1 then some (⟨g, 0, none⟩ : Addr) else some ⟨g, (i + 1) * 3, none⟩) = some A ∧ Hid (∀ t u, (rs.drop (i + 1)).flatten[t]? = some u → w.drew.cell? (A.add t) = some u) := by
    by_cases hc : c = i + 1
    · refine ⟨⟨g, 0, none⟩, by simp [hc], fun t u hu => ?_⟩
      have h0 : (rs.drop (i + 1)).flatten.length = 0 := by rw [hnl]; omega
      rw [List.length_eq_zero_iff.1 h0] at hu
      simp at hu
    · refine ⟨⟨g, (i + 1) * 3, none⟩, by simp [hc], fun t u hu => ?_⟩
      have ht : t < (m - i) * 3 := by
        have := (List.getElem?_eq_some_iff.1 hu).1
        rwa [hnl] at this
      have hq : i + 1 + t / 3 < rs.length := by omega
      obtain ⟨g', e, hra, _, _⟩ := hr (i + 1 + t / 3) hq
      injection e with e
      injection e with e
      subst e
      rw [Addr.add_mid]
      have h2 := (h.wide.drop (i + 1)).get (i := t / 3) (j := t % 3) (by simp; omega) (by omega)
      rw [show t / 3 * 3 + t % 3 = t by omega, hu] at h2
      have h3 := hra (t % 3) u (by rw [h2]; simp)
      have h4 : (i + 1 + t / 3) * 3 + t % 3 = (i + 1) * 3 + t := by omega
      rw [h4] at h3
      exact h3
  have s1 : Hid ((rs.drop (i + 1)).flatten.length = (m - i) * 3) := hnl
  have s2 : Hid (∀ u ∈ (rs.drop (i + 1)).flatten, u.oneCell' = true) := (h.wide.drop _).cells
  have hthere : ∀ q, q < m + 1 → w.there g (q * 3) 3 := fun q hq => by
    obtain ⟨g', e, _, ht, _⟩ := hr q (by rw [hrl]; exact hq)
    injection e with e
    injection e with e
    subst e
    exact ht
  have s3 : Hid (∀ t, t < (rs.drop (i + 1)).flatten.length → (w.drew.cell? ⟨g, 0 + i * 3 + t, none⟩).isSome = true ∧ w.drew.frozen? ⟨g, 0 + i * 3 + t, none⟩ = false) := by
    intro t ht
    rw [hnl] at ht
    have h1 := hthere (i + t / 3) (by omega) (t % 3) (by omega)
    rw [show (i + t / 3) * 3 + t % 3 = 0 + i * 3 + t by omega] at h1
    exact h1
  obtain ⟨W1, hW1⟩ : ∃ W1, W1 = w.drew.setCells g (0 + i * 3) (rs.drop (i + 1)).flatten := ⟨_, rfl⟩
  have ho1 : OwnR W1 base 34 3 (.slice (some ⟨g, 0, none⟩) (m + 1) c) (rs.take i ++ rs.drop (i + 1) ++ rs.drop (i + (rs.drop (i + 1)).length)) := by
    rw [hW1, Nat.zero_add]
    exact (show OwnR w.drew base 34 3 (.slice (some ⟨g, 0, none⟩) (m + 1) c) rs from h.keep fun _ _ => rfl).put i (rs.drop (i + 1)) (h.wide.drop _) (by simp; omega)
  have hk1 : Kept (fun k => k = g) w W1 := by
    rw [hW1]
    exact (Kept.refl (fun k => k = g) w).drew.setCells (.inl rfl) _ _
  obtain ⟨A1, n1, c1, e', hn1, _, _, hr1, _, _⟩ := ho1.form
  injection e' with e1 e2 e3
  subst e1 e2 e3
  have ht1 : W1.there g (m * 3) (1 * 3) := by
    obtain ⟨g', e, _, ht, _⟩ := hr1 m (by rw [hn1.out]; omega)
    injection e with e
    injection e with e
    subst e
    exact ht
  have hcl : ∀ ty, (Builtin.clear_ #[31] ty #[.slice (some ⟨g, m * 3, none⟩) 1 (c - m)]).run Try.prog W1 = .ok (.tuple #[]) (W1.setCells g (m * 3) (List.replicate 1 [(.int .i64 0 : Value), .int .i64 0, .slice none 0 0]).flatten) :=
    fun ty => run_clear_rows rowP W1 ty g _ 1 _ (by intro u hu; simp [Value.cells] at hu; rcases hu with rfl | rfl | rfl <;> rfl) ht1 zeroP
  have ho2 : OwnR (W1.setCells g (m * 3) (List.replicate 1 [(.int .i64 0 : Value), .int .i64 0, .slice none 0 0]).flatten) base 34 3 (.slice (some ⟨g, 0, none⟩) m c) (rs.take i ++ rs.drop (i + 1)) := by
    have h3 := ho1.put m (List.replicate 1 [(.int .i64 0 : Value), .int .i64 0, .slice none 0 0]) (Pkt.wide [⟨0, 0, none, 0, 0, []⟩]) (by rw [hn1.out]; simp)
    have h4 := h3.cut m (by simp; omega)
    have hl : (rs.take i ++ rs.drop (i + 1)).length = m := by simp; omega
    have e : ((rs.take i ++ rs.drop (i + 1) ++ rs.drop (i + (rs.drop (i + 1)).length)).take m ++ List.replicate 1 [(.int .i64 0 : Value), .int .i64 0, .slice none 0 0] ++ (rs.take i ++ rs.drop (i + 1) ++ rs.drop (i + (rs.drop (i + 1)).length)).drop (m + (List.replicate 1 [(.int .i64 0 : Value), .int .i64 0, .slice none 0 0]).length)).take m = rs.take i ++ rs.drop (i + 1) := by
      rw [List.append_assoc, List.take_append_of_le_length (by simp; omega), List.take_take, Nat.min_self, List.take_append_of_le_length (by omega), List.take_of_length_le (by omega)]
    rw [e] at h4
    exact h4
  have hk2 : Kept (fun k => k = g) w (W1.setCells g (m * 3) (List.replicate 1 [(.int .i64 0 : Value), .int .i64 0, .slice none 0 0]).flatten) := hk1.setCells (.inl rfl) _ _
  generalize W1.setCells g (m * 3) (List.replicate 1 [(.int .i64 0 : Value), .int .i64 0, .slice none 0 0]).flatten = W2 at *
  have HW := hide hW1
  have hic : i ≤ c := by omega
  have hjc : i + 1 ≤ c := by omega
  have hp0 : (0 : Int) ≤ (i : Int) + 1 := by omega
  have hp1 : (i : Int) + 1 ≤ ((m : Int) + 1) := by omega
  have hp2 : ((i : Int) + 1).toNat = i + 1 := by omega
  have hpm : ((m : Int) + 1).toNat = m + 1 := by omega
  have hmc : m ≤ c := by omega
  have hmc' : ¬ c = m := by omega
  have hne : ¬ (i : Int) = (i : Int) + 1 := by omega
  clear hW1 ho1 hk1 hr hr1 ht1 hthere h hn' hn1 hrl hnl
  go_enter Try.func52, Try.ntmps52
  go_wp2_with fail
  go_region_law (refine step_append_room rfl (.tmp 22) (.tmp 25) 31 rfl 34 i0 3 Try.underlying31 hi0 hz1 g 0 i c (by simp [Act.eval, Act.put]) A (m - i) (c - (i + 1)) (rs.drop (i + 1)).flatten (by simp [Act.eval, Act.put]) s1.out hsrc.out s2.out (by omega) s3.out ?_; rw [← HW.out])
  have hL : i + (m - i) = m := by omega
  rw [hL]
  go_wp2_with fail
  go_ret
  exact ⟨rfl, ho2, hk2⟩
end Go.Proofs.Ytpbfibofjkinmaa
