/-
  Decode of package value, whatever the bytes. Conditions: what is read is in reach.
-/
import Derived.Test.YtapbcpilklhoiaaValReadG
import Derived.Test.YtapbcpilklhoiaaValBase
set_option linter.unusedSimpArgs false
set_option linter.unusedVariables false
namespace Go.Proofs.Ytapbcpilklhoiaa
open Go.RowKit

/-- What Done answers. -/
def dn (s : RSt) : Nat := if s.2 = 0 then (if s.1 = [] then 0 else 13) else s.2
theorem dn_zero {s : RSt} (h : dn s = 0) : s = ([], 0) := by
  obtain ⟨xs, er⟩ := s
  unfold dn at h
  simp only at h
  split at h
  · split at h
    · simp_all
    · omega
  · omega
theorem rdone_st (g : Nat) (b : Option Nat) (s : RSt) (w : World) (h : Rd w g b s.1 s.2) : Calls Try.prog 54 #[.pointer (some ⟨g, 0, none⟩)] w fun e w' => e = .returned (.int .i64 (dn s : Int)) ∧ Kept (fun k => k = g) w w' := by
  obtain ⟨xs, er⟩ := s
  unfold dn
  simp only at h ⊢
  by_cases h0 : er = 0
  · subst h0
    by_cases hx : xs = []
    · subst hx
      rw [if_pos rfl, if_pos rfl]
      refine (rdone_end g b w h).mono ?_
      rintro e w' ⟨rfl, rfl⟩
      exact ⟨rfl, Kept.refl _ _⟩
    · rw [if_pos rfl, if_neg hx]
      refine (rdone_trail g b xs w h hx).mono ?_
      rintro e w' ⟨rfl, _, _, _, hk⟩
      exact ⟨rfl, hk⟩
  · rw [if_neg h0]
    refine (rdone_stuck g b xs er w h h0).mono ?_
    rintro e w' ⟨rfl, rfl⟩
    exact ⟨rfl, Kept.refl _ _⟩

/-- What Decode answers beside the value. -/
def decE (xs : List UInt8) : Int := if dn (rdV (xs, 0)).s = 0 then chkV (rdV (xs, 0)).k (rdV (xs, 0)).cs (rdV (xs, 0)).ns else (dn (rdV (xs, 0)).s : Int)
theorem rdV_lens (s : RSt) : (rdV s).cs.length ≤ 8 ∧ (rdV s).ns.length ≤ 7 ∧ (∀ x ∈ (rdV s).cs, IsCmd x) := by
  have h8 := rc_le (s := (rc 2 s).2) (most := 8) (by omega)
  have h7 := rc_le (s := (rdC (rc 8 (rc 2 s).2).1 (rc 8 (rc 2 s).2).2).2) (most := 7) (by omega)
  unfold rdV
  simp only [rdC_len, rdN_len]
  exact ⟨by omega, by omega, rdC_isCmd _ _⟩

/-- How a Decode ends. -/
def DecEnds (de : Int) (V : RdV) (w : World) (e : Ending) (w' : World) : Prop :=
  (∃ A' n' c' D m d, e = .returned (.tuple #[.agg #[.int .i64 (if de = 0 then (V.k : Int) else 0), .slice A' n' c', .slice D m d], .int .i64 de]) ∧ IsV w' w'.heap.size A' n' D m (if de = 0 then V.cs else []) (if de = 0 then V.ns else [])) ∧ Below w.heap.size w w'

set_option maxHeartbeats 1600000 in
theorem vdecode_any (A : Option Addr) (n c B : Nat) (xs : List UInt8) (w : World) (hx : Has w B A xs) (hB : B ≤ w.heap.size) (hn : xs.length = n) (hl : n ≤ 140737488355328) :
    Calls Try.prog 41 #[.slice A n c] w (DecEnds (decE xs) (rdV (xs, 0)) w) := by
  obtain ⟨l8, l7, lc⟩ := rdV_lens (xs, 0)
  have HN := hide hn
  clear hn
  have HE : Hid (decE xs = if dn (rdV (xs, 0)).s = 0 then chkV (rdV (xs, 0)).k (rdV (xs, 0)).cs (rdV (xs, 0)).ns else (dn (rdV (xs, 0)).s : Int)) := hide rfl
  have HR := hide (fun g b w h hf => vread_any g b (xs, 0) w h hf)
  generalize decE xs = de at *
  generalize rdV (xs, 0) = V at *
  obtain ⟨kd, cs, ns, st⟩ := V
  simp only at HR HE l8 l7 lc
  go_enter Try.func41, Try.ntmps41
  go_wp2_with fail
  have hr0 := heap_alloc_new w (.cells #[.int .i64 0, .slice none 0 0, .slice none 0 0] 48)
  have hb0 : Below w.heap.size w (w.alloc (.cells #[.int .i64 0, .slice none 0 0, .slice none 0 0] 48)) := (Below.refl _ _).alloc (Nat.le_refl _) _
  have hs0 : (w.alloc (.cells #[.int .i64 0, .slice none 0 0, .slice none 0 0] 48)).heap.size = w.heap.size + 1 := by simp
  have hx0 := hx.alloc hB (.cells #[.int .i64 0, .slice none 0 0, .slice none 0 0] 48)
  generalize w.alloc (.cells #[.int .i64 0, .slice none 0 0, .slice none 0 0] 48) = W0 at *
  refine (newreader_any A n c B xs W0 hx0 (by omega) HN.out hl).mono ?_
  rintro e w1 ⟨g, b, rfl, hrd, hft, hb1⟩
  have hr1 := (hb1.block w.heap.size (by omega)).trans hr0
  have hgf : W0.heap.size ≤ g := (hft g (.inl rfl)).1
  go_wp2_with fail
  refine (HR.out g b w1 hrd (fun k hk => (hft k (.inr hk)).2)).mono ?_
  rintro e w2 ⟨A2, n2, c2, D2, m2, d2, rfl, hn2, hm2, hoc, hoi, b2, h2⟩
  have hr2 := (h2.kept.block w.heap.size (lt_of_block hr1) (by omega)).trans hr1
  have hb2 : Below w.heap.size w w2 := (hb0.trans (hb1.mono (by omega))).trans (h2.kept.below (by have := hb1.size; omega) (fun k hk => by omega))
  have hz2 := lt_of_block hr2
  have hnb := heap_alloc_new w2 (.cells #[.int .i64 (kd : Int), .slice A2 n2 c2, .slice D2 m2 d2] 48)
  have hr3 := (Below.heap_alloc w2 (.cells #[.int .i64 (kd : Int), .slice A2 n2 c2, .slice D2 m2 d2] 48) w.heap.size hz2).trans hr2
  have hrd3 := (h2.alloc (.cells #[.int .i64 (kd : Int), .slice A2 n2 c2, .slice D2 m2 d2] 48)).rd
  have hg2 := h2.lt
  have hoc3 := hoc.below ((Below.refl _ _).alloc (Nat.le_refl _) (.cells #[.int .i64 (kd : Int), .slice A2 n2 c2, .slice D2 m2 d2] 48))
  have hoi3 := hoi.below ((Below.refl _ _).alloc (Nat.le_refl _) (.cells #[.int .i64 (kd : Int), .slice A2 n2 c2, .slice D2 m2 d2] 48))
  have hb3 := hb2.alloc hb2.size (.cells #[.int .i64 (kd : Int), .slice A2 n2 c2, .slice D2 m2 d2] 48)
  have hs3 : (w2.alloc (.cells #[.int .i64 (kd : Int), .slice A2 n2 c2, .slice D2 m2 d2] 48)).heap.size = w2.heap.size + 1 := by simp
  have hz1 := hb1.size
  have hg1 := (hft g (.inl rfl)).2
  go_wp2_with fail
  generalize w2.alloc (.cells #[.int .i64 (kd : Int), .slice A2 n2 c2, .slice D2 m2 d2] 48) = W3 at *
  refine (rdone_st g b2 st W3 hrd3).mono ?_
  rintro e w4 ⟨rfl, hk4⟩
  have hz4 := hk4.size
  have hr4 := (hk4.block w.heap.size (by omega) (by omega)).trans hr3
  have hnb4 := (hk4.block w2.heap.size (by omega) (by omega)).trans hnb
  have hoc4 := hoc3.keep fun k hk => hk4.block k ((hoc3.lt k hk).2) (by have := (hoc3.lt k hk).1; omega)
  have hoi4 := hoi3.keep fun k hk => hk4.block k ((hoi3.lt k hk).2) (by have := (hoi3.lt k hk).1; omega)
  have hb4 : Below w.heap.size w w4 := hb3.trans (hk4.below (by omega) (fun k hk => by omega))
  clear hr3 hnb hrd3 hoc3 hoi3 hb3 hk4 hoc hoi h2 hr2 hb2 hr0 hb0 hx0 hrd hft hb1 hr1
  by_cases hd : dn st = 0
  · rw [hd]
    have HE2 : Hid (de = chkV kd cs ns) := hide (HE.out.trans (if_pos hd))
    clear HE hd
    obtain ⟨_, _, _, e1, _, _, g1⟩ := hoc4.form
    obtain ⟨_, _, _, e2, _, _, g2⟩ := hoi4.form
    cases e1
    cases e2
    have hv4 : IsV w4 w4.heap.size A2 n2 D2 m2 cs ns := ⟨g1, g2, hn2.out, hm2.out, by rw [← hn2.out]; omega, by rw [← hm2.out]; omega, lc⟩
    have k0 := (row_cells hnb4 0).1
    have k1 := (row_cells hnb4 1).1
    have k2 := (row_cells hnb4 2).1
    simp only [List.getElem?_toArray, List.getElem?_cons_succ, List.getElem?_cons_zero] at k0 k1 k2
    clear g1 g2
    go_wp2_with fail
    refine (hv4.check (Nat.le_refl _) kd c2 d2).mono ?_
    rintro e w5 ⟨rfl, hb5⟩
    have hoc5 := hoc4.below hb5
    have hoi5 := hoi4.below hb5
    have hr5 := (hb5.block w.heap.size (by omega)).trans hr4
    have hnb5 := (hb5.block w2.heap.size (lt_of_block hnb4)).trans hnb4
    have hb5' := hb4.trans (hb5.mono hb4.size)
    have hz5 := hb5.size
    rw [← HE2.out]
    clear HE2 hv4 hr4 hnb4 hb4 hb5 k0 k1 k2 hoc4 hoi4
    by_cases h0 : de = 0
    · subst h0
      have hr11 := set_row_at (B := #[.int .i64 (kd : Int), .slice A2 n2 c2, .slice D2 m2 d2]) hr5
      have hk11 := Kept.of_setRow w5 w.heap.size #[.int .i64 (kd : Int), .slice A2 n2 c2, .slice D2 m2 d2]
      go_wp2_with (first
        | (refine wpList_load_row rfl 48 _ rfl w2.heap.size rfl _ _ _ _ hnb5 Try.underlying48 rfl (by kernel_rfl) ?_)
        | (refine wpList_store_row rfl 48 _ _ rfl w.heap.size #[.int .i64 (kd : Int), .slice A2 n2 c2, .slice D2 m2 d2] rfl rfl _ _ hr5 (by kernel_rfl) rfl (by simp; exact ⟨rfl, rfl, rfl⟩) ?_; generalize w5.setRow w.heap.size #[.int .i64 (kd : Int), .slice A2 n2 c2, .slice D2 m2 d2] = w11 at *))
      refine bodyPost_ret (v := .tuple #[.agg #[.int .i64 (kd : Int), .slice A2 n2 c2, .slice D2 m2 d2], .int .i64 0]) (results_dec rfl rfl hr11 rfl) rfl ⟨⟨A2, n2, c2, D2, m2, d2, ?_, ?_⟩, hb5'.trans (hk11.below (by omega) (fun k hk => by omega))⟩
      · rw [if_pos rfl]
      · simp only [if_true]
        have hoc6 := hoc5.keep fun k hk => hk11.block k ((hoc5.lt k hk).2) (by have := (hoc5.lt k hk).1; omega)
        have hoi6 := hoi5.keep fun k hk => hk11.block k ((hoi5.lt k hk).2) (by have := (hoi5.lt k hk).1; omega)
        obtain ⟨_, _, _, e1, _, _, g1⟩ := hoc6.form
        obtain ⟨_, _, _, e2, _, _, g2⟩ := hoi6.form
        cases e1
        cases e2
        exact ⟨g1, g2, hn2.out, hm2.out, by rw [← hn2.out]; omega, by rw [← hm2.out]; omega, lc⟩
    · have t0 : (de != 0) = true := by rw [bne_iff_ne]; exact h0
      obtain ⟨r0a, r0b⟩ := row_cells hr5 0
      obtain ⟨r1a, r1b⟩ := row_cells hr5 1
      obtain ⟨r2a, r2b⟩ := row_cells hr5 2
      simp only [List.getElem?_toArray, List.getElem?_cons_succ, List.getElem?_cons_zero] at r0a r1a r2a
      go_wp2_with fail
      have hk11 : Kept (fun k => k = w.heap.size) w5 (((w5.setCell ⟨w.heap.size, 0, none⟩ (.int .i64 0)).setCell ⟨w.heap.size, 1, none⟩ (.slice none 0 0)).setCell ⟨w.heap.size, 2, none⟩ (.slice none 0 0)) := (((Kept.refl (fun k => k = w.heap.size) w5).setCell (p := ⟨w.heap.size, 0, none⟩) (.inl rfl) _).setCell (p := ⟨w.heap.size, 1, none⟩) (.inl rfl) _).setCell (p := ⟨w.heap.size, 2, none⟩) (.inl rfl) _
      have hr11 : (((w5.setCell ⟨w.heap.size, 0, none⟩ (.int .i64 0)).setCell ⟨w.heap.size, 1, none⟩ (.slice none 0 0)).setCell ⟨w.heap.size, 2, none⟩ (.slice none 0 0)).heap[w.heap.size]? = some (.cells #[.int .i64 0, .slice none 0 0, .slice none 0 0] 48 (0, 0)) := by simp [World.setCell, Array.getElem?_modify, hr5]
      generalize ((w5.setCell ⟨w.heap.size, 0, none⟩ (.int .i64 0)).setCell ⟨w.heap.size, 1, none⟩ (.slice none 0 0)).setCell ⟨w.heap.size, 2, none⟩ (.slice none 0 0) = w11 at *
      refine bodyPost_ret (v := .tuple #[.agg #[.int .i64 0, .slice none 0 0, .slice none 0 0], .int .i64 de]) (results_dec rfl rfl hr11 rfl) rfl ⟨⟨none, 0, 0, none, 0, 0, ?_, ?_⟩, hb5'.trans (hk11.below (by omega) (fun k hk => by omega))⟩
      · rw [if_neg h0]
      · rw [if_neg h0, if_neg h0]
        exact ⟨HasC.nil _ _ _, HasI.nil _ _ _, rfl, rfl, by omega, by omega, by simp⟩
  · have HE2 : Hid (de = (dn st : Int)) := hide (HE.out.trans (if_neg hd))
    have hne : ¬ de = 0 := by rw [HE2.out]; omega
    have t0 : ((dn st : Int) != 0) = true := by rw [bne_iff_ne]; omega
    clear HE hd
    obtain ⟨r0a, r0b⟩ := row_cells hr4 0
    obtain ⟨r1a, r1b⟩ := row_cells hr4 1
    obtain ⟨r2a, r2b⟩ := row_cells hr4 2
    simp only [List.getElem?_toArray, List.getElem?_cons_succ, List.getElem?_cons_zero] at r0a r1a r2a
    go_wp2_with fail
    have hk11 : Kept (fun k => k = w.heap.size) w4 (((w4.setCell ⟨w.heap.size, 0, none⟩ (.int .i64 0)).setCell ⟨w.heap.size, 1, none⟩ (.slice none 0 0)).setCell ⟨w.heap.size, 2, none⟩ (.slice none 0 0)) := (((Kept.refl (fun k => k = w.heap.size) w4).setCell (p := ⟨w.heap.size, 0, none⟩) (.inl rfl) _).setCell (p := ⟨w.heap.size, 1, none⟩) (.inl rfl) _).setCell (p := ⟨w.heap.size, 2, none⟩) (.inl rfl) _
    have hr11 : (((w4.setCell ⟨w.heap.size, 0, none⟩ (.int .i64 0)).setCell ⟨w.heap.size, 1, none⟩ (.slice none 0 0)).setCell ⟨w.heap.size, 2, none⟩ (.slice none 0 0)).heap[w.heap.size]? = some (.cells #[.int .i64 0, .slice none 0 0, .slice none 0 0] 48 (0, 0)) := by simp [World.setCell, Array.getElem?_modify, hr4]
    generalize ((w4.setCell ⟨w.heap.size, 0, none⟩ (.int .i64 0)).setCell ⟨w.heap.size, 1, none⟩ (.slice none 0 0)).setCell ⟨w.heap.size, 2, none⟩ (.slice none 0 0) = w11 at *
    refine bodyPost_ret (v := .tuple #[.agg #[.int .i64 0, .slice none 0 0, .slice none 0 0], .int .i64 (dn st : Int)]) (results_dec rfl rfl hr11 rfl) rfl ⟨⟨none, 0, 0, none, 0, 0, ?_, ?_⟩, hb4.trans (hk11.below (by omega) (fun k hk => by omega))⟩
    · rw [if_neg hne]; rw [HE2.out]
    · rw [if_neg hne, if_neg hne]
      exact ⟨HasC.nil _ _ _, HasI.nil _ _ _, rfl, rfl, by omega, by omega, by simp⟩
end Go.Proofs.Ytapbcpilklhoiaa
