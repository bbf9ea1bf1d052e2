/-
  Decode of the reference of package value, whatever the bytes. Conditions: what is read is in reach.
-/
import Derived.Test.YtapbcpilklhoiaaValTakeV
import Derived.Test.YtapbcpilklhoiaaValueChecks
set_option linter.unusedSimpArgs false
set_option linter.unusedVariables false
namespace Go.Proofs.Ytapbcpilklhoiaa
open Go.RowKit

theorem results_rdec {tmps : Array Value} {w : World} {g : Nat} {A : Array Value} {t : TypeId} {e : Int} (h2 : tmps.getD 2 undef = .pointer (some ⟨g, 0, none⟩)) (h3 : tmps.getD 3 undef = .int .i64 e) (hA : w.heap[g]? = some (.cells A t (0, 0))) (sA : A.size = 3) :
    (results Try.f40 tmps).run Try.prog w = .ok (.tuple #[.agg A, .int .i64 e]) w := by
  have h2' : tmps[2]?.getD undef = .pointer (some ⟨g, 0, none⟩) := by simpa using h2
  have h3' : tmps[3]?.getD undef = .int .i64 e := by simpa using h3
  have i1 : (Try.prog.info? 48).map (·.size) = some A.size := by rw [sA]; kernel_rfl
  have e1 := run_loadVar_row (P := Try.prog) w g t 48 A (0, 0) _ hA Try.underlying48 rfl i1
  simp [results, Try.results40, h2', h3', asAddr, e1]
  try rfl
theorem dn_left {w : World} {B : Nat} {A : Option Addr} {n c : Nat} {s : RSt} (h : s.2 = 0 → Left w B A n c s.1) : (if s.2 = 0 ∧ 0 < n then 13 else s.2 : Nat) = dn s := by
  unfold dn
  by_cases h0 : s.2 = 0
  · have hl := (h h0).2.1.out
    by_cases hx : s.1 = []
    · rw [if_pos h0, if_pos hx, if_neg (by rw [← hl, hx]; simp), h0]
    · have : 0 < s.1.length := List.length_pos_iff.2 hx
      rw [if_pos h0, if_neg hx, if_pos ⟨h0, by omega⟩]
  · rw [if_neg h0, if_neg (fun h => h0 h.1)]

set_option maxRecDepth 20000 in
set_option maxHeartbeats 1600000 in
theorem rvdecode_any (A : Option Addr) (n c B : Nat) (xs : List UInt8) (w : World) (hx : Has w B A xs) (hB : B ≤ w.heap.size) (hn : xs.length = n) (hc : n ≤ c) (hl : n ≤ 140737488355328) :
    Calls Try.prog 40 #[.slice A n c] w (DecEnds (decE xs) (rdV (xs, 0)) w) := by
  obtain ⟨l8, l7, lc⟩ := rdV_lens (xs, 0)
  have HN := hide hn
  clear hn
  have HE : Hid (decE xs = if dn (rdV (xs, 0)).s = 0 then chkV (rdV (xs, 0)).k (rdV (xs, 0)).cs (rdV (xs, 0)).ns else (dn (rdV (xs, 0)).s : Int)) := hide rfl
  have HR := hide (fun W (h : (0 : Nat) = 0 → Left W B A n c xs) (hB : B ≤ W.heap.size) => rvtake_any A n c B (xs, 0) W h hB)
  generalize decE xs = de at *
  generalize rdV (xs, 0) = V at *
  obtain ⟨kd, cs, ns, st⟩ := V
  simp only at HR HE l8 l7 lc
  go_enter Try.func40, Try.ntmps40
  go_wp2_with fail
  have hr0 := heap_alloc_new w (.cells #[.int .i64 0, .slice none 0 0, .slice none 0 0] 48)
  have hb0 : Below w.heap.size w (w.alloc (.cells #[.int .i64 0, .slice none 0 0, .slice none 0 0] 48)) := (Below.refl _ _).alloc (Nat.le_refl _) _
  have hs0 : (w.alloc (.cells #[.int .i64 0, .slice none 0 0, .slice none 0 0] 48)).heap.size = w.heap.size + 1 := by simp
  have hx0 := hx.alloc hB (.cells #[.int .i64 0, .slice none 0 0, .slice none 0 0] 48)
  generalize w.alloc (.cells #[.int .i64 0, .slice none 0 0, .slice none 0 0] 48) = W0 at *
  refine (HR.out W0 (fun _ => ⟨hx0, HN, hc, hl⟩) (by omega)).mono ?_
  rintro e w1 ⟨A1, n1, c1, A2, n2, c2, D2, m2, d2, rfl, hL1, hoc, hoi, b1⟩
  have hz1 := b1.size
  have hr1 := (b1.block w.heap.size (by omega)).trans hr0
  have ba : Below w1.heap.size w1 ((w1.alloc (.cells #[.slice A1 n1 c1, .int .i64 (st.2 : Int)] 96)).alloc (.cells #[.int .i64 (kd : Int), .slice A2 n2 c2, .slice D2 m2 d2] 48)) := by go_grown
  have hn4 : ((w1.alloc (.cells #[.slice A1 n1 c1, .int .i64 (st.2 : Int)] 96)).alloc (.cells #[.int .i64 (kd : Int), .slice A2 n2 c2, .slice D2 m2 d2] 48)).heap[w1.heap.size]? = some (.cells #[.slice A1 n1 c1, .int .i64 (st.2 : Int)] 96 (0, 0)) := (Below.heap_alloc _ _ _ (by simp)).trans (heap_alloc_new w1 _)
  have hn5 : ((w1.alloc (.cells #[.slice A1 n1 c1, .int .i64 (st.2 : Int)] 96)).alloc (.cells #[.int .i64 (kd : Int), .slice A2 n2 c2, .slice D2 m2 d2] 48)).heap[w1.heap.size + 1]? = some (.cells #[.int .i64 (kd : Int), .slice A2 n2 c2, .slice D2 m2 d2] 48 (0, 0)) := by
    have := heap_alloc_new (w1.alloc (.cells #[.slice A1 n1 c1, .int .i64 (st.2 : Int)] 96)) (.cells #[.int .i64 (kd : Int), .slice A2 n2 c2, .slice D2 m2 d2] 48)
    simpa using this
  go_upto_region 2 with fail
  generalize (w1.alloc (.cells #[.slice A1 n1 c1, .int .i64 (st.2 : Int)] 96)).alloc (.cells #[.int .i64 (kd : Int), .slice A2 n2 c2, .slice D2 m2 d2] 48) = w2 at *
  have hz2 := lt_of_block hn5
  have hr2 := (ba.block w.heap.size (by omega)).trans hr1
  have hoc2 := hoc.below ba
  have hoi2 := hoi.below ba
  have hb2 : Below w.heap.size w w2 := (hb0.trans (b1.mono (by omega))).trans (ba.mono (by omega))
  have HD : Hid ((if st.2 = 0 ∧ 0 < n1 then 13 else st.2 : Nat) = dn st) := hide (dn_left hL1.out)
  clear hr0 hb0 hx0 hr1 hoc hoi b1 ba hL1
  obtain ⟨p0, p1, _, _⟩ := two_cells hn4
  go_wp2_with fail
  have hdn := done_any A1 n1 c1 st.2 w2
  rw [HD.out] at hdn
  refine hdn.mono ?_
  rintro e w3 ⟨rfl, o1, o2, hw3⟩
  have b3 : Below w2.heap.size w2 w3 := by rw [← hw3]; exact below2 w2 o1 o2
  clear hw3 hdn p0 p1
  have hz3 := b3.size
  have hn43 := (b3.block _ (by omega)).trans hn4
  have hn53 := (b3.block _ (by omega)).trans hn5
  have hr3 := (b3.block w.heap.size (by omega)).trans hr2
  have hoc3 := hoc2.below b3
  have hoi3 := hoi2.below b3
  have hb3 := hb2.trans (b3.mono hb2.size)
  clear hn4 hn5 hr2 hoc2 hoi2 hb2 b3
  obtain ⟨p0, p1, p2, p3⟩ := two_cells hn43
  go_upto_region 3 with fail
  have hk4 : Kept (fun k => k = w1.heap.size) w3 ((w3.setCell ⟨w1.heap.size, 0, none⟩ (.slice A1 n1 c1)).setCell ⟨w1.heap.size, 1, none⟩ (.int .i64 (dn st : Int))) := ((Kept.refl (fun k => k = w1.heap.size) w3).setCell (p := ⟨w1.heap.size, 0, none⟩) (.inl rfl) _).setCell (p := ⟨w1.heap.size, 1, none⟩) (.inl rfl) _
  have hn44 := two_set1 (u := .int .i64 (dn st : Int)) (two_set0 (u := .slice A1 n1 c1) hn43)
  generalize (w3.setCell ⟨w1.heap.size, 0, none⟩ (.slice A1 n1 c1)).setCell ⟨w1.heap.size, 1, none⟩ (.int .i64 (dn st : Int)) = w4 at *
  have hz4 := hk4.size
  have hr4 := (hk4.block w.heap.size (by omega) (by omega)).trans hr3
  have hnb4 := (hk4.block (w1.heap.size + 1) (by omega) (by omega)).trans hn53
  have hoc4 := hoc3.keep fun k hk => hk4.block k ((hoc3.lt k hk).2) (fun e => by
    subst e
    rcases hoc3.2 with ⟨h', _⟩ | ⟨g', cap, cur, h', _, hh, _⟩
    · rw [h'] at hk; cases hk
    · rw [h'] at hk
      have e1 : g' = w1.heap.size := Option.some.inj hk
      rw [e1, hn43] at hh
      simp at hh)
  have hoi4 := hoi3.keep fun k hk => hk4.block k ((hoi3.lt k hk).2) (fun e => by
    subst e
    rcases hoi3.2 with ⟨h', _⟩ | ⟨g', cap, cur, h', _, hh, _⟩
    · rw [h'] at hk; cases hk
    · rw [h'] at hk
      have e1 : g' = w1.heap.size := Option.some.inj hk
      rw [e1, hn43] at hh
      simp at hh)
  have hb4 : Below w.heap.size w w4 := hb3.trans (hk4.below (by omega) (fun k hk => by omega))
  clear p0 p1 p2 p3 hn43 hn53 hr3 hoc3 hoi3 hb3 hk4
  obtain ⟨q0, q1, _, _⟩ := two_cells hn44
  by_cases hd : dn st = 0
  · rw [hd] at q1 hn44
    have HE2 : Hid (de = chkV kd cs ns) := hide (HE.out.trans (if_pos hd))
    clear HE hd
    obtain ⟨_, n2', _, e1, en2, _, g1⟩ := hoc4.form
    obtain ⟨_, m2', _, e2, em2, _, g2⟩ := hoi4.form
    cases e1
    cases e2
    have hv4 : IsV w4 w4.heap.size A2 n2 D2 m2 cs ns := ⟨g1, g2, en2.out, em2.out, by rw [← en2.out]; omega, by rw [← em2.out]; omega, lc⟩
    have k0 := (row_cells hnb4 0).1
    have k1 := (row_cells hnb4 1).1
    have k2 := (row_cells hnb4 2).1
    simp only [List.getElem?_toArray, List.getElem?_cons_succ, List.getElem?_cons_zero] at k0 k1 k2
    clear g1 g2
    go_wp2_with fail
    refine (hv4.rcheck (Nat.le_refl _) kd c2 d2).mono ?_
    rintro e w5 ⟨rfl, hb5⟩
    have hoc5 := hoc4.below hb5
    have hoi5 := hoi4.below hb5
    have hr5 := (hb5.block w.heap.size (by omega)).trans hr4
    have hnb5 := (hb5.block (w1.heap.size + 1) (lt_of_block hnb4)).trans hnb4
    have hb5' := hb4.trans (hb5.mono hb4.size)
    have hz5 := hb5.size
    rw [← HE2.out]
    clear HE2 hv4 hr4 hnb4 hb4 hb5 k0 k1 k2 hoc4 hoi4 q0 q1 hn44
    by_cases h0 : de = 0
    · subst h0
      have hr11 := set_row_at (B := #[.int .i64 (kd : Int), .slice A2 n2 c2, .slice D2 m2 d2]) hr5
      have hk11 := Kept.of_setRow w5 w.heap.size #[.int .i64 (kd : Int), .slice A2 n2 c2, .slice D2 m2 d2]
      go_wp2_with (first
        | (refine wpList_load_row rfl 48 _ rfl (w1.heap.size + 1) rfl _ _ _ _ hnb5 Try.underlying48 rfl (by kernel_rfl) ?_)
        | (refine wpList_store_row rfl 48 _ _ rfl w.heap.size #[.int .i64 (kd : Int), .slice A2 n2 c2, .slice D2 m2 d2] rfl rfl _ _ hr5 (by kernel_rfl) rfl (by simp; exact ⟨rfl, rfl, rfl⟩) ?_; generalize w5.setRow w.heap.size #[.int .i64 (kd : Int), .slice A2 n2 c2, .slice D2 m2 d2] = w11 at *))
      refine bodyPost_ret (v := .tuple #[.agg #[.int .i64 (kd : Int), .slice A2 n2 c2, .slice D2 m2 d2], .int .i64 0]) (results_rdec rfl rfl hr11 rfl) rfl ⟨⟨A2, n2, c2, D2, m2, d2, ?_, ?_⟩, hb5'.trans (hk11.below (by omega) (fun k hk => by omega))⟩
      · rw [if_pos rfl]
      · simp only [if_true]
        have hoc6 := hoc5.keep fun k hk => hk11.block k ((hoc5.lt k hk).2) (by have := (hoc5.lt k hk).1; omega)
        have hoi6 := hoi5.keep fun k hk => hk11.block k ((hoi5.lt k hk).2) (by have := (hoi5.lt k hk).1; omega)
        obtain ⟨_, _, _, e1, _, _, g1⟩ := hoc6.form
        obtain ⟨_, _, _, e2, _, _, g2⟩ := hoi6.form
        cases e1
        cases e2
        exact ⟨g1, g2, en2.out, em2.out, by rw [← en2.out]; omega, by rw [← em2.out]; omega, lc⟩
    · have t0 : (de != 0) = true := by rw [bne_iff_ne]; exact h0
      obtain ⟨r0a, r0b⟩ := row_cells hr5 0
      obtain ⟨r1a, r1b⟩ := row_cells hr5 1
      obtain ⟨r2a, r2b⟩ := row_cells hr5 2
      simp only [List.getElem?_toArray, List.getElem?_cons_succ, List.getElem?_cons_zero] at r0a r1a r2a
      go_wp2_with fail
      have hk11 : Kept (fun k => k = w.heap.size) w5 (((w5.setCell ⟨w.heap.size, 0, none⟩ (.int .i64 0)).setCell ⟨w.heap.size, 1, none⟩ (.slice none 0 0)).setCell ⟨w.heap.size, 2, none⟩ (.slice none 0 0)) := (((Kept.refl (fun k => k = w.heap.size) w5).setCell (p := ⟨w.heap.size, 0, none⟩) (.inl rfl) _).setCell (p := ⟨w.heap.size, 1, none⟩) (.inl rfl) _).setCell (p := ⟨w.heap.size, 2, none⟩) (.inl rfl) _
      have hr11 : (((w5.setCell ⟨w.heap.size, 0, none⟩ (.int .i64 0)).setCell ⟨w.heap.size, 1, none⟩ (.slice none 0 0)).setCell ⟨w.heap.size, 2, none⟩ (.slice none 0 0)).heap[w.heap.size]? = some (.cells #[.int .i64 0, .slice none 0 0, .slice none 0 0] 48 (0, 0)) := by simp [World.setCell, Array.getElem?_modify, hr5]
      generalize ((w5.setCell ⟨w.heap.size, 0, none⟩ (.int .i64 0)).setCell ⟨w.heap.size, 1, none⟩ (.slice none 0 0)).setCell ⟨w.heap.size, 2, none⟩ (.slice none 0 0) = w11 at *
      refine bodyPost_ret (v := .tuple #[.agg #[.int .i64 0, .slice none 0 0, .slice none 0 0], .int .i64 de]) (results_rdec rfl rfl hr11 rfl) rfl ⟨⟨none, 0, 0, none, 0, 0, ?_, ?_⟩, hb5'.trans (hk11.below (by omega) (fun k hk => by omega))⟩
      · rw [if_neg h0]
      · rw [if_neg h0, if_neg h0]
        exact ⟨HasC.nil _ _ _, HasI.nil _ _ _, rfl, rfl, by omega, by omega, by simp⟩
  · have HE2 : Hid (de = (dn st : Int)) := hide (HE.out.trans (if_neg hd))
    have hne : ¬ de = 0 := by rw [HE2.out]; omega
    have t0 : ((dn st : Int) != 0) = true := by rw [bne_iff_ne]; omega
    clear HE hd
    go_wp2_with fail
    have HS7 : Hid (∀ W, Kept (fun k => k = w.heap.size) w4.drew W → W.cell? ⟨w1.heap.size, 1, none⟩ = some (.int .i64 (dn st : Int)) ∧ True) := hide (fun W h => ⟨(h.cell (by show w1.heap.size < w4.heap.size; omega) (by omega)).trans q1, trivial⟩)
    have hr47 : w4.drew.heap[w.heap.size]? = some (.cells #[.int .i64 0, .slice none 0 0, .slice none 0 0] 48 (0, 0)) := hr4
    have b7 : Below w.heap.size w w4.drew := hb4.drew
    have hz7 : w1.heap.size < w4.drew.heap.size := (by show w1.heap.size < w4.heap.size; omega)
    refine wp_region_held_drew (S := fun W => W.cell? ⟨w1.heap.size, 1, none⟩ = some (.int .i64 (dn st : Int)) ∧ True) (by kernel_rfl) (HS7.out _ (Kept.refl _ _)) (fun hHeld => ?_)
    clear hr4 hb4 hnb4 hoc4 hoi4 hn44 q0 q1 hz4
    generalize w4.drew = w7 at *
    refine wpAnyH_take (i := 0) (oi := _) (v := .agg #[.int .i64 0, .slice none 0 0, .slice none 0 0]) rfl (by kernel_rfl) (by kernel_rfl) (by kernel_rfl) (fun _ _ _ h => h) (Or.inl ⟨by rfl, fun w' hSw => by dsimp only at hSw; go_simp⟩) hHeld ?_
    (try simp only [Act.put, List.setIfInBounds_toArray, List.set_cons_zero, List.set_cons_succ, List.getElem_toArray, List.getElem_cons_zero, List.getElem_cons_succ])
    refine wpAnyH_take (i := 1) (oi := _) (v := .pointer (some ⟨w1.heap.size, 1, none⟩)) rfl (by kernel_rfl) (by kernel_rfl) (by kernel_rfl) (fun _ _ _ h => h) (Or.inl ⟨by rfl, fun w' hSw => by dsimp only at hSw; go_simp⟩) hHeld ?_
    (try simp only [Act.put, List.setIfInBounds_toArray, List.set_cons_zero, List.set_cons_succ, List.getElem_toArray, List.getElem_cons_zero, List.getElem_cons_succ])
    refine wpAnyH_take (i := 2) (oi := _) (v := .int .i64 (dn st : Int)) rfl (by kernel_rfl) (by kernel_rfl) (by kernel_rfl) (fun _ _ _ h => h) (Or.inl ⟨by rfl, fun w' hSw => by dsimp only at hSw; go_simp⟩) hHeld ?_
    (try simp only [Act.put, List.setIfInBounds_toArray, List.set_cons_zero, List.set_cons_succ, List.getElem_toArray, List.getElem_cons_zero, List.getElem_cons_succ])
    have hk8 := Kept.of_setRow w7 w.heap.size #[.int .i64 0, .slice none 0 0, .slice none 0 0]
    have hr81 := set_row_at (B := #[.int .i64 0, .slice none 0 0, .slice none 0 0]) hr47
    refine wpAnyH_ready (rs := [3]) (by kernel_rfl) (by simp) ?_
    refine AllReadyH.cons (o := _) rfl (fun K hK => ?_) AllReadyH.nil
    (try simp only [List.getElem_toArray, List.getElem_cons_zero, List.getElem_cons_succ])
    rw [if_pos (by rfl)]
    refine wp_store_row 48 (.tmp 2) (.tmp 18) rfl w.heap.size #[.int .i64 0, .slice none 0 0, .slice none 0 0] rfl rfl _ _ hr47 (by kernel_rfl) rfl (by simp; exact ⟨rfl, rfl⟩) ?_
    refine hK.out _ _ (HS7.out _ ((Kept.refl _ w7).step hk8 (fun k hk => .inl hk))) (fun hHeld => ?_)
    clear hK
    (try simp only [Act.put, List.setIfInBounds_toArray, List.set_cons_zero, List.set_cons_succ, List.getElem_toArray, List.getElem_cons_zero, List.getElem_cons_succ])
    generalize w7.setRow w.heap.size #[.int .i64 0, .slice none 0 0, .slice none 0 0] = w8 at *
    refine wpAnyH_take (i := 4) (oi := _) (v := .int .i64 (dn st : Int)) rfl (by kernel_rfl) (by kernel_rfl) (by kernel_rfl) (fun _ _ _ h => h) (Or.inl ⟨by rfl, fun w' hSw => by dsimp only at hSw; go_simp⟩) hHeld ?_
    (try simp only [Act.put, List.setIfInBounds_toArray, List.set_cons_zero, List.set_cons_succ, List.getElem_toArray, List.getElem_cons_zero, List.getElem_cons_succ])
    refine wpAnyH_done (by kernel_rfl) ?_ _
    go_wp2_with fail
    refine bodyPost_ret (v := .tuple #[.agg #[.int .i64 0, .slice none 0 0, .slice none 0 0], .int .i64 (dn st : Int)]) (results_rdec rfl rfl hr81 rfl) rfl ⟨⟨none, 0, 0, none, 0, 0, ?_, ?_⟩, b7.trans (hk8.below (by omega) (fun k hk => by omega))⟩
    · rw [if_neg hne]; rw [HE2.out]
    · rw [if_neg hne, if_neg hne]
      exact ⟨HasC.nil _ _ _, HasI.nil _ _ _, rfl, rfl, by omega, by omega, by simp⟩
end Go.Proofs.Ytapbcpilklhoiaa
