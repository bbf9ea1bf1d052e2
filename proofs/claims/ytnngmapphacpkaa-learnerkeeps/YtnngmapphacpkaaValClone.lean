/-
  Clone of package value, and Copy of its reference: the same value in new memory. Conditions: what is read is in reach.
-/
import Derived.Test.YtnngmapphacpkaaValHead6
import Derived.Deep.RegionLaw
set_option linter.unusedSimpArgs false
set_option linter.unusedVariables false
namespace Go.Proofs.Ytnngmapphacpkaa
open Go.RowKit

theorem nilC {w : World} {B : Nat} {cs : List Cmdv} (h : HasC w B none cs) : cs = [] := by
  rcases Nat.eq_zero_or_pos cs.length with h0 | h0
  · exact List.eq_nil_of_length_eq_zero h0
  · obtain ⟨_, _, e, _⟩ := h 0 h0
    cases e
theorem nilI {w : World} {B : Nat} {ns : List Int} (h : HasI w B none ns) : ns = [] := by
  rcases Nat.eq_zero_or_pos ns.length with h0 | h0
  · exact List.eq_nil_of_length_eq_zero h0
  · obtain ⟨_, _, e, _⟩ := h 0 h0
    cases e

theorem cloneC_any (A : Option Addr) (n c B : Nat) (cs : List Cmdv) (w : World) (hx : HasC w B A cs) (hB : B ≤ w.heap.size) (hn : cs.length = n) (hl : n ≤ 2199023255552) :
    Calls Try.prog 64 #[.slice A n c] w fun e w' => ∃ v, e = .returned v ∧ OwnC w' w.heap.size v cs ∧ Below w.heap.size w w' := by
  have he := fun (W : World) (a : Option Addr) (n c : Nat) => Lib.run_eql_slice_nil (P := Try.prog) W 33 58 a n c 0 0 Try.underlying33
  rcases A with _ | ad
  · have hx0 := nilC hx
    subst hx0
    go_enter Try.func64, Try.ntmps64
    go_wp2
    go_ret
    exact ⟨_, rfl, OwnC.nil _ _, Below.refl _ _⟩
  · obtain ⟨v1, wa, hr1, hown1, hba⟩ := run_copy_cmds w 33 (some ad) n c B cs hx hn hl hB
    have HR := hide hr1
    clear hr1
    go_enter Try.func64, Try.ntmps64
    go_wp2_with (at_builtin; refine list_append_want _ (by rfl) (.tmp 5) (.tmp 6) 33 33 rfl _ _ rfl rfl _ _ HR.out ?_)
    go_ret
    exact ⟨v1, rfl, hown1, hba⟩

theorem cloneI_any (A : Option Addr) (n c B : Nat) (ns : List Int) (w : World) (hx : HasI w B A ns) (hB : B ≤ w.heap.size) (hn : ns.length = n) (hl : n ≤ 17592186044416) :
    Calls Try.prog 31 #[.slice A n c] w fun e w' => ∃ v, e = .returned v ∧ OwnI w' w.heap.size v ns ∧ Below w.heap.size w w' := by
  have he := fun (W : World) (a : Option Addr) (n c : Nat) => Lib.run_eql_slice_nil (P := Try.prog) W 22 3 a n c 0 0 Try.underlying22
  rcases A with _ | ad
  · have hx0 := nilI hx
    subst hx0
    go_enter Try.func31, Try.ntmps31
    go_wp2
    go_ret
    exact ⟨_, rfl, OwnI.nil _ _, Below.refl _ _⟩
  · obtain ⟨v1, wa, hr1, hown1, hba⟩ := run_copy_ints w 22 (some ad) n c B ns hx hn hl hB
    have HR := hide hr1
    clear hr1
    go_enter Try.func31, Try.ntmps31
    go_wp2_with (at_builtin; refine list_append_want _ (by rfl) (.tmp 5) (.tmp 6) 22 22 rfl _ _ rfl rfl _ _ HR.out ?_)
    go_ret
    exact ⟨v1, rfl, hown1, hba⟩

theorem OwnC.from_ {w : World} {base base' : Nat} {v : Value} {cs : List Cmdv} (h : OwnC w base v cs) (hb : base' ≤ base) : OwnC w base' v cs := by
  refine ⟨h.1, ?_⟩
  rcases h.2 with h2 | ⟨g, cap, cur, hv, hg, r⟩
  · exact .inl h2
  · exact .inr ⟨g, cap, cur, hv, by omega, r⟩
theorem results_clone {tmps : Array Value} {w : World} {g : Nat} {A : Array Value} {t : TypeId} (h2 : tmps.getD 2 undef = .pointer (some ⟨g, 0, none⟩)) (hA : w.heap[g]? = some (.cells A t (0, 0))) (sA : A.size = 3) :
    (results Try.f50 tmps).run Try.prog w = .ok (.agg A) w := by
  have h2' : tmps[2]?.getD undef = .pointer (some ⟨g, 0, none⟩) := by simpa using h2
  have i1 : (Try.prog.info? 35).map (·.size) = some A.size := by rw [sA]; kernel_rfl
  have e1 := run_loadVar_row (P := Try.prog) w g t 35 A (0, 0) _ hA Try.underlying35 rfl i1
  simp [results, Try.results50, h2', asAddr, e1]

set_option maxHeartbeats 3200000 in
theorem vclone_any (k : Int) (A D : Option Addr) (n c m d B : Nat) (cs : List Cmdv) (ns : List Int) (w : World) (hC : HasC w B A cs) (hN : HasI w B D ns) (hB : B ≤ w.heap.size) (hn : cs.length = n) (hm : ns.length = m) (hl : n ≤ 2199023255552) (hlm : m ≤ 17592186044416) :
    Calls Try.prog 50 #[.agg #[.int .i64 k, .slice A n c, .slice D m d]] w fun e w' => ∃ A' c' D' d', e = .returned (.agg #[.int .i64 k, .slice A' n c', .slice D' m d']) ∧ OwnC w' w.heap.size (.slice A' n c') cs ∧ OwnI w' w.heap.size (.slice D' m d') ns ∧ Below w.heap.size w w' := by
  have HN1 := hide hn
  have HM1 := hide hm
  clear hn hm
  go_enter Try.func50, Try.ntmps50
  go_wp2_with fail
  have hp0 : ((w.alloc (.cells #[.int .i64 k, .slice A n c, .slice D m d] 35)).alloc (.cells #[.int .i64 0, .slice none 0 0, .slice none 0 0] 35)).heap[w.heap.size]? = some (.cells #[.int .i64 k, .slice A n c, .slice D m d] 35 (0, 0)) :=
    (Below.heap_alloc _ _ _ (by simp)).trans (heap_alloc_new w _)
  have hr0 : ((w.alloc (.cells #[.int .i64 k, .slice A n c, .slice D m d] 35)).alloc (.cells #[.int .i64 0, .slice none 0 0, .slice none 0 0] 35)).heap[w.heap.size + 1]? = some (.cells #[.int .i64 0, .slice none 0 0, .slice none 0 0] 35 (0, 0)) := by
    have := heap_alloc_new (w.alloc (.cells #[.int .i64 k, .slice A n c, .slice D m d] 35)) (.cells #[.int .i64 0, .slice none 0 0, .slice none 0 0] 35)
    simpa using this
  have hb0 : Below w.heap.size w ((w.alloc (.cells #[.int .i64 k, .slice A n c, .slice D m d] 35)).alloc (.cells #[.int .i64 0, .slice none 0 0, .slice none 0 0] 35)) := by go_grown
  have hs0 : ((w.alloc (.cells #[.int .i64 k, .slice A n c, .slice D m d] 35)).alloc (.cells #[.int .i64 0, .slice none 0 0, .slice none 0 0] 35)).heap.size = w.heap.size + 1 + 1 := by simp
  generalize (w.alloc (.cells #[.int .i64 k, .slice A n c, .slice D m d] 35)).alloc (.cells #[.int .i64 0, .slice none 0 0, .slice none 0 0] 35) = W0 at *
  have hC0 : HasC W0 B A cs := hC.on (by omega) hb0
  have hN0 : HasI W0 B D ns := hN.on (by omega) hb0
  have hB0 : B ≤ W0.heap.size := by omega
  have HP : Hid (∀ W', Below W0.heap.size W0 W' → W'.cell? ⟨w.heap.size, 0, none⟩ = some (.int .i64 k) ∧ W'.cell? ⟨w.heap.size, 1, none⟩ = some (.slice A n c) ∧ W'.cell? ⟨w.heap.size, 2, none⟩ = some (.slice D m d)) := hide (fun W' h => by
    have hp := (h.block w.heap.size (by omega)).trans hp0
    exact ⟨(row_cells hp 0).1, (row_cells hp 1).1, (row_cells hp 2).1⟩)
  have HR : Hid (∀ W', Below W0.heap.size W0 W' → W'.heap[w.heap.size + 1]? = some (.cells #[.int .i64 0, .slice none 0 0, .slice none 0 0] 35 (0, 0))) := hide (fun W' h => (h.block (w.heap.size + 1) (by omega)).trans hr0)
  obtain ⟨k0, k1, k2⟩ := HP.out W0 (Below.refl _ _)
  have HCC : Hid (∀ W, HasC W B A cs → B ≤ W.heap.size → Calls Try.prog 64 #[.slice A n c] W fun e w' => ∃ A' c', e = .returned (.slice A' n c') ∧ OwnC w' W.heap.size (.slice A' n c') cs ∧ Below W.heap.size W w') := hide (fun W h hB => (cloneC_any A n c B cs W h hB HN1.out hl).mono fun e w' => by
    rintro ⟨v, rfl, ho, hb⟩
    obtain ⟨A', n', c', rfl, hn', _, _⟩ := ho.form
    obtain rfl : n' = n := by rw [← hn'.out, HN1.out]
    exact ⟨A', c', rfl, ho, hb⟩)
  have HCI : Hid (∀ W, HasI W B D ns → B ≤ W.heap.size → Calls Try.prog 31 #[.slice D m d] W fun e w' => ∃ D' d', e = .returned (.slice D' m d') ∧ OwnI w' W.heap.size (.slice D' m d') ns ∧ Below W.heap.size W w') := hide (fun W h hB => (cloneI_any D m d B ns W h hB HM1.out hlm).mono fun e w' => by
    rintro ⟨v, rfl, ho, hb⟩
    obtain ⟨D', m', d', rfl, hm', _, _⟩ := ho.form
    obtain rfl : m' = m := by rw [← hm'.out, HM1.out]
    exact ⟨D', d', rfl, ho, hb⟩)
  have HHN : Hid (∀ W', Below W0.heap.size W0 W' → HasI W' B D ns ∧ B ≤ W'.heap.size) := hide (fun W' h => ⟨hN0.on hB0 h, by have := h.size; omega⟩)
  have HBD : Hid (∀ W', Below W0.drew.heap.size W0.drew W' → Below W0.heap.size W0 W') := hide (fun W' h => (Below.refl _ W0).drew.trans (h.mono (Nat.le_refl _)))
  clear hs0
  go_region_law (first
    | (go_simp; go_at_call 64; (with_reducible refine (HCC.out _ ?_ ?_).mono ?_); exact hC0; exact hB0; rintro e w1 ⟨A1, c1, rfl, ho1, b1'⟩; have b1 := HBD.out _ b1'; obtain ⟨x0, x1, x2⟩ := HP.out _ b1; simp only [])
    | (revert b1; intro b1; go_simp; go_at_call 31; (with_reducible refine (HCI.out _ ?_ ?_).mono ?_); exact (HHN.out _ b1).1; exact (HHN.out _ b1).2; rintro e w2 ⟨D2, d2, rfl, ho2, b2'⟩; have b2 := b1.trans (b2'.mono b1.size); obtain ⟨y0, y1, y2⟩ := HP.out _ b2; have rr := HR.out _ b2; have r0 := row_cells rr 0; have r1 := row_cells rr 1; have r2 := row_cells rr 2; obtain ⟨r0a, r0b⟩ := r0; obtain ⟨r1a, r1b⟩ := r1; obtain ⟨r2a, r2b⟩ := r2; simp only [List.getElem?_toArray, List.getElem?_cons_succ, List.getElem?_cons_zero] at r0a r1a r2a; simp only []))
  all_goals go_wp2_with fail
  all_goals
    have hs0 : w.heap.size + 1 < W0.heap.size := lt_of_block hr0
    have hz1 := b1.size
    have hz2 := b2.size
    have hk9 : Kept (fun j => j = w.heap.size + 1) w2 (((w2.setCell ⟨w.heap.size + 1, 0, none⟩ (.int .i64 k)).setCell ⟨w.heap.size + 1, 1, none⟩ (.slice A1 n c1)).setCell ⟨w.heap.size + 1, 2, none⟩ (.slice D2 m d2)) :=
      (((Kept.refl (fun j => j = w.heap.size + 1) w2).setCell (p := ⟨w.heap.size + 1, 0, none⟩) (.inl rfl) _).setCell (p := ⟨w.heap.size + 1, 1, none⟩) (.inl rfl) _).setCell (p := ⟨w.heap.size + 1, 2, none⟩) (.inl rfl) _
    have hr9 : (((w2.setCell ⟨w.heap.size + 1, 0, none⟩ (.int .i64 k)).setCell ⟨w.heap.size + 1, 1, none⟩ (.slice A1 n c1)).setCell ⟨w.heap.size + 1, 2, none⟩ (.slice D2 m d2)).heap[w.heap.size + 1]? = some (.cells #[.int .i64 k, .slice A1 n c1, .slice D2 m d2] 35 (0, 0)) := by simp [World.setCell, Array.getElem?_modify, rr]
    generalize ((w2.setCell ⟨w.heap.size + 1, 0, none⟩ (.int .i64 k)).setCell ⟨w.heap.size + 1, 1, none⟩ (.slice A1 n c1)).setCell ⟨w.heap.size + 1, 2, none⟩ (.slice D2 m d2) = w9 at *
    refine bodyPost_ret (v := .agg #[.int .i64 k, .slice A1 n c1, .slice D2 m d2]) (results_clone rfl hr9 rfl) rfl ⟨A1, c1, D2, d2, rfl, ?_, ?_, ?_⟩
    · have ho1' := ho1.below b2'
      have hlow : ∀ g, (Value.slice A1 n c1).ownBlock = some g → W0.heap.size ≤ g := fun g hg => (ho1'.lt g hg).1
      exact (ho1'.keep fun g hg => hk9.block g ((ho1'.lt g hg).2) (by have := hlow g hg; omega)).from_ (show w.heap.size ≤ W0.heap.size by omega)
    · have hlow : ∀ g, (Value.slice D2 m d2).ownBlock = some g → w1.heap.size ≤ g := fun g hg => (ho2.lt g hg).1
      exact (ho2.keep fun g hg => hk9.block g ((ho2.lt g hg).2) (by have := hlow g hg; omega)).from_ (by omega)
    · exact (hb0.trans (b2.mono (by omega))).trans (hk9.below (by omega) (fun j hj => by omega))

theorem results_copy {tmps : Array Value} {w : World} {g : Nat} {A : Array Value} {t : TypeId} (h2 : tmps.getD 2 undef = .pointer (some ⟨g, 0, none⟩)) (hA : w.heap[g]? = some (.cells A t (0, 0))) (sA : A.size = 3) :
    (results Try.f25 tmps).run Try.prog w = .ok (.agg A) w := by
  have h2' : tmps[2]?.getD undef = .pointer (some ⟨g, 0, none⟩) := by simpa using h2
  have i1 : (Try.prog.info? 35).map (·.size) = some A.size := by rw [sA]; kernel_rfl
  have e1 := run_loadVar_row (P := Try.prog) w g t 35 A (0, 0) _ hA Try.underlying35 rfl i1
  simp [results, Try.results25, h2', asAddr, e1]

set_option maxHeartbeats 1600000 in
theorem rvcopy_any (k : Int) (A D : Option Addr) (n c m d B : Nat) (cs : List Cmdv) (ns : List Int) (w : World) (hC : HasC w B A cs) (hN : HasI w B D ns) (hB : B ≤ w.heap.size) (hn : cs.length = n) (hm : ns.length = m) (hl : n ≤ 2199023255552) (hlm : m ≤ 17592186044416) :
    Calls Try.prog 25 #[.agg #[.int .i64 k, .slice A n c, .slice D m d]] w fun e w' => ∃ A' c' D' d', e = .returned (.agg #[.int .i64 k, .slice A' n c', .slice D' m d']) ∧ OwnC w' w.heap.size (.slice A' n c') cs ∧ OwnI w' w.heap.size (.slice D' m d') ns ∧ Below w.heap.size w w' := by
  have HN1 := hide hn
  have HM1 := hide hm
  clear hn hm
  go_enter Try.func25, Try.ntmps25
  go_upto_region 2 with fail
  have hp0 : (((w.alloc (.cells #[.int .i64 k, .slice A n c, .slice D m d] 35)).alloc (.cells #[.int .i64 0, .slice none 0 0, .slice none 0 0] 35)).alloc (.cells #[.int .i64 k, .slice none 0 0, .slice none 0 0] 35)).heap[w.heap.size]? = some (.cells #[.int .i64 k, .slice A n c, .slice D m d] 35 (0, 0)) :=
    (Below.heap_alloc _ _ _ (by simp; omega)).trans ((Below.heap_alloc _ _ _ (by simp)).trans (heap_alloc_new w _))
  have hr0 : (((w.alloc (.cells #[.int .i64 k, .slice A n c, .slice D m d] 35)).alloc (.cells #[.int .i64 0, .slice none 0 0, .slice none 0 0] 35)).alloc (.cells #[.int .i64 k, .slice none 0 0, .slice none 0 0] 35)).heap[w.heap.size + 1]? = some (.cells #[.int .i64 0, .slice none 0 0, .slice none 0 0] 35 (0, 0)) := by
    refine (Below.heap_alloc _ _ _ (by simp)).trans ?_
    have := heap_alloc_new (w.alloc (.cells #[.int .i64 k, .slice A n c, .slice D m d] 35)) (.cells #[.int .i64 0, .slice none 0 0, .slice none 0 0] 35)
    simpa using this
  have hw0 : (((w.alloc (.cells #[.int .i64 k, .slice A n c, .slice D m d] 35)).alloc (.cells #[.int .i64 0, .slice none 0 0, .slice none 0 0] 35)).alloc (.cells #[.int .i64 k, .slice none 0 0, .slice none 0 0] 35)).heap[w.heap.size + 1 + 1]? = some (.cells #[.int .i64 k, .slice none 0 0, .slice none 0 0] 35 (0, 0)) := by
    have := heap_alloc_new ((w.alloc (.cells #[.int .i64 k, .slice A n c, .slice D m d] 35)).alloc (.cells #[.int .i64 0, .slice none 0 0, .slice none 0 0] 35)) (.cells #[.int .i64 k, .slice none 0 0, .slice none 0 0] 35)
    simpa using this
  have hb0 : Below w.heap.size w (((w.alloc (.cells #[.int .i64 k, .slice A n c, .slice D m d] 35)).alloc (.cells #[.int .i64 0, .slice none 0 0, .slice none 0 0] 35)).alloc (.cells #[.int .i64 k, .slice none 0 0, .slice none 0 0] 35)) := by go_grown
  have hs0 : (((w.alloc (.cells #[.int .i64 k, .slice A n c, .slice D m d] 35)).alloc (.cells #[.int .i64 0, .slice none 0 0, .slice none 0 0] 35)).alloc (.cells #[.int .i64 k, .slice none 0 0, .slice none 0 0] 35)).heap.size = w.heap.size + 1 + 1 + 1 := by simp
  generalize ((w.alloc (.cells #[.int .i64 k, .slice A n c, .slice D m d] 35)).alloc (.cells #[.int .i64 0, .slice none 0 0, .slice none 0 0] 35)).alloc (.cells #[.int .i64 k, .slice none 0 0, .slice none 0 0] 35) = W0 at *
  have hC0 : HasC W0 B A cs := hC.on (by omega) hb0
  have hN0 : HasI W0 B D ns := hN.on (by omega) hb0
  obtain ⟨v1, w1, hr1, ho1, hg1, _⟩ := run_append_cmds W0 33 W0.heap.size _ [] (OwnC.nil W0 W0.heap.size) B A n c cs hC0 HN1.out (by simp; omega) (Nat.le_refl _)
  rw [List.nil_append] at ho1
  have hb1 : Below W0.heap.size W0 w1 := (Below.refl _ _).grown hg1 (Nat.le_refl _) (by intro k hk; cases hk)
  obtain ⟨A1, n1, c1, rfl, hn1, _, _⟩ := ho1.form
  obtain rfl : n1 = n := by rw [← hn1.out, HN1.out]
  have hp1 := (hb1.block w.heap.size (by omega)).trans hp0
  have hr1' := (hb1.block (w.heap.size + 1) (by omega)).trans hr0
  have hw1 := (hb1.block (w.heap.size + 1 + 1) (by omega)).trans hw0
  have a1 := (row_cells hp0 1).1
  have a2 := (row_cells hw0 1).1
  have a3 := (row_cells hw1 1).1
  have a4 := (row_cells hw1 1).2
  simp only [List.getElem?_toArray, List.getElem?_cons_succ, List.getElem?_cons_zero] at a1 a2 a3
  have HR1 := hide hr1
  have hz1 := hb1.size
  clear hr1
  go_upto_region 3 with (at_builtin; refine list_append_want _ (by rfl) (.tmp 8) (.tmp 10) 33 33 rfl _ _ rfl rfl _ _ HR1.out ?_)
  have hk2 : Kept (fun j => j = w.heap.size + 1 + 1) w1 (w1.setCell ⟨w.heap.size + 1 + 1, 1, none⟩ (.slice A1 n1 c1)) := (Kept.refl (fun j => j = w.heap.size + 1 + 1) w1).setCell (p := ⟨w.heap.size + 1 + 1, 1, none⟩) (.inl rfl) _
  have hw2 : (w1.setCell ⟨w.heap.size + 1 + 1, 1, none⟩ (.slice A1 n1 c1)).heap[w.heap.size + 1 + 1]? = some (.cells #[.int .i64 k, .slice A1 n1 c1, .slice none 0 0] 35 (0, 0)) := by simp [World.setCell, Array.getElem?_modify, hw1]
  clear a1 a2 a3 a4
  generalize w1.setCell ⟨w.heap.size + 1 + 1, 1, none⟩ (.slice A1 n1 c1) = w2 at *
  have hp2 := (hk2.block w.heap.size (by omega) (by omega)).trans hp1
  have hr2 := (hk2.block (w.heap.size + 1) (by omega) (by omega)).trans hr1'
  have ho2 := ho1.keep fun g hg => hk2.block g ((ho1.lt g hg).2) (by have := (ho1.lt g hg).1; omega)
  have hz2 := hk2.size
  have hb2 : Below w.heap.size w w2 := (hb0.trans (hb1.mono (by omega))).trans (hk2.below (by omega) (fun j hj => by omega))
  have hN2 : HasI w2 B D ns := (hN.on hB hb2)
  obtain ⟨v3, w3, hr3, ho3, hg3, _⟩ := run_append_ints w2 22 W0.heap.size _ [] (OwnI.nil w2 W0.heap.size) B D m d ns hN2 HM1.out (by simp; omega) (by omega)
  rw [List.nil_append] at ho3
  have hb3 : Below w2.heap.size w2 w3 := (Below.refl _ _).grown hg3 (Nat.le_refl _) (by intro k hk; cases hk)
  obtain ⟨D1, m1, d1, rfl, hm1, _, _⟩ := ho3.form
  obtain rfl : m1 = m := by rw [← hm1.out, HM1.out]
  have hp3 := (hb3.block w.heap.size (by omega)).trans hp2
  have hr3' := (hb3.block (w.heap.size + 1) (by omega)).trans hr2
  have hw3 := (hb3.block (w.heap.size + 1 + 1) (by omega)).trans hw2
  have ho3' := ho2.below hb3
  have a1 := (row_cells hp2 2).1
  have a2 := (row_cells hw2 2).1
  have a3 := (row_cells hw3 2).1
  have a4 := (row_cells hw3 2).2
  simp only [List.getElem?_toArray, List.getElem?_cons_succ, List.getElem?_cons_zero] at a1 a2 a3
  have HR3 := hide hr3
  have hz3 := hb3.size
  clear hr3 HR1
  go_upto_region 4 with (at_builtin; refine list_append_want _ (by rfl) (.tmp 14) (.tmp 16) 22 22 rfl _ _ rfl rfl _ _ HR3.out ?_)
  have hk4 : Kept (fun j => j = w.heap.size + 1 + 1) w3 (w3.setCell ⟨w.heap.size + 1 + 1, 2, none⟩ (.slice D1 m1 d1)) := (Kept.refl (fun j => j = w.heap.size + 1 + 1) w3).setCell (p := ⟨w.heap.size + 1 + 1, 2, none⟩) (.inl rfl) _
  have hw4 : (w3.setCell ⟨w.heap.size + 1 + 1, 2, none⟩ (.slice D1 m1 d1)).heap[w.heap.size + 1 + 1]? = some (.cells #[.int .i64 k, .slice A1 n1 c1, .slice D1 m1 d1] 35 (0, 0)) := by simp [World.setCell, Array.getElem?_modify, hw3]
  clear a1 a2 a3 a4
  generalize w3.setCell ⟨w.heap.size + 1 + 1, 2, none⟩ (.slice D1 m1 d1) = w4 at *
  have hr4 := (hk4.block (w.heap.size + 1) (by omega) (by omega)).trans hr3'
  have ho4 := ho3'.keep fun g hg => hk4.block g ((ho3'.lt g hg).2) (by have := (ho3'.lt g hg).1; omega)
  have hi4 := ho3.keep fun g hg => hk4.block g ((ho3.lt g hg).2) (by have := (ho3.lt g hg).1; omega)
  have hz4 := hk4.size
  have hb4 : Below w.heap.size w w4 := (hb2.trans (hb3.mono (by omega))).trans (hk4.below (by omega) (fun j hj => by omega))
  have hr11 := set_row_at (B := #[.int .i64 k, .slice A1 n1 c1, .slice D1 m1 d1]) hr4
  have hk11 := Kept.of_setRow w4 (w.heap.size + 1) #[.int .i64 k, .slice A1 n1 c1, .slice D1 m1 d1]
  go_wp2_with (first
    | (refine wpList_load_row rfl 35 _ rfl (w.heap.size + 1 + 1) rfl _ _ _ _ hw4 Try.underlying35 rfl (by kernel_rfl) ?_)
    | (refine wpList_store_row rfl 35 _ _ rfl (w.heap.size + 1) #[.int .i64 k, .slice A1 n1 c1, .slice D1 m1 d1] rfl rfl _ _ hr4 (by kernel_rfl) rfl (by simp; exact ⟨rfl, rfl, rfl⟩) ?_; generalize w4.setRow (w.heap.size + 1) #[.int .i64 k, .slice A1 n1 c1, .slice D1 m1 d1] = w11 at *))
  refine bodyPost_ret (v := .agg #[.int .i64 k, .slice A1 n1 c1, .slice D1 m1 d1]) (results_copy rfl hr11 rfl) rfl ⟨A1, c1, D1, d1, rfl, ?_, ?_, ?_⟩
  · exact (ho4.keep fun g hg => hk11.block g ((ho4.lt g hg).2) (by have := (ho4.lt g hg).1; omega)).from_ (by omega)
  · exact (hi4.keep fun g hg => hk11.block g ((hi4.lt g hg).2) (by have := (hi4.lt g hg).1; omega)).from_ (by omega)
  · exact hb4.trans (hk11.below (by omega) (fun j hj => by omega))
end Go.Proofs.Ytnngmapphacpkaa
