/-
  Timers of all members; the walk of ElectionTurns. No condition but the reach of what is read.
-/
import Derived.Test.YtgdncmkhcdmjoaaElectD
import Derived.Test.YtgdncmkhcdmjoaaMasks
set_option linter.unusedSimpArgs false
set_option linter.unusedVariables false
namespace Go.Proofs.Ytgdncmkhcdmjoaa
open Go.RowKit
theorem rowPT : RowT 29 39 1 8 (.pointer none) := ⟨Try.underlying39, by kernel_rfl, rfl, by omega⟩
def ptrs (gs : List Nat) : List (List Value) := gs.map (fun g => [Value.pointer (some ⟨g, 0, none⟩)])
theorem ptrs_wide (gs : List Nat) : Wide 1 (ptrs gs) := fun r hr => by
  obtain ⟨p, _, rfl⟩ := List.mem_map.1 hr
  refine ⟨rfl, fun u hu => ?_⟩
  simp at hu
  subst hu
  rfl
theorem OwnR.emptyT (w : World) (g base : Nat) (e : TypeId) (k : Nat) (hg : g = w.heap.size) (hb : base ≤ g) : OwnR (w.alloc (.cells #[] e)) base e k (.slice (some ⟨g, 0, none⟩) 0 0) [] := by
  subst hg
  refine ⟨⟨by simp, .inr ⟨w.heap.size, 0, #[], rfl, hb, heap_alloc_new w _, by simp, by unfold maxLen; omega, by simp, by simp⟩⟩, Wide.nil k⟩
theorem nodup_inj {gs : List Nat} (h : gs.Nodup) {i j : Nat} (hi : i < gs.length) (hj : j < gs.length) (e : gs[i] = gs[j]) : i = j := by
  rcases Nat.lt_trichotomy i j with h1 | h1 | h1
  · exact absurd e (List.pairwise_iff_getElem.1 h i j hi hj h1)
  · exact h1
  · exact absurd e.symm (List.pairwise_iff_getElem.1 h j i hj hi h1)
/-- The timers of all members in the state q, l, x. -/
def tt (ms : List Int) (b m q l x : Int) (i : Nat) : Tm := ⟨ms.getD i 0, ms, b, m, q, l, x⟩
structure TsI (w : World) (gs : List Nat) (S : Nat → Tm) (v : Value) (wr : World) : Prop where
  row : OwnR wr w.heap.size 29 1 v (ptrs gs)
  tm : ∀ i (h : i < gs.length), w.heap.size ≤ gs[i] ∧ ∃ A n c, IsT wr gs[i] A n c (S i)
  nd : gs.Nodup
  bel : Below w.heap.size w wr
section
variable {w wr w' : World} {gs : List Nat} {S : Nat → Tm} {v : Value}
theorem TsI.below (h : TsI w gs S v wr) (hb : Below wr.heap.size wr w') : TsI w gs S v w' :=
  ⟨h.row.below hb, fun i hi => by
    obtain ⟨h1, A, n, c, h2⟩ := h.tm i hi
    exact ⟨h1, A, n, c, h2.below hb⟩, h.nd, h.bel.trans (hb.mono h.bel.size)⟩
theorem TsI.slc (h : TsI w gs S v wr) : ∃ A c, v = .slice A gs.length c := by
  obtain ⟨A, n, c, e, h1, _⟩ := h.row.form
  have h2 := h1.out
  simp only [ptrs, List.length_map] at h2
  exact ⟨A, c, by rw [e, h2]⟩
theorem TsI.at_ (h : TsI w gs S v wr) {j : Nat} (hj : j < gs.length) : ∃ g, (∃ c, v = .slice (some ⟨g, 0, none⟩) gs.length c) ∧ wr.cell? ⟨g, j, none⟩ = some (.pointer (some ⟨gs[j], 0, none⟩)) := by
  obtain ⟨A, n, c, e, h1, _, _, h2, _⟩ := h.row.form
  have h3 := h1.out
  simp only [ptrs, List.length_map] at h3
  obtain ⟨g, rfl, hr, _⟩ := h2 j (by simp [ptrs]; exact hj)
  refine ⟨g, ⟨c, by rw [e, h3]⟩, ?_⟩
  have := hr 0 (.pointer (some ⟨gs[j], 0, none⟩)) (by simp [ptrs])
  simpa using this
/-- One of the timers goes on. -/
theorem TsI.step (h : TsI w gs S v wr) {j : Nat} (hj : j < gs.length) {A : Option Addr} {n c : Nat} {t' : Tm} (hi : IsT w' gs[j] A n c t') (hk : Kept (fun x => x = gs[j]) wr w') : TsI w gs (fun i => if i = j then t' else S i) v w' := by
  obtain ⟨hg0, A0, n0, c0, ht0⟩ := h.tm j hj
  refine ⟨h.row.keep fun g hg => hk.block g (h.row.lt g hg).2 (fun e => ?_), fun i hi' => ?_, h.nd, h.bel.trans (hk.below h.bel.size (fun x hx => by omega))⟩
  · obtain ⟨cur, hc⟩ := h.row.typed g hg
    rw [e, ht0.blk] at hc
    injection hc with hc
    injection hc with _ hc
    exact absurd hc (by decide)
  · obtain ⟨h1, A1, n1, c1, h2⟩ := h.tm i hi'
    refine ⟨h1, ?_⟩
    by_cases e : i = j
    · subst e
      rw [if_pos rfl]
      exact ⟨A, n, c, hi⟩
    · rw [if_neg e]
      refine ⟨A1, n1, c1, h2.kept hk (fun e' => e ?_) ht0.blk (by decide)⟩
      exact nodup_inj h.nd hi' hj e'
theorem TsI.congr {S' : Nat → Tm} (h : TsI w gs S v wr) (he : ∀ i, i < gs.length → S i = S' i) : TsI w gs S' v wr :=
  ⟨h.row, fun i hi => by rw [← he i hi]; exact h.tm i hi, h.nd, h.bel⟩
/-- One more timer. -/
theorem TsI.push (h : TsI w gs S v wr) {g : Nat} {A : Option Addr} {n c : Nat} {w3 : World} (hg : wr.heap.size ≤ g) (hb : Below wr.heap.size wr w') (hi : IsT w' g A n c (S gs.length)) {v3 : Value} (ho : OwnR w3 w.heap.size 29 1 v3 (ptrs gs ++ [[Value.pointer (some ⟨g, 0, none⟩)]])) (hgr : w'.grownBy w3 v.ownBlock) : TsI w (gs ++ [g]) S v3 w3 := by
  have h' := h.below hb
  have hk : Kept (fun j => v.ownBlock = some j) w' w3 := Kept.of_grown (F := fun j => v.ownBlock = some j) hgr (fun j hj => hj)
  have hno : ∀ x A n c t, IsT w' x A n c t → IsT w3 x A n c t := fun x A n c t ht => by
    refine ⟨ht.good, (hk.block x ht.lt (fun e => ?_)).trans ht.blk, ht.ms.keep fun j hj => hk.block j (ht.ms.lt j hj).2 (fun e => ?_)⟩
    · obtain ⟨cur, hc⟩ := h'.row.typed x e
      rw [ht.blk] at hc
      injection hc with hc
      injection hc with _ hc
      exact absurd hc (by decide)
    · obtain ⟨cur, hc⟩ := h'.row.typed j e
      exact ownI_ne ht.ms hc (by decide) hj
  refine ⟨by unfold ptrs; rw [List.map_append]; exact ho, fun i hi' => ?_, ?_, h'.bel.trans (hk.below h'.bel.size (fun x hx => (h'.row.lt x hx).1))⟩
  · rw [List.getElem_append]
    split
    · rename_i hlt
      obtain ⟨h1, A1, n1, c1, h2⟩ := h'.tm i hlt
      exact ⟨h1, A1, n1, c1, hno _ _ _ _ _ h2⟩
    · have e : i = gs.length := by simp at hi'; omega
      subst e
      refine ⟨?_, A, n, c, ?_⟩
      · simp
        have := h.bel.size
        omega
      · simp
        exact hno _ _ _ _ _ hi
  · rw [List.nodup_append]
    refine ⟨h.nd, by simp, fun x hx y hy e => ?_⟩
    simp at hy
    subst hy e
    obtain ⟨i, hi', rfl⟩ := List.mem_iff_getElem.1 hx
    obtain ⟨_, A1, n1, c1, h2⟩ := h.tm i hi'
    have := h2.lt
    omega
end
/-- What a tick does to the timers of all members. -/
theorem tt_tick {ms : List Int} {b m : Int} {q : Nat} {l x now : Int} {i : Nat} (hr : rightS ms) (hi : i < ms.length) (hq : q < 1000) (hl : l ≤ now) :
    (tt ms b m q l x i).tick now = if now - l < x then (tt ms b m q l x i, false) else (tt ms b m (q + 1 : Nat) now (min (2 * x) m) i, decide (i = q % ms.length)) := by
  unfold Tm.tick
  have e : min (tt ms b m q l x i).since now = l := by show min l now = l; omega
  rw [e, if_neg (show ¬ (tt ms b m q l x i).round = 1099511627776 by show ¬ (q : Int) = _; omega)]
  by_cases h : now - l < x
  · rw [if_pos h, if_pos (show now - l < (tt ms b m q l x i).wait from h)]
    rfl
  · rw [if_neg h, if_neg (show ¬ now - l < (tt ms b m q l x i).wait from h)]
    have e1 : ldr ms ((q : Int) + 1) = ms.getD (q % ms.length) 0 := ldr_nat (by omega) q
    have e2 : (ldr (tt ms b m q l x i).ms ((tt ms b m q l x i).round + 1) == (tt ms b m q l x i).me) = decide (i = q % ms.length) := by
      show (ldr ms ((q : Int) + 1) == ms.getD i 0) = _
      rw [e1]
      by_cases h2 : i = q % ms.length
      · rw [decide_eq_true h2, ← h2]
        exact beq_self_eq_true _
      · rw [decide_eq_false h2]
        refine beq_eq_false_iff_ne.2 fun e3 => h2 ?_
        exact (rightS_inj hr (Nat.mod_lt _ (by omega)) hi e3).symm
    rw [e2]
    rfl
/-- Whose turn it was, of the first j that were asked. -/
def mineT (due : Bool) (x j : Nat) : Int := if due = true ∧ x < j then x else -1
theorem mineT_no {due : Bool} {x j : Nat} (h : (due && decide (j = x)) = false) : mineT due x (j + 1) = mineT due x j := by
  unfold mineT
  cases due
  · rfl
  · have h2 : ¬ j = x := by simpa using h
    by_cases h3 : x < j
    · rw [if_pos ⟨rfl, by omega⟩, if_pos ⟨rfl, h3⟩]
    · rw [if_neg (by omega), if_neg (by omega)]
theorem mineT_yes {due : Bool} {x j : Nat} (h : (due && decide (j = x)) = true) : mineT due x (j + 1) = j ∧ mineT due x j = -1 := by
  have h2 : due = true ∧ j = x := by simpa using h
  obtain ⟨rfl, rfl⟩ := h2
  unfold mineT
  exact ⟨if_pos ⟨rfl, by omega⟩, if_neg (by omega)⟩
set_option maxHeartbeats 8000000 in
set_option maxRecDepth 40000 in
theorem eturns_walk (Am : Option Addr) (nm cm : Nat) (ms : List Int) (base most steps : Int) (w : World) (hm : HasI w w.heap.size Am ms) (hn : ms.length = nm) (hl : nm ≤ 17592186043904) :
    Calls Try.prog 4 #[.slice Am nm cm, .int .i64 base, .int .i64 most, .int .i64 steps] w fun e w' => e = .returned (.bool true) ∧ Below w.heap.size w w' := by
  have HN := hide hn
  clear hn
  go_enter Try.func4, Try.ntmps4
  go_wp2_with fail
  refine (head17_any w).mono ?_
  rintro e w1 ⟨rfl, hb1⟩
  have hri := rright_any Am nm cm w.heap.size ms w1 (hm.below hb1) HN.out (by omega)
  by_cases hr : rightS ms
  · rw [decide_eq_true hr] at hri
    have HR := hide hr
    clear hr
    go_wp2_with fail
    refine hri.mono ?_
    rintro e w2 ⟨rfl, d2, rfl⟩
    have hb2 := below_drewN hb1 d2
    generalize w1.drewN d2 = w2 at *
    clear hri hb1
    obtain ⟨x1, hx1, x0, x2⟩ : ∃ x, bits .and .i64 base 7 = x ∧ 0 ≤ x ∧ x < 8 := mask_lt base 3 (by omega)
    obtain ⟨y1, hy1, y0, y2⟩ : ∃ x, bits .and .i64 most 31 = x ∧ 0 ≤ x ∧ x < 32 := mask_lt most 5 (by omega)
    obtain ⟨N, hN, n0, n1⟩ : ∃ N, bits .and .i64 steps 255 = N ∧ 0 ≤ N ∧ N < 256 := mask_lt steps 8 (by omega)
    obtain ⟨b, hb⟩ : ∃ b, 1 + x1 = b := ⟨_, rfl⟩
    have v1 : IntKind.i64.wrap (1 + x1) = b := by rw [IntWalk.i64_in _ (by omega), hb]
    obtain ⟨m, hmd⟩ : ∃ m, b + y1 = m := ⟨_, rfl⟩
    have v2 : IntKind.i64.wrap (b + y1) = m := by rw [IntWalk.i64_in _ (by omega), hmd]
    have hbm : 1 ≤ b ∧ b ≤ 8 ∧ b ≤ m ∧ m ≤ 39 := by omega
    clear hb hmd x0 x2 y0 y2
    have hL7 : Hid (1 ≤ nm ∧ nm ≤ 7) := hide (by have := HR.out.1; have := HR.out.2.1; have := HN.out; omega)
    have hnew : ∀ i, Tm.new (ms.getD i 0) ms b m 0 = tt ms b m 0 0 b i := fun i => by
      unfold Tm.new
      rw [show nearN b 1 1048576 = b from by unfold nearN; omega, show nearN m b 1048576 = m from by unfold nearN; omega]
      rfl
    have HNEW := hide hnew
    have hT0 : TsI w [] (tt ms b m (0 : Nat) 0 b) (.slice (some ⟨w2.heap.size, 0, none⟩) 0 0) (w2.alloc (.cells #[] 29)) := ⟨OwnR.emptyT w2 _ _ _ _ rfl hb2.size, fun i hi => absurd hi (by simp), by simp, hb2.alloc hb2.size _⟩
    have HT0 := hide hT0
    clear hnew hT0
    go_upto_region 8 with fail
    generalize w2.alloc (.cells #[] 29) = w3 at *
    go_wp2_with fail
    go_loopw [9, 11, 39] (fun s9 s11 s39 wr => ∃ (j : Nat) (gs : List Nat), j ≤ nm ∧ gs.length = j ∧ s39 = .int .i64 (j : Int) ∧ Hid (TsI w gs (tt ms b m (0 : Nat) 0 b) s9 wr)) (fun _ _ s39 _ => nm - (intOf s39).toNat)
    case atStart => exact ⟨0, [], by omega, rfl, rfl, HT0⟩
    case round =>
      obtain ⟨j, gs, hj, hgs, rfl, hT⟩ := hrel
      obtain ⟨A9, c9, e9⟩ := hT.out.slc
      have HGS := hide hgs
      rw [HGS.out] at e9
      subst e9
      clear hgs
      by_cases hlt : j < nm
      · have hjl : j < ms.length := by rw [HN.out]; exact hlt
        have hm2 := hm.below hT.out.bel
        obtain ⟨bb, o, rfl, hbb, hc⟩ := hm2 j hjl
        have hzw := hT.out.bel.size
        obtain ⟨v1, wa, hr1, hown1, hba⟩ := run_copy_ints wr 22 (some ⟨bb, o, none⟩) nm cm w.heap.size ms hm2 HN.out (by omega) hzw
        obtain ⟨Aa, na, ca, rfl, hna, hnca, hxa⟩ := hown1.form
        obtain rfl : na = nm := by rw [← hna.out, HN.out]
        have hnw := tnew_any ms[j] Aa na ca wa.heap.size ms b m 0 wa hxa (Nat.le_refl _) HN.out (by omega) (by unfold In64'; omega)
        rw [show ms[j] = ms.getD j 0 from (getD_at hjl).symm] at hnw hc
        generalize hmj : ms.getD j 0 = mj at *
        have HMJ := hide hmj
        have HR1 := hide hr1
        have HBA := hide hba
        have hil : (j : Int) < (na : Int) := by omega
        clear hr1 hown1 hxa hna hba hm2 hmj
        go_upto_region 11 with fail
        clear hc hm
        go_wp2_with (first
          | (at_builtin; refine list_append_want _ (by rfl) (.tmp 45) (.tmp 46) 22 22 rfl _ _ rfl rfl _ _ HR1.out ?_)
          | fail)
        refine hnw.mono ?_
        rintro e w5 ⟨h1, _, hb5⟩
        obtain ⟨g, A, n, c, rfl, h1, hg⟩ := h1 HR.out
        rw [← HMJ.out, HNEW.out j] at h1
        have hbw := HBA.out.trans (hb5.mono HBA.out.size)
        have hbx := hbw.alloc hbw.size (.cells #[.pointer (some ⟨g, 0, none⟩)] 29)
        have ht2 := h1.below ((Below.refl _ w5).alloc (Nat.le_refl _) (.cells #[.pointer (some ⟨g, 0, none⟩)] 29))
        have hro := (hT.out.below hbx).row
        have hone := one_row (heap_alloc_new w5 (.cells #[.pointer (some ⟨g, 0, none⟩)] 29))
        have hgg : wr.heap.size ≤ g := by have := HBA.out.size; omega
        have HRO := hide hro
        have HT2 := hide ht2
        have HBX := hide hbx
        have HGG := hide hgg
        have L1 : Hid ((ptrs gs).length + 1 ≤ maxLen) := hide (by have := HGS.out; unfold maxLen ptrs; rw [List.length_map]; omega)
        have L2 : Hid (((ptrs gs).length + 1) * 8 ≤ 140737488355328) := hide (by have := HGS.out; unfold ptrs; rw [List.length_map]; omega)
        have L3 : Hid (w.heap.size ≤ (w5.alloc (.cells #[.pointer (some ⟨g, 0, none⟩)] 29)).heap.size) := hide (by have := hbx.size; omega)
        clear hro ht2 hbx hbw h1 hb5 hg hgg hnw
        go_wp2_with (first
          | (at_builtin; refine list_append_rows rowPT _ (by rfl) (.tmp 43) (.tmp 51) (by rfl) w.heap.size (.slice A9 j c9) _ (by rfl) HRO.out ⟨w5.heap.size, 0, none⟩ 1 1 [[Value.pointer (some ⟨g, 0, none⟩)]] (by rfl) (ptrs_wide [g]) (by rfl) hone L1.out L2.out L3.out ?_; intro v3 w6 ho3 hgr3 _; have HO3 := hide ho3; have HG3 := hide hgr3; clear ho3 hgr3)
          | fail)
        go_roundw
        case rel => exact ⟨j + 1, gs ++ [g], by omega, by simp; exact HGS.out, by go_num, hT.out.push HGG.out HBX.out (by rw [HGS.out]; exact HT2.out) HO3.out HG3.out⟩
        case measure => simp [intOf]; omega
      · have hjn : j = nm := by omega
        subst hjn
        clear hlt hj HT0
        go_wp2_with fail
        go_loopw [12, 13, 14, 15, 16, 17, 18] (fun s12 s13 s14 s15 s16 s17 s18 wr => ∃ (q : Nat) (l x now : Int), s12 = .int .i64 (q : Int) ∧ s13 = .int .i64 l ∧ s14 = .int .i64 x ∧ s15 = .int .i64 now ∧ 1 ≤ now ∧ now ≤ N + 1 ∧ (q : Int) < now ∧ 0 ≤ l ∧ l < now ∧ 1 ≤ x ∧ x ≤ m ∧ Hid (TsI w gs (tt ms b m (q : Nat) l x) (.slice A9 j c9) wr)) (fun _ _ _ s15 _ _ _ _ => (N + 1 - intOf s15).toNat)
        case atStart => exact ⟨0, 0, b, 1, rfl, rfl, rfl, rfl, by omega, by omega, by omega, by omega, by omega, by omega, by omega, hT⟩
        case round =>
          clear hT
          obtain ⟨q, l, x, now, rfl, rfl, rfl, rfl, hn1, hn2, hqn, hl0, hl1, hx0, hx1, hT⟩ := hrel
          by_cases hle : now ≤ N
          · have hwn : IntKind.i64.wrap (now + 1) = now + 1 := IntWalk.i64_in _ (by omega)
            obtain ⟨due, hdue⟩ : ∃ due, due = decide (x ≤ now - l) := ⟨_, rfl⟩
            have HD := hide hdue
            have hnin : In64' now := by unfold In64'; omega
            -- what a tick makes of each
            obtain ⟨q', l', x', hq', hst⟩ : ∃ (q' : Nat) (l' x' : Int), (if due = true then q + 1 = q' ∧ now = l' ∧ x' = min (2 * x) m else q = q' ∧ l = l' ∧ x = x') ∧ ∀ i, i < ms.length → (tt ms b m (q : Nat) l x i).tick now = (tt ms b m (q' : Nat) l' x' i, due && decide (i = q % ms.length)) := by
              rw [hdue]
              by_cases h : now - l < x
              · refine ⟨q, l, x, ?_, fun i hi => ?_⟩
                · rw [if_neg (by simp; omega)]
                  exact ⟨rfl, rfl, rfl⟩
                · rw [tt_tick HR.out hi (by omega) (by omega), if_pos h, decide_eq_false (show ¬ x ≤ now - l by omega)]
                  rfl
              · refine ⟨q + 1, now, min (2 * x) m, ?_, fun i hi => ?_⟩
                · rw [if_pos (by simp; omega)]
                  exact ⟨rfl, rfl, rfl⟩
                · rw [tt_tick HR.out hi (by omega) (by omega), if_neg h, decide_eq_true (show x ≤ now - l by omega)]
                  simp
            have HST := hide hst
            have HQ' := hide hq'
            have HLE := hide (And.intro hl0 (And.intro hl1 (And.intro hx0 hx1)))
            obtain ⟨u, hu⟩ : ∃ u, u = q % ms.length := ⟨_, rfl⟩
            have HU := hide hu
            have hul : u < j := by rw [hu, ← HN.out]; exact Nat.mod_lt _ (by have := hL7.out; have := HN.out; omega)
            clear hst hq' hdue hu hx0 hx1 hl0 hl1
            have HUL := hide hul
            clear hul
            go_wp2_with fail
            go_loopw [16, 17, 18, 63] (fun s16 s17 s18 s63 wr => ∃ i : Nat, i ≤ j ∧ s63 = .int .i64 (i : Int) ∧ s16 = .int .i64 (mineT due u i) ∧ Hid (TsI w gs (fun z => if z < i then tt ms b m (q' : Nat) l' x' z else tt ms b m (q : Nat) l x z) (.slice A9 j c9) wr)) (fun _ _ _ s63 _ => j - (intOf s63).toNat)
            case atStart => exact ⟨0, by omega, rfl, by unfold mineT; rw [if_neg (by omega)], hT.out.congr (fun z _ => by simp)⟩
            case round =>
              clear hT
              obtain ⟨i, hi, rfl, rfl, hT⟩ := hrel
              by_cases hlt : i < j
              · have hig : i < (gs : List Nat).length := by rw [HGS.out]; exact hlt
                obtain ⟨gv, ⟨cv, ev⟩, hcell⟩ := hT.out.at_ hig
                injection ev with ev1 ev2 ev3
                clear ev2 ev3
                subst ev1
                obtain ⟨hg0, Ai, ni, ci, hti⟩ := hT.out.tm i hig
                simp only [Nat.lt_irrefl, if_false] at hti
                have htk := ttick_any hti now hnin
                rw [HST.out i (by rw [HN.out]; exact hlt)] at htk
                have heq := eq_pT (gs[i])
                generalize hgi : gs[i] = gi at *
                have HGI := hide hgi
                have hil : (i : Int) < (j : Int) := by omega
                have hij : (0 : Int) ≤ (i : Int) := by omega
                clear hti hgi
                cases han : (due && decide (i = q % ms.length))
                · rw [han] at htk
                  have HMN : Hid (mineT due u (i + 1) = mineT due u i) := hide (mineT_no (by rw [HU.out]; exact han))
                  clear han
                  go_wp2_with fail
                  refine htk.mono ?_
                  rintro e w6 ⟨rfl, h6, k6⟩
                  have HT6 := hide ((hT.out.step hig (by rw [HGI.out]; exact h6) (by rw [HGI.out]; exact k6)).congr (S' := fun z => if z < i + 1 then tt ms b m (q' : Nat) l' x' z else tt ms b m (q : Nat) l x z) (fun z _ => by
                    by_cases e1 : z = i
                    · rw [if_pos e1, if_pos (by omega), e1]
                    · rw [if_neg e1]
                      by_cases e2 : z < i
                      · rw [if_pos e2, if_pos (by omega)]
                      · rw [if_neg e2, if_neg (by omega)]))
                  clear h6 k6 htk hcell hg0
                  go_wp2
                  go_roundw
                  case rel => exact ⟨i + 1, by omega, by go_num, by rw [HMN.out], HT6⟩
                  case measure => simp [intOf]; omega
                · rw [han] at htk
                  obtain ⟨m1, m2⟩ := mineT_yes (due := due) (x := u) (j := i) (by rw [HU.out]; exact han)
                  have HM1 := hide m1
                  clear han m1
                  rw [m2]
                  clear m2
                  go_wp2_with fail
                  refine htk.mono ?_
                  rintro e w6 ⟨rfl, h6, k6⟩
                  have HT6 := hide ((hT.out.step hig (by rw [HGI.out]; exact h6) (by rw [HGI.out]; exact k6)).congr (S' := fun z => if z < i + 1 then tt ms b m (q' : Nat) l' x' z else tt ms b m (q : Nat) l x z) (fun z _ => by
                    by_cases e1 : z = i
                    · rw [if_pos e1, if_pos (by omega), e1]
                    · rw [if_neg e1]
                      by_cases e2 : z < i
                      · rw [if_pos e2, if_pos (by omega)]
                      · rw [if_neg e2, if_neg (by omega)]))
                  clear h6 k6 htk hcell hg0
                  go_wp2
                  go_roundw
                  case rel => exact ⟨i + 1, by omega, by go_num, by rw [HM1.out], HT6⟩
                  case measure => simp [intOf]; omega
              · have hij : i = j := by omega
                subst hij
                have HT : Hid (TsI w gs (tt ms b m (q' : Nat) l' x') (.slice A9 i c9) wr) := hide (hT.out.congr (fun z hz => by rw [if_pos (by rw [HGS.out] at hz; exact hz)]))
                have hmn : mineT due u i = if due = true then (u : Int) else -1 := by
                  unfold mineT
                  by_cases hd : due = true
                  · rw [if_pos ⟨hd, HUL.out⟩, if_pos hd]
                  · rw [if_neg (fun h => hd h.1), if_neg hd]
                rw [hmn]
                have w1 : IntKind.i64.wrap (now - l) = now - l := IntWalk.i64_in _ (by have := HLE.out; omega)
                have HQ1 := HQ'.out
                clear hT hlt hi hmn
                cases hdd : due
                · rw [hdd, if_neg (by simp)] at HQ1
                  obtain ⟨rfl, rfl, rfl⟩ := HQ1
                  have d1 : decide (now - l < x) = true := decide_eq_true (by have := of_decide_eq_false (HD.out.symm.trans hdd); omega)
                  rw [if_neg (by simp)]
                  clear hdd
                  have HT2 := HT
                  clear HT
                  go_wp2_with fail
                  go_roundw
                  case rel => exact ⟨q, l, x, now + 1, rfl, rfl, rfl, rfl, by omega, by omega, by omega, HLE.out.1, by have := HLE.out; omega, HLE.out.2.2.1, HLE.out.2.2.2, HT2⟩
                  case measure => simp [intOf]; omega
                · rw [hdd, if_pos rfl] at HQ1
                  obtain ⟨rfl, rfl, hx'⟩ := HQ1
                  have d1 : decide (now - l < x) = false := decide_eq_false (by have := of_decide_eq_true (HD.out.symm.trans hdd); omega)
                  rw [if_pos rfl]
                  have hx2 : (if m < 2 * x then m else 2 * x) = x' := by rw [hx']; have := HLE.out; split <;> omega
                  have hx3 : 1 ≤ x' ∧ x' ≤ m := by have := HLE.out; omega
                  have v3 : IntKind.i64.wrap (2 * x) = 2 * x := IntWalk.i64_in _ (by have := HLE.out; omega)
                  have v4 : IntKind.i64.wrap ((q : Int) + 1) = (q : Int) + 1 := IntWalk.i64_in _ (by omega)
                  have hnz : (i : Int) ≠ 0 := by have := hL7.out; omega
                  have hrm : (q : Int).tmod (i : Int) = (u : Int) := by
                    rw [Int.tmod_eq_emod_of_nonneg (by omega), HU.out, HN.out]
                    exact (Int.natCast_emod q i).symm
                  have hu1 : decide ((u : Int) < 0) = false := decide_eq_false (by omega)
                  have h0g : 0 < gs.length := by rw [HGS.out]; have := hL7.out; omega
                  have hi0 : (0 : Int) < (i : Int) := by have := hL7.out; omega
                  obtain ⟨gv, ⟨cv, ev⟩, hcell⟩ := HT.out.at_ h0g
                  obtain ⟨hg0, A0, k0, c0, ht0⟩ := HT.out.tm 0 h0g
                  have hrd := tround_any ht0
                  rw [show (tt ms b m ((q + 1 : Nat) : Int) now x' 0).round = (q : Int) + 1 from by show ((q + 1 : Nat) : Int) = _; omega] at hrd
                  injection ev with ev1 ev2 ev3
                  clear ev2 ev3
                  subst ev1
                  generalize gs[0] = gz at *
                  clear hdd hx' ht0 h0g
                  have HX3 := hide hx3
                  clear hx3
                  go_wp2_with fail
                  refine hrd.mono ?_
                  rintro e _ ⟨rfl, rfl⟩
                  go_wp2
                  go_roundw
                  case rel => exact ⟨q + 1, now, x', now + 1, by go_num, rfl, rfl, rfl, by omega, by omega, by omega, by omega, by omega, HX3.out.1, HX3.out.2, HT⟩
                  case measure => simp [intOf]; omega
          · go_wp2
            go_ret
            exact ⟨rfl, hT.out.bel⟩
  · rw [decide_eq_false hr] at hri
    have HR := hide hr
    clear hr
    go_wp2_with fail
    refine hri.mono ?_
    rintro e w2 ⟨rfl, d2, rfl⟩
    have hb2 := below_drewN hb1 d2
    generalize w1.drewN d2 = w2 at *
    clear hri hb1
    have hm2 := hm.below hb2
    obtain ⟨v1, wa, hr1, hown1, hba⟩ := run_copy_ints w2 22 Am nm cm w.heap.size ms hm2 HN.out (by omega) hb2.size
    obtain ⟨Aa, na, ca, rfl, hna, hnca, hxa⟩ := hown1.form
    obtain rfl : na = nm := by rw [← hna.out, HN.out]
    have hnew := tnew_any 1 Aa na ca wa.heap.size ms 1 1 0 wa hxa (Nat.le_refl _) HN.out (by omega) (by unfold In64'; omega)
    have HR1 := hide hr1
    have HB4 := hide (hb2.trans (hba.mono hb2.size))
    clear hr1 hown1 hxa hna hba hm2 hb2
    go_wp2_with (first
      | (at_builtin; refine list_append_want _ (by rfl) (.tmp 24) (.tmp 25) 22 22 rfl _ _ rfl rfl _ _ HR1.out ?_)
      | fail)
    refine hnew.mono ?_
    rintro e w5 ⟨_, h1, hb5⟩
    obtain rfl := h1 HR.out
    go_wp2
    go_ret
    exact ⟨rfl, HB4.out.trans (hb5.mono HB4.out.size)⟩
end Go.Proofs.Ytgdncmkhcdmjoaa
