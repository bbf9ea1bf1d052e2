/-
  MsgUnlike of the statements, as its tied card: for every input the law returns true, and what came in reads as it did. No condition of ours; the row lists one table of the program, which the card ties to the program's text.
  The walk of MsgUnlike. Conditions: what came in is in reach; the package's table is as its text lays it.
-/
import Derived.Test.YtapbcpilklhoiabDoorMX16
import Derived.Test.YtapbcpilklhoiabDoorMX17
import Derived.BigQuiet
import Derived.Deep.RegionHeld3
import Derived.Deep.MidRow
import Derived.Test.YtapbcpilklhoiabDoorMX14
set_option linter.unusedSimpArgs false
set_option linter.unusedVariables false

namespace Go.Proofs.YtapbcpilklhoiabDoor
open Go.RowKit

theorem yieldsIf_load_rowM {ops : Array Oper} {S : World → Prop} {op : Oper} {a : Act} (hw : Region.wanted op (yielded ops a.tmps) = true) (x : Operand) (ho : op.op = .load 37 x)
    (g : Nat) (hx : a.eval x = .pointer (some ⟨g, 0, none⟩)) (t : TypeId) (cs : Array Value) (hS : ∀ w, S w → w.heap[g]? = some (.cells cs t (0, 0)))
    (hi : (Tryd.prog.info? 37).map (·.size) = some cs.size) : YieldsIf Tryd.prog ops S op (.agg cs) a :=
  .inl ⟨hw, fun w hw' => by
    unfold execOp
    simp only [ho, hx, Instr.loadAt, Instr.sureAddr, Sem.run_bind, Sem.run_pure, Result.andThen_ok, run_loadVar_row (P := Tryd.prog) w g t 37 cs (0, 0) _ (hS w hw') Tryd.underlying37 rfl hi]⟩
/-- Memory within the comparison. -/
structure UW (a b : Msgv) (w : World) (g2 : Nat) (w5 W : World) : Prop where
  ha : W.heap[w.heap.size]? = some (.cells a.cells 37 (0, 0))
  hb : W.heap[g2]? = some (.cells b.cells 37 (0, 0))
  bl : Below w5.heap.size w5 W
theorem UW.below {a b : Msgv} {w w5 W W' : World} {g2 : Nat} (h : UW a b w g2 w5 W) (hb : Below W.heap.size W W') : UW a b w g2 w5 W' :=
  ⟨(hb.block _ (lt_of_block h.ha)).trans h.ha, (hb.block _ (lt_of_block h.hb)).trans h.hb, h.bl.trans (hb.mono h.bl.size)⟩
theorem UW.drew {a b : Msgv} {w w5 W : World} {g2 : Nat} (h : UW a b w g2 w5 W) : UW a b w g2 w5 W.drew := ⟨h.ha, h.hb, h.bl.drew⟩

theorem us_all : (List.range 15).all (fun k => (usOf (k : Int)).contains 116 == ut (usedT (k : Int)) 32) = true := by decide +kernel
theorem us_time {k : Int} (h : usedT k ≠ 0) : (usOf k).contains 116 = ut (usedT k) 32 := by
  have hk := used_in h
  have hh := List.all_eq_true.1 us_all k.toNat (List.mem_range.2 (by omega))
  rw [Int.toNat_of_nonneg hk.1] at hh
  exact eq_of_beq hh
theorem usOf_len (k : Int) : (usOf k).length ≤ 4 := by
  unfold usOf
  split
  · rename_i h
    have hh : (List.range 15).all (fun k => decide ((usS.getD k []).length ≤ 4)) = true := by decide +kernel
    have := List.all_eq_true.1 hh k.toNat (List.mem_range.2 (by omega))
    exact of_decide_eq_true this
  · simp
/-- A time that the kind doesn't use makes a message wrong. -/
theorem chkM_time {w : World} {B : Nat} {m : Msgv} (hm : IsM w B m) (h : chkM m = 0) (ht : ut (usedT m.kd) 32 = false) (n : Int) (hn : n ≠ 0) : chkM { m with tm := n } = 26 := by
  have hF := chkM_fine hm h
  have hu := hF.used
  have hk := used_in hu
  have hkk : ((m.kd.toNat : Nat) : Int) = m.kd := by omega
  unfold chkM
  rw [if_neg (by rw [beq_iff_eq]; exact hu), if_pos]
  rw [bne_iff_ne]
  intro e
  have hU := fil_used m.kd.toNat (by omega) (!decide (m.br = 0) || !decide (m.bn = 0)) (m.sl != 0) (m.lw != 0) (n != 0) (!sameV m.v.k m.v.cs m.v.ns 0 [] []) (decide (0 < m.vn)) (!eqC m.cm zeroC) (!decide (m.rk = 0) || (!decide (m.rr = 0) || !decide (m.ri = 0))) (decide (0 < m.dn)) (by rw [hkk]; exact e)
  rw [hkk] at hU
  have := hU.2.2.2.1 (by rw [bne_iff_ne]; exact hn)
  rw [ht] at this
  cases this

set_option maxRecDepth 40000 in
set_option maxHeartbeats 12800000 in
theorem munlike_walk (a b : Msgv) (n : Int) (w : World) (ht : TabM w) (ha : IsM w w.heap.size a) (hb : IsM w w.heap.size b) (hva : a.vn ≤ 1759218604440) (hvb : b.vn ≤ 1759218604440) (hsa : -9223372036854775808 ≤ a.sl) (hsb : -9223372036854775808 ≤ b.sl) (h0 : 0 < w.heap.size) :
    Calls Tryd.prog 7 #[.agg a.cells, .agg b.cells, .int .i64 n] w fun e w' => e = .returned (.bool true) ∧ Below w.heap.size w w' := by
  have HT : Hid (∀ W, Below w.heap.size w W → TabM W) := hide (fun W h => ht.below h (by omega))
  have HAA : Hid (∀ W, Below w.heap.size w W → IsM W w.heap.size a) := hide (fun W h => ha.below h)
  have HBB : Hid (∀ W, Below w.heap.size w W → IsM W w.heap.size b) := hide (fun W h => hb.below h)
  have HUA : Hid (∀ (M : Msgv) (W : World) (B : Nat), IsM W B M → M.lg = a.lg → chkM M = chkM a ∧ -9223372036854775808 ≤ M.sl) := hide (fun M W B im e => ⟨by rw [chkM_up im.en im.ed, e, ← chkM_up ha.en ha.ed], by have : M.sl = a.sl := congrArg Msgl.sl e; rw [this]; exact hsa⟩)
  have HUB : Hid (∀ (M : Msgv) (W : World) (B : Nat), IsM W B M → M.lg = b.lg → chkM M = chkM b ∧ -9223372036854775808 ≤ M.sl) := hide (fun M W B im e => ⟨by rw [chkM_up im.en im.ed, e, ← chkM_up hb.en hb.ed], by have : M.sl = b.sl := congrArg Msgl.sl e; rw [this]; exact hsb⟩)
  have HFA : Hid (chkM a = 0 → FineM a.lg (usedT a.kd)) := hide (fun h => chkM_fine ha h)
  have HFB : Hid (chkM b = 0 → FineM b.lg (usedT b.kd)) := hide (fun h => chkM_fine hb h)
  have HTM : Hid (∀ (M : Msgv) (W : World) (B : Nat), IsM W B M → M.lg = a.lg → chkM a = 0 → ut (usedT a.kd) 32 = false → 1 ≤ n → chkM { M with tm := n } = 26) := hide (fun M W B im e h1 h2 h3 => chkM_time im (by rw [chkM_up im.en im.ed, e, ← chkM_up ha.en ha.ed]; exact h1) (by have : M.kd = a.kd := congrArg Msgl.kd e; rw [this]; exact h2) n (by omega))
  clear ht ha hb
  go_enter Tryd.func7, Tryd.ntmps7
  go_upto_region 1 with fail
  have hp0 := (Below.heap_alloc (w.alloc (.cells a.cells 37)) (.cells b.cells 37) w.heap.size (by simp)).trans (heap_alloc_new w (.cells a.cells 37))
  have hr0 := heap_alloc_new (w.alloc (.cells a.cells 37)) (.cells b.cells 37)
  have b0 : Below w.heap.size w ((w.alloc (.cells a.cells 37)).alloc (.cells b.cells 37)) := by go_grown
  rw [show (w.alloc (.cells a.cells 37)).heap.size = w.heap.size + 1 by simp] at hr0
  have hs0 : w.heap.size + 1 < ((w.alloc (.cells a.cells 37)).alloc (.cells b.cells 37)).heap.size := by simp
  generalize (w.alloc (.cells a.cells 37)).alloc (.cells b.cells 37) = w0 at *
  generalize hg2 : w.heap.size + 1 = g2 at *
  have hlt2 : w.heap.size < g2 := by omega
  clear hg2
  have HP0 := hide hp0
  have HQ0 := hide hr0
  clear hp0 hr0
  go_wp2_with fail
  refine (head7_any w0 (HT.out _ b0) (by omega)).mono ?_
  rintro e w1 ⟨rfl, b1'⟩
  have HP1 := hide ((b1'.block w.heap.size (by omega)).trans HP0.out)
  have HQ1 := hide ((b1'.block g2 (by omega)).trans HQ0.out)
  have b1 := b0.trans (b1'.mono b0.size)
  have hz1 : g2 < w1.heap.size := by have := b1'.size; omega
  clear HP0 HQ0 b0 b1' hs0
  go_wp2_with (refine wpList_load_row rfl 37 _ rfl w.heap.size rfl _ _ _ _ HP1.out Tryd.underlying37 rfl (info_msg _) ?_)
  refine (mcopy_any a w.heap.size w1 (HAA.out _ b1) b1.size hva).mono ?_
  rintro e w2 ⟨m2, rfl, lg2, im2, re2, b2'⟩
  obtain ⟨ck2, sl2⟩ := HUA.out m2 w2 _ im2 lg2
  have HP2 := hide ((b2'.block w.heap.size (by omega)).trans HP1.out)
  have HQ2 := hide ((b2'.block g2 (by omega)).trans HQ1.out)
  have b2 := b1.trans (b2'.mono b1.size)
  have hz2 : g2 < w2.heap.size := by have := b2'.size; omega
  clear HP1 HQ1 b1 b2' hz1 re2
  go_wp2_with fail
  refine (mencode_any m2 w2.heap.size w2 (HT.out _ b2) im2 (Nat.le_refl _) (by omega) sl2).mono ?_
  rintro e w3 ⟨v3, rfl, ho3, _, b3'⟩
  have HP3 := hide ((b3'.block w.heap.size (by omega)).trans HP2.out)
  have HQ3 := hide ((b3'.block g2 (by omega)).trans HQ2.out)
  have b3 := b2.trans (b3'.mono b2.size)
  have hz3 : g2 < w3.heap.size := by have := b3'.size; omega
  have HO3 : Hid (chkM a = 0 → Own w3 w2.heap.size v3 (encM a.lg (usedT a.kd))) := hide (fun h => by
    have hk : m2.kd = a.kd := congrArg Msgl.kd lg2
    have := ho3.out (by rw [ck2]; exact h)
    rw [lg2, hk] at this
    exact this)
  rw [ck2]
  clear HP2 HQ2 b2 b3' hz2 ho3 im2 lg2 ck2 sl2
  generalize w2.heap.size = s2 at *
  go_wp2_with (refine wpList_load_row rfl 37 _ rfl g2 rfl _ _ _ _ HQ3.out Tryd.underlying37 rfl (info_msg _) ?_)
  refine (mcopy_any b w.heap.size w3 (HBB.out _ b3) b3.size hvb).mono ?_
  rintro e w4 ⟨m4, rfl, lg4, im4, re4, b4'⟩
  obtain ⟨ck4, sl4⟩ := HUB.out m4 w4 _ im4 lg4
  have HP4 := hide ((b4'.block w.heap.size (by omega)).trans HP3.out)
  have HQ4 := hide ((b4'.block g2 (by omega)).trans HQ3.out)
  have b4 := b3.trans (b4'.mono b3.size)
  have hz4 : g2 < w4.heap.size := by have := b4'.size; omega
  have HO4 : Hid (chkM a = 0 → Own w4 s2 v3 (encM a.lg (usedT a.kd))) := hide (fun h => (HO3.out h).keep fun k hk => b4'.block k ((HO3.out h).lt k hk).2)
  clear HP3 HQ3 b3 b4' hz3 re4 HO3
  go_wp2_with fail
  refine (mencode_any m4 w4.heap.size w4 (HT.out _ b4) im4 (Nat.le_refl _) (by omega) sl4).mono ?_
  rintro e w5 ⟨v5, rfl, ho5, _, b5'⟩
  have HP5 := hide ((b5'.block w.heap.size (by omega)).trans HP4.out)
  have HQ5 := hide ((b5'.block g2 (by omega)).trans HQ4.out)
  have b5 := b4.trans (b5'.mono b4.size)
  have hz5 : g2 < w5.heap.size := by have := b5'.size; omega
  have HO5 : Hid (chkM a = 0 → Own w5 s2 v3 (encM a.lg (usedT a.kd))) := hide (fun h => (HO4.out h).keep fun k hk => b5'.block k ((HO4.out h).lt k hk).2)
  have HO5' : Hid (chkM b = 0 → Own w5 w4.heap.size v5 (encM b.lg (usedT b.kd))) := hide (fun h => by
    have hk : m4.kd = b.kd := congrArg Msgl.kd lg4
    have := ho5.out (by rw [ck4]; exact h)
    rw [lg4, hk] at this
    exact this)
  rw [ck4]
  clear HP4 HQ4 b4 b5' hz4 ho5 im4 lg4 ck4 sl4 HO4 HUB hvb hsb
  generalize w4.heap.size = s4 at *
  go_upto_region 5 with fail
  go_cut [43] (fun v wx => v = .bool false ∧ Below w.heap.size w wx ∧ Hid (wx.heap[w.heap.size]? = some (.cells a.cells 37 (0, 0))))
  case first =>
    by_cases hA : chkM a = 0
    · by_cases hB : chkM b = 0
      · obtain ⟨A3, n3, c3, rfl, hn3, hnc3, hx3, _⟩ := (HO5.out hA).form
        obtain ⟨A5, n5, c5, rfl, hn5, hnc5, hx5, _⟩ := (HO5'.out hB).form
        have hlen := (HFA.out hA).len
        have HRR : Hid (decide (encM a.lg (usedT a.kd) = encM b.lg (usedT b.kd)) = sameM a b) := hide (by
          rw [Bool.eq_iff_iff, decide_eq_true_eq, sameM_iff]
          exact ⟨fun h => encM_unlike (HFA.out hA) (HFB.out hB) h, fun h => by
            have hk : a.kd = b.kd := congrArg Msgl.kd h
            rw [h, hk]⟩)
        have HN3 := hide hn3.out
        have HN5 := hide hn5.out
        have HL : Hid (n3 ≤ 140737488355328) := hide (by rw [← HN3.out]; omega)
        have HC1 : Hid (∀ W, Below w5.heap.size w5 W → Calls Tryd.prog 13 #[.slice A3 n3 c3, .slice A5 n5 c5] W (SameEnds (encM a.lg (usedT a.kd)) (encM b.lg (usedT b.kd)) W)) := hide (fun W h => same_any A3 A5 n3 n5 c3 c5 w5.heap.size w5.heap.size _ _ W (hx3.below h) (hx5.below h) HN3.out HN5.out HL.out)
        have HC2 : Hid (∀ W, Below w5.heap.size w5 W → Calls Tryd.prog 12 #[.agg a.cells, .agg b.cells] W fun e w' => e = .returned (.bool (sameM a b)) ∧ Below W.heap.size W w') := hide (fun W h => rmsame_any a b w.heap.size W (HAA.out W (b5.trans (h.mono b5.size))) (HBB.out W (b5.trans (h.mono b5.size))) (by have := b5.size; have := h.size; omega))
        have tA : (chkM a == 0) = true := by rw [beq_iff_eq]; exact hA
        have tB : (chkM b == 0) = true := by rw [beq_iff_eq]; exact hB
        clear hx3 hx5 hn3 hn5 HO5 HO5' hlen hA hB
        generalize encM a.lg (usedT a.kd) = za at *
        generalize encM b.lg (usedT b.kd) = zb at *
        have U5 : UW a b w g2 w5 w5 := ⟨HP5.out, HQ5.out, Below.refl _ _⟩
        have tne : (sameM a b != sameM a b) = false := by simp
        generalize hsm : sameM a b = r at *
        clear hsm
        refine wp_region_held_drew (S := fun w' => UW a b w g2 w5 w') (by kernel_rfl) U5.drew (fun hHeld => ?_)
        refine wpAnyH_take (i := 0) (oi := _) (v := .int .i64 (chkM a)) rfl (by kernel_rfl) (by kernel_rfl) (by kernel_rfl) (fun _ _ _ h => h) (Or.inl ⟨by rfl, fun w' hSw => by go_simp⟩) hHeld ?_
        (try simp only [Act.put, List.setIfInBounds_toArray, List.set_cons_zero, List.set_cons_succ, List.getElem_toArray, List.getElem_cons_zero, List.getElem_cons_succ])
        refine wpAnyH_take (i := 1) (oi := _) (v := .bool true) rfl (by kernel_rfl) (by kernel_rfl) (by kernel_rfl) (fun _ _ _ h => h) (Or.inl ⟨by rfl, fun w' hSw => by go_simp⟩) hHeld ?_
        (try simp only [Act.put, List.setIfInBounds_toArray, List.set_cons_zero, List.set_cons_succ, List.getElem_toArray, List.getElem_cons_zero, List.getElem_cons_succ])
        refine wpAnyH_take (i := 2) (oi := _) (v := .bool true) rfl (by kernel_rfl) (by kernel_rfl) (by kernel_rfl) (fun _ _ _ h => h) (Or.inl ⟨by rfl, fun w' hSw => by go_simp⟩) hHeld ?_
        (try simp only [Act.put, List.setIfInBounds_toArray, List.set_cons_zero, List.set_cons_succ, List.getElem_toArray, List.getElem_cons_zero, List.getElem_cons_succ])
        refine wpAnyH_take (i := 3) (oi := _) (v := .int .i64 (chkM b)) rfl (by kernel_rfl) (by kernel_rfl) (by kernel_rfl) (fun _ _ _ h => h) (Or.inl ⟨by rfl, fun w' hSw => by go_simp⟩) hHeld ?_
        (try simp only [Act.put, List.setIfInBounds_toArray, List.set_cons_zero, List.set_cons_succ, List.getElem_toArray, List.getElem_cons_zero, List.getElem_cons_succ])
        refine wpAnyH_take (i := 4) (oi := _) (v := .bool true) rfl (by kernel_rfl) (by kernel_rfl) (by kernel_rfl) (fun _ _ _ h => h) (Or.inl ⟨by rfl, fun w' hSw => by go_simp⟩) hHeld ?_
        (try simp only [Act.put, List.setIfInBounds_toArray, List.set_cons_zero, List.set_cons_succ, List.getElem_toArray, List.getElem_cons_zero, List.getElem_cons_succ])
        refine wpAnyH_take (i := 5) (oi := _) (v := .bool true) rfl (by kernel_rfl) (by kernel_rfl) (by kernel_rfl) (fun _ _ _ h => h) (Or.inl ⟨by rfl, fun w' hSw => by go_simp⟩) hHeld ?_
        (try simp only [Act.put, List.setIfInBounds_toArray, List.set_cons_zero, List.set_cons_succ, List.getElem_toArray, List.getElem_cons_zero, List.getElem_cons_succ])
        refine wpAnyH_take (i := 6) (oi := _) (v := .bool true) rfl (by kernel_rfl) (by kernel_rfl) (by kernel_rfl) (fun _ _ _ h => h) (Or.inl ⟨by rfl, fun w' hSw => by go_simp⟩) hHeld ?_
        (try simp only [Act.put, List.setIfInBounds_toArray, List.set_cons_zero, List.set_cons_succ, List.getElem_toArray, List.getElem_cons_zero, List.getElem_cons_succ])
        refine wpAnyH_take (i := 7) (oi := _) (v := .slice A3 n3 c3) rfl (by kernel_rfl) (by kernel_rfl) (by kernel_rfl) (fun _ _ _ h => h) (Or.inl ⟨by rfl, fun w' hSw => by go_simp⟩) hHeld ?_
        (try simp only [Act.put, List.setIfInBounds_toArray, List.set_cons_zero, List.set_cons_succ, List.getElem_toArray, List.getElem_cons_zero, List.getElem_cons_succ])
        refine wpAnyH_take (i := 8) (oi := _) (v := .slice A5 n5 c5) rfl (by kernel_rfl) (by kernel_rfl) (by kernel_rfl) (fun _ _ _ h => h) (Or.inl ⟨by rfl, fun w' hSw => by go_simp⟩) hHeld ?_
        (try simp only [Act.put, List.setIfInBounds_toArray, List.set_cons_zero, List.set_cons_succ, List.getElem_toArray, List.getElem_cons_zero, List.getElem_cons_succ])
        refine wpAnyH_take (i := 10) (oi := _) (v := .agg a.cells) rfl (by kernel_rfl) (by kernel_rfl) (by kernel_rfl) (fun _ _ _ h => h) (yieldsIf_load_rowM (by rfl) (.tmp 3) rfl w.heap.size rfl _ a.cells (fun w' h => h.ha) (info_msg _)) hHeld ?_
        (try simp only [Act.put, List.setIfInBounds_toArray, List.set_cons_zero, List.set_cons_succ, List.getElem_toArray, List.getElem_cons_zero, List.getElem_cons_succ])
        refine wpAnyH_take (i := 11) (oi := _) (v := .agg b.cells) rfl (by kernel_rfl) (by kernel_rfl) (by kernel_rfl) (fun _ _ _ h => h) (yieldsIf_load_rowM (by rfl) (.tmp 4) rfl g2 rfl _ b.cells (fun w' h => h.hb) (info_msg _)) hHeld ?_
        (try simp only [Act.put, List.setIfInBounds_toArray, List.set_cons_zero, List.set_cons_succ, List.getElem_toArray, List.getElem_cons_zero, List.getElem_cons_succ])
        refine wpAnyH_ready (rs := [9]) (by kernel_rfl) (by simp) ?_
        refine AllReadyH.cons (o := _) rfl (fun K hK => ?_) AllReadyH.nil
        simp only [List.getElem_toArray, List.getElem_cons_zero, List.getElem_cons_succ]
        go_simp
        refine (HC1.out _ hHeld.bl).mono ?_
        rintro e wS ⟨rfl, nq, rfl⟩
        rw [HRR.out]
        have hX : UW a b w g2 w5 (w5.drewN (1 + nq)) := ⟨HP5.out, HQ5.out, below_drewN (Below.refl _ _) (1 + nq)⟩
        go_wp2_with fail
        refine hK.out _ _ hX (fun hHeld => ?_)
        clear hK hX
        (try simp only [Act.put, List.setIfInBounds_toArray, List.set_cons_zero, List.set_cons_succ, List.getElem_toArray, List.getElem_cons_zero, List.getElem_cons_succ])
        have A6 := hHeld
        refine wpAnyH_ready (rs := [12]) (by kernel_rfl) (by simp) ?_
        refine AllReadyH.cons (o := _) rfl (fun K hK => ?_) AllReadyH.nil
        simp only [List.getElem_toArray, List.getElem_cons_zero, List.getElem_cons_succ]
        go_simp
        refine (HC2.out _ A6.bl).mono ?_
        rintro e wT ⟨rfl, bT⟩
        have hX := A6.below bT
        go_wp2_with fail
        refine hK.out _ _ hX (fun hHeld => ?_)
        clear hK hX
        (try simp only [Act.put, List.setIfInBounds_toArray, List.set_cons_zero, List.set_cons_succ, List.getElem_toArray, List.getElem_cons_zero, List.getElem_cons_succ])
        have A7 := hHeld
        refine wpAnyH_take (i := 13) (oi := _) (v := .bool false) rfl (by kernel_rfl) (by kernel_rfl) (by kernel_rfl) (fun _ _ _ h => h) (Or.inl ⟨by rfl, fun w' hSw => by go_simp⟩) hHeld ?_
        (try simp only [Act.put, List.setIfInBounds_toArray, List.set_cons_zero, List.set_cons_succ, List.getElem_toArray, List.getElem_cons_zero, List.getElem_cons_succ])
        refine wpAnyH_take (i := 14) (oi := _) (v := .bool false) rfl (by kernel_rfl) (by kernel_rfl) (by kernel_rfl) (fun _ _ _ h => h) (Or.inl ⟨by rfl, fun w' hSw => by go_simp⟩) hHeld ?_
        (try simp only [Act.put, List.setIfInBounds_toArray, List.set_cons_zero, List.set_cons_succ, List.getElem_toArray, List.getElem_cons_zero, List.getElem_cons_succ])
        refine wpAnyH_done (by kernel_rfl) ?_ _
        go_wp2_with fail
        go_meet
        exact ⟨rfl, b5.trans (A7.bl.mono b5.size), hide A7.ha⟩
      · have tB : (chkM b == 0) = false := by rw [beq_eq_false_iff_ne]; exact hB
        have tA : (chkM a == 0) = true := by rw [beq_iff_eq]; exact hA
        clear hA hB
        go_quiet (fail)
        go_wp2_with fail
        go_meet
        exact ⟨rfl, below_drewN b5 _, HP5⟩
    · have tA : (chkM a == 0) = false := by rw [beq_eq_false_iff_ne]; exact hA
      clear hA
      go_quiet (fail)
      go_wp2_with fail
      go_meet
      exact ⟨rfl, below_drewN b5 _, HP5⟩
  clear b5 HP5 HQ5 hz5 HO5 HO5' HFB HBB
  obtain ⟨rfl, b6, HP6⟩ := hcut
  by_cases hA : chkM a = 0
  rotate_left
  · have tA : (chkM a != 0) = true := by rw [bne_iff_ne]; exact hA
    go_wp2
    go_ret
    exact ⟨rfl, b6⟩
  by_cases hn1 : n < 1
  · have t1 : decide (n < 1) = true := decide_eq_true hn1
    rw [hA]
    go_wp2
    go_ret
    exact ⟨rfl, b6⟩
  by_cases hn2 : 1000 < n
  · have t1 : decide (n < 1) = false := decide_eq_false hn1
    have t2 : decide (1000 < n) = true := decide_eq_true hn2
    rw [hA]
    go_wp2
    go_ret
    exact ⟨rfl, b6⟩
  have t1 : decide (n < 1) = false := decide_eq_false hn1
  have t2 : decide (1000 < n) = false := decide_eq_false hn2
  rw [hA]
  have hz6 := lt_of_block HP6.out
  generalize wc = w6 at *
  go_wp2_with (refine wpList_load_row rfl 37 _ rfl w.heap.size rfl _ _ _ _ HP6.out Tryd.underlying37 rfl (info_msg _) ?_)
  refine (mcopy_any a w.heap.size w6 (HAA.out _ b6) b6.size hva).mono ?_
  rintro e w7 ⟨m7, rfl, lg7, im7, re7, b7'⟩
  obtain ⟨_, sl7⟩ := HUA.out m7 w7 _ im7 lg7
  have HP7 := hide ((b7'.block w.heap.size hz6).trans HP6.out)
  have b7 := b6.trans (b7'.mono b6.size)
  have hz7 := b7'.size
  clear HP6 b6 b7' t1 t2
  have hr8 := set_row_at (B := m7.cells) (heap_alloc_new w7 (.cells #[.int .i64 0, .int .i64 0, .int .i64 0, .int .i64 0, .int .i64 0, .int .i64 0, .int .i64 0, .int .i64 0, .int .i64 0, .int .i64 0, .slice none 0 0, .slice none 0 0, .slice none 0 0, .int .i64 0, .int .i64 0, .int .i64 0, .int .i64 0, .int .i64 0, .int .i64 0, .int .i64 0, .int .i64 0, .int .i64 0, .int .i64 0, .int .i64 0, .slice none 0 0] 37))
  have b8' : Below w7.heap.size w7 ((w7.alloc (.cells #[.int .i64 0, .int .i64 0, .int .i64 0, .int .i64 0, .int .i64 0, .int .i64 0, .int .i64 0, .int .i64 0, .int .i64 0, .int .i64 0, .slice none 0 0, .slice none 0 0, .slice none 0 0, .int .i64 0, .int .i64 0, .int .i64 0, .int .i64 0, .int .i64 0, .int .i64 0, .int .i64 0, .int .i64 0, .int .i64 0, .int .i64 0, .int .i64 0, .slice none 0 0] 37)).setRow w7.heap.size m7.cells) := ((Below.refl _ w7).alloc (Nat.le_refl _) (.cells #[.int .i64 0, .int .i64 0, .int .i64 0, .int .i64 0, .int .i64 0, .int .i64 0, .int .i64 0, .int .i64 0, .int .i64 0, .int .i64 0, .slice none 0 0, .slice none 0 0, .slice none 0 0, .int .i64 0, .int .i64 0, .int .i64 0, .int .i64 0, .int .i64 0, .int .i64 0, .int .i64 0, .int .i64 0, .int .i64 0, .int .i64 0, .int .i64 0, .slice none 0 0] 37)).trans ((Kept.of_setRow _ w7.heap.size m7.cells).below (by simp) (fun k hk => by omega))
  have HP8 := hide ((b8'.block w.heap.size (by omega)).trans HP7.out)
  have im8 : IsM ((w7.alloc (.cells #[.int .i64 0, .int .i64 0, .int .i64 0, .int .i64 0, .int .i64 0, .int .i64 0, .int .i64 0, .int .i64 0, .int .i64 0, .int .i64 0, .slice none 0 0, .slice none 0 0, .slice none 0 0, .int .i64 0, .int .i64 0, .int .i64 0, .int .i64 0, .int .i64 0, .int .i64 0, .int .i64 0, .int .i64 0, .int .i64 0, .int .i64 0, .int .i64 0, .slice none 0 0] 37)).setRow w7.heap.size m7.cells) w7.heap.size m7 := im7.below b8'
  have b8 := b7.trans (b8'.mono b7.size)
  have hz8 := lt_of_block hr8
  clear HP7 b7 b8'
  go_wp2_with (refine wpList_store_row rfl 37 _ _ rfl w7.heap.size m7.cells rfl rfl _ _ (heap_alloc_new w7 (.cells #[.int .i64 0, .int .i64 0, .int .i64 0, .int .i64 0, .int .i64 0, .int .i64 0, .int .i64 0, .int .i64 0, .int .i64 0, .int .i64 0, .slice none 0 0, .slice none 0 0, .slice none 0 0, .int .i64 0, .int .i64 0, .int .i64 0, .int .i64 0, .int .i64 0, .int .i64 0, .int .i64 0, .int .i64 0, .int .i64 0, .int .i64 0, .int .i64 0, .slice none 0 0] 37)) (info_msg _) rfl (mcells_one _) ?_; generalize (w7.alloc (.cells #[.int .i64 0, .int .i64 0, .int .i64 0, .int .i64 0, .int .i64 0, .int .i64 0, .int .i64 0, .int .i64 0, .int .i64 0, .int .i64 0, .slice none 0 0, .slice none 0 0, .slice none 0 0, .int .i64 0, .int .i64 0, .int .i64 0, .int .i64 0, .int .i64 0, .int .i64 0, .int .i64 0, .int .i64 0, .int .i64 0, .int .i64 0, .int .i64 0, .slice none 0 0] 37)).setRow w7.heap.size m7.cells = w8 at *; have c0 := (row_cells HP8.out 0).1; simp only [Msgv.cells, List.getElem?_toArray, List.getElem?_cons_zero] at c0)
  refine (ruses_any a.kd w8).mono ?_
  rintro e w9 ⟨rfl, b9'⟩
  have hr9 := (b9'.block w7.heap.size hz8).trans hr8
  have im9 : IsM w9 w7.heap.size m7 := im8.below (b9'.mono (by omega))
  have b9 := b8.trans (b9'.mono b8.size)
  have hz9 := b9'.size
  have HUS : Hid ((usOf a.kd).contains 116 = ut (usedT a.kd) 32) := hide (us_time (HFA.out hA).used)
  have hlen := usOf_len a.kd
  clear HP8 b8 b9' im8 hr8 c0
  unfold str
  generalize usOf a.kd = s at *
  have hs : (⟨s.toArray⟩ : ByteArray).size = s.length := by simp [ByteArray.size]
  go_wp2_with fail
  go_loopw [13, 14] (fun x i wr => ∃ j : Nat, j ≤ s.length ∧ i = .int .i64 j ∧ x = .bool ((s.take j).contains 116) ∧ w9 = wr) (fun _ i _ => s.length - (intOf i).toNat)
  case atStart => exact ⟨0, Nat.zero_le _, rfl, by simp, rfl⟩
  case round =>
    obtain ⟨j, hj, rfl, rfl, rfl⟩ := hrel
    by_cases hlt : j < s.length
    · have ka := fun W => str_at s j hlt W
      unfold str at ka
      have HTK : Hid ((s.take (j + 1)).contains 116 = ((s.take j).contains 116 || (s[j] == 116))) := hide (by
        rw [List.take_succ_eq_append_getElem hlt, Bool.eq_iff_iff, List.contains_iff_mem, Bool.or_eq_true, List.contains_iff_mem, List.mem_append, List.mem_singleton, beq_iff_eq]
        exact ⟨fun h => h.imp id Eq.symm, fun h => h.imp id Eq.symm⟩)
      generalize s[j] = x at *
      cases ht : (s.take j).contains 116 with
      | true =>
        have HX : Hid ((s.take (j + 1)).contains 116 = true) := hide (by rw [HTK.out, ht]; rfl)
        clear ht HTK
        go_wp2_with fail
        go_roundw
        case rel => exact ⟨j + 1, by omega, by go_num, by rw [HX.out], trivial⟩
        case measure => simp [intOf]; omega
      | false =>
        by_cases hx : x = 116
        · have HX : Hid ((s.take (j + 1)).contains 116 = true) := hide (by rw [HTK.out, hx]; simp)
          subst hx
          clear ht HTK
          go_wp2_with fail
          go_roundw
          case rel => exact ⟨j + 1, by omega, by go_num, by rw [HX.out], trivial⟩
          case measure => simp [intOf]; omega
        · have HX : Hid ((s.take (j + 1)).contains 116 = false) := hide (by rw [HTK.out, ht]; simp [hx])
          have t0 : ((x.toNat : Int) == 116) = false := by
            rw [beq_eq_false_iff_ne]
            intro e
            exact hx (UInt8.toNat_inj.1 (by show x.toNat = 116; omega))
          clear ht HTK
          go_wp2_with fail
          go_roundw
          case rel => exact ⟨j + 1, by omega, by go_num, by rw [HX.out], trivial⟩
          case measure => simp [intOf]; omega
    · obtain rfl : j = s.length := by omega
      rw [List.take_length, HUS.out]
      cases hu : ut (usedT a.kd) 32 with
      | true =>
        clear hu
        go_wp2
        go_ret
        exact ⟨rfl, b9⟩
      | false =>
        have HC6 := hide (HTM.out m7 w9 _ im9 lg7 hA hu (by omega))
        obtain ⟨c8, f8⟩ := row_cells hr9 8
        simp only [Msgv.cells, List.getElem?_toArray, List.getElem?_cons_succ, List.getElem?_cons_zero] at c8
        have hr10 : (w9.setCell ⟨w7.heap.size, 8, none⟩ (.int .i64 n)).heap[w7.heap.size]? = some (.cells ({ m7 with tm := n } : Msgv).cells 37 (0, 0)) := by simp [World.setCell, Array.getElem?_modify, hr9, Msgv.cells]
        have hk10 : Kept (fun k => k = w7.heap.size) w9 (w9.setCell ⟨w7.heap.size, 8, none⟩ (.int .i64 n)) := (Kept.refl (fun k => k = w7.heap.size) w9).setCell (p := ⟨w7.heap.size, 8, none⟩) (.inl rfl) _
        have im10 : IsM (w9.setCell ⟨w7.heap.size, 8, none⟩ (.int .i64 n)) w7.heap.size m7 := im9.keepR fun k hk hlt => hk10.block k (by omega) (by omega)
        have b10 : Below w.heap.size w (w9.setCell ⟨w7.heap.size, 8, none⟩ (.int .i64 n)) := b9.trans (hk10.below b9.size (fun k hk => by omega))
        have hz10 := hk10.size
        have im10' : IsM (w9.setCell ⟨w7.heap.size, 8, none⟩ (.int .i64 n)) w7.heap.size ({ m7 with tm := n } : Msgv) := ⟨im10.v, im10.vt, im10.en, im10.ln, im10.d, im10.ed, im10.dc, im10.ld, im10.cm, im10.i1, im10.i2, im10.i3⟩
        have sl8 : -9223372036854775808 ≤ ({ m7 with tm := n } : Msgv).sl := sl7
        clear hu im10 hk10
        go_upto_region 19 with fail
        generalize w9.setCell ⟨w7.heap.size, 8, none⟩ (.int .i64 n) = w10 at *
        generalize hm8 : ({ m7 with tm := n } : Msgv) = m8 at *
        clear hm8
        go_wp2_with (refine wpList_load_row rfl 37 _ rfl w7.heap.size rfl _ _ _ _ hr10 Tryd.underlying37 rfl (info_msg _) ?_)
        refine (mcheck_any m8 w7.heap.size w10 (HT.out _ b10) im10' (by omega) (by omega) sl8).mono ?_
        rintro e w11 ⟨rfl, b11⟩
        rw [HC6.out]
        go_wp2
        go_ret
        exact ⟨rfl, b10.trans (b11.mono b10.size)⟩
end Go.Proofs.YtapbcpilklhoiabDoor

namespace Go.Proofs.YtapbcpilklhoiabDoor
open Go.ChangeShapes Go.WideShapes Go.ChangeAt Go.RowKit
set_option linter.unusedVariables false

set_option maxRecDepth 100000 in
theorem msgUnlike_lifted (os : Os) (started : os.Started) (H : Type) (enc : TypeId × Value → H) :
    ReturnsInHanded {} Tryd.checked os 7 .any (fun w args => (Rows.msgUnlikeSpec.pre enc Tryd.prog Tryd.f7 [] false w args ∧ laidMetH Tryd.prog laid1 w) ∧ sizedMet enc Tryd.prog Tryd.f7 (OpenSpec.ofChange Rows.msgUnlikeSpec) false w args)
      (Rows.msgUnlikeSpec.post enc Tryd.prog Tryd.f7 false true false false) := by
  refine returnsInHanded_of_change_and (C := Tryd.checked) (X := fun w _ => laidMetH Tryd.prog laid1 w) (fun _ _ _ hh h => h.of_heap hh) ownKnob_none started (by kernel_rfl) Tryd.func7
    (ChangeSpec.witness_shaped (enc := enc) (C := Tryd.checked) (os := os) (X := fun w _ => laidMetH Tryd.prog laid1 w) false (World.doorLaid Tryd.prog 14 os) #[.agg #[.int .i64 0, .int .i64 0, .int .i64 0, .int .i64 0, .int .i64 0, .int .i64 0, .int .i64 0, .int .i64 0, .int .i64 0, .int .i64 0, .slice none 0 0, .slice none 0 0, .slice none 0 0, .int .i64 0, .int .i64 0, .int .i64 0, .int .i64 0, .int .i64 0, .int .i64 0, .int .i64 0, .int .i64 0, .int .i64 0, .int .i64 0, .int .i64 0, .slice none 0 0], .agg #[.int .i64 0, .int .i64 0, .int .i64 0, .int .i64 0, .int .i64 0, .int .i64 0, .int .i64 0, .int .i64 0, .int .i64 0, .int .i64 0, .slice none 0 0, .slice none 0 0, .slice none 0 0, .int .i64 0, .int .i64 0, .int .i64 0, .int .i64 0, .int .i64 0, .int .i64 0, .int .i64 0, .int .i64 0, .int .i64 0, .int .i64 0, .int .i64 0, .slice none 0 0], .int .i64 0] 8 rfl (World.shaped_of_RefB (by kernel_rfl) (by kernel_rfl)) (by kernel_rfl) (by kernel_rfl) (by kernel_rfl) (door_met os _)) ?_
  intro W base args ds gs before hval0 hW _ hsz0 hL _
  have hval : ∀ (j : Nat) t v, Tryd.f7.params[j]? = some t → args[j]? = some v → Value.okWide Tryd.prog W .any base t v := hval0
  have hsz : (DataW.weightsEach Tryd.prog (Tryd.f7.params.toList ++ Rows.msgUnlikeSpec.plain.varTypes Tryd.prog) (ds ++ gs)).all (· ≤ reachBytes) = true := hsz0
  have hW' := hW
  obtain ⟨p, q, hA0, hV, rfl, hfz, hnd⟩ := hW
  have hA : DataW.TrodAll enc Tryd.prog W 0 (fun _ => true) true Tryd.f7.params.toList args.toList ds p := hA0
  rw [Tryd.params7] at hA hval hsz
  obtain ⟨v0, vs0', d0, ds0, p0, q0, hargs, rfl, rfl, h0, r0⟩ := trodAll_cons hA
  obtain ⟨v1, vs1', d1, ds1, p1, q1, rfl, rfl, rfl, h1, r1⟩ := trodAll_cons r0
  obtain ⟨v2, vs2', d2, ds2, p2, q2, rfl, rfl, rfl, h2, r2⟩ := trodAll_cons r1
  obtain ⟨rfl, rfl, rfl⟩ := trodAll_nil r2
  obtain rfl : args = #[v0, v1, v2] := by cases args; simp_all
  obtain ⟨rfl, rfl⟩ := trodVars_none hV
  have t0 := h0
  have lt0 : ∀ x ∈ p0, x.block < W.heap.size := by obtain ⟨m, hm⟩ := t0; exact DataW.trod_lt m _ _ _ hm
  obtain ⟨m0, rfl, hm0⟩ := open_msg (hval 0 37 v0 rfl rfl) h0 (Light.of_each hsz (j := 0) rfl rfl)
  have t1 := h1
  have lt1 : ∀ x ∈ p1, x.block < W.heap.size := by obtain ⟨m, hm⟩ := t1; exact DataW.trod_lt m _ _ _ hm
  obtain ⟨m1, rfl, hm1⟩ := open_msg (hval 1 37 v1 rfl rfl) h1 (Light.of_each hsz (j := 1) rfl rfl)
  obtain ⟨n2, rfl, rfl, rfl, w2⟩ := open_int Tryd.underlying3 (hval 2 3 v2 rfl rfl) h2
  clear hA0 hval0
  refine (munlike_walk m0 m1 n2 W (tab_of_laid hL) hm0.im hm1.im (by have := hm0.vn; omega) (by have := hm1.vn; omega) hm0.sl.1 hm1.sl.1 (tab_of_laid hL).lt).mono fun e W' ⟨he, bel⟩ => ?_
  subst he
  exact ⟨_, rfl, _, _, _, [], _, [], hW', trodAll_mk1 (shut_bool Tryd.underlying4 _), (trodAll_cons_mk (Below.trod laid_out (by kernel_rfl) (of_decide_eq_true (by kernel_rfl)) t0 bel lt0) (trodAll_cons_mk (Below.trod laid_out (by kernel_rfl) (of_decide_eq_true (by kernel_rfl)) t1 bel lt1) (trodAll_cons_mk (shut_int Tryd.underlying3 w2) trodAll_mk0))), rfl, bel.frame _, fun h => by cases h⟩

theorem msgUnlike_holds : Rows.MsgUnlikeSaid :=
  OpenClaim.holds_of_wide 7 Tryd.f7 rfl rfl rfl rfl rfl rfl rfl ⟨rfl, rfl, rfl, rfl, rfl⟩ rfl rfl rfl rfl rfl (by kernel_rfl) Tryd.func7 (by kernel_rfl)
    (of_decide_eq_true (by kernel_rfl)) (by unfold Func.isWrapper; first | (rw [if_pos (by decide +kernel)]; kernel_rfl) | (rw [if_neg (by decide +kernel)]; exact ⟨rfl, rfl⟩))
    (fun os started H enc _ => msgUnlike_lifted os started H enc)

theorem msgUnlike_card : Rows.MsgUnlikeCardSaid :=
  Claim7.holds_tied_plain_at .later [] [.data] true Rows.msgUnlikeCard.stood.harness false
    msgUnlike_holds (fun _ h => by cases h) (by kernel_rfl) (fun _ h => by cases h) msgUnlike_row_tie rfl ⟨rfl, rfl⟩ (by kernel_rfl) rfl
    (fun f fn hf hfn => by
      obtain rfl : f = 7 := Option.some.inj ((show Tryd.prog.funcNamed "synod/synodlaw07.MsgUnlike" = some 7 by kernel_rfl).symm.trans hf) |>.symm
      obtain rfl : fn = Tryd.f7 := (Option.some.inj (Tryd.func7.symm.trans hfn)).symm
      exact ⟨by kernel_rfl, fun j t ht => by
        rw [Tryd.params7] at ht
        have hm : t ∈ [37, 37, 3] := by simpa using Array.mem_of_getElem? ht
        have hall : ([37, 37, 3].all fun u => !Tryd.prog.wantsStandIn u) = true := by kernel_rfl
        exact (show Tryd.prog.wantsStandIn t = false by simpa using List.all_eq_true.1 hall t hm)⟩)
    (by kernel_rfl)
#print axioms msgUnlike_card
end Go.Proofs.YtapbcpilklhoiabDoor
