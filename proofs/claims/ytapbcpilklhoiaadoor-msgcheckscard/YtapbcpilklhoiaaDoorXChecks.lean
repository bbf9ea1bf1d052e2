/-
  MsgChecks of the statements, as its tied card: for every input the law returns true, and what came in reads as it did. No condition of ours; the row lists one table of the program, which the card ties to the program's text.
  The walk of MsgChecks. Conditions: what came in is in reach; the package's table is as its text lays it.
-/
import Derived.Test.YtapbcpilklhoiaaDoorMX16
import Derived.Test.YtapbcpilklhoiaaDoorMX20
import Derived.Deep.MidRow
import Derived.Deep.RegionHeld3
import Derived.Test.YtapbcpilklhoiaaDoorMX14
set_option linter.unusedSimpArgs false
set_option linter.unusedVariables false

namespace Go.Proofs.YtapbcpilklhoiaaDoor
open Go.RowKit

theorem yieldsIf_load_rowM {ops : Array Oper} {S : World → Prop} {op : Oper} {a : Act} (hw : Region.wanted op (yielded ops a.tmps) = true) (x : Operand) (ho : op.op = .load 37 x)
    (g : Nat) (hx : a.eval x = .pointer (some ⟨g, 0, none⟩)) (t : TypeId) (cs : Array Value) (hS : ∀ w, S w → w.heap[g]? = some (.cells cs t (0, 0)))
    (hi : (Tryd.prog.info? 37).map (·.size) = some cs.size) : YieldsIf Tryd.prog ops S op (.agg cs) a :=
  .inl ⟨hw, fun w hw' => by
    unfold execOp
    simp only [ho, hx, Instr.loadAt, Instr.sureAddr, Sem.run_bind, Sem.run_pure, Result.andThen_ok, run_loadVar_row (P := Tryd.prog) w g t 37 cs (0, 0) _ (hS w hw') Tryd.underlying37 rfl hi]⟩
/-- Memory within the comparison. -/
structure KW (m : Msgv) (w W : World) : Prop where
  ha : W.heap[w.heap.size]? = some (.cells m.cells 37 (0, 0))
  bl : Below w.heap.size w W
theorem KW.below {m : Msgv} {w W W' : World} (h : KW m w W) (hb : Below W.heap.size W W') : KW m w W' :=
  ⟨(hb.block _ (lt_of_block h.ha)).trans h.ha, h.bl.trans (hb.mono h.bl.size)⟩
theorem KW.drew {m : Msgv} {w W : World} (h : KW m w W) : KW m w W.drew := ⟨h.ha, h.bl.drew⟩
theorem zero_chk : chkM (mz 0 0 0 0) = 26 := by decide +kernel

set_option maxRecDepth 40000 in
set_option maxHeartbeats 6400000 in
theorem mchecks_walk (m : Msgv) (A : Option Addr) (n c : Nat) (vs : List Votev) (f : Int) (w : World) (ht : TabM w) (hm : IsM w w.heap.size m) (hvn : m.vn ≤ 1759218604440) (hsl : -9223372036854775808 ≤ m.sl) (hV : HasVt w w.heap.size A vs) (hlv : vs.length = n) (hn : n ≤ 1759218604440) (hf : -9223372036854775808 ≤ f) (h0 : 0 < w.heap.size) :
    Calls Tryd.prog 3 #[.agg m.cells, .slice A n c, .int .i64 f] w fun e w' => e = .returned (.bool true) ∧ Below w.heap.size w w' := by
  have HT : Hid (∀ W, Below w.heap.size w W → TabM W) := hide (fun W h => ht.below h (by omega))
  have HMM : Hid (∀ W, Below w.heap.size w W → IsM W w.heap.size m) := hide (fun W h => hm.below h)
  have HVV : Hid (∀ W, Below w.heap.size w W → HasVt W w.heap.size A vs) := hide (fun W h => hV.below h)
  have HN := hide hlv
  have HUP : Hid (∀ (M : Msgv) (W : World) (B : Nat), IsM W B M → M.lg = m.lg → chkM M = chkM m ∧ -9223372036854775808 ≤ M.sl) := hide (fun M W B im e => ⟨by rw [chkM_up im.en im.ed, e, ← chkM_up hm.en hm.ed], by have : M.sl = m.sl := congrArg Msgl.sl e; rw [this]; exact hsl⟩)
  clear ht hm hV hlv
  go_enter Tryd.func3, Tryd.ntmps3
  go_upto_region 1 with fail
  have hp0 := heap_alloc_new w (.cells m.cells 37)
  have b0 : Below w.heap.size w (w.alloc (.cells m.cells 37)) := by go_grown
  generalize w.alloc (.cells m.cells 37) = w0 at *
  have A0 : KW m w w0 := ⟨hp0, b0⟩
  have hz0 := lt_of_block hp0
  clear hp0
  go_wp2_with fail
  refine (head7_any w0 (HT.out _ b0) (by omega)).mono ?_
  rintro e w1 ⟨rfl, b1'⟩
  have A1 := A0.below b1'
  have hz1 := b1'.size
  clear A0 b1' b0
  go_wp2_with fail
  refine (mcheck_any (mz 0 0 0 0) w1.heap.size w1 (HT.out _ A1.bl) (isM_mz _ _ _ _ _ _) (Nat.le_refl _) (by omega) (by show -9223372036854775808 ≤ (0 : Int); omega)).mono ?_
  rintro e w2 ⟨rfl, b2'⟩
  rw [zero_chk]
  have A2 := A1.below b2'
  clear A1 b2'
  go_wp2_with fail
  refine wp_region_held_drew (S := fun w' => KW m w w') (by kernel_rfl) A2.drew (fun hHeld => ?_)
  refine wpAnyH_take (i := 0) (oi := _) (v := .agg m.cells) rfl (by kernel_rfl) (by kernel_rfl) (by kernel_rfl) (fun _ _ _ h => h) (yieldsIf_load_rowM (by rfl) (.tmp 3) rfl w.heap.size rfl _ m.cells (fun w' h => h.ha) (info_msg _)) hHeld ?_
  (try simp only [Act.put, List.setIfInBounds_toArray, List.set_cons_zero, List.set_cons_succ, List.getElem_toArray, List.getElem_cons_zero, List.getElem_cons_succ])
  refine wpAnyH_take (i := 3) (oi := _) (v := .agg m.cells) rfl (by kernel_rfl) (by kernel_rfl) (by kernel_rfl) (fun _ _ _ h => h) (yieldsIf_load_rowM (by rfl) (.tmp 3) rfl w.heap.size rfl _ m.cells (fun w' h => h.ha) (info_msg _)) hHeld ?_
  (try simp only [Act.put, List.setIfInBounds_toArray, List.set_cons_zero, List.set_cons_succ, List.getElem_toArray, List.getElem_cons_zero, List.getElem_cons_succ])
  refine wpAnyH_ready (rs := [1]) (by kernel_rfl) (by simp) ?_
  refine AllReadyH.cons (o := _) rfl (fun K hK => ?_) AllReadyH.nil
  simp only [List.getElem_toArray, List.getElem_cons_zero, List.getElem_cons_succ]
  go_simp
  refine (mcopy_any m w.heap.size _ (HMM.out _ hHeld.bl) hHeld.bl.size hvn).mono ?_
  rintro e w3 ⟨m3, rfl, lg3, im3, re3, b3⟩
  have hX := hHeld.below b3
  go_wp2_with fail
  refine hK.out _ _ hX (fun hHeld => ?_)
  clear hK hX
  (try simp only [Act.put, List.setIfInBounds_toArray, List.set_cons_zero, List.set_cons_succ, List.getElem_toArray, List.getElem_cons_zero, List.getElem_cons_succ])
  have A3 := hHeld
  obtain ⟨ck3, sl3⟩ := HUP.out m3 w3 _ im3 lg3
  refine wpAnyH_ready (rs := [2]) (by kernel_rfl) (by simp) ?_
  refine AllReadyH.cons (o := _) rfl (fun K hK => ?_) AllReadyH.nil
  simp only [List.getElem_toArray, List.getElem_cons_zero, List.getElem_cons_succ]
  go_simp
  refine (mcheck_any m3 w3.heap.size w3 (HT.out _ A3.bl) im3 (Nat.le_refl _) (by have := A3.bl.size; omega) sl3).mono ?_
  rintro e w4 ⟨rfl, b4⟩
  rw [ck3]
  have hX := A3.below b4
  go_wp2_with fail
  refine hK.out _ _ hX (fun hHeld => ?_)
  clear hK hX
  (try simp only [Act.put, List.setIfInBounds_toArray, List.set_cons_zero, List.set_cons_succ, List.getElem_toArray, List.getElem_cons_zero, List.getElem_cons_succ])
  have A4 := hHeld
  refine wpAnyH_ready (rs := [4]) (by kernel_rfl) (by simp) ?_
  refine AllReadyH.cons (o := _) rfl (fun K hK => ?_) AllReadyH.nil
  simp only [List.getElem_toArray, List.getElem_cons_zero, List.getElem_cons_succ]
  go_simp
  refine (rmcheck_any m w.heap.size w4 (HMM.out _ A4.bl) A4.bl.size).mono ?_
  rintro e w5 ⟨rfl, b5⟩
  have hX := A4.below b5
  go_wp2_with fail
  refine hK.out _ _ hX (fun hHeld => ?_)
  clear hK hX
  (try simp only [Act.put, List.setIfInBounds_toArray, List.set_cons_zero, List.set_cons_succ, List.getElem_toArray, List.getElem_cons_zero, List.getElem_cons_succ])
  have A5 := hHeld
  generalize hce : chkM m = ce at *
  have tce : (ce == ce) = true := by simp
  refine wpAnyH_take (i := 5) (oi := _) (v := .bool true) rfl (by kernel_rfl) (by kernel_rfl) (by kernel_rfl) (fun _ _ _ h => h) (Or.inl ⟨by rfl, fun w' hSw => by go_simp⟩) hHeld ?_
  (try simp only [Act.put, List.setIfInBounds_toArray, List.set_cons_zero, List.set_cons_succ, List.getElem_toArray, List.getElem_cons_zero, List.getElem_cons_succ])
  refine wpAnyH_take (i := 6) (oi := _) (v := .bool true) rfl (by kernel_rfl) (by kernel_rfl) (by kernel_rfl) (fun _ _ _ h => h) (Or.inl ⟨by rfl, fun w' hSw => by go_simp⟩) hHeld ?_
  (try simp only [Act.put, List.setIfInBounds_toArray, List.set_cons_zero, List.set_cons_succ, List.getElem_toArray, List.getElem_cons_zero, List.getElem_cons_succ])
  refine wpAnyH_take (i := 7) (oi := _) (v := .slice A n c) rfl (by kernel_rfl) (by kernel_rfl) (by kernel_rfl) (fun _ _ _ h => h) (Or.inl ⟨by rfl, fun w' hSw => by go_simp⟩) hHeld ?_
  (try simp only [Act.put, List.setIfInBounds_toArray, List.set_cons_zero, List.set_cons_succ, List.getElem_toArray, List.getElem_cons_zero, List.getElem_cons_succ])
  refine wpAnyH_take (i := 9) (oi := _) (v := .int .i64 f) rfl (by kernel_rfl) (by kernel_rfl) (by kernel_rfl) (fun _ _ _ h => h) (Or.inl ⟨by rfl, fun w' hSw => by go_simp⟩) hHeld ?_
  (try simp only [Act.put, List.setIfInBounds_toArray, List.set_cons_zero, List.set_cons_succ, List.getElem_toArray, List.getElem_cons_zero, List.getElem_cons_succ])
  refine wpAnyH_take (i := 11) (oi := _) (v := .slice A n c) rfl (by kernel_rfl) (by kernel_rfl) (by kernel_rfl) (fun _ _ _ h => h) (Or.inl ⟨by rfl, fun w' hSw => by go_simp⟩) hHeld ?_
  (try simp only [Act.put, List.setIfInBounds_toArray, List.set_cons_zero, List.set_cons_succ, List.getElem_toArray, List.getElem_cons_zero, List.getElem_cons_succ])
  refine wpAnyH_take (i := 12) (oi := _) (v := .int .i64 f) rfl (by kernel_rfl) (by kernel_rfl) (by kernel_rfl) (fun _ _ _ h => h) (Or.inl ⟨by rfl, fun w' hSw => by go_simp⟩) hHeld ?_
  (try simp only [Act.put, List.setIfInBounds_toArray, List.set_cons_zero, List.set_cons_succ, List.getElem_toArray, List.getElem_cons_zero, List.getElem_cons_succ])
  refine wpAnyH_ready (rs := [8]) (by kernel_rfl) (by simp) ?_
  refine AllReadyH.cons (o := _) rfl (fun K hK => ?_) AllReadyH.nil
  simp only [List.getElem_toArray, List.getElem_cons_zero, List.getElem_cons_succ]
  go_simp
  refine (copyvotes_any A n c w.heap.size vs w5 (HVV.out _ A5.bl) A5.bl.size HN.out hn).mono ?_
  rintro e w6 ⟨A6, n6, c6, vs6, rfl, hv6, b6⟩
  have hX := A5.below b6
  go_wp2_with fail
  refine hK.out _ _ hX (fun hHeld => ?_)
  clear hK hX
  (try simp only [Act.put, List.setIfInBounds_toArray, List.set_cons_zero, List.set_cons_succ, List.getElem_toArray, List.getElem_cons_zero, List.getElem_cons_succ])
  have A6' := hHeld
  obtain ⟨_, _, _, e2, hn6, _, g6⟩ := hv6.ow.form hv6.iv
  injection e2 with e11 e12 e13
  subst e11 e12 e13
  have hl6 : vs6.length = vs.length := by have h2 := congrArg List.length hv6.eq; rw [List.length_map, List.length_map] at h2; exact h2
  have HCV : Hid (chkVotes vs6 f = chkVotes vs f) := hide (by unfold chkVotes; rw [hl6, chkVts_up vs6, hv6.eq, ← chkVts_up vs])
  refine wpAnyH_ready (rs := [10]) (by kernel_rfl) (by simp) ?_
  refine AllReadyH.cons (o := _) rfl (fun K hK => ?_) AllReadyH.nil
  simp only [List.getElem_toArray, List.getElem_cons_zero, List.getElem_cons_succ]
  go_simp
  refine (checkvotes_any A6 n6 c6 w6.heap.size vs6 f w6 g6 (Nat.le_refl _) hn6.out (by have := hn6.out; have := HN.out; omega) hf).mono ?_
  rintro e w7 ⟨rfl, b7⟩
  rw [HCV.out]
  have hX := A6'.below b7
  go_wp2_with fail
  refine hK.out _ _ hX (fun hHeld => ?_)
  clear hK hX
  (try simp only [Act.put, List.setIfInBounds_toArray, List.set_cons_zero, List.set_cons_succ, List.getElem_toArray, List.getElem_cons_zero, List.getElem_cons_succ])
  have A7 := hHeld
  refine wpAnyH_ready (rs := [13]) (by kernel_rfl) (by simp) ?_
  refine AllReadyH.cons (o := _) rfl (fun K hK => ?_) AllReadyH.nil
  simp only [List.getElem_toArray, List.getElem_cons_zero, List.getElem_cons_succ]
  go_simp
  refine (rcheckvotes_any A n c w.heap.size vs f w7 (HVV.out _ A7.bl) A7.bl.size HN.out).mono ?_
  rintro e w8 ⟨rfl, b8⟩
  have hX := A7.below b8
  go_wp2_with fail
  refine hK.out _ _ hX (fun hHeld => ?_)
  clear hK hX
  (try simp only [Act.put, List.setIfInBounds_toArray, List.set_cons_zero, List.set_cons_succ, List.getElem_toArray, List.getElem_cons_zero, List.getElem_cons_succ])
  have A8 := hHeld
  generalize hcv : chkVotes vs f = cv at *
  have tcv : (cv == cv) = true := by simp
  refine wpAnyH_take (i := 14) (oi := _) (v := .bool true) rfl (by kernel_rfl) (by kernel_rfl) (by kernel_rfl) (fun _ _ _ h => h) (Or.inl ⟨by rfl, fun w' hSw => by go_simp⟩) hHeld ?_
  (try simp only [Act.put, List.setIfInBounds_toArray, List.set_cons_zero, List.set_cons_succ, List.getElem_toArray, List.getElem_cons_zero, List.getElem_cons_succ])
  refine wpAnyH_take (i := 15) (oi := _) (v := .bool true) rfl (by kernel_rfl) (by kernel_rfl) (by kernel_rfl) (fun _ _ _ h => h) (Or.inl ⟨by rfl, fun w' hSw => by go_simp⟩) hHeld ?_
  (try simp only [Act.put, List.setIfInBounds_toArray, List.set_cons_zero, List.set_cons_succ, List.getElem_toArray, List.getElem_cons_zero, List.getElem_cons_succ])
  refine wpAnyH_take (i := 16) (oi := _) (v := .bool true) rfl (by kernel_rfl) (by kernel_rfl) (by kernel_rfl) (fun _ _ _ h => h) (Or.inl ⟨by rfl, fun w' hSw => by go_simp⟩) hHeld ?_
  (try simp only [Act.put, List.setIfInBounds_toArray, List.set_cons_zero, List.set_cons_succ, List.getElem_toArray, List.getElem_cons_zero, List.getElem_cons_succ])
  refine wpAnyH_done (by kernel_rfl) ?_ _
  go_wp2_with fail
  go_ret
  exact ⟨rfl, A8.bl⟩
end Go.Proofs.YtapbcpilklhoiaaDoor

namespace Go.Proofs.YtapbcpilklhoiaaDoor
open Go.ChangeShapes Go.WideShapes Go.ChangeAt Go.RowKit
set_option linter.unusedVariables false

set_option maxRecDepth 100000 in
theorem msgChecks_lifted (os : Os) (started : os.Started) (H : Type) (enc : TypeId × Value → H) :
    ReturnsInHanded {} Tryd.checked os 3 .any (fun w args => (Rows.msgChecksSpec.pre enc Tryd.prog Tryd.f3 [] false w args ∧ laidMetH Tryd.prog laid1 w) ∧ sizedMet enc Tryd.prog Tryd.f3 (OpenSpec.ofChange Rows.msgChecksSpec) false w args)
      (Rows.msgChecksSpec.post enc Tryd.prog Tryd.f3 false true false false) := by
  refine returnsInHanded_of_change_and (C := Tryd.checked) (X := fun w _ => laidMetH Tryd.prog laid1 w) (fun _ _ _ hh h => h.of_heap hh) ownKnob_none started (by kernel_rfl) Tryd.func3
    (ChangeSpec.witness_shaped (enc := enc) (C := Tryd.checked) (os := os) (X := fun w _ => laidMetH Tryd.prog laid1 w) false (World.doorLaid Tryd.prog 14 os) #[.agg #[.int .i64 0, .int .i64 0, .int .i64 0, .int .i64 0, .int .i64 0, .int .i64 0, .int .i64 0, .int .i64 0, .int .i64 0, .int .i64 0, .slice none 0 0, .slice none 0 0, .slice none 0 0, .int .i64 0, .int .i64 0, .int .i64 0, .int .i64 0, .int .i64 0, .int .i64 0, .int .i64 0, .int .i64 0, .int .i64 0, .int .i64 0, .int .i64 0, .slice none 0 0], .slice none 0 0, .int .i64 0] 8 rfl (World.shaped_of_RefB (by kernel_rfl) (by kernel_rfl)) (by kernel_rfl) (by kernel_rfl) (by kernel_rfl) (door_met os _)) ?_
  intro W base args ds gs before hval0 hW _ hsz0 hL _
  have hval : ∀ (j : Nat) t v, Tryd.f3.params[j]? = some t → args[j]? = some v → Value.okWide Tryd.prog W .any base t v := hval0
  have hsz : (DataW.weightsEach Tryd.prog (Tryd.f3.params.toList ++ Rows.msgChecksSpec.plain.varTypes Tryd.prog) (ds ++ gs)).all (· ≤ reachBytes) = true := hsz0
  have hW' := hW
  obtain ⟨p, q, hA0, hV, rfl, hfz, hnd⟩ := hW
  have hA : DataW.TrodAll enc Tryd.prog W 0 (fun _ => true) true Tryd.f3.params.toList args.toList ds p := hA0
  rw [Tryd.params3] at hA hval hsz
  obtain ⟨v0, vs0', d0, ds0, p0, q0, hargs, rfl, rfl, h0, r0⟩ := trodAll_cons hA
  obtain ⟨v1, vs1', d1, ds1, p1, q1, rfl, rfl, rfl, h1, r1⟩ := trodAll_cons r0
  obtain ⟨v2, vs2', d2, ds2, p2, q2, rfl, rfl, rfl, h2, r2⟩ := trodAll_cons r1
  obtain ⟨rfl, rfl, rfl⟩ := trodAll_nil r2
  obtain rfl : args = #[v0, v1, v2] := by cases args; simp_all
  obtain ⟨rfl, rfl⟩ := trodVars_none hV
  have t0 := h0
  have lt0 : ∀ x ∈ p0, x.block < W.heap.size := by obtain ⟨m, hm⟩ := t0; exact DataW.trod_lt m _ _ _ hm
  obtain ⟨m0, rfl, hm0⟩ := open_msg (hval 0 37 v0 rfl rfl) h0 (Light.of_each hsz (j := 0) rfl rfl)
  have t1 := h1
  have lt1 : ∀ x ∈ p1, x.block < W.heap.size := by obtain ⟨m, hm⟩ := t1; exact DataW.trod_lt m _ _ _ hm
  obtain ⟨A1, n1, c1, rfl⟩ := okWide_slice Tryd.underlying28 (hval 1 28 v1 rfl rfl)
  obtain ⟨A1', n1', c1', vs1, ev1, hv1, e1, hn1⟩ : ∃ a len cap ts, Value.slice A1 n1 c1 = .slice a len cap ∧ HasVt W W.heap.size a ts ∧ ts.length = len ∧ len ≤ 1759218604400 := by obtain ⟨fuel, hf⟩ := h1; exact votes_value hf (Light.of_each hsz (j := 1) rfl rfl)
  injection ev1 with ev11 ev12 ev13
  subst ev11 ev12 ev13
  obtain ⟨n2, rfl, rfl, rfl, w2⟩ := open_int Tryd.underlying3 (hval 2 3 v2 rfl rfl) h2
  clear hA0 hval0
  refine (mchecks_walk m0 A1 n1 c1 vs1 n2 W (tab_of_laid hL) hm0.im (by have := hm0.vn; omega) hm0.sl.1 hv1 e1 (by omega) (i64_lo w2) (tab_of_laid hL).lt).mono fun e W' ⟨he, bel⟩ => ?_
  subst he
  exact ⟨_, rfl, _, _, _, [], _, [], hW', trodAll_mk1 (shut_bool Tryd.underlying4 _), (trodAll_cons_mk (Below.trod laid_out (by kernel_rfl) (of_decide_eq_true (by kernel_rfl)) t0 bel lt0) (trodAll_cons_mk (Below.trod laid_out (by kernel_rfl) (of_decide_eq_true (by kernel_rfl)) t1 bel lt1) (trodAll_cons_mk (shut_int Tryd.underlying3 w2) trodAll_mk0))), rfl, bel.frame _, fun h => by cases h⟩

theorem msgChecks_holds : Rows.MsgChecksSaid :=
  OpenClaim.holds_of_wide 3 Tryd.f3 rfl rfl rfl rfl rfl rfl rfl ⟨rfl, rfl, rfl, rfl, rfl⟩ rfl rfl rfl rfl rfl (by kernel_rfl) Tryd.func3 (by kernel_rfl)
    (of_decide_eq_true (by kernel_rfl)) (by unfold Func.isWrapper; first | (rw [if_pos (by decide +kernel)]; kernel_rfl) | (rw [if_neg (by decide +kernel)]; exact ⟨rfl, rfl⟩))
    (fun os started H enc _ => msgChecks_lifted os started H enc)

theorem msgChecks_card : Rows.MsgChecksCardSaid :=
  Claim7.holds_tied_plain_at .later [] [.data] true Rows.msgChecksCard.stood.harness false
    msgChecks_holds (fun _ h => by cases h) (by kernel_rfl) (fun _ h => by cases h) msgChecks_row_tie rfl ⟨rfl, rfl⟩ (by kernel_rfl) rfl
    (fun f fn hf hfn => by
      obtain rfl : f = 3 := Option.some.inj ((show Tryd.prog.funcNamed "synod/synodlaw07.MsgChecks" = some 3 by kernel_rfl).symm.trans hf) |>.symm
      obtain rfl : fn = Tryd.f3 := (Option.some.inj (Tryd.func3.symm.trans hfn)).symm
      exact ⟨by kernel_rfl, fun j t ht => by
        rw [Tryd.params3] at ht
        have hm : t ∈ [37, 28, 3] := by simpa using Array.mem_of_getElem? ht
        have hall : ([37, 28, 3].all fun u => !Tryd.prog.wantsStandIn u) = true := by kernel_rfl
        exact (show Tryd.prog.wantsStandIn t = false by simpa using List.all_eq_true.1 hall t hm)⟩)
    (by kernel_rfl)
#print axioms msgChecks_card
end Go.Proofs.YtapbcpilklhoiaaDoor
