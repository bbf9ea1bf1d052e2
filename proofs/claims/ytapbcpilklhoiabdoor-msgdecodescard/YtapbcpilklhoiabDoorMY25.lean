/-
  Decode of the reference of package msg, whatever the bytes. Conditions: what is read is in reach.
-/
import Derived.Test.YtapbcpilklhoiabDoorMY24
import Derived.Test.YtapbcpilklhoiabDoorMY22
import Derived.Test.YtapbcpilklhoiabDoorMY15
set_option linter.unusedSimpArgs false
set_option linter.unusedVariables false

namespace Go.Proofs.YtapbcpilklhoiabDoor
open Go.RowKit

theorem results_rmdec {tmps : Array Value} {w : World} {g : Nat} {A : Array Value} {t : TypeId} {v : Value} (h2 : tmps.getD 2 undef = .pointer (some ⟨g, 0, none⟩)) (h3 : tmps.getD 3 undef = v) (hA : w.heap[g]? = some (.cells A t (0, 0))) (sA : A.size = 25) :
    (results Tryd.f16 tmps).run Tryd.prog w = .ok (.tuple #[.agg A, v]) w := by
  have h2' : tmps[2]?.getD undef = .pointer (some ⟨g, 0, none⟩) := by simpa using h2
  have h3' : tmps[3]?.getD undef = v := by simpa using h3
  have i1 : (Tryd.prog.info? 37).map (·.size) = some A.size := by rw [sA]; kernel_rfl
  have e1 := run_loadVar_row (P := Tryd.prog) w g t 37 A (0, 0) _ hA Tryd.underlying37 rfl i1
  simp [results, Tryd.results16, h2', h3', asAddr, e1]
  try rfl
/-- How the reference's Decode ends. -/
def RDecEnds (de : Int) (x : Msgl) (w : World) (e : Ending) (w' : World) : Prop :=
  ∃ m : Msgv, e = .returned (.tuple #[.agg m.cells, .int .i64 de]) ∧ m.lg = (if de = 0 then x else zeroM) ∧ IsM w' w'.heap.size m ∧ (∀ k, ReachM m k → w.heap.size ≤ k ∧ k < w'.heap.size) ∧ Below w.heap.size w w'
theorem RDecEnds.bad {de : Int} {x : Msgl} {w w' : World} (h : de ≠ 0) (hb : Below w.heap.size w w') : RDecEnds de x w (.returned (.tuple #[.agg (mz 0 0 0 0).cells, .int .i64 de])) w' :=
  ⟨mz 0 0 0 0, rfl, by rw [if_neg h]; rfl, isM_mz _ _ _ _ _ _, fun k hk => absurd hk (reach_mz _ _ _ _ k), hb⟩
/-- Memory within the reference's Decode. -/
structure DQ (w : World) (B : Nat) (s : RSt) (A : Option Addr) (n c : Nat) (mc : Array Value) (W : World) : Prop where
  res : W.heap[w.heap.size]? = some (.cells (mz 0 0 0 0).cells 37 (0, 0))
  mb : W.heap[w.heap.size + 1]? = some (.cells mc 37 (0, 0))
  box : W.heap[w.heap.size + 1 + 1]? = some (.cells #[.slice A n c, .int .i64 (s.2 : Int)] 89 (0, 0))
  left : s.2 = 0 → Left W B A n c s.1
  bl : Below w.heap.size w W
  hB : B ≤ w.heap.size
section
variable {w W W' : World} {B : Nat} {s s' : RSt} {A A' : Option Addr} {n c n' c' : Nat} {mc mc' : Array Value}
theorem DQ.sz (h : DQ w B s A n c mc W) : w.heap.size + 3 ≤ W.heap.size := by have := lt_of_block h.box; omega
theorem DQ.below (h : DQ w B s A n c mc W) (hb : Below W.heap.size W W') : DQ w B s A n c mc W' := by
  have hz := h.sz
  have hB := h.hB
  exact ⟨(hb.block _ (by omega)).trans h.res, (hb.block _ (by omega)).trans h.mb, (hb.block _ (by omega)).trans h.box, fun e => (h.left e).below (hb.mono (by omega)), h.bl.trans (hb.mono h.bl.size), h.hB⟩
theorem DQ.row (h : DQ w B s A n c mc W) (hl : s'.2 = 0 → Left W B A' n' c' s'.1) : DQ w B s' A' n' c' mc (W.setRow (w.heap.size + 1 + 1) #[.slice A' n' c', .int .i64 (s'.2 : Int)]) := by
  have hk := Kept.of_setRow W (w.heap.size + 1 + 1) #[.slice A' n' c', .int .i64 (s'.2 : Int)]
  have hz := h.sz
  have hB := h.hB
  exact ⟨(hk.block _ (by omega) (by omega)).trans h.res, (hk.block _ (by omega) (by omega)).trans h.mb, set_row_at h.box, fun e => ⟨(hl e).1.keep fun b hb => hk.block b (by omega) (by omega), (hl e).2⟩, h.bl.trans (hk.below h.bl.size (fun k hk => by omega)), h.hB⟩
theorem DQ.put (h : DQ w B s A n c mc W) (hk : Kept (fun k => k = w.heap.size + 1) W W') (hb : W'.heap[w.heap.size + 1]? = some (.cells mc' 37 (0, 0))) : DQ w B s A n c mc' W' := by
  have hz := h.sz
  have hB := h.hB
  exact ⟨(hk.block _ (by omega) (by omega)).trans h.res, hb, (hk.block _ (by omega) (by omega)).trans h.box, fun e => ⟨(h.left e).1.keep fun b hb => hk.block b (by omega) (by omega), (h.left e).2⟩, h.bl.trans (hk.below h.bl.size (fun k hk => by omega)), h.hB⟩
end
theorem rrest_ref (kd fr tt ep : Int) (A : Option Addr) (n c B : Nat) (s : RSt) (w : World) (h : s.2 = 0 → Left w B A n c s.1) (hB : B ≤ w.heap.size) (hu : usedT kd ≠ 0) :
    Calls Tryd.prog 47 #[.agg #[.slice A n c, .int .i64 (s.2 : Int)], .agg (mz kd fr tt ep).cells] w (RRestEnds B (rdRest kd fr tt ep (usedT kd) s).x (rdRest kd fr tt ep (usedT kd) s).s w) := by
  have e : rdRest kd fr tt ep (usedT kd) s = rdRest kd fr tt ep (usedT kd) s := rfl
  unfold rdRest at e ⊢
  simp only
  have ho := oVts_c (ut (usedT kd) 128) (oV (ut (usedT kd) 64) (oN (ut (usedT kd) 32) (oN (ut (usedT kd) 16) (oN (ut (usedT kd) 4) (oN (ut (usedT kd) 2) (oN (ut (usedT kd) 2) s).2).2).2).2).2).s
  exact rrest_gen kd fr tt ep A n c B s w h hB hu _ _ _ _ _ _ _ _ _ _ _ _ rfl rfl rfl rfl rfl rfl rfl ho.symm rfl rfl rfl

set_option maxRecDepth 20000 in
set_option maxHeartbeats 6400000 in
theorem rmdecode_any (A : Option Addr) (n c B : Nat) (xs : List UInt8) (w : World) (hx : Has w B A xs) (hB : B ≤ w.heap.size) (hn : xs.length = n) (hc : n ≤ c) (hl : n ≤ 140737488355328) :
    Calls Tryd.prog 16 #[.slice A n c] w (RDecEnds (mdecE xs) (rdM xs).x w) := by
  have HN := hide hn
  clear hn
  go_enter Tryd.func16, Tryd.ntmps16
  go_upto_region 1 with fail
  have hr0 := heap_alloc_new w (.cells #[.int .i64 0, .int .i64 0, .int .i64 0, .int .i64 0, .int .i64 0, .int .i64 0, .int .i64 0, .int .i64 0, .int .i64 0, .int .i64 0, .slice none 0 0, .slice none 0 0, .slice none 0 0, .int .i64 0, .int .i64 0, .int .i64 0, .int .i64 0, .int .i64 0, .int .i64 0, .int .i64 0, .int .i64 0, .int .i64 0, .int .i64 0, .int .i64 0, .slice none 0 0] 37)
  have b0 : Below w.heap.size w (w.alloc (.cells #[.int .i64 0, .int .i64 0, .int .i64 0, .int .i64 0, .int .i64 0, .int .i64 0, .int .i64 0, .int .i64 0, .int .i64 0, .int .i64 0, .slice none 0 0, .slice none 0 0, .slice none 0 0, .int .i64 0, .int .i64 0, .int .i64 0, .int .i64 0, .int .i64 0, .int .i64 0, .int .i64 0, .int .i64 0, .int .i64 0, .int .i64 0, .int .i64 0, .slice none 0 0] 37)) := by go_grown
  have hs0 : (w.alloc (.cells #[.int .i64 0, .int .i64 0, .int .i64 0, .int .i64 0, .int .i64 0, .int .i64 0, .int .i64 0, .int .i64 0, .int .i64 0, .int .i64 0, .slice none 0 0, .slice none 0 0, .slice none 0 0, .int .i64 0, .int .i64 0, .int .i64 0, .int .i64 0, .int .i64 0, .int .i64 0, .int .i64 0, .int .i64 0, .int .i64 0, .int .i64 0, .int .i64 0, .slice none 0 0] 37)).heap.size = w.heap.size + 1 := by simp
  generalize w.alloc (.cells #[.int .i64 0, .int .i64 0, .int .i64 0, .int .i64 0, .int .i64 0, .int .i64 0, .int .i64 0, .int .i64 0, .int .i64 0, .int .i64 0, .slice none 0 0, .slice none 0 0, .slice none 0 0, .int .i64 0, .int .i64 0, .int .i64 0, .int .i64 0, .int .i64 0, .int .i64 0, .int .i64 0, .int .i64 0, .int .i64 0, .int .i64 0, .int .i64 0, .slice none 0 0] 37) = w0 at *
  have HR0 : Hid (w0.heap[w.heap.size]? = some (.cells (mz 0 0 0 0).cells 37 (0, 0))) := hide hr0
  have HS0 := hide hs0
  clear hr0 hs0
  by_cases hbig : 65536 < n
  · have HE : Hid (mdecE xs = 12) := hide (if_pos (by rw [HN.out]; exact hbig))
    have t1 : decide ((65536 : Int) < (n : Int)) = true := by simp; omega
    have t2 : decide (65536 < n) = true := by simp; omega
    have hkz := Kept.of_setRow w0 w.heap.size (mz 0 0 0 0).cells
    have hrz := set_row_at (B := (mz 0 0 0 0).cells) HR0.out
    go_wp2_with (refine wpList_store_row rfl 37 _ _ rfl w.heap.size (mz 0 0 0 0).cells rfl rfl _ _ HR0.out (info_msg _) rfl (mcells_one _) ?_; generalize w0.setRow w.heap.size (mz 0 0 0 0).cells = wz at *)
    refine bodyPost_ret (v := .tuple #[.agg (mz 0 0 0 0).cells, .int .i64 12]) (results_rmdec rfl rfl hrz rfl) rfl ?_
    rw [HE.out]
    exact RDecEnds.bad (by omega) (b0.trans (hkz.below b0.size (fun k hk => by omega)))
  have HE := hide (mdecE_ok (xs := xs) (by rw [HN.out]; exact hbig))
  have t1 : decide ((65536 : Int) < (n : Int)) = false := by simp; omega
  have t2 : decide (65536 < n) = false := by simp; omega
  have hr1 := set_row_at (B := #[.int .i64 0, .int .i64 0, .int .i64 0, .int .i64 0, .int .i64 0, .int .i64 0, .int .i64 0, .int .i64 0, .int .i64 0, .int .i64 0, .slice none 0 0, .slice none 0 0, .slice none 0 0, .int .i64 0, .int .i64 0, .int .i64 0, .int .i64 0, .int .i64 0, .int .i64 0, .int .i64 0, .int .i64 0, .int .i64 0, .int .i64 0, .int .i64 0, .slice none 0 0]) (heap_alloc_new w0 (.cells #[.int .i64 0, .int .i64 0, .int .i64 0, .int .i64 0, .int .i64 0, .int .i64 0, .int .i64 0, .int .i64 0, .int .i64 0, .int .i64 0, .slice none 0 0, .slice none 0 0, .slice none 0 0, .int .i64 0, .int .i64 0, .int .i64 0, .int .i64 0, .int .i64 0, .int .i64 0, .int .i64 0, .int .i64 0, .int .i64 0, .int .i64 0, .int .i64 0, .slice none 0 0] 37))
  have b1' : Below w0.heap.size w0 ((w0.alloc (.cells #[.int .i64 0, .int .i64 0, .int .i64 0, .int .i64 0, .int .i64 0, .int .i64 0, .int .i64 0, .int .i64 0, .int .i64 0, .int .i64 0, .slice none 0 0, .slice none 0 0, .slice none 0 0, .int .i64 0, .int .i64 0, .int .i64 0, .int .i64 0, .int .i64 0, .int .i64 0, .int .i64 0, .int .i64 0, .int .i64 0, .int .i64 0, .int .i64 0, .slice none 0 0] 37)).setRow w0.heap.size #[.int .i64 0, .int .i64 0, .int .i64 0, .int .i64 0, .int .i64 0, .int .i64 0, .int .i64 0, .int .i64 0, .int .i64 0, .int .i64 0, .slice none 0 0, .slice none 0 0, .slice none 0 0, .int .i64 0, .int .i64 0, .int .i64 0, .int .i64 0, .int .i64 0, .int .i64 0, .int .i64 0, .int .i64 0, .int .i64 0, .int .i64 0, .int .i64 0, .slice none 0 0]) := ((Below.refl _ w0).alloc (Nat.le_refl _) (.cells #[.int .i64 0, .int .i64 0, .int .i64 0, .int .i64 0, .int .i64 0, .int .i64 0, .int .i64 0, .int .i64 0, .int .i64 0, .int .i64 0, .slice none 0 0, .slice none 0 0, .slice none 0 0, .int .i64 0, .int .i64 0, .int .i64 0, .int .i64 0, .int .i64 0, .int .i64 0, .int .i64 0, .int .i64 0, .int .i64 0, .int .i64 0, .int .i64 0, .slice none 0 0] 37)).trans ((Kept.of_setRow _ w0.heap.size #[.int .i64 0, .int .i64 0, .int .i64 0, .int .i64 0, .int .i64 0, .int .i64 0, .int .i64 0, .int .i64 0, .int .i64 0, .int .i64 0, .slice none 0 0, .slice none 0 0, .slice none 0 0, .int .i64 0, .int .i64 0, .int .i64 0, .int .i64 0, .int .i64 0, .int .i64 0, .int .i64 0, .int .i64 0, .int .i64 0, .int .i64 0, .int .i64 0, .slice none 0 0]).below (by simp) (fun k hk => by omega))
  have hs1 : ((w0.alloc (.cells #[.int .i64 0, .int .i64 0, .int .i64 0, .int .i64 0, .int .i64 0, .int .i64 0, .int .i64 0, .int .i64 0, .int .i64 0, .int .i64 0, .slice none 0 0, .slice none 0 0, .slice none 0 0, .int .i64 0, .int .i64 0, .int .i64 0, .int .i64 0, .int .i64 0, .int .i64 0, .int .i64 0, .int .i64 0, .int .i64 0, .int .i64 0, .int .i64 0, .slice none 0 0] 37)).setRow w0.heap.size #[.int .i64 0, .int .i64 0, .int .i64 0, .int .i64 0, .int .i64 0, .int .i64 0, .int .i64 0, .int .i64 0, .int .i64 0, .int .i64 0, .slice none 0 0, .slice none 0 0, .slice none 0 0, .int .i64 0, .int .i64 0, .int .i64 0, .int .i64 0, .int .i64 0, .int .i64 0, .int .i64 0, .int .i64 0, .int .i64 0, .int .i64 0, .int .i64 0, .slice none 0 0]).heap.size = w0.heap.size + 1 := by simp [World.setRow]
  have i25 : (Tryd.prog.info? 37).map (·.size) = some (#[.int .i64 0, .int .i64 0, .int .i64 0, .int .i64 0, .int .i64 0, .int .i64 0, .int .i64 0, .int .i64 0, .int .i64 0, .int .i64 0, .slice none 0 0, .slice none 0 0, .slice none 0 0, .int .i64 0, .int .i64 0, .int .i64 0, .int .i64 0, .int .i64 0, .int .i64 0, .int .i64 0, .int .i64 0, .int .i64 0, .int .i64 0, .int .i64 0, .slice none 0 0] : Array Value).size := by kernel_rfl
  have hone : (#[.int .i64 0, .int .i64 0, .int .i64 0, .int .i64 0, .int .i64 0, .int .i64 0, .int .i64 0, .int .i64 0, .int .i64 0, .int .i64 0, .slice none 0 0, .slice none 0 0, .slice none 0 0, .int .i64 0, .int .i64 0, .int .i64 0, .int .i64 0, .int .i64 0, .int .i64 0, .int .i64 0, .int .i64 0, .int .i64 0, .int .i64 0, .int .i64 0, .slice none 0 0] : Array Value).all (·.oneCell') = true := by simp [Value.oneCell']
  have HS1 := hide hs1
  clear hs1
  go_upto_region 4 with (refine wpList_store_row rfl 37 _ _ rfl w0.heap.size #[.int .i64 0, .int .i64 0, .int .i64 0, .int .i64 0, .int .i64 0, .int .i64 0, .int .i64 0, .int .i64 0, .int .i64 0, .int .i64 0, .slice none 0 0, .slice none 0 0, .slice none 0 0, .int .i64 0, .int .i64 0, .int .i64 0, .int .i64 0, .int .i64 0, .int .i64 0, .int .i64 0, .int .i64 0, .int .i64 0, .int .i64 0, .int .i64 0, .slice none 0 0] rfl rfl _ _ (heap_alloc_new w0 (.cells #[.int .i64 0, .int .i64 0, .int .i64 0, .int .i64 0, .int .i64 0, .int .i64 0, .int .i64 0, .int .i64 0, .int .i64 0, .int .i64 0, .slice none 0 0, .slice none 0 0, .slice none 0 0, .int .i64 0, .int .i64 0, .int .i64 0, .int .i64 0, .int .i64 0, .int .i64 0, .int .i64 0, .int .i64 0, .int .i64 0, .int .i64 0, .int .i64 0, .slice none 0 0] 37)) i25 rfl hone ?_; generalize (w0.alloc (.cells #[.int .i64 0, .int .i64 0, .int .i64 0, .int .i64 0, .int .i64 0, .int .i64 0, .int .i64 0, .int .i64 0, .int .i64 0, .int .i64 0, .slice none 0 0, .slice none 0 0, .slice none 0 0, .int .i64 0, .int .i64 0, .int .i64 0, .int .i64 0, .int .i64 0, .int .i64 0, .int .i64 0, .int .i64 0, .int .i64 0, .int .i64 0, .int .i64 0, .slice none 0 0] 37)).setRow w0.heap.size #[.int .i64 0, .int .i64 0, .int .i64 0, .int .i64 0, .int .i64 0, .int .i64 0, .int .i64 0, .int .i64 0, .int .i64 0, .int .i64 0, .slice none 0 0, .slice none 0 0, .slice none 0 0, .int .i64 0, .int .i64 0, .int .i64 0, .int .i64 0, .int .i64 0, .int .i64 0, .int .i64 0, .int .i64 0, .int .i64 0, .int .i64 0, .int .i64 0, .slice none 0 0] = w1 at *)
  have D0 : DQ w B (xs, 0) A n c (mz 0 0 0 0).cells (w1.alloc (.cells #[.slice A n c, .int .i64 0] 89)) := by
    have e0 := HS0.out
    have e1 := HS1.out
    have bA := (Below.refl _ w1).alloc (Nat.le_refl _) (.cells #[.slice A n c, .int .i64 0] 89)
    have bl := (b0.trans (b1'.mono b0.size)).trans (bA.mono (by omega))
    refine ⟨(bA.block _ (by omega)).trans ((b1'.block _ (by omega)).trans HR0.out), ?_, ?_, fun _ => ⟨hx.below (bl.mono hB), HN, hc, hl⟩, bl, hB⟩
    · refine (bA.block _ (by omega)).trans ?_
      rw [e0] at hr1
      exact hr1
    · have := heap_alloc_new w1 (.cells #[.slice A n c, .int .i64 0] 89)
      rw [show w1.heap.size = w.heap.size + 1 + 1 from by omega] at this
      exact this
  have hg1 : w0.heap.size = w.heap.size + 1 := HS0.out
  have hg2 : w1.heap.size = w.heap.size + 1 + 1 := by rw [HS1.out, hg1]
  go_upto_region 5 with fail
  generalize w1.alloc (.cells #[.slice A n c, .int .i64 0] 89) = w2 at *
  clear hr1 b1' i25 hone HS1 HS0 HR0 b0 t1 t2 hbig hx
  (try rw [hg1])
  (try rw [hg2])
  clear hg1 hg2
  have E0 : ∃ x1 s1 x2 s2 x3 s3 x4 st, rc P50 (xs, 0) = (x1, s1) ∧ rc P50 s1 = (x2, s2) ∧ rc P50 s2 = (x3, s3) ∧ rc P50 s3 = (x4, st) ∧ rdH (xs, 0) = ⟨x1, x2, x3, x4, st⟩ := ⟨_, _, _, _, _, _, _, _, rfl, rfl, rfl, rfl, rfl⟩
  obtain ⟨x1, s1, x2, s2, x3, s3, x4, st, e1, e2, e3, e4, HH⟩ := E0
  have F1 := hide e1
  have F2 := hide e2
  have F3 := hide e3
  have F4 := hide e4
  have HE : Hid (mdecE xs = if st.2 ≠ 0 then (st.2 : Int) else if usedT (x1 : Int) = 0 then 26 else if dn (rdRest x1 x2 x3 x4 (usedT x1) st).s ≠ 0 then (dn (rdRest x1 x2 x3 x4 (usedT x1) st).s : Int) else chkl (rdRest x1 x2 x3 x4 (usedT x1) st).x) := hide (by rw [HE.out]; unfold rdM; rw [HH])
  have HX : Hid ((rdM xs).x = (rdRest x1 x2 x3 x4 (usedT x1) st).x) := hide (by unfold rdM; rw [HH])
  clear e1 e2 e3 e4 HH
  obtain ⟨p0, p1, p2, p3⟩ := two_cells D0.box
  go_wp2_with fail
  refine (rrnum_any _ _ _ B (xs, 0) _ D0.left (by have := D0.hB; have := D0.sz; omega)).mono ?_
  rw [F1.out]
  rintro e w3 ⟨A3, n3, c3, rfl, hL3, b3⟩
  simp only at hL3 ⊢
  have T2 := D0.below b3
  have T3 := T2.row hL3.out
  have hone : (#[.slice A3 n3 c3, .int .i64 (s1.2 : Int)] : Array Value).all (·.oneCell') = true := by simp [Value.oneCell']
  obtain ⟨kc, kf⟩ := row_cells T3.mb 0
  simp only [mz, Msgv.cells, List.getElem?_toArray, List.getElem?_cons_succ, List.getElem?_cons_zero] at kc
  clear p0 p1 p2 p3 b3 D0 hL3
  go_upto_region 6 with (refine wpList_store_row rfl 89 _ _ rfl (w.heap.size + 1 + 1) #[.slice A3 n3 c3, .int .i64 (s1.2 : Int)] rfl rfl _ _ T2.box (by kernel_rfl) rfl hone ?_; generalize w3.setRow (w.heap.size + 1 + 1) #[.slice A3 n3 c3, .int .i64 (s1.2 : Int)] = w4 at *)
  have D1 : DQ w B s1 A3 n3 c3 (mz x1 0 0 0).cells (w4.setCell ⟨w.heap.size + 1, 0, none⟩ (.int .i64 (x1 : Int))) := T3.put (keptC w4 _ 0 _) (by simp [World.setCell, Array.getElem?_modify, T3.mb, Msgv.cells, mz])
  generalize w4.setCell ⟨w.heap.size + 1, 0, none⟩ (.int .i64 (x1 : Int)) = w2 at *
  clear T2 T3 kc kf hone
  obtain ⟨p0, p1, p2, p3⟩ := two_cells D1.box
  go_wp2_with fail
  refine (rrnum_any _ _ _ B s1 _ D1.left (by have := D1.hB; have := D1.sz; omega)).mono ?_
  rw [F2.out]
  rintro e w3 ⟨A3, n3, c3, rfl, hL3, b3⟩
  simp only at hL3 ⊢
  have T2 := D1.below b3
  have T3 := T2.row hL3.out
  have hone : (#[.slice A3 n3 c3, .int .i64 (s2.2 : Int)] : Array Value).all (·.oneCell') = true := by simp [Value.oneCell']
  obtain ⟨kc, kf⟩ := row_cells T3.mb 1
  simp only [mz, Msgv.cells, List.getElem?_toArray, List.getElem?_cons_succ, List.getElem?_cons_zero] at kc
  clear p0 p1 p2 p3 b3 D1 hL3
  go_upto_region 7 with (refine wpList_store_row rfl 89 _ _ rfl (w.heap.size + 1 + 1) #[.slice A3 n3 c3, .int .i64 (s2.2 : Int)] rfl rfl _ _ T2.box (by kernel_rfl) rfl hone ?_; generalize w3.setRow (w.heap.size + 1 + 1) #[.slice A3 n3 c3, .int .i64 (s2.2 : Int)] = w4 at *)
  have D2 : DQ w B s2 A3 n3 c3 (mz x1 x2 0 0).cells (w4.setCell ⟨w.heap.size + 1, 1, none⟩ (.int .i64 (x2 : Int))) := T3.put (keptC w4 _ 1 _) (by simp [World.setCell, Array.getElem?_modify, T3.mb, Msgv.cells, mz])
  generalize w4.setCell ⟨w.heap.size + 1, 1, none⟩ (.int .i64 (x2 : Int)) = w2 at *
  clear T2 T3 kc kf hone
  obtain ⟨p0, p1, p2, p3⟩ := two_cells D2.box
  go_wp2_with fail
  refine (rrnum_any _ _ _ B s2 _ D2.left (by have := D2.hB; have := D2.sz; omega)).mono ?_
  rw [F3.out]
  rintro e w3 ⟨A3, n3, c3, rfl, hL3, b3⟩
  simp only at hL3 ⊢
  have T2 := D2.below b3
  have T3 := T2.row hL3.out
  have hone : (#[.slice A3 n3 c3, .int .i64 (s3.2 : Int)] : Array Value).all (·.oneCell') = true := by simp [Value.oneCell']
  obtain ⟨kc, kf⟩ := row_cells T3.mb 2
  simp only [mz, Msgv.cells, List.getElem?_toArray, List.getElem?_cons_succ, List.getElem?_cons_zero] at kc
  clear p0 p1 p2 p3 b3 D2 hL3
  go_upto_region 8 with (refine wpList_store_row rfl 89 _ _ rfl (w.heap.size + 1 + 1) #[.slice A3 n3 c3, .int .i64 (s3.2 : Int)] rfl rfl _ _ T2.box (by kernel_rfl) rfl hone ?_; generalize w3.setRow (w.heap.size + 1 + 1) #[.slice A3 n3 c3, .int .i64 (s3.2 : Int)] = w4 at *)
  have D3 : DQ w B s3 A3 n3 c3 (mz x1 x2 x3 0).cells (w4.setCell ⟨w.heap.size + 1, 2, none⟩ (.int .i64 (x3 : Int))) := T3.put (keptC w4 _ 2 _) (by simp [World.setCell, Array.getElem?_modify, T3.mb, Msgv.cells, mz])
  generalize w4.setCell ⟨w.heap.size + 1, 2, none⟩ (.int .i64 (x3 : Int)) = w2 at *
  clear T2 T3 kc kf hone
  obtain ⟨p0, p1, p2, p3⟩ := two_cells D3.box
  go_wp2_with fail
  refine (rrnum_any _ _ _ B s3 _ D3.left (by have := D3.hB; have := D3.sz; omega)).mono ?_
  rw [F4.out]
  rintro e w3 ⟨A3, n3, c3, rfl, hL3, b3⟩
  simp only at hL3 ⊢
  have T2 := D3.below b3
  have T3 := T2.row hL3.out
  have hone : (#[.slice A3 n3 c3, .int .i64 (st.2 : Int)] : Array Value).all (·.oneCell') = true := by simp [Value.oneCell']
  obtain ⟨kc, kf⟩ := row_cells T3.mb 3
  simp only [mz, Msgv.cells, List.getElem?_toArray, List.getElem?_cons_succ, List.getElem?_cons_zero] at kc
  clear p0 p1 p2 p3 b3 D3 hL3
  go_upto_region 9 with (refine wpList_store_row rfl 89 _ _ rfl (w.heap.size + 1 + 1) #[.slice A3 n3 c3, .int .i64 (st.2 : Int)] rfl rfl _ _ T2.box (by kernel_rfl) rfl hone ?_; generalize w3.setRow (w.heap.size + 1 + 1) #[.slice A3 n3 c3, .int .i64 (st.2 : Int)] = w4 at *)
  have D4 : DQ w B st A3 n3 c3 (mz x1 x2 x3 x4).cells (w4.setCell ⟨w.heap.size + 1, 3, none⟩ (.int .i64 (x4 : Int))) := T3.put (keptC w4 _ 3 _) (by simp [World.setCell, Array.getElem?_modify, T3.mb, Msgv.cells, mz])
  generalize w4.setCell ⟨w.heap.size + 1, 3, none⟩ (.int .i64 (x4 : Int)) = w2 at *
  clear T2 T3 kc kf hone
  obtain ⟨p0, p1, p2, p3⟩ := two_cells D4.box
  by_cases he : st.2 ≠ 0
  · have HE1 := hide (HE.out.trans (if_pos he))
    have t0 : ((st.2 : Int) != 0) = true := by rw [bne_iff_ne]; omega
    clear p0 p2 p3
    go_upto_region 10 with fail
    clear p1
    have HBX : Hid (∀ W, Kept (fun k => k = w.heap.size) w2.drew W → W.cell? ⟨w.heap.size + 1 + 1, 1, none⟩ = some (.int .i64 (st.2 : Int))) := hide (fun W h => (h.cell (by show w.heap.size + 1 + 1 < w2.heap.size; exact lt_of_block D4.box) (by omega)).trans (two_cells D4.box).2.1)
    have hrs : w2.drew.heap[w.heap.size]? = some (.cells (mz 0 0 0 0).cells 37 (0, 0)) := D4.res
    have bld : Below w.heap.size w w2.drew := D4.bl.drew
    clear D4
    go_wp2_with fail
    refine wp_region_held_drew (S := fun W => Kept (fun k => k = w.heap.size) w2.drew W) (by kernel_rfl) (Kept.refl _ _) (fun hHeld => ?_)
    generalize w2.drew = wy at *
    refine wpAnyH_take (i := 0) (oi := _) (v := .agg (mz 0 0 0 0).cells) rfl (by kernel_rfl) (by kernel_rfl) (by kernel_rfl) (fun _ _ _ h => h) (Or.inl ⟨by rfl, fun w' hSw => by kernel_rfl⟩) hHeld ?_
    (try simp only [Act.put, List.setIfInBounds_toArray, List.set_cons_zero, List.set_cons_succ, List.getElem_toArray, List.getElem_cons_zero, List.getElem_cons_succ])
    refine wpAnyH_take (i := 1) (oi := _) (v := .pointer (some ⟨w.heap.size + 1 + 1, 1, none⟩)) rfl (by kernel_rfl) (by kernel_rfl) (by kernel_rfl) (fun _ _ _ h => h) (Or.inl ⟨by rfl, fun w' hSw => by go_simp⟩) hHeld ?_
    (try simp only [Act.put, List.setIfInBounds_toArray, List.set_cons_zero, List.set_cons_succ, List.getElem_toArray, List.getElem_cons_zero, List.getElem_cons_succ])
    refine wpAnyH_take (i := 2) (oi := _) (v := .int .i64 (st.2 : Int)) rfl (by kernel_rfl) (by kernel_rfl) (by kernel_rfl) (fun _ _ _ h => h) (Or.inl ⟨by rfl, fun w' hSw => by have kx := HBX.out _ hSw; go_simp⟩) hHeld ?_
    (try simp only [Act.put, List.setIfInBounds_toArray, List.set_cons_zero, List.set_cons_succ, List.getElem_toArray, List.getElem_cons_zero, List.getElem_cons_succ])
    have hkz := Kept.of_setRow wy w.heap.size (mz 0 0 0 0).cells
    have hrz := set_row_at (B := (mz 0 0 0 0).cells) hrs
    refine wpAnyH_ready (rs := [3]) (by kernel_rfl) (by simp) ?_
    refine AllReadyH.cons (o := _) rfl (fun K hK => ?_) AllReadyH.nil
    (try simp only [List.getElem_toArray, List.getElem_cons_zero, List.getElem_cons_succ])
    rw [if_pos (by rfl)]
    refine wp_store_row 37 (.tmp 2) (.tmp 41) rfl w.heap.size (mz 0 0 0 0).cells rfl rfl _ _ hrs (info_msg _) rfl (mcells_one _) ?_
    refine hK.out _ _ (hHeld.step hkz (fun k hk => .inl hk)) (fun hHeld => ?_)
    clear hK
    (try simp only [Act.put, List.setIfInBounds_toArray, List.set_cons_zero, List.set_cons_succ, List.getElem_toArray, List.getElem_cons_zero, List.getElem_cons_succ])
    generalize wy.setRow w.heap.size (mz 0 0 0 0).cells = wz at *
    refine wpAnyH_take (i := 4) (oi := _) (v := .int .i64 (st.2 : Int)) rfl (by kernel_rfl) (by kernel_rfl) (by kernel_rfl) (fun _ _ _ h => h) (Or.inl ⟨by rfl, fun w' hSw => by go_simp⟩) hHeld ?_
    (try simp only [Act.put, List.setIfInBounds_toArray, List.set_cons_zero, List.set_cons_succ, List.getElem_toArray, List.getElem_cons_zero, List.getElem_cons_succ])
    refine wpAnyH_done (by kernel_rfl) ?_ _
    go_wp2_with fail
    refine bodyPost_ret (v := .tuple #[.agg (mz 0 0 0 0).cells, .int .i64 (st.2 : Int)]) (results_rmdec rfl rfl hrz rfl) rfl ?_
    rw [HE1.out]
    exact RDecEnds.bad (by omega) (bld.trans (hkz.below bld.size (fun k hk => by omega)))
  have HE1 := hide (HE.out.trans (if_neg he))
  have t0 : ((st.2 : Int) != 0) = false := by simp at he ⊢; exact he
  have k0 := (row_cells D4.mb 0).1
  simp only [mz, Msgv.cells, List.getElem?_toArray, List.getElem?_cons_succ, List.getElem?_cons_zero] at k0
  have hst : st.2 = 0 := by simpa using he
  have HST := hide hst
  clear HE he p0 p2 p3 hst
  go_wp2_with fail
  refine (ruses_any x1 _).mono ?_
  rintro e w5 ⟨rfl, b5⟩
  have D5 := D4.below b5
  clear D4 b5 k0 p1
  have hus := us_nil (x1 : Int)
  by_cases hu : usedT (x1 : Int) = 0
  · have HE2 := hide (HE1.out.trans (if_pos hu))
    have hnil : usOf (x1 : Int) = [] := by rw [hu] at hus; simpa using hus
    rw [hnil]
    clear hus hnil HE1
    unfold str
    have hkz := Kept.of_setRow w5 w.heap.size (mz 0 0 0 0).cells
    have hrz := set_row_at (B := (mz 0 0 0 0).cells) D5.res
    have HTZ := hide D5.res
    go_wp2_with (refine wpList_store_row rfl 37 _ _ rfl w.heap.size (mz 0 0 0 0).cells rfl rfl _ _ HTZ.out (info_msg _) rfl (mcells_one _) ?_; generalize w5.setRow w.heap.size (mz 0 0 0 0).cells = wz at *)
    refine bodyPost_ret (v := .tuple #[.agg (mz 0 0 0 0).cells, .int .i64 26]) (results_rmdec rfl rfl hrz rfl) rfl ?_
    rw [HE2.out]
    exact RDecEnds.bad (by omega) (D5.bl.trans (hkz.below D5.bl.size (fun k hk => by omega)))
  have HE2 := hide (HE1.out.trans (if_neg hu))
  have t4 : (usedT (x1 : Int) == 0) = false := by rw [beq_eq_false_iff_ne]; exact hu
  rw [t4] at hus
  have HRR := hide (rrest_ref x1 x2 x3 x4 _ _ _ B st w5 D5.left (by have := D5.hB; have := D5.sz; omega) hu)
  clear HE1 t4 hu HST
  generalize usOf (x1 : Int) = us at *
  unfold str
  obtain ⟨p0, p1, p2, p3⟩ := two_cells D5.box
  have HMB := hide D5.mb
  have hi := info_msg (mz x1 x2 x3 x4)
  go_wp2_with (refine wpList_load_row rfl 37 _ rfl (w.heap.size + 1) rfl _ _ _ _ HMB.out Tryd.underlying37 rfl hi ?_)
  refine HRR.out.mono ?_
  rintro e w6 ⟨A6, n6, c6, m6, rfl, hL6, hlg, im6, re6, b6⟩
  have D6 := D5.below b6
  have hsl : -9223372036854775808 ≤ m6.sl := by
    have e1 : m6.sl = m6.lg.sl := rfl
    rw [e1, hlg]
    unfold rdRest
    simp only
    unfold oN
    split
    · simp only; omega
    · simp only; omega
  have hz5 := D5.sz
  clear D5 HRR HMB p0 p1 p2 p3 hus hi
  generalize rdRest x1 x2 x3 x4 (usedT x1) st = RD at *
  obtain ⟨xm, sd⟩ := RD
  simp only at hL6 hlg HE2 HX
  have D7 := D6.row hL6.out
  have hk7 := Kept.of_setRow w6 (w.heap.size + 1 + 1) #[.slice A6 n6 c6, .int .i64 (sd.2 : Int)]
  have hzD := D6.sz
  have im7 := (im6.keepR (w' := w6.setRow (w.heap.size + 1 + 1) #[.slice A6 n6 c6, .int .i64 (sd.2 : Int)]) fun k hr hlt => hk7.block k hlt (by have := re6 k hr; omega)).more hk7.size
  have D8 := D7.put (mc' := m6.cells) (Kept.of_setRow _ (w.heap.size + 1) m6.cells) (set_row_at D7.mb)
  have hz7 := hk7.size
  have hone : (#[.slice A6 n6 c6, .int .i64 (sd.2 : Int)] : Array Value).all (·.oneCell') = true := by simp [Value.oneCell']
  have HB6 := hide D6.box
  have HM7 := hide D7.mb
  have re7 : ∀ k, ReachM m6 k → w5.heap.size ≤ k ∧ k < (w6.setRow (w.heap.size + 1 + 1) #[.slice A6 n6 c6, .int .i64 (sd.2 : Int)]).heap.size := fun k hk => by have := re6 k hk; omega
  have hsm : (mz x1 x2 x3 x4).cells.size = m6.cells.size := rfl
  have hi6 := info_msg m6
  have ho6 := mcells_one m6
  clear D6 D7 hL6 im6 re6
  go_upto_region 14 with (first
    | (refine wpList_store_row rfl 89 _ _ rfl (w.heap.size + 1 + 1) #[.slice A6 n6 c6, .int .i64 (sd.2 : Int)] rfl rfl _ _ HB6.out (by kernel_rfl) rfl hone ?_; generalize w6.setRow (w.heap.size + 1 + 1) #[.slice A6 n6 c6, .int .i64 (sd.2 : Int)] = w7 at *)
    | (refine wpList_store_row rfl 37 _ _ rfl (w.heap.size + 1) m6.cells rfl rfl _ _ HM7.out hi6 hsm ho6 ?_))
  have hk8 := Kept.of_setRow w7 (w.heap.size + 1) m6.cells
  have hz8 := hk8.size
  have im8 := (im7.keepR (w' := w7.setRow (w.heap.size + 1) m6.cells) fun k hr hlt => hk8.block k hlt (by have := re7 k hr; omega)).more hk8.size
  have re8 : ∀ k, ReachM m6 k → w5.heap.size ≤ k ∧ k < (w7.setRow (w.heap.size + 1) m6.cells).heap.size := fun k hk => by have := re7 k hk; omega
  generalize w7.setRow (w.heap.size + 1) m6.cells = w8 at *
  have HD : Hid ((if sd.2 = 0 ∧ 0 < n6 then 13 else sd.2 : Nat) = dn sd) := hide (dn_left D8.left)
  clear hk8 hk7 im7 re7 HB6 HM7 hone hsm hi6 ho6
  obtain ⟨p0, p1, p2, p3⟩ := two_cells D8.box
  have hdn := done_any A6 n6 c6 sd.2 w8
  rw [HD.out] at hdn
  have HDN := hide hdn
  clear hdn HD
  go_wp2_with fail
  refine HDN.out.mono ?_
  rintro e w9 ⟨rfl, o1, o2, hw9⟩
  have b9 : Below w8.heap.size w8 w9 := by rw [← hw9]; exact below2 w8 o1 o2
  have D9 := D8.below b9
  have im9 := (im8.below b9).more b9.size
  have hz9 := b9.size
  have hz8' := D8.sz
  have D10 := D9.row (s' := (sd.1, dn sd)) (A' := A6) (n' := n6) (c' := c6) (fun e => D9.left (by rw [dn_zero e]))
  have hk10 := Kept.of_setRow w9 (w.heap.size + 1 + 1) #[.slice A6 n6 c6, .int .i64 (dn sd : Int)]
  have im10 := (im9.keepR (w' := w9.setRow (w.heap.size + 1 + 1) #[.slice A6 n6 c6, .int .i64 (dn sd : Int)]) fun k hr hlt => hk10.block k hlt (by have := re8 k hr; omega)).more hk10.size
  have re10 : ∀ k, ReachM m6 k → w5.heap.size ≤ k ∧ k < (w9.setRow (w.heap.size + 1 + 1) #[.slice A6 n6 c6, .int .i64 (dn sd : Int)]).heap.size := fun k hk => by have := re8 k hk; have := hk10.size; omega
  have hone : (#[.slice A6 n6 c6, .int .i64 (dn sd : Int)] : Array Value).all (·.oneCell') = true := by simp [Value.oneCell']
  have HB9 := hide D9.box
  clear hw9 HDN p0 p1 p2 p3 D8 D9 im8 im9 re8 b9 hk10
  go_upto_region 15 with (refine wpList_store_row rfl 89 _ _ rfl (w.heap.size + 1 + 1) #[.slice A6 n6 c6, .int .i64 (dn sd : Int)] rfl rfl _ _ HB9.out (by kernel_rfl) rfl hone ?_; generalize w9.setRow (w.heap.size + 1 + 1) #[.slice A6 n6 c6, .int .i64 (dn sd : Int)] = w10 at *)
  clear hone HB9
  have p1 : w10.cell? ⟨w.heap.size + 1 + 1, 1, none⟩ = some (.int .i64 (dn sd : Int)) := (two_cells D10.box).2.1
  by_cases hd : dn sd ≠ 0
  · have HE3 := hide (HE2.out.trans (if_pos hd))
    have t5 : ((dn sd : Int) != 0) = true := by rw [bne_iff_ne]; omega
    go_upto_region 16 with fail
    clear p1
    have HBX : Hid (∀ W, Kept (fun k => k = w.heap.size) w10.drew W → W.cell? ⟨w.heap.size + 1 + 1, 1, none⟩ = some (.int .i64 (dn sd : Int))) := hide (fun W h => (h.cell (by show w.heap.size + 1 + 1 < w10.heap.size; exact lt_of_block D10.box) (by omega)).trans (two_cells D10.box).2.1)
    have hrs : w10.drew.heap[w.heap.size]? = some (.cells (mz 0 0 0 0).cells 37 (0, 0)) := D10.res
    have bld : Below w.heap.size w w10.drew := D10.bl.drew
    clear D10
    go_wp2_with fail
    refine wp_region_held_drew (S := fun W => Kept (fun k => k = w.heap.size) w10.drew W) (by kernel_rfl) (Kept.refl _ _) (fun hHeld => ?_)
    generalize w10.drew = wy at *
    refine wpAnyH_take (i := 0) (oi := _) (v := .agg (mz 0 0 0 0).cells) rfl (by kernel_rfl) (by kernel_rfl) (by kernel_rfl) (fun _ _ _ h => h) (Or.inl ⟨by rfl, fun w' hSw => by kernel_rfl⟩) hHeld ?_
    (try simp only [Act.put, List.setIfInBounds_toArray, List.set_cons_zero, List.set_cons_succ, List.getElem_toArray, List.getElem_cons_zero, List.getElem_cons_succ])
    refine wpAnyH_take (i := 1) (oi := _) (v := .pointer (some ⟨w.heap.size + 1 + 1, 1, none⟩)) rfl (by kernel_rfl) (by kernel_rfl) (by kernel_rfl) (fun _ _ _ h => h) (Or.inl ⟨by rfl, fun w' hSw => by go_simp⟩) hHeld ?_
    (try simp only [Act.put, List.setIfInBounds_toArray, List.set_cons_zero, List.set_cons_succ, List.getElem_toArray, List.getElem_cons_zero, List.getElem_cons_succ])
    refine wpAnyH_take (i := 2) (oi := _) (v := .int .i64 (dn sd : Int)) rfl (by kernel_rfl) (by kernel_rfl) (by kernel_rfl) (fun _ _ _ h => h) (Or.inl ⟨by rfl, fun w' hSw => by have kx := HBX.out _ hSw; go_simp⟩) hHeld ?_
    (try simp only [Act.put, List.setIfInBounds_toArray, List.set_cons_zero, List.set_cons_succ, List.getElem_toArray, List.getElem_cons_zero, List.getElem_cons_succ])
    have hkz := Kept.of_setRow wy w.heap.size (mz 0 0 0 0).cells
    have hrz := set_row_at (B := (mz 0 0 0 0).cells) hrs
    refine wpAnyH_ready (rs := [3]) (by kernel_rfl) (by simp) ?_
    refine AllReadyH.cons (o := _) rfl (fun K hK => ?_) AllReadyH.nil
    (try simp only [List.getElem_toArray, List.getElem_cons_zero, List.getElem_cons_succ])
    rw [if_pos (by rfl)]
    refine wp_store_row 37 (.tmp 2) (.tmp 60) rfl w.heap.size (mz 0 0 0 0).cells rfl rfl _ _ hrs (info_msg _) rfl (mcells_one _) ?_
    refine hK.out _ _ (hHeld.step hkz (fun k hk => .inl hk)) (fun hHeld => ?_)
    clear hK
    (try simp only [Act.put, List.setIfInBounds_toArray, List.set_cons_zero, List.set_cons_succ, List.getElem_toArray, List.getElem_cons_zero, List.getElem_cons_succ])
    generalize wy.setRow w.heap.size (mz 0 0 0 0).cells = wz at *
    refine wpAnyH_take (i := 4) (oi := _) (v := .int .i64 (dn sd : Int)) rfl (by kernel_rfl) (by kernel_rfl) (by kernel_rfl) (fun _ _ _ h => h) (Or.inl ⟨by rfl, fun w' hSw => by go_simp⟩) hHeld ?_
    (try simp only [Act.put, List.setIfInBounds_toArray, List.set_cons_zero, List.set_cons_succ, List.getElem_toArray, List.getElem_cons_zero, List.getElem_cons_succ])
    refine wpAnyH_done (by kernel_rfl) ?_ _
    go_wp2_with fail
    refine bodyPost_ret (v := .tuple #[.agg (mz 0 0 0 0).cells, .int .i64 (dn sd : Int)]) (results_rmdec rfl rfl hrz rfl) rfl ?_
    rw [HE3.out]
    exact RDecEnds.bad (by omega) (bld.trans (hkz.below bld.size (fun k hk => by omega)))
  have HE3 := hide (HE2.out.trans (if_neg hd))
  have t5 : ((dn sd : Int) != 0) = false := by simp at hd ⊢; exact hd
  have HE4 : Hid (mdecE xs = chkM m6) := hide (by rw [HE3.out, chkM_up im10.en im10.ed, hlg]; rfl)
  have HCK : Hid (Calls Tryd.prog 10 #[.agg m6.cells] w10 fun e w' => e = .returned (.int .i64 (chkM m6)) ∧ Below w10.heap.size w10 w') := hide (rmcheck_any m6 w10.heap.size w10 im10 (Nat.le_refl _))
  have HMB := hide D10.mb
  have hi := info_msg m6
  generalize hce : chkM m6 = ce at *
  clear HE2 HE3 hd hce
  go_wp2_with (refine wpList_load_row rfl 37 _ rfl (w.heap.size + 1) rfl _ _ _ _ HMB.out Tryd.underlying37 rfl hi ?_)
  refine HCK.out.mono ?_
  rintro e w11 ⟨rfl, b11⟩
  have D11 := D10.below b11
  have im11 := (im10.below b11).more b11.size
  have hz11 := b11.size
  clear HCK HMB D10 im10 b11 p1 t5
  by_cases h00 : ce ≠ 0
  · have t6 : (ce != 0) = true := by rw [bne_iff_ne]; exact h00
    clear hi
    have hkz := Kept.of_setRow w11 w.heap.size (mz 0 0 0 0).cells
    have hrz := set_row_at (B := (mz 0 0 0 0).cells) D11.res
    have HTZ := hide D11.res
    go_wp2_with (refine wpList_store_row rfl 37 _ _ rfl w.heap.size (mz 0 0 0 0).cells rfl rfl _ _ HTZ.out (info_msg _) rfl (mcells_one _) ?_; generalize w11.setRow w.heap.size (mz 0 0 0 0).cells = wz at *)
    refine bodyPost_ret (v := .tuple #[.agg (mz 0 0 0 0).cells, .int .i64 ce]) (results_rmdec rfl rfl hrz rfl) rfl ?_
    rw [HE4.out]
    exact RDecEnds.bad h00 (D11.bl.trans (hkz.below D11.bl.size (fun k hk => by omega)))
  obtain rfl : ce = 0 := by simpa using h00
  have hkz := Kept.of_setRow w11 w.heap.size m6.cells
  have hrz := set_row_at (B := m6.cells) D11.res
  have HTZ := hide D11.res
  have HMB := hide D11.mb
  have hsm : (mz 0 0 0 0).cells.size = m6.cells.size := rfl
  have hz11' := D11.sz
  go_wp2_with (first
    | (refine wpList_load_row rfl 37 _ rfl (w.heap.size + 1) rfl _ _ _ _ HMB.out Tryd.underlying37 rfl hi ?_)
    | (refine wpList_store_row rfl 37 _ _ rfl w.heap.size m6.cells rfl rfl _ _ HTZ.out hi hsm (mcells_one _) ?_; generalize w11.setRow w.heap.size m6.cells = wz at *))
  refine bodyPost_ret (v := .tuple #[.agg m6.cells, .int .i64 0]) (results_rmdec rfl rfl hrz rfl) rfl ?_
  rw [HE4.out]
  refine ⟨m6, rfl, by rw [if_pos rfl, HX.out]; exact hlg, ?_, fun k hk => ?_, D11.bl.trans (hkz.below D11.bl.size (fun k hk => by omega))⟩
  · exact ((im11.keepR fun k hk hlt => hkz.block k hlt (fun e => by have := re10 k hk; omega)).more hkz.size)
  · have := re10 k hk
    have := hkz.size
    omega
end Go.Proofs.YtapbcpilklhoiabDoor
