/-
  The reference's New; steps over timers. No condition but that times are numbers of 64 bits.
-/
import Derived.Test.YtgdncmkhcdmjoaaElectE
set_option linter.unusedSimpArgs false
set_option linter.unusedVariables false
namespace Go.Proofs.Ytgdncmkhcdmjoaa
open Go.RowKit
theorem results_rnew {tmps : Array Value} {w : World} {g : Nat} {A : Array Value} {t : TypeId} {v : Value} (h2 : tmps.getD 10 undef = .pointer (some ⟨g, 0, none⟩)) (h3 : tmps.getD 11 undef = v) (hA : w.heap[g]? = some (.cells A t (0, 0))) (sA : A.size = 7) :
    (results Try.f11 tmps).run Try.prog w = .ok (.tuple #[.agg A, v]) w := by
  have h2' : tmps[10]?.getD undef = .pointer (some ⟨g, 0, none⟩) := by simpa using h2
  have h3' : tmps[11]?.getD undef = v := by simpa using h3
  have i1 : (Try.prog.info? 26).map (·.size) = some A.size := by rw [sA]; kernel_rfl
  have e1 := run_loadVar_row (P := Try.prog) w g t 26 A (0, 0) _ hA Try.underlying26 rfl i1
  simp [results, Try.results11, h2', h3', asAddr, e1]
  try rfl
/-- What the reference's New answers. -/
def RNewEnds (me : Int) (ms : List Int) (base most now : Int) (w : World) (e : Ending) (w' : World) : Prop :=
  (rightS ms → ∃ A n c, e = .returned (.tuple #[.agg ((Tm.new me ms base most now).rc A n c), .bool true]) ∧ OwnI w' w.heap.size (.slice A n c) ms) ∧
  (¬ rightS ms → e = .returned (.tuple #[.agg #[.int .i64 0, .slice none 0 0, .int .i64 0, .int .i64 0, .int .i64 0, .int .i64 0, .int .i64 0], .bool false])) ∧ Below w.heap.size w w'
set_option maxHeartbeats 1600000 in
set_option maxRecDepth 20000 in
theorem rnew_any (me : Int) (Am : Option Addr) (nm cm B : Nat) (ms : List Int) (base most now : Int) (w : World) (hm : HasI w B Am ms) (hB : B ≤ w.heap.size) (hn : ms.length = nm) (hl : nm ≤ 17592186044416) :
    Calls Try.prog 11 #[.int .i64 me, .slice Am nm cm, .int .i64 base, .int .i64 most, .int .i64 now] w (RNewEnds me ms base most now w) := by
  have hq0 := heap_alloc_new w (.cells #[.int .i64 0, .slice none 0 0, .int .i64 0, .int .i64 0, .int .i64 0, .int .i64 0, .int .i64 0] 26)
  have hb0 : Below w.heap.size w (w.alloc (.cells #[.int .i64 0, .slice none 0 0, .int .i64 0, .int .i64 0, .int .i64 0, .int .i64 0, .int .i64 0] 26)) := (Below.refl _ _).alloc (Nat.le_refl _) _
  have hm0 := hm.alloc hB (.cells #[.int .i64 0, .slice none 0 0, .int .i64 0, .int .i64 0, .int .i64 0, .int .i64 0, .int .i64 0] 26)
  have hz0 : (w.alloc (.cells #[.int .i64 0, .slice none 0 0, .int .i64 0, .int .i64 0, .int .i64 0, .int .i64 0, .int .i64 0] 26)).heap.size = w.heap.size + 1 := by simp
  go_enter Try.func11, Try.ntmps11
  go_upto_region 1 with fail
  generalize w.alloc (.cells #[.int .i64 0, .slice none 0 0, .int .i64 0, .int .i64 0, .int .i64 0, .int .i64 0, .int .i64 0] 26) = w0 at *
  have HZ := hide hz0
  have HQ := hide hq0
  have HB := hide hb0
  have hri := rright_any Am nm cm B ms w0 hm0 hn (by omega)
  obtain ⟨b, e1⟩ : ∃ b, nearN base 1 1048576 = b := ⟨_, rfl⟩
  have hbb : 1 ≤ b ∧ b ≤ 1048576 := by unfold nearN at e1; omega
  obtain ⟨m, e2⟩ : ∃ m, nearN most b 1048576 = m := ⟨_, rfl⟩
  have n1 := near_any base 1 1048576 (by omega)
  have n2 := near_any most b 1048576 hbb.2
  rw [e1] at n1
  rw [e2] at n2
  have E1 := hide e1
  have E2 := hide e2
  have HM := hide hm0
  have HN := hide hn
  clear hz0 hq0 hb0 hm hm0 hn e1 e2 hbb
  by_cases hr : rightS ms
  · rw [decide_eq_true hr] at hri
    have HR := hide hr
    clear hr
    go_wp2_with fail
    refine hri.mono ?_
    rintro e w1 ⟨rfl, d1, rfl⟩
    go_wp2_with fail
    refine (n1 _).mono ?_
    rintro e _ ⟨rfl, rfl⟩
    obtain ⟨v1, wa, hr1, hown1, hba⟩ := run_copy_ints (w0.drewN d1) 22 Am nm cm B ms (HM.out.drewN d1) HN.out hl (by have := HZ.out; show B ≤ w0.heap.size; omega)
    obtain ⟨Aa, na, ca, rfl, hna, hnca, hxa⟩ := hown1.form
    have HR1 := hide hr1
    have HO := hide hown1
    clear hr1 hown1 hxa
    go_wp2_with (first
      | (at_builtin; refine list_append_want _ (by rfl) (.tmp 20) (.tmp 21) 22 22 rfl _ _ rfl rfl _ _ HR1.out ?_)
      | fail)
    refine (n2 _).mono ?_
    rintro e _ ⟨rfl, rfl⟩
    have hq2 := (hba.block _ (lt_of_block HQ.out)).trans HQ.out
    have hk5 := Kept.of_setRow wa w.heap.size #[.int .i64 me, .slice Aa na ca, .int .i64 b, .int .i64 m, .int .i64 b, .int .i64 now, .int .i64 0]
    have hr5 := set_row_at (B := #[.int .i64 me, .slice Aa na ca, .int .i64 b, .int .i64 m, .int .i64 b, .int .i64 now, .int .i64 0]) hq2
    have HQ2 := hide hq2
    have hb1 : Below w.heap.size w wa := (below_drewN HB.out d1).trans ((show Below w0.heap.size (w0.drewN d1) wa from hba).mono HB.out.size)
    have HB1 := hide hb1
    have HO5 := hide (HO.out.keep fun j hj => hk5.block j (HO.out.lt j hj).2 (fun e => ownI_ne HO.out HQ2.out (by decide) (by rw [← e]; exact hj)))
    clear hq2 hb1 hba
    go_wp2_with (refine wpList_store_row rfl 26 _ _ rfl w.heap.size #[.int .i64 me, .slice Aa na ca, .int .i64 b, .int .i64 m, .int .i64 b, .int .i64 now, .int .i64 0] rfl rfl _ _ HQ2.out (by kernel_rfl) rfl (by simp; exact ⟨rfl, rfl, rfl, rfl, rfl, rfl, rfl⟩) ?_; generalize wa.setRow w.heap.size #[.int .i64 me, .slice Aa na ca, .int .i64 b, .int .i64 m, .int .i64 b, .int .i64 now, .int .i64 0] = w5 at *)
    refine bodyPost_ret (v := .tuple #[.agg #[.int .i64 me, .slice Aa na ca, .int .i64 b, .int .i64 m, .int .i64 b, .int .i64 now, .int .i64 0], .bool true]) (results_rnew rfl rfl hr5 rfl) rfl ?_
    refine ⟨fun _ => ⟨Aa, na, ca, ?_, HO5.out.from_ ?_⟩, fun h => absurd HR.out h, HB1.out.trans (hk5.below HB1.out.size (fun j hj => by omega))⟩
    · unfold Tm.new Tm.rc
      simp only [E1.out, E2.out]
    · show w.heap.size ≤ w0.heap.size
      have := HZ.out
      omega
  · rw [decide_eq_false hr] at hri
    have HR := hide hr
    clear hr
    have hk5' := Kept.of_setRow (w0) w.heap.size #[.int .i64 0, .slice none 0 0, .int .i64 0, .int .i64 0, .int .i64 0, .int .i64 0, .int .i64 0]
    go_wp2_with fail
    refine hri.mono ?_
    rintro e w1 ⟨rfl, d1, rfl⟩
    have HQ1 : Hid ((w0.drewN d1).heap[w.heap.size]? = some (.cells #[.int .i64 0, .slice none 0 0, .int .i64 0, .int .i64 0, .int .i64 0, .int .i64 0, .int .i64 0] 26 (0, 0))) := HQ
    have hk5 := Kept.of_setRow (w0.drewN d1) w.heap.size #[.int .i64 0, .slice none 0 0, .int .i64 0, .int .i64 0, .int .i64 0, .int .i64 0, .int .i64 0]
    have hr5 := set_row_at (B := #[.int .i64 0, .slice none 0 0, .int .i64 0, .int .i64 0, .int .i64 0, .int .i64 0, .int .i64 0]) HQ1.out
    have HB1 : Hid (Below w.heap.size w (w0.drewN d1)) := hide (below_drewN HB.out d1)
    go_wp2_with (refine wpList_store_row rfl 26 _ _ rfl w.heap.size #[.int .i64 0, .slice none 0 0, .int .i64 0, .int .i64 0, .int .i64 0, .int .i64 0, .int .i64 0] rfl rfl _ _ HQ1.out (by kernel_rfl) rfl (by simp [Value.oneCell']) ?_; generalize (w0.drewN d1).setRow w.heap.size #[.int .i64 0, .slice none 0 0, .int .i64 0, .int .i64 0, .int .i64 0, .int .i64 0, .int .i64 0] = w5 at *)
    refine bodyPost_ret (v := .tuple #[.agg #[.int .i64 0, .slice none 0 0, .int .i64 0, .int .i64 0, .int .i64 0, .int .i64 0, .int .i64 0], .bool false]) (results_rnew rfl rfl hr5 rfl) rfl ?_
    exact ⟨fun h => absurd h HR.out, fun _ => rfl, HB1.out.trans (hk5.below HB1.out.size (fun j hj => by omega))⟩
end Go.Proofs.Ytgdncmkhcdmjoaa
