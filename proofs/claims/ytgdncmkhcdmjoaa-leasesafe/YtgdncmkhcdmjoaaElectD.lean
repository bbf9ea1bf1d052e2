/-
  New of package election, the head of its laws. No condition but that times are numbers of 64 bits.
-/
import Derived.Test.YtgdncmkhcdmjoaaElectC
import Derived.Test.YtgdncmkhcdmjoaaCloneI
set_option linter.unusedSimpArgs false
set_option linter.unusedVariables false
namespace Go.Proofs.Ytgdncmkhcdmjoaa
open Go.RowKit
def Tm.new (me : Int) (ms : List Int) (base most now : Int) : Tm := ⟨me, ms, nearN base 1 1048576, nearN most (nearN base 1 1048576) 1048576, 0, now, nearN base 1 1048576⟩
theorem Tm.new_good {me : Int} {ms : List Int} {base most now : Int} (hr : rightS ms) (hn : In64' now) : (Tm.new me ms base most now).Good := by
  refine ⟨hr, ?_, ⟨by show (0 : Int) ≤ 0; omega, by show (0 : Int) ≤ _; omega⟩, hn, ?_⟩
  · show 1 ≤ nearN base 1 1048576 ∧ nearN base 1 1048576 ≤ nearN most (nearN base 1 1048576) 1048576 ∧ nearN most (nearN base 1 1048576) 1048576 ≤ 1048576
    unfold nearN
    omega
  · show 1 ≤ nearN base 1 1048576 ∧ nearN base 1 1048576 ≤ nearN most (nearN base 1 1048576) 1048576
    unfold nearN
    omega
section
variable {w w' : World} {g : Nat} {A : Option Addr} {n c : Nat} {t : Tm}
/-- What New leaves. -/
def TNewEnds (me : Int) (ms : List Int) (base most now : Int) (w : World) (e : Ending) (w' : World) : Prop :=
  (rightS ms → ∃ g A n c, e = .returned (.pointer (some ⟨g, 0, none⟩)) ∧ IsT w' g A n c (Tm.new me ms base most now) ∧ w.heap.size ≤ g) ∧ (¬ rightS ms → e = .returned (.pointer none)) ∧ Below w.heap.size w w'
theorem tnew_is {w w1 : World} {A : Option Addr} {n c : Nat} {me : Int} {ms : List Int} {base most now b m : Int} (hr : rightS ms) (hn : In64' now) (hb : Below w.heap.size w w1) (ho : OwnI w1 w.heap.size (.slice A n c) ms) (e1 : nearN base 1 1048576 = b) (e2 : nearN most b 1048576 = m) :
    IsT (w1.alloc (.cells #[.int .i64 me, .slice A n c, .int .i64 b, .int .i64 m, .int .i64 0, .int .i64 now, .int .i64 b] 82)) w1.heap.size A n c (Tm.new me ms base most now) := by
  subst e1 e2
  exact ⟨Tm.new_good hr hn, heap_alloc_new w1 _, (ho.from_ (Nat.zero_le _)).keep fun j hj => Below.heap_alloc w1 _ j (ho.lt j hj).2⟩
set_option maxRecDepth 20000 in
theorem tnew_any (me : Int) (Am : Option Addr) (nm cm B : Nat) (ms : List Int) (base most now : Int) (w : World) (hm : HasI w B Am ms) (hB : B ≤ w.heap.size) (hn : ms.length = nm) (hl : nm ≤ 17592186044416) (hw : In64' now) :
    Calls Try.prog 12 #[.int .i64 me, .slice Am nm cm, .int .i64 base, .int .i64 most, .int .i64 now] w (TNewEnds me ms base most now w) := by
  have hck := bcheck_any Am nm cm B ms w hm hn (by omega)
  have hcl := cloneI_any' Am nm cm B ms w hm hB hn hl
  by_cases hr : rightS ms
  · rw [show chkS ms = 0 from if_pos hr] at hck
    have HR := hide hr
    have HW := hide hw
    have h1 := twithin_any base 1 1048576 w
    obtain ⟨b, e1⟩ : ∃ b, nearN base 1 1048576 = b := ⟨_, rfl⟩
    rw [e1] at h1
    have h2 := twithin_any most b 1048576
    obtain ⟨m, e2⟩ : ∃ m, nearN most b 1048576 = m := ⟨_, rfl⟩
    rw [e2] at h2
    have E1 := hide e1
    have E2 := hide e2
    clear hm hr hn hw e1 e2
    go_enter Try.func12, Try.ntmps12
    go_wp2_with fail
    refine hck.mono ?_
    rintro e _ ⟨rfl, rfl⟩
    go_wp2_with fail
    refine h1.mono ?_
    rintro e _ ⟨rfl, rfl⟩
    go_wp2_with fail
    refine hcl.mono ?_
    rintro e w1 ⟨v1, rfl, ho1, hb1⟩
    obtain ⟨A1, n1, c1, rfl, hn1, _, _⟩ := ho1.form
    have HO := hide ho1
    clear ho1
    go_wp2_with fail
    refine (h2 w1).mono ?_
    rintro e _ ⟨rfl, rfl⟩
    go_wp2
    go_ret
    exact ⟨fun _ => ⟨w1.heap.size, A1, n1, c1, rfl, tnew_is HR.out HW.out hb1 HO.out E1.out E2.out, hb1.size⟩, fun h => absurd HR.out h, hb1.alloc hb1.size _⟩
  · rw [show chkS ms = 24 from if_neg hr] at hck
    have HR := hide hr
    clear hr hm hn hw
    go_enter Try.func12, Try.ntmps12
    go_wp2_with fail
    refine hck.mono ?_
    rintro e _ ⟨rfl, rfl⟩
    go_wp2
    go_ret
    exact ⟨fun h => absurd h HR.out, fun _ => rfl, Below.refl _ _⟩
theorem eq_pT (b : Nat) (w : World) : (binOp .eql 29 (.pointer (some ⟨b, 0, none⟩)) (.pointer none)).run Try.prog w = .ok (.bool false) w := by kernel_rfl
theorem neq_pT (b : Nat) (w : World) : (binOp .neq 29 (.pointer (some ⟨b, 0, none⟩)) (.pointer none)).run Try.prog w = .ok (.bool true) w := by kernel_rfl
theorem right123T : rightS [1, 2, 3] := by decide
def ht0 : Tm := Tm.new 2 [1, 2, 3] 10 30 0
def ht1 : Tm := (ht0.tick 9).1
def ht2 : Tm := (ht1.tick 10).1
def ht3 : Tm := (ht2.tick 30).1
def ht4 : Tm := (ht3.heard 2 35).1
def ht5 : Tm := (ht4.tick 45).1
theorem ht_all : (ht0.tick 9).2 = false ∧ (ht1.tick 10).2 = false ∧ ht2.wait = 20 ∧ (ht2.tick 30).2 = true ∧ ht3.wait = 30 ∧ (ht3.heard 2 35).2 = true ∧ ht4.wait = 10 ∧ (ht4.tick 45).2 = false ∧ ht5.round = 3 := by decide
set_option maxHeartbeats 1600000 in
set_option maxRecDepth 20000 in
theorem head17_any (w : World) : Calls Try.prog 10 #[] w fun e w' => e = .returned (.bool true) ∧ Below w.heap.size w w' := by
  have hm0 : HasI (w.alloc (.cells (icells [1, 2, 3]) 3)) (w.heap.size + 1) (some ⟨w.heap.size, 0, none⟩) [1, 2, 3] := HasI.new w 3 [1, 2, 3] (0, 0) w.heap.size rfl
  have ba := (Below.refl _ w).alloc (Nat.le_refl _) (.cells (icells [1, 2, 3]) 3)
  have hic : icells [1, 2, 3] = #[.int .i64 1, .int .i64 2, .int .i64 3] := rfl
  rw [hic] at hm0 ba
  have hz0 : w.heap.size < (w.alloc (.cells #[.int .i64 1, .int .i64 2, .int .i64 3] 3)).heap.size := by simp
  obtain ⟨a1, a2, a3, a4, a5, a6, a7, a8, a9⟩ := ht_all
  clear hic
  go_enter Try.func10, Try.ntmps10
  go_wp2_with fail
  generalize w.alloc (.cells #[.int .i64 1, .int .i64 2, .int .i64 3] 3) = w0 at *
  refine (tnew_any 2 _ 3 _ _ _ 10 30 0 w0 hm0 (by omega) rfl (by omega) (by unfold In64'; omega)).mono ?_
  rintro e w1 ⟨h1, _, hb1⟩
  obtain ⟨g, A, n, c, rfl, h1, hg⟩ := h1 right123T
  have h1 : IsT w1 g A n c ht0 := h1
  have hb1' := hide (ba.trans (hb1.mono ba.size))
  have hg' := hide (show w.heap.size ≤ g by omega)
  clear hm0 ba hz0 hb1 hg
  go_wp2_with fail
  refine (ttick_any h1 9 (by unfold In64'; omega)).mono ?_
  rintro e w2 ⟨rfl, h2, k2⟩
  rw [a1]
  have h2 : IsT w2 g A n c ht1 := h2
  go_wp2_with fail
  refine (ttick_any h2 10 (by unfold In64'; omega)).mono ?_
  rintro e w3 ⟨rfl, h3, k3⟩
  rw [a2]
  have h3 : IsT w3 g A n c ht2 := h3
  go_wp2_with fail
  refine (twait_any h3).mono ?_
  rintro e _ ⟨rfl, rfl⟩
  go_wp2_with fail
  refine (ttick_any h3 30 (by unfold In64'; omega)).mono ?_
  rintro e w4 ⟨rfl, h4, k4⟩
  rw [a4]
  have h4 : IsT w4 g A n c ht3 := h4
  go_wp2_with fail
  refine (twait_any h4).mono ?_
  rintro e _ ⟨rfl, rfl⟩
  go_wp2_with fail
  refine (theard_any h4 2 35 (by unfold In64'; omega)).mono ?_
  rintro e w5 ⟨rfl, h5, k5⟩
  rw [a6]
  have h5 : IsT w5 g A n c ht4 := h5
  go_wp2_with fail
  refine (twait_any h5).mono ?_
  rintro e _ ⟨rfl, rfl⟩
  go_wp2_with fail
  refine (ttick_any h5 45 (by unfold In64'; omega)).mono ?_
  rintro e w6 ⟨rfl, h6, k6⟩
  rw [a8]
  have h6 : IsT w6 g A n c ht5 := h6
  go_wp2_with fail
  refine (tround_any h6).mono ?_
  rintro e _ ⟨rfl, rfl⟩
  go_wp2
  go_ret
  have kk := ((((k2.step k3 (fun j hj => .inl hj)).step k4 (fun j hj => .inl hj)).step k5 (fun j hj => .inl hj)).step k6 (fun j hj => .inl hj))
  exact ⟨rfl, hb1'.out.trans (kk.below hb1'.out.size (fun j hj => by have := hg'.out; omega))⟩
end
end Go.Proofs.Ytgdncmkhcdmjoaa
