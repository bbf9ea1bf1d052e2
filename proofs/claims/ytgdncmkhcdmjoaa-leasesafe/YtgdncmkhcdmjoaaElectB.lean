/-
  Heard, Seen, Tick, Round and Wait of package election. No condition but that times are numbers of 64 bits.
-/
import Derived.Test.YtgdncmkhcdmjoaaElectA
set_option linter.unusedSimpArgs false
set_option linter.unusedVariables false
namespace Go.Proofs.Ytgdncmkhcdmjoaa
open Go.RowKit

/-- What a call on a timer leaves. -/
def TmEnds (g : Nat) (A : Option Addr) (n c : Nat) (t' : Tm) (r : Value) (w : World) (e : Ending) (w' : World) : Prop :=
  e = .returned r ∧ IsT w' g A n c t' ∧ Kept (fun j => j = g) w w'
def In64' (x : Int) : Prop := -9223372036854775808 ≤ x ∧ x ≤ 9223372036854775807
section
variable {w w' : World} {g : Nat} {A : Option Addr} {n c : Nat} {t : Tm}
theorem tenter_any (h : IsT w g A n c t) (r now wt : Int) (hr : 0 ≤ r ∧ r ≤ 1099511627776) (hn : In64' now) (hw : 1 ≤ wt ∧ wt ≤ t.most) :
    Calls Try.prog 44 #[.pointer (some ⟨g, 0, none⟩), .int .i64 r, .int .i64 now, .int .i64 wt] w (TmEnds g A n c { t with round := r, since := now, wait := wt } (.tuple #[]) w) := by
  have hg := h.good
  obtain ⟨h1, k1⟩ := h.set (i := 4) (v := .int .i64 r) (t' := { t with round := r }) ⟨hg.rt, hg.b, hr, hg.s, hg.w⟩ rfl rfl
  obtain ⟨h2, k2⟩ := h1.set (i := 5) (v := .int .i64 now) (t' := { t with round := r, since := now }) ⟨hg.rt, hg.b, hr, hn, hg.w⟩ rfl rfl
  obtain ⟨h3, k3⟩ := h2.set (i := 6) (v := .int .i64 wt) (t' := { t with round := r, since := now, wait := wt }) ⟨hg.rt, hg.b, hr, hn, hw⟩ rfl rfl
  have hk := hide ((k1.step k2 (fun j hj => .inl hj)).step k3 (fun j hj => .inl hj))
  have H3 := hide h3
  obtain ⟨⟨_, _, _, _, c4, c5, c6⟩, hf⟩ := h.cells
  have f4 := hf 4
  have f5 := hf 5
  have f6 := hf 6
  clear h1 h2 h3 k1 k2 k3 h hf hr hn hw hg
  go_enter Try.func44, Try.ntmps44
  go_wp2
  go_end0
  exact ⟨rfl, H3.out, hk.out⟩

/-- Has it waited long enough? -/
def Tm.over (t : Tm) (now : Int) : Bool := decide (t.wait ≤ now - t.since)
theorem over_eq {a b wt : Int} (ha : In64' a) (hb : In64' b) (hab : b ≤ a) (hw : 1 ≤ wt ∧ wt ≤ 1048576) : decide (IntKind.u64.wrap wt ≤ IntKind.u64.wrap (IntKind.u64.wrap a - IntKind.u64.wrap b)) = decide (wt ≤ a - b) := by
  unfold In64' at ha hb
  simp only [IntKind.wrap_u64]
  exact decide_eq_decide.2 (by omega)
theorem tover_any (h : IsT w g A n c t) (now : Int) (hn : In64' now) (hs : t.since ≤ now) :
    Calls Try.prog 43 #[.pointer (some ⟨g, 0, none⟩), .int .i64 now] w fun e w' => e = .returned (.bool (t.over now)) ∧ Below w.heap.size w w' := by
  have HE : Hid (_ = t.over now) := hide (over_eq hn h.good.s hs ⟨h.good.w.1, by have := h.good.w.2; have := h.good.b.2.2; omega⟩)
  obtain ⟨⟨_, _, _, _, _, c5, c6⟩, _⟩ := h.cells
  clear h hn hs
  go_enter Try.func43, Try.ntmps43
  go_wp2_with fail
  go_quiet (fail)
  go_wp2
  go_ret
  exact ⟨by rw [← HE.out]; rfl, below_drewN (Below.refl _ _) _⟩

theorem tround_any (h : IsT w g A n c t) : Calls Try.prog 16 #[.pointer (some ⟨g, 0, none⟩)] w fun e w' => e = .returned (.int .i64 t.round) ∧ w = w' := by
  obtain ⟨⟨_, _, _, _, c4, c5, c6⟩, _⟩ := h.cells
  clear h
  go_enter Try.func16, Try.ntmps16
  go_wp2
  go_ret
  exact ⟨rfl, rfl⟩
theorem twait_any (h : IsT w g A n c t) : Calls Try.prog 17 #[.pointer (some ⟨g, 0, none⟩)] w fun e w' => e = .returned (.int .i64 t.wait) ∧ w = w' := by
  obtain ⟨⟨_, _, _, _, c4, c5, c6⟩, _⟩ := h.cells
  clear h
  go_enter Try.func17, Try.ntmps17
  go_wp2
  go_ret
  exact ⟨rfl, rfl⟩

/-- What Heard, Seen, Tick do. -/
def Tm.heard (t : Tm) (r now : Int) : Tm × Bool := if t.round ≤ r ∧ 1 ≤ r ∧ r ≤ 1099511627776 then ({ t with round := r, since := now, wait := t.base }, true) else (t, false)
def Tm.seen (t : Tm) (r now : Int) : Tm × Bool := if t.round < r ∧ r ≤ 1099511627776 then ({ t with round := r, since := now }, true) else (t, false)
def Tm.tick (t : Tm) (now : Int) : Tm × Bool :=
  if t.round = 1099511627776 then (t, false)
  else if now - min t.since now < t.wait then ({ t with since := min t.since now }, false)
  else ({ t with round := t.round + 1, since := now, wait := min (2 * t.wait) t.most }, ldr t.ms (t.round + 1) == t.me)

theorem theard_any (h : IsT w g A n c t) (r now : Int) (hn : In64' now) :
    Calls Try.prog 14 #[.pointer (some ⟨g, 0, none⟩), .int .i64 r, .int .i64 now] w (TmEnds g A n c (t.heard r now).1 (.bool (t.heard r now).2) w) := by
  have hm := tmade_any h
  have hr := h.good.r
  have HN : Hid (¬ (t.round ≤ r ∧ 1 ≤ r ∧ r ≤ 1099511627776) → TmEnds g A n c (t.heard r now).1 (.bool (t.heard r now).2) w (.returned (.bool false)) w) := hide (fun hno => by
    have e : t.heard r now = (t, false) := if_neg hno
    rw [e]
    exact ⟨rfl, h, Kept.refl _ _⟩)
  obtain ⟨⟨_, _, c2, _, c4, c5, c6⟩, _⟩ := h.cells
  obtain ⟨m, hmd⟩ : ∃ m, m = (if t.round < 1 then 1 else t.round) := ⟨_, rfl⟩
  have hmx : (if t.round < 1 then 1 else t.round) = m := hmd.symm
  have hm1 : (m = t.round ∧ 1 ≤ t.round) ∨ (m = 1 ∧ t.round < 1) := by
    rw [hmd]
    split <;> omega
  clear hmd
  have HMX := hide hmx
  clear hmx
  cases e1 : decide (r < m) <;> cases e3 : decide (1099511627776 < r)
  case false.false =>
    have f1 := of_decide_eq_false e1
    have f3 := of_decide_eq_false e3
    have HE : Hid (t.heard r now = ({ t with round := r, since := now, wait := t.base }, true)) := hide (if_pos (by omega))
    have hen := tenter_any h r now t.base (by omega) hn ⟨h.good.b.1, h.good.b.2.1⟩
    clear h hr hn HN f1 f3 hm1
    have hmx := HMX.out
    go_enter Try.func14, Try.ntmps14
    go_wp2_with fail
    refine hm.mono ?_
    rintro e w' ⟨rfl, rfl⟩
    go_wp2_with fail
    refine hen.mono ?_
    rintro e w1 ⟨rfl, h1, hk1⟩
    go_wp2
    go_ret
    rw [HE.out]
    exact ⟨rfl, h1, hk1⟩
  all_goals have HN' := hide (HN.out (by simp at e1 e3; omega))
  all_goals clear h hr hn HN hm1
  all_goals have hmx := HMX.out
  all_goals go_enter Try.func14, Try.ntmps14
  all_goals go_wp2_with fail
  all_goals refine hm.mono ?_
  all_goals rintro e w' ⟨rfl, rfl⟩
  all_goals go_wp2
  all_goals go_ret
  all_goals exact HN'.out

theorem tseen_any (h : IsT w g A n c t) (r now : Int) (hn : In64' now) :
    Calls Try.prog 15 #[.pointer (some ⟨g, 0, none⟩), .int .i64 r, .int .i64 now] w (TmEnds g A n c (t.seen r now).1 (.bool (t.seen r now).2) w) := by
  have hm := tmade_any h
  have hr := h.good.r
  have HN : Hid (¬ (t.round < r ∧ r ≤ 1099511627776) → TmEnds g A n c (t.seen r now).1 (.bool (t.seen r now).2) w (.returned (.bool false)) w) := hide (fun hno => by
    have e : t.seen r now = (t, false) := if_neg hno
    rw [e]
    exact ⟨rfl, h, Kept.refl _ _⟩)
  obtain ⟨⟨_, _, c2, _, c4, c5, c6⟩, _⟩ := h.cells
  cases e2 : decide (r ≤ t.round) <;> cases e3 : decide (1099511627776 < r)
  case false.false =>
    have f2 := of_decide_eq_false e2
    have f3 := of_decide_eq_false e3
    have HE : Hid (t.seen r now = ({ t with round := r, since := now }, true)) := hide (if_pos (by omega))
    have hen := tenter_any h r now t.wait (by omega) hn h.good.w
    clear h hr hn HN f2 f3
    go_enter Try.func15, Try.ntmps15
    go_wp2_with fail
    refine hm.mono ?_
    rintro e w' ⟨rfl, rfl⟩
    go_wp2_with fail
    refine hen.mono ?_
    rintro e w1 ⟨rfl, h1, hk1⟩
    go_wp2
    go_ret
    rw [HE.out]
    exact ⟨rfl, h1, hk1⟩
  all_goals have HN' := hide (HN.out (by simp at e2 e3; omega))
  all_goals clear h hr hn HN
  all_goals go_enter Try.func15, Try.ntmps15
  all_goals go_wp2_with fail
  all_goals refine hm.mono ?_
  all_goals rintro e w' ⟨rfl, rfl⟩
  all_goals go_wp2
  all_goals go_ret
  all_goals exact HN'.out

theorem tnil_heard (r now : Int) (w : World) : Calls Try.prog 14 #[.pointer none, .int .i64 r, .int .i64 now] w fun e w' => e = .returned (.bool false) ∧ w = w' := by
  go_enter Try.func14, Try.ntmps14
  go_wp2_with fail
  refine (tmade_nil w).mono ?_
  rintro e w' ⟨rfl, rfl⟩
  go_wp2
  go_ret
  exact ⟨rfl, rfl⟩
theorem tnil_seen (r now : Int) (w : World) : Calls Try.prog 15 #[.pointer none, .int .i64 r, .int .i64 now] w fun e w' => e = .returned (.bool false) ∧ w = w' := by
  go_enter Try.func15, Try.ntmps15
  go_wp2_with fail
  refine (tmade_nil w).mono ?_
  rintro e w' ⟨rfl, rfl⟩
  go_wp2
  go_ret
  exact ⟨rfl, rfl⟩
theorem tnil_tick (now : Int) (w : World) : Calls Try.prog 13 #[.pointer none, .int .i64 now] w fun e w' => e = .returned (.bool false) ∧ w = w' := by
  go_enter Try.func13, Try.ntmps13
  go_wp2_with fail
  refine (tmade_nil w).mono ?_
  rintro e w' ⟨rfl, rfl⟩
  go_wp2
  go_ret
  exact ⟨rfl, rfl⟩
theorem tnil_round (w : World) : Calls Try.prog 16 #[.pointer none] w fun e w' => e = .returned (.int .i64 0) ∧ w = w' := by
  go_enter Try.func16, Try.ntmps16
  go_wp2
  go_ret
  exact ⟨rfl, rfl⟩
theorem tnil_wait (w : World) : Calls Try.prog 17 #[.pointer none] w fun e w' => e = .returned (.int .i64 0) ∧ w = w' := by
  go_enter Try.func17, Try.ntmps17
  go_wp2
  go_ret
  exact ⟨rfl, rfl⟩
end
end Go.Proofs.Ytgdncmkhcdmjoaa
