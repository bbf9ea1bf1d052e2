/-
  Readers of the reference of package pack, in the words of the Value laws. No condition.
  TakeCmd of the reference of package value, whatever is read. No condition but the reach of what is read.
-/
import Derived.Test.YtapbcpilklhoiabDoorMY3
import Derived.Handy
import Derived.StillTailTactics
import Derived.Deep.RegionHeld3
import Derived.Deep.DrawnRows
import Derived.ChangeAlike
import Derived.Deep.DeepCutAuto
set_option linter.unusedSimpArgs false
set_option linter.unusedVariables false

namespace Go.Proofs.YtapbcpilklhoiabDoor
open Go.RowKit

/-- What is left of the reference's reader: these bytes. -/
def Left (w : World) (B : Nat) (A : Option Addr) (n c : Nat) (xs : List UInt8) : Prop := Has w B A xs ∧ Hid (xs.length = n) ∧ n ≤ c ∧ n ≤ 140737488355328

theorem Left.below {w w' : World} {B : Nat} {A : Option Addr} {n c : Nat} {xs : List UInt8} (h : Left w B A n c xs) (hb : Below B w w') : Left w' B A n c xs := ⟨h.1.below hb, h.2⟩

/-- What ReadNum answers and leaves. -/
def FEnds (w : World) (B : Nat) (u : Value) (ys : List UInt8) (er : Nat) (e : Ending) (w' : World) : Prop :=
  ∃ A n c, e = .returned (.tuple #[.agg #[.slice A n c, .int .i64 (er : Int)], u]) ∧ (er = 0 → Left w' B A n c ys) ∧ ∃ o1 o2, (w.alloc o1).alloc o2 = w'

theorem past2 {w : World} {a : Addr} {v : Value} (h : w.cell? a = some v) (hb : a.block < w.heap.size) (o1 o2 : Obj) : ((w.alloc o1).alloc o2).cell? a = some v :=
  (World.cell?_of_block (w := w.alloc o1) (a := a) (Below.heap_alloc _ _ _ (by simp; omega))).trans ((World.cell?_of_block (w := w) (a := a) (Below.heap_alloc _ _ _ hb)).trans h)

theorem readnum_stuck (A : Option Addr) (n c B er : Nat) (xs : List UInt8) (w : World) (he : er ≠ 0) : Calls Tryd.prog 75 #[.agg #[.slice A n c, .int .i64 (er : Int)]] w (FEnds w B (.int .u64 0) xs er) := by
  have t1 : ((er : Int) != 0) = true := by rw [bne_iff_ne]; omega
  have HE := hide he
  clear he
  go_enter Tryd.func75, Tryd.ntmps75
  go_wp2
  go_returns
  exact ⟨A, n, c, rfl, fun h => absurd h HE.out, _, _, rfl⟩

theorem readnum_empty (A : Option Addr) (c B : Nat) (w : World) : Calls Tryd.prog 75 #[.agg #[.slice A 0 c, .int .i64 0]] w (FEnds w B (.int .u64 0) [] 10) := by
  go_enter Tryd.func75, Tryd.ntmps75
  go_wp2
  go_returns
  exact ⟨A, 0, c, rfl, (fun h => by cases h), _, _, rfl⟩

theorem readnum_wide (A : Option Addr) (n c B : Nat) (ch : UInt8) (t : List UInt8) (w : World) (h : Left w B A n c (ch :: t)) (hB : B ≤ w.heap.size) (h8 : 8 < ch.toNat) :
    Calls Tryd.prog 75 #[.agg #[.slice A n c, .int .i64 0]] w (FEnds w B (.int .u64 0) [] 11) := by
  obtain ⟨hx, hn, hnc, hcm⟩ := h
  obtain ⟨k, rfl, hk⟩ : ∃ k, n = k + 1 ∧ k = t.length := ⟨t.length, by have := hn.out; simp at this; omega, rfl⟩
  obtain ⟨b0, o0, rfl, hb0, hc0⟩ := hx 0 (by simp)
  unfold byt at hc0
  simp only [List.getElem_cons_zero, Nat.add_zero] at hc0
  have hca := past2 hc0 (by simp only; omega)
  have hm := ch.toNat_lt
  generalize ch.toNat = m at *
  have t0 : ((k : Int) + 1 == 0) = false := by rw [beq_eq_false_iff_ne]; omega
  have t0' : ((k : Int) + 2 == 0) = false := by rw [beq_eq_false_iff_ne]; omega
  have t1 : decide ((8 : Int) < (m : Int)) = true := by simp; omega
  clear hk hn hx
  go_enter Tryd.func75, Tryd.ntmps75
  go_wp2
  go_returns
  exact ⟨_, _, _, rfl, (fun h => by cases h), _, _, rfl⟩

theorem readnum_short (A : Option Addr) (n c B : Nat) (ch : UInt8) (t : List UInt8) (w : World) (h : Left w B A n c (ch :: t)) (hB : B ≤ w.heap.size) (h8 : ch.toNat ≤ 8) (hs : t.length < ch.toNat) :
    Calls Tryd.prog 75 #[.agg #[.slice A n c, .int .i64 0]] w (FEnds w B (.int .u64 0) [] 10) := by
  obtain ⟨hx, hn, hnc, hcm⟩ := h
  obtain ⟨k, rfl, hk⟩ : ∃ k, n = k + 1 ∧ k = t.length := ⟨t.length, by have := hn.out; simp at this; omega, rfl⟩
  obtain ⟨b0, o0, rfl, hb0, hc0⟩ := hx 0 (by simp)
  unfold byt at hc0
  simp only [List.getElem_cons_zero, Nat.add_zero] at hc0
  have hca := past2 hc0 (by simp only; omega)
  have hm := ch.toNat_lt
  generalize ch.toNat = m at *
  have t0 : ((k : Int) + 1 == 0) = false := by rw [beq_eq_false_iff_ne]; omega
  have t0' : ((k : Int) + 2 == 0) = false := by rw [beq_eq_false_iff_ne]; omega
  have t1 : decide ((8 : Int) < (m : Int)) = false := by simp; omega
  have t2 : decide (k < m) = true := by simp; omega
  have t2' : decide ((k : Int) < (m : Int)) = true := by simp; omega
  clear hk hn hx hs
  go_enter Tryd.func75, Tryd.ntmps75
  go_wp2
  go_returns
  exact ⟨_, _, _, rfl, (fun h => by cases h), _, _, rfl⟩

theorem readnum_zero (A : Option Addr) (n c B : Nat) (ch : UInt8) (t : List UInt8) (w : World) (h : Left w B A n c (ch :: 0 :: t)) (hB : B ≤ w.heap.size) (h8 : ch.toNat ≤ 8) (h0 : 0 < ch.toNat) (hs : ch.toNat ≤ t.length + 1) :
    Calls Tryd.prog 75 #[.agg #[.slice A n c, .int .i64 0]] w (FEnds w B (.int .u64 0) [] 11) := by
  obtain ⟨hx, hn, hnc, hcm⟩ := h
  obtain ⟨k, rfl, hk⟩ : ∃ k, n = k + 2 ∧ k = t.length := ⟨t.length, by have := hn.out; simp at this; omega, rfl⟩
  obtain ⟨b0, o0, rfl, hb0, hc0⟩ := hx 0 (by simp)
  obtain ⟨b1, o1, e1, _, hc1⟩ := hx 1 (by simp)
  injection e1 with e1
  injection e1 with eb eo
  subst eb eo
  unfold byt at hc0 hc1
  simp only [List.getElem_cons_zero, List.getElem_cons_succ, Nat.add_zero] at hc0 hc1
  have hc1' : w.cell? ⟨b0, o0 + 1, none⟩ = some (.int .u8 0) := hc1
  have hcb := past2 hc1' (by simp only; omega)
  have hca := past2 hc0 (by simp only; omega)
  clear hc1
  have hm := ch.toNat_lt
  generalize ch.toNat = m at *
  have t0 : ((k : Int) + 1 == 0) = false := by rw [beq_eq_false_iff_ne]; omega
  have t0' : ((k : Int) + 2 == 0) = false := by rw [beq_eq_false_iff_ne]; omega
  have t1 : decide ((8 : Int) < (m : Int)) = false := by simp; omega
  have t2 : decide (k + 1 < m) = false := by simp; omega
  have t2' : decide ((k : Int) + 1 < (m : Int)) = false := by simp; omega
  have t3 : decide ((0 : Int) < (m : Int)) = true := by simp; omega
  have t3' : decide (0 < m) = true := by simp; omega
  have i1 : m ≤ k + 1 := by omega
  clear hk hs hn hx
  go_enter Tryd.func75, Tryd.ntmps75
  go_wp2
  go_returns
  exact ⟨_, _, _, rfl, (fun h => by cases h), _, _, rfl⟩

theorem add_step (u : Nat) (c : UInt8) (h : u < 72057594037927936) : IntKind.u64.wrap (IntKind.u64.wrap (256 * (u : Int)) + IntKind.u64.wrap (c.toNat : Int)) = ((256 * u + c.toNat : Nat) : Int) := by
  have hc := c.toNat_lt
  simp only [IntKind.wrap_u64]
  omega

/-- What is left behind a cut. -/
theorem left_cut {w : World} {B : Nat} {A A' : Option Addr} {n c s n' c' : Nat} {xs : List UInt8} (h : Left w B A n c xs) (hs : s ≤ n) (hn' : n' = n - s) (hc' : c' = c - s) (hA : A' = A ∧ c = s ∨ A' = Option.map (fun x => x.add s) A) : Left w B A' n' c' (xs.drop s) := by
  obtain ⟨hx, hn, hnc, hcm⟩ := h
  have hn2 := hn.out
  refine ⟨?_, ?_, by omega, by omega⟩
  · rcases hA with ⟨rfl, hcs⟩ | rfl
    · rw [List.drop_eq_nil_of_le (by omega)]; exact Has.nil _ _ _
    · exact hx.drop s
  · show (xs.drop s).length = n'
    simp; omega

set_option maxHeartbeats 800000 in
theorem readnum_ok (A : Option Addr) (n c B : Nat) (ch : UInt8) (d t : List UInt8) (w : World) (h : Left w B A n c (ch :: (d ++ t))) (hB : B ≤ w.heap.size) (hm : d.length = ch.toNat) (h8 : d.length ≤ 8) (hz : ∀ x r, d = x :: r → x ≠ 0) :
    Calls Tryd.prog 75 #[.agg #[.slice A n c, .int .i64 0]] w (FEnds w B (.int .u64 (val d : Int)) t 0) := by
  have HLEFT := hide h
  obtain ⟨hx, hn, hnc, hcm⟩ := h
  obtain ⟨k, rfl, hk⟩ : ∃ k, n = k + 1 ∧ k = d.length + t.length := ⟨d.length + t.length, by have := hn.out; simp at this; omega, rfl⟩
  obtain ⟨b0, o0, rfl, hb0, hc0⟩ := hx 0 (by simp)
  have hcd : ∀ j (hj : j < d.length) (o1 o2 : Obj), ((w.alloc o1).alloc o2).cell? ⟨b0, o0 + (j + 1), none⟩ = some (.int .u8 (d[j].toNat : Int)) := by
    intro j hj o1 o2
    obtain ⟨b1, o1', e1, _, hc1⟩ := hx (j + 1) (by simp; omega)
    injection e1 with e1
    injection e1 with eb eo
    subst eb eo
    refine past2 (a := ⟨b0, o0 + (j + 1), none⟩) ?_ (by simp only; omega) o1 o2
    rw [hc1]
    simp [hj, byt, List.getElem_append_left]
  have HCD := hide hcd
  clear hcd
  unfold byt at hc0
  simp only [List.getElem_cons_zero, Nat.add_zero] at hc0
  rw [← hm] at hc0
  have hca := past2 hc0 (by simp only; omega)
  have t0 : ((k : Int) + 1 == 0) = false := by rw [beq_eq_false_iff_ne]; omega
  have t1 : decide ((8 : Int) < (d.length : Int)) = false := by simp; omega
  have t2 : decide (k < d.length) = false := by simp; omega
  have t2' : decide ((k : Int) < (d.length : Int)) = false := by simp; omega
  have i1 : d.length ≤ k := by omega
  have hdr : (ch :: (d ++ t)).drop (d.length + 1) = t := by rw [List.drop_succ_cons, List.drop_left]
  have HDR := hide hdr
  have fin : ∀ (A' : Option Addr) (n' c' : Nat) (o1 o2 : Obj), n' = k + 1 - (d.length + 1) → c' = c - (d.length + 1) → (A' = some ⟨b0, o0, none⟩ ∧ c = d.length + 1 ∨ A' = some ⟨b0, o0 + (d.length + 1), none⟩) →
      FEnds w B (.int .u64 (val d : Int)) t 0 (.returned (.tuple #[.agg #[.slice A' n' c', .int .i64 0], .int .u64 (val d : Int)])) ((w.alloc o1).alloc o2) := by
    intro A' n' c' o1 o2 h1 h2 h3
    have hb : Below w.heap.size w ((w.alloc o1).alloc o2) := ((Below.refl _ _).alloc (Nat.le_refl _) _).alloc (by simp) _
    refine ⟨A', n', c', rfl, fun _ => ?_, o1, o2, rfl⟩
    have := left_cut (A' := A') (s := d.length + 1) (HLEFT.out.below (hb.mono hB)) (by omega) h1 h2 (by
      rcases h3 with ⟨rfl, h⟩ | h
      · exact .inl ⟨rfl, h⟩
      · exact .inr (h.trans (addr_add _ _ _).symm))
    rwa [HDR.out] at this
  have FIN := hide fin
  clear fin hk hn hx hdr hm HLEFT HDR hc0
  by_cases hd0 : d.length = 0
  · have hd : d = [] := List.eq_nil_of_length_eq_zero hd0
    subst hd
    clear hd0 hz
    simp only [List.length_nil, Nat.zero_add] at FIN hca
    by_cases hcc : c = 1
    all_goals
      go_enter Tryd.func75, Tryd.ntmps75
      go_wp2
      refine wp_loop_rounds 1 ?_
      rw [rounds_succ]
      go_wp2
      go_returns
      first
        | exact FIN.out (some ⟨b0, o0, none⟩) k 0 _ _ (by omega) (by omega) (.inl ⟨rfl, hcc⟩)
        | exact FIN.out (some ⟨b0, o0 + 1, none⟩) k (c - 1) _ _ (by omega) (by omega) (.inr rfl)
  · obtain ⟨x, r, hd⟩ : ∃ x r, d = x :: r := by cases d with | nil => simp at hd0 | cons x r => exact ⟨x, r, rfl⟩
    have hx0 : x ≠ 0 := hz x r hd
    have hc1 := HCD.out 0 (by omega)
    have e0 : d[0]'(by omega) = x := by subst hd; rfl
    rw [e0] at hc1
    simp only [Nat.zero_add] at hc1
    have t3 : ((x.toNat : Int) == 0) = false := by
      rw [beq_eq_false_iff_ne]; intro e; exact hx0 (UInt8.toNat_inj.1 (by simp; omega))
    have t4 : decide (0 < d.length) = true := by simp; omega
    have t4' : decide ((0 : Int) < (d.length : Int)) = true := by simp; omega
    have hle : c ≤ 1 + d.length ∨ 2 + d.length ≤ c := by omega
    have hk1 : 1 ≤ k := by omega
    clear hz e0 hd hd0
    by_cases hcc : c = d.length + 1
    all_goals
      have HCC := hide hcc
      clear hcc
      go_enter Tryd.func75, Tryd.ntmps75
      go_wp2
      go_loop [5, 6] (fun s i => ∃ j : Nat, j ≤ d.length ∧ i = .int .i64 ((j : Int) + 1) ∧ s = .int .u64 (val (d.take j) : Int)) (fun _ i => d.length + 1 - (intOf i).toNat)
      case atStart => exact ⟨0, Nat.zero_le _, rfl, rfl⟩
      case round =>
        obtain ⟨j, hj, rfl, rfl⟩ := hrel
        by_cases hjl : j < d.length
        · have hcj := HCD.out j hjl
          have t5 : decide ((j : Int) + 1 ≤ (d.length : Int)) = true := by simp; omega
          have HV := hide (val_take d j hjl)
          have HB' := hide (val_take_lt d j hjl h8)
          generalize val (d.take j) = u at *
          generalize d[j] = cj at *
          go_wp2
          go_round
          case rel => exact ⟨j + 1, by omega, by go_num, by rw [HV.out]; exact congrArg (Value.int .u64) (add_step u cj HB'.out)⟩
          case measure => simp [intOf]; omega
        · have e : j = d.length := by omega
          subst e
          have t5 : decide ((d.length : Int) + 1 ≤ (d.length : Int)) = false := by simp; omega
          go_wp2
          all_goals
            go_returns
            first
              | exact FIN.out _ _ _ _ _ (by omega) (by omega) (.inr rfl)
              | exact FIN.out _ _ _ _ _ (by omega) (by have := HCC.out; omega) (.inl ⟨rfl, HCC.out⟩)

theorem readnum_any (A : Option Addr) (n c B : Nat) (xs : List UInt8) (w : World) (h : Left w B A n c xs) (hB : B ≤ w.heap.size) :
    Calls Tryd.prog 75 #[.agg #[.slice A n c, .int .i64 0]] w (FEnds w B (.int .u64 ((rn xs).1 : Int)) (rn xs).2.1 (rn xs).2.2) := by
  cases xs with
  | nil =>
    have hn : n = 0 := by have := h.2.1.out; simpa using this.symm
    subst hn
    exact readnum_empty A c B w
  | cons ch t =>
    by_cases h8 : 8 < ch.toNat
    · rw [rn_wide h8]; exact readnum_wide A n c B ch t w h hB h8
    by_cases hs : t.length < ch.toNat
    · rw [rn_short h8 hs]; exact readnum_short A n c B ch t w h hB (by omega) hs
    by_cases hz : 0 < ch.toNat ∧ t.head? = some 0
    · rw [rn_zero h8 hs hz]
      cases t with
      | nil => simp at hz
      | cons y r =>
        have hy : y = 0 := by simpa using hz.2
        subst hy
        exact readnum_zero A n c B ch r w h hB (by omega) hz.1 (by simp at hs; omega)
    · rw [rn_ok h8 hs hz]
      have hl : (t.take ch.toNat).length = ch.toNat := by rw [List.length_take]; omega
      refine readnum_ok A n c B ch (t.take ch.toNat) (t.drop ch.toNat) w (by rw [List.take_append_drop]; exact h) hB hl (by omega) ?_
      intro x r hxr hx0
      apply hz
      refine ⟨by rw [← hl, hxr]; simp, ?_⟩
      cases t with
      | nil => simp at hxr
      | cons y s =>
        obtain ⟨m, hm⟩ : ∃ m, ch.toNat = m + 1 := ⟨ch.toNat - 1, by rw [hxr] at hl; simp at hl; omega⟩
        rw [hm, List.take_succ_cons] at hxr
        injection hxr with e1 _
        rw [List.head?_cons, e1, hx0]

/-- A number read by a reader, whether stuck or not. -/
def rnx (xs : List UInt8) (er : Nat) : Nat × List UInt8 × Nat := if er = 0 then rn xs else (0, xs, er)

theorem readnum_all (A : Option Addr) (n c B er : Nat) (xs : List UInt8) (w : World) (h : er = 0 → Left w B A n c xs) (hB : B ≤ w.heap.size) :
    Calls Tryd.prog 75 #[.agg #[.slice A n c, .int .i64 (er : Int)]] w (FEnds w B (.int .u64 ((rnx xs er).1 : Int)) (rnx xs er).2.1 (rnx xs er).2.2) := by
  by_cases he : er = 0
  · subst he
    exact readnum_any A n c B xs w (h rfl) hB
  · unfold rnx
    rw [if_neg he]
    exact readnum_stuck A n c B er xs w he

/-- A count read by a reader, whether stuck or not. -/
def rcx (xs : List UInt8) (most : Int) (er : Nat) : Nat × List UInt8 × Nat := if most.toNat < (rnx xs er).1 then (0, [], 12) else rnx xs er

def CEnds (w : World) (B : Nat) (u : Value) (ys : List UInt8) (er : Nat) (e : Ending) (w' : World) : Prop :=
  ∃ A n c, e = .returned (.tuple #[.agg #[.slice A n c, .int .i64 (er : Int)], u]) ∧ (er = 0 → Left w' B A n c ys) ∧ ∃ o1 o2 o3 o4, (((w.alloc o1).alloc o2).alloc o3).alloc o4 = w'

theorem rnx_err {xs : List UInt8} {er : Nat} (h : 0 < (rnx xs er).1) : (rnx xs er).2.2 = 0 := by
  unfold rnx at *
  split at h
  · rename_i he; rw [if_pos he]; exact rn_err h
  · simp at h

theorem rnx_lt (xs : List UInt8) (er : Nat) : (rnx xs er).1 < 18446744073709551616 := by
  unfold rnx
  split
  · exact rn_lt xs
  · simp

theorem Left.back {w w' : World} {B : Nat} {A : Option Addr} {n c : Nat} {xs : List UInt8} (h : Left w' B A n c xs) (hb : Below B w w') : Left w B A n c xs := ⟨h.1.keep fun b hlt => (hb.block b hlt).symm, h.2⟩

theorem below2 (w : World) (o1 o2 : Obj) : Below w.heap.size w ((w.alloc o1).alloc o2) := ((Below.refl _ _).alloc (Nat.le_refl _) _).alloc (by simp) _

theorem below4 (w : World) (o1 o2 o3 o4 : Obj) : Below w.heap.size w ((((w.alloc o1).alloc o2).alloc o3).alloc o4) := (((below2 w o1 o2).alloc (by simp; omega) _).alloc (by simp; omega) _)

set_option maxHeartbeats 400000 in
theorem readcount_all (A : Option Addr) (n c B er : Nat) (xs : List UInt8) (most : Int) (w : World) (h : er = 0 → Left w B A n c xs) (hB : B ≤ w.heap.size) (hm : IsInt most) :
    Calls Tryd.prog 72 #[.agg #[.slice A n c, .int .i64 (er : Int)], .int .i64 most] w (CEnds w B (.int .i64 ((rcx xs most er).1 : Int)) (rcx xs most er).2.1 (rcx xs most er).2.2) := by
  have HR : Hid (∀ o1 o2, Calls Tryd.prog 75 #[.agg #[.slice A n c, .int .i64 (er : Int)]] ((w.alloc o1).alloc o2) (FEnds ((w.alloc o1).alloc o2) B (.int .u64 ((rnx xs er).1 : Int)) (rnx xs er).2.1 (rnx xs er).2.2)) :=
    hide fun o1 o2 => readnum_all A n c B er xs _ (fun e => (h e).below ((below2 w o1 o2).mono hB)) (by simp; omega)
  have hq1 := @rnx_err xs er
  have hq2 := rnx_lt xs er
  unfold rcx
  generalize rnx xs er = q at *
  obtain ⟨u, ys, er'⟩ := q
  simp only at hq1 hq2 HR ⊢
  unfold IsInt at hm
  clear h
  by_cases hneg : most < 0
  · have t1 : decide (most < 0) = true := by simpa using hneg
    have h0 : most.toNat = 0 := by omega
    rw [h0]
    clear h0
    by_cases hbig : 0 < u
    · have he : er' = 0 := hq1 (by omega)
      subst he
      rw [if_pos hbig]
      have t2 : decide (0 < u) = true := by simpa using hbig
      clear hq1 hneg
      go_enter Tryd.func72, Tryd.ntmps72
      go_wp2_with fail
      refine (HR.out _ _).mono ?_
      rintro e w1 ⟨A1, n1, c1, rfl, hl1, o1, o2, rfl⟩
      go_wp2
      go_returns
      exact ⟨_, _, _, rfl, (fun h => by cases h), _, _, _, _, rfl⟩
    · have hu : u = 0 := by omega
      subst hu
      rw [if_neg hbig]
      clear hq1 hbig hneg
      simp only
      by_cases he : er' = 0
      · subst he
        go_enter Tryd.func72, Tryd.ntmps72
        go_wp2_with fail
        refine (HR.out _ _).mono ?_
        rintro e w1 ⟨A1, n1, c1, rfl, hl1, o1, o2, rfl⟩
        have HL1 := hide (fun e => ((hl1 e).back ((below4 w _ _ o1 o2).mono hB)))
        clear hl1
        go_wp2
        go_returns
        exact ⟨_, _, _, rfl, (fun h => Left.below (by first | exact HL1.out h | exact HL1.out trivial) ((below4 w _ _ _ _).mono hB)), _, _, _, _, rfl⟩
      · have t3 : ((er' : Int) == 0) = false := by rw [beq_eq_false_iff_ne]; omega
        clear he
        go_enter Tryd.func72, Tryd.ntmps72
        go_wp2_with fail
        refine (HR.out _ _).mono ?_
        rintro e w1 ⟨A1, n1, c1, rfl, hl1, o1, o2, rfl⟩
        have HL1 := hide (fun e => ((hl1 e).back ((below4 w _ _ o1 o2).mono hB)))
        clear hl1
        go_wp2
        go_returns
        exact ⟨_, _, _, rfl, (fun h => Left.below (by first | exact HL1.out h | exact HL1.out trivial) ((below4 w _ _ _ _).mono hB)), _, _, _, _, rfl⟩
  · have t1 : decide (most < 0) = false := by simpa using hneg
    obtain ⟨mn, rfl⟩ : ∃ mn : Nat, most = mn := ⟨most.toNat, by omega⟩
    rw [Int.toNat_natCast]
    by_cases hbig : mn < u
    · have he : er' = 0 := hq1 (by omega)
      subst he
      rw [if_pos hbig]
      have t2 : decide (mn < u) = true := by simpa using hbig
      clear hq1 hneg
      go_enter Tryd.func72, Tryd.ntmps72
      go_wp2_with fail
      refine (HR.out _ _).mono ?_
      rintro e w1 ⟨A1, n1, c1, rfl, hl1, o1, o2, rfl⟩
      go_wp2
      go_returns
      exact ⟨_, _, _, rfl, (fun h => by cases h), _, _, _, _, rfl⟩
    · rw [if_neg hbig]
      have t2 : decide (mn < u) = false := by simpa using hbig
      have hu : u ≤ mn := by omega
      have hu2 : (u : Int) ≤ 9223372036854775807 := by omega
      clear hq1 hbig hneg
      simp only
      by_cases he : er' = 0
      · subst he
        go_enter Tryd.func72, Tryd.ntmps72
        go_wp2_with fail
        refine (HR.out _ _).mono ?_
        rintro e w1 ⟨A1, n1, c1, rfl, hl1, o1, o2, rfl⟩
        have HL1 := hide (fun e => ((hl1 e).back ((below4 w _ _ o1 o2).mono hB)))
        clear hl1
        go_wp2
        go_returns
        exact ⟨_, _, _, rfl, (fun h => Left.below (by first | exact HL1.out h | exact HL1.out trivial) ((below4 w _ _ _ _).mono hB)), _, _, _, _, rfl⟩
      · have t3 : ((er' : Int) == 0) = false := by rw [beq_eq_false_iff_ne]; omega
        clear he
        go_enter Tryd.func72, Tryd.ntmps72
        go_wp2_with fail
        refine (HR.out _ _).mono ?_
        rintro e w1 ⟨A1, n1, c1, rfl, hl1, o1, o2, rfl⟩
        have HL1 := hide (fun e => ((hl1 e).back ((below4 w _ _ o1 o2).mono hB)))
        clear hl1
        go_wp2
        go_returns
        exact ⟨_, _, _, rfl, (fun h => Left.below (by first | exact HL1.out h | exact HL1.out trivial) ((below4 w _ _ _ _).mono hB)), _, _, _, _, rfl⟩

theorem done_any (A : Option Addr) (n c er : Nat) (w : World) :
    Calls Tryd.prog 48 #[.agg #[.slice A n c, .int .i64 (er : Int)]] w fun e w' => e = .returned (.agg #[.slice A n c, .int .i64 ((if er = 0 ∧ 0 < n then 13 else er : Nat) : Int)]) ∧ ∃ o1 o2, (w.alloc o1).alloc o2 = w' := by
  by_cases he : er = 0
  · subst he
    by_cases hn : 0 < n
    · rw [if_pos ⟨rfl, hn⟩]
      have t1 : decide (0 < n) = true := by simpa using hn
      go_enter Tryd.func48, Tryd.ntmps48
      go_wp2
      go_returns
      exact ⟨rfl, _, _, rfl⟩
    · have h0 : n = 0 := by omega
      subst h0
      go_enter Tryd.func48, Tryd.ntmps48
      go_wp2
      go_returns
      exact ⟨rfl, _, _, rfl⟩
  · rw [if_neg (fun h => he h.1)]
    have t3 : ((er : Int) == 0) = false := by rw [beq_eq_false_iff_ne]; omega
    go_enter Tryd.func48, Tryd.ntmps48
    go_wp2
    go_returns
    exact ⟨rfl, _, _, rfl⟩
end Go.Proofs.YtapbcpilklhoiabDoor

namespace Go.Proofs.YtapbcpilklhoiabDoor
open Go.RowKit

/-- So many ints are read. -/
def riN : Nat → RSt → List Int × RSt
  | 0, s => ([], s)
  | m + 1, s => (((riN m s).1 ++ [(ri (riN m s).2).1]), (ri (riN m s).2).2)
theorem riN_len (m : Nat) (s : RSt) : (riN m s).1.length = m := by
  induction m with
  | zero => rfl
  | succ m ih => simp [riN, ih]
theorem ri_rnx (s : RSt) : ri s = (zag (rnx s.1 s.2).1, (rnx s.1 s.2).2) := by
  unfold ri rnx
  by_cases h : s.2 = 0
  · rw [if_pos h, if_pos h]
  · rw [if_neg h, if_neg h]
    simp [zag]
theorem tk_riN (s : RSt) : (tk s).1.ints = (riN 8 s).1 ∧ (tk s).2 = (riN 8 s).2 := by
  simp only [tk, riN, Cmdv.ints, List.nil_append, List.cons_append, and_self]
theorem two_cells {w : World} {g : Nat} {a b : Value} {t : TypeId} (h : w.heap[g]? = some (.cells #[a, b] t (0, 0))) : w.cell? ⟨g, 0, none⟩ = some a ∧ w.cell? ⟨g, 1, none⟩ = some b ∧ w.frozen? ⟨g, 0, none⟩ = false ∧ w.frozen? ⟨g, 1, none⟩ = false := ⟨two_cell0 h, two_cell1 h, two_free h, two_free h⟩

theorem results_take {tmps : Array Value} {w : World} {g g' : Nat} {A A' : Array Value} {t t' : TypeId} (h2 : tmps.getD 2 undef = .pointer (some ⟨g, 0, none⟩)) (h3 : tmps.getD 3 undef = .pointer (some ⟨g', 0, none⟩)) (hA : w.heap[g]? = some (.cells A t (0, 0))) (hA' : w.heap[g']? = some (.cells A' t' (0, 0))) (sA : A.size = 2) (sA' : A'.size = 8) :
    (results Tryd.f74 tmps).run Tryd.prog w = .ok (.tuple #[.agg A, .agg A']) w := by
  have h2' : tmps[2]?.getD undef = .pointer (some ⟨g, 0, none⟩) := by simpa using h2
  have h3' : tmps[3]?.getD undef = .pointer (some ⟨g', 0, none⟩) := by simpa using h3
  have i1 : (Tryd.prog.info? 89).map (·.size) = some A.size := by rw [sA]; kernel_rfl
  have i2 : (Tryd.prog.info? 32).map (·.size) = some A'.size := by rw [sA']; kernel_rfl
  have e1 := run_loadVar_row (P := Tryd.prog) w g t 89 A (0, 0) _ hA Tryd.underlying89 rfl i1
  have e2 := run_loadVar_row (P := Tryd.prog) w g' t' 32 A' (0, 0) _ hA' Tryd.underlying32 rfl i2
  simp [results, Tryd.results74, h2', h3', asAddr, e1, e2]
  try rfl

set_option maxRecDepth 20000 in
set_option maxHeartbeats 1600000 in
theorem rtakecmd_any (A : Option Addr) (n c B er : Nat) (xs : List UInt8) (w : World) (h : er = 0 → Left w B A n c xs) (hB : B ≤ w.heap.size) :
    Calls Tryd.prog 74 #[.agg #[.slice A n c, .int .i64 (er : Int)]] w fun e w' => (∃ A' n' c', e = .returned (.tuple #[.agg #[.slice A' n' c', .int .i64 ((tk (xs, er)).2.2 : Int)], (tk (xs, er)).1.val]) ∧ ((tk (xs, er)).2.2 = 0 → Left w' B A' n' c' (tk (xs, er)).2.1)) ∧ Below w.heap.size w w' := by
  have HH := hide h
  clear h
  go_enter Tryd.func74, Tryd.ntmps74
  go_wp2_with fail
  have hq0 : ((((w.alloc (.cells #[.slice A n c, .int .i64 (er : Int)] 89)).alloc (.cells #[.slice none 0 0, .int .i64 0] 89)).alloc (.cells #[.int .i64 0, .int .i64 0, .int .i64 0, .int .i64 0, .int .i64 0, .int .i64 0, .int .i64 0, .int .i64 0] 32)).alloc (.cells #[] 3)).heap[w.heap.size]? = some (.cells #[.slice A n c, .int .i64 (er : Int)] 89 (0, 0)) :=
    (Below.heap_alloc _ _ _ (by simp <;> omega)).trans ((Below.heap_alloc _ _ _ (by simp <;> omega)).trans ((Below.heap_alloc _ _ _ (by simp)).trans (heap_alloc_new w _)))
  have hq1 : ((((w.alloc (.cells #[.slice A n c, .int .i64 (er : Int)] 89)).alloc (.cells #[.slice none 0 0, .int .i64 0] 89)).alloc (.cells #[.int .i64 0, .int .i64 0, .int .i64 0, .int .i64 0, .int .i64 0, .int .i64 0, .int .i64 0, .int .i64 0] 32)).alloc (.cells #[] 3)).heap[w.heap.size + 1]? = some (.cells #[.slice none 0 0, .int .i64 0] 89 (0, 0)) := by
    refine (Below.heap_alloc _ _ _ (by simp <;> omega)).trans ((Below.heap_alloc _ _ _ (by simp)).trans ?_)
    have := heap_alloc_new (w.alloc (.cells #[.slice A n c, .int .i64 (er : Int)] 89)) (.cells #[.slice none 0 0, .int .i64 0] 89)
    simpa using this
  have hq2 : ((((w.alloc (.cells #[.slice A n c, .int .i64 (er : Int)] 89)).alloc (.cells #[.slice none 0 0, .int .i64 0] 89)).alloc (.cells #[.int .i64 0, .int .i64 0, .int .i64 0, .int .i64 0, .int .i64 0, .int .i64 0, .int .i64 0, .int .i64 0] 32)).alloc (.cells #[] 3)).heap[w.heap.size + 1 + 1]? = some (.cells #[.int .i64 0, .int .i64 0, .int .i64 0, .int .i64 0, .int .i64 0, .int .i64 0, .int .i64 0, .int .i64 0] 32 (0, 0)) := by
    refine (Below.heap_alloc _ _ _ (by simp)).trans ?_
    have := heap_alloc_new ((w.alloc (.cells #[.slice A n c, .int .i64 (er : Int)] 89)).alloc (.cells #[.slice none 0 0, .int .i64 0] 89)) (.cells #[.int .i64 0, .int .i64 0, .int .i64 0, .int .i64 0, .int .i64 0, .int .i64 0, .int .i64 0, .int .i64 0] 32)
    simpa using this
  have ho0 : OwnI ((((w.alloc (.cells #[.slice A n c, .int .i64 (er : Int)] 89)).alloc (.cells #[.slice none 0 0, .int .i64 0] 89)).alloc (.cells #[.int .i64 0, .int .i64 0, .int .i64 0, .int .i64 0, .int .i64 0, .int .i64 0, .int .i64 0, .int .i64 0] 32)).alloc (.cells #[] 3)) (w.heap.size + 1 + 1 + 1) (.slice (some ⟨w.heap.size + 1 + 1 + 1, 0, none⟩) 0 0) [] :=
    OwnI.new ((((w.alloc (.cells #[.slice A n c, .int .i64 (er : Int)] 89)).alloc (.cells #[.slice none 0 0, .int .i64 0] 89)).alloc (.cells #[.int .i64 0, .int .i64 0, .int .i64 0, .int .i64 0, .int .i64 0, .int .i64 0, .int .i64 0, .int .i64 0] 32))) [] (w.heap.size + 1 + 1 + 1) _ (by simp) (Nat.le_refl _) (by simp)
  have hb0 : Below w.heap.size w ((((w.alloc (.cells #[.slice A n c, .int .i64 (er : Int)] 89)).alloc (.cells #[.slice none 0 0, .int .i64 0] 89)).alloc (.cells #[.int .i64 0, .int .i64 0, .int .i64 0, .int .i64 0, .int .i64 0, .int .i64 0, .int .i64 0, .int .i64 0] 32)).alloc (.cells #[] 3)) := by go_grown
  generalize (((w.alloc (.cells #[.slice A n c, .int .i64 (er : Int)] 89)).alloc (.cells #[.slice none 0 0, .int .i64 0] 89)).alloc (.cells #[.int .i64 0, .int .i64 0, .int .i64 0, .int .i64 0, .int .i64 0, .int .i64 0, .int .i64 0, .int .i64 0] 32)).alloc (.cells #[] 3) = W0 at *
  have HL0 : Hid (er = 0 → Left W0 B A n c xs) := hide (fun e => (HH.out e).below (hb0.mono hB))
  have hz0 : w.heap.size + 1 + 1 + 1 < W0.heap.size := (ho0.lt _ rfl).2
  clear HH
  go_loopw [4] (fun v wr => ∃ (j : Nat) (A1 : Option Addr) (n1 c1 : Nat), j ≤ 8 ∧ OwnI wr (w.heap.size + 1 + 1 + 1) v (riN j (xs, er)).1 ∧ wr.heap[w.heap.size]? = some (.cells #[.slice A1 n1 c1, .int .i64 ((riN j (xs, er)).2.2 : Int)] 89 (0, 0)) ∧ wr.heap[w.heap.size + 1]? = some (.cells #[.slice none 0 0, .int .i64 0] 89 (0, 0)) ∧ wr.heap[w.heap.size + 1 + 1]? = some (.cells #[.int .i64 0, .int .i64 0, .int .i64 0, .int .i64 0, .int .i64 0, .int .i64 0, .int .i64 0, .int .i64 0] 32 (0, 0)) ∧ Hid ((riN j (xs, er)).2.2 = 0 → Left wr B A1 n1 c1 (riN j (xs, er)).2.1) ∧ Below w.heap.size w wr ∧ w.heap.size + 1 + 1 + 1 < wr.heap.size) (fun v _ => 8 - (match v with | .slice _ l _ => l | _ => 0))
  case atStart => exact ⟨0, A, n, c, by omega, ho0, hq0, hq1, hq2, HL0, hb0, hz0⟩
  case round =>
    clear ho0 hq0 hq1 hq2 HL0 hb0 hz0
    obtain ⟨j, A1, n1, c1, hj, ho, hq0, hq1, hq2, hL, hb, hz⟩ := hrel
    obtain ⟨A2, n2, c2, rfl, hn2, hnc2, hx2⟩ := ho.form
    obtain rfl : j = n2 := by rw [← hn2.out, riN_len]
    obtain ⟨p0, p1, p2, p3⟩ := two_cells hq0
    by_cases hlt : j < 8
    · have hst : riN (j + 1) (xs, er) = ((riN j (xs, er)).1 ++ [(ri (riN j (xs, er)).2).1], (ri (riN j (xs, er)).2).2) := rfl
      rw [ri_rnx] at hst
      have HST := hide hst
      clear hst
      generalize riN j (xs, er) = q at *
      obtain ⟨is, st⟩ := q
      obtain ⟨ys, e1⟩ := st
      simp only at ho hq0 hL HST p0 p1 hn2 hx2
      go_wp2_with fail
      refine (readnum_all A1 n1 c1 B e1 ys wr hL.out (by have := hb.size; omega)).mono ?_
      rintro e w3 ⟨A3, n3, c3, rfl, hL3, o1, o2, hw3⟩
      have b3' : Below wr.heap.size wr w3 := by rw [← hw3]; exact below2 wr o1 o2
      clear hw3
      have hu := rnx_lt ys e1
      generalize rnx ys e1 = q at *
      obtain ⟨u, ys3, e3⟩ := q
      simp only at hu hL3 HST
      have hz3 := b3'.size
      have h30 := (b3'.block _ (lt_of_block hq0)).trans hq0
      have h31 := (b3'.block _ (lt_of_block hq1)).trans hq1
      have h32 := (b3'.block _ (lt_of_block hq2)).trans hq2
      have ho3 := ho.below b3'
      have b3 := hb.trans (b3'.mono hb.size)
      clear p0 p1 p2 p3 hq0 hq1 hq2 ho hL hb b3' hx2
      have ba := (Below.refl _ w3).alloc (Nat.le_refl _) (.cells #[.slice A3 n3 c3, .int .i64 (e3 : Int)] 89)
      have hnew := heap_alloc_new w3 (.cells #[.slice A3 n3 c3, .int .i64 (e3 : Int)] 89)
      have ha0 := (Below.heap_alloc w3 (.cells #[.slice A3 n3 c3, .int .i64 (e3 : Int)] 89) w.heap.size (by omega)).trans h30
      go_upto_region 4 with fail
      generalize w3.alloc (.cells #[.slice A3 n3 c3, .int .i64 (e3 : Int)] 89) = w3a at *
      have hza := lt_of_block hnew
      obtain ⟨p0, p1, p2, p3⟩ := two_cells ha0
      obtain ⟨s0, s1, _, _⟩ := two_cells hnew
      go_wp2_with fail
      have hk4 : Kept (fun k => k = w.heap.size) w3 ((w3a.setCell ⟨w.heap.size, 0, none⟩ (.slice A3 n3 c3)).setCell ⟨w.heap.size, 1, none⟩ (.int .i64 (e3 : Int))) :=
        ((Kept.of_below (F := fun k => k = w.heap.size) ba).setCell (p := ⟨w.heap.size, 0, none⟩) (.inl rfl) _).setCell (p := ⟨w.heap.size, 1, none⟩) (.inl rfl) _
      have h40 := two_set1 (u := .int .i64 (e3 : Int)) (two_set0 (u := .slice A3 n3 c3) ha0)
      generalize (w3a.setCell ⟨w.heap.size, 0, none⟩ (.slice A3 n3 c3)).setCell ⟨w.heap.size, 1, none⟩ (.int .i64 (e3 : Int)) = w4 at *
      have hz4 := hk4.size
      have h41 := (hk4.block _ (by omega) (by omega)).trans h31
      have h42 := (hk4.block _ (by omega) (by omega)).trans h32
      have ho4 := ho3.keep fun g hg => hk4.block g ((ho3.lt g hg).2) (by have := (ho3.lt g hg).1; omega)
      have hL4 : Hid (e3 = 0 → Left w4 B A3 n3 c3 ys3) := hide (fun e => ⟨(hL3 e).1.keep fun b hlt => hk4.block b (by omega) (by omega), (hL3 e).2⟩)
      have b4 : Below w.heap.size w w4 := b3.trans (hk4.below (by omega) (fun k hk => by omega))
      clear p0 p1 p2 p3 h30 h31 h32 ho3 hL3 b3 hk4 s0 s1 ba hnew ha0 hza
      refine (refunfold_any u w4 hu).mono ?_
      rintro e w5 ⟨rfl, rfl⟩
      have hone := HasI.new w4 3 [zag u] (0, 0) _ rfl
      obtain ⟨v6, w6, hr6, ho6, hg6, hat6⟩ := run_append_ints (w4.alloc (.cells (icells [zag u]) 3)) 25 (w.heap.size + 1 + 1 + 1) _ is (ho4.below ((Below.refl _ _).alloc (Nat.le_refl _) _)) (w4.heap.size + 1) (some ⟨w4.heap.size, 0, none⟩) 1 1 [zag u] hone rfl (by rw [hn2.out]; omega) (by simp; omega)
      have b6 : Below (w.heap.size + 1 + 1 + 1) w4 w6 := ((Below.refl _ w4).alloc (by omega) _).grown hg6 (by simp; omega) (fun k e => (ho4.lt k e).1)
      have HR6 := hide hr6
      clear hr6 hone hg6 hat6
      go_wp2_with (at_builtin; refine list_append_want _ (by rfl) (.tmp 17) (.tmp 20) 25 25 rfl _ _ rfl rfl _ _ HR6.out ?_)
      have hz6 := b6.size
      have b6' := b4.trans (b6.mono (by omega))
      have hL6 : Hid (e3 = 0 → Left w6 B A3 n3 c3 ys3) := hide (fun e => (hL4.out e).below (b6.mono (by omega)))
      have h60 := (b6.block w.heap.size (by omega)).trans h40
      have h61 := (b6.block (w.heap.size + 1) (by omega)).trans h41
      have h62 := (b6.block (w.heap.size + 1 + 1) (by omega)).trans h42
      obtain ⟨A6, n6, c6, rfl, hn6, _, _⟩ := ho6.form
      have hn6' : n6 = j + 1 := by rw [← hn6.out, List.length_append, hn2.out]; rfl
      go_roundw
      case rel => exact ⟨j + 1, A3, n3, c3, by omega, by rw [HST.out]; exact ho6, by rw [HST.out]; exact h60, h61, h62, by rw [HST.out]; exact hL6, b6', by omega⟩
      case measure => simp; omega
    · obtain rfl : j = 8 := by omega
      have ht := tk_riN (xs, er)
      have HT1 := hide ht.1
      have HT2 := hide ht.2
      clear ht
      rw [← HT2.out] at hq0 hL
      rw [← HT1.out] at ho hn2 hx2
      generalize hst : (tk (xs, er)).2 = st at *
      generalize hcm : (tk (xs, er)).1 = cm at *
      have HST := hide hst
      have HCM := hide hcm
      clear hst hcm HT1 HT2
      obtain ⟨ab, ao, rfl, _, x0⟩ := hx2 0 (by show 0 < 8; omega)
      have x0 : wr.cell? ⟨ab, ao, none⟩ = some (.int .i64 cm.s) := x0
      have hab := (ho.lt ab rfl).1
      have HA1 : ab ≠ w.heap.size + 1 := by omega
      have HA2 : ab ≠ w.heap.size + 1 + 1 := by omega
      have x1 : wr.cell? ⟨ab, ao + 1, none⟩ = some (.int .i64 cm.q) := (hx2.at_ 1 (by show 1 < 8; omega)).2
      have x2 : wr.cell? ⟨ab, ao + 2, none⟩ = some (.int .i64 cm.a) := (hx2.at_ 2 (by show 2 < 8; omega)).2
      have x3 : wr.cell? ⟨ab, ao + 3, none⟩ = some (.int .i64 cm.k) := (hx2.at_ 3 (by show 3 < 8; omega)).2
      have x4 : wr.cell? ⟨ab, ao + 4, none⟩ = some (.int .i64 cm.r) := (hx2.at_ 4 (by show 4 < 8; omega)).2
      have x5 : wr.cell? ⟨ab, ao + 5, none⟩ = some (.int .i64 cm.t) := (hx2.at_ 5 (by show 5 < 8; omega)).2
      have x6 : wr.cell? ⟨ab, ao + 6, none⟩ = some (.int .i64 cm.re) := (hx2.at_ 6 (by show 6 < 8; omega)).2
      have x7 : wr.cell? ⟨ab, ao + 7, none⟩ = some (.int .i64 cm.im) := (hx2.at_ 7 (by show 7 < 8; omega)).2
      obtain ⟨p0, p1, p2, p3⟩ := two_cells hq0
      obtain ⟨z0, z1, z2, z3⟩ := two_cells hq1
      obtain ⟨y0a, y0b⟩ := row_cells hq2 0
      obtain ⟨y1a, y1b⟩ := row_cells hq2 1
      obtain ⟨y2a, y2b⟩ := row_cells hq2 2
      obtain ⟨y3a, y3b⟩ := row_cells hq2 3
      obtain ⟨y4a, y4b⟩ := row_cells hq2 4
      obtain ⟨y5a, y5b⟩ := row_cells hq2 5
      obtain ⟨y6a, y6b⟩ := row_cells hq2 6
      obtain ⟨y7a, y7b⟩ := row_cells hq2 7
      simp only [List.getElem?_toArray, List.getElem?_cons_succ, List.getElem?_cons_zero] at y0a y1a y2a y3a y4a y5a y6a y7a
      go_wp2_with fail
      have hzab := (ho.lt ab rfl).2
      have HS : Hid (∀ W, Kept (fun k => k = w.heap.size + 1 ∨ k = w.heap.size + 1 + 1) wr W → W.cell? ⟨w.heap.size, 0, none⟩ = some (.slice A1 n1 c1) ∧ W.cell? ⟨w.heap.size, 1, none⟩ = some (.int .i64 (st.2 : Int)) ∧ W.cell? ⟨ab, ao, none⟩ = some (.int .i64 cm.s) ∧ W.cell? ⟨ab, ao + 1, none⟩ = some (.int .i64 cm.q) ∧ W.cell? ⟨ab, ao + 2, none⟩ = some (.int .i64 cm.a) ∧ W.cell? ⟨ab, ao + 3, none⟩ = some (.int .i64 cm.k) ∧ W.cell? ⟨ab, ao + 4, none⟩ = some (.int .i64 cm.r) ∧ W.cell? ⟨ab, ao + 5, none⟩ = some (.int .i64 cm.t) ∧ W.cell? ⟨ab, ao + 6, none⟩ = some (.int .i64 cm.re) ∧ W.cell? ⟨ab, ao + 7, none⟩ = some (.int .i64 cm.im)) := hide (fun W h => by
        have e1 : ∀ i, W.cell? ⟨w.heap.size, i, none⟩ = wr.cell? ⟨w.heap.size, i, none⟩ := fun i => h.cell (by omega) (by omega)
        have e2 : ∀ i, W.cell? ⟨ab, i, none⟩ = wr.cell? ⟨ab, i, none⟩ := fun i => h.cell (by omega) (by omega)
        exact ⟨(e1 _).trans p0, (e1 _).trans p1, (e2 _).trans x0, (e2 _).trans x1, (e2 _).trans x2, (e2 _).trans x3, (e2 _).trans x4, (e2 _).trans x5, (e2 _).trans x6, (e2 _).trans x7⟩)
      clear hab HA1 HA2
      have HS7 : Hid (∀ W, Kept (fun k => k = w.heap.size + 1 ∨ k = w.heap.size + 1 + 1) wr.drew W → W.cell? ⟨w.heap.size, 0, none⟩ = some (.slice A1 n1 c1) ∧ W.cell? ⟨w.heap.size, 1, none⟩ = some (.int .i64 (st.2 : Int)) ∧ W.cell? ⟨ab, ao, none⟩ = some (.int .i64 cm.s) ∧ W.cell? ⟨ab, ao + 1, none⟩ = some (.int .i64 cm.q) ∧ W.cell? ⟨ab, ao + 2, none⟩ = some (.int .i64 cm.a) ∧ W.cell? ⟨ab, ao + 3, none⟩ = some (.int .i64 cm.k) ∧ W.cell? ⟨ab, ao + 4, none⟩ = some (.int .i64 cm.r) ∧ W.cell? ⟨ab, ao + 5, none⟩ = some (.int .i64 cm.t) ∧ W.cell? ⟨ab, ao + 6, none⟩ = some (.int .i64 cm.re) ∧ W.cell? ⟨ab, ao + 7, none⟩ = some (.int .i64 cm.im)) := hide (fun W h => HS.out W ((Kept.refl _ wr).drew.step h (fun k hk => .inl hk)))
      have hq17 : wr.drew.heap[w.heap.size + 1]? = some (.cells #[.slice none 0 0, .int .i64 0] 89 (0, 0)) := hq1
      have hq27 : wr.drew.heap[w.heap.size + 1 + 1]? = some (.cells #[.int .i64 0, .int .i64 0, .int .i64 0, .int .i64 0, .int .i64 0, .int .i64 0, .int .i64 0, .int .i64 0] 32 (0, 0)) := hq2
      have b7 : Below w.heap.size w wr.drew := hb.drew
      have hL7 : Hid (st.2 = 0 → Left wr.drew B A1 n1 c1 st.1) := hL
      have hz7 : w.heap.size + 1 + 1 + 1 < wr.drew.heap.size := hz
      refine wp_region_held_drew (S := fun W => W.cell? ⟨w.heap.size, 0, none⟩ = some (.slice A1 n1 c1) ∧ W.cell? ⟨w.heap.size, 1, none⟩ = some (.int .i64 (st.2 : Int)) ∧ W.cell? ⟨ab, ao, none⟩ = some (.int .i64 cm.s) ∧ W.cell? ⟨ab, ao + 1, none⟩ = some (.int .i64 cm.q) ∧ W.cell? ⟨ab, ao + 2, none⟩ = some (.int .i64 cm.a) ∧ W.cell? ⟨ab, ao + 3, none⟩ = some (.int .i64 cm.k) ∧ W.cell? ⟨ab, ao + 4, none⟩ = some (.int .i64 cm.r) ∧ W.cell? ⟨ab, ao + 5, none⟩ = some (.int .i64 cm.t) ∧ W.cell? ⟨ab, ao + 6, none⟩ = some (.int .i64 cm.re) ∧ W.cell? ⟨ab, ao + 7, none⟩ = some (.int .i64 cm.im)) (by kernel_rfl) (HS7.out _ (Kept.refl _ _)) (fun hHeld => ?_)
      clear HS hq1 hq2 hb hL hz hq0 p0 p1 p2 p3 z0 z1 z2 z3 y0a y0b x0 y1a y1b x1 y2a y2b x2 y3a y3b x3 y4a y4b x4 y5a y5b x5 y6a y6b x6 y7a y7b x7 hx2 hn2 hzab
      generalize wr.drew = w7 at *
      refine wpAnyH_take (i := 0) (oi := _) (v := .agg #[.slice A1 n1 c1, .int .i64 (st.2 : Int)]) rfl (by kernel_rfl) (by kernel_rfl) (by kernel_rfl) (fun _ _ _ h => h) (Or.inl ⟨by rfl, fun w' hSw => by dsimp only at hSw; go_simp⟩) hHeld ?_
      (try simp only [Act.put, List.setIfInBounds_toArray, List.set_cons_zero, List.set_cons_succ, List.getElem_toArray, List.getElem_cons_zero, List.getElem_cons_succ])
      refine wpAnyH_take (i := 1) (oi := _) (v := .slice (some ⟨ab, ao, none⟩) 8 c2) rfl (by kernel_rfl) (by kernel_rfl) (by kernel_rfl) (fun _ _ _ h => h) (Or.inl ⟨by rfl, fun w' hSw => by dsimp only at hSw; go_simp⟩) hHeld ?_
      (try simp only [Act.put, List.setIfInBounds_toArray, List.set_cons_zero, List.set_cons_succ, List.getElem_toArray, List.getElem_cons_zero, List.getElem_cons_succ])
      refine wpAnyH_take (i := 2) (oi := _) (v := .pointer (some ⟨ab, ao, none⟩)) rfl (by kernel_rfl) (by kernel_rfl) (by kernel_rfl) (fun _ _ _ h => h) (Or.inl ⟨by rfl, fun w' hSw => by dsimp only at hSw; go_simp⟩) hHeld ?_
      (try simp only [Act.put, List.setIfInBounds_toArray, List.set_cons_zero, List.set_cons_succ, List.getElem_toArray, List.getElem_cons_zero, List.getElem_cons_succ])
      refine wpAnyH_take (i := 3) (oi := _) (v := .int .i64 cm.s) rfl (by kernel_rfl) (by kernel_rfl) (by kernel_rfl) (fun _ _ _ h => h) (Or.inl ⟨by rfl, fun w' hSw => by dsimp only at hSw; go_simp⟩) hHeld ?_
      (try simp only [Act.put, List.setIfInBounds_toArray, List.set_cons_zero, List.set_cons_succ, List.getElem_toArray, List.getElem_cons_zero, List.getElem_cons_succ])
      refine wpAnyH_take (i := 4) (oi := _) (v := .slice (some ⟨ab, ao, none⟩) 8 c2) rfl (by kernel_rfl) (by kernel_rfl) (by kernel_rfl) (fun _ _ _ h => h) (Or.inl ⟨by rfl, fun w' hSw => by dsimp only at hSw; go_simp⟩) hHeld ?_
      (try simp only [Act.put, List.setIfInBounds_toArray, List.set_cons_zero, List.set_cons_succ, List.getElem_toArray, List.getElem_cons_zero, List.getElem_cons_succ])
      refine wpAnyH_take (i := 5) (oi := _) (v := .pointer (some ⟨ab, ao + 1, none⟩)) rfl (by kernel_rfl) (by kernel_rfl) (by kernel_rfl) (fun _ _ _ h => h) (Or.inl ⟨by rfl, fun w' hSw => by dsimp only at hSw; go_simp⟩) hHeld ?_
      (try simp only [Act.put, List.setIfInBounds_toArray, List.set_cons_zero, List.set_cons_succ, List.getElem_toArray, List.getElem_cons_zero, List.getElem_cons_succ])
      refine wpAnyH_take (i := 6) (oi := _) (v := .int .i64 cm.q) rfl (by kernel_rfl) (by kernel_rfl) (by kernel_rfl) (fun _ _ _ h => h) (Or.inl ⟨by rfl, fun w' hSw => by dsimp only at hSw; go_simp⟩) hHeld ?_
      (try simp only [Act.put, List.setIfInBounds_toArray, List.set_cons_zero, List.set_cons_succ, List.getElem_toArray, List.getElem_cons_zero, List.getElem_cons_succ])
      refine wpAnyH_take (i := 7) (oi := _) (v := .slice (some ⟨ab, ao, none⟩) 8 c2) rfl (by kernel_rfl) (by kernel_rfl) (by kernel_rfl) (fun _ _ _ h => h) (Or.inl ⟨by rfl, fun w' hSw => by dsimp only at hSw; go_simp⟩) hHeld ?_
      (try simp only [Act.put, List.setIfInBounds_toArray, List.set_cons_zero, List.set_cons_succ, List.getElem_toArray, List.getElem_cons_zero, List.getElem_cons_succ])
      refine wpAnyH_take (i := 8) (oi := _) (v := .pointer (some ⟨ab, ao + 2, none⟩)) rfl (by kernel_rfl) (by kernel_rfl) (by kernel_rfl) (fun _ _ _ h => h) (Or.inl ⟨by rfl, fun w' hSw => by dsimp only at hSw; go_simp⟩) hHeld ?_
      (try simp only [Act.put, List.setIfInBounds_toArray, List.set_cons_zero, List.set_cons_succ, List.getElem_toArray, List.getElem_cons_zero, List.getElem_cons_succ])
      refine wpAnyH_take (i := 9) (oi := _) (v := .int .i64 cm.a) rfl (by kernel_rfl) (by kernel_rfl) (by kernel_rfl) (fun _ _ _ h => h) (Or.inl ⟨by rfl, fun w' hSw => by dsimp only at hSw; go_simp⟩) hHeld ?_
      (try simp only [Act.put, List.setIfInBounds_toArray, List.set_cons_zero, List.set_cons_succ, List.getElem_toArray, List.getElem_cons_zero, List.getElem_cons_succ])
      refine wpAnyH_take (i := 10) (oi := _) (v := .slice (some ⟨ab, ao, none⟩) 8 c2) rfl (by kernel_rfl) (by kernel_rfl) (by kernel_rfl) (fun _ _ _ h => h) (Or.inl ⟨by rfl, fun w' hSw => by dsimp only at hSw; go_simp⟩) hHeld ?_
      (try simp only [Act.put, List.setIfInBounds_toArray, List.set_cons_zero, List.set_cons_succ, List.getElem_toArray, List.getElem_cons_zero, List.getElem_cons_succ])
      refine wpAnyH_take (i := 11) (oi := _) (v := .pointer (some ⟨ab, ao + 3, none⟩)) rfl (by kernel_rfl) (by kernel_rfl) (by kernel_rfl) (fun _ _ _ h => h) (Or.inl ⟨by rfl, fun w' hSw => by dsimp only at hSw; go_simp⟩) hHeld ?_
      (try simp only [Act.put, List.setIfInBounds_toArray, List.set_cons_zero, List.set_cons_succ, List.getElem_toArray, List.getElem_cons_zero, List.getElem_cons_succ])
      refine wpAnyH_take (i := 12) (oi := _) (v := .int .i64 cm.k) rfl (by kernel_rfl) (by kernel_rfl) (by kernel_rfl) (fun _ _ _ h => h) (Or.inl ⟨by rfl, fun w' hSw => by dsimp only at hSw; go_simp⟩) hHeld ?_
      (try simp only [Act.put, List.setIfInBounds_toArray, List.set_cons_zero, List.set_cons_succ, List.getElem_toArray, List.getElem_cons_zero, List.getElem_cons_succ])
      refine wpAnyH_take (i := 13) (oi := _) (v := .slice (some ⟨ab, ao, none⟩) 8 c2) rfl (by kernel_rfl) (by kernel_rfl) (by kernel_rfl) (fun _ _ _ h => h) (Or.inl ⟨by rfl, fun w' hSw => by dsimp only at hSw; go_simp⟩) hHeld ?_
      (try simp only [Act.put, List.setIfInBounds_toArray, List.set_cons_zero, List.set_cons_succ, List.getElem_toArray, List.getElem_cons_zero, List.getElem_cons_succ])
      refine wpAnyH_take (i := 14) (oi := _) (v := .pointer (some ⟨ab, ao + 4, none⟩)) rfl (by kernel_rfl) (by kernel_rfl) (by kernel_rfl) (fun _ _ _ h => h) (Or.inl ⟨by rfl, fun w' hSw => by dsimp only at hSw; go_simp⟩) hHeld ?_
      (try simp only [Act.put, List.setIfInBounds_toArray, List.set_cons_zero, List.set_cons_succ, List.getElem_toArray, List.getElem_cons_zero, List.getElem_cons_succ])
      refine wpAnyH_take (i := 15) (oi := _) (v := .int .i64 cm.r) rfl (by kernel_rfl) (by kernel_rfl) (by kernel_rfl) (fun _ _ _ h => h) (Or.inl ⟨by rfl, fun w' hSw => by dsimp only at hSw; go_simp⟩) hHeld ?_
      (try simp only [Act.put, List.setIfInBounds_toArray, List.set_cons_zero, List.set_cons_succ, List.getElem_toArray, List.getElem_cons_zero, List.getElem_cons_succ])
      refine wpAnyH_take (i := 16) (oi := _) (v := .slice (some ⟨ab, ao, none⟩) 8 c2) rfl (by kernel_rfl) (by kernel_rfl) (by kernel_rfl) (fun _ _ _ h => h) (Or.inl ⟨by rfl, fun w' hSw => by dsimp only at hSw; go_simp⟩) hHeld ?_
      (try simp only [Act.put, List.setIfInBounds_toArray, List.set_cons_zero, List.set_cons_succ, List.getElem_toArray, List.getElem_cons_zero, List.getElem_cons_succ])
      refine wpAnyH_take (i := 17) (oi := _) (v := .pointer (some ⟨ab, ao + 5, none⟩)) rfl (by kernel_rfl) (by kernel_rfl) (by kernel_rfl) (fun _ _ _ h => h) (Or.inl ⟨by rfl, fun w' hSw => by dsimp only at hSw; go_simp⟩) hHeld ?_
      (try simp only [Act.put, List.setIfInBounds_toArray, List.set_cons_zero, List.set_cons_succ, List.getElem_toArray, List.getElem_cons_zero, List.getElem_cons_succ])
      refine wpAnyH_take (i := 18) (oi := _) (v := .int .i64 cm.t) rfl (by kernel_rfl) (by kernel_rfl) (by kernel_rfl) (fun _ _ _ h => h) (Or.inl ⟨by rfl, fun w' hSw => by dsimp only at hSw; go_simp⟩) hHeld ?_
      (try simp only [Act.put, List.setIfInBounds_toArray, List.set_cons_zero, List.set_cons_succ, List.getElem_toArray, List.getElem_cons_zero, List.getElem_cons_succ])
      refine wpAnyH_take (i := 19) (oi := _) (v := .slice (some ⟨ab, ao, none⟩) 8 c2) rfl (by kernel_rfl) (by kernel_rfl) (by kernel_rfl) (fun _ _ _ h => h) (Or.inl ⟨by rfl, fun w' hSw => by dsimp only at hSw; go_simp⟩) hHeld ?_
      (try simp only [Act.put, List.setIfInBounds_toArray, List.set_cons_zero, List.set_cons_succ, List.getElem_toArray, List.getElem_cons_zero, List.getElem_cons_succ])
      refine wpAnyH_take (i := 20) (oi := _) (v := .pointer (some ⟨ab, ao + 6, none⟩)) rfl (by kernel_rfl) (by kernel_rfl) (by kernel_rfl) (fun _ _ _ h => h) (Or.inl ⟨by rfl, fun w' hSw => by dsimp only at hSw; go_simp⟩) hHeld ?_
      (try simp only [Act.put, List.setIfInBounds_toArray, List.set_cons_zero, List.set_cons_succ, List.getElem_toArray, List.getElem_cons_zero, List.getElem_cons_succ])
      refine wpAnyH_take (i := 21) (oi := _) (v := .int .i64 cm.re) rfl (by kernel_rfl) (by kernel_rfl) (by kernel_rfl) (fun _ _ _ h => h) (Or.inl ⟨by rfl, fun w' hSw => by dsimp only at hSw; go_simp⟩) hHeld ?_
      (try simp only [Act.put, List.setIfInBounds_toArray, List.set_cons_zero, List.set_cons_succ, List.getElem_toArray, List.getElem_cons_zero, List.getElem_cons_succ])
      refine wpAnyH_take (i := 22) (oi := _) (v := .slice (some ⟨ab, ao, none⟩) 8 c2) rfl (by kernel_rfl) (by kernel_rfl) (by kernel_rfl) (fun _ _ _ h => h) (Or.inl ⟨by rfl, fun w' hSw => by dsimp only at hSw; go_simp⟩) hHeld ?_
      (try simp only [Act.put, List.setIfInBounds_toArray, List.set_cons_zero, List.set_cons_succ, List.getElem_toArray, List.getElem_cons_zero, List.getElem_cons_succ])
      refine wpAnyH_take (i := 23) (oi := _) (v := .pointer (some ⟨ab, ao + 7, none⟩)) rfl (by kernel_rfl) (by kernel_rfl) (by kernel_rfl) (fun _ _ _ h => h) (Or.inl ⟨by rfl, fun w' hSw => by dsimp only at hSw; go_simp⟩) hHeld ?_
      (try simp only [Act.put, List.setIfInBounds_toArray, List.set_cons_zero, List.set_cons_succ, List.getElem_toArray, List.getElem_cons_zero, List.getElem_cons_succ])
      refine wpAnyH_take (i := 24) (oi := _) (v := .int .i64 cm.im) rfl (by kernel_rfl) (by kernel_rfl) (by kernel_rfl) (fun _ _ _ h => h) (Or.inl ⟨by rfl, fun w' hSw => by dsimp only at hSw; go_simp⟩) hHeld ?_
      (try simp only [Act.put, List.setIfInBounds_toArray, List.set_cons_zero, List.set_cons_succ, List.getElem_toArray, List.getElem_cons_zero, List.getElem_cons_succ])
      refine wpAnyH_take (i := 25) (oi := _) (v := .agg #[.int .i64 cm.k, .int .i64 cm.r, .int .i64 cm.t, .int .i64 cm.re, .int .i64 cm.im]) rfl (by kernel_rfl) (by kernel_rfl) (by kernel_rfl) (fun _ _ _ h => h) (Or.inl ⟨by rfl, fun w' hSw => by dsimp only at hSw; go_simp⟩) hHeld ?_
      (try simp only [Act.put, List.setIfInBounds_toArray, List.set_cons_zero, List.set_cons_succ, List.getElem_toArray, List.getElem_cons_zero, List.getElem_cons_succ])
      refine wpAnyH_take (i := 26) (oi := _) (v := .agg #[.int .i64 cm.s, .int .i64 cm.q, .int .i64 cm.a, .int .i64 cm.k, .int .i64 cm.r, .int .i64 cm.t, .int .i64 cm.re, .int .i64 cm.im]) rfl (by kernel_rfl) (by kernel_rfl) (by kernel_rfl) (fun _ _ _ h => h) (Or.inl ⟨by rfl, fun w' hSw => by dsimp only at hSw; go_simp⟩) hHeld ?_
      (try simp only [Act.put, List.setIfInBounds_toArray, List.set_cons_zero, List.set_cons_succ, List.getElem_toArray, List.getElem_cons_zero, List.getElem_cons_succ])
      have hk8 := Kept.of_setRow w7 (w.heap.size + 1) #[.slice A1 n1 c1, .int .i64 (st.2 : Int)]
      have hr81 := set_row_at (B := #[.slice A1 n1 c1, .int .i64 (st.2 : Int)]) hq17
      have hr82 := (hk8.block (w.heap.size + 1 + 1) (by omega) (by omega)).trans hq27
      refine wpAnyH_ready (rs := [27]) (by kernel_rfl) (by simp) ?_
      refine AllReadyH.cons (o := _) rfl (fun K hK => ?_) AllReadyH.nil
      (try simp only [List.getElem_toArray, List.getElem_cons_zero, List.getElem_cons_succ])
      rw [if_pos (by rfl)]
      refine wp_store_row 89 (.tmp 2) (.tmp 22) rfl (w.heap.size + 1) #[.slice A1 n1 c1, .int .i64 (st.2 : Int)] rfl rfl _ _ hq17 (by kernel_rfl) rfl (by simp; exact ⟨rfl, rfl⟩) ?_
      refine hK.out _ _ (HS7.out _ ((Kept.refl _ w7).step hk8 (fun k hk => .inl (.inl hk)))) (fun hHeld => ?_)
      clear hK
      (try simp only [Act.put, List.setIfInBounds_toArray, List.set_cons_zero, List.set_cons_succ, List.getElem_toArray, List.getElem_cons_zero, List.getElem_cons_succ])
      generalize w7.setRow (w.heap.size + 1) #[.slice A1 n1 c1, .int .i64 (st.2 : Int)] = w8 at *
      have hz8 := hk8.size
      have hk9 := Kept.of_setRow w8 (w.heap.size + 1 + 1) #[.int .i64 cm.s, .int .i64 cm.q, .int .i64 cm.a, .int .i64 cm.k, .int .i64 cm.r, .int .i64 cm.t, .int .i64 cm.re, .int .i64 cm.im]
      have hr92 := set_row_at (B := #[.int .i64 cm.s, .int .i64 cm.q, .int .i64 cm.a, .int .i64 cm.k, .int .i64 cm.r, .int .i64 cm.t, .int .i64 cm.re, .int .i64 cm.im]) hr82
      have hr91 := (hk9.block (w.heap.size + 1) (by omega) (by omega)).trans hr81
      refine wpAnyH_ready (rs := [28]) (by kernel_rfl) (by simp) ?_
      refine AllReadyH.cons (o := _) rfl (fun K hK => ?_) AllReadyH.nil
      (try simp only [List.getElem_toArray, List.getElem_cons_zero, List.getElem_cons_succ])
      rw [if_pos (by rfl)]
      refine wp_store_row 32 (.tmp 3) (.tmp 48) rfl (w.heap.size + 1 + 1) #[.int .i64 cm.s, .int .i64 cm.q, .int .i64 cm.a, .int .i64 cm.k, .int .i64 cm.r, .int .i64 cm.t, .int .i64 cm.re, .int .i64 cm.im] rfl rfl _ _ hr82 (by kernel_rfl) rfl (by simp; exact ⟨rfl, rfl, rfl, rfl, rfl, rfl, rfl, rfl⟩) ?_
      refine hK.out _ _ (HS7.out _ (((Kept.refl _ w7).step hk8 (fun k hk => .inl (.inl hk))).step hk9 (fun k hk => .inl (.inr hk)))) (fun hHeld => ?_)
      clear hK
      (try simp only [Act.put, List.setIfInBounds_toArray, List.set_cons_zero, List.set_cons_succ, List.getElem_toArray, List.getElem_cons_zero, List.getElem_cons_succ])
      generalize w8.setRow (w.heap.size + 1 + 1) #[.int .i64 cm.s, .int .i64 cm.q, .int .i64 cm.a, .int .i64 cm.k, .int .i64 cm.r, .int .i64 cm.t, .int .i64 cm.re, .int .i64 cm.im] = w9 at *
      refine wpAnyH_done (by kernel_rfl) ?_ _
      go_wp2_with fail
      have b9 : Below w.heap.size w w9 := (b7.trans (hk8.below (by omega) (fun k hk => by omega))).trans (hk9.below (by omega) (fun k hk => by omega))
      refine bodyPost_ret (v := .tuple #[.agg #[.slice A1 n1 c1, .int .i64 (st.2 : Int)], .agg #[.int .i64 cm.s, .int .i64 cm.q, .int .i64 cm.a, .int .i64 cm.k, .int .i64 cm.r, .int .i64 cm.t, .int .i64 cm.re, .int .i64 cm.im]]) (results_take rfl rfl hr91 hr92 rfl rfl) rfl ⟨⟨A1, n1, c1, by rw [HST.out, HCM.out]; rfl, fun e => ?_⟩, b9⟩
      rw [HST.out] at e ⊢
      have h9 := hL7.out e
      exact ⟨h9.1.keep fun b hlt => (hk9.block b (by have := b7.size; omega) (by omega)).trans (hk8.block b (by have := b7.size; omega) (by omega)), h9.2⟩
end Go.Proofs.YtapbcpilklhoiabDoor
