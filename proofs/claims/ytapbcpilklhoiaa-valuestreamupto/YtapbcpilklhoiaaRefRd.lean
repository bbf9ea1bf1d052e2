/-
  Readers of the reference of package pack, in the words of the Value laws. No condition.
-/
import Derived.Test.YtapbcpilklhoiaaValPure
import Derived.Handy
set_option linter.unusedSimpArgs false
set_option linter.unusedVariables false
namespace Go.Proofs.Ytapbcpilklhoiaa
open Go.RowKit

/-- What is left of the reference's reader: these bytes. -/
def Left (w : World) (B : Nat) (A : Option Addr) (n c : Nat) (xs : List UInt8) : Prop := Has w B A xs ∧ Hid (xs.length = n) ∧ n ≤ c ∧ n ≤ 140737488355328

theorem Left.below {w w' : World} {B : Nat} {A : Option Addr} {n c : Nat} {xs : List UInt8} (h : Left w B A n c xs) (hb : Below B w w') : Left w' B A n c xs := ⟨h.1.below hb, h.2⟩

/-- What ReadNum answers and leaves. -/
def FEnds (w : World) (B : Nat) (u : Value) (ys : List UInt8) (er : Nat) (e : Ending) (w' : World) : Prop :=
  ∃ A n c, e = .returned (.tuple #[.agg #[.slice A n c, .int .i64 (er : Int)], u]) ∧ (er = 0 → Left w' B A n c ys) ∧ ∃ o1 o2, (w.alloc o1).alloc o2 = w'

theorem past2 {w : World} {a : Addr} {v : Value} (h : w.cell? a = some v) (hb : a.block < w.heap.size) (o1 o2 : Obj) : ((w.alloc o1).alloc o2).cell? a = some v :=
  (World.cell?_of_block (w := w.alloc o1) (a := a) (Below.heap_alloc _ _ _ (by simp; omega))).trans ((World.cell?_of_block (w := w) (a := a) (Below.heap_alloc _ _ _ hb)).trans h)

theorem readnum_stuck (A : Option Addr) (n c B er : Nat) (xs : List UInt8) (w : World) (he : er ≠ 0) : Calls Try.prog 95 #[.agg #[.slice A n c, .int .i64 (er : Int)]] w (FEnds w B (.int .u64 0) xs er) := by
  have t1 : ((er : Int) != 0) = true := by rw [bne_iff_ne]; omega
  have HE := hide he
  clear he
  go_enter Try.func95, Try.ntmps95
  go_wp2
  go_returns
  exact ⟨A, n, c, rfl, fun h => absurd h HE.out, _, _, rfl⟩

theorem readnum_empty (A : Option Addr) (c B : Nat) (w : World) : Calls Try.prog 95 #[.agg #[.slice A 0 c, .int .i64 0]] w (FEnds w B (.int .u64 0) [] 10) := by
  go_enter Try.func95, Try.ntmps95
  go_wp2
  go_returns
  exact ⟨A, 0, c, rfl, (fun h => by cases h), _, _, rfl⟩

theorem readnum_wide (A : Option Addr) (n c B : Nat) (ch : UInt8) (t : List UInt8) (w : World) (h : Left w B A n c (ch :: t)) (hB : B ≤ w.heap.size) (h8 : 8 < ch.toNat) :
    Calls Try.prog 95 #[.agg #[.slice A n c, .int .i64 0]] w (FEnds w B (.int .u64 0) [] 11) := by
  obtain ⟨hx, hn, hnc, hcm⟩ := h
  obtain ⟨k, rfl, hk⟩ : ∃ k, n = k + 1 ∧ k = t.length := ⟨t.length, by have := hn.out; simp at this; omega, rfl⟩
  obtain ⟨b0, o0, rfl, hb0, hc0⟩ := hx 0 (by simp)
  unfold byt at hc0
  simp only [List.getElem_cons_zero, Nat.add_zero] at hc0
  have hca := past2 hc0 (by simp only; omega)
  have hm := ch.toNat_lt
  generalize ch.toNat = m at *
  have t0 : ((k : Int) + 1 == 0) = false := by rw [beq_eq_false_iff_ne]; omega
  have t0' : ((k : Int) + 2 == 0) = false := by rw [beq_eq_false_iff_ne]; omega
  have t1 : decide ((8 : Int) < (m : Int)) = true := by simp; omega
  clear hk hn hx
  go_enter Try.func95, Try.ntmps95
  go_wp2
  go_returns
  exact ⟨_, _, _, rfl, (fun h => by cases h), _, _, rfl⟩

theorem readnum_short (A : Option Addr) (n c B : Nat) (ch : UInt8) (t : List UInt8) (w : World) (h : Left w B A n c (ch :: t)) (hB : B ≤ w.heap.size) (h8 : ch.toNat ≤ 8) (hs : t.length < ch.toNat) :
    Calls Try.prog 95 #[.agg #[.slice A n c, .int .i64 0]] w (FEnds w B (.int .u64 0) [] 10) := by
  obtain ⟨hx, hn, hnc, hcm⟩ := h
  obtain ⟨k, rfl, hk⟩ : ∃ k, n = k + 1 ∧ k = t.length := ⟨t.length, by have := hn.out; simp at this; omega, rfl⟩
  obtain ⟨b0, o0, rfl, hb0, hc0⟩ := hx 0 (by simp)
  unfold byt at hc0
  simp only [List.getElem_cons_zero, Nat.add_zero] at hc0
  have hca := past2 hc0 (by simp only; omega)
  have hm := ch.toNat_lt
  generalize ch.toNat = m at *
  have t0 : ((k : Int) + 1 == 0) = false := by rw [beq_eq_false_iff_ne]; omega
  have t0' : ((k : Int) + 2 == 0) = false := by rw [beq_eq_false_iff_ne]; omega
  have t1 : decide ((8 : Int) < (m : Int)) = false := by simp; omega
  have t2 : decide (k < m) = true := by simp; omega
  have t2' : decide ((k : Int) < (m : Int)) = true := by simp; omega
  clear hk hn hx hs
  go_enter Try.func95, Try.ntmps95
  go_wp2
  go_returns
  exact ⟨_, _, _, rfl, (fun h => by cases h), _, _, rfl⟩

theorem readnum_zero (A : Option Addr) (n c B : Nat) (ch : UInt8) (t : List UInt8) (w : World) (h : Left w B A n c (ch :: 0 :: t)) (hB : B ≤ w.heap.size) (h8 : ch.toNat ≤ 8) (h0 : 0 < ch.toNat) (hs : ch.toNat ≤ t.length + 1) :
    Calls Try.prog 95 #[.agg #[.slice A n c, .int .i64 0]] w (FEnds w B (.int .u64 0) [] 11) := by
  obtain ⟨hx, hn, hnc, hcm⟩ := h
  obtain ⟨k, rfl, hk⟩ : ∃ k, n = k + 2 ∧ k = t.length := ⟨t.length, by have := hn.out; simp at this; omega, rfl⟩
  obtain ⟨b0, o0, rfl, hb0, hc0⟩ := hx 0 (by simp)
  obtain ⟨b1, o1, e1, _, hc1⟩ := hx 1 (by simp)
  injection e1 with e1
  injection e1 with eb eo
  subst eb eo
  unfold byt at hc0 hc1
  simp only [List.getElem_cons_zero, List.getElem_cons_succ, Nat.add_zero] at hc0 hc1
  have hc1' : w.cell? ⟨b0, o0 + 1, none⟩ = some (.int .u8 0) := hc1
  have hcb := past2 hc1' (by simp only; omega)
  have hca := past2 hc0 (by simp only; omega)
  clear hc1
  have hm := ch.toNat_lt
  generalize ch.toNat = m at *
  have t0 : ((k : Int) + 1 == 0) = false := by rw [beq_eq_false_iff_ne]; omega
  have t0' : ((k : Int) + 2 == 0) = false := by rw [beq_eq_false_iff_ne]; omega
  have t1 : decide ((8 : Int) < (m : Int)) = false := by simp; omega
  have t2 : decide (k + 1 < m) = false := by simp; omega
  have t2' : decide ((k : Int) + 1 < (m : Int)) = false := by simp; omega
  have t3 : decide ((0 : Int) < (m : Int)) = true := by simp; omega
  have t3' : decide (0 < m) = true := by simp; omega
  have i1 : m ≤ k + 1 := by omega
  clear hk hs hn hx
  go_enter Try.func95, Try.ntmps95
  go_wp2
  go_returns
  exact ⟨_, _, _, rfl, (fun h => by cases h), _, _, rfl⟩

theorem add_step (u : Nat) (c : UInt8) (h : u < 72057594037927936) : IntKind.u64.wrap (IntKind.u64.wrap (256 * (u : Int)) + IntKind.u64.wrap (c.toNat : Int)) = ((256 * u + c.toNat : Nat) : Int) := by
  have hc := c.toNat_lt
  simp only [IntKind.wrap_u64]
  omega

/-- What is left behind a cut. -/
theorem left_cut {w : World} {B : Nat} {A A' : Option Addr} {n c s n' c' : Nat} {xs : List UInt8} (h : Left w B A n c xs) (hs : s ≤ n) (hn' : n' = n - s) (hc' : c' = c - s) (hA : A' = A ∧ c = s ∨ A' = Option.map (fun x => x.add s) A) : Left w B A' n' c' (xs.drop s) := by
  obtain ⟨hx, hn, hnc, hcm⟩ := h
  have hn2 := hn.out
  refine ⟨?_, ?_, by omega, by omega⟩
  · rcases hA with ⟨rfl, hcs⟩ | rfl
    · rw [List.drop_eq_nil_of_le (by omega)]; exact Has.nil _ _ _
    · exact hx.drop s
  · show (xs.drop s).length = n'
    simp; omega

set_option maxHeartbeats 800000 in
theorem readnum_ok (A : Option Addr) (n c B : Nat) (ch : UInt8) (d t : List UInt8) (w : World) (h : Left w B A n c (ch :: (d ++ t))) (hB : B ≤ w.heap.size) (hm : d.length = ch.toNat) (h8 : d.length ≤ 8) (hz : ∀ x r, d = x :: r → x ≠ 0) :
    Calls Try.prog 95 #[.agg #[.slice A n c, .int .i64 0]] w (FEnds w B (.int .u64 (val d : Int)) t 0) := by
  have HLEFT := hide h
  obtain ⟨hx, hn, hnc, hcm⟩ := h
  obtain ⟨k, rfl, hk⟩ : ∃ k, n = k + 1 ∧ k = d.length + t.length := ⟨d.length + t.length, by have := hn.out; simp at this; omega, rfl⟩
  obtain ⟨b0, o0, rfl, hb0, hc0⟩ := hx 0 (by simp)
  have hcd : ∀ j (hj : j < d.length) (o1 o2 : Obj), ((w.alloc o1).alloc o2).cell? ⟨b0, o0 + (j + 1), none⟩ = some (.int .u8 (d[j].toNat : Int)) := by
    intro j hj o1 o2
    obtain ⟨b1, o1', e1, _, hc1⟩ := hx (j + 1) (by simp; omega)
    injection e1 with e1
    injection e1 with eb eo
    subst eb eo
    refine past2 (a := ⟨b0, o0 + (j + 1), none⟩) ?_ (by simp only; omega) o1 o2
    rw [hc1]
    simp [hj, byt, List.getElem_append_left]
  have HCD := hide hcd
  clear hcd
  unfold byt at hc0
  simp only [List.getElem_cons_zero, Nat.add_zero] at hc0
  rw [← hm] at hc0
  have hca := past2 hc0 (by simp only; omega)
  have t0 : ((k : Int) + 1 == 0) = false := by rw [beq_eq_false_iff_ne]; omega
  have t1 : decide ((8 : Int) < (d.length : Int)) = false := by simp; omega
  have t2 : decide (k < d.length) = false := by simp; omega
  have t2' : decide ((k : Int) < (d.length : Int)) = false := by simp; omega
  have i1 : d.length ≤ k := by omega
  have hdr : (ch :: (d ++ t)).drop (d.length + 1) = t := by rw [List.drop_succ_cons, List.drop_left]
  have HDR := hide hdr
  have fin : ∀ (A' : Option Addr) (n' c' : Nat) (o1 o2 : Obj), n' = k + 1 - (d.length + 1) → c' = c - (d.length + 1) → (A' = some ⟨b0, o0, none⟩ ∧ c = d.length + 1 ∨ A' = some ⟨b0, o0 + (d.length + 1), none⟩) →
      FEnds w B (.int .u64 (val d : Int)) t 0 (.returned (.tuple #[.agg #[.slice A' n' c', .int .i64 0], .int .u64 (val d : Int)])) ((w.alloc o1).alloc o2) := by
    intro A' n' c' o1 o2 h1 h2 h3
    have hb : Below w.heap.size w ((w.alloc o1).alloc o2) := ((Below.refl _ _).alloc (Nat.le_refl _) _).alloc (by simp) _
    refine ⟨A', n', c', rfl, fun _ => ?_, o1, o2, rfl⟩
    have := left_cut (A' := A') (s := d.length + 1) (HLEFT.out.below (hb.mono hB)) (by omega) h1 h2 (by
      rcases h3 with ⟨rfl, h⟩ | h
      · exact .inl ⟨rfl, h⟩
      · exact .inr (h.trans (addr_add _ _ _).symm))
    rwa [HDR.out] at this
  have FIN := hide fin
  clear fin hk hn hx hdr hm HLEFT HDR hc0
  by_cases hd0 : d.length = 0
  · have hd : d = [] := List.eq_nil_of_length_eq_zero hd0
    subst hd
    clear hd0 hz
    simp only [List.length_nil, Nat.zero_add] at FIN hca
    by_cases hcc : c = 1
    all_goals
      go_enter Try.func95, Try.ntmps95
      go_wp2
      refine wp_loop_rounds 1 ?_
      rw [rounds_succ]
      go_wp2
      go_returns
      first
        | exact FIN.out (some ⟨b0, o0, none⟩) k 0 _ _ (by omega) (by omega) (.inl ⟨rfl, hcc⟩)
        | exact FIN.out (some ⟨b0, o0 + 1, none⟩) k (c - 1) _ _ (by omega) (by omega) (.inr rfl)
  · obtain ⟨x, r, hd⟩ : ∃ x r, d = x :: r := by cases d with | nil => simp at hd0 | cons x r => exact ⟨x, r, rfl⟩
    have hx0 : x ≠ 0 := hz x r hd
    have hc1 := HCD.out 0 (by omega)
    have e0 : d[0]'(by omega) = x := by subst hd; rfl
    rw [e0] at hc1
    simp only [Nat.zero_add] at hc1
    have t3 : ((x.toNat : Int) == 0) = false := by
      rw [beq_eq_false_iff_ne]; intro e; exact hx0 (UInt8.toNat_inj.1 (by simp; omega))
    have t4 : decide (0 < d.length) = true := by simp; omega
    have t4' : decide ((0 : Int) < (d.length : Int)) = true := by simp; omega
    have hle : c ≤ 1 + d.length ∨ 2 + d.length ≤ c := by omega
    have hk1 : 1 ≤ k := by omega
    clear hz e0 hd hd0
    by_cases hcc : c = d.length + 1
    all_goals
      have HCC := hide hcc
      clear hcc
      go_enter Try.func95, Try.ntmps95
      go_wp2
      go_loop [5, 6] (fun s i => ∃ j : Nat, j ≤ d.length ∧ i = .int .i64 ((j : Int) + 1) ∧ s = .int .u64 (val (d.take j) : Int)) (fun _ i => d.length + 1 - (intOf i).toNat)
      case atStart => exact ⟨0, Nat.zero_le _, rfl, rfl⟩
      case round =>
        obtain ⟨j, hj, rfl, rfl⟩ := hrel
        by_cases hjl : j < d.length
        · have hcj := HCD.out j hjl
          have t5 : decide ((j : Int) + 1 ≤ (d.length : Int)) = true := by simp; omega
          have HV := hide (val_take d j hjl)
          have HB' := hide (val_take_lt d j hjl h8)
          generalize val (d.take j) = u at *
          generalize d[j] = cj at *
          go_wp2
          go_round
          case rel => exact ⟨j + 1, by omega, by go_num, by rw [HV.out]; exact congrArg (Value.int .u64) (add_step u cj HB'.out)⟩
          case measure => simp [intOf]; omega
        · have e : j = d.length := by omega
          subst e
          have t5 : decide ((d.length : Int) + 1 ≤ (d.length : Int)) = false := by simp; omega
          go_wp2
          all_goals
            go_returns
            first
              | exact FIN.out _ _ _ _ _ (by omega) (by omega) (.inr rfl)
              | exact FIN.out _ _ _ _ _ (by omega) (by have := HCC.out; omega) (.inl ⟨rfl, HCC.out⟩)

theorem readnum_any (A : Option Addr) (n c B : Nat) (xs : List UInt8) (w : World) (h : Left w B A n c xs) (hB : B ≤ w.heap.size) :
    Calls Try.prog 95 #[.agg #[.slice A n c, .int .i64 0]] w (FEnds w B (.int .u64 ((rn xs).1 : Int)) (rn xs).2.1 (rn xs).2.2) := by
  cases xs with
  | nil =>
    have hn : n = 0 := by have := h.2.1.out; simpa using this.symm
    subst hn
    exact readnum_empty A c B w
  | cons ch t =>
    by_cases h8 : 8 < ch.toNat
    · rw [rn_wide h8]; exact readnum_wide A n c B ch t w h hB h8
    by_cases hs : t.length < ch.toNat
    · rw [rn_short h8 hs]; exact readnum_short A n c B ch t w h hB (by omega) hs
    by_cases hz : 0 < ch.toNat ∧ t.head? = some 0
    · rw [rn_zero h8 hs hz]
      cases t with
      | nil => simp at hz
      | cons y r =>
        have hy : y = 0 := by simpa using hz.2
        subst hy
        exact readnum_zero A n c B ch r w h hB (by omega) hz.1 (by simp at hs; omega)
    · rw [rn_ok h8 hs hz]
      have hl : (t.take ch.toNat).length = ch.toNat := by rw [List.length_take]; omega
      refine readnum_ok A n c B ch (t.take ch.toNat) (t.drop ch.toNat) w (by rw [List.take_append_drop]; exact h) hB hl (by omega) ?_
      intro x r hxr hx0
      apply hz
      refine ⟨by rw [← hl, hxr]; simp, ?_⟩
      cases t with
      | nil => simp at hxr
      | cons y s =>
        obtain ⟨m, hm⟩ : ∃ m, ch.toNat = m + 1 := ⟨ch.toNat - 1, by rw [hxr] at hl; simp at hl; omega⟩
        rw [hm, List.take_succ_cons] at hxr
        injection hxr with e1 _
        rw [List.head?_cons, e1, hx0]

/-- A number read by a reader, whether stuck or not. -/
def rnx (xs : List UInt8) (er : Nat) : Nat × List UInt8 × Nat := if er = 0 then rn xs else (0, xs, er)

theorem readnum_all (A : Option Addr) (n c B er : Nat) (xs : List UInt8) (w : World) (h : er = 0 → Left w B A n c xs) (hB : B ≤ w.heap.size) :
    Calls Try.prog 95 #[.agg #[.slice A n c, .int .i64 (er : Int)]] w (FEnds w B (.int .u64 ((rnx xs er).1 : Int)) (rnx xs er).2.1 (rnx xs er).2.2) := by
  by_cases he : er = 0
  · subst he
    exact readnum_any A n c B xs w (h rfl) hB
  · unfold rnx
    rw [if_neg he]
    exact readnum_stuck A n c B er xs w he

/-- A count read by a reader, whether stuck or not. -/
def rcx (xs : List UInt8) (most : Int) (er : Nat) : Nat × List UInt8 × Nat := if most.toNat < (rnx xs er).1 then (0, [], 12) else rnx xs er

def CEnds (w : World) (B : Nat) (u : Value) (ys : List UInt8) (er : Nat) (e : Ending) (w' : World) : Prop :=
  ∃ A n c, e = .returned (.tuple #[.agg #[.slice A n c, .int .i64 (er : Int)], u]) ∧ (er = 0 → Left w' B A n c ys) ∧ ∃ o1 o2 o3 o4, (((w.alloc o1).alloc o2).alloc o3).alloc o4 = w'

theorem rnx_err {xs : List UInt8} {er : Nat} (h : 0 < (rnx xs er).1) : (rnx xs er).2.2 = 0 := by
  unfold rnx at *
  split at h
  · rename_i he; rw [if_pos he]; exact rn_err h
  · simp at h

theorem rnx_lt (xs : List UInt8) (er : Nat) : (rnx xs er).1 < 18446744073709551616 := by
  unfold rnx
  split
  · exact rn_lt xs
  · simp

theorem Left.back {w w' : World} {B : Nat} {A : Option Addr} {n c : Nat} {xs : List UInt8} (h : Left w' B A n c xs) (hb : Below B w w') : Left w B A n c xs := ⟨h.1.keep fun b hlt => (hb.block b hlt).symm, h.2⟩

theorem below2 (w : World) (o1 o2 : Obj) : Below w.heap.size w ((w.alloc o1).alloc o2) := ((Below.refl _ _).alloc (Nat.le_refl _) _).alloc (by simp) _

theorem below4 (w : World) (o1 o2 o3 o4 : Obj) : Below w.heap.size w ((((w.alloc o1).alloc o2).alloc o3).alloc o4) := (((below2 w o1 o2).alloc (by simp; omega) _).alloc (by simp; omega) _)

set_option maxHeartbeats 400000 in
theorem readcount_all (A : Option Addr) (n c B er : Nat) (xs : List UInt8) (most : Int) (w : World) (h : er = 0 → Left w B A n c xs) (hB : B ≤ w.heap.size) (hm : IsInt most) :
    Calls Try.prog 87 #[.agg #[.slice A n c, .int .i64 (er : Int)], .int .i64 most] w (CEnds w B (.int .i64 ((rcx xs most er).1 : Int)) (rcx xs most er).2.1 (rcx xs most er).2.2) := by
  have HR : Hid (∀ o1 o2, Calls Try.prog 95 #[.agg #[.slice A n c, .int .i64 (er : Int)]] ((w.alloc o1).alloc o2) (FEnds ((w.alloc o1).alloc o2) B (.int .u64 ((rnx xs er).1 : Int)) (rnx xs er).2.1 (rnx xs er).2.2)) :=
    hide fun o1 o2 => readnum_all A n c B er xs _ (fun e => (h e).below ((below2 w o1 o2).mono hB)) (by simp; omega)
  have hq1 := @rnx_err xs er
  have hq2 := rnx_lt xs er
  unfold rcx
  generalize rnx xs er = q at *
  obtain ⟨u, ys, er'⟩ := q
  simp only at hq1 hq2 HR ⊢
  unfold IsInt at hm
  clear h
  by_cases hneg : most < 0
  · have t1 : decide (most < 0) = true := by simpa using hneg
    have h0 : most.toNat = 0 := by omega
    rw [h0]
    clear h0
    by_cases hbig : 0 < u
    · have he : er' = 0 := hq1 (by omega)
      subst he
      rw [if_pos hbig]
      have t2 : decide (0 < u) = true := by simpa using hbig
      clear hq1 hneg
      go_enter Try.func87, Try.ntmps87
      go_wp2_with fail
      refine (HR.out _ _).mono ?_
      rintro e w1 ⟨A1, n1, c1, rfl, hl1, o1, o2, rfl⟩
      go_wp2
      go_returns
      exact ⟨_, _, _, rfl, (fun h => by cases h), _, _, _, _, rfl⟩
    · have hu : u = 0 := by omega
      subst hu
      rw [if_neg hbig]
      clear hq1 hbig hneg
      simp only
      by_cases he : er' = 0
      · subst he
        go_enter Try.func87, Try.ntmps87
        go_wp2_with fail
        refine (HR.out _ _).mono ?_
        rintro e w1 ⟨A1, n1, c1, rfl, hl1, o1, o2, rfl⟩
        have HL1 := hide (fun e => ((hl1 e).back ((below4 w _ _ o1 o2).mono hB)))
        clear hl1
        go_wp2
        go_returns
        exact ⟨_, _, _, rfl, (fun h => Left.below (by first | exact HL1.out h | exact HL1.out trivial) ((below4 w _ _ _ _).mono hB)), _, _, _, _, rfl⟩
      · have t3 : ((er' : Int) == 0) = false := by rw [beq_eq_false_iff_ne]; omega
        clear he
        go_enter Try.func87, Try.ntmps87
        go_wp2_with fail
        refine (HR.out _ _).mono ?_
        rintro e w1 ⟨A1, n1, c1, rfl, hl1, o1, o2, rfl⟩
        have HL1 := hide (fun e => ((hl1 e).back ((below4 w _ _ o1 o2).mono hB)))
        clear hl1
        go_wp2
        go_returns
        exact ⟨_, _, _, rfl, (fun h => Left.below (by first | exact HL1.out h | exact HL1.out trivial) ((below4 w _ _ _ _).mono hB)), _, _, _, _, rfl⟩
  · have t1 : decide (most < 0) = false := by simpa using hneg
    obtain ⟨mn, rfl⟩ : ∃ mn : Nat, most = mn := ⟨most.toNat, by omega⟩
    rw [Int.toNat_natCast]
    by_cases hbig : mn < u
    · have he : er' = 0 := hq1 (by omega)
      subst he
      rw [if_pos hbig]
      have t2 : decide (mn < u) = true := by simpa using hbig
      clear hq1 hneg
      go_enter Try.func87, Try.ntmps87
      go_wp2_with fail
      refine (HR.out _ _).mono ?_
      rintro e w1 ⟨A1, n1, c1, rfl, hl1, o1, o2, rfl⟩
      go_wp2
      go_returns
      exact ⟨_, _, _, rfl, (fun h => by cases h), _, _, _, _, rfl⟩
    · rw [if_neg hbig]
      have t2 : decide (mn < u) = false := by simpa using hbig
      have hu : u ≤ mn := by omega
      have hu2 : (u : Int) ≤ 9223372036854775807 := by omega
      clear hq1 hbig hneg
      simp only
      by_cases he : er' = 0
      · subst he
        go_enter Try.func87, Try.ntmps87
        go_wp2_with fail
        refine (HR.out _ _).mono ?_
        rintro e w1 ⟨A1, n1, c1, rfl, hl1, o1, o2, rfl⟩
        have HL1 := hide (fun e => ((hl1 e).back ((below4 w _ _ o1 o2).mono hB)))
        clear hl1
        go_wp2
        go_returns
        exact ⟨_, _, _, rfl, (fun h => Left.below (by first | exact HL1.out h | exact HL1.out trivial) ((below4 w _ _ _ _).mono hB)), _, _, _, _, rfl⟩
      · have t3 : ((er' : Int) == 0) = false := by rw [beq_eq_false_iff_ne]; omega
        clear he
        go_enter Try.func87, Try.ntmps87
        go_wp2_with fail
        refine (HR.out _ _).mono ?_
        rintro e w1 ⟨A1, n1, c1, rfl, hl1, o1, o2, rfl⟩
        have HL1 := hide (fun e => ((hl1 e).back ((below4 w _ _ o1 o2).mono hB)))
        clear hl1
        go_wp2
        go_returns
        exact ⟨_, _, _, rfl, (fun h => Left.below (by first | exact HL1.out h | exact HL1.out trivial) ((below4 w _ _ _ _).mono hB)), _, _, _, _, rfl⟩

theorem done_any (A : Option Addr) (n c er : Nat) (w : World) :
    Calls Try.prog 67 #[.agg #[.slice A n c, .int .i64 (er : Int)]] w fun e w' => e = .returned (.agg #[.slice A n c, .int .i64 ((if er = 0 ∧ 0 < n then 13 else er : Nat) : Int)]) ∧ ∃ o1 o2, (w.alloc o1).alloc o2 = w' := by
  by_cases he : er = 0
  · subst he
    by_cases hn : 0 < n
    · rw [if_pos ⟨rfl, hn⟩]
      have t1 : decide (0 < n) = true := by simpa using hn
      go_enter Try.func67, Try.ntmps67
      go_wp2
      go_returns
      exact ⟨rfl, _, _, rfl⟩
    · have h0 : n = 0 := by omega
      subst h0
      go_enter Try.func67, Try.ntmps67
      go_wp2
      go_returns
      exact ⟨rfl, _, _, rfl⟩
  · rw [if_neg (fun h => he h.1)]
    have t3 : ((er : Int) == 0) = false := by rw [beq_eq_false_iff_ne]; omega
    go_enter Try.func67, Try.ntmps67
    go_wp2
    go_returns
    exact ⟨rfl, _, _, rfl⟩
end Go.Proofs.Ytapbcpilklhoiaa
