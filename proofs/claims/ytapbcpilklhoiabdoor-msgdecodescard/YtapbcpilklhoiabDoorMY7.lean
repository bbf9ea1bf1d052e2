/-
  Commands compared; Same of value and of its reference. Conditions: what is read is in reach.
  Slices of commands compared; Same of value and of its reference. Conditions: what is read is in reach.
  Same of synodref01: whether two slices hold the same bytes; Clone of bytes: the same bytes in new memory, or nil. Conditions: the slices read as bytes, at most 2^47 of them.
  The head of synodlaw06. No condition.
  Clone of package value, and Copy of its reference: the same value in new memory. Conditions: what is read is in reach.
  The calls on values in the words of one structure, for the walks of the Value laws. Conditions: what is read is in reach.
-/
import Derived.Test.YtapbcpilklhoiabDoorMY6
import Derived.Test.YtapbcpilklhoiabDoorMY5
import Derived.Test.YtapbcpilklhoiabDoorMY0
import Derived.Deep.AppendLies
import Derived.Deep.RegionHeld3
import Derived.Deep.DrawnRows
import Derived.Deep.DeepCutAuto
import Derived.Deep.RegionLaw
set_option linter.unusedSimpArgs false
set_option linter.unusedVariables false

namespace Go.Proofs.YtapbcpilklhoiabDoor
open Go.RowKit

theorem fields_op : (Tryd.prog.fieldsOf 30).toList.map (fun f => (f.type, f.offset, f.name == "_")) = [(3, 0, false), (3, 1, false), (3, 2, false), (3, 3, false), (3, 4, false)] := by kernel_rfl
theorem fields_cmd : (Tryd.prog.fieldsOf 32).toList.map (fun f => (f.type, f.offset, f.name == "_")) = [(3, 0, false), (3, 1, false), (3, 2, false), (30, 3, false)] := by kernel_rfl

theorem equal_op (d : Nat) (a b c e f a' b' c' e' f' : Int) (w : World) : (Op.equalIn (d + 2) 30 (.agg #[.int .i64 a, .int .i64 b, .int .i64 c, .int .i64 e, .int .i64 f]) (.agg #[.int .i64 a', .int .i64 b', .int .i64 c', .int .i64 e', .int .i64 f'])).run Tryd.prog w = .ok (decide ([a, b, c, e, f] = [a', b', c', e', f'])) w := by
  rw [show d + 2 = (d + 1) + 1 from rfl, run_equalIn_struct w (d + 1) 30 _ _ (by kernel_rfl) (by kernel_rfl)]
  have hf := fields_op
  generalize (Tryd.prog.fieldsOf 30).toList = fs at hf
  refine eqFields_ints d _ _ w fs _ _ (by have := congrArg List.length hf; simpa using this) (by have := congrArg List.length hf; simpa using this) ?_
  match fs, (show fs.length = 5 by have := congrArg List.length hf; simpa using this), hf with
  | [f0, f1, f2, f3, f4], _, hf =>
    simp only [List.map_cons, List.map_nil, List.cons.injEq, Prod.mk.injEq, and_true] at hf
    obtain ⟨⟨t0, o0, n0⟩, ⟨t1, o1, n1⟩, ⟨t2, o2, n2⟩, ⟨t3, o3, n3⟩, t4, o4, n4⟩ := hf
    intro i f x y e1 e2 e3
    match i with
    | 0 => simp at e1 e2 e3; subst e1 e2 e3; exact ⟨t0, n0, by simp [o0], by simp [o0]⟩
    | 1 => simp at e1 e2 e3; subst e1 e2 e3; exact ⟨t1, n1, by simp [o1], by simp [o1]⟩
    | 2 => simp at e1 e2 e3; subst e1 e2 e3; exact ⟨t2, n2, by simp [o2], by simp [o2]⟩
    | 3 => simp at e1 e2 e3; subst e1 e2 e3; exact ⟨t3, n3, by simp [o3], by simp [o3]⟩
    | 4 => simp at e1 e2 e3; subst e1 e2 e3; exact ⟨t4, n4, by simp [o4], by simp [o4]⟩
    | i + 5 => simp at e1

theorem part_op (x0 x1 x2 x3 x4 x5 x6 x7 : Int) (w : World) : (part 30 #[.int .i64 x0, .int .i64 x1, .int .i64 x2, .int .i64 x3, .int .i64 x4, .int .i64 x5, .int .i64 x6, .int .i64 x7] 3).run Tryd.prog w = .ok (.agg #[.int .i64 x3, .int .i64 x4, .int .i64 x5, .int .i64 x6, .int .i64 x7]) w := by
  have hs : (sizeOf 30).run Tryd.prog w = .ok 5 w := by kernel_rfl
  have hag : (isAgg 30).run Tryd.prog w = .ok true w := by kernel_rfl
  simp [part, hs, hag]

def eqC (c d : Cmdv) : Bool := decide (c.ints = d.ints)
theorem equal_cmd (d : Nat) (c e : Cmdv) (w : World) : (Op.equalIn (d + 3) 32 (.agg #[.int .i64 c.s, .int .i64 c.q, .int .i64 c.a, .int .i64 c.k, .int .i64 c.r, .int .i64 c.t, .int .i64 c.re, .int .i64 c.im]) (.agg #[.int .i64 e.s, .int .i64 e.q, .int .i64 e.a, .int .i64 e.k, .int .i64 e.r, .int .i64 e.t, .int .i64 e.re, .int .i64 e.im])).run Tryd.prog w = .ok (eqC c e) w := by
  rw [show d + 3 = (d + 2) + 1 from rfl, run_equalIn_struct w (d + 2) 32 _ _ (by kernel_rfl) (by kernel_rfl)]
  have hf := fields_cmd
  generalize (Tryd.prog.fieldsOf 32).toList = fs at hf
  match fs, (show fs.length = 4 by have := congrArg List.length hf; simpa using this), hf with
  | [f0, f1, f2, f3], _, hf =>
    simp only [List.map_cons, List.map_nil, List.cons.injEq, Prod.mk.injEq, and_true] at hf
    obtain ⟨⟨t0, o0, n0⟩, ⟨t1, o1, n1⟩, ⟨t2, o2, n2⟩, t3, o3, n3⟩ := hf
    have m0 : f0.name ≠ "_" := by simpa using n0
    have m1 : f1.name ≠ "_" := by simpa using n1
    have m2 : f2.name ≠ "_" := by simpa using n2
    have m3 : f3.name ≠ "_" := by simpa using n3
    have he := fun a b => run_equalIn_int (P := Tryd.prog) w (d + 1) 3 .i64 .i64 a b Tryd.underlying3
    have ho := equal_op d c.k c.r c.t c.re c.im e.k e.r e.t e.re e.im w
    simp only [Op.eqFields, Sem.run_bind, Sem.run_ite, if_pos m0, if_pos m1, if_pos m2, if_pos m3, t0, t1, t2, t3, o0, o1, o2, o3, part_op, Result.andThen_ok,
      part_int (#[.int .i64 c.s, .int .i64 c.q, .int .i64 c.a, .int .i64 c.k, .int .i64 c.r, .int .i64 c.t, .int .i64 c.re, .int .i64 c.im] : Array Value) 0 c.s rfl, part_int (#[.int .i64 c.s, .int .i64 c.q, .int .i64 c.a, .int .i64 c.k, .int .i64 c.r, .int .i64 c.t, .int .i64 c.re, .int .i64 c.im] : Array Value) 1 c.q rfl, part_int (#[.int .i64 c.s, .int .i64 c.q, .int .i64 c.a, .int .i64 c.k, .int .i64 c.r, .int .i64 c.t, .int .i64 c.re, .int .i64 c.im] : Array Value) 2 c.a rfl,
      part_int (#[.int .i64 e.s, .int .i64 e.q, .int .i64 e.a, .int .i64 e.k, .int .i64 e.r, .int .i64 e.t, .int .i64 e.re, .int .i64 e.im] : Array Value) 0 e.s rfl, part_int (#[.int .i64 e.s, .int .i64 e.q, .int .i64 e.a, .int .i64 e.k, .int .i64 e.r, .int .i64 e.t, .int .i64 e.re, .int .i64 e.im] : Array Value) 1 e.q rfl, part_int (#[.int .i64 e.s, .int .i64 e.q, .int .i64 e.a, .int .i64 e.k, .int .i64 e.r, .int .i64 e.t, .int .i64 e.re, .int .i64 e.im] : Array Value) 2 e.a rfl, he, ho]
    unfold eqC Cmdv.ints
    by_cases h0 : c.s = e.s
    · by_cases h1 : c.q = e.q
      · by_cases h2 : c.a = e.a
        · by_cases h3 : [c.k, c.r, c.t, c.re, c.im] = [e.k, e.r, e.t, e.re, e.im]
          · simp [h0, h1, h2, h3]
          · have h3' : ¬ [c.s, c.q, c.a, c.k, c.r, c.t, c.re, c.im] = [e.s, e.q, e.a, e.k, e.r, e.t, e.re, e.im] := fun h => h3 (congrArg (List.drop 3) h)
            rw [decide_eq_false h3, decide_eq_false h3']
            simp [h0, h1, h2]
        · simp [h0, h1, h2]
      · simp [h0, h1]
    · simp [h0]

def eqCs (cs ds : List Cmdv) : Bool := decide (cs.map Cmdv.ints = ds.map Cmdv.ints)

set_option maxHeartbeats 400000 in
theorem equalI_any (A A' : Option Addr) (n n' c c' B B' : Nat) (xs ys : List Int) (w : World) (hx : HasI w B A xs) (hy : HasI w B' A' ys) (hn : xs.length = n) (hn' : ys.length = n') (hl : n ≤ 140737488355328) :
    Calls Tryd.prog 98 #[.slice A n c, .slice A' n' c'] w fun e w' => e = .returned (.bool (decide (xs = ys))) ∧ ∃ n, w.drewN n = w' := by
  subst hn hn'
  by_cases he : xs.length = ys.length
  · have t1 : ((xs.length : Int) != (ys.length : Int)) = false := by simp [he]
    have HE := hide he
    clear he
    go_enter Tryd.func98, Tryd.ntmps98
    go_wp2
    go_loopw [13] (fun i wr => ∃ k m : Nat, k ≤ xs.length ∧ i = .int .i64 k ∧ Hid (xs.take k = ys.take k) ∧ w.drewN m = wr) (fun i _ => xs.length - (intOf i).toNat)
    case atStart => exact ⟨0, 0, Nat.zero_le _, rfl, rfl, rfl⟩
    case round =>
      obtain ⟨k, m, hk, rfl, HT, rfl⟩ := hrel
      by_cases hlt : k < xs.length
      · have hlt' : k < ys.length := by have := HE.out; omega
        obtain ⟨b, o, rfl, hb, hc⟩ := hx k hlt
        obtain ⟨b', o', rfl, hb', hc'⟩ := hy k hlt'
        have i1 : (k : Int) < (xs.length : Int) := by omega
        have i2 : (k : Int) < (ys.length : Int) := by omega
        have i3 : (0 : Int) ≤ (k : Int) := by omega
        by_cases hxy : xs[k] = ys[k]
        · have t2 : (xs[k] != ys[k]) = false := by simp [hxy]
          have HN : Hid (xs.take (k + 1) = ys.take (k + 1)) := hide (by rw [List.take_succ_eq_append_getElem hlt, List.take_succ_eq_append_getElem hlt', HT.out, hxy])
          clear hxy
          go_wp2_with fail
          go_quiet (fail)
          go_wp2
          go_roundw
          case rel => exact ⟨k + 1, m + nq, by omega, by go_num, HN, by simp⟩
          case measure => simp [intOf]; omega
        · have t2 : (xs[k] != ys[k]) = true := by simpa using hxy
          have HN : Hid (xs ≠ ys) := hide (by rintro rfl; exact hxy rfl)
          clear hxy
          go_wp2_with fail
          go_quiet (fail)
          go_wp2
          go_ret
          exact ⟨by rw [decide_eq_false HN.out]; rfl, m + nq, by simp⟩
      · go_wp2
        go_ret
        have e : k = xs.length := by omega
        subst e
        have hxy : xs = ys := by
          have := HT.out
          rw [List.take_length, HE.out, List.take_length] at this
          exact this
        exact ⟨by rw [decide_eq_true hxy]; rfl, m, rfl⟩
  · have t1 : ((xs.length : Int) != (ys.length : Int)) = true := by simp; omega
    have HN : Hid (xs ≠ ys) := hide (by rintro rfl; exact he rfl)
    clear he
    go_enter Tryd.func98, Tryd.ntmps98
    go_wp2
    go_ret
    exact ⟨by rw [decide_eq_false HN.out]; rfl, 0, rfl⟩
set_option maxHeartbeats 400000 in
theorem rints_any (A A' : Option Addr) (n n' c c' B B' : Nat) (xs ys : List Int) (w : World) (hx : HasI w B A xs) (hy : HasI w B' A' ys) (hn : xs.length = n) (hn' : ys.length = n') (hl : n ≤ 140737488355328) :
    Calls Tryd.prog 70 #[.slice A n c, .slice A' n' c'] w fun e w' => e = .returned (.bool (decide (xs = ys))) ∧ ∃ n, w.drewN n = w' := by
  subst hn hn'
  by_cases he : xs.length = ys.length
  · have t1 : ((xs.length : Int) != (ys.length : Int)) = false := by simp [he]
    have HE := hide he
    clear he
    go_enter Tryd.func70, Tryd.ntmps70
    go_wp2
    go_loopw [13] (fun i wr => ∃ k m : Nat, k ≤ xs.length ∧ i = .int .i64 k ∧ Hid (xs.take k = ys.take k) ∧ w.drewN m = wr) (fun i _ => xs.length - (intOf i).toNat)
    case atStart => exact ⟨0, 0, Nat.zero_le _, rfl, rfl, rfl⟩
    case round =>
      obtain ⟨k, m, hk, rfl, HT, rfl⟩ := hrel
      by_cases hlt : k < xs.length
      · have hlt' : k < ys.length := by have := HE.out; omega
        obtain ⟨b, o, rfl, hb, hc⟩ := hx k hlt
        obtain ⟨b', o', rfl, hb', hc'⟩ := hy k hlt'
        have i1 : (k : Int) < (xs.length : Int) := by omega
        have i2 : (k : Int) < (ys.length : Int) := by omega
        have i3 : (0 : Int) ≤ (k : Int) := by omega
        by_cases hxy : xs[k] = ys[k]
        · have t2 : (xs[k] != ys[k]) = false := by simp [hxy]
          have HN : Hid (xs.take (k + 1) = ys.take (k + 1)) := hide (by rw [List.take_succ_eq_append_getElem hlt, List.take_succ_eq_append_getElem hlt', HT.out, hxy])
          clear hxy
          go_wp2_with fail
          go_quiet (fail)
          go_wp2
          go_roundw
          case rel => exact ⟨k + 1, m + nq, by omega, by go_num, HN, by simp⟩
          case measure => simp [intOf]; omega
        · have t2 : (xs[k] != ys[k]) = true := by simpa using hxy
          have HN : Hid (xs ≠ ys) := hide (by rintro rfl; exact hxy rfl)
          clear hxy
          go_wp2_with fail
          go_quiet (fail)
          go_wp2
          go_ret
          exact ⟨by rw [decide_eq_false HN.out]; rfl, m + nq, by simp⟩
      · go_wp2
        go_ret
        have e : k = xs.length := by omega
        subst e
        have hxy : xs = ys := by
          have := HT.out
          rw [List.take_length, HE.out, List.take_length] at this
          exact this
        exact ⟨by rw [decide_eq_true hxy]; rfl, m, rfl⟩
  · have t1 : ((xs.length : Int) != (ys.length : Int)) = true := by simp; omega
    have HN : Hid (xs ≠ ys) := hide (by rintro rfl; exact he rfl)
    clear he
    go_enter Tryd.func70, Tryd.ntmps70
    go_wp2
    go_ret
    exact ⟨by rw [decide_eq_false HN.out]; rfl, 0, rfl⟩
end Go.Proofs.YtapbcpilklhoiabDoor

namespace Go.Proofs.YtapbcpilklhoiabDoor
open Go.RowKit

theorem HasC.at_ {w : World} {B : Nat} {b o : Nat} {cs : List Cmdv} (h : HasC w B (some ⟨b, o, none⟩) cs) (i : Nat) (hi : i < cs.length) :
    w.cell? ⟨b, o + i * 8, none⟩ = some (.int .i64 cs[i].s) ∧ w.cell? ⟨b, o + i * 8 + 1, none⟩ = some (.int .i64 cs[i].q) ∧ w.cell? ⟨b, o + i * 8 + 2, none⟩ = some (.int .i64 cs[i].a) ∧ w.cell? ⟨b, o + i * 8 + 3, none⟩ = some (.int .i64 cs[i].k) ∧ w.cell? ⟨b, o + i * 8 + 4, none⟩ = some (.int .i64 cs[i].r) ∧ w.cell? ⟨b, o + i * 8 + 5, none⟩ = some (.int .i64 cs[i].t) ∧ w.cell? ⟨b, o + i * 8 + 6, none⟩ = some (.int .i64 cs[i].re) ∧ w.cell? ⟨b, o + i * 8 + 7, none⟩ = some (.int .i64 cs[i].im) := by
  obtain ⟨b', o', e, _, r⟩ := h i hi
  cases e
  exact r

theorem eqC_map {cs ds : List Cmdv} {k : Nat} (h : k < cs.length) (h' : k < ds.length) (ht : (cs.take k).map Cmdv.ints = (ds.take k).map Cmdv.ints) (he : eqC cs[k] ds[k] = true) : (cs.take (k + 1)).map Cmdv.ints = (ds.take (k + 1)).map Cmdv.ints := by
  rw [List.take_succ_eq_append_getElem h, List.take_succ_eq_append_getElem h', List.map_append, List.map_append, ht]
  simp [of_decide_eq_true he]
theorem eqC_ne {cs ds : List Cmdv} {k : Nat} (h : k < cs.length) (h' : k < ds.length) (he : eqC cs[k] ds[k] = false) : eqCs cs ds = false := by
  refine decide_eq_false fun hh => ?_
  have := congrArg (fun l => l[k]?) hh
  simp [h, h'] at this
  exact absurd this (of_decide_eq_false he)

set_option maxHeartbeats 800000 in
theorem equalC_any (A A' : Option Addr) (n n' c c' B B' : Nat) (cs ds : List Cmdv) (w : World) (hx : HasC w B A cs) (hy : HasC w B' A' ds) (hn : cs.length = n) (hn' : ds.length = n') (hl : n ≤ 140737488355328) :
    Calls Tryd.prog 97 #[.slice A n c, .slice A' n' c'] w fun e w' => e = .returned (.bool (eqCs cs ds)) ∧ ∃ n, w.drewN n = w' := by
  subst hn hn'
  by_cases he : cs.length = ds.length
  · have t1 : ((cs.length : Int) != (ds.length : Int)) = false := by simp [he]
    have HE := hide he
    clear he
    go_enter Tryd.func97, Tryd.ntmps97
    go_wp2
    go_loopw [13] (fun i wr => ∃ k m : Nat, k ≤ cs.length ∧ i = .int .i64 k ∧ Hid ((cs.take k).map Cmdv.ints = (ds.take k).map Cmdv.ints) ∧ w.drewN m = wr) (fun i _ => cs.length - (intOf i).toNat)
    case atStart => exact ⟨0, 0, Nat.zero_le _, rfl, rfl, rfl⟩
    case round =>
      obtain ⟨k, m, hk, rfl, HT, rfl⟩ := hrel
      by_cases hlt : k < cs.length
      · have hlt' : k < ds.length := by have := HE.out; omega
        obtain ⟨b, o, rfl, hb, p0, p1, p2, p3, p4, p5, p6, p7⟩ := hx k hlt
        obtain ⟨b', o', rfl, hb', q0, q1, q2, q3, q4, q5, q6, q7⟩ := hy k hlt'
        have i1 : (k : Int) < (cs.length : Int) := by omega
        have i2 : (k : Int) < (ds.length : Int) := by omega
        have i3 : (0 : Int) ≤ (k : Int) := by omega
        have ke := fun w => equal_cmd 9997 cs[k] ds[k] w
        rcases hxy : eqC cs[k] ds[k] with _ | _
        · have HN : Hid (eqCs cs ds = false) := hide (eqC_ne hlt hlt' hxy)
          rw [hxy] at ke
          clear hxy
          generalize cs[k] = c1 at *
          generalize ds[k] = c2 at *
          go_wp2_with fail
          go_quiet (fail)
          go_wp2
          go_ret
          exact ⟨by rw [HN.out]; rfl, m + nq, by simp⟩
        · have HN := hide (eqC_map hlt hlt' HT.out hxy)
          rw [hxy] at ke
          clear hxy
          generalize cs[k] = c1 at *
          generalize ds[k] = c2 at *
          go_wp2_with fail
          go_quiet (fail)
          go_wp2
          go_roundw
          case rel => exact ⟨k + 1, m + nq, by omega, by go_num, HN, by simp⟩
          case measure => simp [intOf]; omega
      · go_wp2
        go_ret
        have e : k = cs.length := by omega
        subst e
        have hxy : eqCs cs ds = true := decide_eq_true (by
          have := HT.out
          rw [List.take_length, HE.out, List.take_length] at this
          exact this)
        exact ⟨by rw [hxy]; rfl, m, rfl⟩
  · have t1 : ((cs.length : Int) != (ds.length : Int)) = true := by simp; omega
    have HN : Hid (eqCs cs ds = false) := hide (decide_eq_false fun h => he (by have := congrArg List.length h; simpa using this))
    clear he
    go_enter Tryd.func97, Tryd.ntmps97
    go_wp2
    go_ret
    exact ⟨by rw [HN.out]; rfl, 0, rfl⟩

/-- Two values are the same. -/
def sameV (k : Int) (cs : List Cmdv) (ns : List Int) (k' : Int) (cs' : List Cmdv) (ns' : List Int) : Bool := (k == k') && (eqCs cs cs' && decide (ns = ns'))

set_option maxHeartbeats 800000 in
theorem vsame_any (k k' : Int) (A A' D D' : Option Addr) (n n' c c' m m' d d' B : Nat) (cs cs' : List Cmdv) (ns ns' : List Int) (w : World) (hC : HasC w B A cs) (hN : HasI w B D ns) (hC' : HasC w B A' cs') (hN' : HasI w B D' ns') (hB : B ≤ w.heap.size)
    (hn : cs.length = n) (hn' : cs'.length = n') (hm : ns.length = m) (hm' : ns'.length = m') (hl : n ≤ 140737488355328) (hlm : m ≤ 140737488355328) :
    Calls Tryd.prog 87 #[.agg #[.int .i64 k, .slice A n c, .slice D m d], .agg #[.int .i64 k', .slice A' n' c', .slice D' m' d']] w fun e w' => e = .returned (.bool (sameV k cs ns k' cs' ns')) ∧ Below w.heap.size w w' := by
  have hA : ∀ o1 o2, HasC ((w.alloc o1).alloc o2) B A cs := fun o1 o2 => (hC.alloc hB o1).alloc (by simp; omega) o2
  have hA' : ∀ o1 o2, HasC ((w.alloc o1).alloc o2) B A' cs' := fun o1 o2 => (hC'.alloc hB o1).alloc (by simp; omega) o2
  have hD : ∀ o1 o2, HasI ((w.alloc o1).alloc o2) B D ns := fun o1 o2 => (hN.alloc hB o1).alloc (by simp; omega) o2
  have hD' : ∀ o1 o2, HasI ((w.alloc o1).alloc o2) B D' ns' := fun o1 o2 => (hN'.alloc hB o1).alloc (by simp; omega) o2
  rcases hk : (k == k') with _ | _
  · have HE : Hid (sameV k cs ns k' cs' ns' = false) := hide (by unfold sameV; rw [hk]; rfl)
    go_enter Tryd.func87, Tryd.ntmps87
    go_wp2
    go_ret
    exact ⟨by rw [HE.out]; rfl, by go_grown⟩
  · have HE : Hid (sameV k cs ns k' cs' ns' = (eqCs cs cs' && decide (ns = ns'))) := hide (by unfold sameV; rw [hk]; rfl)
    go_enter Tryd.func87, Tryd.ntmps87
    go_wp2_with fail
    refine (equalC_any A A' n n' c c' B B cs cs' _ (hA _ _) (hA' _ _) hn hn' hl).mono ?_
    rintro e w1 ⟨rfl, nq, rfl⟩
    rcases hE : eqCs cs cs' with _ | _
    · have HE' : Hid (sameV k cs ns k' cs' ns' = false) := hide (by rw [HE.out, hE]; rfl)
      go_wp2
      go_ret
      exact ⟨by rw [HE'.out]; rfl, below_drewN (by go_grown) _⟩
    · have HE' : Hid (sameV k cs ns k' cs' ns' = decide (ns = ns')) := hide (by rw [HE.out, hE]; rfl)
      go_wp2_with fail
      refine (equalI_any D D' m m' d d' B B ns ns' _ (HasI.drewN (hD _ _) nq) (HasI.drewN (hD' _ _) nq) hm hm' hlm).mono ?_
      rintro e w2 ⟨rfl, nq2, rfl⟩
      go_wp2
      go_ret
      exact ⟨by rw [HE'.out]; rfl, below_drewN (by go_grown) _⟩

set_option maxHeartbeats 800000 in
theorem rvsame_any (k k' : Int) (A A' D D' : Option Addr) (n n' c c' m m' d d' B : Nat) (cs cs' : List Cmdv) (ns ns' : List Int) (w : World) (hC : HasC w B A cs) (hN : HasI w B D ns) (hC' : HasC w B A' cs') (hN' : HasI w B D' ns') (hB : B ≤ w.heap.size)
    (hn : cs.length = n) (hn' : cs'.length = n') (hm : ns.length = m) (hm' : ns'.length = m') (hl : n ≤ 140737488355328) (hlm : m ≤ 140737488355328) :
    Calls Tryd.prog 39 #[.agg #[.int .i64 k, .slice A n c, .slice D m d], .agg #[.int .i64 k', .slice A' n' c', .slice D' m' d']] w fun e w' => e = .returned (.bool (sameV k cs ns k' cs' ns')) ∧ Below w.heap.size w w' := by
  have hA : ∀ o1 o2, HasC ((w.alloc o1).alloc o2) B A cs := fun o1 o2 => (hC.alloc hB o1).alloc (by simp; omega) o2
  have hA' : ∀ o1 o2, HasC ((w.alloc o1).alloc o2) B A' cs' := fun o1 o2 => (hC'.alloc hB o1).alloc (by simp; omega) o2
  have hD : ∀ o1 o2, HasI ((w.alloc o1).alloc o2) B D ns := fun o1 o2 => (hN.alloc hB o1).alloc (by simp; omega) o2
  have hD' : ∀ o1 o2, HasI ((w.alloc o1).alloc o2) B D' ns' := fun o1 o2 => (hN'.alloc hB o1).alloc (by simp; omega) o2
  rcases hk : (k != k') with _ | _
  · have hk' : (k == k') = true := by simpa [bne] using hk
    have HE : Hid (sameV k cs ns k' cs' ns' = (eqCs cs cs' && decide (ns = ns'))) := hide (by unfold sameV; rw [hk']; rfl)
    clear hk'
    by_cases hln : n = n'
    · have t1 : ((n : Int) != (n' : Int)) = false := by simp [hln]
      have HLN := hide hln
      clear hln
      go_enter Tryd.func39, Tryd.ntmps39
      go_wp2_with fail
      refine (rints_any D D' m m' d d' B B ns ns' _ (hD _ _) (hD' _ _) hm hm' hlm).mono ?_
      rintro e w2 ⟨rfl, nq, rfl⟩
      by_cases hE : ns = ns'
      · have hd : decide (ns = ns') = true := decide_eq_true hE
        have HE' : Hid (sameV k cs ns k' cs' ns' = eqCs cs cs') := hide (by rw [HE.out, hd, Bool.and_true])
        rw [hd]
        clear hd hE HE
        go_wp2_with fail
        have hA1 := hA (.cells #[.int .i64 k, .slice A n c, .slice D m d] 27) (.cells #[.int .i64 k', .slice A' n' c', .slice D' m' d'] 27)
        have hA1' := hA' (.cells #[.int .i64 k, .slice A n c, .slice D m d] 27) (.cells #[.int .i64 k', .slice A' n' c', .slice D' m' d'] 27)
        have u1 : ((w.alloc (.cells #[.int .i64 k, .slice A n c, .slice D m d] 27)).alloc (.cells #[.int .i64 k', .slice A' n' c', .slice D' m' d'] 27)).cell? ⟨w.heap.size, 1, none⟩ = some (.slice A n c) := (World.cell?_alloc_past (w := w.alloc _) _ w.heap.size 1 (by simp)).trans (cell_of_row _ _ _ _ _ _ (heap_alloc_new w _))
        have u2 : ((w.alloc (.cells #[.int .i64 k, .slice A n c, .slice D m d] 27)).alloc (.cells #[.int .i64 k', .slice A' n' c', .slice D' m' d'] 27)).cell? ⟨w.heap.size + 1, 1, none⟩ = some (.slice A' n' c') := by simp
        have hbw : Below w.heap.size w ((w.alloc (.cells #[.int .i64 k, .slice A n c, .slice D m d] 27)).alloc (.cells #[.int .i64 k', .slice A' n' c', .slice D' m' d'] 27)) := by go_grown
        generalize (w.alloc (.cells #[.int .i64 k, .slice A n c, .slice D m d] 27)).alloc (.cells #[.int .i64 k', .slice A' n' c', .slice D' m' d'] 27) = W0 at *
        clear hA hA' hD hD' hC hC' hN hN' t1
        go_loopw [31] (fun i wr => ∃ j mm : Nat, j ≤ n ∧ i = .int .i64 j ∧ Hid ((cs.take j).map Cmdv.ints = (cs'.take j).map Cmdv.ints) ∧ W0.drewN mm = wr) (fun i _ => n - (intOf i).toNat)
        case atStart => exact ⟨0, nq, Nat.zero_le _, rfl, rfl, rfl⟩
        case round =>
          obtain ⟨j, mm, hj, rfl, HT, rfl⟩ := hrel
          by_cases hlt : j < n
          · have hlt1 : j < cs.length := by omega
            have hlt2 : j < cs'.length := by have := HLN.out; omega
            obtain ⟨b, o, rfl, hb, p0, p1, p2, p3, p4, p5, p6, p7⟩ := hA1 j hlt1
            obtain ⟨b', o', rfl, hb', q0, q1, q2, q3, q4, q5, q6, q7⟩ := hA1' j hlt2
            have i1 : (j : Int) < (n : Int) := by omega
            have i2 : (j : Int) < (n' : Int) := by have := HLN.out; omega
            have i3 : (0 : Int) ≤ (j : Int) := by omega
            have ke := fun w => equal_cmd 9997 cs[j] cs'[j] w
            rcases hxy : eqC cs[j] cs'[j] with _ | _
            · have HNE : Hid (eqCs cs cs' = false) := hide (eqC_ne hlt1 hlt2 hxy)
              rw [hxy] at ke
              clear hxy
              generalize cs[j] = c1 at *
              generalize cs'[j] = c2 at *
              go_wp2_with fail
              go_quiet (fail)
              go_wp2
              go_ret
              exact ⟨by rw [HE'.out, HNE.out]; rfl, by rw [World.drewN_drewN]; exact below_drewN hbw _⟩
            · have HNX := hide (eqC_map hlt1 hlt2 HT.out hxy)
              rw [hxy] at ke
              clear hxy
              generalize cs[j] = c1 at *
              generalize cs'[j] = c2 at *
              go_wp2_with fail
              go_quiet (fail)
              go_wp2
              go_roundw
              case rel => exact ⟨j + 1, mm + nq, by omega, by go_num, HNX, by simp⟩
              case measure => simp [intOf]; omega
          · have hall : eqCs cs cs' = true := decide_eq_true (by
              have := HT.out
              rw [List.take_of_length_le (by omega), List.take_of_length_le (by have := HLN.out; omega)] at this
              exact this)
            have HNE := hide hall
            clear hall
            go_wp2
            go_ret
            exact ⟨by rw [HE'.out, HNE.out]; rfl, below_drewN hbw _⟩
      · have hd : decide (ns = ns') = false := decide_eq_false hE
        have HE' : Hid (sameV k cs ns k' cs' ns' = false) := hide (by rw [HE.out, hd, Bool.and_false])
        rw [hd]
        clear hd hE
        go_wp2
        go_ret
        exact ⟨by rw [HE'.out]; rfl, below_drewN (by go_grown) _⟩
    · have t1 : ((n : Int) != (n' : Int)) = true := by rw [bne_iff_ne]; omega
      have hE : eqCs cs cs' = false := decide_eq_false fun h => hln (by have := congrArg List.length h; simp at this; omega)
      have HE' : Hid (sameV k cs ns k' cs' ns' = false) := hide (by rw [HE.out, hE]; rfl)
      clear hln hE
      go_enter Tryd.func39, Tryd.ntmps39
      go_wp2
      go_ret
      exact ⟨by rw [HE'.out]; rfl, by go_grown⟩
  · have hk' : (k == k') = false := by simpa [bne] using hk
    have HE : Hid (sameV k cs ns k' cs' ns' = false) := hide (by unfold sameV; rw [hk']; rfl)
    clear hk'
    go_enter Tryd.func39, Tryd.ntmps39
    go_wp2
    go_ret
    exact ⟨by rw [HE.out]; rfl, by go_grown⟩
end Go.Proofs.YtapbcpilklhoiabDoor

namespace Go.Proofs.YtapbcpilklhoiabDoor
open Go.RowKit

theorem eq_of_take {xs ys : List UInt8} (hl : xs.length = ys.length) (h : xs.take xs.length = ys.take xs.length) : xs = ys := by
  rw [List.take_length, hl, List.take_length] at h
  exact h
theorem take_step {xs ys : List UInt8} {k : Nat} (hk : k < xs.length) (hk' : k < ys.length) (h : xs.take k = ys.take k) (he : xs[k] = ys[k]) : xs.take (k + 1) = ys.take (k + 1) := by
  rw [List.take_succ_eq_append_getElem hk, List.take_succ_eq_append_getElem hk', h, he]
theorem ne_of_at {xs ys : List UInt8} {k : Nat} (hk : k < xs.length) (hk' : k < ys.length) (he : xs[k] ≠ ys[k]) : xs ≠ ys := by
  rintro rfl; exact he rfl

/-- What Same answers, and that it has only read. -/
def SameEnds (xs ys : List UInt8) (w : World) (e : Ending) (w' : World) : Prop := e = .returned (.bool (decide (xs = ys))) ∧ ∃ n, w.drewN n = w'

set_option maxHeartbeats 400000 in
theorem same_any (A A' : Option Addr) (n n' c c' B B' : Nat) (xs ys : List UInt8) (w : World) (hx : Has w B A xs) (hy : Has w B' A' ys) (hn : xs.length = n) (hn' : ys.length = n') (hl : n ≤ 140737488355328) :
    Calls Tryd.prog 13 #[.slice A n c, .slice A' n' c'] w (SameEnds xs ys w) := by
  subst hn hn'
  by_cases he : xs.length = ys.length
  · have t1 : ((xs.length : Int) != (ys.length : Int)) = false := by simp [he]
    have HE := hide he
    clear he
    go_enter Tryd.func13, Tryd.ntmps13
    go_wp2
    go_loopw [13] (fun i wr => ∃ k m : Nat, k ≤ xs.length ∧ i = .int .i64 k ∧ xs.take k = ys.take k ∧ w.drewN m = wr) (fun i _ => xs.length - (intOf i).toNat)
    case atStart => exact ⟨0, 0, Nat.zero_le _, rfl, rfl, rfl⟩
    case round =>
      obtain ⟨k, m, hk, rfl, htk, rfl⟩ := hrel
      have HT := hide htk
      clear htk
      by_cases hlt : k < xs.length
      · have hlt' : k < ys.length := by have := HE.out; omega
        obtain ⟨b, o, rfl, hb, hc⟩ := hx k hlt
        obtain ⟨b', o', rfl, hb', hc'⟩ := hy k hlt'
        unfold byt at hc hc'
        have i1 : (k : Int) < (xs.length : Int) := by omega
        have i2 : (k : Int) < (ys.length : Int) := by omega
        have i3 : (0 : Int) ≤ (k : Int) := by omega
        by_cases hxy : xs[k] = ys[k]
        · have t2 : ((xs[k].toNat : Int) != (ys[k].toNat : Int)) = false := by simp [hxy]
          have HN := hide (take_step hlt hlt' HT.out hxy)
          clear hxy
          go_wp2_with fail
          go_quiet (fail)
          go_wp2
          go_roundw
          case rel => exact ⟨k + 1, m + nq, by omega, by go_num, HN.out, by simp⟩
          case measure => simp [intOf]; omega
        · have t2 : ((xs[k].toNat : Int) != (ys[k].toNat : Int)) = true := by
            rw [bne_iff_ne]; intro h; exact hxy (UInt8.toNat_inj.1 (by omega))
          have HN := hide (ne_of_at hlt hlt' hxy)
          clear hxy
          go_wp2_with fail
          go_quiet (fail)
          go_wp2
          go_ret
          exact ⟨by rw [decide_eq_false HN.out]; rfl, m + nq, by simp⟩
      · go_wp2
        go_ret
        have e : k = xs.length := by omega
        subst e
        exact ⟨by rw [decide_eq_true (eq_of_take HE.out HT.out)]; rfl, m, rfl⟩
  · have t1 : ((xs.length : Int) != (ys.length : Int)) = true := by simp; omega
    have HN := hide (show xs ≠ ys by rintro rfl; exact he rfl)
    clear he
    go_enter Tryd.func13, Tryd.ntmps13
    go_wp2
    go_ret
    exact ⟨by rw [decide_eq_false HN.out]; rfl, 0, rfl⟩
end Go.Proofs.YtapbcpilklhoiabDoor

namespace Go.Proofs.YtapbcpilklhoiabDoor
open Go.RowKit

def lit9 : Array Value := #[.int .u8 1, .int .u8 2, .int .u8 0, .int .u8 1, .int .u8 2, .int .u8 1, .int .u8 1, .int .u8 1, .int .u8 2]
theorem lit9_eq : bcells hb9 = lit9 := rfl
theorem has9 (w : World) (g : Nat) (hg : g = w.heap.size) : Has (w.alloc (.cells lit9 5)) (g + 1) (some ⟨g, 0, none⟩) hb9 := by
  have := Has.new w 5 hb9 (0, 0) g hg
  rw [lit9_eq] at this
  exact this
theorem right12 : rightS [1, 2] := by decide

end Go.Proofs.YtapbcpilklhoiabDoor

namespace Go.Proofs.YtapbcpilklhoiabDoor
open Go.RowKit

theorem nilC {w : World} {B : Nat} {cs : List Cmdv} (h : HasC w B none cs) : cs = [] := by
  rcases Nat.eq_zero_or_pos cs.length with h0 | h0
  · exact List.eq_nil_of_length_eq_zero h0
  · obtain ⟨_, _, e, _⟩ := h 0 h0
    cases e
theorem nilI {w : World} {B : Nat} {ns : List Int} (h : HasI w B none ns) : ns = [] := by
  rcases Nat.eq_zero_or_pos ns.length with h0 | h0
  · exact List.eq_nil_of_length_eq_zero h0
  · obtain ⟨_, _, e, _⟩ := h 0 h0
    cases e

theorem cloneC_any (A : Option Addr) (n c B : Nat) (cs : List Cmdv) (w : World) (hx : HasC w B A cs) (hB : B ≤ w.heap.size) (hn : cs.length = n) (hl : n ≤ 2199023255552) :
    Calls Tryd.prog 93 #[.slice A n c] w fun e w' => ∃ v, e = .returned v ∧ OwnC w' w.heap.size v cs ∧ Below w.heap.size w w' := by
  have he := fun (W : World) (a : Option Addr) (n c : Nat) => Lib.run_eql_slice_nil (P := Tryd.prog) W 24 32 a n c 0 0 Tryd.underlying24
  rcases A with _ | ad
  · have hx0 := nilC hx
    subst hx0
    go_enter Tryd.func93, Tryd.ntmps93
    go_wp2
    go_ret
    exact ⟨_, rfl, OwnC.nil _ _, Below.refl _ _⟩
  · obtain ⟨v1, wa, hr1, hown1, hba⟩ := run_copy_cmds w 24 (some ad) n c B cs hx hn hl hB
    have HR := hide hr1
    clear hr1
    go_enter Tryd.func93, Tryd.ntmps93
    go_wp2_with (at_builtin; refine list_append_want _ (by rfl) (.tmp 5) (.tmp 6) 24 24 rfl _ _ rfl rfl _ _ HR.out ?_)
    go_ret
    exact ⟨v1, rfl, hown1, hba⟩

theorem cloneI_any (A : Option Addr) (n c B : Nat) (ns : List Int) (w : World) (hx : HasI w B A ns) (hB : B ≤ w.heap.size) (hn : ns.length = n) (hl : n ≤ 17592186044416) :
    Calls Tryd.prog 94 #[.slice A n c] w fun e w' => ∃ v, e = .returned v ∧ OwnI w' w.heap.size v ns ∧ Below w.heap.size w w' := by
  have he := fun (W : World) (a : Option Addr) (n c : Nat) => Lib.run_eql_slice_nil (P := Tryd.prog) W 25 3 a n c 0 0 Tryd.underlying25
  rcases A with _ | ad
  · have hx0 := nilI hx
    subst hx0
    go_enter Tryd.func94, Tryd.ntmps94
    go_wp2
    go_ret
    exact ⟨_, rfl, OwnI.nil _ _, Below.refl _ _⟩
  · obtain ⟨v1, wa, hr1, hown1, hba⟩ := run_copy_ints w 25 (some ad) n c B ns hx hn hl hB
    have HR := hide hr1
    clear hr1
    go_enter Tryd.func94, Tryd.ntmps94
    go_wp2_with (at_builtin; refine list_append_want _ (by rfl) (.tmp 5) (.tmp 6) 25 25 rfl _ _ rfl rfl _ _ HR.out ?_)
    go_ret
    exact ⟨v1, rfl, hown1, hba⟩

theorem OwnC.from_ {w : World} {base base' : Nat} {v : Value} {cs : List Cmdv} (h : OwnC w base v cs) (hb : base' ≤ base) : OwnC w base' v cs := by
  refine ⟨h.1, ?_⟩
  rcases h.2 with h2 | ⟨g, cap, cur, hv, hg, r⟩
  · exact .inl h2
  · exact .inr ⟨g, cap, cur, hv, by omega, r⟩
theorem results_clone {tmps : Array Value} {w : World} {g : Nat} {A : Array Value} {t : TypeId} (h2 : tmps.getD 2 undef = .pointer (some ⟨g, 0, none⟩)) (hA : w.heap[g]? = some (.cells A t (0, 0))) (sA : A.size = 3) :
    (results Tryd.f61 tmps).run Tryd.prog w = .ok (.agg A) w := by
  have h2' : tmps[2]?.getD undef = .pointer (some ⟨g, 0, none⟩) := by simpa using h2
  have i1 : (Tryd.prog.info? 27).map (·.size) = some A.size := by rw [sA]; kernel_rfl
  have e1 := run_loadVar_row (P := Tryd.prog) w g t 27 A (0, 0) _ hA Tryd.underlying27 rfl i1
  simp [results, Tryd.results61, h2', asAddr, e1]

set_option maxHeartbeats 3200000 in
theorem vclone_any (k : Int) (A D : Option Addr) (n c m d B : Nat) (cs : List Cmdv) (ns : List Int) (w : World) (hC : HasC w B A cs) (hN : HasI w B D ns) (hB : B ≤ w.heap.size) (hn : cs.length = n) (hm : ns.length = m) (hl : n ≤ 2199023255552) (hlm : m ≤ 17592186044416) :
    Calls Tryd.prog 61 #[.agg #[.int .i64 k, .slice A n c, .slice D m d]] w fun e w' => ∃ A' c' D' d', e = .returned (.agg #[.int .i64 k, .slice A' n c', .slice D' m d']) ∧ OwnC w' w.heap.size (.slice A' n c') cs ∧ OwnI w' w.heap.size (.slice D' m d') ns ∧ Below w.heap.size w w' := by
  have HN1 := hide hn
  have HM1 := hide hm
  clear hn hm
  go_enter Tryd.func61, Tryd.ntmps61
  go_wp2_with fail
  have hp0 : ((w.alloc (.cells #[.int .i64 k, .slice A n c, .slice D m d] 27)).alloc (.cells #[.int .i64 0, .slice none 0 0, .slice none 0 0] 27)).heap[w.heap.size]? = some (.cells #[.int .i64 k, .slice A n c, .slice D m d] 27 (0, 0)) :=
    (Below.heap_alloc _ _ _ (by simp)).trans (heap_alloc_new w _)
  have hr0 : ((w.alloc (.cells #[.int .i64 k, .slice A n c, .slice D m d] 27)).alloc (.cells #[.int .i64 0, .slice none 0 0, .slice none 0 0] 27)).heap[w.heap.size + 1]? = some (.cells #[.int .i64 0, .slice none 0 0, .slice none 0 0] 27 (0, 0)) := by
    have := heap_alloc_new (w.alloc (.cells #[.int .i64 k, .slice A n c, .slice D m d] 27)) (.cells #[.int .i64 0, .slice none 0 0, .slice none 0 0] 27)
    simpa using this
  have hb0 : Below w.heap.size w ((w.alloc (.cells #[.int .i64 k, .slice A n c, .slice D m d] 27)).alloc (.cells #[.int .i64 0, .slice none 0 0, .slice none 0 0] 27)) := by go_grown
  have hs0 : ((w.alloc (.cells #[.int .i64 k, .slice A n c, .slice D m d] 27)).alloc (.cells #[.int .i64 0, .slice none 0 0, .slice none 0 0] 27)).heap.size = w.heap.size + 1 + 1 := by simp
  generalize (w.alloc (.cells #[.int .i64 k, .slice A n c, .slice D m d] 27)).alloc (.cells #[.int .i64 0, .slice none 0 0, .slice none 0 0] 27) = W0 at *
  have hC0 : HasC W0 B A cs := hC.on (by omega) hb0
  have hN0 : HasI W0 B D ns := hN.on (by omega) hb0
  have hB0 : B ≤ W0.heap.size := by omega
  have HP : Hid (∀ W', Below W0.heap.size W0 W' → W'.cell? ⟨w.heap.size, 0, none⟩ = some (.int .i64 k) ∧ W'.cell? ⟨w.heap.size, 1, none⟩ = some (.slice A n c) ∧ W'.cell? ⟨w.heap.size, 2, none⟩ = some (.slice D m d)) := hide (fun W' h => by
    have hp := (h.block w.heap.size (by omega)).trans hp0
    exact ⟨(row_cells hp 0).1, (row_cells hp 1).1, (row_cells hp 2).1⟩)
  have HR : Hid (∀ W', Below W0.heap.size W0 W' → W'.heap[w.heap.size + 1]? = some (.cells #[.int .i64 0, .slice none 0 0, .slice none 0 0] 27 (0, 0))) := hide (fun W' h => (h.block (w.heap.size + 1) (by omega)).trans hr0)
  obtain ⟨k0, k1, k2⟩ := HP.out W0 (Below.refl _ _)
  have HCC : Hid (∀ W, HasC W B A cs → B ≤ W.heap.size → Calls Tryd.prog 93 #[.slice A n c] W fun e w' => ∃ A' c', e = .returned (.slice A' n c') ∧ OwnC w' W.heap.size (.slice A' n c') cs ∧ Below W.heap.size W w') := hide (fun W h hB => (cloneC_any A n c B cs W h hB HN1.out hl).mono fun e w' => by
    rintro ⟨v, rfl, ho, hb⟩
    obtain ⟨A', n', c', rfl, hn', _, _⟩ := ho.form
    obtain rfl : n' = n := by rw [← hn'.out, HN1.out]
    exact ⟨A', c', rfl, ho, hb⟩)
  have HCI : Hid (∀ W, HasI W B D ns → B ≤ W.heap.size → Calls Tryd.prog 94 #[.slice D m d] W fun e w' => ∃ D' d', e = .returned (.slice D' m d') ∧ OwnI w' W.heap.size (.slice D' m d') ns ∧ Below W.heap.size W w') := hide (fun W h hB => (cloneI_any D m d B ns W h hB HM1.out hlm).mono fun e w' => by
    rintro ⟨v, rfl, ho, hb⟩
    obtain ⟨D', m', d', rfl, hm', _, _⟩ := ho.form
    obtain rfl : m' = m := by rw [← hm'.out, HM1.out]
    exact ⟨D', d', rfl, ho, hb⟩)
  have HHN : Hid (∀ W', Below W0.heap.size W0 W' → HasI W' B D ns ∧ B ≤ W'.heap.size) := hide (fun W' h => ⟨hN0.on hB0 h, by have := h.size; omega⟩)
  have HBD : Hid (∀ W', Below W0.drew.heap.size W0.drew W' → Below W0.heap.size W0 W') := hide (fun W' h => (Below.refl _ W0).drew.trans (h.mono (Nat.le_refl _)))
  clear hs0
  go_region_law (first
    | (go_simp; go_at_call 93; (with_reducible refine (HCC.out _ ?_ ?_).mono ?_); exact hC0; exact hB0; rintro e w1 ⟨A1, c1, rfl, ho1, b1'⟩; have b1 := HBD.out _ b1'; obtain ⟨x0, x1, x2⟩ := HP.out _ b1; simp only [])
    | (revert b1; intro b1; go_simp; go_at_call 94; (with_reducible refine (HCI.out _ ?_ ?_).mono ?_); exact (HHN.out _ b1).1; exact (HHN.out _ b1).2; rintro e w2 ⟨D2, d2, rfl, ho2, b2'⟩; have b2 := b1.trans (b2'.mono b1.size); obtain ⟨y0, y1, y2⟩ := HP.out _ b2; have rr := HR.out _ b2; have r0 := row_cells rr 0; have r1 := row_cells rr 1; have r2 := row_cells rr 2; obtain ⟨r0a, r0b⟩ := r0; obtain ⟨r1a, r1b⟩ := r1; obtain ⟨r2a, r2b⟩ := r2; simp only [List.getElem?_toArray, List.getElem?_cons_succ, List.getElem?_cons_zero] at r0a r1a r2a; simp only []))
  all_goals go_wp2_with fail
  all_goals
    have hs0 : w.heap.size + 1 < W0.heap.size := lt_of_block hr0
    have hz1 := b1.size
    have hz2 := b2.size
    have hk9 : Kept (fun j => j = w.heap.size + 1) w2 (((w2.setCell ⟨w.heap.size + 1, 0, none⟩ (.int .i64 k)).setCell ⟨w.heap.size + 1, 1, none⟩ (.slice A1 n c1)).setCell ⟨w.heap.size + 1, 2, none⟩ (.slice D2 m d2)) :=
      (((Kept.refl (fun j => j = w.heap.size + 1) w2).setCell (p := ⟨w.heap.size + 1, 0, none⟩) (.inl rfl) _).setCell (p := ⟨w.heap.size + 1, 1, none⟩) (.inl rfl) _).setCell (p := ⟨w.heap.size + 1, 2, none⟩) (.inl rfl) _
    have hr9 : (((w2.setCell ⟨w.heap.size + 1, 0, none⟩ (.int .i64 k)).setCell ⟨w.heap.size + 1, 1, none⟩ (.slice A1 n c1)).setCell ⟨w.heap.size + 1, 2, none⟩ (.slice D2 m d2)).heap[w.heap.size + 1]? = some (.cells #[.int .i64 k, .slice A1 n c1, .slice D2 m d2] 27 (0, 0)) := by simp [World.setCell, Array.getElem?_modify, rr]
    generalize ((w2.setCell ⟨w.heap.size + 1, 0, none⟩ (.int .i64 k)).setCell ⟨w.heap.size + 1, 1, none⟩ (.slice A1 n c1)).setCell ⟨w.heap.size + 1, 2, none⟩ (.slice D2 m d2) = w9 at *
    refine bodyPost_ret (v := .agg #[.int .i64 k, .slice A1 n c1, .slice D2 m d2]) (results_clone rfl hr9 rfl) rfl ⟨A1, c1, D2, d2, rfl, ?_, ?_, ?_⟩
    · have ho1' := ho1.below b2'
      have hlow : ∀ g, (Value.slice A1 n c1).ownBlock = some g → W0.heap.size ≤ g := fun g hg => (ho1'.lt g hg).1
      exact (ho1'.keep fun g hg => hk9.block g ((ho1'.lt g hg).2) (by have := hlow g hg; omega)).from_ (show w.heap.size ≤ W0.heap.size by omega)
    · have hlow : ∀ g, (Value.slice D2 m d2).ownBlock = some g → w1.heap.size ≤ g := fun g hg => (ho2.lt g hg).1
      exact (ho2.keep fun g hg => hk9.block g ((ho2.lt g hg).2) (by have := hlow g hg; omega)).from_ (by omega)
    · exact (hb0.trans (b2.mono (by omega))).trans (hk9.below (by omega) (fun j hj => by omega))

theorem results_copy {tmps : Array Value} {w : World} {g : Nat} {A : Array Value} {t : TypeId} (h2 : tmps.getD 2 undef = .pointer (some ⟨g, 0, none⟩)) (hA : w.heap[g]? = some (.cells A t (0, 0))) (sA : A.size = 3) :
    (results Tryd.f21 tmps).run Tryd.prog w = .ok (.agg A) w := by
  have h2' : tmps[2]?.getD undef = .pointer (some ⟨g, 0, none⟩) := by simpa using h2
  have i1 : (Tryd.prog.info? 27).map (·.size) = some A.size := by rw [sA]; kernel_rfl
  have e1 := run_loadVar_row (P := Tryd.prog) w g t 27 A (0, 0) _ hA Tryd.underlying27 rfl i1
  simp [results, Tryd.results21, h2', asAddr, e1]

set_option maxHeartbeats 1600000 in
theorem rvcopy_any (k : Int) (A D : Option Addr) (n c m d B : Nat) (cs : List Cmdv) (ns : List Int) (w : World) (hC : HasC w B A cs) (hN : HasI w B D ns) (hB : B ≤ w.heap.size) (hn : cs.length = n) (hm : ns.length = m) (hl : n ≤ 2199023255552) (hlm : m ≤ 17592186044416) :
    Calls Tryd.prog 21 #[.agg #[.int .i64 k, .slice A n c, .slice D m d]] w fun e w' => ∃ A' c' D' d', e = .returned (.agg #[.int .i64 k, .slice A' n c', .slice D' m d']) ∧ OwnC w' w.heap.size (.slice A' n c') cs ∧ OwnI w' w.heap.size (.slice D' m d') ns ∧ Below w.heap.size w w' := by
  have HN1 := hide hn
  have HM1 := hide hm
  clear hn hm
  go_enter Tryd.func21, Tryd.ntmps21
  go_upto_region 2 with fail
  have hp0 : (((w.alloc (.cells #[.int .i64 k, .slice A n c, .slice D m d] 27)).alloc (.cells #[.int .i64 0, .slice none 0 0, .slice none 0 0] 27)).alloc (.cells #[.int .i64 k, .slice none 0 0, .slice none 0 0] 27)).heap[w.heap.size]? = some (.cells #[.int .i64 k, .slice A n c, .slice D m d] 27 (0, 0)) :=
    (Below.heap_alloc _ _ _ (by simp; omega)).trans ((Below.heap_alloc _ _ _ (by simp)).trans (heap_alloc_new w _))
  have hr0 : (((w.alloc (.cells #[.int .i64 k, .slice A n c, .slice D m d] 27)).alloc (.cells #[.int .i64 0, .slice none 0 0, .slice none 0 0] 27)).alloc (.cells #[.int .i64 k, .slice none 0 0, .slice none 0 0] 27)).heap[w.heap.size + 1]? = some (.cells #[.int .i64 0, .slice none 0 0, .slice none 0 0] 27 (0, 0)) := by
    refine (Below.heap_alloc _ _ _ (by simp)).trans ?_
    have := heap_alloc_new (w.alloc (.cells #[.int .i64 k, .slice A n c, .slice D m d] 27)) (.cells #[.int .i64 0, .slice none 0 0, .slice none 0 0] 27)
    simpa using this
  have hw0 : (((w.alloc (.cells #[.int .i64 k, .slice A n c, .slice D m d] 27)).alloc (.cells #[.int .i64 0, .slice none 0 0, .slice none 0 0] 27)).alloc (.cells #[.int .i64 k, .slice none 0 0, .slice none 0 0] 27)).heap[w.heap.size + 1 + 1]? = some (.cells #[.int .i64 k, .slice none 0 0, .slice none 0 0] 27 (0, 0)) := by
    have := heap_alloc_new ((w.alloc (.cells #[.int .i64 k, .slice A n c, .slice D m d] 27)).alloc (.cells #[.int .i64 0, .slice none 0 0, .slice none 0 0] 27)) (.cells #[.int .i64 k, .slice none 0 0, .slice none 0 0] 27)
    simpa using this
  have hb0 : Below w.heap.size w (((w.alloc (.cells #[.int .i64 k, .slice A n c, .slice D m d] 27)).alloc (.cells #[.int .i64 0, .slice none 0 0, .slice none 0 0] 27)).alloc (.cells #[.int .i64 k, .slice none 0 0, .slice none 0 0] 27)) := by go_grown
  have hs0 : (((w.alloc (.cells #[.int .i64 k, .slice A n c, .slice D m d] 27)).alloc (.cells #[.int .i64 0, .slice none 0 0, .slice none 0 0] 27)).alloc (.cells #[.int .i64 k, .slice none 0 0, .slice none 0 0] 27)).heap.size = w.heap.size + 1 + 1 + 1 := by simp
  generalize ((w.alloc (.cells #[.int .i64 k, .slice A n c, .slice D m d] 27)).alloc (.cells #[.int .i64 0, .slice none 0 0, .slice none 0 0] 27)).alloc (.cells #[.int .i64 k, .slice none 0 0, .slice none 0 0] 27) = W0 at *
  have hC0 : HasC W0 B A cs := hC.on (by omega) hb0
  have hN0 : HasI W0 B D ns := hN.on (by omega) hb0
  obtain ⟨v1, w1, hr1, ho1, hg1, _⟩ := run_append_cmds W0 24 W0.heap.size _ [] (OwnC.nil W0 W0.heap.size) B A n c cs hC0 HN1.out (by simp; omega) (Nat.le_refl _)
  rw [List.nil_append] at ho1
  have hb1 : Below W0.heap.size W0 w1 := (Below.refl _ _).grown hg1 (Nat.le_refl _) (by intro k hk; cases hk)
  obtain ⟨A1, n1, c1, rfl, hn1, _, _⟩ := ho1.form
  obtain rfl : n1 = n := by rw [← hn1.out, HN1.out]
  have hp1 := (hb1.block w.heap.size (by omega)).trans hp0
  have hr1' := (hb1.block (w.heap.size + 1) (by omega)).trans hr0
  have hw1 := (hb1.block (w.heap.size + 1 + 1) (by omega)).trans hw0
  have a1 := (row_cells hp0 1).1
  have a2 := (row_cells hw0 1).1
  have a3 := (row_cells hw1 1).1
  have a4 := (row_cells hw1 1).2
  simp only [List.getElem?_toArray, List.getElem?_cons_succ, List.getElem?_cons_zero] at a1 a2 a3
  have HR1 := hide hr1
  have hz1 := hb1.size
  clear hr1
  go_upto_region 3 with (at_builtin; refine list_append_want _ (by rfl) (.tmp 8) (.tmp 10) 24 24 rfl _ _ rfl rfl _ _ HR1.out ?_)
  have hk2 : Kept (fun j => j = w.heap.size + 1 + 1) w1 (w1.setCell ⟨w.heap.size + 1 + 1, 1, none⟩ (.slice A1 n1 c1)) := (Kept.refl (fun j => j = w.heap.size + 1 + 1) w1).setCell (p := ⟨w.heap.size + 1 + 1, 1, none⟩) (.inl rfl) _
  have hw2 : (w1.setCell ⟨w.heap.size + 1 + 1, 1, none⟩ (.slice A1 n1 c1)).heap[w.heap.size + 1 + 1]? = some (.cells #[.int .i64 k, .slice A1 n1 c1, .slice none 0 0] 27 (0, 0)) := by simp [World.setCell, Array.getElem?_modify, hw1]
  clear a1 a2 a3 a4
  generalize w1.setCell ⟨w.heap.size + 1 + 1, 1, none⟩ (.slice A1 n1 c1) = w2 at *
  have hp2 := (hk2.block w.heap.size (by omega) (by omega)).trans hp1
  have hr2 := (hk2.block (w.heap.size + 1) (by omega) (by omega)).trans hr1'
  have ho2 := ho1.keep fun g hg => hk2.block g ((ho1.lt g hg).2) (by have := (ho1.lt g hg).1; omega)
  have hz2 := hk2.size
  have hb2 : Below w.heap.size w w2 := (hb0.trans (hb1.mono (by omega))).trans (hk2.below (by omega) (fun j hj => by omega))
  have hN2 : HasI w2 B D ns := (hN.on hB hb2)
  obtain ⟨v3, w3, hr3, ho3, hg3, _⟩ := run_append_ints w2 25 W0.heap.size _ [] (OwnI.nil w2 W0.heap.size) B D m d ns hN2 HM1.out (by simp; omega) (by omega)
  rw [List.nil_append] at ho3
  have hb3 : Below w2.heap.size w2 w3 := (Below.refl _ _).grown hg3 (Nat.le_refl _) (by intro k hk; cases hk)
  obtain ⟨D1, m1, d1, rfl, hm1, _, _⟩ := ho3.form
  obtain rfl : m1 = m := by rw [← hm1.out, HM1.out]
  have hp3 := (hb3.block w.heap.size (by omega)).trans hp2
  have hr3' := (hb3.block (w.heap.size + 1) (by omega)).trans hr2
  have hw3 := (hb3.block (w.heap.size + 1 + 1) (by omega)).trans hw2
  have ho3' := ho2.below hb3
  have a1 := (row_cells hp2 2).1
  have a2 := (row_cells hw2 2).1
  have a3 := (row_cells hw3 2).1
  have a4 := (row_cells hw3 2).2
  simp only [List.getElem?_toArray, List.getElem?_cons_succ, List.getElem?_cons_zero] at a1 a2 a3
  have HR3 := hide hr3
  have hz3 := hb3.size
  clear hr3 HR1
  go_upto_region 4 with (at_builtin; refine list_append_want _ (by rfl) (.tmp 14) (.tmp 16) 25 25 rfl _ _ rfl rfl _ _ HR3.out ?_)
  have hk4 : Kept (fun j => j = w.heap.size + 1 + 1) w3 (w3.setCell ⟨w.heap.size + 1 + 1, 2, none⟩ (.slice D1 m1 d1)) := (Kept.refl (fun j => j = w.heap.size + 1 + 1) w3).setCell (p := ⟨w.heap.size + 1 + 1, 2, none⟩) (.inl rfl) _
  have hw4 : (w3.setCell ⟨w.heap.size + 1 + 1, 2, none⟩ (.slice D1 m1 d1)).heap[w.heap.size + 1 + 1]? = some (.cells #[.int .i64 k, .slice A1 n1 c1, .slice D1 m1 d1] 27 (0, 0)) := by simp [World.setCell, Array.getElem?_modify, hw3]
  clear a1 a2 a3 a4
  generalize w3.setCell ⟨w.heap.size + 1 + 1, 2, none⟩ (.slice D1 m1 d1) = w4 at *
  have hr4 := (hk4.block (w.heap.size + 1) (by omega) (by omega)).trans hr3'
  have ho4 := ho3'.keep fun g hg => hk4.block g ((ho3'.lt g hg).2) (by have := (ho3'.lt g hg).1; omega)
  have hi4 := ho3.keep fun g hg => hk4.block g ((ho3.lt g hg).2) (by have := (ho3.lt g hg).1; omega)
  have hz4 := hk4.size
  have hb4 : Below w.heap.size w w4 := (hb2.trans (hb3.mono (by omega))).trans (hk4.below (by omega) (fun j hj => by omega))
  have hr11 := set_row_at (B := #[.int .i64 k, .slice A1 n1 c1, .slice D1 m1 d1]) hr4
  have hk11 := Kept.of_setRow w4 (w.heap.size + 1) #[.int .i64 k, .slice A1 n1 c1, .slice D1 m1 d1]
  go_wp2_with (first
    | (refine wpList_load_row rfl 27 _ rfl (w.heap.size + 1 + 1) rfl _ _ _ _ hw4 Tryd.underlying27 rfl (by kernel_rfl) ?_)
    | (refine wpList_store_row rfl 27 _ _ rfl (w.heap.size + 1) #[.int .i64 k, .slice A1 n1 c1, .slice D1 m1 d1] rfl rfl _ _ hr4 (by kernel_rfl) rfl (by simp; exact ⟨rfl, rfl, rfl⟩) ?_; generalize w4.setRow (w.heap.size + 1) #[.int .i64 k, .slice A1 n1 c1, .slice D1 m1 d1] = w11 at *))
  refine bodyPost_ret (v := .agg #[.int .i64 k, .slice A1 n1 c1, .slice D1 m1 d1]) (results_copy rfl hr11 rfl) rfl ⟨A1, c1, D1, d1, rfl, ?_, ?_, ?_⟩
  · exact (ho4.keep fun g hg => hk11.block g ((ho4.lt g hg).2) (by have := (ho4.lt g hg).1; omega)).from_ (by omega)
  · exact (hi4.keep fun g hg => hk11.block g ((hi4.lt g hg).2) (by have := (hi4.lt g hg).1; omega)).from_ (by omega)
  · exact hb4.trans (hk11.below (by omega) (fun j hj => by omega))
end Go.Proofs.YtapbcpilklhoiabDoor

namespace Go.Proofs.YtapbcpilklhoiabDoor
open Go.RowKit

/-- A value as memory holds it. -/
structure IsV (w : World) (B : Nat) (A : Option Addr) (n : Nat) (D : Option Addr) (m : Nat) (cs : List Cmdv) (ns : List Int) : Prop where
  c : HasC w B A cs
  i : HasI w B D ns
  en : cs.length = n
  em : ns.length = m
  ln : n ≤ 2199023255552
  lm : m ≤ 17592186043904
  cc : ∀ x ∈ cs, IsCmd x
section
variable {w w' : World} {B n m : Nat} {A D : Option Addr} {cs : List Cmdv} {ns : List Int}
theorem IsV.on (h : IsV w B A n D m cs ns) (hB : B ≤ w.heap.size) (hb : Below w.heap.size w w') : IsV w' B A n D m cs ns := ⟨h.c.on hB hb, h.i.on hB hb, h.en, h.em, h.ln, h.lm, h.cc⟩
theorem IsV.below (h : IsV w B A n D m cs ns) (hb : Below B w w') : IsV w' B A n D m cs ns := ⟨h.c.below hb, h.i.below hb, h.en, h.em, h.ln, h.lm, h.cc⟩
theorem IsV.more {B' : Nat} (h : IsV w B A n D m cs ns) (hB : B ≤ B') : IsV w B' A n D m cs ns := ⟨h.c.more hB, h.i.more hB, h.en, h.em, h.ln, h.lm, h.cc⟩
theorem IsV.last (h : IsV w w.heap.size A n D m cs ns) (hb : Below w.heap.size w w') : IsV w' w'.heap.size A n D m cs ns := (h.on (Nat.le_refl _) hb).more hb.size
end

def CopyEnds (k : Int) (n m : Nat) (cs : List Cmdv) (ns : List Int) (w : World) (e : Ending) (w' : World) : Prop :=
  ∃ A' c' D' d', e = .returned (.agg #[.int .i64 k, .slice A' n c', .slice D' m d']) ∧ IsV w' w'.heap.size A' n D' m cs ns ∧ Below w.heap.size w w'
theorem IsV.copy {w : World} {B n m : Nat} {A D : Option Addr} {cs : List Cmdv} {ns : List Int} (h : IsV w B A n D m cs ns) (hB : B ≤ w.heap.size) (k : Int) (c d : Nat) :
    Calls Tryd.prog 21 #[.agg #[.int .i64 k, .slice A n c, .slice D m d]] w (CopyEnds k n m cs ns w) :=
  (rvcopy_any k A D n c m d B cs ns w h.c h.i hB h.en h.em h.ln (by have := h.lm; omega)).mono fun e w' => by
    rintro ⟨A', c', D', d', rfl, ho, hi, hb⟩
    obtain ⟨_, _, _, e1, _, _, g1⟩ := ho.form
    obtain ⟨_, _, _, e2, _, _, g2⟩ := hi.form
    cases e1
    cases e2
    exact ⟨A', c', D', d', rfl, ⟨g1, g2, h.en, h.em, h.ln, h.lm, h.cc⟩, hb⟩
def EncEnds (k : Int) (cs : List Cmdv) (ns : List Int) (w : World) (e : Ending) (w' : World) : Prop :=
  ∃ v, e = .returned (.tuple #[v, .int .i64 (chkV k cs ns)]) ∧ Hid (chkV k cs ns = 0 → Own w' w.heap.size v (encV k cs ns)) ∧ Hid (chkV k cs ns ≠ 0 → v = .slice none 0 0) ∧ Below w.heap.size w w'
theorem IsV.same {w : World} {B n m : Nat} {A D : Option Addr} {cs : List Cmdv} {ns : List Int} (h : IsV w B A n D m cs ns) {n' m' : Nat} {A' D' : Option Addr} {cs' : List Cmdv} {ns' : List Int} (h' : IsV w B A' n' D' m' cs' ns') (hB : B ≤ w.heap.size) (k c d k' c' d') :
    Calls Tryd.prog 87 #[.agg #[.int .i64 k, .slice A n c, .slice D m d], .agg #[.int .i64 k', .slice A' n' c', .slice D' m' d']] w fun e w' => e = .returned (.bool (sameV k cs ns k' cs' ns')) ∧ Below w.heap.size w w' :=
  vsame_any k k' A A' D D' n n' c c' m m' d d' B cs cs' ns ns' w h.c h.i h'.c h'.i hB h.en h'.en h.em h'.em (by have := h.ln; omega) (by have := h.lm; omega)
theorem IsV.rsame {w : World} {B n m : Nat} {A D : Option Addr} {cs : List Cmdv} {ns : List Int} (h : IsV w B A n D m cs ns) {n' m' : Nat} {A' D' : Option Addr} {cs' : List Cmdv} {ns' : List Int} (h' : IsV w B A' n' D' m' cs' ns') (hB : B ≤ w.heap.size) (k c d k' c' d') :
    Calls Tryd.prog 39 #[.agg #[.int .i64 k, .slice A n c, .slice D m d], .agg #[.int .i64 k', .slice A' n' c', .slice D' m' d']] w fun e w' => e = .returned (.bool (sameV k cs ns k' cs' ns')) ∧ Below w.heap.size w w' :=
  rvsame_any k k' A A' D D' n n' c c' m m' d d' B cs cs' ns ns' w h.c h.i h'.c h'.i hB h.en h'.en h.em h'.em (by have := h.ln; omega) (by have := h.lm; omega)
theorem IsV.check {w : World} {B n m : Nat} {A D : Option Addr} {cs : List Cmdv} {ns : List Int} (h : IsV w B A n D m cs ns) (hB : B ≤ w.heap.size) (k : Int) (c d : Nat) :
    Calls Tryd.prog 57 #[.agg #[.int .i64 k, .slice A n c, .slice D m d]] w fun e w' => e = .returned (.int .i64 (chkV k cs ns)) ∧ Below w.heap.size w w' :=
  vcheck_any k A D n c m d B cs ns w h.c h.i hB h.en h.em (by have := h.lm; omega)

theorem ints_inj {c d : Cmdv} (h : c.ints = d.ints) : c = d := by
  cases c
  cases d
  simp only [Cmdv.ints, List.cons.injEq, and_true] at h
  obtain ⟨h0, h1, h2, h3, h4, h5, h6, h7⟩ := h
  subst h0 h1 h2 h3 h4 h5 h6 h7
  rfl
theorem sameV_iff {k k' : Int} {cs cs' : List Cmdv} {ns ns' : List Int} : sameV k cs ns k' cs' ns' = true ↔ k = k' ∧ cs = cs' ∧ ns = ns' := by
  have key : cs.map Cmdv.ints = cs'.map Cmdv.ints ↔ cs = cs' := by
    constructor
    · intro h
      exact (List.map_inj_right (fun x y h => ints_inj h)).1 h
    · rintro rfl; rfl
  unfold sameV eqCs
  simp [key]
theorem sameV_refl (k : Int) (cs : List Cmdv) (ns : List Int) : sameV k cs ns k cs ns = true := sameV_iff.2 ⟨rfl, rfl, rfl⟩
end Go.Proofs.YtapbcpilklhoiabDoor
