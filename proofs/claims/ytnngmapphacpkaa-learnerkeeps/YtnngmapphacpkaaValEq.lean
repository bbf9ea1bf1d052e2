/-
  Commands compared; Same of value and of its reference. Conditions: what is read is in reach.
-/
import Derived.Test.YtnngmapphacpkaaValHead
import Derived.Test.YtnngmapphacpkaaEqual
set_option linter.unusedSimpArgs false
set_option linter.unusedVariables false
namespace Go.Proofs.Ytnngmapphacpkaa
open Go.RowKit

theorem fields_op : (Try.prog.fieldsOf 56).toList.map (fun f => (f.type, f.offset, f.name == "_")) = [(3, 0, false), (3, 1, false), (3, 2, false), (3, 3, false), (3, 4, false)] := by kernel_rfl
theorem fields_cmd : (Try.prog.fieldsOf 58).toList.map (fun f => (f.type, f.offset, f.name == "_")) = [(3, 0, false), (3, 1, false), (3, 2, false), (56, 3, false)] := by kernel_rfl

theorem equal_op (d : Nat) (a b c e f a' b' c' e' f' : Int) (w : World) : (Op.equalIn (d + 2) 56 (.agg #[.int .i64 a, .int .i64 b, .int .i64 c, .int .i64 e, .int .i64 f]) (.agg #[.int .i64 a', .int .i64 b', .int .i64 c', .int .i64 e', .int .i64 f'])).run Try.prog w = .ok (decide ([a, b, c, e, f] = [a', b', c', e', f'])) w := by
  rw [show d + 2 = (d + 1) + 1 from rfl, run_equalIn_struct w (d + 1) 56 _ _ (by kernel_rfl) (by kernel_rfl)]
  have hf := fields_op
  generalize (Try.prog.fieldsOf 56).toList = fs at hf
  refine eqFields_ints d _ _ w fs _ _ (by have := congrArg List.length hf; simpa using this) (by have := congrArg List.length hf; simpa using this) ?_
  match fs, (show fs.length = 5 by have := congrArg List.length hf; simpa using this), hf with
  | [f0, f1, f2, f3, f4], _, hf =>
    simp only [List.map_cons, List.map_nil, List.cons.injEq, Prod.mk.injEq, and_true] at hf
    obtain ⟨⟨t0, o0, n0⟩, ⟨t1, o1, n1⟩, ⟨t2, o2, n2⟩, ⟨t3, o3, n3⟩, t4, o4, n4⟩ := hf
    intro i f x y e1 e2 e3
    match i with
    | 0 => simp at e1 e2 e3; subst e1 e2 e3; exact ⟨t0, n0, by simp [o0], by simp [o0]⟩
    | 1 => simp at e1 e2 e3; subst e1 e2 e3; exact ⟨t1, n1, by simp [o1], by simp [o1]⟩
    | 2 => simp at e1 e2 e3; subst e1 e2 e3; exact ⟨t2, n2, by simp [o2], by simp [o2]⟩
    | 3 => simp at e1 e2 e3; subst e1 e2 e3; exact ⟨t3, n3, by simp [o3], by simp [o3]⟩
    | 4 => simp at e1 e2 e3; subst e1 e2 e3; exact ⟨t4, n4, by simp [o4], by simp [o4]⟩
    | i + 5 => simp at e1

theorem part_op (x0 x1 x2 x3 x4 x5 x6 x7 : Int) (w : World) : (part 56 #[.int .i64 x0, .int .i64 x1, .int .i64 x2, .int .i64 x3, .int .i64 x4, .int .i64 x5, .int .i64 x6, .int .i64 x7] 3).run Try.prog w = .ok (.agg #[.int .i64 x3, .int .i64 x4, .int .i64 x5, .int .i64 x6, .int .i64 x7]) w := by
  have hs : (sizeOf 56).run Try.prog w = .ok 5 w := by kernel_rfl
  have hag : (isAgg 56).run Try.prog w = .ok true w := by kernel_rfl
  simp [part, hs, hag]

def eqC (c d : Cmdv) : Bool := decide (c.ints = d.ints)
theorem equal_cmd (d : Nat) (c e : Cmdv) (w : World) : (Op.equalIn (d + 3) 58 (.agg #[.int .i64 c.s, .int .i64 c.q, .int .i64 c.a, .int .i64 c.k, .int .i64 c.r, .int .i64 c.t, .int .i64 c.re, .int .i64 c.im]) (.agg #[.int .i64 e.s, .int .i64 e.q, .int .i64 e.a, .int .i64 e.k, .int .i64 e.r, .int .i64 e.t, .int .i64 e.re, .int .i64 e.im])).run Try.prog w = .ok (eqC c e) w := by
  rw [show d + 3 = (d + 2) + 1 from rfl, run_equalIn_struct w (d + 2) 58 _ _ (by kernel_rfl) (by kernel_rfl)]
  have hf := fields_cmd
  generalize (Try.prog.fieldsOf 58).toList = fs at hf
  match fs, (show fs.length = 4 by have := congrArg List.length hf; simpa using this), hf with
  | [f0, f1, f2, f3], _, hf =>
    simp only [List.map_cons, List.map_nil, List.cons.injEq, Prod.mk.injEq, and_true] at hf
    obtain ⟨⟨t0, o0, n0⟩, ⟨t1, o1, n1⟩, ⟨t2, o2, n2⟩, t3, o3, n3⟩ := hf
    have m0 : f0.name ≠ "_" := by simpa using n0
    have m1 : f1.name ≠ "_" := by simpa using n1
    have m2 : f2.name ≠ "_" := by simpa using n2
    have m3 : f3.name ≠ "_" := by simpa using n3
    have he := fun a b => run_equalIn_int (P := Try.prog) w (d + 1) 3 .i64 .i64 a b Try.underlying3
    have ho := equal_op d c.k c.r c.t c.re c.im e.k e.r e.t e.re e.im w
    simp only [Op.eqFields, Sem.run_bind, Sem.run_ite, if_pos m0, if_pos m1, if_pos m2, if_pos m3, t0, t1, t2, t3, o0, o1, o2, o3, part_op, Result.andThen_ok,
      part_int (#[.int .i64 c.s, .int .i64 c.q, .int .i64 c.a, .int .i64 c.k, .int .i64 c.r, .int .i64 c.t, .int .i64 c.re, .int .i64 c.im] : Array Value) 0 c.s rfl, part_int (#[.int .i64 c.s, .int .i64 c.q, .int .i64 c.a, .int .i64 c.k, .int .i64 c.r, .int .i64 c.t, .int .i64 c.re, .int .i64 c.im] : Array Value) 1 c.q rfl, part_int (#[.int .i64 c.s, .int .i64 c.q, .int .i64 c.a, .int .i64 c.k, .int .i64 c.r, .int .i64 c.t, .int .i64 c.re, .int .i64 c.im] : Array Value) 2 c.a rfl,
      part_int (#[.int .i64 e.s, .int .i64 e.q, .int .i64 e.a, .int .i64 e.k, .int .i64 e.r, .int .i64 e.t, .int .i64 e.re, .int .i64 e.im] : Array Value) 0 e.s rfl, part_int (#[.int .i64 e.s, .int .i64 e.q, .int .i64 e.a, .int .i64 e.k, .int .i64 e.r, .int .i64 e.t, .int .i64 e.re, .int .i64 e.im] : Array Value) 1 e.q rfl, part_int (#[.int .i64 e.s, .int .i64 e.q, .int .i64 e.a, .int .i64 e.k, .int .i64 e.r, .int .i64 e.t, .int .i64 e.re, .int .i64 e.im] : Array Value) 2 e.a rfl, he, ho]
    unfold eqC Cmdv.ints
    by_cases h0 : c.s = e.s
    · by_cases h1 : c.q = e.q
      · by_cases h2 : c.a = e.a
        · by_cases h3 : [c.k, c.r, c.t, c.re, c.im] = [e.k, e.r, e.t, e.re, e.im]
          · simp [h0, h1, h2, h3]
          · have h3' : ¬ [c.s, c.q, c.a, c.k, c.r, c.t, c.re, c.im] = [e.s, e.q, e.a, e.k, e.r, e.t, e.re, e.im] := fun h => h3 (congrArg (List.drop 3) h)
            rw [decide_eq_false h3, decide_eq_false h3']
            simp [h0, h1, h2]
        · simp [h0, h1, h2]
      · simp [h0, h1]
    · simp [h0]

def eqCs (cs ds : List Cmdv) : Bool := decide (cs.map Cmdv.ints = ds.map Cmdv.ints)

set_option maxHeartbeats 400000 in
theorem equalI_any (A A' : Option Addr) (n n' c c' B B' : Nat) (xs ys : List Int) (w : World) (hx : HasI w B A xs) (hy : HasI w B' A' ys) (hn : xs.length = n) (hn' : ys.length = n') (hl : n ≤ 140737488355328) :
    Calls Try.prog 72 #[.slice A n c, .slice A' n' c'] w fun e w' => e = .returned (.bool (decide (xs = ys))) ∧ ∃ n, w.drewN n = w' := by
  subst hn hn'
  by_cases he : xs.length = ys.length
  · have t1 : ((xs.length : Int) != (ys.length : Int)) = false := by simp [he]
    have HE := hide he
    clear he
    go_enter Try.func72, Try.ntmps72
    go_wp2
    go_loopw [13] (fun i wr => ∃ k m : Nat, k ≤ xs.length ∧ i = .int .i64 k ∧ Hid (xs.take k = ys.take k) ∧ w.drewN m = wr) (fun i _ => xs.length - (intOf i).toNat)
    case atStart => exact ⟨0, 0, Nat.zero_le _, rfl, rfl, rfl⟩
    case round =>
      obtain ⟨k, m, hk, rfl, HT, rfl⟩ := hrel
      by_cases hlt : k < xs.length
      · have hlt' : k < ys.length := by have := HE.out; omega
        obtain ⟨b, o, rfl, hb, hc⟩ := hx k hlt
        obtain ⟨b', o', rfl, hb', hc'⟩ := hy k hlt'
        have i1 : (k : Int) < (xs.length : Int) := by omega
        have i2 : (k : Int) < (ys.length : Int) := by omega
        have i3 : (0 : Int) ≤ (k : Int) := by omega
        by_cases hxy : xs[k] = ys[k]
        · have t2 : (xs[k] != ys[k]) = false := by simp [hxy]
          have HN : Hid (xs.take (k + 1) = ys.take (k + 1)) := hide (by rw [List.take_succ_eq_append_getElem hlt, List.take_succ_eq_append_getElem hlt', HT.out, hxy])
          clear hxy
          go_wp2_with fail
          go_quiet (fail)
          go_wp2
          go_roundw
          case rel => exact ⟨k + 1, m + nq, by omega, by go_num, HN, by simp⟩
          case measure => simp [intOf]; omega
        · have t2 : (xs[k] != ys[k]) = true := by simpa using hxy
          have HN : Hid (xs ≠ ys) := hide (by rintro rfl; exact hxy rfl)
          clear hxy
          go_wp2_with fail
          go_quiet (fail)
          go_wp2
          go_ret
          exact ⟨by rw [decide_eq_false HN.out]; rfl, m + nq, by simp⟩
      · go_wp2
        go_ret
        have e : k = xs.length := by omega
        subst e
        have hxy : xs = ys := by
          have := HT.out
          rw [List.take_length, HE.out, List.take_length] at this
          exact this
        exact ⟨by rw [decide_eq_true hxy]; rfl, m, rfl⟩
  · have t1 : ((xs.length : Int) != (ys.length : Int)) = true := by simp; omega
    have HN : Hid (xs ≠ ys) := hide (by rintro rfl; exact he rfl)
    clear he
    go_enter Try.func72, Try.ntmps72
    go_wp2
    go_ret
    exact ⟨by rw [decide_eq_false HN.out]; rfl, 0, rfl⟩
set_option maxHeartbeats 400000 in
theorem rints_any (A A' : Option Addr) (n n' c c' B B' : Nat) (xs ys : List Int) (w : World) (hx : HasI w B A xs) (hy : HasI w B' A' ys) (hn : xs.length = n) (hn' : ys.length = n') (hl : n ≤ 140737488355328) :
    Calls Try.prog 29 #[.slice A n c, .slice A' n' c'] w fun e w' => e = .returned (.bool (decide (xs = ys))) ∧ ∃ n, w.drewN n = w' := by
  subst hn hn'
  by_cases he : xs.length = ys.length
  · have t1 : ((xs.length : Int) != (ys.length : Int)) = false := by simp [he]
    have HE := hide he
    clear he
    go_enter Try.func29, Try.ntmps29
    go_wp2
    go_loopw [13] (fun i wr => ∃ k m : Nat, k ≤ xs.length ∧ i = .int .i64 k ∧ Hid (xs.take k = ys.take k) ∧ w.drewN m = wr) (fun i _ => xs.length - (intOf i).toNat)
    case atStart => exact ⟨0, 0, Nat.zero_le _, rfl, rfl, rfl⟩
    case round =>
      obtain ⟨k, m, hk, rfl, HT, rfl⟩ := hrel
      by_cases hlt : k < xs.length
      · have hlt' : k < ys.length := by have := HE.out; omega
        obtain ⟨b, o, rfl, hb, hc⟩ := hx k hlt
        obtain ⟨b', o', rfl, hb', hc'⟩ := hy k hlt'
        have i1 : (k : Int) < (xs.length : Int) := by omega
        have i2 : (k : Int) < (ys.length : Int) := by omega
        have i3 : (0 : Int) ≤ (k : Int) := by omega
        by_cases hxy : xs[k] = ys[k]
        · have t2 : (xs[k] != ys[k]) = false := by simp [hxy]
          have HN : Hid (xs.take (k + 1) = ys.take (k + 1)) := hide (by rw [List.take_succ_eq_append_getElem hlt, List.take_succ_eq_append_getElem hlt', HT.out, hxy])
          clear hxy
          go_wp2_with fail
          go_quiet (fail)
          go_wp2
          go_roundw
          case rel => exact ⟨k + 1, m + nq, by omega, by go_num, HN, by simp⟩
          case measure => simp [intOf]; omega
        · have t2 : (xs[k] != ys[k]) = true := by simpa using hxy
          have HN : Hid (xs ≠ ys) := hide (by rintro rfl; exact hxy rfl)
          clear hxy
          go_wp2_with fail
          go_quiet (fail)
          go_wp2
          go_ret
          exact ⟨by rw [decide_eq_false HN.out]; rfl, m + nq, by simp⟩
      · go_wp2
        go_ret
        have e : k = xs.length := by omega
        subst e
        have hxy : xs = ys := by
          have := HT.out
          rw [List.take_length, HE.out, List.take_length] at this
          exact this
        exact ⟨by rw [decide_eq_true hxy]; rfl, m, rfl⟩
  · have t1 : ((xs.length : Int) != (ys.length : Int)) = true := by simp; omega
    have HN : Hid (xs ≠ ys) := hide (by rintro rfl; exact he rfl)
    clear he
    go_enter Try.func29, Try.ntmps29
    go_wp2
    go_ret
    exact ⟨by rw [decide_eq_false HN.out]; rfl, 0, rfl⟩
end Go.Proofs.Ytnngmapphacpkaa
