/-
  From a reading of an argument to the words of the walks: a slice of operations. No condition but the reach of what is read.
-/
import Derived.Test.YtogkgmbldmfpiaaFrameG
import Derived.Test.YtogkgmbldmfpiaaAppScript
import Derived.Deep.Slices
set_option linter.unusedSimpArgs false
set_option linter.unusedVariables false
namespace Go.Proofs.Ytogkgmbldmfpiaa
open Go.ChangeShapes Go.WideShapes Go.ChangeAt Go.RowKit

theorem cells_int1 : Try.prog.cellsOf 3 = 1 := by kernel_rfl
theorem cells_op : Try.prog.cellsOf 40 = 5 := by kernel_rfl
theorem bytesOf_op : Try.prog.bytesOf 40 = 40 := by kernel_rfl

theorem op_value {H : Type} {enc : TypeId × Value → H} {W : World} {fuel : Nat} {cs : List Value} {d : DataW H} {pl : List MemPlace} (hl : cs.length = 5)
    (h : DataW.trod enc Try.prog W 0 (fun _ => true) true fuel 40 cs = some (d, pl)) : ∃ q : Opv, cs = [.int .i64 q.k, .int .i64 q.r, .int .i64 q.t, .int .i64 q.re, .int .i64 q.im] := by
  obtain ⟨ys, n', _, hx, _, hyl, hf⟩ := DataW.trod_struct Try.underlying40 h
  match cs, hl with
  | [v0, v1, v2, v3, v4], _ =>
    match ys, hyl with
    | [y0, y1, y2, y3, y4], _ =>
      have h0 : DataW.trod enc Try.prog W 0 (fun _ => true) true n' 3 [v0] = some y0 := by simpa [cells_int1] using hf 0 _ rfl
      have h1 : DataW.trod enc Try.prog W 0 (fun _ => true) true n' 3 [v1] = some y1 := by simpa [cells_int1] using hf 1 _ rfl
      have h2 : DataW.trod enc Try.prog W 0 (fun _ => true) true n' 3 [v2] = some y2 := by simpa [cells_int1] using hf 2 _ rfl
      have h3 : DataW.trod enc Try.prog W 0 (fun _ => true) true n' 3 [v3] = some y3 := by simpa [cells_int1] using hf 3 _ rfl
      have h4 : DataW.trod enc Try.prog W 0 (fun _ => true) true n' 3 [v4] = some y4 := by simpa [cells_int1] using hf 4 _ rfl
      obtain ⟨k0, e0, rfl, _⟩ := DataW.trod_int Try.underlying3 h0
      obtain ⟨k1, e1, rfl, _⟩ := DataW.trod_int Try.underlying3 h1
      obtain ⟨k2, e2, rfl, _⟩ := DataW.trod_int Try.underlying3 h2
      obtain ⟨k3, e3, rfl, _⟩ := DataW.trod_int Try.underlying3 h3
      obtain ⟨k4, e4, rfl, _⟩ := DataW.trod_int Try.underlying3 h4
      injection e0 with e0
      injection e1 with e1
      injection e2 with e2
      injection e3 with e3
      injection e4 with e4
      subst e0 e1 e2 e3 e4
      exact ⟨⟨k0, k1, k2, k3, k4⟩, rfl⟩

theorem open_ops {H : Type} {enc : TypeId × Value → H} {W : World} {a : Option Addr} {len cap : Nat} {d : DataW H} {pl : List MemPlace}
    (h : DataW.Trod enc Try.prog W 0 (fun _ => true) true 48 (.slice a len cap) d pl) {ty : List TypeId} {ds : List (DataW H)}
    (hs : (DataW.weightsEach Try.prog ty ds).all (· ≤ reachBytes) = true) {j : Nat} (ht : ty[j]? = some 48) (hd : ds[j]? = some d) :
    ∃ ts, HasO W W.heap.size a ts ∧ ts.length = len ∧ ts.length ≤ 140737488351232 := by
  obtain ⟨fuel, hf⟩ := h
  rcases Go.Deep.open_slice Try.underlying48 hf with ⟨hcs, _⟩ | ⟨x, l, c, m, n, D, Pl, hcs, _, hl, _, hm, hx, hcell⟩
  · simp [Value.cells] at hcs
    obtain ⟨rfl, rfl, rfl⟩ := hcs
    exact ⟨[], fun k hk => absurd hk (by simp), rfl, by simp⟩
  · simp [Value.cells] at hcs
    obtain ⟨rfl, rfl, rfl⟩ := hcs
    simp only [if_true] at hm
    obtain rfl := (Prod.mk.inj hx).1
    have hsz := sized_slice hs ht hd Try.underlying48
    rw [bytesOf_op] at hsz
    simp [reachBytes] at hsz
    rw [cells_op] at hcell
    obtain ⟨F, hF⟩ := Go.Deep.choose_lt (α := Opv) (n := len) (p := fun i q => ∀ j v, ([Value.int .i64 q.k, .int .i64 q.r, .int .i64 q.t, .int .i64 q.re, .int .i64 q.im] : List Value)[j]? = some v → W.cell? ((x.add (i * 5)).add j) = some v) (fun i hi => by
      obtain ⟨cs', hc, ht⟩ := hcell i (by omega)
      obtain ⟨_, hlen, hat⟩ := World.cells?_some hc
      obtain ⟨q, rfl⟩ := op_value hlen ht
      refine ⟨q, fun j v hj => ?_⟩
      have hj' : j < 5 := by
        rcases Nat.lt_or_ge j 5 with h | h
        · exact h
        · rw [List.getElem?_eq_none (by simpa using h)] at hj; cases hj
      rw [hat j hj', hj])
    refine ⟨(List.range len).map F, fun k hk => ?_, by simp, by simp; omega⟩
    have hk' : k < len := by simpa using hk
    have e : ((List.range len).map F)[k] = F k := by simp
    have h1 := hF k hk'
    rw [e]
    generalize F k = q at *
    have g0 := h1 0 _ rfl
    have g1 := h1 1 _ rfl
    have g2 := h1 2 _ rfl
    have g3 := h1 3 _ rfl
    have g4 := h1 4 _ rfl
    obtain ⟨b, o, s⟩ := x
    have hs : s = none := by
      have h6 := hF 0 (by omega)
      have := World.cell?_spot (h6 0 _ rfl)
      simpa [Addr.add] using this
    subst hs
    have ea : ∀ j, ((⟨b, o, none⟩ : Addr).add (k * 5)).add j = ⟨b, o + k * 5 + j, none⟩ := by
      intro j
      rw [Go.Deep.add_add]
      unfold Addr.add
      split <;> simp_all <;> omega
    rw [ea] at g0 g1 g2 g3 g4
    exact ⟨b, o, rfl, cell_lt g0, g0, g1, g2, g3, g4⟩

theorem open_op {H : Type} {enc : TypeId × Value → H} {W : World} {base : Nat} {v : Value} {d : DataW H} {p : List MemPlace} (hv : Value.okWide Try.prog W .any base 40 v)
    (h : DataW.Trod enc Try.prog W 0 (fun _ => true) true 40 v d p) : ∃ q : Opv, v = .agg #[.int .i64 q.k, .int .i64 q.r, .int .i64 q.t, .int .i64 q.re, .int .i64 q.im] := by
  obtain ⟨cs, rfl, hsz⟩ := okWide_struct Try.underlying40 hv
  obtain ⟨fuel, hf⟩ := h
  obtain ⟨q, e⟩ := op_value (by have := hsz.trans cells_op; simpa [Value.cells] using this) hf
  exact ⟨q, by rw [show cs = cs.toList.toArray from by simp]; simp only [Value.cells] at e; rw [e]⟩

theorem cells_reg : Try.prog.cellsOf 37 = 2 := by kernel_rfl
theorem cells_regs : Try.prog.cellsOf 38 = 16 := by kernel_rfl

theorem reg_value {H : Type} {enc : TypeId × Value → H} {W : World} {fuel : Nat} {cs : List Value} {x : DataW H × List MemPlace} (hl : cs.length = 2)
    (h : DataW.trod enc Try.prog W 0 (fun _ => true) true fuel 37 cs = some x) : ∃ a b : Int, cs = [.int .i64 a, .int .i64 b] := by
  obtain ⟨ys, n', _, hx, _, hyl, hf⟩ := DataW.trod_struct Try.underlying37 h
  match cs, hl with
  | [v0, v1], _ =>
    match ys, hyl with
    | [y0, y1], _ =>
      have h0 : DataW.trod enc Try.prog W 0 (fun _ => true) true n' 3 [v0] = some y0 := by simpa [cells_int1] using hf 0 _ rfl
      have h1 : DataW.trod enc Try.prog W 0 (fun _ => true) true n' 3 [v1] = some y1 := by simpa [cells_int1] using hf 1 _ rfl
      obtain ⟨k0, e0, rfl, _⟩ := DataW.trod_int Try.underlying3 h0
      obtain ⟨k1, e1, rfl, _⟩ := DataW.trod_int Try.underlying3 h1
      injection e0 with e0
      injection e1 with e1
      subst e0 e1
      exact ⟨k0, k1, rfl⟩

theorem open_regs {H : Type} {enc : TypeId × Value → H} {W : World} {base : Nat} {v : Value} {d : DataW H} {p : List MemPlace} (hv : Value.okWide Try.prog W .any base 38 v)
    (h : DataW.Trod enc Try.prog W 0 (fun _ => true) true 38 v d p) : ∃ S : Nat → Int, v = .agg (cl S).toArray := by
  have hv' := hv
  simp only [Value.okWide, Try.underlying38] at hv'
  obtain ⟨cs, rfl, hsz, _⟩ := hv'
  obtain ⟨fuel, hf⟩ := h
  obtain ⟨xs, m, _, _, _, hxl, hel⟩ := DataW.trod_array Try.underlying38 hf
  simp only [Value.cells] at hel
  rw [cells_regs] at hsz
  refine ⟨fun i => match cs[i]? with | some (.int _ n) => n | _ => 0, ?_⟩
  congr 1
  apply Array.ext'
  apply List.ext_getElem?
  intro i
  by_cases hi : i < 16
  · rw [cl_get _ i hi]
    have h1 := hel (i / 2) (by omega)
    rw [cells_reg, List.getElem?_eq_getElem (by omega : i / 2 < xs.length)] at h1
    obtain ⟨a, b, e⟩ := reg_value (by simp; omega) h1
    have e0 := congrArg (fun l => l[0]?) e
    have e1 := congrArg (fun l => l[1]?) e
    simp only [List.getElem?_take, List.getElem?_drop, List.getElem?_cons_zero, List.getElem?_cons_succ] at e0 e1
    rcases Nat.mod_two_eq_zero_or_one i with h2 | h2
    · rw [if_pos (by omega), show i / 2 * 2 + 0 = i from by omega] at e0
      rw [Array.getElem?_toList] at e0 ⊢
      rw [e0]
    · rw [if_pos (by omega), show i / 2 * 2 + 1 = i from by omega] at e1
      rw [Array.getElem?_toList] at e1 ⊢
      rw [e1]
  · rw [List.getElem?_eq_none (by simp; omega), List.getElem?_eq_none (by simp [cl_length]; omega)]
end Go.Proofs.Ytogkgmbldmfpiaa
