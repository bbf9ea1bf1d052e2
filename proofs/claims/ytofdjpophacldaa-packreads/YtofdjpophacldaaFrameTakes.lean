/-
  From a reading of an argument to the words of the walks: a slice of Takes. No condition but the reach of what is read.
-/
import Derived.Test.YtofdjpophacldaaFrame
import Derived.Test.YtofdjpophacldaaTakes
import Derived.Deep.Slices
namespace Go.Proofs.Ytofdjpophacldaa
open Go.ChangeShapes Go.WideShapes Go.ChangeAt Go.RowKit

theorem isInt_wf {n : Int} (h : (Lit.int .i64 n).wf = true) : IsInt n := by
  have := bounds_i64 h
  unfold IsInt
  omega
theorem cells_int1 : Try.prog.cellsOf 3 = 1 := by kernel_rfl
theorem cells_take : Try.prog.cellsOf 46 = 2 := by kernel_rfl
theorem bytesOf_take : Try.prog.bytesOf 46 = 16 := by kernel_rfl

theorem take_value {H : Type} {enc : TypeId × Value → H} {W : World} {fuel : Nat} {cs : List Value} {d : DataW H} {pl : List MemPlace} (hl : cs.length = 2)
    (h : DataW.trod enc Try.prog W 0 (fun _ => true) true fuel 46 cs = some (d, pl)) : ∃ q : Int × Int, cs = [.int .i64 q.1, .int .i64 q.2] ∧ IsInt q.1 ∧ IsInt q.2 := by
  obtain ⟨ys, n', _, hx, _, hyl, hf⟩ := DataW.trod_struct Try.underlying46 h
  match cs, hl with
  | [v0, v1], _ =>
    match ys, hyl with
    | [y0, y1], _ =>
      have h0 : DataW.trod enc Try.prog W 0 (fun _ => true) true n' 3 [v0] = some y0 := by simpa [cells_int1] using hf 0 _ rfl
      have h1 : DataW.trod enc Try.prog W 0 (fun _ => true) true n' 3 [v1] = some y1 := by simpa [cells_int1] using hf 1 _ rfl
      obtain ⟨k, hk, rfl, wk⟩ := DataW.trod_int Try.underlying3 h0
      obtain ⟨n, hn, rfl, wn⟩ := DataW.trod_int Try.underlying3 h1
      injection hk with hk
      injection hn with hn
      subst hk hn
      exact ⟨(k, n), rfl, isInt_wf wk, isInt_wf wn⟩

theorem open_takes {H : Type} {enc : TypeId × Value → H} {W : World} {a : Option Addr} {len cap : Nat} {d : DataW H} {pl : List MemPlace}
    (h : DataW.Trod enc Try.prog W 0 (fun _ => true) true 40 (.slice a len cap) d pl) {ty : List TypeId} {ds : List (DataW H)}
    (hs : (DataW.weightsEach Try.prog ty ds).all (· ≤ reachBytes) = true) {j : Nat} (ht : ty[j]? = some 40) (hd : ds[j]? = some d) :
    ∃ ts, HasT W W.heap.size a ts ∧ ts.length = len ∧ ts.length ≤ 140737488351232 := by
  obtain ⟨fuel, hf⟩ := h
  rcases Go.Deep.open_slice Try.underlying40 hf with ⟨hcs, _⟩ | ⟨x, l, c, m, n, D, Pl, hcs, _, hl, _, hm, hx, hcell⟩
  · simp [Value.cells] at hcs
    obtain ⟨rfl, rfl, rfl⟩ := hcs
    exact ⟨[], fun k hk => absurd hk (by simp), rfl, by simp⟩
  · simp [Value.cells] at hcs
    obtain ⟨rfl, rfl, rfl⟩ := hcs
    simp only [if_true] at hm
    obtain rfl := (Prod.mk.inj hx).1
    have hsz := sized_slice hs ht hd Try.underlying40
    rw [bytesOf_take] at hsz
    simp [reachBytes] at hsz
    rw [cells_take] at hcell
    obtain ⟨F, hF⟩ := Go.Deep.choose_lt (α := Int × Int) (n := len) (p := fun i q => (∀ j v, ([Value.int .i64 q.1, .int .i64 q.2] : List Value)[j]? = some v → W.cell? ((x.add (i * 2)).add j) = some v) ∧ IsInt q.1 ∧ IsInt q.2) (fun i hi => by
      obtain ⟨cs', hc, ht⟩ := hcell i (by omega)
      obtain ⟨_, hlen, hat⟩ := World.cells?_some hc
      obtain ⟨q, rfl, h1⟩ := take_value hlen ht
      refine ⟨q, fun j v hj => ?_, h1⟩
      have hj' : j < 2 := by
        rcases Nat.lt_or_ge j 2 with h | h
        · exact h
        · rw [List.getElem?_eq_none (by simpa using h)] at hj; cases hj
      rw [hat j hj', hj])
    refine ⟨(List.range len).map F, fun k hk => ?_, by simp, by simp; omega⟩
    have hk' : k < len := by simpa using hk
    have e : ((List.range len).map F)[k] = F k := by simp
    obtain ⟨h1, h2, h3⟩ := hF k hk'
    rw [e]
    generalize F k = q at *
    have g0 := h1 0 _ rfl
    have g1 := h1 1 _ rfl
    obtain ⟨b, o, s⟩ := x
    have hs : s = none := by
      obtain ⟨h6, _⟩ := hF 0 (by omega)
      have := World.cell?_spot (h6 0 _ rfl)
      simpa [Addr.add] using this
    subst hs
    have ea : ∀ j, ((⟨b, o, none⟩ : Addr).add (k * 2)).add j = ⟨b, o + k * 2 + j, none⟩ := by
      intro j
      rw [Go.Deep.add_add]
      unfold Addr.add
      split <;> simp_all <;> omega
    rw [ea] at g0 g1
    exact ⟨⟨b, o, rfl, cell_lt g0, g0, g1⟩, h2, h3⟩
end Go.Proofs.Ytofdjpophacldaa
