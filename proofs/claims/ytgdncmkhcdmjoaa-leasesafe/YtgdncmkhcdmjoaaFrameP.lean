/-
  From a reading of an argument to the words of the walks: a slice of stretches of time. No condition but the reach of what is read.
-/
import Derived.Test.YtgdncmkhcdmjoaaFrameB
import Derived.Test.YtgdncmkhcdmjoaaLeaseP
import Derived.Laws.IdiomArrays
import Derived.Deep.Slices
set_option linter.unusedSimpArgs false
set_option linter.unusedVariables false
namespace Go.Proofs.Ytgdncmkhcdmjoaa
open Go.ChangeShapes Go.WideShapes Go.ChangeAt Go.RowKit

theorem cells_pace8 : Try.prog.cellsOf 70 = 8 := by kernel_rfl
theorem cells_arr4 : Try.prog.cellsOf 68 = 4 := by kernel_rfl
theorem cells_bool1 : Try.prog.cellsOf 4 = 1 := by kernel_rfl
theorem bytesOf_pace : Try.prog.bytesOf 70 = 64 := by kernel_rfl
instance : Inhabited Pc := ⟨⟨0, 0, 0, 0, 0, 0, false, 0⟩⟩

/-- Each block of what is read is in reach. -/
def Light {H : Type} (t : TypeId) (d : DataW H) : Prop := ∀ n ∈ d.weights Try.prog t, n ≤ reachBytes
theorem Light.of_each {H : Type} {ty : List TypeId} {ds : List (DataW H)} (hs : (DataW.weightsEach Try.prog ty ds).all (· ≤ reachBytes) = true) {j : Nat} {t : TypeId} {d : DataW H} (ht : ty[j]? = some t) (hd : ds[j]? = some d) : Light t d :=
  fun n hn => by simpa using List.all_eq_true.1 hs n (DataW.weights_mem_each ht hd n hn)
theorem Light.slice {H : Type} {t e : TypeId} {xs ys : List (DataW H)} (h : Light t (.slice xs ys)) (hu : Try.prog.underlying t = some (.slice e)) : (xs.length + ys.length) * Try.prog.bytesOf e ≤ reachBytes :=
  h _ (by simp [DataW.weights, hu])
section
variable {H : Type} {enc : TypeId × Value → H} {W : World}
set_option maxRecDepth 20000 in
theorem pace_value {fuel : Nat} {cs : List Value} {x : DataW H × List MemPlace} (hl : cs.length = 8) (h : DataW.trod enc Try.prog W 0 (fun _ => true) true fuel 70 cs = some x) : ∃ q : Pc, cs = q.cells := by
  obtain ⟨ys, n', _, hx, _, hyl, hf⟩ := DataW.trod_struct Try.underlying70 h
  match cs, hl with
  | [v0, v1, v2, v3, v4, v5, v6, v7], _ =>
    match ys, hyl with
    | [y0, y1, y2, y3, y4], _ =>
      have h0 : DataW.trod enc Try.prog W 0 (fun _ => true) true n' 3 [v0] = some y0 := by simpa [cells_int1] using hf 0 _ rfl
      have h1 : DataW.trod enc Try.prog W 0 (fun _ => true) true n' 68 [v1, v2, v3, v4] = some y1 := by simpa [cells_arr4] using hf 1 _ rfl
      have h2 : DataW.trod enc Try.prog W 0 (fun _ => true) true n' 3 [v5] = some y2 := by simpa [cells_int1] using hf 2 _ rfl
      have h3 : DataW.trod enc Try.prog W 0 (fun _ => true) true n' 4 [v6] = some y3 := by simpa [cells_bool1] using hf 3 _ rfl
      have h4 : DataW.trod enc Try.prog W 0 (fun _ => true) true n' 3 [v7] = some y4 := by simpa [cells_int1] using hf 4 _ rfl
      obtain ⟨z0, z1, z2, z3, n2, _, g0, g1, g2, g3⟩ := trod_array4 Try.underlying68 cells_int1 h1
      obtain ⟨k0, e0, rfl, _⟩ := DataW.trod_int Try.underlying3 h0
      obtain ⟨k1, e1, rfl, _⟩ := DataW.trod_int Try.underlying3 g0
      obtain ⟨k2, e2, rfl, _⟩ := DataW.trod_int Try.underlying3 g1
      obtain ⟨k3, e3, rfl, _⟩ := DataW.trod_int Try.underlying3 g2
      obtain ⟨k4, e4, rfl, _⟩ := DataW.trod_int Try.underlying3 g3
      obtain ⟨k5, e5, rfl, _⟩ := DataW.trod_int Try.underlying3 h2
      obtain ⟨b6, e6, rfl⟩ := DataW.trod_bool Try.underlying4 h3
      obtain ⟨k7, e7, rfl, _⟩ := DataW.trod_int Try.underlying3 h4
      injection e0 with e0
      injection e1 with e1
      injection e2 with e2
      injection e3 with e3
      injection e4 with e4
      injection e5 with e5
      injection e6 with e6
      injection e7 with e7
      subst e0 e1 e2 e3 e4 e5 e6 e7
      exact ⟨⟨k0, k1, k2, k3, k4, k5, b6, k7⟩, rfl⟩
theorem open_paces {a : Option Addr} {len cap : Nat} {d : DataW H} {pl : List MemPlace} (h : DataW.Trod enc Try.prog W 0 (fun _ => true) true 66 (.slice a len cap) d pl) (hw : Light 66 d) :
    ∃ ts, HasPc W W.heap.size a ts ∧ ts.length = len ∧ len ≤ 2199023255552 := by
  obtain ⟨fuel, hf⟩ := h
  rcases Go.Deep.open_slice Try.underlying66 hf with ⟨hcs, _⟩ | ⟨x, l, c, m, n, D, Pl, hcs, _, hl, _, hm, hx, hcell⟩
  · simp [Value.cells] at hcs
    obtain ⟨rfl, rfl, rfl⟩ := hcs
    exact ⟨[], fun i hi => absurd hi (by simp), rfl, by simp⟩
  · simp [Value.cells] at hcs
    obtain ⟨rfl, rfl, rfl⟩ := hcs
    simp only [if_true] at hm
    obtain rfl := (Prod.mk.inj hx).1
    have hsz := hw.slice Try.underlying66
    rw [bytesOf_pace] at hsz
    simp [reachBytes] at hsz
    rw [cells_pace8] at hcell
    obtain ⟨F, hF⟩ := Go.Deep.choose_lt (α := Pc) (n := len) (p := fun i q => (∀ j v, q.cells[j]? = some v → W.cell? ((x.add (i * 8)).add j) = some v) ∧ True) (fun i hi => by
      obtain ⟨cs', hc, ht⟩ := hcell i (by omega)
      obtain ⟨_, hlen, hat⟩ := World.cells?_some hc
      obtain ⟨q, rfl⟩ := pace_value hlen ht
      refine ⟨q, fun j v hj => ?_, trivial⟩
      have hj' : j < 8 := by
        rcases Nat.lt_or_ge j 8 with h | h
        · exact h
        · rw [List.getElem?_eq_none (by simpa [Pc.cells] using h)] at hj; cases hj
      rw [hat j hj', hj])
    refine ⟨(List.range len).map F, fun k hk => ?_, by simp, by omega⟩
    have hk' : k < len := by simpa using hk
    have e : ((List.range len).map F)[k] = F k := by simp
    obtain ⟨h1, _⟩ := hF k hk'
    rw [e]
    generalize F k = q at *
    have g0 := h1 0 _ rfl
    obtain ⟨b, o, s⟩ := x
    have hs : s = none := by
      obtain ⟨h6, _⟩ := hF 0 (by omega)
      have := World.cell?_spot (h6 0 _ rfl)
      simpa [Addr.add] using this
    subst hs
    have ea : ∀ j, ((⟨b, o, none⟩ : Addr).add (k * 8)).add j = ⟨b, o + k * 8 + j, none⟩ := by
      intro j
      rw [Go.Deep.add_add]
      unfold Addr.add
      split <;> simp_all <;> omega
    rw [ea] at g0
    refine ⟨b, o, rfl, cell_lt g0, fun i u hu => ?_⟩
    have g := h1 i u hu
    rw [ea] at g
    exact g
end
end Go.Proofs.Ytgdncmkhcdmjoaa
