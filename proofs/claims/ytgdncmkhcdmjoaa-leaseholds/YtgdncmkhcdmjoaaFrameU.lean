/-
  From a reading of an argument to the words of the walks: a slice of steps over granters and holders. No condition but the reach of what is read.
-/
import Derived.Test.YtgdncmkhcdmjoaaFrameB
import Derived.Test.YtgdncmkhcdmjoaaLeaseH
import Derived.Deep.Slices
set_option linter.unusedSimpArgs false
set_option linter.unusedVariables false
namespace Go.Proofs.Ytgdncmkhcdmjoaa
open Go.ChangeShapes Go.WideShapes Go.ChangeAt Go.RowKit

theorem cells_gop5 : Try.prog.cellsOf 51 = 5 := by kernel_rfl
theorem bytesOf_gop : Try.prog.bytesOf 51 = 40 := by kernel_rfl
instance : Inhabited Gop := ⟨⟨0, 0, 0, 0, 0⟩⟩

/-- Each block of what is read is in reach. -/
def Light {H : Type} (t : TypeId) (d : DataW H) : Prop := ∀ n ∈ d.weights Try.prog t, n ≤ reachBytes
theorem Light.of_each {H : Type} {ty : List TypeId} {ds : List (DataW H)} (hs : (DataW.weightsEach Try.prog ty ds).all (· ≤ reachBytes) = true) {j : Nat} {t : TypeId} {d : DataW H} (ht : ty[j]? = some t) (hd : ds[j]? = some d) : Light t d :=
  fun n hn => by simpa using List.all_eq_true.1 hs n (DataW.weights_mem_each ht hd n hn)
theorem Light.slice {H : Type} {t e : TypeId} {xs ys : List (DataW H)} (h : Light t (.slice xs ys)) (hu : Try.prog.underlying t = some (.slice e)) : (xs.length + ys.length) * Try.prog.bytesOf e ≤ reachBytes :=
  h _ (by simp [DataW.weights, hu])
section
variable {H : Type} {enc : TypeId × Value → H} {W : World}
set_option maxRecDepth 20000 in
theorem gop_value {fuel : Nat} {cs : List Value} {x : DataW H × List MemPlace} (hl : cs.length = 5) (h : DataW.trod enc Try.prog W 0 (fun _ => true) true fuel 51 cs = some x) : ∃ q : Gop, cs = q.cells ∧ (Lit.int .i64 q.M).wf = true := by
  obtain ⟨ys, n', _, hx, _, hyl, hf⟩ := DataW.trod_struct Try.underlying51 h
  match cs, hl with
  | [v0, v1, v2, v3, v4], _ =>
    match ys, hyl with
    | [y0, y1, y2, y3], _ =>
      have h0 : DataW.trod enc Try.prog W 0 (fun _ => true) true n' 3 [v0] = some y0 := by simpa [cells_int1] using hf 0 _ rfl
      have h1 : DataW.trod enc Try.prog W 0 (fun _ => true) true n' 46 [v1, v2] = some y1 := by simpa [cells_bal] using hf 1 _ rfl
      have h2 : DataW.trod enc Try.prog W 0 (fun _ => true) true n' 3 [v3] = some y2 := by simpa [cells_int1] using hf 2 _ rfl
      have h3 : DataW.trod enc Try.prog W 0 (fun _ => true) true n' 3 [v4] = some y3 := by simpa [cells_int1] using hf 3 _ rfl
      obtain ⟨k0, e0, rfl, _⟩ := DataW.trod_int Try.underlying3 h0
      obtain ⟨a, b, eb, _, _⟩ := bal_value rfl h1
      obtain ⟨k2, e2, rfl, w2⟩ := DataW.trod_int Try.underlying3 h2
      obtain ⟨k3, e3, rfl, _⟩ := DataW.trod_int Try.underlying3 h3
      injection e0 with e0
      injection e2 with e2
      injection e3 with e3
      injection eb with a0 eb
      injection eb with a1 _
      subst e0 e2 e3 a0 a1
      exact ⟨⟨k0, a, b, k2, k3⟩, rfl, w2⟩
theorem open_gops {a : Option Addr} {len cap : Nat} {d : DataW H} {pl : List MemPlace} (h : DataW.Trod enc Try.prog W 0 (fun _ => true) true 42 (.slice a len cap) d pl) (hw : Light 42 d) :
    ∃ ts, HasGo W W.heap.size a ts ∧ ts.length = len ∧ len ≤ 3518437208883 := by
  obtain ⟨fuel, hf⟩ := h
  rcases Go.Deep.open_slice Try.underlying42 hf with ⟨hcs, _⟩ | ⟨x, l, c, m, n, D, Pl, hcs, _, hl, _, hm, hx, hcell⟩
  · simp [Value.cells] at hcs
    obtain ⟨rfl, rfl, rfl⟩ := hcs
    exact ⟨[], ⟨fun i hi => absurd hi (by simp), fun q hq => absurd hq (by simp)⟩, rfl, by simp⟩
  · simp [Value.cells] at hcs
    obtain ⟨rfl, rfl, rfl⟩ := hcs
    simp only [if_true] at hm
    obtain rfl := (Prod.mk.inj hx).1
    have hsz := hw.slice Try.underlying42
    rw [bytesOf_gop] at hsz
    simp [reachBytes] at hsz
    rw [cells_gop5] at hcell
    obtain ⟨F, hF⟩ := Go.Deep.choose_lt (α := Gop) (n := len) (p := fun i q => (∀ j v, q.cells[j]? = some v → W.cell? ((x.add (i * 5)).add j) = some v) ∧ (Lit.int .i64 q.M).wf = true) (fun i hi => by
      obtain ⟨cs', hc, ht⟩ := hcell i (by omega)
      obtain ⟨_, hlen, hat⟩ := World.cells?_some hc
      obtain ⟨q, rfl, hq⟩ := gop_value hlen ht
      refine ⟨q, fun j v hj => ?_, hq⟩
      have hj' : j < 5 := by
        rcases Nat.lt_or_ge j 5 with h | h
        · exact h
        · rw [List.getElem?_eq_none (by simpa [Gop.cells] using h)] at hj; cases hj
      rw [hat j hj', hj])
    refine ⟨(List.range len).map F, ⟨fun k hk => ?_, fun p hp => ?_⟩, by simp, by omega⟩
    · have hk' : k < len := by simpa using hk
      have e : ((List.range len).map F)[k] = F k := by simp
      obtain ⟨h1, _⟩ := hF k hk'
      rw [e]
      generalize F k = q at *
      have g0 := h1 0 _ rfl
      obtain ⟨b, o, s⟩ := x
      have hs : s = none := by
        obtain ⟨h6, _⟩ := hF 0 (by omega)
        have := World.cell?_spot (h6 0 _ rfl)
        simpa [Addr.add] using this
      subst hs
      have ea : ∀ j, ((⟨b, o, none⟩ : Addr).add (k * 5)).add j = ⟨b, o + k * 5 + j, none⟩ := by
        intro j
        rw [Go.Deep.add_add]
        unfold Addr.add
        split <;> simp_all <;> omega
      rw [ea] at g0
      refine ⟨b, o, rfl, cell_lt g0, fun i u hu => ?_⟩
      have g := h1 i u hu
      rw [ea] at g
      exact g
    · obtain ⟨i, hi, rfl⟩ := List.mem_map.1 hp
      exact (hF i (List.mem_range.1 hi)).2
end
end Go.Proofs.Ytgdncmkhcdmjoaa
