/-
  From a reading of an argument to the words of the walks: slices of int, ballots. No condition but the reach of what is read.
-/
import Derived.Test.YtgdncmkhcdmjoaaFrameG
import Derived.Test.YtgdncmkhcdmjoaaInts
import Derived.Deep.Slices
set_option linter.unusedSimpArgs false
set_option linter.unusedVariables false
namespace Go.Proofs.Ytgdncmkhcdmjoaa
open Go.ChangeShapes Go.WideShapes Go.ChangeAt Go.RowKit

theorem cells_int1 : Try.prog.cellsOf 3 = 1 := by kernel_rfl
theorem bytesOf_int : Try.prog.bytesOf 3 = 8 := by kernel_rfl
theorem cells_bal : Try.prog.cellsOf 46 = 2 := by kernel_rfl

/-- A number of 64 bits. -/
structure In64 (n : Int) : Prop where
  lo : -9223372036854775808 ≤ n
  hi : n ≤ 9223372036854775807
theorem in64_of {n : Int} (h : (Lit.int .i64 n).wf = true) : In64 n := ⟨i64_lo h, i64_hi h⟩

theorem open_intsv {H : Type} {enc : TypeId × Value → H} {W : World} {a : Option Addr} {len cap : Nat} {d : DataW H} {pl : List MemPlace}
    (h : DataW.Trod enc Try.prog W 0 (fun _ => true) true 22 (.slice a len cap) d pl) {ty : List TypeId} {ds : List (DataW H)}
    (hs : (DataW.weightsEach Try.prog ty ds).all (· ≤ reachBytes) = true) {j : Nat} (ht : ty[j]? = some 22) (hd : ds[j]? = some d) :
    ∃ xs, HasI W W.heap.size a xs ∧ xs.length = len ∧ len ≤ 17592186043904 ∧ ∀ x ∈ xs, In64 x := by
  obtain ⟨fuel, hf⟩ := h
  rcases Go.Deep.open_slice Try.underlying22 hf with ⟨hcs, _⟩ | ⟨x, l, c, m, n, D, Pl, hcs, _, hl, _, hm, hx, hcell⟩
  · simp [Value.cells] at hcs
    obtain ⟨rfl, rfl, rfl⟩ := hcs
    exact ⟨[], fun k hk => absurd hk (by simp), rfl, by simp, by simp⟩
  · simp [Value.cells] at hcs
    obtain ⟨rfl, rfl, rfl⟩ := hcs
    simp only [if_true] at hm
    obtain rfl := (Prod.mk.inj hx).1
    have hsz := sized_slice hs ht hd Try.underlying22
    rw [bytesOf_int] at hsz
    simp [reachBytes] at hsz
    rw [cells_int1] at hcell
    obtain ⟨F, hF⟩ := Go.Deep.choose_lt (α := Int) (n := len) (p := fun i q => W.cell? (x.add (i * 1)) = some (.int .i64 q) ∧ In64 q) (fun i hi => by
      obtain ⟨cs', hc, ht⟩ := hcell i (by omega)
      obtain ⟨_, hlen, hat⟩ := World.cells?_some hc
      obtain ⟨q, rfl, _, hwf⟩ := DataW.trod_int Try.underlying3 ht
      refine ⟨q, ?_, in64_of hwf⟩
      have := hat 0 (by omega)
      simp only [List.getElem?_cons_zero] at this
      rw [← this]
      congr 1)
    refine ⟨(List.range len).map F, fun k hk => ?_, by simp, by omega, ?_⟩
    · have hk' : k < len := by simpa using hk
      have e : ((List.range len).map F)[k] = F k := by simp
      have h1 := (hF k hk').1
      rw [e]
      generalize F k = q at *
      obtain ⟨b, o, s⟩ := x
      have hs : s = none := by
        have := World.cell?_spot (hF 0 (by omega)).1
        simpa [Addr.add] using this
      subst hs
      have ea : (⟨b, o, none⟩ : Addr).add (k * 1) = ⟨b, o + k, none⟩ := by
        unfold Addr.add
        split <;> simp_all
      rw [ea] at h1
      exact ⟨b, o, rfl, cell_lt h1, h1⟩
    · intro y hy
      obtain ⟨i, hi, rfl⟩ := List.mem_map.1 hy
      exact (hF i (by simpa using hi)).2

set_option maxRecDepth 20000 in
theorem bal_value {H : Type} {enc : TypeId × Value → H} {W : World} {fuel : Nat} {cs : List Value} {x : DataW H × List MemPlace} (hl : cs.length = 2)
    (h : DataW.trod enc Try.prog W 0 (fun _ => true) true fuel 46 cs = some x) : ∃ a b : Int, cs = [.int .i64 a, .int .i64 b] ∧ In64 a ∧ In64 b := by
  obtain ⟨ys, n', _, hx, _, hyl, hf⟩ := DataW.trod_struct Try.underlying46 h
  match cs, hl with
  | [v0, v1], _ =>
    match ys, hyl with
    | [y0, y1], _ =>
      have h0 : DataW.trod enc Try.prog W 0 (fun _ => true) true n' 3 [v0] = some y0 := by simpa [cells_int1] using hf 0 _ rfl
      have h1 : DataW.trod enc Try.prog W 0 (fun _ => true) true n' 3 [v1] = some y1 := by simpa [cells_int1] using hf 1 _ rfl
      obtain ⟨k0, e0, rfl, w0⟩ := DataW.trod_int Try.underlying3 h0
      obtain ⟨k1, e1, rfl, w1⟩ := DataW.trod_int Try.underlying3 h1
      injection e0 with e0
      injection e1 with e1
      subst e0 e1
      exact ⟨k0, k1, rfl, in64_of w0, in64_of w1⟩

set_option maxRecDepth 20000 in
theorem open_bal {H : Type} {enc : TypeId × Value → H} {W : World} {base : Nat} {v : Value} {d : DataW H} {p : List MemPlace} (hv : Value.okWide Try.prog W .any base 46 v)
    (h : DataW.Trod enc Try.prog W 0 (fun _ => true) true 46 v d p) : ∃ a b : Int, v = .agg #[.int .i64 a, .int .i64 b] ∧ In64 a ∧ In64 b := by
  obtain ⟨cs, rfl, hsz⟩ := okWide_struct Try.underlying46 hv
  obtain ⟨fuel, hf⟩ := h
  obtain ⟨a, b, e, ha, hb⟩ := bal_value (by have := hsz.trans cells_bal; simpa [Value.cells] using this) hf
  exact ⟨a, b, by rw [show cs = cs.toList.toArray from by simp]; simp only [Value.cells] at e; rw [e], ha, hb⟩
end Go.Proofs.Ytgdncmkhcdmjoaa
