/-
  From a reading of an argument to the words of the walks: slices of int, ballots. No condition but the reach of what is read.
-/
import Derived.Test.YtpbfibofjkinmaaFrameG
import Derived.Test.YtpbfibofjkinmaaInts
import Derived.Deep.Slices
set_option linter.unusedSimpArgs false
set_option linter.unusedVariables false
namespace Go.Proofs.Ytpbfibofjkinmaa
open Go.ChangeShapes Go.WideShapes Go.ChangeAt Go.RowKit

theorem cells_int1 : Try.prog.cellsOf 3 = 1 := by kernel_rfl
theorem bytesOf_int : Try.prog.bytesOf 3 = 8 := by kernel_rfl
/-- A number of 64 bits. -/
structure In64 (n : Int) : Prop where
  lo : -9223372036854775808 ≤ n
  hi : n ≤ 9223372036854775807
theorem in64_of {n : Int} (h : (Lit.int .i64 n).wf = true) : In64 n := ⟨i64_lo h, i64_hi h⟩

theorem open_intsv {H : Type} {enc : TypeId × Value → H} {W : World} {a : Option Addr} {len cap : Nat} {d : DataW H} {pl : List MemPlace}
    (h : DataW.Trod enc Try.prog W 0 (fun _ => true) true 26 (.slice a len cap) d pl) {ty : List TypeId} {ds : List (DataW H)}
    (hs : (DataW.weightsEach Try.prog ty ds).all (· ≤ reachBytes) = true) {j : Nat} (ht : ty[j]? = some 26) (hd : ds[j]? = some d) :
    ∃ xs, HasI W W.heap.size a xs ∧ xs.length = len ∧ len ≤ 17592186043904 ∧ ∀ x ∈ xs, In64 x := by
  obtain ⟨fuel, hf⟩ := h
  rcases Go.Deep.open_slice Try.underlying26 hf with ⟨hcs, _⟩ | ⟨x, l, c, m, n, D, Pl, hcs, _, hl, _, hm, hx, hcell⟩
  · simp [Value.cells] at hcs
    obtain ⟨rfl, rfl, rfl⟩ := hcs
    exact ⟨[], fun k hk => absurd hk (by simp), rfl, by simp, by simp⟩
  · simp [Value.cells] at hcs
    obtain ⟨rfl, rfl, rfl⟩ := hcs
    simp only [if_true] at hm
    obtain rfl := (Prod.mk.inj hx).1
    have hsz := sized_slice hs ht hd Try.underlying26
    rw [bytesOf_int] at hsz
    simp [reachBytes] at hsz
    rw [cells_int1] at hcell
    obtain ⟨F, hF⟩ := Go.Deep.choose_lt (α := Int) (n := len) (p := fun i q => W.cell? (x.add (i * 1)) = some (.int .i64 q) ∧ In64 q) (fun i hi => by
      obtain ⟨cs', hc, ht⟩ := hcell i (by omega)
      obtain ⟨_, hlen, hat⟩ := World.cells?_some hc
      obtain ⟨q, rfl, _, hwf⟩ := DataW.trod_int Try.underlying3 ht
      refine ⟨q, ?_, in64_of hwf⟩
      have := hat 0 (by omega)
      simp only [List.getElem?_cons_zero] at this
      rw [← this]
      congr 1)
    refine ⟨(List.range len).map F, fun k hk => ?_, by simp, by omega, ?_⟩
    · have hk' : k < len := by simpa using hk
      have e : ((List.range len).map F)[k] = F k := by simp
      have h1 := (hF k hk').1
      rw [e]
      generalize F k = q at *
      obtain ⟨b, o, s⟩ := x
      have hs : s = none := by
        have := World.cell?_spot (hF 0 (by omega)).1
        simpa [Addr.add] using this
      subst hs
      have ea : (⟨b, o, none⟩ : Addr).add (k * 1) = ⟨b, o + k, none⟩ := by
        unfold Addr.add
        split <;> simp_all
      rw [ea] at h1
      exact ⟨b, o, rfl, cell_lt h1, h1⟩
    · intro y hy
      obtain ⟨i, hi, rfl⟩ := List.mem_map.1 hy
      exact (hF i (by simpa using hi)).2

end Go.Proofs.Ytpbfibofjkinmaa
