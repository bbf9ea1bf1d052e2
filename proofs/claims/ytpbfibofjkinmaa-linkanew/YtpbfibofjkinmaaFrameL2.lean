/-
  As FrameL, with a bound of each piece; slices of numbers. No condition but the model's reach.
-/
import Derived.Test.YtpbfibofjkinmaaFrameL
import Derived.Test.YtpbfibofjkinmaaInts
set_option linter.unusedSimpArgs false
set_option linter.unusedVariables false
namespace Go.Proofs.Ytpbfibofjkinmaa
open Go.ChangeShapes Go.WideShapes Go.ChangeAt Go.RowKit

section
variable {H : Type} {enc : TypeId × Value → H} {W : World}
theorem open_pieces2 {a : Option Addr} {len cap : Nat} {d : DataW H} {pl : List MemPlace} (h : DataW.Trod enc Try.prog W 0 (fun _ => true) true 65 (.slice a len cap) d pl) (hw : Light 65 d) :
    ∃ ps, HasP W W.heap.size a ps ∧ ps.length = len ∧ len ≤ 5864062014805 ∧ ∀ p ∈ ps, p.len ≤ 140737488351232 := by
  obtain ⟨fuel, hf⟩ := h
  rcases Go.Deep.open_slice1 Try.underlying65 (by kernel_rfl) hf with ⟨hcs, _⟩ | ⟨x, l, c, m, n, V, D, Pl, hcs, _, hl, _, hm, hx, hcell⟩
  · simp [Value.cells] at hcs
    obtain ⟨rfl, rfl, rfl⟩ := hcs
    exact ⟨[], fun k hk => absurd hk (by simp), rfl, by simp, by simp⟩
  · simp [Value.cells] at hcs
    obtain ⟨rfl, rfl, rfl⟩ := hcs
    simp only [if_true] at hm
    obtain rfl := (Prod.mk.inj hx).1
    have hsz := hw.slice Try.underlying65
    rw [bytesOf_bytes] at hsz
    simp [reachBytes] at hsz
    obtain ⟨F, hF⟩ := Go.Deep.choose_lt (α := Piece) (n := len) (p := fun i p => V i = p.val ∧ Has W W.heap.size p.spot p.bs ∧ p.bs.length = p.len ∧ p.len ≤ 140737488351232) (fun i hi => by
      obtain ⟨a, l, c, xs, hv, hc, he, hlc, hcp⟩ := bytes_value (hcell i (by omega)).2 (hw.elem Try.underlying65 (List.mem_map.2 ⟨i, List.mem_range.2 (by omega), rfl⟩))
      exact ⟨⟨a, l, c, xs⟩, hv, hc, he, by show l ≤ _; omega⟩)
    refine ⟨(List.range len).map F, fun k hk => ?_, by simp, by omega, fun p hp => by
      obtain ⟨i, hi, rfl⟩ := List.mem_map.1 hp
      exact (hF i (List.mem_range.1 hi)).2.2.2⟩
    have hk' : k < len := by simpa using hk
    have e : ((List.range len).map F)[k] = F k := by simp
    obtain ⟨h1, h2, h3, h4⟩ := hF k hk'
    obtain ⟨b, o, s⟩ := x
    have hc := (hcell k (by omega)).1
    have hs : s = none := by
      have := World.cell?_spot (hcell 0 (by omega)).1
      simpa [Addr.add] using this
    subst hs
    have hc' : W.cell? ⟨b, o + k, none⟩ = some (V k) := by
      rw [← hc]; congr 1; unfold Addr.add; split <;> simp_all
    rw [h1] at hc'
    rw [e]
    exact ⟨⟨b, o, rfl, cell_lt hc', hc'⟩, h2, h3, by omega⟩
end
end Go.Proofs.Ytpbfibofjkinmaa
