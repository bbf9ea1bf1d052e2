/-
  From a reading of an argument to the words of the walks: a slice of bytes that came in reads as a list of bytes, its length within the reach. No condition.
-/
import Derived.Test.YtpbfibofjkinmaaRows
import Derived.Test.YtpbfibofjkinmaaWords
import Derived.ProofKit
import Derived.OpenShut
import Derived.ChangeOld
import Derived.SizedLaws
set_option linter.unusedSimpArgs false
set_option linter.unusedVariables false
namespace Go.Proofs.Ytpbfibofjkinmaa
open Go.ChangeShapes Go.WideShapes Go.ChangeAt Go.RowKit

theorem ownKnob_none : ownKnob Try.prog.godebug = none := by kernel_rfl
theorem laid_out : laidOutB Try.prog = true := by kernel_rfl
theorem bytesOf_byte : Try.prog.bytesOf 5 = 1 := by kernel_rfl

/-- A byte out of a number that fits one. -/
theorem byt_of_wf (n : Int) (h : (Lit.int .u8 n).wf = true) : (Value.int .u8 n) = byt (UInt8.ofNat n.toNat) := by
  have hb := bounds_u8 h
  unfold byt
  congr 1
  simp
  omega

/-- What is known of a slice of bytes that came in. -/
structure Came {H : Type} (W : World) (a : Option Addr) (len cap : Nat) (xs : List UInt8) (d : DataW H) : Prop where
  has : Has W W.heap.size a xs
  len_eq : xs.length = len
  le : len ≤ cap
  room : cap ≤ maxLen
  datum : d = .nil ∧ cap = 0 ∨ ∃ es sp, d = .slice es sp ∧ es.length + sp.length = cap

theorem cell_lt {w : World} {p : Addr} {v : Value} (h : w.cell? p = some v) : p.block < w.heap.size := by
  rcases Nat.lt_or_ge p.block w.heap.size with hl | hg
  · exact hl
  · exfalso
    unfold World.cell? at h
    rw [Array.getElem?_eq_none hg] at h
    cases p with
    | mk b o s => cases s <;> simp at h

theorem open_bytes {H : Type} {enc : TypeId × Value → H} {W : World} {a : Option Addr} {len cap : Nat} {d : DataW H} {ps : List MemPlace}
    (h : DataW.Trod enc Try.prog W 0 (fun _ => true) true 32 (.slice a len cap) d ps) : ∃ xs, Came W a len cap xs d := by
  obtain ⟨fuel, hf⟩ := h
  rcases open_ints Try.underlying32 Try.underlying5 (by kernel_rfl) hf with ⟨hcs, hx⟩ | ⟨x, l, c, zs, hcs, _, hl, hm, hz, hx, hcell, hwz⟩
  · simp [Value.cells] at hcs
    obtain ⟨rfl, rfl, rfl⟩ := hcs
    exact ⟨[], Has.nil _ _ _, rfl, Nat.le_refl _, by unfold maxLen; omega, .inl ⟨(Prod.mk.inj hx).1, rfl⟩⟩
  · simp [Value.cells] at hcs
    obtain ⟨rfl, rfl, rfl⟩ := hcs
    simp only [if_true] at hz
    refine ⟨(zs.take len).map fun n => UInt8.ofNat n.toNat, ?_, by simp; omega, hl, hm, .inr ⟨_, _, (Prod.mk.inj hx).1, by simp [lits]; omega⟩⟩
    intro k hk
    have hk' : k < zs.length := by simp at hk; omega
    have hc := hcell k hk'
    obtain ⟨b, o, s⟩ := x
    have hs : s = none := by
      have := World.cell?_spot (hcell 0 (by omega))
      simpa [Addr.add] using this
    subst hs
    have hc' : W.cell? ⟨b, o + k, none⟩ = some (.int .u8 (zs.getD k 0)) := by
      rw [← hc]; congr 1; unfold Addr.add; split <;> simp_all
    refine ⟨b, o, rfl, cell_lt hc', ?_⟩
    rw [hc', byt_of_wf _ (hwz _ (by simp [List.getD_eq_getElem?_getD, hk']))]
    simp [hk']
theorem Came.size {H : Type} {W : World} {a : Option Addr} {len cap : Nat} {xs : List UInt8} {d : DataW H} (h : Came W a len cap xs d) {ts : List TypeId} {ds : List (DataW H)}
    (hs : (DataW.weightsEach Try.prog ts ds).all (· ≤ reachBytes) = true) {j : Nat} (ht : ts[j]? = some 32) (hd : ds[j]? = some d) : cap ≤ 140737488351232 := by
  rcases h.datum with ⟨rfl, rfl⟩ | ⟨es, sp, rfl, he⟩
  · omega
  · have := sized_slice hs ht hd Try.underlying32
    rw [bytesOf_byte, he] at this
    simpa [reachBytes] using this
end Go.Proofs.Ytpbfibofjkinmaa
