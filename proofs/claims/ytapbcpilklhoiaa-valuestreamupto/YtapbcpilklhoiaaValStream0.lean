/-
  Words for the walk of ValueStream: slices of values, the writer beside the bytes that are wanted. No condition.
-/
import Derived.Test.YtapbcpilklhoiaaValRefDec
import Derived.Test.YtapbcpilklhoiaaValBytes
import Derived.Test.YtapbcpilklhoiaaValWriteO
set_option linter.unusedSimpArgs false
set_option linter.unusedVariables false
namespace Go.Proofs.Ytapbcpilklhoiaa
open Go.RowKit

structure Valv where
  k : Int
  A : Option Addr
  n : Nat
  c : Nat
  D : Option Addr
  m : Nat
  d : Nat
  cs : List Cmdv
  ns : List Int
/-- The slice that begins at A reads as these values, in a block below B. -/
def HasV (w : World) (B : Nat) (A : Option Addr) (vs : List Valv) : Prop :=
  ∀ i (h : i < vs.length), (∃ b o, A = some ⟨b, o, none⟩ ∧ b < B ∧ w.cell? ⟨b, o + i * 3, none⟩ = some (.int .i64 vs[i].k) ∧ w.cell? ⟨b, o + i * 3 + 1, none⟩ = some (.slice vs[i].A vs[i].n vs[i].c) ∧ w.cell? ⟨b, o + i * 3 + 2, none⟩ = some (.slice vs[i].D vs[i].m vs[i].d)) ∧ IsV w B vs[i].A vs[i].n vs[i].D vs[i].m vs[i].cs vs[i].ns
theorem HasV.below {w w' : World} {B : Nat} {A : Option Addr} {vs : List Valv} (h : HasV w B A vs) (hb : Below B w w') : HasV w' B A vs := by
  intro i hi
  obtain ⟨⟨b, o, hA, hlt, h0, h1, h2⟩, hv⟩ := h i hi
  have e : ∀ j, w'.cell? ⟨b, j, none⟩ = w.cell? ⟨b, j, none⟩ := fun j => World.cell?_of_block (w := w) (a := ⟨b, j, none⟩) (hb.block b hlt)
  exact ⟨⟨b, o, hA, hlt, (e _).trans h0, (e _).trans h1, (e _).trans h2⟩, hv.below hb⟩

/-- What is written of a value: nothing, if it isn't right. -/
def outV (v : Valv) : List UInt8 := if chkV v.k v.cs v.ns = 0 then encV v.k v.cs v.ns else []
def outVs (vs : List Valv) : List UInt8 := vs.flatMap outV
theorem outVs_take (vs : List Valv) (k : Nat) (hk : k < vs.length) : outVs (vs.take (k + 1)) = outVs (vs.take k) ++ outV vs[k] := by
  unfold outVs
  rw [List.take_succ_eq_append_getElem hk, List.flatMap_append, List.flatMap_singleton]
theorem outVs_drop (vs : List Valv) (k : Nat) (hk : k < vs.length) : outVs (vs.drop k) = outV vs[k] ++ outVs (vs.drop (k + 1)) := by
  rw [List.drop_eq_getElem_cons hk]
  rfl
theorem outV_len {v : Valv} (h : ∀ c ∈ v.cs, IsCmd c) : (outV v).length ≤ 1000 := by
  unfold outV
  split
  · exact encV_len (chkV_fine h ‹_›)
  · simp
theorem outVs_len (vs : List Valv) (h : ∀ v ∈ vs, ∀ c ∈ v.cs, IsCmd c) : (outVs vs).length ≤ 1000 * vs.length := by
  induction vs with
  | nil => simp [outVs]
  | cons v vs ih =>
    have e : outVs (v :: vs) = outV v ++ outVs vs := rfl
    have h1 := outV_len (h v (List.mem_cons_self ..))
    have h2 := ih (fun u hu => h u (List.mem_cons_of_mem _ hu))
    rw [e, List.length_append, List.length_cons]
    omega
theorem encCs_drop (cs : List Cmdv) (k : Nat) (hk : k < cs.length) : encCs (cs.drop k) = encL cs[k].ints ++ encCs (cs.drop (k + 1)) := by
  rw [List.drop_eq_getElem_cons hk]
  rfl

/-- The writer g and the slice v of bytes, both of the call's own, apart from one another. -/
structure SW (W0 : World) (g : Nat) (b : Option Nat) (v : Value) (zs ys : List UInt8) (W : World) : Prop where
  wr : Wr W W0.heap.size g b zs
  ow : Own W W0.heap.size v ys
  ap : ∀ k, Foot g b k → v.ownBlock ≠ some k
  bl : Below W0.heap.size W0 W
section
variable {W0 W W' : World} {g : Nat} {b b' : Option Nat} {v v' : Value} {zs ys zs' ys' : List UInt8}
theorem SW.below (h : SW W0 g b v zs ys W) (hb : Below W.heap.size W W') : SW W0 g b v zs ys W' := ⟨h.wr.below hb, h.ow.below hb, h.ap, h.bl.trans (hb.mono h.bl.size)⟩
theorem SW.drewN (h : SW W0 g b v zs ys W) (n : Nat) : SW W0 g b v zs ys (W.drewN n) := h.below (below_drewN (Below.refl _ _) n)
theorem SW.write (h : SW W0 g b v zs ys W) (hw : Wr W' W0.heap.size g b' zs') (hl : b' = b ∨ ∃ k, b' = some k ∧ W.heap.size ≤ k) (hk : Kept (Foot g b) W W') : SW W0 g b' v zs' ys W' := by
  refine ⟨hw, h.ow.keep fun k hk' => hk.block k ((h.ow.lt k hk').2) (fun hf => h.ap k hf hk'), ?_, h.bl.trans (hk.below h.bl.size (fun k hf => (h.wr.foot k hf).1))⟩
  intro k hf e
  rcases hf with rfl | hf
  · exact h.ap k (.inl rfl) e
  · rcases hl with rfl | ⟨k', rfl, hk'⟩
    · exact h.ap k (.inr hf) e
    · have e1 : k' = k := Option.some.inj hf
      have := (h.ow.lt k e).2
      omega
theorem SW.append (h : SW W0 g b v zs ys W) (hg : W.grownBy W' v.ownBlock) (ho : Own W' W0.heap.size v' ys') (hat : v'.ownBlock = v.ownBlock ∨ v'.ownBlock = some W.heap.size) : SW W0 g b v' zs ys' W' := by
  refine ⟨h.wr.keep fun k hf => hg.block k ((h.wr.foot k hf).2) (fun e => h.ap k hf e.symm), ho, ?_, h.bl.grown hg h.bl.size (fun k e => (h.ow.lt k e).1)⟩
  intro k hf e
  rcases hat with h1 | h1
  · exact h.ap k hf (h1.symm.trans e)
  · rw [h1] at e
    have e1 := Option.some.inj e
    have := (h.wr.foot k hf).2
    omega
end
end Go.Proofs.Ytapbcpilklhoiaa
