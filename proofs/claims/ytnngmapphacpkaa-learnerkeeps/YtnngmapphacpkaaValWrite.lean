/-
  Write of package value, and the head's value. Conditions: what is read is in reach.
-/
import Derived.Test.YtnngmapphacpkaaValPut
set_option linter.unusedSimpArgs false
set_option linter.unusedVariables false
namespace Go.Proofs.Ytnngmapphacpkaa
open Go.RowKit

/-- The number of an int's bits. -/
def unb (n : Int) : Nat := (n % 18446744073709551616).toNat
theorem unb_lt (n : Int) : unb n < 18446744073709551616 := by unfold unb; omega
theorem unb_wrap (n : Int) : IntKind.u64.wrap n = (unb n : Int) := by unfold unb; rw [IntKind.wrap_u64]; omega
theorem unb_nat (n : Nat) (h : n < 18446744073709551616) : unb (n : Int) = n := by unfold unb; omega

def encCs (cs : List Cmdv) : List UInt8 := cs.flatMap fun c => encL c.ints
def encNs (ns : List Int) : List UInt8 := ns.flatMap fun m => enc (unb m)
theorem encCs_take (cs : List Cmdv) (k : Nat) (hk : k < cs.length) : encCs (cs.take (k + 1)) = encCs (cs.take k) ++ encL cs[k].ints := by
  unfold encCs
  rw [List.take_succ_eq_append_getElem hk, List.flatMap_append, List.flatMap_singleton]
theorem encNs_take (ns : List Int) (k : Nat) (hk : k < ns.length) : encNs (ns.take (k + 1)) = encNs (ns.take k) ++ enc (unb ns[k]) := by
  unfold encNs
  rw [List.take_succ_eq_append_getElem hk, List.flatMap_append, List.flatMap_singleton]
theorem encCs_length (cs : List Cmdv) : (encCs cs).length ≤ 72 * cs.length := by
  induction cs with
  | nil => simp [encCs]
  | cons x xs ih =>
    have e : encCs (x :: xs) = encL x.ints ++ encCs xs := rfl
    have := encL_length x.ints
    have h8 : x.ints.length = 8 := rfl
    rw [e, List.length_append, List.length_cons]
    omega
theorem encNs_length (ns : List Int) : (encNs ns).length ≤ 9 * ns.length := by
  induction ns with
  | nil => simp [encNs]
  | cons x xs ih =>
    have e : encNs (x :: xs) = enc (unb x) ++ encNs xs := rfl
    have := bw_le (unb x)
    rw [e, List.length_append, enc_length, List.length_cons]
    omega
/-- The bytes of a value. -/
def encV (kd : Int) (cs : List Cmdv) (ns : List Int) : List UInt8 := enc (unb kd) ++ (enc cs.length ++ (encCs cs ++ (enc ns.length ++ encNs ns)))

theorem Kept.cell {F : Nat → Prop} {w w' : World} (h : Kept F w w') {k i : Nat} (hk : k < w.heap.size) (hF : ¬ F k) : w'.cell? ⟨k, i, none⟩ = w.cell? ⟨k, i, none⟩ :=
  World.cell?_of_block (w := w) (a := ⟨k, i, none⟩) (h.block k hk hF)

end Go.Proofs.Ytnngmapphacpkaa
