/-
  spell of seal: a sum as eight bytes, the highest first. Condition: a number of 64 bits.
-/
import Derived.Test.YtofdjpophacldaaSum
import Derived.Test.YtofdjpophacldaaEnc
import Derived.LoopN
namespace Go.Proofs.Ytofdjpophacldaa
open Go.RowKit

theorem eight (u : Nat) : #[Value.int .u8 ((u : Int) / 72057594037927936 % 256), .int .u8 ((u : Int) / 281474976710656 % 256), .int .u8 ((u : Int) / 1099511627776 % 256), .int .u8 ((u : Int) / 4294967296 % 256),
    .int .u8 ((u : Int) / 16777216 % 256), .int .u8 ((u : Int) / 65536 % 256), .int .u8 ((u : Int) / 256 % 256), .int .u8 ((u : Int) % 256)] = bcells (be 8 u) := by
  have e : ∀ n : Nat, Value.int .u8 ((n : Int) % 256) = byt (UInt8.ofNat n) := by
    intro n; unfold byt; simp
  have h : ∀ p : Nat, (u : Int) / (p : Int) = ((u / p : Nat) : Int) := fun p => (Int.natCast_ediv u p).symm
  have h1 := h 72057594037927936
  have h2 := h 281474976710656
  have h3 := h 1099511627776
  have h4 := h 4294967296
  have h5 := h 16777216
  have h6 := h 65536
  have h7 := h 256
  simp only [Int.cast_ofNat_Int] at h1 h2 h3 h4 h5 h6 h7
  rw [h1, h2, h3, h4, h5, h6, h7]
  simp only [e]
  simp [bcells, be]

set_option maxHeartbeats 400000 in
theorem spell_any (u : Nat) (w : World) (hu : u < 18446744073709551616) :
    Calls Try.prog 50 #[.int .u64 (u : Int)] w fun e w' => e = .returned (.agg (bcells (be 8 u))) ∧ Below w.heap.size w w' := by
  have HU := hide hu
  clear hu
  go_enter Try.func50, Try.ntmps50
  go_wp2
  refine wp_loop_rounds 9 ?_
  iterate 9 (rw [rounds_succ]; go_wp2)
  refine bodyPost_ret (v := .agg #[.int .u8 ((u : Int) / 72057594037927936 % 256), .int .u8 ((u : Int) / 281474976710656 % 256), .int .u8 ((u : Int) / 1099511627776 % 256), .int .u8 ((u : Int) / 4294967296 % 256), .int .u8 ((u : Int) / 16777216 % 256), .int .u8 ((u : Int) / 65536 % 256), .int .u8 ((u : Int) / 256 % 256), .int .u8 ((u : Int) % 256)]) (by simp [results, Try.results50, go_sem]) rfl ⟨congrArg (fun x => Ending.returned (.agg x)) (eight u), ((Below.refl _ _).alloc (Nat.le_refl _) _).alloc (by simp) _⟩
end Go.Proofs.Ytofdjpophacldaa
