/-
  Num of pack's reader where a whole number stands next, or one whose first byte is 0. Conditions: at most 2^47 bytes.
-/
import Derived.Test.YtnngmapphacpkaaReader
set_option linter.unusedSimpArgs false
set_option linter.unusedVariables false
namespace Go.Proofs.Ytnngmapphacpkaa
open Go.RowKit

theorem or_step (u : Nat) (c : UInt8) (h : u < 72057594037927936) : bits .or .u64 (IntKind.u64.wrap ((u : Int) * 256)) (IntKind.u64.wrap (c.toNat : Int)) = ((256 * u + c.toNat : Nat) : Int) := by
  have hc := c.toNat_lt
  have e1 : IntKind.u64.wrap ((u : Int) * 256) = ((256 * u : Nat) : Int) := by rw [IntKind.wrap_u64]; omega
  have e2 : IntKind.u64.wrap (c.toNat : Int) = (c.toNat : Int) := by rw [IntKind.wrap_u64]; omega
  rw [e1, e2, u64_or_nat _ _ (by omega) (by omega), nat_join 8 _ _ (by omega) (by omega)]
theorem val_take (d : List UInt8) (j : Nat) (h : j < d.length) : val (d.take (j + 1)) = 256 * val (d.take j) + d[j].toNat := by
  rw [List.take_succ_eq_append_getElem h, val_snoc]
theorem val_take_lt (d : List UInt8) (j : Nat) (h : j < d.length) (h8 : d.length ≤ 8) : val (d.take j) < 72057594037927936 := by
  have h1 := val_lt (d.take j)
  have h2 : (d.take j).length ≤ 7 := by rw [List.length_take]; omega
  have h3 := Nat.pow_le_pow_right (show 0 < 256 by omega) h2
  simp only [Nat.reducePow] at h3
  omega

theorem addr_add (b o s : Nat) : Option.map (fun x : Addr => x.add s) (some ⟨b, o, none⟩) = some ⟨b, o + s, none⟩ := by
  simp only [Option.map_some, Addr.add]
  split <;> simp_all
end Go.Proofs.Ytnngmapphacpkaa
