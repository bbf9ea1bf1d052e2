/-
  Uses and has of the reference. No condition.
-/
import Derived.Test.YtapbcpilklhoiabDoorMX14
set_option linter.unusedSimpArgs false
set_option linter.unusedVariables false

namespace Go.Proofs.YtapbcpilklhoiabDoor
open Go.RowKit

def usS : List (List UInt8) := [[], [98, 115], [98, 115, 108, 111], [98], [98, 115, 118], [98, 115, 118], [98, 115, 116], [98, 116], [115], [115, 118], [115, 108, 100], [115, 108], [115, 108, 100], [99], [99, 114]]
/-- The letters of what a kind uses. -/
def usOf (k : Int) : List UInt8 := if 1 ≤ k ∧ k ≤ 14 then usS.getD k.toNat [] else []
/-- A text. -/
def str (s : List UInt8) : Value := .string ⟨s.toArray⟩
def usA : Array Value := #[.string ⟨#[]⟩, .string ⟨#[98, 115]⟩, .string ⟨#[98, 115, 108, 111]⟩, .string ⟨#[98]⟩, .string ⟨#[98, 115, 118]⟩, .string ⟨#[98, 115, 118]⟩, .string ⟨#[98, 115, 116]⟩, .string ⟨#[98, 116]⟩, .string ⟨#[115]⟩, .string ⟨#[115, 118]⟩, .string ⟨#[115, 108, 100]⟩, .string ⟨#[115, 108]⟩, .string ⟨#[115, 108, 100]⟩, .string ⟨#[99]⟩, .string ⟨#[99, 114]⟩]
theorem usA_get : ∀ j : Nat, j < 15 → usA[j]? = some (str (usS.getD j [])) := by
  intro j hj
  match j, hj with
  | 0, _ | 1, _ | 2, _ | 3, _ | 4, _ | 5, _ | 6, _ | 7, _ | 8, _ | 9, _ | 10, _ | 11, _ | 12, _ | 13, _ | 14, _ => rfl

theorem ruses_any (k : Int) (w : World) : Calls Tryd.prog 20 #[.int .i64 k] w fun e w' => e = .returned (str (usOf k)) ∧ Below w.heap.size w w' := by
  by_cases h1 : 1 ≤ k
  · by_cases h2 : k ≤ 14
    · obtain ⟨j, rfl⟩ : ∃ j : Nat, k = (j : Int) := ⟨k.toNat, by omega⟩
      have HE : Hid (usOf (j : Int) = usS.getD j []) := hide (by unfold usOf; rw [if_pos ⟨h1, h2⟩]; simp)
      have hc : (w.alloc (.cells #[.string ⟨#[]⟩, .string ⟨#[98, 115]⟩, .string ⟨#[98, 115, 108, 111]⟩, .string ⟨#[98]⟩, .string ⟨#[98, 115, 118]⟩, .string ⟨#[98, 115, 118]⟩, .string ⟨#[98, 115, 116]⟩, .string ⟨#[98, 116]⟩, .string ⟨#[115]⟩, .string ⟨#[115, 118]⟩, .string ⟨#[115, 108, 100]⟩, .string ⟨#[115, 108]⟩, .string ⟨#[115, 108, 100]⟩, .string ⟨#[99]⟩, .string ⟨#[99, 114]⟩] 9)).cell? ⟨w.heap.size, j, none⟩ = some (str (usS.getD j [])) := (cell_of_row _ _ _ _ _ _ (heap_alloc_new w (.cells #[.string ⟨#[]⟩, .string ⟨#[98, 115]⟩, .string ⟨#[98, 115, 108, 111]⟩, .string ⟨#[98]⟩, .string ⟨#[98, 115, 118]⟩, .string ⟨#[98, 115, 118]⟩, .string ⟨#[98, 115, 116]⟩, .string ⟨#[98, 116]⟩, .string ⟨#[115]⟩, .string ⟨#[115, 118]⟩, .string ⟨#[115, 108, 100]⟩, .string ⟨#[115, 108]⟩, .string ⟨#[115, 108, 100]⟩, .string ⟨#[99]⟩, .string ⟨#[99, 114]⟩] 9))).trans (usA_get j (by omega))
      have b0 : Below w.heap.size w (w.alloc (.cells #[.string ⟨#[]⟩, .string ⟨#[98, 115]⟩, .string ⟨#[98, 115, 108, 111]⟩, .string ⟨#[98]⟩, .string ⟨#[98, 115, 118]⟩, .string ⟨#[98, 115, 118]⟩, .string ⟨#[98, 115, 116]⟩, .string ⟨#[98, 116]⟩, .string ⟨#[115]⟩, .string ⟨#[115, 118]⟩, .string ⟨#[115, 108, 100]⟩, .string ⟨#[115, 108]⟩, .string ⟨#[115, 108, 100]⟩, .string ⟨#[99]⟩, .string ⟨#[99, 114]⟩] 9)) := by go_grown
      unfold str at *
      generalize usS.getD j [] = s at *
      go_enter Tryd.func20, Tryd.ntmps20
      go_upto_region 2 with fail
      generalize w.alloc (.cells #[.string ⟨#[]⟩, .string ⟨#[98, 115]⟩, .string ⟨#[98, 115, 108, 111]⟩, .string ⟨#[98]⟩, .string ⟨#[98, 115, 118]⟩, .string ⟨#[98, 115, 118]⟩, .string ⟨#[98, 115, 116]⟩, .string ⟨#[98, 116]⟩, .string ⟨#[115]⟩, .string ⟨#[115, 118]⟩, .string ⟨#[115, 108, 100]⟩, .string ⟨#[115, 108]⟩, .string ⟨#[115, 108, 100]⟩, .string ⟨#[99]⟩, .string ⟨#[99, 114]⟩] 9) = w0 at *
      go_wp2
      go_ret
      exact ⟨by rw [HE.out]; rfl, b0⟩
    · have HE : Hid (usOf k = []) := hide (if_neg (fun h => h2 h.2))
      go_enter Tryd.func20, Tryd.ntmps20
      go_wp2
      go_ret
      exact ⟨by rw [HE.out]; rfl, by go_grown⟩
  · have HE : Hid (usOf k = []) := hide (if_neg (fun h => h1 h.1))
    go_enter Tryd.func20, Tryd.ntmps20
    go_wp2
    go_ret
    exact ⟨by rw [HE.out]; rfl, by go_grown⟩

theorem str_at (s : List UInt8) (j : Nat) (h : j < s.length) (w : World) : (Instr.index 9 (str s) (.int .i64 (j : Int))).run Tryd.prog w = .ok (.int .u8 ((s[j]).toNat : Int)) w := by
  have hs : (⟨s.toArray⟩ : ByteArray).size = s.length := by simp [ByteArray.size]
  unfold str
  rw [run_index_string w 9 ⟨s.toArray⟩ .i64 (j : Int) Tryd.underlying9, dif_pos ⟨by omega, by rw [hs]; omega⟩]
  congr 3

theorem rhasc_any (s : List UInt8) (c : UInt8) (w : World) (hl : s.length ≤ 1000000) : Calls Tryd.prog 24 #[str s, .int .u8 (c.toNat : Int)] w fun e w' => e = .returned (.bool (s.contains c)) ∧ w = w' := by
  have hs : (⟨s.toArray⟩ : ByteArray).size = s.length := by simp [ByteArray.size]
  unfold str
  go_enter Tryd.func24, Tryd.ntmps24
  go_wp2_with fail
  go_loopw [5] (fun i wr => ∃ j : Nat, j ≤ s.length ∧ i = .int .i64 j ∧ Hid (c ∉ s.take j) ∧ w = wr) (fun i _ => s.length - (intOf i).toNat)
  case atStart => exact ⟨0, Nat.zero_le _, rfl, hide (by simp), rfl⟩
  case round =>
    obtain ⟨j, hj, rfl, HC, rfl⟩ := hrel
    by_cases hlt : j < s.length
    · have ka := fun W => str_at s j hlt W
      unfold str at ka
      have HTK : Hid (s.take (j + 1) = s.take j ++ [s[j]]) := hide (List.take_succ_eq_append_getElem hlt)
      have HMEM : Hid (s[j] ∈ s) := hide (List.getElem_mem hlt)
      generalize s[j] = x at *
      by_cases hx : x = c
      · have HE : Hid (s.contains c = true) := hide (by rw [List.contains_iff_mem, ← hx]; exact HMEM.out)
        subst hx
        go_wp2
        go_ret
        exact ⟨by rw [HE.out]; rfl, rfl⟩
      · have t0 : ((x.toNat : Int) == (c.toNat : Int)) = false := by
          rw [beq_eq_false_iff_ne]
          intro e
          exact hx (UInt8.toNat_inj.1 (by omega))
        have HN : Hid (c ∉ s.take (j + 1)) := hide (by
          rw [HTK.out, List.mem_append, List.mem_singleton]
          rintro (h | h)
          · exact HC.out h
          · exact hx h.symm)
        go_wp2_with fail
        go_roundw
        case rel => exact ⟨j + 1, by omega, by go_num, HN, trivial⟩
        case measure => simp [intOf]; omega
    · obtain rfl : j = s.length := by omega
      have HE : Hid (s.contains c = false) := hide (by
        have h1 := HC.out
        rw [List.take_length] at h1
        rw [Bool.eq_false_iff, ne_eq, List.contains_iff_mem]
        exact h1)
      go_wp2
      go_ret
      exact ⟨by rw [HE.out]; rfl, rfl⟩
end Go.Proofs.YtapbcpilklhoiabDoor
