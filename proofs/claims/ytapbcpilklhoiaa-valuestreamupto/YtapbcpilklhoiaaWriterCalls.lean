/-
  The other calls of pack's writer: NewWriter, Int, Text, Bytes; and all of them of a nil writer. Conditions: at most 2^47 bytes in all.
-/
import Derived.Test.YtapbcpilklhoiaaWriter
set_option linter.unusedSimpArgs false
set_option linter.unusedVariables false
namespace Go.Proofs.Ytapbcpilklhoiaa
open Go.RowKit

theorem newwriter_any (w : World) : Calls Try.prog 46 #[] w fun e w' => e = .returned (.pointer (some ⟨w.heap.size, 0, none⟩)) ∧ w.alloc (.cells #[.slice none 0 0] 104) = w' := by
  go_enter Try.func46, Try.ntmps46
  go_wp2
  go_ret
  exact ⟨rfl, rfl⟩
theorem wr_new (w : World) (base : Nat) (hb : base ≤ w.heap.size) : Wr (w.alloc (.cells #[.slice none 0 0] 104)) base w.heap.size none [] :=
  ⟨hb, _, heap_alloc_new w _, Own.nil _ _, rfl⟩

theorem wint_any (g base : Nat) (b : Option Nat) (xs : List UInt8) (i : Int) (w : World) (hw : Wr w base g b xs) (hi : IsInt i) (hlen : xs.length + 9 ≤ 140737488355328) :
    Calls Try.prog 74 #[.pointer (some ⟨g, 0, none⟩), .int .i64 i] w (WEnds g b base (xs ++ enc (zig i)) w) := by
  have HF := hide (fun w => fold_any i w hi)
  have HN := hide (wnum_any g base b xs (zig i) w hw (zig_lt hi) hlen)
  clear hi hw
  go_enter Try.func74, Try.ntmps74
  go_wp2_with fail
  refine (HF.out _).mono ?_
  rintro e w' ⟨rfl, rfl⟩
  go_wp2_with fail
  refine HN.out.mono ?_
  rintro e w1 ⟨rfl, h1⟩
  have H1 := hide h1
  clear h1
  go_wp2
  go_ret
  exact ⟨rfl, H1.out⟩

/-- A slice that lies in none of these blocks. -/
def Off (F : Nat → Prop) (A : Option Addr) (ys : List UInt8) : Prop := ∀ a, A = some a → ys ≠ [] → ¬ F a.block
theorem Has.kept {F : Nat → Prop} {w w' : World} {B : Nat} {A : Option Addr} {ys : List UInt8} (h : Has w B A ys) (hB : B ≤ w.heap.size) (hk : Kept F w w') (hd : Off F A ys) : Has w' B A ys := by
  intro k hlt
  obtain ⟨b, o, hA, hb, hc⟩ := h k hlt
  have hne : ys ≠ [] := by rintro rfl; simp at hlt
  exact ⟨b, o, hA, hb, (World.cell?_of_block (w := w) (a := ⟨b, o + k, none⟩) (hk.block b (by omega) (hd _ hA hne))).trans hc⟩
theorem Off.low {F : Nat → Prop} {w : World} {B : Nat} {A : Option Addr} {ys : List UInt8} (h : Has w B A ys) (hF : ∀ k, F k → B ≤ k) : Off F A ys := by
  intro a hA hne hF'
  obtain ⟨b, o, e, hb, _⟩ := h 0 (List.length_pos_iff.2 hne)
  rw [e] at hA
  injection hA with hA
  subst hA
  have := hF _ hF'
  simp at this
  omega

/-- The bytes that were written, in new memory. -/
theorem wbytes_any (g base : Nat) (b : Option Nat) (xs : List UInt8) (w : World) (hw : Wr w base g b xs) (hlen : xs.length ≤ 140737488355328) :
    Calls Try.prog 50 #[.pointer (some ⟨g, 0, none⟩)] w (Makes xs w) := by
  obtain ⟨hg, v, hv, ho, hb⟩ := hw
  have hc := cell_of_one hv
  obtain ⟨A, n, c, rfl, hn, _, hx, _⟩ := ho.form
  have HC := hide (clone_any A n c _ xs w hx (Nat.le_refl _) hn.out (by have := hn.out; omega))
  go_enter Try.func50, Try.ntmps50
  go_wp2_with fail
  refine HC.out.mono ?_
  rintro e w1 ⟨v1, rfl, ho1, hb1⟩
  go_wp2
  go_ret
  exact ⟨v1, rfl, ho1, hb1⟩

theorem wnum_nil (u : Int) (w : World) : Calls Try.prog 73 #[.pointer none, .int .u64 u] w fun e w' => e = .returned (.pointer none) ∧ w = w' := by
  go_enter Try.func73, Try.ntmps73
  go_wp2
  go_ret
  exact ⟨rfl, rfl⟩
theorem wint_nil (i : Int) (w : World) (hi : IsInt i) : Calls Try.prog 74 #[.pointer none, .int .i64 i] w fun e w' => e = .returned (.pointer none) ∧ w = w' := by
  have HF := hide (fun w => fold_any i w hi)
  clear hi
  go_enter Try.func74, Try.ntmps74
  go_wp2_with fail
  refine (HF.out _).mono ?_
  rintro e w' ⟨rfl, rfl⟩
  go_wp2_with fail
  refine (wnum_nil _ _).mono ?_
  rintro e w' ⟨rfl, rfl⟩
  go_wp2
  go_ret
  exact ⟨rfl, rfl⟩
theorem wbytes_nil (w : World) : Calls Try.prog 50 #[.pointer none] w fun e w' => e = .returned (.slice none 0 0) ∧ w = w' := by
  go_enter Try.func50, Try.ntmps50
  go_wp2
  go_ret
  exact ⟨rfl, rfl⟩
end Go.Proofs.Ytapbcpilklhoiaa
