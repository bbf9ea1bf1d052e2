/-
  The other calls of pack's writer: NewWriter, Int, Text, Bytes; and all of them of a nil writer. Conditions: at most 2^47 bytes in all.
-/
import Derived.Test.YtpbfibofjkinmaaWriter
set_option linter.unusedSimpArgs false
set_option linter.unusedVariables false
namespace Go.Proofs.Ytpbfibofjkinmaa
open Go.RowKit

theorem newwriter_any (w : World) : Calls Try.prog 71 #[] w fun e w' => e = .returned (.pointer (some ⟨w.heap.size, 0, none⟩)) ∧ w.alloc (.cells #[.slice none 0 0] 129) = w' := by
  go_enter Try.func71, Try.ntmps71
  go_wp2
  go_ret
  exact ⟨rfl, rfl⟩
theorem wr_new (w : World) (base : Nat) (hb : base ≤ w.heap.size) : Wr (w.alloc (.cells #[.slice none 0 0] 129)) base w.heap.size none [] :=
  ⟨hb, _, heap_alloc_new w _, Own.nil _ _, rfl⟩

/-- A slice that lies in none of these blocks. -/
def Off (F : Nat → Prop) (A : Option Addr) (ys : List UInt8) : Prop := ∀ a, A = some a → ys ≠ [] → ¬ F a.block
theorem Has.kept {F : Nat → Prop} {w w' : World} {B : Nat} {A : Option Addr} {ys : List UInt8} (h : Has w B A ys) (hB : B ≤ w.heap.size) (hk : Kept F w w') (hd : Off F A ys) : Has w' B A ys := by
  intro k hlt
  obtain ⟨b, o, hA, hb, hc⟩ := h k hlt
  have hne : ys ≠ [] := by rintro rfl; simp at hlt
  exact ⟨b, o, hA, hb, (World.cell?_of_block (w := w) (a := ⟨b, o + k, none⟩) (hk.block b (by omega) (hd _ hA hne))).trans hc⟩
theorem Off.low {F : Nat → Prop} {w : World} {B : Nat} {A : Option Addr} {ys : List UInt8} (h : Has w B A ys) (hF : ∀ k, F k → B ≤ k) : Off F A ys := by
  intro a hA hne hF'
  obtain ⟨b, o, e, hb, _⟩ := h 0 (List.length_pos_iff.2 hne)
  rw [e] at hA
  injection hA with hA
  subst hA
  have := hF _ hF'
  simp at this
  omega

set_option maxHeartbeats 400000 in
theorem wtext_any (g base B : Nat) (b : Option Nat) (xs : List UInt8) (A : Option Addr) (n c : Nat) (ys : List UInt8) (w : World) (hw : Wr w base g b xs) (hy : Has w B A ys) (hoff : Off (Foot g b) A ys) (hB : B ≤ w.heap.size) (hn : ys.length = n) (hlen : xs.length + 9 + n ≤ 140737488355328) :
    Calls Try.prog 73 #[.pointer (some ⟨g, 0, none⟩), .slice A n c] w (WEnds g b base (xs ++ (enc n ++ ys)) w) := by
  have HN := hide (wnum_any g base b xs n w hw (by omega) (by omega))
  have hbase : base ≤ w.heap.size := by have := hw.1; have := hw.lt; omega
  have hgl := hw.lt
  have hL : (xs ++ enc n).length + n ≤ 140737488355328 := by
    have h8 := bw_le n
    rw [List.length_append, enc_length]; omega
  have HL := hide hL
  clear hL hw
  go_enter Try.func73, Try.ntmps73
  go_wp2_with fail
  refine HN.out.mono ?_
  rintro e w1 ⟨rfl, b1, ⟨hg1, v1, hv1, ho1, rfl⟩, hb1, hk1⟩
  have hy1 := hy.kept hB hk1 hoff
  have hc1 := cell_of_one hv1
  go_wp2_with (at_builtin; refine list_append_bytes _ rfl (.tmp 16) (.tmp 17) rfl base v1 (xs ++ enc n) rfl ho1 B A n c ys rfl hy1 hn HL.out (Nat.le_trans hbase hk1.size) ?_; intro v2 w2 ho2 hgr hat; obtain ⟨A2, n2, k2, rfl, _, _, _, _⟩ := ho2.form; obtain ⟨hc2, hf2, hwr2, hk2, hb2⟩ := wr_push hg1 hv1 ho1 (Below.refl _ _) hgr ho2 hat)
  go_ret
  exact ⟨rfl, _, by rw [← List.append_assoc]; exact hwr2, lies_step hb1 hb2 hk1.size, hk1.step hk2 (foot_step hb1)⟩

/-- The bytes that were written, in new memory. -/
theorem wbytes_any (g base : Nat) (b : Option Nat) (xs : List UInt8) (w : World) (hw : Wr w base g b xs) (hlen : xs.length ≤ 140737488355328) :
    Calls Try.prog 74 #[.pointer (some ⟨g, 0, none⟩)] w (Makes xs w) := by
  obtain ⟨hg, v, hv, ho, hb⟩ := hw
  have hc := cell_of_one hv
  obtain ⟨A, n, c, rfl, hn, _, hx, _⟩ := ho.form
  have HC := hide (clone_any A n c _ xs w hx (Nat.le_refl _) hn.out (by have := hn.out; omega))
  go_enter Try.func74, Try.ntmps74
  go_wp2_with fail
  refine HC.out.mono ?_
  rintro e w1 ⟨v1, rfl, ho1, hb1⟩
  go_wp2
  go_ret
  exact ⟨v1, rfl, ho1, hb1⟩

theorem wnum_nil (u : Int) (w : World) : Calls Try.prog 72 #[.pointer none, .int .u64 u] w fun e w' => e = .returned (.pointer none) ∧ w = w' := by
  go_enter Try.func72, Try.ntmps72
  go_wp2
  go_ret
  exact ⟨rfl, rfl⟩
theorem wtext_nil (v : Value) (w : World) : Calls Try.prog 73 #[.pointer none, v] w fun e w' => e = .returned (.pointer none) ∧ w = w' := by
  go_enter Try.func73, Try.ntmps73
  go_wp2
  go_ret
  exact ⟨rfl, rfl⟩
theorem wbytes_nil (w : World) : Calls Try.prog 74 #[.pointer none] w fun e w' => e = .returned (.slice none 0 0) ∧ w = w' := by
  go_enter Try.func74, Try.ntmps74
  go_wp2
  go_ret
  exact ⟨rfl, rfl⟩
end Go.Proofs.Ytpbfibofjkinmaa
