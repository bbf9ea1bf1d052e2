/-
  The writer of pack: what it holds in memory, and what each of its calls does to it. Conditions: at most 2^47 bytes in all.
-/
import Derived.Test.YtpbfibofjkinmaaClone
import Derived.Test.YtpbfibofjkinmaaWidth
import Derived.Deep.RegionHeld3
import Derived.Deep.DrawnRows
import Derived.Deep.RegionLaw
set_option linter.unusedSimpArgs false
set_option linter.unusedVariables false
namespace Go.Proofs.Ytpbfibofjkinmaa
open Go.RowKit

attribute [local go_sem ↓] Go.wp_at_zero Go.wp_at_succ

/-- The blocks of a writer. -/
def Foot (g : Nat) (b : Option Nat) : Nat → Prop := fun k => k = g ∨ b = some k

/-- The writer at block g has written xs, which lies in block b (or is nil). -/
def Wr (w : World) (base g : Nat) (b : Option Nat) (xs : List UInt8) : Prop :=
  base ≤ g ∧ ∃ v, w.heap[g]? = some (.cells #[v] 129 (0, 0)) ∧ Own w base v xs ∧ v.ownBlock = b

/-- What a call that writes answers and leaves. -/
def WEnds (g : Nat) (b : Option Nat) (base : Nat) (ys : List UInt8) (w : World) (e : Ending) (w' : World) : Prop :=
  e = .returned (.pointer (some ⟨g, 0, none⟩)) ∧ ∃ b', Wr w' base g b' ys ∧ (b' = b ∨ ∃ k, b' = some k ∧ w.heap.size ≤ k) ∧ Kept (Foot g b) w w'

theorem own_apart {w : World} {base g : Nat} {v u : Value} {xs : List UInt8} (hg : w.heap[g]? = some (.cells #[u] 129 (0, 0))) (ho : Own w base v xs) : v.ownBlock ≠ some g := by
  rcases ho.2 with ⟨rfl, _⟩ | ⟨g', cap, cur, rfl, _, hh, _⟩
  · intro h; cases h
  · intro h
    have e : g' = g := by simpa [Value.ownBlock] using h
    subst e
    rw [hg] at hh
    injection hh with hh
    injection hh with _ ht
    exact absurd ht (by decide)

theorem Wr.lt {w : World} {base g : Nat} {b : Option Nat} {xs : List UInt8} (h : Wr w base g b xs) : g < w.heap.size := by
  obtain ⟨_, v, hv, _⟩ := h
  exact lt_of_block hv
theorem Wr.foot {w : World} {base g : Nat} {b : Option Nat} {xs : List UInt8} (h : Wr w base g b xs) : ∀ k, Foot g b k → base ≤ k ∧ k < w.heap.size := by
  intro k hk
  rcases hk with rfl | hk
  · exact ⟨h.1, h.lt⟩
  · obtain ⟨_, v, _, ho, hb⟩ := h
    exact ho.lt k (hb.trans hk)
theorem Wr.keep {w w' : World} {base g : Nat} {b : Option Nat} {xs : List UInt8} (h : Wr w base g b xs) (hk : ∀ k, Foot g b k → w'.heap[k]? = w.heap[k]?) : Wr w' base g b xs := by
  obtain ⟨h1, v, hv, ho, hb⟩ := h
  exact ⟨h1, v, by rw [hk g (.inl rfl)]; exact hv, ho.keep fun k e => hk k (.inr (hb ▸ e)), hb⟩
theorem Wr.below {w w' : World} {base g : Nat} {b : Option Nat} {xs : List UInt8} (h : Wr w base g b xs) (hb : Below w.heap.size w w') : Wr w' base g b xs :=
  h.keep fun k hk => hb.block k (h.foot k hk).2

/-- Behind an append to what the writer holds, and the store of the new slice. -/
theorem wr_push {W W1 w1 : World} {base g : Nat} {v v1 : Value} {xs ys : List UInt8} (hg : base ≤ g) (hv : W.heap[g]? = some (.cells #[v] 129 (0, 0))) (ho : Own W base v xs)
    (hb : Below W.heap.size W W1) (hgr : W1.grownBy w1 v.ownBlock) (ho1 : Own w1 base v1 ys) (hat : v1.ownBlock = v.ownBlock ∨ v1.ownBlock = some W1.heap.size) :
    w1.cell? ⟨g, 0, none⟩ = some v ∧ w1.frozen? ⟨g, 0, none⟩ = false ∧ Wr (w1.setCell ⟨g, 0, none⟩ v1) base g v1.ownBlock ys ∧ Kept (Foot g v.ownBlock) W (w1.setCell ⟨g, 0, none⟩ v1) ∧
      (v1.ownBlock = v.ownBlock ∨ ∃ k, v1.ownBlock = some k ∧ W.heap.size ≤ k) := by
  have hne := own_apart hv ho
  have hlt := lt_of_block hv
  have h1 : w1.heap[g]? = some (.cells #[v] 129 (0, 0)) := by
    rw [hgr.block g (Nat.lt_of_lt_of_le hlt hb.size) (fun e => hne e.symm), hb.block g hlt, hv]
  have hne1 := own_apart h1 ho1
  refine ⟨cell_of_one h1, free_of_one h1, ⟨hg, v1, one_setCell h1, ho1.keep fun k e => Below.heap_setCell _ _ _ _ (fun e2 => hne1 (by rw [e, e2])), rfl⟩, ?_, ?_⟩
  · exact ((Kept.of_below (F := Foot g v.ownBlock) hb).step (Kept.of_grown (F := Foot g v.ownBlock) hgr (fun k e => .inr e)) (fun k e => .inl e)).setCell (.inl (.inl rfl)) _
  · rcases hat with h | h
    · exact .inl h
    · exact .inr ⟨_, h, hb.size⟩

/-- Where the slice of a writer lies behind two steps. -/
theorem foot_step {g n : Nat} {b b' : Option Nat} (h : b' = b ∨ ∃ k, b' = some k ∧ n ≤ k) : ∀ k, Foot g b' k → Foot g b k ∨ n ≤ k := by
  intro k hk
  rcases hk with rfl | hk
  · exact .inl (.inl rfl)
  · rcases h with rfl | ⟨j, hj, hn⟩
    · exact .inl (.inr hk)
    · rw [hj] at hk
      injection hk with hk
      subst hk
      exact .inr hn
theorem lies_step {n m : Nat} {a b c : Option Nat} (h : b = a ∨ ∃ k, b = some k ∧ n ≤ k) (h' : c = b ∨ ∃ k, c = some k ∧ m ≤ k) (hnm : n ≤ m) : c = a ∨ ∃ k, c = some k ∧ n ≤ k := by
  rcases h' with rfl | ⟨k, hk, hm⟩
  · exact h
  · exact .inr ⟨k, hk, by omega⟩
theorem wrap_u8_of (n : Nat) : IntKind.u8.wrap (n : Int) = ((UInt8.ofNat n).toNat : Int) := by
  rw [IntKind.wrap_u8]; simp
/-- The lowest byte of a number shifted down by whole bytes. -/
theorem wrap_shr8 (u i : Nat) : IntKind.u8.wrap ((u : Int) / 2 ^ (8 * (i : Int)).toNat) = ((UInt8.ofNat (u / 256 ^ i)).toNat : Int) := by
  have e1 : (8 * (i : Int)).toNat = 8 * i := by omega
  have e2 : (2 : Int) ^ (8 * i) = ((256 ^ i : Nat) : Int) := by
    rw [Int.pow_mul]; norm_cast
  rw [e1, e2, ← Int.natCast_ediv, wrap_u8_of]

set_option maxHeartbeats 800000 in
theorem wnum_any (g base : Nat) (b : Option Nat) (xs : List UInt8) (u : Nat) (w : World) (hw : Wr w base g b xs) (hu : u < 18446744073709551616) (hlen : xs.length + 9 ≤ 140737488355328) :
    Calls Try.prog 72 #[.pointer (some ⟨g, 0, none⟩), .int .u64 (u : Int)] w (WEnds g b base (xs ++ enc u) w) := by
  have hgs := hw.lt
  obtain ⟨hg, v, hv, ho, hbv⟩ := hw
  have hcell := cell_of_one hv
  have h8 := bw_le u
  have hwd := fun w => width_any u w hu
  have HW := hide hwd
  clear hwd
  have HU := hide hu
  clear hu
  go_enter Try.func72, Try.ntmps72
  go_wp2_with fail
  refine (HW.out _).mono ?_
  rintro e w' ⟨rfl, rfl⟩
  go_wp2_with (at_builtin; refine list_append_bytes _ rfl (.tmp 14) (.tmp 17) rfl base v xs rfl (ho.alloc _) (w.heap.size + 1) (some ⟨w.heap.size, 0, none⟩) 1 1 [UInt8.ofNat (bw u)] rfl (Has.one w 5 _ _ (by simp; omega) _ rfl) rfl (by omega) (by simp; omega) ?_; intro v1 w1 ho1 hgr hat; obtain ⟨A1, n1, k1, rfl, _, _, _, _⟩ := ho1.form; obtain ⟨hc1, hf1, hwr1, hk1, hb1⟩ := wr_push hg hv ho ((Below.refl _ _).alloc (Nat.le_refl _) _) hgr ho1 hat)
  clear hc1 hf1 hgr ho1 hat hcell hv ho
  subst hbv
  go_loopw [5] (fun i wr => ∃ j : Nat, j ≤ bw u ∧ i = .int .i64 j ∧ ∃ b', Wr wr base g b' (xs ++ UInt8.ofNat (bw u) :: (be (bw u) u).take (bw u - j)) ∧ Kept (Foot g v.ownBlock) w wr ∧ (b' = v.ownBlock ∨ ∃ k, b' = some k ∧ w.heap.size ≤ k)) (fun i _ => (intOf i).toNat)
  case atStart => exact ⟨bw u, Nat.le_refl _, rfl, _, by simpa using hwr1, hk1, hb1⟩
  case round =>
    clear hwr1 hk1 hb1
    obtain ⟨j, hj, rfl, b', hwr, hk, hb⟩ := hrel
    by_cases h0 : j = 0
    · subst h0
      go_wp2
      go_ret
      exact ⟨rfl, b', by rw [← enc_whole]; exact hwr, hb, hk⟩
    · obtain ⟨i, rfl⟩ : ∃ i, j = i + 1 := ⟨j - 1, by omega⟩
      obtain ⟨hg2, v2, hv2, ho2, hbv2⟩ := hwr
      subst hbv2
      have hcell := cell_of_one hv2
      have HB := hide (be_take (bw u) u i (by omega))
      have hl2 : (xs ++ UInt8.ofNat (bw u) :: (be (bw u) u).take (bw u - (i + 1))).length + 1 ≤ 140737488355328 := by
        simp [be_length]; omega
      have HL := hide hl2
      clear hl2
      generalize (be (bw u) u).take (bw u - (i + 1)) = part at *
      have hw8 : IntKind.i64.wrap (8 * (i : Int)) = 8 * (i : Int) := by rw [IntKind.wrap_i64]; omega
      go_wp2_with fail
      have hone : Has (wr.alloc (.cells #[.int .u8 (IntKind.u8.wrap ((u : Int) / 2 ^ (8 * (i : Int)).toNat))] 5)).drew (wr.heap.size + 1) (some ⟨wr.heap.size, 0, none⟩) [UInt8.ofNat (u / 256 ^ i)] := (Has.one wr 5 _ _ (wrap_shr8 u i) _ rfl).drew
      have hown : Own (wr.alloc (.cells #[.int .u8 (IntKind.u8.wrap ((u : Int) / 2 ^ (8 * (i : Int)).toNat))] 5)).drew base v2 (xs ++ UInt8.ofNat (bw u) :: part) := (ho2.alloc _).drew
      have hbase : base ≤ (wr.alloc (.cells #[.int .u8 (IntKind.u8.wrap ((u : Int) / 2 ^ (8 * (i : Int)).toNat))] 5)).drew.heap.size := by simp; have := hk.size; omega
      have HBase := hide hbase
      clear hbase
      have hgl : g < wr.heap.size := lt_of_block hv2
      go_region_law ((refine step_append_bytes _ (by rfl) _ _ (by rfl) base v2 _ (by rfl) hown _ _ 1 1 _ (by rfl) hone (by rfl) HL.out HBase.out ?_; intro v3 w3 ho3 hgr hat; obtain ⟨A3, n3, k3, rfl, _, _, _, _⟩ := ho3.form; obtain ⟨hc1, hf1, hwr1, hk1, hb1⟩ := wr_push hg hv2 ho2 (((Below.refl _ _).alloc (Nat.le_refl _) _).drew) hgr ho3 hat))
      all_goals
        go_wp2
        go_roundw
        case rel => exact ⟨i, by omega, rfl, _, by rw [HB.out]; simpa using hwr1, hk.step hk1 (foot_step hb), lies_step hb hb1 hk.size⟩
        case measure => simp [intOf]
end Go.Proofs.Ytpbfibofjkinmaa
