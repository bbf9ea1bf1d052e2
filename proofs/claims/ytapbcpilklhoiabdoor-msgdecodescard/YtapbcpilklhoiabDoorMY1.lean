/-
  The writer of pack: what it holds in memory, and what each of its calls does to it. Conditions: at most 2^47 bytes in all.
  The other calls of pack's writer: NewWriter, Int, Text, Bytes; and all of them of a nil writer. Conditions: at most 2^47 bytes in all.
  The reader of pack: what it holds in memory, and what each of its calls answers and leaves. Conditions: at most 2^47 bytes.
  Num of pack's reader where a whole number stands next, or one whose first byte is 0. Conditions: at most 2^47 bytes.
  NewReader; Num of pack's reader whatever is left; its Int, Count, Text, Done; and all of them of a nil reader. Conditions: at most 2^47 bytes.
  Count, Text and Done of pack's reader, and of a nil one. Conditions: at most 2^47 bytes.
-/
import Derived.Test.YtapbcpilklhoiabDoorMY0
import Derived.Deep.RegionHeld3
import Derived.Deep.DrawnRows
import Derived.Deep.RegionLaw
import Derived.ScopeJumps
import Derived.WalkMore
import Derived.Laws.ByValue
import Derived.WalkLawsBesides
set_option linter.unusedSimpArgs false
set_option linter.unusedVariables false

namespace Go.Proofs.YtapbcpilklhoiabDoor
open Go.RowKit

attribute [local go_sem ↓] Go.wp_at_zero Go.wp_at_succ

/-- The blocks of a writer. -/
def Foot (g : Nat) (b : Option Nat) : Nat → Prop := fun k => k = g ∨ b = some k

/-- The writer at block g has written xs, which lies in block b (or is nil). -/
def Wr (w : World) (base g : Nat) (b : Option Nat) (xs : List UInt8) : Prop :=
  base ≤ g ∧ ∃ v, w.heap[g]? = some (.cells #[v] 111 (0, 0)) ∧ Own w base v xs ∧ v.ownBlock = b

/-- What a call that writes answers and leaves. -/
def WEnds (g : Nat) (b : Option Nat) (base : Nat) (ys : List UInt8) (w : World) (e : Ending) (w' : World) : Prop :=
  e = .returned (.pointer (some ⟨g, 0, none⟩)) ∧ ∃ b', Wr w' base g b' ys ∧ (b' = b ∨ ∃ k, b' = some k ∧ w.heap.size ≤ k) ∧ Kept (Foot g b) w w'

theorem own_apart {w : World} {base g : Nat} {v u : Value} {xs : List UInt8} (hg : w.heap[g]? = some (.cells #[u] 111 (0, 0))) (ho : Own w base v xs) : v.ownBlock ≠ some g := by
  rcases ho.2 with ⟨rfl, _⟩ | ⟨g', cap, cur, rfl, _, hh, _⟩
  · intro h; cases h
  · intro h
    have e : g' = g := by simpa [Value.ownBlock] using h
    subst e
    rw [hg] at hh
    injection hh with hh
    injection hh with _ ht
    exact absurd ht (by decide)

theorem Wr.lt {w : World} {base g : Nat} {b : Option Nat} {xs : List UInt8} (h : Wr w base g b xs) : g < w.heap.size := by
  obtain ⟨_, v, hv, _⟩ := h
  exact lt_of_block hv
theorem Wr.foot {w : World} {base g : Nat} {b : Option Nat} {xs : List UInt8} (h : Wr w base g b xs) : ∀ k, Foot g b k → base ≤ k ∧ k < w.heap.size := by
  intro k hk
  rcases hk with rfl | hk
  · exact ⟨h.1, h.lt⟩
  · obtain ⟨_, v, _, ho, hb⟩ := h
    exact ho.lt k (hb.trans hk)
theorem Wr.keep {w w' : World} {base g : Nat} {b : Option Nat} {xs : List UInt8} (h : Wr w base g b xs) (hk : ∀ k, Foot g b k → w'.heap[k]? = w.heap[k]?) : Wr w' base g b xs := by
  obtain ⟨h1, v, hv, ho, hb⟩ := h
  exact ⟨h1, v, by rw [hk g (.inl rfl)]; exact hv, ho.keep fun k e => hk k (.inr (hb ▸ e)), hb⟩
theorem Wr.below {w w' : World} {base g : Nat} {b : Option Nat} {xs : List UInt8} (h : Wr w base g b xs) (hb : Below w.heap.size w w') : Wr w' base g b xs :=
  h.keep fun k hk => hb.block k (h.foot k hk).2

/-- Behind an append to what the writer holds, and the store of the new slice. -/
theorem wr_push {W W1 w1 : World} {base g : Nat} {v v1 : Value} {xs ys : List UInt8} (hg : base ≤ g) (hv : W.heap[g]? = some (.cells #[v] 111 (0, 0))) (ho : Own W base v xs)
    (hb : Below W.heap.size W W1) (hgr : W1.grownBy w1 v.ownBlock) (ho1 : Own w1 base v1 ys) (hat : v1.ownBlock = v.ownBlock ∨ v1.ownBlock = some W1.heap.size) :
    w1.cell? ⟨g, 0, none⟩ = some v ∧ w1.frozen? ⟨g, 0, none⟩ = false ∧ Wr (w1.setCell ⟨g, 0, none⟩ v1) base g v1.ownBlock ys ∧ Kept (Foot g v.ownBlock) W (w1.setCell ⟨g, 0, none⟩ v1) ∧
      (v1.ownBlock = v.ownBlock ∨ ∃ k, v1.ownBlock = some k ∧ W.heap.size ≤ k) := by
  have hne := own_apart hv ho
  have hlt := lt_of_block hv
  have h1 : w1.heap[g]? = some (.cells #[v] 111 (0, 0)) := by
    rw [hgr.block g (Nat.lt_of_lt_of_le hlt hb.size) (fun e => hne e.symm), hb.block g hlt, hv]
  have hne1 := own_apart h1 ho1
  refine ⟨cell_of_one h1, free_of_one h1, ⟨hg, v1, one_setCell h1, ho1.keep fun k e => Below.heap_setCell _ _ _ _ (fun e2 => hne1 (by rw [e, e2])), rfl⟩, ?_, ?_⟩
  · exact ((Kept.of_below (F := Foot g v.ownBlock) hb).step (Kept.of_grown (F := Foot g v.ownBlock) hgr (fun k e => .inr e)) (fun k e => .inl e)).setCell (.inl (.inl rfl)) _
  · rcases hat with h | h
    · exact .inl h
    · exact .inr ⟨_, h, hb.size⟩

/-- Where the slice of a writer lies behind two steps. -/
theorem foot_step {g n : Nat} {b b' : Option Nat} (h : b' = b ∨ ∃ k, b' = some k ∧ n ≤ k) : ∀ k, Foot g b' k → Foot g b k ∨ n ≤ k := by
  intro k hk
  rcases hk with rfl | hk
  · exact .inl (.inl rfl)
  · rcases h with rfl | ⟨j, hj, hn⟩
    · exact .inl (.inr hk)
    · rw [hj] at hk
      injection hk with hk
      subst hk
      exact .inr hn
theorem lies_step {n m : Nat} {a b c : Option Nat} (h : b = a ∨ ∃ k, b = some k ∧ n ≤ k) (h' : c = b ∨ ∃ k, c = some k ∧ m ≤ k) (hnm : n ≤ m) : c = a ∨ ∃ k, c = some k ∧ n ≤ k := by
  rcases h' with rfl | ⟨k, hk, hm⟩
  · exact h
  · exact .inr ⟨k, hk, by omega⟩
theorem wrap_u8_of (n : Nat) : IntKind.u8.wrap (n : Int) = ((UInt8.ofNat n).toNat : Int) := by
  rw [IntKind.wrap_u8]; simp
/-- The lowest byte of a number shifted down by whole bytes. -/
theorem wrap_shr8 (u i : Nat) : IntKind.u8.wrap ((u : Int) / 2 ^ (8 * (i : Int)).toNat) = ((UInt8.ofNat (u / 256 ^ i)).toNat : Int) := by
  have e1 : (8 * (i : Int)).toNat = 8 * i := by omega
  have e2 : (2 : Int) ^ (8 * i) = ((256 ^ i : Nat) : Int) := by
    rw [Int.pow_mul]; norm_cast
  rw [e1, e2, ← Int.natCast_ediv, wrap_u8_of]

set_option maxHeartbeats 800000 in
theorem wnum_any (g base : Nat) (b : Option Nat) (xs : List UInt8) (u : Nat) (w : World) (hw : Wr w base g b xs) (hu : u < 18446744073709551616) (hlen : xs.length + 9 ≤ 140737488355328) :
    Calls Tryd.prog 33 #[.pointer (some ⟨g, 0, none⟩), .int .u64 (u : Int)] w (WEnds g b base (xs ++ enc u) w) := by
  have hgs := hw.lt
  obtain ⟨hg, v, hv, ho, hbv⟩ := hw
  have hcell := cell_of_one hv
  have h8 := bw_le u
  have hwd := fun w => width_any u w hu
  have HW := hide hwd
  clear hwd
  have HU := hide hu
  clear hu
  go_enter Tryd.func33, Tryd.ntmps33
  go_wp2_with fail
  refine (HW.out _).mono ?_
  rintro e w' ⟨rfl, rfl⟩
  go_wp2_with (at_builtin; refine list_append_bytes _ rfl (.tmp 14) (.tmp 17) rfl base v xs rfl (ho.alloc _) (w.heap.size + 1) (some ⟨w.heap.size, 0, none⟩) 1 1 [UInt8.ofNat (bw u)] rfl (Has.one w 5 _ _ (by simp; omega) _ rfl) rfl (by omega) (by simp; omega) ?_; intro v1 w1 ho1 hgr hat; obtain ⟨A1, n1, k1, rfl, _, _, _, _⟩ := ho1.form; obtain ⟨hc1, hf1, hwr1, hk1, hb1⟩ := wr_push hg hv ho ((Below.refl _ _).alloc (Nat.le_refl _) _) hgr ho1 hat)
  clear hc1 hf1 hgr ho1 hat hcell hv ho
  subst hbv
  go_loopw [5] (fun i wr => ∃ j : Nat, j ≤ bw u ∧ i = .int .i64 j ∧ ∃ b', Wr wr base g b' (xs ++ UInt8.ofNat (bw u) :: (be (bw u) u).take (bw u - j)) ∧ Kept (Foot g v.ownBlock) w wr ∧ (b' = v.ownBlock ∨ ∃ k, b' = some k ∧ w.heap.size ≤ k)) (fun i _ => (intOf i).toNat)
  case atStart => exact ⟨bw u, Nat.le_refl _, rfl, _, by simpa using hwr1, hk1, hb1⟩
  case round =>
    clear hwr1 hk1 hb1
    obtain ⟨j, hj, rfl, b', hwr, hk, hb⟩ := hrel
    by_cases h0 : j = 0
    · subst h0
      go_wp2
      go_ret
      exact ⟨rfl, b', by rw [← enc_whole]; exact hwr, hb, hk⟩
    · obtain ⟨i, rfl⟩ : ∃ i, j = i + 1 := ⟨j - 1, by omega⟩
      obtain ⟨hg2, v2, hv2, ho2, hbv2⟩ := hwr
      subst hbv2
      have hcell := cell_of_one hv2
      have HB := hide (be_take (bw u) u i (by omega))
      have hl2 : (xs ++ UInt8.ofNat (bw u) :: (be (bw u) u).take (bw u - (i + 1))).length + 1 ≤ 140737488355328 := by
        simp [be_length]; omega
      have HL := hide hl2
      clear hl2
      generalize (be (bw u) u).take (bw u - (i + 1)) = part at *
      have hw8 : IntKind.i64.wrap (8 * (i : Int)) = 8 * (i : Int) := by rw [IntKind.wrap_i64]; omega
      go_wp2_with fail
      have hone : Has (wr.alloc (.cells #[.int .u8 (IntKind.u8.wrap ((u : Int) / 2 ^ (8 * (i : Int)).toNat))] 5)).drew (wr.heap.size + 1) (some ⟨wr.heap.size, 0, none⟩) [UInt8.ofNat (u / 256 ^ i)] := (Has.one wr 5 _ _ (wrap_shr8 u i) _ rfl).drew
      have hown : Own (wr.alloc (.cells #[.int .u8 (IntKind.u8.wrap ((u : Int) / 2 ^ (8 * (i : Int)).toNat))] 5)).drew base v2 (xs ++ UInt8.ofNat (bw u) :: part) := (ho2.alloc _).drew
      have hbase : base ≤ (wr.alloc (.cells #[.int .u8 (IntKind.u8.wrap ((u : Int) / 2 ^ (8 * (i : Int)).toNat))] 5)).drew.heap.size := by simp; have := hk.size; omega
      have HBase := hide hbase
      clear hbase
      have hgl : g < wr.heap.size := lt_of_block hv2
      go_region_law ((refine step_append_bytes _ (by rfl) _ _ (by rfl) base v2 _ (by rfl) hown _ _ 1 1 _ (by rfl) hone (by rfl) HL.out HBase.out ?_; intro v3 w3 ho3 hgr hat; obtain ⟨A3, n3, k3, rfl, _, _, _, _⟩ := ho3.form; obtain ⟨hc1, hf1, hwr1, hk1, hb1⟩ := wr_push hg hv2 ho2 (((Below.refl _ _).alloc (Nat.le_refl _) _).drew) hgr ho3 hat))
      all_goals
        go_wp2
        go_roundw
        case rel => exact ⟨i, by omega, rfl, _, by rw [HB.out]; simpa using hwr1, hk.step hk1 (foot_step hb), lies_step hb hb1 hk.size⟩
        case measure => simp [intOf]
end Go.Proofs.YtapbcpilklhoiabDoor

namespace Go.Proofs.YtapbcpilklhoiabDoor
open Go.RowKit

theorem newwriter_any (w : World) : Calls Tryd.prog 31 #[] w fun e w' => e = .returned (.pointer (some ⟨w.heap.size, 0, none⟩)) ∧ w.alloc (.cells #[.slice none 0 0] 111) = w' := by
  go_enter Tryd.func31, Tryd.ntmps31
  go_wp2
  go_ret
  exact ⟨rfl, rfl⟩
theorem wr_new (w : World) (base : Nat) (hb : base ≤ w.heap.size) : Wr (w.alloc (.cells #[.slice none 0 0] 111)) base w.heap.size none [] :=
  ⟨hb, _, heap_alloc_new w _, Own.nil _ _, rfl⟩

theorem wint_any (g base : Nat) (b : Option Nat) (xs : List UInt8) (i : Int) (w : World) (hw : Wr w base g b xs) (hi : IsInt i) (hlen : xs.length + 9 ≤ 140737488355328) :
    Calls Tryd.prog 36 #[.pointer (some ⟨g, 0, none⟩), .int .i64 i] w (WEnds g b base (xs ++ enc (zig i)) w) := by
  have HF := hide (fun w => fold_any i w hi)
  have HN := hide (wnum_any g base b xs (zig i) w hw (zig_lt hi) hlen)
  clear hi hw
  go_enter Tryd.func36, Tryd.ntmps36
  go_wp2_with fail
  refine (HF.out _).mono ?_
  rintro e w' ⟨rfl, rfl⟩
  go_wp2_with fail
  refine HN.out.mono ?_
  rintro e w1 ⟨rfl, h1⟩
  have H1 := hide h1
  clear h1
  go_wp2
  go_ret
  exact ⟨rfl, H1.out⟩

/-- A slice that lies in none of these blocks. -/
def Off (F : Nat → Prop) (A : Option Addr) (ys : List UInt8) : Prop := ∀ a, A = some a → ys ≠ [] → ¬ F a.block
theorem Has.kept {F : Nat → Prop} {w w' : World} {B : Nat} {A : Option Addr} {ys : List UInt8} (h : Has w B A ys) (hB : B ≤ w.heap.size) (hk : Kept F w w') (hd : Off F A ys) : Has w' B A ys := by
  intro k hlt
  obtain ⟨b, o, hA, hb, hc⟩ := h k hlt
  have hne : ys ≠ [] := by rintro rfl; simp at hlt
  exact ⟨b, o, hA, hb, (World.cell?_of_block (w := w) (a := ⟨b, o + k, none⟩) (hk.block b (by omega) (hd _ hA hne))).trans hc⟩
theorem Off.low {F : Nat → Prop} {w : World} {B : Nat} {A : Option Addr} {ys : List UInt8} (h : Has w B A ys) (hF : ∀ k, F k → B ≤ k) : Off F A ys := by
  intro a hA hne hF'
  obtain ⟨b, o, e, hb, _⟩ := h 0 (List.length_pos_iff.2 hne)
  rw [e] at hA
  injection hA with hA
  subst hA
  have := hF _ hF'
  simp at this
  omega

set_option maxHeartbeats 400000 in
theorem wtext_any (g base B : Nat) (b : Option Nat) (xs : List UInt8) (A : Option Addr) (n c : Nat) (ys : List UInt8) (w : World) (hw : Wr w base g b xs) (hy : Has w B A ys) (hoff : Off (Foot g b) A ys) (hB : B ≤ w.heap.size) (hn : ys.length = n) (hlen : xs.length + 9 + n ≤ 140737488355328) :
    Calls Tryd.prog 37 #[.pointer (some ⟨g, 0, none⟩), .slice A n c] w (WEnds g b base (xs ++ (enc n ++ ys)) w) := by
  have HN := hide (wnum_any g base b xs n w hw (by omega) (by omega))
  have hbase : base ≤ w.heap.size := by have := hw.1; have := hw.lt; omega
  have hgl := hw.lt
  have hL : (xs ++ enc n).length + n ≤ 140737488355328 := by
    have h8 := bw_le n
    rw [List.length_append, enc_length]; omega
  have HL := hide hL
  clear hL hw
  go_enter Tryd.func37, Tryd.ntmps37
  go_wp2_with fail
  refine HN.out.mono ?_
  rintro e w1 ⟨rfl, b1, ⟨hg1, v1, hv1, ho1, rfl⟩, hb1, hk1⟩
  have hy1 := hy.kept hB hk1 hoff
  have hc1 := cell_of_one hv1
  go_wp2_with (at_builtin; refine list_append_bytes _ rfl (.tmp 16) (.tmp 17) rfl base v1 (xs ++ enc n) rfl ho1 B A n c ys rfl hy1 hn HL.out (Nat.le_trans hbase hk1.size) ?_; intro v2 w2 ho2 hgr hat; obtain ⟨A2, n2, k2, rfl, _, _, _, _⟩ := ho2.form; obtain ⟨hc2, hf2, hwr2, hk2, hb2⟩ := wr_push hg1 hv1 ho1 (Below.refl _ _) hgr ho2 hat)
  go_ret
  exact ⟨rfl, _, by rw [← List.append_assoc]; exact hwr2, lies_step hb1 hb2 hk1.size, hk1.step hk2 (foot_step hb1)⟩

/-- The bytes that were written, in new memory. -/
theorem wbytes_any (g base : Nat) (b : Option Nat) (xs : List UInt8) (w : World) (hw : Wr w base g b xs) (hlen : xs.length ≤ 140737488355328) :
    Calls Tryd.prog 38 #[.pointer (some ⟨g, 0, none⟩)] w (Makes xs w) := by
  obtain ⟨hg, v, hv, ho, hb⟩ := hw
  have hc := cell_of_one hv
  obtain ⟨A, n, c, rfl, hn, _, hx, _⟩ := ho.form
  have HC := hide (clone_any A n c _ xs w hx (Nat.le_refl _) hn.out (by have := hn.out; omega))
  go_enter Tryd.func38, Tryd.ntmps38
  go_wp2_with fail
  refine HC.out.mono ?_
  rintro e w1 ⟨v1, rfl, ho1, hb1⟩
  go_wp2
  go_ret
  exact ⟨v1, rfl, ho1, hb1⟩

theorem wnum_nil (u : Int) (w : World) : Calls Tryd.prog 33 #[.pointer none, .int .u64 u] w fun e w' => e = .returned (.pointer none) ∧ w = w' := by
  go_enter Tryd.func33, Tryd.ntmps33
  go_wp2
  go_ret
  exact ⟨rfl, rfl⟩
theorem wint_nil (i : Int) (w : World) (hi : IsInt i) : Calls Tryd.prog 36 #[.pointer none, .int .i64 i] w fun e w' => e = .returned (.pointer none) ∧ w = w' := by
  have HF := hide (fun w => fold_any i w hi)
  clear hi
  go_enter Tryd.func36, Tryd.ntmps36
  go_wp2_with fail
  refine (HF.out _).mono ?_
  rintro e w' ⟨rfl, rfl⟩
  go_wp2_with fail
  refine (wnum_nil _ _).mono ?_
  rintro e w' ⟨rfl, rfl⟩
  go_wp2
  go_ret
  exact ⟨rfl, rfl⟩
theorem wtext_nil (v : Value) (w : World) : Calls Tryd.prog 37 #[.pointer none, v] w fun e w' => e = .returned (.pointer none) ∧ w = w' := by
  go_enter Tryd.func37, Tryd.ntmps37
  go_wp2
  go_ret
  exact ⟨rfl, rfl⟩
theorem wbytes_nil (w : World) : Calls Tryd.prog 38 #[.pointer none] w fun e w' => e = .returned (.slice none 0 0) ∧ w = w' := by
  go_enter Tryd.func38, Tryd.ntmps38
  go_wp2
  go_ret
  exact ⟨rfl, rfl⟩
end Go.Proofs.YtapbcpilklhoiabDoor

namespace Go.Proofs.YtapbcpilklhoiabDoor
open Go.RowKit

/-- A scope in which the run jumps once, forward, to one label. -/
theorem wp_scope_forward {P : Program} {a : Act} {w : World} {Q : Exit → Act → World → Prop} {c rest : Code} (l : Nat) (hf : findLabel c l = some rest)
    (first : c.wp P (Exit.jump l (fun a' w' => rest.wp P (Exit.noGoto Q) a' w') Q) a w) : (Code.scope c).wp P Q a w := by
  refine wp_scope_jumps l _ (fun _ _ => 0) hf first ?_
  intro a' w' hJ
  refine Code.wp_mono ?_ hJ
  intro e a'' w'' h
  cases e <;> first | exact h | exact absurd h (by simp [Exit.noGoto])

/-- The reader at block g has xs left, which lies in block b (or nowhere), and the error er. -/
def Rd (w : World) (g : Nat) (b : Option Nat) (xs : List UInt8) (er : Nat) : Prop :=
  ∃ A n c, w.heap[g]? = some (.cells #[.slice A n c, .int .i64 (er : Int)] 126 (0, 0)) ∧ Hid (xs.length = n) ∧ n ≤ c ∧ n ≤ 140737488355328 ∧ Has w w.heap.size A xs ∧ A.map (·.block) = b ∧ b ≠ some g

theorem rerr_nil (w : World) : Calls Tryd.prog 51 #[.pointer none] w fun e w' => e = .returned (.int .i64 1) ∧ w = w' := by
  go_enter Tryd.func51, Tryd.ntmps51
  go_wp2
  go_ret
  exact ⟨rfl, rfl⟩
theorem rerr_any (g : Nat) (b : Option Nat) (xs : List UInt8) (er : Nat) (w : World) (h : Rd w g b xs er) : Calls Tryd.prog 51 #[.pointer (some ⟨g, 0, none⟩)] w fun e w' => e = .returned (.int .i64 (er : Int)) ∧ w = w' := by
  obtain ⟨A, n, c, hg, _⟩ := h
  have hc : w.cell? ⟨g, 1, none⟩ = some (.int .i64 (er : Int)) := by simp [World.cell?, hg]
  go_enter Tryd.func51, Tryd.ntmps51
  go_wp2
  go_ret
  exact ⟨rfl, rfl⟩
theorem rnum_nil (w : World) : Calls Tryd.prog 78 #[.pointer none] w fun e w' => e = .returned (.int .u64 0) ∧ w = w' := by
  go_enter Tryd.func78, Tryd.ntmps78
  go_wp2
  refine wp_scope_forward 0 rfl ?_
  go_wp2_with fail
  refine (rerr_nil _).mono ?_
  rintro e w' ⟨rfl, rfl⟩
  go_wp2
  go_step3
  refine ⟨rfl, ?_⟩
  go_wp2
  rw [Exit.noGoto_ret]
  go_ret
  exact ⟨rfl, rfl⟩

/-- What a call that reads answers and leaves. -/
def REnds (g : Nat) (b : Option Nat) (v : Value) (ys : List UInt8) (er : Nat) (w : World) (e : Ending) (w' : World) : Prop :=
  e = .returned v ∧ ∃ b', Rd w' g b' ys er ∧ (b' = b ∨ b' = none) ∧ Kept (fun k => k = g) w w'

theorem two_set0 {w : World} {g : Nat} {x y u : Value} {t : TypeId} (h : w.heap[g]? = some (.cells #[x, y] t (0, 0))) : (w.setCell ⟨g, 0, none⟩ u).heap[g]? = some (.cells #[u, y] t (0, 0)) := by
  simp [World.setCell, Array.getElem?_modify, h]
theorem two_set1 {w : World} {g : Nat} {x y u : Value} {t : TypeId} (h : w.heap[g]? = some (.cells #[x, y] t (0, 0))) : (w.setCell ⟨g, 1, none⟩ u).heap[g]? = some (.cells #[x, u] t (0, 0)) := by
  simp [World.setCell, Array.getElem?_modify, h]
theorem two_cell0 {w : World} {g : Nat} {x y : Value} {t : TypeId} (h : w.heap[g]? = some (.cells #[x, y] t (0, 0))) : w.cell? ⟨g, 0, none⟩ = some x := by simp [World.cell?, h]
theorem two_cell1 {w : World} {g : Nat} {x y : Value} {t : TypeId} (h : w.heap[g]? = some (.cells #[x, y] t (0, 0))) : w.cell? ⟨g, 1, none⟩ = some y := by simp [World.cell?, h]
theorem two_free {w : World} {g i : Nat} {x y : Value} {t : TypeId} (h : w.heap[g]? = some (.cells #[x, y] t (0, 0))) : w.frozen? ⟨g, i, none⟩ = false := by simp [World.frozen?, h]

/-- Bytes in other blocks than g stay where only g turns. -/
theorem Has.apart {w w' : World} {B g : Nat} {A : Option Addr} {xs : List UInt8} (h : Has w B A xs) (hB : B ≤ w.heap.size) (hk : Kept (fun k => k = g) w w') (hd : A.map (·.block) ≠ some g) : Has w' B A xs :=
  h.kept hB hk (fun a e _ hf => hd (by rw [e]; simp [hf]))

/-- The reader's end by an error. -/
theorem rfail_any (g : Nat) (x : Value) (k : Nat) (w : World) (hv : w.heap[g]? = some (.cells #[x, .int .i64 0] 126 (0, 0))) :
    Calls Tryd.prog 79 #[.pointer (some ⟨g, 0, none⟩), .int .i64 (k : Int)] w fun e w' => e = .returned (.tuple #[]) ∧ Rd w' g none [] k ∧ Kept (fun k => k = g) w w' := by
  have c0 := two_cell0 hv
  have c1 := two_cell1 hv
  have f0 := two_free (i := 0) hv
  have f1 := two_free (i := 1) hv
  go_enter Tryd.func79, Tryd.ntmps79
  go_wp2
  go_end0
  refine ⟨rfl, ?_, ?_⟩
  · exact ⟨none, 0, 0, two_set1 (two_set0 hv), rfl, Nat.le_refl _, by omega, Has.nil _ _ _, rfl, by simp⟩
  · exact ((Kept.refl (fun k => k = g) w).setCell (p := ⟨g, 0, none⟩) (.inl rfl) _).setCell (p := ⟨g, 1, none⟩) (.inl rfl) _

/-- An error that has come stays. -/
theorem rnum_stuck (g : Nat) (b : Option Nat) (xs : List UInt8) (er : Nat) (w : World) (h : Rd w g b xs er) (he : er ≠ 0) :
    Calls Tryd.prog 78 #[.pointer (some ⟨g, 0, none⟩)] w fun e w' => e = .returned (.int .u64 0) ∧ w = w' := by
  have HE := hide (rerr_any g b xs er w h)
  have t1 : ((er : Int) != 0) = true := by rw [bne_iff_ne]; omega
  clear h
  go_enter Tryd.func78, Tryd.ntmps78
  go_wp2
  refine wp_scope_forward 0 rfl ?_
  go_wp2_with fail
  refine HE.out.mono ?_
  rintro e w' ⟨rfl, rfl⟩
  go_wp2
  go_step3
  refine ⟨rfl, ?_⟩
  go_wp2
  rw [Exit.noGoto_ret]
  go_ret
  exact ⟨rfl, rfl⟩

/-- Nothing is left. -/
theorem rnum_empty (g : Nat) (b : Option Nat) (w : World) (h : Rd w g b [] 0) :
    Calls Tryd.prog 78 #[.pointer (some ⟨g, 0, none⟩)] w (REnds g b (.int .u64 0) [] 10 w) := by
  have HE := hide (rerr_any g b [] 0 w h)
  obtain ⟨A, n, c, hv, hn, hnc, hcm, hx, hb, hbg⟩ := h
  have c0 := two_cell0 hv
  have HF := hide (rfail_any g _ 10 w hv)
  obtain rfl : 0 = n := hn.out
  go_enter Tryd.func78, Tryd.ntmps78
  go_wp2
  refine wp_scope_forward 1 rfl ?_
  go_wp2_with fail
  refine HE.out.mono ?_
  rintro e w' ⟨rfl, rfl⟩
  go_wp2
  go_step3
  refine ⟨rfl, ?_⟩
  go_wp2_with fail
  refine HF.out.mono ?_
  rintro e w' ⟨rfl, hr, hk⟩
  go_wp2
  rw [Exit.noGoto_ret]
  go_ret
  exact ⟨rfl, none, hr, .inr rfl, hk⟩

/-- The first byte is too great. -/
theorem rnum_wide (g : Nat) (b : Option Nat) (ch : UInt8) (t : List UInt8) (w : World) (h : Rd w g b (ch :: t) 0) (h8 : 8 < ch.toNat) :
    Calls Tryd.prog 78 #[.pointer (some ⟨g, 0, none⟩)] w (REnds g b (.int .u64 0) [] 11 w) := by
  have HE := hide (rerr_any g b _ 0 w h)
  obtain ⟨A, n, c, hv, hn, hnc, hcm, hx, hb, hbg⟩ := h
  have c0 := two_cell0 hv
  have HF := hide (rfail_any g _ 11 w hv)
  obtain ⟨k, rfl⟩ : ∃ k, n = k + 1 := ⟨t.length, by have := hn.out; simp at this; omega⟩
  obtain ⟨b0, o0, rfl, hb0, hc0⟩ := hx 0 (by simp)
  unfold byt at hc0
  simp only [List.getElem_cons_zero, Nat.add_zero] at hc0
  have hch := ch.toNat_lt
  generalize ch.toNat = m at *
  have t1 : decide ((8 : Int) < (m : Int)) = true := by simp; omega
  go_enter Tryd.func78, Tryd.ntmps78
  go_wp2
  refine wp_scope_forward 2 rfl ?_
  go_wp2_with fail
  refine HE.out.mono ?_
  rintro e w' ⟨rfl, rfl⟩
  go_wp2
  go_step3
  refine ⟨rfl, ?_⟩
  go_wp2_with fail
  refine HF.out.mono ?_
  rintro e w' ⟨rfl, hr, hk⟩
  go_wp2
  rw [Exit.noGoto_ret]
  go_ret
  exact ⟨rfl, none, hr, .inr rfl, hk⟩

/-- Too few bytes are left. -/
theorem rnum_short (g : Nat) (b : Option Nat) (ch : UInt8) (t : List UInt8) (w : World) (h : Rd w g b (ch :: t) 0) (h8 : ch.toNat ≤ 8) (hs : t.length < ch.toNat) :
    Calls Tryd.prog 78 #[.pointer (some ⟨g, 0, none⟩)] w (REnds g b (.int .u64 0) [] 10 w) := by
  have HE := hide (rerr_any g b _ 0 w h)
  obtain ⟨A, n, c, hv, hn, hnc, hcm, hx, hb, hbg⟩ := h
  have c0 := two_cell0 hv
  have HF := hide (rfail_any g _ 10 w hv)
  obtain ⟨k, rfl, hk⟩ : ∃ k, n = k + 1 ∧ k = t.length := ⟨t.length, by have := hn.out; simp at this; omega, rfl⟩
  obtain ⟨b0, o0, rfl, hb0, hc0⟩ := hx 0 (by simp)
  unfold byt at hc0
  simp only [List.getElem_cons_zero, Nat.add_zero] at hc0
  generalize ch.toNat = m at *
  have t1 : decide ((8 : Int) < (m : Int)) = false := by simp; omega
  have t2 : decide (k < m) = true := by simp; omega
  have i1 : k < m := by omega
  clear hk hs
  go_enter Tryd.func78, Tryd.ntmps78
  go_wp2
  refine wp_scope_forward 1 rfl ?_
  go_wp2_with fail
  refine HE.out.mono ?_
  rintro e w' ⟨rfl, rfl⟩
  go_wp2
  go_step3
  refine ⟨rfl, ?_⟩
  go_wp2_with fail
  refine HF.out.mono ?_
  rintro e w' ⟨rfl, hr, hk⟩
  go_wp2
  rw [Exit.noGoto_ret]
  go_ret
  exact ⟨rfl, none, hr, .inr rfl, hk⟩
end Go.Proofs.YtapbcpilklhoiabDoor

namespace Go.Proofs.YtapbcpilklhoiabDoor
open Go.RowKit

/-- The first byte of the number is 0. -/
theorem rnum_zero (g : Nat) (b : Option Nat) (ch : UInt8) (t : List UInt8) (w : World) (h : Rd w g b (ch :: 0 :: t) 0) (h8 : ch.toNat ≤ 8) (h0 : 0 < ch.toNat) (hs : ch.toNat ≤ t.length + 1) :
    Calls Tryd.prog 78 #[.pointer (some ⟨g, 0, none⟩)] w (REnds g b (.int .u64 0) [] 11 w) := by
  have HE := hide (rerr_any g b _ 0 w h)
  obtain ⟨A, n, c, hv, hn, hnc, hcm, hx, hb, hbg⟩ := h
  have c0 := two_cell0 hv
  have HF := hide (rfail_any g _ 11 w hv)
  obtain ⟨k, rfl, hk⟩ : ∃ k, n = k + 2 ∧ k = t.length := ⟨t.length, by have := hn.out; simp at this; omega, rfl⟩
  obtain ⟨b0, o0, rfl, hb0, hc0⟩ := hx 0 (by simp)
  obtain ⟨b1, o1, e1, _, hc1⟩ := hx 1 (by simp)
  injection e1 with e1
  injection e1 with eb eo
  subst eb eo
  unfold byt at hc0 hc1
  simp only [List.getElem_cons_zero, List.getElem_cons_succ, Nat.add_zero] at hc0 hc1
  have hc1' : w.cell? ⟨b0, o0 + 1, none⟩ = some (.int .u8 0) := hc1
  clear hc1
  generalize ch.toNat = m at *
  have t1 : decide ((8 : Int) < (m : Int)) = false := by simp; omega
  have t2 : decide (k + 1 < m) = false := by simp; omega
  have t2' : decide ((k : Int) + 1 < (m : Int)) = false := by simp; omega
  have t3 : decide ((0 : Int) < (m : Int)) = true := by simp; omega
  have i1 : m ≤ k + 1 := by omega
  clear hk hs
  go_enter Tryd.func78, Tryd.ntmps78
  go_wp2
  refine wp_scope_forward 2 rfl ?_
  go_wp2_with fail
  refine HE.out.mono ?_
  rintro e w' ⟨rfl, rfl⟩
  go_wp2
  go_step3
  refine ⟨rfl, ?_⟩
  go_wp2_with fail
  refine HF.out.mono ?_
  rintro e w' ⟨rfl, hr, hk⟩
  go_wp2
  rw [Exit.noGoto_ret]
  go_ret
  exact ⟨rfl, none, hr, .inr rfl, hk⟩

theorem or_step (u : Nat) (c : UInt8) (h : u < 72057594037927936) : bits .or .u64 (IntKind.u64.wrap ((u : Int) * 256)) (IntKind.u64.wrap (c.toNat : Int)) = ((256 * u + c.toNat : Nat) : Int) := by
  have hc := c.toNat_lt
  have e1 : IntKind.u64.wrap ((u : Int) * 256) = ((256 * u : Nat) : Int) := by rw [IntKind.wrap_u64]; omega
  have e2 : IntKind.u64.wrap (c.toNat : Int) = (c.toNat : Int) := by rw [IntKind.wrap_u64]; omega
  rw [e1, e2, u64_or_nat _ _ (by omega) (by omega), nat_join 8 _ _ (by omega) (by omega)]
theorem val_take (d : List UInt8) (j : Nat) (h : j < d.length) : val (d.take (j + 1)) = 256 * val (d.take j) + d[j].toNat := by
  rw [List.take_succ_eq_append_getElem h, val_snoc]
theorem val_take_lt (d : List UInt8) (j : Nat) (h : j < d.length) (h8 : d.length ≤ 8) : val (d.take j) < 72057594037927936 := by
  have h1 := val_lt (d.take j)
  have h2 : (d.take j).length ≤ 7 := by rw [List.length_take]; omega
  have h3 := Nat.pow_le_pow_right (show 0 < 256 by omega) h2
  simp only [Nat.reducePow] at h3
  omega

theorem addr_add (b o s : Nat) : Option.map (fun x : Addr => x.add s) (some ⟨b, o, none⟩) = some ⟨b, o + s, none⟩ := by
  simp only [Option.map_some, Addr.add]
  split <;> simp_all
/-- The reader behind a cut of what is left. -/
theorem rd_cut {w : World} {g : Nat} {b : Option Nat} {xs : List UInt8} {A A' : Option Addr} {n c s n' c' : Nat} (hv : w.heap[g]? = some (.cells #[.slice A n c, .int .i64 0] 126 (0, 0))) (hn : xs.length = n) (hnc : n ≤ c) (hcm : n ≤ 140737488355328)
    (hx : Has w w.heap.size A xs) (hb : A.map (·.block) = b) (hbg : b ≠ some g) (hs : s ≤ n) (hn' : n' = n - s) (hc' : c' = c - s) (hA : A' = A ∧ c = s ∨ A' = Option.map (fun x => x.add s) A) :
    Rd (w.setCell ⟨g, 0, none⟩ (.slice A' n' c')) g b (xs.drop s) 0 ∧ Kept (fun k => k = g) w (w.setCell ⟨g, 0, none⟩ (.slice A' n' c')) := by
  have hk : Kept (fun k => k = g) w (w.setCell ⟨g, 0, none⟩ (.slice A' n' c')) := (Kept.refl (fun k => k = g) w).setCell (p := ⟨g, 0, none⟩) (.inl rfl) _
  have hsz : (w.setCell ⟨g, 0, none⟩ (.slice A' n' c')).heap.size = w.heap.size := by simp [World.setCell]
  refine ⟨⟨A', n', c', two_set0 hv, ?_, by omega, by omega, ?_, ?_, hbg⟩, hk⟩
  · show (xs.drop s).length = n'
    simp; omega
  · rw [hsz]
    rcases hA with ⟨rfl, hcs⟩ | rfl
    · rw [List.drop_eq_nil_of_le (by omega)]; exact Has.nil _ _ _
    · refine (hx.drop s).apart (Nat.le_refl _) hk ?_
      intro e
      apply hbg
      rw [← hb, ← e]
      cases A with
      | none => rfl
      | some a => simp [Addr.add]; split <;> rfl
  · rcases hA with ⟨rfl, _⟩ | rfl
    · exact hb
    · rw [← hb]
      cases A with
      | none => rfl
      | some a => simp [Addr.add]; split <;> rfl

set_option maxHeartbeats 800000 in
theorem rnum_ok (g : Nat) (b : Option Nat) (ch : UInt8) (d t : List UInt8) (w : World) (h : Rd w g b (ch :: (d ++ t)) 0) (hm : d.length = ch.toNat) (h8 : d.length ≤ 8) (hz : ∀ x r, d = x :: r → x ≠ 0) :
    Calls Tryd.prog 78 #[.pointer (some ⟨g, 0, none⟩)] w (REnds g b (.int .u64 (val d : Int)) t 0 w) := by
  have HE := hide (rerr_any g b _ 0 w h)
  obtain ⟨A, n, c, hv, hn, hnc, hcm, hx, hb, hbg⟩ := h
  have c0 := two_cell0 hv
  have f0 := two_free (i := 0) hv
  obtain ⟨k, rfl, hk⟩ : ∃ k, n = k + 1 ∧ k = d.length + t.length := ⟨d.length + t.length, by have := hn.out; simp at this; omega, rfl⟩
  obtain ⟨b0, o0, rfl, hb0, hc0⟩ := hx 0 (by simp)
  have hcd : ∀ j (hj : j < d.length), w.cell? ⟨b0, o0 + 1 + j, none⟩ = some (.int .u8 (d[j].toNat : Int)) := by
    intro j hj
    obtain ⟨b1, o1, e1, _, hc1⟩ := hx (j + 1) (by simp; omega)
    injection e1 with e1
    injection e1 with eb eo
    subst eb eo
    rw [show o0 + 1 + j = o0 + (j + 1) from by omega, hc1]
    simp [hj, byt, List.getElem_append_left]
  have HCD := hide hcd
  clear hcd
  have HX := hide hx
  clear hx
  have HN := hn
  clear hn
  unfold byt at hc0
  simp only [List.getElem_cons_zero, Nat.add_zero] at hc0
  rw [← hm] at hc0
  have t1 : decide ((8 : Int) < (d.length : Int)) = false := by simp; omega
  have t2 : decide (k < d.length) = false := by simp; omega
  have i1 : d.length ≤ k := by omega
  have HK := hide hk
  clear hk
  have HM := hide hm
  clear hm
  have hdr : (ch :: (d ++ t)).drop (1 + d.length) = t := by rw [Nat.add_comm, List.drop_succ_cons, List.drop_left]
  have HDR := hide hdr
  clear hdr
  have fin : ∀ (A' : Option Addr) (n' c' : Nat) (e : Ending) (w' : World), n' = k + 1 - (1 + d.length) → c' = c - (1 + d.length) → (A' = some ⟨b0, o0, none⟩ ∧ c = 1 + d.length ∨ A' = some ⟨b0, o0 + (1 + d.length), none⟩) → e = .returned (.int .u64 (val d : Int)) →
      w' = w.setCell ⟨g, 0, none⟩ (.slice A' n' c') → REnds g b (.int .u64 (val d : Int)) t 0 w e w' := by
    intro A' n' c' e w' h1 h2 h3 h4 h5
    subst h5
    have hcut := rd_cut (A' := A') (s := 1 + d.length) hv HN.out hnc hcm HX.out hb hbg (by omega) h1 h2 (by
      rcases h3 with ⟨rfl, h⟩ | h
      · exact .inl ⟨rfl, h⟩
      · exact .inr (h.trans (addr_add _ _ _).symm))
    rw [HDR.out] at hcut
    exact ⟨h4, b, hcut.1, .inl rfl, hcut.2⟩
  have FIN := hide fin
  clear fin
  have HV := hide hv
  clear hv hb
  by_cases hcc : c = 1 + d.length
  all_goals
    cases d with
    | nil =>
      have hc1 := hcc
      simp only [List.length_nil, Nat.add_zero] at hc1
      go_enter Tryd.func78, Tryd.ntmps78
      go_wp2
      go_step3
      go_wp2_with fail
      refine HE.out.mono ?_
      rintro e w' ⟨rfl, rfl⟩
      go_wp2
      refine wp_loop_rounds 1 ?_
      rw [rounds_succ]
      go_wp2
      rw [Exit.noGoto_ret]
      go_ret
      first
        | exact FIN.out (some ⟨b0, o0, none⟩) k 0 _ _ (by simp) (by simp; omega) (.inl ⟨rfl, hcc⟩) rfl rfl
        | exact FIN.out (some ⟨b0, o0 + 1, none⟩) k (c - 1) _ _ (by simp) (by simp) (.inr rfl) rfl rfl
    | cons x r =>
      have hx0 : x ≠ 0 := hz x r rfl
      have hc1 := HCD.out 0 (by simp)
      simp only [List.getElem_cons_zero, Nat.add_zero] at hc1
      have t3 : ((x.toNat : Int) == 0) = false := by
        rw [beq_eq_false_iff_ne]; intro e; exact hx0 (UInt8.toNat_inj.1 (by simp; omega))
      clear hz
      generalize hd : (x :: r) = d at *
      have hdl : 0 < d.length := by rw [← hd]; simp
      have t4 : decide (0 < d.length) = true := by simpa using hdl
      have hcn1 : ¬ c = 1 := by omega
      have HCC := hide hcc
      have hle : c ≤ 1 + d.length ∨ 2 + d.length ≤ c := by omega
      clear hd hcc
      go_enter Tryd.func78, Tryd.ntmps78
      go_wp2
      go_step3
      go_wp2_with fail
      refine HE.out.mono ?_
      rintro e w' ⟨rfl, rfl⟩
      go_wp2
      go_loop [4, 52] (fun s i => ∃ j : Nat, j ≤ d.length ∧ i = .int .i64 j ∧ s = .int .u64 (val (d.take j) : Int)) (fun _ i => d.length - (intOf i).toNat)
      case atStart => exact ⟨0, Nat.zero_le _, rfl, rfl⟩
      case round =>
        obtain ⟨j, hj, rfl, rfl⟩ := hrel
        by_cases hjl : j < d.length
        · have hcj := HCD.out j hjl
          have HV := hide (val_take d j hjl)
          have HB := hide (val_take_lt d j hjl h8)
          generalize val (d.take j) = u at *
          generalize d[j] = cj at *
          go_wp2
          go_round
          case rel => exact ⟨j + 1, by omega, by go_num, by rw [HV.out]; exact congrArg (Value.int .u64) (or_step u cj HB.out)⟩
          case measure => simp [intOf]; omega
        · have e : j = d.length := by omega
          have HL := hide e
          go_wp2
          go_ret
          first
            | exact FIN.out _ _ _ _ _ rfl rfl (.inr rfl) rfl rfl
            | exact FIN.out _ _ _ _ _ (by omega) (by omega) (.inl ⟨rfl, HCC.out⟩) rfl rfl
end Go.Proofs.YtapbcpilklhoiabDoor

namespace Go.Proofs.YtapbcpilklhoiabDoor
open Go.RowKit

/-- What reading a number of xs gives: the number, what is left, the error. -/
def rn : List UInt8 → Nat × List UInt8 × Nat
  | [] => (0, [], 10)
  | c :: t => if 8 < c.toNat then (0, [], 11) else if t.length < c.toNat then (0, [], 10) else if 0 < c.toNat ∧ t.head? = some 0 then (0, [], 11) else (val (t.take c.toNat), t.drop c.toNat, 0)

theorem rn_wide {c : UInt8} {t : List UInt8} (h8 : 8 < c.toNat) : rn (c :: t) = (0, [], 11) := by unfold rn; simp only [if_pos h8]
theorem rn_short {c : UInt8} {t : List UInt8} (h8 : ¬ 8 < c.toNat) (hs : t.length < c.toNat) : rn (c :: t) = (0, [], 10) := by unfold rn; simp only [if_neg h8, if_pos hs]
theorem rn_zero {c : UInt8} {t : List UInt8} (h8 : ¬ 8 < c.toNat) (hs : ¬ t.length < c.toNat) (hz : 0 < c.toNat ∧ t.head? = some 0) : rn (c :: t) = (0, [], 11) := by unfold rn; simp only [if_neg h8, if_neg hs, if_pos hz]
theorem rn_ok {c : UInt8} {t : List UInt8} (h8 : ¬ 8 < c.toNat) (hs : ¬ t.length < c.toNat) (hz : ¬ (0 < c.toNat ∧ t.head? = some 0)) : rn (c :: t) = (val (t.take c.toNat), t.drop c.toNat, 0) := by unfold rn; simp only [if_neg h8, if_neg hs, if_neg hz]

theorem rnum_any (g : Nat) (b : Option Nat) (xs : List UInt8) (w : World) (h : Rd w g b xs 0) :
    Calls Tryd.prog 78 #[.pointer (some ⟨g, 0, none⟩)] w (REnds g b (.int .u64 ((rn xs).1 : Int)) (rn xs).2.1 (rn xs).2.2 w) := by
  cases xs with
  | nil => exact rnum_empty g b w h
  | cons c t =>
    by_cases h8 : 8 < c.toNat
    · rw [rn_wide h8]; exact rnum_wide g b c t w h h8
    by_cases hs : t.length < c.toNat
    · rw [rn_short h8 hs]; exact rnum_short g b c t w h (by omega) hs
    by_cases hz : 0 < c.toNat ∧ t.head? = some 0
    · rw [rn_zero h8 hs hz]
      cases t with
      | nil => simp at hz
      | cons x r =>
        obtain rfl : x = 0 := by simpa using hz.2
        exact rnum_zero g b c r w h (by omega) hz.1 (by simp at hs; omega)
    · rw [rn_ok h8 hs hz]
      have h' : Rd w g b (c :: (t.take c.toNat ++ t.drop c.toNat)) 0 := by rw [List.take_append_drop]; exact h
      refine rnum_ok g b c (t.take c.toNat) (t.drop c.toNat) w h' (by rw [List.length_take]; omega) (by rw [List.length_take]; omega) ?_
      intro x r e hx
      subst hx
      apply hz
      have hl : (t.take c.toNat).length = r.length + 1 := by rw [e]; simp
      rw [List.length_take] at hl
      refine ⟨by omega, ?_⟩
      cases t with
      | nil => simp at e
      | cons y s =>
        obtain ⟨m, hm⟩ : ∃ m, c.toNat = m + 1 := ⟨c.toNat - 1, by omega⟩
        rw [hm, List.take_succ_cons] at e
        injection e with e1 _
        rw [e1]; rfl

theorem own_map (A : Option Addr) (n c : Nat) : (Value.slice A n c).ownBlock = A.map (·.block) := by cases A <;> rfl
/-- A reader stays where its blocks stay. -/
theorem Rd.kept {F : Nat → Prop} {w w' : World} {g : Nat} {b : Option Nat} {xs : List UInt8} {er : Nat} (h : Rd w g b xs er) (hk : Kept F w w') (hd : ∀ k, Foot g b k → ¬ F k) : Rd w' g b xs er := by
  obtain ⟨A, n, c, hv, hn, hnc, hcm, hx, hb, hbg⟩ := h
  refine ⟨A, n, c, (hk.block g (lt_of_block hv) (hd g (.inl rfl))).trans hv, hn, hnc, hcm, ?_, hb, hbg⟩
  refine (hx.kept (Nat.le_refl _) hk ?_).more hk.size
  intro a e _ hF
  exact hd a.block (.inr (by rw [← hb, e]; rfl)) hF
theorem Rd.below {w w' : World} {g : Nat} {b : Option Nat} {xs : List UInt8} {er : Nat} (h : Rd w g b xs er) (hk : Below w.heap.size w w') : Rd w' g b xs er :=
  h.kept (F := fun _ => False) (Kept.of_below hk) (fun _ _ h => h)
/-- A new reader of a copy. -/
def RNew (xs : List UInt8) (w : World) (e : Ending) (w' : World) : Prop :=
  ∃ g b, e = .returned (.pointer (some ⟨g, 0, none⟩)) ∧ Rd w' g b xs 0 ∧ (∀ k, Foot g b k → w.heap.size ≤ k ∧ k < w'.heap.size) ∧ Below w.heap.size w w'
theorem newreader_any (A : Option Addr) (n c B : Nat) (xs : List UInt8) (w : World) (hx : Has w B A xs) (hB : B ≤ w.heap.size) (hn : xs.length = n) (hl : n ≤ 140737488355328) :
    Calls Tryd.prog 49 #[.slice A n c] w (RNew xs w) := by
  have HC := hide (clone_any A n c B xs w hx hB hn hl)
  clear hx
  go_enter Tryd.func49, Tryd.ntmps49
  go_wp2_with fail
  refine HC.out.mono ?_
  rintro e w1 ⟨v, rfl, ho, hb⟩
  obtain ⟨A1, n1, c1, rfl, hn1, hnc1, hx1, hf⟩ := ho.form
  go_wp2
  go_ret
  refine ⟨w1.heap.size, A1.map (·.block), rfl, ⟨A1, n1, c1, heap_alloc_new w1 _, hn1, hnc1, by have := hn1.out; omega, (hx1.alloc (Nat.le_refl _) _).more (by simp), rfl, ?_⟩, ?_, hb.alloc hb.size _⟩
  · intro e
    have := (ho.lt w1.heap.size (by rw [own_map]; exact e)).2
    omega
  · intro k e
    have hs := hb.size
    rcases e with rfl | e
    · simp; exact hs
    · have := ho.lt k (by rw [own_map]; exact e)
      simp; omega

theorem rn_lt (xs : List UInt8) : (rn xs).1 < 18446744073709551616 := by
  cases xs with
  | nil => simp [rn]
  | cons c t =>
    by_cases h8 : 8 < c.toNat
    · rw [rn_wide h8]; simp
    by_cases hs : t.length < c.toNat
    · rw [rn_short h8 hs]; simp
    by_cases hz : 0 < c.toNat ∧ t.head? = some 0
    · rw [rn_zero h8 hs hz]; simp
    · rw [rn_ok h8 hs hz]
      have h1 := val_lt (t.take c.toNat)
      have h2 : (t.take c.toNat).length ≤ 8 := by rw [List.length_take]; omega
      have h3 := Nat.pow_le_pow_right (show 0 < 256 by omega) h2
      simp only [Nat.reducePow] at h3
      show val (t.take c.toNat) < _
      omega

theorem rint_any (g : Nat) (b : Option Nat) (xs : List UInt8) (w : World) (h : Rd w g b xs 0) :
    Calls Tryd.prog 84 #[.pointer (some ⟨g, 0, none⟩)] w (REnds g b (.int .i64 (zag (rn xs).1)) (rn xs).2.1 (rn xs).2.2 w) := by
  have HN := hide (rnum_any g b xs w h)
  have HU := hide (fun w => unfold_any (rn xs).1 w (rn_lt xs))
  clear h
  generalize rn xs = q at *
  go_enter Tryd.func84, Tryd.ntmps84
  go_wp2_with fail
  refine HN.out.mono ?_
  rintro e w1 ⟨rfl, hr⟩
  have HR := hide hr
  clear hr
  go_wp2_with fail
  refine (HU.out _).mono ?_
  rintro e w2 ⟨rfl, rfl⟩
  go_wp2
  go_ret
  exact ⟨rfl, HR.out⟩
theorem rint_stuck (g : Nat) (b : Option Nat) (xs : List UInt8) (er : Nat) (w : World) (h : Rd w g b xs er) (he : er ≠ 0) :
    Calls Tryd.prog 84 #[.pointer (some ⟨g, 0, none⟩)] w fun e w' => e = .returned (.int .i64 0) ∧ w = w' := by
  have HN := hide (rnum_stuck g b xs er w h he)
  have HU := hide (fun w => unfold_any 0 w (by omega))
  clear h he
  go_enter Tryd.func84, Tryd.ntmps84
  go_wp2_with fail
  refine HN.out.mono ?_
  rintro e w1 ⟨rfl, rfl⟩
  go_wp2_with fail
  refine (HU.out _).mono ?_
  rintro e w2 ⟨rfl, rfl⟩
  go_wp2
  go_ret
  exact ⟨rfl, rfl⟩
theorem rint_nil (w : World) : Calls Tryd.prog 84 #[.pointer none] w fun e w' => e = .returned (.int .i64 0) ∧ w = w' := by
  have HU := hide (fun w => unfold_any 0 w (by omega))
  go_enter Tryd.func84, Tryd.ntmps84
  go_wp2_with fail
  refine (rnum_nil _).mono ?_
  rintro e w1 ⟨rfl, rfl⟩
  go_wp2_with fail
  refine (HU.out _).mono ?_
  rintro e w2 ⟨rfl, rfl⟩
  go_wp2
  go_ret
  exact ⟨rfl, rfl⟩
end Go.Proofs.YtapbcpilklhoiabDoor

namespace Go.Proofs.YtapbcpilklhoiabDoor
open Go.RowKit

theorem rn_err {xs : List UInt8} (h : 0 < (rn xs).1) : (rn xs).2.2 = 0 := by
  cases xs with
  | nil => simp [rn] at h
  | cons c t =>
    by_cases h8 : 8 < c.toNat
    · rw [rn_wide h8] at h; simp at h
    by_cases hs : t.length < c.toNat
    · rw [rn_short h8 hs] at h; simp at h
    by_cases hz : 0 < c.toNat ∧ t.head? = some 0
    · rw [rn_zero h8 hs hz] at h; simp at h
    · rw [rn_ok h8 hs hz]
/-- What reading a count of xs gives. -/
def rcn (xs : List UInt8) (most : Int) : Nat × List UInt8 × Nat := if most.toNat < (rn xs).1 then (0, [], 12) else rn xs

theorem wrap_max {most : Int} (h : IsInt most) : IntKind.u64.wrap (max most 0) = (most.toNat : Int) := by
  unfold IsInt at h
  rw [IntKind.wrap_u64]
  omega

theorem rcount_big (g : Nat) (b : Option Nat) (xs : List UInt8) (most : Int) (w : World) (h : Rd w g b xs 0) (hm : IsInt most) (hbig : most.toNat < (rn xs).1) :
    Calls Tryd.prog 50 #[.pointer (some ⟨g, 0, none⟩), .int .i64 most] w (REnds g b (.int .i64 0) [] 12 w) := by
  have HN := hide (rnum_any g b xs w h)
  have H0 := hide (rn_err (xs := xs) (by omega))
  have hmax := wrap_max hm
  clear h hm
  generalize rn xs = q at *
  obtain ⟨u, ys, er⟩ := q
  simp only at hbig HN H0
  have t1 : decide (most.toNat < u) = true := by simpa using hbig
  have t2 : decide (max most 0 < (u : Int)) = true := decide_eq_true (by omega)
  go_enter Tryd.func50, Tryd.ntmps50
  go_wp2
  refine wp_scope_forward 0 rfl ?_
  go_wp2_with fail
  refine HN.out.mono ?_
  rintro e w1 ⟨rfl, b1, ⟨A, n, c, hv, hn, hnc, hcm, hx, hb, hbg⟩, hb1, hk1⟩
  obtain rfl : er = 0 := H0.out
  have HF := hide (rfail_any g _ 12 w1 hv)
  clear hv hx hb
  go_wp2
  go_step3
  refine ⟨rfl, ?_⟩
  go_wp2_with fail
  refine HF.out.mono ?_
  rintro e w2 ⟨rfl, hr2, hk2⟩
  go_wp2
  rw [Exit.noGoto_ret]
  go_ret
  exact ⟨rfl, none, hr2, .inr rfl, hk1.step hk2 (fun k e => .inl e)⟩

theorem rcount_fine (g : Nat) (b : Option Nat) (xs : List UInt8) (most : Int) (w : World) (h : Rd w g b xs 0) (hm : IsInt most) (hbig : ¬ most.toNat < (rn xs).1) :
    Calls Tryd.prog 50 #[.pointer (some ⟨g, 0, none⟩), .int .i64 most] w (REnds g b (.int .i64 ((rn xs).1 : Int)) (rn xs).2.1 (rn xs).2.2 w) := by
  have HN := hide (rnum_any g b xs w h)
  have hmax := wrap_max hm
  have hu : (rn xs).1 ≤ 9223372036854775807 := by unfold IsInt at hm; omega
  have HU := hide hu
  clear h hm hu
  generalize rn xs = q at *
  obtain ⟨u, ys, er⟩ := q
  simp only at hbig HN HU
  have t1 : decide (most.toNat < u) = false := by simpa using hbig
  have t2 : decide (max most 0 < (u : Int)) = false := decide_eq_false (by omega)
  have hw : wrap64 (u : Int) = (u : Int) := by unfold wrap64; have := HU.out; omega
  clear hbig
  go_enter Tryd.func50, Tryd.ntmps50
  go_wp2
  go_step3
  go_wp2_with fail
  refine HN.out.mono ?_
  rintro e w1 ⟨rfl, hr⟩
  have HR := hide hr
  clear hr
  go_wp2
  rw [Exit.noGoto_ret]
  go_ret
  exact ⟨ret_num hw, HR.out⟩
theorem rcount_any (g : Nat) (b : Option Nat) (xs : List UInt8) (most : Int) (w : World) (h : Rd w g b xs 0) (hm : IsInt most) :
    Calls Tryd.prog 50 #[.pointer (some ⟨g, 0, none⟩), .int .i64 most] w (REnds g b (.int .i64 ((rcn xs most).1 : Int)) (rcn xs most).2.1 (rcn xs most).2.2 w) := by
  by_cases hbig : most.toNat < (rn xs).1
  · have e : rcn xs most = (0, [], 12) := by unfold rcn; rw [if_pos hbig]
    rw [e]; exact rcount_big g b xs most w h hm hbig
  · have e : rcn xs most = rn xs := by unfold rcn; rw [if_neg hbig]
    rw [e]; exact rcount_fine g b xs most w h hm hbig
theorem rcount_stuck (g : Nat) (b : Option Nat) (xs : List UInt8) (er : Nat) (most : Int) (w : World) (h : Rd w g b xs er) (he : er ≠ 0) (hm : IsInt most) :
    Calls Tryd.prog 50 #[.pointer (some ⟨g, 0, none⟩), .int .i64 most] w fun e w' => e = .returned (.int .i64 0) ∧ w = w' := by
  have HN := hide (rnum_stuck g b xs er w h he)
  have hmax := wrap_max hm
  have t1 : decide ((most.toNat : Int) < 0) = false := decide_eq_false (by omega)
  have t2 : decide (max most 0 < 0) = false := decide_eq_false (by omega)
  clear h he hm
  go_enter Tryd.func50, Tryd.ntmps50
  go_wp2
  go_step3
  go_wp2_with fail
  refine HN.out.mono ?_
  rintro e w1 ⟨rfl, rfl⟩
  go_wp2
  rw [Exit.noGoto_ret]
  go_ret
  exact ⟨rfl, rfl⟩
theorem rcount_nil (most : Int) (w : World) (hm : IsInt most) :
    Calls Tryd.prog 50 #[.pointer none, .int .i64 most] w fun e w' => e = .returned (.int .i64 0) ∧ w = w' := by
  have hmax := wrap_max hm
  have t1 : decide ((most.toNat : Int) < 0) = false := decide_eq_false (by omega)
  have t2 : decide (max most 0 < 0) = false := decide_eq_false (by omega)
  clear hm
  go_enter Tryd.func50, Tryd.ntmps50
  go_wp2
  go_step3
  go_wp2_with fail
  refine (rnum_nil _).mono ?_
  rintro e w1 ⟨rfl, rfl⟩
  go_wp2
  rw [Exit.noGoto_ret]
  go_ret
  exact ⟨rfl, rfl⟩

/-- What a reader's Text answers and leaves. -/
def TEnds (g : Nat) (b : Option Nat) (zs ys : List UInt8) (er : Nat) (w : World) (e : Ending) (w' : World) : Prop :=
  ∃ v, e = .returned v ∧ Own w' w.heap.size v zs ∧ ∃ b', Rd w' g b' ys er ∧ (b' = b ∨ b' = none) ∧ Kept (fun k => k = g) w w'
theorem rtext_stuck (g : Nat) (b : Option Nat) (xs : List UInt8) (er : Nat) (most : Int) (w : World) (h : Rd w g b xs er) (he : er ≠ 0) (hm : IsInt most) :
    Calls Tryd.prog 85 #[.pointer (some ⟨g, 0, none⟩), .int .i64 most] w fun e w' => e = .returned (.slice none 0 0) ∧ w = w' := by
  have HN := hide (rcount_stuck g b xs er most w h he hm)
  have HE := hide (rerr_any g b xs er w h)
  have t1 : ((er : Int) != 0) = true := by rw [bne_iff_ne]; omega
  clear h he hm
  go_enter Tryd.func85, Tryd.ntmps85
  go_wp2
  refine wp_scope_forward 0 rfl ?_
  go_wp2_with fail
  refine HN.out.mono ?_
  rintro e w1 ⟨rfl, rfl⟩
  go_wp2_with fail
  refine HE.out.mono ?_
  rintro e w1 ⟨rfl, rfl⟩
  go_wp2
  go_step3
  refine ⟨rfl, ?_⟩
  go_wp2
  rw [Exit.noGoto_ret]
  go_ret
  exact ⟨rfl, rfl⟩
theorem rtext_nil (most : Int) (w : World) (hm : IsInt most) :
    Calls Tryd.prog 85 #[.pointer none, .int .i64 most] w fun e w' => e = .returned (.slice none 0 0) ∧ w = w' := by
  have HN := hide (rcount_nil most w hm)
  clear hm
  go_enter Tryd.func85, Tryd.ntmps85
  go_wp2
  refine wp_scope_forward 0 rfl ?_
  go_wp2_with fail
  refine HN.out.mono ?_
  rintro e w1 ⟨rfl, rfl⟩
  go_wp2_with fail
  refine (rerr_nil _).mono ?_
  rintro e w1 ⟨rfl, rfl⟩
  go_wp2
  go_step3
  refine ⟨rfl, ?_⟩
  go_wp2
  rw [Exit.noGoto_ret]
  go_ret
  exact ⟨rfl, rfl⟩
theorem rtext_bad (g : Nat) (b : Option Nat) (xs : List UInt8) (most : Int) (w : World) (h : Rd w g b xs 0) (hm : IsInt most) (he : (rcn xs most).2.2 ≠ 0) :
    Calls Tryd.prog 85 #[.pointer (some ⟨g, 0, none⟩), .int .i64 most] w (TEnds g b [] (rcn xs most).2.1 (rcn xs most).2.2 w) := by
  have HN := hide (rcount_any g b xs most w h hm)
  clear h hm
  generalize rcn xs most = q at *
  obtain ⟨u, ys, er⟩ := q
  simp only at HN he
  have t1 : ((er : Int) != 0) = true := by rw [bne_iff_ne]; omega
  clear he
  go_enter Tryd.func85, Tryd.ntmps85
  go_wp2
  refine wp_scope_forward 0 rfl ?_
  go_wp2_with fail
  refine HN.out.mono ?_
  rintro e w1 ⟨rfl, b1, hr1, hb1, hk1⟩
  go_wp2_with fail
  refine (rerr_any g b1 ys er w1 hr1).mono ?_
  rintro e w2 ⟨rfl, rfl⟩
  go_wp2
  go_step3
  refine ⟨rfl, ?_⟩
  go_wp2
  rw [Exit.noGoto_ret]
  go_ret
  exact ⟨_, rfl, Own.nil _ _, b1, hr1, hb1, hk1⟩
theorem rtext_short (g : Nat) (b : Option Nat) (xs : List UInt8) (most : Int) (w : World) (h : Rd w g b xs 0) (hm : IsInt most) (he : (rcn xs most).2.2 = 0) (hs : (rcn xs most).2.1.length < (rcn xs most).1) :
    Calls Tryd.prog 85 #[.pointer (some ⟨g, 0, none⟩), .int .i64 most] w (TEnds g b [] [] 10 w) := by
  have HN := hide (rcount_any g b xs most w h hm)
  clear h hm
  generalize rcn xs most = q at *
  obtain ⟨u, ys, er⟩ := q
  simp only at HN he hs
  subst he
  go_enter Tryd.func85, Tryd.ntmps85
  go_wp2
  refine wp_scope_forward 1 rfl ?_
  go_wp2_with fail
  refine HN.out.mono ?_
  rintro e w1 ⟨rfl, b1, hr1, hb1, hk1⟩
  go_wp2_with fail
  refine (rerr_any g b1 ys 0 w1 hr1).mono ?_
  rintro e w2 ⟨rfl, rfl⟩
  obtain ⟨A, n, c, hv, hn, hnc, hcm, hx, hb, hbg⟩ := hr1
  have c0 := two_cell0 hv
  have HF := hide (rfail_any g _ 10 w1 hv)
  have t2 : decide (n < u) = true := decide_eq_true (by have := hn.out; omega)
  have i2 : n < u := by have := hn.out; omega
  clear hv hx hb
  go_wp2
  go_step3
  refine ⟨rfl, ?_⟩
  go_wp2_with fail
  refine HF.out.mono ?_
  rintro e w2 ⟨rfl, hr2, hk2⟩
  go_wp2
  rw [Exit.noGoto_ret]
  go_ret
  exact ⟨_, rfl, Own.nil _ _, none, hr2, .inr rfl, hk1.step hk2 (fun k e => .inl e)⟩
theorem rtext_ok (g : Nat) (b : Option Nat) (xs : List UInt8) (most : Int) (w : World) (h : Rd w g b xs 0) (hm : IsInt most) (he : (rcn xs most).2.2 = 0) (hs : (rcn xs most).1 ≤ (rcn xs most).2.1.length) :
    Calls Tryd.prog 85 #[.pointer (some ⟨g, 0, none⟩), .int .i64 most] w (TEnds g b ((rcn xs most).2.1.take (rcn xs most).1) ((rcn xs most).2.1.drop (rcn xs most).1) 0 w) := by
  have HN := hide (rcount_any g b xs most w h hm)
  clear h hm
  generalize rcn xs most = q at *
  obtain ⟨u, ys, er⟩ := q
  simp only at HN he hs
  subst he
  go_enter Tryd.func85, Tryd.ntmps85
  go_wp2
  go_step3
  go_wp2_with fail
  refine HN.out.mono ?_
  rintro e w1 ⟨rfl, b1, hr1, hb1, hk1⟩
  go_wp2_with fail
  refine (rerr_any g b1 ys 0 w1 hr1).mono ?_
  rintro e w2 ⟨rfl, rfl⟩
  have hg1 : g < w1.heap.size := by obtain ⟨A, n, c, hv, _⟩ := hr1; exact lt_of_block hv
  obtain ⟨A, n, c, hv, hn, hnc, hcm, hx, hb, hbg⟩ := hr1
  have c0 := two_cell0 hv
  have t2 : decide (n < u) = false := decide_eq_false (by have := hn.out; omega)
  have i2 : u ≤ n := by have := hn.out; omega
  have i3 : (u : Int) ≤ (c : Int) := by omega
  clear hs
  have hcase : Hid (c = u) ∧ c ≤ u ∨ ¬ c = u := by
    by_cases h : c = u
    · exact .inl ⟨h, by omega⟩
    · exact .inr h
  rcases hcase with ⟨HC, hcu⟩ | hcu
  all_goals
    go_wp2_with fail
    refine (clone_any A u c w1.heap.size (ys.take u) w1 (hx.take u) (Nat.le_refl _) (by have := hn.out; rw [List.length_take]; omega) (by omega)).mono ?_
    rintro e w2 ⟨v2, rfl, ho2, hbl⟩
    have hv2 : w2.heap[g]? = some (.cells #[.slice A n c, .int .i64 0] 126 (0, 0)) := (hbl.block g hg1).trans hv
    have c2 := two_cell0 hv2
    have f2 := two_free (i := 0) hv2
    have hx2 : Has w2 w2.heap.size A ys := (hx.below hbl).more hbl.size
    have HF : ∀ A' c', c' = c - u → (A' = A ∧ c = u ∨ A' = Option.map (fun x => x.add u) A) → TEnds g b (ys.take u) (ys.drop u) 0 w (.returned v2) (w2.setCell ⟨g, 0, none⟩ (.slice A' (n - u) c')) := by
      intro A' c' hc' hA'
      have hcut := rd_cut (n' := n - u) (c' := c') hv2 hn.out hnc hcm hx2 hb hbg i2 rfl hc' hA'
      refine ⟨v2, rfl, (ho2.keep fun k e => Below.heap_setCell _ _ _ _ ?_).from_ hk1.size, b1, hcut.1, hb1, (hk1.step (Kept.of_below (F := fun k => k = g) hbl) (fun k e => .inl e)).step hcut.2 (fun k e => .inl e)⟩
      have := (ho2.lt k e).1
      simp only
      omega
    have HF' := hide HF
    clear HF ho2 hx2 hx
    go_wp2
    rw [Exit.noGoto_ret]
    go_ret
    first
      | exact HF'.out _ _ rfl (.inr rfl)
      | exact HF'.out _ 0 (by omega) (.inl ⟨rfl, HC.out⟩)

/-- The reader's error at the end. -/
theorem rdone_stuck (g : Nat) (b : Option Nat) (xs : List UInt8) (er : Nat) (w : World) (h : Rd w g b xs er) (he : er ≠ 0) :
    Calls Tryd.prog 53 #[.pointer (some ⟨g, 0, none⟩)] w fun e w' => e = .returned (.int .i64 (er : Int)) ∧ w = w' := by
  have HE := hide (rerr_any g b xs er w h)
  have t1 : ((er : Int) != 0) = true := by rw [bne_iff_ne]; omega
  clear h he
  go_enter Tryd.func53, Tryd.ntmps53
  go_wp2
  refine wp_scope_forward 0 rfl ?_
  go_wp2_with fail
  refine HE.out.mono ?_
  rintro e w1 ⟨rfl, rfl⟩
  go_wp2
  go_step3
  refine ⟨rfl, ?_⟩
  go_wp2_with fail
  refine HE.out.mono ?_
  rintro e w1 ⟨rfl, rfl⟩
  go_wp2
  rw [Exit.noGoto_ret]
  go_ret
  exact ⟨rfl, rfl⟩
theorem rdone_nil (w : World) : Calls Tryd.prog 53 #[.pointer none] w fun e w' => e = .returned (.int .i64 1) ∧ w = w' := by
  go_enter Tryd.func53, Tryd.ntmps53
  go_wp2
  refine wp_scope_forward 0 rfl ?_
  go_wp2_with fail
  refine (rerr_nil _).mono ?_
  rintro e w1 ⟨rfl, rfl⟩
  go_wp2
  go_step3
  refine ⟨rfl, ?_⟩
  go_wp2_with fail
  refine (rerr_nil _).mono ?_
  rintro e w1 ⟨rfl, rfl⟩
  go_wp2
  rw [Exit.noGoto_ret]
  go_ret
  exact ⟨rfl, rfl⟩
theorem rdone_end (g : Nat) (b : Option Nat) (w : World) (h : Rd w g b [] 0) :
    Calls Tryd.prog 53 #[.pointer (some ⟨g, 0, none⟩)] w fun e w' => e = .returned (.int .i64 0) ∧ w = w' := by
  have HE := hide (rerr_any g b [] 0 w h)
  obtain ⟨A, n, c, hv, hn, hnc, hcm, hx, hb, hbg⟩ := h
  have c0 := two_cell0 hv
  obtain rfl : 0 = n := hn.out
  clear hv hx hb
  go_enter Tryd.func53, Tryd.ntmps53
  go_wp2
  go_step3
  go_wp2_with fail
  refine HE.out.mono ?_
  rintro e w1 ⟨rfl, rfl⟩
  go_wp2
  rw [Exit.noGoto_ret]
  go_ret
  exact ⟨rfl, rfl⟩
theorem rdone_trail (g : Nat) (b : Option Nat) (xs : List UInt8) (w : World) (h : Rd w g b xs 0) (hne : xs ≠ []) :
    Calls Tryd.prog 53 #[.pointer (some ⟨g, 0, none⟩)] w (REnds g b (.int .i64 13) [] 13 w) := by
  have HE := hide (rerr_any g b xs 0 w h)
  obtain ⟨A, n, c, hv, hn, hnc, hcm, hx, hb, hbg⟩ := h
  have c0 := two_cell0 hv
  have HF := hide (rfail_any g _ 13 w hv)
  have hn0 : 0 < n := by have := hn.out; have := List.length_pos_iff.2 hne; omega
  have t2 : decide (0 < n) = true := by simpa using hn0
  clear hv hx hb hne
  go_enter Tryd.func53, Tryd.ntmps53
  go_wp2
  refine wp_scope_forward 1 rfl ?_
  go_wp2_with fail
  refine HE.out.mono ?_
  rintro e w1 ⟨rfl, rfl⟩
  go_wp2
  go_step3
  refine ⟨rfl, ?_⟩
  go_wp2_with fail
  refine HF.out.mono ?_
  rintro e w2 ⟨rfl, hr2, hk2⟩
  go_wp2_with fail
  go_step3
  go_wp2_with fail
  refine (rerr_any g none [] 13 w2 hr2).mono ?_
  rintro e w3 ⟨rfl, rfl⟩
  go_wp2
  rw [Exit.noGoto_ret]
  go_ret
  exact ⟨rfl, none, hr2, .inr rfl, hk2⟩
end Go.Proofs.YtapbcpilklhoiabDoor
