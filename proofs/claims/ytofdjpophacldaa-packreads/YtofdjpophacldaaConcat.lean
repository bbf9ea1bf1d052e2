/-
  Grow and Concat of slices, at bytes: the pieces one behind the other, in new memory. Conditions: the pieces read as bytes, at most 2^47 in all.
-/
import Derived.Test.YtofdjpophacldaaSum
import Derived.Test.YtofdjpophacldaaClone
import Derived.Lib.AppendZerosOnto
namespace Go.Proofs.Ytofdjpophacldaa
open Go.RowKit

theorem grow_nil (n : Nat) (w : World) (hn : n ≤ 140737488355328) : Calls Try.prog 54 #[.slice none 0 0, .int .i64 (n : Int)] w (Makes [] w) := by
  obtain ⟨i0, hi0, hz0, hz1, hz2⟩ := info_parts byte_info
  by_cases h0 : n = 0
  · subst h0
    go_enter Try.func54, Try.ntmps54
    go_wp2
    go_ret
    exact ⟨_, rfl, Own.nil _ _, Below.refl _ _⟩
  · have hpos : 0 < n := by omega
    have hrz : ∀ ty, (Builtin.append_ #[26, 3] ty #[.slice none 0 0, .int .i64 (n : Int)]).run Try.prog w =
        .ok (.slice (some ⟨w.heap.size, 0, none⟩) n (grownCap w n 0 5)) (w.drew.alloc (.cells (#[] ++ Builtin.zeroCells (Value.int .u8 0).cells n ++ Builtin.zeroCells (Value.int .u8 0).cells (grownCap w n 0 5 - n)) 5)) := by
      intro ty
      have h := Lib.run_append_grow_zeros w 26 3 ty 5 i0 (.int .u8 0) .i64 .i64 Try.underlying26 Try.underlying3 hi0 hz0 none 0 0 [] (by simpa using run_firstCells_none w.drew i0.size 0 0 0) n (by omega) (by omega) (by omega) (by omega) (by rw [hz2]; omega) (growslice_fits (by omega) (by rw [hz2]; omega))
      simpa using h
    have hge : n ≤ grownCap w n 0 5 := grownCap_ge w _ _ _
    have hmx : grownCap w n 0 5 ≤ maxLen := grownCap_le_maxLen w n 0 5 (by unfold maxLen; omega)
    have hsz : (#[] ++ Builtin.zeroCells (Value.int .u8 0).cells n ++ Builtin.zeroCells (Value.int .u8 0).cells (grownCap w n 0 5 - n)).size = grownCap w n 0 5 := by
      simp [size_zeroCells, Value.cells]; omega
    generalize hcs : (#[] ++ Builtin.zeroCells (Value.int .u8 0).cells n ++ Builtin.zeroCells (Value.int .u8 0).cells (grownCap w n 0 5 - n)) = cs at *
    generalize grownCap w n 0 5 = G at *
    clear hcs
    have HM := hide hmx
    have HS := hide hsz
    have hG : (0 : Int) ≤ (G : Int) := by omega
    have hR := hide hrz
    clear hmx hsz hrz
    go_enter Try.func54, Try.ntmps54
    go_wp2_with (at_builtin; refine Lib.wpList_append_run _ rfl _ _ _ _ rfl _ _ rfl rfl _ _ (hR.out _) ?_)
    go_ret
    refine ⟨_, rfl, ⟨rfl, .inr ⟨w.heap.size, G, cs, rfl, Nat.le_refl _, heap_alloc_new w.drew _, Nat.zero_le _, HM.out, by rw [HS.out]; simp, by simp⟩⟩, (Below.refl _ _).drew.alloc (Nat.le_refl _) _⟩

/-- The pieces one behind the other. -/
theorem concat_any (A : Option Addr) (n c B : Nat) (ps : List Piece) (w : World) (hx : HasP w B A ps) (hB : B ≤ w.heap.size) (zs : List UInt8) (hpn : ps.length = n) (hn : n ≤ 140737488355328) (hzs : catP ps = zs) (hl : zs.length ≤ 140737488355328) :
    Calls Try.prog 51 #[.slice A n c] w (Makes zs w) := by
  subst hpn hzs
  have hle : ∀ k, (catP (ps.take k)).length ≤ 140737488355328 := by
    intro k
    have : catP ps = catP (ps.take k) ++ catP (ps.drop k) := by unfold catP; rw [← List.flatMap_append, List.take_append_drop]
    rw [this] at hl
    simp at hl
    omega
  have HLE := hide hle
  clear hle
  go_enter Try.func51, Try.ntmps51
  go_wp2
  go_loop [3, 11] (fun s i => ∃ k : Nat, k ≤ ps.length ∧ i = .int .i64 k ∧ s = .int .i64 ((catP (ps.take k)).length : Int)) (fun _ i => ps.length - (intOf i).toNat)
  case atStart => exact ⟨0, Nat.zero_le _, rfl, rfl⟩
  case round =>
    obtain ⟨k, hk, rfl, rfl⟩ := hrel
    by_cases hlt : k < ps.length
    · obtain ⟨⟨b, o, rfl, hb, hc⟩, hp, hpl, hl1⟩ := hx k hlt
      unfold Piece.val at hc
      have hadd : (catP (ps.take (k + 1))).length = (catP (ps.take k)).length + ps[k].len := by rw [catP_take ps k hlt, List.length_append, hpl]
      have hl2 := HLE.out (k + 1)
      rw [hadd] at hl2
      have HA := hide hadd
      clear hadd hpl hp
      generalize (catP (ps.take k)).length = s0 at *
      generalize ps[k] = p at *
      obtain ⟨pa, pn, pc, pb⟩ := p
      simp only at hc hl1 hl2 HA
      go_wp2
      go_round
      case rel => exact ⟨k + 1, by omega, by go_num, by rw [HA.out]; go_num⟩
      case measure => simp [intOf]; omega
    · have hk' : k = ps.length := by omega
      subst hk'
      rw [List.take_length]
      go_wp2_with fail
      refine (grow_nil _ w hl).mono ?_
      rintro e w1 ⟨v1, rfl, ho1, hb1⟩
      go_wp2
      go_loopw [6, 27] (fun v i wr => ∃ j : Nat, j ≤ ps.length ∧ i = .int .i64 j ∧ Own wr w.heap.size v (catP (ps.take j)) ∧ Below w.heap.size w wr) (fun _ i _ => ps.length - (intOf i).toNat)
      case atStart => exact ⟨0, Nat.zero_le _, rfl, ho1, hb1⟩
      case round =>
        clear ho1 hb1
        obtain ⟨j, hj, rfl, ho, hbl⟩ := hrel
        by_cases hjl : j < ps.length
        · obtain ⟨⟨b, o, rfl, hb, hc⟩, hp, hpl, hl1⟩ := (hx.below (hbl.mono hB)) j hjl
          unfold Piece.val at hc
          have HA := hide (catP_take ps j hjl)
          have hl2 : (catP (ps.take j)).length + ps[j].len ≤ 140737488355328 := by
            have := HLE.out (j + 1)
            rw [HA.out, List.length_append, hpl] at this
            exact this
          have HL := hide hl2
          clear hl2 hl hx
          generalize catP (ps.take j) = zs at *
          generalize ps[j] = p at *
          obtain ⟨pa, pn, pc, pb⟩ := p
          simp only at hc hl1 hp hpl HL HA
          go_wp2_with (at_builtin; refine list_append_bytes _ rfl (.tmp 31) (.tmp 32) rfl w.heap.size _ zs rfl ho B pa pn pc pb rfl hp hpl HL.out hbl.size ?_; intro v2 w2 ho2 hg2 hat2)
          go_roundw
          case rel => exact ⟨j + 1, by omega, by go_num, by rw [HA.out]; exact ho2, hbl.grown hg2 hbl.size (fun k e => (ho.lt k e).1)⟩
          case measure => simp [intOf]; omega
        · have hk' : j = ps.length := by omega
          subst hk'
          rw [List.take_length] at ho
          go_wp2
          go_ret
          exact ⟨_, rfl, ho, hbl⟩
end Go.Proofs.Ytofdjpophacldaa
