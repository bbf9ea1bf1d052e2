/-
  Open of seal at eight bytes or more: what was sealed, or that the sum is another. Conditions: the slice reads as bytes, at most 2^47 of them.
-/
import Derived.Test.YtofdjpophacldaaSeal
import Derived.Laws.CopyOwn
import Derived.Deep.RegionHeld3
import Derived.Deep.DrawnRows
import Derived.WalkLawsBesides
import Derived.Deep.DeepCutAuto
namespace Go.Proofs.Ytofdjpophacldaa
open Go.RowKit

attribute [local go_sem ↓] Go.wp_at_zero Go.wp_at_succ

/-- Whether two lists of numbers are one. -/
def same8 (ls ms : List Int) : Bool := decide (ls = ms)
theorem run_eq8 (W : World) (a0 a1 a2 a3 a4 a5 a6 a7 b0 b1 b2 b3 b4 b5 b6 b7 : Int) :
    (Op.equalIn 10000 81 (.agg #[.int .u8 a0, .int .u8 a1, .int .u8 a2, .int .u8 a3, .int .u8 a4, .int .u8 a5, .int .u8 a6, .int .u8 a7]) (.agg #[.int .u8 b0, .int .u8 b1, .int .u8 b2, .int .u8 b3, .int .u8 b4, .int .u8 b5, .int .u8 b6, .int .u8 b7])).run Try.prog W =
      .ok (same8 [a0, a1, a2, a3, a4, a5, a6, a7] [b0, b1, b2, b3, b4, b5, b6, b7]) W := by
  unfold same8
  have u3 := Try.underlying5
  have a3' := Try.isAgg5
  have z3 := Try.sizeOf5
  rw [show (10000 : Nat) = 9999 + 1 from rfl, Op.equalIn]
  simp only [Sem.run_bind, run_underlying Try.underlying81, Result.andThen_ok]
  simp only [Std.Legacy.Range.forIn_eq_forIn_range', Std.Legacy.Range.size, Nat.sub_zero, Nat.add_sub_cancel, Nat.div_one, List.range'_succ, List.range'_zero, List.forIn_cons, List.forIn_nil]
  go_simp
  by_cases h0 : a0 = b0
  · by_cases h1 : a1 = b1
    · by_cases h2 : a2 = b2
      · by_cases h3 : a3 = b3
        · by_cases h4 : a4 = b4
          · by_cases h5 : a5 = b5
            · by_cases h6 : a6 = b6
              · by_cases h7 : a7 = b7
                · simp [h0, h1, h2, h3, h4, h5, h6, h7]
                · simp [h0, h1, h2, h3, h4, h5, h6, h7]
              · simp [h0, h1, h2, h3, h4, h5, h6]
            · simp [h0, h1, h2, h3, h4, h5]
          · simp [h0, h1, h2, h3, h4]
        · simp [h0, h1, h2, h3]
      · simp [h0, h1, h2]
    · simp [h0, h1]
  · simp [h0]

theorem same8_bytes (d0 d1 d2 d3 d4 d5 d6 d7 c0 c1 c2 c3 c4 c5 c6 c7 : UInt8) :
    same8 [(d0.toNat : Int), (d1.toNat : Int), (d2.toNat : Int), (d3.toNat : Int), (d4.toNat : Int), (d5.toNat : Int), (d6.toNat : Int), (d7.toNat : Int)] [(c0.toNat : Int), (c1.toNat : Int), (c2.toNat : Int), (c3.toNat : Int), (c4.toNat : Int), (c5.toNat : Int), (c6.toNat : Int), (c7.toNat : Int)] = decide ([d0, d1, d2, d3, d4, d5, d6, d7] = [c0, c1, c2, c3, c4, c5, c6, c7]) := by
  unfold same8
  rw [Bool.eq_iff_iff, decide_eq_true_iff, decide_eq_true_iff]
  have e : ∀ a b : UInt8, (a.toNat : Int) = (b.toNat : Int) ↔ a = b := fun a b => ⟨fun h => UInt8.toNat_inj.1 (by omega), fun h => by rw [h]⟩
  simp only [List.cons.injEq, e]
theorem byte_size : (Try.prog.info? 5).map (·.size) = some 1 := by kernel_rfl
theorem splice_all {α : Type} (L cs : List α) (h : L.length = cs.length) : splice L 0 cs = cs := by
  unfold splice
  simp [← h]

set_option maxHeartbeats 1600000 in
theorem open_walk (A : Option Addr) (m c B : Nat) (xs : List UInt8) (w : World) (hx : Has w B A xs) (hB : B ≤ w.heap.size) (hn : xs.length = m + 8) (hl : m + 8 ≤ 140737488355328) (hc : m + 8 ≤ c) :
    Calls Try.prog 42 #[.slice A (m + 8) c] w fun e w' =>
      (xs.drop m = tail8 (xs.take m) → ∃ v, e = .returned (.tuple #[v, .int .i64 0]) ∧ Own w' w.heap.size v (xs.take m)) ∧
      (xs.drop m ≠ tail8 (xs.take m) → e = .returned (.tuple #[.slice none 0 0, .int .i64 14])) ∧ Below w.heap.size w w' := by
  obtain ⟨b, o, rfl, hb, _⟩ := hx 0 (by omega)
  have hd := hx.drop m
  rw [show Option.map (fun x : Addr => x.add m) (some ⟨b, o, none⟩) = some ⟨b, o + m, none⟩ from by simp only [Option.map_some, Addr.add]; split <;> simp_all] at hd
  obtain ⟨d0, d1, d2, d3, d4, d5, d6, d7, h8⟩ := eight_of (xs.drop m) (by rw [List.length_drop]; omega)
  rw [h8] at hd
  have t1 : decide ((m : Int) + 8 < 8) = false := decide_eq_false (by omega)
  have i1 : (m : Int) ≤ (c : Int) := by omega
  have i2 : ¬ c = m := by omega
  have i3 : (m : Int) ≤ (m : Int) + 8 := by omega
  go_enter Try.func42, Try.ntmps42
  go_upto_region 5 with fail
  go_cut [19] (fun _ wx => Hid (wx.heap[w.heap.size]? = some (.cells (bcells [d0, d1, d2, d3, d4, d5, d6, d7]) 81 (0, 0))) ∧ Below w.heap.size w wx)
  case first =>
    have hsrc : ∀ o1 j v, (([d0, d1, d2, d3, d4, d5, d6, d7] : List UInt8).map byt)[j]? = some v → (w.alloc o1).cell? ((⟨b, o + m, none⟩ : Addr).add j) = some v := by
      intro o1 j v hv
      have hj : j < 8 := by
        rcases Nat.lt_or_ge j 8 with h | h
        · exact h
        · rw [List.getElem?_eq_none (by simpa using h)] at hv; cases hv
      obtain ⟨b', o', e', _, hc'⟩ := hd j (by simpa using hj)
      injection e' with e'
      injection e' with eb eo
      subst eb eo
      have h1 : ((⟨b, o + m, none⟩ : Addr).add j) = ⟨b, o + m + j, none⟩ := by unfold Addr.add; split <;> simp_all
      rw [h1, World.cell?_alloc_past o1 b _ (by omega), hc']
      rw [List.getElem?_map, List.getElem?_eq_getElem (by simpa using hj)] at hv
      exact hv
    have HS := hide hsrc
    clear hsrc
    go_region_held3 (fun _ => True) (trivial) ((refine step_copy_splice (by rfl) _ _ _ _ (by rfl) 5 Try.underlying26 byte_size _ _ 8 8 _ _ (by rfl) (by rfl) w.heap.size 0 [.int .u8 0, .int .u8 0, .int .u8 0, .int .u8 0, .int .u8 0, .int .u8 0, .int .u8 0, .int .u8 0] 81 (heap_alloc_new w _) (([d0, d1, d2, d3, d4, d5, d6, d7] : List UInt8).map byt) (by simp) (fun _ => ⟨rfl, _, rfl, fun j v hv => HS.out _ j v hv⟩) (by simp) (byt_oneCell _) w.heap.size w (((Below.refl _ _).alloc (Nat.le_refl _) _).drew) (Nat.le_refl _) ?_; intro w2 HG hB2))
    go_wp2_with fail
    go_meet
    refine ⟨?_, hB2⟩
    have h := HG.out
    rw [splice_all _ _ (by simp)] at h
    exact h
  case rest =>
    obtain ⟨HG, hbl⟩ := hcut
    have hs := hbl.size
    obtain ⟨c0, c1, c2, c3, c4, c5, c6, c7, h8t⟩ := eight_of (tail8 (xs.take m)) (tail8_length _)
    have hsp : ∀ W, Calls Try.prog 50 #[.int .u64 ((fsum basis (xs.take m)).toNat : Int)] W fun e w' => e = .returned (.agg #[.int .u8 (c0.toNat : Int), .int .u8 (c1.toNat : Int), .int .u8 (c2.toNat : Int), .int .u8 (c3.toNat : Int), .int .u8 (c4.toNat : Int), .int .u8 (c5.toNat : Int), .int .u8 (c6.toNat : Int), .int .u8 (c7.toNat : Int)]) ∧ Below W.heap.size W w' := by
      intro W
      have h := spell_any (fsum basis (xs.take m)).toNat W (fsum basis (xs.take m)).toNat_lt
      have h2 : be 8 (fsum basis (xs.take m)).toNat = [c0, c1, c2, c3, c4, c5, c6, c7] := h8t
      rw [h2, bcells8] at h
      exact h
    have HSP := hide hsp
    clear hsp
    have hkp : ∀ W, Below wc.heap.size wc W → W.cell? ⟨w.heap.size, 0, none⟩ = some (.int .u8 (d0.toNat : Int)) ∧ W.cell? ⟨w.heap.size, 1, none⟩ = some (.int .u8 (d1.toNat : Int)) ∧ W.cell? ⟨w.heap.size, 2, none⟩ = some (.int .u8 (d2.toNat : Int)) ∧ W.cell? ⟨w.heap.size, 3, none⟩ = some (.int .u8 (d3.toNat : Int)) ∧
        W.cell? ⟨w.heap.size, 4, none⟩ = some (.int .u8 (d4.toNat : Int)) ∧ W.cell? ⟨w.heap.size, 5, none⟩ = some (.int .u8 (d5.toNat : Int)) ∧ W.cell? ⟨w.heap.size, 6, none⟩ = some (.int .u8 (d6.toNat : Int)) ∧ W.cell? ⟨w.heap.size, 7, none⟩ = some (.int .u8 (d7.toNat : Int)) := by
      intro W hW
      have hg : W.heap[w.heap.size]? = some (.cells (bcells [d0, d1, d2, d3, d4, d5, d6, d7]) 81 (0, 0)) := (hW.block _ (lt_of_block HG.out)).trans HG.out
      refine ⟨?_, ?_, ?_, ?_, ?_, ?_, ?_, ?_⟩ <;> simp [World.cell?, hg, bcells, byt]
    have HK := hide hkp
    have h0 := hkp wc (Below.refl _ _)
    obtain ⟨k0, k1, k2, k3, k4, k5, k6, k7⟩ := h0
    clear hkp
    have hx1 : Has wc wc.heap.size (some ⟨b, o, none⟩) (xs.take m) := ((hx.more hB).below hbl |>.more hs).take m
    have heq := run_eq8
    obtain ⟨q, hq⟩ : ∃ q, q = decide ([d0, d1, d2, d3, d4, d5, d6, d7] = [c0, c1, c2, c3, c4, c5, c6, c7]) := ⟨_, rfl⟩
    have hsame := same8_bytes d0 d1 d2 d3 d4 d5 d6 d7 c0 c1 c2 c3 c4 c5 c6 c7
    rw [← hq] at hsame
    have HQ := hide hq
    clear hq
    have H8 := hide h8
    have H8T := hide h8t
    clear h8 h8t hd
    go_upto_region 6 with fail
    go_cut [25] (fun s wx => s = .bool (!q) ∧ Below w.heap.size w wx)
    case first =>
      go_region_held3 (fun w' => w'.cell? ⟨w.heap.size, 0, none⟩ = some (.int .u8 (d0.toNat : Int)) ∧ w'.cell? ⟨w.heap.size, 1, none⟩ = some (.int .u8 (d1.toNat : Int)) ∧ w'.cell? ⟨w.heap.size, 2, none⟩ = some (.int .u8 (d2.toNat : Int)) ∧ w'.cell? ⟨w.heap.size, 3, none⟩ = some (.int .u8 (d3.toNat : Int)) ∧
          w'.cell? ⟨w.heap.size, 4, none⟩ = some (.int .u8 (d4.toNat : Int)) ∧ w'.cell? ⟨w.heap.size, 5, none⟩ = some (.int .u8 (d5.toNat : Int)) ∧ w'.cell? ⟨w.heap.size, 6, none⟩ = some (.int .u8 (d6.toNat : Int)) ∧ w'.cell? ⟨w.heap.size, 7, none⟩ = some (.int .u8 (d7.toNat : Int)))
        (first | exact HK.out _ ((Below.refl _ _).drew) | exact HK.out _ (((Below.refl _ _).alloc (Nat.le_refl _) _).drew) | exact HK.out _ hb3' | exact HK.out _ hb3'.drew)
        (first
          | ((go_at_call 37; (with_reducible refine (sum_any (some ⟨wc.heap.size, 0, none⟩) 1 1 (wc.heap.size + 1) [⟨some ⟨b, o, none⟩, m, c, xs.take m⟩] _ ?_ (xs.take m) ?_ ?_ ?_).mono ?_)); exact HasP.one wc 26 _ wc.heap.size rfl hx1 (by simp; omega) (by simp only; omega); rfl; omega; simp [catP]; rintro e w2 ⟨rfl, rfl⟩)
          | ((go_at_call 50; (with_reducible refine (HSP.out _).mono ?_)); rintro e w3 ⟨rfl, hb3⟩; have hb3' : Below wc.heap.size wc w3 := ((((Below.refl wc.heap.size wc).alloc (Nat.le_refl _) _).drew).trans (hb3.mono (by simp)))))
      all_goals
        go_wp2_with fail
        go_meet
        exact ⟨rfl, hbl.trans (hb3'.mono hs)⟩
    case rest =>
      obtain ⟨rfl, hbl2⟩ := hcut
      clear hx1 k0 k1 k2 k3 k4 k5 k6 k7 heq hsame HK HSP HG hbl hs
      cases q
      · have hne : xs.drop m ≠ tail8 (xs.take m) := by
          rw [H8.out, H8T.out]
          exact of_decide_eq_false HQ.out.symm
        go_wp2
        go_ret2
        exact ⟨fun h => absurd h hne, fun _ => rfl, hbl2⟩
      · have he : xs.drop m = tail8 (xs.take m) := by
          rw [H8.out, H8T.out]
          exact of_decide_eq_true HQ.out.symm
        have HE := hide he
        clear he
        have hx2 : Has wc B (some ⟨b, o, none⟩) (xs.take m) := (hx.below (hbl2.mono hB)).take m
        go_wp2_with fail
        refine (clone_any (some ⟨b, o, none⟩) m c B (xs.take m) wc hx2 (Nat.le_trans hB hbl2.size) (by rw [List.length_take]; omega) (by omega)).mono ?_
        rintro e w4 ⟨v4, rfl, ho4, hb4⟩
        go_wp2
        go_ret2
        exact ⟨fun _ => ⟨v4, rfl, ho4.from_ hbl2.size⟩, fun h => absurd HE.out h, hbl2.trans (hb4.mono hbl2.size)⟩
end Go.Proofs.Ytofdjpophacldaa
