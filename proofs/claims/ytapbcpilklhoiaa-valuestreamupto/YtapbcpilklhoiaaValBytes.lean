/-
  The bytes of commands and values by the reference of package value. Conditions: what is read is in reach.
-/
import Derived.Test.YtapbcpilklhoiaaRefNum
import Derived.Test.YtapbcpilklhoiaaValEnc
set_option linter.unusedSimpArgs false
set_option linter.unusedVariables false
namespace Go.Proofs.Ytapbcpilklhoiaa
open Go.RowKit

theorem own_other {w : World} {base g : Nat} {v : Value} {xs : List UInt8} {cs : Array Value} {t : TypeId} {m : Nat × Nat} (h : Own w base v xs) (hg : w.heap[g]? = some (.cells cs t m)) (ht : t ≠ 5) : v.ownBlock ≠ some g := by
  intro e
  rcases h.2 with ⟨rfl, _⟩ | ⟨g', cap, cur, rfl, _, hh, _⟩
  · cases e
  · have e1 : g' = g := Option.some.inj e
    subst e1
    have := hg.symm.trans hh
    simp at this
    exact ht this.2.1

set_option maxHeartbeats 800000 in
theorem rcmd_any (c : Cmdv) (w : World) (hc : IsCmd c) : Calls Try.prog 49 #[c.val] w (Makes (encL c.ints) w) := by
  have hl8 : c.ints.length = 8 := rfl
  have HG : Hid (∀ k (h : k < c.ints.length), IsInt c.ints[k] ∧ encL (c.ints.take (k + 1)) = encL (c.ints.take k) ++ enc (zig c.ints[k]) ∧ (encL (c.ints.take k)).length ≤ 72) := hide fun k hk => ⟨hc _ (List.getElem_mem _), encL_take _ _ hk, by
    have := encL_length (c.ints.take k)
    rw [List.length_take, hl8] at this
    omega⟩
  have HALL : Hid (encL c.ints = encL (c.ints.take 8)) := hide (by rw [List.take_of_length_le (by rw [hl8]; omega)])
  clear hc hl8
  unfold Cmdv.val
  go_enter Try.func49, Try.ntmps49
  go_wp2_with fail
  have hI0 : (((w.alloc (.cells #[.int .i64 c.s, .int .i64 c.q, .int .i64 c.a, .int .i64 c.k, .int .i64 c.r, .int .i64 c.t, .int .i64 c.re, .int .i64 c.im] 52)).alloc (.cells #[] 5)).alloc (.cells (icells c.ints) 3)).heap[w.heap.size + 1 + 1]? = some (.cells (icells c.ints) 3 (0, 0)) := by
    have := heap_alloc_new ((w.alloc (.cells #[.int .i64 c.s, .int .i64 c.q, .int .i64 c.a, .int .i64 c.k, .int .i64 c.r, .int .i64 c.t, .int .i64 c.re, .int .i64 c.im] 52)).alloc (.cells #[] 5)) (.cells (icells c.ints) 3)
    simpa using this
  have hb0 : Below w.heap.size w (((w.alloc (.cells #[.int .i64 c.s, .int .i64 c.q, .int .i64 c.a, .int .i64 c.k, .int .i64 c.r, .int .i64 c.t, .int .i64 c.re, .int .i64 c.im] 52)).alloc (.cells #[] 5)).alloc (.cells (icells c.ints) 3)) := by go_grown
  have ho0 : Own (((w.alloc (.cells #[.int .i64 c.s, .int .i64 c.q, .int .i64 c.a, .int .i64 c.k, .int .i64 c.r, .int .i64 c.t, .int .i64 c.re, .int .i64 c.im] 52)).alloc (.cells #[] 5)).alloc (.cells (icells c.ints) 3)) w.heap.size (.slice (some ⟨w.heap.size + 1, 0, none⟩) 0 0) [] :=
    (Own.new (w.alloc (.cells #[.int .i64 c.s, .int .i64 c.q, .int .i64 c.a, .int .i64 c.k, .int .i64 c.r, .int .i64 c.t, .int .i64 c.re, .int .i64 c.im] 52)) [] (w.heap.size + 1) w.heap.size (by simp) (by omega) (by simp)).alloc _
  have ei : icells c.ints = #[.int .i64 c.s, .int .i64 c.q, .int .i64 c.a, .int .i64 c.k, .int .i64 c.r, .int .i64 c.t, .int .i64 c.re, .int .i64 c.im] := rfl
  have HEI := hide ei
  rw [ei] at hI0 hb0 ho0
  generalize (((w.alloc (.cells #[.int .i64 c.s, .int .i64 c.q, .int .i64 c.a, .int .i64 c.k, .int .i64 c.r, .int .i64 c.t, .int .i64 c.re, .int .i64 c.im] 52)).alloc (.cells #[] 5)).alloc (.cells #[.int .i64 c.s, .int .i64 c.q, .int .i64 c.a, .int .i64 c.k, .int .i64 c.r, .int .i64 c.t, .int .i64 c.re, .int .i64 c.im] 3)) = W0 at *
  rw [← ei] at hI0
  clear ei
  go_loopw [3, 31] (fun v i wr => ∃ (j : Nat), j ≤ 8 ∧ i = .int .i64 j ∧ Own wr w.heap.size v (encL (c.ints.take j)) ∧ wr.heap[w.heap.size + 1 + 1]? = some (.cells (icells c.ints) 3 (0, 0)) ∧ Below w.heap.size w wr) (fun _ i _ => 8 - (intOf i).toNat)
  case atStart => exact ⟨0, by omega, rfl, ho0, hI0, hb0⟩
  case round =>
    clear hI0 hb0 ho0
    obtain ⟨j, hj, rfl, ho, hI, hb⟩ := hrel
    by_cases hlt : j < 8
    · obtain ⟨g1, g2, g3⟩ := HG.out j hlt
      have hcell := ((HasI.block hI (lt_of_block hI)).at_ j hlt).2
      rw [Nat.zero_add] at hcell
      generalize c.ints[j] = x at *
      have G1 := hide g1
      have G2 := hide g2
      clear g1 g2
      have hzz := lt_of_block hI
      go_wp2_with fail
      refine (refint_any x wr G1.out).mono ?_
      rintro e w1 ⟨v1, rfl, ho1, hb1⟩
      have hI1 := (hb1.block _ hzz).trans hI
      have hox := ho.below hb1
      have hb1' := hb.trans (hb1.mono hb.size)
      have hne := own_other hox hI1 (by decide)
      obtain ⟨A1, n1, c1, rfl, hn1, hnc1, hx1, _⟩ := ho1.form
      have hlen : n1 ≤ 9 := by rw [← hn1.out, enc_length]; have := bw_le (zig x); omega
      go_wp2_with (at_builtin; refine list_append_bytes _ rfl (.tmp 34) (.tmp 39) rfl w.heap.size _ _ rfl hox w1.heap.size A1 n1 c1 _ rfl hx1 hn1.out (by omega) hb1'.size ?_; intro v2 w2 ho2 hg2 hat2)
      have hb2 := hb1'.grown hg2 hb1'.size (fun k e => (hox.lt k e).1)
      have hI2 := (hg2.block _ (lt_of_block hI1) (fun e => hne e.symm)).trans hI1
      go_roundw
      case rel => exact ⟨j + 1, by omega, by go_num, by rw [G2.out]; exact ho2, hI2, hb2⟩
      case measure => simp [intOf]; omega
    · obtain rfl : j = 8 := by omega
      go_wp2
      go_ret
      exact ⟨_, rfl, by rw [HALL.out]; exact ho, hb⟩

set_option maxRecDepth 20000 in
set_option maxHeartbeats 1600000 in
theorem rvbytes_any (k : Int) (A D : Option Addr) (n c m d B : Nat) (cs : List Cmdv) (ns : List Int) (w : World) (hC : HasC w B A cs) (hN : HasI w B D ns) (hB : B ≤ w.heap.size) (hn : cs.length = n) (hm : ns.length = m) (hcs : ∀ x ∈ cs, IsCmd x) (hlen : 27 + 72 * n + 9 * m ≤ 140737488355328) :
    Calls Try.prog 38 #[.agg #[.int .i64 k, .slice A n c, .slice D m d]] w (Makes (encV k cs ns) w) := by
  have HN := hide hn
  have HM := hide hm
  have HCS := hide hcs
  clear hn hm hcs
  go_enter Try.func38, Try.ntmps38
  go_wp2_with fail
  have hp0 := heap_alloc_new w (.cells #[.int .i64 k, .slice A n c, .slice D m d] 48)
  have hb0 : Below w.heap.size w (w.alloc (.cells #[.int .i64 k, .slice A n c, .slice D m d] 48)) := by go_grown
  generalize w.alloc (.cells #[.int .i64 k, .slice A n c, .slice D m d] 48) = W0 at *
  have hz0 := lt_of_block hp0
  have HK : Hid (∀ W, Below W0.heap.size W0 W → W.cell? ⟨w.heap.size, 1, none⟩ = some (.slice A n c) ∧ W.cell? ⟨w.heap.size, 2, none⟩ = some (.slice D m d) ∧ HasC W B A cs ∧ HasI W B D ns) := hide (fun W h => by
    have hp := (h.block w.heap.size hz0).trans hp0
    have hbw := hb0.trans (h.mono (by omega))
    exact ⟨(row_cells hp 1).1, (row_cells hp 2).1, hC.on hB hbw, hN.on hB hbw⟩)
  have HEnd : Hid (∀ v W xs, Below W0.heap.size W0 W → Own W W0.heap.size v xs → Makes xs w (.returned v) W) := hide (fun v W xs h ho => ⟨v, rfl, ho.from_ (by omega), hb0.trans (h.mono (by omega))⟩)
  clear hp0 hC hN
  have hku := unb_wrap k
  have hnu : IntKind.u64.wrap (n : Int) = (n : Int) := by rw [IntKind.wrap_u64]; omega
  have hmu : IntKind.u64.wrap (m : Int) = (m : Int) := by rw [IntKind.wrap_u64]; omega
  have hbk := bw_le (unb k)
  have hbn := bw_le n
  have hbm := bw_le m
  rw [hku]
  refine (refnum_any (unb k) W0 (unb_lt k)).mono ?_
  rintro e w1 ⟨v1, rfl, ho1, b1⟩
  obtain ⟨p1, p2, _, _⟩ := HK.out _ b1
  go_wp2_with fail
  refine (refnum_any n w1 (by omega)).mono ?_
  rintro e w2 ⟨v2, rfl, ho2, b2'⟩
  have b2 := b1.trans (b2'.mono b1.size)
  have ho1' := ho1.below b2'
  obtain ⟨A2, n2, c2, rfl, hn2, hnc2, hx2, _⟩ := ho2.form
  have hl2 : n2 ≤ 9 := by rw [← hn2.out, enc_length]; omega
  have HL1 : Hid ((enc (unb k)).length = bw (unb k) + 1) := hide (enc_length _)
  clear hku hnu
  go_upto_region 3 with (at_builtin; refine list_append_bytes _ rfl (.tmp 10) (.tmp 15) rfl W0.heap.size _ _ rfl ho1' w2.heap.size A2 n2 c2 _ rfl hx2 hn2.out (by rw [HL1.out]; omega) b2.size ?_; intro v3 w3 ho3 hg3 hat3)
  have b3 := b2.grown hg3 b2.size (fun k e => (ho1'.lt k e).1)
  have HL3 : Hid ((enc (unb k) ++ enc n).length ≤ 18) := hide (by rw [List.length_append, enc_length, enc_length]; omega)
  have HALL : Hid (encV k cs ns = (enc (unb k) ++ enc n) ++ (encCs cs ++ (enc m ++ encNs ns))) := hide (by unfold encV; rw [HN.out, HM.out]; simp)
  generalize enc (unb k) ++ enc n = ys at *
  clear ho1 ho1' ho2 b1 b2 b2' hg3 hat3 hx2 p1 p2 HL1 hl2
  obtain ⟨p1, p2, _, _⟩ := HK.out _ b3
  go_wp2_with fail
  have HLC := hide (fun k => encCs_length (cs.take k))
  have HLN := hide (fun k => encNs_length (ns.take k))
  go_loopw [3, 20] (fun v i wr => ∃ (j : Nat), j ≤ n ∧ i = .int .i64 j ∧ Own wr W0.heap.size v (ys ++ encCs (cs.take j)) ∧ Below W0.heap.size W0 wr) (fun _ i _ => n - (intOf i).toNat)
  case atStart => exact ⟨0, Nat.zero_le _, rfl, by simpa [encCs] using ho3, b3⟩
  case round =>
    clear ho3 b3 p1 p2
    obtain ⟨j, hj, rfl, ho, hb⟩ := hrel
    obtain ⟨p1, p2, hC, hN⟩ := HK.out _ hb
    by_cases hlt : j < n
    · have hlt' : j < cs.length := by rw [HN.out]; exact hlt
      have hcm := hide (HCS.out _ (List.getElem_mem hlt'))
      have htk := encCs_take cs j hlt'
      have hcl := hC j hlt'
      have HLE : Hid ((ys ++ encCs (cs.take j)).length + 72 ≤ 18 + 72 * n) := hide (by
        have h1 := HLC.out j
        have h2 := HL3.out
        rw [List.length_take] at h1
        rw [List.length_append]
        have : min j cs.length ≤ n - 1 := by omega
        omega)
      clear hC hN
      generalize cs[j] = cm at *
      obtain ⟨ab, ao, rfl, hab, e0, e1, e2, e3, e4, e5, e6, e7⟩ := hcl
      have HZ : Hid (ys ++ encCs (cs.take (j + 1)) = (ys ++ encCs (cs.take j)) ++ encL cm.ints) := hide (by rw [htk, List.append_assoc])
      generalize ys ++ encCs (cs.take j) = zs at *
      clear htk
      go_wp2_with fail
      refine (rcmd_any cm wr hcm.out).mono ?_
      rintro e w4 ⟨v4, rfl, ho4, b4'⟩
      have b4 := hb.trans (b4'.mono hb.size)
      have hox := ho.below b4'
      obtain ⟨A4, n4, c4, rfl, hn4, hnc4, hx4, _⟩ := ho4.form
      have hl4 : n4 ≤ 72 := by rw [← hn4.out]; exact encL_length cm.ints
      go_wp2_with (at_builtin; refine list_append_bytes _ rfl (.tmp 23) (.tmp 29) rfl W0.heap.size _ _ rfl hox w4.heap.size A4 n4 c4 _ rfl hx4 hn4.out (by have := HLE.out; omega) b4.size ?_; intro v5 w5 ho5 hg5 hat5)
      have b5 := b4.grown hg5 b4.size (fun k e => (hox.lt k e).1)
      go_roundw
      case rel => exact ⟨j + 1, by omega, by go_num, by rw [HZ.out]; exact ho5, b5⟩
      case measure => simp [intOf]; omega
    · obtain rfl : j = n := by omega
      rw [List.take_of_length_le (by rw [HN.out]; omega)] at ho
      have HLE : Hid ((ys ++ encCs cs).length ≤ 18 + 72 * j) := hide (by
        have h1 := encCs_length cs
        have h2 := HL3.out
        rw [HN.out] at h1
        rw [List.length_append]
        omega)
      have HALL2 : Hid (encV k cs ns = (ys ++ encCs cs ++ enc m) ++ encNs ns) := hide (by rw [HALL.out]; simp)
      obtain ⟨W6, hW6⟩ : ∃ W, W = wr := ⟨wr, rfl⟩
      subst hW6
      clear hC hN HALL
      go_wp2_with fail
      refine (refnum_any m W6 (by omega)).mono ?_
      rintro e w7 ⟨v7, rfl, ho7, b7'⟩
      have b7 := hb.trans (b7'.mono hb.size)
      have hox := ho.below b7'
      obtain ⟨A7, n7, c7, rfl, hn7, hnc7, hx7, _⟩ := ho7.form
      have hl7 : n7 ≤ 9 := by rw [← hn7.out, enc_length]; omega
      generalize ys ++ encCs cs = qs at *
      go_upto_region 9 with (at_builtin; refine list_append_bytes _ rfl (.tmp 32) (.tmp 37) rfl W0.heap.size _ _ rfl hox w7.heap.size A7 n7 c7 _ rfl hx7 hn7.out (by have := HLE.out; omega) b7.size ?_; intro v8 w8 ho8 hg8 hat8)
      have b8 := b7.grown hg8 b7.size (fun k e => (hox.lt k e).1)
      have HL8 : Hid ((qs ++ enc m).length ≤ 27 + 72 * j) := hide (by have := HLE.out; rw [List.length_append, enc_length]; omega)
      generalize qs ++ enc m = rs at *
      clear ho ho7 b7 b7' hg8 hat8 hx7 p1 p2 hox hb
      obtain ⟨p1, p2, _, _⟩ := HK.out _ b8
      go_wp2_with fail
      go_loopw [3, 42] (fun v i wr => ∃ (i2 : Nat), i2 ≤ m ∧ i = .int .i64 i2 ∧ Own wr W0.heap.size v (rs ++ encNs (ns.take i2)) ∧ Below W0.heap.size W0 wr) (fun _ i _ => m - (intOf i).toNat)
      case atStart => exact ⟨0, Nat.zero_le _, rfl, by simpa [encNs] using ho8, b8⟩
      case round =>
        clear ho8 b8 p1 p2
        obtain ⟨i2, hj2, rfl, ho, hb⟩ := hrel
        obtain ⟨p1, p2, hC, hN⟩ := HK.out _ hb
        by_cases hlt : i2 < m
        · have hlt' : i2 < ns.length := by rw [HM.out]; exact hlt
          have htk := encNs_take ns i2 hlt'
          have hcl := hN i2 hlt'
          have HLE : Hid ((rs ++ encNs (ns.take i2)).length + 9 ≤ 140737488355328) := hide (by
            have h1 := HLN.out i2
            have h2 := HL8.out
            rw [List.length_take] at h1
            rw [List.length_append]
            have : min i2 ns.length ≤ m - 1 := by omega
            omega)
          clear hC hN
          generalize ns[i2] = mm at *
          obtain ⟨ab, ao, rfl, hab, e0⟩ := hcl
          have HZ : Hid (rs ++ encNs (ns.take (i2 + 1)) = (rs ++ encNs (ns.take i2)) ++ enc (unb mm)) := hide (by rw [htk, List.append_assoc])
          generalize rs ++ encNs (ns.take i2) = zs at *
          have hmm := unb_wrap mm
          have hbmm := bw_le (unb mm)
          clear htk
          go_wp2_with fail
          refine (refnum_any (unb mm) wr (unb_lt mm)).mono ?_
          rintro e w9 ⟨v9, rfl, ho9, b9'⟩
          have b9 := hb.trans (b9'.mono hb.size)
          have hox := ho.below b9'
          obtain ⟨A9, n9, c9, rfl, hn9, hnc9, hx9, _⟩ := ho9.form
          have hl9 : n9 ≤ 9 := by rw [← hn9.out, enc_length]; omega
          go_wp2_with (at_builtin; refine list_append_bytes _ rfl (.tmp 45) (.tmp 52) rfl W0.heap.size _ _ rfl hox w9.heap.size A9 n9 c9 _ rfl hx9 hn9.out (by have := HLE.out; omega) b9.size ?_; intro v5 w5 ho5 hg5 hat5)
          have b5 := b9.grown hg5 b9.size (fun k e => (hox.lt k e).1)
          go_roundw
          case rel => exact ⟨i2 + 1, by omega, by go_num, by rw [HZ.out]; exact ho5, b5⟩
          case measure => simp [intOf]; omega
        · obtain rfl : i2 = m := by omega
          rw [List.take_of_length_le (by rw [HM.out]; omega)] at ho
          clear hC hN
          go_wp2
          go_ret
          rw [HALL2.out]
          exact HEnd.out _ _ _ hb ho
end Go.Proofs.Ytapbcpilklhoiaa
