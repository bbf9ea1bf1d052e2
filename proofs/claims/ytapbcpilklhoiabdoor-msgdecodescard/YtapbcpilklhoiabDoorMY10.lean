/-
  The bytes of commands and values by the reference of package value. Conditions: what is read is in reach.
  Write of package value, where what is written lies apart from the writer. Conditions: what is read is in reach.
  Words for the walk of ValueStream: slices of values, the writer beside the bytes that are wanted. No condition.
  The table of what each kind of message uses, and the calls that look at it. Condition: the package's table is as its text lays it.
  Messages as memory holds them. No condition.
  A slice of votes that the call owns, and append onto it. Conditions: what is read is in reach.
  filled of package msg: the bits of what is not zero in a message. Conditions: what is read is in reach.
-/
import Derived.Test.YtapbcpilklhoiabDoorMY9
import Derived.Test.YtapbcpilklhoiabDoorMY6
import Derived.Test.YtapbcpilklhoiabDoorMY2
set_option linter.unusedSimpArgs false
set_option linter.unusedVariables false

namespace Go.Proofs.YtapbcpilklhoiabDoor
open Go.RowKit

theorem own_other {w : World} {base g : Nat} {v : Value} {xs : List UInt8} {cs : Array Value} {t : TypeId} {m : Nat × Nat} (h : Own w base v xs) (hg : w.heap[g]? = some (.cells cs t m)) (ht : t ≠ 5) : v.ownBlock ≠ some g := by
  intro e
  rcases h.2 with ⟨rfl, _⟩ | ⟨g', cap, cur, rfl, _, hh, _⟩
  · cases e
  · have e1 : g' = g := Option.some.inj e
    subst e1
    have := hg.symm.trans hh
    simp at this
    exact ht this.2.1

set_option maxHeartbeats 800000 in
theorem rcmd_any (c : Cmdv) (w : World) (hc : IsCmd c) : Calls Tryd.prog 43 #[c.val] w (Makes (encL c.ints) w) := by
  have hl8 : c.ints.length = 8 := rfl
  have HG : Hid (∀ k (h : k < c.ints.length), IsInt c.ints[k] ∧ encL (c.ints.take (k + 1)) = encL (c.ints.take k) ++ enc (zig c.ints[k]) ∧ (encL (c.ints.take k)).length ≤ 72) := hide fun k hk => ⟨hc _ (List.getElem_mem _), encL_take _ _ hk, by
    have := encL_length (c.ints.take k)
    rw [List.length_take, hl8] at this
    omega⟩
  have HALL : Hid (encL c.ints = encL (c.ints.take 8)) := hide (by rw [List.take_of_length_le (by rw [hl8]; omega)])
  clear hc hl8
  unfold Cmdv.val
  go_enter Tryd.func43, Tryd.ntmps43
  go_wp2_with fail
  have hI0 : (((w.alloc (.cells #[.int .i64 c.s, .int .i64 c.q, .int .i64 c.a, .int .i64 c.k, .int .i64 c.r, .int .i64 c.t, .int .i64 c.re, .int .i64 c.im] 32)).alloc (.cells #[] 5)).alloc (.cells (icells c.ints) 3)).heap[w.heap.size + 1 + 1]? = some (.cells (icells c.ints) 3 (0, 0)) := by
    have := heap_alloc_new ((w.alloc (.cells #[.int .i64 c.s, .int .i64 c.q, .int .i64 c.a, .int .i64 c.k, .int .i64 c.r, .int .i64 c.t, .int .i64 c.re, .int .i64 c.im] 32)).alloc (.cells #[] 5)) (.cells (icells c.ints) 3)
    simpa using this
  have hb0 : Below w.heap.size w (((w.alloc (.cells #[.int .i64 c.s, .int .i64 c.q, .int .i64 c.a, .int .i64 c.k, .int .i64 c.r, .int .i64 c.t, .int .i64 c.re, .int .i64 c.im] 32)).alloc (.cells #[] 5)).alloc (.cells (icells c.ints) 3)) := by go_grown
  have ho0 : Own (((w.alloc (.cells #[.int .i64 c.s, .int .i64 c.q, .int .i64 c.a, .int .i64 c.k, .int .i64 c.r, .int .i64 c.t, .int .i64 c.re, .int .i64 c.im] 32)).alloc (.cells #[] 5)).alloc (.cells (icells c.ints) 3)) w.heap.size (.slice (some ⟨w.heap.size + 1, 0, none⟩) 0 0) [] :=
    (Own.new (w.alloc (.cells #[.int .i64 c.s, .int .i64 c.q, .int .i64 c.a, .int .i64 c.k, .int .i64 c.r, .int .i64 c.t, .int .i64 c.re, .int .i64 c.im] 32)) [] (w.heap.size + 1) w.heap.size (by simp) (by omega) (by simp)).alloc _
  have ei : icells c.ints = #[.int .i64 c.s, .int .i64 c.q, .int .i64 c.a, .int .i64 c.k, .int .i64 c.r, .int .i64 c.t, .int .i64 c.re, .int .i64 c.im] := rfl
  have HEI := hide ei
  rw [ei] at hI0 hb0 ho0
  generalize (((w.alloc (.cells #[.int .i64 c.s, .int .i64 c.q, .int .i64 c.a, .int .i64 c.k, .int .i64 c.r, .int .i64 c.t, .int .i64 c.re, .int .i64 c.im] 32)).alloc (.cells #[] 5)).alloc (.cells #[.int .i64 c.s, .int .i64 c.q, .int .i64 c.a, .int .i64 c.k, .int .i64 c.r, .int .i64 c.t, .int .i64 c.re, .int .i64 c.im] 3)) = W0 at *
  rw [← ei] at hI0
  clear ei
  go_loopw [3, 31] (fun v i wr => ∃ (j : Nat), j ≤ 8 ∧ i = .int .i64 j ∧ Own wr w.heap.size v (encL (c.ints.take j)) ∧ wr.heap[w.heap.size + 1 + 1]? = some (.cells (icells c.ints) 3 (0, 0)) ∧ Below w.heap.size w wr) (fun _ i _ => 8 - (intOf i).toNat)
  case atStart => exact ⟨0, by omega, rfl, ho0, hI0, hb0⟩
  case round =>
    clear hI0 hb0 ho0
    obtain ⟨j, hj, rfl, ho, hI, hb⟩ := hrel
    by_cases hlt : j < 8
    · obtain ⟨g1, g2, g3⟩ := HG.out j hlt
      have hcell := ((HasI.block hI (lt_of_block hI)).at_ j hlt).2
      rw [Nat.zero_add] at hcell
      generalize c.ints[j] = x at *
      have G1 := hide g1
      have G2 := hide g2
      clear g1 g2
      have hzz := lt_of_block hI
      go_wp2_with fail
      refine (refint_any x wr G1.out).mono ?_
      rintro e w1 ⟨v1, rfl, ho1, hb1⟩
      have hI1 := (hb1.block _ hzz).trans hI
      have hox := ho.below hb1
      have hb1' := hb.trans (hb1.mono hb.size)
      have hne := own_other hox hI1 (by decide)
      obtain ⟨A1, n1, c1, rfl, hn1, hnc1, hx1, _⟩ := ho1.form
      have hlen : n1 ≤ 9 := by rw [← hn1.out, enc_length]; have := bw_le (zig x); omega
      go_wp2_with (at_builtin; refine list_append_bytes _ rfl (.tmp 34) (.tmp 39) rfl w.heap.size _ _ rfl hox w1.heap.size A1 n1 c1 _ rfl hx1 hn1.out (by omega) hb1'.size ?_; intro v2 w2 ho2 hg2 hat2)
      have hb2 := hb1'.grown hg2 hb1'.size (fun k e => (hox.lt k e).1)
      have hI2 := (hg2.block _ (lt_of_block hI1) (fun e => hne e.symm)).trans hI1
      go_roundw
      case rel => exact ⟨j + 1, by omega, by go_num, by rw [G2.out]; exact ho2, hI2, hb2⟩
      case measure => simp [intOf]; omega
    · obtain rfl : j = 8 := by omega
      go_wp2
      go_ret
      exact ⟨_, rfl, by rw [HALL.out]; exact ho, hb⟩

set_option maxRecDepth 20000 in
set_option maxHeartbeats 1600000 in
theorem rvbytes_any (k : Int) (A D : Option Addr) (n c m d B : Nat) (cs : List Cmdv) (ns : List Int) (w : World) (hC : HasC w B A cs) (hN : HasI w B D ns) (hB : B ≤ w.heap.size) (hn : cs.length = n) (hm : ns.length = m) (hcs : ∀ x ∈ cs, IsCmd x) (hlen : 27 + 72 * n + 9 * m ≤ 140737488355328) :
    Calls Tryd.prog 42 #[.agg #[.int .i64 k, .slice A n c, .slice D m d]] w (Makes (encV k cs ns) w) := by
  have HN := hide hn
  have HM := hide hm
  have HCS := hide hcs
  clear hn hm hcs
  go_enter Tryd.func42, Tryd.ntmps42
  go_wp2_with fail
  have hp0 := heap_alloc_new w (.cells #[.int .i64 k, .slice A n c, .slice D m d] 27)
  have hb0 : Below w.heap.size w (w.alloc (.cells #[.int .i64 k, .slice A n c, .slice D m d] 27)) := by go_grown
  generalize w.alloc (.cells #[.int .i64 k, .slice A n c, .slice D m d] 27) = W0 at *
  have hz0 := lt_of_block hp0
  have HK : Hid (∀ W, Below W0.heap.size W0 W → W.cell? ⟨w.heap.size, 1, none⟩ = some (.slice A n c) ∧ W.cell? ⟨w.heap.size, 2, none⟩ = some (.slice D m d) ∧ HasC W B A cs ∧ HasI W B D ns) := hide (fun W h => by
    have hp := (h.block w.heap.size hz0).trans hp0
    have hbw := hb0.trans (h.mono (by omega))
    exact ⟨(row_cells hp 1).1, (row_cells hp 2).1, hC.on hB hbw, hN.on hB hbw⟩)
  have HEnd : Hid (∀ v W xs, Below W0.heap.size W0 W → Own W W0.heap.size v xs → Makes xs w (.returned v) W) := hide (fun v W xs h ho => ⟨v, rfl, ho.from_ (by omega), hb0.trans (h.mono (by omega))⟩)
  clear hp0 hC hN
  have hku := unb_wrap k
  have hnu : IntKind.u64.wrap (n : Int) = (n : Int) := by rw [IntKind.wrap_u64]; omega
  have hmu : IntKind.u64.wrap (m : Int) = (m : Int) := by rw [IntKind.wrap_u64]; omega
  have hbk := bw_le (unb k)
  have hbn := bw_le n
  have hbm := bw_le m
  rw [hku]
  refine (refnum_any (unb k) W0 (unb_lt k)).mono ?_
  rintro e w1 ⟨v1, rfl, ho1, b1⟩
  obtain ⟨p1, p2, _, _⟩ := HK.out _ b1
  go_wp2_with fail
  refine (refnum_any n w1 (by omega)).mono ?_
  rintro e w2 ⟨v2, rfl, ho2, b2'⟩
  have b2 := b1.trans (b2'.mono b1.size)
  have ho1' := ho1.below b2'
  obtain ⟨A2, n2, c2, rfl, hn2, hnc2, hx2, _⟩ := ho2.form
  have hl2 : n2 ≤ 9 := by rw [← hn2.out, enc_length]; omega
  have HL1 : Hid ((enc (unb k)).length = bw (unb k) + 1) := hide (enc_length _)
  clear hku hnu
  go_upto_region 3 with (at_builtin; refine list_append_bytes _ rfl (.tmp 10) (.tmp 15) rfl W0.heap.size _ _ rfl ho1' w2.heap.size A2 n2 c2 _ rfl hx2 hn2.out (by rw [HL1.out]; omega) b2.size ?_; intro v3 w3 ho3 hg3 hat3)
  have b3 := b2.grown hg3 b2.size (fun k e => (ho1'.lt k e).1)
  have HL3 : Hid ((enc (unb k) ++ enc n).length ≤ 18) := hide (by rw [List.length_append, enc_length, enc_length]; omega)
  have HALL : Hid (encV k cs ns = (enc (unb k) ++ enc n) ++ (encCs cs ++ (enc m ++ encNs ns))) := hide (by unfold encV; rw [HN.out, HM.out]; simp)
  generalize enc (unb k) ++ enc n = ys at *
  clear ho1 ho1' ho2 b1 b2 b2' hg3 hat3 hx2 p1 p2 HL1 hl2
  obtain ⟨p1, p2, _, _⟩ := HK.out _ b3
  go_wp2_with fail
  have HLC := hide (fun k => encCs_length (cs.take k))
  have HLN := hide (fun k => encNs_length (ns.take k))
  go_loopw [3, 20] (fun v i wr => ∃ (j : Nat), j ≤ n ∧ i = .int .i64 j ∧ Own wr W0.heap.size v (ys ++ encCs (cs.take j)) ∧ Below W0.heap.size W0 wr) (fun _ i _ => n - (intOf i).toNat)
  case atStart => exact ⟨0, Nat.zero_le _, rfl, by simpa [encCs] using ho3, b3⟩
  case round =>
    clear ho3 b3 p1 p2
    obtain ⟨j, hj, rfl, ho, hb⟩ := hrel
    obtain ⟨p1, p2, hC, hN⟩ := HK.out _ hb
    by_cases hlt : j < n
    · have hlt' : j < cs.length := by rw [HN.out]; exact hlt
      have hcm := hide (HCS.out _ (List.getElem_mem hlt'))
      have htk := encCs_take cs j hlt'
      have hcl := hC j hlt'
      have HLE : Hid ((ys ++ encCs (cs.take j)).length + 72 ≤ 18 + 72 * n) := hide (by
        have h1 := HLC.out j
        have h2 := HL3.out
        rw [List.length_take] at h1
        rw [List.length_append]
        have : min j cs.length ≤ n - 1 := by omega
        omega)
      clear hC hN
      generalize cs[j] = cm at *
      obtain ⟨ab, ao, rfl, hab, e0, e1, e2, e3, e4, e5, e6, e7⟩ := hcl
      have HZ : Hid (ys ++ encCs (cs.take (j + 1)) = (ys ++ encCs (cs.take j)) ++ encL cm.ints) := hide (by rw [htk, List.append_assoc])
      generalize ys ++ encCs (cs.take j) = zs at *
      clear htk
      go_wp2_with fail
      refine (rcmd_any cm wr hcm.out).mono ?_
      rintro e w4 ⟨v4, rfl, ho4, b4'⟩
      have b4 := hb.trans (b4'.mono hb.size)
      have hox := ho.below b4'
      obtain ⟨A4, n4, c4, rfl, hn4, hnc4, hx4, _⟩ := ho4.form
      have hl4 : n4 ≤ 72 := by rw [← hn4.out]; exact encL_length cm.ints
      go_wp2_with (at_builtin; refine list_append_bytes _ rfl (.tmp 23) (.tmp 29) rfl W0.heap.size _ _ rfl hox w4.heap.size A4 n4 c4 _ rfl hx4 hn4.out (by have := HLE.out; omega) b4.size ?_; intro v5 w5 ho5 hg5 hat5)
      have b5 := b4.grown hg5 b4.size (fun k e => (hox.lt k e).1)
      go_roundw
      case rel => exact ⟨j + 1, by omega, by go_num, by rw [HZ.out]; exact ho5, b5⟩
      case measure => simp [intOf]; omega
    · obtain rfl : j = n := by omega
      rw [List.take_of_length_le (by rw [HN.out]; omega)] at ho
      have HLE : Hid ((ys ++ encCs cs).length ≤ 18 + 72 * j) := hide (by
        have h1 := encCs_length cs
        have h2 := HL3.out
        rw [HN.out] at h1
        rw [List.length_append]
        omega)
      have HALL2 : Hid (encV k cs ns = (ys ++ encCs cs ++ enc m) ++ encNs ns) := hide (by rw [HALL.out]; simp)
      obtain ⟨W6, hW6⟩ : ∃ W, W = wr := ⟨wr, rfl⟩
      subst hW6
      clear hC hN HALL
      go_wp2_with fail
      refine (refnum_any m W6 (by omega)).mono ?_
      rintro e w7 ⟨v7, rfl, ho7, b7'⟩
      have b7 := hb.trans (b7'.mono hb.size)
      have hox := ho.below b7'
      obtain ⟨A7, n7, c7, rfl, hn7, hnc7, hx7, _⟩ := ho7.form
      have hl7 : n7 ≤ 9 := by rw [← hn7.out, enc_length]; omega
      generalize ys ++ encCs cs = qs at *
      go_upto_region 9 with (at_builtin; refine list_append_bytes _ rfl (.tmp 32) (.tmp 37) rfl W0.heap.size _ _ rfl hox w7.heap.size A7 n7 c7 _ rfl hx7 hn7.out (by have := HLE.out; omega) b7.size ?_; intro v8 w8 ho8 hg8 hat8)
      have b8 := b7.grown hg8 b7.size (fun k e => (hox.lt k e).1)
      have HL8 : Hid ((qs ++ enc m).length ≤ 27 + 72 * j) := hide (by have := HLE.out; rw [List.length_append, enc_length]; omega)
      generalize qs ++ enc m = rs at *
      clear ho ho7 b7 b7' hg8 hat8 hx7 p1 p2 hox hb
      obtain ⟨p1, p2, _, _⟩ := HK.out _ b8
      go_wp2_with fail
      go_loopw [3, 42] (fun v i wr => ∃ (i2 : Nat), i2 ≤ m ∧ i = .int .i64 i2 ∧ Own wr W0.heap.size v (rs ++ encNs (ns.take i2)) ∧ Below W0.heap.size W0 wr) (fun _ i _ => m - (intOf i).toNat)
      case atStart => exact ⟨0, Nat.zero_le _, rfl, by simpa [encNs] using ho8, b8⟩
      case round =>
        clear ho8 b8 p1 p2
        obtain ⟨i2, hj2, rfl, ho, hb⟩ := hrel
        obtain ⟨p1, p2, hC, hN⟩ := HK.out _ hb
        by_cases hlt : i2 < m
        · have hlt' : i2 < ns.length := by rw [HM.out]; exact hlt
          have htk := encNs_take ns i2 hlt'
          have hcl := hN i2 hlt'
          have HLE : Hid ((rs ++ encNs (ns.take i2)).length + 9 ≤ 140737488355328) := hide (by
            have h1 := HLN.out i2
            have h2 := HL8.out
            rw [List.length_take] at h1
            rw [List.length_append]
            have : min i2 ns.length ≤ m - 1 := by omega
            omega)
          clear hC hN
          generalize ns[i2] = mm at *
          obtain ⟨ab, ao, rfl, hab, e0⟩ := hcl
          have HZ : Hid (rs ++ encNs (ns.take (i2 + 1)) = (rs ++ encNs (ns.take i2)) ++ enc (unb mm)) := hide (by rw [htk, List.append_assoc])
          generalize rs ++ encNs (ns.take i2) = zs at *
          have hmm := unb_wrap mm
          have hbmm := bw_le (unb mm)
          clear htk
          go_wp2_with fail
          refine (refnum_any (unb mm) wr (unb_lt mm)).mono ?_
          rintro e w9 ⟨v9, rfl, ho9, b9'⟩
          have b9 := hb.trans (b9'.mono hb.size)
          have hox := ho.below b9'
          obtain ⟨A9, n9, c9, rfl, hn9, hnc9, hx9, _⟩ := ho9.form
          have hl9 : n9 ≤ 9 := by rw [← hn9.out, enc_length]; omega
          go_wp2_with (at_builtin; refine list_append_bytes _ rfl (.tmp 45) (.tmp 52) rfl W0.heap.size _ _ rfl hox w9.heap.size A9 n9 c9 _ rfl hx9 hn9.out (by have := HLE.out; omega) b9.size ?_; intro v5 w5 ho5 hg5 hat5)
          have b5 := b9.grown hg5 b9.size (fun k e => (hox.lt k e).1)
          go_roundw
          case rel => exact ⟨i2 + 1, by omega, by go_num, by rw [HZ.out]; exact ho5, b5⟩
          case measure => simp [intOf]; omega
        · obtain rfl : i2 = m := by omega
          rw [List.take_of_length_le (by rw [HM.out]; omega)] at ho
          clear hC hN
          go_wp2
          go_ret
          rw [HALL2.out]
          exact HEnd.out _ _ _ hb ho
end Go.Proofs.YtapbcpilklhoiabDoor

namespace Go.Proofs.YtapbcpilklhoiabDoor
open Go.RowKit

theorem HasI.keepA {w w' : World} {B : Nat} {A : Option Addr} {xs : List Int} (h : HasI w B A xs) (hk : ∀ b o, A = some ⟨b, o, none⟩ → b < B → w'.heap[b]? = w.heap[b]?) : HasI w' B A xs := by
  intro k hlt
  obtain ⟨b, o, hA, hb, hc⟩ := h k hlt
  exact ⟨b, o, hA, hb, (World.cell?_of_block (w := w) (a := ⟨b, o + k, none⟩) (hk b o hA hb)).trans hc⟩

set_option maxHeartbeats 1600000 in
theorem vwrite_off (g base : Nat) (b : Option Nat) (xs : List UInt8) (kd : Int) (A A' : Option Addr) (n c n' c' B : Nat) (cs : List Cmdv) (ns : List Int) (w : World) (hw : Wr w base g b xs) (hC : HasC w B A cs) (hN : HasI w B A' ns) (hB : B ≤ w.heap.size) (hoA : ∀ k o, A = some ⟨k, o, none⟩ → ¬ Foot g b k) (hoD : ∀ k o, A' = some ⟨k, o, none⟩ → ¬ Foot g b k)
    (hn : cs.length = n) (hn' : ns.length = n') (hcs : ∀ x ∈ cs, IsCmd x) (hlen : xs.length + 27 + 72 * n + 9 * n' ≤ 140737488355328) :
    Calls Tryd.prog 34 #[.pointer (some ⟨g, 0, none⟩), .agg #[.int .i64 kd, .slice A n c, .slice A' n' c']] w (PEnds g b base (xs ++ encV kd cs ns) w) := by
  have HoA := hide hoA
  have HoD := hide hoD
  clear hoA hoD
  have hgs := hw.lt
  have hbs : base ≤ w.heap.size := by have := hw.1; omega
  go_enter Tryd.func34, Tryd.ntmps34
  go_wp2_with fail
  have c0 : (w.alloc (.cells #[.int .i64 kd, .slice A n c, .slice A' n' c'] 27)).cell? ⟨w.heap.size, 0, none⟩ = some (.int .i64 kd) := cell_of_row _ _ _ _ _ _ (heap_alloc_new w _)
  have c1 : (w.alloc (.cells #[.int .i64 kd, .slice A n c, .slice A' n' c'] 27)).cell? ⟨w.heap.size, 1, none⟩ = some (.slice A n c) := cell_of_row _ _ _ _ _ _ (heap_alloc_new w _)
  have c2 : (w.alloc (.cells #[.int .i64 kd, .slice A n c, .slice A' n' c'] 27)).cell? ⟨w.heap.size, 2, none⟩ = some (.slice A' n' c') := cell_of_row _ _ _ _ _ _ (heap_alloc_new w _)
  have hb0 : Below w.heap.size w (w.alloc (.cells #[.int .i64 kd, .slice A n c, .slice A' n' c'] 27)) := (Below.refl _ _).alloc (Nat.le_refl _) _
  have hsz : (w.alloc (.cells #[.int .i64 kd, .slice A n c, .slice A' n' c'] 27)).heap.size = w.heap.size + 1 := by simp
  generalize w.alloc (.cells #[.int .i64 kd, .slice A n c, .slice A' n' c'] 27) = W0 at *
  have hC0 : HasC W0 B A cs := hC.on (by omega) hb0
  have hN0 : HasI W0 B A' ns := hN.on (by omega) hb0
  have hw0 : WGo g b base W0 xs b W0 := ⟨hw.below hb0, .inl rfl, Kept.refl _ _⟩
  have hft := hw.foot
  have hbox : ¬ Foot g b w.heap.size := fun h => by have := (hft _ h).2; omega
  have hlow : ∀ k, Foot g b k → base ≤ k := fun k h => (hft k h).1
  have HEnd : Hid (∀ b' ys w', WGo g b base W0 ys b' w' → PEnds g b base ys w (.returned (.tuple #[])) w') := hide (fun b' ys w' h => ⟨rfl, b', h.wr, by
    rcases h.lie with h1 | ⟨k, h1, h2⟩
    · exact .inl h1
    · exact .inr ⟨k, h1, by omega⟩, (Kept.of_below hb0).step h.kept (fun k hk => .inl hk)⟩)
  clear hC hN hw hb0 hft
  generalize w.heap.size = gb at *
  have hgb : gb < W0.heap.size := by omega
  have HKC : Hid (∀ ys b' w', WGo g b base W0 ys b' w' → w'.cell? ⟨gb, 0, none⟩ = some (.int .i64 kd) ∧ w'.cell? ⟨gb, 1, none⟩ = some (.slice A n c) ∧ w'.cell? ⟨gb, 2, none⟩ = some (.slice A' n' c')) := hide (fun ys b' w' h => ⟨(h.kept.cell hgb hbox).trans c0, (h.kept.cell hgb hbox).trans c1, (h.kept.cell hgb hbox).trans c2⟩)
  have HHC : Hid (∀ ys b' w', WGo g b base W0 ys b' w' → HasC w' B A cs ∧ HasI w' B A' ns) := hide (fun ys b' w' h => ⟨hC0.keep fun k o ha hk => h.kept.block k (by omega) (HoA.out k o ha), hN0.keepA fun k o ha hk => h.kept.block k (by omega) (HoD.out k o ha)⟩)
  have hku := unb_wrap kd
  have hnu : IntKind.u64.wrap (n : Int) = (n : Int) := by rw [IntKind.wrap_u64]; omega
  have hnu' : IntKind.u64.wrap (n' : Int) = (n' : Int) := by rw [IntKind.wrap_u64]; omega
  have hbk := bw_le (unb kd)
  have hbn := bw_le n
  have hbn' := bw_le n'
  have HN : Hid (∀ (u : Nat) (ys : List UInt8) (b1 : Option Nat) (W : World), u < 18446744073709551616 → ys.length + 9 ≤ 140737488355328 → WGo g b base W0 ys b1 W → Calls Tryd.prog 33 #[.pointer (some ⟨g, 0, none⟩), .int .u64 (u : Int)] W fun e w' => e = .returned (.pointer (some ⟨g, 0, none⟩)) ∧ ∃ b', WGo g b base W0 (ys ++ enc u) b' w') := hide (fun u ys b1 W hu hl h => (wnum_any g base b1 ys u W h.wr hu hl).mono fun e w' => by
    rintro ⟨rfl, b2, hw2, hb2, hk2⟩
    exact ⟨rfl, b2, h.step hw2 hb2 hk2⟩)
  have L1 := hide (show xs.length + 9 ≤ 140737488355328 by omega)
  have L2 := hide (show (xs ++ enc (unb kd)).length + 9 ≤ 140737488355328 by rw [List.length_append, enc_length]; omega)
  have U1 := hide (unb_lt kd)
  have U2 := hide (show n < 18446744073709551616 by omega)
  have U3 := hide (show n' < 18446744073709551616 by omega)
  generalize hu : unb kd = u at *
  have HU := hide hu
  clear hu
  go_region_held3 (fun w' => w'.cell? ⟨gb, 0, none⟩ = some (.int .i64 kd) ∧ w'.cell? ⟨gb, 1, none⟩ = some (.slice A n c)) (first | exact ⟨c0, c1⟩ | exact ⟨(HKC.out _ _ _ h2).1, (HKC.out _ _ _ h2).2.1⟩ | exact ⟨(HKC.out _ _ _ h3).1, (HKC.out _ _ _ h3).2.1⟩ | go_keep) (first
    | ((go_at_call 33; (with_reducible refine (HN.out u xs b _ U1.out L1.out ?_).mono ?_)); exact hw0.drew; rintro e w2 ⟨rfl, b2, h2⟩)
    | ((go_at_call 33; (with_reducible refine (HN.out n (xs ++ enc u) b2 _ U2.out L2.out ?_).mono ?_)); exact h2; rintro e w3 ⟨rfl, b3, h3⟩))
  clear h2 hw0
  obtain ⟨k0, k1, k2⟩ := HKC.out _ _ _ h3
  go_wp2_with fail
  have HLC := hide (fun k => encCs_length (cs.take k))
  have HLN := hide (fun k => encNs_length (ns.take k))
  have hle3 : (xs ++ enc u ++ enc n).length ≤ xs.length + 18 := by rw [List.length_append, List.length_append, enc_length, enc_length]; omega
  have HXS : Hid (∀ zs, xs ++ enc u ++ enc n ++ zs = xs ++ (enc u ++ (enc n ++ zs))) := hide (fun zs => by simp)
  generalize xs ++ enc u ++ enc n = ys at *
  have HCS := hide hcs
  have HNN := hide hn
  have HNN' := hide hn'
  clear hcs hn hn' L1 L2 hlow hbox hgs hbs
  go_loopw [21] (fun i wr => ∃ (k : Nat) (b' : Option Nat), k ≤ n ∧ i = .int .i64 k ∧ WGo g b base W0 (ys ++ encCs (cs.take k)) b' wr) (fun i _ => n - (intOf i).toNat)
  case atStart => exact ⟨0, b3, Nat.zero_le _, rfl, by simpa [encCs] using h3⟩
  case round =>
    clear k0 k1 k2 h3
    obtain ⟨k, b1, hk, rfl, h1⟩ := hrel
    by_cases hlt : k < n
    · have hlt' : k < cs.length := by rw [HNN.out]; exact hlt
      have hcm := HCS.out _ (List.getElem_mem hlt')
      have htk := encCs_take cs k hlt'
      have hcl := (HHC.out _ _ _ h1).1 k hlt'
      have hle : (ys ++ encCs (cs.take k)).length + 72 ≤ 140737488355328 := by
        have := HLC.out k
        rw [List.length_take] at this
        rw [List.length_append]
        omega
      generalize cs[k] = cm at *
      obtain ⟨ab, ao, rfl, hab, e0, e1, e2, e3, e4, e5, e6, e7⟩ := hcl
      generalize hzs : ys ++ encCs (cs.take k) = zs at *
      have HZ : Hid (ys ++ encCs (cs.take (k + 1)) = zs ++ encL cm.ints) := hide (by rw [htk, ← List.append_assoc, hzs])
      have HL := hide hle
      clear hle htk hzs
      go_wp2_with fail
      refine (putcmd_any g base b1 zs cm _ (h1.alloc _).wr hcm HL.out).mono ?_
      rintro e w4 ⟨rfl, b4, hw4, hb4, hk4⟩
      have h4 := (h1.alloc (.cells #[.int .i64 cm.s, .int .i64 cm.q, .int .i64 cm.a, .int .i64 cm.k, .int .i64 cm.r, .int .i64 cm.t, .int .i64 cm.re, .int .i64 cm.im] 32)).step hw4 hb4 hk4
      go_wp2
      go_roundw
      case rel => exact ⟨k + 1, b4, by omega, by go_num, by rw [HZ.out]; exact h4⟩
      case measure => simp [intOf]; omega
    · obtain rfl : k = n := by omega
      obtain ⟨k0, k1, k2⟩ := HKC.out _ _ _ h1
      have hcs : cs.take k = cs := List.take_of_length_le (by rw [HNN.out]; omega)
      rw [hcs] at h1
      have L3 : Hid ((ys ++ encCs cs).length + 9 ≤ 140737488355328) := hide (by
        have := HLC.out k
        rw [hcs, HNN.out] at this
        rw [List.length_append]
        omega)
      go_wp2_with fail
      refine (HN.out n' (ys ++ encCs cs) b1 _ U3.out L3.out h1).mono ?_
      rintro e w5 ⟨rfl, b5, h5⟩
      obtain ⟨k0, k1, k2⟩ := HKC.out _ _ _ h5
      go_wp2_with fail
      have hle5 : (ys ++ encCs cs ++ enc n').length ≤ xs.length + 27 + 72 * k := by
        have := HLC.out k
        rw [hcs, HNN.out] at this
        rw [List.length_append, List.length_append, enc_length]
        omega
      have HALL : Hid (xs ++ encV kd cs ns = ys ++ encCs cs ++ enc n' ++ encNs ns) := hide (by
        unfold encV
        rw [HU.out, HNN.out, HNN'.out, ← HXS.out]
        simp)
      generalize ys ++ encCs cs ++ enc n' = qs at *
      clear h1 k0 k1 k2 hcs
      go_loopw [38] (fun i wr => ∃ (j : Nat) (b' : Option Nat), j ≤ n' ∧ i = .int .i64 j ∧ WGo g b base W0 (qs ++ encNs (ns.take j)) b' wr) (fun i _ => n' - (intOf i).toNat)
      case atStart => exact ⟨0, b5, Nat.zero_le _, rfl, by simpa [encNs] using h5⟩
      case round =>
        clear h5
        obtain ⟨j, b6, hj, rfl, h6⟩ := hrel
        by_cases hlt : j < n'
        · have hlt' : j < ns.length := by rw [HNN'.out]; exact hlt
          have htk := encNs_take ns j hlt'
          have hcl := (HHC.out _ _ _ h6).2 j hlt'
          have hle : (qs ++ encNs (ns.take j)).length + 9 ≤ 140737488355328 := by
            have := HLN.out j
            rw [List.length_take] at this
            rw [List.length_append]
            omega
          generalize ns[j] = m at *
          obtain ⟨ab, ao, rfl, hab, e0⟩ := hcl
          generalize hzs : qs ++ encNs (ns.take j) = zs at *
          have HZ : Hid (qs ++ encNs (ns.take (j + 1)) = zs ++ enc (unb m)) := hide (by rw [htk, ← List.append_assoc, hzs])
          have HL := hide hle
          have hmu := unb_wrap m
          have UM := hide (unb_lt m)
          clear hle htk hzs
          go_wp2_with fail
          refine (HN.out (unb m) zs b6 _ UM.out HL.out h6).mono ?_
          rintro e w7 ⟨rfl, b7, h7⟩
          go_wp2
          go_roundw
          case rel => exact ⟨j + 1, b7, by omega, by go_num, by rw [HZ.out]; exact h7⟩
          case measure => simp [intOf]; omega
        · obtain rfl : j = n' := by omega
          have hns : ns.take j = ns := List.take_of_length_le (by rw [HNN'.out]; omega)
          rw [hns] at h6
          go_wp2
          go_end0
          rw [HALL.out]
          exact HEnd.out _ _ _ h6
end Go.Proofs.YtapbcpilklhoiabDoor

namespace Go.Proofs.YtapbcpilklhoiabDoor
open Go.RowKit

structure Valv where
  k : Int
  A : Option Addr
  n : Nat
  c : Nat
  D : Option Addr
  m : Nat
  d : Nat
  cs : List Cmdv
  ns : List Int
/-- The slice that begins at A reads as these values, in a block below B. -/
def HasV (w : World) (B : Nat) (A : Option Addr) (vs : List Valv) : Prop :=
  ∀ i (h : i < vs.length), (∃ b o, A = some ⟨b, o, none⟩ ∧ b < B ∧ w.cell? ⟨b, o + i * 3, none⟩ = some (.int .i64 vs[i].k) ∧ w.cell? ⟨b, o + i * 3 + 1, none⟩ = some (.slice vs[i].A vs[i].n vs[i].c) ∧ w.cell? ⟨b, o + i * 3 + 2, none⟩ = some (.slice vs[i].D vs[i].m vs[i].d)) ∧ IsV w B vs[i].A vs[i].n vs[i].D vs[i].m vs[i].cs vs[i].ns
theorem HasV.below {w w' : World} {B : Nat} {A : Option Addr} {vs : List Valv} (h : HasV w B A vs) (hb : Below B w w') : HasV w' B A vs := by
  intro i hi
  obtain ⟨⟨b, o, hA, hlt, h0, h1, h2⟩, hv⟩ := h i hi
  have e : ∀ j, w'.cell? ⟨b, j, none⟩ = w.cell? ⟨b, j, none⟩ := fun j => World.cell?_of_block (w := w) (a := ⟨b, j, none⟩) (hb.block b hlt)
  exact ⟨⟨b, o, hA, hlt, (e _).trans h0, (e _).trans h1, (e _).trans h2⟩, hv.below hb⟩

/-- What is written of a value: nothing, if it isn't right. -/
def outV (v : Valv) : List UInt8 := if chkV v.k v.cs v.ns = 0 then encV v.k v.cs v.ns else []
def outVs (vs : List Valv) : List UInt8 := vs.flatMap outV
theorem outVs_take (vs : List Valv) (k : Nat) (hk : k < vs.length) : outVs (vs.take (k + 1)) = outVs (vs.take k) ++ outV vs[k] := by
  unfold outVs
  rw [List.take_succ_eq_append_getElem hk, List.flatMap_append, List.flatMap_singleton]
theorem outVs_drop (vs : List Valv) (k : Nat) (hk : k < vs.length) : outVs (vs.drop k) = outV vs[k] ++ outVs (vs.drop (k + 1)) := by
  rw [List.drop_eq_getElem_cons hk]
  rfl
theorem outV_len {v : Valv} (h : ∀ c ∈ v.cs, IsCmd c) : (outV v).length ≤ 1000 := by
  unfold outV
  split
  · exact encV_len (chkV_fine h ‹_›)
  · simp
theorem outVs_len (vs : List Valv) (h : ∀ v ∈ vs, ∀ c ∈ v.cs, IsCmd c) : (outVs vs).length ≤ 1000 * vs.length := by
  induction vs with
  | nil => simp [outVs]
  | cons v vs ih =>
    have e : outVs (v :: vs) = outV v ++ outVs vs := rfl
    have h1 := outV_len (h v (List.mem_cons_self ..))
    have h2 := ih (fun u hu => h u (List.mem_cons_of_mem _ hu))
    rw [e, List.length_append, List.length_cons]
    omega
theorem encCs_drop (cs : List Cmdv) (k : Nat) (hk : k < cs.length) : encCs (cs.drop k) = encL cs[k].ints ++ encCs (cs.drop (k + 1)) := by
  rw [List.drop_eq_getElem_cons hk]
  rfl

/-- The writer g and the slice v of bytes, both of the call's own, apart from one another. -/
structure SW (W0 : World) (g : Nat) (b : Option Nat) (v : Value) (zs ys : List UInt8) (W : World) : Prop where
  wr : Wr W W0.heap.size g b zs
  ow : Own W W0.heap.size v ys
  ap : ∀ k, Foot g b k → v.ownBlock ≠ some k
  bl : Below W0.heap.size W0 W
section
variable {W0 W W' : World} {g : Nat} {b b' : Option Nat} {v v' : Value} {zs ys zs' ys' : List UInt8}
theorem SW.below (h : SW W0 g b v zs ys W) (hb : Below W.heap.size W W') : SW W0 g b v zs ys W' := ⟨h.wr.below hb, h.ow.below hb, h.ap, h.bl.trans (hb.mono h.bl.size)⟩
theorem SW.drewN (h : SW W0 g b v zs ys W) (n : Nat) : SW W0 g b v zs ys (W.drewN n) := h.below (below_drewN (Below.refl _ _) n)
theorem SW.write (h : SW W0 g b v zs ys W) (hw : Wr W' W0.heap.size g b' zs') (hl : b' = b ∨ ∃ k, b' = some k ∧ W.heap.size ≤ k) (hk : Kept (Foot g b) W W') : SW W0 g b' v zs' ys W' := by
  refine ⟨hw, h.ow.keep fun k hk' => hk.block k ((h.ow.lt k hk').2) (fun hf => h.ap k hf hk'), ?_, h.bl.trans (hk.below h.bl.size (fun k hf => (h.wr.foot k hf).1))⟩
  intro k hf e
  rcases hf with rfl | hf
  · exact h.ap k (.inl rfl) e
  · rcases hl with rfl | ⟨k', rfl, hk'⟩
    · exact h.ap k (.inr hf) e
    · have e1 : k' = k := Option.some.inj hf
      have := (h.ow.lt k e).2
      omega
theorem SW.append (h : SW W0 g b v zs ys W) (hg : W.grownBy W' v.ownBlock) (ho : Own W' W0.heap.size v' ys') (hat : v'.ownBlock = v.ownBlock ∨ v'.ownBlock = some W.heap.size) : SW W0 g b v' zs ys' W' := by
  refine ⟨h.wr.keep fun k hf => hg.block k ((h.wr.foot k hf).2) (fun e => h.ap k hf e.symm), ho, ?_, h.bl.grown hg h.bl.size (fun k e => (h.ow.lt k e).1)⟩
  intro k hf e
  rcases hat with h1 | h1
  · exact h.ap k hf (h1.symm.trans e)
  · rw [h1] at e
    have e1 := Option.some.inj e
    have := (h.wr.foot k hf).2
    omega
end
end Go.Proofs.YtapbcpilklhoiabDoor

namespace Go.Proofs.YtapbcpilklhoiabDoor
open Go.RowKit

def usedTab : List Int := [0, 15, 159, 3, 79, 79, 39, 35, 13, 77, 1045, 21, 1045, 257, 769]
def usedT (k : Int) : Int := if 0 ≤ k ∧ k ≤ 14 then usedTab.getD k.toNat 0 else 0

theorem minside_any (n lo hi : Int) (w : World) : Calls Tryd.prog 67 #[.int .i64 n, .int .i64 lo, .int .i64 hi] w fun e w' => e = .returned (.bool (insB n lo hi)) ∧ w' = w := by
  by_cases h1 : lo ≤ n
  · by_cases h2 : n ≤ hi
    · have e : insB n lo hi = true := decide_eq_true ⟨h1, h2⟩
      rw [e]
      clear e
      go_enter Tryd.func67, Tryd.ntmps67
      go_wp2
      go_ret
      exact ⟨rfl, rfl⟩
    · have e : insB n lo hi = false := decide_eq_false (fun h => h2 h.2)
      rw [e]
      clear e
      go_enter Tryd.func67, Tryd.ntmps67
      go_wp2
      go_ret
      exact ⟨rfl, rfl⟩
  · have e : insB n lo hi = false := decide_eq_false (fun h => h1 h.1)
    rw [e]
    clear e
    go_enter Tryd.func67, Tryd.ntmps67
    go_wp2
    go_ret
    exact ⟨rfl, rfl⟩

/-- The package's table, where the program lays it. -/
structure TabM (w : World) : Prop where
  cell : ∀ j : Nat, j ≤ 14 → w.cell? ⟨0, j, none⟩ = some (.int .i64 (usedTab.getD j 0))
  lt : 0 < w.heap.size
theorem TabM.keep {w w' : World} (h : TabM w) (hb : w'.heap[0]? = w.heap[0]?) (hz : w.heap.size ≤ w'.heap.size) : TabM w' :=
  ⟨fun j hj => (World.cell?_of_block (w := w) (a := ⟨0, j, none⟩) hb).trans (h.cell j hj), Nat.lt_of_lt_of_le h.lt hz⟩
theorem TabM.below {w w' : World} {B : Nat} (h : TabM w) (hb : Below B w w') (hB : 0 < B) : TabM w' := h.keep (hb.block 0 hB) hb.size

theorem muses_any (k : Int) (w : World) (ht : TabM w) : Calls Tryd.prog 30 #[.int .i64 k] w fun e w' => e = .returned (.int .i64 (usedT k)) ∧ w = w' := by
  by_cases hk : insB k 0 14 = true
  · have HK := hide hk
    have hk' : 0 ≤ k ∧ k ≤ 14 := of_decide_eq_true hk
    obtain ⟨j, rfl⟩ : ∃ j : Nat, k = (j : Int) := ⟨k.toNat, by omega⟩
    have hj : j ≤ 14 := by omega
    have hc := ht.cell j hj
    have HE : Hid (usedT (j : Int) = usedTab.getD j 0) := hide (by unfold usedT; rw [if_pos (by omega)]; simp)
    clear hk hk' ht
    generalize usedTab.getD j 0 = u at *
    go_enter Tryd.func30, Tryd.ntmps30
    go_wp2_with fail
    refine (minside_any _ 0 14 _).mono ?_
    rintro e w' ⟨rfl, rfl⟩
    rw [HK.out]
    go_wp2
    go_ret
    exact ⟨by rw [HE.out]; rfl, rfl⟩
  · have HK := hide (Bool.eq_false_iff.2 hk)
    have e0 : usedT k = 0 := by
      unfold usedT
      rw [if_neg (fun h => hk (decide_eq_true h))]
    rw [e0]
    clear hk e0 ht
    go_enter Tryd.func30, Tryd.ntmps30
    go_wp2_with fail
    refine (minside_any _ 0 14 _).mono ?_
    rintro e w' ⟨rfl, rfl⟩
    rw [HK.out]
    go_wp2
    go_ret
    exact ⟨rfl, rfl⟩
end Go.Proofs.YtapbcpilklhoiabDoor

namespace Go.Proofs.YtapbcpilklhoiabDoor
open Go.RowKit

/-- A vote: slot, ballot, value. -/
structure Votev where
  sl : Int
  br : Int
  bn : Int
  v : Valv
/-- A message. -/
structure Msgv where
  kd : Int
  fr : Int
  tt : Int
  ep : Int
  br : Int
  bn : Int
  sl : Int
  lw : Int
  tm : Int
  v : Valv
  VA : Option Addr
  vn : Nat
  vc : Nat
  vs : List Votev
  cm : Cmdv
  rk : Int
  rr : Int
  ri : Int
  DA : Option Addr
  dn : Nat
  dc : Nat
  ds : List UInt8
/-- The slice that begins at A reads as these votes, in a block below B. -/
def HasVt (w : World) (B : Nat) (A : Option Addr) (vs : List Votev) : Prop :=
  ∀ i (h : i < vs.length), (∃ b o, A = some ⟨b, o, none⟩ ∧ b < B ∧ w.cell? ⟨b, o + i * 6, none⟩ = some (.int .i64 vs[i].sl) ∧ w.cell? ⟨b, o + i * 6 + 1, none⟩ = some (.int .i64 vs[i].br) ∧ w.cell? ⟨b, o + i * 6 + 2, none⟩ = some (.int .i64 vs[i].bn) ∧ w.cell? ⟨b, o + i * 6 + 3, none⟩ = some (.int .i64 vs[i].v.k) ∧ w.cell? ⟨b, o + i * 6 + 4, none⟩ = some (.slice vs[i].v.A vs[i].v.n vs[i].v.c) ∧ w.cell? ⟨b, o + i * 6 + 5, none⟩ = some (.slice vs[i].v.D vs[i].v.m vs[i].v.d)) ∧ IsV w B vs[i].v.A vs[i].v.n vs[i].v.D vs[i].v.m vs[i].v.cs vs[i].v.ns
theorem HasVt.below {w w' : World} {B : Nat} {A : Option Addr} {vs : List Votev} (h : HasVt w B A vs) (hb : Below B w w') : HasVt w' B A vs := by
  intro i hi
  obtain ⟨⟨b, o, hA, hlt, h0, h1, h2, h3, h4, h5⟩, hv⟩ := h i hi
  have e : ∀ j, w'.cell? ⟨b, j, none⟩ = w.cell? ⟨b, j, none⟩ := fun j => World.cell?_of_block (w := w) (a := ⟨b, j, none⟩) (hb.block b hlt)
  exact ⟨⟨b, o, hA, hlt, (e _).trans h0, (e _).trans h1, (e _).trans h2, (e _).trans h3, (e _).trans h4, (e _).trans h5⟩, hv.below hb⟩
/-- A message as memory holds it. -/
structure IsM (w : World) (B : Nat) (m : Msgv) : Prop where
  v : IsV w B m.v.A m.v.n m.v.D m.v.m m.v.cs m.v.ns
  vt : HasVt w B m.VA m.vs
  en : m.vs.length = m.vn
  ln : m.vn ≤ 2199023255552
  d : Has w B m.DA m.ds
  ed : m.ds.length = m.dn
  dc : m.dn ≤ m.dc
  ld : m.dn ≤ 140737488351232
  cm : IsCmd m.cm
  i1 : IsInt m.rk
  i2 : IsInt m.rr
  i3 : IsInt m.ri
theorem IsM.below {w w' : World} {B : Nat} {m : Msgv} (h : IsM w B m) (hb : Below B w w') : IsM w' B m := ⟨h.v.below hb, h.vt.below hb, h.en, h.ln, h.d.below hb, h.ed, h.dc, h.ld, h.cm, h.i1, h.i2, h.i3⟩

/-- What a mark makes. -/
def mk (a : Int) (b : Bool) (f : Int) : Int := if b = true then bits .or .i64 a f else a

theorem mark_any (f : Int) (b : Bool) (g : Nat) (a : Int) (w : World) (h : w.heap[g]? = some (.cells #[.int .i64 a] 3 (0, 0))) :
    Calls Tryd.prog 86 #[.int .i64 f, .bool b, .pointer (some ⟨g, 0, none⟩)] w fun e w' => e = .returned (.tuple #[]) ∧ Hid (w'.heap[g]? = some (.cells #[.int .i64 (mk a b f)] 3 (0, 0))) ∧ Kept (fun k => k = g) w w' := by
  have hc := (row_cells h 0).1
  have hf := (row_cells h 0).2
  simp only [List.getElem?_toArray, List.getElem?_cons_zero] at hc
  have HH := hide h
  clear h
  cases b with
  | true =>
    go_enter Tryd.func86, Tryd.ntmps86
    go_wp2
    go_end0
    refine ⟨rfl, hide ?_, (Kept.refl (fun k => k = g) w).setCell (p := ⟨g, 0, none⟩) (.inl rfl) _⟩
    simp [World.setCell, Array.getElem?_modify, HH.out, mk]
  | false =>
    go_enter Tryd.func86, Tryd.ntmps86
    go_wp2
    go_end0
    exact ⟨rfl, hide (by rw [HH.out]; rfl), Kept.refl _ _⟩
end Go.Proofs.YtapbcpilklhoiabDoor

namespace Go.Proofs.YtapbcpilklhoiabDoor
open Go.RowKit

theorem vote_info : (Tryd.prog.info? 54).map (fun i => (i.zero, i.size, i.bytes)) = some (some (Value.agg #[.int .i64 0, .int .i64 0, .int .i64 0, .int .i64 0, .slice none 0 0, .slice none 0 0]), 6, 80) := by kernel_rfl

def Votev.cells (v : Votev) : List Value := [.int .i64 v.sl, .int .i64 v.br, .int .i64 v.bn, .int .i64 v.v.k, .slice v.v.A v.v.n v.v.c, .slice v.v.D v.v.m v.v.d]
def flatVt (vs : List Votev) : List Value := vs.flatMap Votev.cells
theorem flatVt_length (vs : List Votev) : (flatVt vs).length = vs.length * 6 := by
  induction vs with
  | nil => rfl
  | cons c cs ih =>
    have e : flatVt (c :: cs) = c.cells ++ flatVt cs := rfl
    have h6 : c.cells.length = 6 := rfl
    rw [e, List.length_append, ih, List.length_cons, h6]
    omega
theorem flatVt_get (vs : List Votev) (i r : Nat) (hi : i < vs.length) (hr : r < 6) : (flatVt vs)[i * 6 + r]? = vs[i].cells[r]? := by
  induction vs generalizing i with
  | nil => simp at hi
  | cons c cs ih =>
    have e : flatVt (c :: cs) = c.cells ++ flatVt cs := rfl
    have h6 : c.cells.length = 6 := rfl
    rw [e]
    match i with
    | 0 => rw [List.getElem?_append_left (by rw [h6]; omega)]; simp
    | i + 1 =>
      rw [List.getElem?_append_right (by rw [h6]; omega), h6, show (i + 1) * 6 + r - 6 = i * 6 + r from by omega, ih i (by simpa using hi)]
      simp
theorem flatVt_one (vs : List Votev) : ∀ u ∈ flatVt vs, u.oneCell' = true := by
  intro u hu
  obtain ⟨c, _, h⟩ := List.mem_flatMap.1 hu
  simp only [Votev.cells, List.mem_cons, List.not_mem_nil, or_false] at h
  rcases h with rfl | rfl | rfl | rfl | rfl | rfl <;> rfl
theorem flatVt_append (vs ws : List Votev) : flatVt (vs ++ ws) = flatVt vs ++ flatVt ws := List.flatMap_append

/-- Cells that are laid one behind the other read as votes. -/
theorem HasVt.of_cells {w : World} {B g : Nat} {vs : List Votev} (hg : g < B) (h : ∀ j u, (flatVt vs)[j]? = some u → w.cell? ⟨g, j, none⟩ = some u) (hv : ∀ v ∈ vs, IsV w B v.v.A v.v.n v.v.D v.v.m v.v.cs v.v.ns) : HasVt w B (some ⟨g, 0, none⟩) vs := by
  intro i hi
  have key : ∀ r, r < 6 → ∀ u, vs[i].cells[r]? = some u → w.cell? ⟨g, 0 + i * 6 + r, none⟩ = some u := fun r hr u hu => by
    rw [Nat.zero_add]
    exact h _ _ ((flatVt_get vs i r hi hr).trans hu)
  exact ⟨⟨g, 0, rfl, hg, key 0 (by omega) _ rfl, key 1 (by omega) _ rfl, key 2 (by omega) _ rfl, key 3 (by omega) _ rfl, key 4 (by omega) _ rfl, key 5 (by omega) _ rfl⟩, hv _ (List.getElem_mem hi)⟩

/-- The slice value v holds just vs, in a block of the call's own (from base on), or is nil. -/
def OwnVt (w : World) (base : Nat) (v : Value) (vs : List Votev) : Prop := w.ownsRow base 54 6 v vs.length (flatVt vs)
theorem OwnVt.nil (w : World) (base : Nat) : OwnVt w base (.slice none 0 0) [] := ⟨rfl, .inl ⟨rfl, rfl⟩⟩
theorem OwnVt.lt {w : World} {base : Nat} {v : Value} {vs : List Votev} (h : OwnVt w base v vs) : ∀ g, v.ownBlock = some g → base ≤ g ∧ g < w.heap.size := World.ownsRow.lt h
theorem OwnVt.keep {w w' : World} {base : Nat} {v : Value} {vs : List Votev} (h : OwnVt w base v vs) (hk : ∀ g, v.ownBlock = some g → w'.heap[g]? = w.heap[g]?) : OwnVt w' base v vs := by
  refine ⟨h.1, ?_⟩
  rcases h.2 with h2 | ⟨g, cap, cur, hv, hg, hh, r⟩
  · exact .inl h2
  · exact .inr ⟨g, cap, cur, hv, hg, by rw [hk g (by rw [hv]; rfl)]; exact hh, r⟩
theorem OwnVt.below {w w' : World} {base : Nat} {v : Value} {vs : List Votev} (h : OwnVt w base v vs) (hb : Below w.heap.size w w') : OwnVt w' base v vs :=
  h.keep fun g hg => hb.block g (h.lt g hg).2
theorem OwnVt.from_ {w : World} {base base' : Nat} {v : Value} {vs : List Votev} (h : OwnVt w base v vs) (hb : base' ≤ base) : OwnVt w base' v vs := by
  refine ⟨h.1, ?_⟩
  rcases h.2 with h2 | ⟨g, cap, cur, hv, hg, r⟩
  · exact .inl h2
  · exact .inr ⟨g, cap, cur, hv, by omega, r⟩
theorem OwnVt.form {w : World} {base : Nat} {v : Value} {vs : List Votev} (h : OwnVt w base v vs) (hi : ∀ x ∈ vs, IsV w w.heap.size x.v.A x.v.n x.v.D x.v.m x.v.cs x.v.ns) : ∃ A n c, v = .slice A n c ∧ Hid (vs.length = n) ∧ n ≤ c ∧ HasVt w w.heap.size A vs := by
  rcases h.2 with ⟨hv, hn⟩ | ⟨g, cap, cur, hv, hg, hh, hnc, hm, hcs, ht⟩
  · have hx : vs = [] := List.eq_nil_of_length_eq_zero hn
    subst hx
    exact ⟨none, 0, 0, hv, rfl, Nat.le_refl _, fun i hi => absurd hi (by simp)⟩
  · refine ⟨some ⟨g, 0, none⟩, vs.length, cap, hv, rfl, hnc, HasVt.of_cells (lt_of_block hh) (fun j u hu => ?_) hi⟩
    rw [← ht] at hu
    have hj : j < vs.length * 6 := by
      rcases Nat.lt_or_ge j (vs.length * 6) with h1 | h1
      · exact h1
      · rw [List.getElem?_eq_none (by rw [List.length_take]; omega)] at hu; cases hu
    rw [List.getElem?_take_of_lt hj] at hu
    simp only [World.cell?, hh]
    simpa using hu
theorem OwnVt.empty (w : World) (g base : Nat) (hg : g = w.heap.size) (hb : base ≤ g) : OwnVt (w.alloc (.cells #[] 54)) base (.slice (some ⟨g, 0, none⟩) 0 0) [] := by
  subst hg
  exact ⟨rfl, .inr ⟨w.heap.size, 0, #[], rfl, hb, heap_alloc_new w _, Nat.le_refl _, by unfold maxLen; omega, rfl, rfl⟩⟩

theorem run_append_vote (w : World) (ty base : Nat) (v : Value) (vs : List Votev) (hown : OwnVt w base v vs) (g : Nat) (c : Nat) (x : Votev) (hr : w.heap[g]? = some (.cells #[.int .i64 x.sl, .int .i64 x.br, .int .i64 x.bn, .int .i64 x.v.k, .slice x.v.A x.v.n x.v.c, .slice x.v.D x.v.m x.v.d] 54 (0, 0)))
    (hlen : vs.length + 1 ≤ 1759218604441) (hbase : base ≤ w.heap.size) :
    ∃ v' w', (Builtin.append_ #[28, 28] ty #[v, .slice (some ⟨g, 0, none⟩) 1 c]).run Tryd.prog w = .ok v' w' ∧ OwnVt w' base v' (vs ++ [x]) ∧ w.grownBy w' v.ownBlock ∧ (v'.ownBlock = v.ownBlock ∨ v'.ownBlock = some w.heap.size) := by
  obtain ⟨i0, hi0, hz0, hz1, hz2⟩ := info_parts vote_info
  have hcells : ∀ j u, (flatVt [x])[j]? = some u → w.cell? ((⟨g, 0, none⟩ : Addr).add j) = some u := by
    intro j u hu
    have ea : (⟨g, 0, none⟩ : Addr).add j = ⟨g, 0 + j, none⟩ := by
      unfold Addr.add
      split <;> simp_all
    have e : flatVt [x] = [.int .i64 x.sl, .int .i64 x.br, .int .i64 x.bn, .int .i64 x.v.k, .slice x.v.A x.v.n x.v.c, .slice x.v.D x.v.m x.v.d] := rfl
    rw [e] at hu
    rw [ea, Nat.zero_add, cell_of_row _ _ _ _ _ _ hr]
    simpa using hu
  obtain ⟨v', w', hrun, h2, h3, _, h5⟩ := run_append_own_at (P := Tryd.prog) w base 28 ty 54 i0 _ 6 80 Tryd.underlying28 hi0 hz0 hz1 hz2 rfl (by omega) v vs.length (flatVt vs) hown ⟨g, 0, none⟩ 1 c (flatVt [x]) (flatVt_length [x]) hcells (flatVt_one [x])
    (by unfold maxLen; omega) (by omega) hbase
  exact ⟨v', w', hrun, by unfold OwnVt; rw [List.length_append, flatVt_append]; exact h2, h3, h5⟩

theorem step_append_vote {ops : Array Oper} {o : Oper} {a : Act} {K : Act → World → Prop} {Q : Exit → Act → World → Prop} {E : Prop} (w : World) (hgd : o.guard = none) (s x : Operand)
    (ho : o.op = .call { callee := .builtin .append, args := #[s, x], argTypes := #[28, 28] }) (base : Nat) (v : Value) (xs : List Votev) (hs : a.eval s = v) (hown : OwnVt w base v xs)
    (g c : Nat) (y : Votev) (hx : a.eval x = .slice (some ⟨g, 0, none⟩) 1 c) (hr : w.heap[g]? = some (.cells #[.int .i64 y.sl, .int .i64 y.br, .int .i64 y.bn, .int .i64 y.v.k, .slice y.v.A y.v.n y.v.c, .slice y.v.D y.v.m y.v.d] 54 (0, 0)))
    (hlen : xs.length + 1 ≤ 1759218604441) (hbase : base ≤ w.heap.size)
    (h : ∀ v' w', OwnVt w' base v' (xs ++ [y]) → w.grownBy w' v.ownBlock → (v'.ownBlock = v.ownBlock ∨ v'.ownBlock = some w.heap.size) → K (a.put o.dst v') w') :
    if Region.wanted o (yielded ops a.tmps) = true then Oper.wp Tryd.prog o a w K Q else E := by
  rw [if_pos (by simp [Region.wanted, hgd])]
  obtain ⟨v', w', hrun, h2, h3, h4⟩ := run_append_vote w o.type base v xs hown g c y hr hlen hbase
  exact Lib.wp_append_run w s x 28 28 ho _ _ hs hx v' w' hrun (h v' w' h2 h3 h4)
theorem list_append_vote {ops : Array Oper} {rest : List Oper} {o : Oper} {a : Act} {Q : Exit → Act → World → Prop} (w : World) (hw : Region.wanted o (yielded ops a.tmps) = true) (s x : Operand)
    (ho : o.op = .call { callee := .builtin .append, args := #[s, x], argTypes := #[28, 28] }) (base : Nat) (v : Value) (xs : List Votev) (hs : a.eval s = v) (hown : OwnVt w base v xs)
    (g c : Nat) (y : Votev) (hx : a.eval x = .slice (some ⟨g, 0, none⟩) 1 c) (hr : w.heap[g]? = some (.cells #[.int .i64 y.sl, .int .i64 y.br, .int .i64 y.bn, .int .i64 y.v.k, .slice y.v.A y.v.n y.v.c, .slice y.v.D y.v.m y.v.d] 54 (0, 0)))
    (hlen : xs.length + 1 ≤ 1759218604441) (hbase : base ≤ w.heap.size)
    (h : ∀ v' w', OwnVt w' base v' (xs ++ [y]) → w.grownBy w' v.ownBlock → (v'.ownBlock = v.ownBlock ∨ v'.ownBlock = some w.heap.size) → wpList Tryd.prog ops Q rest (a.put o.dst v') w') : wpList Tryd.prog ops Q (o :: rest) a w := by
  obtain ⟨v', w', hrun, h2, h3, h4⟩ := run_append_vote w o.type base v xs hown g c y hr hlen hbase
  exact list_append_want w hw s x 28 28 ho _ _ hs hx v' w' hrun (h v' w' h2 h3 h4)
end Go.Proofs.YtapbcpilklhoiabDoor

namespace Go.Proofs.YtapbcpilklhoiabDoor
open Go.RowKit

theorem fields_res : (Tryd.prog.fieldsOf 34).toList.map (fun f => (f.type, f.offset, f.name == "_")) = [(3, 0, false), (3, 1, false), (3, 2, false)] := by kernel_rfl

theorem equal_res (d : Nat) (a b c a' b' c' : Int) (w : World) : (Op.equalIn (d + 2) 34 (.agg #[.int .i64 a, .int .i64 b, .int .i64 c]) (.agg #[.int .i64 a', .int .i64 b', .int .i64 c'])).run Tryd.prog w = .ok (decide ([a, b, c] = [a', b', c'])) w := by
  rw [show d + 2 = (d + 1) + 1 from rfl, run_equalIn_struct w (d + 1) 34 _ _ (by kernel_rfl) (by kernel_rfl)]
  have hf := fields_res
  generalize (Tryd.prog.fieldsOf 34).toList = fs at hf
  refine eqFields_ints d _ _ w fs _ _ (by have := congrArg List.length hf; simpa using this) (by have := congrArg List.length hf; simpa using this) ?_
  match fs, (show fs.length = 3 by have := congrArg List.length hf; simpa using this), hf with
  | [f0, f1, f2], _, hf =>
    simp only [List.map_cons, List.map_nil, List.cons.injEq, Prod.mk.injEq, and_true] at hf
    obtain ⟨⟨t0, o0, n0⟩, ⟨t1, o1, n1⟩, t2, o2, n2⟩ := hf
    intro i f x y e1 e2 e3
    match i with
    | 0 => simp at e1 e2 e3; subst e1 e2 e3; exact ⟨t0, n0, by simp [o0], by simp [o0]⟩
    | 1 => simp at e1 e2 e3; subst e1 e2 e3; exact ⟨t1, n1, by simp [o1], by simp [o1]⟩
    | 2 => simp at e1 e2 e3; subst e1 e2 e3; exact ⟨t2, n2, by simp [o2], by simp [o2]⟩
    | i + 3 => simp at e1


def zeroC : Cmdv := ⟨0, 0, 0, 0, 0, 0, 0, 0⟩
/-- The bits of what is not zero. -/
def filV (m : Msgv) : Int := mk (mk (mk (mk (mk (mk (mk (mk (mk 0 (!decide (m.br = 0) || !decide (m.bn = 0)) 2) (m.sl != 0) 4) (m.lw != 0) 16) (m.tm != 0) 32) (!sameV m.v.k m.v.cs m.v.ns 0 [] []) 64) (decide (0 < m.vn)) 128) (!eqC m.cm zeroC) 256) (!decide (m.rk = 0) || (!decide (m.rr = 0) || !decide (m.ri = 0))) 512) (decide (0 < m.dn)) 1024

set_option maxRecDepth 20000 in
set_option maxHeartbeats 1600000 in
theorem filled_any (m : Msgv) (B : Nat) (w : World) (hv : IsV w B m.v.A m.v.n m.v.D m.v.m m.v.cs m.v.ns) (hB : B ≤ w.heap.size) :
    Calls Tryd.prog 54 #[.agg #[.int .i64 m.kd, .int .i64 m.fr, .int .i64 m.tt, .int .i64 m.ep, .int .i64 m.br, .int .i64 m.bn, .int .i64 m.sl, .int .i64 m.lw, .int .i64 m.tm, .int .i64 m.v.k, .slice m.v.A m.v.n m.v.c, .slice m.v.D m.v.m m.v.d, .slice m.VA m.vn m.vc, .int .i64 m.cm.s, .int .i64 m.cm.q, .int .i64 m.cm.a, .int .i64 m.cm.k, .int .i64 m.cm.r, .int .i64 m.cm.t, .int .i64 m.cm.re, .int .i64 m.cm.im, .int .i64 m.rk, .int .i64 m.rr, .int .i64 m.ri, .slice m.DA m.dn m.dc]] w fun e w' => e = .returned (.int .i64 (filV m)) ∧ Below w.heap.size w w' := by
  have hmf : ∀ (fn : Fn) (first cap : Array Value) (w : World), (Instr.makeFunc fn first cap).run Tryd.prog w = .ok (.func fn first cap) w := fun _ _ _ _ => rfl
  have k1 := fun w => equal_bal 9998 m.br m.bn 0 0 w
  have k2 := fun w => equal_cmd 9997 m.cm zeroC w
  have k3 := fun w => equal_res 9998 m.rk m.rr m.ri 0 0 0 w
  have EZ : Hid (zeroC = ⟨0, 0, 0, 0, 0, 0, 0, 0⟩) := hide rfl
  simp only [zeroC] at k2
  go_enter Tryd.func54, Tryd.ntmps54
  go_upto_region 3 with fail
  have hp0 : ((w.alloc (.cells #[.int .i64 m.kd, .int .i64 m.fr, .int .i64 m.tt, .int .i64 m.ep, .int .i64 m.br, .int .i64 m.bn, .int .i64 m.sl, .int .i64 m.lw, .int .i64 m.tm, .int .i64 m.v.k, .slice m.v.A m.v.n m.v.c, .slice m.v.D m.v.m m.v.d, .slice m.VA m.vn m.vc, .int .i64 m.cm.s, .int .i64 m.cm.q, .int .i64 m.cm.a, .int .i64 m.cm.k, .int .i64 m.cm.r, .int .i64 m.cm.t, .int .i64 m.cm.re, .int .i64 m.cm.im, .int .i64 m.rk, .int .i64 m.rr, .int .i64 m.ri, .slice m.DA m.dn m.dc] 37)).alloc (.cells #[.int .i64 0] 3)).heap[w.heap.size]? = some (.cells #[.int .i64 m.kd, .int .i64 m.fr, .int .i64 m.tt, .int .i64 m.ep, .int .i64 m.br, .int .i64 m.bn, .int .i64 m.sl, .int .i64 m.lw, .int .i64 m.tm, .int .i64 m.v.k, .slice m.v.A m.v.n m.v.c, .slice m.v.D m.v.m m.v.d, .slice m.VA m.vn m.vc, .int .i64 m.cm.s, .int .i64 m.cm.q, .int .i64 m.cm.a, .int .i64 m.cm.k, .int .i64 m.cm.r, .int .i64 m.cm.t, .int .i64 m.cm.re, .int .i64 m.cm.im, .int .i64 m.rk, .int .i64 m.rr, .int .i64 m.ri, .slice m.DA m.dn m.dc] 37 (0, 0)) := (Below.heap_alloc _ _ _ (by simp)).trans (heap_alloc_new w _)
  have hg0 : ((w.alloc (.cells #[.int .i64 m.kd, .int .i64 m.fr, .int .i64 m.tt, .int .i64 m.ep, .int .i64 m.br, .int .i64 m.bn, .int .i64 m.sl, .int .i64 m.lw, .int .i64 m.tm, .int .i64 m.v.k, .slice m.v.A m.v.n m.v.c, .slice m.v.D m.v.m m.v.d, .slice m.VA m.vn m.vc, .int .i64 m.cm.s, .int .i64 m.cm.q, .int .i64 m.cm.a, .int .i64 m.cm.k, .int .i64 m.cm.r, .int .i64 m.cm.t, .int .i64 m.cm.re, .int .i64 m.cm.im, .int .i64 m.rk, .int .i64 m.rr, .int .i64 m.ri, .slice m.DA m.dn m.dc] 37)).alloc (.cells #[.int .i64 0] 3)).heap[w.heap.size + 1]? = some (.cells #[.int .i64 0] 3 (0, 0)) := by
    have := heap_alloc_new (w.alloc (.cells #[.int .i64 m.kd, .int .i64 m.fr, .int .i64 m.tt, .int .i64 m.ep, .int .i64 m.br, .int .i64 m.bn, .int .i64 m.sl, .int .i64 m.lw, .int .i64 m.tm, .int .i64 m.v.k, .slice m.v.A m.v.n m.v.c, .slice m.v.D m.v.m m.v.d, .slice m.VA m.vn m.vc, .int .i64 m.cm.s, .int .i64 m.cm.q, .int .i64 m.cm.a, .int .i64 m.cm.k, .int .i64 m.cm.r, .int .i64 m.cm.t, .int .i64 m.cm.re, .int .i64 m.cm.im, .int .i64 m.rk, .int .i64 m.rr, .int .i64 m.ri, .slice m.DA m.dn m.dc] 37)) (.cells #[.int .i64 0] 3)
    simpa using this
  have hb0 : Below w.heap.size w ((w.alloc (.cells #[.int .i64 m.kd, .int .i64 m.fr, .int .i64 m.tt, .int .i64 m.ep, .int .i64 m.br, .int .i64 m.bn, .int .i64 m.sl, .int .i64 m.lw, .int .i64 m.tm, .int .i64 m.v.k, .slice m.v.A m.v.n m.v.c, .slice m.v.D m.v.m m.v.d, .slice m.VA m.vn m.vc, .int .i64 m.cm.s, .int .i64 m.cm.q, .int .i64 m.cm.a, .int .i64 m.cm.k, .int .i64 m.cm.r, .int .i64 m.cm.t, .int .i64 m.cm.re, .int .i64 m.cm.im, .int .i64 m.rk, .int .i64 m.rr, .int .i64 m.ri, .slice m.DA m.dn m.dc] 37)).alloc (.cells #[.int .i64 0] 3)) := by go_grown
  generalize (w.alloc (.cells #[.int .i64 m.kd, .int .i64 m.fr, .int .i64 m.tt, .int .i64 m.ep, .int .i64 m.br, .int .i64 m.bn, .int .i64 m.sl, .int .i64 m.lw, .int .i64 m.tm, .int .i64 m.v.k, .slice m.v.A m.v.n m.v.c, .slice m.v.D m.v.m m.v.d, .slice m.VA m.vn m.vc, .int .i64 m.cm.s, .int .i64 m.cm.q, .int .i64 m.cm.a, .int .i64 m.cm.k, .int .i64 m.cm.r, .int .i64 m.cm.t, .int .i64 m.cm.re, .int .i64 m.cm.im, .int .i64 m.rk, .int .i64 m.rr, .int .i64 m.ri, .slice m.DA m.dn m.dc] 37)).alloc (.cells #[.int .i64 0] 3) = w0 at *
  have hz0 := lt_of_block hg0
  have HBX : Hid (∀ W, Kept (fun k => k = w.heap.size + 1) w0 W → W.heap[w.heap.size]? = some (.cells #[.int .i64 m.kd, .int .i64 m.fr, .int .i64 m.tt, .int .i64 m.ep, .int .i64 m.br, .int .i64 m.bn, .int .i64 m.sl, .int .i64 m.lw, .int .i64 m.tm, .int .i64 m.v.k, .slice m.v.A m.v.n m.v.c, .slice m.v.D m.v.m m.v.d, .slice m.VA m.vn m.vc, .int .i64 m.cm.s, .int .i64 m.cm.q, .int .i64 m.cm.a, .int .i64 m.cm.k, .int .i64 m.cm.r, .int .i64 m.cm.t, .int .i64 m.cm.re, .int .i64 m.cm.im, .int .i64 m.rk, .int .i64 m.rr, .int .i64 m.ri, .slice m.DA m.dn m.dc] 37 (0, 0)) ∧ IsV W B m.v.A m.v.n m.v.D m.v.m m.v.cs m.v.ns ∧ Below w.heap.size w W ∧ w0.heap.size ≤ W.heap.size) := hide (fun W h => by
    have hb := hb0.trans (h.below (by omega) (fun k hk => by omega))
    exact ⟨(h.block _ (by omega) (by omega)).trans hp0, hv.on hB hb, hb, h.size⟩)
  have HG0 := hide hg0
  have K0 : Kept (fun k => k = w.heap.size + 1) w0 w0 := Kept.refl _ _
  clear hp0 hg0 hb0 hv
  have hp0 := (HBX.out _ K0).1
  have c4 := (row_cells hp0 4).1
  have c5 := (row_cells hp0 5).1
  simp only [List.getElem?_toArray, List.getElem?_cons_succ, List.getElem?_cons_zero] at c4 c5
  clear hp0
  go_wp2_with fail
  refine (mark_any 2 _ (w.heap.size + 1) _ w0 HG0.out).mono ?_
  rintro e w1 ⟨rfl, HG1, k0x⟩
  have K1 := K0.step k0x (fun k hk => .inl hk)
  clear c4 c5 k0x
  have hp1 := (HBX.out _ K1).1
  have c6 := (row_cells hp1 6).1
  simp only [List.getElem?_toArray, List.getElem?_cons_succ, List.getElem?_cons_zero] at c6
  clear hp1
  go_wp2_with fail
  refine (mark_any 4 _ (w.heap.size + 1) _ w1 HG1.out).mono ?_
  rintro e w2 ⟨rfl, HG2, k1x⟩
  have K2 := K1.step k1x (fun k hk => .inl hk)
  clear c6 k1x
  have hp2 := (HBX.out _ K2).1
  have c7 := (row_cells hp2 7).1
  simp only [List.getElem?_toArray, List.getElem?_cons_succ, List.getElem?_cons_zero] at c7
  clear hp2
  go_wp2_with fail
  refine (mark_any 16 _ (w.heap.size + 1) _ w2 HG2.out).mono ?_
  rintro e w3 ⟨rfl, HG3, k2x⟩
  have K3 := K2.step k2x (fun k hk => .inl hk)
  clear c7 k2x
  have hp3 := (HBX.out _ K3).1
  have c8 := (row_cells hp3 8).1
  simp only [List.getElem?_toArray, List.getElem?_cons_succ, List.getElem?_cons_zero] at c8
  clear hp3
  go_wp2_with fail
  refine (mark_any 32 _ (w.heap.size + 1) _ w3 HG3.out).mono ?_
  rintro e w4 ⟨rfl, HG4, k3x⟩
  have K4 := K3.step k3x (fun k hk => .inl hk)
  clear c8 k3x
  have hp4 := (HBX.out _ K4).1
  have c9 := (row_cells hp4 9).1
  have c10 := (row_cells hp4 10).1
  have c11 := (row_cells hp4 11).1
  simp only [List.getElem?_toArray, List.getElem?_cons_succ, List.getElem?_cons_zero] at c9 c10 c11
  clear hp4
  go_wp2_with fail
  obtain ⟨_, hv4, _, hz4⟩ := HBX.out _ K4
  have hs4 := (hv4.more (show B ≤ w4.heap.size by omega)).same (n' := 0) (m' := 0) (A' := none) (D' := none) (cs' := []) (ns' := []) ⟨HasC.nil _ _ _, HasI.nil _ _ _, rfl, rfl, by omega, by omega, by simp⟩ (Nat.le_refl _) m.v.k m.v.c m.v.d 0 0 0
  refine hs4.mono ?_
  rintro e w4b ⟨rfl, b4b⟩
  have HG4b := hide ((b4b.block (w.heap.size + 1) (by omega)).trans HG4.out)
  have K4b := K4.step (Kept.of_below (F := fun k => k = w.heap.size + 1) b4b) (fun k hk => .inl hk)
  clear hs4 hv4 hz4 b4b
  go_wp2_with fail
  refine (mark_any 64 _ (w.heap.size + 1) _ w4b HG4b.out).mono ?_
  rintro e w5 ⟨rfl, HG5, k4x⟩
  have K5 := K4b.step k4x (fun k hk => .inl hk)
  clear c9 c10 c11 k4x
  have hp5 := (HBX.out _ K5).1
  have c12 := (row_cells hp5 12).1
  simp only [List.getElem?_toArray, List.getElem?_cons_succ, List.getElem?_cons_zero] at c12
  clear hp5
  go_wp2_with fail
  refine (mark_any 128 _ (w.heap.size + 1) _ w5 HG5.out).mono ?_
  rintro e w6 ⟨rfl, HG6, k5x⟩
  have K6 := K5.step k5x (fun k hk => .inl hk)
  clear c12 k5x
  have hp6 := (HBX.out _ K6).1
  have c13 := (row_cells hp6 13).1
  have c14 := (row_cells hp6 14).1
  have c15 := (row_cells hp6 15).1
  have c16 := (row_cells hp6 16).1
  have c17 := (row_cells hp6 17).1
  have c18 := (row_cells hp6 18).1
  have c19 := (row_cells hp6 19).1
  have c20 := (row_cells hp6 20).1
  simp only [List.getElem?_toArray, List.getElem?_cons_succ, List.getElem?_cons_zero] at c13 c14 c15 c16 c17 c18 c19 c20
  clear hp6
  go_wp2_with fail
  refine (mark_any 256 _ (w.heap.size + 1) _ w6 HG6.out).mono ?_
  rintro e w7 ⟨rfl, HG7, k6x⟩
  have K7 := K6.step k6x (fun k hk => .inl hk)
  clear c13 c14 c15 c16 c17 c18 c19 c20 k6x
  have hp7 := (HBX.out _ K7).1
  have c21 := (row_cells hp7 21).1
  have c22 := (row_cells hp7 22).1
  have c23 := (row_cells hp7 23).1
  simp only [List.getElem?_toArray, List.getElem?_cons_succ, List.getElem?_cons_zero] at c21 c22 c23
  clear hp7
  go_wp2_with fail
  refine (mark_any 512 _ (w.heap.size + 1) _ w7 HG7.out).mono ?_
  rintro e w8 ⟨rfl, HG8, k7x⟩
  have K8 := K7.step k7x (fun k hk => .inl hk)
  clear c21 c22 c23 k7x
  have hp8 := (HBX.out _ K8).1
  have c24 := (row_cells hp8 24).1
  simp only [List.getElem?_toArray, List.getElem?_cons_succ, List.getElem?_cons_zero] at c24
  clear hp8
  go_wp2_with fail
  refine (mark_any 1024 _ (w.heap.size + 1) _ w8 HG8.out).mono ?_
  rintro e w9 ⟨rfl, HG9, k8x⟩
  have K9 := K8.step k8x (fun k hk => .inl hk)
  clear c24 k8x
  have d0 := (row_cells HG9.out 0).1
  simp only [List.getElem?_toArray, List.getElem?_cons_zero] at d0
  go_wp2_with fail
  go_ret
  exact ⟨rfl, (HBX.out _ K9).2.2.1⟩
end Go.Proofs.YtapbcpilklhoiabDoor
