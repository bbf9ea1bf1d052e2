/-
  Encode of package msg. Conditions: what is read is in reach; the package's table is as its text lays it.
  What Decode of package msg answers, and how; Encode in general. Conditions: what is read is in reach.
  Decode of package msg, whatever the bytes. Conditions: what is read is in reach; the package's table is as its text lays it.
-/
import Derived.Test.YtapbcpilklhoiabDoorMY14
import Derived.Deep.DeepCutAuto
import Derived.Deep.RegionHeld3
import Derived.Deep.Cut
set_option linter.unusedSimpArgs false
set_option linter.unusedVariables false

namespace Go.Proofs.YtapbcpilklhoiabDoor
open Go.RowKit

theorem EW.put {w W : World} {m : Msgv} {u : Int} {base g5 g6 g : Nat} {b : Option Nat} {zs : List UInt8} (h : EW w m u base g5 g6 g b zs W) (f : Int) (xs : List Int) (n : Nat) (hn : xs.length = n) (hl : zs.length + 9 * n ≤ 140737488355328) :
    Calls Tryd.prog 32 #[.int .i64 f, .slice (some ⟨W.heap.size, 0, none⟩) n n, .pointer (some ⟨g5, 0, none⟩), .pointer (some ⟨g6, 0, none⟩)] (W.alloc (.cells (icells xs) 3)) fun e w' => e = .returned (.tuple #[]) ∧ ∃ b', EW w m u base g5 g6 g b' (zs ++ putL u f xs) w' ∧ Kept (Foot g b) W w' := by
  have h1 := h.below ((Below.refl _ W).alloc (Nat.le_refl _) (.cells (icells xs) 3))
  have hx := HasI.new W 3 xs (0, 0) W.heap.size rfl
  refine (mput_any u f (some ⟨W.heap.size, 0, none⟩) n n (W.heap.size + 1) g5 g6 g base b xs zs _ h1.wr hx (by simp) (fun k o e hf => ?_) hn h1.h5 h1.h6 h1.n5 h1.n6 hl).mono ?_
  · have e1 : W.heap.size = k := by injection (Option.some.inj e)
    have := (h.wr.foot k hf).2
    omega
  · rintro e w' ⟨rfl, b', hw, hl', hk⟩
    exact ⟨rfl, b', h1.write hw hl' hk, (Kept.of_below ((Below.refl _ W).alloc (Nat.le_refl _) (.cells (icells xs) 3))).step hk (fun _ h => .inl h)⟩

theorem EW.puts {w W : World} {m : Msgv} {u : Int} {base g5 g6 g : Nat} {b : Option Nat} {zs : List UInt8} (h : EW w m u base g5 g6 g b zs W) (f : Int) (xs : List Int) (cells : Array Value) (hc : icells xs = cells) (n : Nat) (hn : xs.length = n) (hl : zs.length + 9 * n ≤ 140737488355328) :
    Calls Tryd.prog 32 #[.int .i64 f, .slice (some ⟨W.heap.size, 0, none⟩) n n, .pointer (some ⟨g5, 0, none⟩), .pointer (some ⟨g6, 0, none⟩)] (W.alloc (.cells cells 3)) fun e w' => e = .returned (.tuple #[]) ∧ ∃ b', EW w m u base g5 g6 g b' (zs ++ putL u f xs) w' ∧ Kept (Foot g b) W w' := by
  subst hc
  exact h.put f xs n hn hl

theorem EW.drew {w W : World} {m : Msgv} {u : Int} {base g5 g6 g : Nat} {b : Option Nat} {zs : List UInt8} (h : EW w m u base g5 g6 g b zs W) : EW w m u base g5 g6 g b zs W.drew :=
  ⟨h.wr, h.box, h.h5, h.h6, h.n0, h.n5, h.n6, below_drewN h.bl 1, h.lo⟩
theorem EW.int {w W : World} {m : Msgv} {u : Int} {base g5 g6 g : Nat} {b : Option Nat} {zs : List UInt8} (h : EW w m u base g5 g6 g b zs W) (i : Int) (hi : IsInt i) (hl : zs.length + 9 ≤ 140737488355328) :
    Calls Tryd.prog 36 #[.pointer (some ⟨g, 0, none⟩), .int .i64 i] W fun e w' => e = .returned (.pointer (some ⟨g, 0, none⟩)) ∧ ∃ b', EW w m u base g5 g6 g b' (zs ++ enc (zig i)) w' :=
  (wint_any g base b zs i W h.wr hi hl).mono fun e w' => by
    rintro ⟨rfl, b', hw, hl', hk⟩
    exact ⟨rfl, b', h.write hw hl' hk⟩

set_option maxRecDepth 20000 in
set_option maxHeartbeats 1600000 in
theorem mencode_ok (m : Msgv) (B : Nat) (w : World) (ht : TabM w) (hm : IsM w B m) (hB : B ≤ w.heap.size) (h0 : 0 < B) (hsl : -9223372036854775808 ≤ m.sl) (hc : chkM m = 0) (u : Int) (hu : usedT m.kd = u) :
    Calls Tryd.prog 11 #[.agg #[.int .i64 m.kd, .int .i64 m.fr, .int .i64 m.tt, .int .i64 m.ep, .int .i64 m.br, .int .i64 m.bn, .int .i64 m.sl, .int .i64 m.lw, .int .i64 m.tm, .int .i64 m.v.k, .slice m.v.A m.v.n m.v.c, .slice m.v.D m.v.m m.v.d, .slice m.VA m.vn m.vc, .int .i64 m.cm.s, .int .i64 m.cm.q, .int .i64 m.cm.a, .int .i64 m.cm.k, .int .i64 m.cm.r, .int .i64 m.cm.t, .int .i64 m.cm.re, .int .i64 m.cm.im, .int .i64 m.rk, .int .i64 m.rr, .int .i64 m.ri, .slice m.DA m.dn m.dc]] w fun e w' => ∃ v, e = .returned (.tuple #[v, .int .i64 0]) ∧ Own w' w.heap.size v (encM m.lg u) ∧ Below w.heap.size w w' := by
  have hmf : ∀ (fn : Fn) (first cap : Array Value) (w : World), (Instr.makeFunc fn first cap).run Tryd.prog w = .ok (.func fn first cap) w := fun _ _ _ _ => rfl
  have hF := chkM_fine hm hc
  rw [hu] at hF
  have hv8 : m.v.n ≤ 8 := by rw [← hm.v.en]; exact hF.v.cl
  have hv7 : m.v.m ≤ 7 := by rw [← hm.v.em]; exact hF.v.nl
  have hvn : m.vn ≤ 64 := by have h1 : (m.vs.map Votev.lg).length ≤ 64 := hF.vl; rw [List.length_map, hm.en] at h1; exact h1
  have hdn : m.dn ≤ 1024 := by have h1 : m.ds.length ≤ 1024 := hF.dl; rw [hm.ed] at h1; exact h1
  have HFV : Hid (∀ j (h : j < m.vs.length), FineVt m.vs[j].lg) := hide (fun j h => hF.vt _ (List.mem_map.2 ⟨_, List.getElem_mem h, rfl⟩))
  have HLV : Hid (∀ j, (encVts u ((m.vs.map Votev.lg).take j)).length ≤ 44352) := hide (fun j => by
    have h1 := encVts_len u ((m.vs.map Votev.lg).take j) (fun v hv => hF.vt v (List.mem_of_mem_take hv))
    have h2 : (m.vs.map Votev.lg).length ≤ 64 := hF.vl
    rw [List.length_take] at h1
    omega)
  have HEN := hide hm.en
  have hed := hm.ed
  clear hF
  have HC := hide hc
  have HU := hide hu
  clear hc hu
  go_enter Tryd.func11, Tryd.ntmps11
  go_upto_region 1 with fail
  have hp0 := heap_alloc_new w (.cells #[.int .i64 m.kd, .int .i64 m.fr, .int .i64 m.tt, .int .i64 m.ep, .int .i64 m.br, .int .i64 m.bn, .int .i64 m.sl, .int .i64 m.lw, .int .i64 m.tm, .int .i64 m.v.k, .slice m.v.A m.v.n m.v.c, .slice m.v.D m.v.m m.v.d, .slice m.VA m.vn m.vc, .int .i64 m.cm.s, .int .i64 m.cm.q, .int .i64 m.cm.a, .int .i64 m.cm.k, .int .i64 m.cm.r, .int .i64 m.cm.t, .int .i64 m.cm.re, .int .i64 m.cm.im, .int .i64 m.rk, .int .i64 m.rr, .int .i64 m.ri, .slice m.DA m.dn m.dc] 37)
  have b0 : Below w.heap.size w (w.alloc (.cells #[.int .i64 m.kd, .int .i64 m.fr, .int .i64 m.tt, .int .i64 m.ep, .int .i64 m.br, .int .i64 m.bn, .int .i64 m.sl, .int .i64 m.lw, .int .i64 m.tm, .int .i64 m.v.k, .slice m.v.A m.v.n m.v.c, .slice m.v.D m.v.m m.v.d, .slice m.VA m.vn m.vc, .int .i64 m.cm.s, .int .i64 m.cm.q, .int .i64 m.cm.a, .int .i64 m.cm.k, .int .i64 m.cm.r, .int .i64 m.cm.t, .int .i64 m.cm.re, .int .i64 m.cm.im, .int .i64 m.rk, .int .i64 m.rr, .int .i64 m.ri, .slice m.DA m.dn m.dc] 37)) := by go_grown
  generalize w.alloc (.cells #[.int .i64 m.kd, .int .i64 m.fr, .int .i64 m.tt, .int .i64 m.ep, .int .i64 m.br, .int .i64 m.bn, .int .i64 m.sl, .int .i64 m.lw, .int .i64 m.tm, .int .i64 m.v.k, .slice m.v.A m.v.n m.v.c, .slice m.v.D m.v.m m.v.d, .slice m.VA m.vn m.vc, .int .i64 m.cm.s, .int .i64 m.cm.q, .int .i64 m.cm.a, .int .i64 m.cm.k, .int .i64 m.cm.r, .int .i64 m.cm.t, .int .i64 m.cm.re, .int .i64 m.cm.im, .int .i64 m.rk, .int .i64 m.rr, .int .i64 m.ri, .slice m.DA m.dn m.dc] 37) = w0 at *
  have HP0 := hide hp0
  have hz0 := lt_of_block hp0
  clear hp0
  go_wp2_with (refine wpList_load_row rfl 37 _ rfl w.heap.size rfl _ _ _ _ HP0.out Tryd.underlying37 rfl (by kernel_rfl) ?_)
  refine (mcheck_any m B w0 (ht.below b0 (by omega)) (hm.below (b0.mono hB)) (by have := b0.size; omega) h0 hsl).mono ?_
  rintro e w1 ⟨rfl, b1'⟩
  rw [HC.out]
  have b1 := b0.trans (b1'.mono b0.size)
  have HP1 := hide ((b1'.block w.heap.size hz0).trans HP0.out)
  have hz1 := lt_of_block HP1.out
  clear b0 b1' HP0 hz0
  have c0 := (row_cells HP1.out 0).1
  simp only [List.getElem?_toArray, List.getElem?_cons_zero] at c0
  go_wp2_with fail
  refine (muses_any m.kd w1 (ht.below b1 (by omega))).mono ?_
  rintro e w' ⟨rfl, rfl⟩
  rw [HU.out]
  clear c0
  go_upto_region 5 with fail
  have h5 := heap_alloc_new w1 (.cells #[.int .i64 u] 3)
  have b2' := (Below.refl _ w1).alloc (Nat.le_refl _) (.cells #[.int .i64 u] 3)
  generalize w1.alloc (.cells #[.int .i64 u] 3) = w2 at *
  have hz2 := lt_of_block h5
  have b2 := b1.trans (b2'.mono b1.size)
  have HP2 := hide ((b2'.block w.heap.size hz1).trans HP1.out)
  clear b1 b2' HP1
  go_wp2_with fail
  refine (newwriter_any w2).mono ?_
  rintro e w3 ⟨rfl, hw3⟩
  have hwr := wr_new w2 w2.heap.size (Nat.le_refl _)
  have b3' : Below w2.heap.size w2 (w2.alloc (.cells #[.slice none 0 0] 111)) := (Below.refl _ _).alloc (Nat.le_refl _) _
  have hs3 : (w2.alloc (.cells #[.slice none 0 0] 111)).heap.size = w2.heap.size + 1 := by simp
  rw [hw3] at hwr b3' hs3
  clear hw3
  go_upto_region 7 with fail
  have h6 := heap_alloc_new w3 (.cells #[.pointer (some ⟨w2.heap.size, 0, none⟩)] 72)
  have b4' := (Below.refl _ w3).alloc (Nat.le_refl _) (.cells #[.pointer (some ⟨w2.heap.size, 0, none⟩)] 72)
  generalize w3.alloc (.cells #[.pointer (some ⟨w2.heap.size, 0, none⟩)] 72) = w4 at *
  have E0 : EW w m u w2.heap.size w1.heap.size w3.heap.size w2.heap.size none [] w4 := by
    have b24 := b3'.trans (b4'.mono b3'.size)
    refine ⟨hwr.below b4', (b24.block _ (by omega)).trans HP2.out, (b24.block _ hz2).trans h5, h6, ?_, ?_, ?_, b2.trans (b24.mono b2.size), by omega⟩
    · rintro (e | e)
      · omega
      · cases e
    · rintro (e | e)
      · omega
      · cases e
    · rintro (e | e)
      · omega
      · cases e
  rw [hs3] at E0
  clear hs3
  generalize w2.heap.size = g at *
  generalize w1.heap.size = g5 at *
  clear h5 h6 hwr b3' b4' HP2 b2 hz2
  have c0 := (row_cells E0.box 0).1
  have c1 := (row_cells E0.box 1).1
  have c2 := (row_cells E0.box 2).1
  have c3 := (row_cells E0.box 3).1
  simp only [List.getElem?_toArray, List.getElem?_cons_succ, List.getElem?_cons_zero] at c0 c1 c2 c3
  go_wp2_with fail
  have hl0 : Hid (([] : List UInt8).length ≤ 0) := hide (by simp)
  have hput := E0.puts 1 [m.kd, m.fr, m.tt, m.ep] #[.int .i64 m.kd, .int .i64 m.fr, .int .i64 m.tt, .int .i64 m.ep] rfl 4 rfl (by have := hl0.out; omega)
  with_reducible refine hput.mono ?_
  rintro e x0 ⟨rfl, b0e, E1, _⟩
  clear hput c0 c1 c2 c3 E0
  have c4 := (row_cells E1.box 4).1
  have c5 := (row_cells E1.box 5).1
  simp only [List.getElem?_toArray, List.getElem?_cons_succ, List.getElem?_cons_zero] at c4 c5
  go_wp2_with fail
  have hl1 : Hid ((([] ++ putL u 1 [m.kd, m.fr, m.tt, m.ep]) : List UInt8).length ≤ 36) := hide (by have h1 := hl0.out; have h2 := putL_len u 1 [m.kd, m.fr, m.tt, m.ep]; simp only [List.length_cons, List.length_nil] at h2; rw [List.length_append]; omega)
  have hput := E1.puts 2 [m.br, m.bn] #[.int .i64 m.br, .int .i64 m.bn] rfl 2 rfl (by have := hl1.out; omega)
  with_reducible refine hput.mono ?_
  rintro e x1 ⟨rfl, b1e, E2, _⟩
  clear hput c4 c5 E1
  have c6 := (row_cells E2.box 6).1
  simp only [List.getElem?_toArray, List.getElem?_cons_succ, List.getElem?_cons_zero] at c6
  go_wp2_with fail
  have hl2 : Hid (((([] ++ putL u 1 [m.kd, m.fr, m.tt, m.ep]) ++ putL u 2 [m.br, m.bn]) : List UInt8).length ≤ 54) := hide (by have h1 := hl1.out; have h2 := putL_len u 2 [m.br, m.bn]; simp only [List.length_cons, List.length_nil] at h2; rw [List.length_append]; omega)
  have hput := E2.puts 4 [m.sl] #[.int .i64 m.sl] rfl 1 rfl (by have := hl2.out; omega)
  with_reducible refine hput.mono ?_
  rintro e x2 ⟨rfl, b2e, E3, _⟩
  clear hput c6 E2
  have c7 := (row_cells E3.box 7).1
  simp only [List.getElem?_toArray, List.getElem?_cons_succ, List.getElem?_cons_zero] at c7
  go_wp2_with fail
  have hl3 : Hid ((((([] ++ putL u 1 [m.kd, m.fr, m.tt, m.ep]) ++ putL u 2 [m.br, m.bn]) ++ putL u 4 [m.sl]) : List UInt8).length ≤ 63) := hide (by have h1 := hl2.out; have h2 := putL_len u 4 [m.sl]; simp only [List.length_cons, List.length_nil] at h2; rw [List.length_append]; omega)
  have hput := E3.puts 16 [m.lw] #[.int .i64 m.lw] rfl 1 rfl (by have := hl3.out; omega)
  with_reducible refine hput.mono ?_
  rintro e x3 ⟨rfl, b3e, E4, _⟩
  clear hput c7 E3
  have c8 := (row_cells E4.box 8).1
  simp only [List.getElem?_toArray, List.getElem?_cons_succ, List.getElem?_cons_zero] at c8
  go_wp2_with fail
  have hl4 : Hid (((((([] ++ putL u 1 [m.kd, m.fr, m.tt, m.ep]) ++ putL u 2 [m.br, m.bn]) ++ putL u 4 [m.sl]) ++ putL u 16 [m.lw]) : List UInt8).length ≤ 72) := hide (by have h1 := hl3.out; have h2 := putL_len u 16 [m.lw]; simp only [List.length_cons, List.length_nil] at h2; rw [List.length_append]; omega)
  have hput := E4.puts 32 [m.tm] #[.int .i64 m.tm] rfl 1 rfl (by have := hl4.out; omega)
  with_reducible refine hput.mono ?_
  rintro e x4 ⟨rfl, b4e, E5, _⟩
  clear hput c8 E4
  generalize hZ5 : ((((([] ++ putL u 1 [m.kd, m.fr, m.tt, m.ep]) ++ putL u 2 [m.br, m.bn]) ++ putL u 4 [m.sl]) ++ putL u 16 [m.lw]) ++ putL u 32 [m.tm]) = z5 at *
  have HZ5 := hide hZ5
  have HLZ : Hid (z5.length ≤ 90) := hide (by rw [← HZ5.out]; have h1 := hl4.out; have h2 := putL_len u 32 [m.tm]; simp only [List.length_cons, List.length_nil] at h2; rw [List.length_append]; omega)
  clear hZ5 hl0 hl1 hl2 hl3 hl4
  have c5 := (row_cells E5.h5 0).1
  simp only [List.getElem?_toArray, List.getElem?_cons_zero] at c5
  have HM : Hid (∀ W, Below w.heap.size w W → IsM W B m) := hide (fun W h => hm.below (h.mono hB))
  go_upto_if 57 with fail
  go_cut [] (fun wx => ∃ b', EW w m u g g5 (g + 1) g b' (z5 ++ optB (ut u 64) (encV m.v.k m.v.cs m.v.ns)) wx)
  case first =>
    by_cases t64 : (bits .and .i64 u 64 != 0) = true
    · have e6 := (row_cells E5.h6 0).1
      have c9 := (row_cells E5.box 9).1
      have c10 := (row_cells E5.box 10).1
      have c11 := (row_cells E5.box 11).1
      simp only [List.getElem?_toArray, List.getElem?_cons_succ, List.getElem?_cons_zero] at e6 c9 c10 c11
      have hm5 := HM.out _ E5.bl
      have hlz := HLZ.out
      clear c5
      go_wp2_with fail
      refine (vwrite_any g g b4e z5 m.v.k m.v.A m.v.D m.v.n m.v.c m.v.m m.v.d B m.v.cs m.v.ns _ E5.wr hm5.v.c hm5.v.i (by have := E5.lo; omega) hm5.v.en hm5.v.em hm5.v.cc (by omega)).mono ?_
      rintro e y0 ⟨rfl, bb, hw0, hl0x, hk0x⟩
      go_wp2_with fail
      go_meet
      exact ⟨_, by rw [show ut u 64 = true from t64]; exact E5.write hw0 hl0x hk0x⟩
    · have t64' : (bits .and .i64 u 64 != 0) = false := Bool.eq_false_iff.2 t64
      go_wp2_with fail
      go_meet
      exact ⟨_, by rw [show ut u 64 = false from t64']; show EW _ _ _ _ _ _ _ _ (z5 ++ []) _; rw [List.append_nil]; exact E5⟩
  case rest =>
    obtain ⟨b6, E6⟩ := hcut
    clear E5 c5
    have c12 := (row_cells E6.box 12).1
    simp only [List.getElem?_toArray, List.getElem?_cons_succ, List.getElem?_cons_zero] at c12
    generalize hZ6 : z5 ++ optB (ut u 64) (encV m.v.k m.v.cs m.v.ns) = z6 at *
    have HZ6 := hide hZ6
    have HL6 : Hid (z6.length ≤ 90 + 27 + 72 * m.v.n + 9 * m.v.m + 100) := hide (by
      have h1 := HLZ.out
      have h0 := optB_len (ut u 64) (encV m.v.k m.v.cs m.v.ns)
      have h2 := encCs_length m.v.cs
      have h3 := encNs_length m.v.ns
      have h4 := bw_le (unb m.v.k)
      have h5 := bw_le m.v.cs.length
      have h6 := bw_le m.v.ns.length
      rw [hm.v.en] at h2
      rw [hm.v.em] at h3
      rw [← hZ6, List.length_append]
      unfold encV at h0
      simp only [List.length_append, enc_length] at h0
      unfold encV
      omega)
    clear hZ6
    go_wp2_with fail
    have hput := E6.puts 128 [(m.vn : Int)] #[.int .i64 (m.vn : Int)] rfl 1 rfl (by have h1 := HL6.out; omega)
    with_reducible refine hput.mono ?_
    rintro e x6 ⟨rfl, b7, E7, _⟩
    clear hput c12 E6
    generalize hZ7 : z6 ++ putL u 128 [(m.vn : Int)] = z7 at *
    have HZ7 := hide hZ7
    have HL7 : Hid (z7.length ≤ 1000) := hide (by
      have h1 := HL6.out
      have h2 := putL_len u 128 [(m.vn : Int)]
      simp only [List.length_cons, List.length_nil] at h2
      rw [← hZ7, List.length_append]
      omega)
    clear hZ7 HL6
    have c12 := (row_cells E7.box 12).1
    simp only [List.getElem?_toArray, List.getElem?_cons_succ, List.getElem?_cons_zero] at c12
    generalize hVA : m.VA = VA at c12
    go_wp2_with fail
    clear c12
    go_loopw [71] (fun i wr => ∃ (j : Nat) (b' : Option Nat), j ≤ m.vn ∧ i = .int .i64 j ∧ EW w m u g g5 (g + 1) g b' (z7 ++ encVts u ((m.vs.map Votev.lg).take j)) wr) (fun i _ => m.vn - (intOf i).toNat)
    case atStart => exact ⟨0, b7, Nat.zero_le _, rfl, by simpa [encVts] using E7⟩
    case round =>
      clear E7
      obtain ⟨j, b8, hj, rfl, E8⟩ := hrel
      by_cases hlt : j < m.vn
      · have hlt' : j < m.vs.length := by rw [HEN.out]; exact hlt
        have hcl := (HM.out _ E8.bl).vt j hlt'
        have HHV : Hid (∀ W, Below w.heap.size w W → IsV W B m.vs[j].v.A m.vs[j].v.n m.vs[j].v.D m.vs[j].v.m m.vs[j].v.cs m.vs[j].v.ns) := hide (fun W h => ((HM.out W h).vt j hlt').2)
        have hfv := HFV.out j hlt'
        have htk := encVts_take u (m.vs.map Votev.lg) j (by rw [List.length_map]; exact hlt')
        rw [List.getElem_map] at htk
        have hle : (z7 ++ encVts u ((m.vs.map Votev.lg).take j)).length ≤ 50000 := by
          have h1 := HLV.out j
          have h2 := HL7.out
          rw [List.length_append]
          omega
        generalize m.vs[j] = v at *
        have HZ : Hid (z7 ++ encVts u ((m.vs.map Votev.lg).take (j + 1)) = ((z7 ++ encVts u ((m.vs.map Votev.lg).take j)) ++ putL u 128 [v.sl, v.br, v.bn]) ++ encV v.v.k v.v.cs v.v.ns) := hide (by rw [htk]; simp [encVt, Votev.lg])
        generalize z7 ++ encVts u ((m.vs.map Votev.lg).take j) = ys at *
        have HLE := hide hle
        obtain ⟨⟨ab, ao, hA, hab, e0, e1, e2, e3, e4, e5⟩, _⟩ := hcl
        have hA' := hVA.symm.trans hA
        clear hVA hA
        subst hA'
        have hn8 : v.v.n ≤ 8 := by rw [← (HHV.out _ E8.bl).en]; exact hfv.v.cl
        have hm7 : v.v.m ≤ 7 := by rw [← (HHV.out _ E8.bl).em]; exact hfv.v.nl
        clear hfv htk hle
        go_upto_region 18 with fail
        have hp0 := heap_alloc_new wr (.cells #[.int .i64 v.sl, .int .i64 v.br, .int .i64 v.bn, .int .i64 v.v.k, .slice v.v.A v.v.n v.v.c, .slice v.v.D v.v.m v.v.d] 54)
        have ba := (Below.refl _ wr).alloc (Nat.le_refl _) (.cells #[.int .i64 v.sl, .int .i64 v.br, .int .i64 v.bn, .int .i64 v.v.k, .slice v.v.A v.v.n v.v.c, .slice v.v.D v.v.m v.v.d] 54)
        generalize wr.alloc (.cells #[.int .i64 v.sl, .int .i64 v.br, .int .i64 v.bn, .int .i64 v.v.k, .slice v.v.A v.v.n v.v.c, .slice v.v.D v.v.m v.v.d] 54) = w0 at *
        have E9 := E8.below ba
        have hz0 := lt_of_block hp0
        have hnf : ¬ Foot g b8 wr.heap.size := fun hf => by have := (E8.wr.foot _ hf).2; omega
        have c0 := (row_cells hp0 0).1
        have c1 := (row_cells hp0 1).1
        have c2 := (row_cells hp0 2).1
        simp only [List.getElem?_toArray, List.getElem?_cons_succ, List.getElem?_cons_zero] at c0 c1 c2
        clear e0 e1 e2 e3 e4 e5 ba E8
        generalize wr.heap.size = gv at *
        go_wp2_with fail
        have hput := E9.puts 128 [v.sl, v.br, v.bn] #[.int .i64 v.sl, .int .i64 v.br, .int .i64 v.bn] rfl 3 rfl (by have h1 := HLE.out; omega)
        with_reducible refine hput.mono ?_
        rintro e y1 ⟨rfl, b9, F1, k1⟩
        have hp1 := (k1.block gv hz0 hnf).trans hp0
        have hl1 := putL_len u 128 [v.sl, v.br, v.bn]
        have hl2 : (ys ++ putL u 128 [v.sl, v.br, v.bn]).length ≤ 50027 := by
          have h1 := HLE.out
          simp only [List.length_cons, List.length_nil] at hl1
          rw [List.length_append]
          omega
        have HL2 := hide hl2
        generalize ys ++ putL u 128 [v.sl, v.br, v.bn] = zs at *
        clear hput c0 c1 c2 E9 k1 hp0 hnf hz0 hl1 hl2 HLE
        have e6 := (row_cells F1.h6 0).1
        have c3 := (row_cells hp1 3).1
        have c4 := (row_cells hp1 4).1
        have c5 := (row_cells hp1 5).1
        simp only [List.getElem?_toArray, List.getElem?_cons_succ, List.getElem?_cons_zero] at e6 c3 c4 c5
        have hv2 := HHV.out _ F1.bl
        go_wp2_with fail
        refine (vwrite_any g g b9 zs v.v.k v.v.A v.v.D v.v.n v.v.c v.v.m v.v.d B v.v.cs v.v.ns _ F1.wr hv2.c hv2.i (by have := F1.lo; omega) hv2.en hv2.em hv2.cc (by have := HL2.out; omega)).mono ?_
        rintro e y2 ⟨rfl, bb, hw0, hl0x, hk0x⟩
        have F2 := F1.write hw0 hl0x hk0x
        clear F1 hw0 hl0x hk0x e6 c3 c4 c5 hp1
        go_wp2_with fail
        go_roundw
        case rel => exact ⟨j + 1, bb, by omega, by go_num, by rw [HZ.out]; exact F2⟩
        case measure => simp [intOf]; omega
      · obtain rfl : j = m.vn := by omega
        have HZ8 : Hid ((m.vs.map Votev.lg).take m.vn = m.vs.map Votev.lg) := hide (List.take_of_length_le (by rw [List.length_map, HEN.out]; exact Nat.le_refl _))
        have HL8 : Hid ((z7 ++ encVts u ((m.vs.map Votev.lg).take m.vn)).length ≤ 50000) := hide (by
          have h1 := HLV.out m.vn
          have h2 := HL7.out
          rw [List.length_append]
          omega)
        generalize hz8 : z7 ++ encVts u ((m.vs.map Votev.lg).take m.vn) = z8 at *
        have HY8 := hide hz8
        clear hz8 hVA
        have c5 := (row_cells E8.h5 0).1
        simp only [List.getElem?_toArray, List.getElem?_cons_zero] at c5
        go_upto_if 93 with fail
        go_cut [] (fun wx => ∃ b', EW w m u g g5 (g + 1) g b' (z8 ++ optB (ut u 256) (encL m.cm.ints)) wx)
        case first =>
          by_cases t : (bits .and .i64 u 256 != 0) = true
          · have e6 := (row_cells E8.h6 0).1
            have c13 := (row_cells E8.box 13).1
            have c14 := (row_cells E8.box 14).1
            have c15 := (row_cells E8.box 15).1
            have c16 := (row_cells E8.box 16).1
            have c17 := (row_cells E8.box 17).1
            have c18 := (row_cells E8.box 18).1
            have c19 := (row_cells E8.box 19).1
            have c20 := (row_cells E8.box 20).1
            simp only [List.getElem?_toArray, List.getElem?_cons_succ, List.getElem?_cons_zero] at e6 c13 c14 c15 c16 c17 c18 c19 c20
            have hm5 := HM.out _ E8.bl
            clear c5
            go_wp2_with fail
            refine (putcmd_any g g b8 z8 m.cm _ E8.wr hm5.cm (by have := HL8.out; omega)).mono ?_
            rintro e y0 ⟨rfl, bb, hw0, hl0x, hk0x⟩
            go_wp2_with fail
            go_meet
            exact ⟨_, by rw [show ut u 256 = true from t, optB_t]; exact E8.write hw0 hl0x hk0x⟩
          · have t' : (bits .and .i64 u 256 != 0) = false := Bool.eq_false_iff.2 t
            go_wp2_with fail
            go_meet
            exact ⟨_, by rw [show ut u 256 = false from t', optB_f, List.append_nil]; exact E8⟩
        clear E8 c5
        obtain ⟨b9, E9⟩ := hcut
        have HL9 : Hid ((z8 ++ optB (ut u 256) (encL m.cm.ints)).length ≤ 50100) := hide (by
          have h1 := HL8.out
          have h2 := optB_len (ut u 256) (encL m.cm.ints)
          have h3 := encL_length m.cm.ints
          have h4 : m.cm.ints.length = 8 := rfl
          rw [List.length_append]
          omega)
        generalize hz9 : z8 ++ optB (ut u 256) (encL m.cm.ints) = z9 at *
        have HY9 := hide hz9
        clear hz9 HL8
        have c5 := (row_cells E9.h5 0).1
        simp only [List.getElem?_toArray, List.getElem?_cons_zero] at c5
        go_upto_if 100 with fail
        go_cut [] (fun wx => ∃ b', EW w m u g g5 (g + 1) g b' (z9 ++ optB (ut u 512) (encL [m.rk, m.rr, m.ri])) wx)
        case first =>
          by_cases t : (bits .and .i64 u 512 != 0) = true
          · have HS : Hid (∀ ys b' W, EW w m u g g5 (g + 1) g b' ys W → W.cell? ⟨g + 1, 0, none⟩ = some (.pointer (some ⟨g, 0, none⟩)) ∧ W.cell? ⟨w.heap.size, 21, none⟩ = some (.int .i64 m.rk) ∧ W.cell? ⟨w.heap.size, 22, none⟩ = some (.int .i64 m.rr) ∧ W.cell? ⟨w.heap.size, 23, none⟩ = some (.int .i64 m.ri)) := hide (fun ys b' W h => ⟨(row_cells h.h6 0).1, (row_cells h.box 21).1, (row_cells h.box 22).1, (row_cells h.box 23).1⟩)
            have hm5 := HM.out _ E9.bl
            have j1 := hm5.i1
            have j2 := hm5.i2
            have j3 := hm5.i3
            have k1 : z9.length + 9 ≤ 140737488355328 := by have := HL9.out; omega
            have k2 : (z9 ++ enc (zig m.rk)).length + 9 ≤ 140737488355328 := by have := HL9.out; have := bw_le (zig m.rk); rw [List.length_append, enc_length]; omega
            have k3 : (z9 ++ enc (zig m.rk) ++ enc (zig m.rr)).length + 9 ≤ 140737488355328 := by have := HL9.out; have := bw_le (zig m.rk); have := bw_le (zig m.rr); rw [List.length_append, List.length_append, enc_length, enc_length]; omega
            have K1 := hide (And.intro j1 k1)
            have K2 := hide (And.intro j2 k2)
            have K3 := hide (And.intro j3 k3)
            have HX : Hid (z9 ++ optB (ut u 512) (encL [m.rk, m.rr, m.ri]) = z9 ++ enc (zig m.rk) ++ enc (zig m.rr) ++ enc (zig m.ri)) := hide (by rw [show ut u 512 = true from t, optB_t]; simp [encL])
            clear c5 j1 j2 j3 k1 k2 k3 hm5
            go_wp2_with fail
            go_region_held3 (fun w' => w'.cell? ⟨g + 1, 0, none⟩ = some (.pointer (some ⟨g, 0, none⟩)) ∧ w'.cell? ⟨w.heap.size, 21, none⟩ = some (.int .i64 m.rk) ∧ w'.cell? ⟨w.heap.size, 22, none⟩ = some (.int .i64 m.rr) ∧ w'.cell? ⟨w.heap.size, 23, none⟩ = some (.int .i64 m.ri)) (first | exact HS.out _ _ _ E9 | exact HS.out _ _ _ E9.drew | exact HS.out _ _ _ F1 | exact HS.out _ _ _ F2 | exact HS.out _ _ _ F3 | go_keep) (first
              | ((go_at_call 36; (with_reducible refine (E9.drew.int m.rk K1.out.1 K1.out.2).mono ?_)); rintro e w2 ⟨rfl, b2, F1⟩)
              | ((go_at_call 36; (with_reducible refine (F1.int m.rr K2.out.1 K2.out.2).mono ?_)); rintro e w3 ⟨rfl, b3, F2⟩)
              | ((go_at_call 36; (with_reducible refine (F2.int m.ri K3.out.1 K3.out.2).mono ?_)); rintro e w4 ⟨rfl, b4, F3⟩))
            go_wp2_with fail
            go_meet
            exact ⟨_, by rw [HX.out]; exact F3⟩
          · have t' : (bits .and .i64 u 512 != 0) = false := Bool.eq_false_iff.2 t
            go_wp2_with fail
            go_meet
            exact ⟨_, by rw [show ut u 512 = false from t', optB_f, List.append_nil]; exact E9⟩
        clear E9 c5
        obtain ⟨b10, E10⟩ := hcut
        have HL10 : Hid ((z9 ++ optB (ut u 512) (encL [m.rk, m.rr, m.ri])).length ≤ 50200) := hide (by
          have h1 := HL9.out
          have h2 := optB_len (ut u 512) (encL [m.rk, m.rr, m.ri])
          have h3 := encL_length [m.rk, m.rr, m.ri]
          simp only [List.length_cons, List.length_nil] at h3
          rw [List.length_append]
          omega)
        generalize hz10 : z9 ++ optB (ut u 512) (encL [m.rk, m.rr, m.ri]) = z10 at *
        have HY10 := hide hz10
        clear hz10 HL9
        have c5 := (row_cells E10.h5 0).1
        simp only [List.getElem?_toArray, List.getElem?_cons_zero] at c5
        go_upto_if 116 with fail
        go_cut [] (fun wx => ∃ b', EW w m u g g5 (g + 1) g b' (z10 ++ optB (ut u 1024) (enc m.dn ++ m.ds)) wx)
        case first =>
          by_cases t : (bits .and .i64 u 1024 != 0) = true
          · have e6 := (row_cells E10.h6 0).1
            have c24 := (row_cells E10.box 24).1
            simp only [List.getElem?_toArray, List.getElem?_cons_succ, List.getElem?_cons_zero] at e6 c24
            have hm5 := HM.out _ E10.bl
            have hlo := E10.lo
            have hsz := E10.bl.size
            clear c5
            go_wp2_with fail
            refine (wtext_any g g B b10 z10 m.DA m.dn m.dc m.ds _ E10.wr hm5.d (Off.low hm5.d (fun k hk => by have := (E10.wr.foot k hk).1; omega)) (by omega) hm5.ed (by have := HL10.out; omega)).mono ?_
            rintro e y0 ⟨rfl, bb, hw0, hl0x, hk0x⟩
            go_wp2_with fail
            go_meet
            exact ⟨_, by rw [show ut u 1024 = true from t, optB_t]; exact E10.write hw0 hl0x hk0x⟩
          · have t' : (bits .and .i64 u 1024 != 0) = false := Bool.eq_false_iff.2 t
            go_wp2_with fail
            go_meet
            exact ⟨_, by rw [show ut u 1024 = false from t', optB_f, List.append_nil]; exact E10⟩
        clear E10 c5
        obtain ⟨b11, E11⟩ := hcut
        have HL11 : Hid ((z10 ++ optB (ut u 1024) (enc m.dn ++ m.ds)).length ≤ 60000) := hide (by
          have h1 := HL10.out
          have h2 := optB_len (ut u 1024) (enc m.dn ++ m.ds)
          have h3 := bw_le m.dn
          rw [List.length_append, enc_length] at h2
          rw [List.length_append]
          omega)
        have HFIN : Hid (z10 ++ optB (ut u 1024) (enc m.dn ++ m.ds) = encM m.lg u) := hide (by
          rw [← HY10.out, ← HY9.out, ← HY8.out, HZ8.out, ← HZ7.out, ← HZ6.out, ← HZ5.out, ← HEN.out, ← hed]
          unfold encM Msgv.lg
          simp only [List.length_map, List.nil_append, List.append_assoc])
        have e6 := (row_cells E11.h6 0).1
        simp only [List.getElem?_toArray, List.getElem?_cons_zero] at e6
        have hwz := E11.bl.size
        go_wp2_with fail
        refine (wbytes_any g g b11 _ _ E11.wr (by have := HL11.out; omega)).mono ?_
        rintro e y1 ⟨v1, rfl, ho1, hb1⟩
        go_wp2
        go_returns
        exact ⟨v1, rfl, by rw [← HFIN.out]; exact ho1.from_ hwz, E11.bl.trans (hb1.mono hwz)⟩
end Go.Proofs.YtapbcpilklhoiabDoor

namespace Go.Proofs.YtapbcpilklhoiabDoor
open Go.RowKit

theorem mcells_one (m : Msgv) : m.cells.all (·.oneCell') = true := by
  simp [Msgv.cells, Value.oneCell']
theorem info_msg (m : Msgv) : (Tryd.prog.info? 37).map (·.size) = some m.cells.size := by
  have i : (Tryd.prog.info? 37).map (·.size) = some 25 := by kernel_rfl
  exact i
theorem results_mdec {tmps : Array Value} {w : World} {g : Nat} {A : Array Value} {t : TypeId} {e : Int} (h2 : tmps.getD 2 undef = .pointer (some ⟨g, 0, none⟩)) (h3 : tmps.getD 3 undef = .int .i64 e) (hA : w.heap[g]? = some (.cells A t (0, 0))) (sA : A.size = 25) :
    (results Tryd.f17 tmps).run Tryd.prog w = .ok (.tuple #[.agg A, .int .i64 e]) w := by
  have h2' : tmps[2]?.getD undef = .pointer (some ⟨g, 0, none⟩) := by simpa using h2
  have h3' : tmps[3]?.getD undef = .int .i64 e := by simpa using h3
  have i1 : (Tryd.prog.info? 37).map (·.size) = some A.size := by rw [sA]; kernel_rfl
  have e1 := run_loadVar_row (P := Tryd.prog) w g t 37 A (0, 0) _ hA Tryd.underlying37 rfl i1
  simp [results, Tryd.results17, h2', h3', asAddr, e1]
  try rfl

def Votel.up (v : Votel) : Votev := ⟨v.sl, v.br, v.bn, ⟨v.k, none, 0, 0, none, 0, 0, v.cs, v.ns⟩⟩
def Msgl.up (x : Msgl) : Msgv := ⟨x.kd, x.fr, x.tt, x.ep, x.br, x.bn, x.sl, x.lw, x.tm, ⟨x.k, none, 0, 0, none, 0, 0, x.cs, x.ns⟩, none, x.vs.length, 0, x.vs.map Votel.up, x.cm, x.rk, x.rr, x.ri, none, x.ds.length, 0, x.ds⟩
theorem chkVts_up (vs : List Votev) : ∀ f, chkVts vs f = chkVts ((vs.map Votev.lg).map Votel.up) f := by
  induction vs with
  | nil => intro f; rfl
  | cons v vs ih =>
    intro f
    have e : chkVt v f = chkVt v.lg.up f := rfl
    show (if chkVt v f = 0 then chkVts vs (v.sl + 1) else chkVt v f) = if chkVt v.lg.up f = 0 then chkVts ((vs.map Votev.lg).map Votel.up) (v.sl + 1) else chkVt v.lg.up f
    rw [← e, ih]
/-- Check looks at nothing but the message. -/
theorem chkM_up {m : Msgv} (h1 : m.vs.length = m.vn) (h2 : m.ds.length = m.dn) : chkM m = chkM m.lg.up := by
  have e1 : m.lg.up.vn = m.vn := by show (m.vs.map Votev.lg).length = m.vn; rw [List.length_map, h1]
  have e2 : m.lg.up.dn = m.dn := h2
  have e3 : filV m = filV m.lg.up := by
    unfold filV
    rw [e1, e2]
    rfl
  have e4 : ∀ f, bndB m f = bndB m.lg.up f := fun f => by
    unfold bndB
    rw [e2]
    rfl
  have e5 : chkVotes m.vs m.sl = chkVotes m.lg.up.vs m.lg.up.sl := by
    unfold chkVotes
    have : m.lg.up.vs.length = m.vs.length := by show ((m.vs.map Votev.lg).map Votel.up).length = m.vs.length; rw [List.length_map, List.length_map]
    rw [this, chkVts_up m.vs]
    rfl
  unfold chkM
  rw [e3, e4, e5]
  rfl
def chkl (x : Msgl) : Int := chkM x.up
def zeroM : Msgl := ⟨0, 0, 0, 0, 0, 0, 0, 0, 0, 0, [], [], [], zeroC, 0, 0, 0, []⟩
/-- A message with a head alone. -/
def mz (a b c d : Int) : Msgv := ⟨a, b, c, d, 0, 0, 0, 0, 0, ⟨0, none, 0, 0, none, 0, 0, [], []⟩, none, 0, 0, [], zeroC, 0, 0, 0, none, 0, 0, []⟩
theorem isM_mz (a b c d : Int) (w : World) (B : Nat) : IsM w B (mz a b c d) :=
  ⟨⟨HasC.nil _ _ _, HasI.nil _ _ _, rfl, rfl, Nat.zero_le _, Nat.zero_le _, by intro x hx; simp [mz] at hx⟩, fun i hi => by simp [mz] at hi, rfl, Nat.zero_le _, fun i hi => by simp [mz] at hi, rfl, Nat.le_refl _, Nat.zero_le _, by intro i hi; simp [mz, zeroC, Cmdv.ints] at hi; subst hi; unfold IsInt; omega, by unfold IsInt mz; simp, by unfold IsInt mz; simp, by unfold IsInt mz; simp⟩
theorem reach_mz (a b c d : Int) (k : Nat) : ¬ ReachM (mz a b c d) k := by
  rintro ((⟨o, e⟩ | ⟨o, e⟩) | ⟨o, e⟩ | ⟨x, hx, _⟩ | ⟨o, e⟩)
  · cases e
  · cases e
  · cases e
  · simp [mz] at hx
  · cases e
/-- The error of a Decode. -/
def mdecE (xs : List UInt8) : Int :=
  if 65536 < xs.length then 12 else if (rdH (xs, 0)).s.2 ≠ 0 then ((rdH (xs, 0)).s.2 : Int) else if usedT (rdH (xs, 0)).kd = 0 then 26 else if dn (rdM xs).s ≠ 0 then (dn (rdM xs).s : Int) else chkl (rdM xs).x
/-- How a Decode ends. -/
def MDecEnds (de : Int) (x : Msgl) (w : World) (e : Ending) (w' : World) : Prop :=
  ∃ m : Msgv, e = .returned (.tuple #[.agg m.cells, .int .i64 de]) ∧ m.lg = (if de = 0 then x else zeroM) ∧ IsM w' w'.heap.size m ∧ (∀ k, ReachM m k → w.heap.size ≤ k ∧ k < w'.heap.size ∧ Free w' k) ∧ Below w.heap.size w w'
theorem MDecEnds.bad {de : Int} {x : Msgl} {w w' : World} (h : de ≠ 0) (hb : Below w.heap.size w w') : MDecEnds de x w (.returned (.tuple #[.agg (mz 0 0 0 0).cells, .int .i64 de])) w' :=
  ⟨mz 0 0 0 0, rfl, by rw [if_neg h]; rfl, isM_mz _ _ _ _ _ _, fun k hk => absurd hk (reach_mz _ _ _ _ k), hb⟩

/-- How an Encode ends. -/
def MEncEnds (m : Msgv) (w : World) (e : Ending) (w' : World) : Prop :=
  ∃ v, e = .returned (.tuple #[v, .int .i64 (chkM m)]) ∧ Hid (chkM m = 0 → Own w' w.heap.size v (encM m.lg (usedT m.kd))) ∧ Hid (chkM m ≠ 0 → v = .slice none 0 0) ∧ Below w.heap.size w w'
set_option maxRecDepth 20000 in
set_option maxHeartbeats 1600000 in
theorem mencode_bad (m : Msgv) (B : Nat) (w : World) (ht : TabM w) (hm : IsM w B m) (hB : B ≤ w.heap.size) (h0 : 0 < B) (hsl : -9223372036854775808 ≤ m.sl) (hc : chkM m ≠ 0) :
    Calls Tryd.prog 11 #[.agg m.cells] w fun e w' => e = .returned (.tuple #[.slice none 0 0, .int .i64 (chkM m)]) ∧ Below w.heap.size w w' := by
  have t0 : (chkM m != 0) = true := by rw [bne_iff_ne]; exact hc
  have HC : Hid (∀ W, Below w.heap.size w W → Calls Tryd.prog 18 #[.agg m.cells] W fun e w' => e = .returned (.int .i64 (chkM m)) ∧ Below W.heap.size W w') := hide (fun W h => mcheck_any m B W (ht.below h (by omega)) (hm.below (h.mono hB)) (by have := h.size; omega) h0 hsl)
  have hi := info_msg m
  generalize chkM m = ce at *
  generalize m.cells = mc at *
  clear hm hc
  go_enter Tryd.func11, Tryd.ntmps11
  go_upto_region 1 with fail
  have hp0 := heap_alloc_new w (.cells mc 37)
  have b0 : Below w.heap.size w (w.alloc (.cells mc 37)) := by go_grown
  generalize w.alloc (.cells mc 37) = w0 at *
  have HP0 := hide hp0
  clear hp0
  go_wp2_with (refine wpList_load_row rfl 37 _ rfl w.heap.size rfl _ _ _ _ HP0.out Tryd.underlying37 rfl hi ?_)
  refine (HC.out w0 b0).mono ?_
  rintro e w1 ⟨rfl, b1⟩
  go_wp2
  go_returns
  exact ⟨rfl, b0.trans (b1.mono b0.size)⟩
theorem mencode_any (m : Msgv) (B : Nat) (w : World) (ht : TabM w) (hm : IsM w B m) (hB : B ≤ w.heap.size) (h0 : 0 < B) (hsl : -9223372036854775808 ≤ m.sl) :
    Calls Tryd.prog 11 #[.agg m.cells] w (MEncEnds m w) := by
  by_cases hc : chkM m = 0
  · refine (mencode_ok m B w ht hm hB h0 hsl hc _ rfl).mono ?_
    rintro e w' ⟨v, rfl, ho, hb⟩
    exact ⟨v, by rw [hc], hide (fun _ => ho), hide (fun h => absurd hc h), hb⟩
  · refine (mencode_bad m B w ht hm hB h0 hsl hc).mono ?_
    rintro e w' ⟨rfl, hb⟩
    exact ⟨_, rfl, hide (fun h => absurd h hc), hide (fun _ => rfl), hb⟩
end Go.Proofs.YtapbcpilklhoiabDoor

namespace Go.Proofs.YtapbcpilklhoiabDoor
open Go.RowKit

theorem mdecE_ok {xs : List UInt8} (h1 : ¬ 65536 < xs.length) : mdecE xs = if (rdH (xs, 0)).s.2 ≠ 0 then ((rdH (xs, 0)).s.2 : Int) else if usedT (rdH (xs, 0)).kd = 0 then 26 else if dn (rdM xs).s ≠ 0 then (dn (rdM xs).s : Int) else chkl (rdM xs).x := by
  unfold mdecE
  rw [if_neg h1]

set_option maxRecDepth 20000 in
set_option maxHeartbeats 6400000 in
theorem mdecode_any (A : Option Addr) (n c B : Nat) (xs : List UInt8) (w : World) (ht : TabM w) (hx : Has w B A xs) (hB : B ≤ w.heap.size) (h0 : 0 < B) (hn : xs.length = n) (hl : n ≤ 140737488355328) :
    Calls Tryd.prog 17 #[.slice A n c] w (MDecEnds (mdecE xs) (rdM xs).x w) := by
  have HN := hide hn
  have HT : Hid (∀ W, Below w.heap.size w W → TabM W) := hide (fun W h => ht.below h (by omega))
  clear hn ht
  go_enter Tryd.func17, Tryd.ntmps17
  go_wp2_with fail
  have hr0 := heap_alloc_new w (.cells #[.int .i64 0, .int .i64 0, .int .i64 0, .int .i64 0, .int .i64 0, .int .i64 0, .int .i64 0, .int .i64 0, .int .i64 0, .int .i64 0, .slice none 0 0, .slice none 0 0, .slice none 0 0, .int .i64 0, .int .i64 0, .int .i64 0, .int .i64 0, .int .i64 0, .int .i64 0, .int .i64 0, .int .i64 0, .int .i64 0, .int .i64 0, .int .i64 0, .slice none 0 0] 37)
  have b0 : Below w.heap.size w (w.alloc (.cells #[.int .i64 0, .int .i64 0, .int .i64 0, .int .i64 0, .int .i64 0, .int .i64 0, .int .i64 0, .int .i64 0, .int .i64 0, .int .i64 0, .slice none 0 0, .slice none 0 0, .slice none 0 0, .int .i64 0, .int .i64 0, .int .i64 0, .int .i64 0, .int .i64 0, .int .i64 0, .int .i64 0, .int .i64 0, .int .i64 0, .int .i64 0, .int .i64 0, .slice none 0 0] 37)) := by go_grown
  have hs0 : (w.alloc (.cells #[.int .i64 0, .int .i64 0, .int .i64 0, .int .i64 0, .int .i64 0, .int .i64 0, .int .i64 0, .int .i64 0, .int .i64 0, .int .i64 0, .slice none 0 0, .slice none 0 0, .slice none 0 0, .int .i64 0, .int .i64 0, .int .i64 0, .int .i64 0, .int .i64 0, .int .i64 0, .int .i64 0, .int .i64 0, .int .i64 0, .int .i64 0, .int .i64 0, .slice none 0 0] 37)).heap.size = w.heap.size + 1 := by simp
  generalize w.alloc (.cells #[.int .i64 0, .int .i64 0, .int .i64 0, .int .i64 0, .int .i64 0, .int .i64 0, .int .i64 0, .int .i64 0, .int .i64 0, .int .i64 0, .slice none 0 0, .slice none 0 0, .slice none 0 0, .int .i64 0, .int .i64 0, .int .i64 0, .int .i64 0, .int .i64 0, .int .i64 0, .int .i64 0, .int .i64 0, .int .i64 0, .int .i64 0, .int .i64 0, .slice none 0 0] 37) = w0 at *
  have HR0 : Hid (w0.heap[w.heap.size]? = some (.cells (mz 0 0 0 0).cells 37 (0, 0))) := hide hr0
  have HS0 := hide hs0
  clear hr0 hs0
  refine wp_scope_forward 0 rfl ?_
  go_upto_region 3 with fail
  have hm1 := heap_alloc_new w0 (.cells #[.int .i64 0, .int .i64 0, .int .i64 0, .int .i64 0, .int .i64 0, .int .i64 0, .int .i64 0, .int .i64 0, .int .i64 0, .int .i64 0, .slice none 0 0, .slice none 0 0, .slice none 0 0, .int .i64 0, .int .i64 0, .int .i64 0, .int .i64 0, .int .i64 0, .int .i64 0, .int .i64 0, .int .i64 0, .int .i64 0, .int .i64 0, .int .i64 0, .slice none 0 0] 37)
  have b1' : Below w0.heap.size w0 (w0.alloc (.cells #[.int .i64 0, .int .i64 0, .int .i64 0, .int .i64 0, .int .i64 0, .int .i64 0, .int .i64 0, .int .i64 0, .int .i64 0, .int .i64 0, .slice none 0 0, .slice none 0 0, .slice none 0 0, .int .i64 0, .int .i64 0, .int .i64 0, .int .i64 0, .int .i64 0, .int .i64 0, .int .i64 0, .int .i64 0, .int .i64 0, .int .i64 0, .int .i64 0, .slice none 0 0] 37)) := by go_grown
  have hs1 : (w0.alloc (.cells #[.int .i64 0, .int .i64 0, .int .i64 0, .int .i64 0, .int .i64 0, .int .i64 0, .int .i64 0, .int .i64 0, .int .i64 0, .int .i64 0, .slice none 0 0, .slice none 0 0, .slice none 0 0, .int .i64 0, .int .i64 0, .int .i64 0, .int .i64 0, .int .i64 0, .int .i64 0, .int .i64 0, .int .i64 0, .int .i64 0, .int .i64 0, .int .i64 0, .slice none 0 0] 37)).heap.size = w0.heap.size + 1 := by simp
  generalize w0.alloc (.cells #[.int .i64 0, .int .i64 0, .int .i64 0, .int .i64 0, .int .i64 0, .int .i64 0, .int .i64 0, .int .i64 0, .int .i64 0, .int .i64 0, .slice none 0 0, .slice none 0 0, .slice none 0 0, .int .i64 0, .int .i64 0, .int .i64 0, .int .i64 0, .int .i64 0, .int .i64 0, .int .i64 0, .int .i64 0, .int .i64 0, .int .i64 0, .int .i64 0, .slice none 0 0] 37) = w1 at *
  have HM1 : Hid (w1.heap[w0.heap.size]? = some (.cells (mz 0 0 0 0).cells 37 (0, 0))) := hide hm1
  have HR1 : Hid (w1.heap[w.heap.size]? = some (.cells (mz 0 0 0 0).cells 37 (0, 0))) := hide ((b1'.block w.heap.size (by have := HS0.out; omega)).trans HR0.out)
  have b1 := b0.trans (b1'.mono b0.size)
  clear hm1 HR0 b0 b1'
  generalize hgm : w0.heap.size = gm at *
  have hs0 : w.heap.size < gm := by have := HS0.out; omega
  have hs1' : gm < w1.heap.size := by omega
  clear hgm hs1 HS0
  by_cases hbig : 65536 < n
  · have HE : Hid (mdecE xs = 12) := hide (if_pos (by rw [HN.out]; exact hbig))
    have t1 : decide ((65536 : Int) < (n : Int)) = true := by simp; omega
    have t2 : decide (65536 < n) = true := by simp; omega
    go_wp2
    go_step3
    refine ⟨rfl, ?_⟩
    have hkz := Kept.of_setRow w1 w.heap.size (mz 0 0 0 0).cells
    have hrz := set_row_at (B := (mz 0 0 0 0).cells) HR1.out
    go_wp2_with (refine wpList_store_row rfl 37 _ _ rfl w.heap.size (mz 0 0 0 0).cells rfl rfl _ _ HR1.out (info_msg _) rfl (mcells_one _) ?_; generalize w1.setRow w.heap.size (mz 0 0 0 0).cells = wz at *)
    rw [Exit.noGoto_ret]
    refine bodyPost_ret (v := .tuple #[.agg (mz 0 0 0 0).cells, .int .i64 12]) (results_mdec rfl rfl hrz rfl) rfl ?_
    rw [HE.out]
    exact MDecEnds.bad (by omega) (b1.trans (hkz.below b1.size (fun k hk => by omega)))
  have HE := hide (mdecE_ok (xs := xs) (by rw [HN.out]; exact hbig))
  have t1 : decide ((65536 : Int) < (n : Int)) = false := by simp; omega
  have t2 : decide (65536 < n) = false := by simp; omega
  have hx1 : Has w1 B A xs := hx.below (b1.mono hB)
  have hz1 := b1.size
  go_wp2_with fail
  refine (newreader_any A n c B xs w1 hx1 (by omega) HN.out hl).mono ?_
  rintro e w2 ⟨g, b, rfl, hrd, hft, b2'⟩
  have hg1 : w1.heap.size ≤ g := (hft g (.inl rfl)).1
  have hg2 := (hft g (.inl rfl)).2
  have hfb : ∀ k, b = some k → w1.heap.size ≤ k ∧ k < w2.heap.size := fun k hk => hft k (.inr hk)
  have HM2 := hide ((b2'.block gm (by omega)).trans HM1.out)
  have HR2 := hide ((b2'.block w.heap.size (by omega)).trans HR1.out)
  have b2 := b1.trans (b2'.mono b1.size)
  have hz2 := b2'.size
  clear HM1 HR1 b1 b2' hft t1 t2 hbig hx1
  have h2 := RGo.start (s := (xs, 0)) hrd
  go_wp2_with fail
  refine (RGo.count h2 P50 isIntP).mono ?_
  rintro e w3 ⟨rfl, b3, h3⟩
  go_wp2_with fail
  refine (RGo.count h3 P50 isIntP).mono ?_
  rintro e w4 ⟨rfl, b4, h4⟩
  go_wp2_with fail
  refine (RGo.count h4 P50 isIntP).mono ?_
  rintro e w5 ⟨rfl, b5, h5⟩
  go_wp2_with fail
  refine (RGo.count h5 P50 isIntP).mono ?_
  rintro e w6 ⟨rfl, b6, h6⟩
  have HH : Hid (rdH (xs, 0) = ⟨(rc P50 (xs, 0)).1, (rc P50 (rc P50 (xs, 0)).2).1, (rc P50 (rc P50 (rc P50 (xs, 0)).2).2).1, (rc P50 (rc P50 (rc P50 (rc P50 (xs, 0)).2).2).2).1, (rc P50 (rc P50 (rc P50 (rc P50 (xs, 0)).2).2).2).2⟩) := hide rfl
  clear h2 h3 h4 h5
  generalize (rc P50 (rc P50 (rc P50 (rc P50 (xs, 0)).2).2).2).1 = x4 at *
  generalize (rc P50 (rc P50 (rc P50 (rc P50 (xs, 0)).2).2).2).2 = st at *
  generalize (rc P50 (rc P50 (rc P50 (xs, 0)).2).2).1 = x3 at *
  generalize (rc P50 (rc P50 (xs, 0)).2).1 = x2 at *
  generalize (rc P50 (xs, 0)).1 = x1 at *
  have HE : Hid (mdecE xs = if st.2 ≠ 0 then (st.2 : Int) else if usedT (x1 : Int) = 0 then 26 else if dn (rdRest x1 x2 x3 x4 (usedT x1) st).s ≠ 0 then (dn (rdRest x1 x2 x3 x4 (usedT x1) st).s : Int) else chkl (rdRest x1 x2 x3 x4 (usedT x1) st).x) := hide (by rw [HE.out]; unfold rdM; rw [HH.out])
  have HX : Hid ((rdM xs).x = (rdRest x1 x2 x3 x4 (usedT x1) st).x) := hide (by unfold rdM; rw [HH.out])
  have HM6 := hide ((h6.kept.block gm (by omega) (by omega)).trans HM2.out)
  have HR6 := hide ((h6.kept.block w.heap.size (by omega) (by omega)).trans HR2.out)
  have b6' := b2.trans (h6.kept.below b2.size (fun k hk => by omega))
  have hz6 := h6.kept.size
  have hft6 : ∀ k, Foot g b6 k → w1.heap.size ≤ k ∧ k < w2.heap.size := by
    rintro k (e | e)
    · omega
    · rcases h6.lie with e' | e'
      · exact hfb k (by rw [← e', e])
      · rw [e'] at e; cases e
  have hrd6 := h6.rd
  clear HM2 HR2 h6 HH b2 hfb hrd
  have hk7 := Kept.of_setRow w6 gm (mz x1 x2 x3 x4).cells
  have hm7 := set_row_at (B := (mz x1 x2 x3 x4).cells) HM6.out
  go_wp2_with (refine wpList_store_row rfl 37 _ _ rfl gm (mz x1 x2 x3 x4).cells rfl rfl _ _ HM6.out (info_msg _) rfl (mcells_one _) ?_; generalize w6.setRow gm (mz x1 x2 x3 x4).cells = w7 at *)
  have HR7 := hide ((hk7.block w.heap.size (by omega) (by omega)).trans HR6.out)
  have b7 := b6'.trans (hk7.below b6'.size (fun k hk => by omega))
  have hrd7 := hrd6.kept hk7 (fun k hk e => by have := (hft6 k hk).1; omega)
  have hz7 := hk7.size
  clear HR6 HM6 b6' hrd6 hk7
  refine (rerr_any g b6 st.1 st.2 w7 hrd7).mono ?_
  rintro e w' ⟨rfl, hw'⟩
  rw [← hw']
  clear hw'
  by_cases he : st.2 ≠ 0
  · have HE1 := hide (HE.out.trans (if_pos he))
    have t0 : ((st.2 : Int) != 0) = true := by rw [bne_iff_ne]; omega
    go_wp2
    go_step3
    refine ⟨rfl, ?_⟩
    have hkz := Kept.of_setRow w7 w.heap.size (mz 0 0 0 0).cells
    have hrz := set_row_at (B := (mz 0 0 0 0).cells) HR7.out
    go_wp2_with (refine wpList_store_row rfl 37 _ _ rfl w.heap.size (mz 0 0 0 0).cells rfl rfl _ _ HR7.out (info_msg _) rfl (mcells_one _) ?_; generalize w7.setRow w.heap.size (mz 0 0 0 0).cells = wz at *)
    rw [Exit.noGoto_ret]
    refine bodyPost_ret (v := .tuple #[.agg (mz 0 0 0 0).cells, .int .i64 (st.2 : Int)]) (results_mdec rfl rfl hrz rfl) rfl ?_
    rw [HE1.out]
    exact MDecEnds.bad (by omega) (b7.trans (hkz.below b7.size (fun k hk => by omega)))
  have HE1 := hide (HE.out.trans (if_neg he))
  have t0 : ((st.2 : Int) != 0) = false := by simp at he ⊢; exact he
  have c0 := (row_cells hm7 0).1
  simp only [Msgv.cells, mz, List.getElem?_toArray, List.getElem?_cons_zero] at c0
  have htab := HT.out _ b7
  clear HE he
  go_wp2_with fail
  refine (muses_any x1 w7 htab).mono ?_
  rintro e w' ⟨rfl, rfl⟩
  by_cases hu : usedT (x1 : Int) = 0
  · have HE2 := hide (HE1.out.trans (if_pos hu))
    have t3 : (usedT (x1 : Int) == 0) = true := by rw [beq_iff_eq]; exact hu
    clear hm7 c0
    go_wp2
    go_step3
    refine ⟨rfl, ?_⟩
    have hkz := Kept.of_setRow w7 w.heap.size (mz 0 0 0 0).cells
    have hrz := set_row_at (B := (mz 0 0 0 0).cells) HR7.out
    go_wp2_with (refine wpList_store_row rfl 37 _ _ rfl w.heap.size (mz 0 0 0 0).cells rfl rfl _ _ HR7.out (info_msg _) rfl (mcells_one _) ?_; generalize w7.setRow w.heap.size (mz 0 0 0 0).cells = wz at *)
    rw [Exit.noGoto_ret]
    refine bodyPost_ret (v := .tuple #[.agg (mz 0 0 0 0).cells, .int .i64 26]) (results_mdec rfl rfl hrz rfl) rfl ?_
    rw [HE2.out]
    exact MDecEnds.bad (by omega) (b7.trans (hkz.below b7.size (fun k hk => by omega)))
  have HE2 := hide (HE1.out.trans (if_neg hu))
  have t3 : (usedT (x1 : Int) == 0) = false := by rw [beq_eq_false_iff_ne]; exact hu
  clear HE1 hu
  have R0 : RS w7 g gm b6 st b6 (mz x1 x2 x3 x4) w7 := by
    refine ⟨hrd7, .inl rfl, Kept.refl _ _, ⟨hm7, isM_mz _ _ _ _ _ _, fun k hk => absurd hk (reach_mz _ _ _ _ k)⟩, by omega, by omega, by omega, fun e => ?_, fun k hk => ?_⟩
    · have := (hft6 gm (.inr e)).1; omega
    · have := (hft6 k (.inr hk)).2; omega
  have HRR : Hid (∀ u, u = usedT (x1 : Int) → Calls Tryd.prog 52 #[.pointer (some ⟨g, 0, none⟩), .pointer (some ⟨gm, 0, none⟩), .int .i64 u] w7 fun e w' => e = .returned (.tuple #[]) ∧ ∃ b' m', RS w7 g gm b6 (rdRest x1 x2 x3 x4 u st).s b' m' w' ∧ m'.lg = (rdRest x1 x2 x3 x4 u st).x) := hide (fun u _ => readrest_gen x1 x2 x3 x4 u g gm b6 b6 st (mz x1 x2 x3 x4) w7 w7 R0 rfl _ _ _ _ _ _ _ _ _ _ rfl rfl rfl rfl rfl rfl rfl rfl rfl rfl)
  generalize hu : usedT (x1 : Int) = u at *
  clear R0 hrd7
  go_wp2_with fail
  refine (muses_any x1 w7 htab).mono ?_
  rintro e w' ⟨rfl, rfl⟩
  rw [hu]
  go_wp2_with fail
  refine (HRR.out u rfl).mono ?_
  rintro e w8 ⟨rfl, b8, m, R8, hlg⟩
  clear HRR c0 t3 htab hu hm7
  have hsl : -9223372036854775808 ≤ m.sl := by
    have e1 : m.sl = m.lg.sl := rfl
    rw [e1, hlg]
    unfold rdRest
    simp only
    unfold oN
    split
    · simp only; omega
    · simp only; omega
  generalize rdRest x1 x2 x3 x4 u st = RD at *
  obtain ⟨xm, sd⟩ := RD
  simp only at R8 hlg HE2 HX
  have HR8 := hide ((R8.kept.block w.heap.size (by omega) (by rintro (e | e) <;> omega)).trans HR7.out)
  have b8' := b7.trans (R8.kept.below b7.size (by rintro k (e | e) <;> omega))
  have hz8 := R8.kept.size
  clear HR7 b7
  go_wp2_with fail
  refine (rdone_st g b8 sd w8 R8.rd).mono ?_
  rintro e w9 ⟨rfl, hk9⟩
  have hz9 := hk9.size
  have HR9 := hide ((hk9.block w.heap.size (by omega) (by omega)).trans HR8.out)
  have hm9 := (hk9.block gm (by omega) (by omega)).trans R8.mr.box
  have im9 : IsM w9 w9.heap.size m := (R8.mr.im.keepR fun k hk hlt => hk9.block k hlt (fun e => by have := (R8.mr.re k hk).1; omega)).more hk9.size
  have re9 : ∀ k, ReachM m k → w.heap.size < k ∧ k < w9.heap.size ∧ Free w9 k := fun k hk => by have h := R8.mr.re k hk; exact ⟨by omega, by omega, h.2.2.keep (hk9.block k h.2.1 (fun e => by omega))⟩
  have b9 := b8'.trans (hk9.below b8'.size (fun k hk => by omega))
  clear HR8 b8' R8 hk9
  by_cases hd : dn sd ≠ 0
  · have HE3 := hide (HE2.out.trans (if_pos hd))
    have t4 : ((dn sd : Int) != 0) = true := by rw [bne_iff_ne]; omega
    go_wp2
    go_step3
    refine ⟨rfl, ?_⟩
    have hkz := Kept.of_setRow w9 w.heap.size (mz 0 0 0 0).cells
    have hrz := set_row_at (B := (mz 0 0 0 0).cells) HR9.out
    go_wp2_with (refine wpList_store_row rfl 37 _ _ rfl w.heap.size (mz 0 0 0 0).cells rfl rfl _ _ HR9.out (info_msg _) rfl (mcells_one _) ?_; generalize w9.setRow w.heap.size (mz 0 0 0 0).cells = wz at *)
    rw [Exit.noGoto_ret]
    refine bodyPost_ret (v := .tuple #[.agg (mz 0 0 0 0).cells, .int .i64 (dn sd : Int)]) (results_mdec rfl rfl hrz rfl) rfl ?_
    rw [HE3.out]
    exact MDecEnds.bad (by omega) (b9.trans (hkz.below b9.size (fun k hk => by omega)))
  have HE3 := hide (HE2.out.trans (if_neg hd))
  have t4 : ((dn sd : Int) != 0) = false := by simp at hd ⊢; exact hd
  have HE4 : Hid (mdecE xs = chkM m) := hide (by rw [HE3.out, chkM_up im9.en im9.ed, hlg]; rfl)
  have HCK : Hid (Calls Tryd.prog 18 #[.agg m.cells] w9 fun e w' => e = .returned (.int .i64 (chkM m)) ∧ Below w9.heap.size w9 w') := hide (mcheck_any m w9.heap.size w9 (HT.out _ b9) im9 (Nat.le_refl _) (by omega) hsl)
  clear HE2 HE3 hd hsl
  have hi := info_msg m
  have hone := mcells_one m
  have hsm : (mz 0 0 0 0).cells.size = m.cells.size := rfl
  generalize hce : chkM m = ce at *
  generalize hmc : m.cells = mc at *
  have HMC := hide hmc
  clear hce hmc
  go_wp2_with (refine wpList_load_row rfl 37 _ rfl gm rfl _ _ _ _ hm9 Tryd.underlying37 rfl hi ?_)
  refine HCK.out.mono ?_
  rintro e w10 ⟨rfl, b10'⟩
  have HR10 := hide ((b10'.block w.heap.size (by omega)).trans HR9.out)
  have hm10 := (b10'.block gm (by omega)).trans hm9
  have im10 := im9.keepR (w' := w10) fun k hk hlt => b10'.block k hlt
  have re10 : ∀ k, ReachM m k → w.heap.size < k ∧ k < w10.heap.size ∧ Free w10 k := fun k hk => by have h := re9 k hk; have := b10'.size; exact ⟨by omega, by omega, h.2.2.keep (b10'.block k h.2.1)⟩
  have b10 := b9.trans (b10'.mono b9.size)
  have hz10 := b10'.size
  clear HR9 hm9 HCK b10' b9
  by_cases h00 : ce ≠ 0
  · have t5 : (ce != 0) = true := by rw [bne_iff_ne]; exact h00
    go_wp2
    go_step3
    refine ⟨rfl, ?_⟩
    have hkz := Kept.of_setRow w10 w.heap.size (mz 0 0 0 0).cells
    have hrz := set_row_at (B := (mz 0 0 0 0).cells) HR10.out
    go_wp2_with (refine wpList_store_row rfl 37 _ _ rfl w.heap.size (mz 0 0 0 0).cells rfl rfl _ _ HR10.out (info_msg _) rfl (mcells_one _) ?_; generalize w10.setRow w.heap.size (mz 0 0 0 0).cells = wz at *)
    rw [Exit.noGoto_ret]
    refine bodyPost_ret (v := .tuple #[.agg (mz 0 0 0 0).cells, .int .i64 ce]) (results_mdec rfl rfl hrz rfl) rfl ?_
    rw [HE4.out]
    exact MDecEnds.bad h00 (b10.trans (hkz.below b10.size (fun k hk => by omega)))
  obtain rfl : ce = 0 := by simpa using h00
  have hk11 := Kept.of_setRow w10 w.heap.size mc
  have hr11 := set_row_at (B := mc) HR10.out
  go_wp2_with (first
    | (refine wpList_load_row rfl 37 _ rfl gm rfl _ _ _ _ hm10 Tryd.underlying37 rfl hi ?_)
    | (refine wpList_store_row rfl 37 _ _ rfl w.heap.size mc rfl rfl _ _ HR10.out hi hsm hone ?_; generalize w10.setRow w.heap.size mc = w11 at *))
  simp only [Exit.jump]
  refine bodyPost_ret (v := .tuple #[.agg mc, .int .i64 0]) (results_mdec rfl rfl hr11 hsm.symm) rfl ?_
  rw [HE4.out, ← HMC.out]
  refine ⟨m, rfl, by rw [if_pos rfl, HX.out]; exact hlg, ?_, fun k hk => ?_, b10.trans (hk11.below b10.size (fun k hk => by omega))⟩
  · exact ((im10.keepR fun k hk hlt => hk11.block k (by omega) (fun e => by have := re9 k hk; omega)).more (by have := hk11.size; omega))
  · have h := re10 k hk
    have := hk11.size
    exact ⟨by omega, by omega, h.2.2.keep (hk11.block k h.2.1 (fun e => by omega))⟩
end Go.Proofs.YtapbcpilklhoiabDoor
