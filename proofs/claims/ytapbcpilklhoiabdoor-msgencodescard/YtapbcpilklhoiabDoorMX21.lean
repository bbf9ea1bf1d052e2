/-
  Bytes of the reference, for right messages. Conditions: what is read is in reach.
-/
import Derived.Test.YtapbcpilklhoiabDoorMX18
import Derived.Test.YtapbcpilklhoiabDoorMX16
import Derived.Test.YtapbcpilklhoiabDoorMX10
import Derived.Deep.DeepCutAuto
import Derived.Deep.Cut
set_option linter.unusedSimpArgs false
set_option linter.unusedVariables false

namespace Go.Proofs.YtapbcpilklhoiabDoor
open Go.RowKit

theorem list_append_ints {ops : Array Oper} {rest : List Oper} {o : Oper} {a : Act} {Q : Exit → Act → World → Prop} (w : World) (hw : Region.wanted o (yielded ops a.tmps) = true) (s x : Operand)
    (ho : o.op = .call { callee := .builtin .append, args := #[s, x], argTypes := #[25, 25] }) (base : Nat) (v : Value) (xs : List Int) (hs : a.eval s = v) (hown : OwnI w base v xs)
    (B : Nat) (A : Option Addr) (m c : Nat) (news : List Int) (hx : a.eval x = .slice A m c) (hr : HasI w B A news) (hm : news.length = m)
    (hlen : xs.length + m ≤ 17592186044416) (hbase : base ≤ w.heap.size)
    (h : ∀ v' w', OwnI w' base v' (xs ++ news) → w.grownBy w' v.ownBlock → wpList Tryd.prog ops Q rest (a.put o.dst v') w') : wpList Tryd.prog ops Q (o :: rest) a w := by
  obtain ⟨v', w', hrun, h2, h3, h4⟩ := run_append_ints w o.type base v xs hown B A m c news hr hm hlen hbase
  exact list_append_want w hw s x 25 25 ho _ _ hs hx v' w' hrun (h v' w' h2 h3)
def optI (t : Bool) (xs : List Int) : List Int := if t = true then xs else []
theorem optI_t (xs : List Int) : optI true xs = xs := if_pos rfl
theorem optI_f (xs : List Int) : optI false xs = [] := if_neg (by simp)
theorem encNs_opt (t : Bool) (xs : List Int) : encNs (optI t xs) = optB t (encNs xs) := by
  cases t with
  | true => rw [optI_t, optB_t]
  | false => rw [optI_f, optB_f]; rfl
/-- Bytes that are gathered. -/
structure BY (Wk : World) (base : Nat) (x : Value) (zs : List UInt8) (W : World) : Prop where
  ow : Own W base x zs
  bl : Below base Wk W
  sz : base ≤ W.heap.size
theorem BY.below {Wk W W' : World} {base : Nat} {x : Value} {zs : List UInt8} (h : BY Wk base x zs W) (hb : Below W.heap.size W W') : BY Wk base x zs W' :=
  ⟨h.ow.below hb, h.bl.trans (hb.mono h.sz), Nat.le_trans h.sz hb.size⟩
theorem BY.app {Wk W W' : World} {base : Nat} {x x' : Value} {zs zs' : List UInt8} (h : BY Wk base x zs W) (ho : Own W' base x' zs') (hg : W.grownBy W' x.ownBlock) : BY Wk base x' zs' W' := by
  have hk := Kept.of_grown (F := fun k => x.ownBlock = some k) hg (fun k hk => hk)
  exact ⟨ho, h.bl.trans (hk.below h.sz (fun k hk => (h.ow.lt k hk).1)), Nat.le_trans h.sz hk.size⟩

theorem reftext_any (A : Option Addr) (n c B : Nat) (ys : List UInt8) (w : World) (hy : Has w B A ys) (hB : B ≤ w.heap.size) (hn : ys.length = n) (hl : n ≤ 140000000000000) : Calls Tryd.prog 45 #[.slice A n c] w (Makes (enc n ++ ys) w) := by
  have HN := hide (fun w => refnum_any n w (by omega))
  have h8 := bw_le n
  have hel := enc_length n
  have HEL := hide hel
  clear hel
  go_enter Tryd.func45, Tryd.ntmps45
  go_wp2_with fail
  refine (HN.out _).mono ?_
  rintro e w1 ⟨v1, rfl, ho1, hb1⟩
  have hy1 := hy.below (hb1.mono hB)
  go_wp2_with (at_builtin; refine list_append_bytes _ rfl (.tmp 6) (.tmp 7) rfl w.heap.size _ (enc n) rfl ho1 B A n c ys rfl hy1 hn (by have := HEL.out; omega) hb1.size ?_; intro v2 w2 ho2 hg2 hat2)
  go_ret
  exact ⟨v2, rfl, ho2, hb1.grown hg2 hb1.size (fun k e => (ho1.lt k e).1)⟩

set_option maxRecDepth 20000 in
set_option maxHeartbeats 12800000 in
theorem rmbytes_ok (m : Msgv) (B : Nat) (w : World) (hm : IsM w B m) (hB : B ≤ w.heap.size) (hF : FineM m.lg (usedT m.kd)) :
    Calls Tryd.prog 14 #[.agg m.cells] w (Makes (encM m.lg (usedT m.kd)) w) := by
  have HMM : Hid (∀ W, Below w.heap.size w W → IsM W B m) := hide (fun W h => hm.below (h.mono hB))
  have hen := hm.en
  have hed := hm.ed
  have hv8 : m.v.n ≤ 8 := by rw [← hm.v.en]; exact hF.v.cl
  have hv7 : m.v.m ≤ 7 := by rw [← hm.v.em]; exact hF.v.nl
  have hvn : m.vn ≤ 64 := by have h1 : (m.vs.map Votev.lg).length ≤ 64 := hF.vl; rw [List.length_map, hm.en] at h1; exact h1
  have hdn : m.dn ≤ 1024 := by have h1 : m.ds.length ≤ 1024 := hF.dl; rw [hm.ed] at h1; exact h1
  have HFV : Hid (∀ j (h : j < m.vs.length), FineVt m.vs[j].lg) := hide (fun j h => hF.vt _ (List.mem_map.2 ⟨_, List.getElem_mem h, rfl⟩))
  have HLV : Hid (∀ j, (encVts (usedT m.kd) ((m.vs.map Votev.lg).take j)).length ≤ 44352) := hide (fun j => by
    have h1 := encVts_len (usedT m.kd) ((m.vs.map Votev.lg).take j) (fun v hv => hF.vt v (List.mem_of_mem_take hv))
    have h2 : (m.vs.map Votev.lg).length ≤ 64 := hF.vl
    rw [List.length_take] at h1
    omega)
  have HVE : Hid ((encV m.v.k m.v.cs m.v.ns).length ≤ 666) := hide (encV_len' hF.v)
  have hu := hF.used
  have HU1 := hide hF.u1
  have HO0 := hide hF.o0
  clear hm hF
  go_enter Tryd.func14, Tryd.ntmps14
  go_upto_region 1 with fail
  have hp0 := heap_alloc_new w (.cells m.cells 37)
  have b0 : Below w.heap.size w (w.alloc (.cells m.cells 37)) := by go_grown
  generalize w.alloc (.cells m.cells 37) = w0 at *
  have HP0 := hide hp0
  have hz0 := lt_of_block hp0
  clear hp0
  have c0 := (row_cells HP0.out 0).1
  simp only [Msgv.cells, List.getElem?_toArray, List.getElem?_cons_zero] at c0
  go_wp2_with fail
  refine (ruses_any m.kd w0).mono ?_
  rintro e w1 ⟨rfl, b1'⟩
  have HP1 := hide ((b1'.block w.heap.size hz0).trans HP0.out)
  have b1 := b0.trans (b1'.mono b0.size)
  have hz1 := lt_of_block HP1.out
  clear HP0 b0 b1' hz0 c0
  have hlen : (usOf m.kd).length ≤ 1000000 := by
    unfold usOf
    split
    · rename_i h
      have hh : (List.range 15).all (fun k => decide ((usS.getD k []).length ≤ 1000000)) = true := by decide +kernel
      exact of_decide_eq_true (List.all_eq_true.1 hh m.kd.toNat (List.mem_range.2 (by omega)))
    · simp
  have H_hb : Hid (∀ W, Calls Tryd.prog 24 #[.string ⟨(usOf m.kd).toArray⟩, .int .u8 98] W fun e w' => e = .returned (.bool (ut (usedT m.kd) 2)) ∧ W = w') := hide (fun W => by have h1 := rhasc_any (usOf m.kd) 98 W hlen; rw [us_bit hu 98 2 (by simp [letters])] at h1; exact h1)
  have H_hs : Hid (∀ W, Calls Tryd.prog 24 #[.string ⟨(usOf m.kd).toArray⟩, .int .u8 115] W fun e w' => e = .returned (.bool (ut (usedT m.kd) 4)) ∧ W = w') := hide (fun W => by have h1 := rhasc_any (usOf m.kd) 115 W hlen; rw [us_bit hu 115 4 (by simp [letters])] at h1; exact h1)
  have H_hl : Hid (∀ W, Calls Tryd.prog 24 #[.string ⟨(usOf m.kd).toArray⟩, .int .u8 108] W fun e w' => e = .returned (.bool (ut (usedT m.kd) 16)) ∧ W = w') := hide (fun W => by have h1 := rhasc_any (usOf m.kd) 108 W hlen; rw [us_bit hu 108 16 (by simp [letters])] at h1; exact h1)
  have H_ht : Hid (∀ W, Calls Tryd.prog 24 #[.string ⟨(usOf m.kd).toArray⟩, .int .u8 116] W fun e w' => e = .returned (.bool (ut (usedT m.kd) 32)) ∧ W = w') := hide (fun W => by have h1 := rhasc_any (usOf m.kd) 116 W hlen; rw [us_bit hu 116 32 (by simp [letters])] at h1; exact h1)
  have H_hv : Hid (∀ W, Calls Tryd.prog 24 #[.string ⟨(usOf m.kd).toArray⟩, .int .u8 118] W fun e w' => e = .returned (.bool (ut (usedT m.kd) 64)) ∧ W = w') := hide (fun W => by have h1 := rhasc_any (usOf m.kd) 118 W hlen; rw [us_bit hu 118 64 (by simp [letters])] at h1; exact h1)
  have H_ho : Hid (∀ W, Calls Tryd.prog 24 #[.string ⟨(usOf m.kd).toArray⟩, .int .u8 111] W fun e w' => e = .returned (.bool (ut (usedT m.kd) 128)) ∧ W = w') := hide (fun W => by have h1 := rhasc_any (usOf m.kd) 111 W hlen; rw [us_bit hu 111 128 (by simp [letters])] at h1; exact h1)
  have H_hc : Hid (∀ W, Calls Tryd.prog 24 #[.string ⟨(usOf m.kd).toArray⟩, .int .u8 99] W fun e w' => e = .returned (.bool (ut (usedT m.kd) 256)) ∧ W = w') := hide (fun W => by have h1 := rhasc_any (usOf m.kd) 99 W hlen; rw [us_bit hu 99 256 (by simp [letters])] at h1; exact h1)
  have H_hr : Hid (∀ W, Calls Tryd.prog 24 #[.string ⟨(usOf m.kd).toArray⟩, .int .u8 114] W fun e w' => e = .returned (.bool (ut (usedT m.kd) 512)) ∧ W = w') := hide (fun W => by have h1 := rhasc_any (usOf m.kd) 114 W hlen; rw [us_bit hu 114 512 (by simp [letters])] at h1; exact h1)
  have H_hd : Hid (∀ W, Calls Tryd.prog 24 #[.string ⟨(usOf m.kd).toArray⟩, .int .u8 100] W fun e w' => e = .returned (.bool (ut (usedT m.kd) 1024)) ∧ W = w') := hide (fun W => by have h1 := rhasc_any (usOf m.kd) 100 W hlen; rw [us_bit hu 100 1024 (by simp [letters])] at h1; exact h1)
  unfold str
  generalize usOf m.kd = s at *
  clear hlen hu
  have c0 := (row_cells HP1.out 0).1
  have c1 := (row_cells HP1.out 1).1
  have c2 := (row_cells HP1.out 2).1
  have c3 := (row_cells HP1.out 3).1
  simp only [Msgv.cells, List.getElem?_toArray, List.getElem?_cons_succ, List.getElem?_cons_zero] at c0 c1 c2 c3
  go_upto_region 3 with fail
  have N0 := OwnI.new w1 [m.kd, m.fr, m.tt, m.ep] w1.heap.size w1.heap.size rfl (Nat.le_refl _) (by simp)
  have b2' := (Below.refl _ w1).alloc (Nat.le_refl _) (.cells (icells [m.kd, m.fr, m.tt, m.ep]) 3)
  have ei : icells [m.kd, m.fr, m.tt, m.ep] = #[.int .i64 m.kd, .int .i64 m.fr, .int .i64 m.tt, .int .i64 m.ep] := rfl
  rw [ei] at N0 b2'
  clear ei
  generalize w1.alloc (.cells #[.int .i64 m.kd, .int .i64 m.fr, .int .i64 m.tt, .int .i64 m.ep] 3) = w2 at *
  have N0 : OwnI w2 w1.heap.size (.slice (some ⟨w1.heap.size, 0, none⟩) 4 4) [m.kd, m.fr, m.tt, m.ep] := N0
  have HP2 := hide ((b2'.block w.heap.size hz1).trans HP1.out)
  have b2 := b1.trans (b2'.mono b1.size)
  have hz2 := b2'.size
  have hsw : w.heap.size < w1.heap.size := hz1
  clear HP1 b1 b2' c0 c1 c2 c3 hz1
  generalize w1.heap.size = s1 at *
  clear hz2
  go_wp2_with fail
  refine (H_hb.out _).mono ?_
  rintro e w' ⟨rfl, rfl⟩
  go_upto_if 22 with fail
  go_cut [4] (fun x wx => ∃ A n c, x = .slice A n c ∧ OwnI wx s1 (.slice A n c) ([m.kd, m.fr, m.tt, m.ep] ++ optI (ut (usedT m.kd) 2) [m.br, m.bn]) ∧ Below w.heap.size w wx ∧ Hid (wx.heap[w.heap.size]? = some (.cells m.cells 37 (0, 0))) ∧ s1 ≤ wx.heap.size)
  case first => as_aux_lemma =>
    have hs1 : s1 ≤ w2.heap.size := by have := lt_of_block HP2.out; have := b2.size; have h := N0.lt s1 rfl; omega
    cases t : ut (usedT m.kd) 2 with
    | true =>
      have HTB := hide t
      have c4 := (row_cells HP2.out 4).1
      have c5 := (row_cells HP2.out 5).1
      simp only [Msgv.cells, List.getElem?_toArray, List.getElem?_cons_succ, List.getElem?_cons_zero] at c4 c5
      have hne := HasI.new w2 3 [m.br, m.bn] (0, 0) w2.heap.size rfl
      have ba := (Below.refl _ w2).alloc (Nat.le_refl _) (.cells (icells [m.br, m.bn]) 3)
      have ei : icells [m.br, m.bn] = #[.int .i64 m.br, .int .i64 m.bn] := rfl
      rw [ei] at hne ba
      have Na := hide (N0.below ba)
      have HNE := hide hne
      have HBA := hide ba
      have hza : w2.heap.size ≤ (w2.alloc (.cells #[.int .i64 m.br, .int .i64 m.bn] 3)).heap.size := ba.size
      clear ei hne ba t
      go_wp2_with (at_builtin; refine list_append_ints _ (by rfl) (.tmp 23) (.tmp 30) rfl s1 (.slice (some ⟨s1, 0, none⟩) 4 4) ([m.kd, m.fr, m.tt, m.ep]) rfl Na.out (w2.heap.size + 1) (some ⟨w2.heap.size, 0, none⟩) 2 2 [m.br, m.bn] rfl HNE.out rfl (by simp) (by omega) ?_; intro v5 w5 ho5 hgr5; obtain ⟨A5, n5, c5', rfl, _, _, _⟩ := ho5.form)
      have hk5 := Kept.of_grown (F := fun k => (Value.slice (some ⟨s1, 0, none⟩) 4 4).ownBlock = some k) hgr5 (fun k hk => hk)
      have hlt5 := lt_of_block HP2.out
      go_meet
      refine ⟨A5, n5, c5', rfl, by rw [HTB.out, optI_t]; exact ho5, (b2.trans (HBA.out.mono b2.size)).trans (hk5.below (by have := b2.size; omega) (fun k hk => by have := (Na.out.lt k hk).1; omega)), hide ((hk5.block w.heap.size (by omega) (fun e => by have := (Na.out.lt _ e).1; omega)).trans ((HBA.out.block w.heap.size hlt5).trans HP2.out)), by have := hk5.size; omega⟩
    | false =>
      have HTB := hide t
      clear t
      go_wp2_with fail
      go_meet
      exact ⟨_, _, _, rfl, by rw [HTB.out, optI_f, List.append_nil]; exact N0, b2, HP2, hs1⟩
  clear N0 b2 HP2
  obtain ⟨A0, n0, c0', rfl, N1, b3, HP3, hs1⟩ := hcut
  generalize wc = w3 at *
  have hns0 : ([m.kd, m.fr, m.tt, m.ep] ++ optI (ut (usedT m.kd) 2) [m.br, m.bn]).length ≤ 6 := by
    cases ut (usedT m.kd) 2 with
    | true => rw [optI_t, List.length_append]; simp only [List.length_cons, List.length_nil]; omega
    | false => rw [optI_f, List.append_nil]; simp only [List.length_cons, List.length_nil]; omega
  generalize ha0 : [m.kd, m.fr, m.tt, m.ep] ++ optI (ut (usedT m.kd) 2) [m.br, m.bn] = ns0 at *
  have HA0 := hide ha0
  clear ha0
  go_wp2_with fail
  refine (H_hs.out _).mono ?_
  rintro e w' ⟨rfl, rfl⟩
  go_upto_if 33 with fail
  go_cut [4] (fun x wx => ∃ A n c, x = .slice A n c ∧ OwnI wx s1 (.slice A n c) (ns0 ++ optI (ut (usedT m.kd) 4) [m.sl]) ∧ Below w.heap.size w wx ∧ Hid (wx.heap[w.heap.size]? = some (.cells m.cells 37 (0, 0))) ∧ s1 ≤ wx.heap.size)
  case first => as_aux_lemma =>
    have hs1 : s1 ≤ w3.heap.size := by exact hs1
    cases t : ut (usedT m.kd) 4 with
    | true =>
      have HTB := hide t
      have c6 := (row_cells HP3.out 6).1
      simp only [Msgv.cells, List.getElem?_toArray, List.getElem?_cons_succ, List.getElem?_cons_zero] at c6
      have hne := HasI.new w3 3 [m.sl] (0, 0) w3.heap.size rfl
      have ba := (Below.refl _ w3).alloc (Nat.le_refl _) (.cells (icells [m.sl]) 3)
      have ei : icells [m.sl] = #[.int .i64 m.sl] := rfl
      rw [ei] at hne ba
      have Na := hide (N1.below ba)
      have HNE := hide hne
      have HBA := hide ba
      have hza : w3.heap.size ≤ (w3.alloc (.cells #[.int .i64 m.sl] 3)).heap.size := ba.size
      clear ei hne ba t
      go_wp2_with (at_builtin; refine list_append_ints _ (by rfl) (.tmp 34) (.tmp 37) rfl s1 (.slice A0 n0 c0') (ns0) rfl Na.out (w3.heap.size + 1) (some ⟨w3.heap.size, 0, none⟩) 1 1 [m.sl] rfl HNE.out rfl (by have := hns0; omega) (by omega) ?_; intro v5 w5 ho5 hgr5; obtain ⟨A5, n5, c5', rfl, _, _, _⟩ := ho5.form)
      have hk5 := Kept.of_grown (F := fun k => (Value.slice A0 n0 c0').ownBlock = some k) hgr5 (fun k hk => hk)
      have hlt5 := lt_of_block HP3.out
      go_meet
      refine ⟨A5, n5, c5', rfl, by rw [HTB.out, optI_t]; exact ho5, (b3.trans (HBA.out.mono b3.size)).trans (hk5.below (by have := b3.size; omega) (fun k hk => by have := (Na.out.lt k hk).1; omega)), hide ((hk5.block w.heap.size (by omega) (fun e => by have := (Na.out.lt _ e).1; omega)).trans ((HBA.out.block w.heap.size hlt5).trans HP3.out)), by have := hk5.size; omega⟩
    | false =>
      have HTB := hide t
      clear t
      go_wp2_with fail
      go_meet
      exact ⟨_, _, _, rfl, by rw [HTB.out, optI_f, List.append_nil]; exact N1, b3, HP3, hs1⟩
  clear N1 b3 HP3 hs1
  obtain ⟨A1, n1, c1', rfl, N2, b4, HP4, hs1⟩ := hcut
  generalize wc = w4 at *
  have hns1 : (ns0 ++ optI (ut (usedT m.kd) 4) [m.sl]).length ≤ 7 := by
    cases ut (usedT m.kd) 4 with
    | true => rw [optI_t, List.length_append]; simp only [List.length_cons, List.length_nil]; omega
    | false => rw [optI_f, List.append_nil]; omega
  generalize ha1 : ns0 ++ optI (ut (usedT m.kd) 4) [m.sl] = ns1 at *
  have HA1 := hide ha1
  clear ha1
  go_wp2_with fail
  refine (H_hl.out _).mono ?_
  rintro e w' ⟨rfl, rfl⟩
  go_upto_if 40 with fail
  go_cut [4] (fun x wx => ∃ A n c, x = .slice A n c ∧ OwnI wx s1 (.slice A n c) (ns1 ++ optI (ut (usedT m.kd) 16) [m.lw]) ∧ Below w.heap.size w wx ∧ Hid (wx.heap[w.heap.size]? = some (.cells m.cells 37 (0, 0))) ∧ s1 ≤ wx.heap.size)
  case first => as_aux_lemma =>
    have hs1 : s1 ≤ w4.heap.size := by exact hs1
    cases t : ut (usedT m.kd) 16 with
    | true =>
      have HTB := hide t
      have c7 := (row_cells HP4.out 7).1
      simp only [Msgv.cells, List.getElem?_toArray, List.getElem?_cons_succ, List.getElem?_cons_zero] at c7
      have hne := HasI.new w4 3 [m.lw] (0, 0) w4.heap.size rfl
      have ba := (Below.refl _ w4).alloc (Nat.le_refl _) (.cells (icells [m.lw]) 3)
      have ei : icells [m.lw] = #[.int .i64 m.lw] := rfl
      rw [ei] at hne ba
      have Na := hide (N2.below ba)
      have HNE := hide hne
      have HBA := hide ba
      have hza : w4.heap.size ≤ (w4.alloc (.cells #[.int .i64 m.lw] 3)).heap.size := ba.size
      clear ei hne ba t
      go_wp2_with (at_builtin; refine list_append_ints _ (by rfl) (.tmp 41) (.tmp 44) rfl s1 (.slice A1 n1 c1') (ns1) rfl Na.out (w4.heap.size + 1) (some ⟨w4.heap.size, 0, none⟩) 1 1 [m.lw] rfl HNE.out rfl (by have := hns1; omega) (by omega) ?_; intro v5 w5 ho5 hgr5; obtain ⟨A5, n5, c5', rfl, _, _, _⟩ := ho5.form)
      have hk5 := Kept.of_grown (F := fun k => (Value.slice A1 n1 c1').ownBlock = some k) hgr5 (fun k hk => hk)
      have hlt5 := lt_of_block HP4.out
      go_meet
      refine ⟨A5, n5, c5', rfl, by rw [HTB.out, optI_t]; exact ho5, (b4.trans (HBA.out.mono b4.size)).trans (hk5.below (by have := b4.size; omega) (fun k hk => by have := (Na.out.lt k hk).1; omega)), hide ((hk5.block w.heap.size (by omega) (fun e => by have := (Na.out.lt _ e).1; omega)).trans ((HBA.out.block w.heap.size hlt5).trans HP4.out)), by have := hk5.size; omega⟩
    | false =>
      have HTB := hide t
      clear t
      go_wp2_with fail
      go_meet
      exact ⟨_, _, _, rfl, by rw [HTB.out, optI_f, List.append_nil]; exact N2, b4, HP4, hs1⟩
  clear N2 b4 HP4 hs1
  obtain ⟨A2, n2, c2', rfl, N3, b5, HP5, hs1⟩ := hcut
  generalize wc = w5 at *
  have hns2 : (ns1 ++ optI (ut (usedT m.kd) 16) [m.lw]).length ≤ 8 := by
    cases ut (usedT m.kd) 16 with
    | true => rw [optI_t, List.length_append]; simp only [List.length_cons, List.length_nil]; omega
    | false => rw [optI_f, List.append_nil]; omega
  generalize ha2 : ns1 ++ optI (ut (usedT m.kd) 16) [m.lw] = ns2 at *
  have HA2 := hide ha2
  clear ha2
  go_wp2_with fail
  refine (H_ht.out _).mono ?_
  rintro e w' ⟨rfl, rfl⟩
  go_upto_if 47 with fail
  go_cut [4] (fun x wx => ∃ A n c, x = .slice A n c ∧ OwnI wx s1 (.slice A n c) (ns2 ++ optI (ut (usedT m.kd) 32) [m.tm]) ∧ Below w.heap.size w wx ∧ Hid (wx.heap[w.heap.size]? = some (.cells m.cells 37 (0, 0))) ∧ s1 ≤ wx.heap.size)
  case first => as_aux_lemma =>
    have hs1 : s1 ≤ w5.heap.size := by exact hs1
    cases t : ut (usedT m.kd) 32 with
    | true =>
      have HTB := hide t
      have c8 := (row_cells HP5.out 8).1
      simp only [Msgv.cells, List.getElem?_toArray, List.getElem?_cons_succ, List.getElem?_cons_zero] at c8
      have hne := HasI.new w5 3 [m.tm] (0, 0) w5.heap.size rfl
      have ba := (Below.refl _ w5).alloc (Nat.le_refl _) (.cells (icells [m.tm]) 3)
      have ei : icells [m.tm] = #[.int .i64 m.tm] := rfl
      rw [ei] at hne ba
      have Na := hide (N3.below ba)
      have HNE := hide hne
      have HBA := hide ba
      have hza : w5.heap.size ≤ (w5.alloc (.cells #[.int .i64 m.tm] 3)).heap.size := ba.size
      clear ei hne ba t
      go_wp2_with (at_builtin; refine list_append_ints _ (by rfl) (.tmp 48) (.tmp 51) rfl s1 (.slice A2 n2 c2') (ns2) rfl Na.out (w5.heap.size + 1) (some ⟨w5.heap.size, 0, none⟩) 1 1 [m.tm] rfl HNE.out rfl (by have := hns2; omega) (by omega) ?_; intro v5 w5 ho5 hgr5; obtain ⟨A5, n5, c5', rfl, _, _, _⟩ := ho5.form)
      have hk5 := Kept.of_grown (F := fun k => (Value.slice A2 n2 c2').ownBlock = some k) hgr5 (fun k hk => hk)
      have hlt5 := lt_of_block HP5.out
      go_meet
      refine ⟨A5, n5, c5', rfl, by rw [HTB.out, optI_t]; exact ho5, (b5.trans (HBA.out.mono b5.size)).trans (hk5.below (by have := b5.size; omega) (fun k hk => by have := (Na.out.lt k hk).1; omega)), hide ((hk5.block w.heap.size (by omega) (fun e => by have := (Na.out.lt _ e).1; omega)).trans ((HBA.out.block w.heap.size hlt5).trans HP5.out)), by have := hk5.size; omega⟩
    | false =>
      have HTB := hide t
      clear t
      go_wp2_with fail
      go_meet
      exact ⟨_, _, _, rfl, by rw [HTB.out, optI_f, List.append_nil]; exact N3, b5, HP5, hs1⟩
  clear N3 b5 HP5 hs1
  obtain ⟨A3, n3, c3', rfl, N4, b6, HP6, hs1⟩ := hcut
  generalize wc = w6 at *
  have hns3 : (ns2 ++ optI (ut (usedT m.kd) 32) [m.tm]).length ≤ 9 := by
    cases ut (usedT m.kd) 32 with
    | true => rw [optI_t, List.length_append]; simp only [List.length_cons, List.length_nil]; omega
    | false => rw [optI_f, List.append_nil]; omega
  generalize ha3 : ns2 ++ optI (ut (usedT m.kd) 32) [m.tm] = ns3 at *
  have HA3 := hide ha3
  clear ha3
  go_upto_region 12 with fail
  have O9 := Own.new w6 [] w6.heap.size w6.heap.size rfl (Nat.le_refl _) (by simp)
  have b9' := (Below.refl _ w6).alloc (Nat.le_refl _) (.cells (bcells []) 5)
  have eb : bcells [] = #[] := rfl
  rw [eb] at O9 b9'
  clear eb
  obtain ⟨_, _, _, e2, hnl, _, g4⟩ := N4.form
  injection e2 with e11 e12 e13
  subst e11 e12 e13
  have HNL := hide hnl.out
  generalize w6.alloc (.cells #[] 5) = w9 at *
  have Y0 : BY w9 w6.heap.size (.slice (some ⟨w6.heap.size, 0, none⟩) 0 0) [] w9 := ⟨O9, Below.refl _ _, b9'.size⟩
  have hlt9 : w.heap.size < w6.heap.size := lt_of_block HP6.out
  have b9 := b6.trans (b9'.mono b6.size)
  have HNS : Hid (∀ W, Below w6.heap.size w9 W → HasI W w6.heap.size A3 ns3) := hide (fun W h => (g4.on (Nat.le_refl _) b9').keep fun k hk => h.block k hk)
  have HBX : Hid (∀ W, Below w6.heap.size w9 W → W.heap[w.heap.size]? = some (.cells m.cells 37 (0, 0))) := hide (fun W h => (h.block _ hlt9).trans ((b9'.block _ hlt9).trans HP6.out))
  have HMW : Hid (∀ W, Below w6.heap.size w9 W → IsM W B m) := hide (fun W h => HMM.out W (b9.trans (h.mono b6.size)))
  have HEND : Hid (∀ W, Below w6.heap.size w9 W → Below w.heap.size w W) := hide (fun W h => b9.trans (h.mono b6.size))
  have hwg : w.heap.size ≤ w6.heap.size := b6.size
  have hBg : B ≤ w6.heap.size := by omega
  clear N4 HP6 b6 O9 b9' g4 hnl b9 HMM hs1
  generalize w6.heap.size = g9 at *
  have hnn : n3 ≤ 9 := by rw [← HNL.out]; exact hns3
  go_wp2_with fail
  go_loopw [5, 56] (fun x i wr => ∃ (j : Nat) (A : Option Addr) (n c : Nat), j ≤ n3 ∧ i = .int .i64 j ∧ x = .slice A n c ∧ BY w9 g9 (.slice A n c) (encNs (ns3.take j)) wr) (fun _ i _ => n3 - (intOf i).toNat)
  case atStart => exact ⟨0, _, _, _, Nat.zero_le _, rfl, rfl, by simpa [encNs] using Y0⟩
  case round =>
    clear Y0
    obtain ⟨j, A, n, c, hj, rfl, rfl, Y⟩ := hrel
    by_cases hlt : j < n3
    · have hlt' : j < ns3.length := by rw [HNL.out]; exact hlt
      have hcl := HNS.out _ Y.bl j hlt'
      have htk := encNs_take ns3 j hlt'
      have hle : (encNs (ns3.take j)).length ≤ 81 := by
        have h1 := encNs_length (ns3.take j)
        rw [List.length_take] at h1
        omega
      generalize ns3[j] = x at *
      obtain ⟨ab, ao, rfl, hab, e0⟩ := hcl
      have HTK := hide htk
      generalize encNs (ns3.take j) = zs at *
      have hxu := unb_wrap x
      clear htk
      go_wp2_with fail
      refine (refnum_any (unb x) wr (unb_lt x)).mono ?_
      rintro e w2 ⟨v2, rfl, ho2, b2⟩
      obtain ⟨A2, n2, c2, rfl, hn2, _, hx2, _⟩ := ho2.form
      have HY := hide (Y.below b2)
      have HX2 := hide hx2
      have hb8 := bw_le (unb x)
      have hn2' := hn2.out
      rw [enc_length] at hn2'
      clear Y ho2 b2 hx2
      go_wp2_with (at_builtin; refine list_append_bytes _ rfl (.tmp 59) (.tmp 65) rfl g9 (.slice A n c) zs rfl HY.out.ow w2.heap.size A2 n2 c2 (enc (unb x)) rfl HX2.out hn2.out (by omega) HY.out.sz ?_; intro v3 w3 ho3 hgr3 hat3; have Y3 := HY.out.app ho3 hgr3; obtain ⟨A3', n3', c3'', rfl, _, _, _, _⟩ := ho3.form)
      refine ⟨⟨j + 1, A3', n3', c3'', by omega, by go_num, rfl, by rw [HTK.out]; exact Y3⟩, by simp [intOf]; omega⟩
    · obtain rfl : j = n3 := by omega
      rw [List.take_of_length_le (by rw [HNL.out]; exact Nat.le_refl _)] at Y
      have HL0 : Hid ((encNs ns3).length ≤ 81) := hide (by have h1 := encNs_length ns3; rw [HNL.out] at h1; omega)
      generalize hz0 : encNs ns3 = z0 at *
      have HZ0 := hide hz0
      clear hz0 HNS
      have hm9' := HMW.out _ Y.bl
      have hen8 := hm9'.v.en
      have hem7 := hm9'.v.em
      clear hm9'
      go_wp2_with fail
      refine (H_hv.out _).mono ?_
      rintro e w' ⟨rfl, rfl⟩
      go_upto_if 69 with fail
      go_cut [5] (fun x wx => ∃ A n c, x = .slice A n c ∧ BY w9 g9 (.slice A n c) (z0 ++ optB (ut (usedT m.kd) 64) (encV m.v.k m.v.cs m.v.ns)) wx)
      case first => as_aux_lemma =>
        cases t : ut (usedT m.kd) 64 with
        | true =>
          have HTB := hide t
          clear t
          have hm9 := HMW.out _ Y.bl
          have hb9 := HBX.out _ Y.bl
          have c9 := (row_cells hb9 9).1
          have c10 := (row_cells hb9 10).1
          have c11 := (row_cells hb9 11).1
          simp only [Msgv.cells, List.getElem?_toArray, List.getElem?_cons_succ, List.getElem?_cons_zero] at c9 c10 c11
          have hsz := Y.sz
          go_wp2_with fail
          refine (rvbytes_any m.v.k m.v.A m.v.D m.v.n m.v.c m.v.m m.v.d B m.v.cs m.v.ns wr hm9.v.c hm9.v.i (by omega) hm9.v.en hm9.v.em hm9.v.cc (by omega)).mono ?_
          rintro e wa ⟨va, rfl, hoa, ba⟩
          obtain ⟨Aa0, na0, ca0, rfl, hna0, _, hxa0, _⟩ := hoa.form
          have HYA0 := hide (Y.below ba)
          have HXA0 := hide hxa0
          have HLA0 : Hid ((z0).length + na0 ≤ 140737488355328) := hide (by have h1 := hna0.out; have h2 := HL0.out; have h3 := HVE.out; omega)
          clear Y hoa ba hxa0
          go_wp2_with (at_builtin; refine list_append_bytes _ rfl (.tmp 70) (.tmp 73) rfl g9 (.slice A n c) (z0) rfl HYA0.out.ow wa.heap.size Aa0 na0 ca0 (encV m.v.k m.v.cs m.v.ns) rfl HXA0.out hna0.out HLA0.out HYA0.out.sz ?_; intro vb0 wb0 hob0 hgrb0 hatb0; have Y := HYA0.out.app hob0 hgrb0; obtain ⟨Ab0, nb0, cb0, rfl, _, _, _, _⟩ := hob0.form)
          go_meet
          exact ⟨_, _, _, rfl, by rw [HTB.out, optB_t]; exact Y⟩
        | false =>
          have HTB := hide t
          clear t
          go_wp2_with fail
          go_meet
          exact ⟨_, _, _, rfl, by rw [HTB.out, optB_f, List.append_nil]; exact Y⟩
      clear Y
      obtain ⟨A, n, c, rfl, Y⟩ := hcut
      generalize wc = wr at *
      have HL1 : Hid ((z0 ++ optB (ut (usedT m.kd) 64) (encV m.v.k m.v.cs m.v.ns)).length ≤ 1000) := hide (by
        have h1 := HL0.out
        have h2 := optB_len (ut (usedT m.kd) 64) (encV m.v.k m.v.cs m.v.ns)
        have h3 := HVE.out
        rw [List.length_append]
        omega)
      generalize hz1 : z0 ++ optB (ut (usedT m.kd) 64) (encV m.v.k m.v.cs m.v.ns) = z1 at *
      have HZ_z1 := hide hz1
      clear hz1
      go_wp2_with fail
      refine (H_ho.out _).mono ?_
      rintro e w' ⟨rfl, rfl⟩
      go_upto_if 76 with fail
      go_cut [5] (fun x wx => ∃ A n c, x = .slice A n c ∧ BY w9 g9 (.slice A n c) (z1 ++ optB (ut (usedT m.kd) 128) (enc m.vn)) wx)
      case first => as_aux_lemma =>
        cases t : ut (usedT m.kd) 128 with
        | true =>
          have HTB := hide t
          clear t
          have hb9 := HBX.out _ Y.bl
          have c12 := (row_cells hb9 12).1
          simp only [Msgv.cells, List.getElem?_toArray, List.getElem?_cons_succ, List.getElem?_cons_zero] at c12
          have hvu : IntKind.u64.wrap (m.vn : Int) = ((m.vn : Nat) : Int) := by rw [IntKind.wrap_u64]; omega
          go_wp2_with fail
          refine (refnum_any m.vn wr (by omega)).mono ?_
          rintro e wa ⟨va, rfl, hoa, ba⟩
          obtain ⟨Aa1, na1, ca1, rfl, hna1, _, hxa1, _⟩ := hoa.form
          have HYA1 := hide (Y.below ba)
          have HXA1 := hide hxa1
          have HLA1 : Hid ((z1).length + na1 ≤ 140737488355328) := hide (by have h1 := hna1.out; have h2 := HL1.out; have h4 := bw_le m.vn; rw [enc_length] at h1; omega)
          clear Y hoa ba hxa1
          go_wp2_with (at_builtin; refine list_append_bytes _ rfl (.tmp 77) (.tmp 82) rfl g9 (.slice A n c) (z1) rfl HYA1.out.ow wa.heap.size Aa1 na1 ca1 (enc m.vn) rfl HXA1.out hna1.out HLA1.out HYA1.out.sz ?_; intro vb1 wb1 hob1 hgrb1 hatb1; have Y := HYA1.out.app hob1 hgrb1; obtain ⟨Ab1, nb1, cb1, rfl, _, _, _, _⟩ := hob1.form)
          go_meet
          exact ⟨_, _, _, rfl, by rw [HTB.out, optB_t]; exact Y⟩
        | false =>
          have HTB := hide t
          clear t
          go_wp2_with fail
          go_meet
          exact ⟨_, _, _, rfl, by rw [HTB.out, optB_f, List.append_nil]; exact Y⟩
      clear Y
      obtain ⟨A, n, c, rfl, Y⟩ := hcut
      generalize wc = wr at *
      have HL2 : Hid ((z1 ++ optB (ut (usedT m.kd) 128) (enc m.vn)).length ≤ 1009) := hide (by
        have h1 := HL1.out
        have h2 := optB_len (ut (usedT m.kd) 128) (enc m.vn)
        have h4 := bw_le m.vn
        rw [enc_length] at h2
        rw [List.length_append]
        omega)
      generalize hz2 : z1 ++ optB (ut (usedT m.kd) 128) (enc m.vn) = z2 at *
      have HZ_z2 := hide hz2
      clear hz2
      have hb9 := HBX.out _ Y.bl
      have c12 := (row_cells hb9 12).1
      simp only [Msgv.cells, List.getElem?_toArray, List.getElem?_cons_succ, List.getElem?_cons_zero] at c12
      go_wp2_with fail
      clear c12 hb9
      go_loopw [5, 87] (fun x i wr => ∃ (j : Nat) (A : Option Addr) (n c : Nat), j ≤ m.vn ∧ i = .int .i64 j ∧ x = .slice A n c ∧ BY w9 g9 (.slice A n c) (z2 ++ encVts (usedT m.kd) ((m.vs.map Votev.lg).take j)) wr) (fun _ i _ => m.vn - (intOf i).toNat)
      case atStart => exact ⟨0, _, _, _, Nat.zero_le _, rfl, rfl, by simpa [encVts] using Y⟩
      case round =>
        clear Y
        obtain ⟨j, A, n, c, hj, rfl, rfl, Y⟩ := hrel
        by_cases hlt : j < m.vn
        · have hlt' : j < m.vs.length := by rw [hen]; exact hlt
          have hcl := (HMW.out _ Y.bl).vt j hlt'
          have HHV : Hid (∀ W, Below g9 w9 W → IsV W B m.vs[j].v.A m.vs[j].v.n m.vs[j].v.D m.vs[j].v.m m.vs[j].v.cs m.vs[j].v.ns) := hide (fun W h => ((HMW.out W h).vt j hlt').2)
          have hfv := HFV.out j hlt'
          have hu128 : ut (usedT m.kd) 128 = true := by
            cases e : ut (usedT m.kd) 128 with
            | true => rfl
            | false =>
              have e0 : m.vs.map Votev.lg = [] := HO0.out e
              have := congrArg List.length e0
              rw [List.length_map] at this
              simp at this
              rw [this] at hlt'
              simp at hlt'
          have htk := encVts_take (usedT m.kd) (m.vs.map Votev.lg) j (by rw [List.length_map]; exact hlt')
          rw [List.getElem_map] at htk
          have hle : (z2 ++ encVts (usedT m.kd) ((m.vs.map Votev.lg).take j)).length ≤ 50000 := by
            have h1 := HLV.out j
            have h2 := HL2.out
            rw [List.length_append]
            omega
          generalize m.vs[j] = v at *
          have HZ : Hid (z2 ++ encVts (usedT m.kd) ((m.vs.map Votev.lg).take (j + 1)) = ((((z2 ++ encVts (usedT m.kd) ((m.vs.map Votev.lg).take j)) ++ enc (unb v.sl)) ++ enc (unb v.br)) ++ enc (unb v.bn)) ++ encV v.v.k v.v.cs v.v.ns) := hide (by rw [htk]; unfold encVt; rw [putL_ut, if_pos hu128]; simp [encNs, Votev.lg])
          generalize z2 ++ encVts (usedT m.kd) ((m.vs.map Votev.lg).take j) = ys at *
          have HLE := hide hle
          obtain ⟨⟨ab, ao, hA, hab, e0, e1, e2, e3, e4, e5⟩, _⟩ := hcl
          have hvv := HHV.out _ Y.bl
          have hn8 : v.v.n ≤ 8 := by rw [← hvv.en]; exact hfv.v.cl
          have hm7 : v.v.m ≤ 7 := by rw [← hvv.em]; exact hfv.v.nl
          have hen8' := hvv.en
          have hem7' := hvv.em
          have hbx := HBX.out _ Y.bl
          have c12 := (row_cells hbx 12).1
          simp only [Msgv.cells, List.getElem?_toArray, List.getElem?_cons_succ, List.getElem?_cons_zero] at c12
          rw [hA] at c12
          go_upto_region 25 with fail
          have hq := heap_alloc_new wr (.cells #[.int .i64 v.sl, .int .i64 v.br, .int .i64 v.bn, .int .i64 v.v.k, .slice v.v.A v.v.n v.v.c, .slice v.v.D v.v.m v.v.d] 54)
          have ba := (Below.refl _ wr).alloc (Nat.le_refl _) (.cells #[.int .i64 v.sl, .int .i64 v.br, .int .i64 v.bn, .int .i64 v.v.k, .slice v.v.A v.v.n v.v.c, .slice v.v.D v.v.m v.v.d] 54)
          have hne : (Value.slice A n c).ownBlock ≠ some wr.heap.size := fun e => by have := (Y.ow.lt _ e).2; omega
          have Y' := Y.below ba
          generalize wr.alloc (.cells #[.int .i64 v.sl, .int .i64 v.br, .int .i64 v.bn, .int .i64 v.v.k, .slice v.v.A v.v.n v.v.c, .slice v.v.D v.v.m v.v.d] 54) = w0 at *
          have hqz := lt_of_block hq
          clear Y e0 e1 e2 e3 e4 e5 ba c12 hbx
          have Y := Y'
          clear Y'
          generalize wr.heap.size = gv at *
          have HVE2 := hide (encV_len' hfv.v)
          have HLf : Hid ((ys ++ enc (unb v.sl)).length ≤ 50009 ∧ (ys ++ enc (unb v.sl) ++ enc (unb v.br)).length ≤ 50018 ∧ (ys ++ enc (unb v.sl) ++ enc (unb v.br) ++ enc (unb v.bn)).length ≤ 50027) := hide (by
            have h1 := HLE.out
            have h2 := bw_le (unb v.sl)
            have h3 := bw_le (unb v.br)
            have h4 := bw_le (unb v.bn)
            simp only [List.length_append, enc_length]
            omega)
          have HLE1 := hide HLf.out.1
          have HLE2 := hide HLf.out.2.1
          have HLE3 := hide HLf.out.2.2
          clear hfv
          have c0 := (row_cells hq 0).1
          simp only [List.getElem?_toArray, List.getElem?_cons_succ, List.getElem?_cons_zero] at c0
          have hxu := unb_wrap v.sl
          go_wp2_with fail
          refine (refnum_any (unb v.sl) _ (unb_lt _)).mono ?_
          rintro e wa ⟨va, rfl, hoa, ba⟩
          clear c0 hxu
          obtain ⟨Aa2, na2, ca2, rfl, hna2, _, hxa2, _⟩ := hoa.form
          have HYA2 := hide (Y.below ba)
          have HXA2 := hide hxa2
          have HLA2 : Hid ((ys).length + na2 ≤ 140737488355328) := hide (by have h1 := hna2.out; have h2 := HLE.out; have h4 := bw_le (unb v.sl); rw [enc_length] at h1; omega)
          have hqa := (ba.block gv hqz).trans hq
          have hqza := lt_of_block hqa
          clear Y hoa ba hxa2
          go_wp2_with (at_builtin; refine list_append_bytes _ rfl (.tmp 95) (.tmp 99) rfl g9 (.slice A n c) (ys) rfl HYA2.out.ow wa.heap.size Aa2 na2 ca2 (enc (unb v.sl)) rfl HXA2.out hna2.out HLA2.out HYA2.out.sz ?_; intro vb2 wb2 hob2 hgrb2 hatb2; have Y := HYA2.out.app hob2 hgrb2; have hqb := ((Kept.of_grown (F := fun k => (Value.slice A n c).ownBlock = some k) hgrb2 (fun k hk => hk)).block gv hqza hne).trans hqa; have hneb : vb2.ownBlock ≠ some gv := (by rcases hatb2 with e | e; rw [e]; exact hne; rw [e]; intro e2; have := Option.some.inj e2; omega); have c1 := (row_cells hqb 1).1; simp only [List.getElem?_toArray, List.getElem?_cons_succ, List.getElem?_cons_zero] at c1; have hxu := unb_wrap v.br; obtain ⟨Ab2, nb2, cb2, rfl, _, _, _, _⟩ := hob2.form)
          clear hq hne hqz hqa hqza
          have hq := hqb
          have hne := hneb
          have hqz := lt_of_block hq
          clear hqb hneb
          refine (refnum_any (unb v.br) _ (unb_lt _)).mono ?_
          rintro e wa ⟨va, rfl, hoa, ba⟩
          clear c1 hxu
          obtain ⟨Aa3, na3, ca3, rfl, hna3, _, hxa3, _⟩ := hoa.form
          have HYA3 := hide (Y.below ba)
          have HXA3 := hide hxa3
          have HLA3 : Hid ((ys ++ enc (unb v.sl)).length + na3 ≤ 140737488355328) := hide (by have h1 := hna3.out; have h2 := HLE1.out; have h4 := bw_le (unb v.br); rw [enc_length] at h1; omega)
          have hqa := (ba.block gv hqz).trans hq
          have hqza := lt_of_block hqa
          clear Y hoa ba hxa3
          go_wp2_with (at_builtin; refine list_append_bytes _ rfl (.tmp 101) (.tmp 106) rfl g9 (.slice Ab2 nb2 cb2) (ys ++ enc (unb v.sl)) rfl HYA3.out.ow wa.heap.size Aa3 na3 ca3 (enc (unb v.br)) rfl HXA3.out hna3.out HLA3.out HYA3.out.sz ?_; intro vb3 wb3 hob3 hgrb3 hatb3; have Y := HYA3.out.app hob3 hgrb3; have hqb := ((Kept.of_grown (F := fun k => (Value.slice Ab2 nb2 cb2).ownBlock = some k) hgrb3 (fun k hk => hk)).block gv hqza hne).trans hqa; have hneb : vb3.ownBlock ≠ some gv := (by rcases hatb3 with e | e; rw [e]; exact hne; rw [e]; intro e2; have := Option.some.inj e2; omega); have c2 := (row_cells hqb 2).1; simp only [List.getElem?_toArray, List.getElem?_cons_succ, List.getElem?_cons_zero] at c2; have hxu := unb_wrap v.bn; obtain ⟨Ab3, nb3, cb3, rfl, _, _, _, _⟩ := hob3.form)
          clear hq hne hqz hqa hqza
          have hq := hqb
          have hne := hneb
          have hqz := lt_of_block hq
          clear hqb hneb
          refine (refnum_any (unb v.bn) _ (unb_lt _)).mono ?_
          rintro e wa ⟨va, rfl, hoa, ba⟩
          clear c2 hxu
          obtain ⟨Aa4, na4, ca4, rfl, hna4, _, hxa4, _⟩ := hoa.form
          have HYA4 := hide (Y.below ba)
          have HXA4 := hide hxa4
          have HLA4 : Hid ((ys ++ enc (unb v.sl) ++ enc (unb v.br)).length + na4 ≤ 140737488355328) := hide (by have h1 := hna4.out; have h2 := HLE2.out; have h4 := bw_le (unb v.bn); rw [enc_length] at h1; omega)
          have hqa := (ba.block gv hqz).trans hq
          have hqza := lt_of_block hqa
          clear Y hoa ba hxa4
          go_wp2_with (at_builtin; refine list_append_bytes _ rfl (.tmp 108) (.tmp 113) rfl g9 (.slice Ab3 nb3 cb3) (ys ++ enc (unb v.sl) ++ enc (unb v.br)) rfl HYA4.out.ow wa.heap.size Aa4 na4 ca4 (enc (unb v.bn)) rfl HXA4.out hna4.out HLA4.out HYA4.out.sz ?_; intro vb4 wb4 hob4 hgrb4 hatb4; have Y := HYA4.out.app hob4 hgrb4; have hqb := ((Kept.of_grown (F := fun k => (Value.slice Ab3 nb3 cb3).ownBlock = some k) hgrb4 (fun k hk => hk)).block gv hqza hne).trans hqa; have hneb : vb4.ownBlock ≠ some gv := (by rcases hatb4 with e | e; rw [e]; exact hne; rw [e]; intro e2; have := Option.some.inj e2; omega); have c3 := (row_cells hqb 3).1; have c4 := (row_cells hqb 4).1; have c5 := (row_cells hqb 5).1; simp only [List.getElem?_toArray, List.getElem?_cons_succ, List.getElem?_cons_zero] at c3 c4 c5; obtain ⟨Ab4, nb4, cb4, rfl, _, _, _, _⟩ := hob4.form)
          clear hq hne hqz hqa hqza
          have hq := hqb
          have hne := hneb
          have hqz := lt_of_block hq
          clear hqb hneb
          have hvw := HHV.out _ Y.bl
          have hsz := Y.sz
          refine (rvbytes_any v.v.k v.v.A v.v.D v.v.n v.v.c v.v.m v.v.d B v.v.cs v.v.ns _ hvw.c hvw.i (by omega) hvw.en hvw.em hvw.cc (by omega)).mono ?_
          rintro e wa ⟨va, rfl, hoa, ba⟩
          clear c3 c4 c5
          obtain ⟨Aa5, na5, ca5, rfl, hna5, _, hxa5, _⟩ := hoa.form
          have HYA5 := hide (Y.below ba)
          have HXA5 := hide hxa5
          have HLA5 : Hid ((ys ++ enc (unb v.sl) ++ enc (unb v.br) ++ enc (unb v.bn)).length + na5 ≤ 140737488355328) := hide (by have h1 := hna5.out; have h2 := HLE3.out; have h3 : (encV v.v.k v.v.cs v.v.ns).length ≤ 666 := HVE2.out; omega)
          have hqa := (ba.block gv hqz).trans hq
          have hqza := lt_of_block hqa
          clear Y hoa ba hxa5
          go_wp2_with (at_builtin; refine list_append_bytes _ rfl (.tmp 115) (.tmp 118) rfl g9 (.slice Ab4 nb4 cb4) (ys ++ enc (unb v.sl) ++ enc (unb v.br) ++ enc (unb v.bn)) rfl HYA5.out.ow wa.heap.size Aa5 na5 ca5 (encV v.v.k v.v.cs v.v.ns) rfl HXA5.out hna5.out HLA5.out HYA5.out.sz ?_; intro vb5 wb5 hob5 hgrb5 hatb5; have Y := HYA5.out.app hob5 hgrb5; have hqb := ((Kept.of_grown (F := fun k => (Value.slice Ab4 nb4 cb4).ownBlock = some k) hgrb5 (fun k hk => hk)).block gv hqza hne).trans hqa; have hneb : vb5.ownBlock ≠ some gv := (by rcases hatb5 with e | e; rw [e]; exact hne; rw [e]; intro e2; have := Option.some.inj e2; omega); obtain ⟨Ab5, nb5, cb5, rfl, _, _, _, _⟩ := hob5.form)
          clear hq hne hqz hqa hqza
          have hq := hqb
          have hne := hneb
          have hqz := lt_of_block hq
          clear hqb hneb
          rw [← hA]
          go_roundw
          case rel => exact ⟨j + 1, Ab5, nb5, cb5, by omega, by go_num, rfl, by rw [HZ.out]; exact Y⟩
          case measure => simp [intOf]; omega
        · obtain rfl : j = m.vn := by omega
          have HZ8 : Hid ((m.vs.map Votev.lg).take m.vn = m.vs.map Votev.lg) := hide (List.take_of_length_le (by rw [List.length_map, hen]; exact Nat.le_refl _))
          have HL3 : Hid ((z2 ++ encVts (usedT m.kd) ((m.vs.map Votev.lg).take m.vn)).length ≤ 50000) := hide (by
            have h1 := HLV.out m.vn
            have h2 := HL2.out
            rw [List.length_append]
            omega)
          generalize hz3 : z2 ++ encVts (usedT m.kd) ((m.vs.map Votev.lg).take m.vn) = z3 at *
          have HZ_z3 := hide hz3
          clear hz3
          go_wp2_with fail
          refine (H_hc.out _).mono ?_
          rintro e w' ⟨rfl, rfl⟩
          go_upto_if 122 with fail
          go_cut [5] (fun x wx => ∃ A n c, x = .slice A n c ∧ BY w9 g9 (.slice A n c) (z3 ++ optB (ut (usedT m.kd) 256) (encL m.cm.ints)) wx)
          case first => as_aux_lemma =>
            cases t : ut (usedT m.kd) 256 with
            | true =>
              have HTB := hide t
              clear t
              have hm9 := HMW.out _ Y.bl
              have hb9 := HBX.out _ Y.bl
              have c13 := (row_cells hb9 13).1
              have c14 := (row_cells hb9 14).1
              have c15 := (row_cells hb9 15).1
              have c16 := (row_cells hb9 16).1
              have c17 := (row_cells hb9 17).1
              have c18 := (row_cells hb9 18).1
              have c19 := (row_cells hb9 19).1
              have c20 := (row_cells hb9 20).1
              simp only [Msgv.cells, List.getElem?_toArray, List.getElem?_cons_succ, List.getElem?_cons_zero] at c13 c14 c15 c16 c17 c18 c19 c20
              go_wp2_with fail
              refine (rcmd_any m.cm wr hm9.cm).mono ?_
              rintro e wa ⟨va, rfl, hoa, ba⟩
              obtain ⟨Aa6, na6, ca6, rfl, hna6, _, hxa6, _⟩ := hoa.form
              have HYA6 := hide (Y.below ba)
              have HXA6 := hide hxa6
              have HLA6 : Hid ((z3).length + na6 ≤ 140737488355328) := hide (by have h1 := hna6.out; have h2 := HL3.out; have h4 := encL_length m.cm.ints; have h5 : m.cm.ints.length = 8 := rfl; omega)
              clear Y hoa ba hxa6
              go_wp2_with (at_builtin; refine list_append_bytes _ rfl (.tmp 123) (.tmp 126) rfl g9 (.slice A n c) (z3) rfl HYA6.out.ow wa.heap.size Aa6 na6 ca6 (encL m.cm.ints) rfl HXA6.out hna6.out HLA6.out HYA6.out.sz ?_; intro vb6 wb6 hob6 hgrb6 hatb6; have Y := HYA6.out.app hob6 hgrb6; obtain ⟨Ab6, nb6, cb6, rfl, _, _, _, _⟩ := hob6.form)
              go_meet
              exact ⟨_, _, _, rfl, by rw [HTB.out, optB_t]; exact Y⟩
            | false =>
              have HTB := hide t
              clear t
              go_wp2_with fail
              go_meet
              exact ⟨_, _, _, rfl, by rw [HTB.out, optB_f, List.append_nil]; exact Y⟩
          clear Y
          obtain ⟨A, n, c, rfl, Y⟩ := hcut
          generalize wc = wr at *
          have HL4 : Hid ((z3 ++ optB (ut (usedT m.kd) 256) (encL m.cm.ints)).length ≤ 50100) := hide (by
            have h1 := HL3.out
            have h2 := optB_len (ut (usedT m.kd) 256) (encL m.cm.ints)
            have h4 := encL_length m.cm.ints
            have h5 : m.cm.ints.length = 8 := rfl
            rw [List.length_append]
            omega)
          generalize hz4 : z3 ++ optB (ut (usedT m.kd) 256) (encL m.cm.ints) = z4 at *
          have HZ_z4 := hide hz4
          clear hz4
          go_wp2_with fail
          refine (H_hr.out _).mono ?_
          rintro e w' ⟨rfl, rfl⟩
          go_upto_if 129 with fail
          go_cut [5] (fun x wx => ∃ A n c, x = .slice A n c ∧ BY w9 g9 (.slice A n c) (z4 ++ optB (ut (usedT m.kd) 512) (encL [m.rk, m.rr, m.ri])) wx)
          case first => as_aux_lemma =>
            cases t : ut (usedT m.kd) 512 with
            | true =>
              have HTB := hide t
              clear t
              have HLr : Hid ((z4 ++ enc (zig m.rk)).length ≤ 50109 ∧ (z4 ++ enc (zig m.rk) ++ enc (zig m.rr)).length ≤ 50118) := hide (by have h1 := HL4.out; have h2 := bw_le (zig m.rk); have h3 := bw_le (zig m.rr); simp only [List.length_append, enc_length]; omega)
              have HLr1 := hide HLr.out.1
              have HLr2 := hide HLr.out.2
              have hb9 := HBX.out _ Y.bl
              have c21 := (row_cells hb9 21).1
              simp only [Msgv.cells, List.getElem?_toArray, List.getElem?_cons_succ, List.getElem?_cons_zero] at c21
              go_wp2_with fail
              have hm9 := HMW.out _ Y.bl
              refine (refint_any m.rk _ hm9.i1).mono ?_
              rintro e wa ⟨va, rfl, hoa, ba⟩
              clear c21 hb9 hm9
              obtain ⟨Aa7, na7, ca7, rfl, hna7, _, hxa7, _⟩ := hoa.form
              have HYA7 := hide (Y.below ba)
              have HXA7 := hide hxa7
              have HLA7 : Hid ((z4).length + na7 ≤ 140737488355328) := hide (by have h1 := hna7.out; have h2 := HL4.out; have h4 := bw_le (zig m.rk); rw [enc_length] at h1; omega)
              clear Y hoa ba hxa7
              go_wp2_with (at_builtin; refine list_append_bytes _ rfl (.tmp 130) (.tmp 134) rfl g9 (.slice A n c) (z4) rfl HYA7.out.ow wa.heap.size Aa7 na7 ca7 (enc (zig m.rk)) rfl HXA7.out hna7.out HLA7.out HYA7.out.sz ?_; intro vb7 wb7 hob7 hgrb7 hatb7; have Y := HYA7.out.app hob7 hgrb7; have hb9 := HBX.out _ Y.bl; have c22 := (row_cells hb9 22).1; simp only [Msgv.cells, List.getElem?_toArray, List.getElem?_cons_succ, List.getElem?_cons_zero] at c22; obtain ⟨Ab7, nb7, cb7, rfl, _, _, _, _⟩ := hob7.form)
              have hm9 := HMW.out _ Y.bl
              refine (refint_any m.rr _ hm9.i2).mono ?_
              rintro e wa ⟨va, rfl, hoa, ba⟩
              clear c22 hb9 hm9
              obtain ⟨Aa8, na8, ca8, rfl, hna8, _, hxa8, _⟩ := hoa.form
              have HYA8 := hide (Y.below ba)
              have HXA8 := hide hxa8
              have HLA8 : Hid ((z4 ++ enc (zig m.rk)).length + na8 ≤ 140737488355328) := hide (by have h1 := hna8.out; have h2 := HLr1.out; have h4 := bw_le (zig m.rr); rw [enc_length] at h1; omega)
              clear Y hoa ba hxa8
              go_wp2_with (at_builtin; refine list_append_bytes _ rfl (.tmp 136) (.tmp 140) rfl g9 (.slice Ab7 nb7 cb7) (z4 ++ enc (zig m.rk)) rfl HYA8.out.ow wa.heap.size Aa8 na8 ca8 (enc (zig m.rr)) rfl HXA8.out hna8.out HLA8.out HYA8.out.sz ?_; intro vb8 wb8 hob8 hgrb8 hatb8; have Y := HYA8.out.app hob8 hgrb8; have hb9 := HBX.out _ Y.bl; have c23 := (row_cells hb9 23).1; simp only [Msgv.cells, List.getElem?_toArray, List.getElem?_cons_succ, List.getElem?_cons_zero] at c23; obtain ⟨Ab8, nb8, cb8, rfl, _, _, _, _⟩ := hob8.form)
              have hm9 := HMW.out _ Y.bl
              refine (refint_any m.ri _ hm9.i3).mono ?_
              rintro e wa ⟨va, rfl, hoa, ba⟩
              clear c23 hb9 hm9
              obtain ⟨Aa9, na9, ca9, rfl, hna9, _, hxa9, _⟩ := hoa.form
              have HYA9 := hide (Y.below ba)
              have HXA9 := hide hxa9
              have HLA9 : Hid ((z4 ++ enc (zig m.rk) ++ enc (zig m.rr)).length + na9 ≤ 140737488355328) := hide (by have h1 := hna9.out; have h2 := HLr2.out; have h4 := bw_le (zig m.ri); rw [enc_length] at h1; omega)
              clear Y hoa ba hxa9
              go_wp2_with (at_builtin; refine list_append_bytes _ rfl (.tmp 142) (.tmp 146) rfl g9 (.slice Ab8 nb8 cb8) (z4 ++ enc (zig m.rk) ++ enc (zig m.rr)) rfl HYA9.out.ow wa.heap.size Aa9 na9 ca9 (enc (zig m.ri)) rfl HXA9.out hna9.out HLA9.out HYA9.out.sz ?_; intro vb9 wb9 hob9 hgrb9 hatb9; have Y := HYA9.out.app hob9 hgrb9; obtain ⟨Ab9, nb9, cb9, rfl, _, _, _, _⟩ := hob9.form)
              have ez : z4 ++ encL [m.rk, m.rr, m.ri] = z4 ++ enc (zig m.rk) ++ enc (zig m.rr) ++ enc (zig m.ri) := by simp [encL]
              go_meet
              exact ⟨_, _, _, rfl, by rw [HTB.out, optB_t]; rw [ez]; exact Y⟩
            | false =>
              have HTB := hide t
              clear t
              go_wp2_with fail
              go_meet
              exact ⟨_, _, _, rfl, by rw [HTB.out, optB_f, List.append_nil]; exact Y⟩
          clear Y
          obtain ⟨A, n, c, rfl, Y⟩ := hcut
          generalize wc = wr at *
          have HL5 : Hid ((z4 ++ optB (ut (usedT m.kd) 512) (encL [m.rk, m.rr, m.ri])).length ≤ 50200) := hide (by
            have h1 := HL4.out
            have h2 := optB_len (ut (usedT m.kd) 512) (encL [m.rk, m.rr, m.ri])
            have h4 := encL_length [m.rk, m.rr, m.ri]
            simp only [List.length_cons, List.length_nil] at h4
            rw [List.length_append]
            omega)
          generalize hz5 : z4 ++ optB (ut (usedT m.kd) 512) (encL [m.rk, m.rr, m.ri]) = z5 at *
          have HZ_z5 := hide hz5
          clear hz5
          go_wp2_with fail
          refine (H_hd.out _).mono ?_
          rintro e w' ⟨rfl, rfl⟩
          go_upto_if 149 with fail
          go_cut [5] (fun x wx => ∃ A n c, x = .slice A n c ∧ BY w9 g9 (.slice A n c) (z5 ++ optB (ut (usedT m.kd) 1024) (enc m.dn ++ m.ds)) wx)
          case first => as_aux_lemma =>
            cases t : ut (usedT m.kd) 1024 with
            | true =>
              have HTB := hide t
              clear t
              have hm9 := HMW.out _ Y.bl
              have hb9 := HBX.out _ Y.bl
              have hsz := Y.sz
              have c24 := (row_cells hb9 24).1
              simp only [Msgv.cells, List.getElem?_toArray, List.getElem?_cons_succ, List.getElem?_cons_zero] at c24
              go_wp2_with fail
              refine (reftext_any m.DA m.dn m.dc B m.ds wr hm9.d (by omega) hm9.ed (by omega)).mono ?_
              rintro e wa ⟨va, rfl, hoa, ba⟩
              obtain ⟨Aa10, na10, ca10, rfl, hna10, _, hxa10, _⟩ := hoa.form
              have HYA10 := hide (Y.below ba)
              have HXA10 := hide hxa10
              have HLA10 : Hid ((z5).length + na10 ≤ 140737488355328) := hide (by have h1 := hna10.out; have h2 := HL5.out; have h4 := bw_le m.dn; rw [List.length_append, enc_length] at h1; omega)
              clear Y hoa ba hxa10
              go_wp2_with (at_builtin; refine list_append_bytes _ rfl (.tmp 150) (.tmp 153) rfl g9 (.slice A n c) (z5) rfl HYA10.out.ow wa.heap.size Aa10 na10 ca10 (enc m.dn ++ m.ds) rfl HXA10.out hna10.out HLA10.out HYA10.out.sz ?_; intro vb10 wb10 hob10 hgrb10 hatb10; have Y := HYA10.out.app hob10 hgrb10; obtain ⟨Ab10, nb10, cb10, rfl, _, _, _, _⟩ := hob10.form)
              go_meet
              exact ⟨_, _, _, rfl, by rw [HTB.out, optB_t]; exact Y⟩
            | false =>
              have HTB := hide t
              clear t
              go_wp2_with fail
              go_meet
              exact ⟨_, _, _, rfl, by rw [HTB.out, optB_f, List.append_nil]; exact Y⟩
          clear Y
          obtain ⟨A, n, c, rfl, Y⟩ := hcut
          generalize wc = wr at *
          have HL6 : Hid ((z5 ++ optB (ut (usedT m.kd) 1024) (enc m.dn ++ m.ds)).length ≤ 60000) := hide (by
            have h1 := HL5.out
            have h2 := optB_len (ut (usedT m.kd) 1024) (enc m.dn ++ m.ds)
            have h4 := bw_le m.dn
            rw [List.length_append, enc_length] at h2
            rw [List.length_append]
            omega)
          generalize hz6 : z5 ++ optB (ut (usedT m.kd) 1024) (enc m.dn ++ m.ds) = z6 at *
          have HZ_z6 := hide hz6
          clear hz6
          have HFIN : Hid (z6 = encM m.lg (usedT m.kd)) := hide (by
            rw [← HZ_z6.out, ← HZ_z5.out, ← HZ_z4.out, ← HZ_z3.out, HZ8.out, ← HZ_z2.out, ← HZ_z1.out, ← HZ0.out, ← HA3.out, ← HA2.out, ← HA1.out, ← HA0.out]
            simp only [encNs_append, encNs_opt]
            unfold encM Msgv.lg
            rw [putL_ut, if_pos HU1.out, put2_opt, put1_opt, put1_opt, put1_opt, put1_opt]
            simp only [List.length_map, hen, hed, unb_nat m.vn (by omega)]
            have e2 : encNs [m.br, m.bn] = enc (unb m.br) ++ enc (unb m.bn) := by simp [encNs]
            have e1 : ∀ x, encNs [x] = enc (unb x) := fun x => by simp [encNs]
            rw [e2, e1, e1, e1]
            cases ut (usedT m.kd) 2 <;> simp [optB])
          have hend := HEND.out _ Y.bl
          go_wp2
          go_ret
          exact ⟨_, rfl, by rw [← HFIN.out]; exact Y.ow.from_ hwg, hend⟩
end Go.Proofs.YtapbcpilklhoiabDoor
