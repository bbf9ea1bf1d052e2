/-
  LearnerCounts of the statements: for every input the law returns true, and what came in reads as it did. No condition.
  LearnerCounts: the walk. No condition but the reach of what is read.
-/
import Derived.Test.YtnngmapphacpkaaML1
import Derived.Test.YtnngmapphacpkaaValRefCheck
import Derived.Test.YtnngmapphacpkaaValBase
import Derived.Test.YtnngmapphacpkaaFrameV
set_option linter.unusedSimpArgs false
set_option linter.unusedVariables false

namespace Go.Proofs.Ytnngmapphacpkaa
open Go.RowKit

theorem list_append_ints4 {ops : Array Oper} {rest : List Oper} {o : Oper} {a : Act} {Q : Exit → Act → World → Prop} (w : World) (hw : Region.wanted o (yielded ops a.tmps) = true) (s x : Operand)
    (ho : o.op = .call { callee := .builtin .append, args := #[s, x], argTypes := #[22, 22] }) (base : Nat) (v : Value) (xs : List Int) (hs : a.eval s = v) (hown : OwnI w base v xs)
    (B : Nat) (A : Option Addr) (m c : Nat) (news : List Int) (hx : a.eval x = .slice A m c) (hr : HasI w B A news) (hm : news.length = m)
    (hlen : xs.length + m ≤ 17592186044416) (hbase : base ≤ w.heap.size)
    (h : ∀ v' w', OwnI w' base v' (xs ++ news) → w.grownBy w' v.ownBlock → (v'.ownBlock = v.ownBlock ∨ v'.ownBlock = some w.heap.size) → wpList Try.prog ops Q rest (a.put o.dst v') w') : wpList Try.prog ops Q (o :: rest) a w := by
  obtain ⟨v', w', hrun, h2, h3, h4⟩ := run_append_ints w o.type base v xs hown B A m c news hr hm hlen hbase
  exact list_append_want w hw s x 22 22 ho _ _ hs hx v' w' hrun (h v' w' h2 h3 h4)
/-- The vote that is given again and again. -/
def y5 (x : Vl) : Vt := ⟨5, 3, 1, x⟩
/-- The learner behind those nodes' votes. -/
structure CI (ms L : List Int) (x : Vl) (l : Lv) : Prop where
  hms : l.ms = ms
  nx : l.next = 5
  st : (enB ms L = true ∧ l.D 5 = some x) ∨ (enB ms L = false ∧ l.D 5 = none ∧ ∀ k, l.at_ 5 k = if k ∈ ms ∧ k ∈ L then some (y5 x) else none)
theorem enB_more {ms L : List Int} {q : Int} (h : enB ms L = true) : enB ms (L ++ [q]) = true := by
  unfold enB cnt at *
  have h1 := of_decide_eq_true h
  refine decide_eq_true (Nat.le_trans h1 (List.countP_mono_left fun a _ ha => ?_))
  rw [decide_eq_true_eq] at ha ⊢
  exact List.mem_append_left _ ha
theorem enB_same {ms L : List Int} {q : Int} (h : q ∉ ms ∨ q ∈ L) : enB ms (L ++ [q]) = enB ms L := by
  unfold enB cnt
  have e : ms.countP (fun m => decide (m ∈ L ++ [q])) = ms.countP (fun m => decide (m ∈ L)) := by
    apply List.countP_congr
    intro a ha
    rw [decide_eq_true_eq, decide_eq_true_eq, List.mem_append, List.mem_singleton]
    constructor
    · rintro (h1 | h1)
      · exact h1
      · rcases h with h | h
        · exact absurd (h1 ▸ ha) h
        · exact h1 ▸ h
    · exact .inl
  rw [e]
theorem CI.start (ms : List Int) (x : Vl) : CI ms [] x (Lv.new ms 5) := by
  refine ⟨rfl, rfl, .inr ⟨?_, rfl, fun k => ?_⟩⟩
  · unfold enB cnt
    apply decide_eq_false
    simp
  · rw [if_neg (fun h => absurd h.2 (by simp))]
    rfl
theorem Lv.opn_of {l : Lv} {s : Int} (h1 : l.next ≤ s ∧ s < l.next + 128 ∧ s ≤ 1099511627776) (h2 : l.D s = none) : l.opn s = true := by
  unfold Lv.opn
  rw [decide_eq_true ⟨h1.1, by omega, h1.2.2⟩, h2]
  rfl
theorem Lv.opn_not {l : Lv} {s : Int} (h : l.D s ≠ none) : l.opn s = false := by
  unfold Lv.opn
  cases hD : l.D s with
  | none => exact absurd hD h
  | some x => simp
theorem CI.step {ms L : List Int} {x : Vl} {l : Lv} (h : CI ms L x l) (hok : chkV x.k x.cs x.ns = 0) (q : Int) : CI ms (L ++ [q]) x (l.voted q (y5 x)).1 ∧ (l.voted q (y5 x)).2 = (enB ms (L ++ [q]) && !enB ms L) := by
  rcases h.st with ⟨e, hD⟩ | ⟨e, hD, hA⟩
  · have h1 : l.voted q (y5 x) = (l, false) := if_neg (fun h2 => by
      have h3 := h2.1
      rw [show (y5 x).s = 5 from rfl, Lv.opn_not (by rw [hD]; simp)] at h3
      cases h3)
    rw [h1]
    refine ⟨⟨h.hms, h.nx, .inl ⟨enB_more e, hD⟩⟩, ?_⟩
    rw [e]
    simp
  · have hop : l.opn 5 = true := Lv.opn_of (by rw [h.nx]; omega) hD
    by_cases hq : q ∈ ms
    · have h1 : l.voted q (y5 x) = (l.hrd 5).vote2 q (y5 x) := if_pos ⟨hop, hok, by rw [h.hms]; exact hq, (show valB 3 1 = true by decide)⟩
      rw [h1]
      have hat : ∀ k, (((l.hrd 5).V 5).getD fun _ => none) k = if k ∈ ms ∧ k ∈ L then some (y5 x) else none := hA
      by_cases hL : q ∈ L
      · have h2 : (l.hrd 5).kept q (y5 x) = (l.hrd 5, false) := if_neg (by
          rw [show (y5 x).s = 5 from rfl, hat, if_pos ⟨hq, hL⟩]
          show ¬ belB 3 1 3 1 = true
          decide)
        have h3 : (l.hrd 5).vote2 q (y5 x) = (l.hrd 5, false) := by
          unfold Lv.vote2
          rw [h2]
          rfl
        rw [h3, enB_same (.inr hL)]
        refine ⟨⟨h.hms, h.nx, .inr ⟨by rw [enB_same (.inr hL)]; exact e, hD, fun k => ?_⟩⟩, by rw [e]; rfl⟩
        show (((l.hrd 5).V 5).getD fun _ => none) k = _
        rw [hat]
        by_cases hk : k = q
        · subst hk
          rw [if_pos ⟨hq, hL⟩, if_pos ⟨hq, List.mem_append_left _ hL⟩]
        · simp [hk]
      · have h2 : (l.hrd 5).kept q (y5 x) = ((l.hrd 5).setV 5 (fun z => if z = q then some (y5 x) else (((l.hrd 5).V 5).getD fun _ => none) z), true) := if_pos (by
          rw [show (y5 x).s = 5 from rfl, hat, if_neg (fun h => hL h.2)]
          show belB 0 0 3 1 = true
          decide)
        have hN : ∀ k, (if k = q then some (y5 x) else (((l.hrd 5).V 5).getD fun _ => none) k) = if k ∈ ms ∧ k ∈ L ++ [q] then some (y5 x) else none := fun k => by
          by_cases hk : k = q
          · subst hk
            rw [if_pos rfl, if_pos ⟨hq, by simp⟩]
          · rw [if_neg hk, hat]
            simp [hk]
        generalize hN0 : (fun z => if z = q then some (y5 x) else (((l.hrd 5).V 5).getD fun _ => none) z) = N at *
        have hN1 : ∀ k, N k = if k ∈ ms ∧ k ∈ L ++ [q] then some (y5 x) else none := fun k => by rw [← hN0]; exact hN k
        have hag : quo ms (agr N (y5 x)) = enB ms (L ++ [q]) := by
          unfold quo enB cnt
          have e : ms.countP (agr N (y5 x)) = ms.countP (fun m => decide (m ∈ L ++ [q])) := by
            apply List.countP_congr
            intro a ha
            unfold agr
            rw [hN1, decide_eq_true_eq]
            by_cases h4 : a ∈ L ++ [q]
            · rw [if_pos ⟨ha, h4⟩]
              simp only [h4, iff_true]
              have e3 := sameV_refl (y5 x).v.k (y5 x).v.cs (y5 x).v.ns
              simp [e3]
            · rw [if_neg (fun h => h4 h.2)]
              simp [h4]
          rw [e]
        have hms : ((l.hrd 5).setV 5 N).ms = ms := h.hms
        have hat2 : ((l.hrd 5).setV 5 N).at_ 5 = N := by
          unfold Lv.at_
          rw [Lv.setV_same]
          rfl
        cases hr : enB ms (L ++ [q])
        · have h3 : (l.hrd 5).vote2 q (y5 x) = ((l.hrd 5).setV 5 N, false) := by
            unfold Lv.vote2
            rw [h2]
            refine if_neg ?_
            show ¬ (true && quo ((l.hrd 5).setV 5 N).ms (agr (((l.hrd 5).setV 5 N).at_ 5) (y5 x))) = true
            rw [hms, hat2, hag, hr]
            simp
          rw [h3]
          refine ⟨⟨h.hms, h.nx, .inr ⟨hr, hD, fun k => ?_⟩⟩, rfl⟩
          show ((l.hrd 5).setV 5 N).at_ 5 k = _
          rw [hat2, hN1]
        · have h3 : (l.hrd 5).vote2 q (y5 x) = (((l.hrd 5).setV 5 N).dec 5 x, true) := by
            unfold Lv.vote2
            rw [h2]
            refine if_pos ?_
            show (true && quo ((l.hrd 5).setV 5 N).ms (agr (((l.hrd 5).setV 5 N).at_ 5) (y5 x))) = true
            rw [hms, hat2, hag, hr]
            rfl
          rw [h3]
          refine ⟨⟨h.hms, h.nx, .inl ⟨hr, ?_⟩⟩, by rw [e]; rfl⟩
          show (if (5 : Int) = 5 then some x else ((l.hrd 5).setV 5 N).D 5) = some x
          rw [if_pos rfl]
    · have h1 : l.voted q (y5 x) = (l, false) := if_neg (fun h2 => hq (by rw [← h.hms]; exact h2.2.2.1))
      rw [h1, enB_same (.inl hq)]
      refine ⟨⟨h.hms, h.nx, .inr ⟨by rw [enB_same (.inl hq)]; exact e, hD, fun k => ?_⟩⟩, by rw [e]; rfl⟩
      rw [hA]
      by_cases hk : k = q
      · subst hk
        simp [hq]
      · simp [hk]
theorem ArgV.of_own {w0 w w' : World} {F : Nat → Prop} {k : Int} {cs : List Cmdv} {ns : List Int} {A D : Option Addr} {n c m d : Nat} (ho : OwnC w w0.heap.size (.slice A n c) cs) (hi : OwnI w w0.heap.size (.slice D m d) ns) (hb : Below w.heap.size w w') (hF : ∀ j, F j → j < w0.heap.size) (hm : m ≤ 140737488355328) : ArgV w' F A n D m ⟨k, cs, ns⟩ := by
  obtain ⟨a1, a2⟩ := ownc_slice (ho.below hb)
  obtain ⟨b1, b2⟩ := owni_slice' (hi.below hb)
  refine ⟨a2, b2, a1, b1, hm, fun b o e hf => ?_, fun b o e hf => ?_⟩
  · have := (ho.lt b (by rw [e]; rfl)).1
    have := hF b hf
    omega
  · have := (hi.lt b (by rw [e]; rfl)).1
    have := hF b hf
    omega
/-- What the loop over nodes holds. -/
structure CR (w0 : World) (g : Nat) (ms L : List Int) (x : Vl) (s8 : Value) (wr : World) : Prop where
  mem : ∃ l F, EL wr F g l ∧ CI ms L x l ∧ (∀ i, F i → w0.heap.size ≤ i) ∧ ∀ i, s8.ownBlock = some i → ¬ F i
  own : OwnI wr w0.heap.size s8 L
  bel : Below w0.heap.size w0 wr
set_option maxHeartbeats 3200000 in
set_option maxRecDepth 20000 in
theorem counts_walk (Am : Option Addr) (nm cm : Nat) (ms : List Int) (An : Option Addr) (nn cn : Nat) (ns : List Int) (k : Int) (A : Option Addr) (n c : Nat) (D : Option Addr) (m d : Nat) (cs : List Cmdv) (xs : List Int) (w : World)
    (hm : HasI w w.heap.size Am ms) (en : ms.length = nm) (ln : nm ≤ 17592186043904) (hN : HasI w w.heap.size An ns) (eN : ns.length = nn) (lN : nn ≤ 17592186043904) (hV : IsV w w.heap.size A n D m cs xs) :
    Calls Try.prog 4 #[.slice Am nm cm, .slice An nn cn, .agg #[.int .i64 k, .slice A n c, .slice D m d]] w fun e w' => e = .returned (.bool true) ∧ Below w.heap.size w w' := by
  have hp := heap_alloc_new w (.cells #[.int .i64 k, .slice A n c, .slice D m d] 35)
  have hb0 : Below w.heap.size w (w.alloc (.cells #[.int .i64 k, .slice A n c, .slice D m d] 35)) := (Below.refl _ _).alloc (Nat.le_refl _) _
  go_enter Try.func4, Try.ntmps4
  go_upto_region 1 with fail
  generalize w.alloc (.cells #[.int .i64 k, .slice A n c, .slice D m d] 35) = w0 at *
  go_wp2_with fail
  refine (head15_any w0).mono ?_
  rintro e w1 ⟨rfl, hb1⟩
  have hb01 := hb0.trans (hb1.mono hb0.size)
  have hm1 := (hm.below hb01).more hb01.size
  have hp1 := (hb1.block _ (lt_of_block hp)).trans hp
  go_wp2_with fail
  refine (rright_any Am nm cm w1.heap.size ms w1 hm1 en (by omega)).mono ?_
  rintro e w2 ⟨rfl, j2, e2⟩
  have hb2 : Below w1.heap.size w1 w2 := by rw [← e2]; exact below_drewN (Below.refl _ _) j2
  have hb02 := hb01.trans (hb2.mono hb01.size)
  have hp2 := (hb2.block _ (lt_of_block hp1)).trans hp1
  have HE := hide en
  have HNE := hide eN
  have HM := hide hm
  have HNN := hide hN
  have HV := hide hV
  clear e2 hm1 en eN hm hN hV hp hp1
  cases hr : decide (rightS ms)
  · go_wp2
    go_ret
    exact ⟨rfl, hb02⟩
  · have HR := hide (of_decide_eq_true hr)
    have hv2 := (HV.out.below hb02).more hb02.size
    have hck := rvcheck_any k A D n c m d w2.heap.size cs xs w2 hv2.c hv2.i (Nat.le_refl _) hv2.en hv2.em (by have := hv2.lm; omega)
    have p0 := (row_cells hp2 0).1
    have p1 := (row_cells hp2 1).1
    have p2 := (row_cells hp2 2).1
    simp only [List.getElem?_toArray, List.getElem?_cons_succ, List.getElem?_cons_zero] at p0 p1 p2
    have HP2 := hide hp2
    clear hr hv2 hp2
    go_wp2_with fail
    refine hck.mono ?_
    rintro e w3 ⟨rfl, hb3⟩
    have hb03 := hb02.trans (hb3.mono hb02.size)
    by_cases hok : chkV k cs xs = 0
    · rw [hok]
      have HOK := hide hok
      have hm3 : HasI w3 w3.heap.size Am ms := (HM.out.below hb03).more hb03.size
      obtain ⟨v4, w4, hr4, ho4, hb4⟩ := run_copy_ints w3 22 Am nm cm w3.heap.size ms hm3 HE.out (by omega) (Nat.le_refl _)
      obtain ⟨A4, n4, c4, rfl, hn4, hnc4, hx4⟩ := ho4.form
      obtain rfl : n4 = nm := by rw [← hn4.out, HE.out]
      have HR4 := hide hr4
      have hb04 := hb03.trans (hb4.mono hb03.size)
      have hp4 := ((hb3.trans (hb4.mono hb3.size)).block _ (lt_of_block HP2.out)).trans HP2.out
      have HP4 := hide hp4
      clear hr4 hok p0 p1 p2 hck hp4
      go_wp2_with (at_builtin; refine list_append_want _ (by rfl) (.tmp 26) (.tmp 27) 22 22 rfl _ _ rfl rfl _ _ HR4.out ?_)
      refine (el_new A4 n4 c4 w4.heap.size ms 5 w4 hx4 (Nat.le_refl _) HE.out (by omega) HR.out ⟨by omega, by omega⟩).mono ?_
      rintro e w5 ⟨g, rfl, h5, hb5⟩
      have hb05 := hb04.trans (hb5.mono hb04.size)
      have hbe := (Below.refl _ w5).alloc (Nat.le_refl _) (.cells #[] 3)
      have ho6 := OwnI.new w5 [] w5.heap.size w5.heap.size rfl (Nat.le_refl _) (by simp)
      have h6 := h5.below hbe
      have hp6 := ((hb5.trans (hbe.mono hb5.size)).block _ (lt_of_block HP4.out)).trans HP4.out
      have hb06 := hb05.trans (hbe.mono hb05.size)
      have hz6 : (w5.alloc (.cells #[] 3)).heap.size = w5.heap.size + 1 := by simp
      have hz5 := hb5.size
      have HCR : Hid (CR w4 g ms [] ⟨k, cs, xs⟩ (.slice (some ⟨w5.heap.size, 0, none⟩) 0 0) (w5.alloc (.cells #[] 3))) := hide ⟨⟨_, _, h6, CI.start ms _, fun i hi => hi.1, fun i hi hf => by
        have e : w5.heap.size = i := by simpa [Value.ownBlock] using hi
        omega⟩, ho6.from_ hz5, hb5.trans (hbe.mono hz5)⟩
      have HP6 := hide hp6
      clear h5 h6 ho6 hp6 HR4 hx4 hnc4
      go_upto_region 8 with fail
      generalize w5.alloc (.cells #[] 3) = w6 at *
      have hst : (.bool false : Value) = .bool (enB ms (ns.take 0)) := by
        rw [show enB ms (ns.take 0) = false from by unfold enB cnt; simp]
      go_wp2_with fail
      go_loopw [8, 9, 33] (fun s8 s9 s33 wr => ∃ j : Nat, j ≤ nn ∧ s33 = .int .i64 (j : Int) ∧ s9 = .bool (enB ms (ns.take j)) ∧ Hid (CR w4 g ms (ns.take j) ⟨k, cs, xs⟩ s8 wr)) (fun _ _ s33 _ => nn - (intOf s33).toNat)
      case atStart => exact ⟨0, Nat.zero_le _, rfl, hst, HCR⟩
      case round =>
        clear hst HCR HP6
        obtain ⟨j, hj, rfl, rfl, hcr⟩ := hrel
        have hbl := hcr.out.bel
        have hb0r := hb04.trans (hbl.mono hb04.size)
        have hpr := (hbl.block _ (lt_of_block HP4.out)).trans HP4.out
        by_cases hlt : j < nn
        · have hjl : j < ns.length := by rw [HNE.out]; exact hlt
          obtain ⟨b, o, hA, hbb, hcc⟩ := ((HNN.out.below hb0r).more hb0r.size) j hjl
          have HTK := hide (List.take_succ_eq_append_getElem hjl)
          generalize ns[j] = q at *
          subst hA
          have p0 := (row_cells hpr 0).1
          have p1 := (row_cells hpr 1).1
          have p2 := (row_cells hpr 2).1
          simp only [List.getElem?_toArray, List.getElem?_cons_succ, List.getElem?_cons_zero] at p0 p1 p2
          have hvr := (HV.out.below hb0r).more hb0r.size
          have hcp := rvcopy_any k A D n c m d wr.heap.size cs xs wr hvr.c hvr.i (Nat.le_refl _) hvr.en hvr.em (by have := hvr.ln; omega) (by have := hvr.lm; omega)
          obtain ⟨⟨l, F, hel, hci, hF1, hF2⟩, how, _⟩ := hcr.out
          have HEL := hide hel
          have HCI := hide hci
          have HF1 := hide hF1
          have HF2 := hide hF2
          have HOW := hide how
          have HPR := hide hpr
          have HBL := hide hbl
          clear hel hci hF1 hF2 how hpr hbl hvr hcr
          generalize hb1 : enB ms (ns.take j) = b1 at *
          go_wp2_with fail
          refine hcp.mono ?_
          rintro e w7 ⟨A7, c7, D7, d7, rfl, ho7, hi7, hb7⟩
          clear hcp
          go_wp2_with fail
          refine (evote_any 5 3 k A7 n c7 D7 m d7 w7).mono ?_
          rintro e w8 ⟨rfl, hb8⟩
          have hb78 := hb7.trans (hb8.mono hb7.size)
          have hav : ArgV w8 F A7 n D7 m ⟨k, cs, xs⟩ := ArgV.of_own ho7 hi7 hb8 HEL.out.lt (by have := HV.out.lm; omega)
          have hvt := el_voted (HEL.out.below hb78) q 5 3 1 (by decide) ⟨k, cs, xs⟩ A7 n c7 D7 m d7 hav
          obtain ⟨hc1, hc2⟩ := HCI.out.step HOK.out q
          have hc2' : (l.voted q ⟨5, 3, 1, ⟨k, cs, xs⟩⟩).2 = (enB ms (ns.take (j + 1)) && !b1) := by
            rw [HTK.out]
            rw [← hb1]
            exact hc2
          rw [hc2'] at hvt
          have HC1 : Hid (CI ms (ns.take (j + 1)) ⟨k, cs, xs⟩ (l.voted q ⟨5, 3, 1, ⟨k, cs, xs⟩⟩).1) := hide (by rw [HTK.out]; exact hc1)
          have HO8 := hide (HOW.out.below hb78)
          have HB8 := hide (HBL.out.trans (hb78.mono HBL.out.size))
          clear hc1 hc2 hc2' hav p0 p1 p2 ho7 hi7 hb7
          go_wp2_with fail
          refine hvt.mono ?_
          rintro e w9 ⟨rfl, F9, h9, hk9, hf9⟩
          clear hvt
          have ho9 : OwnI w9 w4.heap.size u8 (ns.take j) := HO8.out.keep fun i hi => hk9.block i (HO8.out.lt i hi).2 (HF2.out i hi)
          have hB9 : Below w4.heap.size w4 w9 := HB8.out.trans (hk9.below HB8.out.size HF1.out)
          have HF9a : Hid (∀ i, F9 i → w4.heap.size ≤ i) := hide (fun i hi => by
            rcases hf9 i hi with e | e
            · exact HF1.out i e
            · have := HB8.out.size; omega)
          have HF9b : Hid (∀ i, u8.ownBlock = some i → ¬ F9 i) := hide (fun i hi hf => by
            rcases hf9 i hf with e | e
            · exact HF2.out i hi e
            · have := (HO8.out.lt i hi).2; omega)
          have hba := (Below.refl _ w9).alloc (Nat.le_refl _) (.cells (icells [q]) 3)
          have hone : HasI (w9.alloc (.cells (icells [q]) 3)) (w9.heap.size + 1) (some ⟨w9.heap.size, 0, none⟩) [q] := HasI.new w9 3 [q] (0, 0) w9.heap.size rfl
          have HO10 := hide (ho9.below hba)
          have h10 := h9.below hba
          have HB10 := hide (hB9.trans (hba.mono hB9.size))
          have HLN : Hid ((ns.take j).length + 1 ≤ 17592186044416) := hide (by rw [List.length_take]; omega)
          have hic : icells [q] = #[.int .i64 q] := rfl
          have HLT9 := hide h9.lt
          rw [hic] at hone hba HO10 h10 HB10
          have H10 := hide h10
          clear hic h10 h9 ho9 hB9 hk9 hf9
          have hTK2 : ns.take j ++ [q] = ns.take (j + 1) := HTK.out.symm
          have HTK2 := hide hTK2
          clear hTK2
          go_wp2_with (first
            | (refine list_append_ints4 _ rfl (.tmp 43) (.tmp 45) rfl w4.heap.size u8 (ns.take j) rfl HO10.out _ _ 1 1 [q] rfl hone rfl HLN.out HB10.out.size ?_; intro v11 w11 ho11 hg11 hat11; have HO11 := hide ho11; have HG11 := hide hg11; have HAT11 := hide hat11; clear ho11 hg11 hat11)
            | fail)
          rw [HTK2.out] at HO11
          have hk11 : Kept (fun i => u8.ownBlock = some i) _ w11 := Kept.of_grown (F := fun i => u8.ownBlock = some i) HG11.out (fun i hi => hi)
          have hB11 := HB10.out.trans (hk11.below HB10.out.size (fun i hi => (HO10.out.lt i hi).1))
          have h11 := H10.out.kept hk11 (fun i hi e => HF9b.out i e hi)
          have HCR2 : Hid (CR w4 g ms (ns.take (j + 1)) ⟨k, cs, xs⟩ v11 w11) := hide ⟨⟨_, F9, h11, HC1.out, HF9a.out, fun i hi hf => by
            rcases HAT11.out with e | e
            · exact HF9b.out i (by rw [← e]; exact hi) hf
            · rw [e] at hi
              have e2 : _ = i := Option.some.inj hi
              have := H10.out.lt i hf
              have := HLT9.out i hf
              simp at e2
              omega⟩, HO11.out, hB11⟩
          obtain ⟨A11, n11, c11, rfl, hn11, _, hx11⟩ := HO11.out.form
          have hm11 := (HM.out.below (hb04.trans (hB11.mono hb04.size))).more (hb04.trans (hB11.mono hb04.size)).size
          have hen := renough_any Am A11 n4 n11 cm c11 w11.heap.size w11.heap.size ms (ns.take (j + 1)) w11 hm11 hx11 HE.out hn11.out (by omega) (by have h := hn11.out; rw [List.length_take] at h; omega)
          generalize hb2 : enB ms (ns.take (j + 1)) = b2 at *
          have HEQ : Hid ((.bool b2 : Value) = .bool (enB ms (ns.take (j + 1)))) := hide (by rw [hb2])
          clear hx11 hm11 hone hba
          go_wp2_with fail
          refine hen.mono ?_
          rintro e _ ⟨rfl, rfl⟩
          clear hen hb1 hb2
          cases b2
          · go_wp2_with fail
            go_roundw
            case rel => exact ⟨j + 1, by omega, by go_num, HEQ.out, HCR2⟩
            case measure => simp [intOf]; omega
          · cases b1
            · go_wp2_with fail
              go_roundw
              case rel => exact ⟨j + 1, by omega, by go_num, HEQ.out, HCR2⟩
              case measure => simp [intOf]; omega
            · go_wp2_with fail
              go_roundw
              case rel => exact ⟨j + 1, by omega, by go_num, HEQ.out, HCR2⟩
              case measure => simp [intOf]; omega
        · obtain rfl : j = nn := by omega
          have HTA : Hid (ns.take j = ns) := hide (List.take_of_length_le (by rw [HNE.out]; exact Nat.le_refl _))
          rw [HTA.out] at hcr
          obtain ⟨⟨l, F, hel, hci, _, _⟩, _, _⟩ := hcr.out
          have HTB : Hid (enB ms (ns.take j) = enB ms ns) := hide (by rw [HTA.out])
          rw [HTB.out]
          have hkn := el_known hel (s := 5) (by decide)
          have HBR := hide hb0r
          have HPR := hide hpr
          have hres : (enB ms ns = true ∧ l.known 5 = ⟨k, cs, xs⟩ ∧ (l.D 5).isSome = true) ∨ (enB ms ns = false ∧ (l.D 5).isSome = false) := by
            rcases hci.st with ⟨a, b⟩ | ⟨a, b, _⟩
            · exact .inl ⟨a, by unfold Lv.known; rw [b]; rfl, by rw [b]; rfl⟩
            · exact .inr ⟨a, by rw [b]; rfl⟩
          clear hel hci hcr hb0r hpr hbl
          go_wp2_with fail
          refine hkn.mono ?_
          rintro e w7 ⟨A7, n7, c7, D7, m7, d7, rfl, ho7, hi7, hb7⟩
          clear hkn
          have hb07 := HBR.out.trans (hb7.mono HBR.out.size)
          have hba := (Below.refl _ w7).alloc (Nat.le_refl _) (.cells #[.int .i64 (l.known 5).k, .slice A7 n7 c7, .slice D7 m7 d7] 35)
          have hb08 := hb07.trans (hba.mono hb07.size)
          rcases hres with ⟨e1, e2, e3⟩ | ⟨e1, e3⟩
          · rw [e1, e3]
            rw [e2] at ho7 hi7 hba hb08 ⊢
            have hv8 := (HV.out.below hb08).more hb08.size
            obtain ⟨a1, a2⟩ := ownc_slice (ho7.below hba)
            obtain ⟨b1, b2⟩ := owni_slice' (hi7.below hba)
            have hq8 := heap_alloc_new w7 (.cells #[.int .i64 k, .slice A7 n7 c7, .slice D7 m7 d7] 35)
            have hp8 := ((hb7.trans (hba.mono hb7.size)).block _ (lt_of_block HPR.out)).trans HPR.out
            have hsm := rvsame_any k k A7 A D7 D n7 n c7 c m7 m d7 d _ cs cs xs xs _ a2 b2 hv8.c hv8.i (Nat.le_refl _) a1 hv8.en b1 hv8.em (by have h1 : cs.length = n7 := a1; have h2 := hv8.en; have h3 := hv8.ln; omega) (by have h1 : xs.length = m7 := b1; have h2 := hv8.em; have h3 := hv8.lm; omega)
            rw [sameV_refl] at hsm
            have p0 := (row_cells hp8 0).1
            have p1 := (row_cells hp8 1).1
            have p2 := (row_cells hp8 2).1
            have q0 := (row_cells hq8 0).1
            have q1 := (row_cells hq8 1).1
            have q2 := (row_cells hq8 2).1
            simp only [List.getElem?_toArray, List.getElem?_cons_succ, List.getElem?_cons_zero] at p0 p1 p2 q0 q1 q2
            clear hv8 a1 a2 b1 b2 hq8 hp8 ho7 hi7 e1 e2 e3
            go_upto_region 19 with fail
            generalize w7.alloc (.cells #[.int .i64 k, .slice A7 n7 c7, .slice D7 m7 d7] 35) = w8 at *
            go_wp2_with fail
            refine hsm.mono ?_
            rintro e w9 ⟨rfl, hb9⟩
            go_wp2
            go_ret
            exact ⟨rfl, hb08.trans (hb9.mono hb08.size)⟩
          · rw [e1, e3]
            go_wp2
            go_ret
            exact ⟨rfl, hb08⟩
    · have hcb : (chkV k cs xs != 0) = true := by simpa using hok
      generalize chkV k cs xs = z at *
      go_wp2
      go_ret
      exact ⟨rfl, hb03⟩
end Go.Proofs.Ytnngmapphacpkaa

namespace Go.Proofs.Ytnngmapphacpkaa
open Go.ChangeShapes Go.WideShapes Go.ChangeAt Go.RowKit
set_option linter.unusedVariables false

set_option maxRecDepth 100000 in
theorem learnerCounts_lifted (os : Os) (started : os.Started) (H : Type) (enc : TypeId × Value → H) :
    ReturnsInHanded {} Try.checked os 4 .any (Rows.learnerCountsSpec.pre6 enc Try.prog Try.f4 Rows.learnerCountsRow.domain false) (Rows.learnerCountsSpec.post enc Try.prog Try.f4 false true false false) := by
  refine returnsInHanded_of_change_sized (C := Try.checked) ownKnob_none started (by kernel_rfl) Try.func4
    (ChangeSpec.witness6 (enc := enc) (C := Try.checked) false ⟨#[], #[.slice none 0 0, .slice none 0 0, .agg #[.int .i64 0, .slice none 0 0, .slice none 0 0]], []⟩ 8 (by kernel_rfl) (by kernel_rfl) (by kernel_rfl) (by kernel_rfl)) ?_
  intro W base args ds gs before hval0 hW hcnd hsz0 _
  have hval : ∀ (j : Nat) t v, Try.f4.params[j]? = some t → args[j]? = some v → Value.okWide Try.prog W .any base t v := hval0
  have hsz : (DataW.weightsEach Try.prog (Try.f4.params.toList ++ Rows.learnerCountsSpec.plain.varTypes Try.prog) (ds ++ gs)).all (· ≤ reachBytes) = true := hsz0
  have hW' := hW
  obtain ⟨p, q, hA0, hV, rfl, hfz, hnd⟩ := hW
  have hA : DataW.TrodAll enc Try.prog W 0 (fun _ => true) true Try.f4.params.toList args.toList ds p := hA0
  rw [Try.params4] at hA hval hsz
  obtain ⟨v0, vs0, d0, ds0, p0, q0, hargs, rfl, rfl, h0, r0⟩ := trodAll_cons hA
  obtain ⟨v1, vs1, d1, ds1, p1, q1, rfl, rfl, rfl, h1, r1⟩ := trodAll_cons r0
  obtain ⟨v2, vs2, d2, ds2, p2, q2, rfl, rfl, rfl, h2, r2⟩ := trodAll_cons r1
  obtain ⟨rfl, rfl, rfl⟩ := trodAll_nil r2
  obtain rfl : args = #[v0, v1, v2] := by cases args; simp_all
  obtain ⟨rfl, rfl⟩ := trodVars_none hV
  have t0 := h0
  have lt0 : ∀ x ∈ p0, x.block < W.heap.size := by obtain ⟨m, hm⟩ := t0; exact DataW.trod_lt m _ _ _ hm
  obtain ⟨a0, len0, cap0, rfl⟩ := okWide_slice Try.underlying22 (hval 0 22 v0 rfl rfl)
  obtain ⟨xs0, hI0, e0, hn0, hb0⟩ := open_intsv h0 hsz (j := 0) rfl rfl
  have t1 := h1
  have lt1 : ∀ x ∈ p1, x.block < W.heap.size := by obtain ⟨m, hm⟩ := t1; exact DataW.trod_lt m _ _ _ hm
  obtain ⟨a1, len1, cap1, rfl⟩ := okWide_slice Try.underlying22 (hval 1 22 v1 rfl rfl)
  obtain ⟨xs1, hI1, e1, hn1, hb1⟩ := open_intsv h1 hsz (j := 1) rfl rfl
  have t2 := h2
  have lt2 : ∀ x ∈ p2, x.block < W.heap.size := by obtain ⟨m, hm⟩ := t2; exact DataW.trod_lt m _ _ _ hm
  obtain ⟨k2, A2, n2, c2, D2, m2, dd2, ts2, xs2, rfl, hk2, hC2, e2, hn2, hcs2, hI2, f2, hm2, hxs2⟩ := open_val (hval 2 35 v2 rfl rfl) h2 (Light.of_each hsz (j := 2) rfl rfl)
  clear hA0 hval0
  refine (counts_walk a0 len0 cap0 xs0 a1 len1 cap1 xs1 k2 A2 n2 c2 D2 m2 dd2 ts2 xs2 W hI0 e0 hn0 hI1 e1 hn1 ⟨hC2, hI2, e2, f2, by omega, by omega, hcs2⟩).mono fun e W' ⟨he, bel⟩ => ?_
  subst he
  exact ⟨_, rfl, _, _, _, [], _, [], hW', trodAll_mk1 (shut_bool Try.underlying4 _), (trodAll_cons_mk (Below.trod laid_out (by kernel_rfl) (of_decide_eq_true (by kernel_rfl)) t0 bel lt0) (trodAll_cons_mk (Below.trod laid_out (by kernel_rfl) (of_decide_eq_true (by kernel_rfl)) t1 bel lt1) (trodAll_cons_mk (Below.trod laid_out (by kernel_rfl) (of_decide_eq_true (by kernel_rfl)) t2 bel lt2) trodAll_mk0))), rfl, bel.frame _, fun h => by cases h⟩

theorem learnerCounts_holds : Rows.LearnerCountsSaid :=
  OpenClaim.holds_of_wide 4 Try.f4 rfl rfl rfl rfl rfl rfl rfl ⟨rfl, rfl, rfl, rfl, rfl⟩ rfl rfl rfl rfl rfl (by kernel_rfl) Try.func4 (by kernel_rfl)
    (of_decide_eq_true (by kernel_rfl)) (by unfold Func.isWrapper; first | (rw [if_pos (by decide +kernel)]; kernel_rfl) | (rw [if_neg (by decide +kernel)]; exact ⟨rfl, rfl⟩))
    (fun os started H enc _ => learnerCounts_lifted os started H enc)
#print axioms learnerCounts_holds
end Go.Proofs.Ytnngmapphacpkaa
