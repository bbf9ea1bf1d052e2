/-
  LearnerAgree of the statements: for every input the law returns true, and what came in reads as it did. No condition.
  LearnerAgree: the walk. No condition but the reach of what is read.
  Votes that keep to their word, and what learners make of them: pure. No condition.
  LearnerCounts: the walk. No condition but the reach of what is read.
-/
import Derived.Test.YtnngmapphacpkaaML1
import Derived.Test.YtnngmapphacpkaaValRefCheck
import Derived.Test.YtnngmapphacpkaaValBase
import Derived.Laws.Entries
import Derived.Test.YtnngmapphacpkaaFrameB
set_option linter.unusedSimpArgs false
set_option linter.unusedVariables false

namespace Go.Proofs.Ytnngmapphacpkaa
open Go.RowKit

theorem list_append_ints4 {ops : Array Oper} {rest : List Oper} {o : Oper} {a : Act} {Q : Exit → Act → World → Prop} (w : World) (hw : Region.wanted o (yielded ops a.tmps) = true) (s x : Operand)
    (ho : o.op = .call { callee := .builtin .append, args := #[s, x], argTypes := #[22, 22] }) (base : Nat) (v : Value) (xs : List Int) (hs : a.eval s = v) (hown : OwnI w base v xs)
    (B : Nat) (A : Option Addr) (m c : Nat) (news : List Int) (hx : a.eval x = .slice A m c) (hr : HasI w B A news) (hm : news.length = m)
    (hlen : xs.length + m ≤ 17592186044416) (hbase : base ≤ w.heap.size)
    (h : ∀ v' w', OwnI w' base v' (xs ++ news) → w.grownBy w' v.ownBlock → (v'.ownBlock = v.ownBlock ∨ v'.ownBlock = some w.heap.size) → wpList Try.prog ops Q rest (a.put o.dst v') w') : wpList Try.prog ops Q (o :: rest) a w := by
  obtain ⟨v', w', hrun, h2, h3, h4⟩ := run_append_ints w o.type base v xs hown B A m c news hr hm hlen hbase
  exact list_append_want w hw s x 22 22 ho _ _ hs hx v' w' hrun (h v' w' h2 h3 h4)
/-- The vote that is given again and again. -/
def y5 (x : Vl) : Vt := ⟨5, 3, 1, x⟩
/-- The learner behind those nodes' votes. -/
structure CI (ms L : List Int) (x : Vl) (l : Lv) : Prop where
  hms : l.ms = ms
  nx : l.next = 5
  st : (enB ms L = true ∧ l.D 5 = some x) ∨ (enB ms L = false ∧ l.D 5 = none ∧ ∀ k, l.at_ 5 k = if k ∈ ms ∧ k ∈ L then some (y5 x) else none)
theorem enB_more {ms L : List Int} {q : Int} (h : enB ms L = true) : enB ms (L ++ [q]) = true := by
  unfold enB cnt at *
  have h1 := of_decide_eq_true h
  refine decide_eq_true (Nat.le_trans h1 (List.countP_mono_left fun a _ ha => ?_))
  rw [decide_eq_true_eq] at ha ⊢
  exact List.mem_append_left _ ha
theorem enB_same {ms L : List Int} {q : Int} (h : q ∉ ms ∨ q ∈ L) : enB ms (L ++ [q]) = enB ms L := by
  unfold enB cnt
  have e : ms.countP (fun m => decide (m ∈ L ++ [q])) = ms.countP (fun m => decide (m ∈ L)) := by
    apply List.countP_congr
    intro a ha
    rw [decide_eq_true_eq, decide_eq_true_eq, List.mem_append, List.mem_singleton]
    constructor
    · rintro (h1 | h1)
      · exact h1
      · rcases h with h | h
        · exact absurd (h1 ▸ ha) h
        · exact h1 ▸ h
    · exact .inl
  rw [e]
theorem CI.start (ms : List Int) (x : Vl) : CI ms [] x (Lv.new ms 5) := by
  refine ⟨rfl, rfl, .inr ⟨?_, rfl, fun k => ?_⟩⟩
  · unfold enB cnt
    apply decide_eq_false
    simp
  · rw [if_neg (fun h => absurd h.2 (by simp))]
    rfl
theorem Lv.opn_of {l : Lv} {s : Int} (h1 : l.next ≤ s ∧ s < l.next + 128 ∧ s ≤ 1099511627776) (h2 : l.D s = none) : l.opn s = true := by
  unfold Lv.opn
  rw [decide_eq_true ⟨h1.1, by omega, h1.2.2⟩, h2]
  rfl
theorem Lv.opn_not {l : Lv} {s : Int} (h : l.D s ≠ none) : l.opn s = false := by
  unfold Lv.opn
  cases hD : l.D s with
  | none => exact absurd hD h
  | some x => simp
theorem CI.step {ms L : List Int} {x : Vl} {l : Lv} (h : CI ms L x l) (hok : chkV x.k x.cs x.ns = 0) (q : Int) : CI ms (L ++ [q]) x (l.voted q (y5 x)).1 ∧ (l.voted q (y5 x)).2 = (enB ms (L ++ [q]) && !enB ms L) := by
  rcases h.st with ⟨e, hD⟩ | ⟨e, hD, hA⟩
  · have h1 : l.voted q (y5 x) = (l, false) := if_neg (fun h2 => by
      have h3 := h2.1
      rw [show (y5 x).s = 5 from rfl, Lv.opn_not (by rw [hD]; simp)] at h3
      cases h3)
    rw [h1]
    refine ⟨⟨h.hms, h.nx, .inl ⟨enB_more e, hD⟩⟩, ?_⟩
    rw [e]
    simp
  · have hop : l.opn 5 = true := Lv.opn_of (by rw [h.nx]; omega) hD
    by_cases hq : q ∈ ms
    · have h1 : l.voted q (y5 x) = (l.hrd 5).vote2 q (y5 x) := if_pos ⟨hop, hok, by rw [h.hms]; exact hq, (show valB 3 1 = true by decide)⟩
      rw [h1]
      have hat : ∀ k, (((l.hrd 5).V 5).getD fun _ => none) k = if k ∈ ms ∧ k ∈ L then some (y5 x) else none := hA
      by_cases hL : q ∈ L
      · have h2 : (l.hrd 5).kept q (y5 x) = (l.hrd 5, false) := if_neg (by
          rw [show (y5 x).s = 5 from rfl, hat, if_pos ⟨hq, hL⟩]
          show ¬ belB 3 1 3 1 = true
          decide)
        have h3 : (l.hrd 5).vote2 q (y5 x) = (l.hrd 5, false) := by
          unfold Lv.vote2
          rw [h2]
          rfl
        rw [h3, enB_same (.inr hL)]
        refine ⟨⟨h.hms, h.nx, .inr ⟨by rw [enB_same (.inr hL)]; exact e, hD, fun k => ?_⟩⟩, by rw [e]; rfl⟩
        show (((l.hrd 5).V 5).getD fun _ => none) k = _
        rw [hat]
        by_cases hk : k = q
        · subst hk
          rw [if_pos ⟨hq, hL⟩, if_pos ⟨hq, List.mem_append_left _ hL⟩]
        · simp [hk]
      · have h2 : (l.hrd 5).kept q (y5 x) = ((l.hrd 5).setV 5 (fun z => if z = q then some (y5 x) else (((l.hrd 5).V 5).getD fun _ => none) z), true) := if_pos (by
          rw [show (y5 x).s = 5 from rfl, hat, if_neg (fun h => hL h.2)]
          show belB 0 0 3 1 = true
          decide)
        have hN : ∀ k, (if k = q then some (y5 x) else (((l.hrd 5).V 5).getD fun _ => none) k) = if k ∈ ms ∧ k ∈ L ++ [q] then some (y5 x) else none := fun k => by
          by_cases hk : k = q
          · subst hk
            rw [if_pos rfl, if_pos ⟨hq, by simp⟩]
          · rw [if_neg hk, hat]
            simp [hk]
        generalize hN0 : (fun z => if z = q then some (y5 x) else (((l.hrd 5).V 5).getD fun _ => none) z) = N at *
        have hN1 : ∀ k, N k = if k ∈ ms ∧ k ∈ L ++ [q] then some (y5 x) else none := fun k => by rw [← hN0]; exact hN k
        have hag : quo ms (agr N (y5 x)) = enB ms (L ++ [q]) := by
          unfold quo enB cnt
          have e : ms.countP (agr N (y5 x)) = ms.countP (fun m => decide (m ∈ L ++ [q])) := by
            apply List.countP_congr
            intro a ha
            unfold agr
            rw [hN1, decide_eq_true_eq]
            by_cases h4 : a ∈ L ++ [q]
            · rw [if_pos ⟨ha, h4⟩]
              simp only [h4, iff_true]
              have e3 := sameV_refl (y5 x).v.k (y5 x).v.cs (y5 x).v.ns
              simp [e3]
            · rw [if_neg (fun h => h4 h.2)]
              simp [h4]
          rw [e]
        have hms : ((l.hrd 5).setV 5 N).ms = ms := h.hms
        have hat2 : ((l.hrd 5).setV 5 N).at_ 5 = N := by
          unfold Lv.at_
          rw [Lv.setV_same]
          rfl
        cases hr : enB ms (L ++ [q])
        · have h3 : (l.hrd 5).vote2 q (y5 x) = ((l.hrd 5).setV 5 N, false) := by
            unfold Lv.vote2
            rw [h2]
            refine if_neg ?_
            show ¬ (true && quo ((l.hrd 5).setV 5 N).ms (agr (((l.hrd 5).setV 5 N).at_ 5) (y5 x))) = true
            rw [hms, hat2, hag, hr]
            simp
          rw [h3]
          refine ⟨⟨h.hms, h.nx, .inr ⟨hr, hD, fun k => ?_⟩⟩, rfl⟩
          show ((l.hrd 5).setV 5 N).at_ 5 k = _
          rw [hat2, hN1]
        · have h3 : (l.hrd 5).vote2 q (y5 x) = (((l.hrd 5).setV 5 N).dec 5 x, true) := by
            unfold Lv.vote2
            rw [h2]
            refine if_pos ?_
            show (true && quo ((l.hrd 5).setV 5 N).ms (agr (((l.hrd 5).setV 5 N).at_ 5) (y5 x))) = true
            rw [hms, hat2, hag, hr]
            rfl
          rw [h3]
          refine ⟨⟨h.hms, h.nx, .inl ⟨hr, ?_⟩⟩, by rw [e]; rfl⟩
          show (if (5 : Int) = 5 then some x else ((l.hrd 5).setV 5 N).D 5) = some x
          rw [if_pos rfl]
    · have h1 : l.voted q (y5 x) = (l, false) := if_neg (fun h2 => hq (by rw [← h.hms]; exact h2.2.2.1))
      rw [h1, enB_same (.inl hq)]
      refine ⟨⟨h.hms, h.nx, .inr ⟨by rw [enB_same (.inl hq)]; exact e, hD, fun k => ?_⟩⟩, by rw [e]; rfl⟩
      rw [hA]
      by_cases hk : k = q
      · subst hk
        simp [hq]
      · simp [hk]
theorem ArgV.of_own {w0 w w' : World} {F : Nat → Prop} {k : Int} {cs : List Cmdv} {ns : List Int} {A D : Option Addr} {n c m d : Nat} (ho : OwnC w w0.heap.size (.slice A n c) cs) (hi : OwnI w w0.heap.size (.slice D m d) ns) (hb : Below w.heap.size w w') (hF : ∀ j, F j → j < w0.heap.size) (hm : m ≤ 140737488355328) : ArgV w' F A n D m ⟨k, cs, ns⟩ := by
  obtain ⟨a1, a2⟩ := ownc_slice (ho.below hb)
  obtain ⟨b1, b2⟩ := owni_slice' (hi.below hb)
  refine ⟨a2, b2, a1, b1, hm, fun b o e hf => ?_, fun b o e hf => ?_⟩
  · have := (ho.lt b (by rw [e]; rfl)).1
    have := hF b hf
    omega
  · have := (hi.lt b (by rw [e]; rfl)).1
    have := hF b hf
    omega
/-- What the loop over nodes holds. -/
structure CR (w0 : World) (g : Nat) (ms L : List Int) (x : Vl) (s8 : Value) (wr : World) : Prop where
  mem : ∃ l F, EL wr F g l ∧ CI ms L x l ∧ (∀ i, F i → w0.heap.size ≤ i) ∧ ∀ i, s8.ownBlock = some i → ¬ F i
  own : OwnI wr w0.heap.size s8 L
  bel : Below w0.heap.size w0 wr
set_option maxHeartbeats 3200000 in
set_option maxRecDepth 20000 in
theorem counts_walk (Am : Option Addr) (nm cm : Nat) (ms : List Int) (An : Option Addr) (nn cn : Nat) (ns : List Int) (k : Int) (A : Option Addr) (n c : Nat) (D : Option Addr) (m d : Nat) (cs : List Cmdv) (xs : List Int) (w : World)
    (hm : HasI w w.heap.size Am ms) (en : ms.length = nm) (ln : nm ≤ 17592186043904) (hN : HasI w w.heap.size An ns) (eN : ns.length = nn) (lN : nn ≤ 17592186043904) (hV : IsV w w.heap.size A n D m cs xs) :
    Calls Try.prog 4 #[.slice Am nm cm, .slice An nn cn, .agg #[.int .i64 k, .slice A n c, .slice D m d]] w fun e w' => e = .returned (.bool true) ∧ Below w.heap.size w w' := by
  have hp := heap_alloc_new w (.cells #[.int .i64 k, .slice A n c, .slice D m d] 35)
  have hb0 : Below w.heap.size w (w.alloc (.cells #[.int .i64 k, .slice A n c, .slice D m d] 35)) := (Below.refl _ _).alloc (Nat.le_refl _) _
  go_enter Try.func4, Try.ntmps4
  go_upto_region 1 with fail
  generalize w.alloc (.cells #[.int .i64 k, .slice A n c, .slice D m d] 35) = w0 at *
  go_wp2_with fail
  refine (head15_any w0).mono ?_
  rintro e w1 ⟨rfl, hb1⟩
  have hb01 := hb0.trans (hb1.mono hb0.size)
  have hm1 := (hm.below hb01).more hb01.size
  have hp1 := (hb1.block _ (lt_of_block hp)).trans hp
  go_wp2_with fail
  refine (rright_any Am nm cm w1.heap.size ms w1 hm1 en (by omega)).mono ?_
  rintro e w2 ⟨rfl, j2, e2⟩
  have hb2 : Below w1.heap.size w1 w2 := by rw [← e2]; exact below_drewN (Below.refl _ _) j2
  have hb02 := hb01.trans (hb2.mono hb01.size)
  have hp2 := (hb2.block _ (lt_of_block hp1)).trans hp1
  have HE := hide en
  have HNE := hide eN
  have HM := hide hm
  have HNN := hide hN
  have HV := hide hV
  clear e2 hm1 en eN hm hN hV hp hp1
  cases hr : decide (rightS ms)
  · go_wp2
    go_ret
    exact ⟨rfl, hb02⟩
  · have HR := hide (of_decide_eq_true hr)
    have hv2 := (HV.out.below hb02).more hb02.size
    have hck := rvcheck_any k A D n c m d w2.heap.size cs xs w2 hv2.c hv2.i (Nat.le_refl _) hv2.en hv2.em (by have := hv2.lm; omega)
    have p0 := (row_cells hp2 0).1
    have p1 := (row_cells hp2 1).1
    have p2 := (row_cells hp2 2).1
    simp only [List.getElem?_toArray, List.getElem?_cons_succ, List.getElem?_cons_zero] at p0 p1 p2
    have HP2 := hide hp2
    clear hr hv2 hp2
    go_wp2_with fail
    refine hck.mono ?_
    rintro e w3 ⟨rfl, hb3⟩
    have hb03 := hb02.trans (hb3.mono hb02.size)
    by_cases hok : chkV k cs xs = 0
    · rw [hok]
      have HOK := hide hok
      have hm3 : HasI w3 w3.heap.size Am ms := (HM.out.below hb03).more hb03.size
      obtain ⟨v4, w4, hr4, ho4, hb4⟩ := run_copy_ints w3 22 Am nm cm w3.heap.size ms hm3 HE.out (by omega) (Nat.le_refl _)
      obtain ⟨A4, n4, c4, rfl, hn4, hnc4, hx4⟩ := ho4.form
      obtain rfl : n4 = nm := by rw [← hn4.out, HE.out]
      have HR4 := hide hr4
      have hb04 := hb03.trans (hb4.mono hb03.size)
      have hp4 := ((hb3.trans (hb4.mono hb3.size)).block _ (lt_of_block HP2.out)).trans HP2.out
      have HP4 := hide hp4
      clear hr4 hok p0 p1 p2 hck hp4
      go_wp2_with (at_builtin; refine list_append_want _ (by rfl) (.tmp 26) (.tmp 27) 22 22 rfl _ _ rfl rfl _ _ HR4.out ?_)
      refine (el_new A4 n4 c4 w4.heap.size ms 5 w4 hx4 (Nat.le_refl _) HE.out (by omega) HR.out ⟨by omega, by omega⟩).mono ?_
      rintro e w5 ⟨g, rfl, h5, hb5⟩
      have hb05 := hb04.trans (hb5.mono hb04.size)
      have hbe := (Below.refl _ w5).alloc (Nat.le_refl _) (.cells #[] 3)
      have ho6 := OwnI.new w5 [] w5.heap.size w5.heap.size rfl (Nat.le_refl _) (by simp)
      have h6 := h5.below hbe
      have hp6 := ((hb5.trans (hbe.mono hb5.size)).block _ (lt_of_block HP4.out)).trans HP4.out
      have hb06 := hb05.trans (hbe.mono hb05.size)
      have hz6 : (w5.alloc (.cells #[] 3)).heap.size = w5.heap.size + 1 := by simp
      have hz5 := hb5.size
      have HCR : Hid (CR w4 g ms [] ⟨k, cs, xs⟩ (.slice (some ⟨w5.heap.size, 0, none⟩) 0 0) (w5.alloc (.cells #[] 3))) := hide ⟨⟨_, _, h6, CI.start ms _, fun i hi => hi.1, fun i hi hf => by
        have e : w5.heap.size = i := by simpa [Value.ownBlock] using hi
        omega⟩, ho6.from_ hz5, hb5.trans (hbe.mono hz5)⟩
      have HP6 := hide hp6
      clear h5 h6 ho6 hp6 HR4 hx4 hnc4
      go_upto_region 8 with fail
      generalize w5.alloc (.cells #[] 3) = w6 at *
      have hst : (.bool false : Value) = .bool (enB ms (ns.take 0)) := by
        rw [show enB ms (ns.take 0) = false from by unfold enB cnt; simp]
      go_wp2_with fail
      go_loopw [8, 9, 33] (fun s8 s9 s33 wr => ∃ j : Nat, j ≤ nn ∧ s33 = .int .i64 (j : Int) ∧ s9 = .bool (enB ms (ns.take j)) ∧ Hid (CR w4 g ms (ns.take j) ⟨k, cs, xs⟩ s8 wr)) (fun _ _ s33 _ => nn - (intOf s33).toNat)
      case atStart => exact ⟨0, Nat.zero_le _, rfl, hst, HCR⟩
      case round =>
        clear hst HCR HP6
        obtain ⟨j, hj, rfl, rfl, hcr⟩ := hrel
        have hbl := hcr.out.bel
        have hb0r := hb04.trans (hbl.mono hb04.size)
        have hpr := (hbl.block _ (lt_of_block HP4.out)).trans HP4.out
        by_cases hlt : j < nn
        · have hjl : j < ns.length := by rw [HNE.out]; exact hlt
          obtain ⟨b, o, hA, hbb, hcc⟩ := ((HNN.out.below hb0r).more hb0r.size) j hjl
          have HTK := hide (List.take_succ_eq_append_getElem hjl)
          generalize ns[j] = q at *
          subst hA
          have p0 := (row_cells hpr 0).1
          have p1 := (row_cells hpr 1).1
          have p2 := (row_cells hpr 2).1
          simp only [List.getElem?_toArray, List.getElem?_cons_succ, List.getElem?_cons_zero] at p0 p1 p2
          have hvr := (HV.out.below hb0r).more hb0r.size
          have hcp := rvcopy_any k A D n c m d wr.heap.size cs xs wr hvr.c hvr.i (Nat.le_refl _) hvr.en hvr.em (by have := hvr.ln; omega) (by have := hvr.lm; omega)
          obtain ⟨⟨l, F, hel, hci, hF1, hF2⟩, how, _⟩ := hcr.out
          have HEL := hide hel
          have HCI := hide hci
          have HF1 := hide hF1
          have HF2 := hide hF2
          have HOW := hide how
          have HPR := hide hpr
          have HBL := hide hbl
          clear hel hci hF1 hF2 how hpr hbl hvr hcr
          generalize hb1 : enB ms (ns.take j) = b1 at *
          go_wp2_with fail
          refine hcp.mono ?_
          rintro e w7 ⟨A7, c7, D7, d7, rfl, ho7, hi7, hb7⟩
          clear hcp
          go_wp2_with fail
          refine (evote_any 5 3 k A7 n c7 D7 m d7 w7).mono ?_
          rintro e w8 ⟨rfl, hb8⟩
          have hb78 := hb7.trans (hb8.mono hb7.size)
          have hav : ArgV w8 F A7 n D7 m ⟨k, cs, xs⟩ := ArgV.of_own ho7 hi7 hb8 HEL.out.lt (by have := HV.out.lm; omega)
          have hvt := el_voted (HEL.out.below hb78) q 5 3 1 (by decide) ⟨k, cs, xs⟩ A7 n c7 D7 m d7 hav
          obtain ⟨hc1, hc2⟩ := HCI.out.step HOK.out q
          have hc2' : (l.voted q ⟨5, 3, 1, ⟨k, cs, xs⟩⟩).2 = (enB ms (ns.take (j + 1)) && !b1) := by
            rw [HTK.out]
            rw [← hb1]
            exact hc2
          rw [hc2'] at hvt
          have HC1 : Hid (CI ms (ns.take (j + 1)) ⟨k, cs, xs⟩ (l.voted q ⟨5, 3, 1, ⟨k, cs, xs⟩⟩).1) := hide (by rw [HTK.out]; exact hc1)
          have HO8 := hide (HOW.out.below hb78)
          have HB8 := hide (HBL.out.trans (hb78.mono HBL.out.size))
          clear hc1 hc2 hc2' hav p0 p1 p2 ho7 hi7 hb7
          go_wp2_with fail
          refine hvt.mono ?_
          rintro e w9 ⟨rfl, F9, h9, hk9, hf9⟩
          clear hvt
          have ho9 : OwnI w9 w4.heap.size u8 (ns.take j) := HO8.out.keep fun i hi => hk9.block i (HO8.out.lt i hi).2 (HF2.out i hi)
          have hB9 : Below w4.heap.size w4 w9 := HB8.out.trans (hk9.below HB8.out.size HF1.out)
          have HF9a : Hid (∀ i, F9 i → w4.heap.size ≤ i) := hide (fun i hi => by
            rcases hf9 i hi with e | e
            · exact HF1.out i e
            · have := HB8.out.size; omega)
          have HF9b : Hid (∀ i, u8.ownBlock = some i → ¬ F9 i) := hide (fun i hi hf => by
            rcases hf9 i hf with e | e
            · exact HF2.out i hi e
            · have := (HO8.out.lt i hi).2; omega)
          have hba := (Below.refl _ w9).alloc (Nat.le_refl _) (.cells (icells [q]) 3)
          have hone : HasI (w9.alloc (.cells (icells [q]) 3)) (w9.heap.size + 1) (some ⟨w9.heap.size, 0, none⟩) [q] := HasI.new w9 3 [q] (0, 0) w9.heap.size rfl
          have HO10 := hide (ho9.below hba)
          have h10 := h9.below hba
          have HB10 := hide (hB9.trans (hba.mono hB9.size))
          have HLN : Hid ((ns.take j).length + 1 ≤ 17592186044416) := hide (by rw [List.length_take]; omega)
          have hic : icells [q] = #[.int .i64 q] := rfl
          have HLT9 := hide h9.lt
          rw [hic] at hone hba HO10 h10 HB10
          have H10 := hide h10
          clear hic h10 h9 ho9 hB9 hk9 hf9
          have hTK2 : ns.take j ++ [q] = ns.take (j + 1) := HTK.out.symm
          have HTK2 := hide hTK2
          clear hTK2
          go_wp2_with (first
            | (refine list_append_ints4 _ rfl (.tmp 43) (.tmp 45) rfl w4.heap.size u8 (ns.take j) rfl HO10.out _ _ 1 1 [q] rfl hone rfl HLN.out HB10.out.size ?_; intro v11 w11 ho11 hg11 hat11; have HO11 := hide ho11; have HG11 := hide hg11; have HAT11 := hide hat11; clear ho11 hg11 hat11)
            | fail)
          rw [HTK2.out] at HO11
          have hk11 : Kept (fun i => u8.ownBlock = some i) _ w11 := Kept.of_grown (F := fun i => u8.ownBlock = some i) HG11.out (fun i hi => hi)
          have hB11 := HB10.out.trans (hk11.below HB10.out.size (fun i hi => (HO10.out.lt i hi).1))
          have h11 := H10.out.kept hk11 (fun i hi e => HF9b.out i e hi)
          have HCR2 : Hid (CR w4 g ms (ns.take (j + 1)) ⟨k, cs, xs⟩ v11 w11) := hide ⟨⟨_, F9, h11, HC1.out, HF9a.out, fun i hi hf => by
            rcases HAT11.out with e | e
            · exact HF9b.out i (by rw [← e]; exact hi) hf
            · rw [e] at hi
              have e2 : _ = i := Option.some.inj hi
              have := H10.out.lt i hf
              have := HLT9.out i hf
              simp at e2
              omega⟩, HO11.out, hB11⟩
          obtain ⟨A11, n11, c11, rfl, hn11, _, hx11⟩ := HO11.out.form
          have hm11 := (HM.out.below (hb04.trans (hB11.mono hb04.size))).more (hb04.trans (hB11.mono hb04.size)).size
          have hen := renough_any Am A11 n4 n11 cm c11 w11.heap.size w11.heap.size ms (ns.take (j + 1)) w11 hm11 hx11 HE.out hn11.out (by omega) (by have h := hn11.out; rw [List.length_take] at h; omega)
          generalize hb2 : enB ms (ns.take (j + 1)) = b2 at *
          have HEQ : Hid ((.bool b2 : Value) = .bool (enB ms (ns.take (j + 1)))) := hide (by rw [hb2])
          clear hx11 hm11 hone hba
          go_wp2_with fail
          refine hen.mono ?_
          rintro e _ ⟨rfl, rfl⟩
          clear hen hb1 hb2
          cases b2
          · go_wp2_with fail
            go_roundw
            case rel => exact ⟨j + 1, by omega, by go_num, HEQ.out, HCR2⟩
            case measure => simp [intOf]; omega
          · cases b1
            · go_wp2_with fail
              go_roundw
              case rel => exact ⟨j + 1, by omega, by go_num, HEQ.out, HCR2⟩
              case measure => simp [intOf]; omega
            · go_wp2_with fail
              go_roundw
              case rel => exact ⟨j + 1, by omega, by go_num, HEQ.out, HCR2⟩
              case measure => simp [intOf]; omega
        · obtain rfl : j = nn := by omega
          have HTA : Hid (ns.take j = ns) := hide (List.take_of_length_le (by rw [HNE.out]; exact Nat.le_refl _))
          rw [HTA.out] at hcr
          obtain ⟨⟨l, F, hel, hci, _, _⟩, _, _⟩ := hcr.out
          have HTB : Hid (enB ms (ns.take j) = enB ms ns) := hide (by rw [HTA.out])
          rw [HTB.out]
          have hkn := el_known hel (s := 5) (by decide)
          have HBR := hide hb0r
          have HPR := hide hpr
          have hres : (enB ms ns = true ∧ l.known 5 = ⟨k, cs, xs⟩ ∧ (l.D 5).isSome = true) ∨ (enB ms ns = false ∧ (l.D 5).isSome = false) := by
            rcases hci.st with ⟨a, b⟩ | ⟨a, b, _⟩
            · exact .inl ⟨a, by unfold Lv.known; rw [b]; rfl, by rw [b]; rfl⟩
            · exact .inr ⟨a, by rw [b]; rfl⟩
          clear hel hci hcr hb0r hpr hbl
          go_wp2_with fail
          refine hkn.mono ?_
          rintro e w7 ⟨A7, n7, c7, D7, m7, d7, rfl, ho7, hi7, hb7⟩
          clear hkn
          have hb07 := HBR.out.trans (hb7.mono HBR.out.size)
          have hba := (Below.refl _ w7).alloc (Nat.le_refl _) (.cells #[.int .i64 (l.known 5).k, .slice A7 n7 c7, .slice D7 m7 d7] 35)
          have hb08 := hb07.trans (hba.mono hb07.size)
          rcases hres with ⟨e1, e2, e3⟩ | ⟨e1, e3⟩
          · rw [e1, e3]
            rw [e2] at ho7 hi7 hba hb08 ⊢
            have hv8 := (HV.out.below hb08).more hb08.size
            obtain ⟨a1, a2⟩ := ownc_slice (ho7.below hba)
            obtain ⟨b1, b2⟩ := owni_slice' (hi7.below hba)
            have hq8 := heap_alloc_new w7 (.cells #[.int .i64 k, .slice A7 n7 c7, .slice D7 m7 d7] 35)
            have hp8 := ((hb7.trans (hba.mono hb7.size)).block _ (lt_of_block HPR.out)).trans HPR.out
            have hsm := rvsame_any k k A7 A D7 D n7 n c7 c m7 m d7 d _ cs cs xs xs _ a2 b2 hv8.c hv8.i (Nat.le_refl _) a1 hv8.en b1 hv8.em (by have h1 : cs.length = n7 := a1; have h2 := hv8.en; have h3 := hv8.ln; omega) (by have h1 : xs.length = m7 := b1; have h2 := hv8.em; have h3 := hv8.lm; omega)
            rw [sameV_refl] at hsm
            have p0 := (row_cells hp8 0).1
            have p1 := (row_cells hp8 1).1
            have p2 := (row_cells hp8 2).1
            have q0 := (row_cells hq8 0).1
            have q1 := (row_cells hq8 1).1
            have q2 := (row_cells hq8 2).1
            simp only [List.getElem?_toArray, List.getElem?_cons_succ, List.getElem?_cons_zero] at p0 p1 p2 q0 q1 q2
            clear hv8 a1 a2 b1 b2 hq8 hp8 ho7 hi7 e1 e2 e3
            go_upto_region 19 with fail
            generalize w7.alloc (.cells #[.int .i64 k, .slice A7 n7 c7, .slice D7 m7 d7] 35) = w8 at *
            go_wp2_with fail
            refine hsm.mono ?_
            rintro e w9 ⟨rfl, hb9⟩
            go_wp2
            go_ret
            exact ⟨rfl, hb08.trans (hb9.mono hb08.size)⟩
          · rw [e1, e3]
            go_wp2
            go_ret
            exact ⟨rfl, hb08⟩
    · have hcb : (chkV k cs xs != 0) = true := by simpa using hok
      generalize chkV k cs xs = z at *
      go_wp2
      go_ret
      exact ⟨rfl, hb03⟩
end Go.Proofs.Ytnngmapphacpkaa

namespace Go.Proofs.Ytnngmapphacpkaa
open Go.RowKit

/-- The value that bears a number. -/
def mkc (g : Int) : Cmdv := ⟨g, 1, 0, 1, 0, 0, 0, 0⟩
def mkv (g : Int) : Vl := ⟨1, [mkc g], []⟩
theorem mkv_ok {g : Int} (h : 1 ≤ g ∧ g ≤ 1073741824) : chkV (mkv g).k (mkv g).cs (mkv g).ns = 0 := by
  have h1 : chkC (mkc g) = 0 := by
    unfold chkC
    rw [if_pos ⟨decide_eq_true h, (show insB 1 1 1099511627776 = true by decide), (show insB 0 0 (1 - 1) = true by decide)⟩]
    show chk 1 0 0 0 0 = 0
    decide
  show chkV 1 [mkc g] [] = 0
  unfold chkV
  rw [if_pos (show shB 1 [mkc g].length ([] : List Int).length = true from (show shB 1 1 0 = true by decide)), if_neg (show ¬ (1 : Int) = 2 by decide)]
  show (if chkC (mkc g) = 0 then chkCs [] else chkC (mkc g)) = 0
  rw [if_pos h1]
  rfl
def n3 (k : Int) : Prop := k = 1 ∨ k = 2 ∨ k = 3
/-- Two nodes have voted in a round. -/
def Ch (H : Int → Int → Prop) (r : Int) : Prop := ∃ k1 k2, k1 ≠ k2 ∧ H k1 r ∧ H k2 r
/-- What stands of rounds, votes and values. -/
structure PI (R bound : Int) (V W gv : Int → Int) (H : Int → Int → Prop) : Prop where
  r0 : 0 ≤ R
  h : ∀ k r, H k r → n3 k ∧ 1 ≤ r ∧ r ≤ R ∧ r ≤ V k
  v : ∀ k, n3 k → 0 ≤ V k ∧ V k ≤ R
  w : ∀ k, n3 k → 1 ≤ V k → W k = gv (V k)
  b : 1 ≤ R → bound = gv R
  g : ∀ r, 1 ≤ r → r ≤ R → 1 ≤ gv r ∧ gv r ≤ R
  safe : ∀ r r', Ch H r → r ≤ r' → r' ≤ R → gv r' = gv r
def pickB (R : Int) (V W : Int → Int) (n o : Int) : Int := if max (V n) 0 < V o then W o else if 0 < V n then W n else R + 1
theorem PI.start : PI 0 0 (fun _ => 0) (fun _ => 0) (fun _ => 0) (fun _ _ => False) :=
  ⟨by omega, fun _ _ h => h.elim, fun _ _ => by omega, fun _ _ h => by omega, fun h => (by omega), fun _ _ _ => (by omega), fun _ _ h => by obtain ⟨_, _, _, h, _⟩ := h; exact h.elim⟩
theorem PI.prep {R bound : Int} {V W gv : Int → Int} {H : Int → Int → Prop} (h : PI R bound V W gv H) {n o : Int} (hn : n3 n) (ho : n3 o) (hne : n ≠ o) :
    PI (R + 1) (pickB R V W n o) V W (fun r => if r = R + 1 then pickB R V W n o else gv r) H := by
  have hr := h.r0
  have hvn := h.v n hn
  have hvo := h.v o ho
  refine ⟨by omega, fun k r hk => ?_, fun k hk => ?_, fun k hk h1 => ?_, fun _ => ?_, fun r h1 h2 => ?_, fun r r' hc h1 h2 => ?_⟩
  · have := h.h k r hk
    exact ⟨this.1, this.2.1, by omega, this.2.2.2⟩
  · have := h.v k hk
    omega
  · have := h.v k hk
    rw [if_neg (by omega)]
    exact h.w k hk h1
  · rw [if_pos rfl]
  · by_cases e : r = R + 1
    · rw [if_pos e]
      unfold pickB
      split
      · rw [h.w o ho (by omega)]
        have := h.g (V o) (by omega) (by omega)
        omega
      · split
        · rw [h.w n hn (by omega)]
          have := h.g (V n) (by omega) (by omega)
          omega
        · omega
    · rw [if_neg e]
      have := h.g r h1 (by omega)
      omega
  · obtain ⟨k1, k2, hk, a1, a2⟩ := hc
    have b1 := h.h k1 r a1
    have b2 := h.h k2 r a2
    rw [if_neg (show ¬ r = R + 1 by omega)]
    by_cases e : r' = R + 1
    · rw [if_pos e]
      have hk3 : ∃ k, (k = n ∨ k = o) ∧ H k r := by
        have c1 := b1.1
        have c2 := b2.1
        unfold n3 at c1 c2 hn ho
        by_cases e1 : k1 = n ∨ k1 = o
        · exact ⟨k1, e1, a1⟩
        · exact ⟨k2, by omega, a2⟩
      obtain ⟨k, hko, ak⟩ := hk3
      have bk := h.h k r ak
      have hcc : Ch H r := ⟨k1, k2, hk, a1, a2⟩
      unfold pickB
      split
      · rename_i h3
        rw [h.w o ho (by omega)]
        refine h.safe r (V o) hcc ?_ hvo.2
        rcases hko with rfl | rfl
        · omega
        · exact bk.2.2.2
      · rename_i h3
        split
        · rename_i h4
          rw [h.w n hn (by omega)]
          refine h.safe r (V n) hcc ?_ hvn.2
          rcases hko with rfl | rfl
          · exact bk.2.2.2
          · omega
        · exfalso
          rcases hko with rfl | rfl
          · omega
          · omega
    · rw [if_neg e]
      exact h.safe r r' ⟨k1, k2, hk, a1, a2⟩ h1 (by omega)
theorem PI.vote {R bound : Int} {V W gv : Int → Int} {H : Int → Int → Prop} (h : PI R bound V W gv H) {n : Int} (hn : n3 n) (hR : 1 ≤ R) :
    PI R bound (fun z => if z = n then R else V z) (fun z => if z = n then bound else W z) gv (fun k r => H k r ∨ k = n ∧ r = R) := by
  refine ⟨h.r0, fun k r hk => ?_, fun k hk => ?_, fun k hk h1 => ?_, h.b, h.g, fun r r' hc h1 h2 => ?_⟩
  · rcases hk with hk | ⟨rfl, rfl⟩
    · have := h.h k r hk
      refine ⟨this.1, this.2.1, this.2.2.1, ?_⟩
      split
      · omega
      · omega
    · rw [if_pos rfl]
      exact ⟨hn, hR, by omega, by omega⟩
  · have := h.v k hk
    split <;> omega
  · by_cases e : k = n
    · rw [if_pos e, if_pos e]
      exact h.b hR
    · rw [if_neg e] at h1 ⊢
      rw [if_neg e]
      exact h.w k hk h1
  · by_cases e : r = R
    · rw [show r' = r by omega]
    · refine h.safe r r' ?_ h1 h2
      obtain ⟨k1, k2, hk, a1, a2⟩ := hc
      exact ⟨k1, k2, hk, a1.resolve_right (fun h => e h.2), a2.resolve_right (fun h => e h.2)⟩

/-- A learner that has heard such votes alone. -/
structure LI (R : Int) (gv : Int → Int) (H : Int → Int → Prop) (l : Lv) : Prop where
  hms : l.ms = [1, 2, 3]
  nx : l.next = 1
  vt : ∀ k u, l.at_ 1 k = some u → ∃ r, H k r ∧ r ≤ R ∧ u = ⟨1, r, 1, mkv (gv r)⟩
  dc : ∀ x, l.D 1 = some x → ∃ r, Ch H r ∧ r ≤ R ∧ x = mkv (gv r)
theorem LI.start : LI 0 (fun _ => 0) (fun _ _ => False) (Lv.new [1, 2, 3] 1) :=
  ⟨rfl, rfl, fun k u h => (by cases h), fun x h => (by cases h)⟩
theorem LI.more {R R' : Int} {gv gv' : Int → Int} {H H' : Int → Int → Prop} {l : Lv} (h : LI R gv H l) (hR : R ≤ R') (hg : ∀ r, r ≤ R → gv' r = gv r) (hH : ∀ k r, H k r → H' k r) : LI R' gv' H' l := by
  refine ⟨h.hms, h.nx, fun k u hu => ?_, fun x hx => ?_⟩
  · obtain ⟨r, a, b, c⟩ := h.vt k u hu
    exact ⟨r, hH k r a, by omega, by rw [hg r b]; exact c⟩
  · obtain ⟨r, ⟨k1, k2, a, b, c⟩, d, e⟩ := h.dc x hx
    exact ⟨r, ⟨k1, k2, a, hH _ _ b, hH _ _ c⟩, by omega, by rw [hg r d]; exact e⟩
theorem LI.agree {R bound : Int} {V W gv : Int → Int} {H : Int → Int → Prop} (h : PI R bound V W gv H) {a b : Lv} (ha : LI R gv H a) (hb : LI R gv H b) {x y : Vl} (hx : a.D 1 = some x) (hy : b.D 1 = some y) : x = y := by
  obtain ⟨r, c1, d1, rfl⟩ := ha.dc x hx
  obtain ⟨s, c2, d2, rfl⟩ := hb.dc y hy
  rcases Int.le_total r s with h1 | h1
  · rw [h.safe r s c1 h1 d2]
  · rw [h.safe s r c2 h1 d1]
theorem quo3 {p : Int → Bool} (h : quo [1, 2, 3] p = true) : ∃ k1 k2, k1 ≠ k2 ∧ p k1 = true ∧ p k2 = true := by
  unfold quo at h
  have h1 := of_decide_eq_true h
  simp only [List.countP_cons, List.countP_nil, List.length_cons, List.length_nil] at h1
  cases e1 : p 1 <;> cases e2 : p 2 <;> cases e3 : p 3 <;> simp only [e1, e2, e3] at h1
  all_goals first
    | exact ⟨1, 2, by decide, e1, e2⟩
    | exact ⟨1, 3, by decide, e1, e3⟩
    | exact ⟨2, 3, by decide, e2, e3⟩
    | (exfalso; simp at h1)
theorem LI.step {R : Int} {gv : Int → Int} {H : Int → Int → Prop} {l : Lv} (h : LI R gv H l) {n : Int} (hv : H n R) : LI R gv H (l.voted n ⟨1, R, 1, mkv (gv R)⟩).1 := by
  unfold Lv.voted
  split
  · rename_i hc
    have hh : LI R gv H (l.hrd 1) := ⟨h.hms, h.nx, h.vt, h.dc⟩
    show LI R gv H ((l.hrd 1).vote2 n ⟨1, R, 1, mkv (gv R)⟩).1
    generalize l.hrd 1 = l1 at *
    have hk : LI R gv H (l1.kept n ⟨1, R, 1, mkv (gv R)⟩).1 := by
      unfold Lv.kept
      split
      · refine ⟨hh.hms, hh.nx, fun k u hu => ?_, hh.dc⟩
        have hu' : (((l1.setV 1 (fun z => if z = n then some ⟨1, R, 1, mkv (gv R)⟩ else ((l1.V 1).getD fun _ => none) z)).V 1).getD fun _ => none) k = some u := hu
        rw [Lv.setV_same] at hu'
        have hu2 : (if k = n then some (⟨1, R, 1, mkv (gv R)⟩ : Vt) else ((l1.V 1).getD fun _ => none) k) = some u := hu'
        by_cases e : k = n
        · rw [if_pos e] at hu2
          exact ⟨R, by rw [e]; exact hv, Int.le_refl _, (Option.some.inj hu2).symm⟩
        · rw [if_neg e] at hu2
          exact hh.vt k u hu2
      · exact hh
    unfold Lv.vote2
    split
    · rename_i hq
      rw [Bool.and_eq_true] at hq
      have hq2 := hq.2
      rw [hk.hms] at hq2
      obtain ⟨k1, k2, hne, a1, a2⟩ := quo3 hq2
      have hag : ∀ k, agr ((l1.kept n ⟨1, R, 1, mkv (gv R)⟩).1.at_ 1) ⟨1, R, 1, mkv (gv R)⟩ k = true → H k R := fun k ha => by
        unfold agr at ha
        cases hN : (l1.kept n ⟨1, R, 1, mkv (gv R)⟩).1.at_ 1 k with
        | none => rw [hN] at ha; cases ha
        | some u =>
          rw [hN] at ha
          obtain ⟨r, b1, b2, rfl⟩ := hk.vt k u hN
          dsimp only at ha
          rw [Bool.and_eq_true] at ha
          have e := of_decide_eq_true ha.1
          injection e with e _
          rw [← e]
          exact b1
      refine ⟨hk.hms, hk.nx, fun k u hu => ?_, fun x hx => ?_⟩
      · have hu' : ((if (1 : Int) = 1 then none else (l1.kept n ⟨1, R, 1, mkv (gv R)⟩).1.V 1).getD fun _ => none) k = some u := hu
        rw [if_pos rfl] at hu'
        cases hu'
      · have hx' : (if (1 : Int) = 1 then some (mkv (gv R)) else (l1.kept n ⟨1, R, 1, mkv (gv R)⟩).1.D 1) = some x := hx
        rw [if_pos rfl] at hx'
        exact ⟨R, ⟨k1, k2, hne, hag k1 a1, hag k2 a2⟩, Int.le_refl _, (Option.some.inj hx').symm⟩
    · exact hk
  · exact h
end Go.Proofs.Ytnngmapphacpkaa

namespace Go.Proofs.Ytnngmapphacpkaa
open Go.RowKit

theorem and_low (s : Int) (m : Nat) (hm : m < 4) : 0 ≤ bits .and .i64 s (m : Int) ∧ bits .and .i64 s (m : Int) ≤ (m : Int) := by
  have h1 : (BitVec.ofInt 64 (m : Int)).toNat = m := by
    rw [BitVec.ofInt_natCast, BitVec.toNat_ofNat]; exact Nat.mod_eq_of_lt (by omega)
  have h2 : bits .and .i64 s (m : Int) = IntKind.i64.wrap ((BitVec.ofInt 64 s &&& BitVec.ofInt 64 (m : Int)).toNat : Int) := rfl
  have h3 : (BitVec.ofInt 64 s &&& BitVec.ofInt 64 (m : Int)).toNat ≤ m := by
    rw [BitVec.toNat_and, h1]
    exact Nat.and_le_right
  rw [h2, IntWalk.i64_in _ (by omega)]
  omega
/-- An array of four numbers. -/
def A4 (f : Nat → Int) : Array Value := #[.int .i64 (f 0), .int .i64 (f 1), .int .i64 (f 2), .int .i64 (f 3)]
theorem a4_get (f : Nat → Int) {m : Nat} (h : m < 4) : (A4 f)[m]? = some (.int .i64 (f m)) := by
  rcases m with _ | _ | _ | _ | m
  · rfl
  · rfl
  · rfl
  · rfl
  · omega
theorem a4_set (f : Nat → Int) {m : Nat} (h : m < 4) (v : Int) : (A4 f).setIfInBounds m (.int .i64 v) = A4 (fun z => if z = m then v else f z) := by
  rcases m with _ | _ | _ | _ | m
  · rfl
  · rfl
  · rfl
  · rfl
  · omega
theorem and_one (s : Int) : 0 ≤ bits .and .i64 s 1 ∧ bits .and .i64 s 1 ≤ 1 := and_low s 1 (by omega)
theorem and_three (s : Int) : 0 ≤ bits .and .i64 s 3 ∧ bits .and .i64 s 3 ≤ 3 := and_low s 3 (by omega)
/-- What the loop holds: rounds, promises, votes, values, two learners. -/
structure AGS (w : World) (n5 ga gb : Nat) (R bound : Int) (P V W : Nat → Int) (gv : Int → Int) (H : Int → Int → Prop) (la lb : Lv) (Fa Fb : Nat → Prop) (wr : World) : Prop where
  pi : PI R bound (fun k => V k.toNat) (fun k => W k.toNat) gv H
  pr : ∀ m, 1 ≤ m → m ≤ 3 → P m ≤ R
  ia : LI R gv H la
  ib : LI R gv H lb
  ea : EL wr Fa ga la
  eb : EL wr Fb gb lb
  dis : ∀ j, Fa j → ¬ Fb j
  pa : ∀ j, n5 ≤ j → j ≤ n5 + 2 → ¬ Fa j ∧ ¬ Fb j
  fa : ∀ j, Fa j → w.heap.size ≤ j
  fb : ∀ j, Fb j → w.heap.size ≤ j
  b5 : wr.heap[n5]? = some (.cells (A4 P) 67 (0, 0))
  b6 : wr.heap[n5 + 1]? = some (.cells (A4 V) 67 (0, 0))
  b7 : wr.heap[n5 + 1 + 1]? = some (.cells (A4 W) 67 (0, 0))
  bel : Below w.heap.size w wr
  n5w : w.heap.size ≤ n5
theorem AGS.prep {w wr w7 wx : World} {n5 ga gb : Nat} {R bound : Int} {P V W P' : Nat → Int} {gv : Int → Int} {H : Int → Int → Prop} {la lb : Lv} {Fa Fb : Nat → Prop} (h : AGS w n5 ga gb R bound P V W gv H la lb Fa Fb wr) {m q : Nat} (hm : 1 ≤ m ∧ m ≤ 3) (hq : 1 ≤ q ∧ q ≤ 3) (hne : q ≠ m) (ba : Below wr.heap.size wr w7)
    (hk : Kept (fun i => i = n5) w7 wx) (hp : wx.heap[n5]? = some (.cells (A4 P') 67 (0, 0))) (hpb : ∀ i, 1 ≤ i → i ≤ 3 → P' i ≤ R + 1) :
    AGS w n5 ga gb (R + 1) (pickB R (fun k => V k.toNat) (fun k => W k.toNat) (m : Int) (q : Int)) P' V W (fun r => if r = R + 1 then pickB R (fun k => V k.toNat) (fun k => W k.toNat) (m : Int) (q : Int) else gv r) H la lb Fa Fb wx := by
  have hz := ba.size
  have l7 := lt_of_block h.b7
  have l6 := lt_of_block h.b6
  have l5 := lt_of_block h.b5
  have hg : ∀ r, r ≤ R → (if r = R + 1 then pickB R (fun k => V k.toNat) (fun k => W k.toNat) (m : Int) (q : Int) else gv r) = gv r := fun r hr => if_neg (by omega)
  refine ⟨h.pi.prep (by unfold n3; omega) (by unfold n3; omega) (by omega), hpb, h.ia.more (by omega) hg (fun _ _ h => h), h.ib.more (by omega) hg (fun _ _ h => h), (h.ea.below ba).kept hk (fun j hj e => (h.pa n5 (Nat.le_refl _) (by omega)).1 (by rw [← e]; exact hj)), (h.eb.below ba).kept hk (fun j hj e => (h.pa n5 (Nat.le_refl _) (by omega)).2 (by rw [← e]; exact hj)), h.dis, h.pa, h.fa, h.fb, hp,
    (hk.block _ (by omega) (by omega)).trans ((ba.block _ l6).trans h.b6), (hk.block _ (by omega) (by omega)).trans ((ba.block _ l7).trans h.b7), (h.bel.trans (ba.mono h.bel.size)).trans (hk.below (by have := h.bel.size; omega) (fun j hj => by have := h.n5w; omega)), h.n5w⟩
theorem AGS.vote {w wr wx : World} {n5 ga gb : Nat} {R bound : Int} {P V W : Nat → Int} {gv : Int → Int} {H : Int → Int → Prop} {la lb : Lv} {Fa Fb : Nat → Prop} (h : AGS w n5 ga gb R bound P V W gv H la lb Fa Fb wr) {m : Nat} (hm : 1 ≤ m ∧ m ≤ 3) (hR : 1 ≤ R)
    (hx : wx = ((wr.setCell ⟨n5, m, none⟩ (.int .i64 R)).setCell ⟨n5 + 1, m, none⟩ (.int .i64 R)).setCell ⟨n5 + 1 + 1, m, none⟩ (.int .i64 bound)) :
    ∃ (P' V' W' : Nat → Int) (H' : Int → Int → Prop), AGS w n5 ga gb R bound P' V' W' gv H' la lb Fa Fb wx ∧ H' (m : Int) R := by
  have k1 : Kept (fun i => n5 ≤ i ∧ i ≤ n5 + 2) wr wx := by
    rw [hx]
    exact (((Kept.refl (fun i => n5 ≤ i ∧ i ≤ n5 + 2) wr).setCell (p := ⟨n5, m, none⟩) (.inl ⟨Nat.le_refl _, by show n5 ≤ n5 + 2; omega⟩) _).setCell (p := ⟨n5 + 1, m, none⟩) (.inl ⟨by show n5 ≤ n5 + 1; omega, by show n5 + 1 ≤ n5 + 2; omega⟩) _).setCell (p := ⟨n5 + 1 + 1, m, none⟩) (.inl ⟨by show n5 ≤ n5 + 1 + 1; omega, by show n5 + 1 + 1 ≤ n5 + 2; omega⟩) _
  have eV : (fun k : Int => (fun z => if z = m then R else V z) k.toNat) = fun z : Int => if z = (m : Int) then R else V z.toNat := by
    funext k
    dsimp only
    by_cases e : k = (m : Int)
    · rw [if_pos e, if_pos (by omega)]
    · rw [if_neg e, if_neg (by omega)]
  have eW : (fun k : Int => (fun z => if z = m then bound else W z) k.toNat) = fun z : Int => if z = (m : Int) then bound else W z.toNat := by
    funext k
    dsimp only
    by_cases e : k = (m : Int)
    · rw [if_pos e, if_pos (by omega)]
    · rw [if_neg e, if_neg (by omega)]
  have b5 : wx.heap[n5]? = some (.cells (A4 (fun z => if z = m then R else P z)) 67 (0, 0)) := by
    rw [hx, Below.heap_setCell _ _ _ _ (by show n5 ≠ n5 + 1 + 1; omega), Below.heap_setCell _ _ _ _ (by show n5 ≠ n5 + 1; omega), heap_setCell_same wr n5 m _ _ _ h.b5, a4_set P (by omega)]
  have b6 : wx.heap[n5 + 1]? = some (.cells (A4 (fun z => if z = m then R else V z)) 67 (0, 0)) := by
    rw [hx, Below.heap_setCell _ _ _ _ (by show n5 + 1 ≠ n5 + 1 + 1; omega), heap_setCell_same _ (n5 + 1) m _ _ _ ((Below.heap_setCell wr _ _ _ (by show n5 + 1 ≠ n5; omega)).trans h.b6), a4_set V (by omega)]
  have b7 : wx.heap[n5 + 1 + 1]? = some (.cells (A4 (fun z => if z = m then bound else W z)) 67 (0, 0)) := by
    rw [hx, heap_setCell_same _ (n5 + 1 + 1) m _ _ _ ((Below.heap_setCell _ _ _ _ (by show n5 + 1 + 1 ≠ n5 + 1; omega)).trans ((Below.heap_setCell wr _ _ _ (by show n5 + 1 + 1 ≠ n5; omega)).trans h.b7)), a4_set W (by omega)]
  refine ⟨_, _, _, fun k r => H k r ∨ k = (m : Int) ∧ r = R, ⟨by rw [eV, eW]; exact h.pi.vote (by unfold n3; omega) hR, fun i h1 h2 => ?_, h.ia.more (Int.le_refl _) (fun _ _ => rfl) (fun _ _ h => .inl h), h.ib.more (Int.le_refl _) (fun _ _ => rfl) (fun _ _ h => .inl h), h.ea.kept k1 (fun j hj e => (h.pa j e.1 e.2).1 hj), h.eb.kept k1 (fun j hj e => (h.pa j e.1 e.2).2 hj), h.dis, h.pa, h.fa, h.fb, b5, b6, b7, h.bel.trans (k1.below h.bel.size (fun j hj => by have := h.n5w; omega)), h.n5w⟩, .inr ⟨rfl, rfl⟩⟩
  by_cases e : i = m
  · simp [e]
  · simp [e]
    exact h.pr i h1 h2
/-- The same, beside a value that bears the bound number. -/
structure AST (w : World) (n5 ga gb : Nat) (R bound : Int) (P V W : Nat → Int) (gv : Int → Int) (H : Int → Int → Prop) (la lb : Lv) (Fa Fb : Nat → Prop) (bc bx : Nat) (wr : World) : Prop where
  ag : AGS w n5 ga gb R bound P V W gv H la lb Fa Fb wr
  blk : wr.heap[bc]? = some (.cells (flatC [mkc bound]).toArray 58 (0, 0))
  box : wr.heap[bx]? = some (.cells #[.int .i64 1, .slice (some ⟨bc, 0, none⟩) 1 1, .slice none 0 0] 35 (0, 0))
  off : ∀ j, Fa j ∨ Fb j → j ≠ bc ∧ j ≠ bx
  n5b : n5 + 2 < bc ∧ bc < bx
section
variable {w wr w' : World} {n5 ga gb : Nat} {R bound : Int} {P V W : Nat → Int} {gv : Int → Int} {H : Int → Int → Prop} {la lb : Lv} {Fa Fb : Nat → Prop} {bc bx : Nat}
theorem AST.arg (h : AST w n5 ga gb R bound P V W gv H la lb Fa Fb bc bx wr) (F : Nat → Prop) (hF : ¬ F bc) : ArgV wr F (some ⟨bc, 0, none⟩) 1 none 0 (mkv bound) := by
  refine ⟨HasC.of_cells (lt_of_block h.blk) (fun j u hu => ?_), fun i hi => absurd hi (by simp [mkv]), rfl, rfl, by omega, fun b o e hf => ?_, fun b o e => by cases e⟩
  · rw [cell_of_row _ _ _ _ _ _ h.blk, List.getElem?_toArray]
    exact hu
  · cases e
    exact hF hf
theorem AST.below (h : AST w n5 ga gb R bound P V W gv H la lb Fa Fb bc bx wr) (hb : Below wr.heap.size wr w') : AST w n5 ga gb R bound P V W gv H la lb Fa Fb bc bx w' :=
  ⟨⟨h.ag.pi, h.ag.pr, h.ag.ia, h.ag.ib, h.ag.ea.below hb, h.ag.eb.below hb, h.ag.dis, h.ag.pa, h.ag.fa, h.ag.fb, (hb.block _ (lt_of_block h.ag.b5)).trans h.ag.b5, (hb.block _ (lt_of_block h.ag.b6)).trans h.ag.b6, (hb.block _ (lt_of_block h.ag.b7)).trans h.ag.b7, h.ag.bel.trans (hb.mono h.ag.bel.size), h.ag.n5w⟩, (hb.block _ (lt_of_block h.blk)).trans h.blk, (hb.block _ (lt_of_block h.box)).trans h.box, h.off, h.n5b⟩
theorem AST.hearA (h : AST w n5 ga gb R bound P V W gv H la lb Fa Fb bc bx wr) {m : Int} (hR : 1 ≤ R) (hv : H m R) {F' : Nat → Prop} (he : EL w' F' ga (la.voted m ⟨1, R, 1, mkv bound⟩).1) (hk : Kept Fa wr w') (hf : ∀ j, F' j → Fa j ∨ wr.heap.size ≤ j) :
    AST w n5 ga gb R bound P V W gv H (la.voted m ⟨1, R, 1, mkv bound⟩).1 lb F' Fb bc bx w' := by
  have l5 := lt_of_block h.ag.b5
  have l6 := lt_of_block h.ag.b6
  have l7 := lt_of_block h.ag.b7
  have lc := lt_of_block h.blk
  have lx := lt_of_block h.box
  have hz := h.ag.bel.size
  have n5b := h.n5b
  have hpa : ∀ j, n5 ≤ j → j ≤ n5 + 2 → ¬ Fa j := fun j h1 h2 => (h.ag.pa j h1 h2).1
  have hgb : bound = gv R := h.ag.pi.b hR
  have hst : LI R gv H (la.voted m ⟨1, R, 1, mkv bound⟩).1 := by rw [hgb]; exact h.ag.ia.step hv
  refine ⟨⟨h.ag.pi, h.ag.pr, hst, h.ag.ib, he, h.ag.eb.kept hk (fun j hj hf' => h.ag.dis j hf' hj), fun j hj hb => ?_, fun j h1 h2 => ⟨fun hj => ?_, (h.ag.pa j h1 h2).2⟩, fun j hj => ?_, h.ag.fb, (hk.block _ l5 (hpa _ (by omega) (by omega))).trans h.ag.b5, (hk.block _ l6 (hpa _ (by omega) (by omega))).trans h.ag.b6, (hk.block _ l7 (hpa _ (by omega) (by omega))).trans h.ag.b7, h.ag.bel.trans (hk.below hz h.ag.fa), h.ag.n5w⟩,
    (hk.block _ lc (fun hf' => (h.off _ (.inl hf')).1 rfl)).trans h.blk, (hk.block _ lx (fun hf' => (h.off _ (.inl hf')).2 rfl)).trans h.box, fun j hj => ?_, h.n5b⟩
  · rcases hf j hj with e | e
    · exact h.ag.dis j e hb
    · have := h.ag.eb.lt j hb
      omega
  · rcases hf j hj with e | e
    · exact hpa j h1 h2 e
    · omega
  · rcases hf j hj with e | e
    · exact h.ag.fa j e
    · omega
  · rcases hj with hj | hj
    · rcases hf j hj with e | e
      · exact h.off j (.inl e)
      · omega
    · exact h.off j (.inr hj)
theorem AST.swap (h : AST w n5 ga gb R bound P V W gv H la lb Fa Fb bc bx wr) : AST w n5 gb ga R bound P V W gv H lb la Fb Fa bc bx wr :=
  ⟨⟨h.ag.pi, h.ag.pr, h.ag.ib, h.ag.ia, h.ag.eb, h.ag.ea, fun j a b => h.ag.dis j b a, fun j h1 h2 => ⟨(h.ag.pa j h1 h2).2, (h.ag.pa j h1 h2).1⟩, h.ag.fb, h.ag.fa, h.ag.b5, h.ag.b6, h.ag.b7, h.ag.bel, h.ag.n5w⟩, h.blk, h.box, fun j hj => h.off j hj.symm, h.n5b⟩
end
set_option maxHeartbeats 3200000 in
set_option maxRecDepth 20000 in
theorem agree_walk (An : Option Addr) (nn cn : Nat) (ns : List Int) (w : World) (hN : HasI w w.heap.size An ns) (eN : ns.length = nn) (lN : nn ≤ 17592186043904) :
    Calls Try.prog 6 #[.slice An nn cn] w fun e w' => e = .returned (.bool true) ∧ Below w.heap.size w w' := by
  have HNN := hide hN
  have HNE := hide eN
  clear hN eN
  go_enter Try.func6, Try.ntmps6
  go_wp2_with fail
  refine (head15_any w).mono ?_
  rintro e w1 ⟨rfl, hb1⟩
  have hm1 : HasI (w1.alloc (.cells (icells [1, 2, 3]) 3)) (w1.heap.size + 1) (some ⟨w1.heap.size, 0, none⟩) [1, 2, 3] := HasI.new w1 3 [1, 2, 3] (0, 0) w1.heap.size rfl
  have ba1 := (Below.refl _ w1).alloc (Nat.le_refl _) (.cells (icells [1, 2, 3]) 3)
  have hic : icells [1, 2, 3] = #[.int .i64 1, .int .i64 2, .int .i64 3] := rfl
  rw [hic] at hm1 ba1
  have hz1 : (w1.alloc (.cells #[.int .i64 1, .int .i64 2, .int .i64 3] 3)).heap.size = w1.heap.size + 1 := by simp
  go_wp2_with fail
  generalize w1.alloc (.cells #[.int .i64 1, .int .i64 2, .int .i64 3] 3) = w2 at *
  refine (el_new _ 3 _ _ _ 1 w2 hm1 (by omega) rfl (by omega) right123 ⟨by omega, by omega⟩).mono ?_
  rintro e w3 ⟨ga, rfl, h3, hb3⟩
  have hm3 : HasI (w3.alloc (.cells (icells [1, 2, 3]) 3)) (w3.heap.size + 1) (some ⟨w3.heap.size, 0, none⟩) [1, 2, 3] := HasI.new w3 3 [1, 2, 3] (0, 0) w3.heap.size rfl
  have ba3 := (Below.refl _ w3).alloc (Nat.le_refl _) (.cells (icells [1, 2, 3]) 3)
  rw [hic] at hm3 ba3
  have hz3 : (w3.alloc (.cells #[.int .i64 1, .int .i64 2, .int .i64 3] 3)).heap.size = w3.heap.size + 1 := by simp
  go_wp2_with fail
  generalize w3.alloc (.cells #[.int .i64 1, .int .i64 2, .int .i64 3] 3) = w4 at *
  refine (el_new _ 3 _ _ _ 1 w4 hm3 (by omega) rfl (by omega) right123 ⟨by omega, by omega⟩).mono ?_
  rintro e w5 ⟨gb, rfl, h5, hb5⟩
  have hb45 := ba3.trans (hb5.mono ba3.size)
  have h5a := h3.below hb45
  have h0 : Below w5.heap.size w5 (((w5.alloc (.cells (A4 fun _ => 0) 67)).alloc (.cells (A4 fun _ => 0) 67)).alloc (.cells (A4 fun _ => 0) 67)) := (((Below.refl _ _).alloc (Nat.le_refl _) _).alloc (by simp) _).alloc (by simp; omega) _
  have hAG : AGS w w5.heap.size ga gb 0 0 (fun _ => 0) (fun _ => 0) (fun _ => 0) (fun _ => 0) (fun _ _ => False) (Lv.new [1, 2, 3] 1) (Lv.new [1, 2, 3] 1) (fun j => w2.heap.size ≤ j ∧ j < w3.heap.size) (fun j => w4.heap.size ≤ j ∧ j < w5.heap.size) (((w5.alloc (.cells (A4 fun _ => 0) 67)).alloc (.cells (A4 fun _ => 0) 67)).alloc (.cells (A4 fun _ => 0) 67)) := by
    have q1 := heap_alloc_new w5 (.cells (A4 fun _ => 0) 67)
    have q2 := heap_alloc_new (w5.alloc (.cells (A4 fun _ => 0) 67)) (.cells (A4 fun _ => 0) 67)
    have q3 := heap_alloc_new ((w5.alloc (.cells (A4 fun _ => 0) 67)).alloc (.cells (A4 fun _ => 0) 67)) (.cells (A4 fun _ => 0) 67)
    have s1 : (w5.alloc (.cells (A4 fun _ => 0) 67)).heap.size = w5.heap.size + 1 := by simp
    have s2 : ((w5.alloc (.cells (A4 fun _ => 0) 67)).alloc (.cells (A4 fun _ => 0) 67)).heap.size = w5.heap.size + 1 + 1 := by simp
    rw [s1] at q2
    rw [s2] at q3
    have z1 := hb1.size
    have z3 := hb3.size
    have z5 := hb5.size
    have z13 := ba1.size
    have z34 := ba3.size
    have hb05 : Below w.heap.size w w5 := ((hb1.trans (ba1.mono z1)).trans (hb3.mono (by omega))).trans (hb45.mono (by omega))
    exact ⟨PI.start, fun _ _ _ => by omega, LI.start, LI.start, h5a.below h0, h5.below h0, fun j h1 h2 => by omega, fun j h1 h2 => ⟨fun h => by omega, fun h => by omega⟩, fun j h => by omega, fun j h => by omega,
      (Below.heap_alloc _ _ _ (by rw [s2]; omega)).trans ((Below.heap_alloc _ _ _ (by rw [s1]; omega)).trans q1), (Below.heap_alloc _ _ _ (by rw [s2]; omega)).trans q2, q3, hb05.trans (h0.mono (by omega)), by omega⟩
  have HAG := hide hAG
  have ea4 : A4 (fun _ => 0) = #[.int .i64 0, .int .i64 0, .int .i64 0, .int .i64 0] := rfl
  rw [ea4] at HAG
  clear hAG h0 h5 h5a h3 hm1 hm3 ba1 ba3 hb3 hb5 hb45 hz1 hz3 hb1 ea4
  go_upto_region 11 with fail
  generalize ((w5.alloc (.cells #[.int .i64 0, .int .i64 0, .int .i64 0, .int .i64 0] 67)).alloc (.cells #[.int .i64 0, .int .i64 0, .int .i64 0, .int .i64 0] 67)).alloc (.cells #[.int .i64 0, .int .i64 0, .int .i64 0, .int .i64 0] 67) = w6 at *
  generalize w5.heap.size = n5 at *
  go_wp2_with fail
  go_loopw [8, 9, 10] (fun s8 s9 s10 wr => ∃ (j : Nat) (R bound : Int) (P V W : Nat → Int) (gv : Int → Int) (H : Int → Int → Prop) (la lb : Lv) (Fa Fb : Nat → Prop), j ≤ 200 ∧ s10 = .int .i64 (j : Int) ∧ R ≤ (j : Int) ∧ s9 = .int .i64 R ∧ s8 = .int .i64 bound ∧ Hid (AGS w n5 ga gb R bound P V W gv H la lb Fa Fb wr)) (fun _ _ s10 _ => 200 - (intOf s10).toNat)
  case atStart => exact ⟨0, 0, 0, _, _, _, _, _, _, _, _, _, by omega, rfl, by omega, rfl, rfl, HAG⟩
  case round =>
    clear HAG
    obtain ⟨j, R, bound, P, V, W, gv, H, la, lb, Fa, Fb, hj, rfl, hRj, rfl, rfl, hag⟩ := hrel
    have hR0 := hag.out.pi.r0
    by_cases h200 : (j : Int) < 200
    · by_cases hlt : j < nn
      · have hjl : j < ns.length := by rw [HNE.out]; exact hlt
        obtain ⟨b, o, hA, hbb, hcc⟩ := ((HNN.out.below hag.out.bel).more hag.out.bel.size) j hjl
        generalize ns[j] = s at *
        subst hA
        have hb0 := and_one s
        have hb1 := and_one (s / 2)
        have hc0 := and_three (s / 4)
        have hw1 : IntKind.i64.wrap (1 + bits .and .i64 s 1) = 1 + bits .and .i64 s 1 := IntWalk.i64_in _ (by omega)
        have hw2 : IntKind.i64.wrap (1 + bits .and .i64 s 1 + bits .and .i64 (s / 2) 1) = 1 + bits .and .i64 s 1 + bits .and .i64 (s / 2) 1 := IntWalk.i64_in _ (by omega)
        obtain ⟨m, hm, h13⟩ : ∃ m : Nat, 1 + bits .and .i64 s 1 + bits .and .i64 (s / 2) 1 = (m : Int) ∧ 1 ≤ m ∧ m ≤ 3 := ⟨(1 + bits .and .i64 s 1 + bits .and .i64 (s / 2) 1).toNat, by omega, by omega, by omega⟩
        go_upto_region 15 with fail
        clear hm hw1 hw2 hb0 hb1 hcc
        obtain ⟨m4, m5⟩ : m < 4 ∧ 1 ≤ m := by omega
        by_cases hcz : bits .and .i64 (s / 4) 3 = 0
        · rw [hcz] at hc0
          have hcb : (bits .and .i64 (s / 4) 3 == 0) = true := by rw [hcz]; rfl
          have hwr : IntKind.i64.wrap (R + 1) = R + 1 := IntWalk.i64_in _ (by omega)
          obtain ⟨q, hq, q13, hqm⟩ : ∃ q : Nat, 1 + (m : Int) % 3 = (q : Int) ∧ (1 ≤ q ∧ q ≤ 3) ∧ q ≠ m := ⟨m % 3 + 1, by omega, by omega, by omega⟩
          obtain ⟨q4, q5⟩ : q < 4 ∧ 1 ≤ q := by omega
          have hpl := heap_alloc_new wr (.cells #[.int .i64 (m : Int), .int .i64 (q : Int)] 3)
          have ba := (Below.refl _ wr).alloc (Nat.le_refl _) (.cells #[.int .i64 (m : Int), .int .i64 (q : Int)] 3)
          have hplz : wr.heap.size < (wr.alloc (.cells #[.int .i64 (m : Int), .int .i64 (q : Int)] 3)).heap.size := by simp
          go_upto_region 21 with fail
          generalize wr.alloc (.cells #[.int .i64 (m : Int), .int .i64 (q : Int)] 3) = w7 at *
          clear hq hwr hcb
          have hn5r := lt_of_block hag.out.b7
          have hn5s : n5 < wr.heap.size := by omega
          have h5 := (ba.block _ hn5s).trans hag.out.b5
          have h6 := (ba.block (n5 + 1) (by omega)).trans hag.out.b6
          have h7 := (ba.block (n5 + 1 + 1) (by omega)).trans hag.out.b7
          have HPR := hide hag.out.pr
          have H6 := hide h6
          have H7 := hide h7
          have HPL := hide hpl
          obtain ⟨bs1, hbs1⟩ : ∃ x : Int, x = max (V m) 0 := ⟨_, rfl⟩
          obtain ⟨bd1, hbd1⟩ : ∃ x : Int, x = if 0 < V m then W m else R + 1 := ⟨_, rfl⟩
          obtain ⟨bd2, hbd2⟩ : ∃ x : Int, x = pickB R (fun k => V k.toNat) (fun k => W k.toNat) (m : Int) (q : Int) := ⟨_, rfl⟩
          have HD1 := hide hbd1
          have HD2 := hide hbd2
          have HS1 := hide hbs1
          have HPQ : Hid (∃ P' : Nat → Int, w7.heap[n5]? = some (.cells (A4 P') 67 (0, 0)) ∧ ∀ i, 1 ≤ i → i ≤ 3 → P' i ≤ R + 1) := hide ⟨P, h5, fun i h1 h2 => by have := hag.out.pr i h1 h2; omega⟩
          have HBA := hide ba
          have HW0 := hide hag.out
          have HFIN : Hid (∀ (wx : World) (P' : Nat → Int), Kept (fun i => i = n5) w7 wx → wx.heap[n5]? = some (.cells (A4 P') 67 (0, 0)) → (∀ i, 1 ≤ i → i ≤ 3 → P' i ≤ R + 1) → ∃ gv' : Int → Int, AGS w n5 ga gb (R + 1) bd2 P' V W gv' H la lb Fa Fb wx) := hide (fun wx P' a b c => by
            rw [hbd2]
            exact ⟨_, hag.out.prep ⟨m5, by omega⟩ ⟨q5, by omega⟩ hqm ba a b c⟩)
          clear hbs1 hbd1 hbd2 h5 h6 h7 hpl ba
          generalize hplr : wr.heap.size = pl at *
          have HPLR := hide hplr
          clear hplr
          go_wp2_with fail
          go_loopw [8, 14, 63] (fun s8 s14 s63 wx => ∃ jj : Nat, jj ≤ 2 ∧ s63 = .int .i64 (jj : Int) ∧ (∃ x : Int, s14 = .int .i64 x ∧ Hid (jj = 0 → x = 0) ∧ Hid (jj = 1 → x = bs1)) ∧ (∃ x : Int, s8 = .int .i64 x ∧ Hid (jj = 0 → x = R + 1) ∧ Hid (jj = 1 → x = bd1) ∧ Hid (jj = 2 → x = bd2)) ∧ Hid (∃ P' : Nat → Int, wx.heap[n5]? = some (.cells (A4 P') 67 (0, 0)) ∧ ∀ i, 1 ≤ i → i ≤ 3 → P' i ≤ R + 1) ∧ Hid (Kept (fun i => i = n5) w7 wx)) (fun _ _ s63 _ => 2 - (intOf s63).toNat)
          case atStart => exact ⟨0, by omega, rfl, ⟨0, rfl, hide (fun _ => rfl), hide (fun h => by omega)⟩, ⟨_, rfl, hide (fun _ => rfl), hide (fun h => by omega), hide (fun h => by omega)⟩, HPQ, hide (Kept.refl _ _)⟩
          case round =>
            clear HPQ
            obtain ⟨jj, hjj, rfl, ⟨x14, rfl, ha0, ha1⟩, ⟨x8, rfl, hc0', hc1', hc2'⟩, ⟨P', hp', hpb⟩, hkx⟩ := hrel
            have hx6 := (hkx.out.block (n5 + 1) (by omega) (by omega)).trans H6.out
            have hx7 := (hkx.out.block (n5 + 1 + 1) (by omega) (by omega)).trans H7.out
            have hxl := (hkx.out.block pl hplz (by omega)).trans HPL.out
            obtain ⟨l0, l1⟩ := And.intro (row_cells hxl 0).1 (row_cells hxl 1).1
            simp only [List.getElem?_toArray, List.getElem?_cons_succ, List.getElem?_cons_zero] at l0 l1
            rcases Nat.lt_trichotomy jj 1 with hj0 | rfl | hj2
            · obtain rfl : jj = 0 := by omega
              obtain rfl := ha0.out rfl
              obtain rfl := hc0'.out rfl
              have v1 := (row_cells hx6 m).1.trans (a4_get V m4)
              have u1 := (row_cells hx7 m).1.trans (a4_get W m4)
              have c1 := (row_cells hp' m).1.trans (a4_get P' m4)
              have f1 := (row_cells hp' m).2
              have HSET := hide ((heap_setCell_same wr n5 m (A4 P') 67 (.int .i64 (R + 1)) hp').trans (by rw [a4_set P' m4]))
              have HKS := hide (hkx.out.step ((Kept.refl (fun i => i = n5) wr).setCell (p := ⟨n5, m, none⟩) (.inl rfl) (.int .i64 (R + 1))) (fun i hi => .inl hi))
              have HPB : Hid (∀ i, 1 ≤ i → i ≤ 3 → (fun z => if z = m then R + 1 else P' z) i ≤ R + 1) := hide (fun i h1 h2 => by
                by_cases e : i = m
                · simp [e]
                · simp [e]; exact hpb i h1 h2)
              by_cases hv : 0 < V m
              · have e1 : Hid (bs1 = V m) := hide (by rw [HS1.out]; omega)
                have e2 : Hid (bd1 = W m) := hide (by rw [HD1.out, if_pos hv])
                go_wp2_with fail
                go_roundw
                case rel => exact ⟨1, by omega, rfl, ⟨_, rfl, hide (fun h => by omega), hide (fun _ => e1.out.symm)⟩, ⟨_, rfl, hide (fun h => by omega), hide (fun _ => e2.out.symm), hide (fun h => by omega)⟩, hide ⟨_, HSET.out, HPB.out⟩, HKS⟩
                case measure => simp [intOf]
              · have hvd : decide (0 < V m) = false := decide_eq_false hv
                have e1 : Hid (bs1 = 0) := hide (by rw [HS1.out]; omega)
                have e2 : Hid (bd1 = R + 1) := hide (by rw [HD1.out, if_neg hv])
                go_wp2_with fail
                go_roundw
                case rel => exact ⟨1, by omega, rfl, ⟨_, rfl, hide (fun h => by omega), hide (fun _ => e1.out.symm)⟩, ⟨_, rfl, hide (fun h => by omega), hide (fun _ => e2.out.symm), hide (fun h => by omega)⟩, hide ⟨_, HSET.out, HPB.out⟩, HKS⟩
                case measure => simp [intOf]
            · obtain rfl := ha1.out rfl
              obtain rfl := hc1'.out rfl
              have v1 := (row_cells hx6 q).1.trans (a4_get V q4)
              have u1 := (row_cells hx7 q).1.trans (a4_get W q4)
              have c1 := (row_cells hp' q).1.trans (a4_get P' q4)
              have f1 := (row_cells hp' q).2
              have HSET := hide ((heap_setCell_same wr n5 q (A4 P') 67 (.int .i64 (R + 1)) hp').trans (by rw [a4_set P' q4]))
              have HKS := hide (hkx.out.step ((Kept.refl (fun i => i = n5) wr).setCell (p := ⟨n5, q, none⟩) (.inl rfl) (.int .i64 (R + 1))) (fun i hi => .inl hi))
              have HPB : Hid (∀ i, 1 ≤ i → i ≤ 3 → (fun z => if z = q then R + 1 else P' z) i ≤ R + 1) := hide (fun i h1 h2 => by
                by_cases e : i = q
                · simp [e]
                · simp [e]; exact hpb i h1 h2)
              have hbd : bd2 = if x14 < V q then W q else x8 := by rw [HD2.out, HS1.out, HD1.out]; rfl
              by_cases hv : x14 < V q
              · have e2 : Hid (bd2 = W q) := hide (by rw [hbd, if_pos hv])
                clear hbd
                go_wp2_with fail
                go_roundw
                case rel => exact ⟨2, by omega, rfl, ⟨_, rfl, hide (fun h => by omega), hide (fun h => by omega)⟩, ⟨_, rfl, hide (fun h => by omega), hide (fun h => by omega), hide (fun _ => e2.out.symm)⟩, hide ⟨_, HSET.out, HPB.out⟩, HKS⟩
                case measure => simp [intOf]
              · have hvd : decide (x14 < V q) = false := decide_eq_false hv
                have e2 : Hid (bd2 = x8) := hide (by rw [hbd, if_neg hv])
                clear hbd
                go_wp2_with fail
                go_roundw
                case rel => exact ⟨2, by omega, rfl, ⟨_, rfl, hide (fun h => by omega), hide (fun h => by omega)⟩, ⟨_, rfl, hide (fun h => by omega), hide (fun h => by omega), hide (fun _ => e2.out.symm)⟩, hide ⟨_, HSET.out, HPB.out⟩, HKS⟩
                case measure => simp [intOf]
            · obtain rfl : jj = 2 := by omega
              obtain rfl := hc2'.out rfl
              obtain ⟨gv', hag'⟩ := HFIN.out wr P' hkx.out hp' hpb
              have HAG' := hide hag'
              clear hag' hp' hpb hkx hx6 hx7 hxl l0 l1 HFIN HD1 HD2 HS1 HPL H6 H7 HPR HW0 HBA
              go_wp2_with fail
              go_roundw
              case rel => exact ⟨j + 1, R + 1, _, P', V, W, gv', H, la, lb, Fa, Fb, by omega, by go_num, by omega, rfl, rfl, HAG'⟩
              case measure => simp [intOf]; omega
        · have hcb : (bits .and .i64 (s / 4) 3 == 0) = false := beq_eq_false_iff_ne.2 hcz
          have h5 := hag.out.b5
          have h6 := hag.out.b6
          have h7 := hag.out.b7
          have hprm := hag.out.pr m m5 (by omega)
          have HW := hide hag.out
          have p1 := (row_cells h5 m).1.trans (a4_get P m4)
          have f1 := (row_cells h5 m).2
          clear hcz hc0 hag
          by_cases hRz : R = 0
          · have hRb : (R == 0) = true := by rw [hRz]; rfl
            have HAGR := HW
            clear h5 h6 h7
            go_wp2_with fail
            go_roundw
            case rel => exact ⟨j + 1, R, _, P, V, W, gv, H, la, lb, Fa, Fb, by omega, by go_num, by omega, rfl, rfl, HAGR⟩
            case measure => simp [intOf]; omega
          · have hRb : (R == 0) = false := beq_eq_false_iff_ne.2 hRz
            have hpd : decide (R < P m) = false := decide_eq_false (by omega)
            have v1 := (row_cells h6 m).1.trans (a4_get V m4)
            have v2 := (row_cells h6 m).2
            have u1 := (row_cells h7 m).1.trans (a4_get W m4)
            have u2 := (row_cells h7 m).2
            go_upto_region 32 with fail
            obtain ⟨P', V', W', H', hag8, hH8⟩ := HW.out.vote ⟨m5, by omega⟩ (by omega) rfl
            have HAG8 := hide hag8
            have HH8 := hide hH8
            clear hag8 hH8 v1 v2 u1 u2 p1 f1 h5 h6 h7 HW hprm hpd hRb hcb
            generalize ((wr.setCell ⟨n5, m, none⟩ (.int .i64 R)).setCell ⟨n5 + 1, m, none⟩ (.int .i64 R)).setCell ⟨n5 + 1 + 1, m, none⟩ (.int .i64 bound) = w8 at *
            have hR1 : 1 ≤ R := by omega
            have hbd2 : (1 ≤ bound ∧ bound ≤ R) := by
              have h1 := HAG8.out.pi.b hR1
              have h2 := HAG8.out.pi.g R hR1 (Int.le_refl _)
              omega
            have hq8 := heap_alloc_new w8 (.cells (flatC [mkc bound]).toArray 58)
            have ba8 := (Below.refl _ w8).alloc (Nat.le_refl _) (.cells (flatC [mkc bound]).toArray 58)
            have hz8 : (w8.alloc (.cells (flatC [mkc bound]).toArray 58)).heap.size = w8.heap.size + 1 := by simp
            have hq9 := heap_alloc_new (w8.alloc (.cells (flatC [mkc bound]).toArray 58)) (.cells #[.int .i64 1, .slice (some ⟨w8.heap.size, 0, none⟩) 1 1, .slice none 0 0] 35)
            have ba9 := (Below.refl _ (w8.alloc (.cells (flatC [mkc bound]).toArray 58))).alloc (Nat.le_refl _) (.cells #[.int .i64 1, .slice (some ⟨w8.heap.size, 0, none⟩) 1 1, .slice none 0 0] 35)
            rw [hz8] at hq9
            have hb89 := ba8.trans (ba9.mono ba8.size)
            have hl7 := lt_of_block HAG8.out.b7
            have hAST : AST w n5 ga gb R bound P' V' W' gv H' la lb Fa Fb w8.heap.size (w8.heap.size + 1) ((w8.alloc (.cells (flatC [mkc bound]).toArray 58)).alloc (.cells #[.int .i64 1, .slice (some ⟨w8.heap.size, 0, none⟩) 1 1, .slice none 0 0] 35)) := by
              have h := HAG8.out
              exact ⟨⟨h.pi, h.pr, h.ia, h.ib, h.ea.below hb89, h.eb.below hb89, h.dis, h.pa, h.fa, h.fb, (hb89.block _ (lt_of_block h.b5)).trans h.b5, (hb89.block _ (lt_of_block h.b6)).trans h.b6, (hb89.block _ (lt_of_block h.b7)).trans h.b7, h.bel.trans (hb89.mono h.bel.size), h.n5w⟩, (ba9.block _ (by rw [hz8]; omega)).trans hq8, hq9, fun j hj => by
                have h1 : j < w8.heap.size := hj.elim (fun e => h.ea.lt j e) (fun e => h.eb.lt j e)
                omega, by omega⟩
            have HAST := hide hAST
            have hfl : (flatC [mkc bound]).toArray = #[.int .i64 bound, .int .i64 1, .int .i64 0, .int .i64 1, .int .i64 0, .int .i64 0, .int .i64 0, .int .i64 0] := rfl
            rw [hfl] at HAST
            clear hAST hq8 hq9 ba8 ba9 hb89 hz8 hfl HAG8
            go_upto_region 33 with fail
            generalize (w8.alloc (.cells #[.int .i64 bound, .int .i64 1, .int .i64 0, .int .i64 1, .int .i64 0, .int .i64 0, .int .i64 0, .int .i64 0] 58)).alloc (.cells #[.int .i64 1, .slice (some ⟨w8.heap.size, 0, none⟩) 1 1, .slice none 0 0] 35) = w9 at *
            generalize w8.heap.size = bc at *
            have h9 := HAST.out.box
            obtain ⟨x0, x1, x2⟩ := And.intro (row_cells h9 0).1 (And.intro (row_cells h9 1).1 (row_cells h9 2).1)
            simp only [List.getElem?_toArray, List.getElem?_cons_succ, List.getElem?_cons_zero] at x0 x1 x2
            clear h9
            go_upto_if 108 with fail
            go_cut [] (fun wx => ∃ la' Fa', Hid (AST w n5 ga gb R bound P' V' W' gv H' la' lb Fa' Fb bc (bc + 1) wx))
            case first =>
              by_cases ht : (bits .and .i64 (s / 16) 1 == 0) = true
              · go_wp2_with fail
                refine (evote_any 1 R 1 (some ⟨bc, 0, none⟩) 1 1 none 0 0 w9).mono ?_
                rintro e w10 ⟨rfl, hb10⟩
                have hA := HAST.out.below hb10
                have hvt := el_voted hA.ag.ea (m : Int) 1 R 1 (by decide) (mkv bound) (some ⟨bc, 0, none⟩) 1 1 none 0 0 (hA.arg Fa (fun hf => (hA.off _ (.inl hf)).1 rfl))
                have HA10 := hide hA
                clear hA
                go_wp2_with fail
                refine hvt.mono ?_
                rintro e w11 ⟨rfl, F11, h11, hk11, hf11⟩
                go_wp2_with fail
                go_meet
                exact ⟨_, F11, hide (HA10.out.hearA hR1 HH8.out h11 hk11 hf11)⟩
              · have ht' : (bits .and .i64 (s / 16) 1 == 0) = false := by simpa using ht
                clear ht
                go_wp2_with fail
                go_meet
                exact ⟨la, Fa, HAST⟩
            obtain ⟨la', Fa', hA9⟩ := hcut
            clear x0 x1 x2 HAST
            have h9 := hA9.out.box
            obtain ⟨x0, x1, x2⟩ := And.intro (row_cells h9 0).1 (And.intro (row_cells h9 1).1 (row_cells h9 2).1)
            simp only [List.getElem?_toArray, List.getElem?_cons_succ, List.getElem?_cons_zero] at x0 x1 x2
            clear h9
            go_upto_if 118 with fail
            go_cut [] (fun wx => ∃ lb' Fb', Hid (AST w n5 ga gb R bound P' V' W' gv H' la' lb' Fa' Fb' bc (bc + 1) wx))
            case first =>
              by_cases ht : (bits .and .i64 (s / 32) 1 == 0) = true
              · go_wp2_with fail
                refine (evote_any 1 R 1 (some ⟨bc, 0, none⟩) 1 1 none 0 0 wc).mono ?_
                rintro e w10 ⟨rfl, hb10⟩
                have hA := (hA9.out.below hb10).swap
                have hvt := el_voted hA.ag.ea (m : Int) 1 R 1 (by decide) (mkv bound) (some ⟨bc, 0, none⟩) 1 1 none 0 0 (hA.arg Fb (fun hf => (hA.off _ (.inl hf)).1 rfl))
                have HA10 := hide hA
                clear hA
                go_wp2_with fail
                refine hvt.mono ?_
                rintro e w11 ⟨rfl, F11, h11, hk11, hf11⟩
                go_wp2_with fail
                go_meet
                exact ⟨_, F11, hide (HA10.out.hearA hR1 HH8.out h11 hk11 hf11).swap⟩
              · have ht' : (bits .and .i64 (s / 32) 1 == 0) = false := by simpa using ht
                clear ht
                go_wp2_with fail
                go_meet
                exact ⟨lb, Fb, hA9⟩
            obtain ⟨lb', Fb', hB9⟩ := hcut
            clear x0 x1 x2 hA9
            have hag9 := hB9.out.ag
            have HPI := hide hag9.pi
            have HIA := hide hag9.ia
            have HIB := hide hag9.ib
            have hkA := el_known hag9.ea (s := 1) (by decide)
            go_wp2_with fail
            refine hkA.mono ?_
            rintro e w12 ⟨A1, n1, c1, D1, m1, d1, rfl, ho1, hi1, hb12⟩
            have hba := (Below.refl _ w12).alloc (Nat.le_refl _) (.cells #[.int .i64 (la'.known 1).k, .slice A1 n1 c1, .slice D1 m1 d1] 35)
            have hq1 := heap_alloc_new w12 (.cells #[.int .i64 (la'.known 1).k, .slice A1 n1 c1, .slice D1 m1 d1] 35)
            have ho1' := ho1.below hba
            have hi1' := hi1.below hba
            have hag12 := (hB9.out.below hb12).below hba
            have hkB := el_known hag12.ag.eb (s := 1) (by decide)
            have HA12 := hide hag12
            have HO1 := hide ho1'
            have HI1 := hide hi1'
            have HQ1 := hide hq1
            clear hkA hag9 ho1 hi1 ho1' hi1' hag12 hq1 hba hb12
            go_upto_region 38 with fail
            generalize w12.alloc (.cells #[.int .i64 (la'.known 1).k, .slice A1 n1 c1, .slice D1 m1 d1] 35) = w13 at *
            generalize w12.heap.size = b1 at *
            go_wp2_with fail
            refine hkB.mono ?_
            rintro e w14 ⟨A2, n2, c2, D2, m2, d2, rfl, ho2, hi2, hb14⟩
            have hba := (Below.refl _ w14).alloc (Nat.le_refl _) (.cells #[.int .i64 (lb'.known 1).k, .slice A2 n2 c2, .slice D2 m2 d2] 35)
            have hq2 := heap_alloc_new w14 (.cells #[.int .i64 (lb'.known 1).k, .slice A2 n2 c2, .slice D2 m2 d2] 35)
            have hb15 := hb14.trans (hba.mono hb14.size)
            have HO2 := hide (ho2.below hba)
            have HI2 := hide (hi2.below hba)
            have HO1' := hide (HO1.out.below hb15)
            have HI1' := hide (HI1.out.below hb15)
            have hag15 := HA12.out.below hb15
            have hr1 := (hb15.block _ (lt_of_block HQ1.out)).trans HQ1.out
            obtain ⟨p0, p1, p2⟩ := And.intro (row_cells hr1 0).1 (And.intro (row_cells hr1 1).1 (row_cells hr1 2).1)
            obtain ⟨q0, q1, q2⟩ := And.intro (row_cells hq2 0).1 (And.intro (row_cells hq2 1).1 (row_cells hq2 2).1)
            simp only [List.getElem?_toArray, List.getElem?_cons_succ, List.getElem?_cons_zero] at p0 p1 p2 q0 q1 q2
            have HA15 := hide hag15
            clear hkB ho2 hi2 hag15 hq2 hba hb14 hr1 hb15
            go_upto_region 39 with fail
            generalize w14.alloc (.cells #[.int .i64 (lb'.known 1).k, .slice A2 n2 c2, .slice D2 m2 d2] 35) = w15 at *
            generalize w14.heap.size = b2 at *
            cases hDa : la'.D 1 with
            | none =>
              go_wp2_with fail
              go_roundw
              case rel => exact ⟨j + 1, R, bound, P', V', W', gv, H', la', lb', Fa', Fb', by omega, by go_num, by omega, rfl, rfl, hide HA15.out.ag⟩
              case measure => simp [intOf]; omega
            | some x =>
              cases hDb : lb'.D 1 with
              | none =>
                go_wp2_with fail
                go_roundw
                case rel => exact ⟨j + 1, R, bound, P', V', W', gv, H', la', lb', Fa', Fb', by omega, by go_num, by omega, rfl, rfl, hide HA15.out.ag⟩
                case measure => simp [intOf]; omega
              | some y =>
                obtain rfl := LI.agree HPI.out HIA.out HIB.out hDa hDb
                obtain ⟨r1, _, _, rfl⟩ := HIA.out.dc x hDa
                have e1 : la'.known 1 = mkv (gv r1) := by unfold Lv.known; rw [hDa]; rfl
                have e2 : lb'.known 1 = mkv (gv r1) := by unfold Lv.known; rw [hDb]; rfl
                rw [e1] at HO1' HI1' p0
                rw [e2] at HO2 HI2 q0
                obtain ⟨a1, a2⟩ := ownc_slice HO1'.out
                obtain ⟨a3, a4⟩ := owni_slice' HI1'.out
                obtain ⟨a5, a6⟩ := ownc_slice HO2.out
                obtain ⟨a7, a8⟩ := owni_slice' HI2.out
                have hn1 : n1 = 1 := by rw [← a1]; rfl
                have hm1 : m1 = 0 := by rw [← a3]; rfl
                have hsm := rvsame_any (mkv (gv r1)).k (mkv (gv r1)).k A1 A2 D1 D2 n1 n2 c1 c2 m1 m2 d1 d2 w15.heap.size (mkv (gv r1)).cs (mkv (gv r1)).cs (mkv (gv r1)).ns (mkv (gv r1)).ns w15 a2 a4 a6 a8 (Nat.le_refl _) a1 a5 a3 a7 (by omega) (by omega)
                rw [sameV_refl] at hsm
                have e3 : (mkv (gv r1)).k = 1 := rfl
                rw [e3] at hsm p0 q0
                clear a1 a2 a3 a4 a5 a6 a7 a8 hn1 hm1 e1 e2 e3 hDa hDb
                go_wp2_with fail
                refine hsm.mono ?_
                rintro e w16 ⟨rfl, hb16⟩
                have HA16 := hide (HA15.out.below hb16)
                clear hsm
                go_wp2_with fail
                go_roundw
                case rel => exact ⟨j + 1, R, bound, P', V', W', gv, H', la', lb', Fa', Fb', by omega, by go_num, by omega, rfl, rfl, hide HA16.out.ag⟩
                case measure => simp [intOf]; omega
      · have hend : decide ((j : Int) < (nn : Int)) = false := decide_eq_false (by omega)
        have hbl := hag.out.bel
        clear hag
        go_wp2
        go_ret
        exact ⟨rfl, hbl⟩
    · have hend : decide ((j : Int) < 200) = false := decide_eq_false h200
      have hbl := hag.out.bel
      clear hag
      by_cases hlt : j < nn
      · go_wp2
        go_ret
        exact ⟨rfl, hbl⟩
      · have hend2 : decide ((j : Int) < (nn : Int)) = false := decide_eq_false (by omega)
        go_wp2
        go_ret
        exact ⟨rfl, hbl⟩
end Go.Proofs.Ytnngmapphacpkaa

namespace Go.Proofs.Ytnngmapphacpkaa
open Go.ChangeShapes Go.WideShapes Go.ChangeAt Go.RowKit
set_option linter.unusedVariables false

set_option maxRecDepth 100000 in
theorem learnerAgree_lifted (os : Os) (started : os.Started) (H : Type) (enc : TypeId × Value → H) :
    ReturnsInHanded {} Try.checked os 6 .any (Rows.learnerAgreeSpec.pre6 enc Try.prog Try.f6 Rows.learnerAgreeRow.domain false) (Rows.learnerAgreeSpec.post enc Try.prog Try.f6 false true false false) := by
  refine returnsInHanded_of_change_sized (C := Try.checked) ownKnob_none started (by kernel_rfl) Try.func6
    (ChangeSpec.witness6 (enc := enc) (C := Try.checked) false ⟨#[], #[.slice none 0 0], []⟩ 8 (by kernel_rfl) (by kernel_rfl) (by kernel_rfl) (by kernel_rfl)) ?_
  intro W base args ds gs before hval0 hW hcnd hsz0 _
  have hval : ∀ (j : Nat) t v, Try.f6.params[j]? = some t → args[j]? = some v → Value.okWide Try.prog W .any base t v := hval0
  have hsz : (DataW.weightsEach Try.prog (Try.f6.params.toList ++ Rows.learnerAgreeSpec.plain.varTypes Try.prog) (ds ++ gs)).all (· ≤ reachBytes) = true := hsz0
  have hW' := hW
  obtain ⟨p, q, hA0, hV, rfl, hfz, hnd⟩ := hW
  have hA : DataW.TrodAll enc Try.prog W 0 (fun _ => true) true Try.f6.params.toList args.toList ds p := hA0
  rw [Try.params6] at hA hval hsz
  obtain ⟨v0, vs0, d0, ds0, p0, q0, hargs, rfl, rfl, h0, r0⟩ := trodAll_cons hA
  obtain ⟨rfl, rfl, rfl⟩ := trodAll_nil r0
  obtain rfl : args = #[v0] := by cases args; simp_all
  obtain ⟨rfl, rfl⟩ := trodVars_none hV
  have t0 := h0
  have lt0 : ∀ x ∈ p0, x.block < W.heap.size := by obtain ⟨m, hm⟩ := t0; exact DataW.trod_lt m _ _ _ hm
  obtain ⟨a0, len0, cap0, rfl⟩ := okWide_slice Try.underlying22 (hval 0 22 v0 rfl rfl)
  obtain ⟨xs0, hI0, e0, hn0, hb0⟩ := open_intsv h0 hsz (j := 0) rfl rfl
  clear hA0 hval0
  refine (agree_walk a0 len0 cap0 xs0 W hI0 e0 hn0).mono fun e W' ⟨he, bel⟩ => ?_
  subst he
  exact ⟨_, rfl, _, _, _, [], _, [], hW', trodAll_mk1 (shut_bool Try.underlying4 _), (trodAll_cons_mk (Below.trod laid_out (by kernel_rfl) (of_decide_eq_true (by kernel_rfl)) t0 bel lt0) trodAll_mk0), rfl, bel.frame _, fun h => by cases h⟩

theorem learnerAgree_holds : Rows.LearnerAgreeSaid :=
  OpenClaim.holds_of_wide 6 Try.f6 rfl rfl rfl rfl rfl rfl rfl ⟨rfl, rfl, rfl, rfl, rfl⟩ rfl rfl rfl rfl rfl (by kernel_rfl) Try.func6 (by kernel_rfl)
    (of_decide_eq_true (by kernel_rfl)) (by unfold Func.isWrapper; first | (rw [if_pos (by decide +kernel)]; kernel_rfl) | (rw [if_neg (by decide +kernel)]; exact ⟨rfl, rfl⟩))
    (fun os started H enc _ => learnerAgree_lifted os started H enc)
#print axioms learnerAgree_holds
end Go.Proofs.Ytnngmapphacpkaa
