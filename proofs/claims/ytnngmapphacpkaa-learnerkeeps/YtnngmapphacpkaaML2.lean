/-
  From a reading of an argument to the words of the walks: a slice of steps over learners. No condition but the reach of what is read.
  A step of a script over a learner: what it does; rows of votes. No condition.
  Steps over learners: what a slice of them reads as. No condition.
  Slices of structs that the call owns, row by row: what they hold, append, stores into the middle, a cut, clear. No condition: over any type of rows.
  Votes that keep to their word, and what learners make of them: pure. No condition.
  LearnerCounts: the walk. No condition but the reach of what is read.
-/
import Derived.Test.YtnngmapphacpkaaML1
import Derived.Test.YtnngmapphacpkaaValRefCheck
import Derived.Test.YtnngmapphacpkaaValBase
import Derived.Test.YtnngmapphacpkaaRows
import Derived.Test.YtnngmapphacpkaaWords
import Derived.Deep.QuietTactic
import Derived.BigQuiet
import Derived.Outline
import Derived.Handy
import Derived.Maps.AppendAt
import Derived.ArgAppend
import Derived.RegionTactic
import Derived.OwnWalk
import Derived.WalkSpells
import Derived.Deep.MidRow
import Derived.Deep.RegionLaw
import Derived.Lib.AppendZeros
import Derived.Test.YtnngmapphacpkaaFrameV
import Derived.Deep.Slices
set_option linter.unusedSimpArgs false
set_option linter.unusedVariables false

namespace Go.Proofs.Ytnngmapphacpkaa
open Go.RowKit

theorem list_append_ints4 {ops : Array Oper} {rest : List Oper} {o : Oper} {a : Act} {Q : Exit → Act → World → Prop} (w : World) (hw : Region.wanted o (yielded ops a.tmps) = true) (s x : Operand)
    (ho : o.op = .call { callee := .builtin .append, args := #[s, x], argTypes := #[22, 22] }) (base : Nat) (v : Value) (xs : List Int) (hs : a.eval s = v) (hown : OwnI w base v xs)
    (B : Nat) (A : Option Addr) (m c : Nat) (news : List Int) (hx : a.eval x = .slice A m c) (hr : HasI w B A news) (hm : news.length = m)
    (hlen : xs.length + m ≤ 17592186044416) (hbase : base ≤ w.heap.size)
    (h : ∀ v' w', OwnI w' base v' (xs ++ news) → w.grownBy w' v.ownBlock → (v'.ownBlock = v.ownBlock ∨ v'.ownBlock = some w.heap.size) → wpList Try.prog ops Q rest (a.put o.dst v') w') : wpList Try.prog ops Q (o :: rest) a w := by
  obtain ⟨v', w', hrun, h2, h3, h4⟩ := run_append_ints w o.type base v xs hown B A m c news hr hm hlen hbase
  exact list_append_want w hw s x 22 22 ho _ _ hs hx v' w' hrun (h v' w' h2 h3 h4)
/-- The vote that is given again and again. -/
def y5 (x : Vl) : Vt := ⟨5, 3, 1, x⟩
/-- The learner behind those nodes' votes. -/
structure CI (ms L : List Int) (x : Vl) (l : Lv) : Prop where
  hms : l.ms = ms
  nx : l.next = 5
  st : (enB ms L = true ∧ l.D 5 = some x) ∨ (enB ms L = false ∧ l.D 5 = none ∧ ∀ k, l.at_ 5 k = if k ∈ ms ∧ k ∈ L then some (y5 x) else none)
theorem enB_more {ms L : List Int} {q : Int} (h : enB ms L = true) : enB ms (L ++ [q]) = true := by
  unfold enB cnt at *
  have h1 := of_decide_eq_true h
  refine decide_eq_true (Nat.le_trans h1 (List.countP_mono_left fun a _ ha => ?_))
  rw [decide_eq_true_eq] at ha ⊢
  exact List.mem_append_left _ ha
theorem enB_same {ms L : List Int} {q : Int} (h : q ∉ ms ∨ q ∈ L) : enB ms (L ++ [q]) = enB ms L := by
  unfold enB cnt
  have e : ms.countP (fun m => decide (m ∈ L ++ [q])) = ms.countP (fun m => decide (m ∈ L)) := by
    apply List.countP_congr
    intro a ha
    rw [decide_eq_true_eq, decide_eq_true_eq, List.mem_append, List.mem_singleton]
    constructor
    · rintro (h1 | h1)
      · exact h1
      · rcases h with h | h
        · exact absurd (h1 ▸ ha) h
        · exact h1 ▸ h
    · exact .inl
  rw [e]
theorem CI.start (ms : List Int) (x : Vl) : CI ms [] x (Lv.new ms 5) := by
  refine ⟨rfl, rfl, .inr ⟨?_, rfl, fun k => ?_⟩⟩
  · unfold enB cnt
    apply decide_eq_false
    simp
  · rw [if_neg (fun h => absurd h.2 (by simp))]
    rfl
theorem Lv.opn_of {l : Lv} {s : Int} (h1 : l.next ≤ s ∧ s < l.next + 128 ∧ s ≤ 1099511627776) (h2 : l.D s = none) : l.opn s = true := by
  unfold Lv.opn
  rw [decide_eq_true ⟨h1.1, by omega, h1.2.2⟩, h2]
  rfl
theorem Lv.opn_not {l : Lv} {s : Int} (h : l.D s ≠ none) : l.opn s = false := by
  unfold Lv.opn
  cases hD : l.D s with
  | none => exact absurd hD h
  | some x => simp
theorem CI.step {ms L : List Int} {x : Vl} {l : Lv} (h : CI ms L x l) (hok : chkV x.k x.cs x.ns = 0) (q : Int) : CI ms (L ++ [q]) x (l.voted q (y5 x)).1 ∧ (l.voted q (y5 x)).2 = (enB ms (L ++ [q]) && !enB ms L) := by
  rcases h.st with ⟨e, hD⟩ | ⟨e, hD, hA⟩
  · have h1 : l.voted q (y5 x) = (l, false) := if_neg (fun h2 => by
      have h3 := h2.1
      rw [show (y5 x).s = 5 from rfl, Lv.opn_not (by rw [hD]; simp)] at h3
      cases h3)
    rw [h1]
    refine ⟨⟨h.hms, h.nx, .inl ⟨enB_more e, hD⟩⟩, ?_⟩
    rw [e]
    simp
  · have hop : l.opn 5 = true := Lv.opn_of (by rw [h.nx]; omega) hD
    by_cases hq : q ∈ ms
    · have h1 : l.voted q (y5 x) = (l.hrd 5).vote2 q (y5 x) := if_pos ⟨hop, hok, by rw [h.hms]; exact hq, (show valB 3 1 = true by decide)⟩
      rw [h1]
      have hat : ∀ k, (((l.hrd 5).V 5).getD fun _ => none) k = if k ∈ ms ∧ k ∈ L then some (y5 x) else none := hA
      by_cases hL : q ∈ L
      · have h2 : (l.hrd 5).kept q (y5 x) = (l.hrd 5, false) := if_neg (by
          rw [show (y5 x).s = 5 from rfl, hat, if_pos ⟨hq, hL⟩]
          show ¬ belB 3 1 3 1 = true
          decide)
        have h3 : (l.hrd 5).vote2 q (y5 x) = (l.hrd 5, false) := by
          unfold Lv.vote2
          rw [h2]
          rfl
        rw [h3, enB_same (.inr hL)]
        refine ⟨⟨h.hms, h.nx, .inr ⟨by rw [enB_same (.inr hL)]; exact e, hD, fun k => ?_⟩⟩, by rw [e]; rfl⟩
        show (((l.hrd 5).V 5).getD fun _ => none) k = _
        rw [hat]
        by_cases hk : k = q
        · subst hk
          rw [if_pos ⟨hq, hL⟩, if_pos ⟨hq, List.mem_append_left _ hL⟩]
        · simp [hk]
      · have h2 : (l.hrd 5).kept q (y5 x) = ((l.hrd 5).setV 5 (fun z => if z = q then some (y5 x) else (((l.hrd 5).V 5).getD fun _ => none) z), true) := if_pos (by
          rw [show (y5 x).s = 5 from rfl, hat, if_neg (fun h => hL h.2)]
          show belB 0 0 3 1 = true
          decide)
        have hN : ∀ k, (if k = q then some (y5 x) else (((l.hrd 5).V 5).getD fun _ => none) k) = if k ∈ ms ∧ k ∈ L ++ [q] then some (y5 x) else none := fun k => by
          by_cases hk : k = q
          · subst hk
            rw [if_pos rfl, if_pos ⟨hq, by simp⟩]
          · rw [if_neg hk, hat]
            simp [hk]
        generalize hN0 : (fun z => if z = q then some (y5 x) else (((l.hrd 5).V 5).getD fun _ => none) z) = N at *
        have hN1 : ∀ k, N k = if k ∈ ms ∧ k ∈ L ++ [q] then some (y5 x) else none := fun k => by rw [← hN0]; exact hN k
        have hag : quo ms (agr N (y5 x)) = enB ms (L ++ [q]) := by
          unfold quo enB cnt
          have e : ms.countP (agr N (y5 x)) = ms.countP (fun m => decide (m ∈ L ++ [q])) := by
            apply List.countP_congr
            intro a ha
            unfold agr
            rw [hN1, decide_eq_true_eq]
            by_cases h4 : a ∈ L ++ [q]
            · rw [if_pos ⟨ha, h4⟩]
              simp only [h4, iff_true]
              have e3 := sameV_refl (y5 x).v.k (y5 x).v.cs (y5 x).v.ns
              simp [e3]
            · rw [if_neg (fun h => h4 h.2)]
              simp [h4]
          rw [e]
        have hms : ((l.hrd 5).setV 5 N).ms = ms := h.hms
        have hat2 : ((l.hrd 5).setV 5 N).at_ 5 = N := by
          unfold Lv.at_
          rw [Lv.setV_same]
          rfl
        cases hr : enB ms (L ++ [q])
        · have h3 : (l.hrd 5).vote2 q (y5 x) = ((l.hrd 5).setV 5 N, false) := by
            unfold Lv.vote2
            rw [h2]
            refine if_neg ?_
            show ¬ (true && quo ((l.hrd 5).setV 5 N).ms (agr (((l.hrd 5).setV 5 N).at_ 5) (y5 x))) = true
            rw [hms, hat2, hag, hr]
            simp
          rw [h3]
          refine ⟨⟨h.hms, h.nx, .inr ⟨hr, hD, fun k => ?_⟩⟩, rfl⟩
          show ((l.hrd 5).setV 5 N).at_ 5 k = _
          rw [hat2, hN1]
        · have h3 : (l.hrd 5).vote2 q (y5 x) = (((l.hrd 5).setV 5 N).dec 5 x, true) := by
            unfold Lv.vote2
            rw [h2]
            refine if_pos ?_
            show (true && quo ((l.hrd 5).setV 5 N).ms (agr (((l.hrd 5).setV 5 N).at_ 5) (y5 x))) = true
            rw [hms, hat2, hag, hr]
            rfl
          rw [h3]
          refine ⟨⟨h.hms, h.nx, .inl ⟨hr, ?_⟩⟩, by rw [e]; rfl⟩
          show (if (5 : Int) = 5 then some x else ((l.hrd 5).setV 5 N).D 5) = some x
          rw [if_pos rfl]
    · have h1 : l.voted q (y5 x) = (l, false) := if_neg (fun h2 => hq (by rw [← h.hms]; exact h2.2.2.1))
      rw [h1, enB_same (.inl hq)]
      refine ⟨⟨h.hms, h.nx, .inr ⟨by rw [enB_same (.inl hq)]; exact e, hD, fun k => ?_⟩⟩, by rw [e]; rfl⟩
      rw [hA]
      by_cases hk : k = q
      · subst hk
        simp [hq]
      · simp [hk]
theorem ArgV.of_own {w0 w w' : World} {F : Nat → Prop} {k : Int} {cs : List Cmdv} {ns : List Int} {A D : Option Addr} {n c m d : Nat} (ho : OwnC w w0.heap.size (.slice A n c) cs) (hi : OwnI w w0.heap.size (.slice D m d) ns) (hb : Below w.heap.size w w') (hF : ∀ j, F j → j < w0.heap.size) (hm : m ≤ 140737488355328) : ArgV w' F A n D m ⟨k, cs, ns⟩ := by
  obtain ⟨a1, a2⟩ := ownc_slice (ho.below hb)
  obtain ⟨b1, b2⟩ := owni_slice' (hi.below hb)
  refine ⟨a2, b2, a1, b1, hm, fun b o e hf => ?_, fun b o e hf => ?_⟩
  · have := (ho.lt b (by rw [e]; rfl)).1
    have := hF b hf
    omega
  · have := (hi.lt b (by rw [e]; rfl)).1
    have := hF b hf
    omega
/-- What the loop over nodes holds. -/
structure CR (w0 : World) (g : Nat) (ms L : List Int) (x : Vl) (s8 : Value) (wr : World) : Prop where
  mem : ∃ l F, EL wr F g l ∧ CI ms L x l ∧ (∀ i, F i → w0.heap.size ≤ i) ∧ ∀ i, s8.ownBlock = some i → ¬ F i
  own : OwnI wr w0.heap.size s8 L
  bel : Below w0.heap.size w0 wr
set_option maxHeartbeats 3200000 in
set_option maxRecDepth 20000 in
theorem counts_walk (Am : Option Addr) (nm cm : Nat) (ms : List Int) (An : Option Addr) (nn cn : Nat) (ns : List Int) (k : Int) (A : Option Addr) (n c : Nat) (D : Option Addr) (m d : Nat) (cs : List Cmdv) (xs : List Int) (w : World)
    (hm : HasI w w.heap.size Am ms) (en : ms.length = nm) (ln : nm ≤ 17592186043904) (hN : HasI w w.heap.size An ns) (eN : ns.length = nn) (lN : nn ≤ 17592186043904) (hV : IsV w w.heap.size A n D m cs xs) :
    Calls Try.prog 4 #[.slice Am nm cm, .slice An nn cn, .agg #[.int .i64 k, .slice A n c, .slice D m d]] w fun e w' => e = .returned (.bool true) ∧ Below w.heap.size w w' := by
  have hp := heap_alloc_new w (.cells #[.int .i64 k, .slice A n c, .slice D m d] 35)
  have hb0 : Below w.heap.size w (w.alloc (.cells #[.int .i64 k, .slice A n c, .slice D m d] 35)) := (Below.refl _ _).alloc (Nat.le_refl _) _
  go_enter Try.func4, Try.ntmps4
  go_upto_region 1 with fail
  generalize w.alloc (.cells #[.int .i64 k, .slice A n c, .slice D m d] 35) = w0 at *
  go_wp2_with fail
  refine (head15_any w0).mono ?_
  rintro e w1 ⟨rfl, hb1⟩
  have hb01 := hb0.trans (hb1.mono hb0.size)
  have hm1 := (hm.below hb01).more hb01.size
  have hp1 := (hb1.block _ (lt_of_block hp)).trans hp
  go_wp2_with fail
  refine (rright_any Am nm cm w1.heap.size ms w1 hm1 en (by omega)).mono ?_
  rintro e w2 ⟨rfl, j2, e2⟩
  have hb2 : Below w1.heap.size w1 w2 := by rw [← e2]; exact below_drewN (Below.refl _ _) j2
  have hb02 := hb01.trans (hb2.mono hb01.size)
  have hp2 := (hb2.block _ (lt_of_block hp1)).trans hp1
  have HE := hide en
  have HNE := hide eN
  have HM := hide hm
  have HNN := hide hN
  have HV := hide hV
  clear e2 hm1 en eN hm hN hV hp hp1
  cases hr : decide (rightS ms)
  · go_wp2
    go_ret
    exact ⟨rfl, hb02⟩
  · have HR := hide (of_decide_eq_true hr)
    have hv2 := (HV.out.below hb02).more hb02.size
    have hck := rvcheck_any k A D n c m d w2.heap.size cs xs w2 hv2.c hv2.i (Nat.le_refl _) hv2.en hv2.em (by have := hv2.lm; omega)
    have p0 := (row_cells hp2 0).1
    have p1 := (row_cells hp2 1).1
    have p2 := (row_cells hp2 2).1
    simp only [List.getElem?_toArray, List.getElem?_cons_succ, List.getElem?_cons_zero] at p0 p1 p2
    have HP2 := hide hp2
    clear hr hv2 hp2
    go_wp2_with fail
    refine hck.mono ?_
    rintro e w3 ⟨rfl, hb3⟩
    have hb03 := hb02.trans (hb3.mono hb02.size)
    by_cases hok : chkV k cs xs = 0
    · rw [hok]
      have HOK := hide hok
      have hm3 : HasI w3 w3.heap.size Am ms := (HM.out.below hb03).more hb03.size
      obtain ⟨v4, w4, hr4, ho4, hb4⟩ := run_copy_ints w3 22 Am nm cm w3.heap.size ms hm3 HE.out (by omega) (Nat.le_refl _)
      obtain ⟨A4, n4, c4, rfl, hn4, hnc4, hx4⟩ := ho4.form
      obtain rfl : n4 = nm := by rw [← hn4.out, HE.out]
      have HR4 := hide hr4
      have hb04 := hb03.trans (hb4.mono hb03.size)
      have hp4 := ((hb3.trans (hb4.mono hb3.size)).block _ (lt_of_block HP2.out)).trans HP2.out
      have HP4 := hide hp4
      clear hr4 hok p0 p1 p2 hck hp4
      go_wp2_with (at_builtin; refine list_append_want _ (by rfl) (.tmp 26) (.tmp 27) 22 22 rfl _ _ rfl rfl _ _ HR4.out ?_)
      refine (el_new A4 n4 c4 w4.heap.size ms 5 w4 hx4 (Nat.le_refl _) HE.out (by omega) HR.out ⟨by omega, by omega⟩).mono ?_
      rintro e w5 ⟨g, rfl, h5, hb5⟩
      have hb05 := hb04.trans (hb5.mono hb04.size)
      have hbe := (Below.refl _ w5).alloc (Nat.le_refl _) (.cells #[] 3)
      have ho6 := OwnI.new w5 [] w5.heap.size w5.heap.size rfl (Nat.le_refl _) (by simp)
      have h6 := h5.below hbe
      have hp6 := ((hb5.trans (hbe.mono hb5.size)).block _ (lt_of_block HP4.out)).trans HP4.out
      have hb06 := hb05.trans (hbe.mono hb05.size)
      have hz6 : (w5.alloc (.cells #[] 3)).heap.size = w5.heap.size + 1 := by simp
      have hz5 := hb5.size
      have HCR : Hid (CR w4 g ms [] ⟨k, cs, xs⟩ (.slice (some ⟨w5.heap.size, 0, none⟩) 0 0) (w5.alloc (.cells #[] 3))) := hide ⟨⟨_, _, h6, CI.start ms _, fun i hi => hi.1, fun i hi hf => by
        have e : w5.heap.size = i := by simpa [Value.ownBlock] using hi
        omega⟩, ho6.from_ hz5, hb5.trans (hbe.mono hz5)⟩
      have HP6 := hide hp6
      clear h5 h6 ho6 hp6 HR4 hx4 hnc4
      go_upto_region 8 with fail
      generalize w5.alloc (.cells #[] 3) = w6 at *
      have hst : (.bool false : Value) = .bool (enB ms (ns.take 0)) := by
        rw [show enB ms (ns.take 0) = false from by unfold enB cnt; simp]
      go_wp2_with fail
      go_loopw [8, 9, 33] (fun s8 s9 s33 wr => ∃ j : Nat, j ≤ nn ∧ s33 = .int .i64 (j : Int) ∧ s9 = .bool (enB ms (ns.take j)) ∧ Hid (CR w4 g ms (ns.take j) ⟨k, cs, xs⟩ s8 wr)) (fun _ _ s33 _ => nn - (intOf s33).toNat)
      case atStart => exact ⟨0, Nat.zero_le _, rfl, hst, HCR⟩
      case round =>
        clear hst HCR HP6
        obtain ⟨j, hj, rfl, rfl, hcr⟩ := hrel
        have hbl := hcr.out.bel
        have hb0r := hb04.trans (hbl.mono hb04.size)
        have hpr := (hbl.block _ (lt_of_block HP4.out)).trans HP4.out
        by_cases hlt : j < nn
        · have hjl : j < ns.length := by rw [HNE.out]; exact hlt
          obtain ⟨b, o, hA, hbb, hcc⟩ := ((HNN.out.below hb0r).more hb0r.size) j hjl
          have HTK := hide (List.take_succ_eq_append_getElem hjl)
          generalize ns[j] = q at *
          subst hA
          have p0 := (row_cells hpr 0).1
          have p1 := (row_cells hpr 1).1
          have p2 := (row_cells hpr 2).1
          simp only [List.getElem?_toArray, List.getElem?_cons_succ, List.getElem?_cons_zero] at p0 p1 p2
          have hvr := (HV.out.below hb0r).more hb0r.size
          have hcp := rvcopy_any k A D n c m d wr.heap.size cs xs wr hvr.c hvr.i (Nat.le_refl _) hvr.en hvr.em (by have := hvr.ln; omega) (by have := hvr.lm; omega)
          obtain ⟨⟨l, F, hel, hci, hF1, hF2⟩, how, _⟩ := hcr.out
          have HEL := hide hel
          have HCI := hide hci
          have HF1 := hide hF1
          have HF2 := hide hF2
          have HOW := hide how
          have HPR := hide hpr
          have HBL := hide hbl
          clear hel hci hF1 hF2 how hpr hbl hvr hcr
          generalize hb1 : enB ms (ns.take j) = b1 at *
          go_wp2_with fail
          refine hcp.mono ?_
          rintro e w7 ⟨A7, c7, D7, d7, rfl, ho7, hi7, hb7⟩
          clear hcp
          go_wp2_with fail
          refine (evote_any 5 3 k A7 n c7 D7 m d7 w7).mono ?_
          rintro e w8 ⟨rfl, hb8⟩
          have hb78 := hb7.trans (hb8.mono hb7.size)
          have hav : ArgV w8 F A7 n D7 m ⟨k, cs, xs⟩ := ArgV.of_own ho7 hi7 hb8 HEL.out.lt (by have := HV.out.lm; omega)
          have hvt := el_voted (HEL.out.below hb78) q 5 3 1 (by decide) ⟨k, cs, xs⟩ A7 n c7 D7 m d7 hav
          obtain ⟨hc1, hc2⟩ := HCI.out.step HOK.out q
          have hc2' : (l.voted q ⟨5, 3, 1, ⟨k, cs, xs⟩⟩).2 = (enB ms (ns.take (j + 1)) && !b1) := by
            rw [HTK.out]
            rw [← hb1]
            exact hc2
          rw [hc2'] at hvt
          have HC1 : Hid (CI ms (ns.take (j + 1)) ⟨k, cs, xs⟩ (l.voted q ⟨5, 3, 1, ⟨k, cs, xs⟩⟩).1) := hide (by rw [HTK.out]; exact hc1)
          have HO8 := hide (HOW.out.below hb78)
          have HB8 := hide (HBL.out.trans (hb78.mono HBL.out.size))
          clear hc1 hc2 hc2' hav p0 p1 p2 ho7 hi7 hb7
          go_wp2_with fail
          refine hvt.mono ?_
          rintro e w9 ⟨rfl, F9, h9, hk9, hf9⟩
          clear hvt
          have ho9 : OwnI w9 w4.heap.size u8 (ns.take j) := HO8.out.keep fun i hi => hk9.block i (HO8.out.lt i hi).2 (HF2.out i hi)
          have hB9 : Below w4.heap.size w4 w9 := HB8.out.trans (hk9.below HB8.out.size HF1.out)
          have HF9a : Hid (∀ i, F9 i → w4.heap.size ≤ i) := hide (fun i hi => by
            rcases hf9 i hi with e | e
            · exact HF1.out i e
            · have := HB8.out.size; omega)
          have HF9b : Hid (∀ i, u8.ownBlock = some i → ¬ F9 i) := hide (fun i hi hf => by
            rcases hf9 i hf with e | e
            · exact HF2.out i hi e
            · have := (HO8.out.lt i hi).2; omega)
          have hba := (Below.refl _ w9).alloc (Nat.le_refl _) (.cells (icells [q]) 3)
          have hone : HasI (w9.alloc (.cells (icells [q]) 3)) (w9.heap.size + 1) (some ⟨w9.heap.size, 0, none⟩) [q] := HasI.new w9 3 [q] (0, 0) w9.heap.size rfl
          have HO10 := hide (ho9.below hba)
          have h10 := h9.below hba
          have HB10 := hide (hB9.trans (hba.mono hB9.size))
          have HLN : Hid ((ns.take j).length + 1 ≤ 17592186044416) := hide (by rw [List.length_take]; omega)
          have hic : icells [q] = #[.int .i64 q] := rfl
          have HLT9 := hide h9.lt
          rw [hic] at hone hba HO10 h10 HB10
          have H10 := hide h10
          clear hic h10 h9 ho9 hB9 hk9 hf9
          have hTK2 : ns.take j ++ [q] = ns.take (j + 1) := HTK.out.symm
          have HTK2 := hide hTK2
          clear hTK2
          go_wp2_with (first
            | (refine list_append_ints4 _ rfl (.tmp 43) (.tmp 45) rfl w4.heap.size u8 (ns.take j) rfl HO10.out _ _ 1 1 [q] rfl hone rfl HLN.out HB10.out.size ?_; intro v11 w11 ho11 hg11 hat11; have HO11 := hide ho11; have HG11 := hide hg11; have HAT11 := hide hat11; clear ho11 hg11 hat11)
            | fail)
          rw [HTK2.out] at HO11
          have hk11 : Kept (fun i => u8.ownBlock = some i) _ w11 := Kept.of_grown (F := fun i => u8.ownBlock = some i) HG11.out (fun i hi => hi)
          have hB11 := HB10.out.trans (hk11.below HB10.out.size (fun i hi => (HO10.out.lt i hi).1))
          have h11 := H10.out.kept hk11 (fun i hi e => HF9b.out i e hi)
          have HCR2 : Hid (CR w4 g ms (ns.take (j + 1)) ⟨k, cs, xs⟩ v11 w11) := hide ⟨⟨_, F9, h11, HC1.out, HF9a.out, fun i hi hf => by
            rcases HAT11.out with e | e
            · exact HF9b.out i (by rw [← e]; exact hi) hf
            · rw [e] at hi
              have e2 : _ = i := Option.some.inj hi
              have := H10.out.lt i hf
              have := HLT9.out i hf
              simp at e2
              omega⟩, HO11.out, hB11⟩
          obtain ⟨A11, n11, c11, rfl, hn11, _, hx11⟩ := HO11.out.form
          have hm11 := (HM.out.below (hb04.trans (hB11.mono hb04.size))).more (hb04.trans (hB11.mono hb04.size)).size
          have hen := renough_any Am A11 n4 n11 cm c11 w11.heap.size w11.heap.size ms (ns.take (j + 1)) w11 hm11 hx11 HE.out hn11.out (by omega) (by have h := hn11.out; rw [List.length_take] at h; omega)
          generalize hb2 : enB ms (ns.take (j + 1)) = b2 at *
          have HEQ : Hid ((.bool b2 : Value) = .bool (enB ms (ns.take (j + 1)))) := hide (by rw [hb2])
          clear hx11 hm11 hone hba
          go_wp2_with fail
          refine hen.mono ?_
          rintro e _ ⟨rfl, rfl⟩
          clear hen hb1 hb2
          cases b2
          · go_wp2_with fail
            go_roundw
            case rel => exact ⟨j + 1, by omega, by go_num, HEQ.out, HCR2⟩
            case measure => simp [intOf]; omega
          · cases b1
            · go_wp2_with fail
              go_roundw
              case rel => exact ⟨j + 1, by omega, by go_num, HEQ.out, HCR2⟩
              case measure => simp [intOf]; omega
            · go_wp2_with fail
              go_roundw
              case rel => exact ⟨j + 1, by omega, by go_num, HEQ.out, HCR2⟩
              case measure => simp [intOf]; omega
        · obtain rfl : j = nn := by omega
          have HTA : Hid (ns.take j = ns) := hide (List.take_of_length_le (by rw [HNE.out]; exact Nat.le_refl _))
          rw [HTA.out] at hcr
          obtain ⟨⟨l, F, hel, hci, _, _⟩, _, _⟩ := hcr.out
          have HTB : Hid (enB ms (ns.take j) = enB ms ns) := hide (by rw [HTA.out])
          rw [HTB.out]
          have hkn := el_known hel (s := 5) (by decide)
          have HBR := hide hb0r
          have HPR := hide hpr
          have hres : (enB ms ns = true ∧ l.known 5 = ⟨k, cs, xs⟩ ∧ (l.D 5).isSome = true) ∨ (enB ms ns = false ∧ (l.D 5).isSome = false) := by
            rcases hci.st with ⟨a, b⟩ | ⟨a, b, _⟩
            · exact .inl ⟨a, by unfold Lv.known; rw [b]; rfl, by rw [b]; rfl⟩
            · exact .inr ⟨a, by rw [b]; rfl⟩
          clear hel hci hcr hb0r hpr hbl
          go_wp2_with fail
          refine hkn.mono ?_
          rintro e w7 ⟨A7, n7, c7, D7, m7, d7, rfl, ho7, hi7, hb7⟩
          clear hkn
          have hb07 := HBR.out.trans (hb7.mono HBR.out.size)
          have hba := (Below.refl _ w7).alloc (Nat.le_refl _) (.cells #[.int .i64 (l.known 5).k, .slice A7 n7 c7, .slice D7 m7 d7] 35)
          have hb08 := hb07.trans (hba.mono hb07.size)
          rcases hres with ⟨e1, e2, e3⟩ | ⟨e1, e3⟩
          · rw [e1, e3]
            rw [e2] at ho7 hi7 hba hb08 ⊢
            have hv8 := (HV.out.below hb08).more hb08.size
            obtain ⟨a1, a2⟩ := ownc_slice (ho7.below hba)
            obtain ⟨b1, b2⟩ := owni_slice' (hi7.below hba)
            have hq8 := heap_alloc_new w7 (.cells #[.int .i64 k, .slice A7 n7 c7, .slice D7 m7 d7] 35)
            have hp8 := ((hb7.trans (hba.mono hb7.size)).block _ (lt_of_block HPR.out)).trans HPR.out
            have hsm := rvsame_any k k A7 A D7 D n7 n c7 c m7 m d7 d _ cs cs xs xs _ a2 b2 hv8.c hv8.i (Nat.le_refl _) a1 hv8.en b1 hv8.em (by have h1 : cs.length = n7 := a1; have h2 := hv8.en; have h3 := hv8.ln; omega) (by have h1 : xs.length = m7 := b1; have h2 := hv8.em; have h3 := hv8.lm; omega)
            rw [sameV_refl] at hsm
            have p0 := (row_cells hp8 0).1
            have p1 := (row_cells hp8 1).1
            have p2 := (row_cells hp8 2).1
            have q0 := (row_cells hq8 0).1
            have q1 := (row_cells hq8 1).1
            have q2 := (row_cells hq8 2).1
            simp only [List.getElem?_toArray, List.getElem?_cons_succ, List.getElem?_cons_zero] at p0 p1 p2 q0 q1 q2
            clear hv8 a1 a2 b1 b2 hq8 hp8 ho7 hi7 e1 e2 e3
            go_upto_region 19 with fail
            generalize w7.alloc (.cells #[.int .i64 k, .slice A7 n7 c7, .slice D7 m7 d7] 35) = w8 at *
            go_wp2_with fail
            refine hsm.mono ?_
            rintro e w9 ⟨rfl, hb9⟩
            go_wp2
            go_ret
            exact ⟨rfl, hb08.trans (hb9.mono hb08.size)⟩
          · rw [e1, e3]
            go_wp2
            go_ret
            exact ⟨rfl, hb08⟩
    · have hcb : (chkV k cs xs != 0) = true := by simpa using hok
      generalize chkV k cs xs = z at *
      go_wp2
      go_ret
      exact ⟨rfl, hb03⟩
end Go.Proofs.Ytnngmapphacpkaa

namespace Go.Proofs.Ytnngmapphacpkaa
open Go.RowKit

/-- The value that bears a number. -/
def mkc (g : Int) : Cmdv := ⟨g, 1, 0, 1, 0, 0, 0, 0⟩
def mkv (g : Int) : Vl := ⟨1, [mkc g], []⟩
theorem mkv_ok {g : Int} (h : 1 ≤ g ∧ g ≤ 1073741824) : chkV (mkv g).k (mkv g).cs (mkv g).ns = 0 := by
  have h1 : chkC (mkc g) = 0 := by
    unfold chkC
    rw [if_pos ⟨decide_eq_true h, (show insB 1 1 1099511627776 = true by decide), (show insB 0 0 (1 - 1) = true by decide)⟩]
    show chk 1 0 0 0 0 = 0
    decide
  show chkV 1 [mkc g] [] = 0
  unfold chkV
  rw [if_pos (show shB 1 [mkc g].length ([] : List Int).length = true from (show shB 1 1 0 = true by decide)), if_neg (show ¬ (1 : Int) = 2 by decide)]
  show (if chkC (mkc g) = 0 then chkCs [] else chkC (mkc g)) = 0
  rw [if_pos h1]
  rfl
def n3 (k : Int) : Prop := k = 1 ∨ k = 2 ∨ k = 3
/-- Two nodes have voted in a round. -/
def Ch (H : Int → Int → Prop) (r : Int) : Prop := ∃ k1 k2, k1 ≠ k2 ∧ H k1 r ∧ H k2 r
/-- What stands of rounds, votes and values. -/
structure PI (R bound : Int) (V W gv : Int → Int) (H : Int → Int → Prop) : Prop where
  r0 : 0 ≤ R
  h : ∀ k r, H k r → n3 k ∧ 1 ≤ r ∧ r ≤ R ∧ r ≤ V k
  v : ∀ k, n3 k → 0 ≤ V k ∧ V k ≤ R
  w : ∀ k, n3 k → 1 ≤ V k → W k = gv (V k)
  b : 1 ≤ R → bound = gv R
  g : ∀ r, 1 ≤ r → r ≤ R → 1 ≤ gv r ∧ gv r ≤ R
  safe : ∀ r r', Ch H r → r ≤ r' → r' ≤ R → gv r' = gv r
def pickB (R : Int) (V W : Int → Int) (n o : Int) : Int := if max (V n) 0 < V o then W o else if 0 < V n then W n else R + 1
theorem PI.start : PI 0 0 (fun _ => 0) (fun _ => 0) (fun _ => 0) (fun _ _ => False) :=
  ⟨by omega, fun _ _ h => h.elim, fun _ _ => by omega, fun _ _ h => by omega, fun h => (by omega), fun _ _ _ => (by omega), fun _ _ h => by obtain ⟨_, _, _, h, _⟩ := h; exact h.elim⟩
theorem PI.prep {R bound : Int} {V W gv : Int → Int} {H : Int → Int → Prop} (h : PI R bound V W gv H) {n o : Int} (hn : n3 n) (ho : n3 o) (hne : n ≠ o) :
    PI (R + 1) (pickB R V W n o) V W (fun r => if r = R + 1 then pickB R V W n o else gv r) H := by
  have hr := h.r0
  have hvn := h.v n hn
  have hvo := h.v o ho
  refine ⟨by omega, fun k r hk => ?_, fun k hk => ?_, fun k hk h1 => ?_, fun _ => ?_, fun r h1 h2 => ?_, fun r r' hc h1 h2 => ?_⟩
  · have := h.h k r hk
    exact ⟨this.1, this.2.1, by omega, this.2.2.2⟩
  · have := h.v k hk
    omega
  · have := h.v k hk
    rw [if_neg (by omega)]
    exact h.w k hk h1
  · rw [if_pos rfl]
  · by_cases e : r = R + 1
    · rw [if_pos e]
      unfold pickB
      split
      · rw [h.w o ho (by omega)]
        have := h.g (V o) (by omega) (by omega)
        omega
      · split
        · rw [h.w n hn (by omega)]
          have := h.g (V n) (by omega) (by omega)
          omega
        · omega
    · rw [if_neg e]
      have := h.g r h1 (by omega)
      omega
  · obtain ⟨k1, k2, hk, a1, a2⟩ := hc
    have b1 := h.h k1 r a1
    have b2 := h.h k2 r a2
    rw [if_neg (show ¬ r = R + 1 by omega)]
    by_cases e : r' = R + 1
    · rw [if_pos e]
      have hk3 : ∃ k, (k = n ∨ k = o) ∧ H k r := by
        have c1 := b1.1
        have c2 := b2.1
        unfold n3 at c1 c2 hn ho
        by_cases e1 : k1 = n ∨ k1 = o
        · exact ⟨k1, e1, a1⟩
        · exact ⟨k2, by omega, a2⟩
      obtain ⟨k, hko, ak⟩ := hk3
      have bk := h.h k r ak
      have hcc : Ch H r := ⟨k1, k2, hk, a1, a2⟩
      unfold pickB
      split
      · rename_i h3
        rw [h.w o ho (by omega)]
        refine h.safe r (V o) hcc ?_ hvo.2
        rcases hko with rfl | rfl
        · omega
        · exact bk.2.2.2
      · rename_i h3
        split
        · rename_i h4
          rw [h.w n hn (by omega)]
          refine h.safe r (V n) hcc ?_ hvn.2
          rcases hko with rfl | rfl
          · exact bk.2.2.2
          · omega
        · exfalso
          rcases hko with rfl | rfl
          · omega
          · omega
    · rw [if_neg e]
      exact h.safe r r' ⟨k1, k2, hk, a1, a2⟩ h1 (by omega)
theorem PI.vote {R bound : Int} {V W gv : Int → Int} {H : Int → Int → Prop} (h : PI R bound V W gv H) {n : Int} (hn : n3 n) (hR : 1 ≤ R) :
    PI R bound (fun z => if z = n then R else V z) (fun z => if z = n then bound else W z) gv (fun k r => H k r ∨ k = n ∧ r = R) := by
  refine ⟨h.r0, fun k r hk => ?_, fun k hk => ?_, fun k hk h1 => ?_, h.b, h.g, fun r r' hc h1 h2 => ?_⟩
  · rcases hk with hk | ⟨rfl, rfl⟩
    · have := h.h k r hk
      refine ⟨this.1, this.2.1, this.2.2.1, ?_⟩
      split
      · omega
      · omega
    · rw [if_pos rfl]
      exact ⟨hn, hR, by omega, by omega⟩
  · have := h.v k hk
    split <;> omega
  · by_cases e : k = n
    · rw [if_pos e, if_pos e]
      exact h.b hR
    · rw [if_neg e] at h1 ⊢
      rw [if_neg e]
      exact h.w k hk h1
  · by_cases e : r = R
    · rw [show r' = r by omega]
    · refine h.safe r r' ?_ h1 h2
      obtain ⟨k1, k2, hk, a1, a2⟩ := hc
      exact ⟨k1, k2, hk, a1.resolve_right (fun h => e h.2), a2.resolve_right (fun h => e h.2)⟩

/-- A learner that has heard such votes alone. -/
structure LI (R : Int) (gv : Int → Int) (H : Int → Int → Prop) (l : Lv) : Prop where
  hms : l.ms = [1, 2, 3]
  nx : l.next = 1
  vt : ∀ k u, l.at_ 1 k = some u → ∃ r, H k r ∧ r ≤ R ∧ u = ⟨1, r, 1, mkv (gv r)⟩
  dc : ∀ x, l.D 1 = some x → ∃ r, Ch H r ∧ r ≤ R ∧ x = mkv (gv r)
theorem LI.start : LI 0 (fun _ => 0) (fun _ _ => False) (Lv.new [1, 2, 3] 1) :=
  ⟨rfl, rfl, fun k u h => (by cases h), fun x h => (by cases h)⟩
theorem LI.more {R R' : Int} {gv gv' : Int → Int} {H H' : Int → Int → Prop} {l : Lv} (h : LI R gv H l) (hR : R ≤ R') (hg : ∀ r, r ≤ R → gv' r = gv r) (hH : ∀ k r, H k r → H' k r) : LI R' gv' H' l := by
  refine ⟨h.hms, h.nx, fun k u hu => ?_, fun x hx => ?_⟩
  · obtain ⟨r, a, b, c⟩ := h.vt k u hu
    exact ⟨r, hH k r a, by omega, by rw [hg r b]; exact c⟩
  · obtain ⟨r, ⟨k1, k2, a, b, c⟩, d, e⟩ := h.dc x hx
    exact ⟨r, ⟨k1, k2, a, hH _ _ b, hH _ _ c⟩, by omega, by rw [hg r d]; exact e⟩
theorem LI.agree {R bound : Int} {V W gv : Int → Int} {H : Int → Int → Prop} (h : PI R bound V W gv H) {a b : Lv} (ha : LI R gv H a) (hb : LI R gv H b) {x y : Vl} (hx : a.D 1 = some x) (hy : b.D 1 = some y) : x = y := by
  obtain ⟨r, c1, d1, rfl⟩ := ha.dc x hx
  obtain ⟨s, c2, d2, rfl⟩ := hb.dc y hy
  rcases Int.le_total r s with h1 | h1
  · rw [h.safe r s c1 h1 d2]
  · rw [h.safe s r c2 h1 d1]
theorem quo3 {p : Int → Bool} (h : quo [1, 2, 3] p = true) : ∃ k1 k2, k1 ≠ k2 ∧ p k1 = true ∧ p k2 = true := by
  unfold quo at h
  have h1 := of_decide_eq_true h
  simp only [List.countP_cons, List.countP_nil, List.length_cons, List.length_nil] at h1
  cases e1 : p 1 <;> cases e2 : p 2 <;> cases e3 : p 3 <;> simp only [e1, e2, e3] at h1
  all_goals first
    | exact ⟨1, 2, by decide, e1, e2⟩
    | exact ⟨1, 3, by decide, e1, e3⟩
    | exact ⟨2, 3, by decide, e2, e3⟩
    | (exfalso; simp at h1)
theorem LI.step {R : Int} {gv : Int → Int} {H : Int → Int → Prop} {l : Lv} (h : LI R gv H l) {n : Int} (hv : H n R) : LI R gv H (l.voted n ⟨1, R, 1, mkv (gv R)⟩).1 := by
  unfold Lv.voted
  split
  · rename_i hc
    have hh : LI R gv H (l.hrd 1) := ⟨h.hms, h.nx, h.vt, h.dc⟩
    show LI R gv H ((l.hrd 1).vote2 n ⟨1, R, 1, mkv (gv R)⟩).1
    generalize l.hrd 1 = l1 at *
    have hk : LI R gv H (l1.kept n ⟨1, R, 1, mkv (gv R)⟩).1 := by
      unfold Lv.kept
      split
      · refine ⟨hh.hms, hh.nx, fun k u hu => ?_, hh.dc⟩
        have hu' : (((l1.setV 1 (fun z => if z = n then some ⟨1, R, 1, mkv (gv R)⟩ else ((l1.V 1).getD fun _ => none) z)).V 1).getD fun _ => none) k = some u := hu
        rw [Lv.setV_same] at hu'
        have hu2 : (if k = n then some (⟨1, R, 1, mkv (gv R)⟩ : Vt) else ((l1.V 1).getD fun _ => none) k) = some u := hu'
        by_cases e : k = n
        · rw [if_pos e] at hu2
          exact ⟨R, by rw [e]; exact hv, Int.le_refl _, (Option.some.inj hu2).symm⟩
        · rw [if_neg e] at hu2
          exact hh.vt k u hu2
      · exact hh
    unfold Lv.vote2
    split
    · rename_i hq
      rw [Bool.and_eq_true] at hq
      have hq2 := hq.2
      rw [hk.hms] at hq2
      obtain ⟨k1, k2, hne, a1, a2⟩ := quo3 hq2
      have hag : ∀ k, agr ((l1.kept n ⟨1, R, 1, mkv (gv R)⟩).1.at_ 1) ⟨1, R, 1, mkv (gv R)⟩ k = true → H k R := fun k ha => by
        unfold agr at ha
        cases hN : (l1.kept n ⟨1, R, 1, mkv (gv R)⟩).1.at_ 1 k with
        | none => rw [hN] at ha; cases ha
        | some u =>
          rw [hN] at ha
          obtain ⟨r, b1, b2, rfl⟩ := hk.vt k u hN
          dsimp only at ha
          rw [Bool.and_eq_true] at ha
          have e := of_decide_eq_true ha.1
          injection e with e _
          rw [← e]
          exact b1
      refine ⟨hk.hms, hk.nx, fun k u hu => ?_, fun x hx => ?_⟩
      · have hu' : ((if (1 : Int) = 1 then none else (l1.kept n ⟨1, R, 1, mkv (gv R)⟩).1.V 1).getD fun _ => none) k = some u := hu
        rw [if_pos rfl] at hu'
        cases hu'
      · have hx' : (if (1 : Int) = 1 then some (mkv (gv R)) else (l1.kept n ⟨1, R, 1, mkv (gv R)⟩).1.D 1) = some x := hx
        rw [if_pos rfl] at hx'
        exact ⟨R, ⟨k1, k2, hne, hag k1 a1, hag k2 a2⟩, Int.le_refl _, (Option.some.inj hx').symm⟩
    · exact hk
  · exact h
end Go.Proofs.Ytnngmapphacpkaa

namespace Go.Proofs.Ytnngmapphacpkaa
open Go.RowKit

/-- What is known of a type of rows: e the element's, t the slice's, k cells, b bytes, z its zero value. -/
structure RowT (e t : TypeId) (k b : Nat) (z : Value) : Prop where
  und : Try.prog.underlying t = some (.slice e)
  info : (Try.prog.info? e).map (fun i => (i.zero, i.size, i.bytes)) = some (some z, k, b)
  zs : z.cells.size = k
  pos : 0 < k

theorem infoR {P : Program} {e : TypeId} {z : Value} {k b : Nat} (h : (P.info? e).map (fun i => (i.zero, i.size, i.bytes)) = some (some z, k, b)) : ∃ i, P.info? e = some i ∧ i.zero = some z ∧ i.size = k ∧ i.bytes = b := by
  cases hq : P.info? e with
  | none => simp [hq] at h
  | some i => simp [hq] at h; exact ⟨i, rfl, h.1, h.2.1, h.2.2⟩

/-- Rows of k cells. -/
def Wide (k : Nat) (rs : List (List Value)) : Prop := ∀ r ∈ rs, r.length = k ∧ ∀ u ∈ r, u.oneCell' = true
theorem Wide.nil (k : Nat) : Wide k [] := fun _ h => absurd h (by simp)
theorem Wide.tail {k : Nat} {r : List Value} {rs : List (List Value)} (h : Wide k (r :: rs)) : Wide k rs := fun x hx => h x (by simp [hx])
theorem Wide.append {k : Nat} {rs ss : List (List Value)} (h : Wide k rs) (h' : Wide k ss) : Wide k (rs ++ ss) := fun r hr => by
  rcases List.mem_append.1 hr with h1 | h1
  · exact h r h1
  · exact h' r h1
theorem Wide.take {k : Nat} {rs : List (List Value)} (h : Wide k rs) (n : Nat) : Wide k (rs.take n) := fun r hr => h r (List.mem_of_mem_take hr)
theorem Wide.drop {k : Nat} {rs : List (List Value)} (h : Wide k rs) (n : Nat) : Wide k (rs.drop n) := fun r hr => h r (List.mem_of_mem_drop hr)
theorem Wide.one {k : Nat} {r : List Value} (h : r.length = k) (h1 : ∀ u ∈ r, u.oneCell' = true) : Wide k [r] := fun x hx => by
  simp at hx
  subst hx
  exact ⟨h, h1⟩
theorem Wide.len {k : Nat} {rs : List (List Value)} (h : Wide k rs) : rs.flatten.length = rs.length * k := by
  induction rs with
  | nil => simp
  | cons r rs ih => rw [List.flatten_cons, List.length_append, ih h.tail, (h r (by simp)).1, List.length_cons, Nat.succ_mul, Nat.add_comm]
theorem Wide.get {k : Nat} {rs : List (List Value)} (h : Wide k rs) {i j : Nat} (hi : i < rs.length) (hj : j < k) : rs.flatten[i * k + j]? = rs[i][j]? := by
  induction rs generalizing i with
  | nil => simp at hi
  | cons r rs ih =>
    have hr := (h r (by simp)).1
    rw [List.flatten_cons]
    match i with
    | 0 => rw [List.getElem?_append_left (by omega)]; simp
    | i + 1 =>
      rw [List.getElem?_append_right (by rw [hr, Nat.succ_mul]; omega), hr, show (i + 1) * k + j - k = i * k + j from by rw [Nat.succ_mul]; omega, ih h.tail (by simpa using hi)]
      simp
theorem Wide.take_flatten {k : Nat} {rs : List (List Value)} (h : Wide k rs) (n : Nat) : rs.flatten.take (n * k) = (rs.take n).flatten := by
  induction rs generalizing n with
  | nil => simp
  | cons r rs ih =>
    have hr := (h r (by simp)).1
    match n with
    | 0 => simp
    | n + 1 => rw [List.flatten_cons, List.take_succ_cons, List.flatten_cons, List.take_append, hr, Nat.succ_mul, Nat.add_sub_cancel, ih h.tail, List.take_of_length_le (by omega)]
theorem Wide.drop_flatten {k : Nat} {rs : List (List Value)} (h : Wide k rs) (n : Nat) : rs.flatten.drop (n * k) = (rs.drop n).flatten := by
  induction rs generalizing n with
  | nil => simp
  | cons r rs ih =>
    have hr := (h r (by simp)).1
    match n with
    | 0 => simp
    | n + 1 => rw [List.flatten_cons, List.drop_succ_cons, List.drop_append, hr, Nat.succ_mul, Nat.add_sub_cancel, ih h.tail, List.drop_eq_nil_of_le (by omega), List.nil_append]
theorem Wide.cells {k : Nat} {rs : List (List Value)} (h : Wide k rs) : ∀ u ∈ rs.flatten, u.oneCell' = true := fun u hu => by
  obtain ⟨r, hr, hm⟩ := List.mem_flatten.1 hu
  exact (h r hr).2 u hm

/-- The slice value v holds just the rows rs, in a block of the call's own (from base on), or is nil. -/
structure OwnR (w : World) (base : Nat) (e : TypeId) (k : Nat) (v : Value) (rs : List (List Value)) : Prop where
  row : w.ownsRow base e k v rs.length rs.flatten
  wide : Wide k rs

theorem OwnR.nil (w : World) (base : Nat) (e : TypeId) (k : Nat) : OwnR w base e k (.slice none 0 0) [] := ⟨⟨by simp, .inl ⟨rfl, rfl⟩⟩, Wide.nil k⟩
theorem OwnR.lt {w : World} {base : Nat} {e : TypeId} {k : Nat} {v : Value} {rs : List (List Value)} (h : OwnR w base e k v rs) : ∀ g, v.ownBlock = some g → base ≤ g ∧ g < w.heap.size := World.ownsRow.lt h.row
theorem OwnR.keep {w w' : World} {base : Nat} {e : TypeId} {k : Nat} {v : Value} {rs : List (List Value)} (h : OwnR w base e k v rs) (hk : ∀ g, v.ownBlock = some g → w'.heap[g]? = w.heap[g]?) : OwnR w' base e k v rs := by
  refine ⟨⟨h.row.1, ?_⟩, h.wide⟩
  rcases h.row.2 with h2 | ⟨g, cap, cur, hv, hg, hh, r⟩
  · exact .inl h2
  · exact .inr ⟨g, cap, cur, hv, hg, by rw [hk g (by rw [hv]; rfl)]; exact hh, r⟩
theorem OwnR.below {w w' : World} {base : Nat} {e : TypeId} {k : Nat} {v : Value} {rs : List (List Value)} (h : OwnR w base e k v rs) (hb : Below w.heap.size w w') : OwnR w' base e k v rs :=
  h.keep fun g hg => hb.block g (h.lt g hg).2
theorem OwnR.from_ {w : World} {base base' : Nat} {e : TypeId} {k : Nat} {v : Value} {rs : List (List Value)} (h : OwnR w base e k v rs) (hb : base' ≤ base) : OwnR w base' e k v rs := by
  refine ⟨⟨h.row.1, ?_⟩, h.wide⟩
  rcases h.row.2 with h2 | ⟨g, cap, cur, hv, hg, r⟩
  · exact .inl h2
  · exact .inr ⟨g, cap, cur, hv, by omega, r⟩
/-- The block of the rows is of their type. -/
theorem OwnR.typed {w : World} {base : Nat} {e : TypeId} {k : Nat} {v : Value} {rs : List (List Value)} (h : OwnR w base e k v rs) : ∀ g, v.ownBlock = some g → ∃ cur, w.heap[g]? = some (.cells cur e (0, 0)) := by
  intro g hg
  rcases h.row.2 with ⟨hv, _⟩ | ⟨g', cap, cur, hv, _, hh, _⟩
  · rw [hv] at hg; cases hg
  · rw [hv] at hg; cases hg; exact ⟨cur, hh⟩

/-- The slice that begins at A reads as the rows rs, each k cells, which may be written. -/
def HasR (w : World) (A : Option Addr) (k : Nat) (rs : List (List Value)) : Prop :=
  ∀ i (h : i < rs.length), ∃ g, A = some ⟨g, 0, none⟩ ∧ w.rangeAt g (i * k) rs[i] ∧ w.there g (i * k) k ∧ g < w.heap.size

theorem OwnR.form {w : World} {base : Nat} {e : TypeId} {k : Nat} {v : Value} {rs : List (List Value)} (h : OwnR w base e k v rs) : ∃ A n c, v = .slice A n c ∧ Hid (rs.length = n) ∧ n ≤ c ∧ c ≤ maxLen ∧ HasR w A k rs ∧ (A = none → n = 0) ∧ ∀ a, A = some a → ∃ g, a = ⟨g, 0, none⟩ ∧ base ≤ g ∧ g < w.heap.size := by
  rcases h.row.2 with ⟨hv, hn⟩ | ⟨g, cap, cur, hv, hg, hh, hnc, hm, hcs, ht⟩
  · have hx : rs = [] := List.eq_nil_of_length_eq_zero hn
    subst hx
    exact ⟨none, 0, 0, hv, rfl, Nat.le_refl _, by unfold maxLen; omega, fun i hi => absurd hi (by simp), fun _ => rfl, fun a ha => by cases ha⟩
  · refine ⟨some ⟨g, 0, none⟩, rs.length, cap, hv, rfl, hnc, hm, fun i hi => ⟨g, rfl, fun j u hu => ?_, fun j hj => ?_, lt_of_block hh⟩, (fun h => by cases h), (fun a ha => by cases ha; exact ⟨g, rfl, hg, lt_of_block hh⟩)⟩
    · have hj : j < k := by
        have := (List.getElem?_eq_some_iff.1 hu).1
        rwa [(h.wide _ (List.getElem_mem hi)).1] at this
      have h1 : i * k + j < rs.length * k := by
        have : (i + 1) * k ≤ rs.length * k := Nat.mul_le_mul_right k hi
        rw [Nat.succ_mul] at this
        omega
      have h2 : (cur.toList.take (rs.length * k))[i * k + j]? = some u := by rw [ht, h.wide.get hi hj, hu]
      rw [List.getElem?_take_of_lt h1] at h2
      simp only [World.cell?, hh]
      simpa using h2
    · have h1 : i * k + j < cur.size := by
        have : (i + 1) * k ≤ rs.length * k := Nat.mul_le_mul_right k hi
        have h3 : rs.length * k ≤ cap * k := Nat.mul_le_mul_right k hnc
        rw [Nat.succ_mul] at this
        omega
      refine ⟨?_, ?_⟩
      · simp only [World.cell?, hh]
        simp [h1]
      · simp [World.frozen?, hh]

/-- Behind stores into one block. -/
theorem setCells_block {e : TypeId} (g : Nat) : ∀ (vs : List Value) (o : Nat) (w : World) (cur : Array Value), w.heap[g]? = some (.cells cur e (0, 0)) → o + vs.length ≤ cur.size →
    ∃ cur' : Array Value, (w.setCells g o vs).heap[g]? = some (.cells cur' e (0, 0)) ∧ cur'.toList = cur.toList.take o ++ vs ++ cur.toList.drop (o + vs.length)
  | [], o, w, cur, h, _ => ⟨cur, h, by simp⟩
  | v :: r, o, w, cur, h, hl => by
    simp only [List.length_cons] at hl
    obtain ⟨cur', h1, h2⟩ := setCells_block g r (o + 1) (w.setCell ⟨g, o, none⟩ v) (cur.setIfInBounds o v) (heap_setCell_same w g o cur e v h) (by simp; omega)
    refine ⟨cur', h1, ?_⟩
    rw [h2, Array.toList_setIfInBounds, List.length_cons]
    apply List.ext_getElem?
    intro i
    simp only [List.getElem?_append, List.length_append, List.length_take, List.length_set, List.getElem?_take, List.getElem?_drop, List.length_cons, List.getElem?_set, Array.length_toList]
    have e1 : min (o + 1) cur.size = o + 1 := by omega
    have e2 : min o cur.size = o := by omega
    rw [e1, e2]
    by_cases c1 : i < o
    · simp [c1, show i < o + 1 + r.length from by omega, show i < o + (r.length + 1) from by omega, show i < o + 1 from by omega, show ¬ o = i from by omega]
    · by_cases c2 : i = o
      · subst c2
        simp [show i < i + 1 + r.length from by omega, show i < cur.size from by omega]
      · by_cases c3 : i < o + 1 + r.length
        · have e3 : i - o = (i - (o + 1)) + 1 := by omega
          simp [c1, c3, show i < o + (r.length + 1) from by omega, show ¬ i < o + 1 from by omega, e3]
        · have e4 : o + 1 + r.length + (i - (o + 1 + r.length)) = i := by omega
          have e5 : o + (r.length + 1) + (i - (o + (r.length + 1))) = i := by omega
          simp [c3, show ¬ i < o + (r.length + 1) from by omega, e4, e5, show ¬ o = i from by omega]
theorem setCells_other (g : Nat) : ∀ (vs : List Value) (o : Nat) (w : World) (j : Nat), j ≠ g → (w.setCells g o vs).heap[j]? = w.heap[j]?
  | [], _, _, _, _ => rfl
  | v :: r, o, w, j, h => by rw [World.setCells, setCells_other g r _ _ j h, Below.heap_setCell _ _ _ _ h]
theorem setCells_size (g : Nat) : ∀ (vs : List Value) (o : Nat) (w : World), (w.setCells g o vs).heap.size = w.heap.size
  | [], _, _ => rfl
  | v :: r, o, w => by rw [World.setCells, setCells_size g r]; simp [World.setCell]
theorem setCells_rest (g : Nat) : ∀ (vs : List Value) (o : Nat) (w : World), (w.setCells g o vs).os = w.os ∧ (w.setCells g o vs).tape = w.tape ∧ (w.setCells g o vs).output = w.output
  | [], _, _ => ⟨rfl, rfl, rfl⟩
  | v :: r, o, w => by rw [World.setCells]; exact setCells_rest g r _ _
theorem Kept.setCells {F : Nat → Prop} {w w' : World} (h : Kept F w w') {g : Nat} (hp : F g ∨ w.heap.size ≤ g) (o : Nat) (vs : List Value) : Kept F w (w'.setCells g o vs) :=
  ⟨(setCells_rest g vs o w').1.trans h.os, (setCells_rest g vs o w').2.1.trans h.tape, (setCells_rest g vs o w').2.2.trans h.output, by rw [setCells_size]; exact h.size, fun k hk hn => (setCells_other g vs o w' k (by
    rintro rfl
    rcases hp with hp | hp
    · exact hn hp
    · omega)).trans (h.block k hk hn)⟩

/-- Rows laid into the middle. -/
theorem OwnR.put {w : World} {base : Nat} {e : TypeId} {k g n c : Nat} {rs : List (List Value)} (h : OwnR w base e k (.slice (some ⟨g, 0, none⟩) n c) rs) (i : Nat) (news : List (List Value)) (hw : Wide k news) (hi : i + news.length ≤ rs.length) :
    OwnR (w.setCells g (i * k) news.flatten) base e k (.slice (some ⟨g, 0, none⟩) n c) (rs.take i ++ news ++ rs.drop (i + news.length)) := by
  obtain ⟨g', cap, cur, hv, hg, hh, hnc, hm, hcs, ht⟩ : ∃ g' cap cur, (.slice (some ⟨g, 0, none⟩) n c : Value) = .slice (some ⟨g', 0, none⟩) rs.length cap ∧ base ≤ g' ∧ w.heap[g']? = some (.cells cur e (0, 0)) ∧ rs.length ≤ cap ∧ cap ≤ maxLen ∧ cur.size = cap * k ∧ cur.toList.take (rs.length * k) = rs.flatten := by
    rcases h.row.2 with ⟨hv, _⟩ | h2
    · cases hv
    · exact h2
  have hl : (rs.take i ++ news ++ rs.drop (i + news.length)).length = rs.length := by simp; omega
  have hle : (i + news.length) * k ≤ rs.length * k := Nat.mul_le_mul_right k hi
  have hle2 : rs.length * k ≤ cap * k := Nat.mul_le_mul_right k hnc
  have hnl := hw.len
  rw [Nat.add_mul] at hle
  injection hv with ha hn' hc'
  injection ha with ha'
  injection ha' with ha''
  subst ha'' hn' hc'
  obtain ⟨cur', h1, h2⟩ := setCells_block g news.flatten (i * k) w cur hh (by rw [hnl]; omega)
  have hwide : Wide k (rs.take i ++ news ++ rs.drop (i + news.length)) := ((h.wide.take i).append hw).append (h.wide.drop _)
  refine ⟨⟨hwide.len, .inr ⟨g, c, cur', by rw [hl], hg, h1, by rw [hl]; exact hnc, hm, ?_, ?_⟩⟩, hwide⟩
  · have := congrArg List.length h2
    simp only [Array.length_toList, List.length_append, List.length_take, List.length_drop] at this
    omega
  · rw [hl, h2, List.take_append, List.take_append]
    have e1 : (cur.toList.take (i * k)).take (rs.length * k) = (rs.take i).flatten := by
      rw [← h.wide.take_flatten, ← ht, List.take_take, List.take_take]
      congr 1
      omega
    have e2 : (cur.toList.take (i * k)).length = i * k := by simp; omega
    have e3 : (cur.toList.drop (i * k + news.flatten.length)).take (rs.length * k - (i * k + news.flatten.length)) = (rs.drop (i + news.length)).flatten := by
      rw [← h.wide.drop_flatten, ← ht, hnl, List.drop_take, Nat.add_mul]
    rw [e1, List.length_append, e2, List.take_of_length_le (l := news.flatten) (by rw [hnl]; omega), e3]
    simp
/-- The first rows alone. -/
theorem OwnR.cut {w : World} {base : Nat} {e : TypeId} {k g n c : Nat} {rs : List (List Value)} (h : OwnR w base e k (.slice (some ⟨g, 0, none⟩) n c) rs) (i : Nat) (hi : i ≤ rs.length) :
    OwnR w base e k (.slice (some ⟨g, 0, none⟩) i c) (rs.take i) := by
  obtain ⟨g', cap, cur, hv, hg, hh, hnc, hm, hcs, ht⟩ : ∃ g' cap cur, (.slice (some ⟨g, 0, none⟩) n c : Value) = .slice (some ⟨g', 0, none⟩) rs.length cap ∧ base ≤ g' ∧ w.heap[g']? = some (.cells cur e (0, 0)) ∧ rs.length ≤ cap ∧ cap ≤ maxLen ∧ cur.size = cap * k ∧ cur.toList.take (rs.length * k) = rs.flatten := by
    rcases h.row.2 with ⟨hv, _⟩ | h2
    · cases hv
    · exact h2
  injection hv with ha hn' hc'
  injection ha with ha'
  injection ha' with ha''
  subst ha'' hn' hc'
  have hl : (rs.take i).length = i := by simp; omega
  have hle : i * k ≤ rs.length * k := Nat.mul_le_mul_right k hi
  refine ⟨⟨(h.wide.take i).len, .inr ⟨g, c, cur, by rw [hl], hg, hh, by rw [hl]; omega, hm, hcs, ?_⟩⟩, h.wide.take i⟩
  rw [hl, ← h.wide.take_flatten, ← ht, List.take_take]
  congr 1
  omega

/-- clear of rows. -/
theorem run_clear_rows {e t : TypeId} {k b : Nat} {z : Value} (T : RowT e t k b z) (w : World) (ty : TypeId) (g o n c : Nat) (h1 : ∀ u ∈ z.cells, u.oneCell' = true) (ht : w.there g o (n * k)) (hz : ∀ w, (zeroValue e).run Try.prog w = .ok z w) :
    (Builtin.clear_ #[t] ty #[.slice (some ⟨g, o, none⟩) n c]).run Try.prog w = .ok (.tuple #[]) (w.setCells g o (List.replicate n z.cells.toList).flatten) := by
  have hzc : (Builtin.zeroCells z.cells n).toList = (List.replicate n z.cells.toList).flatten := by
    have hw : Wide k (List.replicate n z.cells.toList) := fun r hr => by
      rw [List.eq_of_mem_replicate hr]
      exact ⟨by simpa using T.zs, fun u hu => h1 u (by simpa using hu)⟩
    apply List.ext_getElem?
    intro i
    rcases Nat.lt_or_ge i (n * k) with hi | hi
    · have hk := T.pos
      have hd : i / k < n := by rw [Nat.div_lt_iff_lt_mul hk]; exact hi
      have hm : i % k < k := Nat.mod_lt _ hk
      have e1 : i = i / k * k + i % k := by rw [Nat.mul_comm]; exact (Nat.div_add_mod i k).symm
      have h2 := hw.get (i := i / k) (j := i % k) (by simpa using hd) hm
      rw [← e1] at h2
      rw [h2]
      simp [Builtin.zeroCells, T.zs, hi, hm]
    · rw [List.getElem?_eq_none (by simp [Builtin.zeroCells, T.zs]; omega), List.getElem?_eq_none (by rw [hw.len]; simpa using hi)]
  have hall : ∀ u ∈ (List.replicate n z.cells.toList).flatten, u.oneCell' = true := fun u hu => by
    obtain ⟨r, hr, hm⟩ := List.mem_flatten.1 hu
    rw [List.eq_of_mem_replicate hr] at hm
    exact h1 u (by simpa using hm)
  have hlen : (List.replicate n z.cells.toList).flatten.length = n * k := by rw [← hzc]; simp [Builtin.zeroCells, T.zs]
  have hst := run_storeCells_cells (P := Try.prog) g o (List.replicate n z.cells.toList).flatten 0 w (fun j hj => by simpa using (ht j (by omega)).1) (fun j hj => by simpa using (ht j (by omega)).2) hall
  simp only [Nat.add_zero] at hst
  cases n with
  | zero => simp [Builtin.clear_, run_underlying T.und, World.setCells]
  | succ m => simp [Builtin.clear_, run_underlying T.und, hz, hzc, hst]

/-- Rows laid behind those that are there. -/
theorem run_append_rows {e t : TypeId} {k b : Nat} {z : Value} (T : RowT e t k b z) (w : World) (ty base : Nat) (v : Value) (rs : List (List Value)) (hown : OwnR w base e k v rs) (ad : Addr) (m c : Nat) (news : List (List Value)) (hw : Wide k news) (hm : news.length = m)
    (hr : ∀ j u, news.flatten[j]? = some u → w.cell? (ad.add j) = some u) (h63 : rs.length + m ≤ maxLen) (hby : (rs.length + m) * b ≤ 140737488355328) (hbase : base ≤ w.heap.size) :
    ∃ v' w', (Builtin.append_ #[t, t] ty #[v, .slice (some ad) m c]).run Try.prog w = .ok v' w' ∧ OwnR w' base e k v' (rs ++ news) ∧ w.grownBy w' v.ownBlock ∧ (v'.ownBlock = v.ownBlock ∨ v'.ownBlock = some w.heap.size) := by
  obtain ⟨i0, hi0, hz0, hz1, hz2⟩ := infoR T.info
  subst hm
  obtain ⟨v', w', hrun, h2, h3, _, h5⟩ := run_append_own_at (P := Try.prog) w base t ty e i0 _ k b T.und hi0 hz0 hz1 hz2 T.zs T.pos v rs.length rs.flatten hown.row ad news.length c news.flatten hw.len hr hw.cells h63 hby hbase
  exact ⟨v', w', hrun, ⟨by rw [List.length_append, List.flatten_append]; exact h2, hown.wide.append hw⟩, h3, h5⟩
/-- One row, out of a block just made. -/
theorem one_row {w : World} {g : Nat} {cs : Array Value} {t : TypeId} (h : w.heap[g]? = some (.cells cs t (0, 0))) : ∀ j u, ([cs.toList] : List (List Value)).flatten[j]? = some u → w.cell? ((⟨g, 0, none⟩ : Addr).add j) = some u := by
  intro j u hu
  rw [Addr.add_mid, Nat.zero_add, cell_of_row _ _ _ _ _ _ h]
  simpa using hu
theorem step_append_rows {e t : TypeId} {k b : Nat} {z : Value} (T : RowT e t k b z) {ops : Array Oper} {o : Oper} {a : Act} {K : Act → World → Prop} {Q : Exit → Act → World → Prop} {E : Prop} (w : World) (hgd : o.guard = none) (s x : Operand)
    (ho : o.op = .call { callee := .builtin .append, args := #[s, x], argTypes := #[t, t] }) (base : Nat) (v : Value) (rs : List (List Value)) (hs : a.eval s = v) (hown : OwnR w base e k v rs)
    (ad : Addr) (m c : Nat) (news : List (List Value)) (hx : a.eval x = .slice (some ad) m c) (hw : Wide k news) (hm : news.length = m) (hr : ∀ j u, news.flatten[j]? = some u → w.cell? (ad.add j) = some u)
    (h63 : rs.length + m ≤ maxLen) (hby : (rs.length + m) * b ≤ 140737488355328) (hbase : base ≤ w.heap.size)
    (h : ∀ v' w', OwnR w' base e k v' (rs ++ news) → w.grownBy w' v.ownBlock → (v'.ownBlock = v.ownBlock ∨ v'.ownBlock = some w.heap.size) → K (a.put o.dst v') w') :
    if Region.wanted o (yielded ops a.tmps) = true then Oper.wp Try.prog o a w K Q else E := by
  rw [if_pos (by simp [Region.wanted, hgd])]
  obtain ⟨v', w', hrun, h2, h3, h4⟩ := run_append_rows T w o.type base v rs hown ad m c news hw hm hr h63 hby hbase
  exact Lib.wp_append_run w s x t t ho _ _ hs hx v' w' hrun (h v' w' h2 h3 h4)
theorem list_append_rows {e t : TypeId} {k b : Nat} {z : Value} (T : RowT e t k b z) {ops : Array Oper} {rest : List Oper} {o : Oper} {a : Act} {Q : Exit → Act → World → Prop} (w : World) (hw' : Region.wanted o (yielded ops a.tmps) = true) (s x : Operand)
    (ho : o.op = .call { callee := .builtin .append, args := #[s, x], argTypes := #[t, t] }) (base : Nat) (v : Value) (rs : List (List Value)) (hs : a.eval s = v) (hown : OwnR w base e k v rs)
    (ad : Addr) (m c : Nat) (news : List (List Value)) (hx : a.eval x = .slice (some ad) m c) (hw : Wide k news) (hm : news.length = m) (hr : ∀ j u, news.flatten[j]? = some u → w.cell? (ad.add j) = some u)
    (h63 : rs.length + m ≤ maxLen) (hby : (rs.length + m) * b ≤ 140737488355328) (hbase : base ≤ w.heap.size)
    (h : ∀ v' w', OwnR w' base e k v' (rs ++ news) → w.grownBy w' v.ownBlock → (v'.ownBlock = v.ownBlock ∨ v'.ownBlock = some w.heap.size) → wpList Try.prog ops Q rest (a.put o.dst v') w') :
    wpList Try.prog ops Q (o :: rest) a w :=
  wpList_step fun _ hK => by
    rw [if_pos hw']
    obtain ⟨v', w', hrun, h2, h3, h4⟩ := run_append_rows T w o.type base v rs hown ad m c news hw hm hr h63 hby hbase
    exact Lib.wp_append_run w s x t t ho _ _ hs hx v' w' hrun (hK _ _ (h v' w' h2 h3 h4))
end Go.Proofs.Ytnngmapphacpkaa

namespace Go.Proofs.Ytnngmapphacpkaa
open Go.RowKit

/-- A step: its kind, a node, a vote (slot, ballot, value), a number. -/
structure Eop where
  K : Int
  Nd : Int
  S : Int
  R : Int
  Bn : Int
  vk : Int
  A : Option Addr
  n : Nat
  c : Nat
  D : Option Addr
  m : Nat
  d : Nat
  N : Int
  cs : List Cmdv
  ns : List Int
def Eop.cells (q : Eop) : List Value := [.int .i64 q.K, .int .i64 q.Nd, .int .i64 q.S, .int .i64 q.R, .int .i64 q.Bn, .int .i64 q.vk, .slice q.A q.n q.c, .slice q.D q.m q.d, .int .i64 q.N]
def Eop.row (q : Eop) : List Value := [.int .i64 q.S, .int .i64 q.R, .int .i64 q.Bn, .int .i64 q.vk, .slice q.A q.n q.c, .slice q.D q.m q.d]
def Eop.v (q : Eop) : Vl := ⟨q.vk, q.cs, q.ns⟩
/-- A slice of steps. -/
structure HasE (w : World) (B : Nat) (a : Option Addr) (ts : List Eop) : Prop where
  at_ : ∀ k (h : k < ts.length), ∃ b o, a = some ⟨b, o, none⟩ ∧ b < B ∧ ∀ (i : Nat) (u : Value), ts[k].cells[i]? = some u → w.cell? ⟨b, o + k * 9 + i, none⟩ = some u
  val : ∀ q ∈ ts, IsV w B q.A q.n q.D q.m q.cs q.ns ∧ (Lit.int .i64 q.S).wf = true ∧ (Lit.int .i64 q.N).wf = true
theorem HasE.below {w w' : World} {B : Nat} {a : Option Addr} {ts : List Eop} (h : HasE w B a ts) (hb : Below B w w') : HasE w' B a ts := by
  refine ⟨fun k hk => ?_, fun q hq => ?_⟩
  · obtain ⟨b, o, e, h1, h2⟩ := h.at_ k hk
    exact ⟨b, o, e, h1, fun i u hu => (World.cell?_of_block (w := w) (a := ⟨b, o + k * 9 + i, none⟩) (hb.block b h1)).trans (h2 i u hu)⟩
  · obtain ⟨h1, h2⟩ := h.val q hq
    exact ⟨h1.below hb, h2⟩
end Go.Proofs.Ytnngmapphacpkaa

namespace Go.Proofs.Ytnngmapphacpkaa
open Go.RowKit

theorem rowV : RowT 42 26 6 80 (.agg #[.int .i64 0, .int .i64 0, .int .i64 0, .int .i64 0, .slice none 0 0, .slice none 0 0]) := ⟨Try.underlying26, by kernel_rfl, rfl, by omega⟩
theorem OwnR.emptyE (w : World) (g base : Nat) (e : TypeId) (k : Nat) (hg : g = w.heap.size) (hb : base ≤ g) : OwnR (w.alloc (.cells #[] e)) base e k (.slice (some ⟨g, 0, none⟩) 0 0) [] := by
  subst hg
  refine ⟨⟨by simp, .inr ⟨w.heap.size, 0, #[], rfl, hb, heap_alloc_new w _, by simp, by unfold maxLen; omega, by simp, by simp⟩⟩, Wide.nil k⟩
theorem Eop.row_wide (q : Eop) : Wide 6 [q.row] := Wide.one rfl (fun u hu => by
  unfold Eop.row at hu
  simp at hu
  rcases hu with rfl | rfl | rfl | rfl | rfl | rfl <;> rfl)
/-- What a script's step does to a learner: Told, Voted, or nothing. -/
def ostep (l : Lv) (q : Eop) : Lv × Bool := if q.K = 1 then l.told q.S q.v else if q.K = 0 then l.voted q.Nd ⟨q.S, q.R, q.Bn, q.v⟩ else (l, false)
/-- It decides its own slot, or nothing. -/
def Did (l l' : Lv) (hit : Bool) (s : Int) (x : Vl) : Prop :=
  l'.next = l.next ∧ (hit = true → l.D s = none ∧ l'.D = fun y => if y = s then some x else l.D y) ∧ (hit = false → l'.D = l.D)
theorem Lv.told_did (l : Lv) (s : Int) (x : Vl) : Did l (l.told s x).1 (l.told s x).2 s x := by
  unfold Lv.told
  split
  · rename_i h
    exact ⟨rfl, fun _ => ⟨(Lv.opn_iff h.1).2, rfl⟩, fun h => by cases h⟩
  · exact ⟨rfl, fun h => (by cases h), fun _ => rfl⟩
theorem Lv.voted_did (l : Lv) (q : Int) (y : Vt) : Did l (l.voted q y).1 (l.voted q y).2 y.s y.v := by
  unfold Lv.voted
  split
  · rename_i h
    obtain ⟨_, k2, k3, _⟩ := Lv.kept_same (l.hrd y.s) q y
    unfold Lv.vote2
    split
    · refine ⟨k2, fun _ => ⟨(Lv.opn_iff h.1).2, ?_⟩, fun h => by cases h⟩
      show (fun z => if z = y.s then some y.v else ((l.hrd y.s).kept q y).1.D z) = _
      rw [k3]
      rfl
    · exact ⟨k2, fun h => (by cases h), fun _ => k3⟩
  · exact ⟨rfl, fun h => (by cases h), fun _ => rfl⟩
theorem ostep_did (l : Lv) (q : Eop) : Did l (ostep l q).1 (ostep l q).2 q.S q.v := by
  unfold ostep
  split
  · exact l.told_did q.S q.v
  · split
    · exact l.voted_did q.Nd ⟨q.S, q.R, q.Bn, q.v⟩
    · exact ⟨rfl, fun h => (by cases h), fun _ => rfl⟩
theorem nine_cells {w : World} {p : Nat} {a b c d e f g h i : Value} {t : TypeId} (hp : w.heap[p]? = some (.cells #[a, b, c, d, e, f, g, h, i] t (0, 0))) : (w.cell? ⟨p, 0, none⟩ = some a ∧ w.cell? ⟨p, 1, none⟩ = some b ∧ w.cell? ⟨p, 2, none⟩ = some c) ∧ (w.cell? ⟨p, 3, none⟩ = some d ∧ w.cell? ⟨p, 4, none⟩ = some e ∧ w.cell? ⟨p, 5, none⟩ = some f) ∧ (w.cell? ⟨p, 6, none⟩ = some g ∧ w.cell? ⟨p, 7, none⟩ = some h ∧ w.cell? ⟨p, 8, none⟩ = some i) :=
  ⟨⟨(row_cells hp 0).1, (row_cells hp 1).1, (row_cells hp 2).1⟩, ⟨(row_cells hp 3).1, (row_cells hp 4).1, (row_cells hp 5).1⟩, (row_cells hp 6).1, (row_cells hp 7).1, (row_cells hp 8).1⟩
def EopBox (q : Eop) (pb : Nat) (w : World) : Prop := w.heap[pb]? = some (.cells #[.int .i64 q.K, .int .i64 q.Nd, .int .i64 q.S, .int .i64 q.R, .int .i64 q.Bn, .int .i64 q.vk, .slice q.A q.n q.c, .slice q.D q.m q.d, .int .i64 q.N] 50 (0, 0))
/-- What a step leaves. -/
structure EStep (w : World) (F : Nat → Prop) (g : Nat) (l2 : Lv) (F' : Nat → Prop) (wx : World) : Prop where
  el : EL wx F' g l2
  kept : Kept F w wx
  sub : ∀ j, F' j → F j ∨ w.heap.size ≤ j
def CopyE (q : Eop) (W : World) (e : Ending) (W' : World) : Prop :=
  ∃ A' c' D' d', e = .returned (.agg #[.int .i64 q.vk, .slice A' q.n c', .slice D' q.m d']) ∧ OwnC W' W.heap.size (.slice A' q.n c') q.cs ∧ OwnI W' W.heap.size (.slice D' q.m d') q.ns ∧ Below W.heap.size W W'
section
variable {w : World} {F : Nat → Prop} {g : Nat} {l : Lv} {q : Eop}
theorem estep_copy (hv : IsV w w.heap.size q.A q.n q.D q.m q.cs q.ns) : Calls Try.prog 25 #[.agg #[.int .i64 q.vk, .slice q.A q.n q.c, .slice q.D q.m q.d]] w (CopyE q w) := by
  refine (rvcopy_any q.vk q.A q.D q.n q.c q.m q.d w.heap.size q.cs q.ns w hv.c hv.i (Nat.le_refl _) hv.en hv.em (by have := hv.ln; omega) (by have := hv.lm; omega)).mono ?_
  rintro e W ⟨A', c', D', d', rfl, ho, hi, hb⟩
  obtain ⟨_, _, _, e1, _⟩ := ho.form
  obtain ⟨_, _, _, e2, _⟩ := hi.form
  cases e1
  cases e2
  exact ⟨A', c', D', d', rfl, ho, hi, hb⟩
theorem estep_told (h : EL w F g l) (hS : (Lit.int .i64 q.S).wf = true) (hm : q.m ≤ 17592186043904) {W : World} {A' D' : Option Addr} {c' d' : Nat} (ho : OwnC W w.heap.size (.slice A' q.n c') q.cs) (hi : OwnI W w.heap.size (.slice D' q.m d') q.ns) (hb : Below w.heap.size w W) :
    Calls Try.prog 14 #[.pointer (some ⟨g, 0, none⟩), .int .i64 q.S, .agg #[.int .i64 q.vk, .slice A' q.n c', .slice D' q.m d']] W fun e W' => e = .returned (.bool (l.told q.S q.v).2) ∧ ∃ F', EStep w F g (l.told q.S q.v).1 F' W' := by
  refine (el_told (h.below hb) q.S hS q.v A' q.n c' D' q.m d' (ArgV.of_own ho hi (Below.refl _ _) h.lt (by omega))).mono ?_
  rintro e W' ⟨rfl, F', h1, h2, h3⟩
  exact ⟨rfl, F', h1, (Kept.of_below (F := F) hb).step h2 (fun j hj => .inl hj), fun j hj => (h3 j hj).imp id (fun e => by have := hb.size; omega)⟩
theorem estep_voted (h : EL w F g l) (hS : (Lit.int .i64 q.S).wf = true) (hm : q.m ≤ 17592186043904) {W : World} {A' D' : Option Addr} {c' d' : Nat} (ho : OwnC W w.heap.size (.slice A' q.n c') q.cs) (hi : OwnI W w.heap.size (.slice D' q.m d') q.ns) (hb : Below w.heap.size w W) :
    Calls Try.prog 12 #[.pointer (some ⟨g, 0, none⟩), .int .i64 q.Nd, .agg #[.int .i64 q.S, .int .i64 q.R, .int .i64 q.Bn, .int .i64 q.vk, .slice A' q.n c', .slice D' q.m d']] W fun e W' => e = .returned (.bool (l.voted q.Nd ⟨q.S, q.R, q.Bn, q.v⟩).2) ∧ ∃ F', EStep w F g (l.voted q.Nd ⟨q.S, q.R, q.Bn, q.v⟩).1 F' W' := by
  refine (el_voted (h.below hb) q.Nd q.S q.R q.Bn hS q.v A' q.n c' D' q.m d' (ArgV.of_own ho hi (Below.refl _ _) h.lt (by omega))).mono ?_
  rintro e W' ⟨rfl, F', h1, h2, h3⟩
  exact ⟨rfl, F', h1, (Kept.of_below (F := F) hb).step h2 (fun j hj => .inl hj), fun j hj => (h3 j hj).imp id (fun e => by have := hb.size; omega)⟩
end
end Go.Proofs.Ytnngmapphacpkaa

namespace Go.Proofs.Ytnngmapphacpkaa
open Go.ChangeShapes Go.WideShapes Go.ChangeAt Go.RowKit

theorem cells_vote6 : Try.prog.cellsOf 42 = 6 := by kernel_rfl
theorem cells_bal2 : Try.prog.cellsOf 40 = 2 := by kernel_rfl
theorem cells_intE : Try.prog.cellsOf 3 = 1 := by kernel_rfl
theorem cells_eop9 : Try.prog.cellsOf 50 = 9 := by kernel_rfl
theorem bytesOf_eop : Try.prog.bytesOf 50 = 104 := by kernel_rfl
instance : Inhabited Eop := ⟨⟨0, 0, 0, 0, 0, 0, none, 0, 0, none, 0, 0, 0, [], []⟩⟩
section
variable {H : Type} {enc : TypeId × Value → H} {W : World}
set_option maxRecDepth 20000 in
theorem eop_value {fuel : Nat} {cs : List Value} {x : DataW H × List MemPlace} (hl : cs.length = 9) (h : DataW.trod enc Try.prog W 0 (fun _ => true) true fuel 50 cs = some x) (hw : Light 50 x.1) :
    ∃ q : Eop, cs = q.cells ∧ IsV W W.heap.size q.A q.n q.D q.m q.cs q.ns ∧ (Lit.int .i64 q.S).wf = true ∧ (Lit.int .i64 q.N).wf = true := by
  obtain ⟨ys, n', _, hx, _, hyl, hf⟩ := DataW.trod_struct Try.underlying50 h
  match cs, hl with
  | [v0, v1, v2, v3, v4, v5, v6, v7, v8], _ =>
    match ys, hyl with
    | [y0, y1, y2, y3], _ =>
      have h0 : DataW.trod enc Try.prog W 0 (fun _ => true) true n' 3 [v0] = some y0 := by simpa [cells_intE] using hf 0 _ rfl
      have h1 : DataW.trod enc Try.prog W 0 (fun _ => true) true n' 3 [v1] = some y1 := by simpa [cells_intE] using hf 1 _ rfl
      have h2 : DataW.trod enc Try.prog W 0 (fun _ => true) true n' 42 [v2, v3, v4, v5, v6, v7] = some y2 := by simpa [cells_vote6] using hf 2 _ rfl
      have h3 : DataW.trod enc Try.prog W 0 (fun _ => true) true n' 3 [v8] = some y3 := by simpa [cells_intE] using hf 3 _ rfl
      subst hx
      have hw2 : Light 42 y2.1 := hw.field Try.underlying50 (j := 2) rfl rfl
      obtain ⟨zs, n'', _, hx2, _, hzl, hg⟩ := DataW.trod_struct Try.underlying42 h2
      match zs, hzl with
      | [z0, z1, z2], _ =>
        have g0 : DataW.trod enc Try.prog W 0 (fun _ => true) true n'' 3 [v2] = some z0 := by simpa [cells_intE] using hg 0 _ rfl
        have g1 : DataW.trod enc Try.prog W 0 (fun _ => true) true n'' 40 [v3, v4] = some z1 := by simpa [cells_bal2] using hg 1 _ rfl
        have g2 : DataW.trod enc Try.prog W 0 (fun _ => true) true n'' 35 [v5, v6, v7] = some z2 := by simpa [cells_val3] using hg 2 _ rfl
        subst hx2
        have hw3 : Light 35 z2.1 := hw2.field Try.underlying42 (j := 2) rfl rfl
        obtain ⟨us, n3, _, hx3, _, hul, hb⟩ := DataW.trod_struct Try.underlying40 g1
        match us, hul with
        | [u0, u1], _ =>
          have b0 : DataW.trod enc Try.prog W 0 (fun _ => true) true n3 3 [v3] = some u0 := by simpa [cells_intE] using hb 0 _ rfl
          have b1 : DataW.trod enc Try.prog W 0 (fun _ => true) true n3 3 [v4] = some u1 := by simpa [cells_intE] using hb 1 _ rfl
          obtain ⟨k0, e0, rfl, _⟩ := DataW.trod_int Try.underlying3 h0
          obtain ⟨k1, e1, rfl, _⟩ := DataW.trod_int Try.underlying3 h1
          obtain ⟨k2, e2, rfl, w2⟩ := DataW.trod_int Try.underlying3 g0
          obtain ⟨k3, e3, rfl, _⟩ := DataW.trod_int Try.underlying3 b0
          obtain ⟨k4, e4, rfl, _⟩ := DataW.trod_int Try.underlying3 b1
          obtain ⟨k5, e5, rfl, w5⟩ := DataW.trod_int Try.underlying3 h3
          obtain ⟨k, A, n, c, D, m, d, ts, xs, ev, _, q1, q2, q3, q4, q5, q6, q7, _⟩ := val_value rfl g2 hw3
          injection e0 with e0
          injection e1 with e1
          injection e2 with e2
          injection e3 with e3
          injection e4 with e4
          injection e5 with e5
          injection ev with a0 ev
          injection ev with a1 ev
          injection ev with a2 _
          subst e0 e1 e2 e3 e4 e5 a0 a1 a2
          exact ⟨⟨k0, k1, k2, k3, k4, k, A, n, c, D, m, d, k5, ts, xs⟩, rfl, ⟨q1, q5, q2, q6, by show n ≤ _; omega, q7, q4⟩, w2, w5⟩
theorem open_eops {a : Option Addr} {len cap : Nat} {d : DataW H} {pl : List MemPlace} (h : DataW.Trod enc Try.prog W 0 (fun _ => true) true 23 (.slice a len cap) d pl) (hw : Light 23 d) :
    ∃ ts, HasE W W.heap.size a ts ∧ ts.length = len ∧ len ≤ 1353245080300 := by
  obtain ⟨fuel, hf⟩ := h
  rcases Go.Deep.open_slice Try.underlying23 hf with ⟨hcs, _⟩ | ⟨x, l, c, m, n, D, Pl, hcs, _, hl, _, hm, hx, hcell⟩
  · simp [Value.cells] at hcs
    obtain ⟨rfl, rfl, rfl⟩ := hcs
    exact ⟨[], ⟨fun i hi => absurd hi (by simp), fun p hp => absurd hp (by simp)⟩, rfl, by simp⟩
  · simp [Value.cells] at hcs
    obtain ⟨rfl, rfl, rfl⟩ := hcs
    simp only [if_true] at hm
    obtain rfl := (Prod.mk.inj hx).1
    have hsz := hw.slice Try.underlying23
    rw [bytesOf_eop] at hsz
    simp [reachBytes] at hsz
    rw [cells_eop9] at hcell
    obtain ⟨F, hF⟩ := Go.Deep.choose_lt (α := Eop) (n := len) (p := fun i q => (∀ j v, q.cells[j]? = some v → W.cell? ((x.add (i * 9)).add j) = some v) ∧ IsV W W.heap.size q.A q.n q.D q.m q.cs q.ns ∧ (Lit.int .i64 q.S).wf = true ∧ (Lit.int .i64 q.N).wf = true) (fun i hi => by
      obtain ⟨cs', hc, ht⟩ := hcell i (by omega)
      obtain ⟨_, hlen, hat⟩ := World.cells?_some hc
      obtain ⟨q, rfl, hq⟩ := eop_value hlen ht (hw.elem Try.underlying23 (List.mem_map.2 ⟨i, List.mem_range.2 (by omega), rfl⟩))
      refine ⟨q, fun j v hj => ?_, hq⟩
      have hj' : j < 9 := by
        rcases Nat.lt_or_ge j 9 with h | h
        · exact h
        · rw [List.getElem?_eq_none (by simpa [Eop.cells] using h)] at hj; cases hj
      rw [hat j hj', hj])
    refine ⟨(List.range len).map F, ⟨fun k hk => ?_, fun p hp => ?_⟩, by simp, by omega⟩
    · have hk' : k < len := by simpa using hk
      have e : ((List.range len).map F)[k] = F k := by simp
      obtain ⟨h1, _⟩ := hF k hk'
      rw [e]
      generalize F k = q at *
      have g0 := h1 0 _ rfl
      obtain ⟨b, o, s⟩ := x
      have hs : s = none := by
        obtain ⟨h6, _⟩ := hF 0 (by omega)
        have := World.cell?_spot (h6 0 _ rfl)
        simpa [Addr.add] using this
      subst hs
      have ea : ∀ j, ((⟨b, o, none⟩ : Addr).add (k * 9)).add j = ⟨b, o + k * 9 + j, none⟩ := by
        intro j
        rw [Go.Deep.add_add]
        unfold Addr.add
        split <;> simp_all <;> omega
      rw [ea] at g0
      refine ⟨b, o, rfl, cell_lt g0, fun i u hu => ?_⟩
      have g := h1 i u hu
      rw [ea] at g
      exact g
    · obtain ⟨i, hi, rfl⟩ := List.mem_map.1 hp
      exact (hF i (List.mem_range.1 hi)).2
end
end Go.Proofs.Ytnngmapphacpkaa
