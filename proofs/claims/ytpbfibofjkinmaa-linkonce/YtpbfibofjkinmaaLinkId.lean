/-
  The walk of LinkOnce. Condition: what comes in is in reach.
-/
import Derived.Test.YtpbfibofjkinmaaLinkIc
import Derived.Deep.CutBlock
import Derived.Deep.CutRange
set_option linter.unusedSimpArgs false
set_option linter.unusedVariables false
namespace Go.Proofs.Ytpbfibofjkinmaa
open Go.RowKit Go.Maps

/-- Frames in memory, with their numbers. -/
def GFL (T : Txts) (D : List Nat) (lt : List Piece) (lns : List Nat) : Prop := lns.length = lt.length ∧ ∀ i (hi : i < lt.length) (hi' : i < lns.length), GF T D lt[i].bs lns[i]
theorem GFL.nil (T : Txts) (D : List Nat) : GFL T D [] [] := ⟨rfl, fun i hi => absurd hi (by simp)⟩
theorem GFL.more {T : Txts} {D D' : List Nat} {lt : List Piece} {lns : List Nat} (h : GFL T D lt lns) (R : Txts) (hD : ∀ x ∈ D, x ∈ D') : GFL (T ++ R) D' lt lns := ⟨h.1, fun i hi hi' => (h.2 i hi hi').more R hD⟩
theorem GFL.more0 {T : Txts} {D D' : List Nat} {lt : List Piece} {lns : List Nat} (h : GFL T D lt lns) (hD : ∀ x ∈ D, x ∈ D') : GFL T D' lt lns := by
  have := h.more [] hD
  rwa [List.append_nil] at this
theorem GFL.app {T : Txts} {D : List Nat} {lt ps : List Piece} {lns ns : List Nat} (h : GFL T D lt lns) (h' : GFL T D ps ns) : GFL T D (lt ++ ps) (lns ++ ns) := by
  refine ⟨by rw [List.length_append, List.length_append, h.1, h'.1], fun i hi hi' => ?_⟩
  by_cases hl : i < lt.length
  · rw [List.getElem_append_left hl, List.getElem_append_left (by rw [h.1]; exact hl)]
    exact h.2 i hl (by rw [h.1]; exact hl)
  · rw [List.getElem_append_right (by omega), List.getElem_append_right (by rw [h.1]; omega)]
    have hh := h.1
    simp only [hh]
    rw [List.length_append] at hi
    rw [List.length_append] at hi'
    exact h'.2 (i - lt.length) (by omega) (by omega)
theorem GFL.one {T : Txts} {D : List Nat} {p : Piece} {n : Nat} (h : GF T D p.bs n) : GFL T D [p] [n] := ⟨rfl, fun i hi hi' => by
  have : i = 0 := by simpa using hi
  subst this
  exact h⟩
theorem GFL.lens {T : Txts} {D : List Nat} {lt : List Piece} {lns : List Nat} (h : GFL T D lt lns) (hT : ∀ x ∈ T, x.length ≤ 65472) : ∀ p ∈ lt, p.bs.length ≤ 140737488355328 := fun p hp => by
  obtain ⟨i, hi, rfl⟩ := List.getElem_of_mem hp
  exact (h.2 i hi (by rw [h.1]; exact hi)).len hT
theorem GFL.bs {T : Txts} {D : List Nat} {lt : List Piece} {lns : List Nat} (h : GFL T D lt lns) : lns.length = (lt.map Piece.bs).length ∧ ∀ i (hi : i < (lt.map Piece.bs).length) (hi' : i < lns.length), GF T D (lt.map Piece.bs)[i] lns[i] :=
  ⟨by rw [List.length_map]; exact h.1, fun i hi hi' => by
    rw [List.getElem_map]
    exact h.2 i (by simpa using hi) hi'⟩
theorem tx_map {T : Txts} {D : List Nat} (R : Txts) (h : ∀ n ∈ D, 1 ≤ n ∧ n ≤ T.length) : D.map (TX (T ++ R)) = D.map (TX T) := List.map_congr_left (fun n hn => TX.app (h n hn).1 (h n hn).2 R)
theorem own_of {w : World} {b : Nat} {L : List Sl} (h : SL w b L) (i : Nat) (hi : i < L.length) : OwnF w b L[i].1 L[i].2 := h.own _ (List.getElem_mem hi)
theorem SL.push2 {w w' : World} {b : Nat} {L : List Sl} (h : SL w b L) (h' : SL w' b L) {v : Value} {ps : List Piece} (ho : OwnF w' b v ps) (hf : ∀ q, v.ownBlock = some q → w.heap.size ≤ q) : SL w' b ((v, ps) :: L) := by
  refine ⟨fun x hx => ?_, List.pairwise_cons.2 ⟨fun x hx q h1 h2 => ?_, h.apt⟩⟩
  · rcases List.mem_cons.1 hx with rfl | hx
    · exact ho
    · exact h'.own x hx
  · have := ((h.own x hx).row.lt q h2).2
    have := hf q h1
    omega
theorem OwnF.app2 {w w' : World} {base : Nat} {v v' : Value} {ps qs : List Piece} (h : OwnF w base v ps) (hp : ∀ p ∈ qs, Own w base p.val p.bs) (ho : OwnP w' base v' (ps ++ qs)) (hg : w.grownBy w' v.ownBlock) : OwnF w' base v' (ps ++ qs) := by
  refine ⟨ho, fun q hq => ?_⟩
  have key : ∀ q : Piece, Own w base q.val q.bs → Own w' base q.val q.bs := fun q hq => hq.keep fun g e => by
    obtain ⟨cur, hc⟩ := ownsRow_typed hq g e
    refine hg.block g (lt_of_block hc) (fun e2 => ?_)
    obtain ⟨cur', hc'⟩ := ownsRow_typed h.row g e2.symm
    rw [hc] at hc'
    injection hc' with hc'
    injection hc' with _ hc'
    exact absurd hc' (by decide)
  rcases List.mem_append.1 hq with h1 | h1
  · exact key q (h.dat q h1)
  · exact key q (hp q h1)
theorem PU.back {ka kB kA : Lk} {T : Txts} {D : List Nat} {now : Int} {os : List (List UInt8)} (h : PU ka kB T D) (hc : ka.ls = [] ∨ (now = 100 ∧ kB.ds = (numsOf ka 100).map (fun (n : Nat) => (n : Int)))) (hT : T.length ≤ 60) (hA : MoveP (ka.sentAt now) (kB.recs ++ kB.carries now) kA os) : PU kA (kB.sentAt now) T D ∧ kA.ls = [] := by
  have hrq := h.b.recs_eq now
  have hdl := h.fb.ds
  obtain ⟨i1, _, i3⟩ := AI.move hA (h.a.out now) hT (fun f hf => by
    obtain ⟨n, h1, h2, h3, h4⟩ := h.b.recs now ⟨hrq, by omega⟩ f hf
    exact ⟨n, h1, h2, by omega, h4⟩)
  have hls : kA.ls = [] := by
    refine List.eq_nil_iff_forall_not_mem.2 (fun l hl => ?_)
    obtain ⟨q1, q2⟩ := i3 l hl
    obtain ⟨l', h1, rfl⟩ := List.mem_map.1 q1
    rcases hc with hc | ⟨rfl, hds⟩
    · rw [hc] at h1; cases h1
    · obtain ⟨n, e, n1, n2, _⟩ := h.a.ls l' h1
      refine q2 n (by omega) ?_ (by rw [(stamp_num 100 ka.retry l').1]; exact e)
      rw [hrq, hds]
      refine List.mem_map.2 ⟨(n : Int), List.mem_map.2 ⟨n, ?_, rfl⟩, by simp⟩
      unfold numsOf
      rw [h.due]
      exact List.mem_map.2 ⟨l', h1, by rw [e]; simp⟩
  exact ⟨⟨i1, h.b.out now, h.nd, h.dn, h.tl, (hA.fit (h.fa.out now)).1, h.fb.out now, fun l hl => by rw [hls] at hl; cases hl⟩, hls⟩

set_option maxHeartbeats 16000000 in
set_option maxRecDepth 40000 in
theorem linkOnce_walk (A0 : Option Addr) (n0 c0 : Nat) (qs0 : List Piece) (A1 : Option Addr) (n1 c1 : Nat) (xs1 : List Int) (w : World) (h0 : HasP w w.heap.size A0 qs0) (h1 : HasI w w.heap.size A1 xs1) (e0 : qs0.length = n0) (b0 : n0 ≤ 5864062014805 ∧ ∀ p ∈ qs0, p.len ≤ 140737488351232) (e1 : xs1.length = n1) (b1 : n1 ≤ 17592186044416) :
    Calls Try.prog 10 #[.slice A0 n0 c0, .slice A1 n1 c1] w fun e w' => e = .returned (.bool true) ∧ Below w.heap.size w w' := by
  obtain ⟨b0, b2⟩ := b0
  have HB2 := hide b2
  have HN0 := hide e0
  have HN1 := hide e1
  have HH0 := hide h0
  have HH1 := hide h1
  clear e0 e1 h0 h1 b2
  go_enter Try.func10, Try.ntmps10
  go_wp2_with fail
  refine (head13_any w).mono ?_
  rintro e w0 ⟨rfl, hb0⟩
  go_wp2_with fail
  refine (enew 5 3 w0).mono ?_
  rintro e w1 ⟨rfl, hE1, hb1⟩
  go_wp2_with fail
  refine (enew 2 3 w1).mono ?_
  rintro e w2 ⟨rfl, hE2, hb2⟩
  have hz1 := (hE1.lt w0.heap.size rfl).2
  have hD2 : Duo w0 w2 w0.heap.size w1.heap.size (Lk.new 5 3) (Lk.new 2 3) (fun j => j = w0.heap.size) (fun j => j = w1.heap.size) :=
    ⟨hE1.below hb2, hE2.from_ hb1.size, fun j h1 h2 => by omega, hb1.trans (hb2.mono hb1.size)⟩
  have hS0 : SL w2 w0.heap.size [] := ⟨fun x hx => (by cases hx), List.Pairwise.nil⟩
  have hzz : w0.heap.size ≤ w2.heap.size := hD2.bel.size
  have hb3 : Below w2.heap.size w2 (w2.alloc (.cells #[] 32)) := (Below.refl _ _).alloc (Nat.le_refl _) _
  have hS3 := hS0.push hb3 (OwnF.empty w2 w2.heap.size w0.heap.size rfl hzz) (fun q hq => by injection hq with hq; exact Nat.le_of_eq hq)
  have hz3 : (w2.alloc (.cells #[] 32)).heap.size = w2.heap.size + 1 := by simp
  have hb4 : Below (w2.alloc (.cells #[] 32)).heap.size (w2.alloc (.cells #[] 32)) ((w2.alloc (.cells #[] 32)).alloc (.cells #[] 32)) := (Below.refl _ _).alloc (Nat.le_refl _) _
  have hS4 := hS3.push hb4 (OwnF.empty _ (w2.heap.size + 1) w0.heap.size hz3.symm (by omega)) (fun q hq => by injection hq with hq; show _ ≤ q; rw [hz3]; exact Nat.le_of_eq hq)
  have hz4 : ((w2.alloc (.cells #[] 32)).alloc (.cells #[] 32)).heap.size = w2.heap.size + 1 + 1 := by simp
  have hb5 : Below ((w2.alloc (.cells #[] 32)).alloc (.cells #[] 32)).heap.size ((w2.alloc (.cells #[] 32)).alloc (.cells #[] 32)) (((w2.alloc (.cells #[] 32)).alloc (.cells #[] 32)).alloc (.cells #[] 32)) := (Below.refl _ _).alloc (Nat.le_refl _) _
  have hS5 := hS4.push hb5 (OwnF.empty _ (w2.heap.size + 1 + 1) w0.heap.size hz4.symm (by omega)) (fun q hq => by injection hq with hq; show _ ≤ q; rw [hz4]; exact Nat.le_of_eq hq)
  have hD5 := ((hD2.below hb3).below hb4).below hb5
  have HS5 := hide hS5
  have HD5 := hide hD5
  have HB0 := hide hb0
  clear hE1 hb1 hE2 hb2 hz1 hD2 hb0 hS0 hzz hb3 hS3 hz3 hb4 hS4 hz4 hb5 hS5 hD5
  go_wp2_with fail
  generalize ((w2.alloc (.cells #[] 32)).alloc (.cells #[] 32)).alloc (.cells #[] 32) = w3 at *
  generalize w0.heap.size = ga at HD5
  generalize w1.heap.size = gb at *
  go_loopw [7, 8, 9, 10, 11] (fun s7 s8 s9 s10 i wr => ∃ (j kc : Nat) (T : Txts) (D : List Nat) (ka kb : Lk) (Fa Fb : Nat → Prop) (ws gs lt : List Piece) (lns : List Nat), j ≤ n0 ∧ j ≤ 60 ∧ i = .int .i64 (j : Int) ∧ s10 = .int .i64 (kc : Int) ∧ kc ≤ 32 * j ∧ T.length ≤ j ∧ lt.length ≤ 32 * j ∧ Hid (Duo w0 wr ga gb ka kb Fa Fb) ∧ Hid (SL wr w0.heap.size [(s9, lt), (s8, gs), (s7, ws)]) ∧ Hid (PU ka kb T D) ∧ Hid (Firsts T j) ∧ Hid (ws.map Piece.bs = T) ∧ Hid (gs.map Piece.bs = D.map (TX T)) ∧ Hid (GFL T D lt lns) ∧ Hid (kb.ds = [])) (fun _ _ _ _ i _ => 60 - (intOf i).toNat)
  case atStart => exact ⟨0, 0, [], [], _, _, _, _, [], [], [], [], by omega, by omega, rfl, rfl, by omega, by simp, by simp, HD5, HS5, hide ⟨⟨rfl, rfl, rfl, rfl, rfl, fun l hl => (by cases hl), List.Pairwise.nil, fun n h1 h2 => (by simp at h2; omega), by decide⟩, ⟨.inr ⟨rfl, rfl, rfl⟩, fun n hn => (by rw [come_iff]; simp [Lk.new]; omega), fun d hd => (by cases hd), Int.le_refl _, Int.le_refl _, fun x hx => (by cases hx), rfl, Nat.le_refl _⟩, List.nodup_nil, by simp, by simp, Fit.new 5 3, Fit.new 2 3, fun l hl => (by cases hl)⟩, hide ⟨List.nodup_nil, by simp⟩, hide rfl, hide rfl, hide (GFL.nil _ _), hide rfl⟩
  case round =>
    clear HS5 HD5
    obtain ⟨j, kc, T, D, ka, kb, Fa, Fb, ws, gs, lt, lns, hjn, hj60, rfl, rfl, hkc, hTj, hlt32, hD, hS, hP, hFi, hW, hG, hL, hds⟩ := hrel
    by_cases hlt : j < n0 ∧ j < 60
    · obtain ⟨hl1, hl2⟩ := hlt
      have hbr : Below w.heap.size w wr := HB0.out.trans (hD.out.bel.mono HB0.out.size)
      have hcap := HB2.out _ (List.getElem_mem (show j < qs0.length by rw [HN0.out]; exact hl1))
      obtain ⟨⟨b, o, rfl, hbb, hcell⟩, hx, hxn, hxl⟩ := (HH0.out.below hbr) j (by rw [HN0.out]; exact hl1)
      generalize qs0[j]'(by rw [HN0.out]; exact hl1) = p at *
      obtain ⟨pA, pn, pc, pb⟩ := p
      simp only at hx hxn hxl hcap
      subst hxn
      have hcell' : wr.cell? ⟨b, o + j, none⟩ = some (.slice pA pb.length pc) := hcell
      have hu8 : IntKind.u8.wrap (j : Int) = (j : Int) := by rw [IntKind.wrap_u8]; omega
      have hba : Below wr.heap.size wr (wr.alloc (.cells #[.int .u8 (j : Int), .int .u8 7] 5)) := (Below.refl _ _).alloc (Nat.le_refl _) _
      have hown : Own (wr.alloc (.cells #[.int .u8 (j : Int), .int .u8 7] 5)) w0.heap.size (.slice (some ⟨wr.heap.size, 0, none⟩) 2 2) [UInt8.ofNat j, 7] := by
        have := Own.new wr [UInt8.ofNat j, 7] wr.heap.size w0.heap.size rfl hD.out.bel.size (by simp)
        have e : bcells [UInt8.ofNat j, 7] = #[.int .u8 (j : Int), .int .u8 7] := by simp [bcells, byt]; omega
        rw [e] at this
        exact this
      have hx3 : Has (wr.alloc (.cells #[.int .u8 (j : Int), .int .u8 7] 5)) w.heap.size pA pb := hx.below (hba.mono hbr.size)
      have hbz : w0.heap.size ≤ (wr.alloc (.cells #[.int .u8 (j : Int), .int .u8 7] 5)).heap.size := (hD.out.below hba).bel.size
      have hcell3 : (wr.alloc (.cells #[.int .u8 (j : Int), .int .u8 7] 5)).cell? ⟨b, o + j, none⟩ = some (.slice pA pb.length pc) := (hba.cell (p := ⟨b, o + j, none⟩) (Nat.lt_of_lt_of_le hbb hbr.size)).trans hcell'
      have i1 : (j : Int) < (n0 : Int) := by omega
      have i2 : (j : Int) < 60 := by omega
      have HLN : Hid (([UInt8.ofNat j, 7] : List UInt8).length + pb.length ≤ 140737488355328) := hide (by simp; omega)
      have HHX := hide hx3
      have HOW := hide hown
      have HBA := hide hba
      have hgv : ∀ q, (Value.slice (some ⟨wr.heap.size, 0, none⟩) 2 2).ownBlock = some q → wr.heap.size ≤ q := fun q hq => by injection hq with hq; exact Nat.le_of_eq hq
      clear hcell hx hxl hbr hba hown hx3 hcell'
      go_upto_region 13 with (at_builtin; refine list_append_bytes _ rfl (.tmp 39) (.tmp 43) rfl w0.heap.size _ [UInt8.ofNat j, 7] rfl HOW.out w.heap.size pA pb.length pc pb rfl HHX.out rfl HLN.out hbz ?_; intro v5 w5 ho5 hg5 hat5)
      obtain ⟨A5, n5, c5, rfl, hn5, _, hx5, _⟩ := ho5.form
      have hb5 : Below wr.heap.size wr w5 := HBA.out.grown hg5 HBA.out.size hgv
      have hD5 := hD.out.below hb5
      have hS5 := hS.out.below hb5
      have hln5 : ([UInt8.ofNat j, 7] ++ pb).length ≤ 140737488355328 := by rw [List.length_append]; exact HLN.out
      have hcp := copy_any A5 n5 c5 ([UInt8.ofNat j, 7] ++ pb) w5 hx5 hn5.out (by rw [← hn5.out]; exact hln5)
      have hla := hP.out.a.last
      have hal := hP.out.a.len
      have hsd := copySend ([UInt8.ofNat j, 7] ++ pb) hD5.a hP.out.fa hln5 (by omega) (by omega)
      have HFD := hide (hFi.out.snoc (by omega) (7 :: pb))
      have HFM := hide hFi.out.more
      rw [show UInt8.ofNat j :: 7 :: pb = [UInt8.ofNat j, 7] ++ pb from rfl] at HFD
      have hn5' := hn5.out
      generalize [UInt8.ofNat j, 7] ++ pb = dd at *
      subst hn5'
      have HD5 := hide hD5
      have HS5 := hide hS5
      have HOW5 := hide ho5
      clear hb5 hD5 hS5 hln5 hx5 hg5 hat5 HBA HOW HHX HLN hcell3 hgv hD hS hFi hbz ho5 hla hal
      go_wp2_with fail
      refine hcp.mono ?_
      rintro e wA ⟨rfl, rfl⟩
      clear hcp
      go_wp2_with fail
      refine hsd.mono ?_
      rintro e wB ⟨rfl, kB, FB, hEB, hkB, hfB, hsB⟩
      have HDB := hide (HD5.out.step hEB hkB hfB)
      have HSB := hide (HS5.out.kept hkB HD5.out.a.no)
      have HQB := hide (HD5.out.a.own HOW5.out hkB)
      have hps := hP.out.send hsB (by omega)
      have hwsl : ws.length = T.length := by rw [← hW.out, List.length_map]
      clear hsd hEB hkB hfB hsB HD5 HS5 HOW5
      go_upto_if 50 with fail
      go_cut [7] (fun s7 wx => ∃ (T1 : Txts) (ka1 : Lk) (Fa1 : Nat → Prop) (ws1 : List Piece), T1.length ≤ j + 1 ∧ Hid (Duo w0 wx ga gb ka1 kb Fa1 Fb) ∧ Hid (SL wx w0.heap.size [(u9, lt), (u8, gs), (s7, ws1)]) ∧ Hid (PU ka1 kb T1 D) ∧ Hid (Firsts T1 (j + 1)) ∧ Hid (ws1.map Piece.bs = T1) ∧ Hid (gs.map Piece.bs = D.map (TX T1)) ∧ Hid (GFL T1 D lt lns))
      case first =>
        rcases hps with ⟨hz, hdl, hp⟩ | ⟨hz, rfl⟩
        · have HP2 := hide hp
          generalize sendE ka dd.length = se at *
          subst hz
          have hzb : w0.heap.size ≤ wB.heap.size := HDB.out.bel.size
          have hba : Below wB.heap.size wB (wB.alloc (.cells #[.slice A5 dd.length c5] 32)) := (Below.refl _ _).alloc (Nat.le_refl _) _
          have HDC := hide (HDB.out.below hba)
          have HSC := hide (HSB.out.below hba)
          have HQC := hide (HQB.out.below hba)
          have HOC := hide (HSC.out.own (u7, ws) (by simp))
          have HWL : Hid (ws.length + 1 ≤ 1099511627776) := hide (by omega)
          clear hp hba HDB HSB HQB HFM
          go_wp2_with (at_builtin; refine list_append_piece _ rfl (.tmp 51) (.tmp 53) rfl w0.heap.size _ ws rfl HOC.out.row ⟨wB.heap.size, 0, none⟩ 1 ⟨A5, dd.length, c5, dd⟩ rfl (by simp [Piece.val]) HWL.out (by simp; omega) ?_; intro v6 w6 ho6 hg6 hat6)
          have HO6 := HOC.out.app (p := ⟨A5, dd.length, c5, dd⟩) HQC.out ho6 hg6
          have HS6 : Hid (SL w6 w0.heap.size [(u9, lt), (u8, gs), (v6, ws ++ [⟨A5, dd.length, c5, dd⟩])]) := hide (HSC.out.app (L1 := [(u9, lt), (u8, gs)]) (L2 := []) hg6 HO6 hat6)
          have HD6 := hide (HDC.out.grownF HOC.out (Nat.le_refl _) hg6)
          clear HO6 ho6 hg6 hat6 HDC HOC HQC HSC
          go_meet
          exact ⟨T ++ [dd], kB, FB, ws ++ [⟨A5, dd.length, c5, dd⟩], by rw [List.length_append, List.length_singleton]; omega, HD6, HS6, HP2, HFD, hide (by rw [List.map_append, hW.out]; rfl), hide (by rw [hG.out, tx_map _ hP.out.dn]), hide (hL.out.more _ (fun _ h => h))⟩
        · have t0 : (sendE kB dd.length == 0) = false := by rw [beq_eq_false_iff_ne]; omega
          have t1 : sendE kB dd.length = 64 ∨ sendE kB dd.length = 12 := hz
          generalize sendE kB dd.length = se at *
          clear HFD HQB
          rcases t1 with rfl | rfl
          all_goals
            go_wp2_with fail
            go_meet
            exact ⟨T, kB, FB, ws, by omega, HDB, HSB, hP, HFM, hW, hG, hL⟩
      case rest =>
        clear hps hP hW hG hL HDB HSB HQB HFD HFM
        obtain ⟨T1, ka1, Fa1, ws1, hT1, HD1, HS1, HP1, HF1, HW1, HG1, HL1⟩ := hcut
        have hba : Below wc.heap.size wc (wc.alloc (.cells #[] 32)) := (Below.refl _ _).alloc (Nat.le_refl _) _
        have HDp := hide (HD1.out.below hba)
        have HSp := hide (HS1.out.push hba (OwnF.empty wc wc.heap.size w0.heap.size rfl HD1.out.bel.size) (fun q hq => by injection hq with hq; exact Nat.le_of_eq hq))
        have ho := eout (j : Int) HDp.out.a HP1.out.fa
        obtain ⟨f1, f2, f3, f4⟩ := HP1.out.a.frames (j : Int)
        generalize numsOf ka1 (j : Int) = fns at *
        have HF2 := hide f2
        have HF4 := hide f4
        clear hba HD1 HS1 f2 f4
        go_wp2_with fail
        generalize hwp : wc.alloc (.cells #[] 32) = wp at *
        clear hwp
        refine ho.mono ?_
        rintro e w6 ⟨v6, fs, F6, rfl, hO6, hP6, hE6, hk6, hf6⟩
        rw [f1, List.nil_append] at hP6
        have hfl : fs.length ≤ 32 := by have := congrArg List.length hP6; rw [List.length_map] at this; omega
        have HD6 := hide (HDp.out.step hE6 hk6 (fun q hq => .inl (hf6 q hq)))
        have HS6 := hide (HSp.out.push2 (HSp.out.kept hk6 HDp.out.a.no) (hO6.from_ HDp.out.bel.size) (fun q hq => (hO6.row.lt q hq).1))
        have HP6 := hide (HP1.out.outA (j : Int) (by omega))
        have HG6 : Hid (GFL T1 D fs fns) := hide ⟨by rw [HF2.out, ← hP6, List.length_map], fun i hi hi' => by
          have hi2 : i < (ka1.carries (j : Int)).length := by rw [← hP6, List.length_map]; exact hi
          have h5 := HF4.out i hi2 hi'
          have h1 : (fs.map Piece.bs)[i]? = (ka1.carries (j : Int))[i]? := by rw [hP6]
          rw [List.getElem?_eq_getElem (by rw [List.length_map]; exact hi), List.getElem?_eq_getElem hi2, List.getElem_map] at h1
          rw [Option.some.inj h1]
          exact h5⟩
        obtain ⟨A6, c6, rfl⟩ := hO6.len
        generalize ka1.sentAt (j : Int) = ka6 at *
        clear ho hO6 hP6 hE6 hk6 hf6 HDp HSp HP1 HF2 HF4 f1 f3
        go_wp2_with fail
        have HFL := hide (HG6.out.lens HP6.out.tl)
        go_loopw [9, 10, 14, 66] (fun s9 s10 s14 s66 wx => ∃ (q kq : Nat) (ps l2 : List Piece) (pns lns2 : List Nat), q ≤ fs.length ∧ s66 = .int .i64 (q : Int) ∧ s10 = .int .i64 (kq : Int) ∧ kq ≤ 32 * j + q ∧ l2.length ≤ 32 * j + q ∧ ps.length ≤ 2 * q ∧ Hid (Duo w0 wx ga gb ka6 kb F6 Fb) ∧ Hid (SL wx w0.heap.size [(.slice A6 fs.length c6, fs), (s14, ps), (s9, l2), (u8, gs), (u7, ws1)]) ∧ Hid (GFL T1 D ps pns) ∧ Hid (GFL T1 D l2 lns2)) (fun _ _ _ i _ => fs.length - (intOf i).toNat)
        case atStart => exact ⟨0, kc, [], lt, [], lns, Nat.zero_le _, rfl, rfl, by omega, by omega, by simp, HD6, HS6, hide (GFL.nil _ _), HL1⟩
        case round =>
          clear HD6 HS6 HL1
          obtain ⟨q, kq, ps, l2, pns, lns2, hq, rfl, rfl, hkq, hl2, hpl, hD, hS, hGp, hGl⟩ := hrel
          by_cases hlq : q < fs.length
          · obtain ⟨g6, rfl, _, hcell, _, _, _⟩ := (hS.out.own (.slice A6 fs.length c6, fs) (by simp)).at_ HFL.out q hlq
            have hop := (hS.out.own (.slice (some ⟨g6, 0, none⟩) fs.length c6, fs) (by simp)).dat _ (List.getElem_mem hlq)
            have hgf := HG6.out.2 q hlq (by rw [HG6.out.1]; exact hlq)
            generalize fns[q]'(by rw [HG6.out.1]; exact hlq) = pnum at *
            generalize fs[q] = p at *
            obtain ⟨pA, pn, pc, pb⟩ := p
            have hcell' : wr.cell? ⟨g6, q, none⟩ = some (.slice pA pn pc) := hcell
            have hbr : Below w.heap.size w wr := HB0.out.trans (hD.out.bel.mono HB0.out.size)
            have HOP : Hid (Own wr w0.heap.size (Piece.val ⟨pA, pn, pc, pb⟩) pb) := hide hop
            have HGP : Hid (GFL T1 D [⟨pA, pn, pc, pb⟩] [pnum]) := hide (GFL.one hgf)
            have HII := hide (HH1.out.below hbr)
            clear hcell hop hgf hbr
            go_upto_if 73 with fail
            go_cut [17] (fun s17 wx => ∃ f : Int, s17 = .int .i64 f ∧ wx = wr)
            case first =>
              by_cases hk : kq < n1
              · obtain ⟨b', o', rfl, hbb, hc⟩ := HII.out kq (by rw [HN1.out]; exact hk)
                generalize xs1[kq]'(by rw [HN1.out]; exact hk) = f at *
                have hk' : (kq : Int) < (n1 : Int) := by omega
                go_wp2_with fail
                go_meet
                exact ⟨f, rfl, rfl⟩
              · have hk' : ¬ (kq : Int) < (n1 : Int) := by omega
                go_wp2_with fail
                go_meet
                exact ⟨1, rfl, rfl⟩
            case rest =>
              obtain ⟨f, rfl, hwc⟩ := hcut
              obtain rfl := hwc.symm
              have hzr : w0.heap.size ≤ wr.heap.size := hD.out.bel.size
              by_cases h1 : f = 1
              · subst h1
                have hba : Below wr.heap.size wr (wr.alloc (.cells #[.slice pA pn pc] 32)) := (Below.refl _ _).alloc (Nat.le_refl _) _
                have HDC := hide (hD.out.below hba)
                have HSC := hide (hS.out.below hba)
                have HQC := hide (HOP.out.below hba)
                have HOC := hide (HSC.out.own (u14, ps) (by simp))
                have HWL : Hid (ps.length + 1 ≤ 1099511627776) := hide (by omega)
                clear hba hD hS HOP
                go_wp2_with (at_builtin; refine list_append_piece _ rfl (.tmp 83) (.tmp 85) rfl w0.heap.size _ ps rfl HOC.out.row ⟨wr.heap.size, 0, none⟩ 1 ⟨pA, pn, pc, pb⟩ rfl (by simp [Piece.val]) HWL.out (by simp; omega) ?_; intro v7 w7 ho7 hg7 hat7)
                have hO7 := HOC.out.app (p := ⟨pA, pn, pc, pb⟩) HQC.out ho7 hg7
                have HS7 := hide (HSC.out.app (L1 := [(.slice (some ⟨g6, 0, none⟩) fs.length c6, fs)]) (L2 := [(u9, l2), (u8, gs), (u7, ws1)]) hg7 hO7 hat7)
                have HD7 := hide (HDC.out.grownF HOC.out (Nat.le_refl _) hg7)
                have HG7 := hide (hGp.out.app HGP.out)
                clear hO7 ho7 hg7 hat7 HDC HOC HQC HSC
                go_roundw
                case rel => exact ⟨q + 1, kq + 1, _, l2, _, lns2, by omega, by go_num, by go_num, by omega, by omega, by simp; omega, HD7, HS7, HG7, hGl⟩
                case measure => simp [intOf]; omega
              · by_cases h2 : f = 2
                · subst h2
                  clear h1
                  have hba : Below wr.heap.size wr (wr.alloc (.cells #[.slice pA pn pc, .slice pA pn pc] 32)) := (Below.refl _ _).alloc (Nat.le_refl _) _
                  have HDC := hide (hD.out.below hba)
                  have HSC := hide (hS.out.below hba)
                  have HQC := hide (HOP.out.below hba)
                  have HOC := hide (HSC.out.own (u14, ps) (by simp))
                  have HWL : Hid (ps.length + 2 ≤ 1099511627776) := hide (by omega)
                  clear hba hD hS HOP
                  go_wp2_with (at_builtin; refine list_append_two _ rfl (.tmp 89) (.tmp 92) rfl w0.heap.size _ ps rfl HOC.out.row wr.heap.size 2 ⟨pA, pn, pc, pb⟩ ⟨pA, pn, pc, pb⟩ rfl (by simp [Piece.val]) (by simp [Piece.val]) HWL.out (by simp; omega) ?_; intro v7 w7 ho7 hg7 hat7)
                  have hO7 := HOC.out.app2 (qs := [⟨pA, pn, pc, pb⟩, ⟨pA, pn, pc, pb⟩]) (fun p hp => by
                    simp at hp
                    subst hp
                    exact HQC.out) ho7 hg7
                  have HS7 := hide (HSC.out.app (L1 := [(.slice (some ⟨g6, 0, none⟩) fs.length c6, fs)]) (L2 := [(u9, l2), (u8, gs), (u7, ws1)]) hg7 hO7 hat7)
                  have HD7 := hide (HDC.out.grownF HOC.out (Nat.le_refl _) hg7)
                  have HG7 := hide (hGp.out.app (HGP.out.app HGP.out))
                  clear hO7 ho7 hg7 hat7 HDC HOC HQC HSC
                  go_roundw
                  case rel => exact ⟨q + 1, kq + 1, _, l2, _, lns2, by omega, by go_num, by go_num, by omega, by omega, by simp; omega, HD7, HS7, HG7, hGl⟩
                  case measure => simp [intOf]; omega
                · by_cases h3 : f = 3
                  · subst h3
                    clear h1 h2
                    have hba : Below wr.heap.size wr (wr.alloc (.cells #[.slice pA pn pc] 32)) := (Below.refl _ _).alloc (Nat.le_refl _) _
                    have HDC := hide (hD.out.below hba)
                    have HSC := hide (hS.out.below hba)
                    have HQC := hide (HOP.out.below hba)
                    have HOC := hide (HSC.out.own (u9, l2) (by simp))
                    have HWL : Hid (l2.length + 1 ≤ 1099511627776) := hide (by omega)
                    clear hba hD hS HOP
                    go_wp2_with (at_builtin; refine list_append_piece _ rfl (.tmp 96) (.tmp 98) rfl w0.heap.size _ l2 rfl HOC.out.row ⟨wr.heap.size, 0, none⟩ 1 ⟨pA, pn, pc, pb⟩ rfl (by simp [Piece.val]) HWL.out (by simp; omega) ?_; intro v7 w7 ho7 hg7 hat7)
                    have hO7 := HOC.out.app (p := ⟨pA, pn, pc, pb⟩) HQC.out ho7 hg7
                    have HS7 := hide (HSC.out.app (L1 := [(.slice (some ⟨g6, 0, none⟩) fs.length c6, fs), (u14, ps)]) (L2 := [(u8, gs), (u7, ws1)]) hg7 hO7 hat7)
                    have HD7 := hide (HDC.out.grownF HOC.out (Nat.le_refl _) hg7)
                    have HG7 := hide (hGl.out.app HGP.out)
                    clear hO7 ho7 hg7 hat7 HDC HOC HQC HSC
                    go_roundw
                    case rel => exact ⟨q + 1, kq + 1, ps, _, pns, _, by omega, by go_num, by go_num, by omega, by simp; omega, by omega, HD7, HS7, hGp, HG7⟩
                    case measure => simp [intOf]; omega
                  · have t1 : (f == 1) = false := by rw [beq_eq_false_iff_ne]; exact h1
                    have t2 : (f == 2) = false := by rw [beq_eq_false_iff_ne]; exact h2
                    have t3 : (f == 3) = false := by rw [beq_eq_false_iff_ne]; exact h3
                    clear h1 h2 h3
                    go_wp2_with fail
                    go_roundw
                    case rel => exact ⟨q + 1, kq + 1, ps, l2, pns, lns2, by omega, by go_num, by go_num, by omega, by omega, by omega, hD, hS, hGp, hGl⟩
                    case measure => simp [intOf]; omega
          · obtain hqe : q = fs.length := by omega
            subst hqe
            have hzr : w0.heap.size ≤ wr.heap.size := hD.out.bel.size
            obtain ⟨A14, c14, rfl⟩ : ∃ A c, u14 = .slice A ps.length c := (hS.out.own (u14, ps) (by simp)).len
            have hap := hS.out.apt
            rw [List.pairwise_cons, List.pairwise_cons] at hap
            have hne := (hap.2.1 (u8, gs) (by simp)).symm
            have hgl : gs.length = D.length := by have := congrArg List.length HG1.out; rw [List.length_map, List.length_map] at this; exact this
            have hdl := HP6.out.dlen
            have hcn := HP6.out.b.cnt
            have hmv := lmove_any A14 ps.length c14 u8 ps gs hD.out.b HP6.out.fb (hS.out.own (_, ps) (by simp)) (hGp.out.lens HP6.out.tl) (hS.out.own (u8, gs) (by simp)) hzr hne (by omega) (by omega)
            clear hap hne hcn hlq hzr
            go_wp2_with fail
            refine hmv.mono ?_
            rintro e w7 ⟨v7, gs7, kb7, Fb7, os7, rfl, hO7, hg7, hM7, hE7, hk7, hf7, hv7⟩
            have hD7 := (hD.out.swap.stepG (hS.out.own (u8, gs) (by simp)) (Nat.le_refl _) hE7 hk7 hf7).swap
            obtain ⟨new, hos, hP7, _, _⟩ := HP6.out.toB hM7 (by omega) pns (by rw [hGp.out.bs.1]) hGp.out.bs.2
            have hS7 : SL w7 w0.heap.size [(u9, l2), (v7, gs ++ gs7), (u7, ws1)] := (hS.out.upd (L1 := [(.slice A6 fs.length c6, fs), (.slice A14 ps.length c14, ps), (u9, l2)]) (L2 := [(u7, ws1)]) hk7 hD.out.b.no hO7 hv7).sub (List.Sublist.cons _ (List.Sublist.cons _ (List.Sublist.refl _)))
            have HG7 : Hid ((gs ++ gs7).map Piece.bs = (D ++ new).map (TX T1)) := hide (by rw [List.map_append, List.map_append, HG1.out, hg7, hos])
            have HL7 : Hid (GFL T1 (D ++ new) l2 lns2) := hide (hGl.out.more0 (fun x hx => List.mem_append_left _ hx))
            have ho8 := eout (j : Int) hD7.b hP7.fb
            have hrq := hP7.b.recs_eq (j : Int)
            have hds7 := hP7.fb.ds
            have HRC := hide (hP7.b.recs (j : Int) ⟨hrq, by omega⟩)
            have HRL : Hid ((kb7.recs ++ kb7.carries (j : Int)).length ≤ 32) := hide (by rw [hrq, List.length_map]; omega)
            have HP7 := hide (hP7.outB (j : Int))
            have HD7 := hide hD7
            have HS7 := hide hS7
            clear hmv hO7 hg7 hM7 hE7 hk7 hf7 hv7 hos hP7 hD7 hS7 hrq hds7 hD hS hGp hGl HG1 HP6
            go_wp2_with fail
            refine ho8.mono ?_
            rintro e w8 ⟨v8, rs, F8, rfl, hO8, hP8, hE8, hk8, hf8⟩
            have HS8 := hide (HS7.out.kept hk8 HD7.out.b.no)
            have HD8 := hide ((HD7.out.swap.step hE8 hk8 (fun q hq => .inl (hf8 q hq))).swap)
            have hrl : rs.length ≤ 32 := by have := HRL.out; rw [← hP8, List.length_map] at this; exact this
            have HRC8 : Hid (∀ f ∈ rs.map Piece.bs, ∃ n ∈ D ++ new, 1 ≤ n ∧ n ≤ 60 ∧ f = frB 2 5 n 0 []) := hide (fun f hf => by
              rw [hP8] at hf
              obtain ⟨n, h1, h2, h3, h4⟩ := HRC.out f hf
              exact ⟨n, h1, h2, by omega, h4⟩)
            have HRS : Hid (∀ p ∈ rs, p.bs.length ≤ 140737488355328) := hide (fun p hp => by
              obtain ⟨n, _, _, _, h4⟩ := HRC8.out p.bs (List.mem_map_of_mem hp)
              rw [h4]
              exact frB_len _ _ _ _ _ (by simp))
            have HO8 := hide hO8
            have hds8 : (kb7.sentAt (j : Int)).ds = [] := rfl
            have HDS := hide hds8
            generalize kb7.sentAt (j : Int) = kb8 at *
            clear ho8 hO8 hP8 hE8 hk8 hf8 HRC HRL HS7 HD7 hds8
            obtain ⟨A8, c8, rfl⟩ : ∃ A c, v8 = .slice A rs.length c := HO8.out.len
            have hmv := lmove_any A8 rs.length c8 (.slice none 0 0) rs [] HD8.out.a HP7.out.fa HO8.out HRS.out (OwnF.nil w8 w8.heap.size) (Nat.le_refl _) (fun q hq => by cases hq) (by rw [HP7.out.a.cnt]; omega) (by simp)
            go_wp2_with fail
            · refine hmv.mono ?_
              rintro e w9 ⟨v9, gs9, kA, FA, os9, rfl, _, _, hM9, hE9, hk9, hf9, _⟩
              have HD9 := hide (HD8.out.stepG (OwnF.nil w8 w0.heap.size) (Nat.le_refl _) hE9 hk9 hf9)
              have HS9 := hide (HS8.out.kept hk9 (fun j cur t hc ht e => e.elim (HD8.out.a.no j cur t hc ht) (fun e => by cases e)))
              have HP9 := hide (HP7.out.toA hM9 (by omega) HRC8.out).1
              clear hmv hM9 hE9 hk9 hf9 HD8 HS8 HP7
              go_wp2_with fail
              go_roundw
              case rel => exact ⟨j + 1, kq, T1, D ++ new, kA, kb8, FA, F8, ws1, gs ++ gs7, l2, lns2, by omega, by omega, by go_num, rfl, by omega, by omega, by omega, HD9, HS9, HP9, HF1, HW1, HG7, HL7, HDS⟩
              case measure => simp [intOf]; omega
            · clear hmv
              go_roundw
              case rel => exact ⟨j + 1, kq, T1, D ++ new, ka6, kb8, F6, F8, ws1, gs ++ gs7, l2, lns2, by omega, by omega, by go_num, rfl, by omega, by omega, by omega, HD8, HS8, HP7, HF1, HW1, HG7, HL7, HDS⟩
              case measure => simp [intOf]; omega
    · obtain ⟨x1, hxj⟩ : ∃ x1 : Int, (j : Int) = x1 := ⟨_, rfl⟩
      have hex : decide (x1 < (n0 : Int)) = false ∨ (decide (x1 < (n0 : Int)) = true ∧ decide (x1 < 60) = false) := by
        rcases Nat.lt_or_ge j n0 with h | h
        · exact .inr ⟨decide_eq_true (by omega), decide_eq_false (by omega)⟩
        · exact .inl (decide_eq_false (by omega))
      rw [hxj]
      have hT60 : T.length ≤ 60 := by omega
      have hl1 : lt.length ≤ 1920 := by omega
      have HNO := hide hFi.out.1
      have HWS : Hid (ws.length = T.length) := hide (by rw [← hW.out, List.length_map])
      clear hlt hxj hjn hj60 hkc hTj hlt32 hFi
      obtain ⟨A9, c9, rfl⟩ : ∃ A c, u9 = .slice A lt.length c := (hS.out.own (u9, lt) (by simp)).len
      obtain ⟨A7, c7, rfl⟩ : ∃ A c, u7 = .slice A ws.length c := (hS.out.own (u7, ws) (by simp)).len
      rcases hex with d1 | ⟨d1, d2⟩
      all_goals
        go_wp2_with fail
        go_loopw [8, 19] (fun s8 s19 wx => ∃ (r : Nat) (D : List Nat) (ka kb : Lk) (Fa Fb : Nat → Prop) (gs : List Piece), r ≤ 67 ∧ s19 = .int .i64 (100 + 3 * (r : Int)) ∧ Hid (Duo w0 wx ga gb ka kb Fa Fb) ∧ Hid (SL wx w0.heap.size [(.slice A9 lt.length c9, lt), (s8, gs), (.slice A7 ws.length c7, ws)]) ∧ Hid (PU ka kb T D) ∧ Hid (gs.map Piece.bs = D.map (TX T)) ∧ Hid (GFL T D lt lns) ∧ Hid (ka.ls = [] ∨ (r = 0 ∧ kb.ds = []))) (fun _ i _ => 400 - (intOf i).toNat)
        case atStart => exact ⟨0, D, ka, kb, Fa, Fb, gs, by omega, rfl, hD, hS, hP, hG, hL, hide (.inr ⟨rfl, hds.out⟩)⟩
        case round =>
          clear hD hS hP hG hL hds
          obtain ⟨r, D, ka, kb, Fa, Fb, gs, hr, rfl, hD, hS, hP, hG, hL, hC⟩ := hrel
          by_cases hlr : r < 67
          · obtain ⟨now, hnow⟩ : ∃ now : Int, 100 + 3 * (r : Int) = now := ⟨_, rfl⟩
            have hn1 : now < 300 := by omega
            have hn2 : 100 ≤ now := by omega
            have ho := eout now hD.out.a hP.out.fa
            obtain ⟨f1, f2, f3, f4⟩ := hP.out.a.frames now
            have HF2 := hide f2
            have HF4 := hide f4
            rw [hnow]
            clear f2 f4
            go_wp2_with fail
            refine ho.mono ?_
            rintro e w6 ⟨v6, fs, F6, rfl, hO6, hP6, hE6, hk6, hf6⟩
            rw [f1, List.nil_append] at hP6
            have hfl : fs.length ≤ 32 := by have := congrArg List.length hP6; rw [List.length_map] at this; omega
            have HD6 := hide (hD.out.step hE6 hk6 (fun q hq => .inl (hf6 q hq)))
            have HS6 := hide (hS.out.push2 (hS.out.kept hk6 hD.out.a.no) (hO6.from_ hD.out.bel.size) (fun q hq => (hO6.row.lt q hq).1))
            have HG6 : Hid (GFL T D fs (numsOf ka now)) := hide ⟨by rw [HF2.out, ← hP6, List.length_map], fun i hi hi' => by
              have hi2 : i < (ka.carries now).length := by rw [← hP6, List.length_map]; exact hi
              have h5 := HF4.out i hi2 hi'
              have h1 : (fs.map Piece.bs)[i]? = (ka.carries now)[i]? := by rw [hP6]
              rw [List.getElem?_eq_getElem (by rw [List.length_map]; exact hi), List.getElem?_eq_getElem hi2, List.getElem_map] at h1
              rw [Option.some.inj h1]
              exact h5⟩
            obtain ⟨A6, c6, rfl⟩ : ∃ A c, v6 = .slice A fs.length c := hO6.len
            have hzr : w0.heap.size ≤ w6.heap.size := HD6.out.bel.size
            have hap := HS6.out.apt
            rw [List.pairwise_cons] at hap
            have hne := (hap.1 (u8, gs) (by simp)).symm
            have hgl : gs.length = D.length := by have := congrArg List.length hG.out; rw [List.length_map, List.length_map] at this; exact this
            have hdl := hP.out.dlen
            have hcn := hP.out.b.cnt
            have hmv := lmove_any A6 fs.length c6 u8 fs gs HD6.out.b hP.out.fb (HS6.out.own (_, fs) (by simp)) (HG6.out.lens hP.out.tl) (HS6.out.own (u8, gs) (by simp)) hzr hne (by omega) (by omega)
            clear ho hO6 hP6 hE6 hk6 hf6 hap hne hcn hzr hgl hD hS HF2 HF4 f1 f3
            go_wp2_with fail
            refine hmv.mono ?_
            rintro e w7 ⟨v7, gs7, kb7, Fb7, os7, rfl, hO7, hg7, hM7, hE7, hk7, hf7, hv7⟩
            have hD7 := (HD6.out.swap.stepG (HS6.out.own (u8, gs) (by simp)) (Nat.le_refl _) hE7 hk7 hf7).swap
            obtain ⟨new, hos, hP7, _, hd7⟩ := hP.out.toB hM7 (by omega) (numsOf ka now) (by rw [HG6.out.bs.1]) HG6.out.bs.2
            have hS7 : SL w7 w0.heap.size [(.slice A9 lt.length c9, lt), (v7, gs ++ gs7), (.slice A7 ws.length c7, ws)] := (HS6.out.upd (L1 := [(.slice A6 fs.length c6, fs), (.slice A9 lt.length c9, lt)]) (L2 := [(.slice A7 ws.length c7, ws)]) hk7 HD6.out.b.no hO7 hv7).sub (List.Sublist.cons _ (List.Sublist.refl _))
            have HG7 : Hid ((gs ++ gs7).map Piece.bs = (D ++ new).map (TX T)) := hide (by rw [List.map_append, List.map_append, hG.out, hg7, hos])
            have HL7 : Hid (GFL T (D ++ new) lt lns) := hide (hL.out.more0 (fun x hx => List.mem_append_left _ hx))
            have HC7 : Hid (ka.ls = [] ∨ (now = 100 ∧ kb7.ds = (numsOf ka 100).map (fun (n : Nat) => (n : Int)))) := hide (by
              rcases hC.out with e | ⟨e1, e2⟩
              · exact .inl e
              · subst e1
                have e3 : now = 100 := by omega
                subst e3
                refine .inr ⟨rfl, ?_⟩
                rw [hd7 (by rw [e2, List.length_map]; simp; exact hfl), e2, List.nil_append])
            have ho8 := eout now hD7.b hP7.fb
            have hrq := hP7.b.recs_eq now
            have hds7 := hP7.fb.ds
            have HRC := hide (hP7.b.recs now ⟨hrq, by omega⟩)
            have HRL : Hid ((kb7.recs ++ kb7.carries now).length ≤ 32) := hide (by rw [hrq, List.length_map]; omega)
            have HP7 := hide hP7
            have HD7 := hide hD7
            have HS7 := hide hS7
            clear hmv hO7 hg7 hM7 hE7 hk7 hf7 hv7 hos hP7 hD7 hS7 hrq hds7 hd7 hG hL hC HG6 hP HD6 HS6
            go_wp2_with fail
            refine ho8.mono ?_
            rintro e w8 ⟨v8, rs, F8, rfl, hO8, hP8, hE8, hk8, hf8⟩
            have HS8 := hide (HS7.out.kept hk8 HD7.out.b.no)
            have HD8 := hide ((HD7.out.swap.step hE8 hk8 (fun q hq => .inl (hf8 q hq))).swap)
            have hrl : rs.length ≤ 32 := by have := HRL.out; rw [← hP8, List.length_map] at this; exact this
            have HRS : Hid (∀ p ∈ rs, p.bs.length ≤ 140737488355328) := hide (fun p hp => by
              obtain ⟨n, _, _, _, h4⟩ := HRC.out p.bs (by rw [← hP8]; exact List.mem_map_of_mem hp)
              rw [h4]
              exact frB_len _ _ _ _ _ (by simp))
            have HO8 := hide hO8
            have HP8 := hide hP8
            obtain ⟨A8, c8, rfl⟩ : ∃ A c, v8 = .slice A rs.length c := HO8.out.len
            have hmv := lmove_any A8 rs.length c8 (.slice none 0 0) rs [] HD8.out.a (HP7.out.fa.out now) HO8.out HRS.out (OwnF.nil w8 w8.heap.size) (Nat.le_refl _) (fun q hq => by cases hq) (by show ka.cnt + _ < _; rw [HP7.out.a.cnt]; omega) (by simp)
            clear ho8 hO8 hP8 hE8 hk8 hf8 HRC HRL HS7 HD7
            go_wp2_with fail
            refine hmv.mono ?_
            rintro e w9 ⟨v9, gs9, kA, FA, os9, rfl, _, _, hM9, hE9, hk9, hf9, _⟩
            have HD9 := hide (HD8.out.stepG (OwnF.nil w8 w0.heap.size) (Nat.le_refl _) hE9 hk9 hf9)
            have HS9 := hide (HS8.out.kept hk9 (fun j cur t hc ht e => e.elim (HD8.out.a.no j cur t hc ht) (fun e => by cases e)))
            rw [HP8.out] at hM9
            obtain ⟨hP9, hls9⟩ := HP7.out.back HC7.out hT60 hM9
            have HP9 := hide hP9
            have HC9 := hide hls9
            generalize kb7.sentAt now = kb8 at *
            clear hmv hM9 hE9 hk9 hf9 HD8 HS8 HP7 HC7 hP9 hls9 HP8
            have hap := HS9.out.apt
            rw [List.pairwise_cons] at hap
            have hne := (hap.1 (v7, gs ++ gs7) (by simp)).symm
            have hgl2 : (gs ++ gs7).length = (D ++ new).length := by have := congrArg List.length HG7.out; rw [List.length_map, List.length_map] at this; exact this
            have hdl2 := HP9.out.dlen
            have hcn2 := HP9.out.b.cnt
            have hmv := lmove_any A9 lt.length c9 v7 lt (gs ++ gs7) HD9.out.b HP9.out.fb (HS9.out.own (_, lt) (by simp)) (HL7.out.lens HP9.out.tl) (HS9.out.own (v7, gs ++ gs7) (by simp)) HD9.out.bel.size hne (by omega) (by omega)
            clear hap hne hgl2 hdl2 hcn2
            go_wp2_with fail
            · refine hmv.mono ?_
              rintro e wA ⟨vA, gsA, kbA, FbA, osA, rfl, hOA, hgA, hMA, hEA, hkA, hfA, hvA⟩
              have HDA := hide (HD9.out.swap.stepG (HS9.out.own (v7, gs ++ gs7) (by simp)) (Nat.le_refl _) hEA hkA hfA).swap
              obtain ⟨newA, hosA, hPA, _, _⟩ := HP9.out.toB hMA hT60 lns (by rw [HL7.out.bs.1]) HL7.out.bs.2
              have HSA := hide (HS9.out.upd (L1 := [(.slice A9 lt.length c9, lt)]) (L2 := [(.slice A7 ws.length c7, ws)]) hkA HD9.out.b.no hOA hvA)
              have HGA : Hid (((gs ++ gs7) ++ gsA).map Piece.bs = ((D ++ new) ++ newA).map (TX T)) := hide (by rw [List.map_append, List.map_append (l₁ := D ++ new), HG7.out, hgA, hosA])
              have HLA : Hid (GFL T ((D ++ new) ++ newA) lt lns) := hide (HL7.out.more0 (fun x hx => List.mem_append_left _ hx))
              have HPA := hide hPA
              clear hmv hOA hgA hMA hEA hkA hfA hvA hosA hPA HD9 HS9 HP9 HG7 HL7
              go_wp2_with fail
              go_roundw
              case rel => exact ⟨r + 1, (D ++ new) ++ newA, kA, kbA, FA, FbA, (gs ++ gs7) ++ gsA, by omega, by congr 1; omega, HDA, HSA, HPA, HGA, HLA, hide (.inl HC9.out)⟩
              case measure => simp [intOf]; omega
            · clear hmv
              go_roundw
              case rel => exact ⟨r + 1, D ++ new, kA, kb8, FA, F8, gs ++ gs7, by omega, by congr 1; omega, HD9, HS9, HP9, HG7, HL7, hide (.inl HC9.out)⟩
              case measure => simp [intOf]; omega
          · obtain ⟨now, hnow⟩ : ∃ now : Int, 100 + 3 * (r : Int) = now := ⟨_, rfl⟩
            have hn1 : ¬ now < 300 := by omega
            have hls : ka.ls = [] := by
              rcases hC.out with e | ⟨e, _⟩
              · exact e
              · omega
            have hgl : gs.length = D.length := by have := congrArg List.length hG.out; rw [List.length_map, List.length_map] at this; exact this
            have hall := hP.out.all hls
            have hgw : gs.length = ws.length := by have := HWS.out; omega
            obtain ⟨A8, c8, rfl⟩ : ∃ A c, u8 = .slice A ws.length c := by rw [← hgw]; exact (hS.out.own (u8, gs) (by simp)).len
            have hmm : ∀ x ∈ gs.map Piece.bs, x ∈ ws.map Piece.bs := fun x hx => by
              rw [hG.out] at hx
              obtain ⟨n, h1, rfl⟩ := List.mem_map.1 hx
              rw [hW.out]
              exact TX.mem (hP.out.dn n h1).1 (hP.out.dn n h1).2
            have hwl : ∀ p ∈ ws, p.bs.length ≤ 140737488355328 := fun p hp => by
              have h1 : p.bs ∈ ws.map Piece.bs := List.mem_map_of_mem hp
              rw [hW.out] at h1
              have := hP.out.tl _ h1
              omega
            have hgll : ∀ p ∈ gs, p.bs.length ≤ 140737488355328 := fun p hp => by
              have h1 := hmm p.bs (List.mem_map_of_mem hp)
              rw [hW.out] at h1
              have := hP.out.tl _ h1
              omega
            have ho := lonce_any A8 c8 A7 c7 gs ws (by have := hS.out.own (.slice A8 ws.length c8, gs) (by simp); rw [← hgw] at this; exact this) (hS.out.own (.slice A7 ws.length c7, ws) (by simp)) hgll hwl (by omega) (by have := HWS.out; omega) (by rw [hW.out]; exact HNO.out) (by rw [hG.out]; exact TX.nodup HNO.out hP.out.nd hP.out.dn) hmm
            rw [hgw] at ho
            rw [hnow]
            have HGW := hide hgw
            have HLS := hide hls
            clear hgll hwl hmm hall hgl hnow hgw hls
            go_wp2_with fail
            refine ho.mono ?_
            rintro e w6 ⟨rfl, hb6⟩
            have hwt := ewaiting ((hD.out.below hb6).a)
            rw [HLS.out] at hwt
            have HBE := hide (hD.out.below hb6).bel
            clear ho hb6 hD
            go_wp2_with fail
            refine hwt.mono ?_
            rintro e w7 ⟨rfl, rfl⟩
            go_wp2_with fail
            go_ret
            exact ⟨rfl, HB0.out.trans (HBE.out.mono HB0.out.size)⟩
end Go.Proofs.Ytpbfibofjkinmaa
