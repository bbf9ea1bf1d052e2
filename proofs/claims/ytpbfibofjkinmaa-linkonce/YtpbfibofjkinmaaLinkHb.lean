/-
  The walk of LinkAnew. Condition: what comes in is in reach.
-/
import Derived.Test.YtpbfibofjkinmaaLinkHa
set_option linter.unusedSimpArgs false
set_option linter.unusedVariables false
namespace Go.Proofs.Ytpbfibofjkinmaa
open Go.RowKit Go.Maps

theorem and_255 (q : Int) : bits .and .i64 q 255 = q % 256 := and_mask' q 8 (by omega)
/-- Texts that bear numbers below j in front, no one twice. -/
def Firsts (L : List (List UInt8)) (j : Nat) : Prop := L.Nodup ∧ ∀ x ∈ L, ∃ b r, x = b :: r ∧ b.toNat < j
theorem Firsts.more {L : List (List UInt8)} {j : Nat} (h : Firsts L j) : Firsts L (j + 1) := ⟨h.1, fun x hx => by
  obtain ⟨b, r, e, h1⟩ := h.2 x hx
  exact ⟨b, r, e, by omega⟩⟩
theorem Firsts.snoc {L : List (List UInt8)} {j : Nat} (h : Firsts L j) (hj : j < 256) (r : List UInt8) : Firsts (L ++ [UInt8.ofNat j :: r]) (j + 1) := by
  have hb : (UInt8.ofNat j).toNat = j := by simp; omega
  refine ⟨List.nodup_append.2 ⟨h.1, by simp, fun x hx y hy => ?_⟩, fun x hx => ?_⟩
  · simp at hy
    subst hy
    rintro rfl
    obtain ⟨b, r', e, h1⟩ := h.2 _ hx
    injection e with e1 _
    rw [← e1] at h1
    omega
  · rcases List.mem_append.1 hx with h1 | h1
    · exact h.more.2 x h1
    · simp at h1
      exact ⟨_, _, h1, by omega⟩

set_option maxHeartbeats 4000000 in
set_option maxRecDepth 20000 in
theorem linkAnew_walk (n : Int) (A1 : Option Addr) (n1 c1 : Nat) (qs1 : List Piece) (w : World) (h1 : HasP w w.heap.size A1 qs1) (e1 : qs1.length = n1) (b1 : n1 ≤ 5864062014805 ∧ ∀ p ∈ qs1, p.len ≤ 140737488351232) (_ : (Lit.int .i64 n).wf = true) :
    Calls Try.prog 13 #[.int .i64 n, .slice A1 n1 c1] w fun e w' => e = .returned (.bool true) ∧ Below w.heap.size w w' := by
  obtain ⟨b1, b2⟩ := b1
  have HB2 := hide b2
  have HN1 := hide e1
  have HH1 := hide h1
  clear e1 h1 b2
  have hm := and_255 n
  obtain ⟨kk, hkk⟩ : ∃ kk : Nat, n % 256 = (kk : Int) := ⟨(n % 256).toNat, by omega⟩
  have hk256 : kk < 256 := by omega
  rw [hkk] at hm
  clear hkk
  go_enter Try.func13, Try.ntmps13
  go_wp2_with fail
  refine (head13_any w).mono ?_
  rintro e w0 ⟨rfl, hb0⟩
  go_wp2_with fail
  refine (enew 3 2 w0).mono ?_
  rintro e w1 ⟨rfl, hE1, hb1⟩
  go_wp2_with fail
  refine (enew 1 2 w1).mono ?_
  rintro e w2 ⟨rfl, hE2, hb2⟩
  have hz1 := (hE1.lt w0.heap.size rfl).2
  have hD2 : Duo w0 w2 w0.heap.size w1.heap.size (Lk.new 3 2) (Lk.new 1 2) (fun j => j = w0.heap.size) (fun j => j = w1.heap.size) :=
    ⟨hE1.below hb2, hE2.from_ hb1.size, fun j h1 h2 => by omega, hb1.trans (hb2.mono hb1.size)⟩
  generalize w0.heap.size = ga at *
  generalize w1.heap.size = gb at *
  have HB0 := hide hb0
  have HD2 := hide hD2
  clear hE1 hb1 hE2 hb2 hz1 hD2 hb0
  go_wp2_with fail
  go_loopw [7] (fun i wr => ∃ (j : Nat) (ka kb : Lk) (Fa Fb : Nat → Prop), j ≤ kk ∧ i = .int .i64 (j : Int) ∧ Hid (Duo w0 wr ga gb ka kb Fa Fb) ∧ Hid (SS ka 3 j 0) ∧ Hid (Fit ka) ∧ Hid (B1 kb 3 j) ∧ Hid (Fit kb)) (fun i _ => kk - (intOf i).toNat)
  case atStart => exact ⟨0, _, _, _, _, by omega, rfl, HD2, hide ⟨rfl, rfl, rfl, rfl, rfl⟩, hide (Fit.new 3 2), hide ⟨.inr ⟨rfl, rfl⟩, rfl, fun _ => rfl, rfl, rfl, Nat.le_refl _⟩, hide (Fit.new 1 2)⟩
  case round =>
    clear HD2
    obtain ⟨j, ka, kb, Fa, Fb, hj, rfl, hD, hS, hF, hB, hFb⟩ := hrel
    by_cases hlt : j < kk
    · have hu8 : IntKind.u8.wrap (j : Int) = (j : Int) := by rw [IntKind.wrap_u8]; omega
      have hmul : IntKind.i64.wrap (10 * (j : Int)) = 10 * (j : Int) := IntWalk.i64_in _ (by omega)
      have hsl := hS.out.len
      have hla := hS.out.last
      have hU := (unS_none hS.out).1
      have hsd := esend1 (j : Int) hD.out.a hF.out (by omega) (by omega) (by omega)
      rw [hS.out.sendE _ (by omega), if_pos (by omega)] at hsd
      have hjk : (j : Int) < (kk : Int) := by omega
      clear hsl
      go_wp2_with fail
      refine hsd.mono ?_
      rintro e wA ⟨rfl, kA, FA, hEA, hkA, hfA, hsA⟩
      have hFA := hF.out.send hsA (by omega)
      have hSA := hS.out.send hsA (by omega) (by simp)
      have hUA := UnS.send hU hsA
      have hDA := hD.out.step hEA hkA hfA
      have hoA := eout (10 * (j : Int)) hDA.a hFA
      have HFA := hide hFA
      have HSA := hide hSA
      have HUA := hide hUA
      have HDA := hide hDA
      clear hsd hEA hkA hfA hsA hD hS hF hla hU hFA hSA hUA hDA
      go_wp2_with fail
      refine hoA.mono ?_
      rintro e wB ⟨vB, psB, FB, rfl, hOB, hPB, hEB, hkB, hfB⟩
      have hDB := HDA.out.step hEB hkB (fun q hq => .inl (hfB q hq))
      have hcar := SS.carries (lf := 3) HSA.out HUA.out HDA.out.a.dat (10 * (j : Int))
      have hplB := pieces_le (lf := 3) HSA.out HDA.out.a.dat (10 * (j : Int)) hPB
      have e2 : kA.recs = [] := by unfold Lk.recs; rw [HSA.out.ds]; rfl
      rw [e2, List.nil_append] at hPB
      have hlB : psB.length = 1 := by have := congrArg List.length hPB; rw [List.length_map, hcar.1] at this; exact this
      obtain ⟨xs, hxs, hfr⟩ : ∃ xs : List UInt8, xs.length ≤ 65472 ∧ psB.map Piece.bs = [frB 1 3 (j + 1) (j + 1) xs] := by
        obtain ⟨xs, x1, x2⟩ := hcar.2 0 (by rw [hcar.1]; omega)
        refine ⟨xs, x1, ?_⟩
        rw [hPB]
        obtain ⟨f, hf⟩ := List.length_eq_one_iff.1 hcar.1
        simp only [hf, List.getElem_cons_zero] at x2
        rw [hf, x2]
      obtain ⟨AB, cB, rfl⟩ := hOB.len
      have hmv := lmove_any AB psB.length cB (.slice none 0 0) psB [] hDB.b hFb.out hOB hplB (OwnF.nil wB wB.heap.size) (Nat.le_refl _) (fun q hq => by cases hq) (by have := hB.out.cnt; omega) (by simp)
      have hSB := HSA.out.out (10 * (j : Int))
      have hFB := HFA.out.out (10 * (j : Int))
      have HSB := hide hSB
      have HFB := hide hFB
      have HDB := hide hDB
      have HFR := hide hfr
      clear hoA hOB hPB hEB hkB hfB hDB hcar hplB e2 hlB hfr hSB hFB HSA HFA HUA HDA
      go_wp2_with fail
      refine hmv.mono ?_
      rintro e wC ⟨vC, gsC, kC, FC, osC, rfl, _, _, hMC, hEC, hkC, hfC, _⟩
      have hDC := HDB.out.swap.stepG (OwnF.nil wB w0.heap.size) (Nat.le_refl _) hEC hkC hfC
      obtain ⟨oC, hiC, _⟩ := hMC.one HFR.out
      obtain ⟨_, q1, q2, q3, q4⟩ := hB.out.next hiC (by omega) (by omega) hxs
      have hFC := (hMC.fit hFb.out).1
      have hoC := eout (10 * (j : Int)) hDC.a hFC
      have HQ1 : Hid (B1 (kC.sentAt (10 * (j : Int))) 3 (j + 1)) := hide (by rw [sentAt_nil q4 (10 * (j : Int)) 0]; exact q1)
      have HRC := hide (recs_one q2 q3 q4 (10 * (j : Int)))
      have HDC := hide hDC
      have HFC := hide hFC
      clear hmv hMC hEC hkC hfC hDC hiC q1 q2 q3 q4 hFC hB hFb HDB HFR hxs
      go_wp2_with fail
      refine hoC.mono ?_
      rintro e wD ⟨vD, psD, FD, rfl, hOD, hPD, hED, hkD, hfD⟩
      have hDD := HDC.out.step hED hkD (fun q hq => .inl (hfD q hq))
      rw [HRC.out] at hPD
      have hlD : psD.length = 1 := by have := congrArg List.length hPD; simpa using this
      have hplD : ∀ p ∈ psD, p.bs.length ≤ 140737488355328 := fun p hp => by
        have h1 : p.bs ∈ psD.map Piece.bs := List.mem_map_of_mem hp
        rw [hPD] at h1
        simp at h1
        rw [h1]
        exact frB_len _ _ _ _ _ (by simp)
      obtain ⟨AD, cD, rfl⟩ := hOD.len
      have hmv := lmove_any AD psD.length cD (.slice none 0 0) psD [] hDD.b HFB.out hOD hplD (OwnF.nil wD wD.heap.size) (Nat.le_refl _) (fun q hq => by cases hq) (by rw [HSB.out.cnt]; omega) (by simp)
      have HDD := hide hDD
      have HPD := hide hPD
      have HFD := hide (HFC.out.out (10 * (j : Int)))
      clear hoC hOD hED hkD hfD hDD hplD hlD hPD HRC HDC HFC
      go_wp2_with fail
      refine hmv.mono ?_
      rintro e wE ⟨vE, gsE, kE, FE, osE, rfl, _, _, hME, hEE, hkE, hfE, _⟩
      have HDE := hide ((HDD.out.swap.stepG (OwnF.nil wD w0.heap.size) (Nat.le_refl _) hEE hkE hfE))
      have hSE := (SS.move (lf := 3) HSB.out hME (by rw [HPD.out]; simp) (by omega) (by omega) (fun i hi => by
        have hi0 : i = 0 := by rw [HPD.out] at hi; simpa using hi
        subst hi0
        simp only [HPD.out, List.getElem_cons_zero]
        congr 1)).1
      rw [HPD.out] at hSE
      have HSE := hide hSE
      have HFE := hide (hME.fit HFB.out).1
      clear hmv hME hEE hkE hfE hSE HDD HPD HSB HFB
      go_wp2_with fail
      go_roundw
      case rel => exact ⟨j + 1, kE, kC.sentAt (10 * (j : Int)), FE, FD, by omega, by go_num, HDE, HSE, HFE, HQ1, HFD⟩
      case measure => simp [intOf]; omega
    · obtain rfl : kk = j := by omega
      clear hFb hB
      go_wp2_with fail
      refine (enew 2 2 wr).mono ?_
      rintro e w3 ⟨rfl, hE3, hb3⟩
      have hzr := hD.out.bel.size
      have hD3 : Duo w0 w3 ga wr.heap.size ka (Lk.new 2 2) Fa (fun q => q = wr.heap.size) :=
        ⟨hD.out.a.below hb3, hE3.from_ (by omega), fun q h1 h2 => by have := (hD.out.a.lt q h1).2; omega, hD.out.bel.trans (hb3.mono hzr)⟩
      have hD4 := hD3.below ((Below.refl _ _).alloc (Nat.le_refl _) (.cells #[] 32))
      have hO4 : OwnF (w3.alloc (.cells #[] 32)) w0.heap.size (.slice (some ⟨w3.heap.size, 0, none⟩) 0 0) [] := OwnF.empty w3 w3.heap.size w0.heap.size rfl hD3.bel.size
      generalize wr.heap.size = gc at *
      have HD4 := hide hD4
      have HO4 := hide hO4
      obtain ⟨hU4, hls4⟩ := unS_none hS.out
      have HU4 := hide hU4
      have HLS : Hid (([] : List Piece).map Piece.bs = ka.ls.map Ltr.xs) := hide (by rw [hls4]; rfl)
      clear hE3 hb3 hzr hD3 hD4 hO4 hU4 hls4 hD
      go_wp2_with fail
      generalize w3.alloc (.cells #[] 32) = w4 at *
      go_loopw [8, 9] (fun s8 i wr => ∃ (j m : Nat) (ka : Lk) (Fa : Nat → Prop) (ws : List Piece), j ≤ n1 ∧ j ≤ 32 ∧ m ≤ j ∧ i = .int .i64 (j : Int) ∧ Hid (Duo w0 wr ga gc ka (Lk.new 2 2) Fa (fun q => q = gc)) ∧ Hid (SS ka 3 kk m) ∧ Hid (Fit ka) ∧ Hid (UnS ka) ∧ Hid (OwnF wr w0.heap.size s8 ws) ∧ Hid (ws.map Piece.bs = ka.ls.map Ltr.xs) ∧ Hid (Firsts (ws.map Piece.bs) j)) (fun _ i _ => 32 - (intOf i).toNat)
      case atStart => exact ⟨0, 0, _, _, [], by omega, by omega, by omega, rfl, HD4, hS, hF, HU4, HO4, HLS, hide ⟨by simp, by simp⟩⟩
      case round =>
        clear HD4 hS hF HU4 HO4 HLS
        obtain ⟨j, m, ka, Fa, ws, hjn, hj32, hmj, rfl, hD, hS, hF, hU, hO, hL, hFi⟩ := hrel
        have hwl : ws.length = m := by have := congrArg List.length hL.out; rw [List.length_map, List.length_map, hS.out.len] at this; exact this
        by_cases hlt : j < n1 ∧ j < 32
        · obtain ⟨hl1, hl2⟩ := hlt
          have hbr : Below w.heap.size w wr := HB0.out.trans (hD.out.bel.mono HB0.out.size)
          have hcap := HB2.out _ (List.getElem_mem (show j < qs1.length by rw [HN1.out]; exact hl1))
          obtain ⟨⟨b, o, rfl, hbb, hcell⟩, hx, hxn, hxl⟩ := (HH1.out.below hbr) j (by rw [HN1.out]; exact hl1)
          generalize qs1[j]'(by rw [HN1.out]; exact hl1) = p at *
          obtain ⟨pA, pn, pc, pb⟩ := p
          simp only at hx hxn hxl hcap
          subst hxn
          have hcell' : wr.cell? ⟨b, o + j, none⟩ = some (.slice pA pb.length pc) := hcell
          have hu8 : IntKind.u8.wrap (j : Int) = (j : Int) := by rw [IntKind.wrap_u8]; omega
          have hba : Below wr.heap.size wr (wr.alloc (.cells #[.int .u8 (j : Int), .int .u8 9] 5)) := (Below.refl _ _).alloc (Nat.le_refl _) _
          have hjb : ((UInt8.ofNat j).toNat : Int) = (j : Int) := by simp; omega
          have hown : Own (wr.alloc (.cells #[.int .u8 (j : Int), .int .u8 9] 5)) w0.heap.size (.slice (some ⟨wr.heap.size, 0, none⟩) 2 2) [UInt8.ofNat j, 9] := by
            have := Own.new wr [UInt8.ofNat j, 9] wr.heap.size w0.heap.size rfl hD.out.bel.size (by simp)
            have e : bcells [UInt8.ofNat j, 9] = #[.int .u8 (j : Int), .int .u8 9] := by simp [bcells, byt]; omega
            rw [e] at this
            exact this
          have hx3 : Has (wr.alloc (.cells #[.int .u8 (j : Int), .int .u8 9] 5)) w.heap.size pA pb := hx.below (hba.mono hbr.size)
          have hD3 := hD.out.below hba
          have hO3 := hO.out.below hba
          have hbz : w0.heap.size ≤ (wr.alloc (.cells #[.int .u8 (j : Int), .int .u8 9] 5)).heap.size := hD3.bel.size
          have hcell3 : (wr.alloc (.cells #[.int .u8 (j : Int), .int .u8 9] 5)).cell? ⟨b, o + j, none⟩ = some (.slice pA pb.length pc) := (hba.cell (p := ⟨b, o + j, none⟩) (Nat.lt_of_lt_of_le hbb hbr.size)).trans hcell'
          have i1 : (j : Int) < (n1 : Int) := by omega
          have i2 : (j : Int) < 32 := by omega
          have HLN : Hid (([UInt8.ofNat j, 9] : List UInt8).length + pb.length ≤ 140737488355328) := hide (by simp; omega)
          have hsl := hS.out.len
          have hla := hS.out.last
          have hzr : wr.heap.size ≤ (wr.alloc (.cells #[.int .u8 (j : Int), .int .u8 9] 5)).heap.size := hba.size
          have HHX := hide hx3
          have HOW := hide hown
          have HBA := hide hba
          have hgv : ∀ q, (Value.slice (some ⟨wr.heap.size, 0, none⟩) 2 2).ownBlock = some q → wr.heap.size ≤ q := fun q hq => by injection hq with hq; exact Nat.le_of_eq hq
          clear hcell hx hxl hbr hba hown hx3 hD3 hO3 hcell'
          go_upto_region 18 with (at_builtin; refine list_append_bytes _ rfl (.tmp 54) (.tmp 58) rfl w0.heap.size _ [UInt8.ofNat j, 9] rfl HOW.out w.heap.size pA pb.length pc pb rfl HHX.out rfl HLN.out hbz ?_; intro v5 w5 ho5 hg5 hat5)
          obtain ⟨A5, n5, c5, rfl, hn5, _, hx5, _⟩ := ho5.form
          have hb5 : Below wr.heap.size wr w5 := HBA.out.grown hg5 HBA.out.size hgv
          have hD5 := hD.out.below hb5
          have hO5 := hO.out.below hb5
          have hln5 : ([UInt8.ofNat j, 9] ++ pb).length ≤ 140737488355328 := by rw [List.length_append]; exact HLN.out
          have hcp := copy_any A5 n5 c5 ([UInt8.ofNat j, 9] ++ pb) w5 hx5 hn5.out (by rw [← hn5.out]; exact hln5)
          have hsd := copySend ([UInt8.ofNat j, 9] ++ pb) hD5.a hF.out hln5 (by omega) (by omega)
          have HFD := hide (hFi.out.snoc (by omega) (9 :: pb))
          have HFM := hide hFi.out.more
          rw [show UInt8.ofNat j :: 9 :: pb = [UInt8.ofNat j, 9] ++ pb from rfl] at HFD
          have hn5' := hn5.out
          generalize [UInt8.ofNat j, 9] ++ pb = D at *
          subst hn5'
          have HD5 := hide hD5
          have HO5 := hide hO5
          have HOW5 := hide ho5
          clear hb5 hD5 hO5 hln5 hx5 hg5 hat5 HBA HOW HHX HLN hcell3 hgv hD hO hFi hzr hbz hsl ho5
          go_wp2_with fail
          refine hcp.mono ?_
          rintro e wA ⟨rfl, rfl⟩
          clear hcp
          go_wp2_with fail
          refine hsd.mono ?_
          rintro e wB ⟨rfl, kB, FB, hEB, hkB, hfB, hsB⟩
          have HFB := hide (hF.out.send hsB (by omega))
          have HUB := hide (hU.out.send hsB)
          have HDB := hide (HD5.out.step hEB hkB hfB)
          have HOB := hide (HD5.out.a.ownF HO5.out hkB)
          have HQB := hide (HD5.out.a.own HOW5.out hkB)
          rcases ss_send_any hS.out hsB (by omega) with ⟨hz, h⟩ | ⟨hz, rfl⟩
          · have HSB := hide h
            have HXB := hide (send_xs hsB hz)
            have t0 : (sendE ka D.length == 0) = true := by rw [hz]; rfl
            generalize sendE ka D.length = se at *
            have hzb : w0.heap.size ≤ wB.heap.size := HDB.out.bel.size
            have hba : Below wB.heap.size wB (wB.alloc (.cells #[.slice A5 D.length c5] 32)) := (Below.refl _ _).alloc (Nat.le_refl _) _
            have HDC := hide (HDB.out.below hba)
            have HOC := hide (HOB.out.below hba)
            have HQC := hide (HQB.out.below hba)
            have HWL : Hid (ws.length + 1 ≤ 1099511627776) := hide (by omega)
            clear hsd hEB hkB hfB hsB hS hF hU hla h hz hba HD5 HO5 HOW5 HDB HOB HQB HFM
            go_wp2_with (at_builtin; refine list_append_piece _ rfl (.tmp 65) (.tmp 67) rfl w0.heap.size _ ws rfl HOC.out.row ⟨wB.heap.size, 0, none⟩ 1 ⟨A5, D.length, c5, D⟩ rfl (by simp [Piece.val]) HWL.out (by simp; omega) ?_; intro v6 w6 ho6 hg6 hat6)
            have HO6 := hide (HOC.out.app (p := ⟨A5, D.length, c5, D⟩) HQC.out ho6 hg6)
            have HD6 := hide (HDC.out.grownF HOC.out (Nat.le_refl _) hg6)
            have HL6 : Hid ((ws ++ [(⟨A5, D.length, c5, D⟩ : Piece)]).map Piece.bs = kB.ls.map Ltr.xs) := hide (by rw [HXB.out, List.map_append, hL.out]; rfl)
            have HF6 : Hid (Firsts ((ws ++ [(⟨A5, D.length, c5, D⟩ : Piece)]).map Piece.bs) (j + 1)) := hide (by rw [List.map_append]; exact HFD.out)
            clear ho6 hg6 hat6 HDC HOC HQC
            go_roundw
            case rel => exact ⟨j + 1, m + 1, kB, FB, _, by omega, by omega, by omega, by go_num, HD6, HSB, HFB, HUB, HO6, HL6, HF6⟩
            case measure => simp [intOf]; omega
          · have t0 : (sendE kB D.length == 0) = false := by rw [beq_eq_false_iff_ne]; exact hz
            generalize sendE kB D.length = se at *
            clear hsd hEB hkB hfB hsB hF hU hla hz HD5 HO5 HOW5 HFD HQB
            go_wp2_with fail
            go_roundw
            case rel => exact ⟨j + 1, m, kB, FB, ws, by omega, by omega, by omega, by go_num, HDB, hS, HFB, HUB, HOB, hL, HFM⟩
            case measure => simp [intOf]; omega
        · obtain ⟨x2, hxj⟩ : ∃ x2 : Int, (j : Int) = x2 := ⟨_, rfl⟩
          have hex : decide (x2 < (n1 : Int)) = false ∨ (decide (x2 < (n1 : Int)) = true ∧ decide (x2 < 32) = false) := by
            rcases Nat.lt_or_ge j n1 with h | h
            · exact .inr ⟨decide_eq_true (by omega), decide_eq_false (by omega)⟩
            · exact .inl (decide_eq_false (by omega))
          rw [hxj]
          have hm32 : m ≤ 32 := by omega
          clear hlt hxj hjn hj32
          have ho := eout 5000 hD.out.a hF.out
          obtain ⟨Aw, cw, rfl⟩ := hO.out.len
          rw [hwl]
          rcases hex with d3 | ⟨d3, d4⟩
          all_goals
            go_wp2_with fail
            refine ho.mono ?_
            rintro e w6 ⟨v6, ps, F6, rfl, hO6, hP6, hE6, hk6, hf6⟩
            have hD6 := hD.out.step hE6 hk6 (fun q hq => .inl (hf6 q hq))
            have hdat := hD.out.a.dat
            have hpl := pieces_le (lf := 3) hS.out hdat 5000 hP6
            obtain ⟨x1, x3, x4⟩ := SS.carries2 (lf := 3) hS.out hU.out hdat 5000
            have e2 : ka.recs = [] := by unfold Lk.recs; rw [hS.out.ds]; rfl
            rw [e2, List.nil_append] at hP6
            have hps : ps.length = m := by have := congrArg List.length hP6; rw [List.length_map, x1] at this; exact this
            obtain ⟨A6, c6, rfl⟩ := hO6.len
            have hmv := lmove_any A6 ps.length c6 (.slice none 0 0) ps [] hD6.b (Fit.new 2 2) hO6 hpl (OwnF.nil w6 w6.heap.size) (Nat.le_refl _) (fun q hq => by cases hq) (by
              show 0 + ps.length < 4096
              omega) (by simp)
            have HW6 := hide (hD.out.a.ownF hO.out hk6)
            have HD6 := hide hD6
            have HS6 := hide (hS.out.out 5000)
            have HF6 := hide (hF.out.out 5000)
            have HXS : Hid (∀ x ∈ ka.ls.map Ltr.xs, x.length ≤ 65472) := hide (fun x hx => by
              obtain ⟨l, hl, rfl⟩ := List.mem_map.1 hx
              exact hdat l hl)
            have HFR : Hid (∀ i (hi : i < (ps.map Piece.bs).length) (hi' : i < (ka.ls.map Ltr.xs).length), (ka.ls.map Ltr.xs)[i].length ≤ 65472 ∧ (ps.map Piece.bs)[i] = frB 1 3 (kk + i + 1) (kk + 1) (ka.ls.map Ltr.xs)[i]) := hide (fun i hi hi' => by
              have hi2 : i < (ka.carries 5000).length := by rw [← hP6]; exact hi
              have h5 := x4 i hi2 hi'
              refine ⟨h5.1, ?_⟩
              rw [← h5.2]
              have h1 : (ps.map Piece.bs)[i]? = (ka.carries 5000)[i]? := by rw [hP6]
              rw [List.getElem?_eq_getElem hi, List.getElem?_eq_getElem hi2] at h1
              exact Option.some.inj h1)
            have HX3 := hide x3
            have HPS := hide hps
            clear ho hE6 hk6 hf6 hP6 x1 x3 x4 hps hpl hO6 hD6 hdat e2 hD hO hS hF hU
            go_wp2_with fail
            refine hmv.mono ?_
            rintro e w7 ⟨v7, gs7, kb7, Fb7, os7, rfl, hO7, hg7, hM7, hE7, hk7, hf7, _⟩
            have hD7 := HD6.out.swap.stepG (OwnF.nil w6 w0.heap.size) (Nat.le_refl _) hE7 hk7 hf7
            have HW7 := hide (HW6.out.kept hk7 (fun j cur t hc ht e => e.elim (HD6.out.b.no j cur t hc ht) (fun e => by cases e)))
            obtain ⟨hB7, hos7⟩ := (BD.new 2 2 3 kk).move hM7 (by rw [List.length_map, HPS.out]; omega) (by omega) (by omega) (by rw [HX3.out, List.length_map, HPS.out]) (fun i hi => HFR.out i hi (by rw [HX3.out]; rw [List.length_map, HPS.out] at hi; exact hi))
            rw [List.length_map, HPS.out] at hB7
            rw [List.nil_append] at hO7
            have hgw : gs7.map Piece.bs = ws.map Piece.bs := by rw [hg7, hos7, hL.out]
            have hgl : gs7.length = m := by have := congrArg List.length hgw; rw [List.length_map, List.length_map, hwl] at this; exact this
            obtain ⟨A7, c7, rfl⟩ := hO7.len
            have hF7 := (hM7.fit (Fit.new 2 2)).1
            have ho8 := eout 5000 hD7.a hF7
            have HD7 := hide hD7
            have HB7 := hide hB7
            have HG7 := hide hO7
            have HGW := hide hgw
            rw [hgl]
            have HGL := hide hgl
            clear hmv hO7 hg7 hM7 hE7 hk7 hf7 hD7 hB7 hos7 hgw hF7 hgl HFR HX3 HPS HD6 HW6
            go_wp2_with fail
            refine ho8.mono ?_
            rintro e w8 ⟨v8, ps8, F8, rfl, hO8, hP8, hE8, hk8, hf8⟩
            have hD8 := HD7.out.step hE8 hk8 (fun q hq => .inl (hf8 q hq))
            have HW8 := hide (HD7.out.a.ownF HW7.out hk8)
            have HG8 := hide (HD7.out.a.ownF HG7.out hk8)
            obtain ⟨r1, r2⟩ := HB7.out.recs 5000
            have hps8 : ps8.length = m := by have := congrArg List.length hP8; rw [List.length_map, r1] at this; exact this
            have hb8 : ∀ i (hi : i < (ps8.map Piece.bs).length), (ps8.map Piece.bs)[i] = frB 2 3 (kk + i + 1) 0 [] := fun i hi => by
              have h1 : (ps8.map Piece.bs)[i]? = (kb7.recs ++ kb7.carries 5000)[i]? := by rw [hP8]
              rw [List.getElem?_eq_getElem hi, List.getElem?_eq_getElem (by rw [← hP8]; exact hi), r2] at h1
              exact Option.some.inj h1
            have hpl8 : ∀ p ∈ ps8, p.bs.length ≤ 140737488355328 := fun p hp => by
              obtain ⟨i, hi, rfl⟩ := List.getElem_of_mem hp
              have := hb8 i (by simpa using hi)
              rw [List.getElem_map] at this
              rw [this]
              exact frB_len _ _ _ _ _ (by simp)
            obtain ⟨A8, c8, rfl⟩ := hO8.len
            have hmv := lmove_any A8 ps8.length c8 (.slice none 0 0) ps8 [] hD8.b HF6.out hO8 hpl8 (OwnF.nil w8 w8.heap.size) (Nat.le_refl _) (fun q hq => by cases hq) (by
              rw [HS6.out.cnt]
              omega) (by simp)
            have HD8 := hide hD8
            have HBS := hide hb8
            have HPS8 := hide hps8
            clear ho8 hO8 hP8 hE8 hk8 hf8 hD8 r1 r2 hb8 hps8 hpl8 HD7 HW7 HG7 HB7
            go_wp2_with fail
            refine hmv.mono ?_
            rintro e w9 ⟨v9, gs9, ka9, Fa9, os9, rfl, _, _, hM9, hE9, hk9, hf9, _⟩
            have hD9 := HD8.out.swap.stepG (OwnF.nil w8 w0.heap.size) (Nat.le_refl _) hE9 hk9 hf9
            have hW9 := HW8.out.kept hk9 (fun j cur t hc ht e => e.elim (HD8.out.b.no j cur t hc ht) (fun e => by cases e))
            have hG9 := HG8.out.kept hk9 (fun j cur t hc ht e => e.elim (HD8.out.b.no j cur t hc ht) (fun e => by cases e))
            have hS9 := (SS.move (lf := 3) HS6.out hM9 (by rw [List.length_map, HPS8.out]; omega) (by omega) (by omega) HBS.out).1
            rw [List.length_map, HPS8.out, Nat.sub_self] at hS9
            have hon := lonce_any A7 c7 Aw cw gs7 ws hG9 hW9 (fun p hp => by
              have h1 : p.bs ∈ gs7.map Piece.bs := List.mem_map_of_mem hp
              rw [HGW.out, hL.out] at h1
              have := HXS.out _ h1
              omega) (fun p hp => by
              have h1 : p.bs ∈ ws.map Piece.bs := List.mem_map_of_mem hp
              rw [hL.out] at h1
              have := HXS.out _ h1
              omega) (by rw [HGL.out]; omega) (by omega) hFi.out.1 (by rw [HGW.out]; exact hFi.out.1) (fun x hx => by rw [HGW.out] at hx; exact hx)
            rw [HGL.out, hwl] at hon
            have HD9 := hide hD9
            have HS9 := hide hS9
            clear hmv hM9 hE9 hk9 hf9 hD9 hW9 hG9 hS9 HD8 HW8 HG8 HS6 HF6 HBS HPS8
            go_wp2_with fail
            refine hon.mono ?_
            rintro e wA ⟨rfl, hbA⟩
            have hDA := HD9.out.below hbA
            have hwt := ewaiting hDA.a
            rw [HS9.out.len] at hwt
            have HFN := hide (HB0.out.trans (hDA.bel.mono HB0.out.size))
            clear hon hbA hDA HD9
            go_wp2_with fail
            refine hwt.mono ?_
            rintro e wB ⟨rfl, rfl⟩
            clear hwt
            go_wp2_with fail
            go_ret
            exact ⟨rfl, HFN.out⟩
end Go.Proofs.Ytpbfibofjkinmaa
