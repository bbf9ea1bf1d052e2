/-
  The walk of LinkLives. Condition: what comes in is in reach.
-/
import Derived.Test.YtpbfibofjkinmaaLinkGa
set_option linter.unusedSimpArgs false
set_option linter.unusedVariables false
namespace Go.Proofs.Ytpbfibofjkinmaa
open Go.RowKit Go.Maps

/-- A copy that is sent. -/
theorem copySend {w : World} {base g : Nat} {k : Lk} {F : Nat → Prop} (xs : List UInt8) (h : EK w base g k F) (hf : Fit k) (hx : xs.length ≤ 140737488355328) (h1 : k.last ≤ 1099511627776) (hl : k.ls.length < 4096) :
    Calls Try.prog 38 #[.pointer (some ⟨g, 0, none⟩), .slice (some ⟨w.heap.size, 0, none⟩) xs.length xs.length] (w.alloc (.cells (bcells xs) 5)) fun e w' => e = .returned (.int .i64 (sendE k xs.length)) ∧ ∃ k' F', EK w' base g k' F' ∧ Kept F w w' ∧ (∀ q, F' q → F q ∨ w.heap.size ≤ q) ∧ SendP k xs k' := by
  have hba : Below w.heap.size w (w.alloc (.cells (bcells xs) 5)) := (Below.refl _ _).alloc (Nat.le_refl _) _
  refine (esend (some ⟨w.heap.size, 0, none⟩) xs.length xs.length xs (h.below hba) hf (Own.new w xs w.heap.size 0 rfl (Nat.zero_le _) hx) h1 hl).mono ?_
  rintro e w' ⟨rfl, k', F', a1, a2, a3, a4⟩
  exact ⟨rfl, k', F', a1, (Kept.of_below (F := F) hba).step a2 (fun q hq => .inl hq), fun q hq => (a3 q hq).elim .inl (fun e => .inr (by have := hba.size; omega)), a4⟩

set_option maxHeartbeats 4000000 in
set_option maxRecDepth 20000 in
theorem linkLives_walk (A0 : Option Addr) (n0 c0 : Nat) (qs0 : List Piece) (A1 : Option Addr) (n1 c1 : Nat) (qs1 : List Piece) (w : World) (h0 : HasP w w.heap.size A0 qs0) (h1 : HasP w w.heap.size A1 qs1) (e0 : qs0.length = n0) (b0 : n0 ≤ 5864062014805) (e1 : qs1.length = n1) (b1 : n1 ≤ 5864062014805) :
    Calls Try.prog 11 #[.slice A0 n0 c0, .slice A1 n1 c1] w fun e w' => e = .returned (.bool true) ∧ Below w.heap.size w w' := by
  have HN0 := hide e0
  have HN1 := hide e1
  have HH0 := hide h0
  have HH1 := hide h1
  clear e0 e1 h0 h1
  go_enter Try.func11, Try.ntmps11
  go_wp2_with fail
  refine (head13_any w).mono ?_
  rintro e w0 ⟨rfl, hb0⟩
  go_wp2_with fail
  refine (enew 4 5 w0).mono ?_
  rintro e w1 ⟨rfl, hE1, hb1⟩
  go_wp2_with fail
  refine (enew 9 5 w1).mono ?_
  rintro e w2 ⟨rfl, hE2, hb2⟩
  go_wp2_with fail
  refine (enew 1 5 w2).mono ?_
  rintro e w3 ⟨rfl, hE3, hb3⟩
  have hz1 := (hE1.lt w0.heap.size rfl).2
  have hz2 := (hE2.lt w1.heap.size rfl).2
  have hzb := hb1.size
  have hzc := hb2.size
  have hT : Trio w0 w3 w0.heap.size w1.heap.size w2.heap.size (Lk.new 4 5) (Lk.new 9 5) (Lk.new 1 5) (fun j => j = w0.heap.size) (fun j => j = w1.heap.size) (fun j => j = w2.heap.size) :=
    ⟨(hE1.below hb2).below hb3, (hE2.from_ hb1.size).below hb3, hE3.from_ (by omega), fun j h1 h2 => by omega, fun j h1 h2 => by omega, fun j h1 h2 => by omega, (hb1.trans (hb2.mono hb1.size)).trans (hb3.mono (by omega))⟩
  have HB0 := hide hb0
  have hz0 := hb0.size
  generalize w0.heap.size = ga at *
  generalize w1.heap.size = gc at *
  generalize w2.heap.size = gb at *
  have HT := hide hT
  clear hE1 hb1 hE2 hb2 hE3 hb3 hz1 hz2 hT hb0 hzb hzc hz0
  go_wp2_with fail
  go_loopw [9] (fun i wr => ∃ (j m : Nat) (ka : Lk) (Fa : Nat → Prop), j ≤ n0 ∧ j ≤ 20 ∧ m ≤ j ∧ i = .int .i64 (j : Int) ∧ Hid (Trio w0 wr ga gc gb ka (Lk.new 9 5) (Lk.new 1 5) Fa (fun j => j = gc) (fun j => j = gb)) ∧ Hid (SS ka 4 0 m) ∧ Hid (Fit ka)) (fun i _ => 20 - (intOf i).toNat)
  case atStart => exact ⟨0, 0, _, _, by omega, by omega, by omega, rfl, HT, hide ⟨rfl, rfl, rfl, rfl, rfl⟩, hide (Fit.new 4 5)⟩
  case round =>
    obtain ⟨j, m, ka, Fa, hjn, hj20, hmj, rfl, hD, hS, hF⟩ := hrel
    by_cases hlt : j < n0 ∧ j < 20
    · obtain ⟨hl1, hl2⟩ := hlt
      have hbr : Below w.heap.size w wr := HB0.out.trans (hD.out.bel.mono HB0.out.size)
      obtain ⟨⟨b, o, rfl, hbb, hcell⟩, hx, hxn, hxl⟩ := (HH0.out.below hbr) j (by rw [HN0.out]; exact hl1)
      generalize qs0[j]'(by rw [HN0.out]; exact hl1) = p at *
      obtain ⟨pA, pn, pc, pb⟩ := p
      simp only at hx hxn hxl
      subst hxn
      have hcell' : wr.cell? ⟨b, o + j, none⟩ = some (.slice pA pb.length pc) := hcell
      have hcp := copy_any pA pb.length pc pb wr (hx.more hbr.size) rfl hxl
      have hsl := hS.out.len
      have hla := hS.out.last
      have hsd := copySend pb hD.out.a hF.out hxl (by omega) (by omega)
      have i1 : (j : Int) < (n0 : Int) := by omega
      have i2 : (j : Int) < 20 := by omega
      clear hcell hx hxl hbr hsl
      go_wp2_with fail
      refine hcp.mono ?_
      rintro e wA ⟨rfl, rfl⟩
      clear hcp hcell'
      go_wp2_with fail
      refine hsd.mono ?_
      rintro e wB ⟨rfl, kB, FB, hEB, hkB, hfB, hsB⟩
      have HFB := hide (hF.out.send hsB (by omega))
      have HDB := hide (hD.out.step hEB hkB hfB)
      obtain ⟨m', hm', HSB⟩ : ∃ m', m' ≤ j + 1 ∧ Hid (SS kB 4 0 m') := by
        rcases ss_send_any hS.out hsB (by omega) with ⟨_, h⟩ | ⟨_, rfl⟩
        · exact ⟨m + 1, by omega, hide h⟩
        · exact ⟨m, by omega, hS⟩
      clear hsd hEB hkB hfB hsB hD hS hF hla
      go_wp2_with fail
      go_roundw
      case rel => exact ⟨j + 1, m', kB, FB, by omega, by omega, hm', by go_num, HDB, HSB, HFB⟩
      case measure => simp [intOf]; omega
    · obtain ⟨x1, hxj⟩ : ∃ x1 : Int, (j : Int) = x1 := ⟨_, rfl⟩
      have hex : decide (x1 < (n0 : Int)) = false ∨ (decide (x1 < (n0 : Int)) = true ∧ decide (x1 < 20) = false) := by
        rcases Nat.lt_or_ge j n0 with h | h
        · exact .inr ⟨decide_eq_true (by omega), decide_eq_false (by omega)⟩
        · exact .inl (decide_eq_false (by omega))
      rw [hxj]
      have hm20a : m ≤ 20 := by omega
      clear HT hlt hxj hjn hj20
      rcases hex with d1 | ⟨d1, d2⟩
      all_goals
        go_wp2_with fail
        go_loopw [8, 10] (fun s8 i wr => ∃ (j m : Nat) (kc : Lk) (Fc : Nat → Prop), j ≤ n1 ∧ j ≤ 20 ∧ m ≤ j ∧ i = .int .i64 (j : Int) ∧ s8 = .int .i64 (m : Int) ∧ Hid (Trio w0 wr gc gb ga kc (Lk.new 1 5) ka Fc (fun j => j = gb) Fa) ∧ Hid (SS kc 9 0 m) ∧ Hid (Fit kc) ∧ Hid (UnS kc)) (fun _ i _ => 20 - (intOf i).toNat)
        case atStart => exact ⟨0, 0, _, _, by omega, by omega, by omega, rfl, rfl, hide hD.out.rot, hide ⟨rfl, rfl, rfl, rfl, rfl⟩, hide (Fit.new 9 5), hide (fun l hl => (by cases hl))⟩
        case round =>
          clear hD
          obtain ⟨j2, m2, kc, Fc, hjn2, hj22, hmj2, rfl, rfl, hT, hS2, hF2, hU2⟩ := hrel
          by_cases hlt2 : j2 < n1 ∧ j2 < 20
          · obtain ⟨hl1, hl2⟩ := hlt2
            have hbr : Below w.heap.size w wr := HB0.out.trans (hT.out.bel.mono HB0.out.size)
            obtain ⟨⟨b, o, rfl, hbb, hcell⟩, hx, hxn, hxl⟩ := (HH1.out.below hbr) j2 (by rw [HN1.out]; exact hl1)
            generalize qs1[j2]'(by rw [HN1.out]; exact hl1) = p at *
            obtain ⟨pA, pn, pc, pb⟩ := p
            simp only at hx hxn hxl
            subst hxn
            have hcell' : wr.cell? ⟨b, o + j2, none⟩ = some (.slice pA pb.length pc) := hcell
            have hcp := copy_any pA pb.length pc pb wr (hx.more hbr.size) rfl hxl
            have hsl := hS2.out.len
            have hla := hS2.out.last
            have hsd := copySend pb hT.out.a hF2.out hxl (by omega) (by omega)
            have i1 : (j2 : Int) < (n1 : Int) := by omega
            have i2 : (j2 : Int) < 20 := by omega
            clear hcell hx hxl hbr hsl
            go_wp2_with fail
            refine hcp.mono ?_
            rintro e wA ⟨rfl, rfl⟩
            clear hcp hcell'
            go_wp2_with fail
            refine hsd.mono ?_
            rintro e wB ⟨rfl, kB, FB, hEB, hkB, hfB, hsB⟩
            have HFB := hide (hF2.out.send hsB (by omega))
            have HUB := hide (hU2.out.send hsB)
            have HDB := hide (hT.out.step hEB hkB hfB)
            rcases ss_send_any hS2.out hsB (by omega) with ⟨hz, h⟩ | ⟨hz, rfl⟩
            · have HSB := hide h
              have t0 : (sendE kc pb.length == 0) = true := by rw [hz]; rfl
              generalize sendE kc pb.length = se at *
              clear hsd hEB hkB hfB hsB hT hS2 hF2 hU2 hla h hz
              go_wp2_with fail
              go_roundw
              case rel => exact ⟨j2 + 1, m2 + 1, kB, FB, by omega, by omega, by omega, by go_num, by go_num, HDB, HSB, HFB, HUB⟩
              case measure => simp [intOf]; omega
            · have t0 : (sendE kB pb.length == 0) = false := by rw [beq_eq_false_iff_ne]; exact hz
              generalize sendE kB pb.length = se at *
              clear hsd hEB hkB hfB hsB hT hF2 hU2 hla hz
              go_wp2_with fail
              go_roundw
              case rel => exact ⟨j2 + 1, m2, kB, FB, by omega, by omega, by omega, by go_num, by go_num, HDB, hS2, HFB, HUB⟩
              case measure => simp [intOf]; omega
          · obtain ⟨x2, hxj2⟩ : ∃ x2 : Int, (j2 : Int) = x2 := ⟨_, rfl⟩
            have hex2 : decide (x2 < (n1 : Int)) = false ∨ (decide (x2 < (n1 : Int)) = true ∧ decide (x2 < 20) = false) := by
              rcases Nat.lt_or_ge j2 n1 with h | h
              · exact .inr ⟨decide_eq_true (by omega), decide_eq_false (by omega)⟩
              · exact .inl (decide_eq_false (by omega))
            rw [hxj2]
            have hm20 : m2 ≤ 20 := by omega
            clear hlt2 hxj2 hjn2 hj22
            have ho := eout 0 hT.out.a hF2.out
            rcases hex2 with d3 | ⟨d3, d4⟩
            all_goals
              go_wp2_with fail
              refine ho.mono ?_
              rintro e w6 ⟨v6, ps, F6, rfl, hO6, hP6, hE6, hk6, hf6⟩
              have hT6 := hT.out.step hE6 hk6 (fun j hj => .inl (hf6 j hj))
              have hdat := hT.out.a.dat
              have hpl := pieces_le (lf := 9) hS2.out hdat 0 hP6
              have hcar := SS.carries (lf := 9) hS2.out hU2.out hdat 0
              rw [hS2.out.fits] at hP6
              have hps : ps.length = m2 := by have := congrArg List.length hP6; rw [List.length_map, hcar.1] at this; exact this
              obtain ⟨A6, c6, rfl⟩ := hO6.len
              have hmv := lmove_any A6 ps.length c6 (.slice none 0 0) ps [] hT6.rot.a (Fit.new 1 5) hO6 hpl (OwnF.nil w6 w6.heap.size) (Nat.le_refl _) (fun j hj => by cases hj) (by
                show 0 + ps.length < 4096
                omega) (by simp)
              have hS6 := hS2.out.out 0
              have HF6 := hide (hF2.out.out 0)
              have HS6 := hide hS6
              have HT6 := hide hT6
              have HFR : Hid (∀ i (hi : i < (ps.map Piece.bs).length), ∃ xs : List UInt8, xs.length ≤ 65472 ∧ (ps.map Piece.bs)[i] = frB 1 9 (i + 1) 1 xs) := hide (fun i hi => by
                obtain ⟨xs, x1, x2⟩ := hcar.2 i (by rw [← hP6]; exact hi)
                refine ⟨xs, x1, ?_⟩
                have h1 : (ps.map Piece.bs)[i]? = (kc.carries 0)[i]? := by rw [hP6]
                rw [List.getElem?_eq_getElem hi, List.getElem?_eq_getElem (by rw [← hP6]; exact hi), x2] at h1
                have := Option.some.inj h1
                rwa [Nat.zero_add] at this)
              have HPS := hide hps
              clear ho hE6 hk6 hf6 hP6 hcar hps hpl hO6 hT6 hS6 hT hS2 hF2 hU2 hdat
              go_wp2_with fail
              refine hmv.mono ?_
              rintro e w7 ⟨v7, gs7, kb7, Fb7, os7, rfl, hO7, hg7, hM7, hE7, hk7, hf7, _⟩
              have hT7 := HT6.out.rot.stepN hE7 hk7 hf7
              obtain ⟨hB7, hl7⟩ := (BB.new 1 5 9).move hM7 (by rw [List.length_map, HPS.out]; omega) (by omega) HFR.out
              rw [List.length_map, HPS.out] at hB7 hl7
              obtain ⟨hF7, hc7, _, _⟩ := hM7.fit (Fit.new 1 5)
              have hgl : gs7.length = m2 := by have := congrArg List.length hg7; rw [List.length_map] at this; omega
              obtain ⟨A7, c7, rfl⟩ := hO7.len
              rw [List.nil_append, hgl]
              have hc7' : kb7.cnt ≤ m2 := by have e : (Lk.new 1 5).cnt = 0 := rfl; rw [e] at hc7; omega
              have HT7 := hide hT7
              have HB7 := hide hB7
              have HF7 := hide hF7
              clear hmv hO7 hg7 hM7 hE7 hk7 hf7 hT7 hB7 hl7 hF7 hc7 hgl HT6 HFR HPS
              by_cases hm0 : m2 = 0
              · subst hm0
                have HFN := hide (HB0.out.trans (HT7.out.bel.mono HB0.out.size))
                clear HT7 HB7 HF7 HS6 HF6
                go_wp2_with fail
                go_ret
                exact ⟨rfl, HFN.out⟩
              · have hm0' : (0 : Int) < (m2 : Int) := by omega
                have hpl7 : kb7.pl = ((9 : Nat) : Int) := by rw [HB7.out.pl, if_neg hm0]
                have HPL7 := hide hpl7
                have hoa := eout 0 HT7.out.rot.a hF.out
                have hneq : ((m2 : Int) == 0) = false := by rw [beq_eq_false_iff_ne]; omega
                clear hpl7 hm0
                go_wp2_with fail
                refine hoa.mono ?_
                rintro e w8 ⟨v8, ps8, F8, rfl, hO8, hP8, hE8, hk8, hf8⟩
                have hT8 := HT7.out.rot.step hE8 hk8 (fun j hj => .inl (hf8 j hj))
                have hdat := HT7.out.rot.a.dat
                have hpl := pieces_le (lf := 4) hS.out hdat 0 hP8
                have hle := SS.all_le hS.out 0
                have hps8 : ps8.length ≤ m := by have := congrArg List.length hP8; rw [List.length_map] at this; omega
                have hold : Hid (∀ f ∈ ps8.map Piece.bs, ∃ (nm od : Nat) (xs : List UInt8), 0 < od ∧ od ≤ nm ∧ nm ≤ 1099511627776 ∧ xs.length ≤ 65472 ∧ f = frB 1 4 nm od xs) := hide (fun f hf => by
                  obtain ⟨nm, xs, q1, q2, q3, q4⟩ := SS.carry (lf := 4) hS.out hdat 0 (by rw [← hP8]; exact hf)
                  exact ⟨nm, 1, xs, by omega, by omega, by omega, q3, q4⟩)
                obtain ⟨A8, c8, rfl⟩ := hO8.len
                have hmv := lmove_any A8 ps8.length c8 (.slice none 0 0) ps8 [] hT8.rot.rot.a HF7.out hO8 hpl (OwnF.nil w8 w8.heap.size) (Nat.le_refl _) (fun j hj => by cases hj) (by omega) (by simp)
                have HT8 := hide hT8
                clear hoa hO8 hP8 hE8 hk8 hf8 hT8 hdat hpl hle HT7
                go_wp2_with fail
                refine hmv.mono ?_
                rintro e w9 ⟨v9, gs9, kb9, Fb9, os9, rfl, hO9, hg9, hM9, hE9, hk9, hf9, _⟩
                have hT9 := HT8.out.rot.rot.stepN hE9 hk9 hf9
                obtain ⟨rfl, rfl⟩ := hM9.older 4 (by omega) (by rw [HPL7.out]; omega) hold.out
                obtain rfl : gs9 = [] := by simpa using hg9
                obtain ⟨A9, c9, rfl⟩ := hO9.len
                have hoc := eout 9 hT9.rot.rot.a HF6.out
                have HT9 := hide hT9
                rw [List.append_nil, List.length_nil]
                clear hmv hO9 hg9 hM9 hE9 hk9 hf9 hT9 hold HT8
                go_wp2_with fail
                refine hoc.mono ?_
                rintro e wA ⟨vA, psA, FA, rfl, hOA, hPA, hEA, hkA, hfA⟩
                have hTA := HT9.out.rot.rot.step hEA hkA (fun j hj => .inl (hfA j hj))
                have hdat := HT9.out.rot.rot.a.dat
                have hpl := pieces_le (lf := 9) HS6.out hdat 9 hPA
                have hle := SS.all_le HS6.out 9
                have hpsA : psA.length ≤ m2 := by have := congrArg List.length hPA; rw [List.length_map] at this; omega
                have hagain : Hid (∀ f ∈ psA.map Piece.bs, ∃ (nm od : Nat) (xs : List UInt8), 0 < od ∧ od ≤ nm ∧ nm ≤ m2 ∧ m2 ≤ 1099511627776 ∧ xs.length ≤ 65472 ∧ f = frB 1 9 nm od xs) := hide (fun f hf => by
                  obtain ⟨nm, xs, q1, q2, q3, q4⟩ := SS.carry (lf := 9) HS6.out hdat 9 (by rw [← hPA]; exact hf)
                  exact ⟨nm, 1, xs, by omega, by omega, by omega, by omega, q3, q4⟩)
                obtain ⟨AA, cA, rfl⟩ := hOA.len
                have hmv := lmove_any AA psA.length cA (.slice none 0 0) psA [] hTA.rot.a HF7.out hOA hpl (OwnF.nil wA wA.heap.size) (Nat.le_refl _) (fun j hj => by cases hj) (by omega) (by simp)
                have HTA := hide hTA
                clear hoc hOA hPA hEA hkA hfA hTA hdat hpl hle HT9
                go_wp2_with fail
                refine hmv.mono ?_
                rintro e wB ⟨vB, gsB, kbB, FbB, osB, rfl, hOB, hgB, hMB, hEB, hkB, hfB, _⟩
                have hTB := HTA.out.rot.stepN hEB hkB hfB
                obtain ⟨_, _, _, rfl⟩ := hMB.again 9 m2 (by omega) HPL7.out HB7.out.all HB7.out.S hagain.out
                obtain rfl : gsB = [] := by simpa using hgB
                obtain ⟨AB, cB, rfl⟩ := hOB.len
                have HFN := hide (HB0.out.trans (hTB.bel.mono HB0.out.size))
                rw [List.append_nil, List.length_nil]
                clear hmv hOB hgB hMB hEB hkB hfB hTB hagain HTA
                go_wp2_with fail
                go_ret
                exact ⟨rfl, HFN.out⟩
end Go.Proofs.Ytpbfibofjkinmaa
