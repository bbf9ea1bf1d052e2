/-
  The walk of LinkFull. No condition.
-/
import Derived.Test.YtpbfibofjkinmaaLinkFa
set_option linter.unusedSimpArgs false
set_option linter.unusedVariables false
namespace Go.Proofs.Ytpbfibofjkinmaa
open Go.RowKit Go.Maps

theorem and_mask' (q : Int) (j : Nat) (hj : j < 63) : bits .and .i64 q (2 ^ j - 1) = q % 2 ^ j := by
  have hp : (2 : Nat) ^ j < 2 ^ 63 := Nat.pow_lt_pow_right (by omega) hj
  have hp0 : 0 < (2 : Nat) ^ j := Nat.two_pow_pos j
  have e2 : ((2 ^ j : Nat) : Int) = (2 : Int) ^ j := by push_cast; rfl
  have hm : (BitVec.ofInt 64 ((2 : Int) ^ j - 1)).toNat = 2 ^ j - 1 := by
    rw [BitVec.toNat_ofInt]
    omega
  have hand : (BitVec.ofInt 64 q &&& BitVec.ofInt 64 ((2 : Int) ^ j - 1)).toNat = (BitVec.ofInt 64 q).toNat % 2 ^ j := by
    rw [BitVec.toNat_and, hm, Nat.and_two_pow_sub_one_eq_mod]
  show IntKind.i64.wrap ((BitVec.ofInt 64 q &&& BitVec.ofInt 64 ((2 : Int) ^ j - 1)).toNat : Int) = _
  rw [hand, BitVec.toNat_ofInt]
  have hlt : (q % 18446744073709551616).toNat % 2 ^ j < 2 ^ j := Nat.mod_lt _ hp0
  rw [IntWalk.i64_in _ (by omega)]
  have hd : ((2 : Int) ^ j) ∣ 18446744073709551616 := by
    refine ⟨2 ^ (64 - j), ?_⟩
    rw [← Int.pow_add, show j + (64 - j) = 64 from by omega]
    rfl
  show (((q % 18446744073709551616).toNat % 2 ^ j : Nat) : Int) = _
  rw [Int.natCast_emod, e2, Int.toNat_of_nonneg (by omega)]
  exact Int.emod_emod_of_dvd q hd

theorem and_31 (q : Int) : bits .and .i64 q 31 = q % 32 := and_mask' q 5 (by omega)
theorem lin_nil (v : Value) (w : World) : Calls Try.prog 43 #[.pointer none, v] w fun e w' => e = .returned (.tuple #[.slice none 0 0, .bool false, .int .i64 1]) ∧ w = w' := by
  go_enter Try.func43, Try.ntmps43
  go_wp2
  go_returns
  exact ⟨rfl, rfl⟩
theorem lout_nil (v : Value) (w : World) : Calls Try.prog 40 #[.pointer none, v] w fun e w' => e = .returned (.slice none 0 0) ∧ w = w' := by
  go_enter Try.func40, Try.ntmps40
  go_wp2
  go_ret
  exact ⟨rfl, rfl⟩
theorem OwnF.cut {w : World} {base g n c : Nat} {ps : List Piece} (h : OwnF w base (.slice (some ⟨g, 0, none⟩) n c) ps) (i : Nat) (hi : i ≤ ps.length) : OwnF w base (.slice (some ⟨g, 0, none⟩) i c) (ps.take i) := by
  refine ⟨?_, fun p hp => h.dat p (List.mem_of_mem_take hp)⟩
  rcases h.row.2 with ⟨hv, _⟩ | ⟨g', cap, cur, hv, hg, hh, hnc, hm, hcs, ht⟩
  · cases hv
  · injection hv with e1 e2 e3
    injection e1 with e1
    injection e1 with e1
    subst e1 e2 e3
    have hl : (ps.take i).length = i := by simp; omega
    refine ⟨by rw [hl]; simp; omega, .inr ⟨g, c, cur, by rw [hl], hg, hh, by omega, hm, hcs, ?_⟩⟩
    rw [hl, List.map_take, ← ht, List.take_take]
    congr 1
    omega
theorem SS.fits {k : Lk} {lf : Int} {lo n : Nat} (h : SS k lf lo n) : (k.recs ++ k.carries 0) = k.carries 0 := by
  have e2 : k.recs = [] := by unfold Lk.recs; rw [h.ds]; rfl
  rw [e2, List.nil_append]

/-- No letter was sent yet. -/
def UnS (k : Lk) : Prop := ∀ l ∈ k.ls, l.sent = false
theorem UnS.send {k k' : Lk} {xs : List UInt8} (h : UnS k) (hs : SendP k xs k') : UnS k' := by
  by_cases he : sendE k xs.length = 0
  · obtain ⟨A, n, c, rfl⟩ := hs.2 he
    intro l hl
    rcases List.mem_append.1 hl with h5 | h5
    · exact h l h5
    · simp at h5
      subst h5
      rfl
  · rw [hs.1 he]; exact h
theorem SS.carries {k : Lk} {lf lo n : Nat} (h : SS k lf lo n) (hu : UnS k) (hd : ∀ l ∈ k.ls, l.xs.length ≤ 65472) (now : Int) :
    (k.carries now).length = n ∧ ∀ i (hi : i < (k.carries now).length), ∃ xs : List UInt8, xs.length ≤ 65472 ∧ (k.carries now)[i] = frB 1 lf (lo + i + 1) (lo + 1) xs := by
  have e : k.carries now = k.ls.map k.car := by
    unfold Lk.carries
    rw [List.filter_eq_self.2 (fun l hl => by unfold dueB; rw [hu l hl]; rfl)]
  have hl := h.len
  rw [e]
  refine ⟨by rw [List.length_map, hl], fun i hi => ?_⟩
  have hi' : i < k.ls.length := by rw [List.length_map] at hi; exact hi
  refine ⟨k.ls[i].xs, hd _ (List.getElem_mem hi'), ?_⟩
  have hn : k.ls[i].num = ((lo + i + 1 : Nat) : Int) := by
    have h1 : (k.ls.map Ltr.num)[i]? = (nums lo n)[i]? := by rw [h.num]
    rw [List.getElem?_map, List.getElem?_eq_getElem hi', List.getElem?_eq_getElem (by rw [nums_len]; omega), nums_get lo n i (by omega)] at h1
    simpa using h1
  have e3 : k.car k.ls[i] = frB 1 lf (lo + i + 1) (lo + 1) k.ls[i].xs := by
    unfold Lk.car
    rw [hn, h.old, h.life]
    rfl
  rw [List.getElem_map]
  exact e3

theorem frB_len (kd lf nm od : Nat) (xs : List UInt8) (h : xs.length ≤ 65536) : (frB kd lf nm od xs).length ≤ 140737488355328 := by
  unfold frB
  have := bw_le kd
  have := bw_le lf
  have := bw_le nm
  have := bw_le od
  have := bw_le xs.length
  split
  · simp only [List.length_append, enc_length]
    omega
  · simp only [List.length_append, enc_length]
    omega
theorem esend1 {w : World} {base g : Nat} {k : Lk} {F : Nat → Prop} (j : Int) (h : EK w base g k F) (hf : Fit k) (hj : 0 ≤ j ∧ j < 256) (h1 : k.last ≤ 1099511627776) (hl : k.ls.length < 4096) :
    Calls Try.prog 38 #[.pointer (some ⟨g, 0, none⟩), .slice (some ⟨w.heap.size, 0, none⟩) 1 1] (w.alloc (.cells #[.int .u8 j] 5)) fun e w' => e = .returned (.int .i64 (sendE k 1)) ∧ ∃ k' F', EK w' base g k' F' ∧ Kept F w w' ∧ (∀ q, F' q → F q ∨ w.heap.size ≤ q) ∧ SendP k [UInt8.ofNat j.toNat] k' := by
  have hba : Below w.heap.size w (w.alloc (.cells #[.int .u8 j] 5)) := (Below.refl _ _).alloc (Nat.le_refl _) _
  have hx3 : Has (w.alloc (.cells #[.int .u8 j] 5)) (w.heap.size + 1) (some ⟨w.heap.size, 0, none⟩) [UInt8.ofNat j.toNat] := Has.one w 5 j (UInt8.ofNat j.toNat) (by simp; omega) w.heap.size rfl
  refine (esendH (some ⟨w.heap.size, 0, none⟩) 1 1 [UInt8.ofNat j.toNat] (h.below hba) hf (hx3.more (by simp)) rfl (fun q o e hq => by
    injection e with e
    injection e with e
    have := (h.lt q hq).2
    omega) h1 hl).mono ?_
  rintro e w' ⟨rfl, k', F', a1, a2, a3, a4⟩
  exact ⟨rfl, k', F', a1, (Kept.of_below (F := F) hba).step a2 (fun q hq => .inl hq), fun q hq => (a3 q hq).elim .inl (fun e => .inr (by have := hba.size; omega)), a4⟩

set_option maxHeartbeats 4000000 in
set_option maxRecDepth 20000 in
theorem linkFull_walk (n : Int) (w : World) (_ : (Lit.int .i64 n).wf = true) : Calls Try.prog 12 #[.int .i64 n] w fun e w' => e = .returned (.bool true) ∧ Below w.heap.size w w' := by
  go_enter Try.func12, Try.ntmps12
  go_wp2_with fail
  refine (head13_any w).mono ?_
  rintro e w0 ⟨rfl, hb0⟩
  go_wp2_with fail
  refine (enew 1 5 w0).mono ?_
  rintro e w1 ⟨rfl, hE1, hb1⟩
  go_wp2_with fail
  refine (enew 1 5 w1).mono ?_
  rintro e w2 ⟨rfl, hE2, hb2⟩
  have hz1 := (hE1.lt w0.heap.size rfl).2
  have hD2 : Duo w0 w2 w0.heap.size w1.heap.size (Lk.new 1 5) (Lk.new 1 5) (fun j => j = w0.heap.size) (fun j => j = w1.heap.size) :=
    ⟨hE1.below hb2, hE2.from_ hb1.size, fun j h1 h2 => by omega, hb1.trans (hb2.mono hb1.size)⟩
  generalize hga : w0.heap.size = ga at *
  generalize hgb : w1.heap.size = gb at *
  have HB0 := hide hb0
  have HGA := hide hga
  have HD2 := hide hD2
  clear hE1 hb1 hE2 hb2 hgb hz1 hD2 hb0
  go_wp2_with fail
  go_loopw [5] (fun i wr => ∃ (j : Nat) (ka : Lk) (Fa : Nat → Prop), j ≤ 32 ∧ i = .int .i64 (j : Int) ∧ Hid (Duo w0 wr ga gb ka (Lk.new 1 5) Fa (fun j => j = gb)) ∧ Hid (SS ka 1 0 j) ∧ Hid (Fit ka) ∧ Hid (UnS ka)) (fun i _ => 32 - (intOf i).toNat)
  case atStart => exact ⟨0, _, _, by omega, rfl, HD2, hide ⟨rfl, rfl, rfl, rfl, rfl⟩, hide (Fit.new 1 5), hide (fun l hl => (by cases hl))⟩
  case round =>
    obtain ⟨j, ka, Fa, hj, rfl, hD, hS, hF, hU⟩ := hrel
    by_cases hlt : j < 32
    · have hu8 : IntKind.u8.wrap (j : Int) = (j : Int) := by rw [IntKind.wrap_u8]; omega
      have hba : Below wr.heap.size wr (wr.alloc (.cells #[.int .u8 (j : Int)] 5)) := (Below.refl _ _).alloc (Nat.le_refl _) _
      have hD3 := hD.out.below hba
      have hx3 : Has (wr.alloc (.cells #[.int .u8 (j : Int)] 5)) (wr.heap.size + 1) (some ⟨wr.heap.size, 0, none⟩) [UInt8.ofNat j] := Has.one wr 5 (j : Int) (UInt8.ofNat j) (by simp; omega) wr.heap.size rfl
      have hsl := hS.out.len
      have hla := hS.out.last
      have hsd := esendH (some ⟨wr.heap.size, 0, none⟩) 1 1 [UInt8.ofNat j] hD3.a hF.out (hx3.more (by simp)) rfl (fun q o e hq => by
        injection e with e
        injection e with e
        have := (hD.out.a.lt q hq).2
        omega) (by omega) (by omega)
      rw [hS.out.sendE _ (by simp), if_pos hlt] at hsd
      have HD3 := hide hD3
      have hj32 : (j : Int) < 32 := by omega
      clear hba hD3 hx3 hD hsl
      go_wp2_with fail
      generalize wr.alloc (.cells #[.int .u8 (j : Int)] 5) = w3 at *
      refine hsd.mono ?_
      rintro e w4 ⟨rfl, k1, Fa1, hE4, hk4, hf4, hs4⟩
      have HF4 := hide (hF.out.send hs4 (by omega))
      have HS4 := hide (hS.out.send hs4 hlt (by simp))
      have HU4 := hide (hU.out.send hs4)
      have HD4 := hide (HD3.out.step hE4 hk4 hf4)
      clear hsd hE4 hk4 hf4 hs4 HD3 hla hS hF
      go_wp2_with fail
      go_roundw
      case rel => exact ⟨j + 1, k1, Fa1, by omega, by go_num, HD4, HS4, HF4, HU4⟩
      case measure => simp [intOf]; omega
    · obtain rfl : j = 32 := by omega
      have hsl := hS.out.len
      have hla := hS.out.last
      have hs9 := esend1 99 hD.out.a hF.out (by omega) (by omega) (by omega)
      rw [hS.out.sendE _ (by omega), if_neg (by omega)] at hs9
      clear HD2 hsl
      go_wp2_with fail
      refine hs9.mono ?_
      rintro e w4 ⟨rfl, k1, Fa1, hE4, hk4, hf4, hs4⟩
      obtain rfl := hS.out.full hs4 (by omega) (by simp)
      have hD4 := hD.out.step hE4 hk4 hf4
      have hwt := ewaiting hD4.a
      rw [hS.out.len] at hwt
      have HD4 := hide hD4
      clear hs9 hE4 hk4 hf4 hs4 hD hD4
      go_wp2_with fail
      refine hwt.mono ?_
      rintro e w5 ⟨rfl, rfl⟩
      have hm := and_31 n
      obtain ⟨kk, hkk⟩ : ∃ kk : Nat, n % 32 = (kk : Int) := ⟨(n % 32).toNat, by omega⟩
      have hk32 : kk < 32 := by omega
      rw [hkk] at hm
      have ho := eout 0 HD4.out.a hF.out
      clear hwt hkk
      go_wp2_with fail
      refine ho.mono ?_
      rintro e w6 ⟨v6, ps, F6, rfl, hO6, hP6, hE6, hk6, hf6⟩
      have hD6 := HD4.out.step hE6 hk6 (fun j hj => .inl (hf6 j hj))
      have hcar := SS.carries (lf := 1) hS.out hU.out HD4.out.a.dat 0
      rw [hS.out.fits] at hP6
      have hps : ps.length = 32 := by have := congrArg List.length hP6; rw [List.length_map, hcar.1] at this; exact this
      have hfr : ∀ i (hi : i < ps.length), ∃ xs : List UInt8, xs.length ≤ 65472 ∧ ps[i].bs = frB 1 1 (i + 1) 1 xs := fun i hi => by
        obtain ⟨xs, x1, x2⟩ := hcar.2 i (by rw [hcar.1]; omega)
        refine ⟨xs, x1, ?_⟩
        have h1 : (ps.map Piece.bs)[i]? = (k1.carries 0)[i]? := by rw [hP6]
        rw [List.getElem?_map, List.getElem?_eq_getElem hi, List.getElem?_eq_getElem (by rw [hcar.1]; omega), x2] at h1
        simpa using h1
      have hpl : ∀ p ∈ ps, p.bs.length ≤ 140737488355328 := fun p hp => by
        obtain ⟨i, hi, rfl⟩ := List.getElem_of_mem hp
        obtain ⟨xs, x1, x2⟩ := hfr i hi
        rw [x2]
        exact frB_len _ _ _ _ _ (by omega)
      obtain ⟨gf, cf, rfl⟩ : ∃ g c, v6 = .slice (some ⟨g, 0, none⟩) 32 c := by
        obtain ⟨A, n, c, rfl, hn, _, _⟩ := hO6.form hpl
        obtain ⟨g, rfl, h2, _⟩ := hO6.at_ hpl 0 (by omega)
        exact ⟨g, c, by rw [← h2, hps]⟩
      have hcf : 32 ≤ cf := by
        obtain ⟨_, _, _, e', hn, hnc, _⟩ := hO6.form hpl
        injection e' with e1 e2 e3
        subst e2 e3
        exact hnc
      have hS6 := hS.out.out 0
      have hF6 := hF.out.out 0
      have HS6 := hide hS6
      have HF6 := hide hF6
      have HO6 := hide hO6
      have HD6 := hide hD6
      have HPL := hide hpl
      have HFR := hide hfr
      have HPS := hide hps
      have hmv := lmove_any (some ⟨gf, 0, none⟩) kk cf (.slice none 0 0) (ps.take kk) [] hD6.b (Fit.new 1 5) (hO6.cut kk (by omega)) (fun p hp => hpl p (List.mem_of_mem_take hp)) (OwnF.nil w6 w6.heap.size) (Nat.le_refl _) (fun j hj => by cases hj) (by
        show 0 + (ps.take kk).length < 4096
        rw [List.length_take]
        omega) (by simp)
      clear ho hE6 hk6 hf6 hP6 hcar hps hfr hpl hO6 hD6 hS6 hF6 hS hF hU HD4
      have hkc : (kk : Int) ≤ (cf : Int) := by omega
      have hk0 : (0 : Int) ≤ (kk : Int) := by omega
      go_wp2_with fail
      refine hmv.mono ?_
      rintro e w7 ⟨v7, gs7, kb7, Fb7, os7, rfl, _, _, hM7, hE7, hk7, hf7, _⟩
      have hD7 := HD6.out.swap.stepG (OwnF.nil w6 w0.heap.size) (Nat.le_refl _) hE7 hk7 hf7
      have hO7 := HO6.out.kept hk7 (fun j cur t hc ht e => e.elim (HD6.out.b.no j cur t hc ht) (fun e => by cases e))
      have hl7 : ((ps.take kk).map Piece.bs).length = kk := by rw [List.length_map, List.length_take, HPS.out]; omega
      have hB7 := (BB.new 1 5 1).move hM7 (by omega) (by omega) (fun i hi => by
        obtain ⟨xs, x1, x2⟩ := HFR.out i (by rw [HPS.out]; omega)
        refine ⟨xs, x1, ?_⟩
        rw [List.getElem_map, List.getElem_take, x2])
      rw [hl7] at hB7
      have hF7 := (hM7.fit (Fit.new 1 5)).1
      have HD7 := hide hD7
      have HO7 := hide hO7
      have HB7 := hide hB7.1
      have ho8 := eout 0 hD7.a hF7
      clear hmv hM7 hE7 hk7 hf7 hD7 hO7 hl7 hB7 HD6 HO6
      go_wp2_with fail
      refine ho8.mono ?_
      rintro e w8 ⟨v8, ps8, F8, rfl, hO8, hP8, hE8, hk8, hf8⟩
      have hD8 := HD7.out.step hE8 hk8 (fun j hj => .inl (hf8 j hj))
      have hO8' := HD7.out.a.ownF HO7.out hk8
      obtain ⟨r1, r2⟩ := HB7.out.recs 0
      have hps8 : ps8.length = kk := by have := congrArg List.length hP8; rw [List.length_map, r1] at this; exact this
      have hb8 : ∀ i (hi : i < (ps8.map Piece.bs).length), (ps8.map Piece.bs)[i] = frB 2 1 (0 + i + 1) 0 [] := fun i hi => by
        have h1 : (ps8.map Piece.bs)[i]? = (kb7.recs ++ kb7.carries 0)[i]? := by rw [hP8]
        rw [List.getElem?_eq_getElem hi, List.getElem?_eq_getElem (by rw [← hP8]; exact hi), r2] at h1
        rw [Option.some.inj h1, Nat.zero_add]
      have hpl8 : ∀ p ∈ ps8, p.bs.length ≤ 140737488355328 := fun p hp => by
        obtain ⟨i, hi, rfl⟩ := List.getElem_of_mem hp
        have := hb8 i (by simpa using hi)
        rw [List.getElem_map] at this
        rw [this]
        exact frB_len _ _ _ _ _ (by simp)
      obtain ⟨A8, n8, c8, rfl, _, _, _⟩ := hO8.form hpl8
      have hmv := lmove_any A8 n8 c8 (.slice none 0 0) ps8 [] hD8.b HF6.out hO8 hpl8 (OwnF.nil w8 w8.heap.size) (Nat.le_refl _) (fun j hj => by cases hj) (by
        rw [HS6.out.cnt]
        omega) (by simp)
      have HD8 := hide hD8
      have HO8 := hide hO8'
      have HBS := hide hb8
      have HPS8 := hide hps8
      clear ho8 hO8 hP8 hE8 hk8 hf8 hD8 hO8' r1 r2 hb8 hps8 hpl8 HD7 HO7 HB7
      go_wp2_with fail
      refine hmv.mono ?_
      rintro e w9 ⟨v9, gs9, ka9, Fa9, os9, rfl, _, _, hM9, hE9, hk9, hf9, _⟩
      have hD9 := HD8.out.swap.stepG (OwnF.nil w8 w0.heap.size) (Nat.le_refl _) hE9 hk9 hf9
      have hO9 := HO8.out.kept hk9 (fun j cur t hc ht e => e.elim (HD8.out.b.no j cur t hc ht) (fun e => by cases e))
      have hS9 := (SS.move (lf := 1) HS6.out hM9 (by rw [List.length_map, HPS8.out]; omega) (by omega) (by omega) HBS.out).1
      rw [List.length_map, HPS8.out, Nat.zero_add] at hS9
      have HF9 := hide (hM9.fit HF6.out).1
      have HD9 := hide hD9
      have HO9 := hide hO9
      have HS9 := hide hS9
      clear hmv hM9 hE9 hk9 hf9 hD9 hO9 hS9 HD8 HO8 HS6 HF6 HBS HPS8
      go_wp2_with fail
      go_loopw [8] (fun i wr => ∃ (j : Nat) (ka : Lk) (Fa : Nat → Prop), j ≤ kk ∧ i = .int .i64 (j : Int) ∧ Hid (Duo w0 wr ga gb ka (kb7.sentAt 0) Fa F8) ∧ Hid (SS ka 1 kk (32 - kk + j)) ∧ Hid (Fit ka) ∧ Hid (∃ bb, OwnF wr bb (.slice (some ⟨gf, 0, none⟩) 32 cf) ps)) (fun i _ => kk - (intOf i).toNat)
      case atStart => exact ⟨0, _, _, by omega, rfl, HD9, HS9, HF9, hide ⟨_, HO9.out⟩⟩
      case round =>
        clear HD9 HS9 HF9 HO9
        obtain ⟨j, ka, Fa, hj, rfl, hD, hS, hF, hO⟩ := hrel
        by_cases hlt : j < kk
        · have hu8 : IntKind.u8.wrap (j : Int) = (j : Int) := by rw [IntKind.wrap_u8]; omega
          have hsl := hS.out.len
          have hla := hS.out.last
          have hsd := esend1 (j : Int) hD.out.a hF.out (by omega) (by omega) (by omega)
          rw [hS.out.sendE _ (by omega), if_pos (by omega)] at hsd
          have hjk : (j : Int) < (kk : Int) := by omega
          clear hsl
          go_wp2_with fail
          refine hsd.mono ?_
          rintro e wA ⟨rfl, kA, FA, hEA, hkA, hfA, hsA⟩
          have HFA := hide (hF.out.send hsA (by omega))
          have HSA := hide (hS.out.send hsA (by omega) (by simp))
          have HDA := hide (hD.out.step hEA hkA hfA)
          have HOA : Hid (∃ bb, OwnF wA bb (.slice (some ⟨gf, 0, none⟩) 32 cf) ps) := hide (by
            obtain ⟨bb, ho⟩ := hO.out
            exact ⟨bb, hD.out.a.ownF ho hkA⟩)
          clear hsd hEA hkA hfA hsA hD hS hF hO hla
          go_wp2_with fail
          go_roundw
          case rel => exact ⟨j + 1, kA, FA, by omega, by go_num, HDA, by have e := HSA; rwa [Nat.add_assoc] at e, HFA, HOA⟩
          case measure => simp [intOf]; omega
        · obtain rfl : kk = j := by omega
          have e32 : 32 - kk + kk = 32 := by omega
          have hS' := hS.out
          rw [e32] at hS'
          obtain ⟨bb, ho⟩ := hO.out
          obtain ⟨_, e', _, hcell, _⟩ := ho.at_ HPL.out 0 (by rw [HPS.out]; omega)
          injection e' with e'
          injection e' with e'
          subst e'
          have hv0 : ∃ pA pn pc, ps[0]'(by rw [HPS.out]; omega) = ps[0]'(by rw [HPS.out]; omega) ∧ wr.cell? ⟨gf, 0, none⟩ = some (.slice pA pn pc) := ⟨_, _, _, rfl, hcell⟩
          obtain ⟨pA, pn, pc, _, hcell'⟩ := hv0
          have hli := lin_nil (.slice pA pn pc) wr
          have hs9 := esend1 99 hD.out.a hF.out (by omega) (by rw [hS'.last]; omega) (by rw [hS'.len]; omega)
          rw [hS'.sendE _ (by omega), if_neg (by omega)] at hs9
          have HS' := hide hS'
          clear hcell ho hO hS hS' e32
          go_wp2_with fail
          refine hli.mono ?_
          rintro e wA ⟨rfl, rfl⟩
          clear hli hcell'
          go_wp2_with fail
          refine hs9.mono ?_
          rintro e wB ⟨rfl, kB, FB, hEB, hkB, hfB, hsB⟩
          have hDB := hD.out.step hEB hkB hfB
          obtain rfl := HS'.out.full hsB (by omega) (by simp)
          have hwt := ewaiting hDB.a
          rw [HS'.out.len] at hwt
          have HDB := hide hDB
          clear hs9 hEB hkB hfB hsB hDB
          go_wp2_with fail
          refine hwt.mono ?_
          rintro e wC ⟨rfl, rfl⟩
          clear hwt
          go_wp2_with fail
          refine (lsend_nil (.slice none 0 0) _).mono ?_
          rintro e wD ⟨rfl, rfl⟩
          go_wp2_with fail
          refine (lout_nil (.int .i64 0) _).mono ?_
          rintro e wE ⟨rfl, rfl⟩
          go_wp2_with fail
          refine (lwaiting_nil _).mono ?_
          rintro e wF ⟨rfl, rfl⟩
          have hfin := HB0.out.trans (HDB.out.bel.mono HB0.out.size)
          have HFN := hide hfin
          clear hfin
          go_wp2
          go_ret
          exact ⟨rfl, HFN.out⟩
end Go.Proofs.Ytpbfibofjkinmaa
