/-
  The walk of LeaseGrants. No condition but the reach of what is read.
-/
import Derived.Test.YtgdncmkhcdmjoaaLeaseG
import Derived.Deep.CutBlock
set_option linter.unusedSimpArgs false
set_option linter.unusedVariables false
namespace Go.Proofs.Ytgdncmkhcdmjoaa
open Go.RowKit
/-- A step over a granter or a holder. -/
structure Gop where
  K : Int
  a : Int
  b : Int
  M : Int
  N : Int
def Gop.cells (q : Gop) : List Value := [.int .i64 q.K, .int .i64 q.a, .int .i64 q.b, .int .i64 q.M, .int .i64 q.N]
structure HasGo (w : World) (B : Nat) (a : Option Addr) (ts : List Gop) : Prop where
  at_ : ∀ k (h : k < ts.length), ∃ b o, a = some ⟨b, o, none⟩ ∧ b < B ∧ w.rangeAt b (o + k * 5) ts[k].cells
  wf : ∀ q ∈ ts, (Lit.int .i64 q.M).wf = true
theorem HasGo.below {w w' : World} {B : Nat} {a : Option Addr} {ts : List Gop} (h : HasGo w B a ts) (hb : Below B w w') : HasGo w' B a ts := by
  refine ⟨fun k hk => ?_, h.wf⟩
  obtain ⟨b, o, e, h1, h2⟩ := h.at_ k hk
  exact ⟨b, o, e, h1, fun i u hu => (World.cell?_of_block (w := w) (a := ⟨b, o + k * 5 + i, none⟩) (hb.block b h1)).trans (h2 i u hu)⟩
theorem gop_cells {w : World} {p : Nat} {K a b M N : Int} {t : TypeId} (h : w.heap[p]? = some (.cells #[.int .i64 K, .int .i64 a, .int .i64 b, .int .i64 M, .int .i64 N] t (0, 0))) : w.cell? ⟨p, 0, none⟩ = some (.int .i64 K) ∧ w.cell? ⟨p, 1, none⟩ = some (.int .i64 a) ∧ w.cell? ⟨p, 2, none⟩ = some (.int .i64 b) ∧ w.cell? ⟨p, 3, none⟩ = some (.int .i64 M) ∧ w.cell? ⟨p, 4, none⟩ = some (.int .i64 N) :=
  ⟨(row_cells h 0).1, (row_cells h 1).1, (row_cells h 2).1, (row_cells h 3).1, (row_cells h 4).1⟩
theorem rc_cells {w : World} {p : Nat} {R : Gr} {t : TypeId} (h : w.heap[p]? = some (.cells R.rc t (0, 0))) : w.cell? ⟨p, 0, none⟩ = some (.int .i64 R.len) ∧ w.cell? ⟨p, 1, none⟩ = some (.int .i64 R.since) ∧ w.cell? ⟨p, 2, none⟩ = some (.int .i64 R.r) ∧ w.cell? ⟨p, 3, none⟩ = some (.int .i64 R.n) ∧ w.cell? ⟨p, 4, none⟩ = some (.bool R.st) :=
  ⟨(row_cells h 0).1, (row_cells h 1).1, (row_cells h 2).1, (row_cells h 3).1, (row_cells h 4).1⟩
/-- Times within 2^60. -/
def In60 (x : Int) : Prop := -1152921504606846976 ≤ x ∧ x ≤ 1152921504606846976
/-- The granter and the reference's. -/
structure GRel (G R : Gr) : Prop where
  l : R.len = G.len ∧ 0 ≤ G.len ∧ G.len ≤ 1048576
  st : R.st = (G.st && decide (0 < G.len))
  eq : R.st = true → R.since = G.since ∧ R.r = G.r ∧ R.n = G.n
  s : In60 G.since ∧ In60 R.since
theorem GRel.new {len now : Int} {anew : Bool} (hn : In60 now) : GRel (Gr.new len now anew) (Gr.rnew len now anew) := by
  refine ⟨⟨rfl, ?_⟩, rfl, fun _ => ⟨rfl, rfl, rfl⟩, hn, hn⟩
  show 0 ≤ nearN len 0 1048576 ∧ nearN len 0 1048576 ≤ 1048576
  unfold nearN
  omega
theorem GRel.look {G R : Gr} (h : GRel G R) {now : Int} (hn : In60 now) : GRel (G.look now) (R.rat now) ∧ (R.rat now).st = (G.look now).st := by
  obtain ⟨⟨l1, l2, l3⟩, hst, heq, hs1, hs2⟩ := h
  unfold In60 at hs1 hs2 hn
  have hl : (G.look now).len = G.len := rfl
  have hls : (G.look now).since = min G.since now := rfl
  have hlt : (G.look now).st = (G.st && decide (now - min G.since now < G.len)) := rfl
  cases hR : R.st
  · have e : R.rat now = R := by unfold Gr.rat; rw [if_neg (by rw [hR]; simp)]
    rw [e]
    rw [hR] at hst
    have hz : (G.look now).st = false := by
      rw [hlt]
      cases hG : G.st
      · rfl
      · rw [hG] at hst
        have h0 := of_decide_eq_false (show decide (0 < G.len) = false by simpa using hst.symm)
        rw [decide_eq_false (by omega)]
        rfl
    refine ⟨⟨⟨l1, l2, l3⟩, by rw [hR, hz]; rfl, fun h => (by rw [hR] at h; cases h), ⟨?_, hs2⟩⟩, by rw [hR, hz]⟩
    unfold In60
    rw [hls]
    omega
  · obtain ⟨e1, e2, e3⟩ := heq hR
    rw [hR] at hst
    have hG : G.st = true := by cases h : G.st <;> simp_all
    have hpos : 0 < G.len := by rw [hG] at hst; exact of_decide_eq_true (by simpa using hst.symm)
    have hrs : (R.rat now).since = min G.since now := by
      unfold Gr.rat
      rw [if_pos hR]
      split
      · show now = _
        omega
      · show R.since = _
        omega
    have hrt : (R.rat now).st = (G.look now).st := by
      rw [hlt, hG, Bool.true_and]
      unfold Gr.rat
      rw [if_pos hR]
      split
      · show decide (0 < R.len) = _
        exact decide_eq_decide.2 (by omega)
      · show decide (now < R.since + R.len) = _
        exact decide_eq_decide.2 (by omega)
    have hrr : (R.rat now).r = R.r ∧ (R.rat now).n = R.n := by
      unfold Gr.rat
      rw [if_pos hR]
      split <;> exact ⟨rfl, rfl⟩
    refine ⟨⟨⟨by rw [rat_len]; exact l1, l2, l3⟩, ?_, fun _ => ⟨by rw [hrs, hls], by rw [hrr.1]; exact e2, by rw [hrr.2]; exact e3⟩, ⟨?_, ?_⟩⟩, hrt⟩
    · rw [hrt, hl, decide_eq_true hpos, Bool.and_true]
    · unfold In60; rw [hls]; omega
    · unfold In60; rw [hrs]; omega
theorem GRel.bars {G R : Gr} (h : GRel G R) {now a b : Int} (hn : In60 now) : (G.look now).bars a b = ((R.rat now).st && !sameBal (R.rat now).r (R.rat now).n a b) := by
  obtain ⟨h1, h2⟩ := h.look hn
  unfold Gr.bars
  rw [← h2]
  cases hs : (R.rat now).st
  · rfl
  · obtain ⟨_, e2, e3⟩ := h1.eq hs
    rw [e2, e3]
theorem GRel.grant {G R : Gr} (h : GRel G R) {now a b : Int} (hn : In60 now) : GRel (G.grant a b now).1 (R.rgrant a b now).1 ∧ (R.rgrant a b now).2 = (G.grant a b now).2 := by
  have hb := h.bars (a := a) (b := b) hn
  obtain ⟨h1, h2⟩ := h.look hn
  unfold Gr.grant Gr.rgrant
  by_cases hl : G.len = 0
  · rw [if_pos hl, if_pos (.inl (h.l.1.trans hl))]
    refine ⟨⟨⟨by rw [rat_len]; exact h.l.1, h.l.2⟩, ?_, fun hs => ?_, h.s.1, h1.s.2⟩, rfl⟩
    · rw [h2]
      show (G.st && decide (now - min G.since now < G.len)) = (G.st && decide (0 < G.len))
      rw [hl, decide_eq_false (show ¬ now - min G.since now < 0 by omega)]
      simp
    · rw [h2] at hs
      have : (G.st && decide (now - min G.since now < G.len)) = true := hs
      rw [hl, decide_eq_false (show ¬ now - min G.since now < 0 by omega)] at this
      simp at this
  · rw [if_neg hl]
    by_cases hc : ((G.look now).bars a b || !valB a b) = true
    · rw [if_pos hc, if_pos]
      · exact ⟨h1, rfl⟩
      · right
        rw [← hb]
        cases hv : valB a b
        · exact .inl rfl
        · rw [hv] at hc
          right
          simpa using hc
    · rw [if_neg hc, if_neg]
      · refine ⟨⟨⟨h.l.1, h.l.2⟩, ?_, fun _ => ⟨rfl, rfl, rfl⟩, hn, hn⟩, rfl⟩
        show true = (true && decide (0 < G.len))
        rw [decide_eq_true (by have := h.l.2; omega)]
        rfl
      · rintro (e | e | e)
        · exact hl (h.l.1.symm.trans e)
        · rw [e] at hc; simp at hc
        · rw [← hb] at e; rw [e] at hc; simp at hc
/-- What is there between two steps. -/
structure GRI (w : World) (g bm : Nat) (G R : Gr) (wr : World) : Prop where
  gr : IsG wr g G
  bx : wr.heap[bm]? = some (.cells R.rc 48 (0, 0))
  rel : GRel G R
  bel : Below w.heap.size w wr
  g0 : w.heap.size ≤ g
  m0 : w.heap.size ≤ bm
  ne : bm ≠ g
theorem GRI.below {w wr w' : World} {g bm : Nat} {G R : Gr} (h : GRI w g bm G R wr) (hb : Below wr.heap.size wr w') : GRI w g bm G R w' :=
  ⟨h.gr.below hb, (hb.block bm (lt_of_block h.bx)).trans h.bx, h.rel, h.bel.trans (hb.mono h.bel.size), h.g0, h.m0, h.ne⟩
theorem grat_R (R : Gr) (now : Int) (w : World) (hl : 0 ≤ R.len ∧ R.len ≤ 1048576) (hs : In60 R.since) (hn : In60 now) : Calls Try.prog 24 #[.agg R.rc, .int .i64 now] w (RAtEnds R now w) := by
  obtain ⟨len, st, r, n, since⟩ := R
  unfold In60 at hs hn
  simp only at hs
  exact grat_any len r n since now st w hl (by omega) (by omega)
theorem rgrant_R (R : Gr) (a b now : Int) (w : World) (hl : 0 ≤ R.len ∧ R.len ≤ 1048576) (hs : In60 R.since) (hn : In60 now) : Calls Try.prog 26 #[.agg R.rc, .agg #[.int .i64 a, .int .i64 b], .int .i64 now] w fun e w' => e = .returned (.tuple #[.agg (R.rgrant a b now).1.rc, .bool (R.rgrant a b now).2]) ∧ Below w.heap.size w w' := by
  obtain ⟨len, st, r, n, since⟩ := R
  unfold In60 at hs hn
  simp only at hs
  exact rgrant_any len r n since a b now st w hl (by omega) (by omega)
theorem in64_60 {x : Int} (h : In60 x) : In64' x := by unfold In60 at h; unfold In64'; omega
set_option maxHeartbeats 8000000 in
set_option maxRecDepth 40000 in
theorem grants_walk (length now : Int) (anew : Bool) (A : Option Addr) (len cap : Nat) (ts : List Gop) (w : World) (hT : HasGo w w.heap.size A ts) (he : ts.length = len) (hlen : len ≤ 140737488355328) :
    Calls Try.prog 6 #[.int .i64 length, .int .i64 now, .bool anew, .slice A len cap] w fun e w' => e = .returned (.bool true) ∧ Below w.heap.size w w' := by
  have HL := hide he
  clear he
  go_enter Try.func6, Try.ntmps6
  go_wp2_with fail
  refine (head18_any w).mono ?_
  rintro e w1 ⟨rfl, hb1⟩
  go_wp2_with fail
  refine (far_any now w1).mono ?_
  rintro e _ ⟨rfl, rfl⟩
  by_cases hf : now < -1152921504606846976 ∨ 1152921504606846976 < now
  · rw [decide_eq_true hf]
    go_wp2
    go_ret
    exact ⟨rfl, hb1⟩
  · rw [decide_eq_false hf]
    have HNW : Hid (In60 now) := hide (by unfold In60; omega)
    clear hf
    go_wp2_with fail
    refine (gnew_any length now anew w1 (by have := HNW.out; unfold In60 at this; unfold In64'; omega)).mono ?_
    rintro e w2 ⟨rfl, hg2, hb2⟩
    go_wp2_with fail
    refine (grnew_any length now anew w2).mono ?_
    rintro e w3 ⟨rfl, hb3⟩
    have hg3 := hg2.below hb3
    have HREL : Hid (GRel (Gr.new length now anew) (Gr.rnew length now anew)) := hide (GRel.new HNW.out)
    generalize Gr.new length now anew = G0 at *
    generalize Gr.rnew length now anew = R0 at *
    have hb13 := hb2.trans (hb3.mono hb2.size)
    have HB3 := hide (hb1.trans (hb13.mono hb1.size))
    have HG3 := hide hg3
    have HS := hide (show w.heap.size ≤ w1.heap.size from hb1.size)
    clear hg2 hb2 hb3 hg3 hb13 hb1
    generalize w1.heap.size = g at *
    go_upto_region 7 with (refine wpList_store_row rfl 48 _ _ rfl w3.heap.size R0.rc rfl rfl _ _ (heap_alloc_new w3 (.cells #[.int .i64 0, .int .i64 0, .int .i64 0, .int .i64 0, .bool false] 48)) R0.rc_size rfl R0.rc_one ?_; generalize hw4 : (w3.alloc (.cells #[.int .i64 0, .int .i64 0, .int .i64 0, .int .i64 0, .bool false] 48)).setRow w3.heap.size R0.rc = w4 at *)
    obtain ⟨hx4, hb4, hz4⟩ := box_rowL hw4
    clear hw4 hz4
    have hI : GRI w g w3.heap.size G0 R0 w4 := ⟨HG3.out.below hb4, hx4, HREL.out, HB3.out.trans (hb4.mono HB3.out.size), HS.out, HB3.out.size, by have := HG3.out.lt; omega⟩
    have HI := hide hI
    clear hI hx4 hb4 HG3 HB3 HS HREL
    generalize w3.heap.size = bm at *
    go_wp2_with fail
    go_loopw [11, 12, 13, 14] (fun s11 s12 s13 s14 wr => ∃ (k : Nat) (G R : Gr), s11 = .int .i64 (k : Int) ∧ k ≤ len ∧ k ≤ 100 ∧ Hid (GRI w g bm G R wr)) (fun s11 _ _ _ _ => (100 - intOf s11).toNat)
    case atStart => exact ⟨0, G0, R0, rfl, by omega, by omega, HI⟩
    case round =>
      clear HI
      obtain ⟨k, G, R, rfl, hk1, hk2, hI⟩ := hrel
      by_cases hlt : k < len
      · by_cases h100 : k < 100
        · have hjl : k < ts.length := by rw [HL.out]; exact hlt
          have hTb := hT.below hI.out.bel
          obtain ⟨b', o, rfl, hbb, hra⟩ := hTb.at_ k hjl
          generalize ts[k] = q at *
          obtain ⟨K, a, b, M, N⟩ := q
          have hra' : wr.rangeAt b' (o + k * 5) [(.int .i64 K : Value), .int .i64 a, .int .i64 b, .int .i64 M, .int .i64 N] := hra
          have hil : (k : Int) < (len : Int) := by omega
          have hi6 : (k : Int) < 100 := by omega
          clear hra hTb
          go_upto_region 11 with (refine wpList_load_mid rfl 51 _ rfl b' (o + k * 5) (by simp [Act.eval, Act.put]) [(.int .i64 K : Value), .int .i64 a, .int .i64 b, .int .i64 M, .int .i64 N] _ hra' Try.underlying51 rfl (by kernel_rfl) ?_)
          have hbo := heap_alloc_new wr (.cells #[.int .i64 K, .int .i64 a, .int .i64 b, .int .i64 M, .int .i64 N] 51)
          have HI1 := hide (hI.out.below ((Below.refl _ _).alloc (Nat.le_refl _) (.cells #[.int .i64 K, .int .i64 a, .int .i64 b, .int .i64 M, .int .i64 N] 51)))
          have hbom : wr.heap.size ≠ bm := by have := lt_of_block hI.out.bx; omega
          have hbog : wr.heap.size ≠ g := by have := hI.out.gr.lt; omega
          have hbmg : bm ≠ g := hI.out.ne
          generalize wr.alloc (.cells #[.int .i64 K, .int .i64 a, .int .i64 b, .int .i64 M, .int .i64 N] 51) = w3 at *
          generalize wr.heap.size = bo at *
          obtain ⟨x0, x1, x2, x3, x4⟩ := gop_cells hbo
          have HBX := hide hbo
          clear hra' hbo
          go_wp2_with fail
          refine (far_any N w3).mono ?_
          rintro e _ ⟨rfl, rfl⟩
          by_cases hfn : N < -1152921504606846976 ∨ 1152921504606846976 < N
          · rw [decide_eq_true hfn]
            go_wp2
            go_roundw
            case rel => exact ⟨k + 1, G, R, by go_num, by omega, by omega, HI1⟩
            case measure => simp [intOf]; omega
          · rw [decide_eq_false hfn]
            have HNN : Hid (In60 N) := hide (by unfold In60; omega)
            clear hfn
            by_cases k0 : K = 0
            · subst k0
              have hat := grat_R R N w3 (by have := HI1.out.rel.l; omega) HI1.out.rel.s.2 HNN.out
              unfold RAtEnds at hat
              have hlk := HI1.out.rel.look HNN.out
              have hbr := HI1.out.rel.bars (a := a) (b := b) HNN.out
              have hgb := fun W (h : IsG W g G) => gbars_any h a b N (in64_60 HNN.out)
              rw [hbr] at hgb
              generalize R.rat N = R1 at *
              generalize G.look N = G1 at *
              have HLK := hide hlk
              have HGB := hide hgb
              have HBX0 := hide HI1.out.bx
              clear hlk hbr hgb
              go_wp2_with (first | (refine wpList_load_row rfl 48 _ rfl bm rfl _ _ _ _ HBX0.out Try.underlying48 rfl R.rc_size ?_) | fail)
              refine hat.mono ?_
              rintro e w4 ⟨rfl, hb4⟩
              have hI4 := HI1.out.below hb4
              have hbx4 := (hb4.block _ (lt_of_block HBX.out)).trans HBX.out
              have hk5 := Kept.of_setRow w4 bm R1.rc
              have HBX4 := hide hI4.bx
              have HR3 : Hid ((w4.setRow bm R1.rc).drew.heap[bm]? = some (.cells R1.rc 48 (0, 0))) := hide (set_row_at hI4.bx)
              have HBX3 : Hid ((w4.setRow bm R1.rc).drew.heap[bo]? = some (.cells #[.int .i64 0, .int .i64 a, .int .i64 b, .int .i64 M, .int .i64 N] 51 (0, 0))) := hide ((hk5.block bo (lt_of_block hbx4) hbom).trans hbx4)
              have hg5 : IsG (w4.setRow bm R1.rc).drew g G := (hI4.gr.kept hk5 (fun e => hbmg e.symm)).below ((Below.refl _ _).drew)
              have HBA := hide (HGB.out _ hg5)
              have HK5 := hide (hI4.bel.trans ((hk5.below hI4.bel.size (fun j hj => by rw [hj]; exact hI4.m0)).drew))
              obtain ⟨eb, he⟩ : ∃ eb, sameBal R1.r R1.n a b = eb := ⟨_, rfl⟩
              have k1 := fun W => equal_bal 9998 R1.r R1.n a b W
              rw [show decide ([R1.r, R1.n] = [a, b]) = eb from he] at k1
              obtain ⟨sb, hsb⟩ : ∃ sb, R1.st = sb := ⟨_, rfl⟩
              rw [he, hsb] at HBA
              have HST := hide hsb
              clear x0 x1 x2 x3 x4 hat hb4 hI4 hbx4 hk5 hg5 he hsb HGB
              go_upto_region 14 with (refine wpList_store_row rfl 48 _ _ rfl bm R1.rc rfl rfl _ _ HBX4.out R1.rc_size rfl R1.rc_one ?_; generalize w4.setRow bm R1.rc = w5 at *)
              cases sb
              · refine wp_region_held_drew (S := fun W => W.heap[bo]? = some (.cells #[.int .i64 0, .int .i64 a, .int .i64 b, .int .i64 M, .int .i64 N] 51 (0, 0)) ∧ W.heap[bm]? = some (.cells R1.rc 48 (0, 0))) (by kernel_rfl) (⟨HBX3.out, HR3.out⟩) (fun hHeld => ?_)
                refine wpAnyH_take (i := 0) (oi := _) (v := .pointer (some ⟨g, 0, none⟩)) rfl (by kernel_rfl) (by kernel_rfl) (by kernel_rfl) (fun _ _ _ h => h) (Or.inl ⟨by rfl, fun w' hSw => by go_simp⟩) hHeld ?_
                (try simp only [Act.put, List.setIfInBounds_toArray, List.set_cons_zero, List.set_cons_succ, List.getElem_toArray, List.getElem_cons_zero, List.getElem_cons_succ])
                refine wpAnyH_take (i := 1) (oi := _) (v := .pointer (some ⟨bo, 1, none⟩)) rfl (by kernel_rfl) (by kernel_rfl) (by kernel_rfl) (fun _ _ _ h => h) (Or.inl ⟨by rfl, fun w' hSw => by go_simp⟩) hHeld ?_
                (try simp only [Act.put, List.setIfInBounds_toArray, List.set_cons_zero, List.set_cons_succ, List.getElem_toArray, List.getElem_cons_zero, List.getElem_cons_succ])
                refine wpAnyH_take (i := 2) (oi := _) (v := .agg #[.int .i64 a, .int .i64 b]) rfl (by kernel_rfl) (by kernel_rfl) (by kernel_rfl) (fun _ _ _ h => h) (Or.inl ⟨by rfl, fun w' hSw => by obtain ⟨x0, x1, x2, x3, x4⟩ := gop_cells hSw.1; obtain ⟨z0, z1, z2, z3, z4⟩ := rc_cells hSw.2; rw [HST.out] at z4; go_simp⟩) hHeld ?_
                (try simp only [Act.put, List.setIfInBounds_toArray, List.set_cons_zero, List.set_cons_succ, List.getElem_toArray, List.getElem_cons_zero, List.getElem_cons_succ])
                refine wpAnyH_take (i := 3) (oi := _) (v := .pointer (some ⟨bo, 4, none⟩)) rfl (by kernel_rfl) (by kernel_rfl) (by kernel_rfl) (fun _ _ _ h => h) (Or.inl ⟨by rfl, fun w' hSw => by go_simp⟩) hHeld ?_
                (try simp only [Act.put, List.setIfInBounds_toArray, List.set_cons_zero, List.set_cons_succ, List.getElem_toArray, List.getElem_cons_zero, List.getElem_cons_succ])
                refine wpAnyH_take (i := 4) (oi := _) (v := .int .i64 N) rfl (by kernel_rfl) (by kernel_rfl) (by kernel_rfl) (fun _ _ _ h => h) (Or.inl ⟨by rfl, fun w' hSw => by obtain ⟨x0, x1, x2, x3, x4⟩ := gop_cells hSw.1; obtain ⟨z0, z1, z2, z3, z4⟩ := rc_cells hSw.2; rw [HST.out] at z4; go_simp⟩) hHeld ?_
                (try simp only [Act.put, List.setIfInBounds_toArray, List.set_cons_zero, List.set_cons_succ, List.getElem_toArray, List.getElem_cons_zero, List.getElem_cons_succ])
                refine wpAnyH_take (i := 6) (oi := _) (v := .pointer (some ⟨bm, 4, none⟩)) rfl (by kernel_rfl) (by kernel_rfl) (by kernel_rfl) (fun _ _ _ h => h) (Or.inl ⟨by rfl, fun w' hSw => by go_simp⟩) hHeld ?_
                (try simp only [Act.put, List.setIfInBounds_toArray, List.set_cons_zero, List.set_cons_succ, List.getElem_toArray, List.getElem_cons_zero, List.getElem_cons_succ])
                refine wpAnyH_take (i := 7) (oi := _) (v := .bool false) rfl (by kernel_rfl) (by kernel_rfl) (by kernel_rfl) (fun _ _ _ h => h) (Or.inl ⟨by rfl, fun w' hSw => by obtain ⟨x0, x1, x2, x3, x4⟩ := gop_cells hSw.1; obtain ⟨z0, z1, z2, z3, z4⟩ := rc_cells hSw.2; rw [HST.out] at z4; go_simp⟩) hHeld ?_
                (try simp only [Act.put, List.setIfInBounds_toArray, List.set_cons_zero, List.set_cons_succ, List.getElem_toArray, List.getElem_cons_zero, List.getElem_cons_succ])
                refine wpAnyH_ready (rs := [5]) (by kernel_rfl) (by simp) ?_
                refine AllReadyH.cons (o := _) rfl (fun K hK => ?_) AllReadyH.nil
                (try simp only [List.getElem_toArray, List.getElem_cons_zero, List.getElem_cons_succ])
                go_simp
                refine HBA.out.mono ?_
                rintro e w5' ⟨rfl, g5, k5⟩
                go_wp2_with fail
                have hbx5 := (k5.block bo (lt_of_block HBX3.out) hbog).trans HBX3.out
                have hr5 := (k5.block bm (lt_of_block HR3.out) hbmg).trans HR3.out
                refine hK.out _ _ (⟨hbx5, hr5⟩) (fun hHeld => ?_)
                clear hK
                (try simp only [Act.put, List.setIfInBounds_toArray, List.set_cons_zero, List.set_cons_succ, List.getElem_toArray, List.getElem_cons_zero, List.getElem_cons_succ])
                refine wpAnyH_take (i := 8) (oi := _) (v := .bool false) rfl (by kernel_rfl) (by kernel_rfl) (by kernel_rfl) (fun _ _ _ h => h) (Or.inl ⟨by rfl, fun w' hSw => by go_simp⟩) hHeld ?_
                (try simp only [Act.put, List.setIfInBounds_toArray, List.set_cons_zero, List.set_cons_succ, List.getElem_toArray, List.getElem_cons_zero, List.getElem_cons_succ])
                refine wpAnyH_take (i := 9) (oi := _) (v := undef) rfl (by kernel_rfl) (by kernel_rfl) (by kernel_rfl) (fun _ _ _ h => h) (Or.inr ⟨by rfl, rfl⟩) hHeld ?_
                (try simp only [Act.put, List.setIfInBounds_toArray, List.set_cons_zero, List.set_cons_succ, List.getElem_toArray, List.getElem_cons_zero, List.getElem_cons_succ])
                refine wpAnyH_take (i := 10) (oi := _) (v := undef) rfl (by kernel_rfl) (by kernel_rfl) (by kernel_rfl) (fun _ _ _ h => h) (Or.inr ⟨by rfl, rfl⟩) hHeld ?_
                (try simp only [Act.put, List.setIfInBounds_toArray, List.set_cons_zero, List.set_cons_succ, List.getElem_toArray, List.getElem_cons_zero, List.getElem_cons_succ])
                refine wpAnyH_take (i := 11) (oi := _) (v := undef) rfl (by kernel_rfl) (by kernel_rfl) (by kernel_rfl) (fun _ _ _ h => h) (Or.inr ⟨by rfl, rfl⟩) hHeld ?_
                (try simp only [Act.put, List.setIfInBounds_toArray, List.set_cons_zero, List.set_cons_succ, List.getElem_toArray, List.getElem_cons_zero, List.getElem_cons_succ])
                refine wpAnyH_take (i := 12) (oi := _) (v := undef) rfl (by kernel_rfl) (by kernel_rfl) (by kernel_rfl) (fun _ _ _ h => h) (Or.inr ⟨by rfl, rfl⟩) hHeld ?_
                (try simp only [Act.put, List.setIfInBounds_toArray, List.set_cons_zero, List.set_cons_succ, List.getElem_toArray, List.getElem_cons_zero, List.getElem_cons_succ])
                refine wpAnyH_take (i := 13) (oi := _) (v := undef) rfl (by kernel_rfl) (by kernel_rfl) (by kernel_rfl) (fun _ _ _ h => h) (Or.inr ⟨by rfl, rfl⟩) hHeld ?_
                (try simp only [Act.put, List.setIfInBounds_toArray, List.set_cons_zero, List.set_cons_succ, List.getElem_toArray, List.getElem_cons_zero, List.getElem_cons_succ])
                refine wpAnyH_take (i := 14) (oi := _) (v := .bool false) rfl (by kernel_rfl) (by kernel_rfl) (by kernel_rfl) (fun _ _ _ h => h) (Or.inl ⟨by rfl, fun w' hSw => by go_simp⟩) hHeld ?_
                (try simp only [Act.put, List.setIfInBounds_toArray, List.set_cons_zero, List.set_cons_succ, List.getElem_toArray, List.getElem_cons_zero, List.getElem_cons_succ])
                refine wpAnyH_take (i := 15) (oi := _) (v := .bool false) rfl (by kernel_rfl) (by kernel_rfl) (by kernel_rfl) (fun _ _ _ h => h) (Or.inl ⟨by rfl, fun w' hSw => by go_simp⟩) hHeld ?_
                (try simp only [Act.put, List.setIfInBounds_toArray, List.set_cons_zero, List.set_cons_succ, List.getElem_toArray, List.getElem_cons_zero, List.getElem_cons_succ])
                refine wpAnyH_done (by kernel_rfl) ?_ _
                obtain ⟨x0, x1, x2, x3, x4⟩ := gop_cells hbx5
                have hI7 : GRI w g bm G1 R1 w5' := ⟨g5, hr5, HLK.out.1, HK5.out.trans (k5.below HK5.out.size (fun j hj => by rw [hj]; exact HI1.out.g0)), HI1.out.g0, HI1.out.m0, hbmg⟩
                have HI7 := hide hI7
                clear hI7 g5 k5 hr5 hbx5
                go_wp2_with fail
                go_roundw
                case rel => exact ⟨k + 1, G1, R1, by go_num, by omega, by omega, HI7⟩
                case measure => simp [intOf]; omega
              · refine wp_region_held_drew (S := fun W => W.heap[bo]? = some (.cells #[.int .i64 0, .int .i64 a, .int .i64 b, .int .i64 M, .int .i64 N] 51 (0, 0)) ∧ W.heap[bm]? = some (.cells R1.rc 48 (0, 0))) (by kernel_rfl) (⟨HBX3.out, HR3.out⟩) (fun hHeld => ?_)
                refine wpAnyH_take (i := 0) (oi := _) (v := .pointer (some ⟨g, 0, none⟩)) rfl (by kernel_rfl) (by kernel_rfl) (by kernel_rfl) (fun _ _ _ h => h) (Or.inl ⟨by rfl, fun w' hSw => by go_simp⟩) hHeld ?_
                (try simp only [Act.put, List.setIfInBounds_toArray, List.set_cons_zero, List.set_cons_succ, List.getElem_toArray, List.getElem_cons_zero, List.getElem_cons_succ])
                refine wpAnyH_take (i := 1) (oi := _) (v := .pointer (some ⟨bo, 1, none⟩)) rfl (by kernel_rfl) (by kernel_rfl) (by kernel_rfl) (fun _ _ _ h => h) (Or.inl ⟨by rfl, fun w' hSw => by go_simp⟩) hHeld ?_
                (try simp only [Act.put, List.setIfInBounds_toArray, List.set_cons_zero, List.set_cons_succ, List.getElem_toArray, List.getElem_cons_zero, List.getElem_cons_succ])
                refine wpAnyH_take (i := 2) (oi := _) (v := .agg #[.int .i64 a, .int .i64 b]) rfl (by kernel_rfl) (by kernel_rfl) (by kernel_rfl) (fun _ _ _ h => h) (Or.inl ⟨by rfl, fun w' hSw => by obtain ⟨x0, x1, x2, x3, x4⟩ := gop_cells hSw.1; obtain ⟨z0, z1, z2, z3, z4⟩ := rc_cells hSw.2; rw [HST.out] at z4; go_simp⟩) hHeld ?_
                (try simp only [Act.put, List.setIfInBounds_toArray, List.set_cons_zero, List.set_cons_succ, List.getElem_toArray, List.getElem_cons_zero, List.getElem_cons_succ])
                refine wpAnyH_take (i := 3) (oi := _) (v := .pointer (some ⟨bo, 4, none⟩)) rfl (by kernel_rfl) (by kernel_rfl) (by kernel_rfl) (fun _ _ _ h => h) (Or.inl ⟨by rfl, fun w' hSw => by go_simp⟩) hHeld ?_
                (try simp only [Act.put, List.setIfInBounds_toArray, List.set_cons_zero, List.set_cons_succ, List.getElem_toArray, List.getElem_cons_zero, List.getElem_cons_succ])
                refine wpAnyH_take (i := 4) (oi := _) (v := .int .i64 N) rfl (by kernel_rfl) (by kernel_rfl) (by kernel_rfl) (fun _ _ _ h => h) (Or.inl ⟨by rfl, fun w' hSw => by obtain ⟨x0, x1, x2, x3, x4⟩ := gop_cells hSw.1; obtain ⟨z0, z1, z2, z3, z4⟩ := rc_cells hSw.2; rw [HST.out] at z4; go_simp⟩) hHeld ?_
                (try simp only [Act.put, List.setIfInBounds_toArray, List.set_cons_zero, List.set_cons_succ, List.getElem_toArray, List.getElem_cons_zero, List.getElem_cons_succ])
                refine wpAnyH_take (i := 6) (oi := _) (v := .pointer (some ⟨bm, 4, none⟩)) rfl (by kernel_rfl) (by kernel_rfl) (by kernel_rfl) (fun _ _ _ h => h) (Or.inl ⟨by rfl, fun w' hSw => by go_simp⟩) hHeld ?_
                (try simp only [Act.put, List.setIfInBounds_toArray, List.set_cons_zero, List.set_cons_succ, List.getElem_toArray, List.getElem_cons_zero, List.getElem_cons_succ])
                refine wpAnyH_take (i := 7) (oi := _) (v := .bool true) rfl (by kernel_rfl) (by kernel_rfl) (by kernel_rfl) (fun _ _ _ h => h) (Or.inl ⟨by rfl, fun w' hSw => by obtain ⟨x0, x1, x2, x3, x4⟩ := gop_cells hSw.1; obtain ⟨z0, z1, z2, z3, z4⟩ := rc_cells hSw.2; rw [HST.out] at z4; go_simp⟩) hHeld ?_
                (try simp only [Act.put, List.setIfInBounds_toArray, List.set_cons_zero, List.set_cons_succ, List.getElem_toArray, List.getElem_cons_zero, List.getElem_cons_succ])
                refine wpAnyH_ready (rs := [5]) (by kernel_rfl) (by simp) ?_
                refine AllReadyH.cons (o := _) rfl (fun K hK => ?_) AllReadyH.nil
                (try simp only [List.getElem_toArray, List.getElem_cons_zero, List.getElem_cons_succ])
                go_simp
                refine HBA.out.mono ?_
                rintro e w5' ⟨rfl, g5, k5⟩
                go_wp2_with fail
                have hbx5 := (k5.block bo (lt_of_block HBX3.out) hbog).trans HBX3.out
                have hr5 := (k5.block bm (lt_of_block HR3.out) hbmg).trans HR3.out
                refine hK.out _ _ (⟨hbx5, hr5⟩) (fun hHeld => ?_)
                clear hK
                (try simp only [Act.put, List.setIfInBounds_toArray, List.set_cons_zero, List.set_cons_succ, List.getElem_toArray, List.getElem_cons_zero, List.getElem_cons_succ])
                refine wpAnyH_take (i := 8) (oi := _) (v := .bool true) rfl (by kernel_rfl) (by kernel_rfl) (by kernel_rfl) (fun _ _ _ h => h) (Or.inl ⟨by rfl, fun w' hSw => by go_simp⟩) hHeld ?_
                (try simp only [Act.put, List.setIfInBounds_toArray, List.set_cons_zero, List.set_cons_succ, List.getElem_toArray, List.getElem_cons_zero, List.getElem_cons_succ])
                refine wpAnyH_take (i := 9) (oi := _) (v := .pointer (some ⟨bm, 2, none⟩)) rfl (by kernel_rfl) (by kernel_rfl) (by kernel_rfl) (fun _ _ _ h => h) (Or.inl ⟨by rfl, fun w' hSw => by go_simp⟩) hHeld ?_
                (try simp only [Act.put, List.setIfInBounds_toArray, List.set_cons_zero, List.set_cons_succ, List.getElem_toArray, List.getElem_cons_zero, List.getElem_cons_succ])
                refine wpAnyH_take (i := 10) (oi := _) (v := .agg #[.int .i64 R1.r, .int .i64 R1.n]) rfl (by kernel_rfl) (by kernel_rfl) (by kernel_rfl) (fun _ _ _ h => h) (Or.inl ⟨by rfl, fun w' hSw => by obtain ⟨x0, x1, x2, x3, x4⟩ := gop_cells hSw.1; obtain ⟨z0, z1, z2, z3, z4⟩ := rc_cells hSw.2; rw [HST.out] at z4; go_simp⟩) hHeld ?_
                (try simp only [Act.put, List.setIfInBounds_toArray, List.set_cons_zero, List.set_cons_succ, List.getElem_toArray, List.getElem_cons_zero, List.getElem_cons_succ])
                refine wpAnyH_take (i := 11) (oi := _) (v := .pointer (some ⟨bo, 1, none⟩)) rfl (by kernel_rfl) (by kernel_rfl) (by kernel_rfl) (fun _ _ _ h => h) (Or.inl ⟨by rfl, fun w' hSw => by go_simp⟩) hHeld ?_
                (try simp only [Act.put, List.setIfInBounds_toArray, List.set_cons_zero, List.set_cons_succ, List.getElem_toArray, List.getElem_cons_zero, List.getElem_cons_succ])
                refine wpAnyH_take (i := 12) (oi := _) (v := .agg #[.int .i64 a, .int .i64 b]) rfl (by kernel_rfl) (by kernel_rfl) (by kernel_rfl) (fun _ _ _ h => h) (Or.inl ⟨by rfl, fun w' hSw => by obtain ⟨x0, x1, x2, x3, x4⟩ := gop_cells hSw.1; obtain ⟨z0, z1, z2, z3, z4⟩ := rc_cells hSw.2; rw [HST.out] at z4; go_simp⟩) hHeld ?_
                (try simp only [Act.put, List.setIfInBounds_toArray, List.set_cons_zero, List.set_cons_succ, List.getElem_toArray, List.getElem_cons_zero, List.getElem_cons_succ])
                refine wpAnyH_take (i := 13) (oi := _) (v := .bool (!eb)) rfl (by kernel_rfl) (by kernel_rfl) (by kernel_rfl) (fun _ _ _ h => h) (Or.inl ⟨by rfl, fun w' hSw => by go_simp⟩) hHeld ?_
                (try simp only [Act.put, List.setIfInBounds_toArray, List.set_cons_zero, List.set_cons_succ, List.getElem_toArray, List.getElem_cons_zero, List.getElem_cons_succ])
                refine wpAnyH_take (i := 14) (oi := _) (v := .bool (!eb)) rfl (by kernel_rfl) (by kernel_rfl) (by kernel_rfl) (fun _ _ _ h => h) (Or.inl ⟨by rfl, fun w' hSw => by go_simp⟩) hHeld ?_
                (try simp only [Act.put, List.setIfInBounds_toArray, List.set_cons_zero, List.set_cons_succ, List.getElem_toArray, List.getElem_cons_zero, List.getElem_cons_succ])
                refine wpAnyH_take (i := 15) (oi := _) (v := .bool false) rfl (by kernel_rfl) (by kernel_rfl) (by kernel_rfl) (fun _ _ _ h => h) (Or.inl ⟨by rfl, fun w' hSw => by go_simp⟩) hHeld ?_
                (try simp only [Act.put, List.setIfInBounds_toArray, List.set_cons_zero, List.set_cons_succ, List.getElem_toArray, List.getElem_cons_zero, List.getElem_cons_succ])
                refine wpAnyH_done (by kernel_rfl) ?_ _
                obtain ⟨x0, x1, x2, x3, x4⟩ := gop_cells hbx5
                have hI7 : GRI w g bm G1 R1 w5' := ⟨g5, hr5, HLK.out.1, HK5.out.trans (k5.below HK5.out.size (fun j hj => by rw [hj]; exact HI1.out.g0)), HI1.out.g0, HI1.out.m0, hbmg⟩
                have HI7 := hide hI7
                clear hI7 g5 k5 hr5 hbx5
                go_wp2_with fail
                go_roundw
                case rel => exact ⟨k + 1, G1, R1, by go_num, by omega, by omega, HI7⟩
                case measure => simp [intOf]; omega
            by_cases k1 : K = 1
            · subst k1
              have hrg := rgrant_R R a b N w3 (by have := HI1.out.rel.l; omega) HI1.out.rel.s.2 HNN.out
              obtain ⟨hrel, hans⟩ := HI1.out.rel.grant (a := a) (b := b) HNN.out
              have hgg := fun W (h : IsG W g G) => ggrant_any h a b N (in64_60 HNN.out)
              rw [← hans] at hgg
              obtain ⟨R1, hR1⟩ : ∃ R1, (R.rgrant a b N).1 = R1 := ⟨_, rfl⟩
              obtain ⟨vb, hvb⟩ : ∃ vb, (R.rgrant a b N).2 = vb := ⟨_, rfl⟩
              rw [hR1, hvb] at hrg
              rw [hR1] at hrel
              rw [hvb] at hgg
              generalize (G.grant a b N).1 = G1 at *
              have HREL := hide hrel
              have HGG := hide hgg
              have HBX0 := hide HI1.out.bx
              clear hrel hgg hR1 hvb hans
              go_wp2_with (first | (refine wpList_load_row rfl 48 _ rfl bm rfl _ _ _ _ HBX0.out Try.underlying48 rfl R.rc_size ?_) | fail)
              refine hrg.mono ?_
              rintro e w4 ⟨rfl, hb4⟩
              have HI4 := hide (HI1.out.below hb4)
              have HBX4 := hide ((hb4.block _ (lt_of_block HBX.out)).trans HBX.out)
              clear x0 x1 x2 x3 x4 hrg hb4
              go_upto_region 18 with (refine wpList_store_row rfl 48 _ _ rfl w4.heap.size R1.rc rfl rfl _ _ (heap_alloc_new w4 (.cells #[.int .i64 0, .int .i64 0, .int .i64 0, .int .i64 0, .bool false] 48)) R1.rc_size rfl R1.rc_one ?_; generalize hw5 : (w4.alloc (.cells #[.int .i64 0, .int .i64 0, .int .i64 0, .int .i64 0, .bool false] 48)).setRow w4.heap.size R1.rc = w5 at *)
              obtain ⟨hx5, hb5, hz5⟩ := box_rowL hw5
              clear hw5 hz5
              have hI5 := HI4.out.below hb5
              have hbx5 := (hb5.block _ (lt_of_block HBX4.out)).trans HBX4.out
              have HX5 := hide hx5
              have HRB := hide hI5.bx
              have hk6 := Kept.of_setRow w5 bm R1.rc
              have HR6 := hide (set_row_at (B := R1.rc) hI5.bx)
              have HBX6 := hide ((hk6.block bo (lt_of_block hbx5) hbom).trans hbx5)
              have HG6 := hide (hI5.gr.kept hk6 (fun e => hbmg e.symm))
              have HB6 := hide (hI5.bel.trans (hk6.below hI5.bel.size (fun j hj => by rw [hj]; exact hI5.m0)))
              have HZ := hide (And.intro hI5.g0 hI5.m0)
              clear hx5 hb5 hI5 hbx5 hk6
              go_upto_region 19 with (first
                | (refine wpList_load_row rfl 48 _ rfl w4.heap.size rfl _ _ _ _ HX5.out Try.underlying48 rfl R1.rc_size ?_)
                | (refine wpList_store_row rfl 48 _ _ rfl bm R1.rc rfl rfl _ _ HRB.out R1.rc_size rfl R1.rc_one ?_; generalize w5.setRow bm R1.rc = w6 at *))
              obtain ⟨x0, x1, x2, x3, x4⟩ := gop_cells HBX6.out
              go_wp2_with fail
              refine (HGG.out w6 HG6.out).mono ?_
              rintro e w7 ⟨rfl, g7, k7⟩
              have hI7 : GRI w g bm G1 R1 w7 := ⟨g7, (k7.block bm (lt_of_block HR6.out) hbmg).trans HR6.out, HREL.out, HB6.out.trans (k7.below HB6.out.size (fun j hj => by rw [hj]; exact HZ.out.1)), HZ.out.1, HZ.out.2, hbmg⟩
              have HI7 := hide hI7
              clear hI7 g7 k7 x0 x1 x2 x3 x4
              cases vb
              · go_wp2_with fail
                go_roundw
                case rel => exact ⟨k + 1, G1, R1, by go_num, by omega, by omega, HI7⟩
                case measure => simp [intOf]; omega
              · go_wp2_with fail
                go_roundw
                case rel => exact ⟨k + 1, G1, R1, by go_num, by omega, by omega, HI7⟩
                case measure => simp [intOf]; omega
            have d0 : (K == 0) = false := by simpa using k0
            have d1 : (K == 1) = false := by simpa using k1
            clear k0 k1
            go_wp2
            go_roundw
            case rel => exact ⟨k + 1, G, R, by go_num, by omega, by omega, HI1⟩
            case measure => simp [intOf]; omega
        · have d1 : decide ((k : Int) < 100) = false := decide_eq_false (by omega)
          have d2 : decide ((k : Int) < (len : Int)) = true := decide_eq_true (by omega)
          go_wp2_with fail
          refine (gbars_nil _ _ _ _).mono ?_
          rintro e w5 ⟨rfl, hb5⟩
          go_wp2_with fail
          refine (ggrant_nil _ _ _ _).mono ?_
          rintro e w6 ⟨rfl, hb6⟩
          go_wp2
          go_ret
          exact ⟨rfl, hI.out.bel.trans ((hb5.trans (hb6.mono hb5.size)).mono hI.out.bel.size)⟩
      · have d2 : decide ((k : Int) < (len : Int)) = false := decide_eq_false (by omega)
        go_wp2_with fail
        refine (gbars_nil _ _ _ _).mono ?_
        rintro e w5 ⟨rfl, hb5⟩
        go_wp2_with fail
        refine (ggrant_nil _ _ _ _).mono ?_
        rintro e w6 ⟨rfl, hb6⟩
        go_wp2
        go_ret
        exact ⟨rfl, hI.out.bel.trans ((hb5.trans (hb6.mono hb5.size)).mono hI.out.bel.size)⟩
end Go.Proofs.Ytgdncmkhcdmjoaa
