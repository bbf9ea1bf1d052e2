/-
  In of package link. Conditions: the numbers are within 2^41, what is read is in reach.
-/
import Derived.Test.YtpbfibofjkinmaaLinkO
import Derived.Test.YtpbfibofjkinmaaLinkL
import Derived.Handy
import Derived.Deep.RegionHeld3
set_option linter.unusedSimpArgs false
set_option linter.unusedVariables false
namespace Go.Proofs.Ytpbfibofjkinmaa
open Go.RowKit Go.Maps

/-- What In does to an end, and what comes out. -/
def InP (k : Lk) (F : RdF) (k' : Lk) (o : Option (List UInt8)) : Prop :=
  (F.err ≠ 0 ∧ k' = k ∧ o = none) ∨ (F.err = 0 ∧ F.kd = 2 ∧ k' = (if (F.lf : Int) = k.life then k.free F.nm else k) ∧ o = none) ∨
    (F.err = 0 ∧ F.kd ≠ 2 ∧ ∃ fr, TakeP k F.lf F.nm F.od fr k' ∧ o = if fr = true then some F.xs else none)
def outB (o : Option (List UInt8)) : Bool := o.isSome
def outX (o : Option (List UInt8)) : List UInt8 := o.getD []
def InEnds (base g : Nat) (wv mv dv : Value) (k : Lk) (fs : List UInt8) (w : World) (e : Ending) (w' : World) : Prop :=
  ∃ wv' mv' dv' k' o v, IsK w' base g wv' mv' dv' k' ∧ Kept (LBl g wv mv dv) w w' ∧ (∀ j, LBl g wv' mv' dv' j → LBl g wv mv dv j ∨ w.heap.size ≤ j) ∧ InP k (rdF fs) k' o ∧
    e = .returned (.tuple #[v, .bool (outB o), .int .i64 (rdF fs).err]) ∧ Own w' w.heap.size v (outX o)

theorem rdF_le (fs : List UInt8) : ((rdF fs).kd : Int) ≤ 2 ∧ ((rdF fs).lf : Int) ≤ M40 ∧ ((rdF fs).nm : Int) ≤ M40 ∧ ((rdF fs).od : Int) ≤ M40 := by
  have h0 : (0 : Int) ≤ M40 := by unfold M40; omega
  have h1 := rc_le (s := (fs, 0)) (most := 2) (by omega)
  have h2 := rc_le (s := (rc 2 (fs, 0)).2) h0
  have h3 := rc_le (s := (rc M40 (rc 2 (fs, 0)).2).2) h0
  unfold rdF rd5
  split
  · exact ⟨h1, h2, h3, rc_le h0⟩
  · exact ⟨h1, h2, h3, h0⟩

set_option maxHeartbeats 1600000 in
set_option maxRecDepth 20000 in
theorem lin_any (base g : Nat) (wv mv dv : Value) (k : Lk) (A : Option Addr) (n c B : Nat) (fs : List UInt8) (w : World) (h : IsK w base g wv mv dv k) (hx : Has w B A fs) (hB : B ≤ w.heap.size) (hn : fs.length = n) (hl : n ≤ 140737488355328)
    (h0 : 0 ≤ k.all) (h1 : k.all ≤ 2199023255552) (hS : ∀ x, k.S x = true → x ≤ 2199023255552) (hc : k.cnt < 4096) (hd : k.ds.length < 4096) :
    Calls Try.prog 43 #[.pointer (some ⟨g, 0, none⟩), .slice A n c] w (InEnds base g wv mv dv k fs w) := by
  have hre := lread_any A n c B fs w hx hB hn hl
  have hle := rdF_le fs
  clear hx hB hn hl
  generalize hFF : rdF fs = F at *
  have hEnds : ∀ e w', InEnds base g wv mv dv k fs w e w' = InEnds base g wv mv dv k fs w e w' := fun _ _ => rfl
  go_enter Try.func43, Try.ntmps43
  go_wp2_with fail
  refine hre.mono ?_
  rintro e w1 ⟨hb1, A1, n1, c1, ho1, rfl⟩
  have hI1 := h.below hb1
  rw [hFF] at ho1 ⊢
  by_cases he : F.err = 0
  · rw [if_pos he] at ho1
    rw [if_pos he, he]
    unfold RdF.cells
    unfold M40 at hle
    have hp2 := heap_alloc_new w1 (.cells #[.int .i64 (F.kd : Int), .int .i64 (F.lf : Int), .int .i64 (F.nm : Int), .int .i64 (F.od : Int), .slice A1 n1 c1] 97)
    have hI2 := hI1.below ((Below.refl _ _).alloc (Nat.le_refl _) (.cells #[.int .i64 (F.kd : Int), .int .i64 (F.lf : Int), .int .i64 (F.nm : Int), .int .i64 (F.od : Int), .slice A1 n1 c1] 97))
    have hb2 : Below w.heap.size w (w1.alloc (.cells #[.int .i64 (F.kd : Int), .int .i64 (F.lf : Int), .int .i64 (F.nm : Int), .int .i64 (F.od : Int), .slice A1 n1 c1] 97)) := hb1.alloc hb1.size _
    have ho2 := ho1.alloc (.cells #[.int .i64 (F.kd : Int), .int .i64 (F.lf : Int), .int .i64 (F.nm : Int), .int .i64 (F.od : Int), .slice A1 n1 c1] 97)
    have hgz : g ≠ w1.heap.size := fun e => by have := lt_of_block hI1.blk; omega
    have hz1 := hb1.size
    go_upto_region 4 with fail
    generalize w1.alloc (.cells #[.int .i64 (F.kd : Int), .int .i64 (F.lf : Int), .int .i64 (F.nm : Int), .int .i64 (F.od : Int), .slice A1 n1 c1] 97) = w2 at *
    have k0 := (row_cells hp2 0).1
    have k1 := (row_cells hp2 1).1
    have k2 := (row_cells hp2 2).1
    have g0 := (row_cells hI2.blk 0).1
    simp only [List.getElem?_toArray, List.getElem?_cons_succ, List.getElem?_cons_zero] at k0 k1 k2 g0
    have HE := hide he
    have HFF := hide hFF
    have HI2 := hide hI2
    have HB2 := hide hb2
    have HO2 := hide ho2
    have HP2 := hide hp2
    clear he hFF hI1 hI2 hb1 hb2 ho1 ho2 h hp2 hre hEnds
    by_cases h2 : F.kd = 2
    · have t2 : ((F.kd : Int) == 2) = true := by simp [h2]
      have H2 := hide h2
      clear h2
      go_upto_region 7 with fail
      by_cases h3 : (F.lf : Int) = k.life
      · have t3 : ((F.lf : Int) == k.life) = true := by simp [h3]
        have H3 := hide h3
        clear h3
        go_quiet (fail)
        have hI3 := HI2.out.below (below_drewN (Below.refl w2.heap.size w2) nq)
        have hrl := lrelease_any base g wv mv dv k F.nm (w2.drewN nq) hI3
        have hkq : Kept (LBl g wv mv dv) w2 (w2.drewN nq) := Kept.of_below (below_drewN (Below.refl w2.heap.size w2) nq)
        have k2' : (w2.drewN nq).cell? ⟨w1.heap.size, 2, none⟩ = some (.int .i64 (F.nm : Int)) := k2
        generalize w2.drewN nq = w3 at *
        clear k0 k1 k2 g0 hI3
        go_wp2_with fail
        refine hrl.mono ?_
        rintro e w4 ⟨rfl, wv', hI4, hk4, hw4⟩
        have HI4 := hide hI4
        clear hrl hI4 k2'
        go_wp2_with fail
        go_returns
        refine ⟨wv', mv, dv, k.free F.nm, none, _, HI4.out, ((Kept.of_below (F := LBl g wv mv dv) HB2.out).step hkq (fun j hj => .inl hj)).step hk4 (fun j hj => .inl hj), fun j hj => .inl ?_, by rw [HFF.out]; exact .inr (.inl ⟨HE.out, H2.out, by rw [if_pos H3.out], rfl⟩), by rw [HFF.out, HE.out]; rfl, Own.nil _ _⟩
        rcases hj with e | e | e | e
        · exact .inl e
        · exact .inr (.inl (hw4 j e))
        · exact .inr (.inr (.inl e))
        · exact .inr (.inr (.inr e))
      · have t3 : ((F.lf : Int) == k.life) = false := by simp [h3]
        have H3 := hide h3
        clear h3
        go_quiet (fail)
        go_wp2_with fail
        go_returns
        have hb3 := below_drewN (Below.refl w2.heap.size w2) nq
        exact ⟨wv, mv, dv, k, none, _, HI2.out.below hb3, (Kept.of_below HB2.out).step (Kept.of_below (F := fun _ => False) hb3) (fun j hj => hj.elim), fun j hj => .inl hj, by rw [HFF.out]; exact .inr (.inl ⟨HE.out, H2.out, by rw [if_neg H3.out], rfl⟩), by rw [HFF.out, HE.out]; rfl, Own.nil _ _⟩
    · have t2 : ((F.kd : Int) == 2) = false := by simp; omega
      have H2 := hide h2
      clear h2
      have HTK : Hid (Calls Try.prog 69 #[.pointer (some ⟨g, 4, none⟩), .agg #[.int .i64 (F.kd : Int), .int .i64 (F.lf : Int), .int .i64 (F.nm : Int), .int .i64 (F.od : Int), .slice A1 n1 c1]] w2.drew fun e w' => ∃ fr k' mv' dv', e = .returned (.bool fr) ∧ Hid (TakeP k F.lf F.nm F.od fr k') ∧ Hid (IsK w' base g wv mv' dv' k') ∧ Hid (Kept (LBl g wv mv dv) w2 w') ∧ Hid (∀ j, LBl g wv mv' dv' j → LBl g wv mv dv j ∨ w2.heap.size ≤ j)) := hide
        ((ltake_any base g wv mv dv k F.kd F.lf F.nm F.od (.slice A1 n1 c1) rfl w2.drew HI2.out.drew h0 h1 hS hc hd (by omega) (by omega) (by omega) (by omega)).mono fun e w' => by
          rintro ⟨fr, k', mv', dv', rfl, a1, a2, a3, a4⟩
          exact ⟨fr, k', mv', dv', rfl, hide a1, hide a2, hide ⟨a3.os, a3.tape, a3.output, a3.size, a3.block⟩, hide a4⟩)
      have HSK : Hid (∀ w', Hid (Kept (LBl g wv mv dv) w2 w') → w'.heap[w1.heap.size]? = some (.cells #[.int .i64 (F.kd : Int), .int .i64 (F.lf : Int), .int .i64 (F.nm : Int), .int .i64 (F.od : Int), .slice A1 n1 c1] 97 (0, 0)) ∧ Own w' w.heap.size (.slice A1 n1 c1) F.xs) := hide (fun w' hk => ⟨(hk.out.block _ (lt_of_block HP2.out) (HI2.out.other HP2.out (by decide) (by decide) (by decide))).trans HP2.out, HO2.out.keep (fun j hj => hk.out.block j (HO2.out.lt j hj).2 (fun hf => by
        obtain ⟨cur, hc⟩ := ownsRow_typed HO2.out j hj
        exact HI2.out.other hc (by decide) (by decide) (by decide) hf))⟩)
      have HCC : Hid (∀ w', Hid (Kept (LBl g wv mv dv) w2 w') → w'.cell? ⟨w1.heap.size, 0, none⟩ = some (.int .i64 (F.kd : Int)) ∧ w'.cell? ⟨w1.heap.size, 1, none⟩ = some (.int .i64 (F.lf : Int)) ∧ w'.cell? ⟨w1.heap.size, 2, none⟩ = some (.int .i64 (F.nm : Int)) ∧ w'.cell? ⟨w1.heap.size, 3, none⟩ = some (.int .i64 (F.od : Int)) ∧ w'.cell? ⟨w1.heap.size, 4, none⟩ = some (.slice A1 n1 c1)) := hide (fun w' hk => by
        have hq := (HSK.out w' hk).1
        exact ⟨(row_cells hq 0).1, (row_cells hq 1).1, (row_cells hq 2).1, (row_cells hq 3).1, (row_cells hq 4).1⟩)
      have k3 := (row_cells HP2.out 3).1
      have k4 := (row_cells HP2.out 4).1
      simp only [List.getElem?_toArray, List.getElem?_cons_succ, List.getElem?_cons_zero] at k3 k4
      go_upto_region 10 with fail
      clear g0 hz1
      go_region_held3 (fun w' => w'.cell? ⟨w1.heap.size, 0, none⟩ = some (.int .i64 (F.kd : Int)) ∧ w'.cell? ⟨w1.heap.size, 1, none⟩ = some (.int .i64 (F.lf : Int)) ∧ w'.cell? ⟨w1.heap.size, 2, none⟩ = some (.int .i64 (F.nm : Int)) ∧ w'.cell? ⟨w1.heap.size, 3, none⟩ = some (.int .i64 (F.od : Int)) ∧ w'.cell? ⟨w1.heap.size, 4, none⟩ = some (.slice A1 n1 c1)) (first | exact ⟨k0, k1, k2, k3, k4⟩ | exact HCC.out _ q3 | go_keep) (first | ((go_at_call 69; (with_reducible refine HTK.out.mono ?_)); rintro e w3 ⟨fr, k', mv', dv', rfl, q1, q2, q3, q4⟩))
      clear k0 k1 k2 k3 k4 HTK
      have hq := (HSK.out _ q3).1
      have k4 := (row_cells hq 4).1
      simp only [List.getElem?_toArray, List.getElem?_cons_succ, List.getElem?_cons_zero] at k4
      have hfin := (Kept.of_below (F := LBl g wv mv dv) HB2.out).step q3.out (fun j hj => .inl hj)
      have HFN := hide hfin
      have hz2 := HB2.out.size
      clear hfin hq
      cases fr
      · go_wp2_with fail
        go_returns
        exact ⟨wv, mv', dv', k', none, _, q2.out, HFN.out, fun j hj => (q4.out j hj).elim .inl (fun e => .inr (by omega)), by rw [HFF.out]; exact .inr (.inr ⟨HE.out, H2.out, false, q1.out, rfl⟩), by rw [HFF.out, HE.out]; rfl, Own.nil _ _⟩
      · go_wp2_with fail
        go_returns
        exact ⟨wv, mv', dv', k', some F.xs, _, q2.out, HFN.out, fun j hj => (q4.out j hj).elim .inl (fun e => .inr (by omega)), by rw [HFF.out]; exact .inr (.inr ⟨HE.out, H2.out, true, q1.out, rfl⟩), by rw [HFF.out, HE.out]; rfl, (HSK.out _ q3).2⟩
  · rw [if_neg he] at ho1
    rw [if_neg he]
    have t0 : (F.err != 0) = true := by rw [bne_iff_ne]; exact he
    unfold zF
    have HI1 := hide hI1
    have HB1 := hide hb1
    have HE := hide he
    have HFF := hide hFF
    clear he hFF hI1 hb1 h hre ho1 hEnds
    go_wp2_with fail
    go_returns
    have hb3 : Below w1.heap.size w1 (w1.alloc (.cells zF 97)) := (Below.refl _ _).alloc (Nat.le_refl _) _
    exact ⟨wv, mv, dv, k, none, _, HI1.out.below hb3, (Kept.of_below HB1.out).step (Kept.of_below (F := fun _ => False) hb3) (fun j hj => hj.elim), fun j hj => .inl hj, by rw [HFF.out]; exact .inl ⟨HE.out, rfl, rfl⟩, by rw [HFF.out]; rfl, Own.nil _ _⟩
end Go.Proofs.Ytpbfibofjkinmaa
