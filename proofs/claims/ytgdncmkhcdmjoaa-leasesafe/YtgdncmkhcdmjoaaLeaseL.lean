/-
  The walk of LeaseHolds. No condition but the reach of what is read.
-/
import Derived.Test.YtgdncmkhcdmjoaaLeaseK
import Derived.Deep.CutBlock
set_option linter.unusedSimpArgs false
set_option linter.unusedVariables false
namespace Go.Proofs.Ytgdncmkhcdmjoaa
open Go.RowKit
/-- The holder and the reference's between two steps. -/
structure HRI (w : World) (g : Nat) (A : Option Addr) (n c mb bm : Nat) (Am : Option Addr) (nm cm : Nat) (q : Hd) (ns tms : List Int) (An : Option Addr) (nn cn : Nat) (At : Option Addr) (ct : Nat) (wr : World) : Prop where
  h : IsH wr g A n c mb q
  bx : wr.heap[bm]? = some (.cells #[.slice Am nm cm, .int .i64 q.hold, .slice An nn cn, .slice At nn ct] 58 (0, 0))
  om : OwnI wr w.heap.size (.slice Am nm cm) q.ms
  on : OwnI wr w.heap.size (.slice An nn cn) ns
  ot : OwnI wr w.heap.size (.slice At nn ct) tms
  eq : ∀ x, q.f x = lastF (ns.zip tms) x
  ln : ns.length = tms.length
  s : ∀ t ∈ tms, In60 t
  bel : Below w.heap.size w wr
  g0 : w.heap.size ≤ g
  m0 : w.heap.size ≤ bm
  b0 : w.heap.size ≤ mb
section
variable {w wr w' : World} {g : Nat} {A : Option Addr} {n c mb bm : Nat} {Am : Option Addr} {nm cm : Nat} {q : Hd} {ns tms : List Int} {An : Option Addr} {nn cn : Nat} {At : Option Addr} {ct : Nat}
theorem own_len {w : World} {base : Nat} {A : Option Addr} {n c : Nat} {xs : List Int} (h : OwnI w base (.slice A n c) xs) : HasI w w.heap.size A xs ∧ xs.length = n := by
  obtain ⟨_, _, _, e1, h1, _, h2⟩ := h.form
  cases e1
  exact ⟨h2, h1.out⟩
theorem HRI.below (h : HRI w g A n c mb bm Am nm cm q ns tms An nn cn At ct wr) (hb : Below wr.heap.size wr w') : HRI w g A n c mb bm Am nm cm q ns tms An nn cn At ct w' :=
  ⟨h.h.below hb, (hb.block bm (lt_of_block h.bx)).trans h.bx, h.om.below hb, h.on.below hb, h.ot.below hb, h.eq, h.ln, h.s, h.bel.trans (hb.mono h.bel.size), h.g0, h.m0, h.b0⟩
theorem hrow_cells {w : World} {p : Nat} {a b c d : Value} {t : TypeId} (h : w.heap[p]? = some (.cells #[a, b, c, d] t (0, 0))) : w.cell? ⟨p, 0, none⟩ = some a ∧ w.cell? ⟨p, 1, none⟩ = some b ∧ w.cell? ⟨p, 2, none⟩ = some c ∧ w.cell? ⟨p, 3, none⟩ = some d :=
  ⟨(row_cells h 0).1, (row_cells h 1).1, (row_cells h 2).1, (row_cells h 3).1⟩
/-- The holder's map is turned alone. -/
theorem map_not {w : World} {mb : Nat} {M : Int → Option Value} (hm : IMap w mb M) {base : Nat} {v : Value} {xs : List Int} (h : OwnI w base v xs) : ∀ j, v.ownBlock = some j → ¬ j = mb := fun j hj e => by
  obtain ⟨es, cl, h1⟩ := hm.obj
  obtain ⟨cur, hc⟩ := ownsRow_typedI h j hj
  rw [e, h1] at hc
  cases hc
theorem map_box {w : World} {mb bm : Nat} {M : Int → Option Value} (hm : IMap w mb M) {r : Array Value} {t : TypeId} (h : w.heap[bm]? = some (.cells r t (0, 0))) : ¬ bm = mb := fun e => by
  obtain ⟨es, cl, h1⟩ := hm.obj
  rw [e, h1] at h
  cases h
theorem HRI.rvalid (h : HRI w g A n c mb bm Am nm cm q ns tms An nn cn At ct wr) {now : Int} (hn : In60 now) (hl : nn ≤ 1000) : Calls Try.prog 34 #[.agg #[.slice Am nm cm, .int .i64 q.hold, .slice An nn cn, .slice At nn ct], .int .i64 now] wr fun e w' => e = .returned (.bool (q.valid now)) ∧ Below wr.heap.size wr w' := by
  obtain ⟨m1, m2⟩ := own_len h.om
  obtain ⟨n1, n2⟩ := own_len h.on
  obtain ⟨t1, t2⟩ := own_len h.ot
  have h7 : nm ≤ 1000 := by have := h.h.good.rt.2.1; omega
  have := hrvalid_any q.ms ns tms q.hold now Am nm cm An nn cn At ct wr m1 m2 n1 n2 t1 t2 ⟨h7, hl⟩ h.h.good.h hn h.s
  have e : (fun k => okA q.hold now (lastF (ns.zip tms) k)) = (fun k => okA q.hold now (q.f k)) := by
    funext k
    rw [h.eq k]
  rw [e] at this
  exact this
theorem granted_same (q : Hd) (x t : Int) : (q.granted x t).1.ms = q.ms ∧ (q.granted x t).1.hold = q.hold := by
  unfold Hd.granted
  split <;> exact ⟨rfl, rfl⟩
/-- What the reference's Granted does to the pairs. -/
theorem HRI.rgranted (h : HRI w g A n c mb bm Am nm cm q ns tms An nn cn At ct wr) {x t : Int} (ht : In60 t) (hl : nn ≤ 500) :
    Calls Try.prog 33 #[.agg #[.slice Am nm cm, .int .i64 q.hold, .slice An nn cn, .slice At nn ct], .int .i64 x, .int .i64 t] wr fun e w' => Below wr.heap.size wr w' ∧ ∃ ns' tms' A1 n1 c1 A2 c2, n1 ≤ nn + 1 ∧ ns'.length = tms'.length ∧ (∀ y, (q.granted x t).1.f y = lastF (ns'.zip tms') y) ∧ (∀ u ∈ tms', In60 u) ∧
      e = .returned (.tuple #[.agg #[.slice Am nm cm, .int .i64 q.hold, .slice A1 n1 c1, .slice A2 n1 c2], .bool (q.granted x t).2]) ∧ OwnI w' w.heap.size (.slice A1 n1 c1) ns' ∧ OwnI w' w.heap.size (.slice A2 n1 c2) tms' := by
  obtain ⟨m1, m2⟩ := own_len h.om
  obtain ⟨n1, n2⟩ := own_len h.on
  obtain ⟨t1, t2⟩ := own_len h.ot
  have h7 : nm ≤ 1000 := by have := h.h.good.rt.2.1; omega
  have hc := hrgranted_any q.ms ns tms q.hold x t Am nm cm An nn cn At nn ct wr m1 m2 n1 n2 t1 t2 ⟨h7, by omega, by omega⟩
  refine hc.mono ?_
  rintro e w' ⟨hb, hno, hyes⟩
  refine ⟨hb, ?_⟩
  by_cases hx : x ∈ q.ms
  · obtain ⟨A1, k1, c1, A2, k2, c2, rfl, o1, o2⟩ := hyes hx
    have e1 := (own_len o1).2
    have e2 := (own_len o2).2
    have ek : k2 = k1 := by simp at e1 e2; omega
    subst ek
    have hg : q.granted x t = ({ q with f := fun y => if y = x then some (match q.f x with | none => t | some u => max u t) else q.f y }, true) := if_pos hx
    refine ⟨ns ++ [x], tms ++ [t], A1, k2, c1, A2, c2, by simp at e1; omega, by simp [h.ln], fun y => ?_, fun u hu => ?_, by rw [hg], o1.from_ h.bel.size, o2.from_ h.bel.size⟩
    · rw [hg, List.zip_append h.ln]
      show (if y = x then _ else q.f y) = lastF (ns.zip tms ++ [(x, t)]) y
      rw [lastF_snoc]
      by_cases hy : y = x
      · subst hy
        rw [if_pos rfl, if_pos rfl, h.eq y]
        cases lastF (ns.zip tms) y <;> rfl
      · rw [if_neg hy, if_neg (fun e => hy e.symm), h.eq y]
    · rcases List.mem_append.1 hu with hu | hu
      · exact h.s u hu
      · rw [List.mem_singleton.1 hu]
        exact ht
  · have hg : q.granted x t = (q, false) := if_neg hx
    have hee := hno hx
    exact ⟨ns, tms, An, nn, cn, At, ct, by omega, h.ln, by rw [hg]; exact h.eq, h.s, by rw [hg]; exact hee, h.on.below hb, h.ot.below hb⟩
end
set_option maxHeartbeats 8000000 in
set_option maxRecDepth 40000 in
theorem holds_walk (length rho : Int) (Ai : Option Addr) (ni ci : Nat) (ms : List Int) (Ao : Option Addr) (len cap : Nat) (ts : List Gop) (w : World) (hM : HasI w w.heap.size Ai ms) (hml : ms.length = ni) (hni : ni ≤ 17592186044416) (hT : HasGo w w.heap.size Ao ts) (he : ts.length = len) (hlen : len ≤ 140737488355328) :
    Calls Try.prog 7 #[.slice Ai ni ci, .int .i64 length, .int .i64 rho, .slice Ao len cap] w fun e w' => e = .returned (.bool true) ∧ Below w.heap.size w w' := by
  have HL := hide he
  have HML := hide hml
  clear he hml
  go_enter Try.func7, Try.ntmps7
  go_wp2_with fail
  refine (head18_any w).mono ?_
  rintro e w1 ⟨rfl, hb1⟩
  have hm1 := (hM.below hb1)
  go_wp2_with fail
  refine (hrnew_any Ai ni ci w.heap.size ms length rho w1 hm1 hb1.size HML.out hni).mono ?_
  rintro e w2 ⟨Ar, nr, cr, rfl, ho2, hb2⟩
  obtain ⟨h, hh⟩ : ∃ h, holdN length rho = h := ⟨_, rfl⟩
  have HH := hide hh
  rw [hh]
  have HO2 := hide (ho2.from_ hb1.size)
  have HB2 := hide (hb1.trans (hb2.mono hb1.size))
  have HM2 := hide (hM.below HB2.out)
  obtain ⟨rb, hrb⟩ : ∃ rb, decide (rightS ms) = rb := ⟨_, rfl⟩
  have HRB := hide hrb
  rw [hrb]
  clear hb1 hm1 ho2 hb2 hh hrb hM
  go_upto_region 4 with (refine wpList_store_row rfl 58 _ _ rfl w2.heap.size #[.slice Ar nr cr, .int .i64 h, .slice none 0 0, .slice none 0 0] rfl rfl _ _ (heap_alloc_new w2 (.cells #[.slice none 0 0, .int .i64 0, .slice none 0 0, .slice none 0 0] 58)) (by kernel_rfl) rfl (by simp [Value.oneCell']) ?_; generalize hw4 : (w2.alloc (.cells #[.slice none 0 0, .int .i64 0, .slice none 0 0, .slice none 0 0] 58)).setRow w2.heap.size #[.slice Ar nr cr, .int .i64 h, .slice none 0 0, .slice none 0 0] = w4 at *)
  obtain ⟨hx4, hb4, hz4⟩ := box_rowL hw4
  clear hw4
  have HO4 := hide (HO2.out.below hb4)
  have HX4 := hide hx4
  have HB4 := hide (HB2.out.trans (hb4.mono HB2.out.size))
  have hm4 := HM2.out.below (hb4.mono HB2.out.size)
  have HBM := hide HB2.out.size
  obtain ⟨v1, wa, hr1, hown1, hba⟩ := run_copy_ints w4 22 Ai ni ci w.heap.size ms hm4 HML.out hni HB4.out.size
  have HR1 := hide hr1
  obtain ⟨A1, n1, c1, rfl, hn1, _, hh1⟩ := hown1.form
  have hnl : n1 ≤ 17592186044416 := by have := hn1.out; have := HML.out; omega
  have hnw := hnew_any A1 n1 c1 wa.heap.size ms length rho wa hh1 (Nat.le_refl _) hn1.out hnl
  have HNW := hide hnw
  have HXA := hide ((hba.block _ (lt_of_block hx4)).trans hx4)
  have HOA := hide (HO4.out.below hba)
  have HBA := hide (HB4.out.trans (hba.mono HB4.out.size))
  clear hx4 hb4 hz4 hm4 hr1 hown1 hba hn1 hh1 hnl hnw
  generalize w2.heap.size = bm at *
  go_wp2_with (first
    | (at_builtin; refine list_append_want _ (by rfl) (.tmp 25) (.tmp 26) 22 22 rfl _ _ rfl rfl _ _ HR1.out ?_)
    | fail)
  refine HNW.out.mono ?_
  rintro e w5 ⟨hyes, hno, hb5⟩
  by_cases hr : rightS ms
  · obtain ⟨g, A, n, c, mb, rfl, hi5, hg0, hmb0⟩ := hyes hr
    have hrb : rb = true := by rw [← HRB.out]; exact decide_eq_true hr
    subst hrb
    have hq := eq_pH g
    have hnq := neq_pH g
    have hI : HRI w g A n c mb bm Ar nr cr (Hd.new ms length rho) [] [] none 0 0 none 0 w5 :=
      ⟨hi5, by have := (hb5.block _ (lt_of_block HXA.out)).trans HXA.out; rw [show (Hd.new ms length rho).hold = h from HH.out]; exact this, HOA.out.below hb5, OwnI.nil _ _, OwnI.nil _ _, fun _ => rfl, rfl, fun _ h => (by cases h), HBA.out.trans (hb5.mono HBA.out.size), by have := HBA.out.size; omega, HBM.out, by have := HBA.out.size; omega⟩
    have HI := hide hI
    generalize Hd.new ms length rho = q0 at *
    clear hyes hno hb5 hI hi5 hg0 hmb0 hr
    go_wp2_with fail
    go_loopw [12, 13, 14, 15] (fun s12 s13 s14 s15 wr => ∃ (k : Nat) (q : Hd) (ns tms : List Int) (An : Option Addr) (nn cn : Nat) (At : Option Addr) (ct : Nat), s12 = .int .i64 (k : Int) ∧ k ≤ len ∧ k ≤ 60 ∧ nn ≤ k ∧ Hid (HRI w g A n c mb bm Ar nr cr q ns tms An nn cn At ct wr)) (fun s12 _ _ _ _ => (60 - intOf s12).toNat)
    case atStart => exact ⟨0, q0, [], [], none, 0, 0, none, 0, rfl, by omega, by omega, by omega, HI⟩
    case round =>
      clear HI
      obtain ⟨k, q, ns, tms, An, nn, cn, At, ct, rfl, hk1, hk2, hk3, hI⟩ := hrel
      by_cases hlt : k < len
      · by_cases h100 : k < 60
        · have hjl : k < ts.length := by rw [HL.out]; exact hlt
          have hTb := hT.below hI.out.bel
          have hwf := hT.wf ts[k] (List.getElem_mem hjl)
          obtain ⟨b', o, rfl, hbb, hra⟩ := hTb.at_ k hjl
          generalize ts[k] = qo at *
          obtain ⟨K, a, b, M, N⟩ := qo
          have hra' : wr.rangeAt b' (o + k * 5) [(.int .i64 K : Value), .int .i64 a, .int .i64 b, .int .i64 M, .int .i64 N] := hra
          have HWF : Hid ((Lit.int .i64 M).wf = true) := hide hwf
          have hil : (k : Int) < (len : Int) := by omega
          have hi6 : (k : Int) < 60 := by omega
          clear hra hTb hwf
          go_upto_region 14 with (refine wpList_load_mid rfl 51 _ rfl b' (o + k * 5) (by simp [Act.eval, Act.put]) [(.int .i64 K : Value), .int .i64 a, .int .i64 b, .int .i64 M, .int .i64 N] _ hra' Try.underlying51 rfl (by kernel_rfl) ?_)
          have hbo := heap_alloc_new wr (.cells #[.int .i64 K, .int .i64 a, .int .i64 b, .int .i64 M, .int .i64 N] 51)
          have HI1 := hide (hI.out.below ((Below.refl _ _).alloc (Nat.le_refl _) (.cells #[.int .i64 K, .int .i64 a, .int .i64 b, .int .i64 M, .int .i64 N] 51)))
          have hbom : wr.heap.size ≠ bm := by have := lt_of_block hI.out.bx; omega
          have hbog : wr.heap.size ≠ mb := by have := hI.out.h.map.lt; omega
          generalize wr.alloc (.cells #[.int .i64 K, .int .i64 a, .int .i64 b, .int .i64 M, .int .i64 N] 51) = w3 at *
          generalize wr.heap.size = bo at *
          obtain ⟨x0, x1, x2, x3, x4⟩ := gop_cells hbo
          have HBX := hide hbo
          have HNO := hide (And.intro hbom hbog)
          clear hra' hbo hbom hbog
          go_wp2_with fail
          refine (far_any N w3).mono ?_
          rintro e _ ⟨rfl, rfl⟩
          by_cases hfn : N < -1152921504606846976 ∨ 1152921504606846976 < N
          · rw [decide_eq_true hfn]
            go_wp2
            go_roundw
            case rel => exact ⟨k + 1, q, ns, tms, An, nn, cn, At, ct, by go_num, by omega, by omega, by omega, HI1⟩
            case measure => simp [intOf]; omega
          · rw [decide_eq_false hfn]
            have HNN : Hid (In60 N) := hide (by unfold In60; omega)
            clear hfn
            by_cases k2 : K = 2
            · subst k2
              have hgr := HI1.out.rgranted (x := M) HNN.out (by omega)
              have HGR := hide hgr
              have HBX0 := hide HI1.out.bx
              clear hgr
              go_wp2_with (first | (refine wpList_load_row rfl 58 _ rfl bm rfl _ _ _ _ HBX0.out Try.underlying58 rfl (by kernel_rfl) ?_) | fail)
              refine HGR.out.mono ?_
              rintro e w4 ⟨hb4, ns2, tms2, An2, nn2, cn2, At2, ct2, hn2, hl2, hf2, hs2, rfl, ho2, ht2⟩
              have HF2 := hide hf2
              have HS2 := hide hs2
              have HL2 := hide hl2
              obtain ⟨vb, hvb⟩ : ∃ vb, (q.granted M N).2 = vb := ⟨_, rfl⟩
              obtain ⟨q2, hq2⟩ : ∃ q2, (q.granted M N).1 = q2 := ⟨_, rfl⟩
              have hgs := granted_same q M N
              have HGG := hide (fun W (h : IsH W g A n c mb q) => hgranted_any h M N HWF.out (in64_60 HNN.out))
              rw [hvb, hq2] at HGG
              rw [hq2] at hgs HF2
              rw [hvb]
              have HI4 := hide (HI1.out.below hb4)
              have HBX4 := hide ((hb4.block _ (lt_of_block HBX.out)).trans HBX.out)
              have HGS := hide hgs
              have HO2 := hide ho2
              have HT2 := hide ht2
              clear x0 x1 x2 x3 x4 hb4 hvb hq2 hgs hf2 hs2 hl2 ho2 ht2 HGR
              go_upto_region 18 with (refine wpList_store_row rfl 58 _ _ rfl w4.heap.size #[.slice Ar nr cr, .int .i64 q.hold, .slice An2 nn2 cn2, .slice At2 nn2 ct2] rfl rfl _ _ (heap_alloc_new w4 (.cells #[.slice none 0 0, .int .i64 0, .slice none 0 0, .slice none 0 0] 58)) (by kernel_rfl) rfl (by simp [Value.oneCell']) ?_; generalize hw5 : (w4.alloc (.cells #[.slice none 0 0, .int .i64 0, .slice none 0 0, .slice none 0 0] 58)).setRow w4.heap.size #[.slice Ar nr cr, .int .i64 q.hold, .slice An2 nn2 cn2, .slice At2 nn2 ct2] = w5 at *)
              obtain ⟨hx5, hb5, hz5⟩ := box_rowL hw5
              clear hw5 hz5
              have hI5 := HI4.out.below hb5
              have hbx5 := (hb5.block _ (lt_of_block HBX4.out)).trans HBX4.out
              have HX5 := hide hx5
              have HRB5 := hide hI5.bx
              have HBX5 := hide hbx5
              have HI5 := hide hI5
              have HO5 := hide (HO2.out.below hb5)
              have HT5 := hide (HT2.out.below hb5)
              have hk6 := Kept.of_setRow w5 bm #[.slice Ar nr cr, .int .i64 q.hold, .slice An2 nn2 cn2, .slice At2 nn2 ct2]
              have HR6 := hide (set_row_at (B := #[.slice Ar nr cr, .int .i64 q.hold, .slice An2 nn2 cn2, .slice At2 nn2 ct2]) hI5.bx)
              have HK6 := hide hk6
              clear hx5 hb5 hI5 hbx5 hk6
              go_upto_region 19 with (first
                | (refine wpList_load_row rfl 58 _ rfl w4.heap.size rfl _ _ _ _ HX5.out Try.underlying58 rfl (by kernel_rfl) ?_)
                | (refine wpList_store_row rfl 58 _ _ rfl bm #[.slice Ar nr cr, .int .i64 q.hold, .slice An2 nn2 cn2, .slice At2 nn2 ct2] rfl rfl _ _ HRB5.out (by kernel_rfl) rfl (by simp [Value.oneCell']) ?_; generalize w5.setRow bm #[.slice Ar nr cr, .int .i64 q.hold, .slice An2 nn2 cn2, .slice At2 nn2 ct2] = w6 at *))
              have hbx6 := (HK6.out.block bo (lt_of_block HBX5.out) HNO.out.1).trans HBX5.out
              have HBX6 := hide hbx6
              have hh6 := HI5.out.h.kept HK6.out HI5.out.bx (by decide) (by decide)
              have HM6 := hide (HI5.out.om.keep fun j hj => HK6.out.block j (HI5.out.om.lt j hj).2 (fun e => ownI_ne HI5.out.om HI5.out.bx (by decide) (by rw [← e]; exact hj)))
              have HO6 := hide (HO5.out.keep fun j hj => HK6.out.block j (HO5.out.lt j hj).2 (fun e => ownI_ne HO5.out HI5.out.bx (by decide) (by rw [← e]; exact hj)))
              have HT6 := hide (HT5.out.keep fun j hj => HK6.out.block j (HT5.out.lt j hj).2 (fun e => ownI_ne HT5.out HI5.out.bx (by decide) (by rw [← e]; exact hj)))
              have HB6 := hide (HI5.out.bel.trans (HK6.out.below HI5.out.bel.size (fun j hj => by rw [hj]; exact HI5.out.m0)))
              have hg6 := HGG.out w6 hh6
              have HMP := hide hh6.map
              obtain ⟨x0, x1, x2, x3, x4⟩ := gop_cells HBX6.out
              clear hh6 hbx6
              go_wp2_with fail
              refine hg6.mono ?_
              rintro e w7 ⟨rfl, h7, k7⟩
              have HBX2 := hide ((k7.block bo (lt_of_block HBX6.out) HNO.out.2).trans HBX6.out)
              have hI7 : HRI w g A n c mb bm Ar nr cr q2 ns2 tms2 An2 nn2 cn2 At2 ct2 w7 :=
                ⟨h7, by rw [HGS.out.2]; exact (k7.block bm (lt_of_block HR6.out) (map_box HMP.out HR6.out)).trans HR6.out, by rw [HGS.out.1]; exact HM6.out.keep fun j hj => k7.block j (HM6.out.lt j hj).2 (map_not HMP.out HM6.out j hj), HO6.out.keep fun j hj => k7.block j (HO6.out.lt j hj).2 (map_not HMP.out HO6.out j hj), HT6.out.keep fun j hj => k7.block j (HT6.out.lt j hj).2 (map_not HMP.out HT6.out j hj), HF2.out, HL2.out, HS2.out, HB6.out.trans (k7.below HB6.out.size (fun j hj => by rw [hj]; exact HI1.out.b0)), HI1.out.g0, HI1.out.m0, HI1.out.b0⟩
              have HI2 := hide hI7
              have HN2 := hide (show nn2 ≤ k + 1 by omega)
              clear hI7 h7 k7 hg6 x0 x1 x2 x3 x4 hn2
              obtain ⟨x0, x1, x2, x3, x4⟩ := gop_cells HBX2.out
              have hbq : (vb != vb) = false := by simp
              go_wp2_with fail
              have hvl := hvalid_any HI2.out.h N (in64_60 HNN.out)
              obtain ⟨vv, hvv⟩ : ∃ vv, q2.valid N = vv := ⟨_, rfl⟩
              have HVV := hide hvv
              rw [hvv] at hvl
              have HVL := hide (fun W (h : IsH W g A n c mb q2) => (hvv ▸ hvalid_any h N (in64_60 HNN.out) : Calls Try.prog 31 #[.pointer (some ⟨g, 0, none⟩), .int .i64 N] W fun e w' => e = .returned (.bool vv) ∧ Below W.heap.size W w'))
              have HRL := hide (fun W (h : HRI w g A n c mb bm Ar nr cr q2 ns2 tms2 An2 nn2 cn2 At2 ct2 W) => (hvv ▸ h.rvalid HNN.out (by have := HN2.out; omega) : Calls Try.prog 34 #[.agg #[.slice Ar nr cr, .int .i64 q2.hold, .slice An2 nn2 cn2, .slice At2 nn2 ct2], .int .i64 N] W fun e w' => e = .returned (.bool vv) ∧ Below W.heap.size W w'))
              clear hvl hvv
              go_wp2_with fail
              refine wp_region_held_drew (S := fun W => W.heap[bo]? = some (.cells #[.int .i64 2, .int .i64 a, .int .i64 b, .int .i64 M, .int .i64 N] 51 (0, 0)) ∧ HRI w g A n c mb bm Ar nr cr q2 ns2 tms2 An2 nn2 cn2 At2 ct2 W) (by kernel_rfl) (⟨HBX2.out, HI2.out.below (Below.refl _ _).drew⟩) (fun hHeld => ?_)
              refine wpAnyH_take (i := 0) (oi := _) (v := .pointer (some ⟨g, 0, none⟩)) rfl (by kernel_rfl) (by kernel_rfl) (by kernel_rfl) (fun _ _ _ h => h) (Or.inl ⟨by rfl, fun w' hSw => by go_simp⟩) hHeld ?_
              (try simp only [Act.put, List.setIfInBounds_toArray, List.set_cons_zero, List.set_cons_succ, List.getElem_toArray, List.getElem_cons_zero, List.getElem_cons_succ])
              refine wpAnyH_take (i := 1) (oi := _) (v := .pointer (some ⟨bo, 4, none⟩)) rfl (by kernel_rfl) (by kernel_rfl) (by kernel_rfl) (fun _ _ _ h => h) (Or.inl ⟨by rfl, fun w' hSw => by go_simp⟩) hHeld ?_
              (try simp only [Act.put, List.setIfInBounds_toArray, List.set_cons_zero, List.set_cons_succ, List.getElem_toArray, List.getElem_cons_zero, List.getElem_cons_succ])
              refine wpAnyH_take (i := 2) (oi := _) (v := .int .i64 N) rfl (by kernel_rfl) (by kernel_rfl) (by kernel_rfl) (fun _ _ _ h => h) (Or.inl ⟨by rfl, fun w' hSw => by obtain ⟨x0, x1, x2, x3, x4⟩ := gop_cells hSw.1; go_simp⟩) hHeld ?_
              (try simp only [Act.put, List.setIfInBounds_toArray, List.set_cons_zero, List.set_cons_succ, List.getElem_toArray, List.getElem_cons_zero, List.getElem_cons_succ])
              refine wpAnyH_take (i := 4) (oi := _) (v := .agg #[.slice Ar nr cr, .int .i64 q2.hold, .slice An2 nn2 cn2, .slice At2 nn2 ct2]) rfl (by kernel_rfl) (by kernel_rfl) (by kernel_rfl) (fun _ _ _ h => h) (Or.inl ⟨by rfl, fun w' hSw => by obtain ⟨z0, z1, z2, z3⟩ := hrow_cells hSw.2.bx; go_simp⟩) hHeld ?_
              (try simp only [Act.put, List.setIfInBounds_toArray, List.set_cons_zero, List.set_cons_succ, List.getElem_toArray, List.getElem_cons_zero, List.getElem_cons_succ])
              refine wpAnyH_take (i := 5) (oi := _) (v := .pointer (some ⟨bo, 4, none⟩)) rfl (by kernel_rfl) (by kernel_rfl) (by kernel_rfl) (fun _ _ _ h => h) (Or.inl ⟨by rfl, fun w' hSw => by go_simp⟩) hHeld ?_
              (try simp only [Act.put, List.setIfInBounds_toArray, List.set_cons_zero, List.set_cons_succ, List.getElem_toArray, List.getElem_cons_zero, List.getElem_cons_succ])
              refine wpAnyH_take (i := 6) (oi := _) (v := .int .i64 N) rfl (by kernel_rfl) (by kernel_rfl) (by kernel_rfl) (fun _ _ _ h => h) (Or.inl ⟨by rfl, fun w' hSw => by obtain ⟨x0, x1, x2, x3, x4⟩ := gop_cells hSw.1; go_simp⟩) hHeld ?_
              (try simp only [Act.put, List.setIfInBounds_toArray, List.set_cons_zero, List.set_cons_succ, List.getElem_toArray, List.getElem_cons_zero, List.getElem_cons_succ])
              refine wpAnyH_ready (rs := [3]) (by kernel_rfl) (by simp) ?_
              refine AllReadyH.cons (o := _) rfl (fun K hK => ?_) AllReadyH.nil
              (try simp only [List.getElem_toArray, List.getElem_cons_zero, List.getElem_cons_succ])
              go_simp
              refine (HVL.out _ (HI2.out.h.below (Below.refl _ _).drew)).mono ?_
              rintro e w5 ⟨rfl, hb5⟩
              go_wp2_with fail
              have HBX5' := hide ((hb5.block _ (lt_of_block HBX2.out)).trans HBX2.out)
              have HI5' := hide ((HI2.out.below (Below.refl _ _).drew).below hb5)
              clear hb5
              refine hK.out _ _ (⟨HBX5'.out, HI5'.out⟩) (fun hHeld => ?_)
              clear hK
              (try simp only [Act.put, List.setIfInBounds_toArray, List.set_cons_zero, List.set_cons_succ, List.getElem_toArray, List.getElem_cons_zero, List.getElem_cons_succ])
              refine wpAnyH_ready (rs := [7]) (by kernel_rfl) (by simp) ?_
              refine AllReadyH.cons (o := _) rfl (fun K hK => ?_) AllReadyH.nil
              (try simp only [List.getElem_toArray, List.getElem_cons_zero, List.getElem_cons_succ])
              go_simp
              refine (HRL.out _ HI5'.out).mono ?_
              rintro e w6 ⟨rfl, hb6⟩
              go_wp2_with fail
              have HBX6' := hide ((hb6.block _ (lt_of_block HBX5'.out)).trans HBX5'.out)
              have HI6' := hide (HI5'.out.below hb6)
              clear hb6
              refine hK.out _ _ (⟨HBX6'.out, HI6'.out⟩) (fun hHeld => ?_)
              clear hK
              (try simp only [Act.put, List.setIfInBounds_toArray, List.set_cons_zero, List.set_cons_succ, List.getElem_toArray, List.getElem_cons_zero, List.getElem_cons_succ])
              have hvq : (vv != vv) = false := by simp
              refine wpAnyH_take (i := 8) (oi := _) (v := .bool false) rfl (by kernel_rfl) (by kernel_rfl) (by kernel_rfl) (fun _ _ _ h => h) (Or.inl ⟨by rfl, fun w' hSw => by go_simp⟩) hHeld ?_
              (try simp only [Act.put, List.setIfInBounds_toArray, List.set_cons_zero, List.set_cons_succ, List.getElem_toArray, List.getElem_cons_zero, List.getElem_cons_succ])
              refine wpAnyH_done (by kernel_rfl) ?_ _
              go_wp2_with fail
              go_roundw
              case rel => exact ⟨k + 1, q2, ns2, tms2, An2, nn2, cn2, At2, ct2, by go_num, by omega, by omega, HN2.out, HI6'.out⟩
              case measure => simp [intOf]; omega
            by_cases k4 : K = 4
            · subst k4
              have hcl := hclear_any HI1.out.h
              have HMP := hide HI1.out.h.map
              have HBX0 := hide HI1.out.bx
              go_wp2_with fail
              clear x0 x1 x2 x3 x4
              refine hcl.mono ?_
              rintro e w4 ⟨rfl, h4, k4⟩
              have hbm4 := (k4.block bm (lt_of_block HBX0.out) (map_box HMP.out HBX0.out)).trans HBX0.out
              have HBX4 := hide ((k4.block bo (lt_of_block HBX.out) HNO.out.2).trans HBX.out)
              have HBM4 := hide hbm4
              have H4 := hide h4
              have HK4 := hide k4
              obtain ⟨z0, z1, z2, z3⟩ := hrow_cells hbm4
              have f2 := (row_cells hbm4 2).2
              have hk5 := (Kept.refl (fun j => j = bm) w4).setCell (p := ⟨bm, 2, none⟩) (.inl rfl) (.slice none 0 0)
              have hbm5 : (w4.setCell ⟨bm, 2, none⟩ (.slice none 0 0)).heap[bm]? = some (.cells #[.slice Ar nr cr, .int .i64 q.hold, .slice none 0 0, .slice At nn ct] 58 (0, 0)) := set_cell_at _ hbm4
              have HK5 := hide hk5
              have HBM5 := hide hbm5
              clear hcl h4 k4 hbm4 hk5 hbm5
              go_upto_region 24 with fail
              generalize w4.setCell ⟨bm, 2, none⟩ (.slice none 0 0) = w5 at *
              clear z0 z1 z2 z3 f2
              obtain ⟨z0, z1, z2, z3⟩ := hrow_cells HBM5.out
              have f3 := (row_cells HBM5.out 3).2
              have hk6 := HK5.out.setCell (p := ⟨bm, 3, none⟩) (.inl rfl) (.slice none 0 0)
              have hbm6 : (w5.setCell ⟨bm, 3, none⟩ (.slice none 0 0)).heap[bm]? = some (.cells #[.slice Ar nr cr, .int .i64 q.hold, .slice none 0 0, .slice none 0 0] 58 (0, 0)) := set_cell_at _ HBM5.out
              have hbx6 := (hk6.block bo (lt_of_block HBX4.out) HNO.out.1).trans HBX4.out
              have hh6 := H4.out.kept hk6 HBM4.out (by decide) (by decide)
              have hm4 := HI1.out.om.keep fun j hj => HK4.out.block j (HI1.out.om.lt j hj).2 (map_not HMP.out HI1.out.om j hj)
              have hm6 := hm4.keep fun j hj => hk6.block j (hm4.lt j hj).2 (fun e => ownI_ne hm4 HBM4.out (by decide) (by rw [← e]; exact hj))
              have hb4 := HI1.out.bel.trans (HK4.out.below HI1.out.bel.size (fun j hj => by rw [hj]; exact HI1.out.b0))
              have hb6 := hb4.trans (hk6.below hb4.size (fun j hj => by rw [hj]; exact HI1.out.m0))
              have hI6 : HRI w g A n c mb bm Ar nr cr { q with f := fun _ => none } [] [] none 0 0 none 0 (w5.setCell ⟨bm, 3, none⟩ (.slice none 0 0)) := ⟨hh6, hbm6, hm6, OwnI.nil _ _, OwnI.nil _ _, fun _ => rfl, rfl, fun _ h => (by cases h), hb6, HI1.out.g0, HI1.out.m0, HI1.out.b0⟩
              have HI2 := hide hI6
              have HBX2 := hide hbx6
              have HN2 := hide (show 0 ≤ k + 1 by omega)
              obtain ⟨x0, x1, x2, x3, x4⟩ := gop_cells hbx6
              generalize ({ q with f := fun _ => none } : Hd) = q2 at *
              clear hk6 hbm6 hbx6 hh6 hm4 hm6 hb4 hb6 hI6
              go_upto_region 25 with fail
              generalize w5.setCell ⟨bm, 3, none⟩ (.slice none 0 0) = w6 at *
              clear z0 z1 z2 z3 f3
              have hvl := hvalid_any HI2.out.h N (in64_60 HNN.out)
              obtain ⟨vv, hvv⟩ : ∃ vv, q2.valid N = vv := ⟨_, rfl⟩
              have HVV := hide hvv
              rw [hvv] at hvl
              have HVL := hide (fun W (h : IsH W g A n c mb q2) => (hvv ▸ hvalid_any h N (in64_60 HNN.out) : Calls Try.prog 31 #[.pointer (some ⟨g, 0, none⟩), .int .i64 N] W fun e w' => e = .returned (.bool vv) ∧ Below W.heap.size W w'))
              have HRL := hide (fun W (h : HRI w g A n c mb bm Ar nr cr q2 [] [] none 0 0 none 0 W) => (hvv ▸ h.rvalid HNN.out (by have := HN2.out; omega) : Calls Try.prog 34 #[.agg #[.slice Ar nr cr, .int .i64 q2.hold, .slice none 0 0, .slice none 0 0], .int .i64 N] W fun e w' => e = .returned (.bool vv) ∧ Below W.heap.size W w'))
              clear hvl hvv
              go_wp2_with fail
              refine wp_region_held_drew (S := fun W => W.heap[bo]? = some (.cells #[.int .i64 4, .int .i64 a, .int .i64 b, .int .i64 M, .int .i64 N] 51 (0, 0)) ∧ HRI w g A n c mb bm Ar nr cr q2 [] [] none 0 0 none 0 W) (by kernel_rfl) (⟨HBX2.out, HI2.out.below (Below.refl _ _).drew⟩) (fun hHeld => ?_)
              refine wpAnyH_take (i := 0) (oi := _) (v := .pointer (some ⟨g, 0, none⟩)) rfl (by kernel_rfl) (by kernel_rfl) (by kernel_rfl) (fun _ _ _ h => h) (Or.inl ⟨by rfl, fun w' hSw => by go_simp⟩) hHeld ?_
              (try simp only [Act.put, List.setIfInBounds_toArray, List.set_cons_zero, List.set_cons_succ, List.getElem_toArray, List.getElem_cons_zero, List.getElem_cons_succ])
              refine wpAnyH_take (i := 1) (oi := _) (v := .pointer (some ⟨bo, 4, none⟩)) rfl (by kernel_rfl) (by kernel_rfl) (by kernel_rfl) (fun _ _ _ h => h) (Or.inl ⟨by rfl, fun w' hSw => by go_simp⟩) hHeld ?_
              (try simp only [Act.put, List.setIfInBounds_toArray, List.set_cons_zero, List.set_cons_succ, List.getElem_toArray, List.getElem_cons_zero, List.getElem_cons_succ])
              refine wpAnyH_take (i := 2) (oi := _) (v := .int .i64 N) rfl (by kernel_rfl) (by kernel_rfl) (by kernel_rfl) (fun _ _ _ h => h) (Or.inl ⟨by rfl, fun w' hSw => by obtain ⟨x0, x1, x2, x3, x4⟩ := gop_cells hSw.1; go_simp⟩) hHeld ?_
              (try simp only [Act.put, List.setIfInBounds_toArray, List.set_cons_zero, List.set_cons_succ, List.getElem_toArray, List.getElem_cons_zero, List.getElem_cons_succ])
              refine wpAnyH_take (i := 4) (oi := _) (v := .agg #[.slice Ar nr cr, .int .i64 q2.hold, .slice none 0 0, .slice none 0 0]) rfl (by kernel_rfl) (by kernel_rfl) (by kernel_rfl) (fun _ _ _ h => h) (Or.inl ⟨by rfl, fun w' hSw => by obtain ⟨z0, z1, z2, z3⟩ := hrow_cells hSw.2.bx; go_simp⟩) hHeld ?_
              (try simp only [Act.put, List.setIfInBounds_toArray, List.set_cons_zero, List.set_cons_succ, List.getElem_toArray, List.getElem_cons_zero, List.getElem_cons_succ])
              refine wpAnyH_take (i := 5) (oi := _) (v := .pointer (some ⟨bo, 4, none⟩)) rfl (by kernel_rfl) (by kernel_rfl) (by kernel_rfl) (fun _ _ _ h => h) (Or.inl ⟨by rfl, fun w' hSw => by go_simp⟩) hHeld ?_
              (try simp only [Act.put, List.setIfInBounds_toArray, List.set_cons_zero, List.set_cons_succ, List.getElem_toArray, List.getElem_cons_zero, List.getElem_cons_succ])
              refine wpAnyH_take (i := 6) (oi := _) (v := .int .i64 N) rfl (by kernel_rfl) (by kernel_rfl) (by kernel_rfl) (fun _ _ _ h => h) (Or.inl ⟨by rfl, fun w' hSw => by obtain ⟨x0, x1, x2, x3, x4⟩ := gop_cells hSw.1; go_simp⟩) hHeld ?_
              (try simp only [Act.put, List.setIfInBounds_toArray, List.set_cons_zero, List.set_cons_succ, List.getElem_toArray, List.getElem_cons_zero, List.getElem_cons_succ])
              refine wpAnyH_ready (rs := [3]) (by kernel_rfl) (by simp) ?_
              refine AllReadyH.cons (o := _) rfl (fun K hK => ?_) AllReadyH.nil
              (try simp only [List.getElem_toArray, List.getElem_cons_zero, List.getElem_cons_succ])
              go_simp
              refine (HVL.out _ (HI2.out.h.below (Below.refl _ _).drew)).mono ?_
              rintro e w5 ⟨rfl, hb5⟩
              go_wp2_with fail
              have HBX5' := hide ((hb5.block _ (lt_of_block HBX2.out)).trans HBX2.out)
              have HI5' := hide ((HI2.out.below (Below.refl _ _).drew).below hb5)
              clear hb5
              refine hK.out _ _ (⟨HBX5'.out, HI5'.out⟩) (fun hHeld => ?_)
              clear hK
              (try simp only [Act.put, List.setIfInBounds_toArray, List.set_cons_zero, List.set_cons_succ, List.getElem_toArray, List.getElem_cons_zero, List.getElem_cons_succ])
              refine wpAnyH_ready (rs := [7]) (by kernel_rfl) (by simp) ?_
              refine AllReadyH.cons (o := _) rfl (fun K hK => ?_) AllReadyH.nil
              (try simp only [List.getElem_toArray, List.getElem_cons_zero, List.getElem_cons_succ])
              go_simp
              refine (HRL.out _ HI5'.out).mono ?_
              rintro e w6 ⟨rfl, hb6⟩
              go_wp2_with fail
              have HBX6' := hide ((hb6.block _ (lt_of_block HBX5'.out)).trans HBX5'.out)
              have HI6' := hide (HI5'.out.below hb6)
              clear hb6
              refine hK.out _ _ (⟨HBX6'.out, HI6'.out⟩) (fun hHeld => ?_)
              clear hK
              (try simp only [Act.put, List.setIfInBounds_toArray, List.set_cons_zero, List.set_cons_succ, List.getElem_toArray, List.getElem_cons_zero, List.getElem_cons_succ])
              have hvq : (vv != vv) = false := by simp
              refine wpAnyH_take (i := 8) (oi := _) (v := .bool false) rfl (by kernel_rfl) (by kernel_rfl) (by kernel_rfl) (fun _ _ _ h => h) (Or.inl ⟨by rfl, fun w' hSw => by go_simp⟩) hHeld ?_
              (try simp only [Act.put, List.setIfInBounds_toArray, List.set_cons_zero, List.set_cons_succ, List.getElem_toArray, List.getElem_cons_zero, List.getElem_cons_succ])
              refine wpAnyH_done (by kernel_rfl) ?_ _
              go_wp2_with fail
              go_roundw
              case rel => exact ⟨k + 1, q2, [], [], none, 0, 0, none, 0, by go_num, by omega, by omega, HN2.out, HI6'.out⟩
              case measure => simp [intOf]; omega
            have d0 : (K == 2) = false := by simpa using k2
            have d1 : (K == 4) = false := by simpa using k4
            clear k2 k4
            have HI2 := HI1
            have HBX2 := HBX
            have HN2 := hide (show nn ≤ k + 1 by omega)
            clear HI1 HBX
            have hvl := hvalid_any HI2.out.h N (in64_60 HNN.out)
            obtain ⟨vv, hvv⟩ : ∃ vv, q.valid N = vv := ⟨_, rfl⟩
            have HVV := hide hvv
            rw [hvv] at hvl
            have HVL := hide (fun W (h : IsH W g A n c mb q) => (hvv ▸ hvalid_any h N (in64_60 HNN.out) : Calls Try.prog 31 #[.pointer (some ⟨g, 0, none⟩), .int .i64 N] W fun e w' => e = .returned (.bool vv) ∧ Below W.heap.size W w'))
            have HRL := hide (fun W (h : HRI w g A n c mb bm Ar nr cr q ns tms An nn cn At ct W) => (hvv ▸ h.rvalid HNN.out (by have := HN2.out; omega) : Calls Try.prog 34 #[.agg #[.slice Ar nr cr, .int .i64 q.hold, .slice An nn cn, .slice At nn ct], .int .i64 N] W fun e w' => e = .returned (.bool vv) ∧ Below W.heap.size W w'))
            clear hvl hvv
            go_wp2_with fail
            refine wp_region_held_drew (S := fun W => W.heap[bo]? = some (.cells #[.int .i64 K, .int .i64 a, .int .i64 b, .int .i64 M, .int .i64 N] 51 (0, 0)) ∧ HRI w g A n c mb bm Ar nr cr q ns tms An nn cn At ct W) (by kernel_rfl) (⟨HBX2.out, HI2.out.below (Below.refl _ _).drew⟩) (fun hHeld => ?_)
            refine wpAnyH_take (i := 0) (oi := _) (v := .pointer (some ⟨g, 0, none⟩)) rfl (by kernel_rfl) (by kernel_rfl) (by kernel_rfl) (fun _ _ _ h => h) (Or.inl ⟨by rfl, fun w' hSw => by go_simp⟩) hHeld ?_
            (try simp only [Act.put, List.setIfInBounds_toArray, List.set_cons_zero, List.set_cons_succ, List.getElem_toArray, List.getElem_cons_zero, List.getElem_cons_succ])
            refine wpAnyH_take (i := 1) (oi := _) (v := .pointer (some ⟨bo, 4, none⟩)) rfl (by kernel_rfl) (by kernel_rfl) (by kernel_rfl) (fun _ _ _ h => h) (Or.inl ⟨by rfl, fun w' hSw => by go_simp⟩) hHeld ?_
            (try simp only [Act.put, List.setIfInBounds_toArray, List.set_cons_zero, List.set_cons_succ, List.getElem_toArray, List.getElem_cons_zero, List.getElem_cons_succ])
            refine wpAnyH_take (i := 2) (oi := _) (v := .int .i64 N) rfl (by kernel_rfl) (by kernel_rfl) (by kernel_rfl) (fun _ _ _ h => h) (Or.inl ⟨by rfl, fun w' hSw => by obtain ⟨x0, x1, x2, x3, x4⟩ := gop_cells hSw.1; go_simp⟩) hHeld ?_
            (try simp only [Act.put, List.setIfInBounds_toArray, List.set_cons_zero, List.set_cons_succ, List.getElem_toArray, List.getElem_cons_zero, List.getElem_cons_succ])
            refine wpAnyH_take (i := 4) (oi := _) (v := .agg #[.slice Ar nr cr, .int .i64 q.hold, .slice An nn cn, .slice At nn ct]) rfl (by kernel_rfl) (by kernel_rfl) (by kernel_rfl) (fun _ _ _ h => h) (Or.inl ⟨by rfl, fun w' hSw => by obtain ⟨z0, z1, z2, z3⟩ := hrow_cells hSw.2.bx; go_simp⟩) hHeld ?_
            (try simp only [Act.put, List.setIfInBounds_toArray, List.set_cons_zero, List.set_cons_succ, List.getElem_toArray, List.getElem_cons_zero, List.getElem_cons_succ])
            refine wpAnyH_take (i := 5) (oi := _) (v := .pointer (some ⟨bo, 4, none⟩)) rfl (by kernel_rfl) (by kernel_rfl) (by kernel_rfl) (fun _ _ _ h => h) (Or.inl ⟨by rfl, fun w' hSw => by go_simp⟩) hHeld ?_
            (try simp only [Act.put, List.setIfInBounds_toArray, List.set_cons_zero, List.set_cons_succ, List.getElem_toArray, List.getElem_cons_zero, List.getElem_cons_succ])
            refine wpAnyH_take (i := 6) (oi := _) (v := .int .i64 N) rfl (by kernel_rfl) (by kernel_rfl) (by kernel_rfl) (fun _ _ _ h => h) (Or.inl ⟨by rfl, fun w' hSw => by obtain ⟨x0, x1, x2, x3, x4⟩ := gop_cells hSw.1; go_simp⟩) hHeld ?_
            (try simp only [Act.put, List.setIfInBounds_toArray, List.set_cons_zero, List.set_cons_succ, List.getElem_toArray, List.getElem_cons_zero, List.getElem_cons_succ])
            refine wpAnyH_ready (rs := [3]) (by kernel_rfl) (by simp) ?_
            refine AllReadyH.cons (o := _) rfl (fun K hK => ?_) AllReadyH.nil
            (try simp only [List.getElem_toArray, List.getElem_cons_zero, List.getElem_cons_succ])
            go_simp
            refine (HVL.out _ (HI2.out.h.below (Below.refl _ _).drew)).mono ?_
            rintro e w5 ⟨rfl, hb5⟩
            go_wp2_with fail
            have HBX5' := hide ((hb5.block _ (lt_of_block HBX2.out)).trans HBX2.out)
            have HI5' := hide ((HI2.out.below (Below.refl _ _).drew).below hb5)
            clear hb5
            refine hK.out _ _ (⟨HBX5'.out, HI5'.out⟩) (fun hHeld => ?_)
            clear hK
            (try simp only [Act.put, List.setIfInBounds_toArray, List.set_cons_zero, List.set_cons_succ, List.getElem_toArray, List.getElem_cons_zero, List.getElem_cons_succ])
            refine wpAnyH_ready (rs := [7]) (by kernel_rfl) (by simp) ?_
            refine AllReadyH.cons (o := _) rfl (fun K hK => ?_) AllReadyH.nil
            (try simp only [List.getElem_toArray, List.getElem_cons_zero, List.getElem_cons_succ])
            go_simp
            refine (HRL.out _ HI5'.out).mono ?_
            rintro e w6 ⟨rfl, hb6⟩
            go_wp2_with fail
            have HBX6' := hide ((hb6.block _ (lt_of_block HBX5'.out)).trans HBX5'.out)
            have HI6' := hide (HI5'.out.below hb6)
            clear hb6
            refine hK.out _ _ (⟨HBX6'.out, HI6'.out⟩) (fun hHeld => ?_)
            clear hK
            (try simp only [Act.put, List.setIfInBounds_toArray, List.set_cons_zero, List.set_cons_succ, List.getElem_toArray, List.getElem_cons_zero, List.getElem_cons_succ])
            have hvq : (vv != vv) = false := by simp
            refine wpAnyH_take (i := 8) (oi := _) (v := .bool false) rfl (by kernel_rfl) (by kernel_rfl) (by kernel_rfl) (fun _ _ _ h => h) (Or.inl ⟨by rfl, fun w' hSw => by go_simp⟩) hHeld ?_
            (try simp only [Act.put, List.setIfInBounds_toArray, List.set_cons_zero, List.set_cons_succ, List.getElem_toArray, List.getElem_cons_zero, List.getElem_cons_succ])
            refine wpAnyH_done (by kernel_rfl) ?_ _
            go_wp2_with fail
            go_roundw
            case rel => exact ⟨k + 1, q, ns, tms, An, nn, cn, At, ct, by go_num, by omega, by omega, HN2.out, HI6'.out⟩
            case measure => simp [intOf]; omega
        · have d1 : decide ((k : Int) < 60) = false := decide_eq_false (by omega)
          have d2 : decide ((k : Int) < (len : Int)) = true := decide_eq_true (by omega)
          go_wp2
          go_ret
          exact ⟨rfl, hI.out.bel⟩
      · have d2 : decide ((k : Int) < (len : Int)) = false := decide_eq_false (by omega)
        go_wp2
        go_ret
        exact ⟨rfl, hI.out.bel⟩
  · obtain rfl := hno hr
    have hrb : rb = false := by rw [← HRB.out]; exact decide_eq_false hr
    subst hrb
    have HB5 := hide (HBA.out.trans (hb5.mono HBA.out.size))
    clear hyes hno hb5 hr
    go_wp2_with fail
    refine (hclear_nil _).mono ?_
    rintro e _ ⟨rfl, rfl⟩
    go_wp2_with fail
    refine (hvalid_nil _ _).mono ?_
    rintro e _ ⟨rfl, rfl⟩
    go_wp2_with fail
    refine (hgranted_nil _ _ _).mono ?_
    rintro e _ ⟨rfl, rfl⟩
    go_wp2
    go_ret
    exact ⟨rfl, HB5.out⟩
end Go.Proofs.Ytgdncmkhcdmjoaa
