/-
  The reference's Valid of package lease. No condition but the reach of what is read, and that times are numbers within 2^60.
-/
import Derived.Test.YtgdncmkhcdmjoaaLeaseJ
set_option linter.unusedSimpArgs false
set_option linter.unusedVariables false
namespace Go.Proofs.Ytgdncmkhcdmjoaa
open Go.RowKit
theorem lastG_in60 (x : Int) : ∀ (l : List (Int × Int)) (t : Int), In60 t → (∀ p ∈ l, In60 p.2) → In60 (l.foldl (lastG x) t)
  | [], _, h, _ => h
  | a :: l, t, h, hl => by
    show In60 (l.foldl (lastG x) (lastG x t a))
    refine lastG_in60 x l _ ?_ (fun p hp => hl p (by simp [hp]))
    unfold lastG
    split
    · have := hl a (by simp)
      unfold In60 at *
      omega
    · exact h
/-- Who counts among the first i pairs. -/
def inTo (hold now : Int) (ps : List (Int × Int)) (i : Nat) : List Int := ((ps.take i).filter (fun p => okA hold now (lastF ps p.1))).map Prod.fst
theorem inTo_succ {hold now : Int} {ps : List (Int × Int)} {i : Nat} (h : i < ps.length) : inTo hold now ps (i + 1) = inTo hold now ps i ++ (if okA hold now (lastF ps ps[i].1) = true then [ps[i].1] else []) := by
  unfold inTo
  rw [List.take_succ_eq_append_getElem h, List.filter_append, List.map_append]
  congr 1
  by_cases hk : okA hold now (lastF ps ps[i].1) = true
  · simp [hk]
  · simp [hk]
theorem inTo_len (hold now : Int) (ps : List (Int × Int)) (i : Nat) : (inTo hold now ps i).length ≤ i := by
  unfold inTo
  rw [List.length_map]
  refine Nat.le_trans (List.length_filter_le _ _) ?_
  simp
  omega
theorem inTo_mem {hold now : Int} {ps : List (Int × Int)} {k : Int} : k ∈ inTo hold now ps ps.length ↔ okA hold now (lastF ps k) = true := by
  unfold inTo
  rw [List.take_length]
  constructor
  · intro h
    obtain ⟨p, hp, rfl⟩ := List.mem_map.1 h
    exact (List.mem_filter.1 hp).2
  · intro h
    by_cases hx : ∀ p ∈ ps, p.1 ≠ k
    · rw [lastF_none k ps hx] at h
      cases h
    · obtain ⟨p, hp⟩ := Classical.not_forall.1 hx
      obtain ⟨hp1, hp2⟩ := Classical.not_imp.1 hp
      have e : p.1 = k := Classical.not_not.1 hp2
      exact List.mem_map.2 ⟨p, List.mem_filter.2 ⟨hp1, by rw [e]; exact h⟩, e⟩
/-- What is there within the call. -/
structure HV (w : World) (row : Array Value) (v : Value) (acc : List Int) (wr : World) : Prop where
  bx : wr.heap[w.heap.size]? = some (.cells row 58 (0, 0))
  own : OwnI wr (w.heap.size + 1) v acc
  bel : Below w.heap.size w wr
theorem HV.drewN {w wr : World} {row : Array Value} {v : Value} {acc : List Int} (h : HV w row v acc wr) (m : Nat) : HV w row v acc (wr.drewN m) := ⟨h.bx, h.own, below_drewN h.bel m⟩
set_option maxHeartbeats 3200000 in
set_option maxRecDepth 20000 in
theorem hrvalid_any (ms ns tms : List Int) (hold now : Int) (Am : Option Addr) (nm cm : Nat) (An : Option Addr) (nn cn : Nat) (At : Option Addr) (ct : Nat) (w : World)
    (hm : HasI w w.heap.size Am ms) (hml : ms.length = nm) (hn : HasI w w.heap.size An ns) (hnl : ns.length = nn) (ht : HasI w w.heap.size At tms) (htl : tms.length = nn) (hl : nm ≤ 1000 ∧ nn ≤ 1000)
    (hh : 0 ≤ hold ∧ hold ≤ 1048576) (hnow : In60 now) (h60 : ∀ t ∈ tms, In60 t) :
    Calls Try.prog 34 #[.agg #[.slice Am nm cm, .int .i64 hold, .slice An nn cn, .slice At nn ct], .int .i64 now] w fun e w' => e = .returned (.bool (quoH ms (fun k => okA hold now (lastF (ns.zip tms) k)))) ∧ Below w.heap.size w w' := by
  have hp0 := heap_alloc_new w (.cells #[.slice Am nm cm, .int .i64 hold, .slice An nn cn, .slice At nn ct] 58)
  have hb0 : Below w.heap.size w (w.alloc (.cells #[.slice Am nm cm, .int .i64 hold, .slice An nn cn, .slice At nn ct] 58)) := (Below.refl _ _).alloc (Nat.le_refl _) _
  have hz0 : (w.alloc (.cells #[.slice Am nm cm, .int .i64 hold, .slice An nn cn, .slice At nn ct] 58)).heap.size = w.heap.size + 1 := by simp
  have hpl : (ns.zip tms).length = nn := by rw [List.length_zip]; omega
  have HPL := hide hpl
  have HML := hide hml
  have HNL := hide hnl
  have HTL := hide htl
  have HM := hide hm
  have HN := hide hn
  have HT := hide ht
  have H60 := hide h60
  have HNOW := hide hnow
  have HHD := hide hh
  have hV0 : HV w #[.slice Am nm cm, .int .i64 hold, .slice An nn cn, .slice At nn ct] (.slice (some ⟨w.heap.size + 1, 0, none⟩) 0 0) [] ((w.alloc (.cells #[.slice Am nm cm, .int .i64 hold, .slice An nn cn, .slice At nn ct] 58)).alloc (.cells #[] 3)) := by
    have ho := OwnI.new (w.alloc (.cells #[.slice Am nm cm, .int .i64 hold, .slice An nn cn, .slice At nn ct] 58)) [] (w.heap.size + 1) (w.heap.size + 1) hz0.symm (Nat.le_refl _) (by simp)
    exact ⟨(Below.heap_alloc _ _ _ (by simp)).trans hp0, ho, hb0.alloc (by omega) _⟩
  have HV0 := hide hV0
  clear hpl hml hnl htl hm hn ht h60 hnow hh hp0 hb0 hz0 hV0
  go_enter Try.func34, Try.ntmps34
  go_upto_region 2 with fail
  generalize (w.alloc (.cells #[.slice Am nm cm, .int .i64 hold, .slice An nn cn, .slice At nn ct] 58)).alloc (.cells #[] 3) = w1 at *
  have x2 : w1.cell? ⟨w.heap.size, 2, none⟩ = some (.slice An nn cn) := (row_cells HV0.out.bx 2).1
  go_wp2_with fail
  clear x2
  go_loopw [5, 6, 7, 8, 13] (fun s5 s6 s7 s8 s13 wr => ∃ i : Nat, i ≤ nn ∧ s13 = .int .i64 (i : Int) ∧ Hid (HV w #[.slice Am nm cm, .int .i64 hold, .slice An nn cn, .slice At nn ct] s5 (inTo hold now (ns.zip tms) i) wr)) (fun _ _ _ _ s13 _ => nn - (intOf s13).toNat)
  case atStart => exact ⟨0, by omega, rfl, HV0⟩
  case round =>
    clear HV0
    obtain ⟨i, hi, rfl, hV⟩ := hrel
    by_cases hlt : i < nn
    · have hin : i < ns.length := by rw [HNL.out]; exact hlt
      have hit : i < tms.length := by rw [HTL.out]; exact hlt
      have hiz : i < (ns.zip tms).length := by rw [HPL.out]; exact hlt
      obtain ⟨bn, on, rfl, hbn, cn0⟩ := HN.out i hin
      obtain ⟨bt, ot, rfl, hbt, ct0⟩ := HT.out i hit
      have HSU := hide (inTo_succ (hold := hold) (now := now) hiz)
      have hpe : (ns.zip tms)[i] = (ns[i], tms[i]) := by simp
      have HPE := hide hpe
      have HXI := hide (show ns[i] = ns[i] from rfl)
      have hti60 := H60.out tms[i] (List.getElem_mem hit)
      have HLF := hide (lastF_in ns[i] (ns[i], tms[i]) rfl (ns.zip tms) (by rw [← hpe]; exact List.getElem_mem hiz))
      rw [hpe] at HSU
      generalize ns[i] = xi at *
      generalize tms[i] = ti at *
      have HT60 := hide hti60
      have il : (i : Int) < (nn : Int) := by omega
      have i0 : (0 : Int) ≤ (i : Int) := by omega
      clear hpe hti60 hin hit hiz HXI HPE
      have x2 : wr.cell? ⟨w.heap.size, 2, none⟩ = some (.slice (some ⟨bn, on, none⟩) nn cn) := (row_cells hV.out.bx 2).1
      have x3 : wr.cell? ⟨w.heap.size, 3, none⟩ = some (.slice (some ⟨bt, ot, none⟩) nn ct) := (row_cells hV.out.bx 3).1
      have y2 := (hV.out.bel.cell (p := ⟨bt, ot + i, none⟩) hbt).trans ct0
      have y1 := (hV.out.bel.cell (p := ⟨bn, on + i, none⟩) hbn).trans cn0
      go_wp2_with fail
      go_loopw [7, 8, 24] (fun s7 s8 s24 wx => ∃ j : Nat, j ≤ nn ∧ s24 = .int .i64 (j : Int) ∧ s7 = .int .i64 (((ns.zip tms).take j).foldl (lastG xi) ti) ∧ ∃ m, wr.drewN m = wx) (fun _ _ s24 _ => nn - (intOf s24).toNat)
      case atStart => exact ⟨0, by omega, rfl, by simp, 0, rfl⟩
      case round =>
        obtain ⟨j, hj, rfl, rfl, m, rfl⟩ := hrel
        by_cases hlj : j < nn
        · have hjn : j < ns.length := by rw [HNL.out]; exact hlj
          have hjt : j < tms.length := by rw [HTL.out]; exact hlj
          have hjz : j < (ns.zip tms).length := by rw [HPL.out]; exact hlj
          have z1 := (hV.out.bel.cell (p := ⟨bn, on + j, none⟩) hbn).trans (HN.out.at_ j hjn).2
          have z2 := (hV.out.bel.cell (p := ⟨bt, ot + j, none⟩) hbt).trans (HT.out.at_ j hjt).2
          have hstep : ((ns.zip tms).take (j + 1)).foldl (lastG xi) ti = lastG xi (((ns.zip tms).take j).foldl (lastG xi) ti) (ns[j], tms[j]) := by
            rw [List.take_succ_eq_append_getElem hjz, List.foldl_append]
            simp
          have HST := hide hstep
          generalize ns[j] = xj at *
          generalize tms[j] = tj at *
          generalize ((ns.zip tms).take j).foldl (lastG xi) ti = last at *
          have jl : (j : Int) < (nn : Int) := by omega
          have j0 : (0 : Int) ≤ (j : Int) := by omega
          clear hstep hjn hjt hjz
          cases he : (xj == xi)
          · have HS2 : Hid (lastG xi last (xj, tj) = last) := hide (if_neg (fun e => by rw [show xj = xi from e] at he; simp at he))
            go_wp2_with fail
            go_quiet (fail)
            go_wp2
            go_roundw
            case rel => exact ⟨j + 1, by omega, by go_num, by rw [HST.out, HS2.out], m + nq, by simp⟩
            case measure => simp [intOf]; omega
          · have exi : xj = xi := eq_of_beq he
            by_cases hgt : last < tj
            · have dgt : decide (last < tj) = true := decide_eq_true hgt
              have HS2 : Hid (lastG xi last (xj, tj) = tj) := hide (by show (if xj = xi then max last tj else last) = tj; rw [if_pos exi]; omega)
              clear exi hgt
              go_wp2_with fail
              go_quiet (fail)
              go_wp2
              go_roundw
              case rel => exact ⟨j + 1, by omega, by go_num, by rw [HST.out, HS2.out], m + nq, by simp⟩
              case measure => simp [intOf]; omega
            · have dgt : decide (last < tj) = false := decide_eq_false hgt
              have HS2 : Hid (lastG xi last (xj, tj) = last) := hide (by show (if xj = xi then max last tj else last) = last; rw [if_pos exi]; omega)
              clear exi hgt
              go_wp2_with fail
              go_quiet (fail)
              go_wp2
              go_roundw
              case rel => exact ⟨j + 1, by omega, by go_num, by rw [HST.out, HS2.out], m + nq, by simp⟩
              case measure => simp [intOf]; omega
        · have hjn : j = nn := by omega
          rw [show (ns.zip tms).take j = ns.zip tms from List.take_of_length_le (by rw [HPL.out]; omega)]
          have hl60 := lastG_in60 xi (ns.zip tms) ti HT60.out (fun p hp => H60.out p.2 (List.of_mem_zip hp).2)
          generalize (ns.zip tms).foldl (lastG xi) ti = last at *
          have hLF : lastF (ns.zip tms) xi = some last := HLF.out
          have hok : okA hold now (lastF (ns.zip tms) xi) = (decide (last ≤ now) && decide (now - last < hold)) := by rw [hLF]; rfl
          have hd2 : decide (now < last + hold) = decide (now - last < hold) := decide_eq_decide.2 (by omega)
          have vw : IntKind.i64.wrap (last + hold) = last + hold := IntWalk.i64_in _ (by have := HHD.out; unfold In60 at hl60; omega)
          have x1 : (wr.drewN m).cell? ⟨w.heap.size, 1, none⟩ = some (.int .i64 hold) := (row_cells hV.out.bx 1).1
          have HVM := hide (hV.out.drewN m)
          have HOK := hide hok
          have HJ := hide hjn
          clear hLF hok hl60 hjn hj
          obtain ⟨ob, hob⟩ : ∃ ob, decide (now - last < hold) = ob := ⟨_, rfl⟩
          rw [hob] at hd2 HOK
          clear hob
          cases e1 : decide (last ≤ now)
          · have HIN : Hid (inTo hold now (ns.zip tms) (i + 1) = inTo hold now (ns.zip tms) i) := hide (by rw [HSU.out, HOK.out, e1]; simp)
            go_wp2_with fail
            go_roundw
            case rel => exact ⟨i + 1, by omega, by go_num, by rw [HIN.out]; exact HVM⟩
            case measure => simp [intOf]; omega
          · cases ob
            · have HIN : Hid (inTo hold now (ns.zip tms) (i + 1) = inTo hold now (ns.zip tms) i) := hide (by rw [HSU.out, HOK.out, e1]; simp)
              go_wp2_with fail
              go_roundw
              case rel => exact ⟨i + 1, by omega, by go_num, by rw [HIN.out]; exact HVM⟩
              case measure => simp [intOf]; omega
            · have HIN : Hid (inTo hold now (ns.zip tms) (i + 1) = inTo hold now (ns.zip tms) i ++ [xi]) := hide (by rw [HSU.out, HOK.out, e1]; simp)
              generalize hwm : wr.drewN m = wm at *
              have x2w : wm.cell? ⟨w.heap.size, 2, none⟩ = some (.slice (some ⟨bn, on, none⟩) nn cn) := (row_cells HVM.out.bx 2).1
              have y1w := (HVM.out.bel.cell (p := ⟨bn, on + i, none⟩) hbn).trans cn0
              have hone : HasI (wm.alloc (.cells (icells [xi]) 3)) (wm.heap.size + 1) (some ⟨wm.heap.size, 0, none⟩) [xi] := HasI.new wm 3 [xi] (0, 0) wm.heap.size rfl
              have hba := (Below.refl _ wm).alloc (Nat.le_refl _) (.cells (icells [xi]) 3)
              have hic : icells [xi] = #[.int .i64 xi] := rfl
              rw [hic] at hone hba
              have HOA := hide (HVM.out.own.below hba)
              have HXA := hide ((hba.block _ (lt_of_block HVM.out.bx)).trans HVM.out.bx)
              have HBA := hide (HVM.out.bel.trans (hba.mono HVM.out.bel.size))
              have HSA : Hid (w.heap.size + 1 ≤ (wm.alloc (.cells #[.int .i64 xi] 3)).heap.size) := hide (by have := lt_of_block HXA.out; omega)
              have HLN : Hid ((inTo hold now (ns.zip tms) i).length + 1 ≤ 17592186044416) := hide (by have := inTo_len hold now (ns.zip tms) i; omega)
              clear hic hba
              go_wp2_with (first
                | (refine list_append_ints5 _ rfl (.tmp 64) (.tmp 70) rfl (w.heap.size + 1) u5 (inTo hold now (ns.zip tms) i) rfl HOA.out _ _ 1 1 [xi] rfl hone rfl HLN.out HSA.out ?_; intro v7 w7 ho7 hg7 _; have HO7 := hide ho7; have HG7 := hide hg7; clear ho7 hg7)
                | fail)
              have hkg : Kept (fun j => u5.ownBlock = some j) _ w7 := Kept.of_grown (F := fun j => u5.ownBlock = some j) HG7.out (fun j hj => hj)
              have HV7 : Hid (HV w _ v7 (inTo hold now (ns.zip tms) (i + 1)) w7) := hide ⟨(hkg.block _ (lt_of_block HXA.out) (fun e => ownI_ne HOA.out HXA.out (by decide) e)).trans HXA.out, by rw [HIN.out]; exact HO7.out, HBA.out.trans (hkg.below HBA.out.size (fun j hj => by have := (HOA.out.lt j hj).1; omega))⟩
              clear hkg
              go_roundw
              case rel => exact ⟨i + 1, by omega, by go_num, HV7⟩
              case measure => simp [intOf]; omega
    · have hin : i = nn := by omega
      subst hin
      obtain ⟨A5, n5, c5, rfl, hn5, _, hx5⟩ := hV.out.own.form
      have x0 : wr.cell? ⟨w.heap.size, 0, none⟩ = some (.slice Am nm cm) := (row_cells hV.out.bx 0).1
      have hl5 := inTo_len hold now (ns.zip tms) i
      have hen := renough_any Am A5 nm n5 cm c5 w.heap.size wr.heap.size ms (inTo hold now (ns.zip tms) i) wr (HM.out.below hV.out.bel) hx5 HML.out hn5.out (by omega) (by have := hn5.out; omega)
      have e1 := enB_quoH (ms := ms) (ks := inTo hold now (ns.zip tms) i) (p := fun k => okA hold now (lastF (ns.zip tms) k)) (fun k => by have := HPL.out; rw [← this]; exact inTo_mem)
      rw [e1] at hen
      have HB := hide hV.out.bel
      have d1 : decide ((i : Int) < (i : Int)) = false := decide_eq_false (by omega)
      clear e1 hl5 hx5 hV hlt hi
      go_wp2_with fail
      refine hen.mono ?_
      rintro e _ ⟨rfl, rfl⟩
      go_wp2
      go_ret
      exact ⟨rfl, HB.out⟩
end Go.Proofs.Ytgdncmkhcdmjoaa
