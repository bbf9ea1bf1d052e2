/-
  The walk of SealSums: the sum of any pieces is that of all their bytes behind one another. Condition: all that is read is of bulk at most 2^20.
-/
import Derived.Test.YtofdjpophacldaaPieces
import Derived.Test.YtofdjpophacldaaSealOpens
namespace Go.Proofs.Ytofdjpophacldaa
open Go.RowKit

set_option maxHeartbeats 1600000 in
theorem sums_walk (A : Option Addr) (c : Nat) (ps : List Piece) (w : World) (hx : HasP w w.heap.size A ps) (hb : ps.length + (catP ps).length ≤ 1048576) :
    Calls Try.prog 8 #[.slice A ps.length c] w fun e w' => e = .returned (.bool true) ∧ Below w.heap.size w w' := by
  have HB := hide hb
  have hps : ps.length ≤ 1048576 := by omega
  clear hb
  go_enter Try.func8, Try.ntmps8
  go_wp2_with fail
  refine (head2_any w).mono ?_
  rintro e w1 ⟨rfl, hb1⟩
  go_wp2_with fail
  have hs1 := hb1.size
  have hb2 : Below w.heap.size w ((w1.alloc (.cells #[] 5)).alloc (.cells #[] 26)) := (hb1.alloc hs1 _).alloc (by simp; omega) _
  have hg2 : Gath ((w1.alloc (.cells #[] 5)).alloc (.cells #[] 26)) w.heap.size (.slice (some ⟨w1.heap.size, 0, none⟩) 0 0) (.slice (some ⟨w1.heap.size + 1, 0, none⟩) 0 0) [] [] :=
    ⟨(Own.new w1 [] _ _ rfl hs1 (by simp)).alloc _, OwnP.empty (w1.alloc _) _ _ (by simp) (by omega), fun k hk => absurd hk (by simp), fun g e => by simp [Value.ownBlock] at e ⊢; omega⟩
  generalize (w1.alloc (.cells #[] 5)).alloc (.cells #[] 26) = w2 at *
  go_loopw [3, 4, 15] (fun va vm i wr => ∃ (k : Nat) (qs : List Piece), k ≤ ps.length ∧ i = .int .i64 k ∧ Gath wr w.heap.size va vm (catP (ps.take k)) qs ∧ qs.map Piece.bs = (ps.take k).map Piece.bs ∧ Below w.heap.size w wr) (fun _ _ i _ => ps.length - (intOf i).toNat)
  case atStart => exact ⟨0, [], Nat.zero_le _, rfl, hg2, rfl, hb2⟩
  case round =>
    clear hg2 hb2 hb1 hs1
    obtain ⟨k, qs, hk, rfl, hga, hqs, hbl⟩ := hrel
    have HQ := hide hqs
    clear hqs
    by_cases hlt : k < ps.length
    · obtain ⟨⟨b, o, rfl, hbb, hc⟩, hp, hpl, hl⟩ := hx k hlt
      have hc2 := (hbl.cell (p := ⟨b, o + k, none⟩) hbb).trans hc
      have hp2 := hp.below hbl
      have hct := catP_take ps k hlt
      have hkl := len_le_catP ps k hlt
      have hcl : (catP (ps.take k)).length + ps[k].bs.length ≤ (catP ps).length := by
        have h2 : catP ps = catP (ps.take (k + 1)) ++ catP (ps.drop (k + 1)) := by
          unfold catP
          rw [← List.flatMap_append, List.take_append_drop]
        rw [h2, hct]
        simp only [List.length_append]
        omega
      have hql : qs.length = k := by
        have h := congrArg List.length HQ.out
        simp at h
        omega
      have HQ2 := hide (fun (p : Piece) (hp : p.bs = ps[k].bs) => bs_take hlt HQ.out hp)
      have HCT := hide hct
      have HCL := hide hcl
      have HKL := hide hkl
      have HQL := hide hql
      clear hct hcl hkl hql hc HQ
      generalize catP (ps.take k) = zs at *
      generalize ps[k] = p at *
      obtain ⟨pa, pn, pc, pb⟩ := p
      simp only at hc2 hp hp2 hpl hl HCT HCL HKL HQ2
      unfold Piece.val at hc2
      simp only at hc2
      go_wp2_with (at_builtin; refine list_append_bytes _ rfl (.tmp 19) (.tmp 20) rfl w.heap.size _ zs rfl hga.own w.heap.size pa pn pc pb rfl hp2 hpl (by have := HCL.out; have := HB.out; omega) hbl.size ?_; intro v2 w2 ho2 hg2 hat2)
      have hga2 := hga.all ho2 hg2 hat2
      have hbl2 := hbl.grown hg2 hbl.size (fun k e => (hga.own.lt k e).1)
      clear hga hg2 hat2 hc2 ho2
      have hsz2 := hbl2.size
      refine (copy_any pa pn pc pb w2 ((hp.below hbl2).more hsz2) hpl hl).mono ?_
      rintro e w3 ⟨rfl, rfl⟩
      have hga3 := (hga2.alloc (.cells (bcells pb) 5)).alloc (.cells #[.slice (some ⟨w2.heap.size, 0, none⟩) pn pn] 26)
      have hbl3 := (hbl2.alloc hsz2 (.cells (bcells pb) 5)).alloc (by simp; omega) (.cells #[.slice (some ⟨w2.heap.size, 0, none⟩) pn pn] 26)
      go_wp2_with (at_builtin; refine list_append_piece _ rfl (.tmp 22) (.tmp 25) rfl w.heap.size _ qs rfl hga3.ownp ⟨w2.heap.size + 1, 0, none⟩ 1 ⟨some ⟨w2.heap.size, 0, none⟩, pn, pn, pb⟩ rfl (by simp [Piece.val]) (by have := HQL.out; have := HB.out; omega) (by simp; omega) ?_; intro v4 w4 ho4 hg4 hat4)
      have hga4 := hga3.piece (g0 := w2.heap.size) rfl hsz2 ((Below.heap_alloc _ _ _ (by simp)).trans (heap_alloc_new w2 _)) hpl.symm (fun e => by have := (hga2.own.lt _ e).2; omega) (fun e => by have := (hga2.ownp.lt _ e).2; omega) ho4 hg4 hat4
      have hbl4 := hbl3.grown hg4 hbl3.size (fun k e => (hga3.ownp.lt k e).1)
      go_roundw
      case rel => exact ⟨k + 1, _, by omega, by go_num, by rw [HCT.out]; exact hga4, HQ2.out _ rfl, hbl4⟩
      case measure => simp [intOf]; omega
    · have e : k = ps.length := by omega
      subst e
      rw [List.take_length] at hga
      have hqs := HQ.out
      rw [List.take_length] at hqs
      have hql : qs.length = ps.length := by simpa using congrArg List.length hqs
      have hat : ∀ k (hk : k < ps.length) (hk' : k < qs.length), qs[k].bs = ps[k].bs := fun k hk hk' => bs_at hqs k hk hk'
      have hcat := catP_of_bs hqs
      obtain ⟨Am, nm, cm, rfl, hnm, hncm, hxm⟩ := hga.ownp.form hga.lies (fun k hk => by
        obtain ⟨g, _, _, _, h, _⟩ := hga.lies k hk
        rw [h, hat k (by omega) hk]
        have := len_le_catP ps k (by omega)
        have := HB.out
        omega)
      obtain ⟨Aa, na, ca, rfl, hna, hnca, hxa, _⟩ := hga.own.form
      clear HQ
      have hsz := hbl.size
      have hxw := hx.below hbl
      have HA := hide hat
      have HL := hide hql
      clear hqs hql hat hga hx
      have hnp : nm = ps.length := by have := HL.out; have := hnm.out; omega
      subst hnp
      have hna' : na ≤ 1048576 := by have := hna.out; have := HB.out; omega
      go_wp2_with fail
      refine (sum_any Am ps.length cm _ qs wr hxm (catP ps) hnm.out (by omega) hcat).mono ?_
      rintro e w3 ⟨rfl, rfl⟩
      go_wp2_with fail
      refine (refsum_any Aa na ca _ (catP ps) wr hxa hna.out (by omega)).mono ?_
      rintro e w3 ⟨rfl, rfl⟩
      go_wp2_with fail
      refine (sum_any (some ⟨wr.heap.size, 0, none⟩) 1 1 _ [⟨Aa, na, ca, catP ps⟩] _ (HasP.one wr 26 _ _ rfl hxa hna.out (by simp only; omega)) (catP ps) rfl (by omega) (by simp [catP])).mono ?_
      rintro e w3 ⟨rfl, rfl⟩
      go_wp2_with fail
      refine (refsum_any Aa na ca _ (catP ps) _ (hxa.alloc (Nat.le_refl _) _) hna.out (by omega)).mono ?_
      rintro e w3 ⟨rfl, rfl⟩
      go_wp2_with fail
      have hb4 := hbl.alloc hsz (.cells #[Piece.val ⟨Aa, na, ca, catP ps⟩] 26)
      have hxm4 := hxm.below ((Below.refl wr.heap.size wr).alloc (Nat.le_refl _) (.cells #[Piece.val ⟨Aa, na, ca, catP ps⟩] 26))
      have hxw4 := hxw.below ((Below.refl w.heap.size wr).alloc hsz (.cells #[Piece.val ⟨Aa, na, ca, catP ps⟩] 26))
      generalize wr.alloc (.cells #[Piece.val ⟨Aa, na, ca, catP ps⟩] 26) = w4 at *
      clear hxm hxw hxa hcat hbl hsz
      go_loopw [7, 43] (fun ok i wx => ∃ k : Nat, k ≤ ps.length ∧ i = .int .i64 k ∧ ok = .bool true ∧ Hid (wx.heap = w4.heap) ∧ Below w.heap.size w wx) (fun _ i _ => ps.length - (intOf i).toNat)
      case atStart => exact ⟨0, Nat.zero_le _, rfl, rfl, rfl, hb4⟩
      case round =>
        clear hb4
        obtain ⟨k, hk, rfl, rfl, HH, hbx⟩ := hrel
        by_cases hlt : k < ps.length
        · obtain ⟨⟨b, o, rfl, hbb, hc⟩, hp, hpl, hl⟩ := hxm4 k (by have := HL.out; omega)
          obtain ⟨⟨b', o', rfl, hbb', hc'⟩, hp', hpl', hl'⟩ := hxw4 k hlt
          have HE := hide (HA.out k hlt (by have := HL.out; omega))
          replace hc := (World.cell?_of_block (w := w4) (w' := wr) (a := ⟨b, o + k, none⟩) (by rw [HH.out])).trans hc
          replace hc' := (World.cell?_of_block (w := w4) (w' := wr) (a := ⟨b', o' + k, none⟩) (by rw [HH.out])).trans hc'
          have HS : Hid (∀ W : World, W.heap = w4.heap → Calls Try.prog 23 #[(qs[k]'(by have := HL.out; omega)).val, ps[k].val] W fun e w' => e = .returned (.bool true) ∧ Hid (w'.heap = w4.heap) ∧ ∃ j, W.drewN j = w') := by
            intro W hW
            refine (same_any _ _ _ _ _ _ _ _ _ _ _ (hp.keep fun b _ => by rw [hW]) (hp'.keep fun b _ => by rw [hW]) hpl hpl' hl).mono ?_
            rintro e w' ⟨rfl, j', rfl⟩
            exact ⟨by rw [decide_eq_true HE.out], hW, j', rfl⟩
          clear hp hp' hpl hpl' hl hl' HE
          generalize qs[k]'(by have := HL.out; omega) = q at *
          generalize ps[k] = q' at *
          obtain ⟨qa, qn, qc, qb⟩ := q
          obtain ⟨qa', qn', qc', qb'⟩ := q'
          unfold Piece.val at hc hc' HS
          simp only at hc hc' HS
          go_wp2_with fail
          go_region_held3 (fun w' => w'.cell? ⟨b, o + k, none⟩ = some (.slice qa qn qc) ∧ w'.cell? ⟨b', o' + k, none⟩ = some (.slice qa' qn' qc')) (first | exact ⟨hc, hc'⟩ | go_keep)
            (first | ((go_at_call 23; (with_reducible refine (HS.out _ ?_).mono ?_)); exact HH.out; rintro e w5 ⟨rfl, HH5, j5, rfl⟩))
          all_goals
            go_wp2_with fail
            go_roundw
            case rel => exact ⟨k + 1, by omega, by go_num, rfl, HH5, below_drewN (by first | exact hbx.drew | exact hbx) _⟩
            case measure => simp [intOf]; omega
        · go_wp2
          go_ret
          exact ⟨rfl, hbx⟩
end Go.Proofs.Ytofdjpophacldaa
