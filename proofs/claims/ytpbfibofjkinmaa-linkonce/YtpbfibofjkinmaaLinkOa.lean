/-
  The law's once, where no text comes twice and each is wanted: it answers true. Conditions: at most 4096 texts, each in reach.
-/
import Derived.Test.YtpbfibofjkinmaaLinkGb
set_option linter.unusedSimpArgs false
set_option linter.unusedVariables false
namespace Go.Proofs.Ytpbfibofjkinmaa
open Go.RowKit Go.Maps

theorem bool_info : (Try.prog.info? 4).map (fun i => (i.zero, i.size, i.bytes)) = some (some (Value.bool false), 1, 1) := by kernel_rfl
/-- A block of n marks. -/
def ub (n : Nat) (P : Nat → Bool) : Array Value := Array.ofFn (n := n) fun i => .bool (P i.1)
theorem ub_made (n : Nat) : madeCells (Value.bool false).cells (n * 1) = ub n (fun _ => false) := by
  apply Array.ext
  · simp [madeCells, ub]
  · intro i h1 h2
    simp [madeCells, ub, Value.cells, Nat.mod_one]
theorem ub_get (n : Nat) (P : Nat → Bool) (i : Nat) (h : i < n) : (ub n P)[i]? = some (.bool (P i)) := by simp [ub, h]
theorem ub_set (n : Nat) (P : Nat → Bool) (k : Nat) (h : k < n) : (ub n P).setIfInBounds k (.bool true) = ub n (fun i => P i || decide (i = k)) := by
  apply Array.ext_getElem?
  intro i
  rw [Array.getElem?_setIfInBounds]
  by_cases hi : k = i
  · subst hi
    simp [ub, h]
  · have hi' : ¬ i = k := fun e => hi e.symm
    simp [ub, hi, hi', Array.getElem?_ofFn]

abbrev Txts := List (List UInt8)
/-- Is text number i among the first t of G? -/
def usd (W G : Txts) (t i : Nat) : Bool := match W[i]? with | some x => (G.take t).contains x | none => false
/-- The same, in the midst of looking for g. -/
def usq (W G : Txts) (t i : Nat) (g : List UInt8) (q : Nat) : Bool := usd W G t q || (decide (q < i) && (W[q]? == some g))
theorem usq_zero (W G : Txts) (t : Nat) (g : List UInt8) : usq W G t 0 g = usd W G t := by funext q; simp [usq]
theorem usq_same {W G : Txts} {t i : Nat} {g : List UInt8} (h : W[i]? = some g) : (fun q => usq W G t i g q || decide (q = i)) = usq W G t (i + 1) g := by
  funext q
  unfold usq
  by_cases hq : q = i
  · subst hq
    simp [h]
  · have e : (decide (q < i + 1)) = decide (q < i) := by rw [decide_eq_decide]; omega
    rw [e, decide_eq_false hq, Bool.or_false]
theorem usq_other {W G : Txts} {t i : Nat} {g x : List UInt8} (h : W[i]? = some x) (hx : x ≠ g) : usq W G t (i + 1) g = usq W G t i g := by
  funext q
  unfold usq
  by_cases hq : q = i
  · subst hq
    simp [h, hx]
  · have e : (decide (q < i + 1)) = decide (q < i) := by rw [decide_eq_decide]; omega
    rw [e]
theorem usq_all {W G : Txts} {t : Nat} {g : List UInt8} (h : t < G.length) (hg : G[t] = g) : usq W G t W.length g = usd W G (t + 1) := by
  funext q
  unfold usq usd
  rw [List.take_succ_eq_append_getElem h, hg]
  cases hq : W[q]? with
  | none => simp
  | some x =>
    have : q < W.length := (List.getElem?_eq_some_iff.1 hq).1
    simp only [this, decide_true, Bool.true_and]
    by_cases hx : x = g
    · subst hx; simp
    · have hx' : (some x == some g) = false := by simp [hx]
      rw [hx', Bool.or_false, Bool.eq_iff_iff]
      simp [hx]
theorem take_contains_succ {W : Txts} {i : Nat} {x g : List UInt8} (h : W[i]? = some x) : (W.take (i + 1)).contains g = ((W.take i).contains g || (x == g)) := by
  obtain ⟨hi, e⟩ := List.getElem?_eq_some_iff.1 h
  rw [List.take_succ_eq_append_getElem hi, e]
  by_cases hx : x = g
  · subst hx; simp
  · have hx' : ¬ g = x := fun e => hx e.symm
    rw [Bool.eq_iff_iff]
    simp [hx, hx']
theorem nodup_take {W : Txts} (h : W.Nodup) {i : Nat} {g : List UInt8} (hi : W[i]? = some g) : (W.take i).contains g = false := by
  obtain ⟨hl, e⟩ := List.getElem?_eq_some_iff.1 hi
  rw [Bool.eq_false_iff]
  intro hc
  have hm : g ∈ W.take i := by simpa using hc
  obtain ⟨q, hq, e2⟩ := List.getElem_of_mem hm
  have hq' : q < i := by simp at hq; omega
  rw [List.getElem_take] at e2
  exact (List.pairwise_iff_getElem.1 h) q i (by omega) hl hq' (e2.trans e.symm)

theorem cell_in {w : World} {p : Addr} {v : Value} (h : w.cell? p = some v) : p.block < w.heap.size := by
  rcases Nat.lt_or_ge p.block w.heap.size with hl | hg
  · exact hl
  · exfalso
    unfold World.cell? at h
    rw [Array.getElem?_eq_none hg] at h
    cases p with
    | mk b o s => cases s <;> simp at h
/-- Memory within once. -/
structure OI (w : World) (n : Nat) (P : Nat → Bool) (wr : World) : Prop where
  blk : wr.heap[w.heap.size]? = some (.cells (ub n P) 4 (0, 0))
  bel : Below w.heap.size w wr
theorem OI.drewN {w wr : World} {n : Nat} {P : Nat → Bool} (h : OI w n P wr) (m : Nat) : OI w n P (wr.drewN m) := ⟨h.blk, below_drewN h.bel m⟩
theorem OI.set {w wr : World} {n : Nat} {P : Nat → Bool} (h : OI w n P wr) (i : Nat) (hi : i < n) : OI w n (fun q => P q || decide (q = i)) (wr.setCell ⟨w.heap.size, i, none⟩ (.bool true)) := by
  have hk : Kept (fun k => k = w.heap.size) wr (wr.setCell ⟨w.heap.size, i, none⟩ (.bool true)) := (Kept.refl (fun k => k = w.heap.size) wr).setCell (p := ⟨w.heap.size, i, none⟩) (.inl rfl) _
  exact ⟨by rw [set_cell_at _ h.blk, ub_set n P i hi], h.bel.trans (hk.below h.bel.size (fun k hk => by omega))⟩

set_option maxHeartbeats 4000000 in
set_option maxRecDepth 20000 in
theorem lonce_any {w : World} {b1 b2 : Nat} (Ag : Option Addr) (cg : Nat) (Aw : Option Addr) (cw : Nat) (gs ws : List Piece) (hg : OwnF w b1 (.slice Ag gs.length cg) gs) (hw : OwnF w b2 (.slice Aw ws.length cw) ws) (hgl : ∀ p ∈ gs, p.bs.length ≤ 140737488355328) (hwl : ∀ p ∈ ws, p.bs.length ≤ 140737488355328)
    (h1 : gs.length ≤ 4096) (h2 : ws.length ≤ 4096) (hWn : (ws.map Piece.bs).Nodup) (hGn : (gs.map Piece.bs).Nodup) (hsub : ∀ x ∈ gs.map Piece.bs, x ∈ ws.map Piece.bs) :
    Calls Try.prog 46 #[.slice Ag gs.length cg, .slice Aw ws.length cw] w fun e w' => e = .returned (.bool true) ∧ Below w.heap.size w w' := by
  obtain ⟨i0, hi0, hz0, hz1, hz2⟩ := info_parts bool_info
  have hmk := fun W => run_make (P := Try.prog) W 112 4 i0 (.bool false) Try.underlying112 hi0 hz0 .i64 .i64 ws.length ws.length (by omega) (by omega) (by rw [hz2]; omega) (by omega)
  simp only [Int.toNat_natCast, hz1, ub_made] at hmk
  obtain ⟨W, hWW⟩ : ∃ W, ws.map Piece.bs = W := ⟨_, rfl⟩
  obtain ⟨G, hGG⟩ : ∃ G, gs.map Piece.bs = G := ⟨_, rfl⟩
  rw [hWW] at hWn hsub
  rw [hGG] at hGn hsub
  have HWW := hide hWW
  have HGG := hide hGG
  have HG := hide (fun (wr : World) (hb : Below w.heap.size w wr) => hg.below hb)
  have HW := hide (fun (wr : World) (hb : Below w.heap.size w wr) => hw.below hb)
  have HGL := hide hgl
  have HWL := hide hwl
  have HWN := hide hWn
  have HGN := hide hGn
  have HSUB := hide hsub
  have hnW : Hid (W.length = ws.length) := hide (by rw [← hWW, List.length_map])
  have hnG : Hid (G.length = gs.length) := hide (by rw [← hGG, List.length_map])
  have hb0 := heap_alloc_new w (.cells (ub ws.length fun _ => false) 4)
  have hI0 : Hid (OI w ws.length (usd W G 0) (w.alloc (.cells (ub ws.length fun _ => false) 4))) := hide ⟨by
    rw [hb0]
    congr 2
    congr 1
    funext i
    unfold usd
    cases W[i]? <;> simp, (Below.refl _ _).alloc (Nat.le_refl _) _⟩
  have HATW : Hid (∀ i (hi : i < ws.length), ∃ g pA pn pc, Aw = some ⟨g, 0, none⟩ ∧ (∀ wr : World, Below w.heap.size w wr → wr.cell? ⟨g, i, none⟩ = some (.slice pA pn pc) ∧ Has wr w.heap.size pA ws[i].bs) ∧ ws[i].bs.length = pn ∧ pn ≤ 140737488355328 ∧ W[i]? = some ws[i].bs) := hide (fun i hi => by
    obtain ⟨g, e1, _, e2, e3, e4, e5⟩ := hw.at_ hwl i hi
    have hgz : g < w.heap.size := cell_in e2
    exact ⟨g, _, _, _, e1, fun wr hb => ⟨(hb.cell (p := ⟨g, i, none⟩) hgz).trans e2, e3.below hb⟩, e4, e5, by rw [← hWW, List.getElem?_map, List.getElem?_eq_getElem hi]; rfl⟩)
  have HATG : Hid (∀ i (hi : i < gs.length), ∃ g pA pn pc, Ag = some ⟨g, 0, none⟩ ∧ (∀ wr : World, Below w.heap.size w wr → wr.cell? ⟨g, i, none⟩ = some (.slice pA pn pc) ∧ Has wr w.heap.size pA gs[i].bs) ∧ gs[i].bs.length = pn ∧ pn ≤ 140737488355328 ∧ G[i]? = some gs[i].bs) := hide (fun i hi => by
    obtain ⟨g, e1, _, e2, e3, e4, e5⟩ := hg.at_ hgl i hi
    have hgz : g < w.heap.size := cell_in e2
    exact ⟨g, _, _, _, e1, fun wr hb => ⟨(hb.cell (p := ⟨g, i, none⟩) hgz).trans e2, e3.below hb⟩, e4, e5, by rw [← hGG, List.getElem?_map, List.getElem?_eq_getElem hi]; rfl⟩)
  clear hg hw hgl hwl hWn hGn hsub hWW hGG hb0 HG HW HGL HWL HWW HGG
  go_enter Try.func46, Try.ntmps46
  go_wp2
  clear hmk
  generalize w.alloc (.cells (ub ws.length fun _ => false) 4) = w1 at *
  go_loopw [15] (fun i wr => ∃ t : Nat, t ≤ gs.length ∧ i = .int .i64 (t : Int) ∧ Hid (OI w ws.length (usd W G t) wr)) (fun i _ => gs.length - (intOf i).toNat)
  case atStart => exact ⟨0, by omega, rfl, hI0⟩
  case round =>
    obtain ⟨t, ht, rfl, hI⟩ := hrel
    by_cases hlt : t < gs.length
    · obtain ⟨gg, gA, gn, gc, rfl, hgw, hgn, hgl, hGt⟩ := HATG.out t hlt
      generalize gs[t].bs = x at *
      subst hgn
      obtain ⟨hgc, _⟩ := hgw wr hI.out.bel
      have HGW := hide hgw
      have HGT := hide hGt
      have htl : (t : Int) < (gs.length : Int) := by omega
      have htG : t < G.length := by rw [hnG.out]; exact hlt
      clear hgw hGt
      go_wp2_with fail
      go_loopw [8, 21] (fun s8 i wx => ∃ q : Nat, q ≤ ws.length ∧ i = .int .i64 (q : Int) ∧ s8 = .bool ((W.take q).contains x) ∧ Hid (OI w ws.length (usq W G t q x) wx)) (fun _ i _ => ws.length - (intOf i).toNat)
      case atStart => exact ⟨0, by omega, rfl, by simp, hide (by rw [usq_zero]; exact hI.out)⟩
      case round =>
        clear hI hgc
        obtain ⟨q, hq, rfl, rfl, hJ⟩ := hrel
        by_cases hqt : q < ws.length
        · obtain ⟨gw, wA, wn, wcp, rfl, hww, hwn, hwl, hWq⟩ := HATW.out q hqt
          have hsucc := take_contains_succ (g := x) hWq
          generalize ws[q].bs = y at *
          subst hwn
          obtain ⟨hwc, hwy⟩ := hww wr hJ.out.bel
          obtain ⟨_, hgx⟩ := HGW.out wr hJ.out.bel
          have hub := (row_cells hJ.out.blk q).1
          have hfz := (row_cells hJ.out.blk q).2
          rw [ub_get _ _ q hqt] at hub
          have hql : (q : Int) < (ws.length : Int) := by omega
          have hq0 : (0 : Int) ≤ (q : Int) := by omega
          have hsm := same_any wA gA y.length x.length wcp gc _ _ y x wr hwy hgx rfl rfl hwl
          by_cases hxy : y = x
          · subst hxy
            have hf : (W.take q).contains y = false := nodup_take HWN.out hWq
            have hu : usq W G t q y q = false := by
              unfold usq usd
              rw [hWq]
              simp only [decide_false, Nat.lt_irrefl, Bool.false_and, Bool.or_false]
              exact nodup_take HGN.out HGT.out
            rw [hu] at hub
            have hj2 := hide (usq_same (G := G) (t := t) hWq)
            have e1 : (W.take (q + 1)).contains y = true := by rw [hsucc]; simp
            have E1 := hide e1
            rw [hf]
            clear hsucc hu hww hf e1 hWq hwy hgx
            go_wp2_with fail
            refine hsm.mono ?_
            rintro e w2 ⟨rfl, m2, rfl⟩
            rw [decide_eq_true rfl]
            have hJ2 := hJ.out.drewN m2
            have hub2 := (row_cells hJ2.blk q).1
            have hfz2 := (row_cells hJ2.blk q).2
            rw [ub_get _ _ q hqt] at hub2
            have hset := hide (hJ2.set q hqt)
            clear hsm hub hfz hwc hJ hJ2
            generalize wr.drewN m2 = w3 at *
            go_wp2_with fail
            go_roundw
            case rel => exact ⟨q + 1, by omega, by go_num, by rw [E1.out], hide (by rw [← hj2.out]; exact hset.out)⟩
            case measure => simp [intOf]; omega
          · have e1 : (W.take (q + 1)).contains x = (W.take q).contains x := by rw [hsucc]; simp [hxy]
            have hj2 := hide (usq_other (G := G) (t := t) hWq hxy)
            have E1 := hide e1
            have HXY := hide hxy
            have HJ3 : Hid (∀ m, OI w ws.length (usq W G t (q + 1) x) (wr.drewN m)) := hide (fun m => by rw [hj2.out]; exact hJ.out.drewN m)
            have HJ4 : Hid (OI w ws.length (usq W G t (q + 1) x) wr) := hide (by rw [hj2.out]; exact hJ.out)
            clear hsucc hww e1 hWq hwy hgx hxy hj2
            generalize hhh : (W.take q).contains x = hh at *
            generalize usq W G t q x q = uu at *
            have HHH := hide hhh
            clear hhh
            cases hh
            · cases uu
              · go_wp2_with fail
                refine hsm.mono ?_
                rintro e w2 ⟨rfl, m2, rfl⟩
                rw [decide_eq_false HXY.out]
                clear hsm
                go_wp2_with fail
                go_roundw
                case rel => exact ⟨q + 1, by omega, by go_num, by rw [E1.out], hide (HJ3.out m2)⟩
                case measure => simp [intOf]; omega
              · clear hsm
                go_wp2_with fail
                go_roundw
                case rel => exact ⟨q + 1, by omega, by go_num, by rw [E1.out], HJ4⟩
                case measure => simp [intOf]; omega
            · clear hsm
              go_wp2_with fail
              go_roundw
              case rel => exact ⟨q + 1, by omega, by go_num, by rw [E1.out], HJ4⟩
              case measure => simp [intOf]; omega
        · obtain rfl : q = ws.length := by omega
          have hmem : x ∈ W := by
            obtain ⟨h5, h6⟩ := List.getElem?_eq_some_iff.1 HGT.out
            exact HSUB.out x (by rw [← h6]; exact List.getElem_mem h5)
          have hall : (W.take ws.length).contains x = true := by rw [← hnW.out, List.take_length]; simpa using hmem
          have hJ5 : Hid (OI w ws.length (usd W G (t + 1)) wr) := hide (by
            have e5 := usq_all (W := W) htG ((List.getElem?_eq_some_iff.1 HGT.out).2)
            rw [hnW.out] at e5
            rw [← e5]
            exact hJ.out)
          rw [hall]
          clear hmem hall hJ
          go_wp2_with fail
          go_roundw
          case rel => exact ⟨t + 1, by omega, by go_num, hJ5⟩
          case measure => simp [intOf]; omega
    · obtain rfl : t = gs.length := by omega
      have HFN := hide hI.out.bel
      clear hI
      go_wp2_with fail
      go_ret
      exact ⟨rfl, HFN.out⟩
end Go.Proofs.Ytpbfibofjkinmaa
