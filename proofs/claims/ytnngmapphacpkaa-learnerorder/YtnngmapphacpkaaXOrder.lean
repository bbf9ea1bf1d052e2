/-
  LearnerOrder of the statements: for every input the law returns true, and what came in reads as it did. No condition.
  LearnerOrder: the walk. No condition but the reach of what is read.
-/
import Derived.Test.YtnngmapphacpkaaML2
set_option linter.unusedSimpArgs false
set_option linter.unusedVariables false

namespace Go.Proofs.Ytnngmapphacpkaa
open Go.RowKit

/-- What the loop over the script holds. -/
structure ORd (w : World) (g : Nat) (ts : List Eop) (l : Lv) (fs : List Eop) (F : Nat → Prop) (s4 : Value) (wr : World) : Prop where
  el : EL wr F g l
  own : OwnR wr w.heap.size 42 6 s4 (fs.map Eop.row)
  sub : ∀ q ∈ fs, q ∈ ts
  inv : ∀ s x, l.D s = some x ↔ ∃ q ∈ fs, q.S = s ∧ q.v = x
  fl : ∀ j, F j → w.heap.size ≤ j
  off : ∀ j, s4.ownBlock = some j → ¬ F j
  bel : Below w.heap.size w wr
theorem ORd.below {w wr w' : World} {g : Nat} {ts fs : List Eop} {l : Lv} {F : Nat → Prop} {s4 : Value} (h : ORd w g ts l fs F s4 wr) (hb : Below wr.heap.size wr w') : ORd w g ts l fs F s4 w' :=
  ⟨h.el.below hb, h.own.below hb, h.sub, h.inv, h.fl, h.off, h.bel.trans (hb.mono h.bel.size)⟩
/-- Behind a call that may turn the learner, its decisions standing. -/
theorem ORd.turn {w wr w' : World} {g : Nat} {ts fs : List Eop} {l l' : Lv} {F F' : Nat → Prop} {s4 : Value} (h : ORd w g ts l fs F s4 wr) (he : EL w' F' g l') (hk : Kept F wr w') (hs : ∀ j, F' j → F j ∨ wr.heap.size ≤ j) (hD : l'.D = l.D) : ORd w g ts l' fs F' s4 w' :=
  ⟨he, h.own.keep fun j hj => hk.block j (h.own.lt j hj).2 (h.off j hj), h.sub, by rw [hD]; exact h.inv, fun j hj => (hs j hj).elim (h.fl j) (fun e => by have := h.bel.size; omega), fun j hj hf => (hs j hf).elim (h.off j hj) (fun e => by have := (h.own.lt j hj).2; omega), h.bel.trans (hk.below h.bel.size h.fl)⟩
theorem any_succ {fs : List Eop} {p : Eop → Bool} {j : Nat} (h : j < fs.length) : (fs.take (j + 1)).any p = ((fs.take j).any p || p fs[j]) := by
  rw [List.take_succ_eq_append_getElem h, List.any_append]
  simp
theorem sz_le {l : Lv} {k : Int} (hg : l.Good) (h : l.Sz k) (hn : l.next ≤ 101) : k ≤ 228 := by
  obtain ⟨ks, h1, h2, rfl⟩ := h
  have hx := hg.nx
  have := pigeon 0 228 ks h1 (fun x hx' => by
    rcases (h2 x).1 hx' with e | e
    · have := hg.vr x e
      omega
    · have := hg.dr x e
      omega)
  omega
set_option maxHeartbeats 6400000 in
set_option maxRecDepth 20000 in
theorem order_walk (Ae : Option Addr) (ne ce : Nat) (ts : List Eop) (w : World) (hE : HasE w w.heap.size Ae ts) (eE : ts.length = ne) (lE : ne ≤ 1353245080300) :
    Calls Try.prog 5 #[.slice Ae ne ce] w fun e w' => e = .returned (.bool true) ∧ Below w.heap.size w w' := by
  have HEE := hide hE
  have HNE := hide eE
  clear hE eE
  go_enter Try.func5, Try.ntmps5
  go_wp2_with fail
  refine (head15_any w).mono ?_
  rintro e w1 ⟨rfl, hb1⟩
  have hm1 : HasI (w1.alloc (.cells (icells [1, 2, 3]) 3)) (w1.heap.size + 1) (some ⟨w1.heap.size, 0, none⟩) [1, 2, 3] := HasI.new w1 3 [1, 2, 3] (0, 0) w1.heap.size rfl
  have ba1 := (Below.refl _ w1).alloc (Nat.le_refl _) (.cells (icells [1, 2, 3]) 3)
  have hic : icells [1, 2, 3] = #[.int .i64 1, .int .i64 2, .int .i64 3] := rfl
  rw [hic] at hm1 ba1
  have hz1 : (w1.alloc (.cells #[.int .i64 1, .int .i64 2, .int .i64 3] 3)).heap.size = w1.heap.size + 1 := by simp
  go_wp2_with fail
  generalize w1.alloc (.cells #[.int .i64 1, .int .i64 2, .int .i64 3] 3) = w2 at *
  refine (el_new _ 3 _ _ _ 1 w2 hm1 (by omega) rfl (by omega) right123 ⟨by omega, by omega⟩).mono ?_
  rintro e w3 ⟨g, rfl, h3, hb3⟩
  have hbe := (Below.refl _ w3).alloc (Nat.le_refl _) (.cells #[] 42)
  have hb12 := hb1.trans (ba1.mono hb1.size)
  have hb13 := hb12.trans (hb3.mono hb12.size)
  have HOR : Hid (ORd w g ts (Lv.new [1, 2, 3] 1) [] (fun j => w2.heap.size ≤ j ∧ j < w3.heap.size) (.slice (some ⟨w3.heap.size, 0, none⟩) 0 0) (w3.alloc (.cells #[] 42))) := hide
    ⟨h3.below hbe, OwnR.emptyE w3 _ _ 42 6 rfl hb13.size, fun q hq => absurd hq (by simp), fun s x => ⟨fun h => (by cases h), fun ⟨q, hq, _⟩ => absurd hq (by simp)⟩, fun j hj => Nat.le_trans hb12.size hj.1, fun j hj hf => by
      have e : w3.heap.size = j := by simpa [Value.ownBlock] using hj
      omega, hb13.trans (hbe.mono hb13.size)⟩
  clear h3 hm1 ba1 hb3 hbe hb12 hb13 hz1 hb1
  go_upto_region 7 with fail
  generalize w3.alloc (.cells #[] 42) = w4 at *
  go_wp2_with fail
  go_loopw [4, 5, 6] (fun s4 s5 s6 wr => ∃ (j : Nat) (l : Lv) (fs : List Eop) (F : Nat → Prop), j ≤ 100 ∧ s6 = .int .i64 (j : Int) ∧ s5 = .int .i64 l.next ∧ l.next ≤ (j : Int) + 1 ∧ fs.length ≤ j ∧ Hid (ORd w g ts l fs F s4 wr)) (fun _ _ s6 _ => 100 - (intOf s6).toNat)
  case atStart => exact ⟨0, Lv.new [1, 2, 3] 1, [], _, by omega, rfl, rfl, by show (1 : Int) ≤ 0 + 1; omega, by simp, HOR⟩
  case round =>
    clear HOR
    obtain ⟨j, l, fs, F, hj, rfl, rfl, hln, hfl, hor⟩ := hrel
    have hgood := hor.out.el.good
    have hnx := hgood.nx
    by_cases hgo : (j : Int) < (ne : Int) ∧ (j : Int) < 100
    · obtain ⟨hg1, hg2⟩ := hgo
      have hjl : j < ts.length := by rw [HNE.out]; omega
      obtain ⟨b, o, hA, hbb, hcc⟩ := (HEE.out.below hor.out.bel).at_ j hjl
      obtain ⟨hqv, hqS, hqN⟩ := HEE.out.val _ (List.getElem_mem hjl)
      have HQT : Hid (ts[j] ∈ ts) := hide (List.getElem_mem hjl)
      generalize ts[j] = q at *
      subst hA
      have hbx := heap_alloc_new wr (.cells #[.int .i64 q.K, .int .i64 q.Nd, .int .i64 q.S, .int .i64 q.R, .int .i64 q.Bn, .int .i64 q.vk, .slice q.A q.n q.c, .slice q.D q.m q.d, .int .i64 q.N] 50)
      have ba := (Below.refl _ wr).alloc (Nat.le_refl _) (.cells #[.int .i64 q.K, .int .i64 q.Nd, .int .i64 q.S, .int .i64 q.R, .int .i64 q.Bn, .int .i64 q.vk, .slice q.A q.n q.c, .slice q.D q.m q.d, .int .i64 q.N] 50)
      have HQS := hide hqS
      have HQM : Hid (q.m ≤ 17592186043904) := hide hqv.lm
      have HQ0 := hide hqv
      have hcc' : wr.rangeAt b (o + j * 9) q.cells := hcc
      clear hcc hqv hqS hqN
      go_upto_region 10 with (refine wpList_load_mid rfl 50 _ rfl b (o + j * 9) (by simp [Act.eval, Act.put]) [(.int .i64 q.K : Value), .int .i64 q.Nd, .int .i64 q.S, .int .i64 q.R, .int .i64 q.Bn, .int .i64 q.vk, .slice q.A q.n q.c, .slice q.D q.m q.d, .int .i64 q.N] _ hcc' Try.underlying50 rfl (by kernel_rfl) ?_)
      have HPF : Hid (¬ F wr.heap.size) := hide (fun hf => by have := hor.out.el.lt _ hf; omega)
      have HOR := hide (hor.out.below ba)
      clear hor hcc'
      generalize wr.alloc (.cells #[.int .i64 q.K, .int .i64 q.Nd, .int .i64 q.S, .int .i64 q.R, .int .i64 q.Bn, .int .i64 q.vk, .slice q.A q.n q.c, .slice q.D q.m q.d, .int .i64 q.N] 50) = w9 at *
      generalize wr.heap.size = pb at *
      have bd : Below w9.heap.size w9 w9.drew := (Below.refl _ _).drew
      have HOD := hide (HOR.out.below bd)
      have HEL := hide HOD.out.el
      have HBX : Hid (EopBox q pb w9.drew) := hide hbx
      have HQV : Hid (IsV w9.drew w9.drew.heap.size q.A q.n q.D q.m q.cs q.ns) := hide ((HQ0.out.below HOD.out.bel).more HOD.out.bel.size)
      clear ba hbx bd hbb hgood
      go_cut [70] (fun s70 wx => ∃ F', EStep w9.drew F g (ostep l q).1 F' wx ∧ s70 = .bool (ostep l q).2)
      case first =>
        by_cases hK1 : q.K = 1
        · have hk1 : (q.K == 1) = true := by rw [hK1]; rfl
          have hk0 : (q.K == 0) = false := by rw [hK1]; rfl
          have HE : Hid (ostep l q = l.told q.S q.v) := hide (if_pos hK1)
          clear hK1
          cases ht : (l.told q.S q.v).2
          · have HT := hide ht
            clear ht
            go_wp2_with fail
            refine wp_region_held_drew (S := fun W => EopBox q pb W) (by kernel_rfl) HBX.out (fun hHeld => ?_)
            refine wpAnyH_take (i := 0) (oi := _) (v := .pointer (some ⟨pb, 0, none⟩)) rfl (by kernel_rfl) (by kernel_rfl) (by kernel_rfl) (fun _ _ _ h => h) (Or.inl ⟨by rfl, fun w' hSw => by go_simp⟩) hHeld ?_
            (try simp only [Act.put, List.setIfInBounds_toArray, List.set_cons_zero, List.set_cons_succ, List.getElem_toArray, List.getElem_cons_zero, List.getElem_cons_succ])
            refine wpAnyH_take (i := 1) (oi := _) (v := .int .i64 q.K) rfl (by kernel_rfl) (by kernel_rfl) (by kernel_rfl) (fun _ _ _ h => h) (Or.inl ⟨by rfl, fun w' hSw => by obtain ⟨⟨x0, x1, x2⟩, ⟨x3, x4, x5⟩, ⟨x6, x7, x8⟩⟩ := nine_cells hSw; go_simp⟩) hHeld ?_
            (try simp only [Act.put, List.setIfInBounds_toArray, List.set_cons_zero, List.set_cons_succ, List.getElem_toArray, List.getElem_cons_zero, List.getElem_cons_succ])
            refine wpAnyH_take (i := 2) (oi := _) (v := .bool true) rfl (by kernel_rfl) (by kernel_rfl) (by kernel_rfl) (fun _ _ _ h => h) (Or.inl ⟨by rfl, fun w' hSw => by go_simp⟩) hHeld ?_
            (try simp only [Act.put, List.setIfInBounds_toArray, List.set_cons_zero, List.set_cons_succ, List.getElem_toArray, List.getElem_cons_zero, List.getElem_cons_succ])
            refine wpAnyH_take (i := 3) (oi := _) (v := .bool true) rfl (by kernel_rfl) (by kernel_rfl) (by kernel_rfl) (fun _ _ _ h => h) (Or.inl ⟨by rfl, fun w' hSw => by go_simp⟩) hHeld ?_
            (try simp only [Act.put, List.setIfInBounds_toArray, List.set_cons_zero, List.set_cons_succ, List.getElem_toArray, List.getElem_cons_zero, List.getElem_cons_succ])
            refine wpAnyH_take (i := 4) (oi := _) (v := .pointer (some ⟨g, 0, none⟩)) rfl (by kernel_rfl) (by kernel_rfl) (by kernel_rfl) (fun _ _ _ h => h) (Or.inl ⟨by rfl, fun w' hSw => by go_simp⟩) hHeld ?_
            (try simp only [Act.put, List.setIfInBounds_toArray, List.set_cons_zero, List.set_cons_succ, List.getElem_toArray, List.getElem_cons_zero, List.getElem_cons_succ])
            refine wpAnyH_take (i := 5) (oi := _) (v := .pointer (some ⟨pb, 2, none⟩)) rfl (by kernel_rfl) (by kernel_rfl) (by kernel_rfl) (fun _ _ _ h => h) (Or.inl ⟨by rfl, fun w' hSw => by go_simp⟩) hHeld ?_
            (try simp only [Act.put, List.setIfInBounds_toArray, List.set_cons_zero, List.set_cons_succ, List.getElem_toArray, List.getElem_cons_zero, List.getElem_cons_succ])
            refine wpAnyH_take (i := 6) (oi := _) (v := .pointer (some ⟨pb, 2, none⟩)) rfl (by kernel_rfl) (by kernel_rfl) (by kernel_rfl) (fun _ _ _ h => h) (Or.inl ⟨by rfl, fun w' hSw => by go_simp⟩) hHeld ?_
            (try simp only [Act.put, List.setIfInBounds_toArray, List.set_cons_zero, List.set_cons_succ, List.getElem_toArray, List.getElem_cons_zero, List.getElem_cons_succ])
            refine wpAnyH_take (i := 7) (oi := _) (v := .int .i64 q.S) rfl (by kernel_rfl) (by kernel_rfl) (by kernel_rfl) (fun _ _ _ h => h) (Or.inl ⟨by rfl, fun w' hSw => by obtain ⟨⟨x0, x1, x2⟩, ⟨x3, x4, x5⟩, ⟨x6, x7, x8⟩⟩ := nine_cells hSw; go_simp⟩) hHeld ?_
            (try simp only [Act.put, List.setIfInBounds_toArray, List.set_cons_zero, List.set_cons_succ, List.getElem_toArray, List.getElem_cons_zero, List.getElem_cons_succ])
            refine wpAnyH_take (i := 8) (oi := _) (v := .pointer (some ⟨pb, 2, none⟩)) rfl (by kernel_rfl) (by kernel_rfl) (by kernel_rfl) (fun _ _ _ h => h) (Or.inl ⟨by rfl, fun w' hSw => by go_simp⟩) hHeld ?_
            (try simp only [Act.put, List.setIfInBounds_toArray, List.set_cons_zero, List.set_cons_succ, List.getElem_toArray, List.getElem_cons_zero, List.getElem_cons_succ])
            refine wpAnyH_take (i := 9) (oi := _) (v := .pointer (some ⟨pb, 5, none⟩)) rfl (by kernel_rfl) (by kernel_rfl) (by kernel_rfl) (fun _ _ _ h => h) (Or.inl ⟨by rfl, fun w' hSw => by go_simp⟩) hHeld ?_
            (try simp only [Act.put, List.setIfInBounds_toArray, List.set_cons_zero, List.set_cons_succ, List.getElem_toArray, List.getElem_cons_zero, List.getElem_cons_succ])
            refine wpAnyH_take (i := 10) (oi := _) (v := .agg #[.int .i64 q.vk, .slice q.A q.n q.c, .slice q.D q.m q.d]) rfl (by kernel_rfl) (by kernel_rfl) (by kernel_rfl) (fun _ _ _ h => h) (Or.inl ⟨by rfl, fun w' hSw => by obtain ⟨⟨x0, x1, x2⟩, ⟨x3, x4, x5⟩, ⟨x6, x7, x8⟩⟩ := nine_cells hSw; go_simp⟩) hHeld ?_
            (try simp only [Act.put, List.setIfInBounds_toArray, List.set_cons_zero, List.set_cons_succ, List.getElem_toArray, List.getElem_cons_zero, List.getElem_cons_succ])
            refine wpAnyH_ready (rs := [11]) (by kernel_rfl) (by simp) ?_
            refine AllReadyH.cons (o := _) rfl (fun K hK => ?_) AllReadyH.nil
            simp only [List.getElem_toArray, List.getElem_cons_zero, List.getElem_cons_succ]
            go_simp
            refine (estep_copy HQV.out).mono ?_
            rintro e wc ⟨A', c', D', d', rfl, hoc, hic', hbc⟩
            have hbxc : EopBox q pb wc := (hbc.block _ (lt_of_block HBX.out)).trans HBX.out
            go_wp2_with fail
            refine hK.out _ _ hbxc (fun hHeld => ?_)
            clear hK
            (try simp only [Act.put, List.setIfInBounds_toArray, List.set_cons_zero, List.set_cons_succ, List.getElem_toArray, List.getElem_cons_zero, List.getElem_cons_succ])
            refine wpAnyH_ready (rs := [12]) (by kernel_rfl) (by simp) ?_
            refine AllReadyH.cons (o := _) rfl (fun K hK => ?_) AllReadyH.nil
            simp only [List.getElem_toArray, List.getElem_cons_zero, List.getElem_cons_succ]
            go_simp
            refine (estep_told HEL.out HQS.out HQM.out hoc hic' hbc).mono ?_
            rintro e wv ⟨rfl, F', hst⟩
            rw [HT.out]
            have hbxv : EopBox q pb wv := (hst.kept.block _ (lt_of_block HBX.out) HPF.out).trans HBX.out
            go_wp2_with fail
            refine hK.out _ _ hbxv (fun hHeld => ?_)
            clear hK
            (try simp only [Act.put, List.setIfInBounds_toArray, List.set_cons_zero, List.set_cons_succ, List.getElem_toArray, List.getElem_cons_zero, List.getElem_cons_succ])
            refine wpAnyH_take (i := 13) (oi := _) (v := .bool false) rfl (by kernel_rfl) (by kernel_rfl) (by kernel_rfl) (fun _ _ _ h => h) (Or.inl ⟨by rfl, fun w' hSw => by go_simp⟩) hHeld ?_
            (try simp only [Act.put, List.setIfInBounds_toArray, List.set_cons_zero, List.set_cons_succ, List.getElem_toArray, List.getElem_cons_zero, List.getElem_cons_succ])
            refine wpAnyH_take (i := 14) (oi := _) (v := .bool false) rfl (by kernel_rfl) (by kernel_rfl) (by kernel_rfl) (fun _ _ _ h => h) (Or.inl ⟨by rfl, fun w' hSw => by go_simp⟩) hHeld ?_
            (try simp only [Act.put, List.setIfInBounds_toArray, List.set_cons_zero, List.set_cons_succ, List.getElem_toArray, List.getElem_cons_zero, List.getElem_cons_succ])
            refine wpAnyH_take (i := 15) (oi := _) (v := .pointer (some ⟨pb, 0, none⟩)) rfl (by kernel_rfl) (by kernel_rfl) (by kernel_rfl) (fun _ _ _ h => h) (Or.inl ⟨by rfl, fun w' hSw => by go_simp⟩) hHeld ?_
            (try simp only [Act.put, List.setIfInBounds_toArray, List.set_cons_zero, List.set_cons_succ, List.getElem_toArray, List.getElem_cons_zero, List.getElem_cons_succ])
            refine wpAnyH_take (i := 16) (oi := _) (v := .int .i64 q.K) rfl (by kernel_rfl) (by kernel_rfl) (by kernel_rfl) (fun _ _ _ h => h) (Or.inl ⟨by rfl, fun w' hSw => by obtain ⟨⟨x0, x1, x2⟩, ⟨x3, x4, x5⟩, ⟨x6, x7, x8⟩⟩ := nine_cells hSw; go_simp⟩) hHeld ?_
            (try simp only [Act.put, List.setIfInBounds_toArray, List.set_cons_zero, List.set_cons_succ, List.getElem_toArray, List.getElem_cons_zero, List.getElem_cons_succ])
            refine wpAnyH_take (i := 17) (oi := _) (v := .bool false) rfl (by kernel_rfl) (by kernel_rfl) (by kernel_rfl) (fun _ _ _ h => h) (Or.inl ⟨by rfl, fun w' hSw => by go_simp⟩) hHeld ?_
            (try simp only [Act.put, List.setIfInBounds_toArray, List.set_cons_zero, List.set_cons_succ, List.getElem_toArray, List.getElem_cons_zero, List.getElem_cons_succ])
            refine wpAnyH_take (i := 18) (oi := _) (v := .bool false) rfl (by kernel_rfl) (by kernel_rfl) (by kernel_rfl) (fun _ _ _ h => h) (Or.inl ⟨by rfl, fun w' hSw => by go_simp⟩) hHeld ?_
            (try simp only [Act.put, List.setIfInBounds_toArray, List.set_cons_zero, List.set_cons_succ, List.getElem_toArray, List.getElem_cons_zero, List.getElem_cons_succ])
            refine wpAnyH_take (i := 19) (oi := _) (v := undef) rfl (by kernel_rfl) (by kernel_rfl) (by kernel_rfl) (fun _ _ _ h => h) (Or.inr ⟨by rfl, rfl⟩) hHeld ?_
            (try simp only [Act.put, List.setIfInBounds_toArray, List.set_cons_zero, List.set_cons_succ, List.getElem_toArray, List.getElem_cons_zero, List.getElem_cons_succ])
            refine wpAnyH_take (i := 20) (oi := _) (v := undef) rfl (by kernel_rfl) (by kernel_rfl) (by kernel_rfl) (fun _ _ _ h => h) (Or.inr ⟨by rfl, rfl⟩) hHeld ?_
            (try simp only [Act.put, List.setIfInBounds_toArray, List.set_cons_zero, List.set_cons_succ, List.getElem_toArray, List.getElem_cons_zero, List.getElem_cons_succ])
            refine wpAnyH_take (i := 21) (oi := _) (v := undef) rfl (by kernel_rfl) (by kernel_rfl) (by kernel_rfl) (fun _ _ _ h => h) (Or.inr ⟨by rfl, rfl⟩) hHeld ?_
            (try simp only [Act.put, List.setIfInBounds_toArray, List.set_cons_zero, List.set_cons_succ, List.getElem_toArray, List.getElem_cons_zero, List.getElem_cons_succ])
            refine wpAnyH_take (i := 22) (oi := _) (v := undef) rfl (by kernel_rfl) (by kernel_rfl) (by kernel_rfl) (fun _ _ _ h => h) (Or.inr ⟨by rfl, rfl⟩) hHeld ?_
            (try simp only [Act.put, List.setIfInBounds_toArray, List.set_cons_zero, List.set_cons_succ, List.getElem_toArray, List.getElem_cons_zero, List.getElem_cons_succ])
            refine wpAnyH_take (i := 23) (oi := _) (v := undef) rfl (by kernel_rfl) (by kernel_rfl) (by kernel_rfl) (fun _ _ _ h => h) (Or.inr ⟨by rfl, rfl⟩) hHeld ?_
            (try simp only [Act.put, List.setIfInBounds_toArray, List.set_cons_zero, List.set_cons_succ, List.getElem_toArray, List.getElem_cons_zero, List.getElem_cons_succ])
            refine wpAnyH_take (i := 24) (oi := _) (v := undef) rfl (by kernel_rfl) (by kernel_rfl) (by kernel_rfl) (fun _ _ _ h => h) (Or.inr ⟨by rfl, rfl⟩) hHeld ?_
            (try simp only [Act.put, List.setIfInBounds_toArray, List.set_cons_zero, List.set_cons_succ, List.getElem_toArray, List.getElem_cons_zero, List.getElem_cons_succ])
            refine wpAnyH_take (i := 25) (oi := _) (v := undef) rfl (by kernel_rfl) (by kernel_rfl) (by kernel_rfl) (fun _ _ _ h => h) (Or.inr ⟨by rfl, rfl⟩) hHeld ?_
            (try simp only [Act.put, List.setIfInBounds_toArray, List.set_cons_zero, List.set_cons_succ, List.getElem_toArray, List.getElem_cons_zero, List.getElem_cons_succ])
            refine wpAnyH_take (i := 26) (oi := _) (v := undef) rfl (by kernel_rfl) (by kernel_rfl) (by kernel_rfl) (fun _ _ _ h => h) (Or.inr ⟨by rfl, rfl⟩) hHeld ?_
            (try simp only [Act.put, List.setIfInBounds_toArray, List.set_cons_zero, List.set_cons_succ, List.getElem_toArray, List.getElem_cons_zero, List.getElem_cons_succ])
            refine wpAnyH_take (i := 27) (oi := _) (v := undef) rfl (by kernel_rfl) (by kernel_rfl) (by kernel_rfl) (fun _ _ _ h => h) (Or.inr ⟨by rfl, rfl⟩) hHeld ?_
            (try simp only [Act.put, List.setIfInBounds_toArray, List.set_cons_zero, List.set_cons_succ, List.getElem_toArray, List.getElem_cons_zero, List.getElem_cons_succ])
            refine wpAnyH_take (i := 28) (oi := _) (v := undef) rfl (by kernel_rfl) (by kernel_rfl) (by kernel_rfl) (fun _ _ _ h => h) (Or.inr ⟨by rfl, rfl⟩) hHeld ?_
            (try simp only [Act.put, List.setIfInBounds_toArray, List.set_cons_zero, List.set_cons_succ, List.getElem_toArray, List.getElem_cons_zero, List.getElem_cons_succ])
            refine wpAnyH_take (i := 29) (oi := _) (v := undef) rfl (by kernel_rfl) (by kernel_rfl) (by kernel_rfl) (fun _ _ _ h => h) (Or.inr ⟨by rfl, rfl⟩) hHeld ?_
            (try simp only [Act.put, List.setIfInBounds_toArray, List.set_cons_zero, List.set_cons_succ, List.getElem_toArray, List.getElem_cons_zero, List.getElem_cons_succ])
            refine wpAnyH_take (i := 30) (oi := _) (v := undef) rfl (by kernel_rfl) (by kernel_rfl) (by kernel_rfl) (fun _ _ _ h => h) (Or.inr ⟨by rfl, rfl⟩) hHeld ?_
            (try simp only [Act.put, List.setIfInBounds_toArray, List.set_cons_zero, List.set_cons_succ, List.getElem_toArray, List.getElem_cons_zero, List.getElem_cons_succ])
            refine wpAnyH_take (i := 31) (oi := _) (v := undef) rfl (by kernel_rfl) (by kernel_rfl) (by kernel_rfl) (fun _ _ _ h => h) (Or.inr ⟨by rfl, rfl⟩) hHeld ?_
            (try simp only [Act.put, List.setIfInBounds_toArray, List.set_cons_zero, List.set_cons_succ, List.getElem_toArray, List.getElem_cons_zero, List.getElem_cons_succ])
            refine wpAnyH_take (i := 32) (oi := _) (v := undef) rfl (by kernel_rfl) (by kernel_rfl) (by kernel_rfl) (fun _ _ _ h => h) (Or.inr ⟨by rfl, rfl⟩) hHeld ?_
            (try simp only [Act.put, List.setIfInBounds_toArray, List.set_cons_zero, List.set_cons_succ, List.getElem_toArray, List.getElem_cons_zero, List.getElem_cons_succ])
            refine wpAnyH_take (i := 33) (oi := _) (v := undef) rfl (by kernel_rfl) (by kernel_rfl) (by kernel_rfl) (fun _ _ _ h => h) (Or.inr ⟨by rfl, rfl⟩) hHeld ?_
            (try simp only [Act.put, List.setIfInBounds_toArray, List.set_cons_zero, List.set_cons_succ, List.getElem_toArray, List.getElem_cons_zero, List.getElem_cons_succ])
            refine wpAnyH_take (i := 34) (oi := _) (v := .bool false) rfl (by kernel_rfl) (by kernel_rfl) (by kernel_rfl) (fun _ _ _ h => h) (Or.inl ⟨by rfl, fun w' hSw => by go_simp⟩) hHeld ?_
            (try simp only [Act.put, List.setIfInBounds_toArray, List.set_cons_zero, List.set_cons_succ, List.getElem_toArray, List.getElem_cons_zero, List.getElem_cons_succ])
            refine wpAnyH_take (i := 35) (oi := _) (v := .bool false) rfl (by kernel_rfl) (by kernel_rfl) (by kernel_rfl) (fun _ _ _ h => h) (Or.inl ⟨by rfl, fun w' hSw => by go_simp⟩) hHeld ?_
            (try simp only [Act.put, List.setIfInBounds_toArray, List.set_cons_zero, List.set_cons_succ, List.getElem_toArray, List.getElem_cons_zero, List.getElem_cons_succ])
            refine wpAnyH_done (by kernel_rfl) ?_ _
            go_wp2_with fail
            go_meet
            exact ⟨F', by rw [HE.out]; exact hst, by rw [HE.out, HT.out]⟩
          · have HT := hide ht
            clear ht
            go_wp2_with fail
            refine wp_region_held_drew (S := fun W => EopBox q pb W) (by kernel_rfl) HBX.out (fun hHeld => ?_)
            refine wpAnyH_take (i := 0) (oi := _) (v := .pointer (some ⟨pb, 0, none⟩)) rfl (by kernel_rfl) (by kernel_rfl) (by kernel_rfl) (fun _ _ _ h => h) (Or.inl ⟨by rfl, fun w' hSw => by go_simp⟩) hHeld ?_
            (try simp only [Act.put, List.setIfInBounds_toArray, List.set_cons_zero, List.set_cons_succ, List.getElem_toArray, List.getElem_cons_zero, List.getElem_cons_succ])
            refine wpAnyH_take (i := 1) (oi := _) (v := .int .i64 q.K) rfl (by kernel_rfl) (by kernel_rfl) (by kernel_rfl) (fun _ _ _ h => h) (Or.inl ⟨by rfl, fun w' hSw => by obtain ⟨⟨x0, x1, x2⟩, ⟨x3, x4, x5⟩, ⟨x6, x7, x8⟩⟩ := nine_cells hSw; go_simp⟩) hHeld ?_
            (try simp only [Act.put, List.setIfInBounds_toArray, List.set_cons_zero, List.set_cons_succ, List.getElem_toArray, List.getElem_cons_zero, List.getElem_cons_succ])
            refine wpAnyH_take (i := 2) (oi := _) (v := .bool true) rfl (by kernel_rfl) (by kernel_rfl) (by kernel_rfl) (fun _ _ _ h => h) (Or.inl ⟨by rfl, fun w' hSw => by go_simp⟩) hHeld ?_
            (try simp only [Act.put, List.setIfInBounds_toArray, List.set_cons_zero, List.set_cons_succ, List.getElem_toArray, List.getElem_cons_zero, List.getElem_cons_succ])
            refine wpAnyH_take (i := 3) (oi := _) (v := .bool true) rfl (by kernel_rfl) (by kernel_rfl) (by kernel_rfl) (fun _ _ _ h => h) (Or.inl ⟨by rfl, fun w' hSw => by go_simp⟩) hHeld ?_
            (try simp only [Act.put, List.setIfInBounds_toArray, List.set_cons_zero, List.set_cons_succ, List.getElem_toArray, List.getElem_cons_zero, List.getElem_cons_succ])
            refine wpAnyH_take (i := 4) (oi := _) (v := .pointer (some ⟨g, 0, none⟩)) rfl (by kernel_rfl) (by kernel_rfl) (by kernel_rfl) (fun _ _ _ h => h) (Or.inl ⟨by rfl, fun w' hSw => by go_simp⟩) hHeld ?_
            (try simp only [Act.put, List.setIfInBounds_toArray, List.set_cons_zero, List.set_cons_succ, List.getElem_toArray, List.getElem_cons_zero, List.getElem_cons_succ])
            refine wpAnyH_take (i := 5) (oi := _) (v := .pointer (some ⟨pb, 2, none⟩)) rfl (by kernel_rfl) (by kernel_rfl) (by kernel_rfl) (fun _ _ _ h => h) (Or.inl ⟨by rfl, fun w' hSw => by go_simp⟩) hHeld ?_
            (try simp only [Act.put, List.setIfInBounds_toArray, List.set_cons_zero, List.set_cons_succ, List.getElem_toArray, List.getElem_cons_zero, List.getElem_cons_succ])
            refine wpAnyH_take (i := 6) (oi := _) (v := .pointer (some ⟨pb, 2, none⟩)) rfl (by kernel_rfl) (by kernel_rfl) (by kernel_rfl) (fun _ _ _ h => h) (Or.inl ⟨by rfl, fun w' hSw => by go_simp⟩) hHeld ?_
            (try simp only [Act.put, List.setIfInBounds_toArray, List.set_cons_zero, List.set_cons_succ, List.getElem_toArray, List.getElem_cons_zero, List.getElem_cons_succ])
            refine wpAnyH_take (i := 7) (oi := _) (v := .int .i64 q.S) rfl (by kernel_rfl) (by kernel_rfl) (by kernel_rfl) (fun _ _ _ h => h) (Or.inl ⟨by rfl, fun w' hSw => by obtain ⟨⟨x0, x1, x2⟩, ⟨x3, x4, x5⟩, ⟨x6, x7, x8⟩⟩ := nine_cells hSw; go_simp⟩) hHeld ?_
            (try simp only [Act.put, List.setIfInBounds_toArray, List.set_cons_zero, List.set_cons_succ, List.getElem_toArray, List.getElem_cons_zero, List.getElem_cons_succ])
            refine wpAnyH_take (i := 8) (oi := _) (v := .pointer (some ⟨pb, 2, none⟩)) rfl (by kernel_rfl) (by kernel_rfl) (by kernel_rfl) (fun _ _ _ h => h) (Or.inl ⟨by rfl, fun w' hSw => by go_simp⟩) hHeld ?_
            (try simp only [Act.put, List.setIfInBounds_toArray, List.set_cons_zero, List.set_cons_succ, List.getElem_toArray, List.getElem_cons_zero, List.getElem_cons_succ])
            refine wpAnyH_take (i := 9) (oi := _) (v := .pointer (some ⟨pb, 5, none⟩)) rfl (by kernel_rfl) (by kernel_rfl) (by kernel_rfl) (fun _ _ _ h => h) (Or.inl ⟨by rfl, fun w' hSw => by go_simp⟩) hHeld ?_
            (try simp only [Act.put, List.setIfInBounds_toArray, List.set_cons_zero, List.set_cons_succ, List.getElem_toArray, List.getElem_cons_zero, List.getElem_cons_succ])
            refine wpAnyH_take (i := 10) (oi := _) (v := .agg #[.int .i64 q.vk, .slice q.A q.n q.c, .slice q.D q.m q.d]) rfl (by kernel_rfl) (by kernel_rfl) (by kernel_rfl) (fun _ _ _ h => h) (Or.inl ⟨by rfl, fun w' hSw => by obtain ⟨⟨x0, x1, x2⟩, ⟨x3, x4, x5⟩, ⟨x6, x7, x8⟩⟩ := nine_cells hSw; go_simp⟩) hHeld ?_
            (try simp only [Act.put, List.setIfInBounds_toArray, List.set_cons_zero, List.set_cons_succ, List.getElem_toArray, List.getElem_cons_zero, List.getElem_cons_succ])
            refine wpAnyH_ready (rs := [11]) (by kernel_rfl) (by simp) ?_
            refine AllReadyH.cons (o := _) rfl (fun K hK => ?_) AllReadyH.nil
            simp only [List.getElem_toArray, List.getElem_cons_zero, List.getElem_cons_succ]
            go_simp
            refine (estep_copy HQV.out).mono ?_
            rintro e wc ⟨A', c', D', d', rfl, hoc, hic', hbc⟩
            have hbxc : EopBox q pb wc := (hbc.block _ (lt_of_block HBX.out)).trans HBX.out
            go_wp2_with fail
            refine hK.out _ _ hbxc (fun hHeld => ?_)
            clear hK
            (try simp only [Act.put, List.setIfInBounds_toArray, List.set_cons_zero, List.set_cons_succ, List.getElem_toArray, List.getElem_cons_zero, List.getElem_cons_succ])
            refine wpAnyH_ready (rs := [12]) (by kernel_rfl) (by simp) ?_
            refine AllReadyH.cons (o := _) rfl (fun K hK => ?_) AllReadyH.nil
            simp only [List.getElem_toArray, List.getElem_cons_zero, List.getElem_cons_succ]
            go_simp
            refine (estep_told HEL.out HQS.out HQM.out hoc hic' hbc).mono ?_
            rintro e wv ⟨rfl, F', hst⟩
            rw [HT.out]
            have hbxv : EopBox q pb wv := (hst.kept.block _ (lt_of_block HBX.out) HPF.out).trans HBX.out
            go_wp2_with fail
            refine hK.out _ _ hbxv (fun hHeld => ?_)
            clear hK
            (try simp only [Act.put, List.setIfInBounds_toArray, List.set_cons_zero, List.set_cons_succ, List.getElem_toArray, List.getElem_cons_zero, List.getElem_cons_succ])
            refine wpAnyH_take (i := 13) (oi := _) (v := .bool true) rfl (by kernel_rfl) (by kernel_rfl) (by kernel_rfl) (fun _ _ _ h => h) (Or.inl ⟨by rfl, fun w' hSw => by go_simp⟩) hHeld ?_
            (try simp only [Act.put, List.setIfInBounds_toArray, List.set_cons_zero, List.set_cons_succ, List.getElem_toArray, List.getElem_cons_zero, List.getElem_cons_succ])
            refine wpAnyH_take (i := 14) (oi := _) (v := .bool true) rfl (by kernel_rfl) (by kernel_rfl) (by kernel_rfl) (fun _ _ _ h => h) (Or.inl ⟨by rfl, fun w' hSw => by go_simp⟩) hHeld ?_
            (try simp only [Act.put, List.setIfInBounds_toArray, List.set_cons_zero, List.set_cons_succ, List.getElem_toArray, List.getElem_cons_zero, List.getElem_cons_succ])
            refine wpAnyH_take (i := 15) (oi := _) (v := undef) rfl (by kernel_rfl) (by kernel_rfl) (by kernel_rfl) (fun _ _ _ h => h) (Or.inr ⟨by rfl, rfl⟩) hHeld ?_
            (try simp only [Act.put, List.setIfInBounds_toArray, List.set_cons_zero, List.set_cons_succ, List.getElem_toArray, List.getElem_cons_zero, List.getElem_cons_succ])
            refine wpAnyH_take (i := 16) (oi := _) (v := undef) rfl (by kernel_rfl) (by kernel_rfl) (by kernel_rfl) (fun _ _ _ h => h) (Or.inr ⟨by rfl, rfl⟩) hHeld ?_
            (try simp only [Act.put, List.setIfInBounds_toArray, List.set_cons_zero, List.set_cons_succ, List.getElem_toArray, List.getElem_cons_zero, List.getElem_cons_succ])
            refine wpAnyH_take (i := 17) (oi := _) (v := undef) rfl (by kernel_rfl) (by kernel_rfl) (by kernel_rfl) (fun _ _ _ h => h) (Or.inr ⟨by rfl, rfl⟩) hHeld ?_
            (try simp only [Act.put, List.setIfInBounds_toArray, List.set_cons_zero, List.set_cons_succ, List.getElem_toArray, List.getElem_cons_zero, List.getElem_cons_succ])
            refine wpAnyH_take (i := 18) (oi := _) (v := undef) rfl (by kernel_rfl) (by kernel_rfl) (by kernel_rfl) (fun _ _ _ h => h) (Or.inr ⟨by rfl, rfl⟩) hHeld ?_
            (try simp only [Act.put, List.setIfInBounds_toArray, List.set_cons_zero, List.set_cons_succ, List.getElem_toArray, List.getElem_cons_zero, List.getElem_cons_succ])
            refine wpAnyH_take (i := 19) (oi := _) (v := undef) rfl (by kernel_rfl) (by kernel_rfl) (by kernel_rfl) (fun _ _ _ h => h) (Or.inr ⟨by rfl, rfl⟩) hHeld ?_
            (try simp only [Act.put, List.setIfInBounds_toArray, List.set_cons_zero, List.set_cons_succ, List.getElem_toArray, List.getElem_cons_zero, List.getElem_cons_succ])
            refine wpAnyH_take (i := 20) (oi := _) (v := undef) rfl (by kernel_rfl) (by kernel_rfl) (by kernel_rfl) (fun _ _ _ h => h) (Or.inr ⟨by rfl, rfl⟩) hHeld ?_
            (try simp only [Act.put, List.setIfInBounds_toArray, List.set_cons_zero, List.set_cons_succ, List.getElem_toArray, List.getElem_cons_zero, List.getElem_cons_succ])
            refine wpAnyH_take (i := 21) (oi := _) (v := undef) rfl (by kernel_rfl) (by kernel_rfl) (by kernel_rfl) (fun _ _ _ h => h) (Or.inr ⟨by rfl, rfl⟩) hHeld ?_
            (try simp only [Act.put, List.setIfInBounds_toArray, List.set_cons_zero, List.set_cons_succ, List.getElem_toArray, List.getElem_cons_zero, List.getElem_cons_succ])
            refine wpAnyH_take (i := 22) (oi := _) (v := undef) rfl (by kernel_rfl) (by kernel_rfl) (by kernel_rfl) (fun _ _ _ h => h) (Or.inr ⟨by rfl, rfl⟩) hHeld ?_
            (try simp only [Act.put, List.setIfInBounds_toArray, List.set_cons_zero, List.set_cons_succ, List.getElem_toArray, List.getElem_cons_zero, List.getElem_cons_succ])
            refine wpAnyH_take (i := 23) (oi := _) (v := undef) rfl (by kernel_rfl) (by kernel_rfl) (by kernel_rfl) (fun _ _ _ h => h) (Or.inr ⟨by rfl, rfl⟩) hHeld ?_
            (try simp only [Act.put, List.setIfInBounds_toArray, List.set_cons_zero, List.set_cons_succ, List.getElem_toArray, List.getElem_cons_zero, List.getElem_cons_succ])
            refine wpAnyH_take (i := 24) (oi := _) (v := undef) rfl (by kernel_rfl) (by kernel_rfl) (by kernel_rfl) (fun _ _ _ h => h) (Or.inr ⟨by rfl, rfl⟩) hHeld ?_
            (try simp only [Act.put, List.setIfInBounds_toArray, List.set_cons_zero, List.set_cons_succ, List.getElem_toArray, List.getElem_cons_zero, List.getElem_cons_succ])
            refine wpAnyH_take (i := 25) (oi := _) (v := undef) rfl (by kernel_rfl) (by kernel_rfl) (by kernel_rfl) (fun _ _ _ h => h) (Or.inr ⟨by rfl, rfl⟩) hHeld ?_
            (try simp only [Act.put, List.setIfInBounds_toArray, List.set_cons_zero, List.set_cons_succ, List.getElem_toArray, List.getElem_cons_zero, List.getElem_cons_succ])
            refine wpAnyH_take (i := 26) (oi := _) (v := undef) rfl (by kernel_rfl) (by kernel_rfl) (by kernel_rfl) (fun _ _ _ h => h) (Or.inr ⟨by rfl, rfl⟩) hHeld ?_
            (try simp only [Act.put, List.setIfInBounds_toArray, List.set_cons_zero, List.set_cons_succ, List.getElem_toArray, List.getElem_cons_zero, List.getElem_cons_succ])
            refine wpAnyH_take (i := 27) (oi := _) (v := undef) rfl (by kernel_rfl) (by kernel_rfl) (by kernel_rfl) (fun _ _ _ h => h) (Or.inr ⟨by rfl, rfl⟩) hHeld ?_
            (try simp only [Act.put, List.setIfInBounds_toArray, List.set_cons_zero, List.set_cons_succ, List.getElem_toArray, List.getElem_cons_zero, List.getElem_cons_succ])
            refine wpAnyH_take (i := 28) (oi := _) (v := undef) rfl (by kernel_rfl) (by kernel_rfl) (by kernel_rfl) (fun _ _ _ h => h) (Or.inr ⟨by rfl, rfl⟩) hHeld ?_
            (try simp only [Act.put, List.setIfInBounds_toArray, List.set_cons_zero, List.set_cons_succ, List.getElem_toArray, List.getElem_cons_zero, List.getElem_cons_succ])
            refine wpAnyH_take (i := 29) (oi := _) (v := undef) rfl (by kernel_rfl) (by kernel_rfl) (by kernel_rfl) (fun _ _ _ h => h) (Or.inr ⟨by rfl, rfl⟩) hHeld ?_
            (try simp only [Act.put, List.setIfInBounds_toArray, List.set_cons_zero, List.set_cons_succ, List.getElem_toArray, List.getElem_cons_zero, List.getElem_cons_succ])
            refine wpAnyH_take (i := 30) (oi := _) (v := undef) rfl (by kernel_rfl) (by kernel_rfl) (by kernel_rfl) (fun _ _ _ h => h) (Or.inr ⟨by rfl, rfl⟩) hHeld ?_
            (try simp only [Act.put, List.setIfInBounds_toArray, List.set_cons_zero, List.set_cons_succ, List.getElem_toArray, List.getElem_cons_zero, List.getElem_cons_succ])
            refine wpAnyH_take (i := 31) (oi := _) (v := undef) rfl (by kernel_rfl) (by kernel_rfl) (by kernel_rfl) (fun _ _ _ h => h) (Or.inr ⟨by rfl, rfl⟩) hHeld ?_
            (try simp only [Act.put, List.setIfInBounds_toArray, List.set_cons_zero, List.set_cons_succ, List.getElem_toArray, List.getElem_cons_zero, List.getElem_cons_succ])
            refine wpAnyH_take (i := 32) (oi := _) (v := undef) rfl (by kernel_rfl) (by kernel_rfl) (by kernel_rfl) (fun _ _ _ h => h) (Or.inr ⟨by rfl, rfl⟩) hHeld ?_
            (try simp only [Act.put, List.setIfInBounds_toArray, List.set_cons_zero, List.set_cons_succ, List.getElem_toArray, List.getElem_cons_zero, List.getElem_cons_succ])
            refine wpAnyH_take (i := 33) (oi := _) (v := undef) rfl (by kernel_rfl) (by kernel_rfl) (by kernel_rfl) (fun _ _ _ h => h) (Or.inr ⟨by rfl, rfl⟩) hHeld ?_
            (try simp only [Act.put, List.setIfInBounds_toArray, List.set_cons_zero, List.set_cons_succ, List.getElem_toArray, List.getElem_cons_zero, List.getElem_cons_succ])
            refine wpAnyH_take (i := 34) (oi := _) (v := undef) rfl (by kernel_rfl) (by kernel_rfl) (by kernel_rfl) (fun _ _ _ h => h) (Or.inr ⟨by rfl, rfl⟩) hHeld ?_
            (try simp only [Act.put, List.setIfInBounds_toArray, List.set_cons_zero, List.set_cons_succ, List.getElem_toArray, List.getElem_cons_zero, List.getElem_cons_succ])
            refine wpAnyH_take (i := 35) (oi := _) (v := .bool true) rfl (by kernel_rfl) (by kernel_rfl) (by kernel_rfl) (fun _ _ _ h => h) (Or.inl ⟨by rfl, fun w' hSw => by go_simp⟩) hHeld ?_
            (try simp only [Act.put, List.setIfInBounds_toArray, List.set_cons_zero, List.set_cons_succ, List.getElem_toArray, List.getElem_cons_zero, List.getElem_cons_succ])
            refine wpAnyH_done (by kernel_rfl) ?_ _
            go_wp2_with fail
            go_meet
            exact ⟨F', by rw [HE.out]; exact hst, by rw [HE.out, HT.out]⟩
        · have hk1 : (q.K == 1) = false := beq_eq_false_iff_ne.2 hK1
          by_cases hK0 : q.K = 0
          · have hk0 : (q.K == 0) = true := by rw [hK0]; rfl
            have HE : Hid (ostep l q = l.voted q.Nd ⟨q.S, q.R, q.Bn, q.v⟩) := hide (by unfold ostep; rw [if_neg hK1, if_pos hK0])
            clear hK1 hK0
            obtain ⟨t, ht⟩ : ∃ t, t = (l.voted q.Nd ⟨q.S, q.R, q.Bn, q.v⟩).2 := ⟨_, rfl⟩
            have HT : Hid ((l.voted q.Nd ⟨q.S, q.R, q.Bn, q.v⟩).2 = t) := hide ht.symm
            clear ht
            go_wp2_with fail
            refine wp_region_held_drew (S := fun W => EopBox q pb W) (by kernel_rfl) HBX.out (fun hHeld => ?_)
            refine wpAnyH_take (i := 0) (oi := _) (v := .pointer (some ⟨pb, 0, none⟩)) rfl (by kernel_rfl) (by kernel_rfl) (by kernel_rfl) (fun _ _ _ h => h) (Or.inl ⟨by rfl, fun w' hSw => by go_simp⟩) hHeld ?_
            (try simp only [Act.put, List.setIfInBounds_toArray, List.set_cons_zero, List.set_cons_succ, List.getElem_toArray, List.getElem_cons_zero, List.getElem_cons_succ])
            refine wpAnyH_take (i := 1) (oi := _) (v := .int .i64 q.K) rfl (by kernel_rfl) (by kernel_rfl) (by kernel_rfl) (fun _ _ _ h => h) (Or.inl ⟨by rfl, fun w' hSw => by obtain ⟨⟨x0, x1, x2⟩, ⟨x3, x4, x5⟩, ⟨x6, x7, x8⟩⟩ := nine_cells hSw; go_simp⟩) hHeld ?_
            (try simp only [Act.put, List.setIfInBounds_toArray, List.set_cons_zero, List.set_cons_succ, List.getElem_toArray, List.getElem_cons_zero, List.getElem_cons_succ])
            refine wpAnyH_take (i := 2) (oi := _) (v := .bool false) rfl (by kernel_rfl) (by kernel_rfl) (by kernel_rfl) (fun _ _ _ h => h) (Or.inl ⟨by rfl, fun w' hSw => by go_simp⟩) hHeld ?_
            (try simp only [Act.put, List.setIfInBounds_toArray, List.set_cons_zero, List.set_cons_succ, List.getElem_toArray, List.getElem_cons_zero, List.getElem_cons_succ])
            refine wpAnyH_take (i := 3) (oi := _) (v := .bool false) rfl (by kernel_rfl) (by kernel_rfl) (by kernel_rfl) (fun _ _ _ h => h) (Or.inl ⟨by rfl, fun w' hSw => by go_simp⟩) hHeld ?_
            (try simp only [Act.put, List.setIfInBounds_toArray, List.set_cons_zero, List.set_cons_succ, List.getElem_toArray, List.getElem_cons_zero, List.getElem_cons_succ])
            refine wpAnyH_take (i := 4) (oi := _) (v := undef) rfl (by kernel_rfl) (by kernel_rfl) (by kernel_rfl) (fun _ _ _ h => h) (Or.inr ⟨by rfl, rfl⟩) hHeld ?_
            (try simp only [Act.put, List.setIfInBounds_toArray, List.set_cons_zero, List.set_cons_succ, List.getElem_toArray, List.getElem_cons_zero, List.getElem_cons_succ])
            refine wpAnyH_take (i := 5) (oi := _) (v := undef) rfl (by kernel_rfl) (by kernel_rfl) (by kernel_rfl) (fun _ _ _ h => h) (Or.inr ⟨by rfl, rfl⟩) hHeld ?_
            (try simp only [Act.put, List.setIfInBounds_toArray, List.set_cons_zero, List.set_cons_succ, List.getElem_toArray, List.getElem_cons_zero, List.getElem_cons_succ])
            refine wpAnyH_take (i := 6) (oi := _) (v := undef) rfl (by kernel_rfl) (by kernel_rfl) (by kernel_rfl) (fun _ _ _ h => h) (Or.inr ⟨by rfl, rfl⟩) hHeld ?_
            (try simp only [Act.put, List.setIfInBounds_toArray, List.set_cons_zero, List.set_cons_succ, List.getElem_toArray, List.getElem_cons_zero, List.getElem_cons_succ])
            refine wpAnyH_take (i := 7) (oi := _) (v := undef) rfl (by kernel_rfl) (by kernel_rfl) (by kernel_rfl) (fun _ _ _ h => h) (Or.inr ⟨by rfl, rfl⟩) hHeld ?_
            (try simp only [Act.put, List.setIfInBounds_toArray, List.set_cons_zero, List.set_cons_succ, List.getElem_toArray, List.getElem_cons_zero, List.getElem_cons_succ])
            refine wpAnyH_take (i := 8) (oi := _) (v := undef) rfl (by kernel_rfl) (by kernel_rfl) (by kernel_rfl) (fun _ _ _ h => h) (Or.inr ⟨by rfl, rfl⟩) hHeld ?_
            (try simp only [Act.put, List.setIfInBounds_toArray, List.set_cons_zero, List.set_cons_succ, List.getElem_toArray, List.getElem_cons_zero, List.getElem_cons_succ])
            refine wpAnyH_take (i := 9) (oi := _) (v := undef) rfl (by kernel_rfl) (by kernel_rfl) (by kernel_rfl) (fun _ _ _ h => h) (Or.inr ⟨by rfl, rfl⟩) hHeld ?_
            (try simp only [Act.put, List.setIfInBounds_toArray, List.set_cons_zero, List.set_cons_succ, List.getElem_toArray, List.getElem_cons_zero, List.getElem_cons_succ])
            refine wpAnyH_take (i := 10) (oi := _) (v := undef) rfl (by kernel_rfl) (by kernel_rfl) (by kernel_rfl) (fun _ _ _ h => h) (Or.inr ⟨by rfl, rfl⟩) hHeld ?_
            (try simp only [Act.put, List.setIfInBounds_toArray, List.set_cons_zero, List.set_cons_succ, List.getElem_toArray, List.getElem_cons_zero, List.getElem_cons_succ])
            refine wpAnyH_take (i := 11) (oi := _) (v := undef) rfl (by kernel_rfl) (by kernel_rfl) (by kernel_rfl) (fun _ _ _ h => h) (Or.inr ⟨by rfl, rfl⟩) hHeld ?_
            (try simp only [Act.put, List.setIfInBounds_toArray, List.set_cons_zero, List.set_cons_succ, List.getElem_toArray, List.getElem_cons_zero, List.getElem_cons_succ])
            refine wpAnyH_take (i := 12) (oi := _) (v := undef) rfl (by kernel_rfl) (by kernel_rfl) (by kernel_rfl) (fun _ _ _ h => h) (Or.inr ⟨by rfl, rfl⟩) hHeld ?_
            (try simp only [Act.put, List.setIfInBounds_toArray, List.set_cons_zero, List.set_cons_succ, List.getElem_toArray, List.getElem_cons_zero, List.getElem_cons_succ])
            refine wpAnyH_take (i := 13) (oi := _) (v := .bool false) rfl (by kernel_rfl) (by kernel_rfl) (by kernel_rfl) (fun _ _ _ h => h) (Or.inl ⟨by rfl, fun w' hSw => by go_simp⟩) hHeld ?_
            (try simp only [Act.put, List.setIfInBounds_toArray, List.set_cons_zero, List.set_cons_succ, List.getElem_toArray, List.getElem_cons_zero, List.getElem_cons_succ])
            refine wpAnyH_take (i := 14) (oi := _) (v := .bool false) rfl (by kernel_rfl) (by kernel_rfl) (by kernel_rfl) (fun _ _ _ h => h) (Or.inl ⟨by rfl, fun w' hSw => by go_simp⟩) hHeld ?_
            (try simp only [Act.put, List.setIfInBounds_toArray, List.set_cons_zero, List.set_cons_succ, List.getElem_toArray, List.getElem_cons_zero, List.getElem_cons_succ])
            refine wpAnyH_take (i := 15) (oi := _) (v := .pointer (some ⟨pb, 0, none⟩)) rfl (by kernel_rfl) (by kernel_rfl) (by kernel_rfl) (fun _ _ _ h => h) (Or.inl ⟨by rfl, fun w' hSw => by go_simp⟩) hHeld ?_
            (try simp only [Act.put, List.setIfInBounds_toArray, List.set_cons_zero, List.set_cons_succ, List.getElem_toArray, List.getElem_cons_zero, List.getElem_cons_succ])
            refine wpAnyH_take (i := 16) (oi := _) (v := .int .i64 q.K) rfl (by kernel_rfl) (by kernel_rfl) (by kernel_rfl) (fun _ _ _ h => h) (Or.inl ⟨by rfl, fun w' hSw => by obtain ⟨⟨x0, x1, x2⟩, ⟨x3, x4, x5⟩, ⟨x6, x7, x8⟩⟩ := nine_cells hSw; go_simp⟩) hHeld ?_
            (try simp only [Act.put, List.setIfInBounds_toArray, List.set_cons_zero, List.set_cons_succ, List.getElem_toArray, List.getElem_cons_zero, List.getElem_cons_succ])
            refine wpAnyH_take (i := 17) (oi := _) (v := .bool true) rfl (by kernel_rfl) (by kernel_rfl) (by kernel_rfl) (fun _ _ _ h => h) (Or.inl ⟨by rfl, fun w' hSw => by go_simp⟩) hHeld ?_
            (try simp only [Act.put, List.setIfInBounds_toArray, List.set_cons_zero, List.set_cons_succ, List.getElem_toArray, List.getElem_cons_zero, List.getElem_cons_succ])
            refine wpAnyH_take (i := 18) (oi := _) (v := .bool true) rfl (by kernel_rfl) (by kernel_rfl) (by kernel_rfl) (fun _ _ _ h => h) (Or.inl ⟨by rfl, fun w' hSw => by go_simp⟩) hHeld ?_
            (try simp only [Act.put, List.setIfInBounds_toArray, List.set_cons_zero, List.set_cons_succ, List.getElem_toArray, List.getElem_cons_zero, List.getElem_cons_succ])
            refine wpAnyH_take (i := 19) (oi := _) (v := .pointer (some ⟨g, 0, none⟩)) rfl (by kernel_rfl) (by kernel_rfl) (by kernel_rfl) (fun _ _ _ h => h) (Or.inl ⟨by rfl, fun w' hSw => by go_simp⟩) hHeld ?_
            (try simp only [Act.put, List.setIfInBounds_toArray, List.set_cons_zero, List.set_cons_succ, List.getElem_toArray, List.getElem_cons_zero, List.getElem_cons_succ])
            refine wpAnyH_take (i := 20) (oi := _) (v := .pointer (some ⟨pb, 1, none⟩)) rfl (by kernel_rfl) (by kernel_rfl) (by kernel_rfl) (fun _ _ _ h => h) (Or.inl ⟨by rfl, fun w' hSw => by go_simp⟩) hHeld ?_
            (try simp only [Act.put, List.setIfInBounds_toArray, List.set_cons_zero, List.set_cons_succ, List.getElem_toArray, List.getElem_cons_zero, List.getElem_cons_succ])
            refine wpAnyH_take (i := 21) (oi := _) (v := .int .i64 q.Nd) rfl (by kernel_rfl) (by kernel_rfl) (by kernel_rfl) (fun _ _ _ h => h) (Or.inl ⟨by rfl, fun w' hSw => by obtain ⟨⟨x0, x1, x2⟩, ⟨x3, x4, x5⟩, ⟨x6, x7, x8⟩⟩ := nine_cells hSw; go_simp⟩) hHeld ?_
            (try simp only [Act.put, List.setIfInBounds_toArray, List.set_cons_zero, List.set_cons_succ, List.getElem_toArray, List.getElem_cons_zero, List.getElem_cons_succ])
            refine wpAnyH_take (i := 22) (oi := _) (v := .pointer (some ⟨pb, 2, none⟩)) rfl (by kernel_rfl) (by kernel_rfl) (by kernel_rfl) (fun _ _ _ h => h) (Or.inl ⟨by rfl, fun w' hSw => by go_simp⟩) hHeld ?_
            (try simp only [Act.put, List.setIfInBounds_toArray, List.set_cons_zero, List.set_cons_succ, List.getElem_toArray, List.getElem_cons_zero, List.getElem_cons_succ])
            refine wpAnyH_take (i := 23) (oi := _) (v := .pointer (some ⟨pb, 2, none⟩)) rfl (by kernel_rfl) (by kernel_rfl) (by kernel_rfl) (fun _ _ _ h => h) (Or.inl ⟨by rfl, fun w' hSw => by go_simp⟩) hHeld ?_
            (try simp only [Act.put, List.setIfInBounds_toArray, List.set_cons_zero, List.set_cons_succ, List.getElem_toArray, List.getElem_cons_zero, List.getElem_cons_succ])
            refine wpAnyH_take (i := 24) (oi := _) (v := .int .i64 q.S) rfl (by kernel_rfl) (by kernel_rfl) (by kernel_rfl) (fun _ _ _ h => h) (Or.inl ⟨by rfl, fun w' hSw => by obtain ⟨⟨x0, x1, x2⟩, ⟨x3, x4, x5⟩, ⟨x6, x7, x8⟩⟩ := nine_cells hSw; go_simp⟩) hHeld ?_
            (try simp only [Act.put, List.setIfInBounds_toArray, List.set_cons_zero, List.set_cons_succ, List.getElem_toArray, List.getElem_cons_zero, List.getElem_cons_succ])
            refine wpAnyH_take (i := 25) (oi := _) (v := .pointer (some ⟨pb, 2, none⟩)) rfl (by kernel_rfl) (by kernel_rfl) (by kernel_rfl) (fun _ _ _ h => h) (Or.inl ⟨by rfl, fun w' hSw => by go_simp⟩) hHeld ?_
            (try simp only [Act.put, List.setIfInBounds_toArray, List.set_cons_zero, List.set_cons_succ, List.getElem_toArray, List.getElem_cons_zero, List.getElem_cons_succ])
            refine wpAnyH_take (i := 26) (oi := _) (v := .pointer (some ⟨pb, 3, none⟩)) rfl (by kernel_rfl) (by kernel_rfl) (by kernel_rfl) (fun _ _ _ h => h) (Or.inl ⟨by rfl, fun w' hSw => by go_simp⟩) hHeld ?_
            (try simp only [Act.put, List.setIfInBounds_toArray, List.set_cons_zero, List.set_cons_succ, List.getElem_toArray, List.getElem_cons_zero, List.getElem_cons_succ])
            refine wpAnyH_take (i := 27) (oi := _) (v := .agg #[.int .i64 q.R, .int .i64 q.Bn]) rfl (by kernel_rfl) (by kernel_rfl) (by kernel_rfl) (fun _ _ _ h => h) (Or.inl ⟨by rfl, fun w' hSw => by obtain ⟨⟨x0, x1, x2⟩, ⟨x3, x4, x5⟩, ⟨x6, x7, x8⟩⟩ := nine_cells hSw; go_simp⟩) hHeld ?_
            (try simp only [Act.put, List.setIfInBounds_toArray, List.set_cons_zero, List.set_cons_succ, List.getElem_toArray, List.getElem_cons_zero, List.getElem_cons_succ])
            refine wpAnyH_take (i := 28) (oi := _) (v := .pointer (some ⟨pb, 2, none⟩)) rfl (by kernel_rfl) (by kernel_rfl) (by kernel_rfl) (fun _ _ _ h => h) (Or.inl ⟨by rfl, fun w' hSw => by go_simp⟩) hHeld ?_
            (try simp only [Act.put, List.setIfInBounds_toArray, List.set_cons_zero, List.set_cons_succ, List.getElem_toArray, List.getElem_cons_zero, List.getElem_cons_succ])
            refine wpAnyH_take (i := 29) (oi := _) (v := .pointer (some ⟨pb, 5, none⟩)) rfl (by kernel_rfl) (by kernel_rfl) (by kernel_rfl) (fun _ _ _ h => h) (Or.inl ⟨by rfl, fun w' hSw => by go_simp⟩) hHeld ?_
            (try simp only [Act.put, List.setIfInBounds_toArray, List.set_cons_zero, List.set_cons_succ, List.getElem_toArray, List.getElem_cons_zero, List.getElem_cons_succ])
            refine wpAnyH_take (i := 30) (oi := _) (v := .agg #[.int .i64 q.vk, .slice q.A q.n q.c, .slice q.D q.m q.d]) rfl (by kernel_rfl) (by kernel_rfl) (by kernel_rfl) (fun _ _ _ h => h) (Or.inl ⟨by rfl, fun w' hSw => by obtain ⟨⟨x0, x1, x2⟩, ⟨x3, x4, x5⟩, ⟨x6, x7, x8⟩⟩ := nine_cells hSw; go_simp⟩) hHeld ?_
            (try simp only [Act.put, List.setIfInBounds_toArray, List.set_cons_zero, List.set_cons_succ, List.getElem_toArray, List.getElem_cons_zero, List.getElem_cons_succ])
            refine wpAnyH_ready (rs := [31]) (by kernel_rfl) (by simp) ?_
            refine AllReadyH.cons (o := _) rfl (fun K hK => ?_) AllReadyH.nil
            simp only [List.getElem_toArray, List.getElem_cons_zero, List.getElem_cons_succ]
            go_simp
            refine (estep_copy HQV.out).mono ?_
            rintro e wc ⟨A', c', D', d', rfl, hoc, hic', hbc⟩
            have hbxc : EopBox q pb wc := (hbc.block _ (lt_of_block HBX.out)).trans HBX.out
            go_wp2_with fail
            refine hK.out _ _ hbxc (fun hHeld => ?_)
            clear hK
            (try simp only [Act.put, List.setIfInBounds_toArray, List.set_cons_zero, List.set_cons_succ, List.getElem_toArray, List.getElem_cons_zero, List.getElem_cons_succ])
            refine wpAnyH_take (i := 32) (oi := _) (v := .agg #[.int .i64 q.S, .int .i64 q.R, .int .i64 q.Bn, .int .i64 q.vk, .slice A' q.n c', .slice D' q.m d']) rfl (by kernel_rfl) (by kernel_rfl) (by kernel_rfl) (fun _ _ _ h => h) (Or.inl ⟨by rfl, fun w' hSw => by go_simp⟩) hHeld ?_
            (try simp only [Act.put, List.setIfInBounds_toArray, List.set_cons_zero, List.set_cons_succ, List.getElem_toArray, List.getElem_cons_zero, List.getElem_cons_succ])
            refine wpAnyH_ready (rs := [33]) (by kernel_rfl) (by simp) ?_
            refine AllReadyH.cons (o := _) rfl (fun K hK => ?_) AllReadyH.nil
            simp only [List.getElem_toArray, List.getElem_cons_zero, List.getElem_cons_succ]
            go_simp
            refine (estep_voted HEL.out HQS.out HQM.out hoc hic' hbc).mono ?_
            rintro e wv ⟨rfl, F', hst⟩
            rw [HT.out]
            have hbxv : EopBox q pb wv := (hst.kept.block _ (lt_of_block HBX.out) HPF.out).trans HBX.out
            go_wp2_with fail
            refine hK.out _ _ hbxv (fun hHeld => ?_)
            clear hK
            (try simp only [Act.put, List.setIfInBounds_toArray, List.set_cons_zero, List.set_cons_succ, List.getElem_toArray, List.getElem_cons_zero, List.getElem_cons_succ])
            refine wpAnyH_take (i := 34) (oi := _) (v := .bool t) rfl (by kernel_rfl) (by kernel_rfl) (by kernel_rfl) (fun _ _ _ h => h) (Or.inl ⟨by rfl, fun w' hSw => by go_simp⟩) hHeld ?_
            (try simp only [Act.put, List.setIfInBounds_toArray, List.set_cons_zero, List.set_cons_succ, List.getElem_toArray, List.getElem_cons_zero, List.getElem_cons_succ])
            refine wpAnyH_take (i := 35) (oi := _) (v := .bool t) rfl (by kernel_rfl) (by kernel_rfl) (by kernel_rfl) (fun _ _ _ h => h) (Or.inl ⟨by rfl, fun w' hSw => by go_simp⟩) hHeld ?_
            (try simp only [Act.put, List.setIfInBounds_toArray, List.set_cons_zero, List.set_cons_succ, List.getElem_toArray, List.getElem_cons_zero, List.getElem_cons_succ])
            refine wpAnyH_done (by kernel_rfl) ?_ _
            go_wp2_with fail
            go_meet
            exact ⟨F', by rw [HE.out]; exact hst, by rw [HE.out, HT.out]⟩
          · have hk0 : (q.K == 0) = false := beq_eq_false_iff_ne.2 hK0
            have HE : Hid (ostep l q = (l, false)) := hide (by unfold ostep; rw [if_neg hK1, if_neg hK0])
            clear hK1 hK0
            go_wp2_with fail
            refine wp_region_held_drew (S := fun W => EopBox q pb W) (by kernel_rfl) HBX.out (fun hHeld => ?_)
            refine wpAnyH_take (i := 0) (oi := _) (v := .pointer (some ⟨pb, 0, none⟩)) rfl (by kernel_rfl) (by kernel_rfl) (by kernel_rfl) (fun _ _ _ h => h) (Or.inl ⟨by rfl, fun w' hSw => by go_simp⟩) hHeld ?_
            (try simp only [Act.put, List.setIfInBounds_toArray, List.set_cons_zero, List.set_cons_succ, List.getElem_toArray, List.getElem_cons_zero, List.getElem_cons_succ])
            refine wpAnyH_take (i := 1) (oi := _) (v := .int .i64 q.K) rfl (by kernel_rfl) (by kernel_rfl) (by kernel_rfl) (fun _ _ _ h => h) (Or.inl ⟨by rfl, fun w' hSw => by obtain ⟨⟨x0, x1, x2⟩, ⟨x3, x4, x5⟩, ⟨x6, x7, x8⟩⟩ := nine_cells hSw; go_simp⟩) hHeld ?_
            (try simp only [Act.put, List.setIfInBounds_toArray, List.set_cons_zero, List.set_cons_succ, List.getElem_toArray, List.getElem_cons_zero, List.getElem_cons_succ])
            refine wpAnyH_take (i := 2) (oi := _) (v := .bool false) rfl (by kernel_rfl) (by kernel_rfl) (by kernel_rfl) (fun _ _ _ h => h) (Or.inl ⟨by rfl, fun w' hSw => by go_simp⟩) hHeld ?_
            (try simp only [Act.put, List.setIfInBounds_toArray, List.set_cons_zero, List.set_cons_succ, List.getElem_toArray, List.getElem_cons_zero, List.getElem_cons_succ])
            refine wpAnyH_take (i := 3) (oi := _) (v := .bool false) rfl (by kernel_rfl) (by kernel_rfl) (by kernel_rfl) (fun _ _ _ h => h) (Or.inl ⟨by rfl, fun w' hSw => by go_simp⟩) hHeld ?_
            (try simp only [Act.put, List.setIfInBounds_toArray, List.set_cons_zero, List.set_cons_succ, List.getElem_toArray, List.getElem_cons_zero, List.getElem_cons_succ])
            refine wpAnyH_take (i := 4) (oi := _) (v := undef) rfl (by kernel_rfl) (by kernel_rfl) (by kernel_rfl) (fun _ _ _ h => h) (Or.inr ⟨by rfl, rfl⟩) hHeld ?_
            (try simp only [Act.put, List.setIfInBounds_toArray, List.set_cons_zero, List.set_cons_succ, List.getElem_toArray, List.getElem_cons_zero, List.getElem_cons_succ])
            refine wpAnyH_take (i := 5) (oi := _) (v := undef) rfl (by kernel_rfl) (by kernel_rfl) (by kernel_rfl) (fun _ _ _ h => h) (Or.inr ⟨by rfl, rfl⟩) hHeld ?_
            (try simp only [Act.put, List.setIfInBounds_toArray, List.set_cons_zero, List.set_cons_succ, List.getElem_toArray, List.getElem_cons_zero, List.getElem_cons_succ])
            refine wpAnyH_take (i := 6) (oi := _) (v := undef) rfl (by kernel_rfl) (by kernel_rfl) (by kernel_rfl) (fun _ _ _ h => h) (Or.inr ⟨by rfl, rfl⟩) hHeld ?_
            (try simp only [Act.put, List.setIfInBounds_toArray, List.set_cons_zero, List.set_cons_succ, List.getElem_toArray, List.getElem_cons_zero, List.getElem_cons_succ])
            refine wpAnyH_take (i := 7) (oi := _) (v := undef) rfl (by kernel_rfl) (by kernel_rfl) (by kernel_rfl) (fun _ _ _ h => h) (Or.inr ⟨by rfl, rfl⟩) hHeld ?_
            (try simp only [Act.put, List.setIfInBounds_toArray, List.set_cons_zero, List.set_cons_succ, List.getElem_toArray, List.getElem_cons_zero, List.getElem_cons_succ])
            refine wpAnyH_take (i := 8) (oi := _) (v := undef) rfl (by kernel_rfl) (by kernel_rfl) (by kernel_rfl) (fun _ _ _ h => h) (Or.inr ⟨by rfl, rfl⟩) hHeld ?_
            (try simp only [Act.put, List.setIfInBounds_toArray, List.set_cons_zero, List.set_cons_succ, List.getElem_toArray, List.getElem_cons_zero, List.getElem_cons_succ])
            refine wpAnyH_take (i := 9) (oi := _) (v := undef) rfl (by kernel_rfl) (by kernel_rfl) (by kernel_rfl) (fun _ _ _ h => h) (Or.inr ⟨by rfl, rfl⟩) hHeld ?_
            (try simp only [Act.put, List.setIfInBounds_toArray, List.set_cons_zero, List.set_cons_succ, List.getElem_toArray, List.getElem_cons_zero, List.getElem_cons_succ])
            refine wpAnyH_take (i := 10) (oi := _) (v := undef) rfl (by kernel_rfl) (by kernel_rfl) (by kernel_rfl) (fun _ _ _ h => h) (Or.inr ⟨by rfl, rfl⟩) hHeld ?_
            (try simp only [Act.put, List.setIfInBounds_toArray, List.set_cons_zero, List.set_cons_succ, List.getElem_toArray, List.getElem_cons_zero, List.getElem_cons_succ])
            refine wpAnyH_take (i := 11) (oi := _) (v := undef) rfl (by kernel_rfl) (by kernel_rfl) (by kernel_rfl) (fun _ _ _ h => h) (Or.inr ⟨by rfl, rfl⟩) hHeld ?_
            (try simp only [Act.put, List.setIfInBounds_toArray, List.set_cons_zero, List.set_cons_succ, List.getElem_toArray, List.getElem_cons_zero, List.getElem_cons_succ])
            refine wpAnyH_take (i := 12) (oi := _) (v := undef) rfl (by kernel_rfl) (by kernel_rfl) (by kernel_rfl) (fun _ _ _ h => h) (Or.inr ⟨by rfl, rfl⟩) hHeld ?_
            (try simp only [Act.put, List.setIfInBounds_toArray, List.set_cons_zero, List.set_cons_succ, List.getElem_toArray, List.getElem_cons_zero, List.getElem_cons_succ])
            refine wpAnyH_take (i := 13) (oi := _) (v := .bool false) rfl (by kernel_rfl) (by kernel_rfl) (by kernel_rfl) (fun _ _ _ h => h) (Or.inl ⟨by rfl, fun w' hSw => by go_simp⟩) hHeld ?_
            (try simp only [Act.put, List.setIfInBounds_toArray, List.set_cons_zero, List.set_cons_succ, List.getElem_toArray, List.getElem_cons_zero, List.getElem_cons_succ])
            refine wpAnyH_take (i := 14) (oi := _) (v := .bool false) rfl (by kernel_rfl) (by kernel_rfl) (by kernel_rfl) (fun _ _ _ h => h) (Or.inl ⟨by rfl, fun w' hSw => by go_simp⟩) hHeld ?_
            (try simp only [Act.put, List.setIfInBounds_toArray, List.set_cons_zero, List.set_cons_succ, List.getElem_toArray, List.getElem_cons_zero, List.getElem_cons_succ])
            refine wpAnyH_take (i := 15) (oi := _) (v := .pointer (some ⟨pb, 0, none⟩)) rfl (by kernel_rfl) (by kernel_rfl) (by kernel_rfl) (fun _ _ _ h => h) (Or.inl ⟨by rfl, fun w' hSw => by go_simp⟩) hHeld ?_
            (try simp only [Act.put, List.setIfInBounds_toArray, List.set_cons_zero, List.set_cons_succ, List.getElem_toArray, List.getElem_cons_zero, List.getElem_cons_succ])
            refine wpAnyH_take (i := 16) (oi := _) (v := .int .i64 q.K) rfl (by kernel_rfl) (by kernel_rfl) (by kernel_rfl) (fun _ _ _ h => h) (Or.inl ⟨by rfl, fun w' hSw => by obtain ⟨⟨x0, x1, x2⟩, ⟨x3, x4, x5⟩, ⟨x6, x7, x8⟩⟩ := nine_cells hSw; go_simp⟩) hHeld ?_
            (try simp only [Act.put, List.setIfInBounds_toArray, List.set_cons_zero, List.set_cons_succ, List.getElem_toArray, List.getElem_cons_zero, List.getElem_cons_succ])
            refine wpAnyH_take (i := 17) (oi := _) (v := .bool false) rfl (by kernel_rfl) (by kernel_rfl) (by kernel_rfl) (fun _ _ _ h => h) (Or.inl ⟨by rfl, fun w' hSw => by go_simp⟩) hHeld ?_
            (try simp only [Act.put, List.setIfInBounds_toArray, List.set_cons_zero, List.set_cons_succ, List.getElem_toArray, List.getElem_cons_zero, List.getElem_cons_succ])
            refine wpAnyH_take (i := 18) (oi := _) (v := .bool false) rfl (by kernel_rfl) (by kernel_rfl) (by kernel_rfl) (fun _ _ _ h => h) (Or.inl ⟨by rfl, fun w' hSw => by go_simp⟩) hHeld ?_
            (try simp only [Act.put, List.setIfInBounds_toArray, List.set_cons_zero, List.set_cons_succ, List.getElem_toArray, List.getElem_cons_zero, List.getElem_cons_succ])
            refine wpAnyH_take (i := 19) (oi := _) (v := undef) rfl (by kernel_rfl) (by kernel_rfl) (by kernel_rfl) (fun _ _ _ h => h) (Or.inr ⟨by rfl, rfl⟩) hHeld ?_
            (try simp only [Act.put, List.setIfInBounds_toArray, List.set_cons_zero, List.set_cons_succ, List.getElem_toArray, List.getElem_cons_zero, List.getElem_cons_succ])
            refine wpAnyH_take (i := 20) (oi := _) (v := undef) rfl (by kernel_rfl) (by kernel_rfl) (by kernel_rfl) (fun _ _ _ h => h) (Or.inr ⟨by rfl, rfl⟩) hHeld ?_
            (try simp only [Act.put, List.setIfInBounds_toArray, List.set_cons_zero, List.set_cons_succ, List.getElem_toArray, List.getElem_cons_zero, List.getElem_cons_succ])
            refine wpAnyH_take (i := 21) (oi := _) (v := undef) rfl (by kernel_rfl) (by kernel_rfl) (by kernel_rfl) (fun _ _ _ h => h) (Or.inr ⟨by rfl, rfl⟩) hHeld ?_
            (try simp only [Act.put, List.setIfInBounds_toArray, List.set_cons_zero, List.set_cons_succ, List.getElem_toArray, List.getElem_cons_zero, List.getElem_cons_succ])
            refine wpAnyH_take (i := 22) (oi := _) (v := undef) rfl (by kernel_rfl) (by kernel_rfl) (by kernel_rfl) (fun _ _ _ h => h) (Or.inr ⟨by rfl, rfl⟩) hHeld ?_
            (try simp only [Act.put, List.setIfInBounds_toArray, List.set_cons_zero, List.set_cons_succ, List.getElem_toArray, List.getElem_cons_zero, List.getElem_cons_succ])
            refine wpAnyH_take (i := 23) (oi := _) (v := undef) rfl (by kernel_rfl) (by kernel_rfl) (by kernel_rfl) (fun _ _ _ h => h) (Or.inr ⟨by rfl, rfl⟩) hHeld ?_
            (try simp only [Act.put, List.setIfInBounds_toArray, List.set_cons_zero, List.set_cons_succ, List.getElem_toArray, List.getElem_cons_zero, List.getElem_cons_succ])
            refine wpAnyH_take (i := 24) (oi := _) (v := undef) rfl (by kernel_rfl) (by kernel_rfl) (by kernel_rfl) (fun _ _ _ h => h) (Or.inr ⟨by rfl, rfl⟩) hHeld ?_
            (try simp only [Act.put, List.setIfInBounds_toArray, List.set_cons_zero, List.set_cons_succ, List.getElem_toArray, List.getElem_cons_zero, List.getElem_cons_succ])
            refine wpAnyH_take (i := 25) (oi := _) (v := undef) rfl (by kernel_rfl) (by kernel_rfl) (by kernel_rfl) (fun _ _ _ h => h) (Or.inr ⟨by rfl, rfl⟩) hHeld ?_
            (try simp only [Act.put, List.setIfInBounds_toArray, List.set_cons_zero, List.set_cons_succ, List.getElem_toArray, List.getElem_cons_zero, List.getElem_cons_succ])
            refine wpAnyH_take (i := 26) (oi := _) (v := undef) rfl (by kernel_rfl) (by kernel_rfl) (by kernel_rfl) (fun _ _ _ h => h) (Or.inr ⟨by rfl, rfl⟩) hHeld ?_
            (try simp only [Act.put, List.setIfInBounds_toArray, List.set_cons_zero, List.set_cons_succ, List.getElem_toArray, List.getElem_cons_zero, List.getElem_cons_succ])
            refine wpAnyH_take (i := 27) (oi := _) (v := undef) rfl (by kernel_rfl) (by kernel_rfl) (by kernel_rfl) (fun _ _ _ h => h) (Or.inr ⟨by rfl, rfl⟩) hHeld ?_
            (try simp only [Act.put, List.setIfInBounds_toArray, List.set_cons_zero, List.set_cons_succ, List.getElem_toArray, List.getElem_cons_zero, List.getElem_cons_succ])
            refine wpAnyH_take (i := 28) (oi := _) (v := undef) rfl (by kernel_rfl) (by kernel_rfl) (by kernel_rfl) (fun _ _ _ h => h) (Or.inr ⟨by rfl, rfl⟩) hHeld ?_
            (try simp only [Act.put, List.setIfInBounds_toArray, List.set_cons_zero, List.set_cons_succ, List.getElem_toArray, List.getElem_cons_zero, List.getElem_cons_succ])
            refine wpAnyH_take (i := 29) (oi := _) (v := undef) rfl (by kernel_rfl) (by kernel_rfl) (by kernel_rfl) (fun _ _ _ h => h) (Or.inr ⟨by rfl, rfl⟩) hHeld ?_
            (try simp only [Act.put, List.setIfInBounds_toArray, List.set_cons_zero, List.set_cons_succ, List.getElem_toArray, List.getElem_cons_zero, List.getElem_cons_succ])
            refine wpAnyH_take (i := 30) (oi := _) (v := undef) rfl (by kernel_rfl) (by kernel_rfl) (by kernel_rfl) (fun _ _ _ h => h) (Or.inr ⟨by rfl, rfl⟩) hHeld ?_
            (try simp only [Act.put, List.setIfInBounds_toArray, List.set_cons_zero, List.set_cons_succ, List.getElem_toArray, List.getElem_cons_zero, List.getElem_cons_succ])
            refine wpAnyH_take (i := 31) (oi := _) (v := undef) rfl (by kernel_rfl) (by kernel_rfl) (by kernel_rfl) (fun _ _ _ h => h) (Or.inr ⟨by rfl, rfl⟩) hHeld ?_
            (try simp only [Act.put, List.setIfInBounds_toArray, List.set_cons_zero, List.set_cons_succ, List.getElem_toArray, List.getElem_cons_zero, List.getElem_cons_succ])
            refine wpAnyH_take (i := 32) (oi := _) (v := undef) rfl (by kernel_rfl) (by kernel_rfl) (by kernel_rfl) (fun _ _ _ h => h) (Or.inr ⟨by rfl, rfl⟩) hHeld ?_
            (try simp only [Act.put, List.setIfInBounds_toArray, List.set_cons_zero, List.set_cons_succ, List.getElem_toArray, List.getElem_cons_zero, List.getElem_cons_succ])
            refine wpAnyH_take (i := 33) (oi := _) (v := undef) rfl (by kernel_rfl) (by kernel_rfl) (by kernel_rfl) (fun _ _ _ h => h) (Or.inr ⟨by rfl, rfl⟩) hHeld ?_
            (try simp only [Act.put, List.setIfInBounds_toArray, List.set_cons_zero, List.set_cons_succ, List.getElem_toArray, List.getElem_cons_zero, List.getElem_cons_succ])
            refine wpAnyH_take (i := 34) (oi := _) (v := .bool false) rfl (by kernel_rfl) (by kernel_rfl) (by kernel_rfl) (fun _ _ _ h => h) (Or.inl ⟨by rfl, fun w' hSw => by go_simp⟩) hHeld ?_
            (try simp only [Act.put, List.setIfInBounds_toArray, List.set_cons_zero, List.set_cons_succ, List.getElem_toArray, List.getElem_cons_zero, List.getElem_cons_succ])
            refine wpAnyH_take (i := 35) (oi := _) (v := .bool false) rfl (by kernel_rfl) (by kernel_rfl) (by kernel_rfl) (fun _ _ _ h => h) (Or.inl ⟨by rfl, fun w' hSw => by go_simp⟩) hHeld ?_
            (try simp only [Act.put, List.setIfInBounds_toArray, List.set_cons_zero, List.set_cons_succ, List.getElem_toArray, List.getElem_cons_zero, List.getElem_cons_succ])
            refine wpAnyH_done (by kernel_rfl) ?_ _
            go_wp2_with fail
            go_meet
            exact ⟨F, by rw [HE.out]; exact ⟨HEL.out, Kept.refl _ _, fun j hj => .inl hj⟩, by rw [HE.out]⟩
      obtain ⟨F', hst, rfl⟩ := hcut
      obtain ⟨hd1, hd2, hd3⟩ := ostep_did l q
      have HST := hide hst
      generalize hl1 : (ostep l q).1 = l1 at *
      generalize (ostep l q).2 = hit at *
      clear hst hl1
      go_upto_if 70 with fail
      go_cut [4] (fun s4 wx => ∃ fs', fs'.length ≤ fs.length + 1 ∧ Hid (ORd w g ts l1 fs' F' s4 wx))
      case first =>
        cases hit
        · have HT := hide (HOD.out.turn HST.out.el HST.out.kept HST.out.sub (hd3 rfl))
          go_wp2_with fail
          go_meet
          exact ⟨fs, by omega, HT⟩
        · obtain ⟨hDn, hDu⟩ := hd2 rfl
          have hownc := HOD.out.own.keep fun i hi => HST.out.kept.block i (HOD.out.own.lt i hi).2 (HOD.out.off i hi)
          have hbxc : EopBox q pb wc := (HST.out.kept.block _ (lt_of_block HBX.out) HPF.out).trans HBX.out
          obtain ⟨A4', n4, c4, rfl, hn4, hnc4, hcm4, hx4, _, _⟩ := hownc.form
          have hn4' : Hid (fs.length = n4) := hide (by have := hn4.out; rwa [List.length_map] at this)
          have hn49 : n4 ≤ 100 := by have := hn4'.out; omega
          have HX4 := hide hx4
          have HOC := hide hownc
          have HNS : Hid (∀ f ∈ fs, (f.S == q.S) = false) := hide (fun f hf => by
            rw [beq_eq_false_iff_ne]
            intro e
            have h1 := (HOR.out.inv q.S f.v).2 ⟨f, hf, e, rfl⟩
            rw [hDn] at h1
            cases h1)
          have HDU := hide hDu
          have HDN := hide hDn
          have HBXC := hide hbxc
          clear hd1 hd2 hd3 hDn hDu hownc hn4 hx4 hbxc
          go_wp2_with fail
          go_loopw [73] (fun s73 wx => ∃ jj : Nat, jj ≤ n4 ∧ s73 = .int .i64 (jj : Int) ∧ Hid (Below wc.heap.size wc wx)) (fun s73 _ => n4 - (intOf s73).toNat)
          case atStart => exact ⟨0, Nat.zero_le _, rfl, hide (Below.refl _ _)⟩
          case round =>
            obtain ⟨jj, hjj, rfl, hbw⟩ := hrel
            have hbx2 : EopBox q pb wr := (hbw.out.block _ (lt_of_block HBXC.out)).trans HBXC.out
            obtain ⟨⟨x0, x1, x2⟩, ⟨x3, x4, x5⟩, ⟨x6, x7, x8⟩⟩ := nine_cells hbx2
            by_cases hjn : jj < n4
            · have hjf : jj < fs.length := by rw [hn4'.out]; exact hjn
              obtain ⟨gb, eA, hra, _, hgl⟩ := HX4.out jj (by simpa using hjf)
              have hra' : wr.rangeAt gb (jj * 6) (fs[jj]).row := by
                rw [List.getElem_map] at hra
                exact fun i u hu => (hbw.out.cell (p := ⟨gb, jj * 6 + i, none⟩) hgl).trans (hra i u hu)
              have hnq := HNS.out _ (List.getElem_mem hjf)
              generalize fs[jj] = f at *
              subst eA
              have hba := (Below.refl _ wr).alloc (Nat.le_refl _) (.cells #[.int .i64 f.S, .int .i64 f.R, .int .i64 f.Bn, .int .i64 f.vk, .slice f.A f.n f.c, .slice f.D f.m f.d] 42)
              have hbf := heap_alloc_new wr (.cells #[.int .i64 f.S, .int .i64 f.R, .int .i64 f.Bn, .int .i64 f.vk, .slice f.A f.n f.c, .slice f.D f.m f.d] 42)
              have HB2 := hide (hbw.out.trans (hba.mono hbw.out.size))
              go_upto_region 14 with (refine wpList_load_mid rfl 42 _ rfl gb (jj * 6) (by simp [Act.eval, Act.put]) [(.int .i64 f.S : Value), .int .i64 f.R, .int .i64 f.Bn, .int .i64 f.vk, .slice f.A f.n f.c, .slice f.D f.m f.d] _ hra' Try.underlying42 rfl (by kernel_rfl) ?_)
              have hbx3 : EopBox q pb _ := (hba.block _ (lt_of_block hbx2)).trans hbx2
              obtain ⟨⟨f0, f1, f2, f3, f4, f5⟩, _⟩ := six_cells hbf
              clear x0 x1 x2 x3 x4 x5 x6 x7 x8 hra hra'
              obtain ⟨⟨x0, x1, x2⟩, _, _⟩ := nine_cells hbx3
              clear hbx3 hbx2 hbf hba
              generalize wr.alloc (.cells #[.int .i64 f.S, .int .i64 f.R, .int .i64 f.Bn, .int .i64 f.vk, .slice f.A f.n f.c, .slice f.D f.m f.d] 42) = w11 at *
              go_wp2_with fail
              go_roundw
              case rel => exact ⟨jj + 1, by omega, by go_num, HB2⟩
              case measure => simp [intOf]; omega
            · obtain rfl : jj = n4 := by omega
              have HOW := hide (HOC.out.below hbw.out)
              have hba := (Below.refl _ wr).alloc (Nat.le_refl _) (.cells (q.row).toArray 42)
              have hone := one_row (heap_alloc_new wr (.cells (q.row).toArray 42))
              have HOA := hide (HOW.out.below hba)
              have HBA := hide (hbw.out.trans (hba.mono hbw.out.size))
              have hrow : (q.row).toArray = #[.int .i64 q.S, .int .i64 q.R, .int .i64 q.Bn, .int .i64 q.vk, .slice q.A q.n q.c, .slice q.D q.m q.d] := rfl
              have hbz : w.heap.size ≤ wr.heap.size := by
                have h1 := HOD.out.bel.size
                have h2 := HST.out.kept.size
                have h3 := hbw.out.size
                omega
              rw [hrow] at hba hone HOA HBA
              have hone' : ∀ i u, ([q.row] : List (List Value)).flatten[i]? = some u → (wr.alloc (.cells #[.int .i64 q.S, .int .i64 q.R, .int .i64 q.Bn, .int .i64 q.vk, .slice q.A q.n q.c, .slice q.D q.m q.d] 42)).cell? ((⟨wr.heap.size, 0, none⟩ : Addr).add i) = some u := hone
              have HBZ : Hid (w.heap.size ≤ (wr.alloc (.cells #[.int .i64 q.S, .int .i64 q.R, .int .i64 q.Bn, .int .i64 q.vk, .slice q.A q.n q.c, .slice q.D q.m q.d] 42)).heap.size) := hide (Nat.le_trans hbz hba.size)
              have HZ1 : Hid ((wr.alloc (.cells #[.int .i64 q.S, .int .i64 q.R, .int .i64 q.Bn, .int .i64 q.vk, .slice q.A q.n q.c, .slice q.D q.m q.d] 42)).heap.size = wr.heap.size + 1) := hide (by simp)
              have HL1 : Hid ((fs.map Eop.row).length + 1 ≤ maxLen) := hide (by rw [List.length_map]; unfold maxLen; omega)
              have HL2 : Hid (((fs.map Eop.row).length + 1) * 80 ≤ 140737488355328) := hide (by rw [List.length_map]; omega)
              clear hone hrow hba hbz hbx2
              go_wp2_with (first
                | (refine list_append_rows rowV _ rfl (.tmp 84) (.tmp 87) rfl w.heap.size (.slice A4' jj c4) (fs.map Eop.row) rfl HOA.out ⟨wr.heap.size, 0, none⟩ 1 1 [q.row] rfl q.row_wide rfl hone' HL1.out HL2.out HBZ.out ?_; intro v12 w12 ho12 hg12 hat12; have HO12 := hide ho12; have HG12 := hide hg12; have HAT := hide hat12; clear ho12 hg12 hat12)
                | fail)
              go_meet
              have hk12 : Kept (fun i => (Value.slice A4' jj c4).ownBlock = some i) _ w12 := Kept.of_grown (F := fun i => (Value.slice A4' jj c4).ownBlock = some i) HG12.out (fun i hi => hi)
              have hel12 : EL w12 F' g l1 := (HST.out.el.below HBA.out).kept hk12 (fun i hi e => by
                have h1 := HOD.out.off i e
                rcases HST.out.sub i hi with h2 | h2
                · exact h1 h2
                · have := (HOD.out.own.lt i e).2
                  omega)
              have hbw12 : Below w.heap.size w w12 := by
                have h1 := HOD.out.bel.trans (HST.out.kept.below HOD.out.bel.size HOD.out.fl)
                have h2 := h1.trans (HBA.out.mono h1.size)
                exact h2.trans (hk12.below h2.size (fun i hi => (HOA.out.lt i hi).1))
              refine ⟨fs ++ [q], by simp, hide ⟨hel12, by rw [List.map_append]; exact HO12.out, fun f hf => ?_, fun s x => ?_, fun i hi => ?_, fun i hi hf => ?_, hbw12⟩⟩
              · rcases List.mem_append.1 hf with h1 | h1
                · exact HOR.out.sub f h1
                · rw [List.mem_singleton.1 h1]; exact HQT.out
              · rw [HDU.out]
                show (if s = q.S then some q.v else l.D s) = some x ↔ _
                by_cases e : s = q.S
                · rw [if_pos e]
                  constructor
                  · intro h1
                    exact ⟨q, by simp, e.symm, Option.some.inj h1⟩
                  · rintro ⟨f, hf, h1, h2⟩
                    rcases List.mem_append.1 hf with h3 | h3
                    · have h4 := HNS.out f h3
                      rw [beq_eq_false_iff_ne] at h4
                      exact absurd (h1.trans e) h4
                    · rw [← h2, List.mem_singleton.1 h3]
                · rw [if_neg e, HOR.out.inv]
                  constructor
                  · rintro ⟨f, hf, h1⟩
                    exact ⟨f, List.mem_append_left _ hf, h1⟩
                  · rintro ⟨f, hf, h1, h2⟩
                    rcases List.mem_append.1 hf with h3 | h3
                    · exact ⟨f, h3, h1, h2⟩
                    · rw [List.mem_singleton.1 h3] at h1
                      exact absurd h1.symm e
              · rcases HST.out.sub i hi with h1 | h1
                · exact HOD.out.fl i h1
                · have := HOD.out.bel.size; omega
              · rcases HAT.out with h1 | h1
                · rw [h1] at hi
                  rcases HST.out.sub i hf with h2 | h2
                  · exact HOD.out.off i hi h2
                  · have := (HOD.out.own.lt i hi).2
                    omega
                · rw [h1] at hi
                  have e : _ = i := Option.some.inj hi
                  have h2 := HST.out.el.lt i hf
                  have h3 := hbw.out.size
                  have h4 := HZ1.out
                  omega
      obtain ⟨fs', hfl', hor'⟩ := hcut
      clear HST HOD HEL HBX HQV HPF HOR HQ0 HQS HQM hd2 hd3
      have hwn : IntKind.i64.wrap (l.next + 1) = l.next + 1 := IntWalk.i64_in _ (by omega)
      have hkn := el_next hor'.out.el
      unfold NextEnds' at hkn
      rw [hd1] at hkn
      obtain ⟨sm, hsm⟩ : ∃ b, b = (l1.D l.next).isSome := ⟨_, rfl⟩
      obtain ⟨kx, hkx0⟩ : ∃ x, x = l1.known l.next := ⟨_, rfl⟩
      rw [← hsm, ← hkx0] at hkn
      have HSM := hide hsm
      have HKX := hide hkx0
      clear hsm hkx0
      go_wp2_with fail
      refine hkn.mono ?_
      rintro e w12 ⟨A6, n6, c6, D6, m6, d6, rfl, ho6, hi6, hb6⟩
      have hba := (Below.refl _ w12).alloc (Nat.le_refl _) (.cells #[.int .i64 kx.k, .slice A6 n6 c6, .slice D6 m6 d6] 35)
      have hq6 := heap_alloc_new w12 (.cells #[.int .i64 kx.k, .slice A6 n6 c6, .slice D6 m6 d6] 35)
      have HO6 := hide (ho6.below hba)
      have HI6 := hide (hi6.below hba)
      have HR6 := hide ((hor'.out.below hb6).below hba)
      have HQ6 := hide hq6
      clear hkn ho6 hi6 hb6 hba hq6 hor'
      go_upto_region 19 with fail
      generalize w12.alloc (.cells #[.int .i64 kx.k, .slice A6 n6 c6, .slice D6 m6 d6] 35) = w13 at *
      generalize w12.heap.size = b6 at *
      cases sm
      · have HLN : Hid (l1.next ≤ (j : Int) + 1 + 1) := hide (by omega)
        have HL1 : Hid (l1.next = l.next) := hide hd1
        clear hd1
        go_wp2_with fail
        go_roundw
        case rel => exact ⟨j + 1, l1, fs', F', by omega, by go_num, by rw [HL1.out], by have := HLN.out; omega, by omega, HR6⟩
        case measure => simp [intOf]; omega
      · obtain ⟨x, hD⟩ := Option.isSome_iff_exists.1 HSM.out.symm
        have hkx : x = kx := (HKX.out.trans (by unfold Lv.known; rw [hD]; rfl)).symm
        obtain ⟨fw, hfw1, hfw2, hfw3⟩ := (HR6.out.inv l.next x).1 hD
        have HD := hide hD
        subst hkx
        clear HKX HSM
        have HANY : Hid (fs'.any (fun f => (f.S == l.next) && sameV f.vk f.cs f.ns x.k x.cs x.ns) = true) := hide (List.any_eq_true.2 ⟨fw, hfw1, by
          rw [hfw2, ← hfw3]
          have e4 := sameV_refl fw.v.k fw.v.cs fw.v.ns
          simp only [beq_self_eq_true, Bool.true_and]
          exact e4⟩)
        obtain ⟨A5, n5, c5, hu4, hn5, hnc5, hcm5, hx5, _, _⟩ := HR6.out.own.form
        have hn5' : Hid (fs'.length = n5) := hide (by have := hn5.out; rwa [List.length_map] at this)
        have hn59 : n5 ≤ 101 := by have := hn5'.out; omega
        subst hu4
        have HX5 := hide hx5
        have HL1 : Hid (l1.next = l.next) := hide hd1
        clear hD hfw1 hfw2 hfw3 hn5 hx5 hd1
        go_wp2_with fail
        go_loopw [13, 102] (fun s13 s102 wx => ∃ jj : Nat, jj ≤ n5 ∧ s102 = .int .i64 (jj : Int) ∧ s13 = .bool ((fs'.take jj).any (fun f => (f.S == l.next) && sameV f.vk f.cs f.ns x.k x.cs x.ns)) ∧ Hid (Below w13.heap.size w13 wx)) (fun _ s102 _ => n5 - (intOf s102).toNat)
        case atStart => exact ⟨0, Nat.zero_le _, rfl, rfl, hide (Below.refl _ _)⟩
        case round =>
          obtain ⟨jj, hjj, rfl, rfl, hbw⟩ := hrel
          by_cases hjn : jj < n5
          · have hjf : jj < fs'.length := by rw [hn5'.out]; exact hjn
            obtain ⟨gb, eA, hra, _, hgl⟩ := HX5.out jj (by simpa using hjf)
            have hra' : wr.rangeAt gb (jj * 6) (fs'[jj]).row := by
              rw [List.getElem_map] at hra
              exact fun i u hu => (hbw.out.cell (p := ⟨gb, jj * 6 + i, none⟩) hgl).trans (hra i u hu)
            have HAS := hide (any_succ (p := fun f => (f.S == l.next) && sameV f.vk f.cs f.ns x.k x.cs x.ns) hjf)
            have hft := HR6.out.sub _ (List.getElem_mem hjf)
            generalize fs'[jj] = f at *
            subst eA
            have hvf := (HEE.out.val f hft).1
            have hba := (Below.refl _ wr).alloc (Nat.le_refl _) (.cells #[.int .i64 f.S, .int .i64 f.R, .int .i64 f.Bn, .int .i64 f.vk, .slice f.A f.n f.c, .slice f.D f.m f.d] 42)
            have hbf := heap_alloc_new wr (.cells #[.int .i64 f.S, .int .i64 f.R, .int .i64 f.Bn, .int .i64 f.vk, .slice f.A f.n f.c, .slice f.D f.m f.d] 42)
            have hb2 := hbw.out.trans (hba.mono hbw.out.size)
            go_upto_region 26 with (refine wpList_load_mid rfl 42 _ rfl gb (jj * 6) (by simp [Act.eval, Act.put]) [(.int .i64 f.S : Value), .int .i64 f.R, .int .i64 f.Bn, .int .i64 f.vk, .slice f.A f.n f.c, .slice f.D f.m f.d] _ hra' Try.underlying42 rfl (by kernel_rfl) ?_)
            generalize wr.alloc (.cells #[.int .i64 f.S, .int .i64 f.R, .int .i64 f.Bn, .int .i64 f.vk, .slice f.A f.n f.c, .slice f.D f.m f.d] 42) = w14 at *
            generalize wr.heap.size = p14 at *
            obtain ⟨⟨f0, f1, f2, f3, f4, f5⟩, _⟩ := six_cells hbf
            have hq14 := (hb2.block _ (lt_of_block HQ6.out)).trans HQ6.out
            obtain ⟨g0, g1, g2⟩ := And.intro (row_cells hq14 0).1 (And.intro (row_cells hq14 1).1 (row_cells hq14 2).1)
            simp only [List.getElem?_toArray, List.getElem?_cons_succ, List.getElem?_cons_zero] at g0 g1 g2
            have HB2 := hide hb2
            generalize hany : (fs'.take jj).any (fun f => (f.S == l.next) && sameV f.vk f.cs f.ns x.k x.cs x.ns) = b0 at *
            clear hra hra' hba hbf hq14 hb2 hbw
            cases b0
            · cases heq : (f.S == l.next)
              · have HE : Hid ((.bool false : Value) = .bool ((fs'.take (jj + 1)).any (fun f => (f.S == l.next) && sameV f.vk f.cs f.ns x.k x.cs x.ns))) := hide (by rw [HAS.out, heq]; rfl)
                clear hany
                go_wp2_with fail
                go_roundw
                case rel => exact ⟨jj + 1, by omega, by go_num, HE.out, HB2⟩
                case measure => simp [intOf]; omega
              · have hvw := (hvf.below (HR6.out.bel.trans (HB2.out.mono HR6.out.bel.size))).more (HR6.out.bel.trans (HB2.out.mono HR6.out.bel.size)).size
                obtain ⟨a5, a6⟩ := ownc_slice (HO6.out.below HB2.out)
                obtain ⟨a7, a8⟩ := owni_slice' (HI6.out.below HB2.out)
                have hsm := rvsame_any f.vk x.k f.A A6 f.D D6 f.n n6 f.c c6 f.m m6 f.d d6 w14.heap.size f.cs x.cs f.ns x.ns w14 hvw.c hvw.i a6 a8 (Nat.le_refl _) hvw.en a5 hvw.em a7 (by have := hvw.ln; omega) (by have := hvw.lm; omega)
                have HE : Hid ((.bool (sameV f.vk f.cs f.ns x.k x.cs x.ns) : Value) = .bool ((fs'.take (jj + 1)).any (fun f => (f.S == l.next) && sameV f.vk f.cs f.ns x.k x.cs x.ns))) := hide (by rw [HAS.out, heq]; rfl)
                generalize sameV f.vk f.cs f.ns x.k x.cs x.ns = bs at *
                clear hany hvw a5 a6 a7 a8
                go_wp2_with fail
                refine hsm.mono ?_
                rintro e w15 ⟨rfl, hb15⟩
                have HB3 := hide (HB2.out.trans (hb15.mono HB2.out.size))
                clear hsm
                go_wp2_with fail
                go_roundw
                case rel => exact ⟨jj + 1, by omega, by go_num, HE.out, HB3⟩
                case measure => simp [intOf]; omega
            · have HE : Hid ((.bool true : Value) = .bool ((fs'.take (jj + 1)).any (fun f => (f.S == l.next) && sameV f.vk f.cs f.ns x.k x.cs x.ns))) := hide (by rw [HAS.out]; rfl)
              clear hany
              go_wp2_with fail
              go_roundw
              case rel => exact ⟨jj + 1, by omega, by go_num, HE.out, HB2⟩
              case measure => simp [intOf]; omega
          · obtain rfl : jj = n5 := by omega
            have hall : (fs'.take jj).any (fun f => (f.S == l.next) && sameV f.vk f.cs f.ns x.k x.cs x.ns) = true := by rw [List.take_of_length_le (by rw [hn5'.out]; exact Nat.le_refl _)]; exact HANY.out
            rw [hall]
            have hor2 := HR6.out.below hbw.out
            have hps := el_pass hor2.el
            have hsome : (l1.D l1.next).isSome = true := by rw [HL1.out, HD.out]; rfl
            have hpd : l1.passed = { l1 with next := l1.next + 1 } := by unfold Lv.passed; rw [if_pos hsome]
            rw [hsome] at hps
            have HR2 := hide hor2
            have HPD := hide hpd
            clear hall hor2 hsome hpd
            go_wp2_with fail
            refine hps.mono ?_
            rintro e w16 ⟨rfl, F16, h16, hk16, hf16⟩
            have HR16 := hide (HR2.out.turn h16 hk16 hf16 (by rw [HPD.out]))
            clear hps h16 hk16 hf16
            go_wp2_with fail
            go_roundw
            case rel => exact ⟨j + 1, l1.passed, fs', F16, by omega, by go_num, by rw [HPD.out]; show _ = Value.int .i64 (l1.next + 1); rw [HL1.out], by rw [HPD.out]; show l1.next + 1 ≤ _; rw [HL1.out]; omega, by omega, HR16⟩
            case measure => simp [intOf]; omega
    · have hsz := el_size hor.out.el
      have HOR := hide hor.out
      have HN101 : Hid (l.next ≤ 101) := hide (by omega)
      clear hor
      by_cases hg1 : (j : Int) < (ne : Int)
      · have hg2 : decide ((j : Int) < 100) = false := decide_eq_false (by omega)
        go_wp2_with fail
        refine hsz.mono ?_
        rintro e w12 ⟨k, rfl, hk, hb12⟩
        have hk2 := sz_le hgood hk HN101.out
        have hkd : decide (k ≤ 256) = true := decide_eq_true (by omega)
        clear hk
        go_wp2
        go_ret
        exact ⟨rfl, HOR.out.bel.trans (hb12.mono HOR.out.bel.size)⟩
      · have hg1' : decide ((j : Int) < (ne : Int)) = false := decide_eq_false hg1
        go_wp2_with fail
        refine hsz.mono ?_
        rintro e w12 ⟨k, rfl, hk, hb12⟩
        have hk2 := sz_le hgood hk HN101.out
        have hkd : decide (k ≤ 256) = true := decide_eq_true (by omega)
        clear hk
        go_wp2
        go_ret
        exact ⟨rfl, HOR.out.bel.trans (hb12.mono HOR.out.bel.size)⟩
end Go.Proofs.Ytnngmapphacpkaa

namespace Go.Proofs.Ytnngmapphacpkaa
open Go.ChangeShapes Go.WideShapes Go.ChangeAt Go.RowKit
set_option linter.unusedVariables false

set_option maxRecDepth 100000 in
theorem learnerOrder_lifted (os : Os) (started : os.Started) (H : Type) (enc : TypeId × Value → H) :
    ReturnsInHanded {} Try.checked os 5 .any (Rows.learnerOrderSpec.pre6 enc Try.prog Try.f5 Rows.learnerOrderRow.domain false) (Rows.learnerOrderSpec.post enc Try.prog Try.f5 false true false false) := by
  refine returnsInHanded_of_change_sized (C := Try.checked) ownKnob_none started (by kernel_rfl) Try.func5
    (ChangeSpec.witness6 (enc := enc) (C := Try.checked) false ⟨#[], #[.slice none 0 0], []⟩ 8 (by kernel_rfl) (by kernel_rfl) (by kernel_rfl) (by kernel_rfl)) ?_
  intro W base args ds gs before hval0 hW hcnd hsz0 _
  have hval : ∀ (j : Nat) t v, Try.f5.params[j]? = some t → args[j]? = some v → Value.okWide Try.prog W .any base t v := hval0
  have hsz : (DataW.weightsEach Try.prog (Try.f5.params.toList ++ Rows.learnerOrderSpec.plain.varTypes Try.prog) (ds ++ gs)).all (· ≤ reachBytes) = true := hsz0
  have hW' := hW
  obtain ⟨p, q, hA0, hV, rfl, hfz, hnd⟩ := hW
  have hA : DataW.TrodAll enc Try.prog W 0 (fun _ => true) true Try.f5.params.toList args.toList ds p := hA0
  rw [Try.params5] at hA hval hsz
  obtain ⟨v0, vs0, d0, ds0, p0, q0, hargs, rfl, rfl, h0, r0⟩ := trodAll_cons hA
  obtain ⟨rfl, rfl, rfl⟩ := trodAll_nil r0
  obtain rfl : args = #[v0] := by cases args; simp_all
  obtain ⟨rfl, rfl⟩ := trodVars_none hV
  have t0 := h0
  have lt0 : ∀ x ∈ p0, x.block < W.heap.size := by obtain ⟨m, hm⟩ := t0; exact DataW.trod_lt m _ _ _ hm
  obtain ⟨a0, len0, cap0, rfl⟩ := okWide_slice Try.underlying23 (hval 0 23 v0 rfl rfl)
  obtain ⟨ts0, hT0, e0, hl0⟩ := open_eops h0 (Light.of_each hsz (j := 0) rfl rfl)
  clear hA0 hval0
  refine (order_walk a0 len0 cap0 ts0 W hT0 e0 hl0).mono fun e W' ⟨he, bel⟩ => ?_
  subst he
  exact ⟨_, rfl, _, _, _, [], _, [], hW', trodAll_mk1 (shut_bool Try.underlying4 _), (trodAll_cons_mk (Below.trod laid_out (by kernel_rfl) (of_decide_eq_true (by kernel_rfl)) t0 bel lt0) trodAll_mk0), rfl, bel.frame _, fun h => by cases h⟩

theorem learnerOrder_holds : Rows.LearnerOrderSaid :=
  OpenClaim.holds_of_wide 5 Try.f5 rfl rfl rfl rfl rfl rfl rfl ⟨rfl, rfl, rfl, rfl, rfl⟩ rfl rfl rfl rfl rfl (by kernel_rfl) Try.func5 (by kernel_rfl)
    (of_decide_eq_true (by kernel_rfl)) (by unfold Func.isWrapper; first | (rw [if_pos (by decide +kernel)]; kernel_rfl) | (rw [if_neg (by decide +kernel)]; exact ⟨rfl, rfl⟩))
    (fun os started H enc _ => learnerOrder_lifted os started H enc)
#print axioms learnerOrder_holds
end Go.Proofs.Ytnngmapphacpkaa
