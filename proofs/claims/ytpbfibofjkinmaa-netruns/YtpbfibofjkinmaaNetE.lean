/-
  Copy and List of package net. Conditions: what is read is in reach.
-/
import Derived.Test.YtpbfibofjkinmaaNetD
set_option linter.unusedSimpArgs false
set_option linter.unusedVariables false
namespace Go.Proofs.Ytpbfibofjkinmaa
open Go.RowKit

theorem own_has {w : World} {base : Nat} {A : Option Addr} {n c : Nat} {xs : List UInt8} (h : Own w base (.slice A n c) xs) : Has w w.heap.size A xs ∧ xs.length = n := by
  obtain ⟨A', n', c', e, hn, _, hx, _⟩ := h.form
  injection e with e1 e2 e3
  subst e1 e2 e3
  exact ⟨hx, hn.out⟩

theorem ncopy_no (p : Value) (n : Nat) (i : Int) (w : World) (h : Calls Try.prog 32 #[p] w fun e w' => e = .returned (.int .i64 (n : Int)) ∧ w = w') (hi : hasB i n = false) :
    Calls Try.prog 28 #[p, .int .i64 i] w fun e w' => e = .returned (.bool false) ∧ w = w' := by
  have hc := nhas_of p n i w h
  rw [hi] at hc
  go_enter Try.func28, Try.ntmps28
  go_wp2_with fail
  refine hc.mono ?_
  rintro e w' ⟨rfl, rfl⟩
  go_wp2
  go_ret
  exact ⟨rfl, rfl⟩

theorem putE_ok {k : Nat} {f t : Int} {n : Nat} (h : okP f t n) : putE k f t n = if k < 512 then 0 else 43 := by
  obtain ⟨h1, h2, h3, h4, h5⟩ := h
  have e1 : nodeP f = true := decide_eq_true ⟨h1, h2⟩
  have e2 : nodeP t = true := decide_eq_true ⟨h3, h4⟩
  unfold putE
  rw [e1, e2, if_pos rfl, if_pos rfl, if_pos h5]

/-- What Copy leaves where there is a packet p at that place. -/
def CopyEnds (base g : Nat) (v : Value) (ps : List Pkt) (p : Pkt) (w : World) (e : Ending) (w' : World) : Prop :=
  e = .returned (.bool (decide (ps.length < 512))) ∧ ∃ v' ps', IsN w' base g v' ps' ∧ Kept (NB g v) w w' ∧ (v'.ownBlock = v.ownBlock ∨ ∀ k, v'.ownBlock = some k → w.heap.size ≤ k) ∧
    (ps.length < 512 → ∃ A n c, ps' = ps ++ [⟨p.f, p.t, A, n, c, p.xs⟩] ∧ ∀ k, (Value.slice A n c).ownBlock = some k → w.heap.size ≤ k) ∧ (¬ ps.length < 512 → v' = v ∧ ps' = ps)

set_option maxHeartbeats 800000 in
theorem ncopy_yes (base g : Nat) (v : Value) (ps : List Pkt) (k : Nat) (p : Pkt) (w : World) (h : IsN w base g v ps) (hp : ps[k]? = some p) :
    Calls Try.prog 28 #[.pointer (some ⟨g, 0, none⟩), .int .i64 (k : Int)] w (CopyEnds base g v ps p w) := by
  have hk : k < ps.length := (List.getElem?_eq_some_iff.1 hp).1
  have hpk : ps[k] = p := (List.getElem?_eq_some_iff.1 hp).2
  have hpm : p ∈ ps := List.mem_of_getElem? hp
  clear hp
  have hi : hasB (k : Int) ps.length = true := decide_eq_true ⟨by omega, by omega⟩
  have hc := nhas_of _ ps.length (k : Int) w (nlen_any base g v ps w h)
  rw [hi] at hc
  clear hi
  have h512 := h.len
  have hok := putE_ok (k := ps.length) (h.ok p hpm)
  obtain ⟨hx, hxn⟩ := own_has (h.dat p hpm)
  have hput := nput_any base g v ps p.f p.t p.A p.n p.c w.heap.size p.xs w h hx (Nat.le_refl _) hxn
  obtain ⟨Av, nv, cv, rfl, hnv, hncv, hcm, hrv, _, _⟩ := h.row.form
  have hnv' : Hid (ps.length = nv) := hide (by have := hnv.out; simpa using this)
  have hkn : k < nv := by rw [← hnv'.out]; exact hk
  obtain ⟨gb, rfl, hra, hth, hgl⟩ := hrv k (by simpa using hk)
  have hcell : (ps.map Pkt.cells)[k]'(by simpa using hk) = [(.int .i64 p.f : Value), .int .i64 p.t, .slice p.A p.n p.c] := by simp [Pkt.cells, hpk]
  rw [hcell] at hra
  have c0 := (row_cells h.blk 0).1
  simp only [List.getElem?_toArray, List.getElem?_cons_zero] at c0
  have r0 := hra 0 _ rfl
  have r1 := hra 1 _ rfl
  have r2 := hra 2 _ rfl
  have hkb : k < 512 := by omega
  have HE := hide hok
  have HU := hide hput
  clear hrv hcell hra hth hok hput hx hxn hpk hnv
  simp only [Nat.add_zero] at r0
  go_enter Try.func28, Try.ntmps28
  go_wp2_with fail
  refine hc.mono ?_
  rintro e w' ⟨rfl, rfl⟩
  go_wp2_with fail
  refine HU.out.mono ?_
  rintro e w2 ⟨rfl, v', ps', h1, h2, h3, h4, h5⟩
  rw [HE.out] at h4 h5 ⊢
  by_cases hl : ps.length < 512
  · rw [if_pos hl] at h4 h5 ⊢
    have hd : decide (ps.length < 512) = true := decide_eq_true hl
    have h5' := hide (h5 rfl)
    have HD := hide hd
    have HL := hide hl
    clear h4 h5 hd hl
    go_wp2
    go_ret
    exact ⟨by rw [HD.out]; rfl, v', ps', h1, h2, h3, fun _ => h5'.out, fun hn => absurd HL.out hn⟩
  · rw [if_neg hl] at h4 h5 ⊢
    have hd : decide (ps.length < 512) = false := decide_eq_false hl
    have h4' := hide (h4 (by decide))
    have HD := hide hd
    have HL := hide hl
    clear h4 h5 hd hl
    go_wp2
    go_ret
    exact ⟨by rw [HD.out]; rfl, v', ps', h1, h2, h3, fun hn => absurd hn HL.out, fun _ => h4'.out⟩

/-- The same packet, wherever its data lie. -/
def Alike (p q : Pkt) : Prop := p.f = q.f ∧ p.t = q.t ∧ p.xs = q.xs

/-- What List leaves. -/
def ListEnds (ps : List Pkt) (w : World) (e : Ending) (w' : World) : Prop :=
  ∃ (v : Value) (qs : List Pkt), e = .returned v ∧ OwnR w' w.heap.size 34 3 v (qs.map Pkt.cells) ∧ qs.length = ps.length ∧ (∀ q ∈ qs, Own w' w.heap.size q.sl q.xs) ∧ (∀ (j : Nat) p q, ps[j]? = some p → qs[j]? = some q → Alike p q) ∧ Below w.heap.size w w'

theorem nlist_nil (w : World) : Calls Try.prog 31 #[.pointer none] w fun e w' => e = .returned (.slice none 0 0) ∧ w = w' := by
  go_enter Try.func31, Try.ntmps31
  go_wp2
  go_ret
  exact ⟨rfl, rfl⟩

set_option maxHeartbeats 1600000 in
set_option maxRecDepth 20000 in
theorem nlist_any (base g : Nat) (v : Value) (ps : List Pkt) (w : World) (h : IsN w base g v ps) : Calls Try.prog 31 #[.pointer (some ⟨g, 0, none⟩)] w (ListEnds ps w) := by
  have h512 := h.len
  obtain ⟨Av, nv, cv, rfl, hnv, hncv, hcm, hrv, _, _⟩ := h.row.form
  have hnv' : Hid (ps.length = nv) := hide (by have := hnv.out; simpa using this)
  have hn5 : nv ≤ 512 := by rw [← hnv'.out]; exact h512
  have c0 := (row_cells h.blk 0).1
  simp only [List.getElem?_toArray, List.getElem?_cons_zero] at c0
  clear hnv
  go_enter Try.func31, Try.ntmps31
  go_wp2
  go_loopw [3, 13] (fun s i wr => ∃ (j : Nat) (qs : List Pkt) (A : Option Addr) (n c : Nat), j ≤ nv ∧ i = .int .i64 (j : Int) ∧ s = .slice A n c ∧ Hid (qs.length = j) ∧ OwnR wr w.heap.size 34 3 (.slice A n c) (qs.map Pkt.cells) ∧ (∀ q ∈ qs, Own wr w.heap.size q.sl q.xs) ∧ (∀ (j : Nat) p q, ps[j]? = some p → qs[j]? = some q → Alike p q) ∧ Below w.heap.size w wr) (fun _ i _ => nv - (intOf i).toNat)
  case atStart => exact ⟨0, [], none, 0, 0, Nat.zero_le _, rfl, rfl, rfl, OwnR.nil _ _ _ _, by simp, by simp, Below.refl _ _⟩
  case round =>
    obtain ⟨j, qs, A, n, c, hj, rfl, rfl, hq, ho, hd, hal, hb⟩ := hrel
    by_cases hlt : j < nv
    · have hjl : j < ps.length := by rw [hnv'.out]; exact hlt
      obtain ⟨gb, rfl, hra, _, hgl⟩ := hrv j (by simpa using hjl)
      have hcell : (ps.map Pkt.cells)[j]'(by simpa using hjl) = ps[j].cells := by simp
      rw [hcell] at hra
      have hpm : ps[j] ∈ ps := List.getElem_mem hjl
      have hpj : ps[j]? = some ps[j] := List.getElem?_eq_getElem hjl
      generalize ps[j] = p at *
      have hra' : wr.rangeAt gb (j * 3) [(.int .i64 p.f : Value), .int .i64 p.t, .slice p.A p.n p.c] := fun i u hu => by
        rw [hb.cell (p := ⟨gb, j * 3 + i, none⟩) hgl]
        exact hra i u hu
      obtain ⟨hx, hxn⟩ := own_has ((h.dat p hpm).below hb)
      have hz := hb.size
      have hokp := (h.ok p hpm).2.2.2.2
      have hil : (j : Int) < (nv : Int) := by omega
      have hlenq : qs.length = n := by
        obtain ⟨A', n', c', e, hn', _⟩ := ho.form
        injection e with e1 e2 e3
        subst e1 e2 e3
        have := hn'.out
        simpa using this
      have HAL := hide hal
      have HHD := hide hd
      have HPJ := hide hpj
      have hpx : p.n = p.xs.length := hxn.symm
      have hp6 : p.n ≤ 65536 := by omega
      have HXN := hide hxn
      clear hra hcell hal hd hpj hrv hpx hxn hlenq hokp
      go_upto_region 7 with (refine wpList_load_mid rfl 34 _ rfl gb (j * 3) (by simp [Act.eval, Act.put]) [(.int .i64 p.f : Value), .int .i64 p.t, .slice p.A p.n p.c] _ hra' Try.underlying34 rfl (by kernel_rfl) ?_)
      have hp1 := heap_alloc_new wr (.cells #[.int .i64 p.f, .int .i64 p.t, .slice p.A p.n p.c] 34)
      have hb1 : Below wr.heap.size wr (wr.alloc (.cells #[.int .i64 p.f, .int .i64 p.t, .slice p.A p.n p.c] 34)) := by go_grown
      have hx1 := hx.alloc (Nat.le_refl _) (.cells #[.int .i64 p.f, .int .i64 p.t, .slice p.A p.n p.c] 34)
      generalize wr.alloc (.cells #[.int .i64 p.f, .int .i64 p.t, .slice p.A p.n p.c] 34) = w1 at *
      have hcl := nclone_any p.f p.t p.A p.n p.c wr.heap.size p.xs w1 hx1 hb1.size HXN.out (by omega)
      have ho1 := ho.below hb1
      clear hra'
      have hz1 := hb1.size
      go_wp2_with (refine wpList_load_row rfl 34 _ rfl wr.heap.size rfl _ _ _ _ hp1 Try.underlying34 rfl (by kernel_rfl) ?_)
      refine hcl.mono ?_
      rintro e w2 ⟨A2, n2, c2, rfl, hn2, ho2, hb2⟩
      have hz2 := hb2.size
      have ho2a := (ho1.below hb2).below ((Below.refl _ _).alloc (Nat.le_refl _) (.cells #[.int .i64 p.f, .int .i64 p.t, .slice A2 n2 c2] 34))
      have hone := one_row (heap_alloc_new w2 (.cells #[.int .i64 p.f, .int .i64 p.t, .slice A2 n2 c2] 34))
      have hwd : Wide 3 [[(.int .i64 p.f : Value), .int .i64 p.t, .slice A2 n2 c2]] := Pkt.wide [⟨p.f, p.t, A2, n2, c2, []⟩]
      have L1 : Hid ((qs.map Pkt.cells).length + 1 ≤ maxLen) := hide (by rw [List.length_map]; have := hq.out; unfold maxLen; omega)
      have L2 : Hid (((qs.map Pkt.cells).length + 1) * 40 ≤ 140737488355328) := hide (by rw [List.length_map]; have := hq.out; omega)
      have L3 : Hid (w.heap.size ≤ (w2.alloc (.cells #[.int .i64 p.f, .int .i64 p.t, .slice A2 n2 c2] 34)).heap.size) := hide (by simp; omega)
      have hsz3 : (w2.alloc (.cells #[.int .i64 p.f, .int .i64 p.t, .slice A2 n2 c2] 34)).heap.size = w2.heap.size + 1 := by simp
      have hb3 : Below w.heap.size w (w2.alloc (.cells #[.int .i64 p.f, .int .i64 p.t, .slice A2 n2 c2] 34)) := ((hb.trans (hb1.mono hz)).trans (hb2.mono (by omega))).alloc (by omega) _
      have HB3 := hide hb3
      have HSZ3 := hide hsz3
      clear hcl ho ho1 hb3 hsz3
      go_wp2_with (at_builtin; refine list_append_rows rowP _ (by rfl) (.tmp 17) (.tmp 20) (by rfl) w.heap.size (.slice A n c) _ (by rfl) ho2a ⟨w2.heap.size, 0, none⟩ 1 1 [[(.int .i64 p.f : Value), .int .i64 p.t, .slice A2 n2 c2]] (by rfl) hwd (by rfl) hone L1.out L2.out L3.out ?_; intro v3 w3 ho3 hgr3 hat3; obtain ⟨A3, n3, c3, rfl, hn3, hnc3, hx3⟩ := ho3.form)
      have hk3 := Kept.of_grown (F := fun k => (Value.slice A n c).ownBlock = some k) hgr3 (fun k hk => hk)
      have hb4 : Below w.heap.size w w3 := HB3.out.grown hgr3 (by have := HSZ3.out; omega) (fun k hk => (ho2a.lt k hk).1)
      have hnt : ∀ {b : Nat} {s : Value} {ys : List UInt8}, Own w2 b s ys → Own w3 b s ys := fun ho => (ho.alloc _).keep fun k hk => hk3.block k ((ho.alloc _).lt k hk).2 (fun e => by
        obtain ⟨cur, hc⟩ := own_typed (ho.alloc (.cells #[.int .i64 p.f, .int .i64 p.t, .slice A2 n2 c2] 34)) k hk
        obtain ⟨cur', hc'⟩ := ho2a.typed k e
        exact typed_ne hc hc' (by decide) rfl)
      go_roundw
      case rel =>
        refine ⟨j + 1, qs ++ [⟨p.f, p.t, A2, n2, c2, p.xs⟩], A3, n3, c3, by omega, by go_num, rfl, hide (by simp; exact hq.out), ?_, fun q hq' => ?_, fun i p' q' e1 e2 => ?_, hb4⟩
        · have e : (qs ++ [(⟨p.f, p.t, A2, n2, c2, p.xs⟩ : Pkt)]).map Pkt.cells = qs.map Pkt.cells ++ [[(.int .i64 p.f : Value), .int .i64 p.t, .slice A2 n2 c2]] := by simp [Pkt.cells]
          rw [e]
          exact ho3
        · rcases List.mem_append.1 hq' with h1 | h1
          · exact hnt (((HHD.out q h1).below hb1).below hb2)
          · simp at h1
            subst h1
            exact (hnt ho2).from_ (by omega)
        · rcases Nat.lt_or_ge i qs.length with hi | hi
          · rw [List.getElem?_append_left hi] at e2
            exact HAL.out i p' q' e1 e2
          · have hi2 : i = qs.length := by
              have := (List.getElem?_eq_some_iff.1 e2).1
              simp at this
              omega
            subst hi2
            have e3 := HPJ.out
            rw [← hq.out, e1] at e3
            injection e3 with e3
            simp at e2
            subst e2 e3
            exact ⟨rfl, rfl, rfl⟩
      case measure => simp [intOf]; omega
    · obtain rfl : j = nv := by omega
      go_wp2
      go_ret
      exact ⟨_, qs, rfl, ho, by rw [hq.out, hnv'.out], hd, hal, hb⟩
end Go.Proofs.Ytpbfibofjkinmaa
