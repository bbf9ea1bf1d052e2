/-
  AppStays: the walk. Condition: the slice reads as operations, at most 2^47 of them.
-/
import Derived.Test.YtogkgmbldmfpiaaAppTwice
import Derived.Test.YtogkgmbldmfpiaaAppChecks
set_option linter.unusedSimpArgs false
set_option linter.unusedVariables false
namespace Go.Proofs.Ytogkgmbldmfpiaa
open Go.RowKit

theorem run_kinds (S : Nat → Int) (k : Int) (R T : Nat) (t re im : Int) : (run S k R T t re im).2.1 = 1 ∨ ((run S k R T t re im).2.1 = 2 ∨ (run S k R T t re im).2.1 = 3) ∧ (run S k R T t re im).1 = S := by
  unfold run
  split
  · exact .inl rfl
  · split
    · exact .inl rfl
    · split
      · exact .inl rfl
      · split
        · split
          · exact .inl rfl
          · exact .inr ⟨.inr rfl, rfl⟩
        · split
          · exact .inl rfl
          · exact .inr ⟨.inl rfl, rfl⟩

theorem run_shows (S : Nat → Int) (k : Int) (R T : Nat) (t re im : Int) (h : (run S k R T t re im).2.1 = 1) : (run S k R T t re im).1 (2 * R) = (run S k R T t re im).2.2.1 ∧ (run S k R T t re im).1 (2 * R + 1) = (run S k R T t re im).2.2.2 := by
  revert h
  unfold run
  split
  · exact fun _ => ⟨rfl, rfl⟩
  · split
    · exact fun _ => ⟨upd_re _ _ _ _, upd_im _ _ _ _⟩
    · split
      · exact fun _ => ⟨rfl, rfl⟩
      · split
        · split
          · exact fun _ => ⟨upd_re _ _ _ _, upd_im _ _ _ _⟩
          · exact fun e => by have e' : (3 : Int) = 1 := e; omega
        · split
          · exact fun _ => ⟨upd_re _ _ _ _, upd_im _ _ _ _⟩
          · exact fun e => by have e' : (2 : Int) = 1 := e; omega

/-- What the statement asks of one operation. -/
theorem stays_facts {S : Nat → Int} (hS : okS S) (o : Opv) :
    (∃ R : Nat, R < 8 ∧ o.r = R ∧ chk o.k o.r o.t o.re o.im = 0 ∧ (appO S o).2.1 = 1 ∧ (appO S o).1 (2 * R) = (appO S o).2.2.1 ∧ (appO S o).1 (2 * R + 1) = (appO S o).2.2.2 ∧ (o.k = 1 → (appO S o).1 = S)) ∨
    (((appO S o).2.1 = 2 ∨ (appO S o).2.1 = 3) ∧ chk o.k o.r o.t o.re o.im = 0 ∧ (appO S o).1 = S) ∨ ((appO S o).2.1 = 0 ∧ chk o.k o.r o.t o.re o.im = 22 ∧ (appO S o).1 = S) := by
  by_cases h : rightOp o.k o.r o.t o.re o.im
  · have hc : chk o.k o.r o.t o.re o.im = 0 := if_pos h
    have e : appO S o = run S o.k o.r.toNat o.t.toNat o.t o.re o.im := if_pos ⟨hS, h⟩
    obtain ⟨R, T, e1, e2, hR, hT, _, _⟩ := right_parts h
    rw [e]
    rcases run_kinds S o.k o.r.toNat o.t.toNat o.t o.re o.im with h1 | ⟨h2, h3⟩
    · obtain ⟨a, b⟩ := run_shows S o.k o.r.toNat o.t.toNat o.t o.re o.im h1
      refine .inl ⟨o.r.toNat, by omega, by omega, hc, h1, a, b, fun hk => ?_⟩
      unfold run
      rw [if_pos hk]
    · exact .inr (.inl ⟨h2, hc, h3⟩)
  · have hc : chk o.k o.r o.t o.re o.im = 22 := if_neg h
    have e : appO S o = (S, 0, 0, 0) := if_neg fun x => h x.2
    rw [e]
    exact .inr (.inr ⟨rfl, hc, rfl⟩)

theorem one_more' {w : World} {g : Nat} {o x : Obj} (h : w.heap[g]? = some o) : (w.alloc x).heap[g]? = some o := (Below.heap_alloc w x g (Array.getElem?_eq_some_iff.1 h).1).trans h

/-- Memory within a round. -/
structure SW (w : World) (S T : Nat → Int) (ov : Opv) (kd x y : Int) (g3 g5 g6 : Nat) (wr : World) : Prop where
  b1 : Blk wr g3 S
  b2 : Blk wr g6 T
  op : wr.heap[g5]? = some (.cells #[.int .i64 ov.k, .int .i64 ov.r, .int .i64 ov.t, .int .i64 ov.re, .int .i64 ov.im] 40 (0, 0))
  rs : wr.heap[g6 + 1]? = some (.cells #[.int .i64 kd, .int .i64 x, .int .i64 y] 50 (0, 0))
  bl : Below w.heap.size w wr
  ne : g6 ≠ g3
theorem SW.below {w : World} {S T : Nat → Int} {ov : Opv} {kd x y : Int} {g3 g5 g6 : Nat} {wr wx : World} (h : SW w S T ov kd x y g3 g5 g6 wr) (hb : Below wr.heap.size wr wx) : SW w S T ov kd x y g3 g5 g6 wx :=
  ⟨h.b1.below hb h.b1.lt, h.b2.below hb h.b2.lt, (hb.block _ (Array.getElem?_eq_some_iff.1 h.op).1).trans h.op, (hb.block _ (Array.getElem?_eq_some_iff.1 h.rs).1).trans h.rs, h.bl.trans (hb.mono h.bl.size), h.ne⟩
theorem SW.drew {w : World} {S T : Nat → Int} {ov : Opv} {kd x y : Int} {g3 g5 g6 : Nat} {wr : World} (h : SW w S T ov kd x y g3 g5 g6 wr) : SW w S T ov kd x y g3 g5 g6 wr.drew := ⟨⟨h.b1.at_⟩, ⟨h.b2.at_⟩, h.op, h.rs, h.bl.drew, h.ne⟩
theorem SW.drewN {w : World} {S T : Nat → Int} {ov : Opv} {kd x y : Int} {g3 g5 g6 : Nat} {wr : World} (h : SW w S T ov kd x y g3 g5 g6 wr) (n : Nat) : SW w S T ov kd x y g3 g5 g6 (wr.drewN n) := ⟨⟨h.b1.at_⟩, ⟨h.b2.at_⟩, h.op, h.rs, below_drewN h.bl n, h.ne⟩

set_option maxRecDepth 100000 in
set_option maxHeartbeats 16000000 in
theorem stays_walk (A : Option Addr) (c : Nat) (ts : List Opv) (w : World) (hO : HasO w w.heap.size A ts) (hn : ts.length ≤ 140737488351232) :
    Calls Try.prog 8 #[.slice A ts.length c] w fun e w' => e = .returned (.bool true) ∧ Below w.heap.size w w' := by
  have vz := valid_any Z0
  rw [show vB Z0 = true from decide_eq_true okS_Z0, cl_Z0] at vz
  have VZ := hide vz
  clear vz
  go_enter Try.func8, Try.ntmps8
  go_wp2_with fail
  refine (head4_any _).mono ?_
  rintro e w0 ⟨rfl, hb0⟩
  go_wp2_with fail
  refine (VZ.out _).mono ?_
  rintro e w1 ⟨rfl, hb1'⟩
  have hb1 : Below w.heap.size w w1 := hb0.trans (hb1'.mono hb0.size)
  have z1 := hb1.size
  clear hb0 hb1' VZ
  go_wp2_with (refine wpList_store_row rfl 45 _ _ rfl w1.heap.size #[.int .i64 0, .int .i64 0, .int .i64 0, .int .i64 0, .int .i64 0, .int .i64 0, .int .i64 0, .int .i64 0, .int .i64 0, .int .i64 0, .int .i64 0, .int .i64 0, .int .i64 0, .int .i64 0, .int .i64 0, .int .i64 0] rfl rfl _ _ (heap_alloc_new w1 _) size_state rfl (by rw [← cl_Z0]; exact one_cl Z0) ?_; rw [new_row])
  rw [← cl_Z0]
  go_loopw [18] (fun i wr => ∃ k : Nat, k ≤ ts.length ∧ i = .int .i64 k ∧ Scripted w w1.heap.size wr) (fun i _ => ts.length - (intOf i).toNat)
  case atStart => exact ⟨0, Nat.zero_le _, rfl, Z0, okS_Z0, Blk.new w1 Z0, hb1.alloc z1 _⟩
  case round =>
    obtain ⟨k, hk, rfl, S, hS, hB, hbl⟩ := hrel
    by_cases hlt : k < ts.length
    · obtain ⟨b, o, rfl, hbw, c0, c1, c2, c3, c4⟩ := hO.below hbl k hlt
      generalize ts[k] = ov at *
      have hzr := hB.lt
      have q0 : (0 : Int) ≤ (k : Int) := by omega
      have q1 : (k : Int) < (ts.length : Int) := by omega
      go_upto_region 7 with fail
      have OP : (wr.alloc (.cells #[.int .i64 ov.k, .int .i64 ov.r, .int .i64 ov.t, .int .i64 ov.re, .int .i64 ov.im] 40)).heap[wr.heap.size]? = some (.cells #[.int .i64 ov.k, .int .i64 ov.r, .int .i64 ov.t, .int .i64 ov.re, .int .i64 ov.im] 40 (0, 0)) := heap_alloc_new wr _
      replace hB := hB.alloc (.cells #[.int .i64 ov.k, .int .i64 ov.r, .int .i64 ov.t, .int .i64 ov.re, .int .i64 ov.im] 40)
      replace hbl := hbl.alloc hbl.size (.cells #[.int .i64 ov.k, .int .i64 ov.r, .int .i64 ov.t, .int .i64 ov.re, .int .i64 ov.im] 40)
      have hzo : wr.heap.size < (wr.alloc (.cells #[.int .i64 ov.k, .int .i64 ov.r, .int .i64 ov.t, .int .i64 ov.re, .int .i64 ov.im] 40)).heap.size := by simp
      clear c0 c1 c2 c3 c4
      generalize wr.alloc (.cells #[.int .i64 ov.k, .int .i64 ov.r, .int .i64 ov.t, .int .i64 ov.re, .int .i64 ov.im] 40) = w2 at *
      generalize wr.heap.size = g5 at *
      obtain ⟨p0, p1, p2, p3, p4⟩ := cells5 OP
      have HB := hide hB.at_
      have HO := hide OP
      clear OP
      go_wp2_with (refine wpList_load_row rfl 45 _ rfl w1.heap.size rfl _ _ _ _ HB.out Try.underlying45 rfl (size_cl S) ?_)
      refine (apply_gen S ov _).mono ?_
      rintro e w3 ⟨rfl, hb3⟩
      have OP := (hb3.block g5 hzo).trans HO.out
      replace hB := hB.below hb3 hB.lt
      replace hbl := hbl.trans (hb3.mono hbl.size)
      have hz3 := hB.lt
      clear HB HO hb3 p0 p1 p2 p3 p4
      have facts := hide (stays_facts hS ov)
      have hT1 : okS ((appO S ov).1) := okS_app hS _ _ _ _ _
      generalize ekd : (appO S ov).2.1 = kd at *
      generalize ex : (appO S ov).2.2.1 = x at *
      generalize ey : (appO S ov).2.2.2 = y at *
      clear ekd ex ey
      go_upto_region 8 with (refine wpList_store_row rfl 45 _ _ rfl w3.heap.size (cl ((appO S ov).1)).toArray rfl rfl _ _ (old2 w3 _ _) (size_cl _) (cl_size _).symm (one_cl _) ?_; rw [alloc_set2])
      have A4 : SW w S ((appO S ov).1) ov kd x y w1.heap.size g5 w3.heap.size ((w3.alloc (.cells (cl ((appO S ov).1)).toArray 45)).alloc (.cells #[.int .i64 kd, .int .i64 x, .int .i64 y] 50)) := by
        refine ⟨(hB.alloc _).alloc _, (Blk.new w3 _).alloc _, one_more' (one_more' OP), ?_, (hbl.alloc hbl.size _).alloc (by have := hbl.size; simp; omega) _, by omega⟩
        have := heap_alloc_new (w3.alloc (.cells (cl ((appO S ov).1)).toArray 45)) (.cells #[.int .i64 kd, .int .i64 x, .int .i64 y] 50)
        simpa using this
      clear hB hbl OP hz3 hzo
      generalize (w3.alloc (.cells (cl ((appO S ov).1)).toArray 45)).alloc (.cells #[.int .i64 kd, .int .i64 x, .int .i64 y] 50) = w4 at *
      generalize w3.heap.size = g6 at *
      have v1 := valid_any ((appO S ov).1)
      rw [show vB ((appO S ov).1) = true from decide_eq_true hT1] at v1
      have V1 := hide v1
      clear v1 hT1
      have cc := check_any ov.k ov.r ov.t ov.re ov.im
      have rr := reads_any ov.k ov.r ov.t ov.re ov.im
      have hb0 : ∃ b0 : Bool, ∃ cv : Int, (kd == 0) = b0 ∧ chk ov.k ov.r ov.t ov.re ov.im = cv ∧ (cv != 0) = b0 := by
        rcases facts.out with ⟨R, _, _, h1, h2, _⟩ | ⟨h2, h1, _⟩ | ⟨h2, h1, _⟩
        · exact ⟨false, 0, by rw [h2]; rfl, h1, rfl⟩
        · exact ⟨false, 0, by rcases h2 with h2 | h2 <;> (rw [h2]; rfl), h1, rfl⟩
        · exact ⟨true, 22, by rw [h2]; rfl, h1, rfl⟩
      obtain ⟨b0, cv, e0, e1, e2⟩ := hb0
      rw [e1] at cc
      have C1 := hide cc
      clear cc e1
      by_cases hk1 : ov.k = 1
      · have hTS : (appO S ov).1 = S := by
          rcases facts.out with ⟨R, _, _, _, _, _, _, h⟩ | ⟨_, _, h⟩ | ⟨_, _, h⟩
          · exact h hk1
          · exact h
          · exact h
        have ke := fun w => equal_state ((appO S ov).1) S w
        rw [show sameS ((appO S ov).1) S = true from by rw [hTS]; exact sameS_refl S] at ke
        rw [show (ov.k == 1) = true from by simpa using hk1] at rr
        have R1 := hide rr
        clear rr hk1 hTS
        go_wp2_with fail
        refine wp_region_held_drew (S := fun w' => SW w S ((appO S ov).1) ov kd x y w1.heap.size g5 g6 w') (by kernel_rfl) A4.drew (fun hHeld => ?_)
        refine wpAnyH_take (i := 0) (oi := _) (v := .agg (cl ((appO S ov).1)).toArray) rfl (by kernel_rfl) (by kernel_rfl) (by kernel_rfl) (fun _ _ _ h => h) (yieldsIf_load_mid (by rfl) 45 (.tmp 6) rfl (g6) 0 rfl (cl ((appO S ov).1)) _ (fun w' h => range_of h.b2.at_) Try.underlying45 rfl (size_cl ((appO S ov).1))) hHeld ?_
        (try simp only [Act.put, List.setIfInBounds_toArray, List.set_cons_zero, List.set_cons_succ, List.getElem_toArray, List.getElem_cons_zero, List.getElem_cons_succ])
        refine wpAnyH_ready (rs := [1]) (by kernel_rfl) (by simp) ?_
        refine AllReadyH.cons (o := _) rfl (fun K hK => ?_) AllReadyH.nil
        simp only [List.getElem_toArray, List.getElem_cons_zero, List.getElem_cons_succ]
        go_simp
        refine (V1.out _).mono ?_
        rintro e w5 ⟨rfl, hb⟩
        have hX := A4.drew.below hb
        go_wp2_with fail
        refine hK.out _ _ hX (fun hHeld => ?_)
        clear hK hb hX
        (try simp only [Act.put, List.setIfInBounds_toArray, List.set_cons_zero, List.set_cons_succ, List.getElem_toArray, List.getElem_cons_zero, List.getElem_cons_succ])
        have A5 := hHeld
        refine wpAnyH_take (i := 2) (oi := _) (v := .bool false) rfl (by kernel_rfl) (by kernel_rfl) (by kernel_rfl) (fun _ _ _ h => h) (Or.inl ⟨by rfl, fun w' hSw => by go_simp⟩) hHeld ?_
        (try simp only [Act.put, List.setIfInBounds_toArray, List.set_cons_zero, List.set_cons_succ, List.getElem_toArray, List.getElem_cons_zero, List.getElem_cons_succ])
        refine wpAnyH_take (i := 3) (oi := _) (v := .bool false) rfl (by kernel_rfl) (by kernel_rfl) (by kernel_rfl) (fun _ _ _ h => h) (Or.inl ⟨by rfl, fun w' hSw => by go_simp⟩) hHeld ?_
        (try simp only [Act.put, List.setIfInBounds_toArray, List.set_cons_zero, List.set_cons_succ, List.getElem_toArray, List.getElem_cons_zero, List.getElem_cons_succ])
        refine wpAnyH_take (i := 4) (oi := _) (v := .agg #[.int .i64 ov.k, .int .i64 ov.r, .int .i64 ov.t, .int .i64 ov.re, .int .i64 ov.im]) rfl (by kernel_rfl) (by kernel_rfl) (by kernel_rfl) (fun _ _ _ h => h) (Or.inl ⟨by rfl, fun w' hSw => by obtain ⟨q0, q1, q2, q3, q4⟩ := cells5 hSw.op; go_simp⟩) hHeld ?_
        (try simp only [Act.put, List.setIfInBounds_toArray, List.set_cons_zero, List.set_cons_succ, List.getElem_toArray, List.getElem_cons_zero, List.getElem_cons_succ])
        refine wpAnyH_ready (rs := [5]) (by kernel_rfl) (by simp) ?_
        refine AllReadyH.cons (o := _) rfl (fun K hK => ?_) AllReadyH.nil
        simp only [List.getElem_toArray, List.getElem_cons_zero, List.getElem_cons_succ]
        go_simp
        refine (R1.out _).mono ?_
        rintro e w6 ⟨rfl, hb⟩
        have hX := A5.below hb
        go_wp2_with fail
        refine hK.out _ _ hX (fun hHeld => ?_)
        clear hK hb hX
        (try simp only [Act.put, List.setIfInBounds_toArray, List.set_cons_zero, List.set_cons_succ, List.getElem_toArray, List.getElem_cons_zero, List.getElem_cons_succ])
        have A6 := hHeld
        refine wpAnyH_take (i := 6) (oi := _) (v := .bool true) rfl (by kernel_rfl) (by kernel_rfl) (by kernel_rfl) (fun _ _ _ h => h) (Or.inl ⟨by rfl, fun w' hSw => by go_simp⟩) hHeld ?_
        (try simp only [Act.put, List.setIfInBounds_toArray, List.set_cons_zero, List.set_cons_succ, List.getElem_toArray, List.getElem_cons_zero, List.getElem_cons_succ])
        refine wpAnyH_take (i := 7) (oi := _) (v := .agg (cl ((appO S ov).1)).toArray) rfl (by kernel_rfl) (by kernel_rfl) (by kernel_rfl) (fun _ _ _ h => h) (yieldsIf_load_mid (by rfl) 45 (.tmp 6) rfl (g6) 0 rfl (cl ((appO S ov).1)) _ (fun w' h => range_of h.b2.at_) Try.underlying45 rfl (size_cl ((appO S ov).1))) hHeld ?_
        (try simp only [Act.put, List.setIfInBounds_toArray, List.set_cons_zero, List.set_cons_succ, List.getElem_toArray, List.getElem_cons_zero, List.getElem_cons_succ])
        refine wpAnyH_take (i := 8) (oi := _) (v := .agg (cl (S)).toArray) rfl (by kernel_rfl) (by kernel_rfl) (by kernel_rfl) (fun _ _ _ h => h) (yieldsIf_load_mid (by rfl) 45 (.tmp 3) rfl (w1.heap.size) 0 rfl (cl (S)) _ (fun w' h => range_of h.b1.at_) Try.underlying45 rfl (size_cl (S))) hHeld ?_
        (try simp only [Act.put, List.setIfInBounds_toArray, List.set_cons_zero, List.set_cons_succ, List.getElem_toArray, List.getElem_cons_zero, List.getElem_cons_succ])
        refine wpAnyH_take (i := 9) (oi := _) (v := .bool false) rfl (by kernel_rfl) (by kernel_rfl) (by kernel_rfl) (fun _ _ _ h => h) (Or.inl ⟨by rfl, fun w' hSw => by go_simp⟩) hHeld ?_
        (try simp only [Act.put, List.setIfInBounds_toArray, List.set_cons_zero, List.set_cons_succ, List.getElem_toArray, List.getElem_cons_zero, List.getElem_cons_succ])
        refine wpAnyH_take (i := 10) (oi := _) (v := .bool false) rfl (by kernel_rfl) (by kernel_rfl) (by kernel_rfl) (fun _ _ _ h => h) (Or.inl ⟨by rfl, fun w' hSw => by go_simp⟩) hHeld ?_
        (try simp only [Act.put, List.setIfInBounds_toArray, List.set_cons_zero, List.set_cons_succ, List.getElem_toArray, List.getElem_cons_zero, List.getElem_cons_succ])
        refine wpAnyH_take (i := 11) (oi := _) (v := .bool false) rfl (by kernel_rfl) (by kernel_rfl) (by kernel_rfl) (fun _ _ _ h => h) (Or.inl ⟨by rfl, fun w' hSw => by go_simp⟩) hHeld ?_
        (try simp only [Act.put, List.setIfInBounds_toArray, List.set_cons_zero, List.set_cons_succ, List.getElem_toArray, List.getElem_cons_zero, List.getElem_cons_succ])
        refine wpAnyH_take (i := 12) (oi := _) (v := .bool false) rfl (by kernel_rfl) (by kernel_rfl) (by kernel_rfl) (fun _ _ _ h => h) (Or.inl ⟨by rfl, fun w' hSw => by go_simp⟩) hHeld ?_
        (try simp only [Act.put, List.setIfInBounds_toArray, List.set_cons_zero, List.set_cons_succ, List.getElem_toArray, List.getElem_cons_zero, List.getElem_cons_succ])
        refine wpAnyH_take (i := 13) (oi := _) (v := .pointer (some ⟨g6 + 1, 0, none⟩)) rfl (by kernel_rfl) (by kernel_rfl) (by kernel_rfl) (fun _ _ _ h => h) (Or.inl ⟨by rfl, fun w' hSw => by go_simp⟩) hHeld ?_
        (try simp only [Act.put, List.setIfInBounds_toArray, List.set_cons_zero, List.set_cons_succ, List.getElem_toArray, List.getElem_cons_zero, List.getElem_cons_succ])
        refine wpAnyH_take (i := 14) (oi := _) (v := .int .i64 kd) rfl (by kernel_rfl) (by kernel_rfl) (by kernel_rfl) (fun _ _ _ h => h) (Or.inl ⟨by rfl, fun w' hSw => by obtain ⟨q0, q1, q2⟩ := cells_3 hSw.rs; go_simp⟩) hHeld ?_
        (try simp only [Act.put, List.setIfInBounds_toArray, List.set_cons_zero, List.set_cons_succ, List.getElem_toArray, List.getElem_cons_zero, List.getElem_cons_succ])
        refine wpAnyH_take (i := 15) (oi := _) (v := .bool b0) rfl (by kernel_rfl) (by kernel_rfl) (by kernel_rfl) (fun _ _ _ h => h) (Or.inl ⟨by rfl, fun w' hSw => by go_simp⟩) hHeld ?_
        (try simp only [Act.put, List.setIfInBounds_toArray, List.set_cons_zero, List.set_cons_succ, List.getElem_toArray, List.getElem_cons_zero, List.getElem_cons_succ])
        refine wpAnyH_take (i := 16) (oi := _) (v := .agg #[.int .i64 ov.k, .int .i64 ov.r, .int .i64 ov.t, .int .i64 ov.re, .int .i64 ov.im]) rfl (by kernel_rfl) (by kernel_rfl) (by kernel_rfl) (fun _ _ _ h => h) (Or.inl ⟨by rfl, fun w' hSw => by obtain ⟨q0, q1, q2, q3, q4⟩ := cells5 hSw.op; go_simp⟩) hHeld ?_
        (try simp only [Act.put, List.setIfInBounds_toArray, List.set_cons_zero, List.set_cons_succ, List.getElem_toArray, List.getElem_cons_zero, List.getElem_cons_succ])
        refine wpAnyH_ready (rs := [17]) (by kernel_rfl) (by simp) ?_
        refine AllReadyH.cons (o := _) rfl (fun K hK => ?_) AllReadyH.nil
        simp only [List.getElem_toArray, List.getElem_cons_zero, List.getElem_cons_succ]
        go_simp
        refine (C1.out _).mono ?_
        rintro e w7 ⟨rfl, hb⟩
        have hX := A6.below hb
        go_wp2_with fail
        refine hK.out _ _ hX (fun hHeld => ?_)
        clear hK hb hX
        (try simp only [Act.put, List.setIfInBounds_toArray, List.set_cons_zero, List.set_cons_succ, List.getElem_toArray, List.getElem_cons_zero, List.getElem_cons_succ])
        have A7 := hHeld
        refine wpAnyH_take (i := 18) (oi := _) (v := .bool b0) rfl (by kernel_rfl) (by kernel_rfl) (by kernel_rfl) (fun _ _ _ h => h) (Or.inl ⟨by rfl, fun w' hSw => by go_simp⟩) hHeld ?_
        (try simp only [Act.put, List.setIfInBounds_toArray, List.set_cons_zero, List.set_cons_succ, List.getElem_toArray, List.getElem_cons_zero, List.getElem_cons_succ])
        refine wpAnyH_take (i := 19) (oi := _) (v := .bool false) rfl (by kernel_rfl) (by kernel_rfl) (by kernel_rfl) (fun _ _ _ h => h) (Or.inl ⟨by rfl, fun w' hSw => by go_simp⟩) hHeld ?_
        (try simp only [Act.put, List.setIfInBounds_toArray, List.set_cons_zero, List.set_cons_succ, List.getElem_toArray, List.getElem_cons_zero, List.getElem_cons_succ])
        refine wpAnyH_take (i := 20) (oi := _) (v := .bool false) rfl (by kernel_rfl) (by kernel_rfl) (by kernel_rfl) (fun _ _ _ h => h) (Or.inl ⟨by rfl, fun w' hSw => by go_simp⟩) hHeld ?_
        (try simp only [Act.put, List.setIfInBounds_toArray, List.set_cons_zero, List.set_cons_succ, List.getElem_toArray, List.getElem_cons_zero, List.getElem_cons_succ])
        refine wpAnyH_done (by kernel_rfl) ?_ _
        clear A4 A5 A6
        go_wp2_with fail
        clear ke e0 e2
        rcases facts.out with ⟨R, hR, eR, _, rfl, hx, hy, _⟩ | hh
        · obtain ⟨q0, q1⟩ := A7.b2.reg R hR
          rw [hx] at q0
          rw [hy] at q1
          obtain ⟨q2, q3, q4, q5, q6⟩ := cells5 A7.op
          obtain ⟨q7, q8, q9⟩ := cells_3 A7.rs
          rw [eR] at q3
          have R0 : (0 : Int) ≤ (R : Int) := by omega
          have R8 : (R : Int) < 8 := by omega
          go_quiet (fail)
          have A8 := A7.drewN nq
          generalize w7.drewN nq = w8 at *
          have H6 := hide A8.b2.at_
          have H3 := hide A8.b1.at_
          have ne36 := A8.ne
          have B9 := A8.b1
          have bl9 := A8.bl
          go_wp2_with (first
            | (refine wpList_load_row rfl 45 (.tmp 6) rfl g6 rfl _ _ _ _ H6.out Try.underlying45 rfl (size_cl _) ?_)
            | (refine wpList_store_row rfl 45 _ _ rfl w1.heap.size (cl ((appO S ov).1)).toArray rfl rfl _ _ H3.out (size_cl _) ((cl_size _).trans (cl_size _).symm) (one_cl _) ?_))
          go_roundw
          case rel => exact ⟨k + 1, by omega, by go_num, (appO S ov).1, okS_app hS _ _ _ _ _, B9.set _, below_setRow bl9 z1 _⟩
          case measure => simp [intOf]; omega
        · have hTS : (appO S ov).1 = S := by
            rcases hh with ⟨_, _, h⟩ | ⟨_, _, h⟩ <;> exact h
          have n1 : (kd != 1) = true := by rcases hh with ⟨h | h, _, _⟩ | ⟨h, _, _⟩ <;> (rw [h]; rfl)
          have n2 : (kd == 1) = false := by rcases hh with ⟨h | h, _, _⟩ | ⟨h, _, _⟩ <;> (rw [h]; rfl)
          have ke := fun w => equal_state ((appO S ov).1) S w
          rw [show sameS ((appO S ov).1) S = true from by rw [hTS]; exact sameS_refl S] at ke
          clear hh hTS
          refine wp_region_held_drew (S := fun w' => SW w S ((appO S ov).1) ov kd x y w1.heap.size g5 g6 w') (by kernel_rfl) A7.drew (fun hHeld => ?_)
          refine wpAnyH_take (i := 0) (oi := _) (v := .pointer (some ⟨g6 + 1, 0, none⟩)) rfl (by kernel_rfl) (by kernel_rfl) (by kernel_rfl) (fun _ _ _ h => h) (Or.inl ⟨by rfl, fun w' hSw => by go_simp⟩) hHeld ?_
          (try simp only [Act.put, List.setIfInBounds_toArray, List.set_cons_zero, List.set_cons_succ, List.getElem_toArray, List.getElem_cons_zero, List.getElem_cons_succ])
          refine wpAnyH_take (i := 1) (oi := _) (v := .int .i64 kd) rfl (by kernel_rfl) (by kernel_rfl) (by kernel_rfl) (fun _ _ _ h => h) (Or.inl ⟨by rfl, fun w' hSw => by obtain ⟨q0, q1, q2⟩ := cells_3 hSw.rs; go_simp⟩) hHeld ?_
          (try simp only [Act.put, List.setIfInBounds_toArray, List.set_cons_zero, List.set_cons_succ, List.getElem_toArray, List.getElem_cons_zero, List.getElem_cons_succ])
          refine wpAnyH_take (i := 2) (oi := _) (v := .bool true) rfl (by kernel_rfl) (by kernel_rfl) (by kernel_rfl) (fun _ _ _ h => h) (Or.inl ⟨by rfl, fun w' hSw => by go_simp⟩) hHeld ?_
          (try simp only [Act.put, List.setIfInBounds_toArray, List.set_cons_zero, List.set_cons_succ, List.getElem_toArray, List.getElem_cons_zero, List.getElem_cons_succ])
          refine wpAnyH_take (i := 3) (oi := _) (v := .bool true) rfl (by kernel_rfl) (by kernel_rfl) (by kernel_rfl) (fun _ _ _ h => h) (Or.inl ⟨by rfl, fun w' hSw => by go_simp⟩) hHeld ?_
          (try simp only [Act.put, List.setIfInBounds_toArray, List.set_cons_zero, List.set_cons_succ, List.getElem_toArray, List.getElem_cons_zero, List.getElem_cons_succ])
          refine wpAnyH_take (i := 4) (oi := _) (v := .agg (cl ((appO S ov).1)).toArray) rfl (by kernel_rfl) (by kernel_rfl) (by kernel_rfl) (fun _ _ _ h => h) (yieldsIf_load_mid (by rfl) 45 (.tmp 6) rfl (g6) 0 rfl (cl ((appO S ov).1)) _ (fun w' h => range_of h.b2.at_) Try.underlying45 rfl (size_cl ((appO S ov).1))) hHeld ?_
          (try simp only [Act.put, List.setIfInBounds_toArray, List.set_cons_zero, List.set_cons_succ, List.getElem_toArray, List.getElem_cons_zero, List.getElem_cons_succ])
          refine wpAnyH_take (i := 5) (oi := _) (v := .agg (cl (S)).toArray) rfl (by kernel_rfl) (by kernel_rfl) (by kernel_rfl) (fun _ _ _ h => h) (yieldsIf_load_mid (by rfl) 45 (.tmp 3) rfl (w1.heap.size) 0 rfl (cl (S)) _ (fun w' h => range_of h.b1.at_) Try.underlying45 rfl (size_cl (S))) hHeld ?_
          (try simp only [Act.put, List.setIfInBounds_toArray, List.set_cons_zero, List.set_cons_succ, List.getElem_toArray, List.getElem_cons_zero, List.getElem_cons_succ])
          refine wpAnyH_take (i := 6) (oi := _) (v := .bool false) rfl (by kernel_rfl) (by kernel_rfl) (by kernel_rfl) (fun _ _ _ h => h) (Or.inl ⟨by rfl, fun w' hSw => by go_simp⟩) hHeld ?_
          (try simp only [Act.put, List.setIfInBounds_toArray, List.set_cons_zero, List.set_cons_succ, List.getElem_toArray, List.getElem_cons_zero, List.getElem_cons_succ])
          refine wpAnyH_take (i := 7) (oi := _) (v := .bool false) rfl (by kernel_rfl) (by kernel_rfl) (by kernel_rfl) (fun _ _ _ h => h) (Or.inl ⟨by rfl, fun w' hSw => by go_simp⟩) hHeld ?_
          (try simp only [Act.put, List.setIfInBounds_toArray, List.set_cons_zero, List.set_cons_succ, List.getElem_toArray, List.getElem_cons_zero, List.getElem_cons_succ])
          refine wpAnyH_take (i := 8) (oi := _) (v := .bool false) rfl (by kernel_rfl) (by kernel_rfl) (by kernel_rfl) (fun _ _ _ h => h) (Or.inl ⟨by rfl, fun w' hSw => by go_simp⟩) hHeld ?_
          (try simp only [Act.put, List.setIfInBounds_toArray, List.set_cons_zero, List.set_cons_succ, List.getElem_toArray, List.getElem_cons_zero, List.getElem_cons_succ])
          refine wpAnyH_take (i := 9) (oi := _) (v := .pointer (some ⟨g6 + 1, 0, none⟩)) rfl (by kernel_rfl) (by kernel_rfl) (by kernel_rfl) (fun _ _ _ h => h) (Or.inl ⟨by rfl, fun w' hSw => by go_simp⟩) hHeld ?_
          (try simp only [Act.put, List.setIfInBounds_toArray, List.set_cons_zero, List.set_cons_succ, List.getElem_toArray, List.getElem_cons_zero, List.getElem_cons_succ])
          refine wpAnyH_take (i := 10) (oi := _) (v := .int .i64 kd) rfl (by kernel_rfl) (by kernel_rfl) (by kernel_rfl) (fun _ _ _ h => h) (Or.inl ⟨by rfl, fun w' hSw => by obtain ⟨q0, q1, q2⟩ := cells_3 hSw.rs; go_simp⟩) hHeld ?_
          (try simp only [Act.put, List.setIfInBounds_toArray, List.set_cons_zero, List.set_cons_succ, List.getElem_toArray, List.getElem_cons_zero, List.getElem_cons_succ])
          refine wpAnyH_take (i := 11) (oi := _) (v := .bool false) rfl (by kernel_rfl) (by kernel_rfl) (by kernel_rfl) (fun _ _ _ h => h) (Or.inl ⟨by rfl, fun w' hSw => by go_simp⟩) hHeld ?_
          (try simp only [Act.put, List.setIfInBounds_toArray, List.set_cons_zero, List.set_cons_succ, List.getElem_toArray, List.getElem_cons_zero, List.getElem_cons_succ])
          refine wpAnyH_take (i := 12) (oi := _) (v := .bool false) rfl (by kernel_rfl) (by kernel_rfl) (by kernel_rfl) (fun _ _ _ h => h) (Or.inl ⟨by rfl, fun w' hSw => by go_simp⟩) hHeld ?_
          (try simp only [Act.put, List.setIfInBounds_toArray, List.set_cons_zero, List.set_cons_succ, List.getElem_toArray, List.getElem_cons_zero, List.getElem_cons_succ])
          refine wpAnyH_take (i := 13) (oi := _) (v := undef) rfl (by kernel_rfl) (by kernel_rfl) (by kernel_rfl) (fun _ _ _ h => h) (Or.inr ⟨by rfl, rfl⟩) hHeld ?_
          (try simp only [Act.put, List.setIfInBounds_toArray, List.set_cons_zero, List.set_cons_succ, List.getElem_toArray, List.getElem_cons_zero, List.getElem_cons_succ])
          refine wpAnyH_take (i := 14) (oi := _) (v := undef) rfl (by kernel_rfl) (by kernel_rfl) (by kernel_rfl) (fun _ _ _ h => h) (Or.inr ⟨by rfl, rfl⟩) hHeld ?_
          (try simp only [Act.put, List.setIfInBounds_toArray, List.set_cons_zero, List.set_cons_succ, List.getElem_toArray, List.getElem_cons_zero, List.getElem_cons_succ])
          refine wpAnyH_take (i := 15) (oi := _) (v := undef) rfl (by kernel_rfl) (by kernel_rfl) (by kernel_rfl) (fun _ _ _ h => h) (Or.inr ⟨by rfl, rfl⟩) hHeld ?_
          (try simp only [Act.put, List.setIfInBounds_toArray, List.set_cons_zero, List.set_cons_succ, List.getElem_toArray, List.getElem_cons_zero, List.getElem_cons_succ])
          refine wpAnyH_take (i := 16) (oi := _) (v := undef) rfl (by kernel_rfl) (by kernel_rfl) (by kernel_rfl) (fun _ _ _ h => h) (Or.inr ⟨by rfl, rfl⟩) hHeld ?_
          (try simp only [Act.put, List.setIfInBounds_toArray, List.set_cons_zero, List.set_cons_succ, List.getElem_toArray, List.getElem_cons_zero, List.getElem_cons_succ])
          refine wpAnyH_take (i := 17) (oi := _) (v := undef) rfl (by kernel_rfl) (by kernel_rfl) (by kernel_rfl) (fun _ _ _ h => h) (Or.inr ⟨by rfl, rfl⟩) hHeld ?_
          (try simp only [Act.put, List.setIfInBounds_toArray, List.set_cons_zero, List.set_cons_succ, List.getElem_toArray, List.getElem_cons_zero, List.getElem_cons_succ])
          refine wpAnyH_take (i := 18) (oi := _) (v := undef) rfl (by kernel_rfl) (by kernel_rfl) (by kernel_rfl) (fun _ _ _ h => h) (Or.inr ⟨by rfl, rfl⟩) hHeld ?_
          (try simp only [Act.put, List.setIfInBounds_toArray, List.set_cons_zero, List.set_cons_succ, List.getElem_toArray, List.getElem_cons_zero, List.getElem_cons_succ])
          refine wpAnyH_take (i := 19) (oi := _) (v := undef) rfl (by kernel_rfl) (by kernel_rfl) (by kernel_rfl) (fun _ _ _ h => h) (Or.inr ⟨by rfl, rfl⟩) hHeld ?_
          (try simp only [Act.put, List.setIfInBounds_toArray, List.set_cons_zero, List.set_cons_succ, List.getElem_toArray, List.getElem_cons_zero, List.getElem_cons_succ])
          refine wpAnyH_take (i := 20) (oi := _) (v := undef) rfl (by kernel_rfl) (by kernel_rfl) (by kernel_rfl) (fun _ _ _ h => h) (Or.inr ⟨by rfl, rfl⟩) hHeld ?_
          (try simp only [Act.put, List.setIfInBounds_toArray, List.set_cons_zero, List.set_cons_succ, List.getElem_toArray, List.getElem_cons_zero, List.getElem_cons_succ])
          refine wpAnyH_take (i := 21) (oi := _) (v := undef) rfl (by kernel_rfl) (by kernel_rfl) (by kernel_rfl) (fun _ _ _ h => h) (Or.inr ⟨by rfl, rfl⟩) hHeld ?_
          (try simp only [Act.put, List.setIfInBounds_toArray, List.set_cons_zero, List.set_cons_succ, List.getElem_toArray, List.getElem_cons_zero, List.getElem_cons_succ])
          refine wpAnyH_take (i := 22) (oi := _) (v := undef) rfl (by kernel_rfl) (by kernel_rfl) (by kernel_rfl) (fun _ _ _ h => h) (Or.inr ⟨by rfl, rfl⟩) hHeld ?_
          (try simp only [Act.put, List.setIfInBounds_toArray, List.set_cons_zero, List.set_cons_succ, List.getElem_toArray, List.getElem_cons_zero, List.getElem_cons_succ])
          refine wpAnyH_take (i := 23) (oi := _) (v := undef) rfl (by kernel_rfl) (by kernel_rfl) (by kernel_rfl) (fun _ _ _ h => h) (Or.inr ⟨by rfl, rfl⟩) hHeld ?_
          (try simp only [Act.put, List.setIfInBounds_toArray, List.set_cons_zero, List.set_cons_succ, List.getElem_toArray, List.getElem_cons_zero, List.getElem_cons_succ])
          refine wpAnyH_take (i := 24) (oi := _) (v := undef) rfl (by kernel_rfl) (by kernel_rfl) (by kernel_rfl) (fun _ _ _ h => h) (Or.inr ⟨by rfl, rfl⟩) hHeld ?_
          (try simp only [Act.put, List.setIfInBounds_toArray, List.set_cons_zero, List.set_cons_succ, List.getElem_toArray, List.getElem_cons_zero, List.getElem_cons_succ])
          refine wpAnyH_take (i := 25) (oi := _) (v := undef) rfl (by kernel_rfl) (by kernel_rfl) (by kernel_rfl) (fun _ _ _ h => h) (Or.inr ⟨by rfl, rfl⟩) hHeld ?_
          (try simp only [Act.put, List.setIfInBounds_toArray, List.set_cons_zero, List.set_cons_succ, List.getElem_toArray, List.getElem_cons_zero, List.getElem_cons_succ])
          refine wpAnyH_take (i := 26) (oi := _) (v := undef) rfl (by kernel_rfl) (by kernel_rfl) (by kernel_rfl) (fun _ _ _ h => h) (Or.inr ⟨by rfl, rfl⟩) hHeld ?_
          (try simp only [Act.put, List.setIfInBounds_toArray, List.set_cons_zero, List.set_cons_succ, List.getElem_toArray, List.getElem_cons_zero, List.getElem_cons_succ])
          refine wpAnyH_take (i := 27) (oi := _) (v := undef) rfl (by kernel_rfl) (by kernel_rfl) (by kernel_rfl) (fun _ _ _ h => h) (Or.inr ⟨by rfl, rfl⟩) hHeld ?_
          (try simp only [Act.put, List.setIfInBounds_toArray, List.set_cons_zero, List.set_cons_succ, List.getElem_toArray, List.getElem_cons_zero, List.getElem_cons_succ])
          refine wpAnyH_take (i := 28) (oi := _) (v := undef) rfl (by kernel_rfl) (by kernel_rfl) (by kernel_rfl) (fun _ _ _ h => h) (Or.inr ⟨by rfl, rfl⟩) hHeld ?_
          (try simp only [Act.put, List.setIfInBounds_toArray, List.set_cons_zero, List.set_cons_succ, List.getElem_toArray, List.getElem_cons_zero, List.getElem_cons_succ])
          refine wpAnyH_take (i := 29) (oi := _) (v := undef) rfl (by kernel_rfl) (by kernel_rfl) (by kernel_rfl) (fun _ _ _ h => h) (Or.inr ⟨by rfl, rfl⟩) hHeld ?_
          (try simp only [Act.put, List.setIfInBounds_toArray, List.set_cons_zero, List.set_cons_succ, List.getElem_toArray, List.getElem_cons_zero, List.getElem_cons_succ])
          refine wpAnyH_take (i := 30) (oi := _) (v := undef) rfl (by kernel_rfl) (by kernel_rfl) (by kernel_rfl) (fun _ _ _ h => h) (Or.inr ⟨by rfl, rfl⟩) hHeld ?_
          (try simp only [Act.put, List.setIfInBounds_toArray, List.set_cons_zero, List.set_cons_succ, List.getElem_toArray, List.getElem_cons_zero, List.getElem_cons_succ])
          refine wpAnyH_take (i := 31) (oi := _) (v := .bool false) rfl (by kernel_rfl) (by kernel_rfl) (by kernel_rfl) (fun _ _ _ h => h) (Or.inl ⟨by rfl, fun w' hSw => by go_simp⟩) hHeld ?_
          (try simp only [Act.put, List.setIfInBounds_toArray, List.set_cons_zero, List.set_cons_succ, List.getElem_toArray, List.getElem_cons_zero, List.getElem_cons_succ])
          refine wpAnyH_take (i := 32) (oi := _) (v := .bool false) rfl (by kernel_rfl) (by kernel_rfl) (by kernel_rfl) (fun _ _ _ h => h) (Or.inl ⟨by rfl, fun w' hSw => by go_simp⟩) hHeld ?_
          (try simp only [Act.put, List.setIfInBounds_toArray, List.set_cons_zero, List.set_cons_succ, List.getElem_toArray, List.getElem_cons_zero, List.getElem_cons_succ])
          refine wpAnyH_done (by kernel_rfl) ?_ _
          have A8 := A7.drew
          generalize w7.drew = w8 at *
          have H6 := hide A8.b2.at_
          have H3 := hide A8.b1.at_
          have ne36 := A8.ne
          have B9 := A8.b1
          have bl9 := A8.bl
          go_wp2_with (first
            | (refine wpList_load_row rfl 45 (.tmp 6) rfl g6 rfl _ _ _ _ H6.out Try.underlying45 rfl (size_cl _) ?_)
            | (refine wpList_store_row rfl 45 _ _ rfl w1.heap.size (cl ((appO S ov).1)).toArray rfl rfl _ _ H3.out (size_cl _) ((cl_size _).trans (cl_size _).symm) (one_cl _) ?_))
          go_roundw
          case rel => exact ⟨k + 1, by omega, by go_num, (appO S ov).1, okS_app hS _ _ _ _ _, B9.set _, below_setRow bl9 z1 _⟩
          case measure => simp [intOf]; omega
      · rw [show (ov.k == 1) = false from by simpa using hk1] at rr
        have R1 := hide rr
        clear rr hk1
        go_wp2_with fail
        refine wp_region_held_drew (S := fun w' => SW w S ((appO S ov).1) ov kd x y w1.heap.size g5 g6 w') (by kernel_rfl) A4.drew (fun hHeld => ?_)
        refine wpAnyH_take (i := 0) (oi := _) (v := .agg (cl ((appO S ov).1)).toArray) rfl (by kernel_rfl) (by kernel_rfl) (by kernel_rfl) (fun _ _ _ h => h) (yieldsIf_load_mid (by rfl) 45 (.tmp 6) rfl (g6) 0 rfl (cl ((appO S ov).1)) _ (fun w' h => range_of h.b2.at_) Try.underlying45 rfl (size_cl ((appO S ov).1))) hHeld ?_
        (try simp only [Act.put, List.setIfInBounds_toArray, List.set_cons_zero, List.set_cons_succ, List.getElem_toArray, List.getElem_cons_zero, List.getElem_cons_succ])
        refine wpAnyH_ready (rs := [1]) (by kernel_rfl) (by simp) ?_
        refine AllReadyH.cons (o := _) rfl (fun K hK => ?_) AllReadyH.nil
        simp only [List.getElem_toArray, List.getElem_cons_zero, List.getElem_cons_succ]
        go_simp
        refine (V1.out _).mono ?_
        rintro e w5 ⟨rfl, hb⟩
        have hX := A4.drew.below hb
        go_wp2_with fail
        refine hK.out _ _ hX (fun hHeld => ?_)
        clear hK hb hX
        (try simp only [Act.put, List.setIfInBounds_toArray, List.set_cons_zero, List.set_cons_succ, List.getElem_toArray, List.getElem_cons_zero, List.getElem_cons_succ])
        have A5 := hHeld
        refine wpAnyH_take (i := 2) (oi := _) (v := .bool false) rfl (by kernel_rfl) (by kernel_rfl) (by kernel_rfl) (fun _ _ _ h => h) (Or.inl ⟨by rfl, fun w' hSw => by go_simp⟩) hHeld ?_
        (try simp only [Act.put, List.setIfInBounds_toArray, List.set_cons_zero, List.set_cons_succ, List.getElem_toArray, List.getElem_cons_zero, List.getElem_cons_succ])
        refine wpAnyH_take (i := 3) (oi := _) (v := .bool false) rfl (by kernel_rfl) (by kernel_rfl) (by kernel_rfl) (fun _ _ _ h => h) (Or.inl ⟨by rfl, fun w' hSw => by go_simp⟩) hHeld ?_
        (try simp only [Act.put, List.setIfInBounds_toArray, List.set_cons_zero, List.set_cons_succ, List.getElem_toArray, List.getElem_cons_zero, List.getElem_cons_succ])
        refine wpAnyH_take (i := 4) (oi := _) (v := .agg #[.int .i64 ov.k, .int .i64 ov.r, .int .i64 ov.t, .int .i64 ov.re, .int .i64 ov.im]) rfl (by kernel_rfl) (by kernel_rfl) (by kernel_rfl) (fun _ _ _ h => h) (Or.inl ⟨by rfl, fun w' hSw => by obtain ⟨q0, q1, q2, q3, q4⟩ := cells5 hSw.op; go_simp⟩) hHeld ?_
        (try simp only [Act.put, List.setIfInBounds_toArray, List.set_cons_zero, List.set_cons_succ, List.getElem_toArray, List.getElem_cons_zero, List.getElem_cons_succ])
        refine wpAnyH_ready (rs := [5]) (by kernel_rfl) (by simp) ?_
        refine AllReadyH.cons (o := _) rfl (fun K hK => ?_) AllReadyH.nil
        simp only [List.getElem_toArray, List.getElem_cons_zero, List.getElem_cons_succ]
        go_simp
        refine (R1.out _).mono ?_
        rintro e w6 ⟨rfl, hb⟩
        have hX := A5.below hb
        go_wp2_with fail
        refine hK.out _ _ hX (fun hHeld => ?_)
        clear hK hb hX
        (try simp only [Act.put, List.setIfInBounds_toArray, List.set_cons_zero, List.set_cons_succ, List.getElem_toArray, List.getElem_cons_zero, List.getElem_cons_succ])
        have A6 := hHeld
        refine wpAnyH_take (i := 6) (oi := _) (v := .bool false) rfl (by kernel_rfl) (by kernel_rfl) (by kernel_rfl) (fun _ _ _ h => h) (Or.inl ⟨by rfl, fun w' hSw => by go_simp⟩) hHeld ?_
        (try simp only [Act.put, List.setIfInBounds_toArray, List.set_cons_zero, List.set_cons_succ, List.getElem_toArray, List.getElem_cons_zero, List.getElem_cons_succ])
        refine wpAnyH_take (i := 7) (oi := _) (v := undef) rfl (by kernel_rfl) (by kernel_rfl) (by kernel_rfl) (fun _ _ _ h => h) (Or.inr ⟨by rfl, rfl⟩) hHeld ?_
        (try simp only [Act.put, List.setIfInBounds_toArray, List.set_cons_zero, List.set_cons_succ, List.getElem_toArray, List.getElem_cons_zero, List.getElem_cons_succ])
        refine wpAnyH_take (i := 8) (oi := _) (v := undef) rfl (by kernel_rfl) (by kernel_rfl) (by kernel_rfl) (fun _ _ _ h => h) (Or.inr ⟨by rfl, rfl⟩) hHeld ?_
        (try simp only [Act.put, List.setIfInBounds_toArray, List.set_cons_zero, List.set_cons_succ, List.getElem_toArray, List.getElem_cons_zero, List.getElem_cons_succ])
        refine wpAnyH_take (i := 9) (oi := _) (v := undef) rfl (by kernel_rfl) (by kernel_rfl) (by kernel_rfl) (fun _ _ _ h => h) (Or.inr ⟨by rfl, rfl⟩) hHeld ?_
        (try simp only [Act.put, List.setIfInBounds_toArray, List.set_cons_zero, List.set_cons_succ, List.getElem_toArray, List.getElem_cons_zero, List.getElem_cons_succ])
        refine wpAnyH_take (i := 10) (oi := _) (v := .bool false) rfl (by kernel_rfl) (by kernel_rfl) (by kernel_rfl) (fun _ _ _ h => h) (Or.inl ⟨by rfl, fun w' hSw => by go_simp⟩) hHeld ?_
        (try simp only [Act.put, List.setIfInBounds_toArray, List.set_cons_zero, List.set_cons_succ, List.getElem_toArray, List.getElem_cons_zero, List.getElem_cons_succ])
        refine wpAnyH_take (i := 11) (oi := _) (v := .bool false) rfl (by kernel_rfl) (by kernel_rfl) (by kernel_rfl) (fun _ _ _ h => h) (Or.inl ⟨by rfl, fun w' hSw => by go_simp⟩) hHeld ?_
        (try simp only [Act.put, List.setIfInBounds_toArray, List.set_cons_zero, List.set_cons_succ, List.getElem_toArray, List.getElem_cons_zero, List.getElem_cons_succ])
        refine wpAnyH_take (i := 12) (oi := _) (v := .bool false) rfl (by kernel_rfl) (by kernel_rfl) (by kernel_rfl) (fun _ _ _ h => h) (Or.inl ⟨by rfl, fun w' hSw => by go_simp⟩) hHeld ?_
        (try simp only [Act.put, List.setIfInBounds_toArray, List.set_cons_zero, List.set_cons_succ, List.getElem_toArray, List.getElem_cons_zero, List.getElem_cons_succ])
        refine wpAnyH_take (i := 13) (oi := _) (v := .pointer (some ⟨g6 + 1, 0, none⟩)) rfl (by kernel_rfl) (by kernel_rfl) (by kernel_rfl) (fun _ _ _ h => h) (Or.inl ⟨by rfl, fun w' hSw => by go_simp⟩) hHeld ?_
        (try simp only [Act.put, List.setIfInBounds_toArray, List.set_cons_zero, List.set_cons_succ, List.getElem_toArray, List.getElem_cons_zero, List.getElem_cons_succ])
        refine wpAnyH_take (i := 14) (oi := _) (v := .int .i64 kd) rfl (by kernel_rfl) (by kernel_rfl) (by kernel_rfl) (fun _ _ _ h => h) (Or.inl ⟨by rfl, fun w' hSw => by obtain ⟨q0, q1, q2⟩ := cells_3 hSw.rs; go_simp⟩) hHeld ?_
        (try simp only [Act.put, List.setIfInBounds_toArray, List.set_cons_zero, List.set_cons_succ, List.getElem_toArray, List.getElem_cons_zero, List.getElem_cons_succ])
        refine wpAnyH_take (i := 15) (oi := _) (v := .bool b0) rfl (by kernel_rfl) (by kernel_rfl) (by kernel_rfl) (fun _ _ _ h => h) (Or.inl ⟨by rfl, fun w' hSw => by go_simp⟩) hHeld ?_
        (try simp only [Act.put, List.setIfInBounds_toArray, List.set_cons_zero, List.set_cons_succ, List.getElem_toArray, List.getElem_cons_zero, List.getElem_cons_succ])
        refine wpAnyH_take (i := 16) (oi := _) (v := .agg #[.int .i64 ov.k, .int .i64 ov.r, .int .i64 ov.t, .int .i64 ov.re, .int .i64 ov.im]) rfl (by kernel_rfl) (by kernel_rfl) (by kernel_rfl) (fun _ _ _ h => h) (Or.inl ⟨by rfl, fun w' hSw => by obtain ⟨q0, q1, q2, q3, q4⟩ := cells5 hSw.op; go_simp⟩) hHeld ?_
        (try simp only [Act.put, List.setIfInBounds_toArray, List.set_cons_zero, List.set_cons_succ, List.getElem_toArray, List.getElem_cons_zero, List.getElem_cons_succ])
        refine wpAnyH_ready (rs := [17]) (by kernel_rfl) (by simp) ?_
        refine AllReadyH.cons (o := _) rfl (fun K hK => ?_) AllReadyH.nil
        simp only [List.getElem_toArray, List.getElem_cons_zero, List.getElem_cons_succ]
        go_simp
        refine (C1.out _).mono ?_
        rintro e w7 ⟨rfl, hb⟩
        have hX := A6.below hb
        go_wp2_with fail
        refine hK.out _ _ hX (fun hHeld => ?_)
        clear hK hb hX
        (try simp only [Act.put, List.setIfInBounds_toArray, List.set_cons_zero, List.set_cons_succ, List.getElem_toArray, List.getElem_cons_zero, List.getElem_cons_succ])
        have A7 := hHeld
        refine wpAnyH_take (i := 18) (oi := _) (v := .bool b0) rfl (by kernel_rfl) (by kernel_rfl) (by kernel_rfl) (fun _ _ _ h => h) (Or.inl ⟨by rfl, fun w' hSw => by go_simp⟩) hHeld ?_
        (try simp only [Act.put, List.setIfInBounds_toArray, List.set_cons_zero, List.set_cons_succ, List.getElem_toArray, List.getElem_cons_zero, List.getElem_cons_succ])
        refine wpAnyH_take (i := 19) (oi := _) (v := .bool false) rfl (by kernel_rfl) (by kernel_rfl) (by kernel_rfl) (fun _ _ _ h => h) (Or.inl ⟨by rfl, fun w' hSw => by go_simp⟩) hHeld ?_
        (try simp only [Act.put, List.setIfInBounds_toArray, List.set_cons_zero, List.set_cons_succ, List.getElem_toArray, List.getElem_cons_zero, List.getElem_cons_succ])
        refine wpAnyH_take (i := 20) (oi := _) (v := .bool false) rfl (by kernel_rfl) (by kernel_rfl) (by kernel_rfl) (fun _ _ _ h => h) (Or.inl ⟨by rfl, fun w' hSw => by go_simp⟩) hHeld ?_
        (try simp only [Act.put, List.setIfInBounds_toArray, List.set_cons_zero, List.set_cons_succ, List.getElem_toArray, List.getElem_cons_zero, List.getElem_cons_succ])
        refine wpAnyH_done (by kernel_rfl) ?_ _
        clear A4 A5 A6
        go_wp2_with fail
        clear e0 e2
        rcases facts.out with ⟨R, hR, eR, _, rfl, hx, hy, _⟩ | hh
        · obtain ⟨q0, q1⟩ := A7.b2.reg R hR
          rw [hx] at q0
          rw [hy] at q1
          obtain ⟨q2, q3, q4, q5, q6⟩ := cells5 A7.op
          obtain ⟨q7, q8, q9⟩ := cells_3 A7.rs
          rw [eR] at q3
          have R0 : (0 : Int) ≤ (R : Int) := by omega
          have R8 : (R : Int) < 8 := by omega
          go_quiet (fail)
          have A8 := A7.drewN nq
          generalize w7.drewN nq = w8 at *
          have H6 := hide A8.b2.at_
          have H3 := hide A8.b1.at_
          have ne36 := A8.ne
          have B9 := A8.b1
          have bl9 := A8.bl
          go_wp2_with (first
            | (refine wpList_load_row rfl 45 (.tmp 6) rfl g6 rfl _ _ _ _ H6.out Try.underlying45 rfl (size_cl _) ?_)
            | (refine wpList_store_row rfl 45 _ _ rfl w1.heap.size (cl ((appO S ov).1)).toArray rfl rfl _ _ H3.out (size_cl _) ((cl_size _).trans (cl_size _).symm) (one_cl _) ?_))
          go_roundw
          case rel => exact ⟨k + 1, by omega, by go_num, (appO S ov).1, okS_app hS _ _ _ _ _, B9.set _, below_setRow bl9 z1 _⟩
          case measure => simp [intOf]; omega
        · have hTS : (appO S ov).1 = S := by
            rcases hh with ⟨_, _, h⟩ | ⟨_, _, h⟩ <;> exact h
          have n1 : (kd != 1) = true := by rcases hh with ⟨h | h, _, _⟩ | ⟨h, _, _⟩ <;> (rw [h]; rfl)
          have n2 : (kd == 1) = false := by rcases hh with ⟨h | h, _, _⟩ | ⟨h, _, _⟩ <;> (rw [h]; rfl)
          have ke := fun w => equal_state ((appO S ov).1) S w
          rw [show sameS ((appO S ov).1) S = true from by rw [hTS]; exact sameS_refl S] at ke
          clear hh hTS
          refine wp_region_held_drew (S := fun w' => SW w S ((appO S ov).1) ov kd x y w1.heap.size g5 g6 w') (by kernel_rfl) A7.drew (fun hHeld => ?_)
          refine wpAnyH_take (i := 0) (oi := _) (v := .pointer (some ⟨g6 + 1, 0, none⟩)) rfl (by kernel_rfl) (by kernel_rfl) (by kernel_rfl) (fun _ _ _ h => h) (Or.inl ⟨by rfl, fun w' hSw => by go_simp⟩) hHeld ?_
          (try simp only [Act.put, List.setIfInBounds_toArray, List.set_cons_zero, List.set_cons_succ, List.getElem_toArray, List.getElem_cons_zero, List.getElem_cons_succ])
          refine wpAnyH_take (i := 1) (oi := _) (v := .int .i64 kd) rfl (by kernel_rfl) (by kernel_rfl) (by kernel_rfl) (fun _ _ _ h => h) (Or.inl ⟨by rfl, fun w' hSw => by obtain ⟨q0, q1, q2⟩ := cells_3 hSw.rs; go_simp⟩) hHeld ?_
          (try simp only [Act.put, List.setIfInBounds_toArray, List.set_cons_zero, List.set_cons_succ, List.getElem_toArray, List.getElem_cons_zero, List.getElem_cons_succ])
          refine wpAnyH_take (i := 2) (oi := _) (v := .bool true) rfl (by kernel_rfl) (by kernel_rfl) (by kernel_rfl) (fun _ _ _ h => h) (Or.inl ⟨by rfl, fun w' hSw => by go_simp⟩) hHeld ?_
          (try simp only [Act.put, List.setIfInBounds_toArray, List.set_cons_zero, List.set_cons_succ, List.getElem_toArray, List.getElem_cons_zero, List.getElem_cons_succ])
          refine wpAnyH_take (i := 3) (oi := _) (v := .bool true) rfl (by kernel_rfl) (by kernel_rfl) (by kernel_rfl) (fun _ _ _ h => h) (Or.inl ⟨by rfl, fun w' hSw => by go_simp⟩) hHeld ?_
          (try simp only [Act.put, List.setIfInBounds_toArray, List.set_cons_zero, List.set_cons_succ, List.getElem_toArray, List.getElem_cons_zero, List.getElem_cons_succ])
          refine wpAnyH_take (i := 4) (oi := _) (v := .agg (cl ((appO S ov).1)).toArray) rfl (by kernel_rfl) (by kernel_rfl) (by kernel_rfl) (fun _ _ _ h => h) (yieldsIf_load_mid (by rfl) 45 (.tmp 6) rfl (g6) 0 rfl (cl ((appO S ov).1)) _ (fun w' h => range_of h.b2.at_) Try.underlying45 rfl (size_cl ((appO S ov).1))) hHeld ?_
          (try simp only [Act.put, List.setIfInBounds_toArray, List.set_cons_zero, List.set_cons_succ, List.getElem_toArray, List.getElem_cons_zero, List.getElem_cons_succ])
          refine wpAnyH_take (i := 5) (oi := _) (v := .agg (cl (S)).toArray) rfl (by kernel_rfl) (by kernel_rfl) (by kernel_rfl) (fun _ _ _ h => h) (yieldsIf_load_mid (by rfl) 45 (.tmp 3) rfl (w1.heap.size) 0 rfl (cl (S)) _ (fun w' h => range_of h.b1.at_) Try.underlying45 rfl (size_cl (S))) hHeld ?_
          (try simp only [Act.put, List.setIfInBounds_toArray, List.set_cons_zero, List.set_cons_succ, List.getElem_toArray, List.getElem_cons_zero, List.getElem_cons_succ])
          refine wpAnyH_take (i := 6) (oi := _) (v := .bool false) rfl (by kernel_rfl) (by kernel_rfl) (by kernel_rfl) (fun _ _ _ h => h) (Or.inl ⟨by rfl, fun w' hSw => by go_simp⟩) hHeld ?_
          (try simp only [Act.put, List.setIfInBounds_toArray, List.set_cons_zero, List.set_cons_succ, List.getElem_toArray, List.getElem_cons_zero, List.getElem_cons_succ])
          refine wpAnyH_take (i := 7) (oi := _) (v := .bool false) rfl (by kernel_rfl) (by kernel_rfl) (by kernel_rfl) (fun _ _ _ h => h) (Or.inl ⟨by rfl, fun w' hSw => by go_simp⟩) hHeld ?_
          (try simp only [Act.put, List.setIfInBounds_toArray, List.set_cons_zero, List.set_cons_succ, List.getElem_toArray, List.getElem_cons_zero, List.getElem_cons_succ])
          refine wpAnyH_take (i := 8) (oi := _) (v := .bool false) rfl (by kernel_rfl) (by kernel_rfl) (by kernel_rfl) (fun _ _ _ h => h) (Or.inl ⟨by rfl, fun w' hSw => by go_simp⟩) hHeld ?_
          (try simp only [Act.put, List.setIfInBounds_toArray, List.set_cons_zero, List.set_cons_succ, List.getElem_toArray, List.getElem_cons_zero, List.getElem_cons_succ])
          refine wpAnyH_take (i := 9) (oi := _) (v := .pointer (some ⟨g6 + 1, 0, none⟩)) rfl (by kernel_rfl) (by kernel_rfl) (by kernel_rfl) (fun _ _ _ h => h) (Or.inl ⟨by rfl, fun w' hSw => by go_simp⟩) hHeld ?_
          (try simp only [Act.put, List.setIfInBounds_toArray, List.set_cons_zero, List.set_cons_succ, List.getElem_toArray, List.getElem_cons_zero, List.getElem_cons_succ])
          refine wpAnyH_take (i := 10) (oi := _) (v := .int .i64 kd) rfl (by kernel_rfl) (by kernel_rfl) (by kernel_rfl) (fun _ _ _ h => h) (Or.inl ⟨by rfl, fun w' hSw => by obtain ⟨q0, q1, q2⟩ := cells_3 hSw.rs; go_simp⟩) hHeld ?_
          (try simp only [Act.put, List.setIfInBounds_toArray, List.set_cons_zero, List.set_cons_succ, List.getElem_toArray, List.getElem_cons_zero, List.getElem_cons_succ])
          refine wpAnyH_take (i := 11) (oi := _) (v := .bool false) rfl (by kernel_rfl) (by kernel_rfl) (by kernel_rfl) (fun _ _ _ h => h) (Or.inl ⟨by rfl, fun w' hSw => by go_simp⟩) hHeld ?_
          (try simp only [Act.put, List.setIfInBounds_toArray, List.set_cons_zero, List.set_cons_succ, List.getElem_toArray, List.getElem_cons_zero, List.getElem_cons_succ])
          refine wpAnyH_take (i := 12) (oi := _) (v := .bool false) rfl (by kernel_rfl) (by kernel_rfl) (by kernel_rfl) (fun _ _ _ h => h) (Or.inl ⟨by rfl, fun w' hSw => by go_simp⟩) hHeld ?_
          (try simp only [Act.put, List.setIfInBounds_toArray, List.set_cons_zero, List.set_cons_succ, List.getElem_toArray, List.getElem_cons_zero, List.getElem_cons_succ])
          refine wpAnyH_take (i := 13) (oi := _) (v := undef) rfl (by kernel_rfl) (by kernel_rfl) (by kernel_rfl) (fun _ _ _ h => h) (Or.inr ⟨by rfl, rfl⟩) hHeld ?_
          (try simp only [Act.put, List.setIfInBounds_toArray, List.set_cons_zero, List.set_cons_succ, List.getElem_toArray, List.getElem_cons_zero, List.getElem_cons_succ])
          refine wpAnyH_take (i := 14) (oi := _) (v := undef) rfl (by kernel_rfl) (by kernel_rfl) (by kernel_rfl) (fun _ _ _ h => h) (Or.inr ⟨by rfl, rfl⟩) hHeld ?_
          (try simp only [Act.put, List.setIfInBounds_toArray, List.set_cons_zero, List.set_cons_succ, List.getElem_toArray, List.getElem_cons_zero, List.getElem_cons_succ])
          refine wpAnyH_take (i := 15) (oi := _) (v := undef) rfl (by kernel_rfl) (by kernel_rfl) (by kernel_rfl) (fun _ _ _ h => h) (Or.inr ⟨by rfl, rfl⟩) hHeld ?_
          (try simp only [Act.put, List.setIfInBounds_toArray, List.set_cons_zero, List.set_cons_succ, List.getElem_toArray, List.getElem_cons_zero, List.getElem_cons_succ])
          refine wpAnyH_take (i := 16) (oi := _) (v := undef) rfl (by kernel_rfl) (by kernel_rfl) (by kernel_rfl) (fun _ _ _ h => h) (Or.inr ⟨by rfl, rfl⟩) hHeld ?_
          (try simp only [Act.put, List.setIfInBounds_toArray, List.set_cons_zero, List.set_cons_succ, List.getElem_toArray, List.getElem_cons_zero, List.getElem_cons_succ])
          refine wpAnyH_take (i := 17) (oi := _) (v := undef) rfl (by kernel_rfl) (by kernel_rfl) (by kernel_rfl) (fun _ _ _ h => h) (Or.inr ⟨by rfl, rfl⟩) hHeld ?_
          (try simp only [Act.put, List.setIfInBounds_toArray, List.set_cons_zero, List.set_cons_succ, List.getElem_toArray, List.getElem_cons_zero, List.getElem_cons_succ])
          refine wpAnyH_take (i := 18) (oi := _) (v := undef) rfl (by kernel_rfl) (by kernel_rfl) (by kernel_rfl) (fun _ _ _ h => h) (Or.inr ⟨by rfl, rfl⟩) hHeld ?_
          (try simp only [Act.put, List.setIfInBounds_toArray, List.set_cons_zero, List.set_cons_succ, List.getElem_toArray, List.getElem_cons_zero, List.getElem_cons_succ])
          refine wpAnyH_take (i := 19) (oi := _) (v := undef) rfl (by kernel_rfl) (by kernel_rfl) (by kernel_rfl) (fun _ _ _ h => h) (Or.inr ⟨by rfl, rfl⟩) hHeld ?_
          (try simp only [Act.put, List.setIfInBounds_toArray, List.set_cons_zero, List.set_cons_succ, List.getElem_toArray, List.getElem_cons_zero, List.getElem_cons_succ])
          refine wpAnyH_take (i := 20) (oi := _) (v := undef) rfl (by kernel_rfl) (by kernel_rfl) (by kernel_rfl) (fun _ _ _ h => h) (Or.inr ⟨by rfl, rfl⟩) hHeld ?_
          (try simp only [Act.put, List.setIfInBounds_toArray, List.set_cons_zero, List.set_cons_succ, List.getElem_toArray, List.getElem_cons_zero, List.getElem_cons_succ])
          refine wpAnyH_take (i := 21) (oi := _) (v := undef) rfl (by kernel_rfl) (by kernel_rfl) (by kernel_rfl) (fun _ _ _ h => h) (Or.inr ⟨by rfl, rfl⟩) hHeld ?_
          (try simp only [Act.put, List.setIfInBounds_toArray, List.set_cons_zero, List.set_cons_succ, List.getElem_toArray, List.getElem_cons_zero, List.getElem_cons_succ])
          refine wpAnyH_take (i := 22) (oi := _) (v := undef) rfl (by kernel_rfl) (by kernel_rfl) (by kernel_rfl) (fun _ _ _ h => h) (Or.inr ⟨by rfl, rfl⟩) hHeld ?_
          (try simp only [Act.put, List.setIfInBounds_toArray, List.set_cons_zero, List.set_cons_succ, List.getElem_toArray, List.getElem_cons_zero, List.getElem_cons_succ])
          refine wpAnyH_take (i := 23) (oi := _) (v := undef) rfl (by kernel_rfl) (by kernel_rfl) (by kernel_rfl) (fun _ _ _ h => h) (Or.inr ⟨by rfl, rfl⟩) hHeld ?_
          (try simp only [Act.put, List.setIfInBounds_toArray, List.set_cons_zero, List.set_cons_succ, List.getElem_toArray, List.getElem_cons_zero, List.getElem_cons_succ])
          refine wpAnyH_take (i := 24) (oi := _) (v := undef) rfl (by kernel_rfl) (by kernel_rfl) (by kernel_rfl) (fun _ _ _ h => h) (Or.inr ⟨by rfl, rfl⟩) hHeld ?_
          (try simp only [Act.put, List.setIfInBounds_toArray, List.set_cons_zero, List.set_cons_succ, List.getElem_toArray, List.getElem_cons_zero, List.getElem_cons_succ])
          refine wpAnyH_take (i := 25) (oi := _) (v := undef) rfl (by kernel_rfl) (by kernel_rfl) (by kernel_rfl) (fun _ _ _ h => h) (Or.inr ⟨by rfl, rfl⟩) hHeld ?_
          (try simp only [Act.put, List.setIfInBounds_toArray, List.set_cons_zero, List.set_cons_succ, List.getElem_toArray, List.getElem_cons_zero, List.getElem_cons_succ])
          refine wpAnyH_take (i := 26) (oi := _) (v := undef) rfl (by kernel_rfl) (by kernel_rfl) (by kernel_rfl) (fun _ _ _ h => h) (Or.inr ⟨by rfl, rfl⟩) hHeld ?_
          (try simp only [Act.put, List.setIfInBounds_toArray, List.set_cons_zero, List.set_cons_succ, List.getElem_toArray, List.getElem_cons_zero, List.getElem_cons_succ])
          refine wpAnyH_take (i := 27) (oi := _) (v := undef) rfl (by kernel_rfl) (by kernel_rfl) (by kernel_rfl) (fun _ _ _ h => h) (Or.inr ⟨by rfl, rfl⟩) hHeld ?_
          (try simp only [Act.put, List.setIfInBounds_toArray, List.set_cons_zero, List.set_cons_succ, List.getElem_toArray, List.getElem_cons_zero, List.getElem_cons_succ])
          refine wpAnyH_take (i := 28) (oi := _) (v := undef) rfl (by kernel_rfl) (by kernel_rfl) (by kernel_rfl) (fun _ _ _ h => h) (Or.inr ⟨by rfl, rfl⟩) hHeld ?_
          (try simp only [Act.put, List.setIfInBounds_toArray, List.set_cons_zero, List.set_cons_succ, List.getElem_toArray, List.getElem_cons_zero, List.getElem_cons_succ])
          refine wpAnyH_take (i := 29) (oi := _) (v := undef) rfl (by kernel_rfl) (by kernel_rfl) (by kernel_rfl) (fun _ _ _ h => h) (Or.inr ⟨by rfl, rfl⟩) hHeld ?_
          (try simp only [Act.put, List.setIfInBounds_toArray, List.set_cons_zero, List.set_cons_succ, List.getElem_toArray, List.getElem_cons_zero, List.getElem_cons_succ])
          refine wpAnyH_take (i := 30) (oi := _) (v := undef) rfl (by kernel_rfl) (by kernel_rfl) (by kernel_rfl) (fun _ _ _ h => h) (Or.inr ⟨by rfl, rfl⟩) hHeld ?_
          (try simp only [Act.put, List.setIfInBounds_toArray, List.set_cons_zero, List.set_cons_succ, List.getElem_toArray, List.getElem_cons_zero, List.getElem_cons_succ])
          refine wpAnyH_take (i := 31) (oi := _) (v := .bool false) rfl (by kernel_rfl) (by kernel_rfl) (by kernel_rfl) (fun _ _ _ h => h) (Or.inl ⟨by rfl, fun w' hSw => by go_simp⟩) hHeld ?_
          (try simp only [Act.put, List.setIfInBounds_toArray, List.set_cons_zero, List.set_cons_succ, List.getElem_toArray, List.getElem_cons_zero, List.getElem_cons_succ])
          refine wpAnyH_take (i := 32) (oi := _) (v := .bool false) rfl (by kernel_rfl) (by kernel_rfl) (by kernel_rfl) (fun _ _ _ h => h) (Or.inl ⟨by rfl, fun w' hSw => by go_simp⟩) hHeld ?_
          (try simp only [Act.put, List.setIfInBounds_toArray, List.set_cons_zero, List.set_cons_succ, List.getElem_toArray, List.getElem_cons_zero, List.getElem_cons_succ])
          refine wpAnyH_done (by kernel_rfl) ?_ _
          have A8 := A7.drew
          generalize w7.drew = w8 at *
          have H6 := hide A8.b2.at_
          have H3 := hide A8.b1.at_
          have ne36 := A8.ne
          have B9 := A8.b1
          have bl9 := A8.bl
          go_wp2_with (first
            | (refine wpList_load_row rfl 45 (.tmp 6) rfl g6 rfl _ _ _ _ H6.out Try.underlying45 rfl (size_cl _) ?_)
            | (refine wpList_store_row rfl 45 _ _ rfl w1.heap.size (cl ((appO S ov).1)).toArray rfl rfl _ _ H3.out (size_cl _) ((cl_size _).trans (cl_size _).symm) (one_cl _) ?_))
          go_roundw
          case rel => exact ⟨k + 1, by omega, by go_num, (appO S ov).1, okS_app hS _ _ _ _ _, B9.set _, below_setRow bl9 z1 _⟩
          case measure => simp [intOf]; omega
    · obtain rfl : k = ts.length := by omega
      go_wp2
      go_ret
      exact ⟨rfl, hbl⟩
end Go.Proofs.Ytogkgmbldmfpiaa
