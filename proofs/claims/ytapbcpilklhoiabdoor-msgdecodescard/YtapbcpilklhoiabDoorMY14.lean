/-
  From a reading of an argument to the words of the walks: votes, messages; and from the row's condition to the package's table. No condition but the reach of what is read.
  readRest of package msg. Conditions: the reader's bytes lie below; the message's box is empty behind its head.
  A message that Check takes is right; how many bytes it has; unlike right messages have unlike bytes. No condition.
-/
import Derived.Test.YtapbcpilklhoiabDoorMY2
import Derived.Test.YtapbcpilklhoiabDoorTie
import Derived.Test.YtapbcpilklhoiabDoorCards
import Derived.Test.YtapbcpilklhoiabDoorMY10
import Derived.Test.YtapbcpilklhoiabDoorMY13
import Derived.LaidMore
import Derived.Stop.Joined
import Derived.SevenTiedAt
import Derived.Laws.Cover2
import Derived.Lib.LaidTab
import Derived.Deep.DeepCutAuto
import Derived.Deep.Cut
set_option linter.unusedSimpArgs false
set_option linter.unusedVariables false

namespace Go.Proofs.YtapbcpilklhoiabDoor
open Go.ChangeShapes Go.WideShapes Go.ChangeAt Go.RowKit

/-- The table that the rows list. -/
def laid1 {H : Type} : List (String × DataW H) := [("synod/msg.usedBy", Rows.laid_synod_msg_usedBy)]
set_option maxRecDepth 100000 in
theorem door_met (os : Os) (args : Array Value) : laidMetH Tryd.prog laid1 ((World.doorLaid Tryd.prog 14 os).forCall (fun _ _ => 0) ⟨#[], args, []⟩).memory :=
  laidMetH_of_parts3 (fuel := 8) (laidMet_of_run' 8 (by kernel_rfl) (by kernel_rfl)) (by kernel_rfl) (by kernel_rfl)
theorem gUsed : Tryd.prog.globalNamed "synod/msg.usedBy" = some 0 := by kernel_rfl
theorem tUsed : (Tryd.prog.globals[0]?).map (·.type) = some 109 := by kernel_rfl
theorem tab_of_laid {W : World} (h : laidMetH Tryd.prog laid1 W) : TabM W := by
  rw [MakeChecks.laidMetH_plain _ _ _ (by kernel_rfl)] at h
  obtain ⟨ps, ⟨g0, t0, cs0, f0, p0, q0, hg0, ht0, hv0, hd0, _, _⟩, _, _⟩ := h
  obtain rfl := Option.some.inj (gUsed.symm.trans hg0)
  obtain rfl := Option.some.inj (tUsed.symm.trans ht0)
  have hc := Lib.cells_of_tab (zs := usedTab) (k := .i64) Tryd.underlying109 Tryd.underlying3 (by kernel_rfl) (by kernel_rfl) hd0
  have his : Lib.TabIs Tryd.prog W "synod/msg.usedBy" .i64 usedTab := by
    unfold Lib.TabIs
    rw [hv0, ← hc]
  have hcell : ∀ j : Nat, j ≤ 14 → W.cell? ⟨0, j, none⟩ = some (.int .i64 (usedTab.getD j 0)) := fun j hj => by
    have := his.cell gUsed j (by show j < 15; omega)
    simpa using this
  exact ⟨hcell, World.block_lt_of_cell? W _ (hcell 0 (by omega))⟩

theorem cells_bal2 : Tryd.prog.cellsOf 23 = 2 := by kernel_rfl
theorem cells_vote6 : Tryd.prog.cellsOf 54 = 6 := by kernel_rfl
theorem bytesOf_vote : Tryd.prog.bytesOf 54 = 80 := by kernel_rfl
theorem cells_votes1 : Tryd.prog.cellsOf 28 = 1 := by kernel_rfl
theorem cells_bytes1 : Tryd.prog.cellsOf 35 = 1 := by kernel_rfl
theorem cells_res3 : Tryd.prog.cellsOf 34 = 3 := by kernel_rfl
theorem cells_msg25 : Tryd.prog.cellsOf 37 = 25 := by kernel_rfl
instance : Inhabited Votev := ⟨⟨0, 0, 0, ⟨0, none, 0, 0, none, 0, 0, [], []⟩⟩⟩

section
variable {H : Type} {enc : TypeId × Value → H} {W : World}

set_option maxRecDepth 20000 in
theorem vote_value {fuel : Nat} {cs : List Value} {x : DataW H × List MemPlace} (hl : cs.length = 6) (h : DataW.trod enc Tryd.prog W 0 (fun _ => true) true fuel 54 cs = some x) (hw : Light 54 x.1) :
    ∃ q : Votev, cs = q.cells ∧ IsV W W.heap.size q.v.A q.v.n q.v.D q.v.m q.v.cs q.v.ns := by
  obtain ⟨ys, n', _, hx, _, hyl, hf⟩ := DataW.trod_struct Tryd.underlying54 h
  match cs, hl with
  | [v0, v1, v2, v3, v4, v5], _ =>
    match ys, hyl with
    | [y0, y1, y2], _ =>
      have h0 : DataW.trod enc Tryd.prog W 0 (fun _ => true) true n' 3 [v0] = some y0 := by simpa [cells_int1] using hf 0 _ rfl
      have h1 : DataW.trod enc Tryd.prog W 0 (fun _ => true) true n' 23 [v1, v2] = some y1 := by simpa [cells_bal2] using hf 1 _ rfl
      have h2 : DataW.trod enc Tryd.prog W 0 (fun _ => true) true n' 27 [v3, v4, v5] = some y2 := by simpa [cells_val3] using hf 2 _ rfl
      subst hx
      obtain ⟨k0, e0, rfl, w0⟩ := DataW.trod_int Tryd.underlying3 h0
      obtain ⟨a, b, e1, _, _⟩ := bal_value rfl h1
      obtain ⟨k, A, n, c, D, m, d, ts, xs, e2, _, g1, g2, g3, g4, g5, g6, g7, _⟩ := val_value rfl h2 (hw.field Tryd.underlying54 (j := 2) rfl rfl)
      injection e0 with e0
      injection e1 with e1 e1'
      injection e1' with e1'
      injection e2 with e2 e2'
      injection e2' with e2' e2''
      injection e2'' with e2''
      subst e0 e1 e1' e2 e2' e2''
      exact ⟨⟨k0, a, b, ⟨k, A, n, c, D, m, d, ts, xs⟩⟩, rfl, ⟨g1, g5, g2, g6, by show n ≤ _; omega, by show m ≤ _; omega, g4⟩⟩

theorem votes_value {fuel : Nat} {v : Value} {x : DataW H × List MemPlace} (hf : DataW.trod enc Tryd.prog W 0 (fun _ => true) true fuel 28 [v] = some x) (hw : Light 28 x.1) :
    ∃ a len cap ts, v = .slice a len cap ∧ HasVt W W.heap.size a ts ∧ ts.length = len ∧ len ≤ 1759218604400 := by
  rcases Go.Deep.open_slice Tryd.underlying28 hf with ⟨hcs, _⟩ | ⟨x, len, cap, m, n, D, Pl, hcs, _, hl, _, hm, hx, hcell⟩
  · injection hcs with hcs
    exact ⟨none, 0, 0, [], hcs, fun i hi => absurd hi (by simp), rfl, by simp⟩
  · injection hcs with hcs
    subst hcs
    simp only [if_true] at hm
    subst hx
    have hsz := hw.slice Tryd.underlying28
    rw [bytesOf_vote] at hsz
    simp [reachBytes] at hsz
    rw [cells_vote6] at hcell
    obtain ⟨F, hF⟩ := Go.Deep.choose_lt (α := Votev) (n := len) (p := fun i q => (∀ j v, q.cells[j]? = some v → W.cell? ((x.add (i * 6)).add j) = some v) ∧ IsV W W.heap.size q.v.A q.v.n q.v.D q.v.m q.v.cs q.v.ns) (fun i hi => by
      obtain ⟨cs', hc, ht⟩ := hcell i (by omega)
      obtain ⟨_, hlen, hat⟩ := World.cells?_some hc
      obtain ⟨q, rfl, hq⟩ := vote_value hlen ht (hw.elem Tryd.underlying28 (List.mem_map.2 ⟨i, List.mem_range.2 (by omega), rfl⟩))
      refine ⟨q, fun j v hj => ?_, hq⟩
      have hj' : j < 6 := by
        rcases Nat.lt_or_ge j 6 with h | h
        · exact h
        · rw [List.getElem?_eq_none (by simpa [Votev.cells] using h)] at hj; cases hj
      rw [hat j hj', hj])
    refine ⟨some x, len, cap, (List.range len).map F, rfl, fun k hk => ?_, by simp, by omega⟩
    have hk' : k < len := by simpa using hk
    have e : ((List.range len).map F)[k] = F k := by simp
    obtain ⟨h1, h2⟩ := hF k hk'
    rw [e]
    generalize F k = q at *
    have g0 := h1 0 _ rfl
    have g1 := h1 1 _ rfl
    have g2 := h1 2 _ rfl
    have g3 := h1 3 _ rfl
    have g4 := h1 4 _ rfl
    have g5 := h1 5 _ rfl
    obtain ⟨b, o, s⟩ := x
    have hs : s = none := by
      obtain ⟨h6, _⟩ := hF 0 (by omega)
      have := World.cell?_spot (h6 0 _ rfl)
      simpa [Addr.add] using this
    subst hs
    have ea : ∀ j, ((⟨b, o, none⟩ : Addr).add (k * 6)).add j = ⟨b, o + k * 6 + j, none⟩ := by
      intro j
      rw [Go.Deep.add_add]
      unfold Addr.add
      split <;> simp_all <;> omega
    rw [ea] at g0 g1 g2 g3 g4 g5
    exact ⟨⟨b, o, rfl, cell_lt g0, g0, g1, g2, g3, g4, g5⟩, h2⟩

theorem bytes_value {fuel : Nat} {v : Value} {x : DataW H × List MemPlace} (hf : DataW.trod enc Tryd.prog W 0 (fun _ => true) true fuel 35 [v] = some x) (hw : Light 35 x.1) :
    ∃ a len cap xs, v = .slice a len cap ∧ Has W W.heap.size a xs ∧ xs.length = len ∧ len ≤ cap ∧ cap ≤ 140737488351232 := by
  rcases Go.Deep.open_slice Tryd.underlying35 hf with ⟨hcs, _⟩ | ⟨y, len, cap, m, n, D, Pl, hcs, _, hl, _, hm, hx, hcell⟩
  · injection hcs with hcs
    exact ⟨none, 0, 0, [], hcs, Has.nil _ _ _, rfl, Nat.le_refl _, by simp⟩
  · injection hcs with hcs
    subst hcs
    obtain ⟨d, pl⟩ := x
    obtain ⟨xs, h1⟩ := open_bytes (enc := enc) (d := d) (ps := pl) ⟨fuel, hf⟩
    refine ⟨_, _, _, xs, rfl, h1.has, h1.len_eq, h1.le, ?_⟩
    rcases h1.datum with ⟨_, h0⟩ | ⟨es, sp, rfl, he⟩
    · omega
    · have := hw.slice Tryd.underlying35
      rw [bytesOf_byte, he] at this
      simpa [reachBytes] using this

set_option maxRecDepth 20000 in
theorem res_value {fuel : Nat} {cs : List Value} {x : DataW H × List MemPlace} (hl : cs.length = 3)
    (h : DataW.trod enc Tryd.prog W 0 (fun _ => true) true fuel 34 cs = some x) : ∃ a b c : Int, cs = [.int .i64 a, .int .i64 b, .int .i64 c] ∧ IsInt a ∧ IsInt b ∧ IsInt c := by
  obtain ⟨ys, n', _, hx, _, hyl, hf⟩ := DataW.trod_struct Tryd.underlying34 h
  match cs, hl with
  | [v0, v1, v2], _ =>
    match ys, hyl with
    | [y0, y1, y2], _ =>
      have h0 : DataW.trod enc Tryd.prog W 0 (fun _ => true) true n' 3 [v0] = some y0 := by simpa [cells_int1] using hf 0 _ rfl
      have h1 : DataW.trod enc Tryd.prog W 0 (fun _ => true) true n' 3 [v1] = some y1 := by simpa [cells_int1] using hf 1 _ rfl
      have h2 : DataW.trod enc Tryd.prog W 0 (fun _ => true) true n' 3 [v2] = some y2 := by simpa [cells_int1] using hf 2 _ rfl
      obtain ⟨k0, e0, rfl, w0⟩ := DataW.trod_int Tryd.underlying3 h0
      obtain ⟨k1, e1, rfl, w1⟩ := DataW.trod_int Tryd.underlying3 h1
      obtain ⟨k2, e2, rfl, w2⟩ := DataW.trod_int Tryd.underlying3 h2
      injection e0 with e0
      injection e1 with e1
      injection e2 with e2
      subst e0 e1 e2
      exact ⟨k0, k1, k2, rfl, isInt_of_wf w0, isInt_of_wf w1, isInt_of_wf w2⟩

/-- What is known of a message that came in. -/
structure CameM (W : World) (m : Msgv) : Prop where
  im : IsM W W.heap.size m
  vn : m.vn ≤ 1759218604400
  kd : IsInt m.kd
  sl : IsInt m.sl
  tm : IsInt m.tm

set_option maxRecDepth 20000 in
set_option maxHeartbeats 800000 in
theorem msg_value {fuel : Nat} {cs : List Value} {x : DataW H × List MemPlace} (hl : cs.length = 25) (h : DataW.trod enc Tryd.prog W 0 (fun _ => true) true fuel 37 cs = some x) (hw : Light 37 x.1) :
    ∃ m : Msgv, cs.toArray = m.cells ∧ CameM W m := by
  obtain ⟨ys, n', _, hx, _, hyl, hf⟩ := DataW.trod_struct Tryd.underlying37 h
  match cs, hl with
  | [v0, v1, v2, v3, v4, v5, v6, v7, v8, v9, v10, v11, v12, v13, v14, v15, v16, v17, v18, v19, v20, v21, v22, v23, v24], _ =>
    match ys, hyl with
    | [y0, y1, y2, y3, y4, y5, y6, y7, y8, y9, y10, y11, y12], _ =>
      have h0 : DataW.trod enc Tryd.prog W 0 (fun _ => true) true n' 3 [v0] = some y0 := by simpa [cells_int1] using hf 0 _ rfl
      have h1 : DataW.trod enc Tryd.prog W 0 (fun _ => true) true n' 3 [v1] = some y1 := by simpa [cells_int1] using hf 1 _ rfl
      have h2 : DataW.trod enc Tryd.prog W 0 (fun _ => true) true n' 3 [v2] = some y2 := by simpa [cells_int1] using hf 2 _ rfl
      have h3 : DataW.trod enc Tryd.prog W 0 (fun _ => true) true n' 3 [v3] = some y3 := by simpa [cells_int1] using hf 3 _ rfl
      have h4 : DataW.trod enc Tryd.prog W 0 (fun _ => true) true n' 23 [v4, v5] = some y4 := by simpa [cells_bal2] using hf 4 _ rfl
      have h5 : DataW.trod enc Tryd.prog W 0 (fun _ => true) true n' 3 [v6] = some y5 := by simpa [cells_int1] using hf 5 _ rfl
      have h6 : DataW.trod enc Tryd.prog W 0 (fun _ => true) true n' 3 [v7] = some y6 := by simpa [cells_int1] using hf 6 _ rfl
      have h7 : DataW.trod enc Tryd.prog W 0 (fun _ => true) true n' 3 [v8] = some y7 := by simpa [cells_int1] using hf 7 _ rfl
      have h8 : DataW.trod enc Tryd.prog W 0 (fun _ => true) true n' 27 [v9, v10, v11] = some y8 := by simpa [cells_val3] using hf 8 _ rfl
      have h9 : DataW.trod enc Tryd.prog W 0 (fun _ => true) true n' 28 [v12] = some y9 := by simpa [cells_votes1] using hf 9 _ rfl
      have h10 : DataW.trod enc Tryd.prog W 0 (fun _ => true) true n' 32 [v13, v14, v15, v16, v17, v18, v19, v20] = some y10 := by simpa [cells_cmd8] using hf 10 _ rfl
      have h11 : DataW.trod enc Tryd.prog W 0 (fun _ => true) true n' 34 [v21, v22, v23] = some y11 := by simpa [cells_res3] using hf 11 _ rfl
      have h12 : DataW.trod enc Tryd.prog W 0 (fun _ => true) true n' 35 [v24] = some y12 := by simpa [cells_bytes1] using hf 12 _ rfl
      subst hx
      have q8 : Light 27 y8.1 := hw.field Tryd.underlying37 (j := 8) rfl rfl
      have q9 : Light 28 y9.1 := hw.field Tryd.underlying37 (j := 9) rfl rfl
      have q12 : Light 35 y12.1 := hw.field Tryd.underlying37 (j := 12) rfl rfl
      clear hf hw h
      obtain ⟨k0, e0, rfl, w0⟩ := DataW.trod_int Tryd.underlying3 h0
      obtain ⟨k1, e1, rfl, w1⟩ := DataW.trod_int Tryd.underlying3 h1
      obtain ⟨k2, e2, rfl, w2⟩ := DataW.trod_int Tryd.underlying3 h2
      obtain ⟨k3, e3, rfl, w3⟩ := DataW.trod_int Tryd.underlying3 h3
      obtain ⟨ba, bb, e4, _, _⟩ := bal_value rfl h4
      obtain ⟨k5, e5, rfl, w5⟩ := DataW.trod_int Tryd.underlying3 h5
      obtain ⟨k6, e6, rfl, w6⟩ := DataW.trod_int Tryd.underlying3 h6
      obtain ⟨k7, e7, rfl, w7⟩ := DataW.trod_int Tryd.underlying3 h7
      obtain ⟨k, A, n, c, D, m, d, ts, xs, e8, _, g1, g2, g3, g4, g5, g6, g7, _⟩ := val_value rfl h8 q8
      obtain ⟨VA, vn, vc, vs, rfl, g9, g10, g11⟩ := votes_value h9 q9
      obtain ⟨cm, e10, g12⟩ := cmd_value rfl h10
      obtain ⟨ra, rb, rc', e11, i1, i2, i3⟩ := res_value rfl h11
      obtain ⟨DA, dn', dc, ds, rfl, g13, g14, g15, g16⟩ := bytes_value h12 q12
      clear h0 h1 h2 h3 h4 h5 h6 h7 h8 h9 h10 h11 h12
      refine ⟨⟨k0, k1, k2, k3, ba, bb, k5, k6, k7, ⟨k, A, n, c, D, m, d, ts, xs⟩, VA, vn, vc, vs, cm, ra, rb, rc', DA, dn', dc, ds⟩, ?_, ⟨⟨⟨g1, g5, g2, g6, by show n ≤ _; omega, by show m ≤ _; omega, g4⟩, g9, g10, by show vn ≤ _; omega, g13, g14, g15, by show dn' ≤ _; omega, g12, i1, i2, i3⟩, g11, isInt_of_wf w0, isInt_of_wf w5, isInt_of_wf w7⟩⟩
      simp only [List.cons.injEq, and_true] at e0 e1 e2 e3 e4 e5 e6 e7 e8 e10 e11
      obtain ⟨a4, b4⟩ := e4
      obtain ⟨a8, b8, c8⟩ := e8
      obtain ⟨a10, b10, c10, d10, f10, g10', h10', i10⟩ := e10
      obtain ⟨a11, b11, c11⟩ := e11
      rw [e0, e1, e2, e3, a4, b4, e5, e6, e7, a8, b8, c8, a10, b10, c10, d10, f10, g10', h10', i10, a11, b11, c11]
      rfl

set_option maxRecDepth 20000 in
theorem open_msg {base : Nat} {v : Value} {d : DataW H} {p : List MemPlace} (hv : Value.okWide Tryd.prog W .any base 37 v)
    (h : DataW.Trod enc Tryd.prog W 0 (fun _ => true) true 37 v d p) (hw : Light 37 d) : ∃ m : Msgv, v = .agg m.cells ∧ CameM W m := by
  obtain ⟨cs, rfl, hsz⟩ := okWide_struct Tryd.underlying37 hv
  obtain ⟨fuel, hf⟩ := h
  obtain ⟨m, e, r⟩ := msg_value (by have := hsz.trans cells_msg25; simpa [Value.cells] using this) hf hw
  exact ⟨m, by rw [← e]; simp [Value.cells], r⟩
end
end Go.Proofs.YtapbcpilklhoiabDoor

namespace Go.Proofs.YtapbcpilklhoiabDoor
open Go.RowKit

theorem oN_t {t : Bool} {s : RSt} {q : Int × RSt} (h : oN t s = q) (ht : t = true) : ((rc P50 s).1 : Int) = q.1 ∧ (rc P50 s).2 = q.2 := by subst ht; subst h; exact ⟨rfl, rfl⟩
theorem oN_f {t : Bool} {s : RSt} {q : Int × RSt} (h : oN t s = q) (ht : t = false) : q = (0, s) := by subst ht; subst h; rfl
theorem oV_f {t : Bool} {s : RSt} {q : RdV} (h : oV t s = q) (ht : t = false) : q = ⟨0, [], [], s⟩ := by subst ht; subst h; rfl
theorem oVts_f {t : Bool} {s : RSt} {q : List Votel × RSt} (h : oVts t s = q) (ht : t = false) : q = ([], s) := by subst ht; subst h; rfl
theorem oC_f {t : Bool} {s : RSt} {q : Cmdv × RSt} (h : oC t s = q) (ht : t = false) : q = (zeroC, s) := by subst ht; subst h; rfl
theorem oR_f {t : Bool} {s : RSt} {q : RdR} (h : oR t s = q) (ht : t = false) : q = ⟨0, 0, 0, s⟩ := by subst ht; subst h; rfl
theorem oD_f {t : Bool} {s : RSt} {q : List UInt8 × RSt} (h : oD t s = q) (ht : t = false) : q = ([], s) := by subst ht; subst h; rfl
theorem rtext_st (g : Nat) (b : Option Nat) (s : RSt) (w : World) (h : Rd w g b s.1 s.2) : Calls Tryd.prog 85 #[.pointer (some ⟨g, 0, none⟩), .int .i64 1024] w fun e w' => ∃ v, e = .returned v ∧ Own w' w.heap.size v (rt 1024 s).1 ∧ ∃ b', RGo g b w (rt 1024 s).2 b' w' := by
  have hm : IsInt 1024 := isInt_lit (by omega)
  obtain ⟨xs, er⟩ := s
  by_cases he : er = 0
  · subst he
    have e : rc 1024 (xs, 0) = rcn xs 1024 := rfl
    unfold rt
    rw [e]
    by_cases h1 : (rcn xs 1024).2.2 = 0
    · rw [if_neg (by simp [h1])]
      by_cases h2 : (rcn xs 1024).2.1.length < (rcn xs 1024).1
      · rw [if_pos h2]
        refine (rtext_short g b xs 1024 w h hm h1 h2).mono ?_
        rintro e w' ⟨v, rfl, ho, b', hr, hl, hk⟩
        exact ⟨v, rfl, ho, b', ⟨hr, hl, hk⟩⟩
      · rw [if_neg h2]
        refine (rtext_ok g b xs 1024 w h hm h1 (by omega)).mono ?_
        rintro e w' ⟨v, rfl, ho, b', hr, hl, hk⟩
        exact ⟨v, rfl, ho, b', ⟨hr, hl, hk⟩⟩
    · rw [if_pos h1]
      refine (rtext_bad g b xs 1024 w h hm h1).mono ?_
      rintro e w' ⟨v, rfl, ho, b', hr, hl, hk⟩
      exact ⟨v, rfl, ho, b', ⟨hr, hl, hk⟩⟩
  · have e : rc 1024 (xs, er) = (0, (xs, er)) := by unfold rc; rw [if_neg he]
    unfold rt
    rw [e]
    simp only
    rw [if_pos he]
    refine (rtext_stuck g b xs er 1024 w h he hm).mono ?_
    rintro e w' ⟨rfl, rfl⟩
    exact ⟨_, rfl, Own.nil _ _, b, ⟨h, .inl rfl, Kept.refl _ _⟩⟩

set_option maxRecDepth 20000 in
set_option maxHeartbeats 6400000 in
theorem readrest_gen (kd fr tt ep u : Int) (g gm : Nat) (b b0 : Option Nat) (s : RSt) (m0 : Msgv) (w W : World) (R0 : RS w g gm b s b0 m0 W) (x0 : m0.lg = (⟨kd, fr, tt, ep, 0, 0, 0, 0, 0, 0, [], [], [], zeroC, 0, 0, 0, []⟩ : Msgl))
    (qa qb qc qd qe : Int × RSt) (qv : RdV) (qo : List Votel × RSt) (qm : Cmdv × RSt) (qr : RdR) (qy : List UInt8 × RSt) (ha : oN (ut u 2) s = qa) (hb : oN (ut u 2) qa.2 = qb) (hc : oN (ut u 4) qb.2 = qc) (hd : oN (ut u 16) qc.2 = qd) (he : oN (ut u 32) qd.2 = qe) (hv : oV (ut u 64) qe.2 = qv) (ho : oVts (ut u 128) qv.s = qo) (hm : oC (ut u 256) qo.2 = qm) (hr : oR (ut u 512) qm.2 = qr) (hy : oD (ut u 1024) qr.s = qy) :
    Calls Tryd.prog 52 #[.pointer (some ⟨g, 0, none⟩), .pointer (some ⟨gm, 0, none⟩), .int .i64 u] W fun e w' => e = .returned (.tuple #[]) ∧ ∃ b' m', RS w g gm b qy.2 b' m' w' ∧ m'.lg = (⟨kd, fr, tt, ep, qa.1, qb.1, qc.1, qd.1, qe.1, qv.k, qv.cs, qv.ns, qo.1, qm.1, qr.k, qr.r, qr.i, qy.1⟩ : Msgl) := by
  have HA := hide ha
  have HB := hide hb
  have HC := hide hc
  have HD := hide hd
  have HE := hide he
  have HV := hide hv
  have HO := hide ho
  have HM := hide hm
  have HR := hide hr
  have HY := hide hy
  clear ha hb hc hd he hv ho hm hr hy
  go_enter Tryd.func52, Tryd.ntmps52
  go_upto_if 8 with fail
  go_cut [] (fun wx => ∃ b' m', RS w g gm b qb.2 b' m' wx ∧ m'.lg = (⟨kd, fr, tt, ep, qa.1, qb.1, 0, 0, 0, 0, [], [], [], zeroC, 0, 0, 0, []⟩ : Msgl))
  case first =>
    by_cases t : (bits .and .i64 u 2 != 0) = true
    · go_wp2_with fail
      refine (readbal_any g b0 s _ R0.rd R0.hf).mono ?_
      rintro e w1 ⟨rfl, b1, h1⟩
      have R := R0.call h1
      obtain ⟨e1, e2⟩ := oN_t HA.out t
      rw [e2] at R ⊢
      obtain ⟨e3, e4⟩ := oN_t HB.out t
      rw [e4] at R
      rw [e1, e3]
      clear h1
      obtain ⟨c4, f4⟩ := row_cells R.mr.box 4
      obtain ⟨c5, f5⟩ := row_cells R.mr.box 5
      simp only [Msgv.cells, List.getElem?_toArray, List.getElem?_cons_succ, List.getElem?_cons_zero] at c4 c5
      go_wp2_with fail
      go_meet
      exact ⟨b1, _, R.bal qa.1 qb.1, congrArg (fun x : Msgl => { x with br := qa.1, bn := qb.1 }) x0⟩
    · have t' : (bits .and .i64 u 2 != 0) = false := Bool.eq_false_iff.2 t
      have h1 := oN_f HA.out t'
      have h2 := oN_f HB.out t'
      rw [h1] at h2
      go_wp2_with fail
      go_meet
      exact ⟨b0, m0, by rw [h2]; exact R0, by rw [h1, h2]; exact x0⟩
  clear R0 x0
  obtain ⟨b0, m0, R0, x0⟩ := hcut
  go_upto_if 16 with fail
  go_cut [] (fun wx => ∃ b' m', RS w g gm b qc.2 b' m' wx ∧ m'.lg = (⟨kd, fr, tt, ep, qa.1, qb.1, qc.1, 0, 0, 0, [], [], [], zeroC, 0, 0, 0, []⟩ : Msgl))
  case first =>
    by_cases t : (bits .and .i64 u 4 != 0) = true
    · go_wp2_with fail
      refine (RGo.count (RGo.start R0.rd) P50 isIntP).mono ?_
      rintro e w1 ⟨rfl, b1, h1⟩
      have R := R0.call h1
      obtain ⟨e1, e2⟩ := oN_t HC.out t
      rw [e2] at R
      rw [e1]
      clear h1
      obtain ⟨c6, f6⟩ := row_cells R.mr.box 6
      simp only [Msgv.cells, List.getElem?_toArray, List.getElem?_cons_succ, List.getElem?_cons_zero] at c6
      go_wp2_with fail
      go_meet
      exact ⟨b1, _, R.slot qc.1, congrArg (fun x : Msgl => { x with sl := qc.1 }) x0⟩
    · have t' : (bits .and .i64 u 4 != 0) = false := Bool.eq_false_iff.2 t
      have h1 := oN_f HC.out t'
      go_wp2_with fail
      go_meet
      exact ⟨b0, m0, by rw [h1]; exact R0, by rw [h1]; exact x0⟩
  clear R0 x0
  obtain ⟨b0, m0, R0, x0⟩ := hcut
  go_upto_if 24 with fail
  go_cut [] (fun wx => ∃ b' m', RS w g gm b qd.2 b' m' wx ∧ m'.lg = (⟨kd, fr, tt, ep, qa.1, qb.1, qc.1, qd.1, 0, 0, [], [], [], zeroC, 0, 0, 0, []⟩ : Msgl))
  case first =>
    by_cases t : (bits .and .i64 u 16 != 0) = true
    · go_wp2_with fail
      refine (RGo.count (RGo.start R0.rd) P50 isIntP).mono ?_
      rintro e w1 ⟨rfl, b1, h1⟩
      have R := R0.call h1
      obtain ⟨e1, e2⟩ := oN_t HD.out t
      rw [e2] at R
      rw [e1]
      clear h1
      obtain ⟨c7, f7⟩ := row_cells R.mr.box 7
      simp only [Msgv.cells, List.getElem?_toArray, List.getElem?_cons_succ, List.getElem?_cons_zero] at c7
      go_wp2_with fail
      go_meet
      exact ⟨b1, _, R.low qd.1, congrArg (fun x : Msgl => { x with lw := qd.1 }) x0⟩
    · have t' : (bits .and .i64 u 16 != 0) = false := Bool.eq_false_iff.2 t
      have h1 := oN_f HD.out t'
      go_wp2_with fail
      go_meet
      exact ⟨b0, m0, by rw [h1]; exact R0, by rw [h1]; exact x0⟩
  clear R0 x0
  obtain ⟨b0, m0, R0, x0⟩ := hcut
  go_upto_if 32 with fail
  go_cut [] (fun wx => ∃ b' m', RS w g gm b qe.2 b' m' wx ∧ m'.lg = (⟨kd, fr, tt, ep, qa.1, qb.1, qc.1, qd.1, qe.1, 0, [], [], [], zeroC, 0, 0, 0, []⟩ : Msgl))
  case first =>
    by_cases t : (bits .and .i64 u 32 != 0) = true
    · go_wp2_with fail
      refine (RGo.count (RGo.start R0.rd) P50 isIntP).mono ?_
      rintro e w1 ⟨rfl, b1, h1⟩
      have R := R0.call h1
      obtain ⟨e1, e2⟩ := oN_t HE.out t
      rw [e2] at R
      rw [e1]
      clear h1
      obtain ⟨c8, f8⟩ := row_cells R.mr.box 8
      simp only [Msgv.cells, List.getElem?_toArray, List.getElem?_cons_succ, List.getElem?_cons_zero] at c8
      go_wp2_with fail
      go_meet
      exact ⟨b1, _, R.time qe.1, congrArg (fun x : Msgl => { x with tm := qe.1 }) x0⟩
    · have t' : (bits .and .i64 u 32 != 0) = false := Bool.eq_false_iff.2 t
      have h1 := oN_f HE.out t'
      go_wp2_with fail
      go_meet
      exact ⟨b0, m0, by rw [h1]; exact R0, by rw [h1]; exact x0⟩
  clear R0 x0
  obtain ⟨b0, m0, R0, x0⟩ := hcut
  go_upto_if 40 with fail
  go_cut [] (fun wx => ∃ b' m', RS w g gm b qv.s b' m' wx ∧ m'.lg = (⟨kd, fr, tt, ep, qa.1, qb.1, qc.1, qd.1, qe.1, (qv.k : Int), qv.cs, qv.ns, [], zeroC, 0, 0, 0, []⟩ : Msgl))
  case first =>
    by_cases t : (bits .and .i64 u 64 != 0) = true
    · go_wp2_with fail
      obtain ⟨l8, l7, lc⟩ := rdV_lens qe.2
      refine (vread_any g b0 qe.2 _ R0.rd R0.hf).mono ?_
      rintro e w1 ⟨A1, n1, c1, D1, l1, d1, rfl, hn1, hm1, hoc, hoi, b1, h1⟩
      have R := R0.call h1
      have e1 : rdV qe.2 = qv := by have := HV.out; rw [show ut u 64 = true from t] at this; exact this
      rw [e1] at R l8 l7 lc hn1 hm1 hoc hoi ⊢
      have hz := R0.kept.size
      clear h1
      obtain ⟨_, _, _, e2, _, _, g1⟩ := hoc.form
      obtain ⟨_, _, _, e3, _, _, g2⟩ := hoi.form
      injection e2 with e11 e12 e13
      injection e3 with e21 e22 e23
      subst e11 e12 e13 e21 e22 e23
      obtain ⟨c9, f9⟩ := row_cells R.mr.box 9
      obtain ⟨c10, f10⟩ := row_cells R.mr.box 10
      obtain ⟨c11, f11⟩ := row_cells R.mr.box 11
      simp only [Msgv.cells, List.getElem?_toArray, List.getElem?_cons_succ, List.getElem?_cons_zero] at c9 c10 c11
      have R' := R.val ⟨qv.k, A1, n1, c1, D1, l1, d1, qv.cs, qv.ns⟩ ⟨g1, g2, hn1.out, hm1.out, by show n1 ≤ _; have := hn1.out; omega, by show l1 ≤ _; have := hm1.out; omega, lc⟩ (fun k hk => by
        rcases hk with ⟨o, e⟩ | ⟨o, e⟩
        · have := hoc.lt k (own_block e); exact ⟨by omega, by omega, free_own hoc k (own_block e)⟩
        · have := hoi.lt k (own_block e); exact ⟨by omega, by omega, free_own hoi k (own_block e)⟩)
      go_wp2_with fail
      go_meet
      exact ⟨b1, _, R', congrArg (fun x : Msgl => { x with k := (qv.k : Int), cs := qv.cs, ns := qv.ns }) x0⟩
    · have t' : (bits .and .i64 u 64 != 0) = false := Bool.eq_false_iff.2 t
      have h1 := oV_f HV.out t'
      go_wp2_with fail
      go_meet
      exact ⟨b0, m0, by rw [h1]; exact R0, by rw [h1]; exact x0⟩
  clear R0 x0
  obtain ⟨b0, m0, R0, x0⟩ := hcut
  go_upto_if 48 with fail
  go_cut [] (fun wx => ∃ b' m', RS w g gm b qo.2 b' m' wx ∧ m'.lg = (⟨kd, fr, tt, ep, qa.1, qb.1, qc.1, qd.1, qe.1, (qv.k : Int), qv.cs, qv.ns, qo.1, zeroC, 0, 0, 0, []⟩ : Msgl))
  case first =>
    by_cases t : (bits .and .i64 u 128 != 0) = true
    · go_wp2_with fail
      refine (readvotes_any g b0 qv.s _ R0.rd R0.hf).mono ?_
      rintro e w1 ⟨A1, n1, c1, vs1, rfl, hv1, b1, h1⟩
      have R := R0.call h1
      have e1 : rdVts (rc 64 qv.s).1 (rc 64 qv.s).2 = qo := by have := HO.out; rw [show ut u 128 = true from t] at this; exact this
      have hM := rc_le (s := qv.s) (most := 64) (by omega)
      have hlen := rdVts_len (rc 64 qv.s).1 (rc 64 qv.s).2
      rw [e1] at R hv1 hlen
      have hz := R0.kept.size
      clear h1
      obtain ⟨_, _, _, e2, hn1, _, g1⟩ := hv1.ow.form hv1.iv
      injection e2 with e11 e12 e13
      subst e11 e12 e13
      have hl1 : vs1.length ≤ 64 := by
        have h2 := congrArg List.length hv1.eq
        rw [List.length_map] at h2
        omega
      obtain ⟨c12, f12⟩ := row_cells R.mr.box 12
      simp only [Msgv.cells, List.getElem?_toArray, List.getElem?_cons_succ, List.getElem?_cons_zero] at c12
      have R' := R.votes A1 n1 c1 vs1 g1 hn1.out (by have := hn1.out; omega) (fun k hk => by
        rcases hk with ⟨o, e⟩ | ⟨x, hx, hr⟩
        · have := hv1.ow.lt k (own_block e); exact ⟨by omega, by omega, free_own hv1.ow k (own_block e)⟩
        · have := hv1.re x hx k hr; exact ⟨by omega, by omega, this.2.2.2⟩)
      go_wp2_with fail
      go_meet
      refine ⟨b1, _, R', ?_⟩
      rw [← hv1.eq]
      exact congrArg (fun x : Msgl => { x with vs := vs1.map Votev.lg }) x0
    · have t' : (bits .and .i64 u 128 != 0) = false := Bool.eq_false_iff.2 t
      have h1 := oVts_f HO.out t'
      go_wp2_with fail
      go_meet
      exact ⟨b0, m0, by rw [h1]; exact R0, by rw [h1]; exact x0⟩
  clear R0 x0
  obtain ⟨b0, m0, R0, x0⟩ := hcut
  go_upto_if 56 with fail
  go_cut [] (fun wx => ∃ b' m', RS w g gm b qm.2 b' m' wx ∧ m'.lg = (⟨kd, fr, tt, ep, qa.1, qb.1, qc.1, qd.1, qe.1, (qv.k : Int), qv.cs, qv.ns, qo.1, qm.1, 0, 0, 0, []⟩ : Msgl))
  case first =>
    by_cases t : (bits .and .i64 u 256 != 0) = true
    · go_wp2_with fail
      have hcm := tk_isCmd qo.2
      refine (takecmd_any g b0 qo.2 _ R0.rd R0.hf).mono ?_
      rintro e w1 ⟨rfl, b1, h1⟩
      have R := R0.call h1
      have e1 : tk qo.2 = qm := by have := HM.out; rw [show ut u 256 = true from t] at this; exact this
      rw [e1] at R hcm ⊢
      unfold Cmdv.val
      clear h1
      obtain ⟨c13, f13⟩ := row_cells R.mr.box 13
      obtain ⟨c14, f14⟩ := row_cells R.mr.box 14
      obtain ⟨c15, f15⟩ := row_cells R.mr.box 15
      obtain ⟨c16, f16⟩ := row_cells R.mr.box 16
      obtain ⟨c17, f17⟩ := row_cells R.mr.box 17
      obtain ⟨c18, f18⟩ := row_cells R.mr.box 18
      obtain ⟨c19, f19⟩ := row_cells R.mr.box 19
      obtain ⟨c20, f20⟩ := row_cells R.mr.box 20
      simp only [Msgv.cells, List.getElem?_toArray, List.getElem?_cons_succ, List.getElem?_cons_zero] at c13 c14 c15 c16 c17 c18 c19 c20
      have R' := R.cmd qm.1 hcm
      go_wp2_with fail
      go_meet
      exact ⟨b1, _, R', congrArg (fun x : Msgl => { x with cm := qm.1 }) x0⟩
    · have t' : (bits .and .i64 u 256 != 0) = false := Bool.eq_false_iff.2 t
      have h1 := oC_f HM.out t'
      go_wp2_with fail
      go_meet
      exact ⟨b0, m0, by rw [h1]; exact R0, by rw [h1]; exact x0⟩
  clear R0 x0
  obtain ⟨b0, m0, R0, x0⟩ := hcut
  go_upto_if 64 with fail
  go_cut [] (fun wx => ∃ b' m', RS w g gm b qr.s b' m' wx ∧ m'.lg = (⟨kd, fr, tt, ep, qa.1, qb.1, qc.1, qd.1, qe.1, (qv.k : Int), qv.cs, qv.ns, qo.1, qm.1, qr.k, qr.r, qr.i, []⟩ : Msgl))
  case first =>
    by_cases t : (bits .and .i64 u 512 != 0) = true
    · go_wp2_with fail
      have e1 : rdR qm.2 = qr := by have := HR.out; rw [show ut u 512 = true from t] at this; exact this
      have i1 := ri_isInt qm.2
      have i2 := ri_isInt (ri qm.2).2
      have i3 := ri_isInt (ri (ri qm.2).2).2
      refine (RGo.int (RGo.start R0.rd)).mono ?_
      rintro e w1 ⟨rfl, b1, h1⟩
      have R1 := R0.call h1
      go_wp2_with fail
      refine (RGo.int (RGo.start R1.rd)).mono ?_
      rintro e w2 ⟨rfl, b2, h2⟩
      have R2 := R1.call h2
      go_wp2_with fail
      refine (RGo.int (RGo.start R2.rd)).mono ?_
      rintro e w3 ⟨rfl, b3, h3⟩
      have R := R2.call h3
      have E1 : (ri qm.2).1 = qr.k := by rw [← e1]; rfl
      have E2 : (ri (ri qm.2).2).1 = qr.r := by rw [← e1]; rfl
      have E3 : (ri (ri (ri qm.2).2).2).1 = qr.i := by rw [← e1]; rfl
      have E4 : (ri (ri (ri qm.2).2).2).2 = qr.s := by rw [← e1]; rfl
      rw [E1] at i1 ⊢
      rw [E2] at i2 ⊢
      rw [E3] at i3 ⊢
      rw [E4] at R
      clear h1 h2 h3 R1 R2 E1 E2 E3 E4 e1
      obtain ⟨c21, f21⟩ := row_cells R.mr.box 21
      obtain ⟨c22, f22⟩ := row_cells R.mr.box 22
      obtain ⟨c23, f23⟩ := row_cells R.mr.box 23
      simp only [Msgv.cells, List.getElem?_toArray, List.getElem?_cons_succ, List.getElem?_cons_zero] at c21 c22 c23
      have R' := R.res qr.k qr.r qr.i i1 i2 i3
      go_wp2_with fail
      go_meet
      exact ⟨b3, _, R', congrArg (fun x : Msgl => { x with rk := qr.k, rr := qr.r, ri := qr.i }) x0⟩
    · have t' : (bits .and .i64 u 512 != 0) = false := Bool.eq_false_iff.2 t
      have h1 := oR_f HR.out t'
      go_wp2_with fail
      go_meet
      exact ⟨b0, m0, by rw [h1]; exact R0, by rw [h1]; exact x0⟩
  clear R0 x0
  obtain ⟨b0, m0, R0, x0⟩ := hcut
  go_upto_if 77 with fail
  by_cases t : (bits .and .i64 u 1024 != 0) = true
  · go_wp2_with fail
    refine (rtext_st g b0 qr.s _ R0.rd).mono ?_
    rintro e w1 ⟨v1, rfl, ho1, b1, h1⟩
    have R := R0.call h1
    have hl1 := rt_len qr.s
    have e1 : rt 1024 qr.s = qy := by have := HY.out; rw [show ut u 1024 = true from t, oD_t] at this; exact this
    rw [e1] at R ho1 hl1
    have hz := R0.kept.size
    clear h1
    obtain ⟨A1, n1, c1, rfl, hn1, hnc1, hx1, _⟩ := ho1.form
    obtain ⟨c24, f24⟩ := row_cells R.mr.box 24
    simp only [Msgv.cells, List.getElem?_toArray, List.getElem?_cons_succ, List.getElem?_cons_zero] at c24
    have R' := R.data A1 n1 c1 qy.1 hx1 hn1.out hnc1 (by have := hn1.out; omega) (fun k o e => by have := ho1.lt k (own_block e); exact ⟨by omega, by omega, free_own ho1 k (own_block e)⟩)
    go_wp2
    go_end0
    exact ⟨rfl, b1, _, R', congrArg (fun x : Msgl => { x with ds := qy.1 }) x0⟩
  · have t' : (bits .and .i64 u 1024 != 0) = false := Bool.eq_false_iff.2 t
    have h1 := oD_f HY.out t'
    go_wp2
    go_end0
    exact ⟨rfl, b0, m0, by rw [h1]; exact R0, by rw [h1]; exact x0⟩
end Go.Proofs.YtapbcpilklhoiabDoor

namespace Go.Proofs.YtapbcpilklhoiabDoor
open Go.RowKit

def filB (b1 b2 b3 b4 b5 b6 b7 b8 b9 : Bool) : Int := mk (mk (mk (mk (mk (mk (mk (mk (mk 0 b1 2) b2 4) b3 16) b4 32) b5 64) b6 128) b7 256) b8 512) b9 1024
def bools : List Bool := [false, true]
theorem bools_mem (b : Bool) : b ∈ bools := by cases b <;> simp [bools]
def fchk (k : Nat) : Bool := bools.all fun b1 => bools.all fun b2 => bools.all fun b3 => bools.all fun b4 => bools.all fun b5 => bools.all fun b6 => bools.all fun b7 => bools.all fun b8 => bools.all fun b9 => (bits .andNot .i64 (filB b1 b2 b3 b4 b5 b6 b7 b8 b9) (usedT (k : Int)) != 0) || ((!b1 || ut (usedT (k : Int)) 2) && (!b2 || ut (usedT (k : Int)) 4) && (!b3 || ut (usedT (k : Int)) 16) && (!b4 || ut (usedT (k : Int)) 32) && (!b5 || ut (usedT (k : Int)) 64) && (!b6 || ut (usedT (k : Int)) 128) && (!b7 || ut (usedT (k : Int)) 256) && (!b8 || ut (usedT (k : Int)) 512) && (!b9 || ut (usedT (k : Int)) 1024))
theorem fil_all : (List.range 15).all fchk = true := by decide +kernel
theorem fil_used (k : Nat) (hk : k < 15) (b1 b2 b3 b4 b5 b6 b7 b8 b9 : Bool) : (bits .andNot .i64 (filB b1 b2 b3 b4 b5 b6 b7 b8 b9) (usedT (k : Int)) = 0 →
    (b1 = true → ut (usedT (k : Int)) 2 = true) ∧ (b2 = true → ut (usedT (k : Int)) 4 = true) ∧ (b3 = true → ut (usedT (k : Int)) 16 = true) ∧ (b4 = true → ut (usedT (k : Int)) 32 = true) ∧ (b5 = true → ut (usedT (k : Int)) 64 = true) ∧ (b6 = true → ut (usedT (k : Int)) 128 = true) ∧ (b7 = true → ut (usedT (k : Int)) 256 = true) ∧ (b8 = true → ut (usedT (k : Int)) 512 = true) ∧ (b9 = true → ut (usedT (k : Int)) 1024 = true)) := by
  intro h
  have hh := List.all_eq_true.1 fil_all k (List.mem_range.2 hk)
  unfold fchk at hh
  replace hh := List.all_eq_true.1 hh b1 (bools_mem b1)
  replace hh := List.all_eq_true.1 hh b2 (bools_mem b2)
  replace hh := List.all_eq_true.1 hh b3 (bools_mem b3)
  replace hh := List.all_eq_true.1 hh b4 (bools_mem b4)
  replace hh := List.all_eq_true.1 hh b5 (bools_mem b5)
  replace hh := List.all_eq_true.1 hh b6 (bools_mem b6)
  replace hh := List.all_eq_true.1 hh b7 (bools_mem b7)
  replace hh := List.all_eq_true.1 hh b8 (bools_mem b8)
  replace hh := List.all_eq_true.1 hh b9 (bools_mem b9)
  rw [h] at hh
  simp only [bne_self_eq_false, Bool.false_or, Bool.and_eq_true, Bool.or_eq_true, Bool.not_eq_true'] at hh
  obtain ⟨⟨⟨⟨⟨⟨⟨⟨h1, h2⟩, h3⟩, h4⟩, h5⟩, h6⟩, h7⟩, h8⟩, h9⟩ := hh
  have nt : ∀ {b c : Bool}, (b = false ∨ c = true) → b = true → c = true := fun {b c} h hb => by rcases h with h | h; rw [h] at hb; cases hb; exact h
  exact ⟨nt h1, nt h2, nt h3, nt h4, nt h5, nt h6, nt h7, nt h8, nt h9⟩
theorem used_all : (List.range 15).all (fun k => usedT (k : Int) == 0 || ut (usedT (k : Int)) 1) = true := by decide +kernel
theorem used_head (k : Nat) (hk : k < 15) (h : usedT (k : Int) ≠ 0) : ut (usedT (k : Int)) 1 = true := by
  have hh := List.all_eq_true.1 used_all k (List.mem_range.2 hk)
  simp only [Bool.or_eq_true, beq_iff_eq] at hh
  rcases hh with h1 | h1
  · exact absurd h1 h
  · exact h1
theorem used_in {k : Int} (h : usedT k ≠ 0) : 0 ≤ k ∧ k ≤ 14 := by
  unfold usedT at h
  split at h
  · assumption
  · exact absurd rfl h

theorem chkVts_fine (vs : List Votev) : ∀ f : Int, 0 ≤ f → (∀ v ∈ vs, ∀ c ∈ v.v.cs, IsCmd c) → chkVts vs f = 0 → ∀ v ∈ vs, FineVt v.lg := by
  induction vs with
  | nil => intro f _ _ _ v hv; simp at hv
  | cons x xs ih =>
    intro f hf hc h v hv
    have h0 : chkVt x f = 0 := by
      by_cases e : chkVt x f = 0
      · exact e
      · rw [chkVts, if_neg e] at h
        exact absurd h e
    rw [chkVts, if_pos h0] at h
    unfold chkVt at h0
    by_cases h1 : insB x.sl f 1099511627776 = true
    · rw [if_pos h1] at h0
      by_cases h2 : valB x.br x.bn = true
      · rw [if_pos h2] at h0
        have h1' : f ≤ x.sl ∧ x.sl ≤ 1099511627776 := of_decide_eq_true h1
        have h2' : 1 ≤ x.br ∧ x.br ≤ 1099511627776 ∧ 1 ≤ x.bn ∧ x.bn ≤ 9 := of_decide_eq_true h2
        rcases List.mem_cons.1 hv with rfl | hv
        · exact ⟨by show 0 ≤ v.sl ∧ v.sl ≤ 1099511627776; omega, h2', chkV_fine (hc v (List.mem_cons_self ..)) h0⟩
        · exact ih (x.sl + 1) (by omega) (fun v hv => hc v (List.mem_cons_of_mem _ hv)) h v hv
      · rw [if_neg h2] at h0
        omega
    · rw [if_neg h1] at h0
      omega

theorem sameV_nil {k : Int} {cs : List Cmdv} {ns : List Int} (h : sameV k cs ns 0 [] [] = true) : k = 0 ∧ cs = [] ∧ ns = [] := sameV_iff.1 h
theorem eqC_zero {c : Cmdv} (h : eqC c zeroC = true) : c = zeroC := ints_inj (of_decide_eq_true h)

theorem chkM_fine {w : World} {B : Nat} {m : Msgv} (hm : IsM w B m) (h : chkM m = 0) : FineM m.lg (usedT m.kd) := by
  unfold chkM at h
  by_cases c1 : (usedT m.kd == 0) = true
  · rw [if_pos c1] at h; omega
  rw [if_neg c1] at h
  by_cases c2 : (bits .andNot .i64 (filV m) (usedT m.kd) != 0) = true
  · rw [if_pos c2] at h; omega
  rw [if_neg c2] at h
  by_cases c3 : bndB m (lsOf (usedT m.kd)) = false
  · rw [if_pos c3] at h; omega
  rw [if_neg c3] at h
  by_cases c4 : (bits .and .i64 (usedT m.kd) 2 != 0) = true ∧ valB m.br m.bn = false
  · rw [if_pos c4] at h; omega
  rw [if_neg c4] at h
  by_cases c5 : chkV m.v.k m.v.cs m.v.ns ≠ 0
  · rw [if_pos c5] at h; exact absurd h c5
  rw [if_neg c5] at h
  by_cases c6 : chkVotes m.vs m.sl ≠ 0
  · rw [if_pos c6] at h; exact absurd h c6
  rw [if_neg c6] at h
  have hu0 : usedT m.kd ≠ 0 := by simpa using c1
  have hk := used_in hu0
  have hf0 : bits .andNot .i64 (filV m) (usedT m.kd) = 0 := by simpa using c2
  have hb : bndB m (lsOf (usedT m.kd)) = true := by simpa using c3
  have hv0 : chkV m.v.k m.v.cs m.v.ns = 0 := by simpa using c5
  have ho0 : chkVotes m.vs m.sl = 0 := by simpa using c6
  have hls : 0 ≤ lsOf (usedT m.kd) := by unfold lsOf; split <;> omega
  unfold bndB insB at hb
  simp only [Bool.and_eq_true, decide_eq_true_eq] at hb
  obtain ⟨⟨⟨⟨⟨⟨q1, q2⟩, q3⟩, q4⟩, q5⟩, q6⟩, q7⟩ := hb
  have hkk : ((m.kd.toNat : Nat) : Int) = m.kd := by omega
  have hF := fil_used m.kd.toNat (by omega) (!decide (m.br = 0) || !decide (m.bn = 0)) (m.sl != 0) (m.lw != 0) (m.tm != 0) (!sameV m.v.k m.v.cs m.v.ns 0 [] []) (decide (0 < m.vn)) (!eqC m.cm zeroC) (!decide (m.rk = 0) || (!decide (m.rr = 0) || !decide (m.ri = 0))) (decide (0 < m.dn)) (by rw [hkk]; exact hf0)
  have hH := used_head m.kd.toNat (by omega) (by rw [hkk]; exact hu0)
  rw [hkk] at hF hH
  obtain ⟨f1, f2, f3, f4, f5, f6, f7, f8, f9⟩ := hF
  have nt : ∀ {b c : Bool}, (b = true → c = true) → c = false → b = false := fun {b c} h hc => by cases b with | false => rfl | true => rw [h rfl] at hc; exact hc
  have hol : m.vs.length ≤ 64 := by
    unfold chkVotes at ho0
    split at ho0
    · assumption
    · omega
  have hvt : chkVts m.vs m.sl = 0 := by
    unfold chkVotes at ho0
    rw [if_pos hol] at ho0
    exact ho0
  have hcc : ∀ v ∈ m.vs, ∀ c ∈ v.v.cs, IsCmd c := fun v hv => by
    obtain ⟨i, hi, rfl⟩ := List.getElem_of_mem hv
    exact (hm.vt i hi).2.cc
  have hfv := chkVts_fine m.vs m.sl (by omega) hcc hvt
  refine ⟨hH, hk, q1, q2, q3, fun e => ?_, fun e => ?_, ⟨by show 0 ≤ m.sl; omega, q4.2⟩, fun e => ?_, q5, fun e => ?_, q6, fun e => ?_, chkV_fine hm.v.cc hv0, fun e => ?_, ?_, ?_, fun e => ?_, hm.cm, fun e => ?_, hm.i1, hm.i2, hm.i3, fun e => ?_, ?_, fun e => ?_⟩
  · have : valB m.br m.bn = true := by
      cases hh : valB m.br m.bn with
      | true => rfl
      | false => exact absurd ⟨e, hh⟩ c4
    exact of_decide_eq_true this
  · have := nt f1 e
    simp at this
    exact this
  · have := nt f2 e
    simp at this
    exact this
  · have := nt f3 e
    simp at this
    exact this
  · have := nt f4 e
    simp at this
    exact this
  · have := nt f5 e
    simp at this
    exact sameV_nil this
  · show (m.vs.map Votev.lg).length ≤ 64
    rw [List.length_map]
    exact hol
  · intro v hv
    obtain ⟨v', hv', rfl⟩ := List.mem_map.1 hv
    exact hfv v' hv'
  · have := nt f6 e
    have hz : m.vn = 0 := by simpa using this
    show m.vs.map Votev.lg = []
    rw [List.eq_nil_of_length_eq_zero (l := m.vs) (by rw [hm.en, hz])]
    rfl
  · have := nt f7 e
    simp at this
    exact eqC_zero this
  · have := nt f8 e
    simp at this
    exact this
  · show m.ds.length ≤ 1024
    rw [hm.ed]
    exact q7
  · have := nt f9 e
    have hz : m.dn = 0 := by simpa using this
    exact List.eq_nil_of_length_eq_zero (by show m.ds.length = 0; rw [hm.ed, hz])

theorem encV_len' {k : Int} {cs : List Cmdv} {ns : List Int} (h : FineV k cs ns) : (encV k cs ns).length ≤ 666 := by
  have h1 := encNs_length ns
  have h2 := bw_le (unb k)
  have h3 := bw_le cs.length
  have h4 := bw_le ns.length
  have h5 := encCs_length cs
  have h6 := h.cl
  have h7 := h.nl
  unfold encV
  simp only [List.length_append, enc_length]
  omega
theorem encVt_len (u : Int) {v : Votel} (h : FineVt v) : (encVt u v).length ≤ 693 := by
  have h1 := putL_len u 128 [v.sl, v.br, v.bn]
  have h2 := encV_len' h.v
  unfold encVt
  simp only [List.length_append, List.length_cons, List.length_nil] at *
  omega
theorem encVts_len (u : Int) (vs : List Votel) (h : ∀ v ∈ vs, FineVt v) : (encVts u vs).length ≤ 693 * vs.length := by
  induction vs with
  | nil => simp [encVts]
  | cons x xs ih =>
    have e : encVts u (x :: xs) = encVt u x ++ encVts u xs := rfl
    have h1 := encVt_len u (h x (List.mem_cons_self ..))
    have h2 := ih (fun v hv => h v (List.mem_cons_of_mem _ hv))
    rw [e, List.length_append, List.length_cons]
    omega
theorem optB_len (t : Bool) (xs : List UInt8) : (optB t xs).length ≤ xs.length := by
  cases t <;> simp [optB]
theorem FineM.len {x : Msgl} {u : Int} (h : FineM x u) : (encM x u).length ≤ 60000 := by
  have h1 := putL_len u 1 [x.kd, x.fr, x.tt, x.ep]
  have h2 := putL_len u 2 [x.br, x.bn]
  have h3 := putL_len u 4 [x.sl]
  have h4 := putL_len u 16 [x.lw]
  have h5 := putL_len u 32 [x.tm]
  have h6 := putL_len u 128 [(x.vs.length : Int)]
  have h7 := encV_len' h.v
  have h7' := optB_len (ut u 64) (encV x.k x.cs x.ns)
  have h8 := encVts_len u x.vs h.vt
  have h9 := encL_length x.cm.ints
  have h9' := optB_len (ut u 256) (encL x.cm.ints)
  have h10 := encL_length [x.rk, x.rr, x.ri]
  have h10' := optB_len (ut u 512) (encL [x.rk, x.rr, x.ri])
  have h11 := optB_len (ut u 1024) (enc x.ds.length ++ x.ds)
  have h12 := bw_le x.ds.length
  have h13 := h.vl
  have h14 := h.dl
  have h15 : x.cm.ints.length = 8 := rfl
  unfold encM
  simp only [List.length_append, List.length_cons, List.length_nil, enc_length] at *
  omega

/-- What bytes are read as. -/
def rdM (xs : List UInt8) : RdM :=
  let h := rdH (xs, 0)
  rdRest h.kd h.fr h.tt h.ep (usedT h.kd) h.s
theorem rdM_enc {x : Msgl} (h : FineM x (usedT x.kd)) : rdM (encM x (usedT x.kd)) = ⟨x, ([], 0)⟩ ∧ (rdH (encM x (usedT x.kd), 0)).kd = x.kd.toNat ∧ (rdH (encM x (usedT x.kd), 0)).s.2 = 0 := by
  have e : encM x (usedT x.kd) = putL (usedT x.kd) 1 [x.kd, x.fr, x.tt, x.ep] ++ (putL (usedT x.kd) 2 [x.br, x.bn] ++ (putL (usedT x.kd) 4 [x.sl] ++ (putL (usedT x.kd) 16 [x.lw] ++ (putL (usedT x.kd) 32 [x.tm] ++ (optB (ut (usedT x.kd) 64) (encV x.k x.cs x.ns) ++ (putL (usedT x.kd) 128 [(x.vs.length : Int)] ++ (encVts (usedT x.kd) x.vs ++ (optB (ut (usedT x.kd) 256) (encL x.cm.ints) ++ (optB (ut (usedT x.kd) 512) (encL [x.rk, x.rr, x.ri]) ++ (optB (ut (usedT x.kd) 1024) (enc x.ds.length ++ x.ds))))))))))) := by
    unfold encM
    simp only [List.append_assoc]
  have e1 := rdH_enc h (putL (usedT x.kd) 2 [x.br, x.bn] ++ (putL (usedT x.kd) 4 [x.sl] ++ (putL (usedT x.kd) 16 [x.lw] ++ (putL (usedT x.kd) 32 [x.tm] ++ (optB (ut (usedT x.kd) 64) (encV x.k x.cs x.ns) ++ (putL (usedT x.kd) 128 [(x.vs.length : Int)] ++ (encVts (usedT x.kd) x.vs ++ (optB (ut (usedT x.kd) 256) (encL x.cm.ints) ++ (optB (ut (usedT x.kd) 512) (encL [x.rk, x.rr, x.ri]) ++ (optB (ut (usedT x.kd) 1024) (enc x.ds.length ++ x.ds)))))))))))
  have e2 := rdRest_enc h
  rw [e]
  unfold rdM
  simp only [e1]
  rw [Int.toNat_of_nonneg h.kd.1, Int.toNat_of_nonneg h.fr.1, Int.toNat_of_nonneg h.tt.1, Int.toNat_of_nonneg h.ep.1]
  exact ⟨e2, trivial, trivial⟩
theorem encM_unlike {x y : Msgl} (hx : FineM x (usedT x.kd)) (hy : FineM y (usedT y.kd)) (h : encM x (usedT x.kd) = encM y (usedT y.kd)) : x = y := by
  have e1 := (rdM_enc hx).1
  have e2 := (rdM_enc hy).1
  rw [h, e2] at e1
  exact (congrArg RdM.x e1).symm
theorem rdM_back {xs : List UInt8} (hu : usedT ((rdH (xs, 0)).kd : Int) ≠ 0) (h : (rdM xs).s = ([], 0)) : encM (rdM xs).x (usedT (rdM xs).x.kd) = xs := by
  have hk := used_in hu
  have h1 := used_head (rdH (xs, 0)).kd (by omega) hu
  obtain ⟨h2, h3⟩ := rdRest_back (s := (rdH (xs, 0)).s) h
  obtain ⟨_, h5⟩ := rdH_back h1 h2
  have h3 := h3 (rdM xs).x rfl
  have e0 : (rdM xs).x.kd = ((rdH (xs, 0)).kd : Int) := rfl
  have e1 : (rdM xs).x.fr = ((rdH (xs, 0)).fr : Int) := rfl
  have e2 : (rdM xs).x.tt = ((rdH (xs, 0)).tt : Int) := rfl
  have e3 : (rdM xs).x.ep = ((rdH (xs, 0)).ep : Int) := rfl
  have h5' : xs = putL (usedT ((rdH (xs, 0)).kd : Int)) 1 [((rdH (xs, 0)).kd : Int), ((rdH (xs, 0)).fr : Int), ((rdH (xs, 0)).tt : Int), ((rdH (xs, 0)).ep : Int)] ++ (rdH (xs, 0)).s.1 := h5
  rw [h3] at h5'
  unfold encM
  rw [e0, e1, e2, e3]
  simp only [List.append_assoc]
  exact h5'.symm
end Go.Proofs.YtapbcpilklhoiabDoor
