/-
  Valid and Clear of package lease. No condition but that times are numbers of 64 bits.
-/
import Derived.Test.YtgdncmkhcdmjoaaLeaseC
set_option linter.unusedSimpArgs false
set_option linter.unusedVariables false
namespace Go.Proofs.Ytgdncmkhcdmjoaa
open Go.RowKit
/-- Does a node's grant count at a time? -/
def okA (hold now : Int) (t : Option Int) : Bool := match t with
  | none => false
  | some t => decide (t ≤ now) && decide (now - t < hold)
def Hd.valid (q : Hd) (now : Int) : Bool := quoH q.ms (fun k => okA q.hold now (q.f k))
/-- The loop's memory. -/
structure VR (w : World) (mb r : Nat) (D : DataW Value) (P : Int → Bool) (v : Value) (acc : List Int) (left : Lit → Bool) (cnt : Nat) (wr : World) : Prop where
  own : OwnI wr w.heap.size v acc
  rg : wr.ranges Try.prog 3 raw mb r (Maps.size D) D left cnt
  len : acc.length + cnt ≤ 9
  mem : ∀ k, k ∈ acc ↔ P k = true ∧ left (.int .i64 k) = false
  bel : Below w.heap.size w wr
theorem VR.next {w wr w3 : World} {mb r : Nat} {D : DataW Value} {P : Int → Bool} {v : Value} {acc : List Int} {left : Lit → Bool} {cnt : Nat} (h : VR w mb r D P v acc left cnt wr) (hr : w.heap.size ≤ r) (hg : wr.grownBy w3 (some r)) :
    OwnI w3 w.heap.size v acc ∧ Below w.heap.size w w3 := by
  have hrr : ∃ m s0 se c0, wr.heap[r]? = some (.mapIter m s0 se c0) := by
    obtain ⟨es, clock, since, seen, c0, _, _, _, _, hr, _⟩ := h.rg
    exact ⟨_, _, _, _, hr⟩
  obtain ⟨m, s0, se, c0, hrr⟩ := hrr
  have hk : Kept (fun j => j = r) wr w3 := Kept.of_grown (F := fun j => j = r) hg (fun j hj => (Option.some.inj hj).symm)
  refine ⟨h.own.keep fun j hj => hk.block j (h.own.lt j hj).2 (fun e => ?_), h.bel.trans (hk.below h.bel.size (fun j hj => by omega))⟩
  obtain ⟨cur, hc⟩ := ownsRow_typedI h.own j hj
  rw [e, hrr] at hc
  cases hc
theorem push_keptL {w w6 w7 : World} {b r cnt : Nat} {D : DataW Value} {v : Value} {acc : List Int} {left : Lit → Bool} (ho : OwnI w6 w.heap.size v acc) (hr : w6.ranges Try.prog 3 raw b r (Maps.size D) D left cnt) (hb : Below w.heap.size w w6)
    (hg : w6.grownBy w7 v.ownBlock) : w7.ranges Try.prog 3 raw b r (Maps.size D) D left cnt ∧ Below w.heap.size w w7 := by
  have hk : Kept (fun j => v.ownBlock = some j) w6 w7 := Kept.of_grown (F := fun j => v.ownBlock = some j) hg (fun j hj => hj)
  have hrr : (∃ m s0 se c0, w6.heap[r]? = some (.mapIter m s0 se c0)) ∧ ∃ es cl, w6.heap[b]? = some (.map es cl) := by
    obtain ⟨es, clock, since, seen, c0, h1, _, _, _, h2, _⟩ := hr
    exact ⟨⟨_, _, _, _, h2⟩, _, _, h1⟩
  obtain ⟨⟨m, s0, se, c0, h1⟩, es, cl, h2⟩ := hrr
  refine ⟨hr.kept hg (fun e => ?_) (fun e => ?_), hb.trans (hk.below hb.size (fun j hj => (ho.lt j hj).1))⟩
  · obtain ⟨cur, hc⟩ := ownsRow_typedI ho b e.symm
    rw [h2] at hc
    cases hc
  · obtain ⟨cur, hc⟩ := ownsRow_typedI ho r e.symm
    rw [h1] at hc
    cases hc
section
variable {w w' : World} {g : Nat} {A : Option Addr} {n c mb : Nat} {q : Hd}
set_option maxHeartbeats 1600000 in
set_option maxRecDepth 20000 in
theorem hvalid_any (h : IsH w g A n c mb q) (now : Int) (hnow : In64' now) : Calls Try.prog 31 #[.pointer (some ⟨g, 0, none⟩), .int .i64 now] w fun e w' => e = .returned (.bool (q.valid now)) ∧ Below w.heap.size w w' := by
  obtain ⟨⟨c0, c1, c2⟩, _⟩ := h.cells
  have heq := eq_pH g
  obtain ⟨D, ho, hh, hv⟩ := h.map
  have hsz9 : Maps.size D ≤ 9 := IMap.count 0 9 ho (fun x hx => by
    rw [hh x] at hx
    unfold Hd.M at hx
    cases hf : q.f x with
    | none => rw [hf] at hx; cases hx
    | some t => have := rightS_mem h.good.rt (h.good.k x t hf).1; omega)
  obtain ⟨wr, hrun, hrg, hgr, hsz⟩ := World.ownsMap.range (w := w) (t := 90) ho int_key Try.underlying90
  have hbr : Below w.heap.size w wr := ⟨hgr.os, hgr.tape, hgr.output, hgr.size, fun i hi => hgr.block i hi (by simp)⟩
  have hmem : ∀ k, k ∈ ([] : List Int) ↔ okA q.hold now (q.f k) = true ∧ Maps.has D (.int .i64 k) = false := fun k => by
    refine ⟨fun hk => absurd hk (by simp), fun hk => ?_⟩
    exfalso
    have hk2 := hk.2
    rw [hh k] at hk2
    have h1 := hk.1
    unfold okA at h1
    unfold Hd.M at hk2
    cases hf : q.f k with
    | none => rw [hf] at h1; cases h1
    | some t => rw [hf] at hk2; cases hk2
  have HAR : Hid (VR w mb w.heap.size D (fun k => okA q.hold now (q.f k)) (.slice none 0 0) [] (Maps.has D) (Maps.size D) wr) := hide ⟨OwnI.nil _ _, hrg, by simpa using hsz9, hmem, hbr⟩
  have HV1 : Hid (∀ x u, (∀ z, D.atKey (.int .i64 x) z = .held u) → Maps.has D (.int .i64 x) = true → ∃ t, q.f x = some t ∧ u = .int .i64 t ∧ In64' t) := hide (fun x u hat hhas => by
    have hs1 := hhas
    rw [hh x] at hs1
    unfold Hd.M at hs1
    cases hf : q.f x with
    | none => rw [hf] at hs1; cases hs1
    | some t =>
      have e1 := hv x (.int .i64 t) (by unfold Hd.M; rw [hf]; rfl) (.held undef)
      rw [hat] at e1
      exact ⟨t, rfl, DataW.held.inj e1, (h.good.k x t hf).2⟩)
  have HH := hide h
  have HN := hide hnow
  clear hmem ho hh hv hrg hgr hsz9 hbr h hnow
  go_enter Try.func31, Try.ntmps31
  go_wp2_with fail
  clear c0 c1 c2 hrun
  have HSZ : Hid (w.heap.size = w.heap.size) := rfl
  go_loopw [5] (fun s5 wr => ∃ acc left cnt, VR w mb w.heap.size D (fun k => okA q.hold now (q.f k)) s5 acc left cnt wr) (fun _ wr => wr.rangeLeft mb w.heap.size)
  case atStart => exact ⟨[], _, _, HAR.out⟩
  case round =>
    clear HAR
    obtain ⟨acc, left, cnt, hAR⟩ := hrel
    have hrg := hAR.rg
    have HA := hide hAR
    clear hAR
    go_wp2_with (first | (at_next; refine wpList_next_ranges _ rfl _ rfl 3 int_key raw (Value.int .i64) (fun (v : Value) => v) (fun key kl hkey => (by obtain ⟨x, e⟩ := Maps.keyOf_int_inv Try.underlying3 hkey; exact ⟨x, e.1⟩)) (fun v y hv => ⟨v, rfl⟩) mb w.heap.size (Maps.size D) D left cnt rfl hrg ?_ ?_) | fail)
    · intro hc0 hl0
      obtain ⟨A', n', c', e1, e2, _, e3⟩ := HA.out.own.form
      subst e1
      have h9 := HA.out.len
      have h8 := e2.out
      have hi := HH.out.below HA.out.bel
      obtain ⟨⟨c0, c1, c2⟩, _⟩ := hi.cells
      obtain ⟨m1, m2, m3⟩ := hi.mem
      have hen := enough_any A A' n n' c c' wr.heap.size wr.heap.size q.ms acc wr m1 e3 m2 h8 (by omega) (by omega) hi.good.rt
      rw [enB_quoH (p := fun k => okA q.hold now (q.f k)) (fun k => by rw [HA.out.mem k, hl0]; simp)] at hen
      have HB := hide HA.out.bel
      clear e2 e3 h9 h8 hi m1 m2 m3 hrg hc0 hl0 HA
      go_wp2_with fail
      refine hen.mono ?_
      rintro e _ ⟨rfl, rfl⟩
      go_wp2
      go_ret
      exact ⟨rfl, HB.out⟩
    · intro x u kl yd yp w3 cnt3 hkey hlk hvy hat hrg3 hlt hg3 hs3 hen
      obtain ⟨x', hx'⟩ := Maps.keyOf_int_inv Try.underlying3 hkey
      have ex : x' = x := by have := hx'.1; injection this with _ e; exact e.symm
      subst ex
      obtain ⟨_, ekl, hwx⟩ := hx'
      rw [ekl] at hat hlk
      have hrm : wr.rangeLeft mb w.heap.size = cnt := hrg.left_eq
      have ey : DataW.held u = yd := congrArg Prod.fst (Option.some.inj hvy)
      have hat' : ∀ z, D.atKey (.int .i64 x') z = .held u := fun z => by rw [hat z, ey]
      have hhas : Maps.has D (.int .i64 x') = true := Maps.has_true_of_atKey hat'
      obtain ⟨ho3, hbl3⟩ := HA.out.next (Nat.le_refl _) hg3
      obtain ⟨t, hft, rfl, ht64⟩ := HV1.out x' _ hat' hhas
      have h16 := HA.out.len
      have hmem := HA.out.mem
      clear hat' hat hkey hhas ey hvy hrg hg3
      obtain ⟨hms1, hms2⟩ := mem_stepL (P := fun k => okA q.hold now (q.f k)) hmem hlk
      rw [ekl] at hrg3
      have hi3 := HH.out.below hbl3
      obtain ⟨⟨c0, c1, c2⟩, _⟩ := hi3.cells
      have hru := fun hle => gruns_any t q.hold now w3 ht64 HN.out hle HH.out.good.h
      have HO3 := hide ho3
      have HR3 := hide hrg3
      have HL3 := hide hbl3
      have HM1 := hide hms1
      have HM2 := hide hms2
      have HFT := hide hft
      have HRU := hide hru
      go_upto_region 7 with fail
      clear ho3 hrg3 hbl3 hms1 hms2 hft hlk hmem ekl hwx hs3 hen hi3 hru ht64
      by_cases hle : t ≤ now
      · have hru := HRU.out hle
        have dle : decide (t ≤ now) = true := decide_eq_true hle
        obtain ⟨rb, hrb⟩ : ∃ rb, decide (now - t < q.hold) = rb := ⟨_, rfl⟩
        rw [hrb] at hru
        have HP : Hid (okA q.hold now (q.f x') = rb) := hide (by rw [HFT.out]; show (decide (t ≤ now) && decide (now - t < q.hold)) = rb; rw [dle, hrb]; rfl)
        clear hrb hle
        cases rb
        · go_wp2_with fail
          refine hru.mono ?_
          rintro e _ ⟨rfl, rfl⟩
          go_wp2_with fail
          go_roundw
          case rel => exact ⟨acc, _, cnt3, HO3.out, HR3.out, by omega, HM1.out HP.out, HL3.out⟩
          case measure => rw [HR3.out.left_eq, hrm]; exact hlt
        · have hone : HasI (w3.alloc (.cells (icells [x']) 3)) (w3.heap.size + 1) (some ⟨w3.heap.size, 0, none⟩) [x'] := HasI.new w3 3 [x'] (0, 0) w3.heap.size rfl
          have hba := (Below.refl _ w3).alloc (Nat.le_refl _) (.cells (icells [x']) 3)
          have HO6 := hide (HO3.out.below hba)
          have HR6 := hide (HR3.out.alloc (.cells (icells [x']) 3))
          have HL6 := hide (HL3.out.trans (hba.mono HL3.out.size))
          have HLN : Hid (acc.length + 1 ≤ 17592186044416) := hide (by omega)
          have hic : icells [x'] = #[.int .i64 x'] := rfl
          rw [hic] at hone hba HO6 HR6 HL6
          clear hic
          go_wp2_with fail
          refine hru.mono ?_
          rintro e _ ⟨rfl, rfl⟩
          go_wp2_with (first
            | (refine list_append_intsL _ rfl (.tmp 32) (.tmp 34) rfl w.heap.size u5 acc rfl HO6.out _ _ 1 1 [x'] rfl hone rfl HLN.out HL6.out.size ?_; intro v7 w7 ho7 hg7; have HO7 := hide ho7; have HG7 := hide hg7; clear ho7 hg7)
            | fail)
          have hpk := push_keptL HO6.out HR6.out HL6.out HG7.out
          go_roundw
          case rel => exact ⟨acc ++ [x'], _, cnt3, HO7.out, hpk.1, by rw [List.length_append]; simp; omega, HM2.out HP.out, hpk.2⟩
          case measure => rw [hpk.1.left_eq, hrm]; exact hlt
      · have dle : decide (t ≤ now) = false := decide_eq_false hle
        have HP : Hid (okA q.hold now (q.f x') = false) := hide (by rw [HFT.out]; show (decide (t ≤ now) && decide (now - t < q.hold)) = false; rw [dle]; rfl)
        clear hle
        go_wp2_with fail
        go_roundw
        case rel => exact ⟨acc, _, cnt3, HO3.out, HR3.out, by omega, HM1.out HP.out, HL3.out⟩
        case measure => rw [HR3.out.left_eq, hrm]; exact hlt
theorem clear_ii {w : World} {b : Nat} {M : Int → Option Value} (h : IMap w b M) :
    ∃ w', (∀ ty, (Builtin.clear_ #[90] ty #[.map (some b)]).run Try.prog w = .ok (.tuple #[]) w') ∧ IMap w' b (fun _ => none) ∧ Kept (fun j => j = b) w w' := by
  obtain ⟨D, ⟨es, cl, hb, hf, hs, _⟩, _⟩ := h
  refine ⟨{ w with heap := w.heap.setIfInBounds b (.map #[] cl) }, fun ty => ?_, ⟨.map [], ⟨#[], cl, (MapKept.heap_set hb).1, ⟨by simp, MapKept.stamped_empty _, by simp⟩, by simp, rfl⟩, fun _ => rfl, fun _ _ e => by cases e⟩, ?_⟩
  · simp [Builtin.clear_, run_underlying Try.underlying90, MapKept.run_getObj_map hb, MapKept.run_setObj_map _ hb, Result.andThen]
  · exact ⟨rfl, rfl, rfl, by simp, fun j _ hj => (MapKept.heap_set hb).2 j hj⟩
theorem hclear_any (h : IsH w g A n c mb q) : Calls Try.prog 30 #[.pointer (some ⟨g, 0, none⟩)] w (HEnds g A n c mb { q with f := fun _ => none } (.tuple #[]) w) := by
  obtain ⟨⟨c0, c1, c2⟩, _⟩ := h.cells
  have hne := neq_pH g
  obtain ⟨w2, hcl, hm, hk⟩ := clear_ii h.map
  have H2 : Hid (IsH w2 g A n c mb { q with f := fun _ => none }) := hide (h.turn (fun x t e => by cases e) hm hk)
  have HK := hide hk
  clear h hm hk
  go_enter Try.func30, Try.ntmps30
  go_wp2
  go_end0
  exact ⟨rfl, H2.out, HK.out⟩
theorem hclear_nil (w : World) : Calls Try.prog 30 #[.pointer none] w fun e w' => e = .returned (.tuple #[]) ∧ w = w' := by
  go_enter Try.func30, Try.ntmps30
  go_wp2
  go_end0
  exact ⟨rfl, rfl⟩
end
end Go.Proofs.Ytgdncmkhcdmjoaa
