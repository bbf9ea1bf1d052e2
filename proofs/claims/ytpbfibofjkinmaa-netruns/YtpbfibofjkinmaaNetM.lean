/-
  The walk of NetRuns. Conditions: what comes in is in reach.
-/
import Derived.Test.YtpbfibofjkinmaaNetL
import Derived.Deep.DeepCutAuto
import Derived.Deep.CutRange
import Derived.Deep.CutBlock
import Derived.Deep.RegionHeld3
set_option linter.unusedSimpArgs false
set_option linter.unusedVariables false
namespace Go.Proofs.Ytpbfibofjkinmaa
open Go.RowKit

/-- A step of a script. -/
structure Nop where
  k : Int
  n : Int
  f : Int
  t : Int
  A : Option Addr
  m : Nat
  c : Nat
  xs : List UInt8
def Nop.cells (o : Nop) : List Value := [.int .i64 o.k, .int .i64 o.n, .int .i64 o.f, .int .i64 o.t, .slice o.A o.m o.c]

/-- The slice that begins at A reads as the steps os, below B. -/
structure HasNop (w : World) (B : Nat) (A : Option Addr) (os : List Nop) : Prop where
  row : ∀ i (h : i < os.length), ∃ b o, A = some ⟨b, o, none⟩ ∧ b < B ∧ w.rangeAt b (o + i * 5) os[i].cells
  dat : ∀ p ∈ os, Has w B p.A p.xs ∧ p.xs.length = p.m ∧ p.m ≤ 140737488355328
theorem HasNop.below {w w' : World} {B : Nat} {A : Option Addr} {os : List Nop} (h : HasNop w B A os) (hb : Below B w w') : HasNop w' B A os :=
  ⟨fun i hi => by
    obtain ⟨b, o, e, hlt, hr⟩ := h.row i hi
    exact ⟨b, o, e, hlt, fun j u hu => by rw [hb.cell (p := ⟨b, o + i * 5 + j, none⟩) hlt]; exact hr j u hu⟩, fun p hp => by
    obtain ⟨h1, h2⟩ := h.dat p hp
    exact ⟨h1.below hb, h2⟩⟩

/-- Both sides of NetRuns. -/
structure NI (w : World) (b0 g : Nat) (vN : Value) (ns : List Pkt) (gR nR cR : Nat) (rs : List Pkt) (wr : World) : Prop where
  net : IsN wr b0 g vN ns
  ref : RI wr b0 gR nR cR rs
  key : ns.map Pkt.key = rs.map Pkt.key
  dis : vN.ownBlock ≠ some gR
  bel : Below w.heap.size w wr
theorem NI.below {w wr wr' : World} {b0 g gR nR cR : Nat} {vN : Value} {ns rs : List Pkt} (h : NI w b0 g vN ns gR nR cR rs wr) (hb : Below wr.heap.size wr wr') : NI w b0 g vN ns gR nR cR rs wr' :=
  ⟨h.net.below hb, h.ref.below hb, h.key, h.dis, h.bel.trans (hb.mono h.bel.size)⟩
theorem NI.len {w wr : World} {b0 g gR nR cR : Nat} {vN : Value} {ns rs : List Pkt} (h : NI w b0 g vN ns gR nR cR rs wr) : ns.length = rs.length := by
  have := congrArg List.length h.key
  simpa using this

theorem filter_key {ns rs : List Pkt} (x : Int) (h : ns.map Pkt.key = rs.map Pkt.key) : (ns.filter (fun p => !ofNode x p)).map Pkt.key = (rs.filter (fun p => !ofNode x p)).map Pkt.key := by
  induction ns generalizing rs with
  | nil =>
    cases rs with
    | nil => rfl
    | cons r rs => simp at h
  | cons p ns ih =>
    cases rs with
    | nil => simp at h
    | cons r rs =>
      simp only [List.map_cons, List.cons.injEq] at h
      have e : ofNode x p = ofNode x r := by
        have h1 := h.1
        simp only [Pkt.key, Prod.mk.injEq] at h1
        simp only [ofNode, h1.1, h1.2.1]
      rw [List.filter_cons, List.filter_cons, e]
      cases ofNode x r
      · simp only [Bool.not_false, if_pos, List.map_cons, h.1, ih h.2]
      · simp only [Bool.not_true, Bool.false_eq_true, if_false]
        exact ih h.2
theorem RI.hasR {w : World} {b0 gR nR cR : Nat} {rs : List Pkt} (h : RI w b0 gR nR cR rs) : HasR w (some ⟨gR, 0, none⟩) 3 (rs.map Pkt.cells) := by
  obtain ⟨A', n', c', e', _, _, _, hr, _, _⟩ := h.row.form
  injection e' with e1 e2 e3
  subst e1 e2 e3
  exact hr
/-- A box that calls on the net leave. -/
theorem IsN.box {w w' : World} {b0 g k : Nat} {v : Value} {ns : List Pkt} (h : IsN w b0 g v ns) (hk : Kept (NB g v) w w') {cs : Array Value} {t : TypeId} (hb : w.heap[k]? = some (.cells cs t (0, 0))) (h1 : t ≠ 79) (h2 : t ≠ 34) : w'.heap[k]? = some (.cells cs t (0, 0)) := by
  refine (hk.block k (lt_of_block hb) ?_).trans hb
  rintro (e | e)
  · exact typed_ne hb h.blk h1 e
  · obtain ⟨cv, hv⟩ := h.row.typed k e
    exact typed_ne hb hv h2 rfl
theorem NI.kb {w wr w' : World} {b0 g gR nR cR : Nat} {vN : Value} {ns rs : List Pkt} (h : NI w b0 g vN ns gR nR cR rs wr) (hb0 : w.heap.size ≤ b0) (hk : Kept (NB g vN) wr w') : Below w.heap.size w w' :=
  h.bel.trans (hk.below h.bel.size (fun k hk' => Nat.le_trans hb0 (h.net.lt k hk').1))

/-- Cut to the lowest bits. -/
theorem and_mask' (q : Int) (j : Nat) (hj : j < 63) : bits .and .i64 q (2 ^ j - 1) = q % 2 ^ j := by
  have hp : (2 : Nat) ^ j < 2 ^ 63 := Nat.pow_lt_pow_right (by omega) hj
  have hp0 : 0 < (2 : Nat) ^ j := Nat.two_pow_pos j
  have e2 : ((2 ^ j : Nat) : Int) = (2 : Int) ^ j := by push_cast; rfl
  have hm : (BitVec.ofInt 64 ((2 : Int) ^ j - 1)).toNat = 2 ^ j - 1 := by
    rw [BitVec.toNat_ofInt]
    omega
  have hand : (BitVec.ofInt 64 q &&& BitVec.ofInt 64 ((2 : Int) ^ j - 1)).toNat = (BitVec.ofInt 64 q).toNat % 2 ^ j := by
    rw [BitVec.toNat_and, hm, Nat.and_two_pow_sub_one_eq_mod]
  show IntKind.i64.wrap ((BitVec.ofInt 64 q &&& BitVec.ofInt 64 ((2 : Int) ^ j - 1)).toNat : Int) = _
  rw [hand, BitVec.toNat_ofInt]
  have hlt : (q % 18446744073709551616).toNat % 2 ^ j < 2 ^ j := Nat.mod_lt _ hp0
  rw [IntWalk.i64_in _ (by omega)]
  have hd : ((2 : Int) ^ j) ∣ 18446744073709551616 := by
    refine ⟨2 ^ (64 - j), ?_⟩
    rw [← Int.pow_add, show j + (64 - j) = 64 from by omega]
    rfl
  show (((q % 18446744073709551616).toNat % 2 ^ j : Nat) : Int) = _
  rw [Int.natCast_emod, e2, Int.toNat_of_nonneg (by omega)]
  exact Int.emod_emod_of_dvd q hd

theorem and_1023' (q : Int) : bits .and .i64 q 1023 = q % 1024 := and_mask' q 10 (by omega)
theorem and_1' (q : Int) : bits .and .i64 q 1 = q % 2 := and_mask' q 1 (by omega)

theorem range_of_row {w : World} {b : Nat} {A : Array Value} {t : TypeId} (h : w.heap[b]? = some (.cells A t (0, 0))) (o : Nat) (cs : List Value) (hc : A.toList.drop o = cs) : w.rangeAt b o cs := fun i u hu => by
  rw [(row_cells h (o + i)).1]
  rw [← hc, List.getElem?_drop] at hu
  simpa using hu

def P20 (f t : Int) (m : Nat) (xs : List UInt8) (wr : World) (s9 : Value) (wx : World) : Prop := ∃ gp gd, s9 = .pointer (some ⟨gp, 0, none⟩) ∧ Hid (wx.heap[gp]? = some (.cells #[.int .i64 f, .int .i64 t, .slice (some ⟨gd, 0, none⟩) m m] 34 (0, 0))) ∧ Hid (Own wx wr.heap.size (.slice (some ⟨gd, 0, none⟩) m m) xs) ∧ wr.heap.size ≤ gp ∧ Below wr.heap.size wr wx
theorem p20_a {f t : Int} {m g4 : Nat} {xs : List UInt8} {wr w4 : World} (b4 : Below wr.heap.size wr.drew w4) (ho : Own w4 wr.heap.size (.slice (some ⟨g4, 0, none⟩) m m) xs) :
    P20 f t m xs wr (.pointer (some ⟨w4.heap.size, 0, none⟩)) (w4.alloc (.cells #[.int .i64 f, .int .i64 t, .slice (some ⟨g4, 0, none⟩) m m] 34)) :=
  ⟨w4.heap.size, g4, rfl, hide (heap_alloc_new w4 _), hide (ho.alloc _), b4.size, ((Below.refl _ wr).drew.trans b4).alloc b4.size _⟩
theorem p20_b {f t : Int} {m g4 : Nat} {xs : List UInt8} {wr w4 : World} {Z : Obj} (b4 : Below (wr.alloc Z).heap.size (wr.alloc Z).drew w4) (ho : Own w4 (wr.alloc Z).heap.size (.slice (some ⟨g4, 0, none⟩) m m) xs) (hq : w4.heap[wr.heap.size]? = some (.cells #[.int .i64 0, .int .i64 0, .slice none 0 0] 34 (0, 0))) :
    P20 f t m xs wr (.pointer (some ⟨wr.heap.size, 0, none⟩)) (((w4.setCell ⟨wr.heap.size, 0, none⟩ (.int .i64 f)).setCell ⟨wr.heap.size, 1, none⟩ (.int .i64 t)).setCell ⟨wr.heap.size, 2, none⟩ (.slice (some ⟨g4, 0, none⟩) m m)) := by
  have hz : (wr.alloc Z).heap.size = wr.heap.size + 1 := by simp
  have hb4 : Below wr.heap.size wr w4 := (((Below.refl _ wr).alloc (Nat.le_refl _) Z).drew).trans (b4.mono (by omega))
  have hk : Kept (fun k => k = wr.heap.size) w4 (((w4.setCell ⟨wr.heap.size, 0, none⟩ (.int .i64 f)).setCell ⟨wr.heap.size, 1, none⟩ (.int .i64 t)).setCell ⟨wr.heap.size, 2, none⟩ (.slice (some ⟨g4, 0, none⟩) m m)) :=
    (((Kept.refl (fun k => k = wr.heap.size) w4).setCell (p := ⟨wr.heap.size, 0, none⟩) (.inl rfl) _).setCell (p := ⟨wr.heap.size, 1, none⟩) (.inl rfl) _).setCell (p := ⟨wr.heap.size, 2, none⟩) (.inl rfl) _
  refine ⟨wr.heap.size, g4, rfl, hide ?_, hide ?_, Nat.le_refl _, hb4.trans (hk.below hb4.size (fun k hk => by omega))⟩
  · simp [World.setCell, Array.getElem?_modify, hq]
  · exact (ho.keep fun k hk' => hk.block k (ho.lt k hk').2 (by have := (ho.lt k hk').1; omega)).from_ (by omega)

theorem ni_same {w wc w5 : World} {b0 g gR nR cR n5 c5 : Nat} {vN : Value} {ns rs qs : List Pkt} {A5 : Option Addr} (hI : NI w b0 g vN ns gR nR cR rs wc) (ho5 : OwnR w5 wc.heap.size 34 3 (.slice A5 n5 c5) (qs.map Pkt.cells)) (hl5 : qs.length = ns.length)
    (hd5 : ∀ q ∈ qs, Own w5 wc.heap.size q.sl q.xs) (hal5 : ∀ (j : Nat) p q, ns[j]? = some p → qs[j]? = some q → Alike p q) (hk5 : Below wc.heap.size wc w5) :
    Calls Try.prog 26 #[.slice A5 n5 c5, .slice (some ⟨gR, 0, none⟩) nR cR] w5 fun e w' => e = .returned (.bool true) ∧ Below w5.heap.size w5 w' := by
  have hI5 := hI.below hk5
  have hnR := hI5.ref.n
  have hll := hI5.len
  have hkq : qs.map Pkt.key = rs.map Pkt.key := by
    rw [← hI5.key]
    refine key_take (j := qs.length) (fun i p q _ hp hq => ?_) hl5 rfl
    have := hal5 i q p hq hp
    simp [Pkt.key, this.1, this.2.1, this.2.2]
  have hqx : ∀ q ∈ qs, Has w5 w5.heap.size q.A q.xs ∧ q.xs.length = q.n ∧ q.n ≤ 140737488355328 := fun q hq => by
    obtain ⟨h1, h2⟩ := own_has (hd5 q hq)
    obtain ⟨i, hi, rfl⟩ := List.getElem_of_mem hq
    have h3 := hal5 i _ _ (List.getElem?_eq_getElem (by omega)) (List.getElem?_eq_getElem hi)
    have h4 := (hI5.net.ok ns[i] (List.getElem_mem (by omega))).2.2.2.2
    have h5 : qs[i].xs = ns[i].xs := h3.2.2.symm
    refine ⟨h1, h2, ?_⟩
    rw [← h5] at h4
    omega
  have hrx : ∀ q ∈ rs, q.xs.length ≤ 65536 := fun q hq => by
    obtain ⟨i, hi, rfl⟩ := List.getElem_of_mem hq
    have h3 : (ns.map Pkt.key)[i]? = (rs.map Pkt.key)[i]? := by rw [hI5.key]
    rw [List.getElem?_map, List.getElem?_map, List.getElem?_eq_getElem hi, List.getElem?_eq_getElem (by omega)] at h3
    simp only [Option.map_some, Option.some.injEq, Pkt.key, Prod.mk.injEq] at h3
    have h4 := (hI5.net.ok ns[i] (List.getElem_mem (by omega))).2.2.2.2
    rw [h3.2.2] at h4
    exact h4
  obtain ⟨hR1, hn5⟩ := Reads.of ho5 hqx
  obtain ⟨hR2, _⟩ := hI5.ref.reads hrx
  have h512 := hI5.ref.len
  refine (nrsame_any A5 (some ⟨gR, 0, none⟩) n5 nR c5 cR w5.heap.size qs rs w5 hR1 hR2 hn5 hnR (by omega)).mono ?_
  rintro e w7 ⟨rfl, m7, rfl⟩
  rw [decide_eq_true hkq]
  exact ⟨rfl, below_drewN (Below.refl _ _) m7⟩

set_option maxHeartbeats 8000000 in
set_option maxRecDepth 40000 in
theorem netRuns_walk (A : Option Addr) (n c : Nat) (os : List Nop) (w : World) (hA : HasNop w w.heap.size A os) (hn : os.length = n) (hl : n ≤ 9223372036854775807) :
    Calls Try.prog 6 #[.slice A n c] w fun e w' => e = .returned (.bool true) ∧ Below w.heap.size w w' := by
  have HN := hide hn
  clear hn
  go_enter Try.func6, Try.ntmps6
  go_wp2_with fail
  refine (head12_any w).mono ?_
  rintro e w1 ⟨rfl, hb1⟩
  go_wp2_with fail
  refine (nnew_any w1).mono ?_
  rintro e w2 ⟨rfl, hN2, hk2⟩
  have hb2 := hb1.trans (hk2.mono hb1.size)
  have hw1 := hb1.size
  have hz2 := lt_of_block hN2.blk
  have hNI : NI w w1.heap.size w1.heap.size (.slice none 0 0) [] w2.heap.size 0 0 [] (w2.alloc (.cells #[] 34)) :=
    ⟨hN2.below ((Below.refl _ _).alloc (Nat.le_refl _) _), ⟨OwnR.empty w2 _ _ _ _ rfl (by omega), by simp, by simp⟩, rfl, (fun h => by cases h), hb2.alloc hb2.size _⟩
  go_wp2
  go_loopw [4, 5] (fun s4 i wr => ∃ (j : Nat) (vN : Value) (ns : List Pkt) (gR nR cR : Nat) (rs : List Pkt), j ≤ 60 ∧ j ≤ n ∧ i = .int .i64 (j : Int) ∧ s4 = .slice (some ⟨gR, 0, none⟩) nR cR ∧ NI w w1.heap.size w1.heap.size vN ns gR nR cR rs wr) (fun _ i _ => 60 - (intOf i).toNat)
  case atStart => exact ⟨0, _, [], _, 0, 0, [], by omega, by omega, rfl, rfl, hNI⟩
  case round =>
    obtain ⟨j, vN, ns, gR, nR, cR, rs, hj, hjn, rfl, rfl, hI⟩ := hrel
    by_cases hlt : j < n
    · by_cases h60 : j < 60
      · have hjl : j < os.length := by rw [HN.out]; exact hlt
        have hAr := hA.below hI.bel
        obtain ⟨b, o, rfl, hbb, hra⟩ := hAr.row j hjl
        obtain ⟨hx, hxn, hxl⟩ := hAr.dat os[j] (List.getElem_mem hjl)
        generalize os[j] = p at *
        obtain ⟨K, N, f, t, pA, m, pc, xs⟩ := p
        simp only at hx hxn hxl
        have hra' : wr.rangeAt b (o + j * 5) [(.int .i64 K : Value), .int .i64 N, .int .i64 f, .int .i64 t, .slice pA m pc] := hra
        have hil : (j : Int) < (n : Int) := by omega
        have hi6 : (j : Int) < 60 := by omega
        have hbz := hI.bel.size
        clear hra hAr hA
        go_upto_block 2 with (refine wpList_load_mid rfl 36 _ rfl b (o + j * 5) (by simp [Act.eval, Act.put]) [(.int .i64 K : Value), .int .i64 N, .int .i64 f, .int .i64 t, .slice pA m pc] _ hra' Try.underlying36 rfl (by kernel_rfl) ?_)
        have hbx := heap_alloc_new wr (.cells #[.int .i64 K, .int .i64 N, .int .i64 f, .int .i64 t, .slice pA m pc] 36)
        have hI1 := hI.below ((Below.refl _ _).alloc (Nat.le_refl _) (.cells #[.int .i64 K, .int .i64 N, .int .i64 f, .int .i64 t, .slice pA m pc] 36))
        generalize hw3 : wr.alloc (.cells #[.int .i64 K, .int .i64 N, .int .i64 f, .int .i64 t, .slice pA m pc] 36) = w3 at *
        go_cut [4, 7, 8, 9, 10, 11, 12, 13, 14, 15, 16, 17] from 25 to 238 (fun s4 s7 s8 s9 s10 s11 s12 s13 s14 s15 s16 s17 wx => ∃ (vN : Value) (ns : List Pkt) (gR nR cR : Nat) (rs : List Pkt), s4 = .slice (some ⟨gR, 0, none⟩) nR cR ∧ NI w w1.heap.size w1.heap.size vN ns gR nR cR rs wx)
        case first =>
          clear hra' hi6 hil
          obtain ⟨x0, y0⟩ := row_cells hbx 0
          obtain ⟨x1, y1⟩ := row_cells hbx 1
          obtain ⟨x2, y2⟩ := row_cells hbx 2
          obtain ⟨x3, y3⟩ := row_cells hbx 3
          obtain ⟨x4, y4⟩ := row_cells hbx 4
          simp only [List.getElem?_toArray, List.getElem?_cons_succ, List.getElem?_cons_zero] at x0 x1 x2 x3 x4
          have hw0 : w.heap.size ≤ w1.heap.size := hw1
          have hb13 := hI1.bel.size
          have hg3 := lt_of_block hI1.net.blk
          have HW3 := hide hw3
          clear hw3
          by_cases h3 : K = 3
          · as_aux_lemma =>
              subst h3
              have hlo := nrlose_any (some ⟨gR, 0, none⟩) nR cR N rs w3 hI1.ref.hasR hI1.ref.n (by have := hI1.ref.n; have := hI1.ref.len; omega)
              go_wp2_with fail
              refine hlo.mono ?_
              rintro e w4 ⟨g4, n4, c4, rfl, ho4, hk4⟩
              have hI4 := hI1.below hk4
              have hbx4 := (hk4.block _ (lt_of_block hbx)).trans hbx
              have x14 := (row_cells hbx4 1).1
              simp only [List.getElem?_toArray, List.getElem?_cons_succ, List.getElem?_cons_zero] at x14
              have hnl := nlose_any N w1.heap.size w1.heap.size vN ns w4 hI4.net
              clear x0 x1 x2 x3 x4 y0 y1 y2 y3 y4 hlo
              have hn4 : (rs.filter (fun p => !ofNode N p)).length = n4 := by
                obtain ⟨A', n', c', e', hn, _⟩ := ho4.form
                injection e' with e1 e2 e3
                subst e1 e2 e3
                have := hn.out
                simpa using this
              have hfk := filter_key N hI4.key
              have hfl : (ns.filter (fun p => !ofNode N p)).length = n4 := by have := congrArg List.length hfk; simp only [List.length_map] at this; omega
              have hnn : ns.length = nR := by rw [hI4.len, hI4.ref.n]
              have hn512 := hI4.ref.len
              have hrn := hI4.ref.n
              have hle : n4 ≤ nR := by rw [← hn4, ← hrn]; exact List.length_filter_le _ _
              go_wp2_with fail
              refine hnl.mono ?_
              rintro e w5 ⟨rfl, v5, hN5, hv5, hk5⟩
              have hsub : IntKind.i64.wrap ((nR : Int) - (n4 : Int)) = (nR : Int) - (n4 : Int) := IntWalk.i64_in _ (by omega)
              rw [hfl, hnn]
              have hI6 : NI w w1.heap.size w1.heap.size v5 (ns.filter (fun p => !ofNode N p)) g4 n4 c4 (rs.filter (fun p => !ofNode N p)) w5 := by
                have hr4 : RI w4 w1.heap.size g4 n4 c4 (rs.filter (fun p => !ofNode N p)) := ⟨ho4.from_ (by omega), fun q hq => hI4.ref.dat q (List.mem_filter.1 hq).1, Nat.le_trans (List.length_filter_le _ _) hn512⟩
                have hd4 : vN.ownBlock ≠ some g4 := fun h => by
                  have h1 := (hI1.net.row.lt g4 h).2
                  have h2 := (ho4.lt g4 rfl).1
                  omega
                exact ⟨hN5, hr4.net hI4.net hd4 hk5, hfk, by rw [hv5]; exact hd4, hI4.kb hw0 hk5⟩
              have HI6 := hide hI6
              clear hI6 hnl hn4 hfk hfl hnn hrn hI4 hN5 hv5 hk5 ho4
              go_wp2_with fail
              go_meet
              case rel => exact ⟨v5, _, g4, n4, c4, _, rfl, HI6.out⟩
          by_cases h2 : K = 2
          · as_aux_lemma =>
              subst h2
              have hnR := hI1.ref.n
              have hnl1 := hI1.len
              have h512 := hI1.ref.len
              by_cases hin : 0 ≤ N ∧ N < (nR : Int)
              · obtain ⟨k, rfl⟩ : ∃ k : Nat, N = (k : Int) := ⟨N.toNat, by omega⟩
                have hkr : k < rs.length := by omega
                have hkn : k < ns.length := by omega
                have hpr : rs[k] ∈ rs := List.getElem_mem hkr
                obtain ⟨gq, eq, hra, _, hgl⟩ := hI1.ref.hasR k (by simpa using hkr)
                injection eq with eq
                injection eq with eq
                subst eq
                have hcell : (rs.map Pkt.cells)[k]'(by simpa using hkr) = rs[k].cells := by simp
                rw [hcell] at hra
                obtain ⟨hxq, hxqn⟩ := own_has (hI1.ref.dat _ hpr)
                have hkk : (ns[k]).key = (rs[k]).key := by
                  have h1 : (ns.map Pkt.key)[k]? = (rs.map Pkt.key)[k]? := by rw [hI1.key]
                  rw [List.getElem?_map, List.getElem?_map, List.getElem?_eq_getElem hkr, List.getElem?_eq_getElem hkn] at h1
                  simpa using h1
                have hok := hI1.net.ok ns[k] (List.getElem_mem hkn)
                have hnk : ns[k]? = some ns[k] := List.getElem?_eq_getElem hkn
                generalize rs[k] = q at *
                generalize ns[k] = p at *
                simp only [Pkt.key, Prod.mk.injEq] at hkk
                have hra' : w3.rangeAt gR (k * 3) [(.int .i64 q.f : Value), .int .i64 q.t, .slice q.A q.n q.c] := hra
                have hpe : putE rs.length q.f q.t q.xs.length = if rs.length < 512 then 0 else 43 := putE_ok (by rw [hkk.1, hkk.2.1, hkk.2.2] at hok; exact hok)
                have hrp := rput_any w1.heap.size gR nR cR rs q.f q.t q.A q.n q.c w3.heap.size q.xs w3 hI1.ref hxq (Nat.le_refl _) hxqn (by omega)
                have hk0 : (0 : Int) ≤ (k : Int) := by omega
                have hk1 : (k : Int) < (nR : Int) := hin.2
                clear hra hcell hin hxq hxqn hok
                go_wp2_with (refine wpList_load_mid rfl 34 _ rfl gR (k * 3) (by simp [Act.eval, Act.put]) [(.int .i64 q.f : Value), .int .i64 q.t, .slice q.A q.n q.c] _ hra' Try.underlying34 rfl (by kernel_rfl) ?_)
                refine hrp.mono ?_
                rintro e w4 ⟨g4, n4, c4, rs4, rfl, hR4, hk4, hst, hnw, hg4, hq4⟩
                have hI4 := hI1.below hk4
                have hbx4 := (hk4.block _ (lt_of_block hbx)).trans hbx
                have x14 := (row_cells hbx4 1).1
                simp only [List.getElem?_toArray, List.getElem?_cons_succ, List.getElem?_cons_zero] at x14
                have hcp := ncp_any w1.heap.size w1.heap.size vN ns k p w4 hI4.net hnk
                have hd4 : vN.ownBlock ≠ some g4 := by
                  rcases hg4 with e | e
                  · rw [e]; exact hI1.dis
                  · intro h
                    have h1 := (hI1.net.row.lt g4 h).2
                    omega
                rw [hpe] at hst hnw ⊢
                have hll := hI1.len
                clear x0 x1 x2 x3 x4 y0 y1 y2 y3 y4 hrp hra' hpe
                by_cases h5 : rs.length < 512
                · rw [if_pos h5] at hst hnw ⊢
                  have HNW := hide (hnw rfl)
                  clear hst hnw
                  rw [decide_eq_true (show ns.length < 512 by omega), if_pos (show ns.length < 512 by omega)] at hcp
                  go_wp2_with fail
                  refine hcp.mono ?_
                  rintro e w5 ⟨rfl, v5, ns5, hN5, hk5, hv5, hn5⟩
                  have hd5 : v5.ownBlock ≠ some g4 := by
                    rcases hv5 with e | e
                    · rw [e]; exact hd4
                    · intro h
                      have h1 := e g4 h
                      have h2 := hR4.lt.2
                      omega
                  have HI6 := hide (show NI w w1.heap.size w1.heap.size v5 ns5 g4 n4 c4 rs4 w5 from ⟨hN5, hR4.net hI4.net hd4 hk5, by rw [hn5, HNW.out, hI1.key]; simp only [Pkt.key, hkk.1, hkk.2.1, hkk.2.2], hd5, hI4.kb hw0 hk5⟩)
                  clear hcp hI4 hN5 hR4 hk5 hv5 hn5 hg4 hq4
                  go_wp2_with fail
                  go_meet
                  case rel => exact ⟨v5, _, g4, n4, c4, _, rfl, HI6.out⟩
                · rw [if_neg h5] at hst hnw ⊢
                  have HST := hide (hst (by decide))
                  clear hst hnw
                  rw [decide_eq_false (show ¬ ns.length < 512 by omega), if_neg (show ¬ ns.length < 512 by omega)] at hcp
                  go_wp2_with fail
                  refine hcp.mono ?_
                  rintro e w5 ⟨rfl, v5, ns5, hN5, hk5, hv5, hn5⟩
                  obtain ⟨rfl, rfl, rfl, rfl⟩ := HST.out
                  have hd5 : v5.ownBlock ≠ some g4 := by
                    rcases hv5 with e | e
                    · rw [e]; exact hd4
                    · intro h
                      have h1 := e g4 h
                      have h2 := hR4.lt.2
                      omega
                  have HI6 := hide (show NI w w1.heap.size w1.heap.size v5 ns5 g4 n4 c4 rs4 w5 from ⟨hN5, hR4.net hI4.net hd4 hk5, by rw [hn5, hI1.key], hd5, hI4.kb hw0 hk5⟩)
                  clear hcp hI4 hN5 hR4 hk5 hv5 hn5 hg4 hq4
                  go_wp2_with fail
                  go_meet
                  case rel => exact ⟨v5, _, g4, n4, c4, _, rfl, HI6.out⟩
              · have hno := ncopy_no (.pointer (some ⟨w1.heap.size, 0, none⟩)) ns.length N w3 (nlen_any w1.heap.size w1.heap.size vN ns w3 hI1.net) (by unfold hasB; rw [decide_eq_false]; omega)
                by_cases hN0 : 0 ≤ N
                · have hN1 : decide (N < (nR : Int)) = false := decide_eq_false (fun h => hin ⟨hN0, h⟩)
                  have HI6 := hide hI1
                  clear hin
                  go_wp2_with fail
                  refine hno.mono ?_
                  rintro e w5 ⟨rfl, rfl⟩
                  clear hno
                  go_wp2_with fail
                  go_meet
                  case rel => exact ⟨vN, ns, gR, nR, cR, rs, rfl, HI6.out⟩
                · have hN1 : decide (0 ≤ N) = false := decide_eq_false hN0
                  have HI6 := hide hI1
                  clear hin
                  go_wp2_with fail
                  refine hno.mono ?_
                  rintro e w5 ⟨rfl, rfl⟩
                  clear hno
                  go_wp2_with fail
                  go_meet
                  case rel => exact ⟨vN, ns, gR, nR, cR, rs, rfl, HI6.out⟩
          by_cases h1 : K = 1
          · as_aux_lemma =>
              subst h1
              have hnR := hI1.ref.n
              have hnl1 := hI1.len
              have h512 := hI1.ref.len
              by_cases hin : 0 ≤ N ∧ N < (nR : Int)
              · obtain ⟨k, rfl⟩ : ∃ k : Nat, N = (k : Int) := ⟨N.toNat, by omega⟩
                have hkr : k < rs.length := by omega
                have hkn : k < ns.length := by omega
                have hk1 : (k : Int) < (nR : Int) := hin.2
                have hk0 : (0 : Int) ≤ (k : Int) := by omega
                have hnk : ns[k]? = some ns[k] := List.getElem?_eq_getElem hkn
                have hrk : rs[k]? = some rs[k] := List.getElem?_eq_getElem hkr
                have hkk : (ns[k]).key = (rs[k]).key := by
                  have h1 : (ns.map Pkt.key)[k]? = (rs.map Pkt.key)[k]? := by rw [hI1.key]
                  rw [List.getElem?_map, List.getElem?_map, List.getElem?_eq_getElem hkr, List.getElem?_eq_getElem hkn] at h1
                  simpa using h1
                have hpm := List.getElem_mem hkn
                have hqm := List.getElem_mem hkr
                generalize rs[k] = q at *
                generalize ns[k] = p at *
                have hok := hI1.net.ok p hpm
                have htk := ntake_yes w1.heap.size w1.heap.size vN ns k p w3 hI1.net hnk
                clear hin
                go_wp2_with fail
                refine htk.mono ?_
                rintro e w4 ⟨rfl, v4, hN4, hv4, hk4, hp4⟩
                have hbx4 := hI1.net.box hk4 hbx (by decide) (by decide)
                have hR4 := hI1.ref.net hI1.net hI1.dis hk4
                have hb4 := hI1.kb hw0 hk4
                have x14 := (row_cells ((Below.heap_alloc w4 (.cells #[.int .i64 p.f, .int .i64 p.t, .slice p.A p.n p.c] 34) _ (lt_of_block hbx4)).trans hbx4) 1).1
                simp only [List.getElem?_toArray, List.getElem?_cons_succ, List.getElem?_cons_zero] at x14
                have hpb := heap_alloc_new w4 (.cells #[.int .i64 p.f, .int .i64 p.t, .slice p.A p.n p.c] 34)
                clear x0 x1 x2 x3 x4 y0 y1 y2 y3 y4 htk
                go_upto_region 33 with fail
                have hN5 := hN4.below ((Below.refl _ _).alloc (Nat.le_refl _) (.cells #[.int .i64 p.f, .int .i64 p.t, .slice p.A p.n p.c] 34))
                have hR5 := hR4.below ((Below.refl _ _).alloc (Nat.le_refl _) (.cells #[.int .i64 p.f, .int .i64 p.t, .slice p.A p.n p.c] 34))
                have hb5 := hb4.alloc hb4.size (.cells #[.int .i64 p.f, .int .i64 p.t, .slice p.A p.n p.c] 34)
                have hp5 := hp4.alloc (.cells #[.int .i64 p.f, .int .i64 p.t, .slice p.A p.n p.c] 34)
                have hbx5 := (Below.heap_alloc w4 (.cells #[.int .i64 p.f, .int .i64 p.t, .slice p.A p.n p.c] 34) _ (lt_of_block hbx4)).trans hbx4
                generalize w4.alloc (.cells #[.int .i64 p.f, .int .i64 p.t, .slice p.A p.n p.c] 34) = w5 at *
                have HOK := hide hok
                have HRK := hide hrk
                have HQM := hide hqm
                have HKK := hide hkk
                have HKY := hide hI1.key
                have HN5 := hide hN5
                have HR5 := hide hR5
                have HP5 := hide hp5
                have HB5 := hide hb5
                have hcR : nR ≤ cR ∧ cR ≤ maxLen := by
                  obtain ⟨A', n', c', e', _, h1, h2, _⟩ := hR5.row.form
                  injection e' with e1 e2 e3
                  subst e1 e2 e3
                  exact ⟨h1, h2⟩
                have hkc : ¬ cR = k := by omega
                have hkc1 : k + 1 ≤ cR := by omega
                have hcl : cR ≤ 9223372036854775807 := by have := hcR.2; unfold maxLen at this; omega
                have hm1 : (k : Int) ≤ (k : Int) + 1 := by omega
                have ht1 : ((k : Int) + 1).toNat = k + 1 := by omega
                have hs1 : k + 1 - k = 1 := by omega
                have hbz5 := hb5.size
                have hpz := lt_of_block hpb
                clear hN5 hR5 hp5 hb5 hN4 hR4 hb4 hp4 hbx4 hk4 hpm hqm hok hnk hrk hkk hcR
                go_upto_region 36 with fail
                have hp6 := (Below.heap_alloc w5 (.cells #[.int .i64 0, .int .i64 0, .slice none 0 0] 34) _ hpz).trans hpb
                have hbx6 := (Below.heap_alloc w5 (.cells #[.int .i64 0, .int .i64 0, .slice none 0 0] 34) _ (lt_of_block hbx5)).trans hbx5
                have hb56 : Below w5.heap.size w5 (w5.alloc (.cells #[.int .i64 0, .int .i64 0, .slice none 0 0] 34)) := by go_grown
                generalize w5.alloc (.cells #[.int .i64 0, .int .i64 0, .slice none 0 0] 34) = w6 at *
                have x16 := (row_cells hbx6 1).1
                simp only [List.getElem?_toArray, List.getElem?_cons_succ, List.getElem?_cons_zero] at x16
                clear x14
                go_wp2_with (refine wpList_load_row rfl 34 _ rfl w4.heap.size rfl _ _ _ _ hp6 Try.underlying34 rfl (by kernel_rfl) ?_)
                have hR7 := (HR5.out.below hb56).below ((Below.refl _ _).alloc (Nat.le_refl _) (.cells #[.int .i64 p.f, .int .i64 p.t, .slice p.A p.n p.c] 34))
                have hN7 := (HN5.out.below hb56).below ((Below.refl _ _).alloc (Nat.le_refl _) (.cells #[.int .i64 p.f, .int .i64 p.t, .slice p.A p.n p.c] 34))
                have hb57 : Below w5.heap.size w5 (w6.alloc (.cells #[.int .i64 p.f, .int .i64 p.t, .slice p.A p.n p.c] 34)) := hb56.alloc hb56.size _
                have hP7 := HP5.out.below hb57
                have hq7 := heap_alloc_new w6 (.cells #[.int .i64 p.f, .int .i64 p.t, .slice p.A p.n p.c] 34)
                have hbx7 := (Below.heap_alloc w6 (.cells #[.int .i64 p.f, .int .i64 p.t, .slice p.A p.n p.c] 34) _ (lt_of_block hbx6)).trans hbx6
                generalize w6.alloc (.cells #[.int .i64 p.f, .int .i64 p.t, .slice p.A p.n p.c] 34) = w7 at *
                have hr1 : Reads w7 w7.heap.size (some ⟨w6.heap.size, 0, none⟩) [p] := by
                  refine ⟨fun i hi => ⟨w6.heap.size, 0, rfl, fun u x hu => ?_⟩, fun p' hp' => ?_⟩
                  · simp at hi
                    subst hi
                    have h1 := (row_cells hq7 u).1
                    rw [show (0 + 0 * 3 + u) = u by omega, h1]
                    simpa [Pkt.cells] using hu
                  · simp at hp'
                    subst hp'
                    obtain ⟨h1, h2⟩ := own_has hP7
                    have h3 := HOK.out.2.2.2.2
                    exact ⟨h1, h2, by omega⟩
                have hr2 : Reads w7 w7.heap.size (some ⟨gR, k * 3, none⟩) [q] := by
                  refine ⟨fun i hi => ⟨gR, k * 3, rfl, fun u x hu => ?_⟩, fun p' hp' => ?_⟩
                  · simp at hi
                    subst hi
                    obtain ⟨gq, eq, hra, _, _⟩ := hR7.hasR k (by simpa using hkr)
                    injection eq with eq
                    injection eq with eq
                    subst eq
                    have h1 : (rs.map Pkt.cells)[k]'(by simpa using hkr) = q.cells := by
                      have h2 := (List.getElem?_eq_some_iff.1 HRK.out)
                      obtain ⟨h3, h4⟩ := h2
                      simp [h4]
                    rw [h1] at hra
                    rw [show k * 3 + 0 * 3 + u = k * 3 + u by omega]
                    exact hra u x (by simpa using hu)
                  · simp at hp'
                    subst hp'
                    obtain ⟨h1, h2⟩ := own_has (hR7.dat _ HQM.out)
                    have h3 := HOK.out.2.2.2.2
                    have h4 : p.xs = p'.xs := by have := HKK.out; simp only [Pkt.key, Prod.mk.injEq] at this; exact this.2.2
                    rw [h4] at h3
                    exact ⟨h1, h2, by omega⟩
                have hsm := nrsame_any (some ⟨w6.heap.size, 0, none⟩) (some ⟨gR, k * 3, none⟩) 1 1 1 (cR - k) w7.heap.size [p] [q] w7 hr1 hr2 rfl rfl (by omega)
                have HN7 := hide hN7
                have HR7 := hide hR7
                have HBX := hide hbx7
                clear hr1 hr2 hN7 hR7 hP7 hq7 hbx6 hbx5 hp6 hpb hbx7
                refine hsm.mono ?_
                rintro e w8 ⟨rfl, m8, hm8⟩
                rw [decide_eq_true (by simp [HKK.out])]
                have hb78 : Below w7.heap.size w7 w8 := by rw [← hm8]; exact below_drewN (Below.refl _ _) m8
                have hN8 := HN7.out.below hb78
                have hR8 := HR7.out.below hb78
                have hbx8 := (hb78.block _ (lt_of_block HBX.out)).trans HBX.out
                have x18 := (row_cells hbx8 1).1
                simp only [List.getElem?_toArray, List.getElem?_cons_succ, List.getElem?_cons_zero] at x18
                have hwo := nrwithout_any (some ⟨gR, 0, none⟩) nR cR (k : Int) rs w8 hR8.hasR hR8.n (by omega)
                clear x16 hsm
                go_wp2_with fail
                refine hwo.mono ?_
                rintro e w9 ⟨g9, n9, c9, rfl, ho9, hk9⟩
                have hb8 : Below w.heap.size w w8 := (HB5.out.trans ((hb57.trans (hb78.mono hb57.size)).mono hbz5))
                have HI6 := hide (show NI w w1.heap.size w1.heap.size v4 (ns.take k ++ ns.drop (k + 1)) g9 n9 c9 (wo (k : Int) rs) w9 from by
                  have e1 : wo (k : Int) rs = rs.take k ++ rs.drop (k + 1) := by unfold wo; rw [if_pos ⟨hk0, by omega⟩]; rfl
                  have hb68 := hb8.size
                  refine ⟨hN8.below hk9, ⟨ho9.from_ (by have := lt_of_block hN8.blk; omega), fun q hq => (hR8.dat q ?_).below hk9, Nat.le_trans (wo_len _ _) h512⟩, ?_, ?_, hb8.trans (hk9.mono hb8.size)⟩
                  · rw [e1] at hq
                    rcases List.mem_append.1 hq with h | h
                    · exact List.mem_of_mem_take h
                    · exact List.mem_of_mem_drop h
                  · rw [e1, List.map_append, List.map_append, List.map_take, List.map_take, List.map_drop, List.map_drop, HKY.out]
                  · intro h
                    have h1 := (hN8.row.lt g9 h).2
                    have h2 := (ho9.lt g9 rfl).1
                    omega)
                clear hwo hN8 hR8 hbx8 x18 ho9
                go_wp2_with fail
                go_meet
                case rel => exact ⟨v4, _, g9, n9, c9, _, rfl, HI6.out⟩
              · have hib : hasB N ns.length = false := by unfold hasB; rw [decide_eq_false]; omega
                have htk := ntake_no (.pointer (some ⟨w1.heap.size, 0, none⟩)) ns.length N w3 (nlen_below hI1.net) hib
                have hge : Hid (wo N rs = rs) := hide (by unfold wo; rw [if_neg]; omega)
                have hcond : (decide (0 ≤ N) && decide (N < (nR : Int))) = false := by
                  rw [Bool.and_eq_false_iff]
                  by_cases h0 : 0 ≤ N
                  · exact .inr (decide_eq_false (fun h => hin ⟨h0, h⟩))
                  · exact .inl (decide_eq_false h0)
                clear hin hib
                go_wp2_with fail
                refine htk.mono ?_
                rintro e w4 ⟨rfl, hk4⟩
                have hI4 := hI1.below hk4
                have hbx4 := (hk4.block _ (lt_of_block hbx)).trans hbx
                have x14 := (row_cells ((Below.heap_alloc w4 (.cells #[.int .i64 0, .int .i64 0, .slice none 0 0] 34) _ (lt_of_block hbx4)).trans hbx4) 1).1
                simp only [List.getElem?_toArray, List.getElem?_cons_succ, List.getElem?_cons_zero] at x14
                have hpb := heap_alloc_new w4 (.cells #[.int .i64 0, .int .i64 0, .slice none 0 0] 34)
                clear x0 x1 x2 x3 x4 y0 y1 y2 y3 y4 htk
                go_upto_region 33 with fail
                have hI5 := hI4.below ((Below.refl _ _).alloc (Nat.le_refl _) (.cells #[.int .i64 0, .int .i64 0, .slice none 0 0] 34))
                have hbx5 := (Below.heap_alloc w4 (.cells #[.int .i64 0, .int .i64 0, .slice none 0 0] 34) _ (lt_of_block hbx4)).trans hbx4
                generalize w4.alloc (.cells #[.int .i64 0, .int .i64 0, .slice none 0 0] 34) = w5 at *
                have hpz := lt_of_block hpb
                have HI5 := hide hI5
                clear hI4 hI5 hbx4 hk4
                have hc2 : ∀ d : Bool, (false != (if d = true then decide (N < (nR : Int)) else false)) = (d && decide (N < (nR : Int))) := fun d => by cases d <;> simp
                by_cases hN0 : 0 ≤ N
                · have hN1 : decide (N < (nR : Int)) = false := by rw [decide_eq_true hN0, Bool.true_and] at hcond; exact hcond
                  clear hcond hc2
                  go_upto_region 36 with fail
                  have hp6 := (Below.heap_alloc w5 (.cells #[.int .i64 0, .int .i64 0, .slice none 0 0] 34) _ hpz).trans hpb
                  have hz6 := heap_alloc_new w5 (.cells #[.int .i64 0, .int .i64 0, .slice none 0 0] 34)
                  have hbx6 := (Below.heap_alloc w5 (.cells #[.int .i64 0, .int .i64 0, .slice none 0 0] 34) _ (lt_of_block hbx5)).trans hbx5
                  have hb56 : Below w5.heap.size w5 (w5.alloc (.cells #[.int .i64 0, .int .i64 0, .slice none 0 0] 34)) := by go_grown
                  generalize w5.alloc (.cells #[.int .i64 0, .int .i64 0, .slice none 0 0] 34) = w6 at *
                  clear x14
                  go_wp2_with (refine wpList_load_row rfl 34 _ rfl w4.heap.size rfl _ _ _ _ hp6 Try.underlying34 rfl (by kernel_rfl) ?_)
                  have hb57 : Below w5.heap.size w5 (w6.alloc (.cells #[.int .i64 0, .int .i64 0, .slice none 0 0] 34)) := hb56.alloc hb56.size _
                  have hI7 := HI5.out.below hb57
                  have hq7 := heap_alloc_new w6 (.cells #[.int .i64 0, .int .i64 0, .slice none 0 0] 34)
                  have hz7 := (Below.heap_alloc w6 (.cells #[.int .i64 0, .int .i64 0, .slice none 0 0] 34) _ (lt_of_block hz6)).trans hz6
                  have hbx7 := (Below.heap_alloc w6 (.cells #[.int .i64 0, .int .i64 0, .slice none 0 0] 34) _ (lt_of_block hbx6)).trans hbx6
                  generalize w6.alloc (.cells #[.int .i64 0, .int .i64 0, .slice none 0 0] 34) = w7 at *
                  have hone : ∀ g, w7.heap[g]? = some (.cells #[.int .i64 0, .int .i64 0, .slice none 0 0] 34 (0, 0)) → Reads w7 w7.heap.size (some ⟨g, 0, none⟩) [⟨0, 0, none, 0, 0, []⟩] := fun g hq => by
                    refine ⟨fun i hi => ⟨g, 0, rfl, fun u x hu => ?_⟩, fun p' hp' => ?_⟩
                    · simp at hi
                      subst hi
                      have h1 := (row_cells hq u).1
                      rw [show (0 + 0 * 3 + u) = u by omega, h1]
                      simpa [Pkt.cells] using hu
                    · simp at hp'
                      subst hp'
                      exact ⟨Has.nil _ _ _, rfl, by simp⟩
                  have hsm := nrsame_any (some ⟨w6.heap.size, 0, none⟩) (some ⟨w5.heap.size, 0, none⟩) 1 1 1 1 w7.heap.size _ _ w7 (hone _ hq7) (hone _ hz7) rfl rfl (by omega)
                  have HBX := hide hbx7
                  have HI7 := hide hI7
                  clear hone hq7 hz7 hbx6 hbx5 hp6 hpb hbx7 hI7 hz6
                  refine hsm.mono ?_
                  rintro e w8 ⟨rfl, m8, hm8⟩
                  rw [decide_eq_true rfl]
                  have hb78 : Below w7.heap.size w7 w8 := by rw [← hm8]; exact below_drewN (Below.refl _ _) m8
                  have hI8 := HI7.out.below hb78
                  have hbx8 := (hb78.block _ (lt_of_block HBX.out)).trans HBX.out
                  have x18 := (row_cells hbx8 1).1
                  simp only [List.getElem?_toArray, List.getElem?_cons_succ, List.getElem?_cons_zero] at x18
                  have hwo := nrwithout_any (some ⟨gR, 0, none⟩) nR cR N rs w8 hI8.ref.hasR hI8.ref.n (by omega)
                  rw [hge.out] at hwo
                  clear hsm
                  go_wp2_with fail
                  refine hwo.mono ?_
                  rintro e w9 ⟨g9, n9, c9, rfl, ho9, hk9⟩
                  have HI6 := hide (show NI w w1.heap.size w1.heap.size vN ns g9 n9 c9 rs w9 from by
                    refine ⟨hI8.net.below hk9, ⟨ho9.from_ (by have := lt_of_block hI8.net.blk; omega), fun q hq => (hI8.ref.dat q hq).below hk9, h512⟩, hI8.key, ?_, hI8.bel.trans (hk9.mono hI8.bel.size)⟩
                    intro h
                    have h1 := (hI8.net.row.lt g9 h).2
                    have h2 := (ho9.lt g9 rfl).1
                    omega)
                  clear hwo hI8 hbx8 x18 ho9
                  go_wp2_with fail
                  go_meet
                  case rel => exact ⟨vN, _, g9, n9, c9, _, rfl, HI6.out⟩
                · have hN1 : decide (0 ≤ N) = false := decide_eq_false hN0
                  clear hcond hc2
                  go_upto_region 36 with fail
                  have hp6 := (Below.heap_alloc w5 (.cells #[.int .i64 0, .int .i64 0, .slice none 0 0] 34) _ hpz).trans hpb
                  have hz6 := heap_alloc_new w5 (.cells #[.int .i64 0, .int .i64 0, .slice none 0 0] 34)
                  have hbx6 := (Below.heap_alloc w5 (.cells #[.int .i64 0, .int .i64 0, .slice none 0 0] 34) _ (lt_of_block hbx5)).trans hbx5
                  have hb56 : Below w5.heap.size w5 (w5.alloc (.cells #[.int .i64 0, .int .i64 0, .slice none 0 0] 34)) := by go_grown
                  generalize w5.alloc (.cells #[.int .i64 0, .int .i64 0, .slice none 0 0] 34) = w6 at *
                  clear x14
                  go_wp2_with (refine wpList_load_row rfl 34 _ rfl w4.heap.size rfl _ _ _ _ hp6 Try.underlying34 rfl (by kernel_rfl) ?_)
                  have hb57 : Below w5.heap.size w5 (w6.alloc (.cells #[.int .i64 0, .int .i64 0, .slice none 0 0] 34)) := hb56.alloc hb56.size _
                  have hI7 := HI5.out.below hb57
                  have hq7 := heap_alloc_new w6 (.cells #[.int .i64 0, .int .i64 0, .slice none 0 0] 34)
                  have hz7 := (Below.heap_alloc w6 (.cells #[.int .i64 0, .int .i64 0, .slice none 0 0] 34) _ (lt_of_block hz6)).trans hz6
                  have hbx7 := (Below.heap_alloc w6 (.cells #[.int .i64 0, .int .i64 0, .slice none 0 0] 34) _ (lt_of_block hbx6)).trans hbx6
                  generalize w6.alloc (.cells #[.int .i64 0, .int .i64 0, .slice none 0 0] 34) = w7 at *
                  have hone : ∀ g, w7.heap[g]? = some (.cells #[.int .i64 0, .int .i64 0, .slice none 0 0] 34 (0, 0)) → Reads w7 w7.heap.size (some ⟨g, 0, none⟩) [⟨0, 0, none, 0, 0, []⟩] := fun g hq => by
                    refine ⟨fun i hi => ⟨g, 0, rfl, fun u x hu => ?_⟩, fun p' hp' => ?_⟩
                    · simp at hi
                      subst hi
                      have h1 := (row_cells hq u).1
                      rw [show (0 + 0 * 3 + u) = u by omega, h1]
                      simpa [Pkt.cells] using hu
                    · simp at hp'
                      subst hp'
                      exact ⟨Has.nil _ _ _, rfl, by simp⟩
                  have hsm := nrsame_any (some ⟨w6.heap.size, 0, none⟩) (some ⟨w5.heap.size, 0, none⟩) 1 1 1 1 w7.heap.size _ _ w7 (hone _ hq7) (hone _ hz7) rfl rfl (by omega)
                  have HBX := hide hbx7
                  have HI7 := hide hI7
                  clear hone hq7 hz7 hbx6 hbx5 hp6 hpb hbx7 hI7 hz6
                  refine hsm.mono ?_
                  rintro e w8 ⟨rfl, m8, hm8⟩
                  rw [decide_eq_true rfl]
                  have hb78 : Below w7.heap.size w7 w8 := by rw [← hm8]; exact below_drewN (Below.refl _ _) m8
                  have hI8 := HI7.out.below hb78
                  have hbx8 := (hb78.block _ (lt_of_block HBX.out)).trans HBX.out
                  have x18 := (row_cells hbx8 1).1
                  simp only [List.getElem?_toArray, List.getElem?_cons_succ, List.getElem?_cons_zero] at x18
                  have hwo := nrwithout_any (some ⟨gR, 0, none⟩) nR cR N rs w8 hI8.ref.hasR hI8.ref.n (by omega)
                  rw [hge.out] at hwo
                  clear hsm
                  go_wp2_with fail
                  refine hwo.mono ?_
                  rintro e w9 ⟨g9, n9, c9, rfl, ho9, hk9⟩
                  have HI6 := hide (show NI w w1.heap.size w1.heap.size vN ns g9 n9 c9 rs w9 from by
                    refine ⟨hI8.net.below hk9, ⟨ho9.from_ (by have := lt_of_block hI8.net.blk; omega), fun q hq => (hI8.ref.dat q hq).below hk9, h512⟩, hI8.key, ?_, hI8.bel.trans (hk9.mono hI8.bel.size)⟩
                    intro h
                    have h1 := (hI8.net.row.lt g9 h).2
                    have h2 := (ho9.lt g9 rfl).1
                    omega)
                  clear hwo hI8 hbx8 x18 ho9
                  go_wp2_with fail
                  go_meet
                  case rel => exact ⟨vN, _, g9, n9, c9, _, rfl, HI6.out⟩
          by_cases h04 : K = 0 ∨ K = 4
          · as_aux_lemma =>
              obtain ⟨bo, hbo⟩ : ∃ bo, bo = wr.heap.size := ⟨_, rfl⟩
              rw [← hbo] at x0 x1 x2 x3 x4 y0 y1 y2 y3 y4 hbx ⊢
              have HBO := hide hbo
              have HI1 := hide hI1
              have hbw3 : Below wr.heap.size wr w3 := by rw [← HW3.out]; go_grown
              clear hbo hI1
              have q1 : (K == 1) = false := by simp; omega
              go_upto_if 41 with fail
              go_cut [41, 43] from 25 to 238 (fun s41 _ wx => s41 = .bool true ∧ wx = w3)
              case first => as_aux_lemma =>
                rcases h04 with h | h
                · subst h
                  go_wp2_with fail
                  go_meet
                  exact ⟨rfl, rfl⟩
                · subst h
                  go_wp2_with fail
                  go_meet
                  exact ⟨rfl, rfl⟩
              case rest =>
                obtain ⟨rfl, hwc⟩ := hcut
                obtain rfl := hwc.symm
                go_upto_if 46 with fail
                go_cut [7] from 25 to 238 (fun s7 wx => ∃ T : Nat, s7 = .int .i64 (T : Int) ∧ T ≤ 1023 ∧ wx = w3)
                case first => as_aux_lemma =>
                  by_cases h4 : K = 4
                  · subst h4
                    have ha := and_1023' N
                    obtain ⟨T0, hT0⟩ : ∃ T0 : Nat, (T0 : Int) = N % 1024 := ⟨(N % 1024).toNat, by omega⟩
                    have hb1 : bits .and .i64 N 1023 = (T0 : Int) := by rw [ha, hT0]
                    have hc := and_1' (T0 : Int)
                    obtain ⟨T1, hT1⟩ : ∃ T1 : Nat, (T1 : Int) = (T0 : Int) % 2 := ⟨((T0 : Int) % 2).toNat, by omega⟩
                    have hb2 : bits .and .i64 (T0 : Int) 1 = (T1 : Int) := by rw [hc, hT1]
                    have h1 : T0 ≤ 1023 := by omega
                    have h2 : T1 ≤ 1023 := by omega
                    clear ha hc hT0 hT1 h04
                    by_cases h64 : 64 < m
                    · go_wp2_with fail
                      go_meet
                      exact ⟨T1, rfl, h2, rfl⟩
                    · go_wp2_with fail
                      go_meet
                      exact ⟨T0, rfl, h1, rfl⟩
                  · have q4 : (K == 4) = false := by simpa using h4
                    go_wp2_with fail
                    go_meet
                    exact ⟨1, rfl, by omega, rfl⟩
                case rest =>
                  obtain ⟨T, rfl, hT, hwc⟩ := hcut
                  obtain rfl := hwc.symm
                  go_wp2_with fail
                  go_loopw [4, 8, 9, 10, 11, 12] (fun s4 s8 _ _ _ _ wx => ∃ (k : Nat) (vN : Value) (ns : List Pkt) (gR nR cR : Nat) (rs : List Pkt), k ≤ T ∧ s8 = .int .i64 (k : Int) ∧ s4 = .slice (some ⟨gR, 0, none⟩) nR cR ∧ Hid (NI w w1.heap.size w1.heap.size vN ns gR nR cR rs wx) ∧ Hid (wx.heap[bo]? = some (.cells #[.int .i64 K, .int .i64 N, .int .i64 f, .int .i64 t, .slice pA m pc] 36 (0, 0))) ∧ Hid (Has wx w.heap.size pA xs)) (fun _ s8 _ _ _ _ _ => T - (intOf s8).toNat)
                  case atStart => exact ⟨0, vN, ns, gR, nR, cR, rs, Nat.zero_le _, rfl, rfl, HI1, hide hbx, hide (hx.keep fun b hlt => hbw3.block b (by omega))⟩
                  case round =>
                    clear HI1 hbx hx hbw3 HW3
                    obtain ⟨k, vN, ns, gR, nR, cR, rs, hk, rfl, rfl, hI, hbxr, hx⟩ := hrel
                    by_cases hkT : k < T
                    · obtain ⟨z2, u2⟩ := row_cells hbxr.out 2
                      obtain ⟨z3, u3⟩ := row_cells hbxr.out 3
                      obtain ⟨z4, u4⟩ := row_cells hbxr.out 4
                      simp only [List.getElem?_toArray, List.getElem?_cons_succ, List.getElem?_cons_zero] at z2 z3 z4
                      have hwz := hI.out.bel.size
                      have hbol := lt_of_block hbxr.out
                      have HC : Hid (∀ W, Has W w.heap.size pA xs → w.heap.size ≤ W.heap.size → Calls Try.prog 22 #[.slice pA m pc] W fun e w' => ∃ g, e = .returned (.slice (some ⟨g, 0, none⟩) m m) ∧ Own w' W.heap.size (.slice (some ⟨g, 0, none⟩) m m) xs ∧ Below W.heap.size W w' ∧ Hid (g = W.heap.size)) := hide (fun W a b => copy_own pA m pc w.heap.size xs W a b hxn hxl)
                      have HP : Hid (∀ w4, Below wr.heap.size wr.drew w4 → w4.cell? ⟨bo, 2, none⟩ = some (.int .i64 f) ∧ w4.cell? ⟨bo, 3, none⟩ = some (.int .i64 t) ∧ w4.cell? ⟨bo, 4, none⟩ = some (.slice pA m pc)) := hide (fun w4 hb => by
                        have h1 : w4.heap[bo]? = _ := (hb.block bo hbol).trans hbxr.out
                        exact ⟨by have := (row_cells h1 2).1; simpa using this, by have := (row_cells h1 3).1; simpa using this, by have := (row_cells h1 4).1; simpa using this⟩)
                      have hx0 := hx.out
                      go_upto_region 20 with fail
                      go_cut [9] from 57 to 109 (fun s9 wx => P20 f t m xs wr s9 wx)
                      case first => as_aux_lemma =>
                        have hxz : Has (wr.alloc (.cells #[.int .i64 0, .int .i64 0, .slice none 0 0] 34)) w.heap.size pA xs := hx0.alloc hwz _
                        have hsz : w.heap.size ≤ (wr.alloc (.cells #[.int .i64 0, .int .i64 0, .slice none 0 0] 34)).heap.size := by simp; omega
                        have HP2 : Hid (∀ w4, Below (wr.alloc (.cells #[.int .i64 0, .int .i64 0, .slice none 0 0] 34)).heap.size (wr.alloc (.cells #[.int .i64 0, .int .i64 0, .slice none 0 0] 34)).drew w4 → (w4.cell? ⟨bo, 2, none⟩ = some (.int .i64 f) ∧ w4.cell? ⟨bo, 3, none⟩ = some (.int .i64 t) ∧ w4.cell? ⟨bo, 4, none⟩ = some (.slice pA m pc)) ∧
                            w4.heap[wr.heap.size]? = some (.cells #[.int .i64 0, .int .i64 0, .slice none 0 0] 34 (0, 0))) := hide (fun w4 hb => by
                          have h0 : (wr.alloc (.cells #[.int .i64 0, .int .i64 0, .slice none 0 0] 34)).heap[bo]? = _ := (Below.heap_alloc wr (.cells #[.int .i64 0, .int .i64 0, .slice none 0 0] 34) bo hbol).trans hbxr.out
                          have h1 : w4.heap[bo]? = _ := (hb.block bo (lt_of_block h0)).trans h0
                          have h2 := heap_alloc_new wr (.cells #[.int .i64 0, .int .i64 0, .slice none 0 0] 34)
                          exact ⟨⟨by have := (row_cells h1 2).1; simpa using this, by have := (row_cells h1 3).1; simpa using this, by have := (row_cells h1 4).1; simpa using this⟩, (hb.block wr.heap.size (lt_of_block h2)).trans h2⟩)
                        have HZ : Hid ((wr.alloc (.cells #[.int .i64 0, .int .i64 0, .slice none 0 0] 34)).cell? ⟨bo, 2, none⟩ = some (.int .i64 f) ∧ (wr.alloc (.cells #[.int .i64 0, .int .i64 0, .slice none 0 0] 34)).cell? ⟨bo, 3, none⟩ = some (.int .i64 t) ∧ (wr.alloc (.cells #[.int .i64 0, .int .i64 0, .slice none 0 0] 34)).cell? ⟨bo, 4, none⟩ = some (.slice pA m pc)) := hide (by
                          have h1 : (wr.alloc (.cells #[.int .i64 0, .int .i64 0, .slice none 0 0] 34)).heap[bo]? = _ := (Below.heap_alloc wr (.cells #[.int .i64 0, .int .i64 0, .slice none 0 0] 34) bo hbol).trans hbxr.out
                          exact ⟨by have := (row_cells h1 2).1; simpa using this, by have := (row_cells h1 3).1; simpa using this, by have := (row_cells h1 4).1; simpa using this⟩)
                        have HZ4 : Hid (∀ w4, Below wr.heap.size wr.drew w4 → (w4.alloc (.cells #[.int .i64 0, .int .i64 0, .slice none 0 0] 34)).cell? ⟨bo, 2, none⟩ = some (.int .i64 f) ∧ (w4.alloc (.cells #[.int .i64 0, .int .i64 0, .slice none 0 0] 34)).cell? ⟨bo, 3, none⟩ = some (.int .i64 t) ∧ (w4.alloc (.cells #[.int .i64 0, .int .i64 0, .slice none 0 0] 34)).cell? ⟨bo, 4, none⟩ = some (.slice pA m pc)) := hide (fun w4 hb => by
                          have h0 : w4.heap[bo]? = _ := (hb.block bo hbol).trans hbxr.out
                          have h1 : (w4.alloc (.cells #[.int .i64 0, .int .i64 0, .slice none 0 0] 34)).heap[bo]? = _ := (Below.heap_alloc w4 (.cells #[.int .i64 0, .int .i64 0, .slice none 0 0] 34) bo (lt_of_block h0)).trans h0
                          exact ⟨by have := (row_cells h1 2).1; simpa using this, by have := (row_cells h1 3).1; simpa using this, by have := (row_cells h1 4).1; simpa using this⟩)
                        have HBN : Hid (∀ w4, Below wr.heap.size wr.drew w4 → bo ≠ w4.heap.size ∧ w4.heap.size ≠ bo) := hide (fun w4 hb => by
                          have : wr.heap.size ≤ w4.heap.size := hb.size
                          exact ⟨by omega, by omega⟩)
                        have nb1 : bo ≠ wr.heap.size := by omega
                        have nb2 : wr.heap.size ≠ bo := by omega
                        go_region_held3 (fun w' => w'.cell? ⟨bo, 2, none⟩ = some (.int .i64 f) ∧ w'.cell? ⟨bo, 3, none⟩ = some (.int .i64 t) ∧ w'.cell? ⟨bo, 4, none⟩ = some (.slice pA m pc)) (first | exact ⟨z2, z3, z4⟩ | exact HZ.out | exact yy | exact zz | go_keep)
                          (first
                            | ((go_at_call 22; (with_reducible refine (HC.out _ ?_ ?_).mono ?_)); exact hx0; exact hwz; rintro e w4 ⟨g4, rfl, ho4, b4, hg4⟩; have yy := HP.out _ b4; have zz := HZ4.out _ b4; obtain ⟨nn1, nn2⟩ := HBN.out _ b4; simp only [])
                            | ((go_at_call 22; (with_reducible refine (HC.out _ ?_ ?_).mono ?_)); exact hxz; exact hsz; rintro e w4 ⟨g4, rfl, ho4, b4, hg4⟩; obtain ⟨yy, hq4⟩ := HP2.out _ b4; obtain ⟨v0, f0⟩ := row_cells hq4 0; obtain ⟨v1, f1⟩ := row_cells hq4 1; obtain ⟨v2, f2⟩ := row_cells hq4 2; simp only [List.getElem?_toArray, List.getElem?_cons_succ, List.getElem?_cons_zero] at v0 v1 v2; simp only []))
                        all_goals go_wp2_with fail
                        all_goals go_meet
                        all_goals first
                          | exact p20_a b4 ho4
                          | exact p20_b b4 ho4 hq4
                      case rest => as_aux_lemma =>
                          obtain ⟨gp, gd, rfl, hp, hd, hgp, hb20⟩ := hcut
                          clear HC HP z2 z3 z4 u2 u3 u4
                          have HWR := hI
                          have hIc := hI.out.below hb20
                          have hbxc := (hb20.block bo hbol).trans hbxr.out
                          have hra := range_of_row hbxc 2 [(.int .i64 f : Value), .int .i64 t, .slice pA m pc] rfl
                          have hxc : Has wc w.heap.size pA xs := hx0.keep fun b hlt => hb20.block b (by omega)
                          have hbcz := hb20.size
                          obtain ⟨X, hX⟩ : ∃ X, X = putE rs.length f t xs.length := ⟨_, rfl⟩
                          have hrp := rput_any w1.heap.size gR nR cR rs f t pA m pc w.heap.size xs wc hIc.ref hxc (by omega) hxn (by have := lt_of_block hIc.net.blk; omega)
                          rw [← hX] at hrp
                          have HX := hide hX
                          clear hX
                          have HIC := hide hIc
                          have HXC := hide hxc
                          clear hIc hx0 hxc hbxr hI hx
                          go_upto_region 22 with (first
                            | (refine wpList_load_mid rfl 34 _ rfl bo 2 (by simp [Act.eval, Act.put]) [(.int .i64 f : Value), .int .i64 t, .slice pA m pc] _ hra Try.underlying34 rfl (by kernel_rfl) ?_)
                            | (go_at_call 23; refine hrp.mono ?_; rintro e w4 ⟨g4, n4, c4, rs4, rfl, hR4, hk4, hst, hnw, hg4, hq4⟩))
                          have HST := hide hst
                          have HNW := hide hnw
                          have HR4 := hide hR4
                          clear hst hnw hR4 hrp hra
                          go_cut [89] from 57 to 109 (fun s89 wx => s89 = .bool (decide (0 < (k : Int)) && ((X == 43) && decide (600 < (T : Int)))) ∧ wx = w4)
                          case first => as_aux_lemma =>
                            rcases Nat.eq_zero_or_pos k with e0 | e0
                            · subst e0
                              cases e2 : (X == 43)
                              all_goals go_wp2_with fail
                              all_goals go_meet
                              all_goals exact ⟨by simp [e2], rfl⟩
                            · have e1 : (0 : Int) < (k : Int) := by omega
                              cases e2 : (X == 43)
                              all_goals go_wp2_with fail
                              all_goals go_meet
                              all_goals exact ⟨by simp [e0, e1, e2], rfl⟩
                          case rest =>
                            obtain ⟨rfl, hwc⟩ := hcut
                            obtain rfl := hwc.symm
                            have hI4 := HIC.out.below hk4
                            have hbx4 := (hk4.block bo (lt_of_block hbxc)).trans hbxc
                            cases hbk : (decide (0 < (k : Int)) && ((X == 43) && decide (600 < (T : Int))))
                            · as_aux_lemma =>
                              have hdis4 : vN.ownBlock ≠ some g4 := by
                                rcases hg4 with e | e
                                · rw [e]; exact HIC.out.dis
                                · intro h
                                  have h1 := (HIC.out.net.row.lt g4 h).2
                                  omega
                              have hp4 := (hk4.block gp (lt_of_block hp.out)).trans hp.out
                              have hd4 := hd.out.below hk4
                              obtain ⟨hxd, hxdn⟩ := own_has hd4
                              have hpt := npt_any w1.heap.size w1.heap.size vN ns f t (some ⟨gd, 0, none⟩) m m w4.heap.size xs w4 hI4.net hxd (Nat.le_refl _) hxdn
                              have hll := hI4.len
                              rw [hll, ← HX.out] at hpt
                              have hgpn : vN.ownBlock ≠ some gp := fun h => by
                                have h1 := (HWR.out.net.row.lt gp h).2
                                omega
                              have hgdl := hd.out.lt gd rfl
                              have HQ4 := hide hq4
                              have HI4 := hide hI4
                              have HD4 := hide hd4
                              have HBK := hide hbk
                              clear hxd hxdn hq4 hI4 hd4 hbk hll
                              go_wp2_with (refine wpList_load_row rfl 34 _ rfl gp rfl _ _ _ _ hp4 Try.underlying34 rfl (by kernel_rfl) ?_)
                              refine hpt.mono ?_
                              rintro e w5 ⟨rfl, v5, ns5, hN5, hk5, hv5, hs5, hw5, hq5⟩
                              have hp5 : w5.heap[gp]? = _ := (hk5.block gp (lt_of_block hp4) (fun h => by
                                rcases h with e | e
                                · exact typed_ne hp4 HI4.out.net.blk (by decide) e
                                · exact hgpn e)).trans hp4
                              have hd5 : Own w5 wr.heap.size (.slice (some ⟨gd, 0, none⟩) m m) xs := HD4.out.keep fun k hk' => hk5.block k (HD4.out.lt k hk').2 (fun h => by
                                obtain ⟨cq, hc⟩ := own_typed HD4.out k hk'
                                rcases h with e | e
                                · exact typed_ne hc HI4.out.net.blk (by decide) e
                                · obtain ⟨cv, hv⟩ := HI4.out.net.row.typed k e
                                  exact typed_ne hc hv (by decide) rfl)
                              have hbx5 := HI4.out.net.box hk5 hbx4 (by decide) (by decide)
                              have hdis5 : v5.ownBlock ≠ some g4 := by
                                rcases hv5 with e | e
                                · rw [e]; exact hdis4
                                · intro h
                                  have h1 := e g4 h
                                  have h2 := HR4.out.lt.2
                                  omega
                              have hI5 : NI w w1.heap.size w1.heap.size v5 ns5 g4 n4 c4 rs4 w5 := by
                                refine ⟨hN5, HR4.out.net HI4.out.net hdis4 hk5, ?_, hdis5, HI4.out.kb hw0 hk5⟩
                                by_cases h0 : X = 0
                                · rw [hw5 h0, HNW.out h0, HI4.out.key]
                                · obtain ⟨_, _, _, e⟩ := HST.out h0
                                  rw [hs5 h0, e, HI4.out.key]
                              have hq6 : ∀ q, (q ∈ ns5 ∨ q ∈ rs4) → q.sl.ownBlock ≠ some gd := fun q hq h => by
                                rcases hq with hq | hq
                                · rcases hq5 q hq with h1 | h1
                                  · have := ((HWR.out.net.dat q h1).lt gd h).2
                                    omega
                                  · have := h1 gd h
                                    have := hk4.size
                                    omega
                                · rcases HQ4.out q hq with h1 | h1
                                  · have := ((HWR.out.ref.dat q h1).lt gd h).2
                                    omega
                                  · have := h1 gd h
                                    omega
                              have HI5 := hide hI5
                              have HQ6 := hide hq6
                              have HP5 := hide hp5
                              have HBX5 := hide hbx5
                              have y2 := (row_cells hp5 2).1
                              simp only [List.getElem?_toArray, List.getElem?_cons_succ, List.getElem?_cons_zero] at y2
                              clear hI5 hq6 hN5 hk5 hv5 hs5 hw5 hq5 hpt hdis5 hbx5
                              go_wp2
                              go_loopw [12, 99] (fun _ i wx => ∃ l : Nat, l ≤ m ∧ i = .int .i64 (l : Int) ∧ Mut (fun k => k = gd) w5 wx) (fun _ i _ => m - (intOf i).toNat)
                              case atStart => exact ⟨0, Nat.zero_le _, rfl, Mut.refl _ _⟩
                              case round =>
                                obtain ⟨l, hlm, rfl, hM⟩ := hrel
                                have hgpd : gp ≠ gd := by
                                  obtain ⟨cq, hc⟩ := own_typed hd5 gd rfl
                                  exact typed_ne HP5.out hc (by decide)
                                by_cases hll : l < m
                                · have hpx := (hM.kept.block gp (lt_of_block HP5.out) hgpd).trans HP5.out
                                  have y3 := (row_cells hpx 2).1
                                  simp only [List.getElem?_toArray, List.getElem?_cons_succ, List.getElem?_cons_zero] at y3
                                  obtain ⟨hxo, hxon⟩ := own_has hd5
                                  obtain ⟨bd, od, eb, _, hcb⟩ := hxo l (by omega)
                                  injection eb with eb
                                  injection eb with eb eo
                                  subst eb eo
                                  rw [Nat.zero_add] at hcb
                                  obtain ⟨yv, s1⟩ := hM.int gd rfl _ _ _ hcb
                                  have s2 := (hM.free gd rfl (hd5.free gd rfl)).ice l
                                  have hlm' : (l : Int) < (m : Int) := by omega
                                  have HM2 := hide (fun y => hM.set (x := yv) (k := gd) (i := l) rfl s1 y)
                                  clear hM hcb y2 hpx hxo
                                  go_wp2_with fail
                                  go_roundw
                                  case rel => exact ⟨l + 1, by omega, by go_num, HM2.out _⟩
                                  case measure => simp [intOf]; omega
                                · obtain rfl : l = m := by omega
                                  have hI9 : NI w w1.heap.size w1.heap.size v5 ns5 g4 n4 c4 rs4 wr := by
                                    have h5 := HI5.out
                                    have hb5 := h5.bel.size
                                    refine ⟨h5.net.kept hM.kept ?_, h5.ref.kept hM.kept ?_ (fun q hq k hk e => HQ6.out q (.inr hq) (by rw [← e]; exact hk)), h5.key, h5.dis, h5.bel.trans (hM.kept.below hb5 (fun k hk => by omega))⟩
                                    · rintro k rfl (h | ⟨q, hq, h⟩)
                                      · obtain ⟨cq, hc⟩ := own_typed hd5 k rfl
                                        rcases h with e | e
                                        · exact typed_ne hc h5.net.blk (by decide) e
                                        · obtain ⟨cv, hv⟩ := h5.net.row.typed k e
                                          exact typed_ne hc hv (by decide) rfl
                                      · exact HQ6.out q (.inl hq) h
                                    · intro e
                                      obtain ⟨cq, hc⟩ := own_typed hd5 gd rfl
                                      obtain ⟨cv, hv⟩ := h5.ref.row.typed g4 rfl
                                      exact typed_ne hv hc (by decide) e
                                  have hbx9 : wr.heap[bo]? = _ := (hM.kept.block bo (lt_of_block HBX5.out) (fun e => by
                                    obtain ⟨cq, hc⟩ := own_typed hd5 gd rfl
                                    exact typed_ne HBX5.out hc (by decide) e)).trans HBX5.out
                                  have hx9 : Has wr w.heap.size pA xs := HXC.out.keep fun b hlt => by
                                    have hbb := hI9.bel.block b hlt
                                    have hbc := HIC.out.bel.block b hlt
                                    exact hbb.trans hbc.symm
                                  have HI9 := hide hI9
                                  have HBX9 := hide hbx9
                                  have HX9 := hide hx9
                                  clear hM hI9 hbx9 hx9 y2
                                  go_wp2_with fail
                                  go_roundw
                                  case rel => exact ⟨k + 1, v5, ns5, g4, n4, c4, rs4, by omega, by go_num, rfl, HI9, HBX9, HX9⟩
                                  case measure => simp [intOf]; omega
                            · as_aux_lemma =>
                              have hx43 : X = 43 := by
                                simp only [Bool.and_eq_true, beq_iff_eq] at hbk
                                exact hbk.2.1
                              obtain ⟨rfl, rfl, rfl, rfl⟩ := HST.out (by omega)
                              have HI6 := hide (show NI w w1.heap.size w1.heap.size vN ns g4 n4 c4 rs4 w4 from hI4)
                              have hbo := HBO.out
                              clear hI4 hx43
                              subst hbo
                              go_wp2_with fail
                              go_meet
                              case rel => exact ⟨vN, _, g4, n4, c4, _, rfl, HI6.out⟩
                    · obtain rfl : k = T := by omega
                      have hbo := HBO.out
                      subst hbo
                      go_wp2_with fail
                      go_meet
                      case rel => exact ⟨vN, _, gR, nR, cR, _, rfl, hI.out⟩
          · as_aux_lemma =>
              have q0 : (K == 0) = false := by simp; omega
              have q1 : (K == 1) = false := by simpa using h1
              have q2 : (K == 2) = false := by simpa using h2
              have q3 : (K == 3) = false := by simpa using h3
              have q4 : (K == 4) = false := by simp; omega
              have HI6 := hide hI1
              clear h1 h2 h3 h04
              go_wp2_with fail
              go_meet
              case rel => exact ⟨vN, _, gR, nR, cR, _, rfl, HI6.out⟩
        case rest => as_aux_lemma =>
            clear hI hI1 hbx hw3 hx hra'
            obtain ⟨vN, ns, gR, nR, cR, rs, rfl, hI⟩ := hcut
            have hlist := nlist_any w1.heap.size w1.heap.size vN ns wc hI.net
            go_wp2_with fail
            refine hlist.mono ?_
            rintro e w5 ⟨v5, qs, rfl, ho5, hl5, hd5, hal5, hk5⟩
            have hI5 := hI.below hk5
            have hzc := hk5.size
            obtain ⟨A5, n5, c5, rfl, hn5, hnc5, hcm5, hr5, hz5, hg5⟩ := ho5.form
            have hn5' : Hid (qs.length = n5) := hide (by have := hn5.out; simpa using this)
            have hlen := nlen_any w1.heap.size w1.heap.size vN ns w5 hI5.net
            have hnR := hI5.ref.n
            have hll := hI5.len
            rw [hll, hnR] at hlen
            have hkq : qs.map Pkt.key = rs.map Pkt.key := by
              rw [← hI5.key]
              refine key_take (j := qs.length) (fun i p q _ hp hq => ?_) hl5 rfl
              have := hal5 i q p hq hp
              simp [Pkt.key, this.1, this.2.1, this.2.2]
            have hqx : ∀ q ∈ qs, Has w5 w5.heap.size q.A q.xs ∧ q.xs.length = q.n ∧ q.n ≤ 140737488355328 := fun q hq => by
              obtain ⟨h1, h2⟩ := own_has (hd5 q hq)
              obtain ⟨i, hi, rfl⟩ := List.getElem_of_mem hq
              have h3 := hal5 i _ _ (List.getElem?_eq_getElem (by omega)) (List.getElem?_eq_getElem hi)
              have h4 := (hI5.net.ok ns[i] (List.getElem_mem (by omega))).2.2.2.2
              have h5 : qs[i].xs = ns[i].xs := h3.2.2.symm
              refine ⟨h1, h2, ?_⟩
              rw [← h5] at h4
              omega
            have hrx : ∀ q ∈ rs, q.xs.length ≤ 65536 := fun q hq => by
              obtain ⟨i, hi, rfl⟩ := List.getElem_of_mem hq
              have h3 : (ns.map Pkt.key)[i]? = (rs.map Pkt.key)[i]? := by rw [hI5.key]
              rw [List.getElem?_map, List.getElem?_map, List.getElem?_eq_getElem hi, List.getElem?_eq_getElem (by omega)] at h3
              simp only [Option.map_some, Option.some.injEq, Pkt.key, Prod.mk.injEq] at h3
              have h4 := (hI5.net.ok ns[i] (List.getElem_mem (by omega))).2.2.2.2
              rw [h3.2.2] at h4
              exact h4
            obtain ⟨hR1, _⟩ := Reads.of ho5 hqx
            obtain ⟨hR2, _⟩ := hI5.ref.reads hrx
            have h512 := hI5.ref.len
            have hsame := nrsame_any A5 (some ⟨gR, 0, none⟩) n5 nR c5 cR w5.heap.size qs rs w5 hR1 hR2 hn5'.out hnR (by have := hn5'.out; omega)
            have hn5b : n5 ≤ 512 := by have := hn5'.out; omega
            have HI := hide hI
            have HKB := hide hk5
            have HK := hide hkq
            have HD := hide hd5
            have HQ := hide hqx
            have HR := hide hr5
            have HI5 := hide hI5
            have HNR := hide hnR
            clear hkq hd5 hqx hr5 hI5 hrx hR1 hR2 hal5 hlist hI hz5 hg5 hn5 hnR hll hl5
            go_wp2_with fail
            refine hlen.mono ?_
            rintro e w6 ⟨rfl, rfl⟩
            go_wp2_with fail
            refine hsame.mono ?_
            rintro e w7 ⟨rfl, m7, hm7⟩
            rw [decide_eq_true HK.out]
            have hM7 : Mut (fun k => wc.heap.size ≤ k) w5 w7 := by rw [← hm7]; exact (Mut.refl _ w5).drewN m7
            go_wp2
            go_loopw [19, 211, 20] (fun _ i _ wr => ∃ k : Nat, k ≤ n5 ∧ i = .int .i64 (k : Int) ∧ Mut (fun k => wc.heap.size ≤ k) w5 wr) (fun _ i _ _ => n5 - (intOf i).toNat)
            case atStart => exact ⟨0, Nat.zero_le _, rfl, hM7⟩
            case round =>
              obtain ⟨k, hk, rfl, hM⟩ := hrel
              by_cases hkl : k < n5
              · have hkq : k < qs.length := by rw [hn5'.out]; exact hkl
                obtain ⟨gG, rfl, hra, _, hgl⟩ := HR.out k (by simpa using hkq)
                have hcell : (qs.map Pkt.cells)[k]'(by simpa using hkq) = qs[k].cells := by simp
                rw [hcell] at hra
                have hqm : qs[k] ∈ qs := List.getElem_mem hkq
                have hown := HD.out _ hqm
                obtain ⟨hx, hxn, hxl⟩ := HQ.out _ hqm
                generalize qs[k] = q at *
                obtain ⟨qf, qt, qA, qn, qc, qx⟩ := q
                simp only [Pkt.sl] at hown hx hxn hxl
                have hra' : w5.rangeAt gG (k * 3) [(.int .i64 qf : Value), .int .i64 qt, .slice qA qn qc] := hra
                have hgb := (ho5.lt gG rfl).1
                obtain ⟨y1, r1⟩ := hM.int gG hgb _ _ _ (hra' 1 _ rfl)
                have r2 := hM.slc gG hgb _ _ _ _ (hra' 2 _ rfl)
                have hfr : Free w5 gG := by obtain ⟨cur, hc⟩ := ho5.typed gG rfl; exact ⟨cur, _, hc⟩
                have z1 := (hM.free gG hgb hfr).ice (k * 3 + 1)
                have hkl' : (k : Int) < (n5 : Int) := by omega
                have hM1 := hM.set (x := y1) (k := gG) (i := k * 3 + 1) hgb r1 (-1)
                have q2 := hM1.slc gG hgb _ _ _ _ (hra' 2 _ rfl)
                have HM1 := hide hM1
                have HFR := hide hfr
                have HOW := hide hown
                clear hra hcell hM hM1 hfr hown
                go_upto_region 59 with fail
                generalize wr.setCell ⟨gG, k * 3 + 1, none⟩ (.int .i64 (-1)) = wa at *
                go_wp2
                go_loopw [20, 224] (fun _ i wr => ∃ l : Nat, l ≤ qn ∧ i = .int .i64 (l : Int) ∧ Mut (fun k => wc.heap.size ≤ k) w5 wr) (fun _ i _ => qn - (intOf i).toNat)
                case atStart => exact ⟨0, Nat.zero_le _, rfl, HM1.out⟩
                case round =>
                  obtain ⟨l, hl, rfl, hM⟩ := hrel
                  clear r1 r2 q2 z1 HM1
                  by_cases hll : l < qn
                  · have hlx : l < qx.length := by rw [hxn]; exact hll
                    obtain ⟨bd, od, rfl, _, hcb⟩ := hx l hlx
                    obtain ⟨rfl, hbd, hfd⟩ : od = 0 ∧ wc.heap.size ≤ bd ∧ Free w5 bd := by
                      rcases HOW.out.2 with ⟨hv, _⟩ | ⟨g', cap, cur, hv, hg', hh, _⟩
                      · injection hv with e1
                        cases e1
                      · injection hv with e1 e2 e3
                        injection e1 with e1
                        injection e1 with e1 e2
                        subst e1 e2
                        exact ⟨rfl, hg', cur, _, hh⟩
                    have q2 := hM.slc gG hgb _ _ _ _ (hra' 2 _ rfl)
                    rw [Nat.zero_add] at hcb
                    obtain ⟨y2, s1⟩ := hM.int bd hbd _ _ _ hcb
                    have s2 := (hM.free bd hbd hfd).ice l
                    have hll' : (l : Int) < (qn : Int) := by omega
                    have HM2 := hide (fun y => hM.set (x := y2) (k := bd) (i := l) hbd s1 y)
                    clear hM hfd hcb hra'
                    go_wp2_with fail
                    go_roundw
                    case rel => exact ⟨l + 1, by omega, by go_num, HM2.out _⟩
                    case measure => simp [intOf]; omega
                  · obtain rfl : l = qn := by omega
                    go_wp2_with fail
                    go_roundw
                    case rel => exact ⟨k + 1, by omega, by go_num, hM⟩
                    case measure => simp [intOf]; omega
              · obtain rfl : k = n5 := by omega
                have hb9 : Below wc.heap.size w5 wr := hM.kept.below hzc (fun k hk => hk)
                have hI9 := HI.out.below (HKB.out.trans hb9)
                go_wp2_with fail
                go_roundw
                case rel => exact ⟨j + 1, vN, ns, gR, nR, cR, rs, by omega, by omega, by go_num, rfl, hI9⟩
                case measure => simp [intOf]; omega
      · as_aux_lemma =>
        have hj6 : j = 60 := by omega
        subst hj6
        have hil : ((60 : Nat) : Int) < (n : Int) := by omega
        have hlist := nlist_any w1.heap.size w1.heap.size vN ns wr hI.net
        go_wp2_with fail
        refine hlist.mono ?_
        rintro e w5 ⟨v5, qs, rfl, ho5, hl5, hd5, hal5, hk5⟩
        obtain ⟨A5, n5, c5, rfl, _, _, _, _, _, _⟩ := ho5.form
        have hsm := ni_same hI ho5 hl5 hd5 hal5 hk5
        have HB := hide (hI.bel.trans (hk5.mono hI.bel.size))
        clear hlist ho5 hd5 hal5
        go_wp2_with fail
        refine hsm.mono ?_
        rintro e w6 ⟨rfl, hb6⟩
        have hb9 := HB.out.trans (hb6.mono HB.out.size)
        go_wp2
        go_ret
        exact ⟨rfl, hb9⟩
    · as_aux_lemma =>
      have hjn : j = n := by omega
      subst hjn
      have hlist := nlist_any w1.heap.size w1.heap.size vN ns wr hI.net
      go_wp2_with fail
      refine hlist.mono ?_
      rintro e w5 ⟨v5, qs, rfl, ho5, hl5, hd5, hal5, hk5⟩
      obtain ⟨A5, n5, c5, rfl, _, _, _, _, _, _⟩ := ho5.form
      have hsm := ni_same hI ho5 hl5 hd5 hal5 hk5
      have HB := hide (hI.bel.trans (hk5.mono hI.bel.size))
      clear hlist ho5 hd5 hal5
      go_wp2_with fail
      refine hsm.mono ?_
      rintro e w6 ⟨rfl, hb6⟩
      have hb9 := HB.out.trans (hb6.mono HB.out.size)
      go_wp2
      go_ret
      exact ⟨rfl, hb9⟩
end Go.Proofs.Ytpbfibofjkinmaa
