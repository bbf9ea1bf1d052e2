/-
  put of msg.Encode: numbers are written, if the kind uses them. Conditions: what is read is in reach.
  Messages without their memory: their bytes, what bytes are read as, there and back. No condition.
  readBal and readVotes of package msg. Conditions: the reader's bytes lie below.
  Messages without their memory: what is read is what would be written; a message that Check takes is right. No condition.
  The memory of a message that is read field by field. No condition.
-/
import Derived.Test.YtapbcpilklhoiabDoorMY12
import Derived.Test.YtapbcpilklhoiabDoorMY3
import Derived.Test.YtapbcpilklhoiabDoorMY6
import Derived.Test.YtapbcpilklhoiabDoorMY10
import Derived.Test.YtapbcpilklhoiabDoorMY5
import Derived.Test.YtapbcpilklhoiabDoorMY8
set_option linter.unusedSimpArgs false
set_option linter.unusedVariables false

namespace Go.Proofs.YtapbcpilklhoiabDoor
open Go.RowKit

/-- What is written. -/
def putL (u f : Int) (xs : List Int) : List UInt8 := if (bits .and .i64 u f == 0) = true then [] else encNs xs
theorem putL_len (u f : Int) (xs : List Int) : (putL u f xs).length ≤ 9 * xs.length := by
  unfold putL
  split
  · simp
  · exact encNs_length xs

set_option maxHeartbeats 1600000 in
theorem mput_any (u f : Int) (A : Option Addr) (n c B g5 g6 g base : Nat) (b : Option Nat) (xs : List Int) (zs : List UInt8) (w : World) (hw : Wr w base g b zs) (hx : HasI w B A xs) (hB : B ≤ w.heap.size) (hoA : ∀ k o, A = some ⟨k, o, none⟩ → ¬ Foot g b k) (hn : xs.length = n)
    (h5 : w.heap[g5]? = some (.cells #[.int .i64 u] 3 (0, 0))) (h6 : w.heap[g6]? = some (.cells #[.pointer (some ⟨g, 0, none⟩)] 72 (0, 0))) (n5 : ¬ Foot g b g5) (n6 : ¬ Foot g b g6) (hl : zs.length + 9 * n ≤ 140737488355328) :
    Calls Tryd.prog 32 #[.int .i64 f, .slice A n c, .pointer (some ⟨g5, 0, none⟩), .pointer (some ⟨g6, 0, none⟩)] w (PEnds g b base (zs ++ putL u f xs) w) := by
  have HN := hide hn
  clear hn
  have c5 := (row_cells h5 0).1
  simp only [List.getElem?_toArray, List.getElem?_cons_zero] at c5
  by_cases t0 : (bits .and .i64 u f == 0) = true
  · have HE : Hid (putL u f xs = []) := hide (if_pos t0)
    go_enter Tryd.func32, Tryd.ntmps32
    go_wp2
    go_end0
    exact ⟨rfl, b, by rw [HE.out, List.append_nil]; exact hw, .inl rfl, Kept.refl _ _⟩
  · have HE : Hid (putL u f xs = encNs xs) := hide (if_neg t0)
    have t0 : (bits .and .i64 u f == 0) = false := Bool.eq_false_iff.2 t0
    have HKC : Hid (∀ ys b' w', WGo g b base w ys b' w' → w'.cell? ⟨g6, 0, none⟩ = some (.pointer (some ⟨g, 0, none⟩)) ∧ HasI w' B A xs) := hide (fun ys b' w' h => ⟨(row_cells ((h.kept.block g6 (lt_of_block h6) n6).trans h6) 0).1, hx.keepA fun k o ha hk => h.kept.block k (by omega) (hoA k o ha)⟩)
    have hw0 : WGo g b base w zs b w := ⟨hw, .inl rfl, Kept.refl _ _⟩
    have HL := hide (fun k => encNs_length (xs.take k))
    clear h5 h6 n5 n6 hx hoA hw
    go_enter Tryd.func32, Tryd.ntmps32
    go_wp2_with fail
    go_loopw [14] (fun i wr => ∃ (j : Nat) (b' : Option Nat), j ≤ n ∧ i = .int .i64 j ∧ WGo g b base w (zs ++ encNs (xs.take j)) b' wr) (fun i _ => n - (intOf i).toNat)
    case atStart => exact ⟨0, b, Nat.zero_le _, rfl, by simpa [encNs] using hw0⟩
    case round =>
      clear hw0
      obtain ⟨j, b1, hj, rfl, h1⟩ := hrel
      obtain ⟨c6, hxr⟩ := HKC.out _ _ _ h1
      by_cases hlt : j < n
      · have hlt' : j < xs.length := by rw [HN.out]; exact hlt
        have htk := encNs_take xs j hlt'
        have hcl := hxr j hlt'
        have hle : (zs ++ encNs (xs.take j)).length + 9 ≤ 140737488355328 := by
          have := HL.out j
          rw [List.length_take] at this
          rw [List.length_append]
          have : min j xs.length ≤ n - 1 := by omega
          omega
        clear hxr
        generalize xs[j] = x at *
        obtain ⟨ab, ao, rfl, hab, e0⟩ := hcl
        have HZ : Hid (zs ++ encNs (xs.take (j + 1)) = (zs ++ encNs (xs.take j)) ++ enc (unb x)) := hide (by rw [htk, List.append_assoc])
        generalize zs ++ encNs (xs.take j) = ys at *
        have HLE := hide hle
        have hxu := unb_wrap x
        clear htk hle
        go_wp2_with fail
        refine (wnum_any g base b1 ys (unb x) wr h1.wr (unb_lt x) HLE.out).mono ?_
        rintro e w2 ⟨rfl, b2, hw2, hl2, hk2⟩
        have h2 := h1.step hw2 hl2 hk2
        go_wp2
        go_roundw
        case rel => exact ⟨j + 1, b2, by omega, by go_num, by rw [HZ.out]; exact h2⟩
        case measure => simp [intOf]; omega
      · obtain rfl : j = n := by omega
        rw [List.take_of_length_le (by rw [HN.out]; omega)] at h1
        clear hxr
        go_wp2
        go_end0
        exact ⟨rfl, b1, by rw [HE.out]; exact h1.wr, h1.lie, h1.kept⟩

/-- Memory within msg.Encode. -/
structure EW (w : World) (m : Msgv) (u : Int) (base g5 g6 g : Nat) (b : Option Nat) (zs : List UInt8) (W : World) : Prop where
  wr : Wr W base g b zs
  box : W.heap[w.heap.size]? = some (.cells #[.int .i64 m.kd, .int .i64 m.fr, .int .i64 m.tt, .int .i64 m.ep, .int .i64 m.br, .int .i64 m.bn, .int .i64 m.sl, .int .i64 m.lw, .int .i64 m.tm, .int .i64 m.v.k, .slice m.v.A m.v.n m.v.c, .slice m.v.D m.v.m m.v.d, .slice m.VA m.vn m.vc, .int .i64 m.cm.s, .int .i64 m.cm.q, .int .i64 m.cm.a, .int .i64 m.cm.k, .int .i64 m.cm.r, .int .i64 m.cm.t, .int .i64 m.cm.re, .int .i64 m.cm.im, .int .i64 m.rk, .int .i64 m.rr, .int .i64 m.ri, .slice m.DA m.dn m.dc] 37 (0, 0))
  h5 : W.heap[g5]? = some (.cells #[.int .i64 u] 3 (0, 0))
  h6 : W.heap[g6]? = some (.cells #[.pointer (some ⟨g, 0, none⟩)] 72 (0, 0))
  n0 : ¬ Foot g b w.heap.size
  n5 : ¬ Foot g b g5
  n6 : ¬ Foot g b g6
  bl : Below w.heap.size w W
  lo : w.heap.size < base
section
variable {w W W' : World} {m : Msgv} {u : Int} {base g5 g6 g : Nat} {b b' : Option Nat} {zs zs' : List UInt8}
theorem EW.below (h : EW w m u base g5 g6 g b zs W) (hb : Below W.heap.size W W') : EW w m u base g5 g6 g b zs W' :=
  ⟨h.wr.below hb, (hb.block _ (lt_of_block h.box)).trans h.box, (hb.block _ (lt_of_block h.h5)).trans h.h5, (hb.block _ (lt_of_block h.h6)).trans h.h6, h.n0, h.n5, h.n6, h.bl.trans (hb.mono h.bl.size), h.lo⟩
theorem EW.write (h : EW w m u base g5 g6 g b zs W) (hw : Wr W' base g b' zs') (hl : b' = b ∨ ∃ k, b' = some k ∧ W.heap.size ≤ k) (hk : Kept (Foot g b) W W') : EW w m u base g5 g6 g b' zs' W' := by
  have hnew : ∀ k, k < W.heap.size → ¬ Foot g b k → ¬ Foot g b' k := fun k hk0 hn hf => by
    rcases hl with rfl | ⟨k', rfl, hk'⟩
    · exact hn hf
    · rcases hf with e | e
      · exact hn (.inl e)
      · have : k' = k := Option.some.inj e
        omega
  have hlo := h.lo
  exact ⟨hw, (hk.block _ (lt_of_block h.box) h.n0).trans h.box, (hk.block _ (lt_of_block h.h5) h.n5).trans h.h5, (hk.block _ (lt_of_block h.h6) h.n6).trans h.h6, hnew _ (lt_of_block h.box) h.n0, hnew _ (lt_of_block h.h5) h.n5, hnew _ (lt_of_block h.h6) h.n6,
    h.bl.trans (hk.below h.bl.size (fun k hf => by have := (h.wr.foot k hf).1; omega)), h.lo⟩
end
end Go.Proofs.YtapbcpilklhoiabDoor

namespace Go.Proofs.YtapbcpilklhoiabDoor
open Go.RowKit

/-- A vote without its memory. -/
structure Votel where
  sl : Int
  br : Int
  bn : Int
  k : Int
  cs : List Cmdv
  ns : List Int
/-- A message without its memory. -/
structure Msgl where
  kd : Int
  fr : Int
  tt : Int
  ep : Int
  br : Int
  bn : Int
  sl : Int
  lw : Int
  tm : Int
  k : Int
  cs : List Cmdv
  ns : List Int
  vs : List Votel
  cm : Cmdv
  rk : Int
  rr : Int
  ri : Int
  ds : List UInt8
def Votev.lg (v : Votev) : Votel := ⟨v.sl, v.br, v.bn, v.v.k, v.v.cs, v.v.ns⟩
def Msgv.lg (m : Msgv) : Msgl := ⟨m.kd, m.fr, m.tt, m.ep, m.br, m.bn, m.sl, m.lw, m.tm, m.v.k, m.v.cs, m.v.ns, m.vs.map Votev.lg, m.cm, m.rk, m.rr, m.ri, m.ds⟩

/-- Whether a kind's bits have this one. -/
def ut (u f : Int) : Bool := bits .and .i64 u f != 0
theorem putL_ut (u f : Int) (xs : List Int) : putL u f xs = if ut u f = true then encNs xs else [] := by
  unfold putL ut
  by_cases h : (bits .and .i64 u f == 0) = true
  · rw [if_pos h, if_neg (by rw [bne, h]; simp)]
  · rw [if_neg h, if_pos (by rw [bne, Bool.eq_false_iff.2 h]; rfl)]

def encVt (u : Int) (v : Votel) : List UInt8 := putL u 128 [v.sl, v.br, v.bn] ++ encV v.k v.cs v.ns
def encVts (u : Int) (vs : List Votel) : List UInt8 := vs.flatMap (encVt u)
theorem encVts_take (u : Int) (vs : List Votel) (k : Nat) (hk : k < vs.length) : encVts u (vs.take (k + 1)) = encVts u (vs.take k) ++ encVt u vs[k] := by
  unfold encVts
  rw [List.take_succ_eq_append_getElem hk, List.flatMap_append, List.flatMap_singleton]
def optB (t : Bool) (xs : List UInt8) : List UInt8 := if t = true then xs else []
/-- The bytes of a message. -/
def encM (x : Msgl) (u : Int) : List UInt8 := putL u 1 [x.kd, x.fr, x.tt, x.ep] ++ putL u 2 [x.br, x.bn] ++ putL u 4 [x.sl] ++ putL u 16 [x.lw] ++ putL u 32 [x.tm] ++ optB (ut u 64) (encV x.k x.cs x.ns) ++ putL u 128 [(x.vs.length : Int)] ++ encVts u x.vs ++ optB (ut u 256) (encL x.cm.ints) ++ optB (ut u 512) (encL [x.rk, x.rr, x.ri]) ++ optB (ut u 1024) (enc x.ds.length ++ x.ds)

def P50 : Int := 1125899906842624
/-- A plain number that is there, or not. -/
def oN (t : Bool) (s : RSt) : Int × RSt := if t = true then (((rc P50 s).1 : Int), (rc P50 s).2) else (0, s)
def oV (t : Bool) (s : RSt) : RdV := if t = true then rdV s else ⟨0, [], [], s⟩
def rdVt (s : RSt) : Votel × RSt :=
  let a := rc P50 s
  let b := rc P50 a.2
  let c := rc P50 b.2
  let v := rdV c.2
  (⟨a.1, b.1, c.1, v.k, v.cs, v.ns⟩, v.s)
def rdVts : Nat → RSt → List Votel × RSt
  | 0, s => ([], s)
  | m + 1, s => (((rdVts m s).1 ++ [(rdVt (rdVts m s).2).1]), (rdVt (rdVts m s).2).2)
theorem rdVts_len (m : Nat) (s : RSt) : (rdVts m s).1.length = m := by
  induction m with
  | zero => rfl
  | succ m ih => simp [rdVts, ih]
def oVts (t : Bool) (s : RSt) : List Votel × RSt := if t = true then rdVts (rc 64 s).1 (rc 64 s).2 else ([], s)
def oC (t : Bool) (s : RSt) : Cmdv × RSt := if t = true then tk s else (zeroC, s)
structure RdR where
  k : Int
  r : Int
  i : Int
  s : RSt
def rdR (s : RSt) : RdR := ⟨(ri s).1, (ri (ri s).2).1, (ri (ri (ri s).2).2).1, (ri (ri (ri s).2).2).2⟩
def oR (t : Bool) (s : RSt) : RdR := if t = true then rdR s else ⟨0, 0, 0, s⟩
def rt (most : Int) (s : RSt) : List UInt8 × RSt :=
  if (rc most s).2.2 ≠ 0 then ([], (rc most s).2) else if (rc most s).2.1.length < (rc most s).1 then ([], ([], 10)) else ((rc most s).2.1.take (rc most s).1, ((rc most s).2.1.drop (rc most s).1, 0))
def oD (t : Bool) (s : RSt) : List UInt8 × RSt := if t = true then rt 1024 s else ([], s)

theorem optB_t (xs : List UInt8) : optB true xs = xs := if_pos rfl
theorem optB_f (xs : List UInt8) : optB false xs = [] := if_neg (by simp)
theorem oD_t (s : RSt) : oD true s = rt 1024 s := if_pos rfl
theorem oC_t (s : RSt) : oC true s = tk s := if_pos rfl
theorem oV_t (s : RSt) : oV true s = rdV s := if_pos rfl
theorem oVts_t (s : RSt) : oVts true s = rdVts (rc 64 s).1 (rc 64 s).2 := if_pos rfl
theorem oR_t (s : RSt) : oR true s = rdR s := if_pos rfl
theorem oD_n (s : RSt) : oD false s = ([], s) := if_neg (by simp)
theorem oC_n (s : RSt) : oC false s = (zeroC, s) := if_neg (by simp)
theorem oV_n (s : RSt) : oV false s = ⟨0, [], [], s⟩ := if_neg (by simp)
theorem oVts_n (s : RSt) : oVts false s = ([], s) := if_neg (by simp)
theorem oR_n (s : RSt) : oR false s = ⟨0, 0, 0, s⟩ := if_neg (by simp)

/-- A message and what is left. -/
structure RdM where
  x : Msgl
  s : RSt
/-- What a kind uses behind the head is read. -/
def rdRest (kd fr tt ep u : Int) (s : RSt) : RdM :=
  let a := oN (ut u 2) s
  let b := oN (ut u 2) a.2
  let c := oN (ut u 4) b.2
  let d := oN (ut u 16) c.2
  let e := oN (ut u 32) d.2
  let v := oV (ut u 64) e.2
  let o := oVts (ut u 128) v.s
  let m := oC (ut u 256) o.2
  let r := oR (ut u 512) m.2
  let y := oD (ut u 1024) r.s
  ⟨⟨kd, fr, tt, ep, a.1, b.1, c.1, d.1, e.1, v.k, v.cs, v.ns, o.1, m.1, r.k, r.r, r.i, y.1⟩, y.2⟩
/-- The four numbers of the head. -/
structure RdH where
  kd : Nat
  fr : Nat
  tt : Nat
  ep : Nat
  s : RSt
def rdH (s : RSt) : RdH :=
  let a := rc P50 s
  let b := rc P50 a.2
  let c := rc P50 b.2
  let d := rc P50 c.2
  ⟨a.1, b.1, c.1, d.1, d.2⟩

/-- A right vote. -/
structure FineVt (v : Votel) : Prop where
  sl : 0 ≤ v.sl ∧ v.sl ≤ 1099511627776
  bl : 1 ≤ v.br ∧ v.br ≤ 1099511627776 ∧ 1 ≤ v.bn ∧ v.bn ≤ 9
  v : FineV v.k v.cs v.ns
/-- A right message. -/
structure FineM (x : Msgl) (u : Int) : Prop where
  u1 : ut u 1 = true
  kd : 0 ≤ x.kd ∧ x.kd ≤ 14
  fr : 0 ≤ x.fr ∧ x.fr ≤ 9
  tt : 0 ≤ x.tt ∧ x.tt ≤ 9
  ep : 0 ≤ x.ep ∧ x.ep ≤ 1099511627776
  bl : ut u 2 = true → 1 ≤ x.br ∧ x.br ≤ 1099511627776 ∧ 1 ≤ x.bn ∧ x.bn ≤ 9
  b0 : ut u 2 = false → x.br = 0 ∧ x.bn = 0
  sl : 0 ≤ x.sl ∧ x.sl ≤ 1099511627776
  s0 : ut u 4 = false → x.sl = 0
  lw : 0 ≤ x.lw ∧ x.lw ≤ 1099511627776
  l0 : ut u 16 = false → x.lw = 0
  tm : 0 ≤ x.tm ∧ x.tm ≤ 1099511627776
  t0 : ut u 32 = false → x.tm = 0
  v : FineV x.k x.cs x.ns
  v0 : ut u 64 = false → x.k = 0 ∧ x.cs = [] ∧ x.ns = []
  vl : x.vs.length ≤ 64
  vt : ∀ v ∈ x.vs, FineVt v
  o0 : ut u 128 = false → x.vs = []
  cm : IsCmd x.cm
  c0 : ut u 256 = false → x.cm = zeroC
  r1 : IsInt x.rk
  r2 : IsInt x.rr
  r3 : IsInt x.ri
  r0 : ut u 512 = false → x.rk = 0 ∧ x.rr = 0 ∧ x.ri = 0
  dl : x.ds.length ≤ 1024
  d0 : ut u 1024 = false → x.ds = []

theorem unb_of {n : Int} (h : 0 ≤ n ∧ n ≤ 1125899906842624) : unb n = n.toNat := by unfold unb; omega
theorem rcP_enc {n : Int} (h : 0 ≤ n ∧ n ≤ 1125899906842624) (r : List UInt8) : rc P50 (enc (unb n) ++ r, 0) = (n.toNat, (r, 0)) := by
  rw [unb_of h]
  exact rc_enc (by unfold P50; omega) (by unfold P50; omega) r
theorem oN_enc {t : Bool} {n : Int} (h : 0 ≤ n ∧ n ≤ 1125899906842624) (h0 : t = false → n = 0) (r : List UInt8) : oN t (optB t (enc (unb n)) ++ r, 0) = (n, (r, 0)) := by
  cases t with
  | true =>
    have e := rcP_enc h r
    show (((rc P50 (enc (unb n) ++ r, 0)).1 : Int), (rc P50 (enc (unb n) ++ r, 0)).2) = (n, (r, 0))
    rw [e]
    show ((n.toNat : Int), ((r, 0) : RSt)) = (n, (r, 0))
    rw [Int.toNat_of_nonneg h.1]
  | false =>
    rw [h0 rfl]
    rfl
theorem rdVt_enc {u : Int} {v : Votel} (h : FineVt v) (hu : ut u 128 = true) (r : List UInt8) : rdVt (encVt u v ++ r, 0) = (v, (r, 0)) := by
  have e : encVt u v ++ r = enc (unb v.sl) ++ (enc (unb v.br) ++ (enc (unb v.bn) ++ (encV v.k v.cs v.ns ++ r))) := by
    unfold encVt
    rw [putL_ut, if_pos hu]
    simp [encNs]
  have h1 := rcP_enc (n := v.sl) (by have := h.sl; omega) (enc (unb v.br) ++ (enc (unb v.bn) ++ (encV v.k v.cs v.ns ++ r)))
  have h2 := rcP_enc (n := v.br) (by have := h.bl; omega) (enc (unb v.bn) ++ (encV v.k v.cs v.ns ++ r))
  have h3 := rcP_enc (n := v.bn) (by have := h.bl; omega) (encV v.k v.cs v.ns ++ r)
  have h4 := h.v.read r
  rw [e]
  unfold rdVt
  simp only [h1, h2, h3, h4]
  have k0 := h.v.k0
  have b0 := h.bl
  rw [Int.toNat_of_nonneg h.sl.1, Int.toNat_of_nonneg (by omega), Int.toNat_of_nonneg (by omega), Int.toNat_of_nonneg k0.1]
theorem rdVts_enc {u : Int} (vs : List Votel) (h : ∀ v ∈ vs, FineVt v) (hu : ut u 128 = true) (r : List UInt8) : ∀ k, k ≤ vs.length → rdVts k (encVts u vs ++ r, 0) = (vs.take k, (encVts u (vs.drop k) ++ r, 0)) := by
  intro k
  induction k with
  | zero => intro _; rfl
  | succ k ih =>
    intro hk
    have e : encVts u (vs.drop k) ++ r = encVt u vs[k] ++ (encVts u (vs.drop (k + 1)) ++ r) := by
      rw [List.drop_eq_getElem_cons (by omega), show encVts u (vs[k] :: vs.drop (k + 1)) = encVt u vs[k] ++ encVts u (vs.drop (k + 1)) from rfl, List.append_assoc]
    have ht := rdVt_enc (h vs[k] (List.getElem_mem (by omega))) hu (encVts u (vs.drop (k + 1)) ++ r)
    simp only [rdVts, ih (by omega), e, ht]
    rw [List.take_succ_eq_append_getElem (by omega)]
theorem rt_enc {ds : List UInt8} (h : ds.length ≤ 1024) (r : List UInt8) : rt 1024 (enc ds.length ++ ds ++ r, 0) = (ds, (r, 0)) := by
  have e := rc_enc (u := ds.length) (most := 1024) (by omega) (by omega) (ds ++ r)
  unfold rt
  rw [List.append_assoc, e]
  simp

theorem oV_enc {x : Msgl} {u : Int} (h : FineM x u) (rV : List UInt8) : oV (ut u 64) (optB (ut u 64) (encV x.k x.cs x.ns) ++ rV, 0) = ⟨x.k.toNat, x.cs, x.ns, (rV, 0)⟩ := by
  cases e : ut u 64 with
  | true => rw [oV_t, optB_t]; exact h.v.read rV
  | false =>
    obtain ⟨a, b, c⟩ := h.v0 e
    rw [a, b, c, oV_n, optB_f]
    rfl
theorem oVts_enc {x : Msgl} {u : Int} (h : FineM x u) (rC : List UInt8) : oVts (ut u 128) (optB (ut u 128) (enc (unb (x.vs.length : Int))) ++ (encVts u x.vs ++ rC), 0) = (x.vs, (rC, 0)) := by
  cases e : ut u 128 with
  | true =>
    have hl := h.vl
    have eu : unb (x.vs.length : Int) = x.vs.length := by unfold unb; omega
    have r1 := rc_enc (u := x.vs.length) (most := 64) (by omega) (by omega) (encVts u x.vs ++ rC)
    have r2 := rdVts_enc x.vs h.vt e rC x.vs.length (Nat.le_refl _)
    rw [eu, oVts_t, optB_t, r1]
    simp only
    rw [r2, List.take_length, List.drop_length]
    rfl
  | false =>
    rw [h.o0 e, oVts_n, optB_f]
    rfl
theorem oC_enc {x : Msgl} {u : Int} (h : FineM x u) (rR : List UInt8) : oC (ut u 256) (optB (ut u 256) (encL x.cm.ints) ++ rR, 0) = (x.cm, (rR, 0)) := by
  cases e : ut u 256 with
  | true => rw [oC_t, optB_t]; exact tk_enc h.cm rR
  | false => rw [h.c0 e, oC_n, optB_f, List.nil_append]
theorem oR_enc {x : Msgl} {u : Int} (h : FineM x u) (rD : List UInt8) : oR (ut u 512) (optB (ut u 512) (encL [x.rk, x.rr, x.ri]) ++ rD, 0) = ⟨x.rk, x.rr, x.ri, (rD, 0)⟩ := by
  cases e : ut u 512 with
  | true =>
    have e0 : optB true (encL [x.rk, x.rr, x.ri]) ++ rD = enc (zig x.rk) ++ (enc (zig x.rr) ++ (enc (zig x.ri) ++ rD)) := by rw [optB_t]; simp [encL]
    rw [e0, oR_t]
    unfold rdR
    simp only [ri_enc h.r1, ri_enc h.r2, ri_enc h.r3]
  | false =>
    obtain ⟨a, b, c⟩ := h.r0 e
    rw [a, b, c, oR_n, optB_f, List.nil_append]
theorem oD_enc {x : Msgl} {u : Int} (h : FineM x u) : oD (ut u 1024) (optB (ut u 1024) (enc x.ds.length ++ x.ds), 0) = (x.ds, ([], 0)) := by
  cases e : ut u 1024 with
  | true =>
    have := rt_enc h.dl []
    rw [List.append_nil] at this
    rw [oD_t, optB_t]
    exact this
  | false => rw [h.d0 e, oD_n, optB_f]
theorem put2_opt (u a b : Int) : putL u 2 [a, b] = optB (ut u 2) (enc (unb a)) ++ optB (ut u 2) (enc (unb b)) := by
  rw [putL_ut]
  cases ut u 2 with
  | true => rw [if_pos rfl, optB_t, optB_t]; simp [encNs]
  | false => rw [if_neg (by simp), optB_f, optB_f]; rfl
theorem put1_opt (u f n : Int) : putL u f [n] = optB (ut u f) (enc (unb n)) := by
  rw [putL_ut]
  cases ut u f with
  | true => rw [if_pos rfl, optB_t]; simp [encNs]
  | false => rw [if_neg (by simp), optB_f]
/-- A right message is read from its bytes. -/
theorem rdRest_enc {x : Msgl} {u : Int} (h : FineM x u) : rdRest x.kd x.fr x.tt x.ep u (putL u 2 [x.br, x.bn] ++ (putL u 4 [x.sl] ++ (putL u 16 [x.lw] ++ (putL u 32 [x.tm] ++ (optB (ut u 64) (encV x.k x.cs x.ns) ++ (putL u 128 [(x.vs.length : Int)] ++ (encVts u x.vs ++ (optB (ut u 256) (encL x.cm.ints) ++ (optB (ut u 512) (encL [x.rk, x.rr, x.ri]) ++ (optB (ut u 1024) (enc x.ds.length ++ x.ds)))))))))), 0) = ⟨x, ([], 0)⟩ := by
  have hb2 : (0 ≤ x.br ∧ x.br ≤ 1125899906842624) ∧ (0 ≤ x.bn ∧ x.bn ≤ 1125899906842624) := by
    cases e : ut u 2 with
    | true => have := h.bl e; omega
    | false => have := h.b0 e; omega
  have hs := h.sl
  have hl := h.lw
  have ht := h.tm
  rw [put2_opt, put1_opt, put1_opt, put1_opt, put1_opt, List.append_assoc]
  have e10 := oD_enc h
  generalize optB (ut u 1024) (enc x.ds.length ++ x.ds) = rD at *
  have e9 := oR_enc h rD
  generalize optB (ut u 512) (encL [x.rk, x.rr, x.ri]) ++ rD = rR at *
  have e8 := oC_enc h rR
  generalize optB (ut u 256) (encL x.cm.ints) ++ rR = rC at *
  have e7 := oVts_enc h rC
  generalize optB (ut u 128) (enc (unb (x.vs.length : Int))) ++ (encVts u x.vs ++ rC) = rV at *
  have e6 := oV_enc h rV
  generalize optB (ut u 64) (encV x.k x.cs x.ns) ++ rV = rY at *
  have e5 := oN_enc (t := ut u 32) (n := x.tm) (by omega) h.t0 rY
  generalize optB (ut u 32) (enc (unb x.tm)) ++ rY = r5 at *
  have e4 := oN_enc (t := ut u 16) (n := x.lw) (by omega) h.l0 r5
  generalize optB (ut u 16) (enc (unb x.lw)) ++ r5 = r4 at *
  have e3 := oN_enc (t := ut u 4) (n := x.sl) (by omega) h.s0 r4
  generalize optB (ut u 4) (enc (unb x.sl)) ++ r4 = r3 at *
  have e2 := oN_enc (t := ut u 2) hb2.2 (fun e => (h.b0 e).2) r3
  generalize optB (ut u 2) (enc (unb x.bn)) ++ r3 = r2 at *
  have e1 := oN_enc (t := ut u 2) hb2.1 (fun e => (h.b0 e).1) r2
  generalize optB (ut u 2) (enc (unb x.br)) ++ r2 = r1 at *
  have k0 := Int.toNat_of_nonneg h.v.k0.1
  unfold rdRest
  simp only [e1, e2, e3, e4, e5, e6, e7, e8, e9, e10, k0]
theorem rdH_enc {x : Msgl} {u : Int} (h : FineM x u) (r : List UInt8) : rdH (putL u 1 [x.kd, x.fr, x.tt, x.ep] ++ r, 0) = ⟨x.kd.toNat, x.fr.toNat, x.tt.toNat, x.ep.toNat, (r, 0)⟩ := by
  have e : putL u 1 [x.kd, x.fr, x.tt, x.ep] ++ r = enc (unb x.kd) ++ (enc (unb x.fr) ++ (enc (unb x.tt) ++ (enc (unb x.ep) ++ r))) := by
    rw [putL_ut, if_pos h.u1]
    simp [encNs]
  have h1 := rcP_enc (n := x.kd) (by have := h.kd; omega) (enc (unb x.fr) ++ (enc (unb x.tt) ++ (enc (unb x.ep) ++ r)))
  have h2 := rcP_enc (n := x.fr) (by have := h.fr; omega) (enc (unb x.tt) ++ (enc (unb x.ep) ++ r))
  have h3 := rcP_enc (n := x.tt) (by have := h.tt; omega) (enc (unb x.ep) ++ r)
  have h4 := rcP_enc (n := x.ep) (by have := h.ep; omega) r
  rw [e]
  unfold rdH
  simp only [h1, h2, h3, h4]
end Go.Proofs.YtapbcpilklhoiabDoor

namespace Go.Proofs.YtapbcpilklhoiabDoor
open Go.RowKit

theorem results_bal {tmps : Array Value} {w : World} {g : Nat} {A : Array Value} {t : TypeId} (h2 : tmps.getD 2 undef = .pointer (some ⟨g, 0, none⟩)) (hA : w.heap[g]? = some (.cells A t (0, 0))) (sA : A.size = 2) :
    (results Tryd.f80 tmps).run Tryd.prog w = .ok (.agg A) w := by
  have h2' : tmps[2]?.getD undef = .pointer (some ⟨g, 0, none⟩) := by simpa using h2
  have i1 : (Tryd.prog.info? 23).map (·.size) = some A.size := by rw [sA]; kernel_rfl
  have e1 := run_loadVar_row (P := Tryd.prog) w g t 23 A (0, 0) _ hA Tryd.underlying23 rfl i1
  simp [results, Tryd.results80, h2', asAddr, e1]
theorem isIntP : IsInt P50 := by unfold IsInt P50; omega

theorem readbal_any (g : Nat) (b : Option Nat) (s : RSt) (w : World) (h : Rd w g b s.1 s.2) (hf : ∀ k, b = some k → k < w.heap.size) : Calls Tryd.prog 80 #[.pointer (some ⟨g, 0, none⟩)] w fun e w' => e = .returned (.agg #[.int .i64 ((rc P50 s).1 : Int), .int .i64 ((rc P50 (rc P50 s).2).1 : Int)]) ∧ ∃ b', RGo g b w (rc P50 (rc P50 s).2).2 b' w' := by
  have h0 := RGo.start h
  have hg0 := h0.lt
  go_enter Tryd.func80, Tryd.ntmps80
  go_wp2_with fail
  have hr1 := heap_alloc_new w (.cells #[.int .i64 0, .int .i64 0] 23)
  have hb1 : Below w.heap.size w (w.alloc (.cells #[.int .i64 0, .int .i64 0] 23)) := (Below.refl _ _).alloc (Nat.le_refl _) _
  have h01 := RGo.start (h0.alloc (.cells #[.int .i64 0, .int .i64 0] 23)).rd
  have hs1 : (w.alloc (.cells #[.int .i64 0, .int .i64 0] 23)).heap.size = w.heap.size + 1 := by simp
  generalize w.alloc (.cells #[.int .i64 0, .int .i64 0] 23) = W1 at *
  refine (RGo.count h01 P50 isIntP).mono ?_
  rintro e w1 ⟨rfl, b1, h1⟩
  go_wp2_with fail
  refine (RGo.count h1 P50 isIntP).mono ?_
  rintro e w2 ⟨rfl, b2, h2⟩
  have hr2 := (h2.kept.block w.heap.size (by omega) (by omega)).trans hr1
  have hz2 := h2.kept.size
  generalize hy : (rc P50 (rc P50 s).2).1 = y at *
  generalize hx : (rc P50 s).1 = x at *
  have HXY := hide (And.intro hx hy)
  clear hx hy
  have hk3 := Kept.of_setRow w2 w.heap.size #[.int .i64 (x : Int), .int .i64 (y : Int)]
  have hr3 := set_row_at (B := #[.int .i64 (x : Int), .int .i64 (y : Int)]) hr2
  have hft : ∀ k, Foot g b2 k → k < w.heap.size := by
    intro k hk
    rcases hk with rfl | hk
    · exact hg0
    · rcases h2.lie with e | e
      · exact hf k (by rw [← e]; exact hk)
      · rw [e] at hk; cases hk
  go_wp2_with (refine wpList_store_row rfl 23 _ _ rfl w.heap.size #[.int .i64 (x : Int), .int .i64 (y : Int)] rfl rfl _ _ hr2 (by kernel_rfl) rfl (by simp; exact ⟨rfl, rfl⟩) ?_; generalize w2.setRow w.heap.size #[.int .i64 (x : Int), .int .i64 (y : Int)] = w3 at *)
  refine bodyPost_ret (v := .agg #[.int .i64 (x : Int), .int .i64 (y : Int)]) (results_bal rfl hr3 rfl) rfl ⟨by rw [HXY.out.1, HXY.out.2], b2, ?_⟩
  exact ⟨h2.rd.kept hk3 (fun k hk h => by have := hft k hk; omega), h2.lie, ((Kept.of_below hb1).step h2.kept (fun k hk => .inl hk)).step hk3 (fun k hk => .inr (by omega))⟩

/-- A value's blocks. -/
def ReachV (v : Valv) (k : Nat) : Prop := (∃ o, v.A = some ⟨k, o, none⟩) ∨ (∃ o, v.D = some ⟨k, o, none⟩)
theorem IsV.keepR {w w' : World} {B : Nat} {v : Valv} (h : IsV w B v.A v.n v.D v.m v.cs v.ns) (hk : ∀ k, ReachV v k → k < B → w'.heap[k]? = w.heap[k]?) : IsV w' B v.A v.n v.D v.m v.cs v.ns :=
  ⟨h.c.keep fun b o e hb => hk b (.inl ⟨o, e⟩) hb, h.i.keepA fun b o e hb => hk b (.inr ⟨o, e⟩) hb, h.en, h.em, h.ln, h.lm, h.cc⟩
theorem own_block {A : Option Addr} {n c k o : Nat} (h : A = some ⟨k, o, none⟩) : (Value.slice A n c).ownBlock = some k := by subst h; rfl

/-- A block of cells none of which is frozen. -/
def Free (W : World) (k : Nat) : Prop := ∃ cur t, W.heap[k]? = some (.cells cur t (0, 0))
theorem Free.lt {W : World} {k : Nat} (h : Free W k) : k < W.heap.size := by
  obtain ⟨cur, t, e⟩ := h
  exact lt_of_block e
theorem Free.keep {W W' : World} {k : Nat} (h : Free W k) (e : W'.heap[k]? = W.heap[k]?) : Free W' k := by
  obtain ⟨cur, t, e'⟩ := h
  exact ⟨cur, t, e.trans e'⟩
theorem free_own {w : World} {base t s n : Nat} {v : Value} {xs : List Value} (h : w.ownsRow base t s v n xs) (k : Nat) (e : v.ownBlock = some k) : Free w k := by
  rcases h.2 with ⟨hv, _⟩ | ⟨g, cap, cur, hv, _, hh, _⟩
  · rw [hv] at e; cases e
  · rw [hv] at e
    have e' : g = k := Option.some.inj e
    subst e'
    exact ⟨cur, t, hh⟩

/-- What is read, as values of the votes. -/
structure VtGo (w : World) (base : Nat) (v : Value) (xs : List Votel) (vs : List Votev) (W : World) : Prop where
  eq : vs.map Votev.lg = xs
  ow : OwnVt W base v vs
  iv : ∀ x ∈ vs, IsV W W.heap.size x.v.A x.v.n x.v.D x.v.m x.v.cs x.v.ns
  re : ∀ x ∈ vs, ∀ k, ReachV x.v k → base ≤ k ∧ k < W.heap.size ∧ v.ownBlock ≠ some k ∧ Free W k
theorem VtGo.kept {w W W' : World} {base : Nat} {v : Value} {xs : List Votel} {vs : List Votev} (h : VtGo w base v xs vs W) {F : Nat → Prop} (hk : Kept F W W') (hF : ∀ k, F k → k < base) : VtGo w base v xs vs W' :=
  ⟨h.eq, h.ow.keep fun k e => hk.block k (h.ow.lt k e).2 (fun hf => by have := (h.ow.lt k e).1; have := hF k hf; omega),
    fun x hx => ((h.iv x hx).keepR (v := x.v) fun k hr hlt => hk.block k hlt (fun hf => by have := (h.re x hx k hr).1; have := hF k hf; omega)).more hk.size,
    fun x hx k hr => ⟨(h.re x hx k hr).1, Nat.lt_of_lt_of_le (h.re x hx k hr).2.1 hk.size, (h.re x hx k hr).2.2.1, (h.re x hx k hr).2.2.2.keep (hk.block k (h.re x hx k hr).2.1 (fun hf => by have := (h.re x hx k hr).1; have := hF k hf; omega))⟩⟩
/-- A vote more. -/
theorem VtGo.more {w W W' : World} {base : Nat} {v v' : Value} {xs : List Votel} {vs : List Votev} (h : VtGo w base v xs vs W) (y : Votev) (hy : IsV W W.heap.size y.v.A y.v.n y.v.D y.v.m y.v.cs y.v.ns) (hr : ∀ k, ReachV y.v k → base ≤ k ∧ k < W.heap.size ∧ v.ownBlock ≠ some k ∧ Free W k)
    (ho : OwnVt W' base v' (vs ++ [y])) (hg : W.grownBy W' v.ownBlock) (hat : v'.ownBlock = v.ownBlock ∨ v'.ownBlock = some W.heap.size) : VtGo w base v' (xs ++ [y.lg]) (vs ++ [y]) W' := by
  have hk : Kept (fun k => v.ownBlock = some k) W W' := Kept.of_grown (F := fun k => v.ownBlock = some k) hg (fun k hk => hk)
  have hall : ∀ x ∈ vs ++ [y], IsV W W.heap.size x.v.A x.v.n x.v.D x.v.m x.v.cs x.v.ns ∧ ∀ k, ReachV x.v k → base ≤ k ∧ k < W.heap.size ∧ v.ownBlock ≠ some k ∧ Free W k := fun x hx => by
    rcases List.mem_append.1 hx with h1 | h1
    · exact ⟨h.iv x h1, h.re x h1⟩
    · rw [List.mem_singleton.1 h1]; exact ⟨hy, hr⟩
  refine ⟨by rw [List.map_append, h.eq]; rfl, ho, fun x hx => ((hall x hx).1.keepR (v := x.v) fun k hr hlt => hk.block k hlt ((hall x hx).2 k hr).2.2.1).more hk.size, fun x hx k hr => ?_⟩
  obtain ⟨h1, h2, h3, h4⟩ := (hall x hx).2 k hr
  refine ⟨h1, Nat.lt_of_lt_of_le h2 hk.size, ?_, h4.keep (hk.block k h2 h3)⟩
  rcases hat with e | e
  · rw [e]; exact h3
  · rw [e]
    intro e'
    have := Option.some.inj e'
    omega

set_option maxRecDepth 20000 in
set_option maxHeartbeats 3200000 in
theorem readvotes_any (g : Nat) (b : Option Nat) (s : RSt) (w : World) (h : Rd w g b s.1 s.2) (hf : ∀ k, b = some k → k < w.heap.size) :
    Calls Tryd.prog 82 #[.pointer (some ⟨g, 0, none⟩)] w fun e w' => ∃ A n c vs, e = .returned (.slice A n c) ∧ VtGo w w.heap.size (.slice A n c) (rdVts (rc 64 s).1 (rc 64 s).2).1 vs w' ∧ ∃ b', RGo g b w (rdVts (rc 64 s).1 (rc 64 s).2).2 b' w' := by
  have h0 := RGo.start h
  have hg0 := h0.lt
  have hM := rc_le (s := s) (most := 64) (by omega)
  have hf0 : ∀ b', (b' = b ∨ b' = none) → ∀ k, Foot g b' k → k < w.heap.size := fun b' hl k hk => by
    rcases hk with rfl | hk
    · exact hg0
    · rcases hl with e | e
      · exact hf k (by rw [← e]; exact hk)
      · rw [e] at hk; cases hk
  have HF := hide hf0
  clear hf0 hf
  go_enter Tryd.func82, Tryd.ntmps82
  go_wp2_with fail
  refine (RGo.count h0 64 (isInt_lit (by omega))).mono ?_
  rintro e w1 ⟨rfl, b1, h1⟩
  generalize hm1 : (rc 64 s).1 = M at *
  generalize hs1 : (rc 64 s).2 = s1 at *
  have HMS := hide (And.intro hm1 hs1)
  clear hm1 hs1
  have hM' : M ≤ 64 := by omega
  clear hM h0 h
  go_wp2_with fail
  go_loopw [3, 6] (fun x i wr => ∃ (j : Nat) (b' : Option Nat) (A : Option Addr) (n c : Nat) (vs : List Votev), j ≤ M ∧ i = .int .i64 j ∧ x = .slice A n c ∧ RGo g b w (rdVts j s1).2 b' wr ∧ VtGo w w.heap.size (.slice A n c) (rdVts j s1).1 vs wr) (fun _ i _ => M - (intOf i).toNat)
  case atStart => exact ⟨0, b1, none, 0, 0, [], Nat.zero_le _, rfl, rfl, h1, ⟨rfl, OwnVt.nil _ _, by simp, by simp⟩⟩
  case round =>
    clear h1
    obtain ⟨j, b2, A, n, c, vs, hj, rfl, rfl, h2, hv⟩ := hrel
    by_cases hlt : j < M
    · have hst : rdVts (j + 1) s1 = ((rdVts j s1).1 ++ [(rdVt (rdVts j s1).2).1], (rdVt (rdVts j s1).2).2) := rfl
      have HST := hide hst
      have hlen := rdVts_len j s1
      clear hst
      generalize rdVts j s1 = q at *
      obtain ⟨xs, st⟩ := q
      simp only at h2 hv HST hlen
      have hvl : vs.length = j := by rw [← hlen, ← hv.eq, List.length_map]
      have hE : rdVt st = (⟨(rc P50 st).1, (rc P50 (rc P50 st).2).1, (rc P50 (rc P50 (rc P50 st).2).2).1, (rdV (rc P50 (rc P50 (rc P50 st).2).2).2).k, (rdV (rc P50 (rc P50 (rc P50 st).2).2).2).cs, (rdV (rc P50 (rc P50 (rc P50 st).2).2).2).ns⟩, (rdV (rc P50 (rc P50 (rc P50 st).2).2).2).s) := rfl
      have HE := hide hE
      clear hE
      have hfA := HF.out
      go_wp2_with fail
      refine (RGo.count (RGo.start h2.rd) P50 isIntP).mono ?_
      rintro e w3 ⟨rfl, b3, h3⟩
      have r3 := h2.step h3.rd h3.lie h3.kept
      have hv3 := hv.kept h3.kept (fun k hk => by omega)
      generalize (rc P50 st).1 = x1 at *
      generalize (rc P50 st).2 = t1 at *
      clear h3 hv
      go_wp2_with fail
      refine (readbal_any g b3 t1 w3 r3.rd (fun k hk => Nat.lt_of_lt_of_le (hfA b3 r3.lie k (.inr hk)) r3.kept.size)).mono ?_
      rintro e w4 ⟨rfl, b4, h4⟩
      have r4 := r3.step h4.rd h4.lie h4.kept
      have hv4 := hv3.kept h4.kept (fun k hk => by omega)
      generalize (rc P50 t1).1 = x2 at *
      generalize (rc P50 (rc P50 t1).2).1 = x3 at *
      generalize (rc P50 (rc P50 t1).2).2 = t3 at *
      clear h4 hv3 r3
      go_wp2_with fail
      obtain ⟨l8, l7, lc⟩ := rdV_lens t3
      refine (vread_any g b4 t3 w4 r4.rd (fun k hk => Nat.lt_of_lt_of_le (hfA b4 r4.lie k (.inr hk)) r4.kept.size)).mono ?_
      rintro e w5 ⟨A5, n5, c5, D5, m5, d5, rfl, hn5, hm5, hoc, hoi, b5, h5⟩
      have r5 := r4.step h5.rd h5.lie h5.kept
      have hv5 := hv4.kept h5.kept (fun k hk => by omega)
      generalize hq : rdV t3 = V at *
      clear hq
      obtain ⟨kd, cs, ns, t5⟩ := V
      simp only at hn5 hm5 hoc hoi r5 HE l8 l7 lc ⊢
      obtain ⟨_, _, _, e1, _, _, g1⟩ := hoc.form
      obtain ⟨_, _, _, e2, _, _, g2⟩ := hoi.form
      injection e1 with e11 e12 e13
      injection e2 with e21 e22 e23
      subst e11 e12 e13 e21 e22 e23
      have hz4 := r4.kept.size
      have ly : ∀ k, ReachV ⟨kd, A5, n5, c5, D5, m5, d5, cs, ns⟩ k → w4.heap.size ≤ k ∧ k < w5.heap.size ∧ Free w5 k := fun k hk => by
        rcases hk with ⟨o, e⟩ | ⟨o, e⟩
        · exact ⟨(hoc.lt k (own_block e)).1, (hoc.lt k (own_block e)).2, free_own hoc k (own_block e)⟩
        · exact ⟨(hoi.lt k (own_block e)).1, (hoi.lt k (own_block e)).2, free_own hoi k (own_block e)⟩
      have hb6 := (Below.refl _ w5).alloc (Nat.le_refl _) (.cells #[.int .i64 (x1 : Int), .int .i64 (x2 : Int), .int .i64 (x3 : Int), .int .i64 (kd : Int), .slice A5 n5 c5, .slice D5 m5 d5] 54)
      have hp6 := heap_alloc_new w5 (.cells #[.int .i64 (x1 : Int), .int .i64 (x2 : Int), .int .i64 (x3 : Int), .int .i64 (kd : Int), .slice A5 n5 c5, .slice D5 m5 d5] 54)
      have hv6 := hv5.kept (Kept.of_below (F := fun _ => False) hb6) (fun k hk => hk.elim)
      have r6 := r5.alloc (.cells #[.int .i64 (x1 : Int), .int .i64 (x2 : Int), .int .i64 (x3 : Int), .int .i64 (kd : Int), .slice A5 n5 c5, .slice D5 m5 d5] 54)
      have iv6 : IsV (w5.alloc (.cells #[.int .i64 (x1 : Int), .int .i64 (x2 : Int), .int .i64 (x3 : Int), .int .i64 (kd : Int), .slice A5 n5 c5, .slice D5 m5 d5] 54)) (w5.alloc (.cells #[.int .i64 (x1 : Int), .int .i64 (x2 : Int), .int .i64 (x3 : Int), .int .i64 (kd : Int), .slice A5 n5 c5, .slice D5 m5 d5] 54)).heap.size A5 n5 D5 m5 cs ns := IsV.last ⟨g1, g2, hn5.out, hm5.out, by have := hn5.out; omega, by have := hm5.out; omega, lc⟩ hb6
      have hz6 := hb6.size
      have hown4 : ∀ k, w4.heap.size ≤ k → (Value.slice A n c).ownBlock ≠ some k := fun k hk e => by have := (hv4.ow.lt k e).2; omega
      have HLY : Hid (∀ k, ReachV ⟨kd, A5, n5, c5, D5, m5, d5, cs, ns⟩ k → w.heap.size ≤ k ∧ k < (w5.alloc (.cells #[.int .i64 (x1 : Int), .int .i64 (x2 : Int), .int .i64 (x3 : Int), .int .i64 (kd : Int), .slice A5 n5 c5, .slice D5 m5 d5] 54)).heap.size ∧ (Value.slice A n c).ownBlock ≠ some k ∧ Free (w5.alloc (.cells #[.int .i64 (x1 : Int), .int .i64 (x2 : Int), .int .i64 (x3 : Int), .int .i64 (kd : Int), .slice A5 n5 c5, .slice D5 m5 d5] 54)) k) := hide (fun k hk => by
        have := ly k hk
        exact ⟨by omega, by omega, hown4 k this.1, this.2.2.keep (hb6.block k this.2.1)⟩)
      have HR6 := hide r6
      have HV6 := hide hv6
      have HI6 := hide iv6
      have HP6 := hide hp6
      have hz5 : w.heap.size ≤ (w5.alloc (.cells #[.int .i64 (x1 : Int), .int .i64 (x2 : Int), .int .i64 (x3 : Int), .int .i64 (kd : Int), .slice A5 n5 c5, .slice D5 m5 d5] 54)).heap.size := r6.kept.size
      have HZ5 := hide hz5
      clear hv4 hv5 hv6 r4 r5 r6 hoc hoi g1 g2 h5 hb6 hp6 iv6 ly hown4 hz6 hz5 hz4
      go_wp2_with (at_builtin; refine list_append_vote _ (by rfl) (.tmp 8) (.tmp 16) rfl w.heap.size (.slice A n c) vs rfl HV6.out.ow w5.heap.size 1 ⟨(x1 : Int), (x2 : Int), (x3 : Int), ⟨(kd : Int), A5, n5, c5, D5, m5, d5, cs, ns⟩⟩ rfl HP6.out (by omega) HZ5.out ?_; intro v7 w7 ho7 hgr7 hat7; have hv7 := HV6.out.more ⟨(x1 : Int), (x2 : Int), (x3 : Int), ⟨(kd : Int), A5, n5, c5, D5, m5, d5, cs, ns⟩⟩ HI6.out HLY.out ho7 hgr7 hat7; obtain ⟨A7, n7, c7, rfl, hn7, hnc7, hx7⟩ := hv7.ow.form hv7.iv)
      have hk7 := Kept.of_grown (F := fun k => (Value.slice A n c).ownBlock = some k) hgr7 (fun k hk => hk)
      refine ⟨⟨j + 1, b5, A7, n7, c7, vs ++ [⟨(x1 : Int), (x2 : Int), (x3 : Int), ⟨(kd : Int), A5, n5, c5, D5, m5, d5, cs, ns⟩⟩], by omega, by go_num, rfl, ?_, ?_⟩, by simp [intOf]; omega⟩
      · rw [HST.out, HE.out]
        exact ⟨HR6.out.rd.kept hk7 (fun k hk e => by have := hfA b5 HR6.out.lie k hk; have := (HV6.out.ow.lt k e).1; omega), HR6.out.lie, HR6.out.kept.step hk7 (fun k hk => .inr (HV6.out.ow.lt k hk).1)⟩
      · rw [HST.out, HE.out]
        exact hv7
    · obtain rfl : j = M := by omega
      go_wp2
      go_ret
      rw [← HMS.out.1, ← HMS.out.2] at hv h2
      exact ⟨A, n, c, vs, rfl, hv, b2, h2⟩
end Go.Proofs.YtapbcpilklhoiabDoor

namespace Go.Proofs.YtapbcpilklhoiabDoor
open Go.RowKit

theorem P50_le {s : RSt} : (rc P50 s).1 ≤ 1125899906842624 := by
  have := rc_le (s := s) (most := P50) (by unfold P50; omega)
  unfold P50 at *
  omega
theorem rcP_back {s t : RSt} {n : Nat} (h : rc P50 s = (n, t)) (ht : t.2 = 0) : s.2 = 0 ∧ s.1 = enc (unb (n : Int)) ++ t.1 := by
  have hle := P50_le (s := s)
  rw [h] at hle
  obtain ⟨a, b, _⟩ := rc_back h ht
  rw [unb_nat _ (by simp at hle; omega)]
  exact ⟨a, b⟩
theorem oN_back {t : Bool} {s : RSt} (h : (oN t s).2.2 = 0) : s.2 = 0 ∧ s.1 = optB t (enc (unb (oN t s).1)) ++ (oN t s).2.1 := by
  cases t with
  | true => exact rcP_back (s := s) (n := (rc P50 s).1) (t := (rc P50 s).2) rfl h
  | false => exact ⟨h, rfl⟩
theorem oV_back {t : Bool} {s : RSt} (h : (oV t s).s.2 = 0) : s.2 = 0 ∧ s.1 = optB t (encV (oV t s).k (oV t s).cs (oV t s).ns) ++ (oV t s).s.1 := by
  cases t with
  | true => rw [oV_t] at h ⊢; rw [optB_t]; exact rdV_back h
  | false => rw [oV_n] at h ⊢; rw [optB_f]; exact ⟨h, rfl⟩
theorem rdVt_back {u : Int} (hu : ut u 128 = true) {s : RSt} (h : (rdVt s).2.2 = 0) : s.2 = 0 ∧ s.1 = encVt u (rdVt s).1 ++ (rdVt s).2.1 := by
  unfold rdVt at *
  simp only at *
  generalize e1 : rc P50 s = q1 at *
  generalize e2 : rc P50 q1.2 = q2 at *
  generalize e3 : rc P50 q2.2 = q3 at *
  obtain ⟨a4, b4⟩ := rdV_back h
  obtain ⟨a3, b3⟩ := rcP_back (n := q3.1) (t := q3.2) e3 a4
  obtain ⟨a2, b2⟩ := rcP_back (n := q2.1) (t := q2.2) e2 a3
  obtain ⟨a1, b1⟩ := rcP_back (n := q1.1) (t := q1.2) e1 a2
  refine ⟨a1, ?_⟩
  unfold encVt
  rw [putL_ut, if_pos hu, b1, b2, b3, b4]
  simp [encNs]
theorem encVts_append (u : Int) (vs ws : List Votel) : encVts u (vs ++ ws) = encVts u vs ++ encVts u ws := List.flatMap_append
theorem rdVts_back {u : Int} (hu : ut u 128 = true) (s : RSt) : ∀ k, (rdVts k s).2.2 = 0 → s.2 = 0 ∧ s.1 = encVts u (rdVts k s).1 ++ (rdVts k s).2.1 := by
  intro k
  induction k with
  | zero => intro h; exact ⟨h, rfl⟩
  | succ k ih =>
    intro h
    have er : rdVts (k + 1) s = ((rdVts k s).1 ++ [(rdVt (rdVts k s).2).1], (rdVt (rdVts k s).2).2) := rfl
    rw [er] at h ⊢
    generalize rdVts k s = q at *
    obtain ⟨h1, h2⟩ := rdVt_back hu h
    obtain ⟨h3, h4⟩ := ih h1
    refine ⟨h3, ?_⟩
    rw [h4, h2, encVts_append, show encVts u [(rdVt q.2).1] = encVt u (rdVt q.2).1 by simp [encVts]]
    simp
theorem oVts_back {u : Int} {s : RSt} (h : (oVts (ut u 128) s).2.2 = 0) : s.2 = 0 ∧ s.1 = putL u 128 [((oVts (ut u 128) s).1.length : Int)] ++ (encVts u (oVts (ut u 128) s).1 ++ (oVts (ut u 128) s).2.1) := by
  rw [putL_ut]
  cases e : ut u 128 with
  | true =>
    rw [e] at h
    have eo := oVts_t s
    rw [eo] at h ⊢
    rw [rdVts_len]
    obtain ⟨h1, h2⟩ := rdVts_back e _ _ h
    generalize e1 : rc 64 s = q at *
    obtain ⟨a, b, c⟩ := rc_back (u := q.1) (t := q.2) e1 h1
    refine ⟨a, ?_⟩
    rw [b, h2]
    have : unb (q.1 : Int) = q.1 := unb_nat _ (by omega)
    simp [encNs, this]
  | false =>
    rw [e] at h
    exact ⟨h, rfl⟩
theorem oC_back {t : Bool} {s : RSt} (h : (oC t s).2.2 = 0) : s.2 = 0 ∧ s.1 = optB t (encL (oC t s).1.ints) ++ (oC t s).2.1 := by
  cases t with
  | true =>
    rw [oC_t] at h ⊢
    rw [optB_t]
    generalize hq : tk s = q at *
    obtain ⟨c, t⟩ := q
    exact tk_back hq h
  | false => rw [oC_n] at h ⊢; rw [optB_f]; exact ⟨h, rfl⟩
theorem oR_back {t : Bool} {s : RSt} (h : (oR t s).s.2 = 0) : s.2 = 0 ∧ s.1 = optB t (encL [(oR t s).k, (oR t s).r, (oR t s).i]) ++ (oR t s).s.1 := by
  cases t with
  | true =>
    have e := oR_t s
    rw [e] at h ⊢
    unfold rdR at *
    simp only at *
    generalize e1 : ri s = q1 at *
    generalize e2 : ri q1.2 = q2 at *
    generalize e3 : ri q2.2 = q3 at *
    obtain ⟨a3, b3, _⟩ := ri_back (i := q3.1) (t := q3.2) e3 h
    obtain ⟨a2, b2, _⟩ := ri_back (i := q2.1) (t := q2.2) e2 a3
    obtain ⟨a1, b1, _⟩ := ri_back (i := q1.1) (t := q1.2) e1 a2
    refine ⟨a1, ?_⟩
    rw [b1, b2, b3]
    simp [encL, optB]
  | false => exact ⟨h, rfl⟩
theorem oR_isInt (t : Bool) (s : RSt) : IsInt (oR t s).k ∧ IsInt (oR t s).r ∧ IsInt (oR t s).i := by
  cases t with
  | true => exact ⟨ri_isInt _, ri_isInt _, ri_isInt _⟩
  | false => exact ⟨by unfold IsInt oR; simp, by unfold IsInt oR; simp, by unfold IsInt oR; simp⟩
theorem oC_isCmd (t : Bool) (s : RSt) : IsCmd (oC t s).1 := by
  cases t with
  | true => exact tk_isCmd s
  | false =>
    intro i hi
    simp [oC, zeroC, Cmdv.ints] at hi
    subst hi
    unfold IsInt
    omega
theorem rt_back {s : RSt} (h : (rt 1024 s).2.2 = 0) : s.2 = 0 ∧ s.1 = (enc (rt 1024 s).1.length ++ (rt 1024 s).1) ++ (rt 1024 s).2.1 := by
  unfold rt at *
  generalize e1 : rc 1024 s = q at *
  by_cases h1 : q.2.2 ≠ 0
  · rw [if_pos h1] at h
    exact absurd h h1
  · rw [if_neg h1] at h ⊢
    by_cases h2 : q.2.1.length < q.1
    · rw [if_pos h2] at h
      simp at h
    · rw [if_neg h2]
      obtain ⟨a, b, c⟩ := rc_back (u := q.1) (t := q.2) e1 (by simpa using h1)
      refine ⟨a, ?_⟩
      simp only [List.length_take]
      rw [b, Nat.min_eq_left (by omega), List.append_assoc, List.take_append_drop]
theorem oD_back {t : Bool} {s : RSt} (h : (oD t s).2.2 = 0) : s.2 = 0 ∧ s.1 = optB t (enc (oD t s).1.length ++ (oD t s).1) ++ (oD t s).2.1 := by
  cases t with
  | true => rw [oD_t] at h ⊢; rw [optB_t]; exact rt_back h
  | false => rw [oD_n] at h ⊢; rw [optB_f]; exact ⟨h, rfl⟩
theorem rt_len (s : RSt) : (rt 1024 s).1.length ≤ 1024 := by
  have := rc_le (s := s) (most := 1024) (by omega)
  unfold rt
  split
  · simp
  · split
    · simp
    · simp only [List.length_take]
      omega
theorem oD_len (t : Bool) (s : RSt) : (oD t s).1.length ≤ 1024 := by
  cases t with
  | true => rw [oD_t]; exact rt_len s
  | false => rw [oD_n]; exact Nat.zero_le _

/-- What was read is what would be written. -/
theorem rdRest_back {kd fr tt ep u : Int} {s : RSt} (h : (rdRest kd fr tt ep u s).s = ([], 0)) : s.2 = 0 ∧ ∀ x, x = (rdRest kd fr tt ep u s).x → s.1 = putL u 2 [x.br, x.bn] ++ (putL u 4 [x.sl] ++ (putL u 16 [x.lw] ++ (putL u 32 [x.tm] ++ (optB (ut u 64) (encV x.k x.cs x.ns) ++ (putL u 128 [(x.vs.length : Int)] ++ (encVts u x.vs ++ (optB (ut u 256) (encL x.cm.ints) ++ (optB (ut u 512) (encL [x.rk, x.rr, x.ri]) ++ (optB (ut u 1024) (enc x.ds.length ++ x.ds)))))))))) := by
  have p2 : ∀ a b, putL u 2 [a, b] = optB (ut u 2) (enc (unb a)) ++ optB (ut u 2) (enc (unb b)) := fun a b => by
    rw [putL_ut]
    cases ut u 2 <;> simp [optB, encNs]
  have p1 : ∀ f n, f = 4 ∨ f = 16 ∨ f = 32 → putL u f [n] = optB (ut u f) (enc (unb n)) := fun f n _ => by
    rw [putL_ut]
    cases ut u f <;> simp [optB, encNs]
  unfold rdRest at *
  simp only at *
  generalize e1 : oN (ut u 2) s = q1 at *
  generalize e2 : oN (ut u 2) q1.2 = q2 at *
  generalize e3 : oN (ut u 4) q2.2 = q3 at *
  generalize e4 : oN (ut u 16) q3.2 = q4 at *
  generalize e5 : oN (ut u 32) q4.2 = q5 at *
  generalize e6 : oV (ut u 64) q5.2 = q6 at *
  generalize e7 : oVts (ut u 128) q6.s = q7 at *
  generalize e8 : oC (ut u 256) q7.2 = q8 at *
  generalize e9 : oR (ut u 512) q8.2 = q9 at *
  generalize e10 : oD (ut u 1024) q9.s = q10 at *
  have hx : ∀ x : Msgl, x = ⟨kd, fr, tt, ep, q1.1, q2.1, q3.1, q4.1, q5.1, q6.k, q6.cs, q6.ns, q7.1, q8.1, q9.k, q9.r, q9.i, q10.1⟩ → True := fun _ _ => trivial
  have b10 := oD_back (t := ut u 1024) (s := q9.s) (by rw [e10, h])
  rw [e10] at b10
  have b9 := oR_back (t := ut u 512) (s := q8.2) (by rw [e9]; exact b10.1)
  rw [e9] at b9
  have b8 := oC_back (t := ut u 256) (s := q7.2) (by rw [e8]; exact b9.1)
  rw [e8] at b8
  have b7 := oVts_back (u := u) (s := q6.s) (by rw [e7]; exact b8.1)
  rw [e7] at b7
  have b6 := oV_back (t := ut u 64) (s := q5.2) (by rw [e6]; exact b7.1)
  rw [e6] at b6
  have b5 := oN_back (t := ut u 32) (s := q4.2) (by rw [e5]; exact b6.1)
  rw [e5] at b5
  have b4 := oN_back (t := ut u 16) (s := q3.2) (by rw [e4]; exact b5.1)
  rw [e4] at b4
  have b3 := oN_back (t := ut u 4) (s := q2.2) (by rw [e3]; exact b4.1)
  rw [e3] at b3
  have b2 := oN_back (t := ut u 2) (s := q1.2) (by rw [e2]; exact b3.1)
  rw [e2] at b2
  have b1 := oN_back (t := ut u 2) (s := s) (by rw [e1]; exact b2.1)
  rw [e1] at b1
  refine ⟨b1.1, ?_⟩
  rintro x rfl
  simp only
  rw [p2, p1 4 _ (by simp), p1 16 _ (by simp), p1 32 _ (by simp), b1.2, b2.2, b3.2, b4.2, b5.2, b6.2, b7.2, b8.2, b9.2, b10.2, h]
  simp only [List.append_assoc, List.append_nil]
theorem rdH_back {u : Int} (hu : ut u 1 = true) {s : RSt} (h : (rdH s).s.2 = 0) : s.2 = 0 ∧ s.1 = putL u 1 [((rdH s).kd : Int), ((rdH s).fr : Int), ((rdH s).tt : Int), ((rdH s).ep : Int)] ++ (rdH s).s.1 := by
  unfold rdH at *
  simp only at *
  generalize e1 : rc P50 s = q1 at *
  generalize e2 : rc P50 q1.2 = q2 at *
  generalize e3 : rc P50 q2.2 = q3 at *
  generalize e4 : rc P50 q3.2 = q4 at *
  obtain ⟨a4, b4⟩ := rcP_back (n := q4.1) (t := q4.2) e4 h
  obtain ⟨a3, b3⟩ := rcP_back (n := q3.1) (t := q3.2) e3 a4
  obtain ⟨a2, b2⟩ := rcP_back (n := q2.1) (t := q2.2) e2 a3
  obtain ⟨a1, b1⟩ := rcP_back (n := q1.1) (t := q1.2) e1 a2
  refine ⟨a1, ?_⟩
  rw [putL_ut, if_pos hu, b1, b2, b3, b4]
  simp [encNs]
end Go.Proofs.YtapbcpilklhoiabDoor

namespace Go.Proofs.YtapbcpilklhoiabDoor
open Go.RowKit

def Msgv.cells (m : Msgv) : Array Value := #[.int .i64 m.kd, .int .i64 m.fr, .int .i64 m.tt, .int .i64 m.ep, .int .i64 m.br, .int .i64 m.bn, .int .i64 m.sl, .int .i64 m.lw, .int .i64 m.tm, .int .i64 m.v.k, .slice m.v.A m.v.n m.v.c, .slice m.v.D m.v.m m.v.d, .slice m.VA m.vn m.vc, .int .i64 m.cm.s, .int .i64 m.cm.q, .int .i64 m.cm.a, .int .i64 m.cm.k, .int .i64 m.cm.r, .int .i64 m.cm.t, .int .i64 m.cm.re, .int .i64 m.cm.im, .int .i64 m.rk, .int .i64 m.rr, .int .i64 m.ri, .slice m.DA m.dn m.dc]
/-- A message's blocks. -/
def ReachM (m : Msgv) (k : Nat) : Prop := ReachV m.v k ∨ (∃ o, m.VA = some ⟨k, o, none⟩) ∨ (∃ x ∈ m.vs, ReachV x.v k) ∨ (∃ o, m.DA = some ⟨k, o, none⟩)
theorem Has.keepA {w w' : World} {B : Nat} {A : Option Addr} {xs : List UInt8} (h : Has w B A xs) (hk : ∀ b o, A = some ⟨b, o, none⟩ → b < B → w'.heap[b]? = w.heap[b]?) : Has w' B A xs := by
  intro k hlt
  obtain ⟨b, o, hA, hb, hc⟩ := h k hlt
  exact ⟨b, o, hA, hb, (World.cell?_of_block (w := w) (a := ⟨b, o + k, none⟩) (hk b o hA hb)).trans hc⟩
theorem HasVt.keepR {w w' : World} {B : Nat} {A : Option Addr} {vs : List Votev} (h : HasVt w B A vs) (hk : ∀ b o, A = some ⟨b, o, none⟩ → b < B → w'.heap[b]? = w.heap[b]?) (hv : ∀ x ∈ vs, ∀ k, ReachV x.v k → k < B → w'.heap[k]? = w.heap[k]?) : HasVt w' B A vs := by
  intro i hi
  obtain ⟨⟨b, o, hA, hlt, h0, h1, h2, h3, h4, h5⟩, hx⟩ := h i hi
  have e : ∀ j, w'.cell? ⟨b, j, none⟩ = w.cell? ⟨b, j, none⟩ := fun j => World.cell?_of_block (w := w) (a := ⟨b, j, none⟩) (hk b o hA hlt)
  exact ⟨⟨b, o, hA, hlt, (e _).trans h0, (e _).trans h1, (e _).trans h2, (e _).trans h3, (e _).trans h4, (e _).trans h5⟩, hx.keepR (v := vs[i].v) (hv _ (List.getElem_mem hi))⟩
theorem HasVt.more {w : World} {B B' : Nat} {A : Option Addr} {vs : List Votev} (h : HasVt w B A vs) (hB : B ≤ B') : HasVt w B' A vs := by
  intro i hi
  obtain ⟨⟨b, o, hA, hlt, r⟩, hx⟩ := h i hi
  exact ⟨⟨b, o, hA, by omega, r⟩, hx.more hB⟩
theorem IsM.keepR {w w' : World} {B : Nat} {m : Msgv} (h : IsM w B m) (hk : ∀ k, ReachM m k → k < B → w'.heap[k]? = w.heap[k]?) : IsM w' B m :=
  ⟨h.v.keepR (v := m.v) (fun k hr => hk k (.inl hr)), h.vt.keepR (fun b o e => hk b (.inr (.inl ⟨o, e⟩))) (fun x hx k hr => hk k (.inr (.inr (.inl ⟨x, hx, hr⟩)))), h.en, h.ln, h.d.keepA (fun b o e => hk b (.inr (.inr (.inr ⟨o, e⟩)))), h.ed, h.dc, h.ld, h.cm, h.i1, h.i2, h.i3⟩
theorem IsM.more {w : World} {B B' : Nat} {m : Msgv} (h : IsM w B m) (hB : B ≤ B') : IsM w B' m := ⟨h.v.more hB, h.vt.more hB, h.en, h.ln, h.d.more hB, h.ed, h.dc, h.ld, h.cm, h.i1, h.i2, h.i3⟩

/-- A message in its box. -/
structure MR (W : World) (gm base : Nat) (m : Msgv) : Prop where
  box : W.heap[gm]? = some (.cells m.cells 37 (0, 0))
  im : IsM W W.heap.size m
  re : ∀ k, ReachM m k → base ≤ k ∧ k < W.heap.size ∧ Free W k
/-- A message that is read, and its reader. -/
structure RS (w : World) (g gm : Nat) (b : Option Nat) (s : RSt) (b' : Option Nat) (m : Msgv) (W : World) : Prop where
  rd : Rd W g b' s.1 s.2
  lie : b' = b ∨ b' = none
  kept : Kept (fun k => k = g ∨ k = gm) w W
  mr : MR W gm w.heap.size m
  lg : g < w.heap.size
  lm : gm < w.heap.size
  ne : g ≠ gm
  nb : b ≠ some gm
  lb : ∀ k, b = some k → k < w.heap.size
section
variable {w W W' : World} {g gm : Nat} {b b1 b2 : Option Nat} {s t : RSt} {m m' : Msgv}
theorem RS.call (h : RS w g gm b s b1 m W) (hr : RGo g b1 W t b2 W') : RS w g gm b t b2 m W' := by
  have hsz := h.kept.size
  have hlm := h.lm
  have hlg := h.lg
  have hne := h.ne
  refine ⟨hr.rd, ?_, h.kept.step hr.kept (fun k hk => .inl (.inl hk)), ⟨(hr.kept.block gm (by omega) (fun e => hne e.symm)).trans h.mr.box, ?_, fun k hk => ⟨(h.mr.re k hk).1, Nat.lt_of_lt_of_le (h.mr.re k hk).2.1 hr.kept.size, (h.mr.re k hk).2.2.keep (hr.kept.block k (h.mr.re k hk).2.1 (fun e => by have := (h.mr.re k hk).1; omega))⟩⟩, h.lg, h.lm, h.ne, h.nb, h.lb⟩
  · rcases hr.lie with e | e
    · rw [e]; exact h.lie
    · exact .inr e
  · exact (h.mr.im.keepR fun k hk hlt => hr.kept.block k hlt (fun e => by have := (h.mr.re k hk).1; omega)).more hr.kept.size
theorem RS.hf (h : RS w g gm b s b1 m W) : ∀ k, b1 = some k → k < W.heap.size := fun k hk => by
  have hsz := h.kept.size
  rcases h.lie with e | e
  · have := h.lb k (by rw [← e]; exact hk); omega
  · rw [e] at hk; cases hk
theorem RS.put (h : RS w g gm b s b1 m W) (hk : Kept (fun k => k = gm) W W') (hb : W'.heap[gm]? = some (.cells m'.cells 37 (0, 0))) (im : IsM W W.heap.size m') (re : ∀ k, ReachM m' k → w.heap.size ≤ k ∧ k < W.heap.size ∧ Free W k) : RS w g gm b s b1 m' W' := by
  have hlm := h.lm
  refine ⟨h.rd.kept hk ?_, h.lie, h.kept.step hk (fun k hk => .inl (.inr hk)), ⟨hb, ?_, fun k hk' => ⟨(re k hk').1, Nat.lt_of_lt_of_le (re k hk').2.1 hk.size, (re k hk').2.2.keep (hk.block k (re k hk').2.1 (fun e => by have := (re k hk').1; omega))⟩⟩, h.lg, h.lm, h.ne, h.nb, h.lb⟩
  · rintro k (e | e) e'
    · exact h.ne (e.symm.trans e')
    · rcases h.lie with e2 | e2
      · exact h.nb (by rw [← e2, e, e'])
      · rw [e2] at e; cases e
  · exact (im.keepR fun k hk' hlt => hk.block k hlt (fun e => by have := (re k hk').1; omega)).more hk.size
theorem keptC (W : World) (gm i : Nat) (v : Value) : Kept (fun k => k = gm) W (W.setCell ⟨gm, i, none⟩ v) := (Kept.refl (fun k => k = gm) W).setCell (p := ⟨gm, i, none⟩) (.inl rfl) v
theorem RS.bal (h : RS w g gm b s b1 m W) (x y : Int) : RS w g gm b s b1 { m with br := x, bn := y } ((W.setCell ⟨gm, 4, none⟩ (.int .i64 x)).setCell ⟨gm, 5, none⟩ (.int .i64 y)) :=
  h.put ((keptC W gm 4 _).setCell (p := ⟨gm, 5, none⟩) (.inl rfl) _) (by simp [World.setCell, Array.getElem?_modify, h.mr.box, Msgv.cells]) ⟨h.mr.im.v, h.mr.im.vt, h.mr.im.en, h.mr.im.ln, h.mr.im.d, h.mr.im.ed, h.mr.im.dc, h.mr.im.ld, h.mr.im.cm, h.mr.im.i1, h.mr.im.i2, h.mr.im.i3⟩ h.mr.re
theorem RS.slot (h : RS w g gm b s b1 m W) (x : Int) : RS w g gm b s b1 { m with sl := x } (W.setCell ⟨gm, 6, none⟩ (.int .i64 x)) :=
  h.put (keptC W gm 6 _) (by simp [World.setCell, Array.getElem?_modify, h.mr.box, Msgv.cells]) ⟨h.mr.im.v, h.mr.im.vt, h.mr.im.en, h.mr.im.ln, h.mr.im.d, h.mr.im.ed, h.mr.im.dc, h.mr.im.ld, h.mr.im.cm, h.mr.im.i1, h.mr.im.i2, h.mr.im.i3⟩ h.mr.re
theorem RS.low (h : RS w g gm b s b1 m W) (x : Int) : RS w g gm b s b1 { m with lw := x } (W.setCell ⟨gm, 7, none⟩ (.int .i64 x)) :=
  h.put (keptC W gm 7 _) (by simp [World.setCell, Array.getElem?_modify, h.mr.box, Msgv.cells]) ⟨h.mr.im.v, h.mr.im.vt, h.mr.im.en, h.mr.im.ln, h.mr.im.d, h.mr.im.ed, h.mr.im.dc, h.mr.im.ld, h.mr.im.cm, h.mr.im.i1, h.mr.im.i2, h.mr.im.i3⟩ h.mr.re
theorem RS.time (h : RS w g gm b s b1 m W) (x : Int) : RS w g gm b s b1 { m with tm := x } (W.setCell ⟨gm, 8, none⟩ (.int .i64 x)) :=
  h.put (keptC W gm 8 _) (by simp [World.setCell, Array.getElem?_modify, h.mr.box, Msgv.cells]) ⟨h.mr.im.v, h.mr.im.vt, h.mr.im.en, h.mr.im.ln, h.mr.im.d, h.mr.im.ed, h.mr.im.dc, h.mr.im.ld, h.mr.im.cm, h.mr.im.i1, h.mr.im.i2, h.mr.im.i3⟩ h.mr.re
theorem RS.val (h : RS w g gm b s b1 m W) (v : Valv) (hv : IsV W W.heap.size v.A v.n v.D v.m v.cs v.ns) (hr : ∀ k, ReachV v k → w.heap.size ≤ k ∧ k < W.heap.size ∧ Free W k) : RS w g gm b s b1 { m with v := v } (((W.setCell ⟨gm, 9, none⟩ (.int .i64 v.k)).setCell ⟨gm, 10, none⟩ (.slice v.A v.n v.c)).setCell ⟨gm, 11, none⟩ (.slice v.D v.m v.d)) :=
  h.put (((keptC W gm 9 _).setCell (p := ⟨gm, 10, none⟩) (.inl rfl) _).setCell (p := ⟨gm, 11, none⟩) (.inl rfl) _) (by simp [World.setCell, Array.getElem?_modify, h.mr.box, Msgv.cells]) ⟨hv, h.mr.im.vt, h.mr.im.en, h.mr.im.ln, h.mr.im.d, h.mr.im.ed, h.mr.im.dc, h.mr.im.ld, h.mr.im.cm, h.mr.im.i1, h.mr.im.i2, h.mr.im.i3⟩ (fun k hk => by
    rcases hk with hk | hk
    · exact hr k hk
    · exact h.mr.re k (.inr hk))
theorem RS.votes (h : RS w g gm b s b1 m W) (A : Option Addr) (n c : Nat) (vs : List Votev) (hv : HasVt W W.heap.size A vs) (hn : vs.length = n) (hl : n ≤ 2199023255552) (hr : ∀ k, ((∃ o, A = some ⟨k, o, none⟩) ∨ ∃ x ∈ vs, ReachV x.v k) → w.heap.size ≤ k ∧ k < W.heap.size ∧ Free W k) : RS w g gm b s b1 { m with VA := A, vn := n, vc := c, vs := vs } (W.setCell ⟨gm, 12, none⟩ (.slice A n c)) :=
  h.put (keptC W gm 12 _) (by simp [World.setCell, Array.getElem?_modify, h.mr.box, Msgv.cells]) ⟨h.mr.im.v, hv, hn, hl, h.mr.im.d, h.mr.im.ed, h.mr.im.dc, h.mr.im.ld, h.mr.im.cm, h.mr.im.i1, h.mr.im.i2, h.mr.im.i3⟩ (fun k hk => by
    rcases hk with hk | hk | hk | hk
    · exact h.mr.re k (.inl hk)
    · exact hr k (.inl hk)
    · exact hr k (.inr hk)
    · exact h.mr.re k (.inr (.inr (.inr hk))))
theorem RS.cmd (h : RS w g gm b s b1 m W) (c : Cmdv) (hc : IsCmd c) : RS w g gm b s b1 { m with cm := c } ((((((((W.setCell ⟨gm, 13, none⟩ (.int .i64 c.s)).setCell ⟨gm, 14, none⟩ (.int .i64 c.q)).setCell ⟨gm, 15, none⟩ (.int .i64 c.a)).setCell ⟨gm, 16, none⟩ (.int .i64 c.k)).setCell ⟨gm, 17, none⟩ (.int .i64 c.r)).setCell ⟨gm, 18, none⟩ (.int .i64 c.t)).setCell ⟨gm, 19, none⟩ (.int .i64 c.re)).setCell ⟨gm, 20, none⟩ (.int .i64 c.im)) :=
  h.put ((((((((keptC W gm 13 _).setCell (p := ⟨gm, 14, none⟩) (.inl rfl) _).setCell (p := ⟨gm, 15, none⟩) (.inl rfl) _).setCell (p := ⟨gm, 16, none⟩) (.inl rfl) _).setCell (p := ⟨gm, 17, none⟩) (.inl rfl) _).setCell (p := ⟨gm, 18, none⟩) (.inl rfl) _).setCell (p := ⟨gm, 19, none⟩) (.inl rfl) _).setCell (p := ⟨gm, 20, none⟩) (.inl rfl) _) (by simp [World.setCell, Array.getElem?_modify, h.mr.box, Msgv.cells]) ⟨h.mr.im.v, h.mr.im.vt, h.mr.im.en, h.mr.im.ln, h.mr.im.d, h.mr.im.ed, h.mr.im.dc, h.mr.im.ld, hc, h.mr.im.i1, h.mr.im.i2, h.mr.im.i3⟩ h.mr.re
theorem RS.res (h : RS w g gm b s b1 m W) (x y z : Int) (h1 : IsInt x) (h2 : IsInt y) (h3 : IsInt z) : RS w g gm b s b1 { m with rk := x, rr := y, ri := z } (((W.setCell ⟨gm, 21, none⟩ (.int .i64 x)).setCell ⟨gm, 22, none⟩ (.int .i64 y)).setCell ⟨gm, 23, none⟩ (.int .i64 z)) :=
  h.put (((keptC W gm 21 _).setCell (p := ⟨gm, 22, none⟩) (.inl rfl) _).setCell (p := ⟨gm, 23, none⟩) (.inl rfl) _) (by simp [World.setCell, Array.getElem?_modify, h.mr.box, Msgv.cells]) ⟨h.mr.im.v, h.mr.im.vt, h.mr.im.en, h.mr.im.ln, h.mr.im.d, h.mr.im.ed, h.mr.im.dc, h.mr.im.ld, h.mr.im.cm, h1, h2, h3⟩ h.mr.re
theorem RS.data (h : RS w g gm b s b1 m W) (A : Option Addr) (n c : Nat) (ds : List UInt8) (hd : Has W W.heap.size A ds) (hn : ds.length = n) (hc : n ≤ c) (hl : n ≤ 140737488351232) (hr : ∀ k o, A = some ⟨k, o, none⟩ → w.heap.size ≤ k ∧ k < W.heap.size ∧ Free W k) : RS w g gm b s b1 { m with DA := A, dn := n, dc := c, ds := ds } (W.setCell ⟨gm, 24, none⟩ (.slice A n c)) :=
  h.put (keptC W gm 24 _) (by simp [World.setCell, Array.getElem?_modify, h.mr.box, Msgv.cells]) ⟨h.mr.im.v, h.mr.im.vt, h.mr.im.en, h.mr.im.ln, hd, hn, hc, hl, h.mr.im.cm, h.mr.im.i1, h.mr.im.i2, h.mr.im.i3⟩ (fun k hk => by
    rcases hk with hk | hk | hk | ⟨o, hk⟩
    · exact h.mr.re k (.inl hk)
    · exact h.mr.re k (.inr (.inl hk))
    · exact h.mr.re k (.inr (.inr (.inl hk)))
    · exact hr k o hk)
end
end Go.Proofs.YtapbcpilklhoiabDoor
