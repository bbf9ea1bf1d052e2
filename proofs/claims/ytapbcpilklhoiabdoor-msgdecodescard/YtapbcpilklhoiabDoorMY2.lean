/-
  Commands and values as memory holds them; PutCmd and Write of package value. Conditions: what is read is in reach.
  From a reading of an argument to the words of the walks: commands, values. No condition but the reach of what is read.
  From a reading of an argument to the words of the walks: slices of bytes, beside those of values. No condition but the reach of what is read.
  A slice of commands that the call owns, and append onto it. Conditions: what is read is in reach.
  Write of package value, and the head's value. Conditions: what is read is in reach.
  TakeCmd and Read of package value, whatever is read. No condition.
-/
import Derived.Test.YtapbcpilklhoiabDoorMY1
import Derived.Test.YtapbcpilklhoiabDoorMY0
import Derived.Deep.DeepCutAuto
set_option linter.unusedSimpArgs false
set_option linter.unusedVariables false

namespace Go.Proofs.YtapbcpilklhoiabDoor
open Go.RowKit

/-- A command: session, number, ack, and the operation's kind, register, to, parts. -/
structure Cmdv where
  s : Int
  q : Int
  a : Int
  k : Int
  r : Int
  t : Int
  re : Int
  im : Int
def Cmdv.ints (c : Cmdv) : List Int := [c.s, c.q, c.a, c.k, c.r, c.t, c.re, c.im]
def Cmdv.val (c : Cmdv) : Value := .agg #[.int .i64 c.s, .int .i64 c.q, .int .i64 c.a, .int .i64 c.k, .int .i64 c.r, .int .i64 c.t, .int .i64 c.re, .int .i64 c.im]
def IsCmd (c : Cmdv) : Prop := ∀ i ∈ c.ints, IsInt i
def encL (is : List Int) : List UInt8 := is.flatMap fun i => enc (zig i)
theorem encL_take (is : List Int) (k : Nat) (hk : k < is.length) : encL (is.take (k + 1)) = encL (is.take k) ++ enc (zig is[k]) := by
  unfold encL
  rw [List.take_succ_eq_append_getElem hk, List.flatMap_append, List.flatMap_singleton]
theorem encL_length (is : List Int) : (encL is).length ≤ 9 * is.length := by
  induction is with
  | nil => simp [encL]
  | cons x xs ih =>
    have e : encL (x :: xs) = enc (zig x) ++ encL xs := rfl
    have := bw_le (zig x)
    rw [e, List.length_append, enc_length, List.length_cons]
    omega

theorem getD_ints {xs : List Int} {k : Nat} (h : k < xs.length) : xs.getD k 0 = xs[k] := by simp [List.getD_eq_getElem?_getD, h]

/-- What a call leaves that has written ys behind what the writer held, and answers nothing. -/
def PEnds (g : Nat) (b : Option Nat) (base : Nat) (ys : List UInt8) (w : World) (e : Ending) (w' : World) : Prop :=
  e = .returned (.tuple #[]) ∧ ∃ b', Wr w' base g b' ys ∧ (b' = b ∨ ∃ k, b' = some k ∧ w.heap.size ≤ k) ∧ Kept (Foot g b) w w'

theorem idx8 (x0 x1 x2 x3 x4 x5 x6 x7 : Int) (k : Nat) (hk : k < 8) (w : World) : (Instr.index 113 (.agg #[.int .i64 x0, .int .i64 x1, .int .i64 x2, .int .i64 x3, .int .i64 x4, .int .i64 x5, .int .i64 x6, .int .i64 x7]) (.int .i64 (k : Int))).run Tryd.prog w = .ok (.int .i64 ([x0, x1, x2, x3, x4, x5, x6, x7].getD k 0)) w := by
  have h8 : k = 0 ∨ k = 1 ∨ k = 2 ∨ k = 3 ∨ k = 4 ∨ k = 5 ∨ k = 6 ∨ k = 7 := by omega
  have hs : (sizeOf 3).run Tryd.prog w = .ok 1 w := by kernel_rfl
  have hag : (isAgg 3).run Tryd.prog w = .ok false w := by kernel_rfl
  rcases h8 with rfl | rfl | rfl | rfl | rfl | rfl | rfl | rfl <;> simp [Instr.index, asIntOf, run_underlying Tryd.underlying113, hs, part, hag]

set_option maxHeartbeats 400000 in
theorem putcmd_any (g base : Nat) (b : Option Nat) (xs : List UInt8) (c : Cmdv) (w : World) (hw : Wr w base g b xs) (hc : IsCmd c) (hlen : xs.length + 72 ≤ 140737488355328) :
    Calls Tryd.prog 35 #[.pointer (some ⟨g, 0, none⟩), c.val] w (PEnds g b base (xs ++ encL c.ints) w) := by
  have hl8 : c.ints.length = 8 := rfl
  have hget : ∀ k, k < 8 → c.ints.getD k 0 ∈ c.ints := fun k hk => by
    rw [getD_ints (by rw [hl8]; exact hk)]
    exact List.getElem_mem _
  have HG := hide hget
  have HC := hide hc
  have HT : Hid (∀ k, k < 8 → encL (c.ints.take (k + 1)) = encL (c.ints.take k) ++ enc (zig (c.ints.getD k 0))) := hide fun k hk => by
    rw [encL_take _ _ (by rw [hl8]; exact hk), getD_ints (by rw [hl8]; exact hk)]
  have HLE : Hid (∀ k, k < 8 → (xs ++ encL (c.ints.take k)).length + 9 ≤ 140737488355328) := hide fun k hk => by
    have := encL_length (c.ints.take k)
    rw [List.length_append]
    rw [List.length_take, hl8] at this
    omega
  have hall : xs ++ encL c.ints = xs ++ encL (c.ints.take 8) := by rw [List.take_of_length_le (by rw [hl8]; omega)]
  rw [hall]
  have hgs := hw.lt
  have ei : c.ints = [c.s, c.q, c.a, c.k, c.r, c.t, c.re, c.im] := rfl
  have hix := fun k hk w => idx8 c.s c.q c.a c.k c.r c.t c.re c.im k hk w
  rw [← ei] at hix
  have HIX := hide hix
  clear hix ei hall hget hc hl8
  unfold Cmdv.val
  go_enter Tryd.func35, Tryd.ntmps35
  go_wp2
  go_loopw [26] (fun i wr => ∃ (k : Nat) (b' : Option Nat), k ≤ 8 ∧ i = .int .i64 k ∧ Wr wr base g b' (xs ++ encL (c.ints.take k)) ∧ (b' = b ∨ ∃ j, b' = some j ∧ w.heap.size ≤ j) ∧ Kept (Foot g b) w wr) (fun i _ => 8 - (intOf i).toNat)
  case atStart =>
    have hb2 : ∀ o1 o2, Below w.heap.size w ((w.alloc o1).alloc o2) := fun o1 o2 => ((Below.refl _ _).alloc (Nat.le_refl _) o1).alloc (by simp) o2
    exact ⟨0, b, by omega, rfl, by simpa [encL] using hw.below (hb2 _ _), .inl rfl, Kept.of_below (hb2 _ _)⟩
  case round =>
    obtain ⟨k, b1, hk, rfl, hw1, hb1, hk1⟩ := hrel
    by_cases hlt : k < 8
    · have hx := HIX.out k hlt
      have hi := HC.out _ (HG.out k hlt)
      have hle := HLE.out k hlt
      have ht := HT.out k hlt
      generalize c.ints.getD k 0 = n at *
      generalize hys : xs ++ encL (c.ints.take k) = ys at *
      have HYS := hide hys
      clear hys
      have HTT := hide ht
      have HL := hide hle
      clear ht hle
      go_wp2_with fail
      refine (wint_any g base b1 ys n wr hw1 hi HL.out).mono ?_
      rintro e w2 ⟨rfl, b2, hw2, hb2, hk2⟩
      go_wp2
      go_roundw
      case rel => exact ⟨k + 1, b2, by omega, by go_num, by rw [HTT.out, ← List.append_assoc, HYS.out]; exact hw2, lies_step hb1 hb2 hk1.size, hk1.step hk2 (foot_step hb1)⟩
      case measure => simp [intOf]; omega
    · obtain rfl : k = 8 := by omega
      go_wp2
      go_end0
      exact ⟨rfl, b1, hw1, hb1, hk1⟩

/-- The slice that begins at A reads as these commands, in a block below B. -/
def HasC (w : World) (B : Nat) (A : Option Addr) (cs : List Cmdv) : Prop :=
  ∀ i (h : i < cs.length), ∃ b o, A = some ⟨b, o, none⟩ ∧ b < B ∧ w.cell? ⟨b, o + i * 8, none⟩ = some (.int .i64 cs[i].s) ∧ w.cell? ⟨b, o + i * 8 + 1, none⟩ = some (.int .i64 cs[i].q) ∧ w.cell? ⟨b, o + i * 8 + 2, none⟩ = some (.int .i64 cs[i].a) ∧ w.cell? ⟨b, o + i * 8 + 3, none⟩ = some (.int .i64 cs[i].k) ∧ w.cell? ⟨b, o + i * 8 + 4, none⟩ = some (.int .i64 cs[i].r) ∧ w.cell? ⟨b, o + i * 8 + 5, none⟩ = some (.int .i64 cs[i].t) ∧ w.cell? ⟨b, o + i * 8 + 6, none⟩ = some (.int .i64 cs[i].re) ∧ w.cell? ⟨b, o + i * 8 + 7, none⟩ = some (.int .i64 cs[i].im)
theorem HasC.nil (w : World) (B : Nat) (A : Option Addr) : HasC w B A [] := fun k h => absurd h (by simp)
theorem HasC.keep {w w' : World} {B : Nat} {A : Option Addr} {cs : List Cmdv} (h : HasC w B A cs) (hk : ∀ b o, A = some ⟨b, o, none⟩ → b < B → w'.heap[b]? = w.heap[b]?) : HasC w' B A cs := by
  intro i hi
  obtain ⟨b, o, hA, hb, h0, h1, h2, h3, h4, h5, h6, h7⟩ := h i hi
  have e : ∀ j, w'.cell? ⟨b, j, none⟩ = w.cell? ⟨b, j, none⟩ := fun j => World.cell?_of_block (w := w) (a := ⟨b, j, none⟩) (hk b o hA hb)
  exact ⟨b, o, hA, hb, (e _).trans h0, (e _).trans h1, (e _).trans h2, (e _).trans h3, (e _).trans h4, (e _).trans h5, (e _).trans h6, (e _).trans h7⟩
theorem HasC.below {w w' : World} {B : Nat} {A : Option Addr} {cs : List Cmdv} (h : HasC w B A cs) (hb : Below B w w') : HasC w' B A cs := h.keep fun b _ _ hlt => hb.block b hlt
theorem HasC.on {w w' : World} {B : Nat} {A : Option Addr} {cs : List Cmdv} (h : HasC w B A cs) (hB : B ≤ w.heap.size) (hb : Below w.heap.size w w') : HasC w' B A cs := h.keep fun b _ _ hlt => hb.block b (by omega)
theorem HasC.alloc {w : World} {B : Nat} {A : Option Addr} {cs : List Cmdv} (h : HasC w B A cs) (hB : B ≤ w.heap.size) (o : Obj) : HasC (w.alloc o) B A cs := h.keep fun b _ _ hlt => Below.heap_alloc w o b (by omega)
theorem HasC.more {w : World} {B B' : Nat} {A : Option Addr} {cs : List Cmdv} (h : HasC w B A cs) (hB : B ≤ B') : HasC w B' A cs := by
  intro i hi
  obtain ⟨b, o, hA, hb, r⟩ := h i hi
  exact ⟨b, o, hA, by omega, r⟩
end Go.Proofs.YtapbcpilklhoiabDoor

namespace Go.Proofs.YtapbcpilklhoiabDoor
open Go.ChangeShapes Go.WideShapes Go.ChangeAt Go.RowKit

instance : Inhabited Cmdv := ⟨⟨0, 0, 0, 0, 0, 0, 0, 0⟩⟩
theorem cells_op5 : Tryd.prog.cellsOf 30 = 5 := by kernel_rfl
theorem cells_cmd8 : Tryd.prog.cellsOf 32 = 8 := by kernel_rfl
theorem bytesOf_cmd : Tryd.prog.bytesOf 32 = 64 := by kernel_rfl
theorem cells_ints1 : Tryd.prog.cellsOf 25 = 1 := by kernel_rfl
theorem cells_cmds1 : Tryd.prog.cellsOf 24 = 1 := by kernel_rfl
theorem cells_val3 : Tryd.prog.cellsOf 27 = 3 := by kernel_rfl

theorem isInt_of_wf {n : Int} (h : (Lit.int .i64 n).wf = true) : IsInt n := ⟨i64_lo h, i64_hi h⟩

/-- Each block of what is read is in reach. -/
def Light {H : Type} (t : TypeId) (d : DataW H) : Prop := ∀ n ∈ d.weights Tryd.prog t, n ≤ reachBytes
theorem Light.of_each {H : Type} {ty : List TypeId} {ds : List (DataW H)} (hs : (DataW.weightsEach Tryd.prog ty ds).all (· ≤ reachBytes) = true) {j : Nat} {t : TypeId} {d : DataW H} (ht : ty[j]? = some t) (hd : ds[j]? = some d) : Light t d :=
  fun n hn => by simpa using List.all_eq_true.1 hs n (DataW.weights_mem_each ht hd n hn)
theorem Light.slice {H : Type} {t e : TypeId} {xs ys : List (DataW H)} (h : Light t (.slice xs ys)) (hu : Tryd.prog.underlying t = some (.slice e)) : (xs.length + ys.length) * Tryd.prog.bytesOf e ≤ reachBytes :=
  h _ (by simp [DataW.weights, hu])
theorem Light.elem {H : Type} {t e : TypeId} {xs ys : List (DataW H)} (h : Light t (.slice xs ys)) (hu : Tryd.prog.underlying t = some (.slice e)) {d : DataW H} (hd : d ∈ xs) : Light e d := by
  intro n hn
  refine h n ?_
  simp only [DataW.weights, hu]
  refine List.mem_cons_of_mem _ (List.mem_append_left _ ?_)
  clear h
  induction xs with
  | nil => simp at hd
  | cons x xs ih =>
    simp only [DataW.weightsAll, List.mem_append]
    rcases List.mem_cons.1 hd with rfl | hd
    · exact Or.inl hn
    · exact Or.inr (ih hd)
theorem Light.field {H : Type} {t : TypeId} {fs : Array Field} {xs : List (DataW H)} (h : Light t (.agg xs)) (hu : Tryd.prog.underlying t = some (.struct fs)) {j : Nat} {f : TypeId} {d : DataW H} (hf : (fs.toList.map (·.type))[j]? = some f) (hd : xs[j]? = some d) : Light f d := by
  intro n hn
  refine h n ?_
  simp only [DataW.weights, hu]
  exact DataW.weights_mem_each hf hd n hn

section
variable {H : Type} {enc : TypeId × Value → H} {W : World}

set_option maxRecDepth 20000 in
theorem op_ints {fuel : Nat} {cs : List Value} {x : DataW H × List MemPlace} (hl : cs.length = 5)
    (h : DataW.trod enc Tryd.prog W 0 (fun _ => true) true fuel 30 cs = some x) : ∃ a b c d e : Int, cs = [.int .i64 a, .int .i64 b, .int .i64 c, .int .i64 d, .int .i64 e] ∧ IsInt a ∧ IsInt b ∧ IsInt c ∧ IsInt d ∧ IsInt e := by
  obtain ⟨ys, n', _, hx, _, hyl, hf⟩ := DataW.trod_struct Tryd.underlying30 h
  match cs, hl with
  | [v0, v1, v2, v3, v4], _ =>
    match ys, hyl with
    | [y0, y1, y2, y3, y4], _ =>
      have h0 : DataW.trod enc Tryd.prog W 0 (fun _ => true) true n' 3 [v0] = some y0 := by simpa [cells_int1] using hf 0 _ rfl
      have h1 : DataW.trod enc Tryd.prog W 0 (fun _ => true) true n' 3 [v1] = some y1 := by simpa [cells_int1] using hf 1 _ rfl
      have h2 : DataW.trod enc Tryd.prog W 0 (fun _ => true) true n' 3 [v2] = some y2 := by simpa [cells_int1] using hf 2 _ rfl
      have h3 : DataW.trod enc Tryd.prog W 0 (fun _ => true) true n' 3 [v3] = some y3 := by simpa [cells_int1] using hf 3 _ rfl
      have h4 : DataW.trod enc Tryd.prog W 0 (fun _ => true) true n' 3 [v4] = some y4 := by simpa [cells_int1] using hf 4 _ rfl
      obtain ⟨k0, e0, rfl, w0⟩ := DataW.trod_int Tryd.underlying3 h0
      obtain ⟨k1, e1, rfl, w1⟩ := DataW.trod_int Tryd.underlying3 h1
      obtain ⟨k2, e2, rfl, w2⟩ := DataW.trod_int Tryd.underlying3 h2
      obtain ⟨k3, e3, rfl, w3⟩ := DataW.trod_int Tryd.underlying3 h3
      obtain ⟨k4, e4, rfl, w4⟩ := DataW.trod_int Tryd.underlying3 h4
      injection e0 with e0
      injection e1 with e1
      injection e2 with e2
      injection e3 with e3
      injection e4 with e4
      subst e0 e1 e2 e3 e4
      exact ⟨k0, k1, k2, k3, k4, rfl, isInt_of_wf w0, isInt_of_wf w1, isInt_of_wf w2, isInt_of_wf w3, isInt_of_wf w4⟩

theorem IsCmd.mk8 {s q a k r t re im : Int} (h0 : IsInt s) (h1 : IsInt q) (h2 : IsInt a) (h3 : IsInt k) (h4 : IsInt r) (h5 : IsInt t) (h6 : IsInt re) (h7 : IsInt im) : IsCmd ⟨s, q, a, k, r, t, re, im⟩ := by
  intro i hi
  simp only [Cmdv.ints, List.mem_cons, List.not_mem_nil, or_false] at hi
  rcases hi with rfl | rfl | rfl | rfl | rfl | rfl | rfl | rfl <;> assumption

set_option maxRecDepth 20000 in
theorem cmd_value {fuel : Nat} {cs : List Value} {x : DataW H × List MemPlace} (hl : cs.length = 8)
    (h : DataW.trod enc Tryd.prog W 0 (fun _ => true) true fuel 32 cs = some x) : ∃ q : Cmdv, cs = [.int .i64 q.s, .int .i64 q.q, .int .i64 q.a, .int .i64 q.k, .int .i64 q.r, .int .i64 q.t, .int .i64 q.re, .int .i64 q.im] ∧ IsCmd q := by
  obtain ⟨ys, n', _, hx, _, hyl, hf⟩ := DataW.trod_struct Tryd.underlying32 h
  match cs, hl with
  | [v0, v1, v2, v3, v4, v5, v6, v7], _ =>
    match ys, hyl with
    | [y0, y1, y2, y3], _ =>
      have h0 : DataW.trod enc Tryd.prog W 0 (fun _ => true) true n' 3 [v0] = some y0 := by simpa [cells_int1] using hf 0 _ rfl
      have h1 : DataW.trod enc Tryd.prog W 0 (fun _ => true) true n' 3 [v1] = some y1 := by simpa [cells_int1] using hf 1 _ rfl
      have h2 : DataW.trod enc Tryd.prog W 0 (fun _ => true) true n' 3 [v2] = some y2 := by simpa [cells_int1] using hf 2 _ rfl
      have h3 : DataW.trod enc Tryd.prog W 0 (fun _ => true) true n' 30 [v3, v4, v5, v6, v7] = some y3 := by simpa [cells_op5] using hf 3 _ rfl
      obtain ⟨k0, e0, rfl, w0⟩ := DataW.trod_int Tryd.underlying3 h0
      obtain ⟨k1, e1, rfl, w1⟩ := DataW.trod_int Tryd.underlying3 h1
      obtain ⟨k2, e2, rfl, w2⟩ := DataW.trod_int Tryd.underlying3 h2
      obtain ⟨a, b, c, d, e, e3, w3, w4, w5, w6, w7⟩ := op_ints rfl h3
      injection e0 with e0
      injection e1 with e1
      injection e2 with e2
      injection e3 with e3 e4
      injection e4 with e4 e5
      injection e5 with e5 e6
      injection e6 with e6 e7
      injection e7 with e7
      subst e0 e1 e2 e3 e4 e5 e6 e7
      exact ⟨⟨k0, k1, k2, a, b, c, d, e⟩, rfl, IsCmd.mk8 (isInt_of_wf w0) (isInt_of_wf w1) (isInt_of_wf w2) w3 w4 w5 w6 w7⟩

theorem cmds_value {fuel : Nat} {v : Value} {x : DataW H × List MemPlace} (hf : DataW.trod enc Tryd.prog W 0 (fun _ => true) true fuel 24 [v] = some x) (hw : Light 24 x.1) :
    ∃ a len cap ts, v = .slice a len cap ∧ HasC W W.heap.size a ts ∧ ts.length = len ∧ len ≤ 2199023255488 ∧ ∀ c ∈ ts, IsCmd c := by
  rcases Go.Deep.open_slice Tryd.underlying24 hf with ⟨hcs, _⟩ | ⟨x, len, cap, m, n, D, Pl, hcs, _, hl, _, hm, hx, hcell⟩
  · injection hcs with hcs
    exact ⟨none, 0, 0, [], hcs, HasC.nil _ _ _, rfl, by simp, by simp⟩
  · injection hcs with hcs
    subst hcs
    simp only [if_true] at hm
    subst hx
    have hsz := hw.slice Tryd.underlying24
    rw [bytesOf_cmd] at hsz
    simp [reachBytes] at hsz
    rw [cells_cmd8] at hcell
    obtain ⟨F, hF⟩ := Go.Deep.choose_lt (α := Cmdv) (n := len) (p := fun i q => (∀ j v, ([.int .i64 q.s, .int .i64 q.q, .int .i64 q.a, .int .i64 q.k, .int .i64 q.r, .int .i64 q.t, .int .i64 q.re, .int .i64 q.im] : List Value)[j]? = some v → W.cell? ((x.add (i * 8)).add j) = some v) ∧ IsCmd q) (fun i hi => by
      obtain ⟨cs', hc, ht⟩ := hcell i (by omega)
      obtain ⟨_, hlen, hat⟩ := World.cells?_some hc
      obtain ⟨q, rfl, hq⟩ := cmd_value hlen ht
      refine ⟨q, fun j v hj => ?_, hq⟩
      have hj' : j < 8 := by
        rcases Nat.lt_or_ge j 8 with h | h
        · exact h
        · rw [List.getElem?_eq_none (by simpa using h)] at hj; cases hj
      rw [hat j hj', hj])
    refine ⟨some x, len, cap, (List.range len).map F, rfl, fun k hk => ?_, by simp, by omega, ?_⟩
    · have hk' : k < len := by simpa using hk
      have e : ((List.range len).map F)[k] = F k := by simp
      obtain ⟨h1, _⟩ := hF k hk'
      rw [e]
      generalize F k = q at *
      have g0 := h1 0 _ rfl
      have g1 := h1 1 _ rfl
      have g2 := h1 2 _ rfl
      have g3 := h1 3 _ rfl
      have g4 := h1 4 _ rfl
      have g5 := h1 5 _ rfl
      have g6 := h1 6 _ rfl
      have g7 := h1 7 _ rfl
      obtain ⟨b, o, s⟩ := x
      have hs : s = none := by
        obtain ⟨h6, _⟩ := hF 0 (by omega)
        have := World.cell?_spot (h6 0 _ rfl)
        simpa [Addr.add] using this
      subst hs
      have ea : ∀ j, ((⟨b, o, none⟩ : Addr).add (k * 8)).add j = ⟨b, o + k * 8 + j, none⟩ := by
        intro j
        rw [Go.Deep.add_add]
        unfold Addr.add
        split <;> simp_all <;> omega
      rw [ea] at g0 g1 g2 g3 g4 g5 g6 g7
      exact ⟨b, o, rfl, cell_lt g0, g0, g1, g2, g3, g4, g5, g6, g7⟩
    · intro y hy
      obtain ⟨i, hi, rfl⟩ := List.mem_map.1 hy
      exact (hF i (by simpa using hi)).2

theorem ints_value {fuel : Nat} {v : Value} {x : DataW H × List MemPlace} (hf : DataW.trod enc Tryd.prog W 0 (fun _ => true) true fuel 25 [v] = some x) (hw : Light 25 x.1) :
    ∃ a len cap xs, v = .slice a len cap ∧ HasI W W.heap.size a xs ∧ xs.length = len ∧ len ≤ 17592186043904 ∧ ∀ c ∈ xs, IsInt c := by
  rcases Go.Deep.open_slice Tryd.underlying25 hf with ⟨hcs, _⟩ | ⟨y, len, cap, m, n, D, Pl, hcs, _, hl, _, hm, hx, hcell⟩
  · injection hcs with hcs
    exact ⟨none, 0, 0, [], hcs, HasI.nil _ _ _, rfl, by simp, by simp⟩
  · injection hcs with hcs
    subst hcs
    obtain ⟨d, pl⟩ := x
    obtain ⟨xs, h1, h2, h3, h4⟩ := open_intsv (ty := [25]) (ds := [d]) ⟨fuel, hf⟩ (List.all_eq_true.2 fun n hn => by
      simp only [DataW.weightsEach, List.append_nil] at hn
      simpa using hw n hn) (j := 0) rfl rfl
    exact ⟨_, _, _, xs, rfl, h1, h2, h3, fun c hc => ⟨(h4 c hc).lo, (h4 c hc).hi⟩⟩

set_option maxRecDepth 20000 in
theorem val_value {fuel : Nat} {cs : List Value} {x : DataW H × List MemPlace} (hl : cs.length = 3) (h : DataW.trod enc Tryd.prog W 0 (fun _ => true) true fuel 27 cs = some x) (hw : Light 27 x.1) :
    ∃ (k : Int) (A : Option Addr) (n c : Nat) (D : Option Addr) (m d : Nat) (ts : List Cmdv) (xs : List Int), cs = [.int .i64 k, .slice A n c, .slice D m d] ∧ IsInt k ∧ HasC W W.heap.size A ts ∧ ts.length = n ∧ n ≤ 2199023255488 ∧ (∀ c ∈ ts, IsCmd c) ∧ HasI W W.heap.size D xs ∧ xs.length = m ∧ m ≤ 17592186043904 ∧ ∀ c ∈ xs, IsInt c := by
  obtain ⟨ys, n', _, hx, _, hyl, hf⟩ := DataW.trod_struct Tryd.underlying27 h
  match cs, hl with
  | [v0, v1, v2], _ =>
    match ys, hyl with
    | [y0, y1, y2], _ =>
      have h0 : DataW.trod enc Tryd.prog W 0 (fun _ => true) true n' 3 [v0] = some y0 := by simpa [cells_int1] using hf 0 _ rfl
      have h1 : DataW.trod enc Tryd.prog W 0 (fun _ => true) true n' 24 [v1] = some y1 := by simpa [cells_cmds1] using hf 1 _ rfl
      have h2 : DataW.trod enc Tryd.prog W 0 (fun _ => true) true n' 25 [v2] = some y2 := by simpa [cells_ints1] using hf 2 _ rfl
      subst hx
      obtain ⟨k0, e0, rfl, w0⟩ := DataW.trod_int Tryd.underlying3 h0
      obtain ⟨A, n, c, ts, rfl, g1, g2, g3, g4⟩ := cmds_value h1 (hw.field Tryd.underlying27 (j := 1) rfl rfl)
      obtain ⟨D, m, d, xs, rfl, g5, g6, g7, g8⟩ := ints_value h2 (hw.field Tryd.underlying27 (j := 2) rfl rfl)
      injection e0 with e0
      subst e0
      exact ⟨k0, A, n, c, D, m, d, ts, xs, rfl, isInt_of_wf w0, g1, g2, g3, g4, g5, g6, g7, g8⟩

set_option maxRecDepth 20000 in
theorem open_val {base : Nat} {v : Value} {d : DataW H} {p : List MemPlace} (hv : Value.okWide Tryd.prog W .any base 27 v)
    (h : DataW.Trod enc Tryd.prog W 0 (fun _ => true) true 27 v d p) (hw : Light 27 d) :
    ∃ (k : Int) (A : Option Addr) (n c : Nat) (D : Option Addr) (m d : Nat) (ts : List Cmdv) (xs : List Int), v = .agg #[.int .i64 k, .slice A n c, .slice D m d] ∧ IsInt k ∧ HasC W W.heap.size A ts ∧ ts.length = n ∧ n ≤ 2199023255488 ∧ (∀ c ∈ ts, IsCmd c) ∧ HasI W W.heap.size D xs ∧ xs.length = m ∧ m ≤ 17592186043904 ∧ ∀ c ∈ xs, IsInt c := by
  obtain ⟨cs, rfl, hsz⟩ := okWide_struct Tryd.underlying27 hv
  obtain ⟨fuel, hf⟩ := h
  obtain ⟨k, A, n, c, D, m, d, ts, xs, e, r⟩ := val_value (by have := hsz.trans cells_val3; simpa [Value.cells] using this) hf hw
  exact ⟨k, A, n, c, D, m, d, ts, xs, by rw [show cs = cs.toList.toArray from by simp]; simp only [Value.cells] at e; rw [e], r⟩

set_option maxRecDepth 20000 in
theorem open_cmd {base : Nat} {v : Value} {d : DataW H} {p : List MemPlace} (hv : Value.okWide Tryd.prog W .any base 32 v)
    (h : DataW.Trod enc Tryd.prog W 0 (fun _ => true) true 32 v d p) : ∃ q : Cmdv, v = q.val ∧ IsCmd q := by
  obtain ⟨cs, rfl, hsz⟩ := okWide_struct Tryd.underlying32 hv
  obtain ⟨fuel, hf⟩ := h
  obtain ⟨q, e, r⟩ := cmd_value (by have := hsz.trans cells_cmd8; simpa [Value.cells] using this) hf
  exact ⟨q, by rw [show cs = cs.toList.toArray from by simp]; simp only [Value.cells] at e; rw [e]; rfl, r⟩
end
end Go.Proofs.YtapbcpilklhoiabDoor

namespace Go.Proofs.YtapbcpilklhoiabDoor
open Go.ChangeShapes Go.WideShapes Go.ChangeAt Go.RowKit

theorem bytesOf_byte : Tryd.prog.bytesOf 5 = 1 := by kernel_rfl

/-- A byte out of a number that fits one. -/
theorem byt_of_wf (n : Int) (h : (Lit.int .u8 n).wf = true) : (Value.int .u8 n) = byt (UInt8.ofNat n.toNat) := by
  have hb := bounds_u8 h
  unfold byt
  congr 1
  simp
  omega

/-- What is known of a slice of bytes that came in. -/
structure Came {H : Type} (W : World) (a : Option Addr) (len cap : Nat) (xs : List UInt8) (d : DataW H) : Prop where
  has : Has W W.heap.size a xs
  len_eq : xs.length = len
  le : len ≤ cap
  room : cap ≤ maxLen
  datum : d = .nil ∧ cap = 0 ∨ ∃ es sp, d = .slice es sp ∧ es.length + sp.length = cap

theorem open_bytes {H : Type} {enc : TypeId × Value → H} {W : World} {a : Option Addr} {len cap : Nat} {d : DataW H} {ps : List MemPlace}
    (h : DataW.Trod enc Tryd.prog W 0 (fun _ => true) true 35 (.slice a len cap) d ps) : ∃ xs, Came W a len cap xs d := by
  obtain ⟨fuel, hf⟩ := h
  rcases open_ints Tryd.underlying35 Tryd.underlying5 (by kernel_rfl) hf with ⟨hcs, hx⟩ | ⟨x, l, c, zs, hcs, _, hl, hm, hz, hx, hcell, hwz⟩
  · simp [Value.cells] at hcs
    obtain ⟨rfl, rfl, rfl⟩ := hcs
    exact ⟨[], Has.nil _ _ _, rfl, Nat.le_refl _, by unfold maxLen; omega, .inl ⟨(Prod.mk.inj hx).1, rfl⟩⟩
  · simp [Value.cells] at hcs
    obtain ⟨rfl, rfl, rfl⟩ := hcs
    simp only [if_true] at hz
    refine ⟨(zs.take len).map fun n => UInt8.ofNat n.toNat, ?_, by simp; omega, hl, hm, .inr ⟨_, _, (Prod.mk.inj hx).1, by simp [lits]; omega⟩⟩
    intro k hk
    have hk' : k < zs.length := by simp at hk; omega
    have hc := hcell k hk'
    obtain ⟨b, o, s⟩ := x
    have hs : s = none := by
      have := World.cell?_spot (hcell 0 (by omega))
      simpa [Addr.add] using this
    subst hs
    have hc' : W.cell? ⟨b, o + k, none⟩ = some (.int .u8 (zs.getD k 0)) := by
      rw [← hc]; congr 1; unfold Addr.add; split <;> simp_all
    refine ⟨b, o, rfl, cell_lt hc', ?_⟩
    rw [hc', byt_of_wf _ (hwz _ (by simp [List.getD_eq_getElem?_getD, hk']))]
    simp [hk']
theorem Came.size {H : Type} {W : World} {a : Option Addr} {len cap : Nat} {xs : List UInt8} {d : DataW H} (h : Came W a len cap xs d) {ts : List TypeId} {ds : List (DataW H)}
    (hs : (DataW.weightsEach Tryd.prog ts ds).all (· ≤ reachBytes) = true) {j : Nat} (ht : ts[j]? = some 35) (hd : ds[j]? = some d) : cap ≤ 140737488351232 := by
  rcases h.datum with ⟨rfl, rfl⟩ | ⟨es, sp, rfl, he⟩
  · omega
  · have := sized_slice hs ht hd Tryd.underlying35
    rw [bytesOf_byte, he] at this
    simpa [reachBytes] using this
end Go.Proofs.YtapbcpilklhoiabDoor

namespace Go.Proofs.YtapbcpilklhoiabDoor
open Go.RowKit

theorem cmd_info : (Tryd.prog.info? 32).map (fun i => (i.zero, i.size, i.bytes)) = some (some (Value.agg #[.int .i64 0, .int .i64 0, .int .i64 0, .int .i64 0, .int .i64 0, .int .i64 0, .int .i64 0, .int .i64 0]), 8, 64) := by kernel_rfl

def Cmdv.cells (c : Cmdv) : List Value := [.int .i64 c.s, .int .i64 c.q, .int .i64 c.a, .int .i64 c.k, .int .i64 c.r, .int .i64 c.t, .int .i64 c.re, .int .i64 c.im]
def flatC (cs : List Cmdv) : List Value := cs.flatMap Cmdv.cells
theorem flatC_length (cs : List Cmdv) : (flatC cs).length = cs.length * 8 := by
  induction cs with
  | nil => rfl
  | cons c cs ih =>
    have e : flatC (c :: cs) = c.cells ++ flatC cs := rfl
    have h8 : c.cells.length = 8 := rfl
    rw [e, List.length_append, ih, List.length_cons, h8]
    omega
theorem flatC_get (cs : List Cmdv) (i r : Nat) (hi : i < cs.length) (hr : r < 8) : (flatC cs)[i * 8 + r]? = cs[i].cells[r]? := by
  induction cs generalizing i with
  | nil => simp at hi
  | cons c cs ih =>
    have e : flatC (c :: cs) = c.cells ++ flatC cs := rfl
    have h8 : c.cells.length = 8 := rfl
    rw [e]
    match i with
    | 0 => rw [List.getElem?_append_left (by rw [h8]; omega)]; simp
    | i + 1 =>
      rw [List.getElem?_append_right (by rw [h8]; omega), h8, show (i + 1) * 8 + r - 8 = i * 8 + r from by omega, ih i (by simpa using hi)]
      simp
theorem flatC_one (cs : List Cmdv) : ∀ u ∈ flatC cs, u.oneCell' = true := by
  intro u hu
  obtain ⟨c, _, h⟩ := List.mem_flatMap.1 hu
  simp only [Cmdv.cells, List.mem_cons, List.not_mem_nil, or_false] at h
  rcases h with rfl | rfl | rfl | rfl | rfl | rfl | rfl | rfl <;> rfl
theorem flatC_append (cs ds : List Cmdv) : flatC (cs ++ ds) = flatC cs ++ flatC ds := List.flatMap_append

/-- Cells that are laid one behind the other read as commands. -/
theorem HasC.of_cells {w : World} {B g : Nat} {cs : List Cmdv} (hg : g < B) (h : ∀ j u, (flatC cs)[j]? = some u → w.cell? ⟨g, j, none⟩ = some u) : HasC w B (some ⟨g, 0, none⟩) cs := by
  intro i hi
  have key : ∀ r, r < 8 → ∀ u, cs[i].cells[r]? = some u → w.cell? ⟨g, 0 + i * 8 + r, none⟩ = some u := fun r hr u hu => by
    rw [Nat.zero_add]
    exact h _ _ ((flatC_get cs i r hi hr).trans hu)
  exact ⟨g, 0, rfl, hg, key 0 (by omega) _ rfl, key 1 (by omega) _ rfl, key 2 (by omega) _ rfl, key 3 (by omega) _ rfl, key 4 (by omega) _ rfl, key 5 (by omega) _ rfl, key 6 (by omega) _ rfl, key 7 (by omega) _ rfl⟩
/-- And the other way. -/
theorem HasC.cells {w : World} {B : Nat} {b o : Nat} {cs : List Cmdv} (h : HasC w B (some ⟨b, o, none⟩) cs) (j : Nat) (u : Value) (hu : (flatC cs)[j]? = some u) : w.cell? ⟨b, o + j, none⟩ = some u := by
  have hj : j < cs.length * 8 := by
    rw [← flatC_length]
    rcases Nat.lt_or_ge j (flatC cs).length with h1 | h1
    · exact h1
    · rw [List.getElem?_eq_none h1] at hu; cases hu
  have hi : j / 8 < cs.length := by omega
  obtain ⟨b', o', e, _, h0, h1, h2, h3, h4, h5, h6, h7⟩ := h (j / 8) hi
  cases e
  have e8 := flatC_get cs (j / 8) (j % 8) hi (by omega)
  rw [show j / 8 * 8 + j % 8 = j from by omega, hu] at e8
  have ej : o + j = o + j / 8 * 8 + j % 8 := by omega
  rw [ej]
  have hr : j % 8 < 8 := by omega
  generalize j % 8 = r at *
  match r, hr with
  | 0, _ => rw [Nat.add_zero, h0]; exact e8.symm
  | 1, _ => rw [h1]; exact e8.symm
  | 2, _ => rw [h2]; exact e8.symm
  | 3, _ => rw [h3]; exact e8.symm
  | 4, _ => rw [h4]; exact e8.symm
  | 5, _ => rw [h5]; exact e8.symm
  | 6, _ => rw [h6]; exact e8.symm
  | 7, _ => rw [h7]; exact e8.symm

/-- The slice value v holds just cs, in a block of the call's own (from base on), or is nil. -/
def OwnC (w : World) (base : Nat) (v : Value) (cs : List Cmdv) : Prop := w.ownsRow base 32 8 v cs.length (flatC cs)
theorem OwnC.nil (w : World) (base : Nat) : OwnC w base (.slice none 0 0) [] := ⟨rfl, .inl ⟨rfl, rfl⟩⟩
theorem OwnC.lt {w : World} {base : Nat} {v : Value} {cs : List Cmdv} (h : OwnC w base v cs) : ∀ g, v.ownBlock = some g → base ≤ g ∧ g < w.heap.size := World.ownsRow.lt h
theorem OwnC.keep {w w' : World} {base : Nat} {v : Value} {cs : List Cmdv} (h : OwnC w base v cs) (hk : ∀ g, v.ownBlock = some g → w'.heap[g]? = w.heap[g]?) : OwnC w' base v cs := by
  refine ⟨h.1, ?_⟩
  rcases h.2 with h2 | ⟨g, cap, cur, hv, hg, hh, r⟩
  · exact .inl h2
  · exact .inr ⟨g, cap, cur, hv, hg, by rw [hk g (by rw [hv]; rfl)]; exact hh, r⟩
theorem OwnC.below {w w' : World} {base : Nat} {v : Value} {cs : List Cmdv} (h : OwnC w base v cs) (hb : Below w.heap.size w w') : OwnC w' base v cs :=
  h.keep fun g hg => hb.block g (h.lt g hg).2
theorem OwnC.form {w : World} {base : Nat} {v : Value} {cs : List Cmdv} (h : OwnC w base v cs) : ∃ A n c, v = .slice A n c ∧ Hid (cs.length = n) ∧ n ≤ c ∧ HasC w w.heap.size A cs := by
  rcases h.2 with ⟨hv, hn⟩ | ⟨g, cap, cur, hv, hg, hh, hnc, hm, hcs, ht⟩
  · have hx : cs = [] := List.eq_nil_of_length_eq_zero hn
    subst hx
    exact ⟨none, 0, 0, hv, rfl, Nat.le_refl _, HasC.nil _ _ _⟩
  · refine ⟨some ⟨g, 0, none⟩, cs.length, cap, hv, rfl, hnc, HasC.of_cells (lt_of_block hh) fun j u hu => ?_⟩
    rw [← ht] at hu
    have hj : j < cs.length * 8 := by
      rcases Nat.lt_or_ge j (cs.length * 8) with h1 | h1
      · exact h1
      · rw [List.getElem?_eq_none (by rw [List.length_take]; omega)] at hu; cases hu
    rw [List.getElem?_take_of_lt hj] at hu
    simp only [World.cell?, hh]
    simpa using hu

theorem run_append_cmds (w : World) (ty base : Nat) (v : Value) (cs : List Cmdv) (hown : OwnC w base v cs) (B : Nat) (A : Option Addr) (m c : Nat) (news : List Cmdv) (hr : HasC w B A news) (hm : news.length = m)
    (hlen : cs.length + m ≤ 2199023255552) (hbase : base ≤ w.heap.size) :
    ∃ v' w', (Builtin.append_ #[24, 24] ty #[v, .slice A m c]).run Tryd.prog w = .ok v' w' ∧ OwnC w' base v' (cs ++ news) ∧ w.grownBy w' v.ownBlock ∧ (v'.ownBlock = v.ownBlock ∨ v'.ownBlock = some w.heap.size) := by
  obtain ⟨i0, hi0, hz0, hz1, hz2⟩ := info_parts cmd_info
  subst hm
  rcases A with _ | ad
  · have hn : news = [] := by
      rcases Nat.eq_zero_or_pos news.length with h0 | h0
      · exact List.eq_nil_of_length_eq_zero h0
      · obtain ⟨_, _, e, _⟩ := hr 0 h0
        cases e
    subst hn
    refine ⟨v, w, ?_, by simpa using hown, World.grownBy.refl w _, .inl rfl⟩
    rcases hown.2 with ⟨rfl, _⟩ | ⟨g, cap, cur, rfl, _, _, hnc, _⟩
    · simp [Builtin.append_, run_underlying Tryd.underlying24, sizeOf, typeInfo, hi0, Builtin.lenOf, Builtin.firstCells]
    · simp [Builtin.append_, run_underlying Tryd.underlying24, sizeOf, typeInfo, hi0, Builtin.lenOf, Builtin.firstCells, hnc, storeCells]
  · have hcells : ∀ j u, (flatC news)[j]? = some u → w.cell? (ad.add j) = some u := by
      intro j u hu
      rcases Nat.eq_zero_or_pos news.length with h0 | h0
      · have : news = [] := List.eq_nil_of_length_eq_zero h0
        subst this
        simp [flatC] at hu
      · obtain ⟨b, o, e, _⟩ := hr 0 h0
        have e' := Option.some.inj e
        subst e'
        have ea : (⟨b, o, none⟩ : Addr).add j = ⟨b, o + j, none⟩ := by
          unfold Addr.add
          split <;> simp_all
        rw [ea]
        exact hr.cells j u hu
    obtain ⟨v', w', hrun, h2, h3, _, h5⟩ := run_append_own_at (P := Tryd.prog) w base 24 ty 32 i0 _ 8 64 Tryd.underlying24 hi0 hz0 hz1 hz2 rfl (by omega) v cs.length (flatC cs) hown ad news.length c (flatC news) (flatC_length news) hcells (flatC_one news)
      (by unfold maxLen; omega) (by omega) hbase
    exact ⟨v', w', hrun, by unfold OwnC; rw [List.length_append, flatC_append]; exact h2, h3, h5⟩

theorem OwnC.empty (w : World) (g base : Nat) (hg : g = w.heap.size) (hb : base ≤ g) : OwnC (w.alloc (.cells #[] 32)) base (.slice (some ⟨g, 0, none⟩) 0 0) [] := by
  subst hg
  exact ⟨rfl, .inr ⟨w.heap.size, 0, #[], rfl, hb, heap_alloc_new w _, Nat.le_refl _, by unfold maxLen; omega, rfl, rfl⟩⟩

/-- A copy: what append of commands onto an empty slice gives. -/
theorem run_copy_cmds (w : World) (ty : Nat) (A : Option Addr) (m c B : Nat) (cs : List Cmdv) (hr : HasC w B A cs) (hm : cs.length = m) (hlen : m ≤ 2199023255552) (hB : B ≤ w.heap.size) :
    ∃ v' w', (Builtin.append_ #[24, 24] ty #[.slice (some ⟨w.heap.size, 0, none⟩) 0 0, .slice A m c]).run Tryd.prog (w.alloc (.cells #[] 32)) = .ok v' w' ∧ OwnC w' w.heap.size v' cs ∧ Below w.heap.size w w' := by
  obtain ⟨v', w', h1, h2, h3, h4⟩ := run_append_cmds (w.alloc (.cells #[] 32)) ty w.heap.size _ [] (OwnC.empty w _ _ rfl (Nat.le_refl _)) B A m c cs (hr.alloc hB _) hm (by simp; omega) (by simp)
  exact ⟨v', w', h1, by simpa using h2, ((Below.refl _ _).alloc (Nat.le_refl _) _).grown h3 (by simp) (by intro k hk; cases hk; exact Nat.le_refl _)⟩
end Go.Proofs.YtapbcpilklhoiabDoor

namespace Go.Proofs.YtapbcpilklhoiabDoor
open Go.RowKit

/-- The number of an int's bits. -/
def unb (n : Int) : Nat := (n % 18446744073709551616).toNat
theorem unb_lt (n : Int) : unb n < 18446744073709551616 := by unfold unb; omega
theorem unb_wrap (n : Int) : IntKind.u64.wrap n = (unb n : Int) := by unfold unb; rw [IntKind.wrap_u64]; omega
theorem unb_nat (n : Nat) (h : n < 18446744073709551616) : unb (n : Int) = n := by unfold unb; omega

def encCs (cs : List Cmdv) : List UInt8 := cs.flatMap fun c => encL c.ints
def encNs (ns : List Int) : List UInt8 := ns.flatMap fun m => enc (unb m)
theorem encCs_take (cs : List Cmdv) (k : Nat) (hk : k < cs.length) : encCs (cs.take (k + 1)) = encCs (cs.take k) ++ encL cs[k].ints := by
  unfold encCs
  rw [List.take_succ_eq_append_getElem hk, List.flatMap_append, List.flatMap_singleton]
theorem encNs_take (ns : List Int) (k : Nat) (hk : k < ns.length) : encNs (ns.take (k + 1)) = encNs (ns.take k) ++ enc (unb ns[k]) := by
  unfold encNs
  rw [List.take_succ_eq_append_getElem hk, List.flatMap_append, List.flatMap_singleton]
theorem encCs_length (cs : List Cmdv) : (encCs cs).length ≤ 72 * cs.length := by
  induction cs with
  | nil => simp [encCs]
  | cons x xs ih =>
    have e : encCs (x :: xs) = encL x.ints ++ encCs xs := rfl
    have := encL_length x.ints
    have h8 : x.ints.length = 8 := rfl
    rw [e, List.length_append, List.length_cons]
    omega
theorem encNs_length (ns : List Int) : (encNs ns).length ≤ 9 * ns.length := by
  induction ns with
  | nil => simp [encNs]
  | cons x xs ih =>
    have e : encNs (x :: xs) = enc (unb x) ++ encNs xs := rfl
    have := bw_le (unb x)
    rw [e, List.length_append, enc_length, List.length_cons]
    omega
/-- The bytes of a value. -/
def encV (kd : Int) (cs : List Cmdv) (ns : List Int) : List UInt8 := enc (unb kd) ++ (enc cs.length ++ (encCs cs ++ (enc ns.length ++ encNs ns)))

theorem Kept.cell {F : Nat → Prop} {w w' : World} (h : Kept F w w') {k i : Nat} (hk : k < w.heap.size) (hF : ¬ F k) : w'.cell? ⟨k, i, none⟩ = w.cell? ⟨k, i, none⟩ :=
  World.cell?_of_block (w := w) (a := ⟨k, i, none⟩) (h.block k hk hF)

/-- What stands behind calls that write: the writer, where its bytes lie, what is kept. -/
structure WGo (g : Nat) (b : Option Nat) (base : Nat) (W0 : World) (ys : List UInt8) (b' : Option Nat) (w' : World) : Prop where
  wr : Wr w' base g b' ys
  lie : b' = b ∨ ∃ k, b' = some k ∧ W0.heap.size ≤ k
  kept : Kept (Foot g b) W0 w'
theorem WGo.step {g : Nat} {b b1 : Option Nat} {base : Nat} {W0 w1 w2 : World} {ys zs : List UInt8} (h : WGo g b base W0 ys b1 w1)
    {b2 : Option Nat} (hw : Wr w2 base g b2 zs) (hl : b2 = b1 ∨ ∃ k, b2 = some k ∧ w1.heap.size ≤ k) (hk : Kept (Foot g b1) w1 w2) : WGo g b base W0 zs b2 w2 :=
  ⟨hw, lies_step h.lie hl h.kept.size, h.kept.step hk (foot_step h.lie)⟩
theorem WGo.drew {g : Nat} {b b1 : Option Nat} {base : Nat} {W0 w1 : World} {ys : List UInt8} (h : WGo g b base W0 ys b1 w1) : WGo g b base W0 ys b1 w1.drew :=
  ⟨h.wr, h.lie, h.kept.drew⟩
theorem WGo.alloc {g : Nat} {b b1 : Option Nat} {base : Nat} {W0 w1 : World} {ys : List UInt8} (h : WGo g b base W0 ys b1 w1) (o : Obj) : WGo g b base W0 ys b1 (w1.alloc o) :=
  ⟨h.wr.below ((Below.refl _ _).alloc (Nat.le_refl _) o), h.lie, h.kept.step (Kept.of_below (F := fun _ => False) ((Below.refl _ _).alloc (Nat.le_refl _) o)) (fun _ h => h.elim)⟩

set_option maxHeartbeats 1600000 in
theorem vwrite_any (g base : Nat) (b : Option Nat) (xs : List UInt8) (kd : Int) (A A' : Option Addr) (n c n' c' B : Nat) (cs : List Cmdv) (ns : List Int) (w : World) (hw : Wr w base g b xs) (hC : HasC w B A cs) (hN : HasI w B A' ns) (hB : B ≤ base)
    (hn : cs.length = n) (hn' : ns.length = n') (hcs : ∀ x ∈ cs, IsCmd x) (hlen : xs.length + 27 + 72 * n + 9 * n' ≤ 140737488355328) :
    Calls Tryd.prog 34 #[.pointer (some ⟨g, 0, none⟩), .agg #[.int .i64 kd, .slice A n c, .slice A' n' c']] w (PEnds g b base (xs ++ encV kd cs ns) w) := by
  have hgs := hw.lt
  have hbs : base ≤ w.heap.size := by have := hw.1; omega
  go_enter Tryd.func34, Tryd.ntmps34
  go_wp2_with fail
  have c0 : (w.alloc (.cells #[.int .i64 kd, .slice A n c, .slice A' n' c'] 27)).cell? ⟨w.heap.size, 0, none⟩ = some (.int .i64 kd) := cell_of_row _ _ _ _ _ _ (heap_alloc_new w _)
  have c1 : (w.alloc (.cells #[.int .i64 kd, .slice A n c, .slice A' n' c'] 27)).cell? ⟨w.heap.size, 1, none⟩ = some (.slice A n c) := cell_of_row _ _ _ _ _ _ (heap_alloc_new w _)
  have c2 : (w.alloc (.cells #[.int .i64 kd, .slice A n c, .slice A' n' c'] 27)).cell? ⟨w.heap.size, 2, none⟩ = some (.slice A' n' c') := cell_of_row _ _ _ _ _ _ (heap_alloc_new w _)
  have hb0 : Below w.heap.size w (w.alloc (.cells #[.int .i64 kd, .slice A n c, .slice A' n' c'] 27)) := (Below.refl _ _).alloc (Nat.le_refl _) _
  have hsz : (w.alloc (.cells #[.int .i64 kd, .slice A n c, .slice A' n' c'] 27)).heap.size = w.heap.size + 1 := by simp
  generalize w.alloc (.cells #[.int .i64 kd, .slice A n c, .slice A' n' c'] 27) = W0 at *
  have hC0 : HasC W0 B A cs := hC.on (by omega) hb0
  have hN0 : HasI W0 B A' ns := hN.on (by omega) hb0
  have hw0 : WGo g b base W0 xs b W0 := ⟨hw.below hb0, .inl rfl, Kept.refl _ _⟩
  have hft := hw.foot
  have hbox : ¬ Foot g b w.heap.size := fun h => by have := (hft _ h).2; omega
  have hlow : ∀ k, Foot g b k → base ≤ k := fun k h => (hft k h).1
  have HEnd : Hid (∀ b' ys w', WGo g b base W0 ys b' w' → PEnds g b base ys w (.returned (.tuple #[])) w') := hide (fun b' ys w' h => ⟨rfl, b', h.wr, by
    rcases h.lie with h1 | ⟨k, h1, h2⟩
    · exact .inl h1
    · exact .inr ⟨k, h1, by omega⟩, (Kept.of_below hb0).step h.kept (fun k hk => .inl hk)⟩)
  clear hC hN hw hb0 hft
  generalize w.heap.size = gb at *
  have hgb : gb < W0.heap.size := by omega
  have HKC : Hid (∀ ys b' w', WGo g b base W0 ys b' w' → w'.cell? ⟨gb, 0, none⟩ = some (.int .i64 kd) ∧ w'.cell? ⟨gb, 1, none⟩ = some (.slice A n c) ∧ w'.cell? ⟨gb, 2, none⟩ = some (.slice A' n' c')) := hide (fun ys b' w' h => ⟨(h.kept.cell hgb hbox).trans c0, (h.kept.cell hgb hbox).trans c1, (h.kept.cell hgb hbox).trans c2⟩)
  have HHC : Hid (∀ ys b' w', WGo g b base W0 ys b' w' → HasC w' B A cs ∧ HasI w' B A' ns) := hide (fun ys b' w' h => ⟨hC0.keep fun k _ _ hk => h.kept.block k (by omega) (fun hf => by have := hlow k hf; omega), hN0.keep fun k hk => h.kept.block k (by omega) (fun hf => by have := hlow k hf; omega)⟩)
  have hku := unb_wrap kd
  have hnu : IntKind.u64.wrap (n : Int) = (n : Int) := by rw [IntKind.wrap_u64]; omega
  have hnu' : IntKind.u64.wrap (n' : Int) = (n' : Int) := by rw [IntKind.wrap_u64]; omega
  have hbk := bw_le (unb kd)
  have hbn := bw_le n
  have hbn' := bw_le n'
  have HN : Hid (∀ (u : Nat) (ys : List UInt8) (b1 : Option Nat) (W : World), u < 18446744073709551616 → ys.length + 9 ≤ 140737488355328 → WGo g b base W0 ys b1 W → Calls Tryd.prog 33 #[.pointer (some ⟨g, 0, none⟩), .int .u64 (u : Int)] W fun e w' => e = .returned (.pointer (some ⟨g, 0, none⟩)) ∧ ∃ b', WGo g b base W0 (ys ++ enc u) b' w') := hide (fun u ys b1 W hu hl h => (wnum_any g base b1 ys u W h.wr hu hl).mono fun e w' => by
    rintro ⟨rfl, b2, hw2, hb2, hk2⟩
    exact ⟨rfl, b2, h.step hw2 hb2 hk2⟩)
  have L1 := hide (show xs.length + 9 ≤ 140737488355328 by omega)
  have L2 := hide (show (xs ++ enc (unb kd)).length + 9 ≤ 140737488355328 by rw [List.length_append, enc_length]; omega)
  have U1 := hide (unb_lt kd)
  have U2 := hide (show n < 18446744073709551616 by omega)
  have U3 := hide (show n' < 18446744073709551616 by omega)
  generalize hu : unb kd = u at *
  have HU := hide hu
  clear hu
  go_region_held3 (fun w' => w'.cell? ⟨gb, 0, none⟩ = some (.int .i64 kd) ∧ w'.cell? ⟨gb, 1, none⟩ = some (.slice A n c)) (first | exact ⟨c0, c1⟩ | exact ⟨(HKC.out _ _ _ h2).1, (HKC.out _ _ _ h2).2.1⟩ | exact ⟨(HKC.out _ _ _ h3).1, (HKC.out _ _ _ h3).2.1⟩ | go_keep) (first
    | ((go_at_call 33; (with_reducible refine (HN.out u xs b _ U1.out L1.out ?_).mono ?_)); exact hw0.drew; rintro e w2 ⟨rfl, b2, h2⟩)
    | ((go_at_call 33; (with_reducible refine (HN.out n (xs ++ enc u) b2 _ U2.out L2.out ?_).mono ?_)); exact h2; rintro e w3 ⟨rfl, b3, h3⟩))
  clear h2 hw0
  obtain ⟨k0, k1, k2⟩ := HKC.out _ _ _ h3
  go_wp2_with fail
  have HLC := hide (fun k => encCs_length (cs.take k))
  have HLN := hide (fun k => encNs_length (ns.take k))
  have hle3 : (xs ++ enc u ++ enc n).length ≤ xs.length + 18 := by rw [List.length_append, List.length_append, enc_length, enc_length]; omega
  have HXS : Hid (∀ zs, xs ++ enc u ++ enc n ++ zs = xs ++ (enc u ++ (enc n ++ zs))) := hide (fun zs => by simp)
  generalize xs ++ enc u ++ enc n = ys at *
  have HCS := hide hcs
  have HNN := hide hn
  have HNN' := hide hn'
  clear hcs hn hn' L1 L2 hlow hbox hgs hbs
  go_loopw [21] (fun i wr => ∃ (k : Nat) (b' : Option Nat), k ≤ n ∧ i = .int .i64 k ∧ WGo g b base W0 (ys ++ encCs (cs.take k)) b' wr) (fun i _ => n - (intOf i).toNat)
  case atStart => exact ⟨0, b3, Nat.zero_le _, rfl, by simpa [encCs] using h3⟩
  case round =>
    clear k0 k1 k2 h3
    obtain ⟨k, b1, hk, rfl, h1⟩ := hrel
    by_cases hlt : k < n
    · have hlt' : k < cs.length := by rw [HNN.out]; exact hlt
      have hcm := HCS.out _ (List.getElem_mem hlt')
      have htk := encCs_take cs k hlt'
      have hcl := (HHC.out _ _ _ h1).1 k hlt'
      have hle : (ys ++ encCs (cs.take k)).length + 72 ≤ 140737488355328 := by
        have := HLC.out k
        rw [List.length_take] at this
        rw [List.length_append]
        omega
      generalize cs[k] = cm at *
      obtain ⟨ab, ao, rfl, hab, e0, e1, e2, e3, e4, e5, e6, e7⟩ := hcl
      generalize hzs : ys ++ encCs (cs.take k) = zs at *
      have HZ : Hid (ys ++ encCs (cs.take (k + 1)) = zs ++ encL cm.ints) := hide (by rw [htk, ← List.append_assoc, hzs])
      have HL := hide hle
      clear hle htk hzs
      go_wp2_with fail
      refine (putcmd_any g base b1 zs cm _ (h1.alloc _).wr hcm HL.out).mono ?_
      rintro e w4 ⟨rfl, b4, hw4, hb4, hk4⟩
      have h4 := (h1.alloc (.cells #[.int .i64 cm.s, .int .i64 cm.q, .int .i64 cm.a, .int .i64 cm.k, .int .i64 cm.r, .int .i64 cm.t, .int .i64 cm.re, .int .i64 cm.im] 32)).step hw4 hb4 hk4
      go_wp2
      go_roundw
      case rel => exact ⟨k + 1, b4, by omega, by go_num, by rw [HZ.out]; exact h4⟩
      case measure => simp [intOf]; omega
    · obtain rfl : k = n := by omega
      obtain ⟨k0, k1, k2⟩ := HKC.out _ _ _ h1
      have hcs : cs.take k = cs := List.take_of_length_le (by rw [HNN.out]; omega)
      rw [hcs] at h1
      have L3 : Hid ((ys ++ encCs cs).length + 9 ≤ 140737488355328) := hide (by
        have := HLC.out k
        rw [hcs, HNN.out] at this
        rw [List.length_append]
        omega)
      go_wp2_with fail
      refine (HN.out n' (ys ++ encCs cs) b1 _ U3.out L3.out h1).mono ?_
      rintro e w5 ⟨rfl, b5, h5⟩
      obtain ⟨k0, k1, k2⟩ := HKC.out _ _ _ h5
      go_wp2_with fail
      have hle5 : (ys ++ encCs cs ++ enc n').length ≤ xs.length + 27 + 72 * k := by
        have := HLC.out k
        rw [hcs, HNN.out] at this
        rw [List.length_append, List.length_append, enc_length]
        omega
      have HALL : Hid (xs ++ encV kd cs ns = ys ++ encCs cs ++ enc n' ++ encNs ns) := hide (by
        unfold encV
        rw [HU.out, HNN.out, HNN'.out, ← HXS.out]
        simp)
      generalize ys ++ encCs cs ++ enc n' = qs at *
      clear h1 k0 k1 k2 hcs
      go_loopw [38] (fun i wr => ∃ (j : Nat) (b' : Option Nat), j ≤ n' ∧ i = .int .i64 j ∧ WGo g b base W0 (qs ++ encNs (ns.take j)) b' wr) (fun i _ => n' - (intOf i).toNat)
      case atStart => exact ⟨0, b5, Nat.zero_le _, rfl, by simpa [encNs] using h5⟩
      case round =>
        clear h5
        obtain ⟨j, b6, hj, rfl, h6⟩ := hrel
        by_cases hlt : j < n'
        · have hlt' : j < ns.length := by rw [HNN'.out]; exact hlt
          have htk := encNs_take ns j hlt'
          have hcl := (HHC.out _ _ _ h6).2 j hlt'
          have hle : (qs ++ encNs (ns.take j)).length + 9 ≤ 140737488355328 := by
            have := HLN.out j
            rw [List.length_take] at this
            rw [List.length_append]
            omega
          generalize ns[j] = m at *
          obtain ⟨ab, ao, rfl, hab, e0⟩ := hcl
          generalize hzs : qs ++ encNs (ns.take j) = zs at *
          have HZ : Hid (qs ++ encNs (ns.take (j + 1)) = zs ++ enc (unb m)) := hide (by rw [htk, ← List.append_assoc, hzs])
          have HL := hide hle
          have hmu := unb_wrap m
          have UM := hide (unb_lt m)
          clear hle htk hzs
          go_wp2_with fail
          refine (HN.out (unb m) zs b6 _ UM.out HL.out h6).mono ?_
          rintro e w7 ⟨rfl, b7, h7⟩
          go_wp2
          go_roundw
          case rel => exact ⟨j + 1, b7, by omega, by go_num, by rw [HZ.out]; exact h7⟩
          case measure => simp [intOf]; omega
        · obtain rfl : j = n' := by omega
          have hns : ns.take j = ns := List.take_of_length_le (by rw [HNN'.out]; omega)
          rw [hns] at h6
          go_wp2
          go_end0
          rw [HALL.out]
          exact HEnd.out _ _ _ h6
end Go.Proofs.YtapbcpilklhoiabDoor

namespace Go.Proofs.YtapbcpilklhoiabDoor
open Go.RowKit

/-- What a reader has left, and its error. -/
abbrev RSt := List UInt8 × Nat
def ri (s : RSt) : Int × RSt := if s.2 = 0 then (zag (rn s.1).1, (rn s.1).2) else (0, s)
def rc (most : Int) (s : RSt) : Nat × RSt := if s.2 = 0 then rcn s.1 most else (0, s)

theorem rint_st (g : Nat) (b : Option Nat) (s : RSt) (w : World) (h : Rd w g b s.1 s.2) : Calls Tryd.prog 84 #[.pointer (some ⟨g, 0, none⟩)] w (REnds g b (.int .i64 (ri s).1) (ri s).2.1 (ri s).2.2 w) := by
  obtain ⟨xs, er⟩ := s
  by_cases h0 : er = 0
  · subst h0
    exact rint_any g b xs w h
  · have e : ri (xs, er) = (0, (xs, er)) := if_neg h0
    rw [e]
    refine (rint_stuck g b xs er w h h0).mono ?_
    rintro e w' ⟨rfl, rfl⟩
    exact ⟨rfl, b, h, .inl rfl, Kept.refl _ _⟩
theorem rcount_st (g : Nat) (b : Option Nat) (s : RSt) (most : Int) (w : World) (h : Rd w g b s.1 s.2) (hm : IsInt most) : Calls Tryd.prog 50 #[.pointer (some ⟨g, 0, none⟩), .int .i64 most] w (REnds g b (.int .i64 ((rc most s).1 : Int)) (rc most s).2.1 (rc most s).2.2 w) := by
  obtain ⟨xs, er⟩ := s
  by_cases h0 : er = 0
  · subst h0
    exact rcount_any g b xs most w h hm
  · have e : rc most (xs, er) = (0, (xs, er)) := if_neg h0
    rw [e]
    refine (rcount_stuck g b xs er most w h h0 hm).mono ?_
    rintro e w' ⟨rfl, rfl⟩
    exact ⟨rfl, b, h, .inl rfl, Kept.refl _ _⟩

/-- What stands behind calls that read. -/
structure RGo (g : Nat) (b : Option Nat) (W0 : World) (s : RSt) (b' : Option Nat) (w' : World) : Prop where
  rd : Rd w' g b' s.1 s.2
  lie : b' = b ∨ b' = none
  kept : Kept (fun k => k = g) W0 w'
theorem RGo.step {g : Nat} {b b1 : Option Nat} {W0 w1 w2 : World} {s t : RSt} (h : RGo g b W0 s b1 w1) {b2 : Option Nat} (hr : Rd w2 g b2 t.1 t.2) (hl : b2 = b1 ∨ b2 = none) (hk : Kept (fun k => k = g) w1 w2) : RGo g b W0 t b2 w2 :=
  ⟨hr, by rcases hl with h1 | h1; rw [h1]; exact h.lie; exact .inr h1, h.kept.step hk (fun _ h => .inl h)⟩
theorem RGo.int {g : Nat} {b b1 : Option Nat} {W0 w1 : World} {s : RSt} (h : RGo g b W0 s b1 w1) : Calls Tryd.prog 84 #[.pointer (some ⟨g, 0, none⟩)] w1 fun e w' => e = .returned (.int .i64 (ri s).1) ∧ ∃ b', RGo g b W0 (ri s).2 b' w' :=
  (rint_st g b1 s w1 h.rd).mono fun e w' ⟨he, b2, hr, hl, hk⟩ => ⟨he, b2, h.step hr hl hk⟩
theorem RGo.count {g : Nat} {b b1 : Option Nat} {W0 w1 : World} {s : RSt} (h : RGo g b W0 s b1 w1) (most : Int) (hm : IsInt most) : Calls Tryd.prog 50 #[.pointer (some ⟨g, 0, none⟩), .int .i64 most] w1 fun e w' => e = .returned (.int .i64 ((rc most s).1 : Int)) ∧ ∃ b', RGo g b W0 (rc most s).2 b' w' :=
  (rcount_st g b1 s most w1 h.rd hm).mono fun e w' ⟨he, b2, hr, hl, hk⟩ => ⟨he, b2, h.step hr hl hk⟩
theorem RGo.alloc {g : Nat} {b b1 : Option Nat} {W0 w1 : World} {s : RSt} (h : RGo g b W0 s b1 w1) (o : Obj) : RGo g b W0 s b1 (w1.alloc o) :=
  ⟨h.rd.below ((Below.refl _ _).alloc (Nat.le_refl _) o), h.lie, h.kept.step (Kept.of_below (F := fun _ => False) ((Below.refl _ _).alloc (Nat.le_refl _) o)) (fun _ h => h.elim)⟩
theorem RGo.start {g : Nat} {b : Option Nat} {w : World} {s : RSt} (h : Rd w g b s.1 s.2) : RGo g b w s b w := ⟨h, .inl rfl, Kept.refl _ _⟩
theorem RGo.lt {g : Nat} {b b1 : Option Nat} {W0 w1 : World} {s : RSt} (h : RGo g b W0 s b1 w1) : g < w1.heap.size := by
  obtain ⟨_, _, _, hv, _⟩ := h.rd
  exact lt_of_block hv

/-- A command as it is read. -/
def tk (s : RSt) : Cmdv × RSt :=
  let s1 := (ri s).2
  let s2 := (ri s1).2
  let s3 := (ri s2).2
  let s4 := (ri s3).2
  let s5 := (ri s4).2
  let s6 := (ri s5).2
  let s7 := (ri s6).2
  (⟨(ri s).1, (ri s1).1, (ri s2).1, (ri s3).1, (ri s4).1, (ri s5).1, (ri s6).1, (ri s7).1⟩, (ri s7).2)

def zc8 : Array Value := #[.int .i64 0, .int .i64 0, .int .i64 0, .int .i64 0, .int .i64 0, .int .i64 0, .int .i64 0, .int .i64 0]
theorem row_cells {w : World} {g : Nat} {cs : Array Value} {t : TypeId} (h : w.heap[g]? = some (.cells cs t (0, 0))) (i : Nat) : w.cell? ⟨g, i, none⟩ = cs[i]? ∧ w.frozen? ⟨g, i, none⟩ = false := ⟨cell_of_row _ _ _ _ _ _ h, by simp [World.frozen?, h]⟩

theorem five_set {w : World} {g : Nat} {t : TypeId} {a0 a1 a2 a3 a4 a5 a6 a7 : Value} (h : w.heap[g]? = some (.cells #[a0, a1, a2, a3, a4, a5, a6, a7] t (0, 0))) (y3 y4 y5 y6 y7 : Value) :
    (((((w.setCell ⟨g, 3, none⟩ y3).setCell ⟨g, 4, none⟩ y4).setCell ⟨g, 5, none⟩ y5).setCell ⟨g, 6, none⟩ y6).setCell ⟨g, 7, none⟩ y7).heap[g]? = some (.cells #[a0, a1, a2, y3, y4, y5, y6, y7] t (0, 0)) := by
  simp [World.setCell, Array.getElem?_modify, h]
theorem Kept.of_setRow (w : World) (g : Nat) (A : Array Value) : Kept (fun k => k = g) w (w.setRow g A) :=
  ⟨rfl, rfl, rfl, by simp [World.setRow], fun k _ hn => by simp only [World.setRow, Array.getElem?_modify]; rw [if_neg (fun h => hn h.symm)]⟩
theorem set_row_at {w : World} {g : Nat} {t : TypeId} {A B : Array Value} {fr : Nat × Nat} (h : w.heap[g]? = some (.cells A t fr)) : (w.setRow g B).heap[g]? = some (.cells B t fr) := by
  simp [World.setRow, Array.getElem?_modify, h]

theorem results_cmd {tmps : Array Value} {w : World} {g : Nat} {A : Array Value} {t : TypeId} (h2 : tmps.getD 2 undef = .pointer (some ⟨g, 0, none⟩)) (hA : w.heap[g]? = some (.cells A t (0, 0))) (sA : A.size = 8) :
    (results Tryd.f83 tmps).run Tryd.prog w = .ok (.agg A) w := by
  have h2' : tmps[2]?.getD undef = .pointer (some ⟨g, 0, none⟩) := by simpa using h2
  have i1 : (Tryd.prog.info? 32).map (·.size) = some A.size := by rw [sA]; kernel_rfl
  have e1 := run_loadVar_row (P := Tryd.prog) w g t 32 A (0, 0) _ hA Tryd.underlying32 rfl i1
  simp [results, Tryd.results83, h2', asAddr, e1]

set_option maxHeartbeats 1600000 in
theorem takecmd_any (g : Nat) (b : Option Nat) (s : RSt) (w : World) (h : Rd w g b s.1 s.2) (hf : ∀ k, b = some k → k < w.heap.size) : Calls Tryd.prog 83 #[.pointer (some ⟨g, 0, none⟩)] w fun e w' => e = .returned (tk s).1.val ∧ ∃ b', RGo g b w (tk s).2 b' w' := by
  have h0 := RGo.start h
  have hg0 := h0.lt
  go_enter Tryd.func83, Tryd.ntmps83
  go_wp2_with fail
  have hr1 := heap_alloc_new w (.cells zc8 32)
  have hb1 : Below w.heap.size w (w.alloc (.cells zc8 32)) := (Below.refl _ _).alloc (Nat.le_refl _) _
  have h01 := RGo.start (h0.alloc (.cells zc8 32)).rd
  have hs1 : (w.alloc (.cells zc8 32)).heap.size = w.heap.size + 1 := by simp
  unfold zc8 at hr1 hb1 h01 hs1
  generalize w.alloc (.cells #[.int .i64 0, .int .i64 0, .int .i64 0, .int .i64 0, .int .i64 0, .int .i64 0, .int .i64 0, .int .i64 0] 32) = W1 at *
  refine (RGo.int h01).mono ?_
  rintro e w1 ⟨rfl, b1, h1⟩
  go_wp2_with fail
  refine (RGo.int h1).mono ?_
  rintro e w2 ⟨rfl, b2, h2⟩
  go_wp2_with fail
  refine (RGo.int h2).mono ?_
  rintro e w3 ⟨rfl, b3, h3⟩
  have e8 : tk s = (⟨(ri s).1, (ri (ri s).2).1, (ri (ri (ri s).2).2).1, (ri (ri (ri (ri s).2).2).2).1, (ri (ri (ri (ri (ri s).2).2).2).2).1, (ri (ri (ri (ri (ri (ri s).2).2).2).2).2).1, (ri (ri (ri (ri (ri (ri (ri s).2).2).2).2).2).2).1, (ri (ri (ri (ri (ri (ri (ri (ri s).2).2).2).2).2).2).2).1⟩, (ri (ri (ri (ri (ri (ri (ri (ri s).2).2).2).2).2).2).2).2) := rfl
  have E8 := hide e8
  clear e8 h1 h2 h01
  generalize (ri s).1 = x1 at *
  generalize (ri (ri s).2).1 = x2 at *
  generalize (ri (ri (ri s).2).2).1 = x3 at *
  generalize (ri (ri (ri s).2).2).2 = s3 at *
  go_wp2_with fail
  have hr3 : w3.heap[w.heap.size]? = _ := (h3.kept.block w.heap.size (by omega) (by omega)).trans hr1
  have hr4 := (Below.heap_alloc w3 (.cells #[.int .i64 x1, .int .i64 x2, .int .i64 x3, .int .i64 0, .int .i64 0, .int .i64 0, .int .i64 0, .int .i64 0] 32) w.heap.size (lt_of_block hr3)).trans hr3
  have hc4 := heap_alloc_new w3 (.cells #[.int .i64 x1, .int .i64 x2, .int .i64 x3, .int .i64 0, .int .i64 0, .int .i64 0, .int .i64 0, .int .i64 0] 32)
  have hb4 := h3.kept.step (Kept.of_below (F := fun _ => False) ((Below.refl _ _).alloc (Nat.le_refl _) (.cells #[.int .i64 x1, .int .i64 x2, .int .i64 x3, .int .i64 0, .int .i64 0, .int .i64 0, .int .i64 0, .int .i64 0] 32))) (fun _ h => h.elim)
  have h04 := RGo.start (h3.alloc (.cells #[.int .i64 x1, .int .i64 x2, .int .i64 x3, .int .i64 0, .int .i64 0, .int .i64 0, .int .i64 0, .int .i64 0] 32)).rd
  have hs4 : (w3.alloc (.cells #[.int .i64 x1, .int .i64 x2, .int .i64 x3, .int .i64 0, .int .i64 0, .int .i64 0, .int .i64 0, .int .i64 0] 32)).heap.size = w3.heap.size + 1 := by simp
  have hlt3 := lt_of_block hr3
  have hg3 := h3.lt
  have hl3 := h3.lie
  generalize w3.alloc (.cells #[.int .i64 x1, .int .i64 x2, .int .i64 x3, .int .i64 0, .int .i64 0, .int .i64 0, .int .i64 0, .int .i64 0] 32) = W4 at *
  clear hr3 h3
  refine (RGo.int h04).mono ?_
  rintro e w5 ⟨rfl, b5, h5⟩
  go_wp2_with fail
  refine (RGo.int h5).mono ?_
  rintro e w6 ⟨rfl, b6, h6⟩
  go_wp2_with fail
  refine (RGo.int h6).mono ?_
  rintro e w7 ⟨rfl, b7, h7⟩
  go_wp2_with fail
  refine (RGo.int h7).mono ?_
  rintro e w8 ⟨rfl, b8, h8⟩
  go_wp2_with fail
  refine (RGo.int h8).mono ?_
  rintro e w9 ⟨rfl, b9, h9⟩
  have hg9 := h9.lt
  have hr9 := (h9.kept.block w.heap.size (by omega) (by omega)).trans hr4
  have hc9 := (h9.kept.block w3.heap.size (by omega) (by omega)).trans hc4
  have hz9 := lt_of_block hc9
  generalize (ri s3).1 = x4 at *
  generalize (ri (ri s3).2).1 = x5 at *
  generalize (ri (ri (ri s3).2).2).1 = x6 at *
  generalize (ri (ri (ri (ri s3).2).2).2).1 = x7 at *
  generalize (ri (ri (ri (ri (ri s3).2).2).2).2).1 = x8 at *
  generalize (ri (ri (ri (ri (ri s3).2).2).2).2).2 = s8 at *
  clear h5 h6 h7 h8 h04 hr4 hc4 hr1
  have ne1 : w.heap.size ≠ w3.heap.size := by omega
  have c3 := (row_cells hc9 3).1
  have c4 := (row_cells hc9 4).1
  have c5 := (row_cells hc9 5).1
  have c6 := (row_cells hc9 6).1
  have c7 := (row_cells hc9 7).1
  have f3 := (row_cells hc9 3).2
  have f4 := (row_cells hc9 4).2
  have f5 := (row_cells hc9 5).2
  have f6 := (row_cells hc9 6).2
  have f7 := (row_cells hc9 7).2
  simp only [List.getElem?_toArray, List.getElem?_cons_succ, List.getElem?_cons_zero] at c3 c4 c5 c6 c7
  have H9 := hide h9
  have HR9 := hide hr9
  have HC9 := hide hc9
  have HB4 := hide hb4
  clear hs1 hs4 hb4 h9 hr9 hc9
  go_upto_region 3 with fail
  have hc10 := five_set HC9.out (.int .i64 x4) (.int .i64 x5) (.int .i64 x6) (.int .i64 x7) (.int .i64 x8)
  have hk10 : Kept (fun k => k = w3.heap.size) w9 (((((w9.setCell ⟨w3.heap.size, 3, none⟩ (.int .i64 x4)).setCell ⟨w3.heap.size, 4, none⟩ (.int .i64 x5)).setCell ⟨w3.heap.size, 5, none⟩ (.int .i64 x6)).setCell ⟨w3.heap.size, 6, none⟩ (.int .i64 x7)).setCell ⟨w3.heap.size, 7, none⟩ (.int .i64 x8)) :=
    (((((Kept.refl (fun k => k = w3.heap.size) w9).setCell (p := ⟨w3.heap.size, 3, none⟩) (.inl rfl) _).setCell (p := ⟨w3.heap.size, 4, none⟩) (.inl rfl) _).setCell (p := ⟨w3.heap.size, 5, none⟩) (.inl rfl) _).setCell (p := ⟨w3.heap.size, 6, none⟩) (.inl rfl) _).setCell (p := ⟨w3.heap.size, 7, none⟩) (.inl rfl) _
  generalize ((((w9.setCell ⟨w3.heap.size, 3, none⟩ (.int .i64 x4)).setCell ⟨w3.heap.size, 4, none⟩ (.int .i64 x5)).setCell ⟨w3.heap.size, 5, none⟩ (.int .i64 x6)).setCell ⟨w3.heap.size, 6, none⟩ (.int .i64 x7)).setCell ⟨w3.heap.size, 7, none⟩ (.int .i64 x8) = w10 at *
  have hr10 := (hk10.block w.heap.size (by omega) ne1).trans HR9.out
  have hk11 := Kept.of_setRow w10 w.heap.size #[.int .i64 x1, .int .i64 x2, .int .i64 x3, .int .i64 x4, .int .i64 x5, .int .i64 x6, .int .i64 x7, .int .i64 x8]
  have hr11 := set_row_at (B := #[.int .i64 x1, .int .i64 x2, .int .i64 x3, .int .i64 x4, .int .i64 x5, .int .i64 x6, .int .i64 x7, .int .i64 x8]) hr10
  clear c3 c4 c5 c6 c7 f3 f4 f5 f6 f7
  go_wp2_with (first
    | (refine wpList_load_row rfl 32 _ rfl w3.heap.size rfl _ _ _ _ hc10 Tryd.underlying32 rfl (by kernel_rfl) ?_)
    | (refine wpList_store_row rfl 32 _ _ rfl w.heap.size #[.int .i64 x1, .int .i64 x2, .int .i64 x3, .int .i64 x4, .int .i64 x5, .int .i64 x6, .int .i64 x7, .int .i64 x8] rfl rfl _ _ hr10 (by kernel_rfl) rfl (by simp; exact ⟨rfl, rfl, rfl, rfl, rfl, rfl, rfl, rfl⟩) ?_; generalize w10.setRow w.heap.size #[.int .i64 x1, .int .i64 x2, .int .i64 x3, .int .i64 x4, .int .i64 x5, .int .i64 x6, .int .i64 x7, .int .i64 x8] = w11 at *))
  have hlie : ∀ k, Foot g b9 k → k < w.heap.size := by
    intro k hk
    rcases hk with rfl | hk
    · exact hg0
    · rcases H9.out.lie with e | e
      · rcases hl3 with e' | e'
        · exact hf k (by rw [← e', ← e]; exact hk)
        · rw [e, e'] at hk; cases hk
      · rw [e] at hk; cases hk
  refine bodyPost_ret (v := .agg #[.int .i64 x1, .int .i64 x2, .int .i64 x3, .int .i64 x4, .int .i64 x5, .int .i64 x6, .int .i64 x7, .int .i64 x8]) (results_cmd rfl hr11 rfl) rfl ⟨by rw [E8.out]; rfl, b9, ?_⟩
  rw [E8.out]
  refine ⟨(H9.out.rd.kept hk10 (fun k hk h => by have := hlie k hk; omega)).kept hk11 (fun k hk h => by have := hlie k hk; omega), ?_, ?_⟩
  · rcases H9.out.lie with e | e
    · rcases hl3 with e' | e'
      · exact .inl (e.trans e')
      · exact .inr (e.trans e')
    · exact .inr e
  · exact (((((Kept.of_below (F := fun k => k = g) hb1).step HB4.out (fun k hk => .inl hk)).step H9.out.kept (fun k hk => .inl hk)).step hk10 (fun k hk => .inr (by omega))).step hk11 (fun k hk => .inr (by omega)))
end Go.Proofs.YtapbcpilklhoiabDoor
