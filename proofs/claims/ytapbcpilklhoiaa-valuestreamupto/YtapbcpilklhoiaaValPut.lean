/-
  Commands and values as memory holds them; PutCmd and Write of package value. Conditions: what is read is in reach.
-/
import Derived.Test.YtapbcpilklhoiaaReaderText
import Derived.Test.YtapbcpilklhoiaaInts
set_option linter.unusedSimpArgs false
set_option linter.unusedVariables false
namespace Go.Proofs.Ytapbcpilklhoiaa
open Go.RowKit

/-- A command: session, number, ack, and the operation's kind, register, to, parts. -/
structure Cmdv where
  s : Int
  q : Int
  a : Int
  k : Int
  r : Int
  t : Int
  re : Int
  im : Int
def Cmdv.ints (c : Cmdv) : List Int := [c.s, c.q, c.a, c.k, c.r, c.t, c.re, c.im]
def Cmdv.val (c : Cmdv) : Value := .agg #[.int .i64 c.s, .int .i64 c.q, .int .i64 c.a, .int .i64 c.k, .int .i64 c.r, .int .i64 c.t, .int .i64 c.re, .int .i64 c.im]
def IsCmd (c : Cmdv) : Prop := ∀ i ∈ c.ints, IsInt i
def encL (is : List Int) : List UInt8 := is.flatMap fun i => enc (zig i)
theorem encL_take (is : List Int) (k : Nat) (hk : k < is.length) : encL (is.take (k + 1)) = encL (is.take k) ++ enc (zig is[k]) := by
  unfold encL
  rw [List.take_succ_eq_append_getElem hk, List.flatMap_append, List.flatMap_singleton]
theorem encL_length (is : List Int) : (encL is).length ≤ 9 * is.length := by
  induction is with
  | nil => simp [encL]
  | cons x xs ih =>
    have e : encL (x :: xs) = enc (zig x) ++ encL xs := rfl
    have := bw_le (zig x)
    rw [e, List.length_append, enc_length, List.length_cons]
    omega

theorem getD_ints {xs : List Int} {k : Nat} (h : k < xs.length) : xs.getD k 0 = xs[k] := by simp [List.getD_eq_getElem?_getD, h]

/-- What a call leaves that has written ys behind what the writer held, and answers nothing. -/
def PEnds (g : Nat) (b : Option Nat) (base : Nat) (ys : List UInt8) (w : World) (e : Ending) (w' : World) : Prop :=
  e = .returned (.tuple #[]) ∧ ∃ b', Wr w' base g b' ys ∧ (b' = b ∨ ∃ k, b' = some k ∧ w.heap.size ≤ k) ∧ Kept (Foot g b) w w'

theorem idx8 (x0 x1 x2 x3 x4 x5 x6 x7 : Int) (k : Nat) (hk : k < 8) (w : World) : (Instr.index 106 (.agg #[.int .i64 x0, .int .i64 x1, .int .i64 x2, .int .i64 x3, .int .i64 x4, .int .i64 x5, .int .i64 x6, .int .i64 x7]) (.int .i64 (k : Int))).run Try.prog w = .ok (.int .i64 ([x0, x1, x2, x3, x4, x5, x6, x7].getD k 0)) w := by
  have h8 : k = 0 ∨ k = 1 ∨ k = 2 ∨ k = 3 ∨ k = 4 ∨ k = 5 ∨ k = 6 ∨ k = 7 := by omega
  have hs : (sizeOf 3).run Try.prog w = .ok 1 w := by kernel_rfl
  have hag : (isAgg 3).run Try.prog w = .ok false w := by kernel_rfl
  rcases h8 with rfl | rfl | rfl | rfl | rfl | rfl | rfl | rfl <;> simp [Instr.index, asIntOf, run_underlying Try.underlying106, hs, part, hag]

set_option maxHeartbeats 400000 in
theorem putcmd_any (g base : Nat) (b : Option Nat) (xs : List UInt8) (c : Cmdv) (w : World) (hw : Wr w base g b xs) (hc : IsCmd c) (hlen : xs.length + 72 ≤ 140737488355328) :
    Calls Try.prog 48 #[.pointer (some ⟨g, 0, none⟩), c.val] w (PEnds g b base (xs ++ encL c.ints) w) := by
  have hl8 : c.ints.length = 8 := rfl
  have hget : ∀ k, k < 8 → c.ints.getD k 0 ∈ c.ints := fun k hk => by
    rw [getD_ints (by rw [hl8]; exact hk)]
    exact List.getElem_mem _
  have HG := hide hget
  have HC := hide hc
  have HT : Hid (∀ k, k < 8 → encL (c.ints.take (k + 1)) = encL (c.ints.take k) ++ enc (zig (c.ints.getD k 0))) := hide fun k hk => by
    rw [encL_take _ _ (by rw [hl8]; exact hk), getD_ints (by rw [hl8]; exact hk)]
  have HLE : Hid (∀ k, k < 8 → (xs ++ encL (c.ints.take k)).length + 9 ≤ 140737488355328) := hide fun k hk => by
    have := encL_length (c.ints.take k)
    rw [List.length_append]
    rw [List.length_take, hl8] at this
    omega
  have hall : xs ++ encL c.ints = xs ++ encL (c.ints.take 8) := by rw [List.take_of_length_le (by rw [hl8]; omega)]
  rw [hall]
  have hgs := hw.lt
  have ei : c.ints = [c.s, c.q, c.a, c.k, c.r, c.t, c.re, c.im] := rfl
  have hix := fun k hk w => idx8 c.s c.q c.a c.k c.r c.t c.re c.im k hk w
  rw [← ei] at hix
  have HIX := hide hix
  clear hix ei hall hget hc hl8
  unfold Cmdv.val
  go_enter Try.func48, Try.ntmps48
  go_wp2
  go_loopw [26] (fun i wr => ∃ (k : Nat) (b' : Option Nat), k ≤ 8 ∧ i = .int .i64 k ∧ Wr wr base g b' (xs ++ encL (c.ints.take k)) ∧ (b' = b ∨ ∃ j, b' = some j ∧ w.heap.size ≤ j) ∧ Kept (Foot g b) w wr) (fun i _ => 8 - (intOf i).toNat)
  case atStart =>
    have hb2 : ∀ o1 o2, Below w.heap.size w ((w.alloc o1).alloc o2) := fun o1 o2 => ((Below.refl _ _).alloc (Nat.le_refl _) o1).alloc (by simp) o2
    exact ⟨0, b, by omega, rfl, by simpa [encL] using hw.below (hb2 _ _), .inl rfl, Kept.of_below (hb2 _ _)⟩
  case round =>
    obtain ⟨k, b1, hk, rfl, hw1, hb1, hk1⟩ := hrel
    by_cases hlt : k < 8
    · have hx := HIX.out k hlt
      have hi := HC.out _ (HG.out k hlt)
      have hle := HLE.out k hlt
      have ht := HT.out k hlt
      generalize c.ints.getD k 0 = n at *
      generalize hys : xs ++ encL (c.ints.take k) = ys at *
      have HYS := hide hys
      clear hys
      have HTT := hide ht
      have HL := hide hle
      clear ht hle
      go_wp2_with fail
      refine (wint_any g base b1 ys n wr hw1 hi HL.out).mono ?_
      rintro e w2 ⟨rfl, b2, hw2, hb2, hk2⟩
      go_wp2
      go_roundw
      case rel => exact ⟨k + 1, b2, by omega, by go_num, by rw [HTT.out, ← List.append_assoc, HYS.out]; exact hw2, lies_step hb1 hb2 hk1.size, hk1.step hk2 (foot_step hb1)⟩
      case measure => simp [intOf]; omega
    · obtain rfl : k = 8 := by omega
      go_wp2
      go_end0
      exact ⟨rfl, b1, hw1, hb1, hk1⟩

/-- The slice that begins at A reads as these commands, in a block below B. -/
def HasC (w : World) (B : Nat) (A : Option Addr) (cs : List Cmdv) : Prop :=
  ∀ i (h : i < cs.length), ∃ b o, A = some ⟨b, o, none⟩ ∧ b < B ∧ w.cell? ⟨b, o + i * 8, none⟩ = some (.int .i64 cs[i].s) ∧ w.cell? ⟨b, o + i * 8 + 1, none⟩ = some (.int .i64 cs[i].q) ∧ w.cell? ⟨b, o + i * 8 + 2, none⟩ = some (.int .i64 cs[i].a) ∧ w.cell? ⟨b, o + i * 8 + 3, none⟩ = some (.int .i64 cs[i].k) ∧ w.cell? ⟨b, o + i * 8 + 4, none⟩ = some (.int .i64 cs[i].r) ∧ w.cell? ⟨b, o + i * 8 + 5, none⟩ = some (.int .i64 cs[i].t) ∧ w.cell? ⟨b, o + i * 8 + 6, none⟩ = some (.int .i64 cs[i].re) ∧ w.cell? ⟨b, o + i * 8 + 7, none⟩ = some (.int .i64 cs[i].im)
theorem HasC.nil (w : World) (B : Nat) (A : Option Addr) : HasC w B A [] := fun k h => absurd h (by simp)
theorem HasC.keep {w w' : World} {B : Nat} {A : Option Addr} {cs : List Cmdv} (h : HasC w B A cs) (hk : ∀ b o, A = some ⟨b, o, none⟩ → b < B → w'.heap[b]? = w.heap[b]?) : HasC w' B A cs := by
  intro i hi
  obtain ⟨b, o, hA, hb, h0, h1, h2, h3, h4, h5, h6, h7⟩ := h i hi
  have e : ∀ j, w'.cell? ⟨b, j, none⟩ = w.cell? ⟨b, j, none⟩ := fun j => World.cell?_of_block (w := w) (a := ⟨b, j, none⟩) (hk b o hA hb)
  exact ⟨b, o, hA, hb, (e _).trans h0, (e _).trans h1, (e _).trans h2, (e _).trans h3, (e _).trans h4, (e _).trans h5, (e _).trans h6, (e _).trans h7⟩
theorem HasC.below {w w' : World} {B : Nat} {A : Option Addr} {cs : List Cmdv} (h : HasC w B A cs) (hb : Below B w w') : HasC w' B A cs := h.keep fun b _ _ hlt => hb.block b hlt
theorem HasC.on {w w' : World} {B : Nat} {A : Option Addr} {cs : List Cmdv} (h : HasC w B A cs) (hB : B ≤ w.heap.size) (hb : Below w.heap.size w w') : HasC w' B A cs := h.keep fun b _ _ hlt => hb.block b (by omega)
theorem HasC.alloc {w : World} {B : Nat} {A : Option Addr} {cs : List Cmdv} (h : HasC w B A cs) (hB : B ≤ w.heap.size) (o : Obj) : HasC (w.alloc o) B A cs := h.keep fun b _ _ hlt => Below.heap_alloc w o b (by omega)
theorem HasC.more {w : World} {B B' : Nat} {A : Option Addr} {cs : List Cmdv} (h : HasC w B A cs) (hB : B ≤ B') : HasC w B' A cs := by
  intro i hi
  obtain ⟨b, o, hA, hb, r⟩ := h i hi
  exact ⟨b, o, hA, by omega, r⟩
end Go.Proofs.Ytapbcpilklhoiaa
