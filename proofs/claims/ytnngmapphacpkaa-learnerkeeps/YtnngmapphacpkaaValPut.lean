/-
  Commands and values as memory holds them; PutCmd and Write of package value. Conditions: what is read is in reach.
-/
import Derived.Test.YtnngmapphacpkaaReaderText
import Derived.Test.YtnngmapphacpkaaInts
set_option linter.unusedSimpArgs false
set_option linter.unusedVariables false
namespace Go.Proofs.Ytnngmapphacpkaa
open Go.RowKit

/-- A command: session, number, ack, and the operation's kind, register, to, parts. -/
structure Cmdv where
  s : Int
  q : Int
  a : Int
  k : Int
  r : Int
  t : Int
  re : Int
  im : Int
def Cmdv.ints (c : Cmdv) : List Int := [c.s, c.q, c.a, c.k, c.r, c.t, c.re, c.im]
def Cmdv.val (c : Cmdv) : Value := .agg #[.int .i64 c.s, .int .i64 c.q, .int .i64 c.a, .int .i64 c.k, .int .i64 c.r, .int .i64 c.t, .int .i64 c.re, .int .i64 c.im]
def IsCmd (c : Cmdv) : Prop := ∀ i ∈ c.ints, IsInt i
def encL (is : List Int) : List UInt8 := is.flatMap fun i => enc (zig i)
theorem encL_take (is : List Int) (k : Nat) (hk : k < is.length) : encL (is.take (k + 1)) = encL (is.take k) ++ enc (zig is[k]) := by
  unfold encL
  rw [List.take_succ_eq_append_getElem hk, List.flatMap_append, List.flatMap_singleton]
theorem encL_length (is : List Int) : (encL is).length ≤ 9 * is.length := by
  induction is with
  | nil => simp [encL]
  | cons x xs ih =>
    have e : encL (x :: xs) = enc (zig x) ++ encL xs := rfl
    have := bw_le (zig x)
    rw [e, List.length_append, enc_length, List.length_cons]
    omega

theorem getD_ints {xs : List Int} {k : Nat} (h : k < xs.length) : xs.getD k 0 = xs[k] := by simp [List.getD_eq_getElem?_getD, h]

/-- The slice that begins at A reads as these commands, in a block below B. -/
def HasC (w : World) (B : Nat) (A : Option Addr) (cs : List Cmdv) : Prop :=
  ∀ i (h : i < cs.length), ∃ b o, A = some ⟨b, o, none⟩ ∧ b < B ∧ w.cell? ⟨b, o + i * 8, none⟩ = some (.int .i64 cs[i].s) ∧ w.cell? ⟨b, o + i * 8 + 1, none⟩ = some (.int .i64 cs[i].q) ∧ w.cell? ⟨b, o + i * 8 + 2, none⟩ = some (.int .i64 cs[i].a) ∧ w.cell? ⟨b, o + i * 8 + 3, none⟩ = some (.int .i64 cs[i].k) ∧ w.cell? ⟨b, o + i * 8 + 4, none⟩ = some (.int .i64 cs[i].r) ∧ w.cell? ⟨b, o + i * 8 + 5, none⟩ = some (.int .i64 cs[i].t) ∧ w.cell? ⟨b, o + i * 8 + 6, none⟩ = some (.int .i64 cs[i].re) ∧ w.cell? ⟨b, o + i * 8 + 7, none⟩ = some (.int .i64 cs[i].im)
theorem HasC.nil (w : World) (B : Nat) (A : Option Addr) : HasC w B A [] := fun k h => absurd h (by simp)
theorem HasC.keep {w w' : World} {B : Nat} {A : Option Addr} {cs : List Cmdv} (h : HasC w B A cs) (hk : ∀ b o, A = some ⟨b, o, none⟩ → b < B → w'.heap[b]? = w.heap[b]?) : HasC w' B A cs := by
  intro i hi
  obtain ⟨b, o, hA, hb, h0, h1, h2, h3, h4, h5, h6, h7⟩ := h i hi
  have e : ∀ j, w'.cell? ⟨b, j, none⟩ = w.cell? ⟨b, j, none⟩ := fun j => World.cell?_of_block (w := w) (a := ⟨b, j, none⟩) (hk b o hA hb)
  exact ⟨b, o, hA, hb, (e _).trans h0, (e _).trans h1, (e _).trans h2, (e _).trans h3, (e _).trans h4, (e _).trans h5, (e _).trans h6, (e _).trans h7⟩
theorem HasC.below {w w' : World} {B : Nat} {A : Option Addr} {cs : List Cmdv} (h : HasC w B A cs) (hb : Below B w w') : HasC w' B A cs := h.keep fun b _ _ hlt => hb.block b hlt
theorem HasC.on {w w' : World} {B : Nat} {A : Option Addr} {cs : List Cmdv} (h : HasC w B A cs) (hB : B ≤ w.heap.size) (hb : Below w.heap.size w w') : HasC w' B A cs := h.keep fun b _ _ hlt => hb.block b (by omega)
theorem HasC.alloc {w : World} {B : Nat} {A : Option Addr} {cs : List Cmdv} (h : HasC w B A cs) (hB : B ≤ w.heap.size) (o : Obj) : HasC (w.alloc o) B A cs := h.keep fun b _ _ hlt => Below.heap_alloc w o b (by omega)
theorem HasC.more {w : World} {B B' : Nat} {A : Option Addr} {cs : List Cmdv} (h : HasC w B A cs) (hB : B ≤ B') : HasC w B' A cs := by
  intro i hi
  obtain ⟨b, o, hA, hb, r⟩ := h i hi
  exact ⟨b, o, hA, by omega, r⟩
end Go.Proofs.Ytnngmapphacpkaa
