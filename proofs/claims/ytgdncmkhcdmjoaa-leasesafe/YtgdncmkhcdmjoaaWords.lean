/-
  Words for byte slices in memory: what a slice value reads as, and how that stands behind draws, new blocks and stores elsewhere. No condition: plain definitions and lemmas over any program.
-/
import Derived.WalkKit
import Derived.Below
import Derived.Deep.Draws
import Derived.OpenShut
set_option linter.unusedSimpArgs false
set_option linter.unusedVariables false
namespace Go.Proofs.Ytgdncmkhcdmjoaa
open Go.RowKit

/-- A byte, as a cell holds it. -/
def byt (c : UInt8) : Value := .int .u8 (c.toNat : Int)

/-- The cells of a block that holds just these bytes. -/
def bcells (xs : List UInt8) : Array Value := (xs.map byt).toArray

/-- The slice that begins at A reads as the bytes xs, and lies in a block below B (nothing is said of A where xs is empty). -/
def Has (w : World) (B : Nat) (A : Option Addr) (xs : List UInt8) : Prop :=
  ∀ k (h : k < xs.length), ∃ b o, A = some ⟨b, o, none⟩ ∧ b < B ∧ w.cell? ⟨b, o + k, none⟩ = some (byt xs[k])

theorem Has.nil (w : World) (B : Nat) (A : Option Addr) : Has w B A [] := fun k h => absurd h (by simp)

theorem Has.keep {w w' : World} {B : Nat} {A : Option Addr} {xs : List UInt8} (h : Has w B A xs) (hk : ∀ b, b < B → w'.heap[b]? = w.heap[b]?) : Has w' B A xs := by
  intro k hlt
  obtain ⟨b, o, hA, hb, hc⟩ := h k hlt
  exact ⟨b, o, hA, hb, (World.cell?_of_block (w := w) (a := ⟨b, o + k, none⟩) (hk b hb)).trans hc⟩

theorem Has.more {w : World} {B B' : Nat} {A : Option Addr} {xs : List UInt8} (h : Has w B A xs) (hB : B ≤ B') : Has w B' A xs := by
  intro k hlt
  obtain ⟨b, o, hA, hb, hc⟩ := h k hlt
  exact ⟨b, o, hA, by omega, hc⟩

theorem Has.below {w w' : World} {B : Nat} {A : Option Addr} {xs : List UInt8} (h : Has w B A xs) (hb : Below B w w') : Has w' B A xs := h.keep fun b hlt => hb.block b hlt

theorem Has.drewN {w : World} {B : Nat} {A : Option Addr} {xs : List UInt8} (h : Has w B A xs) (n : Nat) : Has (w.drewN n) B A xs := h
theorem Has.drew {w : World} {B : Nat} {A : Option Addr} {xs : List UInt8} (h : Has w B A xs) : Has w.drew B A xs := h

theorem Has.alloc {w : World} {B : Nat} {A : Option Addr} {xs : List UInt8} (h : Has w B A xs) (hB : B ≤ w.heap.size) (o : Obj) : Has (w.alloc o) B A xs :=
  h.keep fun b hlt => Below.heap_alloc w o b (by omega)

/-- The first n of them. -/
theorem Has.take {w : World} {B : Nat} {A : Option Addr} {xs : List UInt8} (h : Has w B A xs) (n : Nat) : Has w B A (xs.take n) := by
  intro k hlt
  rw [List.length_take] at hlt
  obtain ⟨b, o, hA, hb, hc⟩ := h k (by omega)
  exact ⟨b, o, hA, hb, by rw [hc, List.getElem_take]⟩

/-- Those from the n-th on, where a cut moves the address. -/
theorem Has.drop {w : World} {B : Nat} {A : Option Addr} {xs : List UInt8} (h : Has w B A xs) (n : Nat) : Has w B (Option.map (fun x => x.add n) A) (xs.drop n) := by
  intro k hlt
  rw [List.length_drop] at hlt
  obtain ⟨b, o, hA, hb, hc⟩ := h (n + k) (by omega)
  subst hA
  refine ⟨b, o + n, ?_, hb, ?_⟩
  · unfold Addr.add
    split <;> simp_all
  · rw [Nat.add_assoc, hc, List.getElem_drop]

/-- A block of the call's own that holds just these bytes. -/
theorem Has.block {w : World} {B g : Nat} {t : TypeId} {xs : List UInt8} {m : Nat × Nat} (h : w.heap[g]? = some (.cells (bcells xs) t m)) (hg : g < B) : Has w B (some ⟨g, 0, none⟩) xs := by
  intro k hlt
  refine ⟨g, 0, rfl, hg, ?_⟩
  simp [World.cell?, h, hlt, bcells]

theorem Has.new (w : World) (t : TypeId) (xs : List UInt8) (m : Nat × Nat) (g : Nat) (hg : g = w.heap.size) : Has (w.alloc (.cells (bcells xs) t m)) (g + 1) (some ⟨g, 0, none⟩) xs := by
  subst hg
  exact Has.block (t := t) (heap_alloc_new w _) (by omega)

/-- One byte, laid in a new block. -/
theorem Has.one (w : World) (t : TypeId) (n : Int) (c : UInt8) (hc : n = (c.toNat : Int)) (g : Nat) (hg : g = w.heap.size) : Has (w.alloc (.cells #[.int .u8 n] t)) (g + 1) (some ⟨g, 0, none⟩) [c] := by
  subst hc
  exact Has.new w t [c] (0, 0) g hg

theorem bcells_get (xs : List UInt8) (k : Nat) (h : k < xs.length) : (bcells xs)[k]? = some (byt xs[k]) := by simp [bcells, h]
theorem bcells_size (xs : List UInt8) : (bcells xs).size = xs.length := by simp [bcells]
theorem bcells_set (xs : List UInt8) (k : Nat) (c : UInt8) : (bcells xs).setIfInBounds k (byt c) = bcells (xs.set k c) := by simp [bcells, List.map_set]
/-- A number that fits a byte is one. -/
theorem byte_of (n : Int) (h : (Lit.int .u8 n).wf = true) : ∃ c : UInt8, n = (c.toNat : Int) := by
  have hb : 0 ≤ n ∧ n < 256 := by
    have := bounds_u8 h
    omega
  exact ⟨UInt8.ofNat n.toNat, by simp; omega⟩

theorem below_drewN {B : Nat} {a w : World} (h : Below B a w) (n : Nat) : Below B a (w.drewN n) := ⟨h.os, h.tape, h.output, h.size, h.block⟩

/-- Of what was there in w only the blocks that F names have turned. -/
structure Kept (F : Nat → Prop) (w w' : World) : Prop where
  os : w'.os = w.os
  tape : w'.tape = w.tape
  output : w'.output = w.output
  size : w.heap.size ≤ w'.heap.size
  block : ∀ k, k < w.heap.size → ¬ F k → w'.heap[k]? = w.heap[k]?

theorem Kept.refl (F : Nat → Prop) (w : World) : Kept F w w := ⟨rfl, rfl, rfl, Nat.le_refl _, fun _ _ _ => rfl⟩
theorem Kept.step {F F' : Nat → Prop} {a b c : World} (h : Kept F a b) (k : Kept F' b c) (hF : ∀ k, F' k → F k ∨ a.heap.size ≤ k) : Kept F a c :=
  ⟨k.os.trans h.os, k.tape.trans h.tape, k.output.trans h.output, Nat.le_trans h.size k.size, fun i hi hn =>
    (k.block i (Nat.lt_of_lt_of_le hi h.size) (fun hf => by rcases hF i hf with h1 | h1; exact hn h1; omega)).trans (h.block i hi hn)⟩
theorem Kept.of_below {F : Nat → Prop} {w w' : World} (h : Below w.heap.size w w') : Kept F w w' := ⟨h.os, h.tape, h.output, h.size, fun k hk _ => h.block k hk⟩
theorem Kept.below {F : Nat → Prop} {w w' : World} {B : Nat} (h : Kept F w w') (hB : B ≤ w.heap.size) (hF : ∀ k, F k → B ≤ k) : Below B w w' :=
  ⟨h.os, h.tape, h.output, h.size, fun k hk => h.block k (by omega) (fun hf => by have := hF k hf; omega)⟩
theorem Kept.of_grown {F : Nat → Prop} {w w' : World} {row : Option Nat} (h : w.grownBy w' row) (hF : ∀ k, row = some k → F k) : Kept F w w' :=
  ⟨h.os, h.tape, h.output, h.size, fun k hk hn => h.block k hk (fun e => hn (hF k e.symm))⟩
theorem Kept.setCell {F : Nat → Prop} {w w' : World} (h : Kept F w w') {p : Addr} (hp : F p.block ∨ w.heap.size ≤ p.block) (u : Value) : Kept F w (w'.setCell p u) :=
  ⟨h.os, h.tape, h.output, by simpa [World.setCell] using h.size, fun k hk hn => (Below.heap_setCell w' p u k (by
    rintro rfl
    rcases hp with hp | hp
    · exact hn hp
    · omega)).trans (h.block k hk hn)⟩
theorem Kept.drew {F : Nat → Prop} {w w' : World} (h : Kept F w w') : Kept F w w'.drew := ⟨h.os, h.tape, h.output, h.size, h.block⟩
theorem Kept.drewN {F : Nat → Prop} {w w' : World} (h : Kept F w w') (n : Nat) : Kept F w (w'.drewN n) := ⟨h.os, h.tape, h.output, h.size, h.block⟩

/-- What stands behind a new block and a call that kept all. -/
theorem below_of_alloc {w w1 : World} {o : Obj} (h : Below (w.alloc o).heap.size (w.alloc o) w1) : Below w.heap.size w w1 :=
  ((Below.refl _ _).alloc (Nat.le_refl _) o).trans (h.mono (by simp))

/-- A fact kept out of the sight of the walk. -/
theorem hide {p : Prop} (h : p) : Hid p := h

theorem byt_oneCell (xs : List UInt8) : ∀ u ∈ xs.map byt, u.oneCell' = true := by
  intro u hu
  obtain ⟨c, _, rfl⟩ := List.mem_map.1 hu
  rfl

end Go.Proofs.Ytgdncmkhcdmjoaa
