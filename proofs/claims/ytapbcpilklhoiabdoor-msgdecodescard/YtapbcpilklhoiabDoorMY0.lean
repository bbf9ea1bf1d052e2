/-
  What the frames of this seat's claims share. No condition.
  Words for byte slices in memory: what a slice value reads as, and how that stands behind draws, new blocks and stores elsewhere. No condition: plain definitions and lemmas over any program.
  Words for slices of int in memory, and append onto one that the call owns. No condition but the reach of what is read.
  From a reading of an argument to the words of the walks: slices of int, ballots. No condition but the reach of what is read.
  Copy and Same of synodref01: a copy in one new block; whether two slices hold the same bytes. Conditions: the slices read as bytes, at most 2^47 of them.
  A byte slice that the call itself owns, and what append does to it; Clone of bytes. Conditions: what is appended reads as bytes; at most 2^47 in all.
  Clone of bytes: the same bytes in new memory, or nil. Conditions: the slice reads as bytes, at most 2^47 of them.
  The form of a number in bytes, as plain mathematics: how many bytes it has, its bytes with the highest first, and the way back. No condition.
  Len64 of math/bits as the library's contract gives it, width, Size, fold and unfold of pack, Fold and Unfold of synodref01. Conditions: the number is one of 64 bits.
-/
import Derived.Test.YtapbcpilklhoiabDoorRows
import Derived.ProofKit
import Derived.OpenShut
import Derived.ChangeOld
import Derived.SizedLaws
import Derived.Below
import Derived.IntWalk
import Derived.WalkKit
import Derived.Deep.Draws
import Derived.Deep.QuietTactic
import Derived.BigQuiet
import Derived.Outline
import Derived.Handy
import Derived.Maps.AppendAt
import Derived.RegionTactic
import Derived.OwnWalk
import Derived.WalkSpells
import Derived.Lib.AppendZeros
import Derived.Deep.Slices
import Derived.Lib.SlBytesConst
import Derived.Shelf.Strconv.Itoa0
set_option linter.unusedSimpArgs false
set_option linter.unusedVariables false

namespace Go.Proofs.YtapbcpilklhoiabDoor
open Go.ChangeShapes Go.WideShapes Go.ChangeAt Go.RowKit

theorem ownKnob_none : ownKnob Tryd.prog.godebug = none := by kernel_rfl
theorem laid_out : laidOutB Tryd.prog = true := by kernel_rfl

theorem cell_lt {w : World} {p : Addr} {v : Value} (h : w.cell? p = some v) : p.block < w.heap.size := by
  rcases Nat.lt_or_ge p.block w.heap.size with hl | hg
  · exact hl
  · exfalso
    unfold World.cell? at h
    rw [Array.getElem?_eq_none hg] at h
    cases p with
    | mk b o s => cases s <;> simp at h

theorem i64_lo {n : Int} (h : (Lit.int .i64 n).wf = true) : -9223372036854775808 ≤ n := by
  have := bounds_i64 h
  omega
theorem i64_hi {n : Int} (h : (Lit.int .i64 n).wf = true) : n ≤ 9223372036854775807 := by
  have := bounds_i64 h
  omega

theorem same_below {P : Program} {f : Nat} {args : Array Value} {w : World} {v : Value} (h : Calls P f args w fun e w' => e = .returned v ∧ w = w') : Calls P f args w fun e w' => e = .returned v ∧ Below w.heap.size w w' :=
  h.mono fun _ _ ⟨he, hw⟩ => ⟨he, by subst hw; exact Below.refl _ _⟩
end Go.Proofs.YtapbcpilklhoiabDoor

namespace Go.Proofs.YtapbcpilklhoiabDoor
open Go.RowKit

/-- A byte, as a cell holds it. -/
def byt (c : UInt8) : Value := .int .u8 (c.toNat : Int)

/-- The cells of a block that holds just these bytes. -/
def bcells (xs : List UInt8) : Array Value := (xs.map byt).toArray

/-- The slice that begins at A reads as the bytes xs, and lies in a block below B (nothing is said of A where xs is empty). -/
def Has (w : World) (B : Nat) (A : Option Addr) (xs : List UInt8) : Prop :=
  ∀ k (h : k < xs.length), ∃ b o, A = some ⟨b, o, none⟩ ∧ b < B ∧ w.cell? ⟨b, o + k, none⟩ = some (byt xs[k])

theorem Has.nil (w : World) (B : Nat) (A : Option Addr) : Has w B A [] := fun k h => absurd h (by simp)

theorem Has.keep {w w' : World} {B : Nat} {A : Option Addr} {xs : List UInt8} (h : Has w B A xs) (hk : ∀ b, b < B → w'.heap[b]? = w.heap[b]?) : Has w' B A xs := by
  intro k hlt
  obtain ⟨b, o, hA, hb, hc⟩ := h k hlt
  exact ⟨b, o, hA, hb, (World.cell?_of_block (w := w) (a := ⟨b, o + k, none⟩) (hk b hb)).trans hc⟩

theorem Has.more {w : World} {B B' : Nat} {A : Option Addr} {xs : List UInt8} (h : Has w B A xs) (hB : B ≤ B') : Has w B' A xs := by
  intro k hlt
  obtain ⟨b, o, hA, hb, hc⟩ := h k hlt
  exact ⟨b, o, hA, by omega, hc⟩

theorem Has.below {w w' : World} {B : Nat} {A : Option Addr} {xs : List UInt8} (h : Has w B A xs) (hb : Below B w w') : Has w' B A xs := h.keep fun b hlt => hb.block b hlt

theorem Has.drewN {w : World} {B : Nat} {A : Option Addr} {xs : List UInt8} (h : Has w B A xs) (n : Nat) : Has (w.drewN n) B A xs := h
theorem Has.drew {w : World} {B : Nat} {A : Option Addr} {xs : List UInt8} (h : Has w B A xs) : Has w.drew B A xs := h

theorem Has.alloc {w : World} {B : Nat} {A : Option Addr} {xs : List UInt8} (h : Has w B A xs) (hB : B ≤ w.heap.size) (o : Obj) : Has (w.alloc o) B A xs :=
  h.keep fun b hlt => Below.heap_alloc w o b (by omega)

/-- The first n of them. -/
theorem Has.take {w : World} {B : Nat} {A : Option Addr} {xs : List UInt8} (h : Has w B A xs) (n : Nat) : Has w B A (xs.take n) := by
  intro k hlt
  rw [List.length_take] at hlt
  obtain ⟨b, o, hA, hb, hc⟩ := h k (by omega)
  exact ⟨b, o, hA, hb, by rw [hc, List.getElem_take]⟩

/-- Those from the n-th on, where a cut moves the address. -/
theorem Has.drop {w : World} {B : Nat} {A : Option Addr} {xs : List UInt8} (h : Has w B A xs) (n : Nat) : Has w B (Option.map (fun x => x.add n) A) (xs.drop n) := by
  intro k hlt
  rw [List.length_drop] at hlt
  obtain ⟨b, o, hA, hb, hc⟩ := h (n + k) (by omega)
  subst hA
  refine ⟨b, o + n, ?_, hb, ?_⟩
  · unfold Addr.add
    split <;> simp_all
  · rw [Nat.add_assoc, hc, List.getElem_drop]

/-- A block of the call's own that holds just these bytes. -/
theorem Has.block {w : World} {B g : Nat} {t : TypeId} {xs : List UInt8} {m : Nat × Nat} (h : w.heap[g]? = some (.cells (bcells xs) t m)) (hg : g < B) : Has w B (some ⟨g, 0, none⟩) xs := by
  intro k hlt
  refine ⟨g, 0, rfl, hg, ?_⟩
  simp [World.cell?, h, hlt, bcells]

theorem Has.new (w : World) (t : TypeId) (xs : List UInt8) (m : Nat × Nat) (g : Nat) (hg : g = w.heap.size) : Has (w.alloc (.cells (bcells xs) t m)) (g + 1) (some ⟨g, 0, none⟩) xs := by
  subst hg
  exact Has.block (t := t) (heap_alloc_new w _) (by omega)

/-- One byte, laid in a new block. -/
theorem Has.one (w : World) (t : TypeId) (n : Int) (c : UInt8) (hc : n = (c.toNat : Int)) (g : Nat) (hg : g = w.heap.size) : Has (w.alloc (.cells #[.int .u8 n] t)) (g + 1) (some ⟨g, 0, none⟩) [c] := by
  subst hc
  exact Has.new w t [c] (0, 0) g hg

theorem bcells_get (xs : List UInt8) (k : Nat) (h : k < xs.length) : (bcells xs)[k]? = some (byt xs[k]) := by simp [bcells, h]
theorem bcells_size (xs : List UInt8) : (bcells xs).size = xs.length := by simp [bcells]
theorem bcells_set (xs : List UInt8) (k : Nat) (c : UInt8) : (bcells xs).setIfInBounds k (byt c) = bcells (xs.set k c) := by simp [bcells, List.map_set]
/-- A number that fits a byte is one. -/
theorem byte_of (n : Int) (h : (Lit.int .u8 n).wf = true) : ∃ c : UInt8, n = (c.toNat : Int) := by
  have hb : 0 ≤ n ∧ n < 256 := by
    have := bounds_u8 h
    omega
  exact ⟨UInt8.ofNat n.toNat, by simp; omega⟩

theorem below_drewN {B : Nat} {a w : World} (h : Below B a w) (n : Nat) : Below B a (w.drewN n) := ⟨h.os, h.tape, h.output, h.size, h.block⟩

/-- Of what was there in w only the blocks that F names have turned. -/
structure Kept (F : Nat → Prop) (w w' : World) : Prop where
  os : w'.os = w.os
  tape : w'.tape = w.tape
  output : w'.output = w.output
  size : w.heap.size ≤ w'.heap.size
  block : ∀ k, k < w.heap.size → ¬ F k → w'.heap[k]? = w.heap[k]?

theorem Kept.refl (F : Nat → Prop) (w : World) : Kept F w w := ⟨rfl, rfl, rfl, Nat.le_refl _, fun _ _ _ => rfl⟩
theorem Kept.step {F F' : Nat → Prop} {a b c : World} (h : Kept F a b) (k : Kept F' b c) (hF : ∀ k, F' k → F k ∨ a.heap.size ≤ k) : Kept F a c :=
  ⟨k.os.trans h.os, k.tape.trans h.tape, k.output.trans h.output, Nat.le_trans h.size k.size, fun i hi hn =>
    (k.block i (Nat.lt_of_lt_of_le hi h.size) (fun hf => by rcases hF i hf with h1 | h1; exact hn h1; omega)).trans (h.block i hi hn)⟩
theorem Kept.of_below {F : Nat → Prop} {w w' : World} (h : Below w.heap.size w w') : Kept F w w' := ⟨h.os, h.tape, h.output, h.size, fun k hk _ => h.block k hk⟩
theorem Kept.below {F : Nat → Prop} {w w' : World} {B : Nat} (h : Kept F w w') (hB : B ≤ w.heap.size) (hF : ∀ k, F k → B ≤ k) : Below B w w' :=
  ⟨h.os, h.tape, h.output, h.size, fun k hk => h.block k (by omega) (fun hf => by have := hF k hf; omega)⟩
theorem Kept.of_grown {F : Nat → Prop} {w w' : World} {row : Option Nat} (h : w.grownBy w' row) (hF : ∀ k, row = some k → F k) : Kept F w w' :=
  ⟨h.os, h.tape, h.output, h.size, fun k hk hn => h.block k hk (fun e => hn (hF k e.symm))⟩
theorem Kept.setCell {F : Nat → Prop} {w w' : World} (h : Kept F w w') {p : Addr} (hp : F p.block ∨ w.heap.size ≤ p.block) (u : Value) : Kept F w (w'.setCell p u) :=
  ⟨h.os, h.tape, h.output, by simpa [World.setCell] using h.size, fun k hk hn => (Below.heap_setCell w' p u k (by
    rintro rfl
    rcases hp with hp | hp
    · exact hn hp
    · omega)).trans (h.block k hk hn)⟩
theorem Kept.drew {F : Nat → Prop} {w w' : World} (h : Kept F w w') : Kept F w w'.drew := ⟨h.os, h.tape, h.output, h.size, h.block⟩
theorem Kept.drewN {F : Nat → Prop} {w w' : World} (h : Kept F w w') (n : Nat) : Kept F w (w'.drewN n) := ⟨h.os, h.tape, h.output, h.size, h.block⟩

/-- What stands behind a new block and a call that kept all. -/
theorem below_of_alloc {w w1 : World} {o : Obj} (h : Below (w.alloc o).heap.size (w.alloc o) w1) : Below w.heap.size w w1 :=
  ((Below.refl _ _).alloc (Nat.le_refl _) o).trans (h.mono (by simp))

/-- A fact kept out of the sight of the walk. -/
theorem hide {p : Prop} (h : p) : Hid p := h

theorem byt_oneCell (xs : List UInt8) : ∀ u ∈ xs.map byt, u.oneCell' = true := by
  intro u hu
  obtain ⟨c, _, rfl⟩ := List.mem_map.1 hu
  rfl

end Go.Proofs.YtapbcpilklhoiabDoor

namespace Go.Proofs.YtapbcpilklhoiabDoor
open Go.RowKit

theorem int_info : (Tryd.prog.info? 3).map (fun i => (i.zero, i.size, i.bytes)) = some (some (Value.int .i64 0), 1, 8) := by kernel_rfl

/-- The slice that begins at A reads as the numbers xs, and lies in a block below B. -/
def HasI (w : World) (B : Nat) (A : Option Addr) (xs : List Int) : Prop :=
  ∀ k (h : k < xs.length), ∃ b o, A = some ⟨b, o, none⟩ ∧ b < B ∧ w.cell? ⟨b, o + k, none⟩ = some (.int .i64 xs[k])

theorem HasI.nil (w : World) (B : Nat) (A : Option Addr) : HasI w B A [] := fun k h => absurd h (by simp)
theorem HasI.keep {w w' : World} {B : Nat} {A : Option Addr} {xs : List Int} (h : HasI w B A xs) (hk : ∀ b, b < B → w'.heap[b]? = w.heap[b]?) : HasI w' B A xs := by
  intro k hlt
  obtain ⟨b, o, hA, hb, hc⟩ := h k hlt
  exact ⟨b, o, hA, hb, (World.cell?_of_block (w := w) (a := ⟨b, o + k, none⟩) (hk b hb)).trans hc⟩
theorem HasI.more {w : World} {B B' : Nat} {A : Option Addr} {xs : List Int} (h : HasI w B A xs) (hB : B ≤ B') : HasI w B' A xs := by
  intro k hlt
  obtain ⟨b, o, hA, hb, hc⟩ := h k hlt
  exact ⟨b, o, hA, by omega, hc⟩
theorem HasI.below {w w' : World} {B : Nat} {A : Option Addr} {xs : List Int} (h : HasI w B A xs) (hb : Below B w w') : HasI w' B A xs := h.keep fun b hlt => hb.block b hlt
theorem HasI.on {w w' : World} {B : Nat} {A : Option Addr} {xs : List Int} (h : HasI w B A xs) (hB : B ≤ w.heap.size) (hb : Below w.heap.size w w') : HasI w' B A xs := h.keep fun b hlt => hb.block b (by omega)
theorem HasI.alloc {w : World} {B : Nat} {A : Option Addr} {xs : List Int} (h : HasI w B A xs) (hB : B ≤ w.heap.size) (o : Obj) : HasI (w.alloc o) B A xs :=
  h.keep fun b hlt => Below.heap_alloc w o b (by omega)
theorem HasI.drewN {w : World} {B : Nat} {A : Option Addr} {xs : List Int} (h : HasI w B A xs) (n : Nat) : HasI (w.drewN n) B A xs := h
theorem HasI.drew {w : World} {B : Nat} {A : Option Addr} {xs : List Int} (h : HasI w B A xs) : HasI w.drew B A xs := h
theorem HasI.at_ {w : World} {B : Nat} {b o : Nat} {xs : List Int} (h : HasI w B (some ⟨b, o, none⟩) xs) (k : Nat) (hk : k < xs.length) : b < B ∧ w.cell? ⟨b, o + k, none⟩ = some (.int .i64 xs[k]) := by
  obtain ⟨b', o', e, hb, hc⟩ := h k hk
  cases e
  exact ⟨hb, hc⟩

def icells (xs : List Int) : Array Value := (xs.map (Value.int .i64)).toArray
theorem HasI.block {w : World} {B g : Nat} {t : TypeId} {xs : List Int} {m : Nat × Nat} (h : w.heap[g]? = some (.cells (icells xs) t m)) (hg : g < B) : HasI w B (some ⟨g, 0, none⟩) xs := by
  intro k hlt
  refine ⟨g, 0, rfl, hg, ?_⟩
  simp [World.cell?, h, hlt, icells]
theorem HasI.new (w : World) (t : TypeId) (xs : List Int) (m : Nat × Nat) (g : Nat) (hg : g = w.heap.size) : HasI (w.alloc (.cells (icells xs) t m)) (g + 1) (some ⟨g, 0, none⟩) xs := by
  subst hg
  exact HasI.block (t := t) (heap_alloc_new w _) (by omega)

/-- The slice value v holds just xs, in a block of the call's own (from base on), or is nil. -/
def OwnI (w : World) (base : Nat) (v : Value) (xs : List Int) : Prop := w.ownsRow base 3 1 v xs.length (xs.map (Value.int .i64))

theorem OwnI.nil (w : World) (base : Nat) : OwnI w base (.slice none 0 0) [] := ⟨rfl, .inl ⟨rfl, rfl⟩⟩
theorem OwnI.keep {w w' : World} {base : Nat} {v : Value} {xs : List Int} (h : OwnI w base v xs) (hk : ∀ g, v.ownBlock = some g → w'.heap[g]? = w.heap[g]?) : OwnI w' base v xs := by
  refine ⟨h.1, ?_⟩
  rcases h.2 with h2 | ⟨g, cap, cur, hv, hg, hh, r⟩
  · exact .inl h2
  · exact .inr ⟨g, cap, cur, hv, hg, by rw [hk g (by rw [hv]; rfl)]; exact hh, r⟩
theorem OwnI.lt {w : World} {base : Nat} {v : Value} {xs : List Int} (h : OwnI w base v xs) : ∀ g, v.ownBlock = some g → base ≤ g ∧ g < w.heap.size := World.ownsRow.lt h
theorem OwnI.from_ {w : World} {base base' : Nat} {v : Value} {xs : List Int} (h : OwnI w base v xs) (hb : base' ≤ base) : OwnI w base' v xs := by
  refine ⟨h.1, ?_⟩
  rcases h.2 with h2 | ⟨g, cap, cur, hv, hg, r⟩
  · exact .inl h2
  · exact .inr ⟨g, cap, cur, hv, by omega, r⟩
theorem OwnI.below {w w' : World} {base : Nat} {v : Value} {xs : List Int} (h : OwnI w base v xs) (hb : Below w.heap.size w w') : OwnI w' base v xs :=
  h.keep fun g hg => hb.block g (h.lt g hg).2
theorem OwnI.form {w : World} {base : Nat} {v : Value} {xs : List Int} (h : OwnI w base v xs) : ∃ A n c, v = .slice A n c ∧ Hid (xs.length = n) ∧ n ≤ c ∧ HasI w w.heap.size A xs := by
  rcases h.2 with ⟨hv, hn⟩ | ⟨g, cap, cur, hv, hg, hh, hnc, hm, hcs, ht⟩
  · have hx : xs = [] := List.eq_nil_of_length_eq_zero hn
    subst hx
    exact ⟨none, 0, 0, hv, rfl, Nat.le_refl _, HasI.nil _ _ _⟩
  · refine ⟨some ⟨g, 0, none⟩, xs.length, cap, hv, rfl, hnc, ?_⟩
    intro k hk
    refine ⟨g, 0, rfl, lt_of_block hh, ?_⟩
    have h1 : (cur.toList.take (xs.length * 1))[k]? = some (.int .i64 xs[k]) := by rw [ht]; simp [hk]
    rw [List.getElem?_take_of_lt (by omega)] at h1
    simp only [World.cell?, hh]
    simpa using h1
theorem OwnI.new (w : World) (xs : List Int) (g base : Nat) (hg : g = w.heap.size) (hb : base ≤ g) (hl : xs.length ≤ 140737488355328) : OwnI (w.alloc (.cells (icells xs) 3)) base (.slice (some ⟨g, 0, none⟩) xs.length xs.length) xs := by
  subst hg
  refine ⟨by simp, .inr ⟨w.heap.size, xs.length, icells xs, rfl, hb, heap_alloc_new w _, Nat.le_refl _, by unfold maxLen; omega, by simp [icells], ?_⟩⟩
  rw [Nat.mul_one, icells, List.take_of_length_le (by simp)]

theorem int_oneCell (xs : List Int) : ∀ u ∈ xs.map (Value.int .i64), u.oneCell' = true := by
  intro u hu
  obtain ⟨c, _, rfl⟩ := List.mem_map.1 hu
  rfl

theorem run_append_ints (w : World) (ty base : Nat) (v : Value) (xs : List Int) (hown : OwnI w base v xs) (B : Nat) (A : Option Addr) (m c : Nat) (news : List Int) (hr : HasI w B A news) (hm : news.length = m)
    (hlen : xs.length + m ≤ 17592186044416) (hbase : base ≤ w.heap.size) :
    ∃ v' w', (Builtin.append_ #[25, 25] ty #[v, .slice A m c]).run Tryd.prog w = .ok v' w' ∧ OwnI w' base v' (xs ++ news) ∧ w.grownBy w' v.ownBlock ∧ (v'.ownBlock = v.ownBlock ∨ v'.ownBlock = some w.heap.size) := by
  obtain ⟨i0, hi0, hz0, hz1, hz2⟩ := info_parts int_info
  subst hm
  rcases A with _ | ad
  · have hn : news = [] := by
      rcases Nat.eq_zero_or_pos news.length with h0 | h0
      · exact List.eq_nil_of_length_eq_zero h0
      · obtain ⟨_, _, e, _⟩ := hr 0 h0
        cases e
    subst hn
    refine ⟨v, w, ?_, by simpa using hown, World.grownBy.refl w _, .inl rfl⟩
    rcases hown.2 with ⟨rfl, _⟩ | ⟨g, cap, cur, rfl, _, _, hnc, _⟩
    · simp [Builtin.append_, run_underlying Tryd.underlying25, sizeOf, typeInfo, hi0, Builtin.lenOf, Builtin.firstCells]
    · simp [Builtin.append_, run_underlying Tryd.underlying25, sizeOf, typeInfo, hi0, Builtin.lenOf, Builtin.firstCells, hnc, storeCells]
  · have hcells : ∀ j u, (news.map (Value.int .i64))[j]? = some u → w.cell? (ad.add j) = some u := by
      intro j u hu
      have hj : j < news.length := by
        rcases Nat.lt_or_ge j news.length with h | h
        · exact h
        · rw [List.getElem?_eq_none (by simpa using h)] at hu; cases hu
      obtain ⟨b, o, e, _, hc⟩ := hr j hj
      have e' := Option.some.inj e
      subst e'
      simp [hj] at hu
      subst hu
      have ea : (⟨b, o, none⟩ : Addr).add j = ⟨b, o + j, none⟩ := by
        unfold Addr.add
        split <;> simp_all
      rw [ea]
      exact hc
    obtain ⟨v', w', hrun, h2, h3, _, h5⟩ := run_append_own_at (P := Tryd.prog) w base 25 ty 3 i0 (.int .i64 0) 1 8 Tryd.underlying25 hi0 hz0 hz1 hz2 rfl (by omega) v xs.length (xs.map (Value.int .i64)) hown ad news.length c (news.map (Value.int .i64)) (by simp) hcells (int_oneCell news)
      (by unfold maxLen; omega) (by omega) hbase
    exact ⟨v', w', hrun, by unfold OwnI; rw [List.length_append, List.map_append]; exact h2, h3, h5⟩

/-- A copy: what append of a slice onto an empty one gives. -/
theorem run_copy_ints (w : World) (ty : Nat) (A : Option Addr) (m c B : Nat) (xs : List Int) (hr : HasI w B A xs) (hm : xs.length = m) (hlen : m ≤ 17592186044416) (hB : B ≤ w.heap.size) :
    ∃ v' w', (Builtin.append_ #[25, 25] ty #[.slice (some ⟨w.heap.size, 0, none⟩) 0 0, .slice A m c]).run Tryd.prog (w.alloc (.cells #[] 3)) = .ok v' w' ∧ OwnI w' w.heap.size v' xs ∧ Below w.heap.size w w' := by
  have ho := OwnI.new w [] w.heap.size w.heap.size rfl (Nat.le_refl _) (by simp)
  obtain ⟨v', w', h1, h2, h3, h4⟩ := run_append_ints (w.alloc (.cells (icells []) 3)) ty w.heap.size _ [] ho B A m c xs (hr.alloc hB _) hm (by simp; omega) (by simp)
  exact ⟨v', w', h1, by simpa using h2, ((Below.refl _ _).alloc (Nat.le_refl _) _).grown h3 (by simp) (by intro k hk; cases hk; exact Nat.le_refl _)⟩

/-- append at a plain region's list of operations, where it is wanted. -/
theorem list_append_want {P : Program} (w : World) {ops : Array Oper} {rest : List Oper} {o : Oper} {a : Act} {Q : Exit → Act → World → Prop} (hw : Region.wanted o (yielded ops a.tmps) = true) (s x : Operand) (t tn : TypeId)
    (ho : o.op = .call { callee := .builtin .append, args := #[s, x], argTypes := #[t, tn] }) (vs vx : Value) (hs : a.eval s = vs) (hx : a.eval x = vx)
    (v' : Value) (w' : World) (hr : (Builtin.append_ #[t, tn] o.type #[vs, vx]).run P w = .ok v' w') (h : wpList P ops Q rest (a.put o.dst v') w') : wpList P ops Q (o :: rest) a w :=
  wpList_step fun _ hK => by
    rw [if_pos hw]
    exact Lib.wp_append_run w s x t tn ho vs vx hs hx v' w' hr (hK _ _ h)
end Go.Proofs.YtapbcpilklhoiabDoor

namespace Go.Proofs.YtapbcpilklhoiabDoor
open Go.ChangeShapes Go.WideShapes Go.ChangeAt Go.RowKit

theorem cells_int1 : Tryd.prog.cellsOf 3 = 1 := by kernel_rfl
theorem bytesOf_int : Tryd.prog.bytesOf 3 = 8 := by kernel_rfl
theorem cells_bal : Tryd.prog.cellsOf 23 = 2 := by kernel_rfl

/-- A number of 64 bits. -/
structure In64 (n : Int) : Prop where
  lo : -9223372036854775808 ≤ n
  hi : n ≤ 9223372036854775807
theorem in64_of {n : Int} (h : (Lit.int .i64 n).wf = true) : In64 n := ⟨i64_lo h, i64_hi h⟩

theorem open_intsv {H : Type} {enc : TypeId × Value → H} {W : World} {a : Option Addr} {len cap : Nat} {d : DataW H} {pl : List MemPlace}
    (h : DataW.Trod enc Tryd.prog W 0 (fun _ => true) true 25 (.slice a len cap) d pl) {ty : List TypeId} {ds : List (DataW H)}
    (hs : (DataW.weightsEach Tryd.prog ty ds).all (· ≤ reachBytes) = true) {j : Nat} (ht : ty[j]? = some 25) (hd : ds[j]? = some d) :
    ∃ xs, HasI W W.heap.size a xs ∧ xs.length = len ∧ len ≤ 17592186043904 ∧ ∀ x ∈ xs, In64 x := by
  obtain ⟨fuel, hf⟩ := h
  rcases Go.Deep.open_slice Tryd.underlying25 hf with ⟨hcs, _⟩ | ⟨x, l, c, m, n, D, Pl, hcs, _, hl, _, hm, hx, hcell⟩
  · simp [Value.cells] at hcs
    obtain ⟨rfl, rfl, rfl⟩ := hcs
    exact ⟨[], fun k hk => absurd hk (by simp), rfl, by simp, by simp⟩
  · simp [Value.cells] at hcs
    obtain ⟨rfl, rfl, rfl⟩ := hcs
    simp only [if_true] at hm
    obtain rfl := (Prod.mk.inj hx).1
    have hsz := sized_slice hs ht hd Tryd.underlying25
    rw [bytesOf_int] at hsz
    simp [reachBytes] at hsz
    rw [cells_int1] at hcell
    obtain ⟨F, hF⟩ := Go.Deep.choose_lt (α := Int) (n := len) (p := fun i q => W.cell? (x.add (i * 1)) = some (.int .i64 q) ∧ In64 q) (fun i hi => by
      obtain ⟨cs', hc, ht⟩ := hcell i (by omega)
      obtain ⟨_, hlen, hat⟩ := World.cells?_some hc
      obtain ⟨q, rfl, _, hwf⟩ := DataW.trod_int Tryd.underlying3 ht
      refine ⟨q, ?_, in64_of hwf⟩
      have := hat 0 (by omega)
      simp only [List.getElem?_cons_zero] at this
      rw [← this]
      congr 1)
    refine ⟨(List.range len).map F, fun k hk => ?_, by simp, by omega, ?_⟩
    · have hk' : k < len := by simpa using hk
      have e : ((List.range len).map F)[k] = F k := by simp
      have h1 := (hF k hk').1
      rw [e]
      generalize F k = q at *
      obtain ⟨b, o, s⟩ := x
      have hs : s = none := by
        have := World.cell?_spot (hF 0 (by omega)).1
        simpa [Addr.add] using this
      subst hs
      have ea : (⟨b, o, none⟩ : Addr).add (k * 1) = ⟨b, o + k, none⟩ := by
        unfold Addr.add
        split <;> simp_all
      rw [ea] at h1
      exact ⟨b, o, rfl, cell_lt h1, h1⟩
    · intro y hy
      obtain ⟨i, hi, rfl⟩ := List.mem_map.1 hy
      exact (hF i (by simpa using hi)).2

set_option maxRecDepth 20000 in
theorem bal_value {H : Type} {enc : TypeId × Value → H} {W : World} {fuel : Nat} {cs : List Value} {x : DataW H × List MemPlace} (hl : cs.length = 2)
    (h : DataW.trod enc Tryd.prog W 0 (fun _ => true) true fuel 23 cs = some x) : ∃ a b : Int, cs = [.int .i64 a, .int .i64 b] ∧ In64 a ∧ In64 b := by
  obtain ⟨ys, n', _, hx, _, hyl, hf⟩ := DataW.trod_struct Tryd.underlying23 h
  match cs, hl with
  | [v0, v1], _ =>
    match ys, hyl with
    | [y0, y1], _ =>
      have h0 : DataW.trod enc Tryd.prog W 0 (fun _ => true) true n' 3 [v0] = some y0 := by simpa [cells_int1] using hf 0 _ rfl
      have h1 : DataW.trod enc Tryd.prog W 0 (fun _ => true) true n' 3 [v1] = some y1 := by simpa [cells_int1] using hf 1 _ rfl
      obtain ⟨k0, e0, rfl, w0⟩ := DataW.trod_int Tryd.underlying3 h0
      obtain ⟨k1, e1, rfl, w1⟩ := DataW.trod_int Tryd.underlying3 h1
      injection e0 with e0
      injection e1 with e1
      subst e0 e1
      exact ⟨k0, k1, rfl, in64_of w0, in64_of w1⟩

set_option maxRecDepth 20000 in
theorem open_bal {H : Type} {enc : TypeId × Value → H} {W : World} {base : Nat} {v : Value} {d : DataW H} {p : List MemPlace} (hv : Value.okWide Tryd.prog W .any base 23 v)
    (h : DataW.Trod enc Tryd.prog W 0 (fun _ => true) true 23 v d p) : ∃ a b : Int, v = .agg #[.int .i64 a, .int .i64 b] ∧ In64 a ∧ In64 b := by
  obtain ⟨cs, rfl, hsz⟩ := okWide_struct Tryd.underlying23 hv
  obtain ⟨fuel, hf⟩ := h
  obtain ⟨a, b, e, ha, hb⟩ := bal_value (by have := hsz.trans cells_bal; simpa [Value.cells] using this) hf
  exact ⟨a, b, by rw [show cs = cs.toList.toArray from by simp]; simp only [Value.cells] at e; rw [e], ha, hb⟩
end Go.Proofs.YtapbcpilklhoiabDoor

namespace Go.Proofs.YtapbcpilklhoiabDoor
open Go.RowKit

theorem byte_info : (Tryd.prog.info? 5).map (fun i => (i.zero, i.size, i.bytes)) = some (some (Value.int .u8 0), 1, 1) := by kernel_rfl

/-- The block that Copy fills, when k bytes are laid. -/
def mix (xs : List UInt8) (k : Nat) : Array Value := Array.ofFn (n := xs.length) fun i => if i.1 < k then byt (xs[i.1]'i.2) else .int .u8 0

theorem made_mix (xs : List UInt8) : madeCells (Value.int .u8 0).cells (xs.length * 1) = mix xs 0 := by
  apply Array.ext
  · simp [madeCells, mix]
  · intro i h1 h2
    simp [madeCells, mix, Value.cells, Nat.mod_one]
theorem mix_set (xs : List UInt8) (k : Nat) (h : k < xs.length) : (mix xs k).setIfInBounds k (byt xs[k]) = mix xs (k + 1) := by
  apply Array.ext_getElem?
  intro i
  rw [Array.getElem?_setIfInBounds]
  by_cases hi : k = i
  · subst hi
    simp [mix, h]
  · have e : i < k + 1 ↔ i < k := by omega
    simp [mix, hi, e, Array.getElem?_ofFn]
theorem mix_all (xs : List UInt8) : mix xs xs.length = bcells xs := by
  unfold bcells
  apply Array.ext
  · simp [mix]
  · intro i h1 h2
    have : i < xs.length := by simpa [mix] using h1
    simp [mix, this]
theorem mix_get (xs : List UInt8) (k i : Nat) (h : i < xs.length) : ∃ v, (mix xs k)[i]? = some (.int .u8 v) := by
  by_cases hk : i < k
  · exact ⟨(xs[i].toNat : Int), by simp [mix, h, hk, byt]⟩
  · exact ⟨0, by simp [mix, h, hk]⟩

set_option maxHeartbeats 400000 in
theorem copy_any (A : Option Addr) (n c : Nat) (xs : List UInt8) (w : World) (hx : Has w w.heap.size A xs) (hxn : xs.length = n) (hn : n ≤ 140737488355328) :
    Calls Tryd.prog 15 #[.slice A n c] w fun e w' => e = .returned (.slice (some ⟨w.heap.size, 0, none⟩) n n) ∧ w.alloc (.cells (bcells xs) 5) = w' := by
  subst hxn
  obtain ⟨i0, hi0, hz0, hz1, hz2⟩ := info_parts byte_info
  have hmk := fun W => run_make (P := Tryd.prog) W 35 5 i0 (.int .u8 0) Tryd.underlying35 hi0 hz0 .i64 .i64 xs.length xs.length (by omega) (by omega) (by rw [hz2]; omega) (by omega)
  simp only [Int.toNat_natCast, hz1, made_mix] at hmk
  go_enter Tryd.func15, Tryd.ntmps15
  go_wp2
  clear hmk
  go_loopw [10] (fun i wr => ∃ k : Nat, k ≤ xs.length ∧ i = .int .i64 k ∧ wr = w.alloc (.cells (mix xs k) 5)) (fun i _ => xs.length - (intOf i).toNat)
  case atStart => exact ⟨0, Nat.zero_le _, rfl, rfl⟩
  case round =>
    obtain ⟨k, hk, rfl, rfl⟩ := hrel
    by_cases hlt : k < xs.length
    · obtain ⟨b, o, rfl, hb, hc⟩ := hx k hlt
      have hbne : w.heap.size ≠ b := by omega
      obtain ⟨v, hv⟩ := mix_get xs k k hlt
      have hs := mix_set xs k hlt
      have HS := hs
      clear hs
      unfold byt at hc HS
      go_wp2
      go_roundw
      case rel => exact ⟨k + 1, by omega, by go_num, rfl⟩
      case measure => simp [intOf]; omega
    · go_wp2
      go_ret
      have e : k = xs.length := by omega
      subst e
      exact ⟨rfl, by rw [mix_all]⟩
end Go.Proofs.YtapbcpilklhoiabDoor

namespace Go.Proofs.YtapbcpilklhoiabDoor
open Go.RowKit

/-- The slice value v holds just xs, in a block of the call's own (from base on), or is nil. -/
def Own (w : World) (base : Nat) (v : Value) (xs : List UInt8) : Prop := w.ownsRow base 5 1 v xs.length (xs.map byt)

theorem Own.nil (w : World) (base : Nat) : Own w base (.slice none 0 0) [] := ⟨rfl, .inl ⟨rfl, rfl⟩⟩
theorem Own.drew {w : World} {base : Nat} {v : Value} {xs : List UInt8} (h : Own w base v xs) : Own w.drew base v xs := h
theorem Own.drewN {w : World} {base : Nat} {v : Value} {xs : List UInt8} (h : Own w base v xs) (n : Nat) : Own (w.drewN n) base v xs := h
theorem Own.alloc {w : World} {base : Nat} {v : Value} {xs : List UInt8} (h : Own w base v xs) (o : Obj) : Own (w.alloc o) base v xs := World.ownsRow.alloc h o
theorem Own.keep {w w' : World} {base : Nat} {v : Value} {xs : List UInt8} (h : Own w base v xs) (hk : ∀ g, v.ownBlock = some g → w'.heap[g]? = w.heap[g]?) : Own w' base v xs := by
  refine ⟨h.1, ?_⟩
  rcases h.2 with h2 | ⟨g, cap, cur, hv, hg, hh, r⟩
  · exact .inl h2
  · exact .inr ⟨g, cap, cur, hv, hg, by rw [hk g (by rw [hv]; rfl)]; exact hh, r⟩
theorem Own.lt {w : World} {base : Nat} {v : Value} {xs : List UInt8} (h : Own w base v xs) : ∀ g, v.ownBlock = some g → base ≤ g ∧ g < w.heap.size := World.ownsRow.lt h
theorem Own.from_ {w : World} {base base' : Nat} {v : Value} {xs : List UInt8} (h : Own w base v xs) (hb : base' ≤ base) : Own w base' v xs := by
  refine ⟨h.1, ?_⟩
  rcases h.2 with h2 | ⟨g, cap, cur, hv, hg, r⟩
  · exact .inl h2
  · exact .inr ⟨g, cap, cur, hv, by omega, r⟩
theorem Own.below {w w' : World} {base : Nat} {v : Value} {xs : List UInt8} (h : Own w base v xs) (hb : Below w.heap.size w w') : Own w' base v xs :=
  h.keep fun g hg => hb.block g (h.lt g hg).2
/-- What it is as a value, and what it reads as. -/
theorem Own.form {w : World} {base : Nat} {v : Value} {xs : List UInt8} (h : Own w base v xs) : ∃ A n c, v = .slice A n c ∧ Hid (xs.length = n) ∧ n ≤ c ∧ Has w w.heap.size A xs ∧ (∀ g, v.ownBlock = some g → A = some ⟨g, 0, none⟩) := by
  rcases h.2 with ⟨hv, hn⟩ | ⟨g, cap, cur, hv, hg, hh, hnc, hm, hcs, ht⟩
  · have hx : xs = [] := List.eq_nil_of_length_eq_zero hn
    subst hx
    exact ⟨none, 0, 0, hv, rfl, Nat.le_refl _, Has.nil _ _ _, fun g hg => by rw [hv] at hg; cases hg⟩
  · refine ⟨some ⟨g, 0, none⟩, xs.length, cap, hv, rfl, hnc, ?_, fun g' hg' => by rw [hv] at hg'; simp [Value.ownBlock] at hg'; rw [hg']⟩
    intro k hk
    refine ⟨g, 0, rfl, lt_of_block hh, ?_⟩
    have h1 : (cur.toList.take (xs.length * 1))[k]? = some (byt xs[k]) := by rw [ht]; simp [hk]
    rw [List.getElem?_take_of_lt (by omega)] at h1
    simp only [World.cell?, hh]
    simpa using h1

/-- A block that holds just these bytes is one's own. -/
theorem Own.new (w : World) (xs : List UInt8) (g base : Nat) (hg : g = w.heap.size) (hb : base ≤ g) (hl : xs.length ≤ 140737488355328) : Own (w.alloc (.cells (bcells xs) 5)) base (.slice (some ⟨g, 0, none⟩) xs.length xs.length) xs := by
  subst hg
  refine ⟨by simp, .inr ⟨w.heap.size, xs.length, bcells xs, rfl, hb, heap_alloc_new w _, Nat.le_refl _, by unfold maxLen; omega, by simp [bcells_size], ?_⟩⟩
  rw [Nat.mul_one, bcells, List.take_of_length_le (by simp)]

theorem run_append_bytes (w : World) (ty base : Nat) (v : Value) (xs : List UInt8) (hown : Own w base v xs) (B : Nat) (A : Option Addr) (m c : Nat) (news : List UInt8) (hr : Has w B A news) (hm : news.length = m)
    (hlen : xs.length + m ≤ 140737488355328) (hbase : base ≤ w.heap.size) :
    ∃ v' w', (Builtin.append_ #[35, 35] ty #[v, .slice A m c]).run Tryd.prog w = .ok v' w' ∧ Own w' base v' (xs ++ news) ∧ w.grownBy w' v.ownBlock ∧ (v'.ownBlock = v.ownBlock ∨ v'.ownBlock = some w.heap.size) := by
  obtain ⟨i0, hi0, hz0, hz1, hz2⟩ := info_parts byte_info
  subst hm
  rcases A with _ | ad
  · have hn : news = [] := by
      rcases Nat.eq_zero_or_pos news.length with h0 | h0
      · exact List.eq_nil_of_length_eq_zero h0
      · obtain ⟨_, _, e, _⟩ := hr 0 h0
        cases e
    subst hn
    refine ⟨v, w, ?_, by simpa using hown, World.grownBy.refl w _, .inl rfl⟩
    rcases hown.2 with ⟨rfl, _⟩ | ⟨g, cap, cur, rfl, _, _, hnc, _⟩
    · simp [Builtin.append_, run_underlying Tryd.underlying35, sizeOf, typeInfo, hi0, Builtin.lenOf, Builtin.firstCells]
    · simp [Builtin.append_, run_underlying Tryd.underlying35, sizeOf, typeInfo, hi0, Builtin.lenOf, Builtin.firstCells, hnc, storeCells]
  · have hcells : ∀ j u, (news.map byt)[j]? = some u → w.cell? (ad.add j) = some u := by
      intro j u hu
      have hj : j < news.length := by
        rcases Nat.lt_or_ge j news.length with h | h
        · exact h
        · rw [List.getElem?_eq_none (by simpa using h)] at hu; cases hu
      obtain ⟨b, o, e, _, hc⟩ := hr j hj
      have e' := Option.some.inj e
      subst e'
      simp [hj] at hu
      subst hu
      have ea : (⟨b, o, none⟩ : Addr).add j = ⟨b, o + j, none⟩ := by
        unfold Addr.add
        split <;> simp_all
      rw [ea]
      exact hc
    obtain ⟨v', w', hrun, h2, h3, _, h5⟩ := run_append_own_at (P := Tryd.prog) w base 35 ty 5 i0 (.int .u8 0) 1 1 Tryd.underlying35 hi0 hz0 hz1 hz2 rfl (by omega) v xs.length (xs.map byt) hown ad news.length c (news.map byt) (by simp) hcells (byt_oneCell news)
      (by unfold maxLen; omega) (by omega) hbase
    exact ⟨v', w', hrun, by unfold Own; rw [List.length_append, List.map_append]; exact h2, h3, h5⟩

theorem wp_append_bytes {o : Oper} {a : Act} {K : Act → World → Prop} {Q : Exit → Act → World → Prop} (w : World) (s x : Operand)
    (ho : o.op = .call { callee := .builtin .append, args := #[s, x], argTypes := #[35, 35] }) (base : Nat) (v : Value) (xs : List UInt8) (hs : a.eval s = v) (hown : Own w base v xs)
    (B : Nat) (A : Option Addr) (m c : Nat) (news : List UInt8) (hx : a.eval x = .slice A m c) (hr : Has w B A news) (hm : news.length = m)
    (hlen : xs.length + m ≤ 140737488355328) (hbase : base ≤ w.heap.size)
    (h : ∀ v' w', Own w' base v' (xs ++ news) → w.grownBy w' v.ownBlock → (v'.ownBlock = v.ownBlock ∨ v'.ownBlock = some w.heap.size) → K (a.put o.dst v') w') : o.wp Tryd.prog a w K Q := by
  obtain ⟨v', w', hrun, h2, h3, h4⟩ := run_append_bytes w o.type base v xs hown B A m c news hr hm hlen hbase
  unfold Oper.wp execOp
  simp only [ho, resolve, invoke, builtin, Sem.run_bind, Sem.run_pure, Result.andThen_ok, List.map_toArray, List.map_cons, List.map_nil, hs, hx, hrun]
  exact h v' w' h2 h3 h4

/-- append at a plain region's list of operations. -/
theorem list_append_bytes {ops : Array Oper} {rest : List Oper} {o : Oper} {a : Act} {Q : Exit → Act → World → Prop} (w : World) (hgd : o.guard = none) (s x : Operand)
    (ho : o.op = .call { callee := .builtin .append, args := #[s, x], argTypes := #[35, 35] }) (base : Nat) (v : Value) (xs : List UInt8) (hs : a.eval s = v) (hown : Own w base v xs)
    (B : Nat) (A : Option Addr) (m c : Nat) (news : List UInt8) (hx : a.eval x = .slice A m c) (hr : Has w B A news) (hm : news.length = m)
    (hlen : xs.length + m ≤ 140737488355328) (hbase : base ≤ w.heap.size)
    (h : ∀ v' w', Own w' base v' (xs ++ news) → w.grownBy w' v.ownBlock → (v'.ownBlock = v.ownBlock ∨ v'.ownBlock = some w.heap.size) → wpList Tryd.prog ops Q rest (a.put o.dst v') w') : wpList Tryd.prog ops Q (o :: rest) a w :=
  wpList_plain hgd fun _ hK => wp_append_bytes w s x ho base v xs hs hown B A m c news hx hr hm hlen hbase fun v' w' h2 h3 h4 => hK _ _ (h v' w' h2 h3 h4)

/-- append at a step of a region that draws its order. -/
theorem step_append_bytes {ops : Array Oper} {o : Oper} {a : Act} {K : Act → World → Prop} {Q : Exit → Act → World → Prop} {E : Prop} (w : World) (hgd : o.guard = none) (s x : Operand)
    (ho : o.op = .call { callee := .builtin .append, args := #[s, x], argTypes := #[35, 35] }) (base : Nat) (v : Value) (xs : List UInt8) (hs : a.eval s = v) (hown : Own w base v xs)
    (B : Nat) (A : Option Addr) (m c : Nat) (news : List UInt8) (hx : a.eval x = .slice A m c) (hr : Has w B A news) (hm : news.length = m)
    (hlen : xs.length + m ≤ 140737488355328) (hbase : base ≤ w.heap.size)
    (h : ∀ v' w', Own w' base v' (xs ++ news) → w.grownBy w' v.ownBlock → (v'.ownBlock = v.ownBlock ∨ v'.ownBlock = some w.heap.size) → K (a.put o.dst v') w') :
    if Region.wanted o (yielded ops a.tmps) = true then Oper.wp Tryd.prog o a w K Q else E := by
  rw [if_pos (by simp [Region.wanted, hgd])]
  exact wp_append_bytes w s x ho base v xs hs hown B A m c news hx hr hm hlen hbase h
end Go.Proofs.YtapbcpilklhoiabDoor

namespace Go.Proofs.YtapbcpilklhoiabDoor
open Go.RowKit

/-- What a call that answers a byte slice of new memory leaves. -/
def Makes (xs : List UInt8) (w : World) (e : Ending) (w' : World) : Prop := ∃ v, e = .returned v ∧ Own w' w.heap.size v xs ∧ Below w.heap.size w w'

theorem nil_of_none {w : World} {B : Nat} {xs : List UInt8} (h : Has w B none xs) : xs = [] := by
  rcases Nat.eq_zero_or_pos xs.length with h0 | h0
  · exact List.eq_nil_of_length_eq_zero h0
  · obtain ⟨_, _, e, _⟩ := h 0 h0
    cases e

theorem clone_any (A : Option Addr) (n c B : Nat) (xs : List UInt8) (w : World) (hx : Has w B A xs) (hB : B ≤ w.heap.size) (hn : xs.length = n) (hl : n ≤ 140737488355328) :
    Calls Tryd.prog 63 #[.slice A n c] w (Makes xs w) := by
  subst hn
  have he := fun (W : World) (a : Option Addr) (n c : Nat) => Lib.run_eql_slice_nil (P := Tryd.prog) W 35 5 a n c 0 0 Tryd.underlying35
  rcases A with _ | ad
  · have hx0 := nil_of_none hx
    subst hx0
    go_enter Tryd.func63, Tryd.ntmps63
    go_wp2
    go_ret
    exact ⟨_, rfl, Own.nil _ _, Below.refl _ _⟩
  · go_enter Tryd.func63, Tryd.ntmps63
    go_wp2_with (at_builtin; refine list_append_bytes _ rfl (.tmp 5) (.tmp 6) rfl w.heap.size _ [] rfl (Own.new w [] _ _ rfl (Nat.le_refl _) (by simp)) B (some ad) xs.length c xs rfl (hx.alloc hB _) rfl (by simp; omega) (by simp) ?_; intro v1 w1 hown1 hg1 hat1)
    go_ret
    exact ⟨v1, rfl, by simpa using hown1, ((Below.refl _ _).alloc (Nat.le_refl _) _).grown hg1 (by simp) (by intro k hk; cases hk; exact Nat.le_refl _)⟩
end Go.Proofs.YtapbcpilklhoiabDoor

namespace Go.Proofs.YtapbcpilklhoiabDoor

/-- The n lowest bytes of u, the highest first. -/
def be : Nat → Nat → List UInt8
  | 0, _ => []
  | n + 1, u => UInt8.ofNat (u / 256 ^ n) :: be n u
/-- How many bytes a number below 2^64 has. -/
def bw (u : Nat) : Nat := if u = 0 then 0 else if u < 256 then 1 else if u < 65536 then 2 else if u < 16777216 then 3 else if u < 4294967296 then 4 else if u < 1099511627776 then 5 else if u < 281474976710656 then 6 else if u < 72057594037927936 then 7 else 8
/-- A number as it is written. -/
def enc (u : Nat) : List UInt8 := UInt8.ofNat (bw u) :: be (bw u) u
/-- The number that bytes are, the highest first. -/
def val (xs : List UInt8) : Nat := xs.foldl (fun a c => 256 * a + c.toNat) 0

theorem be_length (n u : Nat) : (be n u).length = n := by
  induction n with
  | zero => rfl
  | succ n ih => simp [be, ih]
theorem bw_le (u : Nat) : bw u ≤ 8 := by
  unfold bw; repeat' split
  all_goals omega
theorem enc_length (u : Nat) : (enc u).length = bw u + 1 := by simp [enc, be_length]
/-- The last byte taken off. -/
theorem be_snoc (n u : Nat) : be (n + 1) u = be n (u / 256) ++ [UInt8.ofNat u] := by
  induction n with
  | zero => simp [be]
  | succ n ih =>
    rw [be, ih, be]
    simp only [List.cons_append]
    congr 2
    rw [Nat.div_div_eq_div_mul, Nat.pow_succ, Nat.mul_comm]
theorem val_snoc (xs : List UInt8) (c : UInt8) : val (xs ++ [c]) = 256 * val xs + c.toNat := by simp [val]
theorem val_be (n u : Nat) : val (be n u) = u % 256 ^ n := by
  induction n generalizing u with
  | zero => simp [be, val, Nat.mod_one]
  | succ n ih =>
    rw [be_snoc, val_snoc, ih]
    have h : (UInt8.ofNat u).toNat = u % 256 := by simp
    rw [h, Nat.pow_succ, Nat.mul_comm (256 ^ n) 256, Nat.mod_mul]
    omega
theorem bw_lt (u : Nat) (h : u < 18446744073709551616) : u < 256 ^ bw u := by
  unfold bw; repeat' split
  all_goals omega
theorem bw_ge (u : Nat) (h : 0 < bw u) : 256 ^ (bw u - 1) ≤ u := by
  unfold bw at *; revert h; repeat' split
  all_goals omega
theorem bw_zero (u : Nat) : bw u = 0 ↔ u = 0 := by
  unfold bw; repeat' split
  all_goals omega
/-- The number comes back. -/
theorem val_enc (u : Nat) (h : u < 18446744073709551616) : val (be (bw u) u) = u := by
  rw [val_be, Nat.mod_eq_of_lt (bw_lt u h)]
/-- The first byte behind the length is not 0. -/
theorem be_head (u : Nat) (h : u < 18446744073709551616) (h0 : 0 < bw u) : ∃ c t, be (bw u) u = c :: t ∧ c ≠ 0 := by
  have h1 := bw_ge u h0
  have h2 := bw_lt u h
  generalize bw u = n at *
  obtain ⟨m, rfl⟩ : ∃ m, n = m + 1 := ⟨n - 1, by omega⟩
  refine ⟨_, _, rfl, ?_⟩
  intro e
  have e1 : (UInt8.ofNat (u / 256 ^ m)).toNat = 0 := by rw [e]; rfl
  have e2 : (UInt8.ofNat (u / 256 ^ m)).toNat = u / 256 ^ m % 256 := by simp
  simp only [Nat.add_sub_cancel] at h1
  have h3 : 0 < u / 256 ^ m := Nat.div_pos h1 (Nat.pow_pos (by omega))
  have h4 : u / 256 ^ m < 256 := by
    rw [Nat.div_lt_iff_lt_mul (Nat.pow_pos (by omega))]
    rw [Nat.pow_succ] at h2
    omega
  omega
theorem from_right {P : List UInt8 → Prop} (h0 : P []) (h1 : ∀ xs c, P xs → P (xs ++ [c])) (xs : List UInt8) : P xs := by
  have key : ∀ n (l : List UInt8), l.length = n → P l := by
    intro n
    induction n with
    | zero => intro l hl; rw [List.eq_nil_of_length_eq_zero hl]; exact h0
    | succ n ih =>
      intro l hl
      have hne : l ≠ [] := by rintro rfl; simp at hl
      rw [← List.dropLast_concat_getLast hne]
      exact h1 _ _ (ih _ (by simp [hl]))
  exact key _ xs rfl
theorem val_lt (xs : List UInt8) : val xs < 256 ^ xs.length := by
  refine from_right (P := fun xs => val xs < 256 ^ xs.length) (by simp [val]) (fun l c ih => ?_) xs
  have := c.toNat_lt
  rw [val_snoc, List.length_append, List.length_singleton, Nat.pow_succ]
  omega
/-- Bytes are the form of the number that they are, at their own length. -/
theorem be_val (xs : List UInt8) : be xs.length (val xs) = xs := by
  refine from_right (P := fun xs => be xs.length (val xs) = xs) rfl (fun l c ih => ?_) xs
  have hc := c.toNat_lt
  rw [val_snoc, List.length_append, List.length_singleton, be_snoc]
  have e1 : (256 * val l + c.toNat) / 256 = val l := by omega
  have e2 : UInt8.ofNat (256 * val l + c.toNat) = c := by
    apply UInt8.toNat_inj.1
    simp
  rw [e1, e2, ih]
theorem val_cons (c : UInt8) (t : List UInt8) : val (c :: t) = c.toNat * 256 ^ t.length + val t := by
  have key : ∀ (l : List UInt8) (a : Nat), l.foldl (fun a c => 256 * a + c.toNat) a = a * 256 ^ l.length + val l := by
    intro l
    induction l with
    | nil => intro a; simp [val]
    | cons d l ih =>
      intro a
      have h1 := ih (256 * a + d.toNat)
      have h2 := ih d.toNat
      simp only [List.foldl_cons, List.length_cons, val, Nat.mul_zero, Nat.zero_add] at *
      rw [h1, h2, Nat.pow_succ, Nat.add_mul]
      have : 256 * a * 256 ^ l.length = a * (256 ^ l.length * 256) := by rw [Nat.mul_comm 256 a, Nat.mul_assoc, Nat.mul_comm 256]
      omega
  have h := key t c.toNat
  simpa [val] using h
/-- Where the first byte isn't 0 the number has just so many bytes. -/
theorem bw_val (c : UInt8) (t : List UInt8) (hc : c ≠ 0) (hl : t.length < 8) : bw (val (c :: t)) = t.length + 1 := by
  have h1 := val_lt (c :: t)
  have h2 : 256 ^ t.length ≤ val (c :: t) := by
    rw [val_cons]
    have : 1 ≤ c.toNat := by
      rcases Nat.eq_zero_or_pos c.toNat with h | h
      · exact absurd (UInt8.toNat_inj.1 (by simpa using h)) hc
      · exact h
    have := Nat.mul_le_mul_right (256 ^ t.length) this
    omega
  rw [List.length_cons] at h1
  generalize val (c :: t) = v at *
  generalize t.length = n at *
  have hn : n = 0 ∨ n = 1 ∨ n = 2 ∨ n = 3 ∨ n = 4 ∨ n = 5 ∨ n = 6 ∨ n = 7 := by omega
  unfold bw
  rcases hn with rfl | rfl | rfl | rfl | rfl | rfl | rfl | rfl <;> simp only [Nat.reducePow, Nat.reduceAdd] at h1 h2 <;> repeat' split
  all_goals omega
theorem be_get (n u i : Nat) (h : i < n) : (be n u)[i]'(by rw [be_length]; exact h) = UInt8.ofNat (u / 256 ^ (n - 1 - i)) := by
  induction n generalizing i with
  | zero => omega
  | succ n ih =>
    cases i with
    | zero => simp [be]
    | succ i =>
      have e : n + 1 - 1 - (i + 1) = n - 1 - i := by omega
      rw [e, ← ih i (by omega)]
      simp [be]
/-- One byte more off the front. -/
theorem be_take (n u i : Nat) (h : i < n) : (be n u).take (n - i) = (be n u).take (n - (i + 1)) ++ [UInt8.ofNat (u / 256 ^ i)] := by
  have e : n - i = n - (i + 1) + 1 := by omega
  rw [e, List.take_succ_eq_append_getElem (by rw [be_length]; omega), be_get n u _ (by omega), show n - 1 - (n - (i + 1)) = i from by omega]
theorem enc_whole (u : Nat) : UInt8.ofNat (bw u) :: (be (bw u) u).take (bw u - 0) = enc u := by
  rw [Nat.sub_zero, List.take_of_length_le (by rw [be_length]; omega)]; rfl
end Go.Proofs.YtapbcpilklhoiabDoor

namespace Go.Proofs.YtapbcpilklhoiabDoor
open Go.Shelf Go.RowKit

def len64_ren : Go.Shelf.Ren := ⟨fun | 129 => 95 | n => n, fun | 53 => 75 | 3 => 3 | 4 => 4 | 46 => 142 | 5 => 5 | 9 => 9 | n => n, fun | n => n⟩
theorem len64_lays : Go.Proofs.Lays.n129 Tryd.prog len64_ren := {
  mixed := by kernel_rfl
  f129 := Tryd.func95.trans (congrArg some (by kernel_rfl))
  t3 := Tryd.underlying3
  a3 := Tryd.isAgg3
  z3 := Tryd.sizeOf3
  v3 := Tryd.zeroValue3
  t4 := Tryd.underlying4
  a4 := Tryd.isAgg4
  z4 := Tryd.sizeOf4
  v4 := Tryd.zeroValue4
  t5 := Tryd.underlying5
  a5 := Tryd.isAgg5
  z5 := Tryd.sizeOf5
  v5 := Tryd.zeroValue5
  t9 := Tryd.underlying9
  a9 := Tryd.isAgg9
  z9 := Tryd.sizeOf9
  v9 := Tryd.zeroValue9
  t46 := Tryd.underlying142
  a46 := Tryd.isAgg142
  z46 := Tryd.sizeOf142
  v46 := Tryd.zeroValue142
  t53 := Tryd.underlying75
  a53 := Tryd.isAgg75
  z53 := Tryd.sizeOf75
  v53 := Tryd.zeroValue75 }

theorem aux_bounds : ∀ (f x : Nat), x < 2 ^ f → x ≠ 0 → 1 ≤ Lib.bitLenAux f x ∧ 2 ^ (Lib.bitLenAux f x - 1) ≤ x ∧ x < 2 ^ Lib.bitLenAux f x := by
  intro f
  induction f with
  | zero => intro x h h0; simp at h; omega
  | succ f ih =>
    intro x h h0
    rw [Lib.bitLenAux, if_neg h0]
    by_cases h2 : x / 2 = 0
    · have hx : x = 1 := by omega
      have e : Lib.bitLenAux f (x / 2) = 0 := by rw [h2]; cases f <;> simp [Lib.bitLenAux]
      rw [e, hx]
      simp
    · rw [Nat.pow_succ] at h
      obtain ⟨a, b, c⟩ := ih (x / 2) (by omega) h2
      generalize Lib.bitLenAux f (x / 2) = l at *
      obtain ⟨m, rfl⟩ : ∃ m, l = m + 1 := ⟨l - 1, by omega⟩
      have e1 : 1 + (m + 1) - 1 = m + 1 := by omega
      have e2 : 1 + (m + 1) = m + 1 + 1 := by omega
      rw [e1, e2]
      simp only [Nat.add_sub_cancel, Nat.pow_succ] at *
      omega

theorem bitLen_bw (u : Nat) (h : u < 18446744073709551616) : (Lib.bitLen u + 7) / 8 = bw u ∧ Lib.bitLen u ≤ 64 := by
  have h64 : Lib.bitLen u ≤ 64 := Lib.bitLen_le u 64 (by omega) (by simpa using h)
  refine ⟨?_, h64⟩
  by_cases h0 : u = 0
  · subst h0; rfl
  · obtain ⟨h1, h2, h3⟩ := aux_bounds 64 u (by simpa using h) h0
    have e : Lib.bitLenAux 64 u = Lib.bitLen u := rfl
    rw [e] at h1 h2 h3
    generalize Lib.bitLen u = l at *
    have key : ∀ k, u < 2 ^ k ↔ l ≤ k := by
      intro k
      constructor
      · intro hu
        rcases Nat.lt_or_ge k l with hl | hl
        · have := Nat.pow_le_pow_right (show 0 < 2 by omega) (show k ≤ l - 1 by omega)
          omega
        · exact hl
      · intro hl
        have := Nat.pow_le_pow_right (show 0 < 2 by omega) hl
        omega
    have k1 := key 8
    have k2 := key 16
    have k3 := key 24
    have k4 := key 32
    have k5 := key 40
    have k6 := key 48
    have k7 := key 56
    simp only [Nat.reducePow] at k1 k2 k3 k4 k5 k6 k7
    clear key h2 h3 e
    unfold bw
    repeat' split
    all_goals omega

theorem width_any (u : Nat) (w : World) (h : u < 18446744073709551616) : Calls Tryd.prog 68 #[.int .u64 (u : Int)] w fun e w' => e = .returned (.int .i64 (bw u : Int)) ∧ w = w' := by
  obtain ⟨h1, h2⟩ := bitLen_bw u h
  have hc := fun w => Any.bits_Len64 len64_lays (u : Int) w (by omega) (by omega)
  have HC := hide hc
  clear hc h
  simp only [Int.toNat_natCast] at HC
  generalize Lib.bitLen u = l at *
  have H1 := hide h1
  clear h1
  go_enter Tryd.func68, Tryd.ntmps68
  go_wp2_with fail
  refine (HC.out _).mono ?_
  rintro e w' ⟨rfl, rfl⟩
  go_wp2
  go_ret
  exact ⟨by rw [← H1.out]; rfl, rfl⟩

/-- A number with a sign as one without. -/
def zig (i : Int) : Nat := if i < 0 then (2 * (-i - 1) + 1).toNat else (2 * i).toNat
/-- The way back. -/
def zag (u : Nat) : Int := if u % 2 = 1 then -((u / 2 : Nat) : Int) - 1 else ((u / 2 : Nat) : Int)
/-- A number of an int. -/
def IsInt (i : Int) : Prop := -9223372036854775808 ≤ i ∧ i ≤ 9223372036854775807
theorem zig_lt {i : Int} (h : IsInt i) : zig i < 18446744073709551616 := by
  unfold zig; unfold IsInt at h; split <;> omega
theorem zag_zig {i : Int} (h : IsInt i) : zag (zig i) = i := by
  unfold zag zig; unfold IsInt at h; split <;> split <;> omega
theorem bits_not (i : Int) (h : IsInt i) : bits .xor .i64 (-1) i = -i - 1 := by
  unfold IsInt at h
  show IntKind.i64.wrap ((BitVec.ofInt 64 (-1) ^^^ BitVec.ofInt 64 i).toNat : Int) = _
  have e1 : BitVec.ofInt 64 (-1) = BitVec.allOnes 64 := by decide
  rw [e1, BitVec.allOnes_xor, BitVec.toNat_not, BitVec.toNat_ofInt, IntKind.wrap_i64]
  omega
theorem zig_neg {i : Int} (h : IsInt i) (h0 : i < 0) : IntKind.u64.wrap (IntKind.u64.wrap (2 * IntKind.u64.wrap (bits .xor .i64 (-1) i)) + 1) = (zig i : Int) := by
  rw [bits_not i h]
  unfold IsInt at h
  unfold zig
  rw [if_pos h0]
  simp only [IntKind.wrap_u64]
  omega
theorem zig_pos {i : Int} (h : IsInt i) (h0 : 0 ≤ i) : IntKind.u64.wrap (2 * IntKind.u64.wrap i) = (zig i : Int) := by
  unfold IsInt at h
  unfold zig
  rw [if_neg (by omega)]
  simp only [IntKind.wrap_u64]
  omega
theorem ret_num {k : IntKind} {a b : Int} (h : a = b) : Ending.returned (.int k a) = .returned (.int k b) := by rw [h]
theorem fold_any (i : Int) (w : World) (h : IsInt i) : Calls Tryd.prog 69 #[.int .i64 i] w fun e w' => e = .returned (.int .u64 (zig i : Int)) ∧ w = w' := by
  have HI := hide h
  clear h
  by_cases h0 : i < 0
  · have t1 : decide (i < 0) = true := by simpa using h0
    go_enter Tryd.func69, Tryd.ntmps69
    go_wp2
    go_ret
    exact ⟨ret_num (zig_neg HI.out h0), rfl⟩
  · have t1 : decide (i < 0) = false := by simpa using h0
    have HN := hide (show 0 ≤ i by omega)
    clear h0
    go_enter Tryd.func69, Tryd.ntmps69
    go_wp2
    go_ret
    exact ⟨ret_num (zig_pos HI.out HN.out), rfl⟩
theorem zig_neg2 {i : Int} (h : IsInt i) (h0 : i < 0) : IntKind.u64.wrap (IntKind.u64.wrap (2 * IntKind.u64.wrap (wrap64 (-wrap64 (i + 1)))) + 1) = (zig i : Int) := by
  unfold IsInt at h
  unfold zig wrap64
  rw [if_pos h0]
  simp only [IntKind.wrap_u64]
  omega
theorem half_wrap {u : Nat} (h : u < 18446744073709551616) : wrap64 (IntKind.u64.wrap ((u : Int) / 2)) = ((u / 2 : Nat) : Int) := by
  unfold wrap64
  simp only [IntKind.wrap_u64]
  omega
theorem zag_odd {u : Nat} (h : u < 18446744073709551616) (h0 : u % 2 = 1) : bits .xor .i64 (-1) (wrap64 (IntKind.u64.wrap ((u : Int) / 2))) = zag u := by
  rw [half_wrap h, bits_not _ (by unfold IsInt; omega)]
  unfold zag
  rw [if_pos h0]
theorem zag_odd2 {u : Nat} (h : u < 18446744073709551616) (h0 : u % 2 = 1) : wrap64 (wrap64 (-wrap64 (IntKind.u64.wrap ((u : Int) / 2))) - 1) = zag u := by
  rw [half_wrap h]
  unfold zag wrap64
  rw [if_pos h0]
  omega
theorem zag_even {u : Nat} (h : u < 18446744073709551616) (h0 : ¬ u % 2 = 1) : wrap64 (IntKind.u64.wrap ((u : Int) / 2)) = zag u := by
  rw [half_wrap h]
  unfold zag
  rw [if_neg h0]
theorem reffold_any (i : Int) (w : World) (h : IsInt i) : Calls Tryd.prog 71 #[.int .i64 i] w fun e w' => e = .returned (.int .u64 (zig i : Int)) ∧ w = w' := by
  have HI := hide h
  clear h
  by_cases h0 : i < 0
  · have t1 : decide (0 ≤ i) = false := by simp; omega
    have HN := hide h0
    clear h0
    go_enter Tryd.func71, Tryd.ntmps71
    go_wp2
    go_ret
    exact ⟨ret_num (zig_neg2 HI.out HN.out), rfl⟩
  · have t1 : decide (0 ≤ i) = true := by simp; omega
    have HN := hide (show 0 ≤ i by omega)
    clear h0
    go_enter Tryd.func71, Tryd.ntmps71
    go_wp2
    go_ret
    exact ⟨ret_num (zig_pos HI.out HN.out), rfl⟩
theorem unfold_any (u : Nat) (w : World) (h : u < 18446744073709551616) : Calls Tryd.prog 96 #[.int .u64 (u : Int)] w fun e w' => e = .returned (.int .i64 (zag u)) ∧ w = w' := by
  have HI := hide h
  clear h
  by_cases h0 : u % 2 = 1
  · have t1 : ((u : Int) % 2 == 1) = true := by simp; omega
    have HN := hide h0
    clear h0
    go_enter Tryd.func96, Tryd.ntmps96
    go_wp2
    go_ret
    exact ⟨ret_num (zag_odd HI.out HN.out), rfl⟩
  · have t1 : ((u : Int) % 2 == 1) = false := by simp; omega
    have HN := hide h0
    clear h0
    go_enter Tryd.func96, Tryd.ntmps96
    go_wp2
    go_ret
    exact ⟨ret_num (zag_even HI.out HN.out), rfl⟩
theorem refunfold_any (u : Nat) (w : World) (h : u < 18446744073709551616) : Calls Tryd.prog 76 #[.int .u64 (u : Int)] w fun e w' => e = .returned (.int .i64 (zag u)) ∧ w = w' := by
  have HI := hide h
  clear h
  by_cases h0 : u % 2 = 1
  · have t1 : ((u : Int) % 2 == 0) = false := by simp; omega
    have HN := hide h0
    clear h0
    go_enter Tryd.func76, Tryd.ntmps76
    go_wp2
    go_ret
    exact ⟨ret_num (zag_odd2 HI.out HN.out), rfl⟩
  · have t1 : ((u : Int) % 2 == 0) = true := by simp; omega
    have HN := hide h0
    clear h0
    go_enter Tryd.func76, Tryd.ntmps76
    go_wp2
    go_ret
    exact ⟨ret_num (zag_even HI.out HN.out), rfl⟩
end Go.Proofs.YtapbcpilklhoiabDoor
