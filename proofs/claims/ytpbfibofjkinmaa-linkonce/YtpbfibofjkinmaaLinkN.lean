/-
  read of package link: what a frame says, and its error. Conditions: what is read is in reach.
-/
import Derived.Test.YtpbfibofjkinmaaLinkM
import Derived.Test.YtpbfibofjkinmaaLinkJ
set_option linter.unusedSimpArgs false
set_option linter.unusedVariables false
namespace Go.Proofs.Ytpbfibofjkinmaa
open Go.RowKit Go.Maps

/-- The most that a number of a frame may be. -/
def M40 : Int := 1099511627776
theorem m40_int : IsInt M40 := by unfold M40 IsInt; omega
/-- What a frame's bytes say, and what is left. -/
structure RdF where
  kd : Nat
  lf : Nat
  nm : Nat
  od : Nat
  xs : List UInt8
  s : RSt
def rd3 (fs : List UInt8) : RdF :=
  let a := rc 2 (fs, 0)
  let b := rc M40 a.2
  let c := rc M40 b.2
  ⟨a.1, b.1, c.1, 0, [], c.2⟩
def rd5 (F : RdF) : RdF :=
  if F.kd = 1 then ⟨F.kd, F.lf, F.nm, (rc M40 F.s).1, (rt 65536 (rc M40 F.s).2).1, (rt 65536 (rc M40 F.s).2).2⟩ else F
def rdF (fs : List UInt8) : RdF := rd5 (rd3 fs)
/-- The error of a frame. -/
def RdF.err (F : RdF) : Int := if dn F.s = 0 then (if rightF F.kd F.lf F.nm F.od = true then 0 else 26) else (dn F.s : Int)

def RdF.cells (F : RdF) (A : Option Addr) (n c : Nat) : Array Value := #[.int .i64 (F.kd : Int), .int .i64 (F.lf : Int), .int .i64 (F.nm : Int), .int .i64 (F.od : Int), .slice A n c]
def zF : Array Value := #[.int .i64 0, .int .i64 0, .int .i64 0, .int .i64 0, .slice none 0 0]

/-- What stands in the midst of read. -/
structure RMid (w : World) (g fb : Nat) (F : RdF) (A : Option Addr) (n c : Nat) (wx : World) : Prop where
  rd : ∃ b, Rd wx g b F.s.1 F.s.2 ∧ ∀ k, b = some k → w.heap.size < k ∧ k < fb
  box : wx.heap[fb]? = some (.cells (F.cells A n c) 97 (0, 0))
  res : wx.heap[w.heap.size]? = some (.cells zF 97 (0, 0))
  own : Own wx w.heap.size (.slice A n c) F.xs
  bel : Below w.heap.size w wx
  g0 : w.heap.size < g
  gf : g < fb
theorem RMid.lt {w wx : World} {g fb : Nat} {F : RdF} {A : Option Addr} {n c : Nat} (h : RMid w g fb F A n c wx) : g < wx.heap.size := by
  obtain ⟨_, ⟨_, _, _, hv, _⟩, _⟩ := h.rd
  exact lt_of_block hv
theorem RMid.ne {w wx : World} {g fb : Nat} {F : RdF} {A : Option Addr} {n c : Nat} (h : RMid w g fb F A n c wx) : g ≠ fb ∧ (∀ j, (Value.slice A n c).ownBlock = some j → j ≠ g ∧ j ≠ fb ∧ j ≠ w.heap.size) := by
  obtain ⟨_, ⟨_, _, _, hv, _⟩, _⟩ := h.rd
  refine ⟨typed_ne hv h.box (by decide), fun j hj => ?_⟩
  obtain ⟨cur, hc⟩ := ownsRow_typed h.own j hj
  exact ⟨typed_ne hc hv (by decide), typed_ne hc h.box (by decide), typed_ne hc h.res (by decide)⟩
/-- What is done by the reader alone. -/
theorem RMid.kept {w wx wy : World} {g fb : Nat} {F : RdF} {A : Option Addr} {n c : Nat} (h : RMid w g fb F A n c wx) (hk : Kept (fun k => k = g) wx wy) :
    wy.heap[fb]? = some (.cells (F.cells A n c) 97 (0, 0)) ∧ wy.heap[w.heap.size]? = some (.cells zF 97 (0, 0)) ∧ Own wy w.heap.size (.slice A n c) F.xs ∧ Below w.heap.size w wy :=
  ⟨(hk.block fb (lt_of_block h.box) (fun e => h.ne.1 e.symm)).trans h.box, (hk.block _ (lt_of_block h.res) (fun e => by have := h.g0; omega)).trans h.res,
    h.own.keep fun j hj => hk.block j (h.own.lt j hj).2 (h.ne.2 j hj).1, h.bel.trans (hk.below h.bel.size (fun k hk => by have := h.g0; omega))⟩
/-- A call of the reader, and then a store into the box. -/
theorem RMid.put {w wx wy : World} {g fb i : Nat} {F F' : RdF} {A A' : Option Addr} {n c n' c' : Nat} {b b' : Option Nat} {v : Value} (h : RMid w g fb F A n c wx) (hb : ∀ k, b = some k → w.heap.size < k ∧ k < fb) (R : RGo g b wx F'.s b' wy)
    (ho : Own wy w.heap.size (.slice A' n' c') F'.xs) (hc : (F.cells A n c).setIfInBounds i v = F'.cells A' n' c') : RMid w g fb F' A' n' c' (wy.setCell ⟨fb, i, none⟩ v) := by
  obtain ⟨y1, y2, y3, y4⟩ := h.kept R.kept
  have hk7 : Kept (fun k => k = fb) wy (wy.setCell ⟨fb, i, none⟩ v) := (Kept.refl (fun k => k = fb) wy).setCell (p := ⟨fb, i, none⟩) (.inl rfl) _
  have hgf := h.gf
  have hg0 := h.g0
  have hb' : ∀ k, b' = some k → w.heap.size < k ∧ k < fb := fun k hk => by
    rcases R.lie with e | e
    · exact hb k (e.symm.trans hk)
    · rw [e] at hk; cases hk
  refine ⟨⟨b', R.rd.kept hk7 (fun k hk e => ?_), hb'⟩, ?_, (hk7.block _ (lt_of_block y2) (by omega)).trans y2, ho.keep fun j hj => hk7.block j (ho.lt j hj).2 ?_, y4.trans (hk7.below y4.size (fun k hk => by omega)), hg0, hgf⟩
  · rcases hk with e' | e'
    · omega
    · have := hb' k e'
      omega
  · rw [set_cell_at _ y1, hc]
  · obtain ⟨cur, hc2⟩ := ownsRow_typed ho j hj
    exact typed_ne hc2 y1 (by decide)
end Go.Proofs.Ytpbfibofjkinmaa
