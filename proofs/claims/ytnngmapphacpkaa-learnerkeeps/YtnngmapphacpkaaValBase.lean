/-
  The calls on values in the words of one structure, for the walks of the Value laws. Conditions: what is read is in reach.
-/
import Derived.Test.YtnngmapphacpkaaValEnc
import Derived.Test.YtnngmapphacpkaaValClone
set_option linter.unusedSimpArgs false
set_option linter.unusedVariables false
namespace Go.Proofs.Ytnngmapphacpkaa
open Go.RowKit

/-- A value as memory holds it. -/
structure IsV (w : World) (B : Nat) (A : Option Addr) (n : Nat) (D : Option Addr) (m : Nat) (cs : List Cmdv) (ns : List Int) : Prop where
  c : HasC w B A cs
  i : HasI w B D ns
  en : cs.length = n
  em : ns.length = m
  ln : n ≤ 2199023255552
  lm : m ≤ 17592186043904
  cc : ∀ x ∈ cs, IsCmd x
section
variable {w w' : World} {B n m : Nat} {A D : Option Addr} {cs : List Cmdv} {ns : List Int}
theorem IsV.on (h : IsV w B A n D m cs ns) (hB : B ≤ w.heap.size) (hb : Below w.heap.size w w') : IsV w' B A n D m cs ns := ⟨h.c.on hB hb, h.i.on hB hb, h.en, h.em, h.ln, h.lm, h.cc⟩
theorem IsV.below (h : IsV w B A n D m cs ns) (hb : Below B w w') : IsV w' B A n D m cs ns := ⟨h.c.below hb, h.i.below hb, h.en, h.em, h.ln, h.lm, h.cc⟩
theorem IsV.more {B' : Nat} (h : IsV w B A n D m cs ns) (hB : B ≤ B') : IsV w B' A n D m cs ns := ⟨h.c.more hB, h.i.more hB, h.en, h.em, h.ln, h.lm, h.cc⟩
theorem IsV.last (h : IsV w w.heap.size A n D m cs ns) (hb : Below w.heap.size w w') : IsV w' w'.heap.size A n D m cs ns := (h.on (Nat.le_refl _) hb).more hb.size
end

def CopyEnds (k : Int) (n m : Nat) (cs : List Cmdv) (ns : List Int) (w : World) (e : Ending) (w' : World) : Prop :=
  ∃ A' c' D' d', e = .returned (.agg #[.int .i64 k, .slice A' n c', .slice D' m d']) ∧ IsV w' w'.heap.size A' n D' m cs ns ∧ Below w.heap.size w w'
theorem IsV.copy {w : World} {B n m : Nat} {A D : Option Addr} {cs : List Cmdv} {ns : List Int} (h : IsV w B A n D m cs ns) (hB : B ≤ w.heap.size) (k : Int) (c d : Nat) :
    Calls Try.prog 25 #[.agg #[.int .i64 k, .slice A n c, .slice D m d]] w (CopyEnds k n m cs ns w) :=
  (rvcopy_any k A D n c m d B cs ns w h.c h.i hB h.en h.em h.ln (by have := h.lm; omega)).mono fun e w' => by
    rintro ⟨A', c', D', d', rfl, ho, hi, hb⟩
    obtain ⟨_, _, _, e1, _, _, g1⟩ := ho.form
    obtain ⟨_, _, _, e2, _, _, g2⟩ := hi.form
    cases e1
    cases e2
    exact ⟨A', c', D', d', rfl, ⟨g1, g2, h.en, h.em, h.ln, h.lm, h.cc⟩, hb⟩
def EncEnds (k : Int) (cs : List Cmdv) (ns : List Int) (w : World) (e : Ending) (w' : World) : Prop :=
  ∃ v, e = .returned (.tuple #[v, .int .i64 (chkV k cs ns)]) ∧ Hid (chkV k cs ns = 0 → Own w' w.heap.size v (encV k cs ns)) ∧ Hid (chkV k cs ns ≠ 0 → v = .slice none 0 0) ∧ Below w.heap.size w w'
theorem IsV.same {w : World} {B n m : Nat} {A D : Option Addr} {cs : List Cmdv} {ns : List Int} (h : IsV w B A n D m cs ns) {n' m' : Nat} {A' D' : Option Addr} {cs' : List Cmdv} {ns' : List Int} (h' : IsV w B A' n' D' m' cs' ns') (hB : B ≤ w.heap.size) (k c d k' c' d') :
    Calls Try.prog 58 #[.agg #[.int .i64 k, .slice A n c, .slice D m d], .agg #[.int .i64 k', .slice A' n' c', .slice D' m' d']] w fun e w' => e = .returned (.bool (sameV k cs ns k' cs' ns')) ∧ Below w.heap.size w w' :=
  vsame_any k k' A A' D D' n n' c c' m m' d d' B cs cs' ns ns' w h.c h.i h'.c h'.i hB h.en h'.en h.em h'.em (by have := h.ln; omega) (by have := h.lm; omega)
theorem IsV.rsame {w : World} {B n m : Nat} {A D : Option Addr} {cs : List Cmdv} {ns : List Int} (h : IsV w B A n D m cs ns) {n' m' : Nat} {A' D' : Option Addr} {cs' : List Cmdv} {ns' : List Int} (h' : IsV w B A' n' D' m' cs' ns') (hB : B ≤ w.heap.size) (k c d k' c' d') :
    Calls Try.prog 21 #[.agg #[.int .i64 k, .slice A n c, .slice D m d], .agg #[.int .i64 k', .slice A' n' c', .slice D' m' d']] w fun e w' => e = .returned (.bool (sameV k cs ns k' cs' ns')) ∧ Below w.heap.size w w' :=
  rvsame_any k k' A A' D D' n n' c c' m m' d d' B cs cs' ns ns' w h.c h.i h'.c h'.i hB h.en h'.en h.em h'.em (by have := h.ln; omega) (by have := h.lm; omega)
theorem IsV.check {w : World} {B n m : Nat} {A D : Option Addr} {cs : List Cmdv} {ns : List Int} (h : IsV w B A n D m cs ns) (hB : B ≤ w.heap.size) (k : Int) (c d : Nat) :
    Calls Try.prog 34 #[.agg #[.int .i64 k, .slice A n c, .slice D m d]] w fun e w' => e = .returned (.int .i64 (chkV k cs ns)) ∧ Below w.heap.size w w' :=
  vcheck_any k A D n c m d B cs ns w h.c h.i hB h.en h.em (by have := h.lm; omega)

theorem ints_inj {c d : Cmdv} (h : c.ints = d.ints) : c = d := by
  cases c
  cases d
  simp only [Cmdv.ints, List.cons.injEq, and_true] at h
  obtain ⟨h0, h1, h2, h3, h4, h5, h6, h7⟩ := h
  subst h0 h1 h2 h3 h4 h5 h6 h7
  rfl
theorem sameV_iff {k k' : Int} {cs cs' : List Cmdv} {ns ns' : List Int} : sameV k cs ns k' cs' ns' = true ↔ k = k' ∧ cs = cs' ∧ ns = ns' := by
  have key : cs.map Cmdv.ints = cs'.map Cmdv.ints ↔ cs = cs' := by
    constructor
    · intro h
      exact (List.map_inj_right (fun x y h => ints_inj h)).1 h
    · rintro rfl; rfl
  unfold sameV eqCs
  simp [key]
theorem sameV_refl (k : Int) (cs : List Cmdv) (ns : List Int) : sameV k cs ns k cs ns = true := sameV_iff.2 ⟨rfl, rfl, rfl⟩
end Go.Proofs.Ytnngmapphacpkaa
