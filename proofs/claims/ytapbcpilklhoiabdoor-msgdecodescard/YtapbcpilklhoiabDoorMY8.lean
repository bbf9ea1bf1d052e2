/-
  Decode of package value, whatever the bytes. Conditions: what is read is in reach.
  Take of the reference of package value, whatever is read. No condition but the reach of what is read.
  The head of synodlaw03, Right of synodref03, is of synodlaw03. No condition.
-/
import Derived.Test.YtapbcpilklhoiabDoorMY5
import Derived.Test.YtapbcpilklhoiabDoorMY7
import Derived.Test.YtapbcpilklhoiabDoorMY4
import Derived.Test.YtapbcpilklhoiabDoorMY6
set_option linter.unusedSimpArgs false
set_option linter.unusedVariables false

namespace Go.Proofs.YtapbcpilklhoiabDoor
open Go.RowKit

/-- What Done answers. -/
def dn (s : RSt) : Nat := if s.2 = 0 then (if s.1 = [] then 0 else 13) else s.2
theorem dn_zero {s : RSt} (h : dn s = 0) : s = ([], 0) := by
  obtain ⟨xs, er⟩ := s
  unfold dn at h
  simp only at h
  split at h
  · split at h
    · simp_all
    · omega
  · omega
theorem rdone_st (g : Nat) (b : Option Nat) (s : RSt) (w : World) (h : Rd w g b s.1 s.2) : Calls Tryd.prog 53 #[.pointer (some ⟨g, 0, none⟩)] w fun e w' => e = .returned (.int .i64 (dn s : Int)) ∧ Kept (fun k => k = g) w w' := by
  obtain ⟨xs, er⟩ := s
  unfold dn
  simp only at h ⊢
  by_cases h0 : er = 0
  · subst h0
    by_cases hx : xs = []
    · subst hx
      rw [if_pos rfl, if_pos rfl]
      refine (rdone_end g b w h).mono ?_
      rintro e w' ⟨rfl, rfl⟩
      exact ⟨rfl, Kept.refl _ _⟩
    · rw [if_pos rfl, if_neg hx]
      refine (rdone_trail g b xs w h hx).mono ?_
      rintro e w' ⟨rfl, _, _, _, hk⟩
      exact ⟨rfl, hk⟩
  · rw [if_neg h0]
    refine (rdone_stuck g b xs er w h h0).mono ?_
    rintro e w' ⟨rfl, rfl⟩
    exact ⟨rfl, Kept.refl _ _⟩

/-- What Decode answers beside the value. -/
def decE (xs : List UInt8) : Int := if dn (rdV (xs, 0)).s = 0 then chkV (rdV (xs, 0)).k (rdV (xs, 0)).cs (rdV (xs, 0)).ns else (dn (rdV (xs, 0)).s : Int)
theorem rdV_lens (s : RSt) : (rdV s).cs.length ≤ 8 ∧ (rdV s).ns.length ≤ 7 ∧ (∀ x ∈ (rdV s).cs, IsCmd x) := by
  have h8 := rc_le (s := (rc 2 s).2) (most := 8) (by omega)
  have h7 := rc_le (s := (rdC (rc 8 (rc 2 s).2).1 (rc 8 (rc 2 s).2).2).2) (most := 7) (by omega)
  unfold rdV
  simp only [rdC_len, rdN_len]
  exact ⟨by omega, by omega, rdC_isCmd _ _⟩

/-- How a Decode ends. -/
def DecEnds (de : Int) (V : RdV) (w : World) (e : Ending) (w' : World) : Prop :=
  (∃ A' n' c' D m d, e = .returned (.tuple #[.agg #[.int .i64 (if de = 0 then (V.k : Int) else 0), .slice A' n' c', .slice D m d], .int .i64 de]) ∧ IsV w' w'.heap.size A' n' D m (if de = 0 then V.cs else []) (if de = 0 then V.ns else [])) ∧ Below w.heap.size w w'

end Go.Proofs.YtapbcpilklhoiabDoor

namespace Go.Proofs.YtapbcpilklhoiabDoor
open Go.RowKit

/-- Memory within the reference's Take. -/
structure TW (w : World) (B gv : Nat) (st : RSt) (A : Option Addr) (n c : Nat) (kd : Int) (Av : Option Addr) (nv cv : Nat) (cs : List Cmdv) (D : Option Addr) (m d : Nat) (ns : List Int) (W : World) : Prop where
  box : W.heap[w.heap.size]? = some (.cells #[.slice A n c, .int .i64 (st.2 : Int)] 89 (0, 0))
  r1 : W.heap[w.heap.size + 1]? = some (.cells #[.slice none 0 0, .int .i64 0] 89 (0, 0))
  r2 : W.heap[w.heap.size + 1 + 1]? = some (.cells #[.int .i64 0, .slice none 0 0, .slice none 0 0] 27 (0, 0))
  v : W.heap[gv]? = some (.cells #[.int .i64 kd, .slice Av nv cv, .slice D m d] 27 (0, 0))
  left : st.2 = 0 → Left W B A n c st.1
  oc : OwnC W (gv + 1) (.slice Av nv cv) cs
  oi : OwnI W (gv + 1) (.slice D m d) ns
  bl : Below w.heap.size w W
  lo : w.heap.size + 1 + 1 < gv
  hB : B ≤ w.heap.size
section
variable {w : World} {B gv : Nat} {st : RSt} {A : Option Addr} {n c : Nat} {kd : Int} {Av : Option Addr} {nv cv : Nat} {cs : List Cmdv} {D : Option Addr} {m d : Nat} {ns : List Int} {W W' : World}
theorem TW.sz (h : TW w B gv st A n c kd Av nv cv cs D m d ns W) : gv < W.heap.size := lt_of_block h.v
theorem TW.below (h : TW w B gv st A n c kd Av nv cv cs D m d ns W) (hb : Below W.heap.size W W') : TW w B gv st A n c kd Av nv cv cs D m d ns W' := by
  have hz := h.sz
  have hl := h.lo
  have hB := h.hB
  exact ⟨(hb.block _ (by omega)).trans h.box, (hb.block _ (by omega)).trans h.r1, (hb.block _ (by omega)).trans h.r2, (hb.block _ hz).trans h.v, fun e => (h.left e).below (hb.mono (by omega)), h.oc.below hb, h.oi.below hb, h.bl.trans (hb.mono h.bl.size), h.lo, h.hB⟩
theorem TW.rebox {st' : RSt} {A' : Option Addr} {n' c' : Nat} (h : TW w B gv st A n c kd Av nv cv cs D m d ns W) (hk : Kept (fun k => k = w.heap.size) W W')
    (hbox : W'.heap[w.heap.size]? = some (.cells #[.slice A' n' c', .int .i64 (st'.2 : Int)] 89 (0, 0))) (hl : st'.2 = 0 → Left W B A' n' c' st'.1) : TW w B gv st' A' n' c' kd Av nv cv cs D m d ns W' := by
  have hz := h.sz
  have hlo := h.lo
  have hB := h.hB
  exact ⟨hbox, (hk.block _ (by omega) (by omega)).trans h.r1, (hk.block _ (by omega) (by omega)).trans h.r2, (hk.block _ hz (by omega)).trans h.v, fun e => ⟨(hl e).1.keep fun b hb => hk.block b (by omega) (by omega), (hl e).2⟩,
    h.oc.keep fun g hg => hk.block g ((h.oc.lt g hg).2) (by have := (h.oc.lt g hg).1; omega), h.oi.keep fun g hg => hk.block g ((h.oi.lt g hg).2) (by have := (h.oi.lt g hg).1; omega), h.bl.trans (hk.below h.bl.size (fun k hk => by omega)), h.lo, h.hB⟩
/-- The box is set to what a call gave. -/
theorem TW.set {st' : RSt} {A' : Option Addr} {n' c' : Nat} (h : TW w B gv st A n c kd Av nv cv cs D m d ns W) (hl : st'.2 = 0 → Left W B A' n' c' st'.1) :
    TW w B gv st' A' n' c' kd Av nv cv cs D m d ns ((W.setCell ⟨w.heap.size, 0, none⟩ (.slice A' n' c')).setCell ⟨w.heap.size, 1, none⟩ (.int .i64 (st'.2 : Int))) :=
  h.rebox (((Kept.refl (fun k => k = w.heap.size) W).setCell (p := ⟨w.heap.size, 0, none⟩) (.inl rfl) _).setCell (p := ⟨w.heap.size, 1, none⟩) (.inl rfl) _) (two_set1 (two_set0 h.box)) hl
theorem TW.cmds {ob : Obj} {Av' : Option Addr} {nv' cv' : Nat} {cs' : List Cmdv} (h : TW w B gv st A n c kd Av nv cv cs D m d ns W) (hgr : (W.alloc ob).grownBy W' (Value.slice Av nv cv).ownBlock) (ho : OwnC W' (gv + 1) (.slice Av' nv' cv') cs') :
    TW w B gv st A n c kd Av' nv' cv' cs' D m d ns (W'.setCell ⟨gv, 1, none⟩ (.slice Av' nv' cv')) := by
  have hz := h.sz
  have hlo := h.lo
  have hB := h.hB
  have hap := ownCI_apart h.oc h.oi
  have hk1 : Kept (fun k => (Value.slice Av nv cv).ownBlock = some k) W W' := (Kept.of_below (F := fun k => (Value.slice Av nv cv).ownBlock = some k) ((Below.refl _ _).alloc (Nat.le_refl _) ob)).step (Kept.of_grown (F := fun k => (Value.slice Av nv cv).ownBlock = some k) hgr (fun k hk => hk)) (fun k hk => .inl hk)
  have hlt : ∀ k, (Value.slice Av nv cv).ownBlock = some k → gv + 1 ≤ k := fun k hk => (h.oc.lt k hk).1
  have hz' := hk1.size
  have hk : Kept (fun k => k = gv) W' (W'.setCell ⟨gv, 1, none⟩ (.slice Av' nv' cv')) := (Kept.refl (fun k => k = gv) W').setCell (p := ⟨gv, 1, none⟩) (.inl rfl) _
  have old : ∀ k, k < gv → (W'.setCell ⟨gv, 1, none⟩ (.slice Av' nv' cv')).heap[k]? = W.heap[k]? := fun k hk' => (hk.block k (by omega) (by omega)).trans (hk1.block k (by omega) (fun e => by have := hlt k e; omega))
  have hv' : W'.heap[gv]? = _ := (hk1.block gv hz (fun e => by have := hlt gv e; omega)).trans h.v
  have hoi : OwnI W' (gv + 1) (.slice D m d) ns := h.oi.keep fun g hg => hk1.block g ((h.oi.lt g hg).2) (fun e => hap g e hg)
  refine ⟨(old _ (by omega)).trans h.box, (old _ (by omega)).trans h.r1, (old _ (by omega)).trans h.r2, by simp [World.setCell, Array.getElem?_modify, hv'], fun e => ⟨(h.left e).1.keep fun b hb => old b (by omega), (h.left e).2⟩,
    ho.keep fun g hg => hk.block g ((ho.lt g hg).2) (by have := (ho.lt g hg).1; omega), hoi.keep fun g hg => hk.block g ((hoi.lt g hg).2) (by have := (hoi.lt g hg).1; omega),
    (h.bl.trans (hk1.below h.bl.size (fun k hk => by have := hlt k hk; omega))).trans (hk.below (by have := h.bl.size; omega) (fun k hk => by omega)), h.lo, h.hB⟩
theorem TW.ints {ob : Obj} {D' : Option Addr} {m' d' : Nat} {ns' : List Int} (h : TW w B gv st A n c kd Av nv cv cs D m d ns W) (hgr : (W.alloc ob).grownBy W' (Value.slice D m d).ownBlock) (ho : OwnI W' (gv + 1) (.slice D' m' d') ns') :
    TW w B gv st A n c kd Av nv cv cs D' m' d' ns' (W'.setCell ⟨gv, 2, none⟩ (.slice D' m' d')) := by
  have hz := h.sz
  have hlo := h.lo
  have hB := h.hB
  have hap := ownCI_apart h.oc h.oi
  have hk1 : Kept (fun k => (Value.slice D m d).ownBlock = some k) W W' := (Kept.of_below (F := fun k => (Value.slice D m d).ownBlock = some k) ((Below.refl _ _).alloc (Nat.le_refl _) ob)).step (Kept.of_grown (F := fun k => (Value.slice D m d).ownBlock = some k) hgr (fun k hk => hk)) (fun k hk => .inl hk)
  have hlt : ∀ k, (Value.slice D m d).ownBlock = some k → gv + 1 ≤ k := fun k hk => (h.oi.lt k hk).1
  have hz' := hk1.size
  have hk : Kept (fun k => k = gv) W' (W'.setCell ⟨gv, 2, none⟩ (.slice D' m' d')) := (Kept.refl (fun k => k = gv) W').setCell (p := ⟨gv, 2, none⟩) (.inl rfl) _
  have old : ∀ k, k < gv → (W'.setCell ⟨gv, 2, none⟩ (.slice D' m' d')).heap[k]? = W.heap[k]? := fun k hk' => (hk.block k (by omega) (by omega)).trans (hk1.block k (by omega) (fun e => by have := hlt k e; omega))
  have hv' : W'.heap[gv]? = _ := (hk1.block gv hz (fun e => by have := hlt gv e; omega)).trans h.v
  have hoc : OwnC W' (gv + 1) (.slice Av nv cv) cs := h.oc.keep fun g hg => hk1.block g ((h.oc.lt g hg).2) (hap g hg)
  refine ⟨(old _ (by omega)).trans h.box, (old _ (by omega)).trans h.r1, (old _ (by omega)).trans h.r2, by simp [World.setCell, Array.getElem?_modify, hv'], fun e => ⟨(h.left e).1.keep fun b hb => old b (by omega), (h.left e).2⟩,
    hoc.keep fun g hg => hk.block g ((hoc.lt g hg).2) (by have := (hoc.lt g hg).1; omega), ho.keep fun g hg => hk.block g ((ho.lt g hg).2) (by have := (ho.lt g hg).1; omega),
    (h.bl.trans (hk1.below h.bl.size (fun k hk => by have := hlt k hk; omega))).trans (hk.below (by have := h.bl.size; omega) (fun k hk => by omega)), h.lo, h.hB⟩
end
theorem rcx_rc (xs : List UInt8) (er : Nat) (most : Int) : rcx xs most er = rc most (xs, er) := by
  unfold rcx rc rcn rnx
  by_cases h : er = 0
  · subst h
    simp
  · simp [h]

def RcEnds (B : Nat) (q : Nat × RSt) (w : World) (e : Ending) (w' : World) : Prop :=
  ∃ A n c, e = .returned (.tuple #[.agg #[.slice A n c, .int .i64 (q.2.2 : Int)], .int .i64 (q.1 : Int)]) ∧ Hid (q.2.2 = 0 → Left w' B A n c q.2.1) ∧ Below w.heap.size w w'
theorem rcount_ref (A : Option Addr) (n c B : Nat) (s : RSt) (most : Int) (w : World) (h : s.2 = 0 → Left w B A n c s.1) (hB : B ≤ w.heap.size) (hm : IsInt most) :
    Calls Tryd.prog 72 #[.agg #[.slice A n c, .int .i64 (s.2 : Int)], .int .i64 most] w (RcEnds B (rc most s) w) := by
  have hr := readcount_all A n c B s.2 s.1 most w h hB hm
  rw [rcx_rc] at hr
  refine hr.mono ?_
  rintro e w' ⟨A', n', c', rfl, hl, o1, o2, o3, o4, hw⟩
  exact ⟨A', n', c', rfl, hl, by rw [← hw]; exact below4 w o1 o2 o3 o4⟩

def TakeEnds (B : Nat) (kd : Nat) (cs : List Cmdv) (ns : List Int) (s : RSt) (w : World) (e : Ending) (w' : World) : Prop :=
  ∃ A n c Av nv cv D m d, e = .returned (.tuple #[.agg #[.slice A n c, .int .i64 (s.2 : Int)], .agg #[.int .i64 (kd : Int), .slice Av nv cv, .slice D m d]]) ∧ Hid (s.2 = 0 → Left w' B A n c s.1) ∧ OwnC w' w.heap.size (.slice Av nv cv) cs ∧ OwnI w' w.heap.size (.slice D m d) ns ∧ Below w.heap.size w w'

theorem results_takev {tmps : Array Value} {w : World} {g g' : Nat} {A A' : Array Value} {t t' : TypeId} (h2 : tmps.getD 2 undef = .pointer (some ⟨g, 0, none⟩)) (h3 : tmps.getD 3 undef = .pointer (some ⟨g', 0, none⟩)) (hA : w.heap[g]? = some (.cells A t (0, 0))) (hA' : w.heap[g']? = some (.cells A' t' (0, 0))) (sA : A.size = 2) (sA' : A'.size = 3) :
    (results Tryd.f73 tmps).run Tryd.prog w = .ok (.tuple #[.agg A, .agg A']) w := by
  have h2' : tmps[2]?.getD undef = .pointer (some ⟨g, 0, none⟩) := by simpa using h2
  have h3' : tmps[3]?.getD undef = .pointer (some ⟨g', 0, none⟩) := by simpa using h3
  have i1 : (Tryd.prog.info? 89).map (·.size) = some A.size := by rw [sA]; kernel_rfl
  have i2 : (Tryd.prog.info? 27).map (·.size) = some A'.size := by rw [sA']; kernel_rfl
  have e1 := run_loadVar_row (P := Tryd.prog) w g t 89 A (0, 0) _ hA Tryd.underlying89 rfl i1
  have e2 := run_loadVar_row (P := Tryd.prog) w g' t' 27 A' (0, 0) _ hA' Tryd.underlying27 rfl i2
  simp [results, Tryd.results73, h2', h3', asAddr, e1, e2]
  try rfl

set_option maxRecDepth 20000 in
set_option maxHeartbeats 3200000 in
theorem rvtake_gen (A : Option Addr) (n c B : Nat) (s : RSt) (w : World) (h : s.2 = 0 → Left w B A n c s.1) (hB : B ≤ w.heap.size) (s1 s2 s4 s5 : RSt) (kd M m : Nat) (cs : List Cmdv) (hM : M ≤ 1000) (hm : m ≤ 1000) (h1 : rc 2 s = (kd, s1)) (h2 : rc 8 s1 = (M, s2)) (h3 : rdC M s2 = (cs, s4)) (h4 : rc 7 s4 = (m, s5)) :
    Calls Tryd.prog 73 #[.agg #[.slice A n c, .int .i64 (s.2 : Int)]] w (TakeEnds B kd cs (rdN m s5).1 (rdN m s5).2 w) := by
  have H0 := hide h
  have HM := hide hM
  have Hm := hide hm
  have H1 := hide h1
  have H2 := hide h2
  have H3 := hide h3
  have H4 := hide h4
  clear h h1 h2 h3 h4
  go_enter Tryd.func73, Tryd.ntmps73
  go_wp2_with fail
  have hq0 : (((w.alloc (.cells #[.slice A n c, .int .i64 (s.2 : Int)] 89)).alloc (.cells #[.slice none 0 0, .int .i64 0] 89)).alloc (.cells #[.int .i64 0, .slice none 0 0, .slice none 0 0] 27)).heap[w.heap.size]? = some (.cells #[.slice A n c, .int .i64 (s.2 : Int)] 89 (0, 0)) :=
    (Below.heap_alloc _ _ _ (by simp <;> omega)).trans ((Below.heap_alloc _ _ _ (by simp)).trans (heap_alloc_new w _))
  have hq1 : (((w.alloc (.cells #[.slice A n c, .int .i64 (s.2 : Int)] 89)).alloc (.cells #[.slice none 0 0, .int .i64 0] 89)).alloc (.cells #[.int .i64 0, .slice none 0 0, .slice none 0 0] 27)).heap[w.heap.size + 1]? = some (.cells #[.slice none 0 0, .int .i64 0] 89 (0, 0)) := by
    refine (Below.heap_alloc _ _ _ (by simp)).trans ?_
    have := heap_alloc_new (w.alloc (.cells #[.slice A n c, .int .i64 (s.2 : Int)] 89)) (.cells #[.slice none 0 0, .int .i64 0] 89)
    simpa using this
  have hq2 : (((w.alloc (.cells #[.slice A n c, .int .i64 (s.2 : Int)] 89)).alloc (.cells #[.slice none 0 0, .int .i64 0] 89)).alloc (.cells #[.int .i64 0, .slice none 0 0, .slice none 0 0] 27)).heap[w.heap.size + 1 + 1]? = some (.cells #[.int .i64 0, .slice none 0 0, .slice none 0 0] 27 (0, 0)) := by
    have := heap_alloc_new ((w.alloc (.cells #[.slice A n c, .int .i64 (s.2 : Int)] 89)).alloc (.cells #[.slice none 0 0, .int .i64 0] 89)) (.cells #[.int .i64 0, .slice none 0 0, .slice none 0 0] 27)
    simpa using this
  have hb0 : Below w.heap.size w (((w.alloc (.cells #[.slice A n c, .int .i64 (s.2 : Int)] 89)).alloc (.cells #[.slice none 0 0, .int .i64 0] 89)).alloc (.cells #[.int .i64 0, .slice none 0 0, .slice none 0 0] 27)) := by go_grown
  generalize ((w.alloc (.cells #[.slice A n c, .int .i64 (s.2 : Int)] 89)).alloc (.cells #[.slice none 0 0, .int .i64 0] 89)).alloc (.cells #[.int .i64 0, .slice none 0 0, .slice none 0 0] 27) = W0 at *
  have hz0 := lt_of_block hq2
  refine (rcount_ref A n c B s 2 W0 (fun e => (H0.out e).below (hb0.mono hB)) (by omega) (isInt_lit (by omega))).mono ?_
  rw [H1.out]
  rintro e w1 ⟨A1, n1, c1, rfl, hL1, b1⟩
  simp only at hL1 ⊢
  have hz1 := b1.size
  have hq01 := (b1.block _ (lt_of_block hq0)).trans hq0
  have hq11 := (b1.block _ (lt_of_block hq1)).trans hq1
  have hq21 := (b1.block _ (lt_of_block hq2)).trans hq2
  have hb1 := hb0.trans (b1.mono hb0.size)
  clear hq0 hq1 hq2 hb0 b1 H0
  obtain ⟨p0, p1, p2, p3⟩ := two_cells hq01
  go_upto_region 2 with fail
  have hk2 : Kept (fun k => k = w.heap.size) w1 ((w1.setCell ⟨w.heap.size, 0, none⟩ (.slice A1 n1 c1)).setCell ⟨w.heap.size, 1, none⟩ (.int .i64 (s1.2 : Int))) := ((Kept.refl (fun k => k = w.heap.size) w1).setCell (p := ⟨w.heap.size, 0, none⟩) (.inl rfl) _).setCell (p := ⟨w.heap.size, 1, none⟩) (.inl rfl) _
  have hq02 := two_set1 (u := .int .i64 (s1.2 : Int)) (two_set0 (u := .slice A1 n1 c1) hq01)
  generalize (w1.setCell ⟨w.heap.size, 0, none⟩ (.slice A1 n1 c1)).setCell ⟨w.heap.size, 1, none⟩ (.int .i64 (s1.2 : Int)) = w2 at *
  clear p0 p1 p2 p3 hq01
  have hz2 := hk2.size
  have ba := (Below.refl _ w2).alloc (Nat.le_refl _) (.cells #[.int .i64 (kd : Int), .slice none 0 0, .slice none 0 0] 27)
  have T3 : TW w B w2.heap.size s1 A1 n1 c1 kd none 0 0 [] none 0 0 [] (w2.alloc (.cells #[.int .i64 (kd : Int), .slice none 0 0, .slice none 0 0] 27)) := by
    refine ⟨(ba.block _ (by omega)).trans hq02, (ba.block _ (by omega)).trans ((hk2.block _ (by omega) (by omega)).trans hq11), (ba.block _ (by omega)).trans ((hk2.block _ (by omega) (by omega)).trans hq21), heap_alloc_new w2 _, fun e => ?_, OwnC.nil _ _, OwnI.nil _ _, (hb1.trans (hk2.below hb1.size (fun k hk => by omega))).trans (ba.mono (by omega)), by omega, hB⟩
    have hl := hL1.out e
    exact ⟨hl.1.keep fun b hb => (ba.block b (by omega)).trans (hk2.block b (by omega) (by omega)), hl.2⟩
  go_upto_region 3 with fail
  generalize w2.alloc (.cells #[.int .i64 (kd : Int), .slice none 0 0, .slice none 0 0] 27) = w3 at *
  generalize w2.heap.size = gv at *
  clear hk2 hq02 hL1 ba hb1 hq11 hq21 hz0 hz1 hz2
  obtain ⟨p0, p1, p2, p3⟩ := two_cells T3.box
  go_wp2_with fail
  refine (rcount_ref A1 n1 c1 B s1 8 w3 T3.left (by have := T3.bl.size; omega) (isInt_lit (by omega))).mono ?_
  rw [H2.out]
  rintro e w4 ⟨A4, n4, c4, rfl, hL4, b4⟩
  simp only at hL4 ⊢
  have T4 := T3.below b4
  clear T3 b4 p0 p1 p2 p3
  obtain ⟨p0, p1, p2, p3⟩ := two_cells T4.box
  have T5 := T4.set hL4.out
  go_upto_region 4 with fail
  generalize (w4.setCell ⟨w.heap.size, 0, none⟩ (.slice A4 n4 c4)).setCell ⟨w.heap.size, 1, none⟩ (.int .i64 (s2.2 : Int)) = w5 at *
  clear T4 p0 p1 p2 p3 hL4
  go_wp2_with fail
  go_loopw [7] (fun i wr => ∃ (j : Nat) (A : Option Addr) (n c : Nat) (Av : Option Addr) (nv cv : Nat), j ≤ M ∧ i = .int .i64 j ∧ TW w B gv (rdC j s2).2 A n c kd Av nv cv (rdC j s2).1 none 0 0 [] wr) (fun i _ => M - (intOf i).toNat)
  case atStart => exact ⟨0, A4, n4, c4, none, 0, 0, Nat.zero_le _, rfl, T5⟩
  case round =>
    clear T5
    obtain ⟨j, A5, n5, c5, Av, nv, cv, hj, rfl, T⟩ := hrel
    by_cases hlt : j < M
    · have hst : rdC (j + 1) s2 = ((rdC j s2).1 ++ [(tk (rdC j s2).2).1], (tk (rdC j s2).2).2) := rfl
      have hlen := rdC_len j s2
      have HST := hide hst
      clear hst
      generalize rdC j s2 = q at *
      obtain ⟨ds, st⟩ := q
      simp only at hlen T HST
      obtain ⟨p0, p1, p2, p3⟩ := two_cells T.box
      go_wp2_with fail
      have htk := rtakecmd_any A5 n5 c5 B st.2 st.1 wr T.left (by have := T.bl.size; omega)
      rw [show (st.1, st.2) = st from rfl] at htk
      generalize tk st = q9 at *
      obtain ⟨x, st'⟩ := q9
      simp only at htk HST
      unfold Cmdv.val at htk
      refine htk.mono ?_
      rintro e w6 ⟨⟨A6, n6, c6, rfl, hL6⟩, b6⟩
      have HL6 := hide hL6
      have T6 := T.below b6
      clear T b6 htk hL6 p0 p1 p2 p3
      go_upto_region 8 with fail
      have ba : Below w6.heap.size w6 ((w6.alloc (.cells #[.slice A6 n6 c6, .int .i64 (st'.2 : Int)] 89)).alloc (.cells #[.int .i64 x.s, .int .i64 x.q, .int .i64 x.a, .int .i64 x.k, .int .i64 x.r, .int .i64 x.t, .int .i64 x.re, .int .i64 x.im] 32)) := by go_grown
      have hn8 : ((w6.alloc (.cells #[.slice A6 n6 c6, .int .i64 (st'.2 : Int)] 89)).alloc (.cells #[.int .i64 x.s, .int .i64 x.q, .int .i64 x.a, .int .i64 x.k, .int .i64 x.r, .int .i64 x.t, .int .i64 x.re, .int .i64 x.im] 32)).heap[w6.heap.size]? = some (.cells #[.slice A6 n6 c6, .int .i64 (st'.2 : Int)] 89 (0, 0)) := (Below.heap_alloc _ _ _ (by simp)).trans (heap_alloc_new w6 _)
      have hn9 : ((w6.alloc (.cells #[.slice A6 n6 c6, .int .i64 (st'.2 : Int)] 89)).alloc (.cells #[.int .i64 x.s, .int .i64 x.q, .int .i64 x.a, .int .i64 x.k, .int .i64 x.r, .int .i64 x.t, .int .i64 x.re, .int .i64 x.im] 32)).heap[w6.heap.size + 1]? = some (.cells #[.int .i64 x.s, .int .i64 x.q, .int .i64 x.a, .int .i64 x.k, .int .i64 x.r, .int .i64 x.t, .int .i64 x.re, .int .i64 x.im] 32 (0, 0)) := by
        have := heap_alloc_new (w6.alloc (.cells #[.slice A6 n6 c6, .int .i64 (st'.2 : Int)] 89)) (.cells #[.int .i64 x.s, .int .i64 x.q, .int .i64 x.a, .int .i64 x.k, .int .i64 x.r, .int .i64 x.t, .int .i64 x.re, .int .i64 x.im] 32)
        simpa using this
      generalize (w6.alloc (.cells #[.slice A6 n6 c6, .int .i64 (st'.2 : Int)] 89)).alloc (.cells #[.int .i64 x.s, .int .i64 x.q, .int .i64 x.a, .int .i64 x.k, .int .i64 x.r, .int .i64 x.t, .int .i64 x.re, .int .i64 x.im] 32) = w7 at *
      have T7 := T6.below ba
      have hz67 := lt_of_block hn9
      have hB7 : B ≤ w6.heap.size := by have := T6.bl.size; omega
      have HL7 : Hid (st'.2 = 0 → Left w7 B A6 n6 c6 st'.1) := hide (fun e => (HL6.out e).below (ba.mono hB7))
      have hwz : w.heap.size < w6.heap.size := lt_of_block T6.box
      clear T6 ba HL6 hB7
      obtain ⟨p0, p1, p2, p3⟩ := two_cells T7.box
      obtain ⟨r0, r1, _, _⟩ := two_cells hn8
      have T8 := T7.set HL7.out
      have hk8 : Kept (fun k => k = w.heap.size) w7 ((w7.setCell ⟨w.heap.size, 0, none⟩ (.slice A6 n6 c6)).setCell ⟨w.heap.size, 1, none⟩ (.int .i64 (st'.2 : Int))) := ((Kept.refl (fun k => k = w.heap.size) w7).setCell (p := ⟨w.heap.size, 0, none⟩) (.inl rfl) _).setCell (p := ⟨w.heap.size, 1, none⟩) (.inl rfl) _
      go_upto_region 9 with fail
      generalize (w7.setCell ⟨w.heap.size, 0, none⟩ (.slice A6 n6 c6)).setCell ⟨w.heap.size, 1, none⟩ (.int .i64 (st'.2 : Int)) = w8 at *
      have hn98 := (hk8.block (w6.heap.size + 1) hz67 (by omega)).trans hn9
      clear T7 p0 p1 p2 p3 r0 r1 hn8 hn9 hk8 HL7
      have hv1 := (row_cells T8.v 1).1
      simp only [List.getElem?_toArray, List.getElem?_cons_succ, List.getElem?_cons_zero] at hv1
      have y0 := (row_cells hn98 0).1
      have y1 := (row_cells hn98 1).1
      have y2 := (row_cells hn98 2).1
      have y3 := (row_cells hn98 3).1
      have y4 := (row_cells hn98 4).1
      have y5 := (row_cells hn98 5).1
      have y6 := (row_cells hn98 6).1
      have y7 := (row_cells hn98 7).1
      simp only [List.getElem?_toArray, List.getElem?_cons_succ, List.getElem?_cons_zero] at y0 y1 y2 y3 y4 y5 y6 y7
      have hone := HasC.one w8 x _ rfl
      have hgz := T8.sz
      obtain ⟨v9, w9, hr9, ho9, hg9, _⟩ := run_append_cmds (w8.alloc (.cells #[.int .i64 x.s, .int .i64 x.q, .int .i64 x.a, .int .i64 x.k, .int .i64 x.r, .int .i64 x.t, .int .i64 x.re, .int .i64 x.im] 32)) 24 (gv + 1) _ ds (T8.oc.below ((Below.refl _ _).alloc (Nat.le_refl _) _)) (w8.heap.size + 1) (some ⟨w8.heap.size, 0, none⟩) 1 1 [x] hone rfl (by have := HM.out; omega) (by simp; omega)
      have hk9 : Kept (fun k => gv + 1 ≤ k) w8 w9 := (Kept.of_below (F := fun k => gv + 1 ≤ k) ((Below.refl _ _).alloc (Nat.le_refl _) _)).step (Kept.of_grown (F := fun k => gv + 1 ≤ k) hg9 (fun k hk => (T8.oc.lt k hk).1)) (fun k hk => .inl hk)
      have hv9 := (hk9.block gv hgz (by omega)).trans T8.v
      obtain ⟨z1, z2⟩ := row_cells hv9 1
      simp only [List.getElem?_toArray, List.getElem?_cons_succ, List.getElem?_cons_zero] at z1
      obtain ⟨A9, n9, c9, rfl, _, _, _⟩ := ho9.form
      have T9 := T8.cmds hg9 ho9
      have HR9 := hide hr9
      clear hr9 hg9 hk9 hv9 hone
      go_wp2_with (at_builtin; refine list_append_want _ (by rfl) (.tmp 37) (.tmp 39) 24 24 rfl _ _ rfl rfl _ _ HR9.out ?_)
      go_roundw
      case rel => exact ⟨j + 1, A6, n6, c6, A9, n9, c9, by omega, by go_num, by rw [HST.out]; exact T9⟩
      case measure => simp [intOf]; omega
    · obtain rfl : j = M := by omega
      rw [H3.out] at T
      simp only at T
      obtain ⟨w5b, hw5b⟩ : ∃ W, W = wr := ⟨wr, rfl⟩
      subst hw5b
      obtain ⟨p0, p1, p2, p3⟩ := two_cells T.box
      go_wp2_with fail
      refine (rcount_ref A5 n5 c5 B s4 7 _ T.left (by have := T.bl.size; omega) (isInt_lit (by omega))).mono ?_
      rw [H4.out]
      rintro e w4b ⟨A4b, n4b, c4b, rfl, hL4, b4⟩
      simp only at hL4 ⊢
      have T4 := T.below b4
      clear T b4 p0 p1 p2 p3
      obtain ⟨p0, p1, p2, p3⟩ := two_cells T4.box
      have T5 := T4.set hL4.out
      go_upto_region 11 with fail
      generalize (w4b.setCell ⟨w.heap.size, 0, none⟩ (.slice A4b n4b c4b)).setCell ⟨w.heap.size, 1, none⟩ (.int .i64 (s5.2 : Int)) = w5 at *
      clear T4 p0 p1 p2 p3 hL4
      go_wp2_with fail
      go_loopw [10] (fun i wr => ∃ (i2 : Nat) (A : Option Addr) (n c : Nat) (D : Option Addr) (l d : Nat), i2 ≤ m ∧ i = .int .i64 i2 ∧ TW w B gv (rdN i2 s5).2 A n c kd Av nv cv cs D l d (rdN i2 s5).1 wr) (fun i _ => m - (intOf i).toNat)
      case atStart => exact ⟨0, A4b, n4b, c4b, none, 0, 0, Nat.zero_le _, rfl, T5⟩
      case round =>
        clear T5
        obtain ⟨i2, A8, n8, c8, D, l, d, hj2, rfl, T⟩ := hrel
        by_cases hlt : i2 < m
        · have hst : rdN (i2 + 1) s5 = ((rdN i2 s5).1 ++ [((rc 9 (rdN i2 s5).2).1 : Int)], (rc 9 (rdN i2 s5).2).2) := rfl
          have hlen := rdN_len i2 s5
          have HST := hide hst
          clear hst
          generalize rdN i2 s5 = q at *
          obtain ⟨ns, st⟩ := q
          simp only at hlen T HST
          obtain ⟨p0, p1, p2, p3⟩ := two_cells T.box
          go_wp2_with fail
          refine (rcount_ref A8 n8 c8 B st 9 wr T.left (by have := T.bl.size; omega) (isInt_lit (by omega))).mono ?_
          generalize rc 9 st = q9 at *
          obtain ⟨x, st'⟩ := q9
          simp only at HST
          rintro e w6 ⟨A6, n6, c6, rfl, HL6, b6⟩
          simp only at HL6 ⊢
          have T6 := T.below b6
          clear T b6 p0 p1 p2 p3
          go_upto_region 15 with fail
          have ba : Below w6.heap.size w6 (w6.alloc (.cells #[.slice A6 n6 c6, .int .i64 (st'.2 : Int)] 89)) := by go_grown
          have hn8 := heap_alloc_new w6 (.cells #[.slice A6 n6 c6, .int .i64 (st'.2 : Int)] 89)
          generalize w6.alloc (.cells #[.slice A6 n6 c6, .int .i64 (st'.2 : Int)] 89) = w7 at *
          have T7 := T6.below ba
          have hB7 : B ≤ w6.heap.size := by have := T6.bl.size; omega
          have HL7 : Hid (st'.2 = 0 → Left w7 B A6 n6 c6 st'.1) := hide (fun e => (HL6.out e).below (ba.mono hB7))
          clear T6 ba HL6 hB7
          obtain ⟨p0, p1, p2, p3⟩ := two_cells T7.box
          obtain ⟨r0, r1, _, _⟩ := two_cells hn8
          have T8 := T7.set HL7.out
          go_upto_region 16 with fail
          generalize (w7.setCell ⟨w.heap.size, 0, none⟩ (.slice A6 n6 c6)).setCell ⟨w.heap.size, 1, none⟩ (.int .i64 (st'.2 : Int)) = w8 at *
          clear T7 p0 p1 p2 p3 r0 r1 hn8 HL7
          have hv1 := (row_cells T8.v 2).1
          simp only [List.getElem?_toArray, List.getElem?_cons_succ, List.getElem?_cons_zero] at hv1
          have hone := HasI.new w8 3 [(x : Int)] (0, 0) _ rfl
          have hgz := T8.sz
          obtain ⟨v9, w9, hr9, ho9, hg9, _⟩ := run_append_ints (w8.alloc (.cells (icells [(x : Int)]) 3)) 25 (gv + 1) _ ns (T8.oi.below ((Below.refl _ _).alloc (Nat.le_refl _) _)) (w8.heap.size + 1) (some ⟨w8.heap.size, 0, none⟩) 1 1 [(x : Int)] hone rfl (by have := Hm.out; omega) (by simp; omega)
          have hk9 : Kept (fun k => gv + 1 ≤ k) w8 w9 := (Kept.of_below (F := fun k => gv + 1 ≤ k) ((Below.refl _ _).alloc (Nat.le_refl _) _)).step (Kept.of_grown (F := fun k => gv + 1 ≤ k) hg9 (fun k hk => (T8.oi.lt k hk).1)) (fun k hk => .inl hk)
          have hv9 := (hk9.block gv hgz (by omega)).trans T8.v
          obtain ⟨z1, z2⟩ := row_cells hv9 2
          simp only [List.getElem?_toArray, List.getElem?_cons_succ, List.getElem?_cons_zero] at z1
          obtain ⟨A9, n9, c9, rfl, _, _, _⟩ := ho9.form
          have T9 := T8.ints hg9 ho9
          have HR9 := hide hr9
          clear hr9 hg9 hk9 hv9 hone
          go_wp2_with (at_builtin; refine list_append_want _ (by rfl) (.tmp 59) (.tmp 61) 25 25 rfl _ _ rfl rfl _ _ HR9.out ?_)
          go_roundw
          case rel => exact ⟨i2 + 1, A6, n6, c6, A9, n9, c9, by omega, by go_num, by rw [HST.out]; exact T9⟩
          case measure => simp [intOf]; omega
        · obtain rfl : i2 = m := by omega
          generalize hr6 : rdN i2 s5 = q6 at *
          have HR6 := hide hr6
          clear hr6
          obtain ⟨ns6, s6⟩ := q6
          simp only at T
          have T9 := T
          have hz9 := T9.sz
          have hlo9 := T9.lo
          have hbl9 := T9.bl.size
          obtain ⟨p0, p1, _, _⟩ := two_cells T9.box
          have y0 := (row_cells T9.v 0).1
          have y1 := (row_cells T9.v 1).1
          have y2 := (row_cells T9.v 2).1
          simp only [List.getElem?_toArray, List.getElem?_cons_succ, List.getElem?_cons_zero] at y0 y1 y2
          have HS7 : Hid (∀ W, Kept (fun k => k = w.heap.size + 1 ∨ k = w.heap.size + 1 + 1) wr.drew W → W.cell? ⟨w.heap.size, 0, none⟩ = some (.slice A8 n8 c8) ∧ W.cell? ⟨w.heap.size, 1, none⟩ = some (.int .i64 (s6.2 : Int)) ∧ W.cell? ⟨gv, 0, none⟩ = some (.int .i64 (kd : Int)) ∧ W.cell? ⟨gv, 1, none⟩ = some (.slice Av nv cv) ∧ W.cell? ⟨gv, 2, none⟩ = some (.slice D l d)) := hide (fun W h => by
            have e1 : ∀ i, W.cell? ⟨w.heap.size, i, none⟩ = wr.cell? ⟨w.heap.size, i, none⟩ := fun i => h.cell (by show w.heap.size < wr.heap.size; omega) (by omega)
            have e2 : ∀ i, W.cell? ⟨gv, i, none⟩ = wr.cell? ⟨gv, i, none⟩ := fun i => h.cell (by show gv < wr.heap.size; omega) (by omega)
            exact ⟨(e1 _).trans p0, (e1 _).trans p1, (e2 _).trans y0, (e2 _).trans y1, (e2 _).trans y2⟩)
          clear p0 p1 y0 y1 y2
          go_wp2_with fail
          have hq17 : wr.drew.heap[w.heap.size + 1]? = some (.cells #[.slice none 0 0, .int .i64 0] 89 (0, 0)) := T9.r1
          have hq27 : wr.drew.heap[w.heap.size + 1 + 1]? = some (.cells #[.int .i64 0, .slice none 0 0, .slice none 0 0] 27 (0, 0)) := T9.r2
          have hoc7 : OwnC wr.drew (gv + 1) (.slice Av nv cv) cs := T9.oc
          have hoi7 : OwnI wr.drew (gv + 1) (.slice D l d) ns6 := T9.oi
          have b7 : Below w.heap.size w wr.drew := T9.bl.drew
          have hL7 : Hid (s6.2 = 0 → Left wr.drew B A8 n8 c8 s6.1) := hide T9.left
          have hz7 : gv < wr.drew.heap.size := hz9
          refine wp_region_held_drew (S := fun W => W.cell? ⟨w.heap.size, 0, none⟩ = some (.slice A8 n8 c8) ∧ W.cell? ⟨w.heap.size, 1, none⟩ = some (.int .i64 (s6.2 : Int)) ∧ W.cell? ⟨gv, 0, none⟩ = some (.int .i64 (kd : Int)) ∧ W.cell? ⟨gv, 1, none⟩ = some (.slice Av nv cv) ∧ W.cell? ⟨gv, 2, none⟩ = some (.slice D l d)) (by kernel_rfl) (HS7.out _ (Kept.refl _ _)) (fun hHeld => ?_)
          clear T T9 hz9 hbl9
          generalize wr.drew = w7 at *
          refine wpAnyH_take (i := 0) (oi := _) (v := .agg #[.slice A8 n8 c8, .int .i64 (s6.2 : Int)]) rfl (by kernel_rfl) (by kernel_rfl) (by kernel_rfl) (fun _ _ _ h => h) (Or.inl ⟨by rfl, fun w' hSw => by dsimp only at hSw; go_simp⟩) hHeld ?_
          (try simp only [Act.put, List.setIfInBounds_toArray, List.set_cons_zero, List.set_cons_succ, List.getElem_toArray, List.getElem_cons_zero, List.getElem_cons_succ])
          refine wpAnyH_take (i := 1) (oi := _) (v := .agg #[.int .i64 (kd : Int), .slice Av nv cv, .slice D l d]) rfl (by kernel_rfl) (by kernel_rfl) (by kernel_rfl) (fun _ _ _ h => h) (Or.inl ⟨by rfl, fun w' hSw => by dsimp only at hSw; go_simp⟩) hHeld ?_
          (try simp only [Act.put, List.setIfInBounds_toArray, List.set_cons_zero, List.set_cons_succ, List.getElem_toArray, List.getElem_cons_zero, List.getElem_cons_succ])
          have hk8 := Kept.of_setRow w7 (w.heap.size + 1) #[.slice A8 n8 c8, .int .i64 (s6.2 : Int)]
          have hr81 := set_row_at (B := #[.slice A8 n8 c8, .int .i64 (s6.2 : Int)]) hq17
          have hr82 := (hk8.block (w.heap.size + 1 + 1) (by omega) (by omega)).trans hq27
          refine wpAnyH_ready (rs := [2]) (by kernel_rfl) (by simp) ?_
          refine AllReadyH.cons (o := _) rfl (fun K hK => ?_) AllReadyH.nil
          (try simp only [List.getElem_toArray, List.getElem_cons_zero, List.getElem_cons_succ])
          rw [if_pos (by rfl)]
          refine wp_store_row 89 (.tmp 2) (.tmp 64) rfl (w.heap.size + 1) #[.slice A8 n8 c8, .int .i64 (s6.2 : Int)] rfl rfl _ _ hq17 (by kernel_rfl) rfl (by simp; exact ⟨rfl, rfl⟩) ?_
          refine hK.out _ _ (HS7.out _ ((Kept.refl _ w7).step hk8 (fun k hk => .inl (.inl hk)))) (fun hHeld => ?_)
          clear hK
          (try simp only [Act.put, List.setIfInBounds_toArray, List.set_cons_zero, List.set_cons_succ, List.getElem_toArray, List.getElem_cons_zero, List.getElem_cons_succ])
          generalize w7.setRow (w.heap.size + 1) #[.slice A8 n8 c8, .int .i64 (s6.2 : Int)] = w8 at *
          have hz8 := hk8.size
          have hk9 := Kept.of_setRow w8 (w.heap.size + 1 + 1) #[.int .i64 (kd : Int), .slice Av nv cv, .slice D l d]
          have hr92 := set_row_at (B := #[.int .i64 (kd : Int), .slice Av nv cv, .slice D l d]) hr82
          have hr91 := (hk9.block (w.heap.size + 1) (by omega) (by omega)).trans hr81
          refine wpAnyH_ready (rs := [3]) (by kernel_rfl) (by simp) ?_
          refine AllReadyH.cons (o := _) rfl (fun K hK => ?_) AllReadyH.nil
          (try simp only [List.getElem_toArray, List.getElem_cons_zero, List.getElem_cons_succ])
          rw [if_pos (by rfl)]
          refine wp_store_row 27 (.tmp 3) (.tmp 65) rfl (w.heap.size + 1 + 1) #[.int .i64 (kd : Int), .slice Av nv cv, .slice D l d] rfl rfl _ _ hr82 (by kernel_rfl) rfl (by simp; exact ⟨rfl, rfl, rfl⟩) ?_
          refine hK.out _ _ (HS7.out _ (((Kept.refl _ w7).step hk8 (fun k hk => .inl (.inl hk))).step hk9 (fun k hk => .inl (.inr hk)))) (fun hHeld => ?_)
          clear hK
          (try simp only [Act.put, List.setIfInBounds_toArray, List.set_cons_zero, List.set_cons_succ, List.getElem_toArray, List.getElem_cons_zero, List.getElem_cons_succ])
          generalize w8.setRow (w.heap.size + 1 + 1) #[.int .i64 (kd : Int), .slice Av nv cv, .slice D l d] = w9 at *
          refine wpAnyH_done (by kernel_rfl) ?_ _
          go_wp2_with fail
          have b9 : Below w.heap.size w w9 := (b7.trans (hk8.below (by omega) (fun k hk => by omega))).trans (hk9.below (by omega) (fun k hk => by omega))
          have old : ∀ k, k < w7.heap.size → k ≠ w.heap.size + 1 → k ≠ w.heap.size + 1 + 1 → w9.heap[k]? = w7.heap[k]? := fun k h0 h1 h2 => (hk9.block k (by omega) h2).trans (hk8.block k h0 h1)
          refine bodyPost_ret (v := .tuple #[.agg #[.slice A8 n8 c8, .int .i64 (s6.2 : Int)], .agg #[.int .i64 (kd : Int), .slice Av nv cv, .slice D l d]]) (results_takev rfl rfl hr91 hr92 rfl rfl) rfl ?_
          refine ⟨A8, n8, c8, Av, nv, cv, D, l, d, rfl, hide (fun e => ?_), ?_, ?_, b9⟩
          · have h9 := hL7.out e
            exact ⟨h9.1.keep fun b hlt => old b (by omega) (by omega) (by omega), h9.2⟩
          · exact (hoc7.keep fun g hg => old g ((hoc7.lt g hg).2) (by have := (hoc7.lt g hg).1; omega) (by have := (hoc7.lt g hg).1; omega)).from2 (by omega)
          · exact (hoi7.keep fun g hg => old g ((hoi7.lt g hg).2) (by have := (hoi7.lt g hg).1; omega) (by have := (hoi7.lt g hg).1; omega)).from_ (by omega)

theorem rvtake_any (A : Option Addr) (n c B : Nat) (s : RSt) (w : World) (h : s.2 = 0 → Left w B A n c s.1) (hB : B ≤ w.heap.size) :
    Calls Tryd.prog 73 #[.agg #[.slice A n c, .int .i64 (s.2 : Int)]] w (TakeEnds B (rdV s).k (rdV s).cs (rdV s).ns (rdV s).s w) := by
  have h8 := rc_le (s := (rc 2 s).2) (most := 8) (by omega)
  have h7 := rc_le (s := (rdC (rc 8 (rc 2 s).2).1 (rc 8 (rc 2 s).2).2).2) (most := 7) (by omega)
  exact rvtake_gen A n c B s w h hB (rc 2 s).2 (rc 8 (rc 2 s).2).2 (rdC (rc 8 (rc 2 s).2).1 (rc 8 (rc 2 s).2).2).2 (rc 7 (rdC (rc 8 (rc 2 s).2).1 (rc 8 (rc 2 s).2).2).2).2 (rc 2 s).1 (rc 8 (rc 2 s).2).1 (rc 7 (rdC (rc 8 (rc 2 s).2).1 (rc 8 (rc 2 s).2).2).2).1 (rdC (rc 8 (rc 2 s).2).1 (rc 8 (rc 2 s).2).2).1 (by omega) (by omega) rfl rfl rfl rfl
end Go.Proofs.YtapbcpilklhoiabDoor

namespace Go.Proofs.YtapbcpilklhoiabDoor
open Go.RowKit

theorem fv_3 : FV 4613937818241073152 3 := by
  have := fv_int 3 (by decide)
  rwa [show floatOfInt .f64 3 = 4613937818241073152 from by decide +kernel] at this
theorem fv_4 : FV 4616189618054758400 4 := by
  have := fv_int 4 (by decide)
  rwa [show floatOfInt .f64 4 = 4616189618054758400 from by decide +kernel] at this

theorem fvi {a : Int} (h : inB a) : FV (floatOfInt .f64 a) a := fv_int a (by unfold inB at h; omega)
theorem lti (a : Int) : floatOfInt .f64 a < 18446744073709551616 := by
  have := floatOfInt_wf .f64 a
  simpa [Lit.wf] using this
theorem oeq {x y : Nat} {a : Int} (h : FV x a) (h' : FV y a) : FloatKind.f64.format.order x y = some .eq := by rw [fv_order h h', cmp_eq]
theorem oself (a : Int) (h : inB a) : FloatKind.f64.format.order (floatOfInt .f64 a) (floatOfInt .f64 a) = some .eq := oeq (fvi h) (fvi h)

theorem refright_yes (a b : Int) (ha : inB a) (hb : inB b) (w : World) : Calls Tryd.prog 66 #[.int .i64 a, .int .i64 b] w fun e w' => e = .returned (.bool true) ∧ w = w' := by
  obtain ⟨h1, h2⟩ := ha
  obtain ⟨h3, h4⟩ := hb
  go_enter Tryd.func66, Tryd.ntmps66
  go_wp2
  go_ret
  exact ⟨rfl, rfl⟩

theorem refright_no (a b : Int) (h : ¬ (inB a ∧ inB b)) (w : World) : Calls Tryd.prog 66 #[.int .i64 a, .int .i64 b] w fun e w' => e = .returned (.bool false) ∧ w = w' := by
  unfold inB at h
  have key : ∀ h1 h2 h3 h4 : Bool, decide (-1048576 ≤ a) = h1 → decide (a ≤ 1048576) = h2 → decide (-1048576 ≤ b) = h3 → decide (b ≤ 1048576) = h4 → (h1 && h2 && h3 && h4) = false := by
    rintro _ _ _ _ rfl rfl rfl rfl
    simp
    omega
  by_cases h1 : -1048576 ≤ a <;> by_cases h2 : a ≤ 1048576 <;> by_cases h3 : -1048576 ≤ b <;> by_cases h4 : b ≤ 1048576
  all_goals first
    | (exfalso; omega)
    | (clear h key
       go_enter Tryd.func66, Tryd.ntmps66
       go_wp2
       go_ret
       exact ⟨rfl, rfl⟩)

end Go.Proofs.YtapbcpilklhoiabDoor
