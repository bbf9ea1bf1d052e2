/-
  SameVotes of the reference. Conditions: what is read is in reach.
  Same of the reference. Conditions: what is read is in reach.
  Copy and CopyVotes of the reference: new memory, the same message. Conditions: what is read is in reach.
  The head of the Msg laws. Conditions: the package's table is as its text lays it.
  A slice of votes, copied by slices.Clone. Conditions: what is read is in reach.
-/
import Derived.Test.YtapbcpilklhoiabDoorMY10
import Derived.Test.YtapbcpilklhoiabDoorMY7
import Derived.Test.YtapbcpilklhoiabDoorMY5
import Derived.BigQuiet
import Derived.Deep.RegionHeld3
import Derived.Test.YtapbcpilklhoiabDoorMY13
import Derived.Test.YtapbcpilklhoiabDoorMY0
import Derived.Test.YtapbcpilklhoiabDoorMY15
set_option linter.unusedSimpArgs false
set_option linter.unusedVariables false

namespace Go.Proofs.YtapbcpilklhoiabDoor
open Go.RowKit

/-- Whether votes are the same. -/
def sameVt (v v' : Votev) : Bool := decide (v.sl = v'.sl) && (decide ([v.br, v.bn] = [v'.br, v'.bn]) && sameV v.v.k v.v.cs v.v.ns v'.v.k v'.v.cs v'.v.ns)
def sameVts : List Votev → List Votev → Bool
  | [], [] => true
  | v :: vs, v' :: vs' => sameVt v v' && sameVts vs vs'
  | _, _ => false
theorem sameVts_len {vs vs' : List Votev} (h : vs.length ≠ vs'.length) : sameVts vs vs' = false := by
  induction vs generalizing vs' with
  | nil => cases vs' with
    | nil => exact absurd rfl h
    | cons => rfl
  | cons x xs ih => cases vs' with
    | nil => rfl
    | cons y ys =>
      rw [sameVts, ih (by simpa using h), Bool.and_false]
theorem sameVts_step {vs vs' : List Votev} {j : Nat} (h : j < vs.length) (h' : j < vs'.length) : sameVts (vs.drop j) (vs'.drop j) = (sameVt vs[j] vs'[j] && sameVts (vs.drop (j + 1)) (vs'.drop (j + 1))) := by
  rw [List.drop_eq_getElem_cons h, List.drop_eq_getElem_cons h', sameVts]

set_option maxHeartbeats 3200000 in
theorem rsamevotes_any (A A' : Option Addr) (n n' c c' B : Nat) (vs vs' : List Votev) (w : World) (hV : HasVt w B A vs) (hV' : HasVt w B A' vs') (hB : B ≤ w.heap.size) (hn : vs.length = n) (hn' : vs'.length = n') (hl : n ≤ 2199023255552) :
    Calls Tryd.prog 40 #[.slice A n c, .slice A' n' c'] w fun e w' => e = .returned (.bool (sameVts vs vs')) ∧ Below w.heap.size w w' := by
  by_cases hln : n = n'
  · have t1 : ((n : Int) != (n' : Int)) = false := by simp [hln]
    have HN := hide hn
    have HN' := hide hn'
    have HLN := hide hln
    have HVV : Hid (∀ W, Below w.heap.size w W → HasVt W B A vs ∧ HasVt W B A' vs') := hide (fun W h => ⟨hV.below (h.mono hB), hV'.below (h.mono hB)⟩)
    clear hV hV' hn hn' hln
    go_enter Tryd.func40, Tryd.ntmps40
    go_wp2_with fail
    clear t1
    go_loopw [13] (fun i wr => ∃ j : Nat, j ≤ n ∧ i = .int .i64 j ∧ Hid (sameVts vs vs' = sameVts (vs.drop j) (vs'.drop j)) ∧ Below w.heap.size w wr) (fun i _ => n - (intOf i).toNat)
    case atStart => exact ⟨0, Nat.zero_le _, rfl, hide rfl, Below.refl _ _⟩
    case round =>
      obtain ⟨j, hj, rfl, HS, hbr⟩ := hrel
      by_cases hlt : j < n
      · have hlt1 : j < vs.length := by rw [HN.out]; exact hlt
        have hlt2 : j < vs'.length := by rw [HN'.out, ← HLN.out]; exact hlt
        obtain ⟨hp, hq⟩ := HVV.out _ hbr
        have hp := hp j hlt1
        have hq := hq j hlt2
        have HS' : Hid (sameVts vs vs' = (sameVt vs[j] vs'[j] && sameVts (vs.drop (j + 1)) (vs'.drop (j + 1)))) := hide (HS.out.trans (sameVts_step hlt1 hlt2))
        have i1 : (j : Int) < (n : Int) := by omega
        have i2 : (j : Int) < (n' : Int) := by have := HLN.out; omega
        have i3 : (0 : Int) ≤ (j : Int) := by omega
        generalize vs[j] = v at *
        generalize vs'[j] = v' at *
        obtain ⟨⟨ab, ao, rfl, hab, p0, p1, p2, p3, p4, p5⟩, hx⟩ := hp
        obtain ⟨⟨ab', ao', rfl, hab', q0, q1, q2, q3, q4, q5⟩, hx'⟩ := hq
        clear HS
        by_cases hs : v.sl = v'.sl
        · have t1 : (v.sl != v'.sl) = false := by simp [hs]
          by_cases hb : [v.br, v.bn] = [v'.br, v'.bn]
          · have ke : ∀ w, _ := fun w => equal_bal 9998 v.br v.bn v'.br v'.bn w
            rw [decide_eq_true hb] at ke
            have HT : Hid (sameVt v v' = sameV v.v.k v.v.cs v.v.ns v'.v.k v'.v.cs v'.v.ns) := hide (by unfold sameVt; rw [decide_eq_true hs, decide_eq_true hb]; rfl)
            have hzr := hbr.size
            have HC : Hid (∀ W, Below wr.heap.size wr W → Calls Tryd.prog 39 #[.agg #[.int .i64 v.v.k, .slice v.v.A v.v.n v.v.c, .slice v.v.D v.v.m v.v.d], .agg #[.int .i64 v'.v.k, .slice v'.v.A v'.v.n v'.v.c, .slice v'.v.D v'.v.m v'.v.d]] W fun e w' => e = .returned (.bool (sameV v.v.k v.v.cs v.v.ns v'.v.k v'.v.cs v'.v.ns)) ∧ Below W.heap.size W w') := hide (fun W h => (hx.on (by omega) h).rsame (hx'.on (by omega) h) (by have := h.size; omega) v.v.k v.v.c v.v.d v'.v.k v'.v.c v'.v.d)
            have HP : Hid (∀ W, Below wr.heap.size wr W → W.cell? ⟨ab, ao + j * 6, none⟩ = some (.int .i64 v.sl) ∧ W.cell? ⟨ab, ao + j * 6 + 1, none⟩ = some (.int .i64 v.br) ∧ W.cell? ⟨ab, ao + j * 6 + 2, none⟩ = some (.int .i64 v.bn) ∧ W.cell? ⟨ab, ao + j * 6 + 3, none⟩ = some (.int .i64 v.v.k) ∧ W.cell? ⟨ab, ao + j * 6 + 4, none⟩ = some (.slice v.v.A v.v.n v.v.c) ∧ W.cell? ⟨ab, ao + j * 6 + 5, none⟩ = some (.slice v.v.D v.v.m v.v.d) ∧ W.cell? ⟨ab', ao' + j * 6, none⟩ = some (.int .i64 v'.sl) ∧ W.cell? ⟨ab', ao' + j * 6 + 1, none⟩ = some (.int .i64 v'.br) ∧ W.cell? ⟨ab', ao' + j * 6 + 2, none⟩ = some (.int .i64 v'.bn) ∧ W.cell? ⟨ab', ao' + j * 6 + 3, none⟩ = some (.int .i64 v'.v.k) ∧ W.cell? ⟨ab', ao' + j * 6 + 4, none⟩ = some (.slice v'.v.A v'.v.n v'.v.c) ∧ W.cell? ⟨ab', ao' + j * 6 + 5, none⟩ = some (.slice v'.v.D v'.v.m v'.v.d)) := hide (fun W h => by
              have e : ∀ i, W.cell? ⟨ab, i, none⟩ = wr.cell? ⟨ab, i, none⟩ := fun i => World.cell?_of_block (w := wr) (a := ⟨ab, i, none⟩) (h.block ab (by omega))
              have e' : ∀ i, W.cell? ⟨ab', i, none⟩ = wr.cell? ⟨ab', i, none⟩ := fun i => World.cell?_of_block (w := wr) (a := ⟨ab', i, none⟩) (h.block ab' (by omega))
              exact ⟨(e _).trans p0, (e _).trans p1, (e _).trans p2, (e _).trans p3, (e _).trans p4, (e _).trans p5, (e' _).trans q0, (e' _).trans q1, (e' _).trans q2, (e' _).trans q3, (e' _).trans q4, (e' _).trans q5⟩)
            clear hs hb hx hx'
            generalize sameV v.v.k v.v.cs v.v.ns v'.v.k v'.v.cs v'.v.ns = r at *
            go_wp2_with fail
            go_region_held3 (fun w' => w'.cell? ⟨ab, ao + j * 6, none⟩ = some (.int .i64 v.sl) ∧ w'.cell? ⟨ab, ao + j * 6 + 1, none⟩ = some (.int .i64 v.br) ∧ w'.cell? ⟨ab, ao + j * 6 + 2, none⟩ = some (.int .i64 v.bn) ∧ w'.cell? ⟨ab, ao + j * 6 + 3, none⟩ = some (.int .i64 v.v.k) ∧ w'.cell? ⟨ab, ao + j * 6 + 4, none⟩ = some (.slice v.v.A v.v.n v.v.c) ∧ w'.cell? ⟨ab, ao + j * 6 + 5, none⟩ = some (.slice v.v.D v.v.m v.v.d) ∧ w'.cell? ⟨ab', ao' + j * 6, none⟩ = some (.int .i64 v'.sl) ∧ w'.cell? ⟨ab', ao' + j * 6 + 1, none⟩ = some (.int .i64 v'.br) ∧ w'.cell? ⟨ab', ao' + j * 6 + 2, none⟩ = some (.int .i64 v'.bn) ∧ w'.cell? ⟨ab', ao' + j * 6 + 3, none⟩ = some (.int .i64 v'.v.k) ∧ w'.cell? ⟨ab', ao' + j * 6 + 4, none⟩ = some (.slice v'.v.A v'.v.n v'.v.c) ∧ w'.cell? ⟨ab', ao' + j * 6 + 5, none⟩ = some (.slice v'.v.D v'.v.m v'.v.d)) (first | exact HP.out _ (below_drewN (Below.refl _ _) _) | exact HP.out _ ((below_drewN (Below.refl _ _) 1).trans (b2.mono (Nat.le_refl _))) | go_keep) (first
              | ((go_at_call 39; (with_reducible refine (HC.out _ ?_).mono ?_)); exact below_drewN (Below.refl _ _) 1; rintro e w2 ⟨rfl, b2⟩))
            have hb2 := hbr.trans (((below_drewN (Below.refl _ wr) 1).trans (b2.mono (Nat.le_refl _))).mono hzr)
            clear b2 HC HP p0 p1 p2 p3 p4 p5 q0 q1 q2 q3 q4 q5
            cases r with
            | false =>
              have HF : Hid (sameVts vs vs' = false) := hide (by rw [HS'.out, HT.out]; rfl)
              go_wp2
              go_ret
              exact ⟨by rw [HF.out]; rfl, hb2⟩
            | true =>
              have HX : Hid (sameVts vs vs' = sameVts (vs.drop (j + 1)) (vs'.drop (j + 1))) := hide (by rw [HS'.out, HT.out]; rfl)
              go_wp2
              go_roundw
              case rel => exact ⟨j + 1, by omega, by go_num, HX, hb2⟩
              case measure => simp [intOf]; omega
          · have ke : ∀ w, _ := fun w => equal_bal 9998 v.br v.bn v'.br v'.bn w
            rw [decide_eq_false hb] at ke
            have HT : Hid (sameVts vs vs' = false) := hide (by rw [HS'.out]; unfold sameVt; rw [decide_eq_false hb]; simp)
            clear hs hb hx hx'
            go_wp2_with fail
            go_quiet (fail)
            go_wp2
            go_ret
            exact ⟨by rw [HT.out]; rfl, below_drewN hbr _⟩
        · have t1 : (v.sl != v'.sl) = true := by rw [bne_iff_ne]; exact hs
          have HT : Hid (sameVts vs vs' = false) := hide (by rw [HS'.out]; unfold sameVt; rw [decide_eq_false hs]; simp)
          clear hs hx hx'
          go_wp2_with fail
          go_quiet (fail)
          go_wp2
          go_ret
          exact ⟨by rw [HT.out]; rfl, below_drewN hbr _⟩
      · obtain rfl : j = n := by omega
        have HT : Hid (sameVts vs vs' = true) := hide (by rw [HS.out, List.drop_of_length_le (by rw [HN.out]; exact Nat.le_refl _), List.drop_of_length_le (by rw [HN'.out, ← HLN.out]; exact Nat.le_refl _)]; rfl)
        go_wp2
        go_ret
        exact ⟨by rw [HT.out]; rfl, hbr⟩
  · have HT : Hid (sameVts vs vs' = false) := hide (sameVts_len (by rw [hn, hn']; exact hln))
    have t1 : ((n : Int) != (n' : Int)) = true := by rw [bne_iff_ne]; omega
    go_enter Tryd.func40, Tryd.ntmps40
    go_wp2
    go_ret
    exact ⟨by rw [HT.out]; rfl, Below.refl _ _⟩
end Go.Proofs.YtapbcpilklhoiabDoor

namespace Go.Proofs.YtapbcpilklhoiabDoor
open Go.RowKit

/-- Whether messages are the same. -/
def sameM (m m' : Msgv) : Bool := decide (m.kd = m'.kd) && (decide (m.fr = m'.fr) && (decide (m.tt = m'.tt) && (decide (m.ep = m'.ep) && (decide ([m.br, m.bn] = [m'.br, m'.bn]) && (decide (m.sl = m'.sl) && (decide (m.lw = m'.lw) && (decide (m.tm = m'.tm) && (sameV m.v.k m.v.cs m.v.ns m'.v.k m'.v.cs m'.v.ns && (sameVts m.vs m'.vs && (eqC m.cm m'.cm && (decide ([m.rk, m.rr, m.ri] = [m'.rk, m'.rr, m'.ri]) && (decide (m.ds = m'.ds)))))))))))))
theorem sameVts_iff (vs vs' : List Votev) : sameVts vs vs' = true ↔ vs.map Votev.lg = vs'.map Votev.lg := by
  induction vs generalizing vs' with
  | nil => cases vs' with
    | nil => exact ⟨fun _ => rfl, fun _ => rfl⟩
    | cons => exact ⟨fun h => by simp [sameVts] at h, fun h => by simp at h⟩
  | cons x xs ih => cases vs' with
    | nil => exact ⟨fun h => by simp [sameVts] at h, fun h => by simp at h⟩
    | cons y ys =>
      rw [sameVts, Bool.and_eq_true, ih]
      simp only [List.map_cons, List.cons.injEq]
      refine and_congr_left fun _ => ?_
      unfold sameVt
      rw [Bool.and_eq_true, Bool.and_eq_true, sameV_iff, decide_eq_true_eq, decide_eq_true_eq]
      unfold Votev.lg
      simp only [List.cons.injEq, and_true, Votel.mk.injEq]
      exact ⟨fun ⟨a, ⟨b, c⟩, d, e, f⟩ => ⟨a, b, c, d, e, f⟩, fun ⟨a, b, c, d, e, f⟩ => ⟨a, ⟨b, c⟩, d, e, f⟩⟩
theorem eqC_iff (c d : Cmdv) : eqC c d = true ↔ c = d := ⟨fun h => ints_inj (of_decide_eq_true h), fun h => by rw [h]; exact decide_eq_true rfl⟩
theorem sameM_iff (m m' : Msgv) : sameM m m' = true ↔ m.lg = m'.lg := by
  unfold sameM
  simp only [Bool.and_eq_true, sameV_iff, sameVts_iff, eqC_iff, decide_eq_true_eq, List.cons.injEq, and_true]
  unfold Msgv.lg
  simp only [Msgl.mk.injEq]
  exact ⟨fun ⟨a, b, c, d, ⟨e1, e2⟩, f, g, h, ⟨i1, i2, i3⟩, j, k, ⟨l1, l2, l3⟩, n⟩ => ⟨a, b, c, d, e1, e2, f, g, h, i1, i2, i3, j, k, l1, l2, l3, n⟩, fun ⟨a, b, c, d, e1, e2, f, g, h, i1, i2, i3, j, k, l1, l2, l3, n⟩ => ⟨a, b, c, d, ⟨e1, e2⟩, f, g, h, ⟨i1, i2, i3⟩, j, k, ⟨l1, l2, l3⟩, n⟩⟩

set_option maxRecDepth 20000 in
set_option maxHeartbeats 6400000 in
theorem rmsame_any (m m' : Msgv) (B : Nat) (w : World) (hm : IsM w B m) (hm' : IsM w B m') (hB : B ≤ w.heap.size) :
    Calls Tryd.prog 12 #[.agg m.cells, .agg m'.cells] w fun e w' => e = .returned (.bool (sameM m m')) ∧ Below w.heap.size w w' := by
  have HMM : Hid (∀ W, Below w.heap.size w W → IsM W B m ∧ IsM W B m') := hide (fun W h => ⟨hm.below (h.mono hB), hm'.below (h.mono hB)⟩)
  clear hm hm'
  go_enter Tryd.func12, Tryd.ntmps12
  go_upto_region 1 with fail
  have hp0 := (Below.heap_alloc (w.alloc (.cells m.cells 37)) (.cells m'.cells 37) w.heap.size (by simp)).trans (heap_alloc_new w (.cells m.cells 37))
  have hr0 := heap_alloc_new (w.alloc (.cells m.cells 37)) (.cells m'.cells 37)
  have b0 : Below w.heap.size w ((w.alloc (.cells m.cells 37)).alloc (.cells m'.cells 37)) := by go_grown
  rw [show (w.alloc (.cells m.cells 37)).heap.size = w.heap.size + 1 by simp] at hr0
  have hs0 : w.heap.size + 1 < ((w.alloc (.cells m.cells 37)).alloc (.cells m'.cells 37)).heap.size := by simp
  generalize (w.alloc (.cells m.cells 37)).alloc (.cells m'.cells 37) = W0 at *
  generalize hg2 : w.heap.size + 1 = g2 at *
  have hlt2 : w.heap.size < g2 := by omega
  clear hg2
  have HP0 := hide hp0
  have HQ0 := hide hr0
  clear hp0 hr0
  have ca0 := (row_cells HP0.out 0).1
  have cb0 := (row_cells HQ0.out 0).1
  have ca1 := (row_cells HP0.out 1).1
  have cb1 := (row_cells HQ0.out 1).1
  have ca2 := (row_cells HP0.out 2).1
  have cb2 := (row_cells HQ0.out 2).1
  have ca3 := (row_cells HP0.out 3).1
  have cb3 := (row_cells HQ0.out 3).1
  have ca4 := (row_cells HP0.out 4).1
  have cb4 := (row_cells HQ0.out 4).1
  have ca5 := (row_cells HP0.out 5).1
  have cb5 := (row_cells HQ0.out 5).1
  have ca6 := (row_cells HP0.out 6).1
  have cb6 := (row_cells HQ0.out 6).1
  have ca7 := (row_cells HP0.out 7).1
  have cb7 := (row_cells HQ0.out 7).1
  have ca8 := (row_cells HP0.out 8).1
  have cb8 := (row_cells HQ0.out 8).1
  simp only [Msgv.cells, List.getElem?_toArray, List.getElem?_cons_succ, List.getElem?_cons_zero] at ca0 cb0 ca1 cb1 ca2 cb2 ca3 cb3 ca4 cb4 ca5 cb5 ca6 cb6 ca7 cb7 ca8 cb8
  by_cases h0 : m.kd = m'.kd
  rotate_left
  · have HE : Hid (sameM m m' = false) := hide (by unfold sameM; rw [decide_eq_false h0]; simp)
    have t : (m.kd != m'.kd) = true := by rw [bne_iff_ne]; exact h0
    clear h0
    go_wp2
    go_ret
    exact ⟨by rw [HE.out]; rfl, b0⟩
  have t0 : (m.kd != m'.kd) = false := by simp [h0]
  have H0 := hide h0
  clear h0
  by_cases h1 : m.fr = m'.fr
  rotate_left
  · have HE : Hid (sameM m m' = false) := hide (by unfold sameM; rw [decide_eq_false h1]; simp)
    have t : (m.fr != m'.fr) = true := by rw [bne_iff_ne]; exact h1
    clear h1
    go_wp2
    go_ret
    exact ⟨by rw [HE.out]; rfl, b0⟩
  have t1 : (m.fr != m'.fr) = false := by simp [h1]
  have H1 := hide h1
  clear h1
  by_cases h2 : m.tt = m'.tt
  rotate_left
  · have HE : Hid (sameM m m' = false) := hide (by unfold sameM; rw [decide_eq_false h2]; simp)
    have t : (m.tt != m'.tt) = true := by rw [bne_iff_ne]; exact h2
    clear h2
    go_wp2
    go_ret
    exact ⟨by rw [HE.out]; rfl, b0⟩
  have t2 : (m.tt != m'.tt) = false := by simp [h2]
  have H2 := hide h2
  clear h2
  by_cases h3 : m.ep = m'.ep
  rotate_left
  · have HE : Hid (sameM m m' = false) := hide (by unfold sameM; rw [decide_eq_false h3]; simp)
    have t : (m.ep != m'.ep) = true := by rw [bne_iff_ne]; exact h3
    clear h3
    go_wp2
    go_ret
    exact ⟨by rw [HE.out]; rfl, b0⟩
  have t3 : (m.ep != m'.ep) = false := by simp [h3]
  have H3 := hide h3
  clear h3
  by_cases h4 : [m.br, m.bn] = [m'.br, m'.bn]
  rotate_left
  · have HE : Hid (sameM m m' = false) := hide (by unfold sameM; rw [decide_eq_false h4]; simp)
    have ke : ∀ w, _ := fun w => equal_bal 9998 m.br m.bn m'.br m'.bn w
    rw [decide_eq_false h4] at ke
    clear h4
    go_wp2
    go_ret
    exact ⟨by rw [HE.out]; rfl, b0⟩
  have ke : ∀ w, _ := fun w => equal_bal 9998 m.br m.bn m'.br m'.bn w
  rw [decide_eq_true h4] at ke
  have H4 := hide h4
  clear h4
  by_cases h5 : m.sl = m'.sl
  rotate_left
  · have HE : Hid (sameM m m' = false) := hide (by unfold sameM; rw [decide_eq_false h5]; simp)
    have t : (m.sl != m'.sl) = true := by rw [bne_iff_ne]; exact h5
    clear h5
    go_wp2
    go_ret
    exact ⟨by rw [HE.out]; rfl, b0⟩
  have t5 : (m.sl != m'.sl) = false := by simp [h5]
  have H5 := hide h5
  clear h5
  by_cases h6 : m.lw = m'.lw
  rotate_left
  · have HE : Hid (sameM m m' = false) := hide (by unfold sameM; rw [decide_eq_false h6]; simp)
    have t : (m.lw != m'.lw) = true := by rw [bne_iff_ne]; exact h6
    clear h6
    go_wp2
    go_ret
    exact ⟨by rw [HE.out]; rfl, b0⟩
  have t6 : (m.lw != m'.lw) = false := by simp [h6]
  have H6 := hide h6
  clear h6
  by_cases h7 : m.tm = m'.tm
  rotate_left
  · have HE : Hid (sameM m m' = false) := hide (by unfold sameM; rw [decide_eq_false h7]; simp)
    have t : (m.tm != m'.tm) = true := by rw [bne_iff_ne]; exact h7
    clear h7
    go_wp2
    go_ret
    exact ⟨by rw [HE.out]; rfl, b0⟩
  have t7 : (m.tm != m'.tm) = false := by simp [h7]
  have H7 := hide h7
  clear h7
  have HE : Hid (sameM m m' = (sameV m.v.k m.v.cs m.v.ns m'.v.k m'.v.cs m'.v.ns && (sameVts m.vs m'.vs && (eqC m.cm m'.cm && (decide ([m.rk, m.rr, m.ri] = [m'.rk, m'.rr, m'.ri]) && (decide (m.ds = m'.ds))))))) := hide (by unfold sameM; rw [decide_eq_true H0.out, decide_eq_true H1.out, decide_eq_true H2.out, decide_eq_true H3.out, decide_eq_true H4.out, decide_eq_true H5.out, decide_eq_true H6.out, decide_eq_true H7.out]; rfl)
  clear H0 H1 H2 H3 H4 H5 H6 H7
  have ca9 := (row_cells HP0.out 9).1
  have cb9 := (row_cells HQ0.out 9).1
  have ca10 := (row_cells HP0.out 10).1
  have cb10 := (row_cells HQ0.out 10).1
  have ca11 := (row_cells HP0.out 11).1
  have cb11 := (row_cells HQ0.out 11).1
  simp only [Msgv.cells, List.getElem?_toArray, List.getElem?_cons_succ, List.getElem?_cons_zero] at ca9 cb9 ca10 cb10 ca11 cb11
  obtain ⟨hm0, hn0⟩ := HMM.out _ b0
  go_wp2_with fail
  refine (hm0.v.rsame hn0.v (by omega) m.v.k m.v.c m.v.d m'.v.k m'.v.c m'.v.d).mono ?_
  rintro e w1 ⟨rfl, b1'⟩
  clear hm0 hn0 ca0 cb0 ca1 cb1 ca2 cb2 ca3 cb3 ca4 cb4 ca5 cb5 ca6 cb6 ca7 cb7 ca8 cb8 ca9 cb9 ca10 cb10 ca11 cb11 ke t0 t1 t2 t3 t5 t6 t7
  have hz1 := b1'.size
  have HP1 := hide ((b1'.block w.heap.size (by omega)).trans HP0.out)
  have HQ1 := hide ((b1'.block g2 (by omega)).trans HQ0.out)
  have b1 := b0.trans (b1'.mono b0.size)
  clear HP0 HQ0 b0 b1'
  rcases h1 : sameV m.v.k m.v.cs m.v.ns m'.v.k m'.v.cs m'.v.ns with _ | _
  · have HF : Hid (sameM m m' = false) := hide (by rw [HE.out, h1]; rfl)
    clear HE h1
    go_wp2
    go_ret
    exact ⟨by rw [HF.out]; rfl, b1⟩
  have HE1 : Hid (sameM m m' = (sameVts m.vs m'.vs && (eqC m.cm m'.cm && (decide ([m.rk, m.rr, m.ri] = [m'.rk, m'.rr, m'.ri]) && (decide (m.ds = m'.ds)))))) := hide (by rw [HE.out, h1]; rfl)
  clear HE h1
  have ca12 := (row_cells HP1.out 12).1
  have cb12 := (row_cells HQ1.out 12).1
  simp only [Msgv.cells, List.getElem?_toArray, List.getElem?_cons_succ, List.getElem?_cons_zero] at ca12 cb12
  obtain ⟨hm1, hn1⟩ := HMM.out _ b1
  go_wp2_with fail
  refine (rsamevotes_any m.VA m'.VA m.vn m'.vn m.vc m'.vc B m.vs m'.vs w1 hm1.vt hn1.vt (by omega) hm1.en hn1.en hm1.ln).mono ?_
  rintro e w2 ⟨rfl, b2'⟩
  clear hm1 hn1 ca12 cb12
  have hz2 := b2'.size
  have HP2 := hide ((b2'.block w.heap.size (by omega)).trans HP1.out)
  have HQ2 := hide ((b2'.block g2 (by omega)).trans HQ1.out)
  have b2 := b1.trans (b2'.mono b1.size)
  clear HP1 HQ1 b1 b2'
  rcases h2 : sameVts m.vs m'.vs with _ | _
  · have HF : Hid (sameM m m' = false) := hide (by rw [HE1.out, h2]; rfl)
    clear HE1 h2
    go_wp2
    go_ret
    exact ⟨by rw [HF.out]; rfl, b2⟩
  have HE2 : Hid (sameM m m' = (eqC m.cm m'.cm && (decide ([m.rk, m.rr, m.ri] = [m'.rk, m'.rr, m'.ri]) && (decide (m.ds = m'.ds))))) := hide (by rw [HE1.out, h2]; rfl)
  clear HE1 h2
  have ca13 := (row_cells HP2.out 13).1
  have cb13 := (row_cells HQ2.out 13).1
  have ca14 := (row_cells HP2.out 14).1
  have cb14 := (row_cells HQ2.out 14).1
  have ca15 := (row_cells HP2.out 15).1
  have cb15 := (row_cells HQ2.out 15).1
  have ca16 := (row_cells HP2.out 16).1
  have cb16 := (row_cells HQ2.out 16).1
  have ca17 := (row_cells HP2.out 17).1
  have cb17 := (row_cells HQ2.out 17).1
  have ca18 := (row_cells HP2.out 18).1
  have cb18 := (row_cells HQ2.out 18).1
  have ca19 := (row_cells HP2.out 19).1
  have cb19 := (row_cells HQ2.out 19).1
  have ca20 := (row_cells HP2.out 20).1
  have cb20 := (row_cells HQ2.out 20).1
  have ca21 := (row_cells HP2.out 21).1
  have cb21 := (row_cells HQ2.out 21).1
  have ca22 := (row_cells HP2.out 22).1
  have cb22 := (row_cells HQ2.out 22).1
  have ca23 := (row_cells HP2.out 23).1
  have cb23 := (row_cells HQ2.out 23).1
  have ca24 := (row_cells HP2.out 24).1
  have cb24 := (row_cells HQ2.out 24).1
  simp only [Msgv.cells, List.getElem?_toArray, List.getElem?_cons_succ, List.getElem?_cons_zero] at ca13 cb13 ca14 cb14 ca15 cb15 ca16 cb16 ca17 cb17 ca18 cb18 ca19 cb19 ca20 cb20 ca21 cb21 ca22 cb22 ca23 cb23 ca24 cb24
  have k2 := fun w => equal_cmd 9997 m.cm m'.cm w
  have k3 := fun w => equal_res 9998 m.rk m.rr m.ri m'.rk m'.rr m'.ri w
  rcases h3 : eqC m.cm m'.cm with _ | _
  · have HF : Hid (sameM m m' = false) := hide (by rw [HE2.out, h3]; rfl)
    rw [h3] at k2
    clear HE2 h3
    go_wp2
    go_ret
    exact ⟨by rw [HF.out]; rfl, b2⟩
  have HE3 : Hid (sameM m m' = (decide ([m.rk, m.rr, m.ri] = [m'.rk, m'.rr, m'.ri]) && (decide (m.ds = m'.ds)))) := hide (by rw [HE2.out, h3]; rfl)
  rw [h3] at k2
  clear HE2 h3
  by_cases h4 : [m.rk, m.rr, m.ri] = [m'.rk, m'.rr, m'.ri]
  rotate_left
  · have HF : Hid (sameM m m' = false) := hide (by rw [HE3.out, decide_eq_false h4]; rfl)
    rw [decide_eq_false h4] at k3
    clear HE3 h4
    go_wp2
    go_ret
    exact ⟨by rw [HF.out]; rfl, b2⟩
  have HE4 : Hid (sameM m m' = decide (m.ds = m'.ds)) := hide (by rw [HE3.out, decide_eq_true h4]; rfl)
  rw [decide_eq_true h4] at k3
  clear HE3 h4
  obtain ⟨hm2, hn2⟩ := HMM.out _ b2
  go_wp2_with fail
  refine (same_any m.DA m'.DA m.dn m'.dn m.dc m'.dc B B m.ds m'.ds w2 hm2.d hn2.d hm2.ed hn2.ed (by have := hm2.ld; omega)).mono ?_
  rintro e w3 ⟨rfl, nq, rfl⟩
  go_wp2
  go_ret
  exact ⟨by rw [HE4.out]; rfl, below_drewN b2 nq⟩
end Go.Proofs.YtapbcpilklhoiabDoor

namespace Go.Proofs.YtapbcpilklhoiabDoor
open Go.RowKit

theorem vote_set {w : World} {g : Nat} {t : TypeId} {a0 a1 a2 a3 a4 a5 : Value} (h : w.heap[g]? = some (.cells #[a0, a1, a2, a3, a4, a5] t (0, 0))) (y3 y4 y5 : Value) :
    (((w.setCell ⟨g, 3, none⟩ y3).setCell ⟨g, 4, none⟩ y4).setCell ⟨g, 5, none⟩ y5).heap[g]? = some (.cells #[a0, a1, a2, y3, y4, y5] t (0, 0)) := by
  simp [World.setCell, Array.getElem?_modify, h]

set_option maxHeartbeats 3200000 in
theorem copyvotes_any (A : Option Addr) (n c B : Nat) (vs : List Votev) (w : World) (hV : HasVt w B A vs) (hB : B ≤ w.heap.size) (hn : vs.length = n) (hl : n ≤ 1759218604440) :
    Calls Tryd.prog 22 #[.slice A n c] w fun e w' => ∃ A' n' c' vs', e = .returned (.slice A' n' c') ∧ VtGo w w.heap.size (.slice A' n' c') (vs.map Votev.lg) vs' w' ∧ Below w.heap.size w w' := by
  have HN := hide hn
  clear hn
  have HVV : Hid (∀ W, Below w.heap.size w W → HasVt W B A vs) := hide (fun W h => hV.below (h.mono hB))
  clear hV
  go_enter Tryd.func22, Tryd.ntmps22
  go_wp2_with fail
  have hb1 := (Below.refl _ w).alloc (Nat.le_refl _) (.cells #[] 54)
  have ho1 := OwnVt.empty w w.heap.size w.heap.size rfl (Nat.le_refl _)
  generalize w.alloc (.cells #[] 54) = w1 at *
  go_loopw [3, 9] (fun x i wr => ∃ (j : Nat) (A' : Option Addr) (n' c' : Nat) (vs' : List Votev), j ≤ n ∧ i = .int .i64 j ∧ x = .slice A' n' c' ∧ Below w.heap.size w wr ∧ VtGo w w.heap.size (.slice A' n' c') ((vs.take j).map Votev.lg) vs' wr) (fun _ i _ => n - (intOf i).toNat)
  case atStart => exact ⟨0, some ⟨w.heap.size, 0, none⟩, 0, 0, [], Nat.zero_le _, rfl, rfl, hb1, ⟨rfl, ho1, by simp, by simp⟩⟩
  case round =>
    clear hb1 ho1
    obtain ⟨j, A', n', c', vs', hj, rfl, rfl, hbr, hv⟩ := hrel
    by_cases hlt : j < n
    · have hlt' : j < vs.length := by rw [HN.out]; exact hlt
      have hcl := HVV.out _ hbr j hlt'
      have hvl : vs'.length = j := by
        have h2 := congrArg List.length hv.eq
        rw [List.length_map, List.length_map, List.length_take] at h2
        omega
      have HTK : Hid ((vs.take (j + 1)).map Votev.lg = (vs.take j).map Votev.lg ++ [vs[j].lg]) := hide (by rw [List.take_succ_eq_append_getElem hlt', List.map_append]; rfl)
      generalize vs[j] = v at *
      generalize (vs.take j).map Votev.lg = xs at *
      obtain ⟨⟨ab, ao, rfl, hab, e0, e1, e2, e3, e4, e5⟩, hx⟩ := hcl
      have hzr := hbr.size
      go_upto_region 6 with fail
      have hp0 := heap_alloc_new wr (.cells #[.int .i64 v.sl, .int .i64 v.br, .int .i64 v.bn, .int .i64 v.v.k, .slice v.v.A v.v.n v.v.c, .slice v.v.D v.v.m v.v.d] 54)
      have ba := (Below.refl _ wr).alloc (Nat.le_refl _) (.cells #[.int .i64 v.sl, .int .i64 v.br, .int .i64 v.bn, .int .i64 v.v.k, .slice v.v.A v.v.n v.v.c, .slice v.v.D v.v.m v.v.d] 54)
      generalize wr.alloc (.cells #[.int .i64 v.sl, .int .i64 v.br, .int .i64 v.bn, .int .i64 v.v.k, .slice v.v.A v.v.n v.v.c, .slice v.v.D v.v.m v.v.d] 54) = w2 at *
      have hz2 := lt_of_block hp0
      have hx2 := hx.on (by omega) ba
      have hb2 := hbr.trans (ba.mono hbr.size)
      have c3 := (row_cells hp0 3).1
      have c4 := (row_cells hp0 4).1
      have c5 := (row_cells hp0 5).1
      simp only [List.getElem?_toArray, List.getElem?_cons_succ, List.getElem?_cons_zero] at c3 c4 c5
      clear e0 e1 e2 e3 e4 e5 hx
      go_wp2_with fail
      refine (rvcopy_any v.v.k v.v.A v.v.D v.v.n v.v.c v.v.m v.v.d B v.v.cs v.v.ns w2 hx2.c hx2.i (by omega) hx2.en hx2.em hx2.ln (by have := hx2.lm; omega)).mono ?_
      rintro e w3 ⟨A3, c3', D3, d3, rfl, hoc, hoi, b3⟩
      have hp3 := (b3.block wr.heap.size hz2).trans hp0
      obtain ⟨q3, f3⟩ := row_cells hp3 3
      obtain ⟨q4, f4⟩ := row_cells hp3 4
      obtain ⟨q5, f5⟩ := row_cells hp3 5
      simp only [List.getElem?_toArray, List.getElem?_cons_succ, List.getElem?_cons_zero] at q3 q4 q5
      clear c3 c4 c5 hp0
      go_upto_region 7 with fail
      have hp4 := vote_set hp3 (.int .i64 v.v.k) (.slice A3 v.v.n c3') (.slice D3 v.v.m d3)
      have hk4 : Kept (fun k => k = wr.heap.size) w3 (((w3.setCell ⟨wr.heap.size, 3, none⟩ (.int .i64 v.v.k)).setCell ⟨wr.heap.size, 4, none⟩ (.slice A3 v.v.n c3')).setCell ⟨wr.heap.size, 5, none⟩ (.slice D3 v.v.m d3)) := (((Kept.refl (fun k => k = wr.heap.size) w3).setCell (p := ⟨wr.heap.size, 3, none⟩) (.inl rfl) _).setCell (p := ⟨wr.heap.size, 4, none⟩) (.inl rfl) _).setCell (p := ⟨wr.heap.size, 5, none⟩) (.inl rfl) _
      generalize ((w3.setCell ⟨wr.heap.size, 3, none⟩ (.int .i64 v.v.k)).setCell ⟨wr.heap.size, 4, none⟩ (.slice A3 v.v.n c3')).setCell ⟨wr.heap.size, 5, none⟩ (.slice D3 v.v.m d3) = w4 at *
      have hz3 := b3.size
      have hz4 := hk4.size
      have bw4 : Below wr.heap.size wr w4 := (ba.trans (b3.mono ba.size)).trans (hk4.below (by omega) (fun k hk => by omega))
      have hv4 := hv.kept (Kept.of_below (F := fun _ => False) bw4) (fun k hk => hk.elim)
      have hoc4 := hoc.keep fun k hk => hk4.block k ((hoc.lt k hk).2) (by have := (hoc.lt k hk).1; omega)
      have hoi4 := hoi.keep fun k hk => hk4.block k ((hoi.lt k hk).2) (by have := (hoi.lt k hk).1; omega)
      have hb4 := hbr.trans (bw4.mono hbr.size)
      clear q3 q4 q5 f3 f4 f5 hp3 hk4 hoc hoi b3
      obtain ⟨_, _, _, e1, _, _, g1⟩ := hoc4.form
      obtain ⟨_, _, _, e2, _, _, g2⟩ := hoi4.form
      injection e1 with e11 e12 e13
      injection e2 with e21 e22 e23
      subst e11 e12 e13 e21 e22 e23
      have hb5 := (Below.refl _ w4).alloc (Nat.le_refl _) (.cells #[.int .i64 v.sl, .int .i64 v.br, .int .i64 v.bn, .int .i64 v.v.k, .slice A3 v.v.n c3', .slice D3 v.v.m d3] 54)
      have hp5 := heap_alloc_new w4 (.cells #[.int .i64 v.sl, .int .i64 v.br, .int .i64 v.bn, .int .i64 v.v.k, .slice A3 v.v.n c3', .slice D3 v.v.m d3] 54)
      have hv5 := hv4.kept (Kept.of_below (F := fun _ => False) hb5) (fun k hk => hk.elim)
      have iv5 : IsV (w4.alloc (.cells #[.int .i64 v.sl, .int .i64 v.br, .int .i64 v.bn, .int .i64 v.v.k, .slice A3 v.v.n c3', .slice D3 v.v.m d3] 54)) (w4.alloc (.cells #[.int .i64 v.sl, .int .i64 v.br, .int .i64 v.bn, .int .i64 v.v.k, .slice A3 v.v.n c3', .slice D3 v.v.m d3] 54)).heap.size A3 v.v.n D3 v.v.m v.v.cs v.v.ns := IsV.last ⟨g1, g2, hx2.en, hx2.em, hx2.ln, hx2.lm, hx2.cc⟩ hb5
      have hz5 := hb5.size
      have hb5' := hb4.trans (hb5.mono hb4.size)
      have HLY : Hid (∀ k, ReachV ⟨v.v.k, A3, v.v.n, c3', D3, v.v.m, d3, v.v.cs, v.v.ns⟩ k → w.heap.size ≤ k ∧ k < (w4.alloc (.cells #[.int .i64 v.sl, .int .i64 v.br, .int .i64 v.bn, .int .i64 v.v.k, .slice A3 v.v.n c3', .slice D3 v.v.m d3] 54)).heap.size ∧ (Value.slice A' n' c').ownBlock ≠ some k ∧ Free (w4.alloc (.cells #[.int .i64 v.sl, .int .i64 v.br, .int .i64 v.bn, .int .i64 v.v.k, .slice A3 v.v.n c3', .slice D3 v.v.m d3] 54)) k) := hide (fun k hk => by
        have h1 : w2.heap.size ≤ k ∧ k < w4.heap.size ∧ Free w4 k := by
          rcases hk with ⟨o, e⟩ | ⟨o, e⟩
          · exact ⟨(hoc4.lt k (own_block e)).1, (hoc4.lt k (own_block e)).2, free_own hoc4 k (own_block e)⟩
          · exact ⟨(hoi4.lt k (own_block e)).1, (hoi4.lt k (own_block e)).2, free_own hoi4 k (own_block e)⟩
        refine ⟨by omega, by omega, fun e => ?_, h1.2.2.keep (hb5.block k h1.2.1)⟩
        have := (hv.ow.lt k e).2
        omega)
      have HV5 := hide hv5
      have HI5 := hide iv5
      have HP5 := hide hp5
      have HB5 := hide hb5'
      have HP4 := hide hp4
      clear hv4 hv5 hoc4 hoi4 g1 g2 hb5 hp5 iv5 hz5 hb5' hp4 bw4 hb4 hz4 hz3 hv ba
      go_wp2_with (first
        | (refine wpList_load_row rfl 54 _ rfl wr.heap.size rfl _ _ _ _ HP4.out Tryd.underlying54 rfl (by kernel_rfl) ?_)
        | (at_builtin; refine list_append_vote _ (by rfl) (.tmp 20) (.tmp 22) rfl w.heap.size (.slice A' n' c') vs' rfl HV5.out.ow w4.heap.size 1 ⟨v.sl, v.br, v.bn, ⟨v.v.k, A3, v.v.n, c3', D3, v.v.m, d3, v.v.cs, v.v.ns⟩⟩ rfl HP5.out (by omega) HB5.out.size ?_; intro v7 w7 ho7 hgr7 hat7; have hv7 := HV5.out.more ⟨v.sl, v.br, v.bn, ⟨v.v.k, A3, v.v.n, c3', D3, v.v.m, d3, v.v.cs, v.v.ns⟩⟩ HI5.out HLY.out ho7 hgr7 hat7; obtain ⟨A7, n7, c7, rfl, hn7, hnc7, hx7⟩ := hv7.ow.form hv7.iv))
      have hk7 := Kept.of_grown (F := fun k => (Value.slice A' n' c').ownBlock = some k) hgr7 (fun k hk => hk)
      refine ⟨⟨j + 1, A7, n7, c7, vs' ++ [⟨v.sl, v.br, v.bn, ⟨v.v.k, A3, v.v.n, c3', D3, v.v.m, d3, v.v.cs, v.v.ns⟩⟩], by omega, by go_num, rfl, ?_, ?_⟩, by simp [intOf]; omega⟩
      · exact HB5.out.trans (hk7.below HB5.out.size (fun k hk => (HV5.out.ow.lt k hk).1))
      · rw [HTK.out]
        exact hv7
    · obtain rfl : j = n := by omega
      rw [List.take_of_length_le (by rw [HN.out]; omega)] at hv
      go_wp2
      go_ret
      exact ⟨A', n', c', vs', rfl, hv, hbr⟩

theorem results_mcopy {tmps : Array Value} {w : World} {g : Nat} {A : Array Value} {t : TypeId} (h2 : tmps.getD 2 undef = .pointer (some ⟨g, 0, none⟩)) (hA : w.heap[g]? = some (.cells A t (0, 0))) (sA : A.size = 25) :
    (results Tryd.f9 tmps).run Tryd.prog w = .ok (.agg A) w := by
  have h2' : tmps[2]?.getD undef = .pointer (some ⟨g, 0, none⟩) := by simpa using h2
  have i1 : (Tryd.prog.info? 37).map (·.size) = some A.size := by rw [sA]; kernel_rfl
  have e1 := run_loadVar_row (P := Tryd.prog) w g t 37 A (0, 0) _ hA Tryd.underlying37 rfl i1
  simp [results, Tryd.results9, h2', asAddr, e1]
/-- How a copy ends. -/
def MCopyEnds (x : Msgl) (w : World) (e : Ending) (w' : World) : Prop :=
  ∃ m : Msgv, e = .returned (.agg m.cells) ∧ m.lg = x ∧ IsM w' w'.heap.size m ∧ (∀ k, ReachM m k → w.heap.size ≤ k ∧ k < w'.heap.size ∧ Free w' k) ∧ Below w.heap.size w w'

set_option maxRecDepth 20000 in
set_option maxHeartbeats 3200000 in
theorem mcopy_any (m : Msgv) (B : Nat) (w : World) (hm : IsM w B m) (hB : B ≤ w.heap.size) (hvn : m.vn ≤ 1759218604440) :
    Calls Tryd.prog 9 #[.agg m.cells] w (MCopyEnds m.lg w) := by
  have HMM : Hid (∀ W, Below w.heap.size w W → IsM W B m) := hide (fun W h => hm.below (h.mono hB))
  clear hm
  go_enter Tryd.func9, Tryd.ntmps9
  go_upto_region 1 with fail
  have hp0 := (Below.heap_alloc (w.alloc (.cells m.cells 37)) (.cells #[.int .i64 0, .int .i64 0, .int .i64 0, .int .i64 0, .int .i64 0, .int .i64 0, .int .i64 0, .int .i64 0, .int .i64 0, .int .i64 0, .slice none 0 0, .slice none 0 0, .slice none 0 0, .int .i64 0, .int .i64 0, .int .i64 0, .int .i64 0, .int .i64 0, .int .i64 0, .int .i64 0, .int .i64 0, .int .i64 0, .int .i64 0, .int .i64 0, .slice none 0 0] 37) w.heap.size (by simp)).trans (heap_alloc_new w (.cells m.cells 37))
  have hr0 := heap_alloc_new (w.alloc (.cells m.cells 37)) (.cells #[.int .i64 0, .int .i64 0, .int .i64 0, .int .i64 0, .int .i64 0, .int .i64 0, .int .i64 0, .int .i64 0, .int .i64 0, .int .i64 0, .slice none 0 0, .slice none 0 0, .slice none 0 0, .int .i64 0, .int .i64 0, .int .i64 0, .int .i64 0, .int .i64 0, .int .i64 0, .int .i64 0, .int .i64 0, .int .i64 0, .int .i64 0, .int .i64 0, .slice none 0 0] 37)
  have b0 : Below w.heap.size w ((w.alloc (.cells m.cells 37)).alloc (.cells #[.int .i64 0, .int .i64 0, .int .i64 0, .int .i64 0, .int .i64 0, .int .i64 0, .int .i64 0, .int .i64 0, .int .i64 0, .int .i64 0, .slice none 0 0, .slice none 0 0, .slice none 0 0, .int .i64 0, .int .i64 0, .int .i64 0, .int .i64 0, .int .i64 0, .int .i64 0, .int .i64 0, .int .i64 0, .int .i64 0, .int .i64 0, .int .i64 0, .slice none 0 0] 37)) := by go_grown
  rw [show (w.alloc (.cells m.cells 37)).heap.size = w.heap.size + 1 by simp] at hr0
  have hs0 : w.heap.size + 1 < ((w.alloc (.cells m.cells 37)).alloc (.cells #[.int .i64 0, .int .i64 0, .int .i64 0, .int .i64 0, .int .i64 0, .int .i64 0, .int .i64 0, .int .i64 0, .int .i64 0, .int .i64 0, .slice none 0 0, .slice none 0 0, .slice none 0 0, .int .i64 0, .int .i64 0, .int .i64 0, .int .i64 0, .int .i64 0, .int .i64 0, .int .i64 0, .int .i64 0, .int .i64 0, .int .i64 0, .int .i64 0, .slice none 0 0] 37)).heap.size := by simp
  generalize (w.alloc (.cells m.cells 37)).alloc (.cells #[.int .i64 0, .int .i64 0, .int .i64 0, .int .i64 0, .int .i64 0, .int .i64 0, .int .i64 0, .int .i64 0, .int .i64 0, .int .i64 0, .slice none 0 0, .slice none 0 0, .slice none 0 0, .int .i64 0, .int .i64 0, .int .i64 0, .int .i64 0, .int .i64 0, .int .i64 0, .int .i64 0, .int .i64 0, .int .i64 0, .int .i64 0, .int .i64 0, .slice none 0 0] 37) = W0 at *
  generalize hg2 : w.heap.size + 1 = g2 at *
  have hlt2 : w.heap.size < g2 := by omega
  clear hg2
  have HR0 := hide hr0
  clear hr0
  have hm0 := HMM.out _ b0
  have hz0 := b0.size
  have c9 := (row_cells hp0 9).1
  have c10 := (row_cells hp0 10).1
  have c11 := (row_cells hp0 11).1
  simp only [Msgv.cells, List.getElem?_toArray, List.getElem?_cons_succ, List.getElem?_cons_zero] at c9 c10 c11
  go_wp2_with fail
  refine (rvcopy_any m.v.k m.v.A m.v.D m.v.n m.v.c m.v.m m.v.d B m.v.cs m.v.ns W0 hm0.v.c hm0.v.i (by omega) hm0.v.en hm0.v.em hm0.v.ln (by have := hm0.v.lm; omega)).mono ?_
  rintro e w1 ⟨A1, c1, D1, d1, rfl, hoc, hoi, b1⟩
  have hp1 := (b1.block w.heap.size (by omega)).trans hp0
  have HR1 := hide ((b1.block g2 (by omega)).trans HR0.out)
  have hz1 := b1.size
  obtain ⟨q9, f9⟩ := row_cells hp1 9
  obtain ⟨q10, f10⟩ := row_cells hp1 10
  obtain ⟨q11, f11⟩ := row_cells hp1 11
  simp only [Msgv.cells, List.getElem?_toArray, List.getElem?_cons_succ, List.getElem?_cons_zero] at q9 q10 q11
  clear c9 c10 c11 hp0 HR0
  go_upto_region 2 with fail
  have hp2 : (((w1.setCell ⟨w.heap.size, 9, none⟩ (.int .i64 m.v.k)).setCell ⟨w.heap.size, 10, none⟩ (.slice A1 m.v.n c1)).setCell ⟨w.heap.size, 11, none⟩ (.slice D1 m.v.m d1)).heap[w.heap.size]? = some (.cells ({ m with v := ⟨m.v.k, A1, m.v.n, c1, D1, m.v.m, d1, m.v.cs, m.v.ns⟩ } : Msgv).cells 37 (0, 0)) := by simp [World.setCell, Array.getElem?_modify, hp1, Msgv.cells]
  have hk2 : Kept (fun k => k = w.heap.size) w1 (((w1.setCell ⟨w.heap.size, 9, none⟩ (.int .i64 m.v.k)).setCell ⟨w.heap.size, 10, none⟩ (.slice A1 m.v.n c1)).setCell ⟨w.heap.size, 11, none⟩ (.slice D1 m.v.m d1)) := ((((Kept.refl (fun k => k = w.heap.size) w1).setCell (p := ⟨w.heap.size, 9, none⟩) (.inl rfl) _).setCell (p := ⟨w.heap.size, 10, none⟩) (.inl rfl) _).setCell (p := ⟨w.heap.size, 11, none⟩) (.inl rfl) _)
  generalize ((w1.setCell ⟨w.heap.size, 9, none⟩ (.int .i64 m.v.k)).setCell ⟨w.heap.size, 10, none⟩ (.slice A1 m.v.n c1)).setCell ⟨w.heap.size, 11, none⟩ (.slice D1 m.v.m d1) = w2 at *
  clear q9 q10 q11 f9 f10 f11 hp1
  have hoc2 := hoc.keep fun k hk => hk2.block k ((hoc.lt k hk).2) (by have := (hoc.lt k hk).1; omega)
  have hoi2 := hoi.keep fun k hk => hk2.block k ((hoi.lt k hk).2) (by have := (hoi.lt k hk).1; omega)
  have HR2 := hide ((hk2.block g2 (by omega) (by omega)).trans HR1.out)
  have b2 := (b0.trans (b1.mono b0.size)).trans (hk2.below (by omega) (fun k hk => by omega))
  have hm2 := HMM.out _ b2
  have hz2 := hk2.size
  have c12 := (row_cells hp2 12).1
  simp only [Msgv.cells, List.getElem?_toArray, List.getElem?_cons_succ, List.getElem?_cons_zero] at c12
  clear HR1 b0 b1 hk2 hoc hoi
  go_wp2_with fail
  refine (copyvotes_any m.VA m.vn m.vc B m.vs w2 hm2.vt (by omega) hm2.en hvn).mono ?_
  rintro e w3 ⟨A3, n3, c3, vs3, rfl, hv3, b3⟩
  have hp3 := (b3.block w.heap.size (by omega)).trans hp2
  have HR3 := hide ((b3.block g2 (by omega)).trans HR2.out)
  have hz3 := b3.size
  have hoc3 := hoc2.below b3
  have hoi3 := hoi2.below b3
  obtain ⟨q12, f12⟩ := row_cells hp3 12
  simp only [Msgv.cells, List.getElem?_toArray, List.getElem?_cons_succ, List.getElem?_cons_zero] at q12
  clear c12 hp2 HR2 hoc2 hoi2
  go_upto_region 3 with fail
  have hp4 : (w3.setCell ⟨w.heap.size, 12, none⟩ (.slice A3 n3 c3)).heap[w.heap.size]? = some (.cells ({ m with v := ⟨m.v.k, A1, m.v.n, c1, D1, m.v.m, d1, m.v.cs, m.v.ns⟩, VA := A3, vn := n3, vc := c3, vs := vs3 } : Msgv).cells 37 (0, 0)) := by simp [World.setCell, Array.getElem?_modify, hp3, Msgv.cells]
  have hk4 : Kept (fun k => k = w.heap.size) w3 (w3.setCell ⟨w.heap.size, 12, none⟩ (.slice A3 n3 c3)) := ((Kept.refl (fun k => k = w.heap.size) w3).setCell (p := ⟨w.heap.size, 12, none⟩) (.inl rfl) _)
  generalize w3.setCell ⟨w.heap.size, 12, none⟩ (.slice A3 n3 c3) = w4 at *
  clear q12 f12 hp3
  have hoc4 := hoc3.keep fun k hk => hk4.block k ((hoc3.lt k hk).2) (by have := (hoc3.lt k hk).1; omega)
  have hoi4 := hoi3.keep fun k hk => hk4.block k ((hoi3.lt k hk).2) (by have := (hoi3.lt k hk).1; omega)
  have HR4 := hide ((hk4.block g2 (by omega) (by omega)).trans HR3.out)
  have hv4 := hv3.kept hk4 (fun k hk => by omega)
  have b4 := (b2.trans (b3.mono b2.size)).trans (hk4.below (by omega) (fun k hk => by omega))
  have hm4 := HMM.out _ b4
  have hz4 := hk4.size
  have c24 := (row_cells hp4 24).1
  simp only [Msgv.cells, List.getElem?_toArray, List.getElem?_cons_succ, List.getElem?_cons_zero] at c24
  clear HR3 b2 b3 hk4 hoc3 hoi3 hv3
  go_wp2_with fail
  refine (copy_any m.DA m.dn m.dc m.ds w4 (hm4.d.more (by omega)) hm4.ed (by have := hm4.ld; omega)).mono ?_
  rintro e w5 ⟨rfl, hw5⟩
  have b5 := (Below.refl _ w4).alloc (Nat.le_refl _) (.cells (bcells m.ds) 5)
  have hd5 := Has.new w4 5 m.ds (0, 0) w4.heap.size rfl
  have hs5 : (w4.alloc (.cells (bcells m.ds) 5)).heap.size = w4.heap.size + 1 := by simp
  have hfd5 : Free (w4.alloc (.cells (bcells m.ds) 5)) w4.heap.size := ⟨_, _, heap_alloc_new w4 _⟩
  rw [hw5] at b5 hd5 hs5 hfd5
  clear hw5
  have hp5 := (b5.block w.heap.size (by omega)).trans hp4
  have HR5 := hide ((b5.block g2 (by omega)).trans HR4.out)
  have hoc5 := hoc4.below b5
  have hoi5 := hoi4.below b5
  have hv5 := hv4.kept (Kept.of_below (F := fun _ => False) b5) (fun k hk => hk.elim)
  have hb5 := b4.trans (b5.mono b4.size)
  obtain ⟨q24, f24⟩ := row_cells hp5 24
  simp only [Msgv.cells, List.getElem?_toArray, List.getElem?_cons_succ, List.getElem?_cons_zero] at q24
  have hz5 : w4.heap.size < w5.heap.size := by omega
  have hd5 : Has w5 w5.heap.size (some ⟨w4.heap.size, 0, none⟩) m.ds := hd5.more (by omega)
  clear hs5 c24 hp4 HR4 hoc4 hoi4 hv4 b4 b5
  generalize hg4 : w4.heap.size = g4 at *
  go_upto_region 4 with fail
  have hp6 : (w5.setCell ⟨w.heap.size, 24, none⟩ (.slice (some ⟨g4, 0, none⟩) m.dn m.dn)).heap[w.heap.size]? = some (.cells ({ m with v := ⟨m.v.k, A1, m.v.n, c1, D1, m.v.m, d1, m.v.cs, m.v.ns⟩, VA := A3, vn := n3, vc := c3, vs := vs3, DA := some ⟨g4, 0, none⟩, dc := m.dn } : Msgv).cells 37 (0, 0)) := by simp [World.setCell, Array.getElem?_modify, hp5, Msgv.cells]
  have hk6 : Kept (fun k => k = w.heap.size) w5 (w5.setCell ⟨w.heap.size, 24, none⟩ (.slice (some ⟨g4, 0, none⟩) m.dn m.dn)) := ((Kept.refl (fun k => k = w.heap.size) w5).setCell (p := ⟨w.heap.size, 24, none⟩) (.inl rfl) _)
  generalize w5.setCell ⟨w.heap.size, 24, none⟩ (.slice (some ⟨g4, 0, none⟩) m.dn m.dn) = w6 at *
  have HR6 := hide ((hk6.block g2 (by omega) (by omega)).trans HR5.out)
  have hz6 := hk6.size
  clear q24 f24 hp5 HR5
  obtain ⟨_, _, _, e1, _, _, g1⟩ := hoc5.form
  obtain ⟨_, _, _, e2, _, _, g2'⟩ := hoi5.form
  obtain ⟨_, _, _, e3, hn3, _, g3⟩ := hv5.ow.form hv5.iv
  injection e1 with e11 e12 e13
  injection e2 with e21 e22 e23
  injection e3 with e31 e32 e33
  subst e11 e12 e13 e21 e22 e23 e31 e32 e33
  have hl3 : vs3.length = m.vn := by
    have h2 := congrArg List.length hv5.eq
    rw [List.length_map, List.length_map, hm4.en] at h2
    exact h2
  have IM5 : IsM w5 w5.heap.size ({ m with v := ⟨m.v.k, A1, m.v.n, c1, D1, m.v.m, d1, m.v.cs, m.v.ns⟩, VA := A3, vn := n3, vc := c3, vs := vs3, DA := some ⟨g4, 0, none⟩, dc := m.dn } : Msgv) := ⟨⟨g1, g2', hm4.v.en, hm4.v.em, hm4.v.ln, hm4.v.lm, hm4.v.cc⟩, g3, hn3.out, by show n3 ≤ _; have := hn3.out; omega, hd5, hm4.ed, Nat.le_refl _, hm4.ld, hm4.cm, hm4.i1, hm4.i2, hm4.i3⟩
  have RE5 : ∀ k, ReachM ({ m with v := ⟨m.v.k, A1, m.v.n, c1, D1, m.v.m, d1, m.v.cs, m.v.ns⟩, VA := A3, vn := n3, vc := c3, vs := vs3, DA := some ⟨g4, 0, none⟩, dc := m.dn } : Msgv) k → W0.heap.size ≤ k ∧ k < w5.heap.size ∧ Free w5 k := by
    rintro k ((⟨o, e⟩ | ⟨o, e⟩) | ⟨o, e⟩ | ⟨x, hx, hr⟩ | ⟨o, e⟩)
    · have := hoc5.lt k (own_block e); exact ⟨by omega, by omega, free_own hoc5 k (own_block e)⟩
    · have := hoi5.lt k (own_block e); exact ⟨by omega, by omega, free_own hoi5 k (own_block e)⟩
    · have := hv5.ow.lt k (own_block e); exact ⟨by omega, by omega, free_own hv5.ow k (own_block e)⟩
    · have := hv5.re x hx k hr; exact ⟨by omega, by omega, this.2.2.2⟩
    · have e' : g4 = k := by injection (Option.some.inj e)
      exact ⟨by omega, by omega, e' ▸ hfd5⟩
  generalize hM3 : ({ m with v := ⟨m.v.k, A1, m.v.n, c1, D1, m.v.m, d1, m.v.cs, m.v.ns⟩, VA := A3, vn := n3, vc := c3, vs := vs3, DA := some ⟨g4, 0, none⟩, dc := m.dn } : Msgv) = M at *
  have hk7 := Kept.of_setRow w6 g2 M.cells
  have hr7 := set_row_at (B := M.cells) HR6.out
  have i25 : (Tryd.prog.info? 37).map (·.size) = some M.cells.size := (show (Tryd.prog.info? 37).map (·.size) = some 25 by kernel_rfl)
  have hone : M.cells.all (·.oneCell') = true := by simp [Msgv.cells, Value.oneCell']
  go_wp2_with (first
    | (refine wpList_load_row rfl 37 _ rfl w.heap.size rfl _ _ _ _ hp6 Tryd.underlying37 rfl i25 ?_)
    | (refine wpList_store_row rfl 37 _ _ rfl g2 M.cells rfl rfl _ _ HR6.out i25 rfl hone ?_; generalize w6.setRow g2 M.cells = w7 at *))
  refine bodyPost_ret (v := .agg M.cells) (results_mcopy rfl hr7 rfl) rfl ⟨M, rfl, ?_, ?_, ?_, ?_⟩
  · rw [← hM3]
    unfold Msgv.lg
    simp only
    rw [hv5.eq]
  · exact (((IM5.keepR fun k hk hlt => hk6.block k hlt (fun e => by have := RE5 k hk; omega)).keepR (w' := w7) fun k hk hlt => hk7.block k (by omega) (fun e => by have := RE5 k hk; omega)).more (by have := hk7.size; omega))
  · intro k hk
    have h5 := RE5 k hk
    have := hk7.size
    exact ⟨by omega, by omega, (h5.2.2.keep (hk6.block k h5.2.1 (fun e => by omega))).keep (hk7.block k (by omega) (fun e => by omega))⟩
  · exact (hb5.trans (hk6.below (by omega) (fun k hk => by omega))).trans (hk7.below (by omega) (fun k hk => by omega))
end Go.Proofs.YtapbcpilklhoiabDoor

namespace Go.Proofs.YtapbcpilklhoiabDoor
open Go.RowKit

theorem ut_zero : ut 0 1 = false := by decide +kernel
theorem FineM.used {x : Msgl} {u : Int} (h : FineM x u) : u ≠ 0 := by
  intro e
  have := h.u1
  rw [e, ut_zero] at this
  cases this
/-- What a right message's bytes are read as. -/
theorem mdec_enc {w : World} {B : Nat} {m : Msgv} (hm : IsM w B m) (h : chkM m = 0) : mdecE (encM m.lg (usedT m.kd)) = 0 ∧ (rdM (encM m.lg (usedT m.kd))).x = m.lg := by
  have hF := chkM_fine hm h
  have hlen := hF.len
  obtain ⟨e1, e2, e3⟩ := rdM_enc (x := m.lg) hF
  have e0 : m.lg.kd = m.kd := rfl
  rw [e0] at e1 e2 e3
  have hk := hF.kd
  have hu := hF.used
  refine ⟨?_, by rw [e1]⟩
  unfold mdecE
  rw [if_neg (by omega), if_neg (by rw [e3]; simp), if_neg (by rw [e2, Int.toNat_of_nonneg (show 0 ≤ m.kd from hk.1)]; exact hu), if_neg (by rw [e1]; simp [dn]), e1]
  show chkM m.lg.up = 0
  rw [← chkM_up hm.en hm.ed]
  exact h
/-- And the other way. -/
theorem mdec_back {w : World} {B : Nat} {m : Msgv} {xs : List UInt8} (hm : IsM w B m) (h : mdecE xs = 0) (hx : m.lg = (rdM xs).x) : chkM m = 0 ∧ encM m.lg (usedT m.kd) = xs := by
  unfold mdecE at h
  by_cases c1 : 65536 < xs.length
  · rw [if_pos c1] at h; omega
  rw [if_neg c1] at h
  by_cases c2 : (rdH (xs, 0)).s.2 ≠ 0
  · rw [if_pos c2] at h; omega
  rw [if_neg c2] at h
  by_cases c3 : usedT ((rdH (xs, 0)).kd : Int) = 0
  · rw [if_pos c3] at h; omega
  rw [if_neg c3] at h
  by_cases c4 : dn (rdM xs).s ≠ 0
  · rw [if_pos c4] at h; omega
  rw [if_neg c4] at h
  have c4' : dn (rdM xs).s = 0 := by omega
  refine ⟨?_, ?_⟩
  · rw [chkM_up hm.en hm.ed, hx]
    exact h
  · have e := rdM_back c3 (dn_zero c4')
    rw [← hx] at e
    exact e

def hm8 : Msgv := { mz 8 2 3 0 with sl := 5 }
def hb8 : List UInt8 := [1, 8, 1, 2, 1, 3, 0, 1, 5]
theorem hm8_ok : chkM hm8 = 0 := by decide +kernel
theorem hm8_enc : encM hm8.lg (usedT hm8.kd) = hb8 := by decide +kernel
theorem isM_hm8 (w : World) (B : Nat) : IsM w B hm8 := by
  have h := isM_mz 8 2 3 0 w B
  exact ⟨h.v, h.vt, h.en, h.ln, h.d, h.ed, h.dc, h.ld, h.cm, h.i1, h.i2, h.i3⟩

set_option maxRecDepth 20000 in
set_option maxHeartbeats 3200000 in
theorem head7_any (w : World) (ht : TabM w) (h0 : 0 < w.heap.size) : Calls Tryd.prog 8 #[] w fun e w' => e = .returned (.bool true) ∧ Below w.heap.size w w' := by
  have HT : Hid (∀ W, Below w.heap.size w W → TabM W) := hide (fun W h => ht.below h (by omega))
  clear ht
  go_enter Tryd.func8, Tryd.ntmps8
  have hr0 := set_row_at (B := hm8.cells) (heap_alloc_new w (.cells #[.int .i64 0, .int .i64 0, .int .i64 0, .int .i64 0, .int .i64 0, .int .i64 0, .int .i64 0, .int .i64 0, .int .i64 0, .int .i64 0, .slice none 0 0, .slice none 0 0, .slice none 0 0, .int .i64 0, .int .i64 0, .int .i64 0, .int .i64 0, .int .i64 0, .int .i64 0, .int .i64 0, .int .i64 0, .int .i64 0, .int .i64 0, .int .i64 0, .slice none 0 0] 37))
  have b0 : Below w.heap.size w ((w.alloc (.cells #[.int .i64 0, .int .i64 0, .int .i64 0, .int .i64 0, .int .i64 0, .int .i64 0, .int .i64 0, .int .i64 0, .int .i64 0, .int .i64 0, .slice none 0 0, .slice none 0 0, .slice none 0 0, .int .i64 0, .int .i64 0, .int .i64 0, .int .i64 0, .int .i64 0, .int .i64 0, .int .i64 0, .int .i64 0, .int .i64 0, .int .i64 0, .int .i64 0, .slice none 0 0] 37)).setRow w.heap.size hm8.cells) := ((Below.refl _ w).alloc (Nat.le_refl _) (.cells #[.int .i64 0, .int .i64 0, .int .i64 0, .int .i64 0, .int .i64 0, .int .i64 0, .int .i64 0, .int .i64 0, .int .i64 0, .int .i64 0, .slice none 0 0, .slice none 0 0, .slice none 0 0, .int .i64 0, .int .i64 0, .int .i64 0, .int .i64 0, .int .i64 0, .int .i64 0, .int .i64 0, .int .i64 0, .int .i64 0, .int .i64 0, .int .i64 0, .slice none 0 0] 37)).trans ((Kept.of_setRow _ w.heap.size hm8.cells).below (by simp) (fun k hk => by omega))
  go_wp2_with (first
    | (refine wpList_store_row rfl 37 _ _ rfl w.heap.size hm8.cells rfl rfl _ _ (heap_alloc_new w (.cells #[.int .i64 0, .int .i64 0, .int .i64 0, .int .i64 0, .int .i64 0, .int .i64 0, .int .i64 0, .int .i64 0, .int .i64 0, .int .i64 0, .slice none 0 0, .slice none 0 0, .slice none 0 0, .int .i64 0, .int .i64 0, .int .i64 0, .int .i64 0, .int .i64 0, .int .i64 0, .int .i64 0, .int .i64 0, .int .i64 0, .int .i64 0, .int .i64 0, .slice none 0 0] 37)) (info_msg _) rfl (mcells_one _) ?_; generalize (w.alloc (.cells #[.int .i64 0, .int .i64 0, .int .i64 0, .int .i64 0, .int .i64 0, .int .i64 0, .int .i64 0, .int .i64 0, .int .i64 0, .int .i64 0, .slice none 0 0, .slice none 0 0, .slice none 0 0, .int .i64 0, .int .i64 0, .int .i64 0, .int .i64 0, .int .i64 0, .int .i64 0, .int .i64 0, .int .i64 0, .int .i64 0, .int .i64 0, .int .i64 0, .slice none 0 0] 37)).setRow w.heap.size hm8.cells = w0 at *)
    | (refine wpList_load_row rfl 37 _ rfl w.heap.size rfl _ _ _ _ hr0 Tryd.underlying37 rfl (info_msg _) ?_))
  have hz0 := lt_of_block hr0
  refine (mencode_any hm8 w0.heap.size w0 (HT.out _ b0) (isM_hm8 _ _) (Nat.le_refl _) (by omega) (by show -9223372036854775808 ≤ (5 : Int); omega)).mono ?_
  rintro e w1 ⟨v1, rfl, ho, _, b1'⟩
  have ho1 := ho.out hm8_ok
  rw [hm8_enc] at ho1
  rw [hm8_ok]
  obtain ⟨A1, n1, c1, rfl, hn1, hnc1, hx1, _⟩ := ho1.form
  have HR1 := hide ((b1'.block w.heap.size hz0).trans hr0)
  have b1 := b0.trans (b1'.mono b0.size)
  have hz1 := b1'.size
  have hn9 : n1 = 9 := by rw [← hn1.out]; rfl
  subst hn9
  clear ho ho1 hr0 b0 b1'
  go_wp2_with fail
  have hd2 := Has.new w1 5 hb8 (0, 0) w1.heap.size rfl
  have b2' := (Below.refl _ w1).alloc (Nat.le_refl _) (.cells (bcells hb8) 5)
  have hs2 : (w1.alloc (.cells (bcells hb8) 5)).heap.size = w1.heap.size + 1 := by simp
  have e2 : bcells hb8 = #[.int .u8 1, .int .u8 8, .int .u8 1, .int .u8 2, .int .u8 1, .int .u8 3, .int .u8 0, .int .u8 1, .int .u8 5] := rfl
  rw [e2] at hd2 b2' hs2
  clear e2
  generalize w1.alloc (.cells #[.int .u8 1, .int .u8 8, .int .u8 1, .int .u8 2, .int .u8 1, .int .u8 3, .int .u8 0, .int .u8 1, .int .u8 5] 5) = w2 at *
  have HR2 := hide ((b2'.block w.heap.size (by omega)).trans HR1.out)
  have hx2 : Has w2 w1.heap.size A1 hb8 := hx1.below b2'
  have b2 := b1.trans (b2'.mono b1.size)
  have hz2 : w1.heap.size < w2.heap.size := by omega
  have hde := mdec_enc (isM_hm8 w 0) hm8_ok
  rw [hm8_enc] at hde
  refine (mdecode_any (some ⟨w1.heap.size, 0, none⟩) 9 9 w2.heap.size hb8 w2 (HT.out _ b2) (hd2.more (by omega)) (Nat.le_refl _) (by omega) rfl (by omega)).mono ?_
  rintro e w3 ⟨mm, rfl, hlg, im3, re3, b3'⟩
  rw [hde.1] at hlg ⊢
  rw [if_pos rfl, hde.2] at hlg
  have HR3 := hide ((b3'.block w.heap.size (by omega)).trans HR2.out)
  have hx3 : Has w3 w1.heap.size A1 hb8 := hx2.below (b3'.mono (by omega))
  have b3 := b2.trans (b3'.mono b2.size)
  have hz3 := b3'.size
  have HLG := hide hlg
  clear hs2 hde hlg hd2 b2' b2 hx1 hx2 b3' b1 HR1 HR2
  have hr4 := set_row_at (B := mm.cells) (heap_alloc_new w3 (.cells #[.int .i64 0, .int .i64 0, .int .i64 0, .int .i64 0, .int .i64 0, .int .i64 0, .int .i64 0, .int .i64 0, .int .i64 0, .int .i64 0, .slice none 0 0, .slice none 0 0, .slice none 0 0, .int .i64 0, .int .i64 0, .int .i64 0, .int .i64 0, .int .i64 0, .int .i64 0, .int .i64 0, .int .i64 0, .int .i64 0, .int .i64 0, .int .i64 0, .slice none 0 0] 37))
  have b4' : Below w3.heap.size w3 ((w3.alloc (.cells #[.int .i64 0, .int .i64 0, .int .i64 0, .int .i64 0, .int .i64 0, .int .i64 0, .int .i64 0, .int .i64 0, .int .i64 0, .int .i64 0, .slice none 0 0, .slice none 0 0, .slice none 0 0, .int .i64 0, .int .i64 0, .int .i64 0, .int .i64 0, .int .i64 0, .int .i64 0, .int .i64 0, .int .i64 0, .int .i64 0, .int .i64 0, .int .i64 0, .slice none 0 0] 37)).setRow w3.heap.size mm.cells) := ((Below.refl _ w3).alloc (Nat.le_refl _) (.cells #[.int .i64 0, .int .i64 0, .int .i64 0, .int .i64 0, .int .i64 0, .int .i64 0, .int .i64 0, .int .i64 0, .int .i64 0, .int .i64 0, .slice none 0 0, .slice none 0 0, .slice none 0 0, .int .i64 0, .int .i64 0, .int .i64 0, .int .i64 0, .int .i64 0, .int .i64 0, .int .i64 0, .int .i64 0, .int .i64 0, .int .i64 0, .int .i64 0, .slice none 0 0] 37)).trans ((Kept.of_setRow _ w3.heap.size mm.cells).below (by simp) (fun k hk => by omega))
  go_wp2_with (refine wpList_store_row rfl 37 _ _ rfl w3.heap.size mm.cells rfl rfl _ _ (heap_alloc_new w3 (.cells #[.int .i64 0, .int .i64 0, .int .i64 0, .int .i64 0, .int .i64 0, .int .i64 0, .int .i64 0, .int .i64 0, .int .i64 0, .int .i64 0, .slice none 0 0, .slice none 0 0, .slice none 0 0, .int .i64 0, .int .i64 0, .int .i64 0, .int .i64 0, .int .i64 0, .int .i64 0, .int .i64 0, .int .i64 0, .int .i64 0, .int .i64 0, .int .i64 0, .slice none 0 0] 37)) (info_msg _) rfl (mcells_one _) ?_; generalize (w3.alloc (.cells #[.int .i64 0, .int .i64 0, .int .i64 0, .int .i64 0, .int .i64 0, .int .i64 0, .int .i64 0, .int .i64 0, .int .i64 0, .int .i64 0, .slice none 0 0, .slice none 0 0, .slice none 0 0, .int .i64 0, .int .i64 0, .int .i64 0, .int .i64 0, .int .i64 0, .int .i64 0, .int .i64 0, .int .i64 0, .int .i64 0, .int .i64 0, .int .i64 0, .slice none 0 0] 37)).setRow w3.heap.size mm.cells = w4 at *)
  have hz4 := lt_of_block hr4
  have hd5 := Has.new w4 5 hb8 (0, 0) w4.heap.size rfl
  have b5' := (Below.refl _ w4).alloc (Nat.le_refl _) (.cells (bcells hb8) 5)
  have e2 : bcells hb8 = #[.int .u8 1, .int .u8 8, .int .u8 1, .int .u8 2, .int .u8 1, .int .u8 3, .int .u8 0, .int .u8 1, .int .u8 5] := rfl
  rw [e2] at hd5 b5'
  clear e2
  generalize w4.alloc (.cells #[.int .u8 1, .int .u8 8, .int .u8 1, .int .u8 2, .int .u8 1, .int .u8 3, .int .u8 0, .int .u8 1, .int .u8 5] 5) = w5 at *
  have HR5 := hide ((b5'.block w.heap.size (by omega)).trans ((b4'.block w.heap.size (by omega)).trans HR3.out))
  have HM5 := hide ((b5'.block w3.heap.size (by omega)).trans hr4)
  have hx5 : Has w5 w1.heap.size A1 hb8 := (hx3.below (b4'.mono (by omega))).below (b5'.mono (by omega))
  have b5 := (b3.trans (b4'.mono b3.size)).trans (b5'.mono (by omega))
  have hz5 := b5'.size
  have im5 : IsM w5 w3.heap.size mm := (im3.below b4').below (b5'.mono (by omega))
  clear hr4 b4' b5' HR3 hx3 b3 im3
  refine (same_any A1 (some ⟨w4.heap.size, 0, none⟩) 9 9 c1 9 w1.heap.size (w4.heap.size + 1) hb8 hb8 w5 hx5 hd5 rfl rfl (by omega)).mono ?_
  rintro e w6 ⟨rfl, nq, rfl⟩
  rw [decide_eq_true rfl]
  have HR6 : Hid ((w5.drewN nq).heap[w.heap.size]? = some (.cells hm8.cells 37 (0, 0))) := hide HR5.out
  have HM6 : Hid ((w5.drewN nq).heap[w3.heap.size]? = some (.cells mm.cells 37 (0, 0))) := hide HM5.out
  have b6 := below_drewN b5 nq
  have im6 : IsM (w5.drewN nq) w3.heap.size mm := im5.below (below_drewN (Below.refl _ _) nq)
  have hz6 : (w5.drewN nq).heap.size = w5.heap.size := rfl
  have hz6' : w3.heap.size ≤ (w5.drewN nq).heap.size := by omega
  generalize w5.drewN nq = w6 at *
  go_wp2_with (first
    | (refine wpList_load_want (by rfl) 37 _ rfl w3.heap.size rfl _ _ _ _ HM6.out Tryd.underlying37 rfl (info_msg _) ?_)
    | (refine wpList_load_want (by rfl) 37 _ rfl w.heap.size rfl _ _ _ _ HR6.out Tryd.underlying37 rfl (info_msg _) ?_))
  refine (rmsame_any mm hm8 w3.heap.size w6 im6 (isM_hm8 _ _) hz6').mono ?_
  rintro e w7 ⟨rfl, b7⟩
  rw [(sameM_iff mm hm8).2 HLG.out]
  go_wp2
  go_ret
  exact ⟨rfl, b6.trans (b7.mono b6.size)⟩
end Go.Proofs.YtapbcpilklhoiabDoor

namespace Go.Proofs.YtapbcpilklhoiabDoor
open Go.RowKit

/-- The cells of votes, one behind the other. -/
theorem HasVt.cells {w : World} {B : Nat} {b o : Nat} {vs : List Votev} (h : HasVt w B (some ⟨b, o, none⟩) vs) (j : Nat) (u : Value) (hu : (flatVt vs)[j]? = some u) : w.cell? ⟨b, o + j, none⟩ = some u := by
  have hj : j < vs.length * 6 := by
    rw [← flatVt_length]
    rcases Nat.lt_or_ge j (flatVt vs).length with h1 | h1
    · exact h1
    · rw [List.getElem?_eq_none h1] at hu; cases hu
  have hi : j / 6 < vs.length := by omega
  obtain ⟨⟨b', o', e, _, h0, h1, h2, h3, h4, h5⟩, _⟩ := h (j / 6) hi
  cases e
  have e6 := flatVt_get vs (j / 6) (j % 6) hi (by omega)
  rw [show j / 6 * 6 + j % 6 = j from by omega, hu] at e6
  have ej : o + j = o + j / 6 * 6 + j % 6 := by omega
  rw [ej]
  have hr : j % 6 < 6 := by omega
  generalize j % 6 = r at *
  match r, hr with
  | 0, _ => rw [Nat.add_zero, h0]; exact e6.symm
  | 1, _ => rw [h1]; exact e6.symm
  | 2, _ => rw [h2]; exact e6.symm
  | 3, _ => rw [h3]; exact e6.symm
  | 4, _ => rw [h4]; exact e6.symm
  | 5, _ => rw [h5]; exact e6.symm
theorem nilVt {w : World} {B : Nat} {vs : List Votev} (h : HasVt w B none vs) : vs = [] := by
  rcases Nat.eq_zero_or_pos vs.length with h0 | h0
  · exact List.eq_nil_of_length_eq_zero h0
  · obtain ⟨⟨_, _, e, _⟩, _⟩ := h 0 h0
    cases e
theorem run_copy_votes (w : World) (ty : Nat) (ad : Addr) (m c B : Nat) (vs : List Votev) (hr : HasVt w B (some ad) vs) (hm : vs.length = m) (hlen : m ≤ 1759218604440) (hB : B ≤ w.heap.size) :
    ∃ v' w', (Builtin.append_ #[28, 28] ty #[.slice (some ⟨w.heap.size, 0, none⟩) 0 0, .slice (some ad) m c]).run Tryd.prog (w.alloc (.cells #[] 54)) = .ok v' w' ∧ OwnVt w' w.heap.size v' vs ∧ Below w.heap.size w w' := by
  obtain ⟨i0, hi0, hz0, hz1, hz2⟩ := info_parts vote_info
  subst hm
  have b1 := (Below.refl _ w).alloc (Nat.le_refl _) (.cells #[] 54)
  have hr1 : HasVt (w.alloc (.cells #[] 54)) B (some ad) vs := hr.below (b1.mono hB)
  have hcells : ∀ j u, (flatVt vs)[j]? = some u → (w.alloc (.cells #[] 54)).cell? (ad.add j) = some u := by
    intro j u hu
    rcases Nat.eq_zero_or_pos vs.length with h0 | h0
    · have : vs = [] := List.eq_nil_of_length_eq_zero h0
      subst this
      simp [flatVt] at hu
    · obtain ⟨⟨b, o, e, _⟩, _⟩ := hr1 0 h0
      have e' := Option.some.inj e
      subst e'
      have ea : (⟨b, o, none⟩ : Addr).add j = ⟨b, o + j, none⟩ := by
        unfold Addr.add
        split <;> simp_all
      rw [ea]
      exact hr1.cells j u hu
  obtain ⟨v', w', hrun, h2, h3, _, h5⟩ := run_append_own_at (P := Tryd.prog) (w.alloc (.cells #[] 54)) w.heap.size 28 ty 54 i0 _ 6 80 Tryd.underlying28 hi0 hz0 hz1 hz2 rfl (by omega) (.slice (some ⟨w.heap.size, 0, none⟩) 0 0) 0 (flatVt []) (OwnVt.empty w w.heap.size w.heap.size rfl (Nat.le_refl _)) ad vs.length c (flatVt vs) (flatVt_length vs) hcells (flatVt_one vs)
    (by unfold maxLen; omega) (by omega) (by simp)
  exact ⟨v', w', hrun, by unfold OwnVt; simpa [flatVt] using h2, b1.grown h3 (by simp) (by intro k hk; cases hk; exact Nat.le_refl _)⟩
theorem clonevt_any (A : Option Addr) (n c B : Nat) (vs : List Votev) (w : World) (hx : HasVt w B A vs) (hB : B ≤ w.heap.size) (hn : vs.length = n) (hl : n ≤ 1759218604440) :
    Calls Tryd.prog 62 #[.slice A n c] w fun e w' => ∃ v, e = .returned v ∧ OwnVt w' w.heap.size v vs ∧ Below w.heap.size w w' := by
  have he := fun (W : World) (a : Option Addr) (n c : Nat) => Lib.run_eql_slice_nil (P := Tryd.prog) W 28 54 a n c 0 0 Tryd.underlying28
  rcases A with _ | ad
  · have hx0 := nilVt hx
    subst hx0
    go_enter Tryd.func62, Tryd.ntmps62
    go_wp2
    go_ret
    exact ⟨_, rfl, OwnVt.nil _ _, Below.refl _ _⟩
  · obtain ⟨v1, wa, hr1, hown1, hba⟩ := run_copy_votes w 28 ad n c B vs hx hn hl hB
    have HR := hide hr1
    clear hr1
    go_enter Tryd.func62, Tryd.ntmps62
    go_wp2_with (at_builtin; refine list_append_want _ (by rfl) (.tmp 5) (.tmp 6) 28 28 rfl _ _ rfl rfl _ _ HR.out ?_)
    go_ret
    exact ⟨v1, rfl, hown1, hba⟩
end Go.Proofs.YtapbcpilklhoiabDoor
