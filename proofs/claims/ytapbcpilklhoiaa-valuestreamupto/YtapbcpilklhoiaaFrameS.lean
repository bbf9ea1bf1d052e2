/-
  From a reading of an argument to the words of the walks, where what is read is of bulk at most 2^20: slices of values and of commands. No other condition.
-/
import Derived.Test.YtapbcpilklhoiaaFrameV
import Derived.Test.YtapbcpilklhoiaaValStream0
import Derived.JoinedCond
set_option linter.unusedSimpArgs false
set_option linter.unusedVariables false
namespace Go.Proofs.Ytapbcpilklhoiaa
open Go.ChangeShapes Go.WideShapes Go.ChangeAt Go.RowKit

theorem bulk_pos {H : Type} (d : DataW H) : 1 ≤ Rows.uptoBulk d := by
  cases d
  case lit l => cases l <;> simp [Rows.uptoBulk]
  all_goals simp [Rows.uptoBulk]
theorem bulk_length {H : Type} (l : List (DataW H)) : l.length ≤ Rows.uptoBulkAll l := by
  induction l with
  | nil => simp [Rows.uptoBulkAll]
  | cons d r ih =>
    have := bulk_pos d
    simp [Rows.uptoBulkAll]
    omega
section
variable {H : Type} {enc : TypeId × Value → H} {W : World}
theorem cmds_bulk {fuel : Nat} {v : Value} {x : DataW H × List MemPlace} (hf : DataW.trod enc Try.prog W 0 (fun _ => true) true fuel 46 [v] = some x) :
    ∃ a len cap ts, v = .slice a len cap ∧ HasC W W.heap.size a ts ∧ ts.length = len ∧ len ≤ Rows.uptoBulk x.1 ∧ ∀ c ∈ ts, IsCmd c := by
  rcases Go.Deep.open_slice Try.underlying46 hf with ⟨hcs, _⟩ | ⟨x, len, cap, m, n, D, Pl, hcs, _, hl, _, hm, hx, hcell⟩
  · injection hcs with hcs
    exact ⟨none, 0, 0, [], hcs, HasC.nil _ _ _, rfl, Nat.zero_le _, by simp⟩
  · injection hcs with hcs
    subst hcs
    simp only [if_true] at hm
    subst hx
    have hsz := bulk_length ((List.range len).map D)
    rw [List.length_map, List.length_range] at hsz
    rw [cells_cmd8] at hcell
    obtain ⟨F, hF⟩ := Go.Deep.choose_lt (α := Cmdv) (n := len) (p := fun i q => (∀ j v, ([.int .i64 q.s, .int .i64 q.q, .int .i64 q.a, .int .i64 q.k, .int .i64 q.r, .int .i64 q.t, .int .i64 q.re, .int .i64 q.im] : List Value)[j]? = some v → W.cell? ((x.add (i * 8)).add j) = some v) ∧ IsCmd q) (fun i hi => by
      obtain ⟨cs', hc, ht⟩ := hcell i (by omega)
      obtain ⟨_, hlen, hat⟩ := World.cells?_some hc
      obtain ⟨q, rfl, hq⟩ := cmd_value hlen ht
      refine ⟨q, fun j v hj => ?_, hq⟩
      have hj' : j < 8 := by
        rcases Nat.lt_or_ge j 8 with h | h
        · exact h
        · rw [List.getElem?_eq_none (by simpa using h)] at hj; cases hj
      rw [hat j hj', hj])
    refine ⟨some x, len, cap, (List.range len).map F, rfl, fun k hk => ?_, by simp, by simp only [Rows.uptoBulk]; omega, ?_⟩
    · have hk' : k < len := by simpa using hk
      have e : ((List.range len).map F)[k] = F k := by simp
      obtain ⟨h1, _⟩ := hF k hk'
      rw [e]
      generalize F k = q at *
      have g0 := h1 0 _ rfl
      have g1 := h1 1 _ rfl
      have g2 := h1 2 _ rfl
      have g3 := h1 3 _ rfl
      have g4 := h1 4 _ rfl
      have g5 := h1 5 _ rfl
      have g6 := h1 6 _ rfl
      have g7 := h1 7 _ rfl
      obtain ⟨b, o, s⟩ := x
      have hs : s = none := by
        obtain ⟨h6, _⟩ := hF 0 (by omega)
        have := World.cell?_spot (h6 0 _ rfl)
        simpa [Addr.add] using this
      subst hs
      have ea : ∀ j, ((⟨b, o, none⟩ : Addr).add (k * 8)).add j = ⟨b, o + k * 8 + j, none⟩ := by
        intro j
        rw [Go.Deep.add_add]
        unfold Addr.add
        split <;> simp_all <;> omega
      rw [ea] at g0 g1 g2 g3 g4 g5 g6 g7
      exact ⟨b, o, rfl, cell_lt g0, g0, g1, g2, g3, g4, g5, g6, g7⟩
    · intro y hy
      obtain ⟨i, hi, rfl⟩ := List.mem_map.1 hy
      exact (hF i (by simpa using hi)).2

theorem ints_bulk {fuel : Nat} {v : Value} {x : DataW H × List MemPlace} (hf : DataW.trod enc Try.prog W 0 (fun _ => true) true fuel 28 [v] = some x) :
    ∃ a len cap xs, v = .slice a len cap ∧ HasI W W.heap.size a xs ∧ xs.length = len ∧ len ≤ Rows.uptoBulk x.1 := by
  rcases Go.Deep.open_slice Try.underlying28 hf with ⟨hcs, _⟩ | ⟨y, len, cap, m, n, D, Pl, hcs, _, hl, _, hm, hx, hcell⟩
  · injection hcs with hcs
    exact ⟨none, 0, 0, [], hcs, HasI.nil _ _ _, rfl, Nat.zero_le _⟩
  · injection hcs with hcs
    subst hcs
    simp only [if_true] at hm
    subst hx
    have hsz := bulk_length ((List.range len).map D)
    rw [List.length_map, List.length_range] at hsz
    rw [cells_int1] at hcell
    obtain ⟨F, hF⟩ := Go.Deep.choose_lt (α := Int) (n := len) (p := fun i q => W.cell? (y.add (i * 1)) = some (.int .i64 q)) (fun i hi => by
      obtain ⟨cs', hc, ht⟩ := hcell i (by omega)
      obtain ⟨_, hlen, hat⟩ := World.cells?_some hc
      obtain ⟨q, rfl, _, hwf⟩ := DataW.trod_int Try.underlying3 ht
      refine ⟨q, ?_⟩
      have := hat 0 (by omega)
      simp only [List.getElem?_cons_zero] at this
      rw [← this]
      congr 1)
    refine ⟨some y, len, cap, (List.range len).map F, rfl, fun k hk => ?_, by simp, by simp only [Rows.uptoBulk]; omega⟩
    have hk' : k < len := by simpa using hk
    have e : ((List.range len).map F)[k] = F k := by simp
    have h1 := hF k hk'
    rw [e]
    generalize F k = q at *
    obtain ⟨b, o, s⟩ := y
    have hs : s = none := by
      have := World.cell?_spot (hF 0 (by omega))
      simpa [Addr.add] using this
    subst hs
    have ea : (⟨b, o, none⟩ : Addr).add (k * 1) = ⟨b, o + k, none⟩ := by
      unfold Addr.add
      split <;> simp_all
    rw [ea] at h1
    exact ⟨b, o, rfl, cell_lt h1, h1⟩

instance : Inhabited Valv := ⟨⟨0, none, 0, 0, none, 0, 0, [], []⟩⟩
theorem bulk_mem (D : Nat → DataW H) : ∀ (l : List Nat) (i : Nat), i ∈ l → Rows.uptoBulk (D i) ≤ Rows.uptoBulkAll (l.map D)
  | [], _, h => by simp at h
  | j :: l, i, h => by
    simp only [List.map_cons, Rows.uptoBulkAll]
    rcases List.mem_cons.1 h with rfl | h
    · omega
    · have := bulk_mem D l i h
      omega

set_option maxRecDepth 20000 in
theorem val_bulk {fuel : Nat} {cs : List Value} {x : DataW H × List MemPlace} (hl : cs.length = 3) (h : DataW.trod enc Try.prog W 0 (fun _ => true) true fuel 48 cs = some x) (hb : Rows.uptoBulk x.1 ≤ 1048576) :
    ∃ v : Valv, cs = [.int .i64 v.k, .slice v.A v.n v.c, .slice v.D v.m v.d] ∧ IsV W W.heap.size v.A v.n v.D v.m v.cs v.ns := by
  obtain ⟨ys, n', _, hx, _, hyl, hf⟩ := DataW.trod_struct Try.underlying48 h
  match cs, hl with
  | [v0, v1, v2], _ =>
    match ys, hyl with
    | [y0, y1, y2], _ =>
      have h0 : DataW.trod enc Try.prog W 0 (fun _ => true) true n' 3 [v0] = some y0 := by simpa [cells_int1] using hf 0 _ rfl
      have h1 : DataW.trod enc Try.prog W 0 (fun _ => true) true n' 46 [v1] = some y1 := by simpa [cells_cmds1] using hf 1 _ rfl
      have h2 : DataW.trod enc Try.prog W 0 (fun _ => true) true n' 28 [v2] = some y2 := by simpa [cells_ints1] using hf 2 _ rfl
      subst hx
      simp only [List.map_cons, List.map_nil, Rows.uptoBulk, Rows.uptoBulkAll] at hb
      obtain ⟨k0, e0, rfl, w0⟩ := DataW.trod_int Try.underlying3 h0
      obtain ⟨A, n, c, ts, rfl, g1, g2, g3, g4⟩ := cmds_bulk h1
      obtain ⟨D, m, d, xs, rfl, g5, g6, g7⟩ := ints_bulk h2
      injection e0 with e0
      subst e0
      exact ⟨⟨k0, A, n, c, D, m, d, ts, xs⟩, rfl, ⟨g1, g5, g2, g6, by show n ≤ _; omega, by show m ≤ _; omega, g4⟩⟩

theorem open_vals {a : Option Addr} {len cap : Nat} {d : DataW H} {pl : List MemPlace} (h : DataW.Trod enc Try.prog W 0 (fun _ => true) true 72 (.slice a len cap) d pl) (hk : Rows.uptoBulk d ≤ 1048576) :
    ∃ vs, HasV W W.heap.size a vs ∧ vs.length = len ∧ len ≤ 1048576 := by
  obtain ⟨fuel, hf⟩ := h
  rcases Go.Deep.open_slice Try.underlying72 hf with ⟨hcs, _⟩ | ⟨x, l, c, m, n, D, Pl, hcs, _, hl, _, hm, hx, hcell⟩
  · simp [Value.cells] at hcs
    obtain ⟨rfl, rfl, rfl⟩ := hcs
    exact ⟨[], fun k hk => absurd hk (by simp), rfl, by omega⟩
  · simp [Value.cells] at hcs
    obtain ⟨rfl, rfl, rfl⟩ := hcs
    simp only [if_true] at hm
    obtain rfl := (Prod.mk.inj hx).1
    have hsz := bulk_length ((List.range len).map D)
    rw [List.length_map, List.length_range] at hsz
    simp only [Rows.uptoBulk] at hk
    rw [cells_val3] at hcell
    obtain ⟨F, hF⟩ := Go.Deep.choose_lt (α := Valv) (n := len) (p := fun i v => (∀ j u, ([.int .i64 v.k, .slice v.A v.n v.c, .slice v.D v.m v.d] : List Value)[j]? = some u → W.cell? ((x.add (i * 3)).add j) = some u) ∧ IsV W W.heap.size v.A v.n v.D v.m v.cs v.ns) (fun i hi => by
      obtain ⟨cs', hc, ht⟩ := hcell i (by omega)
      obtain ⟨_, hlen, hat⟩ := World.cells?_some hc
      have hbi := bulk_mem D (List.range len) i (by simpa using hi)
      obtain ⟨v, rfl, hv⟩ := val_bulk hlen ht (by show Rows.uptoBulk (D i) ≤ _; omega)
      refine ⟨v, fun j u hj => ?_, hv⟩
      have hj' : j < 3 := by
        rcases Nat.lt_or_ge j 3 with h | h
        · exact h
        · rw [List.getElem?_eq_none (by simpa using h)] at hj; cases hj
      rw [hat j hj', hj])
    refine ⟨(List.range len).map F, fun k hk' => ?_, by simp, by omega⟩
    have hk2 : k < len := by simpa using hk'
    have e : ((List.range len).map F)[k] = F k := by simp
    obtain ⟨h1, h2⟩ := hF k hk2
    rw [e]
    generalize F k = v at *
    have g0 := h1 0 _ rfl
    have g1 := h1 1 _ rfl
    have g2 := h1 2 _ rfl
    obtain ⟨b, o, s⟩ := x
    have hs : s = none := by
      obtain ⟨h6, _⟩ := hF 0 (by omega)
      have := World.cell?_spot (h6 0 _ rfl)
      simpa [Addr.add] using this
    subst hs
    have ea : ∀ j, ((⟨b, o, none⟩ : Addr).add (k * 3)).add j = ⟨b, o + k * 3 + j, none⟩ := by
      intro j
      rw [Go.Deep.add_add]
      unfold Addr.add
      split <;> simp_all <;> omega
    rw [ea] at g0 g1 g2
    exact ⟨⟨b, o, rfl, cell_lt g0, g0, g1, g2⟩, h2⟩
theorem open_cmds {a : Option Addr} {len cap : Nat} {d : DataW H} {pl : List MemPlace} (h : DataW.Trod enc Try.prog W 0 (fun _ => true) true 46 (.slice a len cap) d pl) (hk : Rows.uptoBulk d ≤ 1048576) :
    ∃ ts, HasC W W.heap.size a ts ∧ ts.length = len ∧ len ≤ 1048576 ∧ ∀ c ∈ ts, IsCmd c := by
  obtain ⟨fuel, hf⟩ := h
  obtain ⟨a', len', cap', ts, e, h1, h2, h3, h4⟩ := cmds_bulk hf
  injection e with e1 e2 e3
  subst e1 e2 e3
  exact ⟨ts, h1, h2, by have : len ≤ Rows.uptoBulk d := h3; omega, h4⟩
end
end Go.Proofs.Ytapbcpilklhoiaa
