/-
  From a reading of an argument to the words of the walks: commands, values. No condition but the reach of what is read.
-/
import Derived.Test.YtnngmapphacpkaaFrameB
import Derived.Test.YtnngmapphacpkaaValPut
set_option linter.unusedSimpArgs false
set_option linter.unusedVariables false
namespace Go.Proofs.Ytnngmapphacpkaa
open Go.ChangeShapes Go.WideShapes Go.ChangeAt Go.RowKit

instance : Inhabited Cmdv := ⟨⟨0, 0, 0, 0, 0, 0, 0, 0⟩⟩
theorem cells_op5 : Try.prog.cellsOf 56 = 5 := by kernel_rfl
theorem cells_cmd8 : Try.prog.cellsOf 58 = 8 := by kernel_rfl
theorem bytesOf_cmd : Try.prog.bytesOf 58 = 64 := by kernel_rfl
theorem cells_ints1 : Try.prog.cellsOf 22 = 1 := by kernel_rfl
theorem cells_cmds1 : Try.prog.cellsOf 33 = 1 := by kernel_rfl
theorem cells_val3 : Try.prog.cellsOf 35 = 3 := by kernel_rfl

theorem isInt_of_wf {n : Int} (h : (Lit.int .i64 n).wf = true) : IsInt n := ⟨i64_lo h, i64_hi h⟩

/-- Each block of what is read is in reach. -/
def Light {H : Type} (t : TypeId) (d : DataW H) : Prop := ∀ n ∈ d.weights Try.prog t, n ≤ reachBytes
theorem Light.of_each {H : Type} {ty : List TypeId} {ds : List (DataW H)} (hs : (DataW.weightsEach Try.prog ty ds).all (· ≤ reachBytes) = true) {j : Nat} {t : TypeId} {d : DataW H} (ht : ty[j]? = some t) (hd : ds[j]? = some d) : Light t d :=
  fun n hn => by simpa using List.all_eq_true.1 hs n (DataW.weights_mem_each ht hd n hn)
theorem Light.slice {H : Type} {t e : TypeId} {xs ys : List (DataW H)} (h : Light t (.slice xs ys)) (hu : Try.prog.underlying t = some (.slice e)) : (xs.length + ys.length) * Try.prog.bytesOf e ≤ reachBytes :=
  h _ (by simp [DataW.weights, hu])
theorem Light.elem {H : Type} {t e : TypeId} {xs ys : List (DataW H)} (h : Light t (.slice xs ys)) (hu : Try.prog.underlying t = some (.slice e)) {d : DataW H} (hd : d ∈ xs) : Light e d := by
  intro n hn
  refine h n ?_
  simp only [DataW.weights, hu]
  refine List.mem_cons_of_mem _ (List.mem_append_left _ ?_)
  clear h
  induction xs with
  | nil => simp at hd
  | cons x xs ih =>
    simp only [DataW.weightsAll, List.mem_append]
    rcases List.mem_cons.1 hd with rfl | hd
    · exact Or.inl hn
    · exact Or.inr (ih hd)
theorem Light.field {H : Type} {t : TypeId} {fs : Array Field} {xs : List (DataW H)} (h : Light t (.agg xs)) (hu : Try.prog.underlying t = some (.struct fs)) {j : Nat} {f : TypeId} {d : DataW H} (hf : (fs.toList.map (·.type))[j]? = some f) (hd : xs[j]? = some d) : Light f d := by
  intro n hn
  refine h n ?_
  simp only [DataW.weights, hu]
  exact DataW.weights_mem_each hf hd n hn

section
variable {H : Type} {enc : TypeId × Value → H} {W : World}

set_option maxRecDepth 20000 in
theorem op_ints {fuel : Nat} {cs : List Value} {x : DataW H × List MemPlace} (hl : cs.length = 5)
    (h : DataW.trod enc Try.prog W 0 (fun _ => true) true fuel 56 cs = some x) : ∃ a b c d e : Int, cs = [.int .i64 a, .int .i64 b, .int .i64 c, .int .i64 d, .int .i64 e] ∧ IsInt a ∧ IsInt b ∧ IsInt c ∧ IsInt d ∧ IsInt e := by
  obtain ⟨ys, n', _, hx, _, hyl, hf⟩ := DataW.trod_struct Try.underlying56 h
  match cs, hl with
  | [v0, v1, v2, v3, v4], _ =>
    match ys, hyl with
    | [y0, y1, y2, y3, y4], _ =>
      have h0 : DataW.trod enc Try.prog W 0 (fun _ => true) true n' 3 [v0] = some y0 := by simpa [cells_int1] using hf 0 _ rfl
      have h1 : DataW.trod enc Try.prog W 0 (fun _ => true) true n' 3 [v1] = some y1 := by simpa [cells_int1] using hf 1 _ rfl
      have h2 : DataW.trod enc Try.prog W 0 (fun _ => true) true n' 3 [v2] = some y2 := by simpa [cells_int1] using hf 2 _ rfl
      have h3 : DataW.trod enc Try.prog W 0 (fun _ => true) true n' 3 [v3] = some y3 := by simpa [cells_int1] using hf 3 _ rfl
      have h4 : DataW.trod enc Try.prog W 0 (fun _ => true) true n' 3 [v4] = some y4 := by simpa [cells_int1] using hf 4 _ rfl
      obtain ⟨k0, e0, rfl, w0⟩ := DataW.trod_int Try.underlying3 h0
      obtain ⟨k1, e1, rfl, w1⟩ := DataW.trod_int Try.underlying3 h1
      obtain ⟨k2, e2, rfl, w2⟩ := DataW.trod_int Try.underlying3 h2
      obtain ⟨k3, e3, rfl, w3⟩ := DataW.trod_int Try.underlying3 h3
      obtain ⟨k4, e4, rfl, w4⟩ := DataW.trod_int Try.underlying3 h4
      injection e0 with e0
      injection e1 with e1
      injection e2 with e2
      injection e3 with e3
      injection e4 with e4
      subst e0 e1 e2 e3 e4
      exact ⟨k0, k1, k2, k3, k4, rfl, isInt_of_wf w0, isInt_of_wf w1, isInt_of_wf w2, isInt_of_wf w3, isInt_of_wf w4⟩

theorem IsCmd.mk8 {s q a k r t re im : Int} (h0 : IsInt s) (h1 : IsInt q) (h2 : IsInt a) (h3 : IsInt k) (h4 : IsInt r) (h5 : IsInt t) (h6 : IsInt re) (h7 : IsInt im) : IsCmd ⟨s, q, a, k, r, t, re, im⟩ := by
  intro i hi
  simp only [Cmdv.ints, List.mem_cons, List.not_mem_nil, or_false] at hi
  rcases hi with rfl | rfl | rfl | rfl | rfl | rfl | rfl | rfl <;> assumption

set_option maxRecDepth 20000 in
theorem cmd_value {fuel : Nat} {cs : List Value} {x : DataW H × List MemPlace} (hl : cs.length = 8)
    (h : DataW.trod enc Try.prog W 0 (fun _ => true) true fuel 58 cs = some x) : ∃ q : Cmdv, cs = [.int .i64 q.s, .int .i64 q.q, .int .i64 q.a, .int .i64 q.k, .int .i64 q.r, .int .i64 q.t, .int .i64 q.re, .int .i64 q.im] ∧ IsCmd q := by
  obtain ⟨ys, n', _, hx, _, hyl, hf⟩ := DataW.trod_struct Try.underlying58 h
  match cs, hl with
  | [v0, v1, v2, v3, v4, v5, v6, v7], _ =>
    match ys, hyl with
    | [y0, y1, y2, y3], _ =>
      have h0 : DataW.trod enc Try.prog W 0 (fun _ => true) true n' 3 [v0] = some y0 := by simpa [cells_int1] using hf 0 _ rfl
      have h1 : DataW.trod enc Try.prog W 0 (fun _ => true) true n' 3 [v1] = some y1 := by simpa [cells_int1] using hf 1 _ rfl
      have h2 : DataW.trod enc Try.prog W 0 (fun _ => true) true n' 3 [v2] = some y2 := by simpa [cells_int1] using hf 2 _ rfl
      have h3 : DataW.trod enc Try.prog W 0 (fun _ => true) true n' 56 [v3, v4, v5, v6, v7] = some y3 := by simpa [cells_op5] using hf 3 _ rfl
      obtain ⟨k0, e0, rfl, w0⟩ := DataW.trod_int Try.underlying3 h0
      obtain ⟨k1, e1, rfl, w1⟩ := DataW.trod_int Try.underlying3 h1
      obtain ⟨k2, e2, rfl, w2⟩ := DataW.trod_int Try.underlying3 h2
      obtain ⟨a, b, c, d, e, e3, w3, w4, w5, w6, w7⟩ := op_ints rfl h3
      injection e0 with e0
      injection e1 with e1
      injection e2 with e2
      injection e3 with e3 e4
      injection e4 with e4 e5
      injection e5 with e5 e6
      injection e6 with e6 e7
      injection e7 with e7
      subst e0 e1 e2 e3 e4 e5 e6 e7
      exact ⟨⟨k0, k1, k2, a, b, c, d, e⟩, rfl, IsCmd.mk8 (isInt_of_wf w0) (isInt_of_wf w1) (isInt_of_wf w2) w3 w4 w5 w6 w7⟩

theorem cmds_value {fuel : Nat} {v : Value} {x : DataW H × List MemPlace} (hf : DataW.trod enc Try.prog W 0 (fun _ => true) true fuel 33 [v] = some x) (hw : Light 33 x.1) :
    ∃ a len cap ts, v = .slice a len cap ∧ HasC W W.heap.size a ts ∧ ts.length = len ∧ len ≤ 2199023255488 ∧ ∀ c ∈ ts, IsCmd c := by
  rcases Go.Deep.open_slice Try.underlying33 hf with ⟨hcs, _⟩ | ⟨x, len, cap, m, n, D, Pl, hcs, _, hl, _, hm, hx, hcell⟩
  · injection hcs with hcs
    exact ⟨none, 0, 0, [], hcs, HasC.nil _ _ _, rfl, by simp, by simp⟩
  · injection hcs with hcs
    subst hcs
    simp only [if_true] at hm
    subst hx
    have hsz := hw.slice Try.underlying33
    rw [bytesOf_cmd] at hsz
    simp [reachBytes] at hsz
    rw [cells_cmd8] at hcell
    obtain ⟨F, hF⟩ := Go.Deep.choose_lt (α := Cmdv) (n := len) (p := fun i q => (∀ j v, ([.int .i64 q.s, .int .i64 q.q, .int .i64 q.a, .int .i64 q.k, .int .i64 q.r, .int .i64 q.t, .int .i64 q.re, .int .i64 q.im] : List Value)[j]? = some v → W.cell? ((x.add (i * 8)).add j) = some v) ∧ IsCmd q) (fun i hi => by
      obtain ⟨cs', hc, ht⟩ := hcell i (by omega)
      obtain ⟨_, hlen, hat⟩ := World.cells?_some hc
      obtain ⟨q, rfl, hq⟩ := cmd_value hlen ht
      refine ⟨q, fun j v hj => ?_, hq⟩
      have hj' : j < 8 := by
        rcases Nat.lt_or_ge j 8 with h | h
        · exact h
        · rw [List.getElem?_eq_none (by simpa using h)] at hj; cases hj
      rw [hat j hj', hj])
    refine ⟨some x, len, cap, (List.range len).map F, rfl, fun k hk => ?_, by simp, by omega, ?_⟩
    · have hk' : k < len := by simpa using hk
      have e : ((List.range len).map F)[k] = F k := by simp
      obtain ⟨h1, _⟩ := hF k hk'
      rw [e]
      generalize F k = q at *
      have g0 := h1 0 _ rfl
      have g1 := h1 1 _ rfl
      have g2 := h1 2 _ rfl
      have g3 := h1 3 _ rfl
      have g4 := h1 4 _ rfl
      have g5 := h1 5 _ rfl
      have g6 := h1 6 _ rfl
      have g7 := h1 7 _ rfl
      obtain ⟨b, o, s⟩ := x
      have hs : s = none := by
        obtain ⟨h6, _⟩ := hF 0 (by omega)
        have := World.cell?_spot (h6 0 _ rfl)
        simpa [Addr.add] using this
      subst hs
      have ea : ∀ j, ((⟨b, o, none⟩ : Addr).add (k * 8)).add j = ⟨b, o + k * 8 + j, none⟩ := by
        intro j
        rw [Go.Deep.add_add]
        unfold Addr.add
        split <;> simp_all <;> omega
      rw [ea] at g0 g1 g2 g3 g4 g5 g6 g7
      exact ⟨b, o, rfl, cell_lt g0, g0, g1, g2, g3, g4, g5, g6, g7⟩
    · intro y hy
      obtain ⟨i, hi, rfl⟩ := List.mem_map.1 hy
      exact (hF i (by simpa using hi)).2

theorem ints_value {fuel : Nat} {v : Value} {x : DataW H × List MemPlace} (hf : DataW.trod enc Try.prog W 0 (fun _ => true) true fuel 22 [v] = some x) (hw : Light 22 x.1) :
    ∃ a len cap xs, v = .slice a len cap ∧ HasI W W.heap.size a xs ∧ xs.length = len ∧ len ≤ 17592186043904 ∧ ∀ c ∈ xs, IsInt c := by
  rcases Go.Deep.open_slice Try.underlying22 hf with ⟨hcs, _⟩ | ⟨y, len, cap, m, n, D, Pl, hcs, _, hl, _, hm, hx, hcell⟩
  · injection hcs with hcs
    exact ⟨none, 0, 0, [], hcs, HasI.nil _ _ _, rfl, by simp, by simp⟩
  · injection hcs with hcs
    subst hcs
    obtain ⟨d, pl⟩ := x
    obtain ⟨xs, h1, h2, h3, h4⟩ := open_intsv (ty := [22]) (ds := [d]) ⟨fuel, hf⟩ (List.all_eq_true.2 fun n hn => by
      simp only [DataW.weightsEach, List.append_nil] at hn
      simpa using hw n hn) (j := 0) rfl rfl
    exact ⟨_, _, _, xs, rfl, h1, h2, h3, fun c hc => ⟨(h4 c hc).lo, (h4 c hc).hi⟩⟩

set_option maxRecDepth 20000 in
theorem val_value {fuel : Nat} {cs : List Value} {x : DataW H × List MemPlace} (hl : cs.length = 3) (h : DataW.trod enc Try.prog W 0 (fun _ => true) true fuel 35 cs = some x) (hw : Light 35 x.1) :
    ∃ (k : Int) (A : Option Addr) (n c : Nat) (D : Option Addr) (m d : Nat) (ts : List Cmdv) (xs : List Int), cs = [.int .i64 k, .slice A n c, .slice D m d] ∧ IsInt k ∧ HasC W W.heap.size A ts ∧ ts.length = n ∧ n ≤ 2199023255488 ∧ (∀ c ∈ ts, IsCmd c) ∧ HasI W W.heap.size D xs ∧ xs.length = m ∧ m ≤ 17592186043904 ∧ ∀ c ∈ xs, IsInt c := by
  obtain ⟨ys, n', _, hx, _, hyl, hf⟩ := DataW.trod_struct Try.underlying35 h
  match cs, hl with
  | [v0, v1, v2], _ =>
    match ys, hyl with
    | [y0, y1, y2], _ =>
      have h0 : DataW.trod enc Try.prog W 0 (fun _ => true) true n' 3 [v0] = some y0 := by simpa [cells_int1] using hf 0 _ rfl
      have h1 : DataW.trod enc Try.prog W 0 (fun _ => true) true n' 33 [v1] = some y1 := by simpa [cells_cmds1] using hf 1 _ rfl
      have h2 : DataW.trod enc Try.prog W 0 (fun _ => true) true n' 22 [v2] = some y2 := by simpa [cells_ints1] using hf 2 _ rfl
      subst hx
      obtain ⟨k0, e0, rfl, w0⟩ := DataW.trod_int Try.underlying3 h0
      obtain ⟨A, n, c, ts, rfl, g1, g2, g3, g4⟩ := cmds_value h1 (hw.field Try.underlying35 (j := 1) rfl rfl)
      obtain ⟨D, m, d, xs, rfl, g5, g6, g7, g8⟩ := ints_value h2 (hw.field Try.underlying35 (j := 2) rfl rfl)
      injection e0 with e0
      subst e0
      exact ⟨k0, A, n, c, D, m, d, ts, xs, rfl, isInt_of_wf w0, g1, g2, g3, g4, g5, g6, g7, g8⟩

set_option maxRecDepth 20000 in
theorem open_val {base : Nat} {v : Value} {d : DataW H} {p : List MemPlace} (hv : Value.okWide Try.prog W .any base 35 v)
    (h : DataW.Trod enc Try.prog W 0 (fun _ => true) true 35 v d p) (hw : Light 35 d) :
    ∃ (k : Int) (A : Option Addr) (n c : Nat) (D : Option Addr) (m d : Nat) (ts : List Cmdv) (xs : List Int), v = .agg #[.int .i64 k, .slice A n c, .slice D m d] ∧ IsInt k ∧ HasC W W.heap.size A ts ∧ ts.length = n ∧ n ≤ 2199023255488 ∧ (∀ c ∈ ts, IsCmd c) ∧ HasI W W.heap.size D xs ∧ xs.length = m ∧ m ≤ 17592186043904 ∧ ∀ c ∈ xs, IsInt c := by
  obtain ⟨cs, rfl, hsz⟩ := okWide_struct Try.underlying35 hv
  obtain ⟨fuel, hf⟩ := h
  obtain ⟨k, A, n, c, D, m, d, ts, xs, e, r⟩ := val_value (by have := hsz.trans cells_val3; simpa [Value.cells] using this) hf hw
  exact ⟨k, A, n, c, D, m, d, ts, xs, by rw [show cs = cs.toList.toArray from by simp]; simp only [Value.cells] at e; rw [e], r⟩

set_option maxRecDepth 20000 in
theorem open_cmd {base : Nat} {v : Value} {d : DataW H} {p : List MemPlace} (hv : Value.okWide Try.prog W .any base 58 v)
    (h : DataW.Trod enc Try.prog W 0 (fun _ => true) true 58 v d p) : ∃ q : Cmdv, v = q.val ∧ IsCmd q := by
  obtain ⟨cs, rfl, hsz⟩ := okWide_struct Try.underlying58 hv
  obtain ⟨fuel, hf⟩ := h
  obtain ⟨q, e, r⟩ := cmd_value (by have := hsz.trans cells_cmd8; simpa [Value.cells] using this) hf
  exact ⟨q, by rw [show cs = cs.toList.toArray from by simp]; simp only [Value.cells] at e; rw [e]; rfl, r⟩
end
end Go.Proofs.Ytnngmapphacpkaa
