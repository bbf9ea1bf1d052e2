/-
  From a reading of an argument to the words of the walks: a slice of steps over packets. No condition but the reach of what is read.
-/
import Derived.Test.YtpbfibofjkinmaaFrame
import Derived.Test.YtpbfibofjkinmaaNetM
import Derived.Deep.Slices
set_option linter.unusedSimpArgs false
set_option linter.unusedVariables false
namespace Go.Proofs.Ytpbfibofjkinmaa
open Go.ChangeShapes Go.WideShapes Go.ChangeAt Go.RowKit

theorem cells_int1 : Try.prog.cellsOf 3 = 1 := by kernel_rfl
theorem cells_bytes1 : Try.prog.cellsOf 32 = 1 := by kernel_rfl
theorem cells_packet3 : Try.prog.cellsOf 34 = 3 := by kernel_rfl
theorem cells_nop5 : Try.prog.cellsOf 36 = 5 := by kernel_rfl
theorem bytesOf_nop : Try.prog.bytesOf 36 = 56 := by kernel_rfl
instance : Inhabited Nop := ⟨⟨0, 0, 0, 0, none, 0, 0, []⟩⟩

/-- Each block of what is read is in reach. -/
def Light {H : Type} (t : TypeId) (d : DataW H) : Prop := ∀ n ∈ d.weights Try.prog t, n ≤ reachBytes
theorem Light.of_each {H : Type} {ty : List TypeId} {ds : List (DataW H)} (hs : (DataW.weightsEach Try.prog ty ds).all (· ≤ reachBytes) = true) {j : Nat} {t : TypeId} {d : DataW H} (ht : ty[j]? = some t) (hd : ds[j]? = some d) : Light t d :=
  fun n hn => by simpa using List.all_eq_true.1 hs n (DataW.weights_mem_each ht hd n hn)
theorem Light.slice {H : Type} {t e : TypeId} {xs ys : List (DataW H)} (h : Light t (.slice xs ys)) (hu : Try.prog.underlying t = some (.slice e)) : (xs.length + ys.length) * Try.prog.bytesOf e ≤ reachBytes :=
  h _ (by simp [DataW.weights, hu])
theorem Light.elem {H : Type} {t e : TypeId} {xs ys : List (DataW H)} (h : Light t (.slice xs ys)) (hu : Try.prog.underlying t = some (.slice e)) {d : DataW H} (hd : d ∈ xs) : Light e d := by
  intro n hn
  refine h n ?_
  simp only [DataW.weights, hu]
  refine List.mem_cons_of_mem _ (List.mem_append_left _ ?_)
  clear h
  induction xs with
  | nil => simp at hd
  | cons x xs ih =>
    simp only [DataW.weightsAll, List.mem_append]
    rcases List.mem_cons.1 hd with rfl | hd
    · exact Or.inl hn
    · exact Or.inr (ih hd)
theorem Light.field {H : Type} {t : TypeId} {fs : Array Field} {xs : List (DataW H)} (h : Light t (.agg xs)) (hu : Try.prog.underlying t = some (.struct fs)) {j : Nat} {f : TypeId} {d : DataW H} (hf : (fs.toList.map (·.type))[j]? = some f) (hd : xs[j]? = some d) : Light f d := by
  intro n hn
  refine h n ?_
  simp only [DataW.weights, hu]
  exact DataW.weights_mem_each hf hd n hn

section
variable {H : Type} {enc : TypeId × Value → H} {W : World}

theorem bytes_value {fuel : Nat} {v : Value} {x : DataW H × List MemPlace} (hf : DataW.trod enc Try.prog W 0 (fun _ => true) true fuel 32 [v] = some x) (hw : Light 32 x.1) :
    ∃ a len cap xs, v = .slice a len cap ∧ Has W W.heap.size a xs ∧ xs.length = len ∧ len ≤ cap ∧ cap ≤ 140737488351232 := by
  rcases Go.Deep.open_slice Try.underlying32 hf with ⟨hcs, _⟩ | ⟨y, len, cap, m, n, D, Pl, hcs, _, hl, _, hm, hx, hcell⟩
  · injection hcs with hcs
    exact ⟨none, 0, 0, [], hcs, Has.nil _ _ _, rfl, Nat.le_refl _, by simp⟩
  · injection hcs with hcs
    subst hcs
    obtain ⟨d, pl⟩ := x
    obtain ⟨xs, h1⟩ := open_bytes (enc := enc) (d := d) (ps := pl) ⟨fuel, hf⟩
    refine ⟨_, _, _, xs, rfl, h1.has, h1.len_eq, h1.le, ?_⟩
    rcases h1.datum with ⟨_, h0⟩ | ⟨es, sp, rfl, he⟩
    · omega
    · have := hw.slice Try.underlying32
      rw [bytesOf_byte, he] at this
      simpa [reachBytes] using this

set_option maxRecDepth 20000 in
theorem nop_value {fuel : Nat} {cs : List Value} {x : DataW H × List MemPlace} (hl : cs.length = 5) (h : DataW.trod enc Try.prog W 0 (fun _ => true) true fuel 36 cs = some x) (hw : Light 36 x.1) :
    ∃ q : Nop, cs = q.cells ∧ Has W W.heap.size q.A q.xs ∧ q.xs.length = q.m ∧ q.m ≤ 140737488355328 := by
  obtain ⟨ys, n', _, hx, _, hyl, hf⟩ := DataW.trod_struct Try.underlying36 h
  match cs, hl with
  | [v0, v1, v2, v3, v4], _ =>
    match ys, hyl with
    | [y0, y1, y2], _ =>
      have h0 : DataW.trod enc Try.prog W 0 (fun _ => true) true n' 3 [v0] = some y0 := by simpa [cells_int1] using hf 0 _ rfl
      have h1 : DataW.trod enc Try.prog W 0 (fun _ => true) true n' 3 [v1] = some y1 := by simpa [cells_int1] using hf 1 _ rfl
      have h2 : DataW.trod enc Try.prog W 0 (fun _ => true) true n' 34 [v2, v3, v4] = some y2 := by simpa [cells_packet3] using hf 2 _ rfl
      subst hx
      have hw2 : Light 34 y2.1 := hw.field Try.underlying36 (j := 2) rfl rfl
      obtain ⟨zs, n'', _, hx2, _, hzl, hg⟩ := DataW.trod_struct Try.underlying34 h2
      match zs, hzl with
      | [z0, z1, z2], _ =>
        have g0 : DataW.trod enc Try.prog W 0 (fun _ => true) true n'' 3 [v2] = some z0 := by simpa [cells_int1] using hg 0 _ rfl
        have g1 : DataW.trod enc Try.prog W 0 (fun _ => true) true n'' 3 [v3] = some z1 := by simpa [cells_int1] using hg 1 _ rfl
        have g2 : DataW.trod enc Try.prog W 0 (fun _ => true) true n'' 32 [v4] = some z2 := by simpa [cells_bytes1] using hg 2 _ rfl
        subst hx2
        have hw3 : Light 32 z2.1 := hw2.field Try.underlying34 (j := 2) rfl rfl
        obtain ⟨k0, e0, rfl, _⟩ := DataW.trod_int Try.underlying3 h0
        obtain ⟨k1, e1, rfl, _⟩ := DataW.trod_int Try.underlying3 h1
        obtain ⟨k2, e2, rfl, _⟩ := DataW.trod_int Try.underlying3 g0
        obtain ⟨k3, e3, rfl, _⟩ := DataW.trod_int Try.underlying3 g1
        obtain ⟨a, len, cap, xs, rfl, p1, p2, p3, p4⟩ := bytes_value g2 hw3
        injection e0 with e0
        injection e1 with e1
        injection e2 with e2
        injection e3 with e3
        subst e0 e1 e2 e3
        exact ⟨⟨k0, k1, k2, k3, a, len, cap, xs⟩, rfl, p1, p2, by show len ≤ _; omega⟩

theorem open_nops {a : Option Addr} {len cap : Nat} {d : DataW H} {pl : List MemPlace} (h : DataW.Trod enc Try.prog W 0 (fun _ => true) true 28 (.slice a len cap) d pl) (hw : Light 28 d) :
    ∃ ts, HasNop W W.heap.size a ts ∧ ts.length = len ∧ len ≤ 2513169434916 := by
  obtain ⟨fuel, hf⟩ := h
  rcases Go.Deep.open_slice Try.underlying28 hf with ⟨hcs, _⟩ | ⟨x, l, c, m, n, D, Pl, hcs, _, hl, _, hm, hx, hcell⟩
  · simp [Value.cells] at hcs
    obtain ⟨rfl, rfl, rfl⟩ := hcs
    exact ⟨[], ⟨fun i hi => absurd hi (by simp), fun p hp => absurd hp (by simp)⟩, rfl, by simp⟩
  · simp [Value.cells] at hcs
    obtain ⟨rfl, rfl, rfl⟩ := hcs
    simp only [if_true] at hm
    obtain rfl := (Prod.mk.inj hx).1
    have hsz := hw.slice Try.underlying28
    rw [bytesOf_nop] at hsz
    simp [reachBytes] at hsz
    rw [cells_nop5] at hcell
    obtain ⟨F, hF⟩ := Go.Deep.choose_lt (α := Nop) (n := len) (p := fun i q => (∀ j v, q.cells[j]? = some v → W.cell? ((x.add (i * 5)).add j) = some v) ∧ Has W W.heap.size q.A q.xs ∧ q.xs.length = q.m ∧ q.m ≤ 140737488355328) (fun i hi => by
      obtain ⟨cs', hc, ht⟩ := hcell i (by omega)
      obtain ⟨_, hlen, hat⟩ := World.cells?_some hc
      obtain ⟨q, rfl, hq⟩ := nop_value hlen ht (hw.elem Try.underlying28 (List.mem_map.2 ⟨i, List.mem_range.2 (by omega), rfl⟩))
      refine ⟨q, fun j v hj => ?_, hq⟩
      have hj' : j < 5 := by
        rcases Nat.lt_or_ge j 5 with h | h
        · exact h
        · rw [List.getElem?_eq_none (by simpa [Nop.cells] using h)] at hj; cases hj
      rw [hat j hj', hj])
    refine ⟨(List.range len).map F, ⟨fun k hk => ?_, fun p hp => ?_⟩, by simp, by omega⟩
    · have hk' : k < len := by simpa using hk
      have e : ((List.range len).map F)[k] = F k := by simp
      obtain ⟨h1, _⟩ := hF k hk'
      rw [e]
      generalize F k = q at *
      have g0 := h1 0 _ rfl
      obtain ⟨b, o, s⟩ := x
      have hs : s = none := by
        obtain ⟨h6, _⟩ := hF 0 (by omega)
        have := World.cell?_spot (h6 0 _ rfl)
        simpa [Addr.add] using this
      subst hs
      have ea : ∀ j, ((⟨b, o, none⟩ : Addr).add (k * 5)).add j = ⟨b, o + k * 5 + j, none⟩ := by
        intro j
        rw [Go.Deep.add_add]
        unfold Addr.add
        split <;> simp_all <;> omega
      rw [ea] at g0
      refine ⟨b, o, rfl, cell_lt g0, fun i u hu => ?_⟩
      have g := h1 i u hu
      rw [ea] at g
      exact g
    · obtain ⟨i, hi, rfl⟩ := List.mem_map.1 hp
      exact (hF i (List.mem_range.1 hi)).2
end
end Go.Proofs.Ytpbfibofjkinmaa
