/-
  From a reading of an argument to the words of the walks: slices of byte slices, in the model's reach. No condition but that reach.
-/
import Derived.Test.YtpbfibofjkinmaaFrame
import Derived.Test.YtpbfibofjkinmaaPcs
import Derived.Deep.Slices
set_option linter.unusedSimpArgs false
set_option linter.unusedVariables false
namespace Go.Proofs.Ytpbfibofjkinmaa
open Go.ChangeShapes Go.WideShapes Go.ChangeAt Go.RowKit

theorem bytesOf_bytes : Try.prog.bytesOf 32 = 24 := by kernel_rfl
instance : Inhabited Piece := ⟨⟨none, 0, 0, []⟩⟩

/-- Each block of what is read is in reach. -/
def Light {H : Type} (t : TypeId) (d : DataW H) : Prop := ∀ n ∈ d.weights Try.prog t, n ≤ reachBytes
theorem Light.of_each {H : Type} {ty : List TypeId} {ds : List (DataW H)} (hs : (DataW.weightsEach Try.prog ty ds).all (· ≤ reachBytes) = true) {j : Nat} {t : TypeId} {d : DataW H} (ht : ty[j]? = some t) (hd : ds[j]? = some d) : Light t d :=
  fun n hn => by simpa using List.all_eq_true.1 hs n (DataW.weights_mem_each ht hd n hn)
theorem Light.slice {H : Type} {t e : TypeId} {xs ys : List (DataW H)} (h : Light t (.slice xs ys)) (hu : Try.prog.underlying t = some (.slice e)) : (xs.length + ys.length) * Try.prog.bytesOf e ≤ reachBytes :=
  h _ (by simp [DataW.weights, hu])
theorem Light.elem {H : Type} {t e : TypeId} {xs ys : List (DataW H)} (h : Light t (.slice xs ys)) (hu : Try.prog.underlying t = some (.slice e)) {d : DataW H} (hd : d ∈ xs) : Light e d := by
  intro n hn
  refine h n ?_
  simp only [DataW.weights, hu]
  refine List.mem_cons_of_mem _ (List.mem_append_left _ ?_)
  clear h
  induction xs with
  | nil => simp at hd
  | cons x xs ih =>
    simp only [DataW.weightsAll, List.mem_append]
    rcases List.mem_cons.1 hd with rfl | hd
    · exact Or.inl hn
    · exact Or.inr (ih hd)
theorem Light.field {H : Type} {t : TypeId} {fs : Array Field} {xs : List (DataW H)} (h : Light t (.agg xs)) (hu : Try.prog.underlying t = some (.struct fs)) {j : Nat} {f : TypeId} {d : DataW H} (hf : (fs.toList.map (·.type))[j]? = some f) (hd : xs[j]? = some d) : Light f d := by
  intro n hn
  refine h n ?_
  simp only [DataW.weights, hu]
  exact DataW.weights_mem_each hf hd n hn

section
variable {H : Type} {enc : TypeId × Value → H} {W : World}

theorem bytes_value {fuel : Nat} {v : Value} {x : DataW H × List MemPlace} (hf : DataW.trod enc Try.prog W 0 (fun _ => true) true fuel 32 [v] = some x) (hw : Light 32 x.1) :
    ∃ a len cap xs, v = .slice a len cap ∧ Has W W.heap.size a xs ∧ xs.length = len ∧ len ≤ cap ∧ cap ≤ 140737488351232 := by
  rcases Go.Deep.open_slice Try.underlying32 hf with ⟨hcs, _⟩ | ⟨y, len, cap, m, n, D, Pl, hcs, _, hl, _, hm, hx, hcell⟩
  · injection hcs with hcs
    exact ⟨none, 0, 0, [], hcs, Has.nil _ _ _, rfl, Nat.le_refl _, by simp⟩
  · injection hcs with hcs
    subst hcs
    obtain ⟨d, pl⟩ := x
    obtain ⟨xs, h1⟩ := open_bytes (enc := enc) (d := d) (ps := pl) ⟨fuel, hf⟩
    refine ⟨_, _, _, xs, rfl, h1.has, h1.len_eq, h1.le, ?_⟩
    rcases h1.datum with ⟨_, h0⟩ | ⟨es, sp, rfl, he⟩
    · omega
    · have := hw.slice Try.underlying32
      rw [bytesOf_byte, he] at this
      simpa [reachBytes] using this


theorem open_pieces {a : Option Addr} {len cap : Nat} {d : DataW H} {pl : List MemPlace} (h : DataW.Trod enc Try.prog W 0 (fun _ => true) true 65 (.slice a len cap) d pl) (hw : Light 65 d) :
    ∃ ps, HasP W W.heap.size a ps ∧ ps.length = len ∧ len ≤ 5864062014805 := by
  obtain ⟨fuel, hf⟩ := h
  rcases Go.Deep.open_slice1 Try.underlying65 (by kernel_rfl) hf with ⟨hcs, _⟩ | ⟨x, l, c, m, n, V, D, Pl, hcs, _, hl, _, hm, hx, hcell⟩
  · simp [Value.cells] at hcs
    obtain ⟨rfl, rfl, rfl⟩ := hcs
    exact ⟨[], fun k hk => absurd hk (by simp), rfl, by simp⟩
  · simp [Value.cells] at hcs
    obtain ⟨rfl, rfl, rfl⟩ := hcs
    simp only [if_true] at hm
    obtain rfl := (Prod.mk.inj hx).1
    have hsz := hw.slice Try.underlying65
    rw [bytesOf_bytes] at hsz
    simp [reachBytes] at hsz
    obtain ⟨F, hF⟩ := Go.Deep.choose_lt (α := Piece) (n := len) (p := fun i p => V i = p.val ∧ Has W W.heap.size p.spot p.bs ∧ p.bs.length = p.len ∧ p.len ≤ 140737488351232) (fun i hi => by
      obtain ⟨a, l, c, xs, hv, hc, he, hlc, hcp⟩ := bytes_value (hcell i (by omega)).2 (hw.elem Try.underlying65 (List.mem_map.2 ⟨i, List.mem_range.2 (by omega), rfl⟩))
      exact ⟨⟨a, l, c, xs⟩, hv, hc, he, by show l ≤ _; omega⟩)
    refine ⟨(List.range len).map F, fun k hk => ?_, by simp, by omega⟩
    have hk' : k < len := by simpa using hk
    have e : ((List.range len).map F)[k] = F k := by simp
    obtain ⟨h1, h2, h3, h4⟩ := hF k hk'
    obtain ⟨b, o, s⟩ := x
    have hc := (hcell k (by omega)).1
    have hs : s = none := by
      have := World.cell?_spot (hcell 0 (by omega)).1
      simpa [Addr.add] using this
    subst hs
    have hc' : W.cell? ⟨b, o + k, none⟩ = some (V k) := by
      rw [← hc]; congr 1; unfold Addr.add; split <;> simp_all
    rw [h1] at hc'
    rw [e]
    exact ⟨⟨b, o, rfl, cell_lt hc', hc'⟩, h2, h3, by omega⟩
end
end Go.Proofs.Ytpbfibofjkinmaa
