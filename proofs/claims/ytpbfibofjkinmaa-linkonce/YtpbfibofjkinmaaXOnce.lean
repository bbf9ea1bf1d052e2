/-
  LinkOnce of the statements: for every input the law returns true, and what came in reads as it did. No condition.
  As FrameL2: slices of numbers. No condition but the model's reach.
  As FrameL, with a bound of each piece; slices of numbers. No condition but the model's reach.
  From a reading of an argument to the words of the walks: slices of byte slices, in the model's reach. No condition but that reach.
-/
import Derived.Test.YtpbfibofjkinmaaFrame
import Derived.Test.YtpbfibofjkinmaaPcs
import Derived.Deep.Slices
import Derived.Test.YtpbfibofjkinmaaInts
import Derived.Test.YtpbfibofjkinmaaFrameG
import Derived.Test.YtpbfibofjkinmaaLinkId
set_option linter.unusedSimpArgs false
set_option linter.unusedVariables false

namespace Go.Proofs.Ytpbfibofjkinmaa
open Go.ChangeShapes Go.WideShapes Go.ChangeAt Go.RowKit

theorem bytesOf_bytes : Try.prog.bytesOf 32 = 24 := by kernel_rfl
instance : Inhabited Piece := ⟨⟨none, 0, 0, []⟩⟩

/-- Each block of what is read is in reach. -/
def Light {H : Type} (t : TypeId) (d : DataW H) : Prop := ∀ n ∈ d.weights Try.prog t, n ≤ reachBytes
theorem Light.of_each {H : Type} {ty : List TypeId} {ds : List (DataW H)} (hs : (DataW.weightsEach Try.prog ty ds).all (· ≤ reachBytes) = true) {j : Nat} {t : TypeId} {d : DataW H} (ht : ty[j]? = some t) (hd : ds[j]? = some d) : Light t d :=
  fun n hn => by simpa using List.all_eq_true.1 hs n (DataW.weights_mem_each ht hd n hn)
theorem Light.slice {H : Type} {t e : TypeId} {xs ys : List (DataW H)} (h : Light t (.slice xs ys)) (hu : Try.prog.underlying t = some (.slice e)) : (xs.length + ys.length) * Try.prog.bytesOf e ≤ reachBytes :=
  h _ (by simp [DataW.weights, hu])
theorem Light.elem {H : Type} {t e : TypeId} {xs ys : List (DataW H)} (h : Light t (.slice xs ys)) (hu : Try.prog.underlying t = some (.slice e)) {d : DataW H} (hd : d ∈ xs) : Light e d := by
  intro n hn
  refine h n ?_
  simp only [DataW.weights, hu]
  refine List.mem_cons_of_mem _ (List.mem_append_left _ ?_)
  clear h
  induction xs with
  | nil => simp at hd
  | cons x xs ih =>
    simp only [DataW.weightsAll, List.mem_append]
    rcases List.mem_cons.1 hd with rfl | hd
    · exact Or.inl hn
    · exact Or.inr (ih hd)
theorem Light.field {H : Type} {t : TypeId} {fs : Array Field} {xs : List (DataW H)} (h : Light t (.agg xs)) (hu : Try.prog.underlying t = some (.struct fs)) {j : Nat} {f : TypeId} {d : DataW H} (hf : (fs.toList.map (·.type))[j]? = some f) (hd : xs[j]? = some d) : Light f d := by
  intro n hn
  refine h n ?_
  simp only [DataW.weights, hu]
  exact DataW.weights_mem_each hf hd n hn

section
variable {H : Type} {enc : TypeId × Value → H} {W : World}

theorem bytes_value {fuel : Nat} {v : Value} {x : DataW H × List MemPlace} (hf : DataW.trod enc Try.prog W 0 (fun _ => true) true fuel 32 [v] = some x) (hw : Light 32 x.1) :
    ∃ a len cap xs, v = .slice a len cap ∧ Has W W.heap.size a xs ∧ xs.length = len ∧ len ≤ cap ∧ cap ≤ 140737488351232 := by
  rcases Go.Deep.open_slice Try.underlying32 hf with ⟨hcs, _⟩ | ⟨y, len, cap, m, n, D, Pl, hcs, _, hl, _, hm, hx, hcell⟩
  · injection hcs with hcs
    exact ⟨none, 0, 0, [], hcs, Has.nil _ _ _, rfl, Nat.le_refl _, by simp⟩
  · injection hcs with hcs
    subst hcs
    obtain ⟨d, pl⟩ := x
    obtain ⟨xs, h1⟩ := open_bytes (enc := enc) (d := d) (ps := pl) ⟨fuel, hf⟩
    refine ⟨_, _, _, xs, rfl, h1.has, h1.len_eq, h1.le, ?_⟩
    rcases h1.datum with ⟨_, h0⟩ | ⟨es, sp, rfl, he⟩
    · omega
    · have := hw.slice Try.underlying32
      rw [bytesOf_byte, he] at this
      simpa [reachBytes] using this


theorem open_pieces {a : Option Addr} {len cap : Nat} {d : DataW H} {pl : List MemPlace} (h : DataW.Trod enc Try.prog W 0 (fun _ => true) true 65 (.slice a len cap) d pl) (hw : Light 65 d) :
    ∃ ps, HasP W W.heap.size a ps ∧ ps.length = len ∧ len ≤ 5864062014805 := by
  obtain ⟨fuel, hf⟩ := h
  rcases Go.Deep.open_slice1 Try.underlying65 (by kernel_rfl) hf with ⟨hcs, _⟩ | ⟨x, l, c, m, n, V, D, Pl, hcs, _, hl, _, hm, hx, hcell⟩
  · simp [Value.cells] at hcs
    obtain ⟨rfl, rfl, rfl⟩ := hcs
    exact ⟨[], fun k hk => absurd hk (by simp), rfl, by simp⟩
  · simp [Value.cells] at hcs
    obtain ⟨rfl, rfl, rfl⟩ := hcs
    simp only [if_true] at hm
    obtain rfl := (Prod.mk.inj hx).1
    have hsz := hw.slice Try.underlying65
    rw [bytesOf_bytes] at hsz
    simp [reachBytes] at hsz
    obtain ⟨F, hF⟩ := Go.Deep.choose_lt (α := Piece) (n := len) (p := fun i p => V i = p.val ∧ Has W W.heap.size p.spot p.bs ∧ p.bs.length = p.len ∧ p.len ≤ 140737488351232) (fun i hi => by
      obtain ⟨a, l, c, xs, hv, hc, he, hlc, hcp⟩ := bytes_value (hcell i (by omega)).2 (hw.elem Try.underlying65 (List.mem_map.2 ⟨i, List.mem_range.2 (by omega), rfl⟩))
      exact ⟨⟨a, l, c, xs⟩, hv, hc, he, by show l ≤ _; omega⟩)
    refine ⟨(List.range len).map F, fun k hk => ?_, by simp, by omega⟩
    have hk' : k < len := by simpa using hk
    have e : ((List.range len).map F)[k] = F k := by simp
    obtain ⟨h1, h2, h3, h4⟩ := hF k hk'
    obtain ⟨b, o, s⟩ := x
    have hc := (hcell k (by omega)).1
    have hs : s = none := by
      have := World.cell?_spot (hcell 0 (by omega)).1
      simpa [Addr.add] using this
    subst hs
    have hc' : W.cell? ⟨b, o + k, none⟩ = some (V k) := by
      rw [← hc]; congr 1; unfold Addr.add; split <;> simp_all
    rw [h1] at hc'
    rw [e]
    exact ⟨⟨b, o, rfl, cell_lt hc', hc'⟩, h2, h3, by omega⟩
end
end Go.Proofs.Ytpbfibofjkinmaa

namespace Go.Proofs.Ytpbfibofjkinmaa
open Go.ChangeShapes Go.WideShapes Go.ChangeAt Go.RowKit

section
variable {H : Type} {enc : TypeId × Value → H} {W : World}
theorem open_pieces2 {a : Option Addr} {len cap : Nat} {d : DataW H} {pl : List MemPlace} (h : DataW.Trod enc Try.prog W 0 (fun _ => true) true 65 (.slice a len cap) d pl) (hw : Light 65 d) :
    ∃ ps, HasP W W.heap.size a ps ∧ ps.length = len ∧ len ≤ 5864062014805 ∧ ∀ p ∈ ps, p.len ≤ 140737488351232 := by
  obtain ⟨fuel, hf⟩ := h
  rcases Go.Deep.open_slice1 Try.underlying65 (by kernel_rfl) hf with ⟨hcs, _⟩ | ⟨x, l, c, m, n, V, D, Pl, hcs, _, hl, _, hm, hx, hcell⟩
  · simp [Value.cells] at hcs
    obtain ⟨rfl, rfl, rfl⟩ := hcs
    exact ⟨[], fun k hk => absurd hk (by simp), rfl, by simp, by simp⟩
  · simp [Value.cells] at hcs
    obtain ⟨rfl, rfl, rfl⟩ := hcs
    simp only [if_true] at hm
    obtain rfl := (Prod.mk.inj hx).1
    have hsz := hw.slice Try.underlying65
    rw [bytesOf_bytes] at hsz
    simp [reachBytes] at hsz
    obtain ⟨F, hF⟩ := Go.Deep.choose_lt (α := Piece) (n := len) (p := fun i p => V i = p.val ∧ Has W W.heap.size p.spot p.bs ∧ p.bs.length = p.len ∧ p.len ≤ 140737488351232) (fun i hi => by
      obtain ⟨a, l, c, xs, hv, hc, he, hlc, hcp⟩ := bytes_value (hcell i (by omega)).2 (hw.elem Try.underlying65 (List.mem_map.2 ⟨i, List.mem_range.2 (by omega), rfl⟩))
      exact ⟨⟨a, l, c, xs⟩, hv, hc, he, by show l ≤ _; omega⟩)
    refine ⟨(List.range len).map F, fun k hk => ?_, by simp, by omega, fun p hp => by
      obtain ⟨i, hi, rfl⟩ := List.mem_map.1 hp
      exact (hF i (List.mem_range.1 hi)).2.2.2⟩
    have hk' : k < len := by simpa using hk
    have e : ((List.range len).map F)[k] = F k := by simp
    obtain ⟨h1, h2, h3, h4⟩ := hF k hk'
    obtain ⟨b, o, s⟩ := x
    have hc := (hcell k (by omega)).1
    have hs : s = none := by
      have := World.cell?_spot (hcell 0 (by omega)).1
      simpa [Addr.add] using this
    subst hs
    have hc' : W.cell? ⟨b, o + k, none⟩ = some (V k) := by
      rw [← hc]; congr 1; unfold Addr.add; split <;> simp_all
    rw [h1] at hc'
    rw [e]
    exact ⟨⟨b, o, rfl, cell_lt hc', hc'⟩, h2, h3, by omega⟩
end
end Go.Proofs.Ytpbfibofjkinmaa

namespace Go.Proofs.Ytpbfibofjkinmaa
open Go.ChangeShapes Go.WideShapes Go.ChangeAt Go.RowKit

theorem cells_intL : Try.prog.cellsOf 3 = 1 := by kernel_rfl
theorem bytesOf_intL : Try.prog.bytesOf 3 = 8 := by kernel_rfl
section
variable {H : Type} {enc : TypeId × Value → H} {W : World}
theorem open_intsL {a : Option Addr} {len cap : Nat} {d : DataW H} {pl : List MemPlace} (h : DataW.Trod enc Try.prog W 0 (fun _ => true) true 26 (.slice a len cap) d pl) (hw : Light 26 d) :
    ∃ xs, HasI W W.heap.size a xs ∧ xs.length = len ∧ len ≤ 17592186044416 := by
  obtain ⟨fuel, hf⟩ := h
  rcases Go.Deep.open_slice Try.underlying26 hf with ⟨hcs, _⟩ | ⟨x, l, c, m, n, D, Pl, hcs, _, hl, _, hm, hx, hcell⟩
  · simp [Value.cells] at hcs
    obtain ⟨rfl, rfl, rfl⟩ := hcs
    exact ⟨[], fun k hk => absurd hk (by simp), rfl, by simp⟩
  · simp [Value.cells] at hcs
    obtain ⟨rfl, rfl, rfl⟩ := hcs
    simp only [if_true] at hm
    obtain rfl := (Prod.mk.inj hx).1
    have hsz := hw.slice Try.underlying26
    rw [bytesOf_intL] at hsz
    simp [reachBytes] at hsz
    rw [cells_intL] at hcell
    obtain ⟨F, hF⟩ := Go.Deep.choose_lt (α := Int) (n := len) (p := fun i q => W.cell? (x.add (i * 1)) = some (.int .i64 q)) (fun i hi => by
      obtain ⟨cs', hc, ht⟩ := hcell i (by omega)
      obtain ⟨_, hlen, hat⟩ := World.cells?_some hc
      obtain ⟨q, rfl, _, hwf⟩ := DataW.trod_int Try.underlying3 ht
      refine ⟨q, ?_⟩
      have := hat 0 (by omega)
      simp only [List.getElem?_cons_zero] at this
      rw [← this]
      congr 1)
    refine ⟨(List.range len).map F, fun k hk => ?_, by simp, by omega⟩
    have hk' : k < len := by simpa using hk
    have e : ((List.range len).map F)[k] = F k := by simp
    have h1 := hF k hk'
    rw [e]
    generalize F k = q at *
    obtain ⟨b, o, s⟩ := x
    have hs : s = none := by
      have := World.cell?_spot (hF 0 (by omega))
      simpa [Addr.add] using this
    subst hs
    have ea : (⟨b, o, none⟩ : Addr).add (k * 1) = ⟨b, o + k, none⟩ := by
      unfold Addr.add
      split <;> simp_all
    rw [ea] at h1
    exact ⟨b, o, rfl, cell_lt h1, h1⟩
end
end Go.Proofs.Ytpbfibofjkinmaa

namespace Go.Proofs.Ytpbfibofjkinmaa
open Go.ChangeShapes Go.WideShapes Go.ChangeAt Go.RowKit
set_option linter.unusedVariables false

set_option maxHeartbeats 1600000 in
set_option maxRecDepth 100000 in
theorem linkOnce_lifted (os : Os) (started : os.Started) (H : Type) (enc : TypeId × Value → H) :
    ReturnsInHanded {} Try.checked os 10 .any (Rows.linkOnceSpec.pre6 enc Try.prog Try.f10 Rows.linkOnceRow.domain false) (Rows.linkOnceSpec.post enc Try.prog Try.f10 false true false false) := by
  refine returnsInHanded_of_change_sized (C := Try.checked) ownKnob_none started (by kernel_rfl) Try.func10
    (ChangeSpec.witness6 (enc := enc) (C := Try.checked) false ⟨#[], #[.slice none 0 0, .slice none 0 0], []⟩ 8 (by kernel_rfl) (by kernel_rfl) (by kernel_rfl) (by kernel_rfl)) ?_
  intro W base args ds gs before hval0 hW hcnd hsz0 _
  have hval : ∀ (j : Nat) t v, Try.f10.params[j]? = some t → args[j]? = some v → Value.okWide Try.prog W .any base t v := hval0
  have hsz : (DataW.weightsEach Try.prog (Try.f10.params.toList ++ Rows.linkOnceSpec.plain.varTypes Try.prog) (ds ++ gs)).all (· ≤ reachBytes) = true := hsz0
  have hW' := hW
  obtain ⟨p, q, hA0, hV, rfl, hfz, hnd⟩ := hW
  have hA : DataW.TrodAll enc Try.prog W 0 (fun _ => true) true Try.f10.params.toList args.toList ds p := hA0
  rw [Try.params10] at hA hval hsz
  obtain ⟨v0, vs0, d0, ds0, p0, q0, hargs, rfl, rfl, h0, r0⟩ := trodAll_cons hA
  obtain ⟨v1, vs1, d1, ds1, p1, q1, rfl, rfl, rfl, h1, r1⟩ := trodAll_cons r0
  obtain ⟨rfl, rfl, rfl⟩ := trodAll_nil r1
  obtain rfl : args = #[v0, v1] := by cases args; simp_all
  obtain ⟨rfl, rfl⟩ := trodVars_none hV
  obtain ⟨a0, len0, cap0, rfl⟩ := okWide_slice Try.underlying65 (hval 0 65 v0 rfl rfl)
  have k0 := h0
  have lt0 : ∀ x ∈ p0, x.block < W.heap.size := by obtain ⟨m, hm⟩ := k0; exact DataW.trod_lt m _ _ _ hm
  obtain ⟨ps0, c0, e0, z0⟩ := open_pieces2 h0 (Light.of_each hsz (j := 0) rfl rfl)
  obtain ⟨a1, len1, cap1, rfl⟩ := okWide_slice Try.underlying26 (hval 1 26 v1 rfl rfl)
  have k1 := h1
  have lt1 : ∀ x ∈ p1, x.block < W.heap.size := by obtain ⟨m, hm⟩ := k1; exact DataW.trod_lt m _ _ _ hm
  obtain ⟨ps1, c1, e1, z1⟩ := open_intsL h1 (Light.of_each hsz (j := 1) rfl rfl)
  clear hA0 hval0
  refine (linkOnce_walk a0 len0 cap0 ps0 a1 len1 cap1 ps1 W c0 c1 e0 z0 e1 z1).mono fun e W' ⟨he, bel⟩ => ?_
  subst he
  exact ⟨_, rfl, _, _, _, [], _, [], hW', trodAll_mk1 (shut_bool Try.underlying4 _), (trodAll_cons_mk (Below.trod laid_out (by kernel_rfl) (of_decide_eq_true (by kernel_rfl)) k0 bel lt0) (trodAll_cons_mk (Below.trod laid_out (by kernel_rfl) (of_decide_eq_true (by kernel_rfl)) k1 bel lt1) trodAll_mk0)), rfl, bel.frame _, fun h => by cases h⟩

theorem linkOnce_holds : Rows.LinkOnceSaid :=
  OpenClaim.holds_of_wide 10 Try.f10 rfl rfl rfl rfl rfl rfl rfl ⟨rfl, rfl, rfl, rfl, rfl⟩ rfl rfl rfl rfl rfl (by kernel_rfl) Try.func10 (by kernel_rfl)
    (of_decide_eq_true (by kernel_rfl)) (by unfold Func.isWrapper; first | (rw [if_pos (by decide +kernel)]; kernel_rfl) | (rw [if_neg (by decide +kernel)]; exact ⟨rfl, rfl⟩))
    (fun os started H enc _ => linkOnce_lifted os started H enc)
#print axioms linkOnce_holds
end Go.Proofs.Ytpbfibofjkinmaa
