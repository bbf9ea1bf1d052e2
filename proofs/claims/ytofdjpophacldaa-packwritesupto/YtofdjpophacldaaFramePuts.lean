/-
  From a reading of an argument to the words of the walks, where what is read is of bulk at most 2^20: a slice of Puts. No other condition.
-/
import Derived.Test.YtofdjpophacldaaFrameUpto
import Derived.Test.YtofdjpophacldaaPuts
namespace Go.Proofs.Ytofdjpophacldaa
open Go.ChangeShapes Go.WideShapes Go.ChangeAt Go.RowKit

instance : Inhabited PutV := ⟨⟨0, 0, default⟩⟩

theorem isInt_of_wf {n : Int} (h : (Lit.int .i64 n).wf = true) : IsInt n := by
  have := bounds_i64 h
  unfold IsInt
  omega

theorem bulk_puts {H : Type} (F : Nat → PutV) (D : Nat → DataW H) : ∀ l : List Nat, (∀ i ∈ l, (F i).p.bs.length + 4 ≤ Rows.uptoBulk (D i)) → l.length ≤ Rows.uptoBulkAll (l.map D) ∧ (outP (l.map F)).length ≤ 3 * Rows.uptoBulkAll (l.map D)
  | [], _ => by simp [outP]
  | i :: l, h => by
    have h1 := bulk_puts F D l (fun j hj => h j (List.mem_cons_of_mem _ hj))
    have h2 := h i (List.mem_cons_self ..)
    have h3 := encP_length (F i)
    have e : outP ((i :: l).map F) = encP (F i) ++ outP (l.map F) := by simp [outP]
    rw [e]
    simp only [List.length_append, List.length_cons, List.map_cons, Rows.uptoBulkAll]
    omega

theorem bulk_mem {H : Type} (D : Nat → DataW H) : ∀ (l : List Nat) (i : Nat), i ∈ l → Rows.uptoBulk (D i) ≤ Rows.uptoBulkAll (l.map D)
  | [], _, h => by simp at h
  | j :: l, i, h => by
    simp only [List.map_cons, Rows.uptoBulkAll]
    rcases List.mem_cons.1 h with rfl | h
    · omega
    · have := bulk_mem D l i h
      omega

theorem cells_int : Try.prog.cellsOf 3 = 1 := by kernel_rfl
theorem cells_bytes : Try.prog.cellsOf 26 = 1 := by kernel_rfl
theorem cells_put : Try.prog.cellsOf 28 = 3 := by kernel_rfl

theorem put_value {H : Type} {enc : TypeId × Value → H} {W : World} {fuel : Nat} {cs : List Value} {d : DataW H} {pl : List MemPlace} (hl : cs.length = 3)
    (h : DataW.trod enc Try.prog W 0 (fun _ => true) true fuel 28 cs = some (d, pl)) :
    ∃ q : PutV, cs = [.int .i64 q.k, .int .i64 q.n, q.p.val] ∧ IsInt q.k ∧ IsInt q.n ∧ Has W W.heap.size q.p.spot q.p.bs ∧ q.p.bs.length = q.p.len ∧ q.p.bs.length + 4 ≤ Rows.uptoBulk d := by
  obtain ⟨ys, n', _, hx, _, hyl, hf⟩ := DataW.trod_struct Try.underlying28 h
  match cs, hl with
  | [v0, v1, v2], _ =>
    match ys, hyl with
    | [y0, y1, y2], _ =>
      have h0 : DataW.trod enc Try.prog W 0 (fun _ => true) true n' 3 [v0] = some y0 := by simpa [cells_int] using hf 0 _ rfl
      have h1 : DataW.trod enc Try.prog W 0 (fun _ => true) true n' 3 [v1] = some y1 := by simpa [cells_int] using hf 1 _ rfl
      have h2 : DataW.trod enc Try.prog W 0 (fun _ => true) true n' 26 [v2] = some (y2.1, y2.2) := by simpa [cells_bytes] using hf 2 _ rfl
      obtain ⟨k, hk, rfl, wk⟩ := DataW.trod_int Try.underlying3 h0
      obtain ⟨n, hn, rfl, wn⟩ := DataW.trod_int Try.underlying3 h1
      obtain ⟨a, l, c, xs, hv, hc⟩ := bytes_value h2
      injection hk with hk
      injection hn with hn
      subst hk hn hv
      obtain rfl := (Prod.mk.inj hx).1
      refine ⟨⟨k, n, a, l, c, xs⟩, rfl, isInt_of_wf wk, isInt_of_wf wn, hc.has, hc.len_eq, ?_⟩
      have := hc.bulk
      simp only [List.map_cons, List.map_nil, Rows.uptoBulk, Rows.uptoBulkAll]
      omega

theorem open_puts {H : Type} {enc : TypeId × Value → H} {W : World} {a : Option Addr} {len cap : Nat} {d : DataW H} {pl : List MemPlace}
    (h : DataW.Trod enc Try.prog W 0 (fun _ => true) true 22 (.slice a len cap) d pl) (hk : Rows.uptoBulk d ≤ 1048576) :
    ∃ qs, HasS W W.heap.size a qs ∧ qs.length = len ∧ qs.length ≤ 1048576 ∧ (outP qs).length ≤ 3145728 ∧ ∀ i (h : i < qs.length), qs[i].p.bs.length ≤ 1048576 := by
  obtain ⟨fuel, hf⟩ := h
  rcases Go.Deep.open_slice Try.underlying22 hf with ⟨hcs, _⟩ | ⟨x, l, c, m, n, D, Pl, hcs, _, hl, _, hm, hx, hcell⟩
  · simp [Value.cells] at hcs
    obtain ⟨rfl, rfl, rfl⟩ := hcs
    exact ⟨[], fun k hk => absurd hk (by simp), rfl, by simp, by simp [outP], fun k hk => absurd hk (by simp)⟩
  · simp [Value.cells] at hcs
    obtain ⟨rfl, rfl, rfl⟩ := hcs
    simp only [if_true] at hm
    obtain rfl := (Prod.mk.inj hx).1
    rw [cells_put] at hcell
    obtain ⟨F, hF⟩ := Go.Deep.choose_lt (α := PutV) (n := len) (p := fun i q => (∀ j v, ([Value.int .i64 q.k, .int .i64 q.n, q.p.val] : List Value)[j]? = some v → W.cell? ((x.add (i * 3)).add j) = some v) ∧ IsInt q.k ∧ IsInt q.n ∧ Has W W.heap.size q.p.spot q.p.bs ∧ q.p.bs.length = q.p.len ∧ q.p.bs.length + 4 ≤ Rows.uptoBulk (D i)) (fun i hi => by
      obtain ⟨cs', hc, ht⟩ := hcell i (by omega)
      obtain ⟨_, hlen, hat⟩ := World.cells?_some hc
      obtain ⟨q, rfl, h1⟩ := put_value hlen ht
      refine ⟨q, fun j v hj => ?_, h1⟩
      have hj' : j < 3 := by
        rcases Nat.lt_or_ge j 3 with h | h
        · exact h
        · rw [List.getElem?_eq_none (by simpa using h)] at hj; cases hj
      rw [hat j hj', hj])
    have hb := bulk_puts F D (List.range len) (fun i hi => (hF i (by simpa using hi)).2.2.2.2.2)
    have hlen : (List.range len).length = len := List.length_range
    simp only [Rows.uptoBulk] at hk
    refine ⟨(List.range len).map F, fun k hk => ?_, by simp, by rw [List.length_map]; omega, by omega, fun k hk2 => ?_⟩
    · have hk' : k < len := by simpa using hk
      have e : ((List.range len).map F)[k] = F k := by simp
      obtain ⟨h1, h2, h3, h4, h5, _⟩ := hF k hk'
      rw [e]
      generalize F k = q at *
      have g0 := h1 0 _ rfl
      have g1 := h1 1 _ rfl
      have g2 := h1 2 _ rfl
      obtain ⟨b, o, s⟩ := x
      have hs : s = none := by
        obtain ⟨h6, _⟩ := hF 0 (by omega)
        have := World.cell?_spot (h6 0 _ rfl)
        simpa [Addr.add] using this
      subst hs
      have ea : ∀ j, ((⟨b, o, none⟩ : Addr).add (k * 3)).add j = ⟨b, o + k * 3 + j, none⟩ := by
        intro j
        rw [Go.Deep.add_add]
        unfold Addr.add
        split <;> simp_all <;> omega
      rw [ea] at g0 g1 g2
      exact ⟨⟨b, o, rfl, cell_lt g0, g0, g1, g2⟩, h2, h3, h4, h5⟩
    · have hk' : k < len := by simpa using hk2
      have e : ((List.range len).map F)[k] = F k := by simp
      rw [e]
      have h1 := (hF k hk').2.2.2.2.2
      have h2 := bulk_mem D (List.range len) k (List.mem_range.2 hk')
      omega
end Go.Proofs.Ytofdjpophacldaa
