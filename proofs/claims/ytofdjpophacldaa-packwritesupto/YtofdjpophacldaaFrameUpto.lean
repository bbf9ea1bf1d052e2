/-
  From a reading of an argument to the words of the walks, where what is read is of bulk at most 2^20: a slice of slices of bytes. No other condition.
-/
import Derived.Test.YtofdjpophacldaaFrame
import Derived.Test.YtofdjpophacldaaPieces
import Derived.Deep.Slices
import Derived.JoinedCond
namespace Go.Proofs.Ytofdjpophacldaa
open Go.ChangeShapes Go.WideShapes Go.ChangeAt Go.RowKit

theorem bulk_pos {H : Type} (d : DataW H) : 1 ≤ Rows.uptoBulk d := by
  cases d
  case lit l => cases l <;> simp [Rows.uptoBulk]
  all_goals simp [Rows.uptoBulk]
theorem bulk_length {H : Type} (l : List (DataW H)) : l.length ≤ Rows.uptoBulkAll l := by
  induction l with
  | nil => simp [Rows.uptoBulkAll]
  | cons d r ih =>
    have := bulk_pos d
    simp [Rows.uptoBulkAll]
    omega
theorem Came.bulk {H : Type} {W : World} {a : Option Addr} {len cap : Nat} {xs : List UInt8} {d : DataW H} (h : Came W a len cap xs d) : xs.length + 1 ≤ Rows.uptoBulk d := by
  have h1 := h.len_eq
  have h2 := h.le
  rcases h.datum with ⟨rfl, h3⟩ | ⟨es, sp, rfl, h3⟩
  · simp only [Rows.uptoBulk]; omega
  · have := bulk_length es
    have := bulk_length sp
    simp [Rows.uptoBulk]
    omega

instance : Inhabited Piece := ⟨⟨none, 0, 0, []⟩⟩

theorem bulk_pieces {H : Type} (F : Nat → Piece) (D : Nat → DataW H) : ∀ l : List Nat, (∀ i ∈ l, (F i).bs.length + 1 ≤ Rows.uptoBulk (D i)) → l.length + (catP (l.map F)).length ≤ Rows.uptoBulkAll (l.map D)
  | [], _ => by simp [catP]
  | i :: l, h => by
    have h1 := bulk_pieces F D l (fun j hj => h j (List.mem_cons_of_mem _ hj))
    have h2 := h i (List.mem_cons_self ..)
    have e : catP ((i :: l).map F) = (F i).bs ++ catP (l.map F) := by simp [catP]
    rw [e]
    simp only [List.length_append, List.length_cons, List.map_cons, Rows.uptoBulkAll]
    omega

theorem bytes_value {H : Type} {enc : TypeId × Value → H} {W : World} {fuel : Nat} {v : Value} {d : DataW H} {ps : List MemPlace}
    (h : DataW.trod enc Try.prog W 0 (fun _ => true) true fuel 26 [v] = some (d, ps)) : ∃ a len cap xs, v = .slice a len cap ∧ Came W a len cap xs d := by
  obtain ⟨a, len, cap, rfl⟩ : ∃ a len cap, v = .slice a len cap := by
    rcases open_ints Try.underlying26 Try.underlying5 (by kernel_rfl) h with ⟨hcs, _⟩ | ⟨x, l, c, _, hcs, _⟩
    · injection hcs with hcs; exact ⟨_, _, _, hcs⟩
    · injection hcs with hcs; exact ⟨_, _, _, hcs⟩
  obtain ⟨xs, hc⟩ := open_bytes (a := a) (len := len) (cap := cap) ⟨fuel, h⟩
  exact ⟨a, len, cap, xs, rfl, hc⟩

theorem open_pieces {H : Type} {enc : TypeId × Value → H} {W : World} {a : Option Addr} {len cap : Nat} {d : DataW H} {pl : List MemPlace}
    (h : DataW.Trod enc Try.prog W 0 (fun _ => true) true 63 (.slice a len cap) d pl) (hk : Rows.uptoBulk d ≤ 1048576) :
    ∃ ps, HasP W W.heap.size a ps ∧ ps.length = len ∧ ps.length + (catP ps).length ≤ 1048576 := by
  obtain ⟨fuel, hf⟩ := h
  rcases Go.Deep.open_slice1 Try.underlying63 (by kernel_rfl) hf with ⟨hcs, _⟩ | ⟨x, l, c, m, n, V, D, Pl, hcs, _, hl, _, hm, hx, hcell⟩
  · simp [Value.cells] at hcs
    obtain ⟨rfl, rfl, rfl⟩ := hcs
    exact ⟨[], fun k hk => absurd hk (by simp), rfl, by simp [catP]⟩
  · simp [Value.cells] at hcs
    obtain ⟨rfl, rfl, rfl⟩ := hcs
    simp only [if_true] at hm
    obtain rfl := (Prod.mk.inj hx).1
    obtain ⟨F, hF⟩ := Go.Deep.choose_lt (α := Piece) (n := len) (p := fun i p => V i = p.val ∧ Has W W.heap.size p.spot p.bs ∧ p.bs.length = p.len ∧ p.bs.length + 1 ≤ Rows.uptoBulk (D i)) (fun i hi => by
      obtain ⟨a, l, c, xs, hv, hc⟩ := bytes_value (hcell i (by omega)).2
      exact ⟨⟨a, l, c, xs⟩, hv, hc.has, hc.len_eq, hc.bulk⟩)
    have hb := bulk_pieces F D (List.range len) (fun i hi => (hF i (by simpa using hi)).2.2.2)
    have hlen : (List.range len).length = len := List.length_range
    have hbk : len + (catP ((List.range len).map F)).length ≤ 1048576 := by
      simp only [Rows.uptoBulk] at hk
      omega
    refine ⟨(List.range len).map F, fun k hk => ?_, by simp, by rw [List.length_map, hlen]; exact hbk⟩
    have hk' : k < len := by simpa using hk
    have e : ((List.range len).map F)[k] = F k := by simp
    obtain ⟨h1, h2, h3, h4⟩ := hF k hk'
    obtain ⟨b, o, s⟩ := x
    have hc := (hcell k (by omega)).1
    have hs : s = none := by
      have := World.cell?_spot (hcell 0 (by omega)).1
      simpa [Addr.add] using this
    subst hs
    have hc' : W.cell? ⟨b, o + k, none⟩ = some (V k) := by
      rw [← hc]; congr 1; unfold Addr.add; split <;> simp_all
    rw [h1] at hc'
    have hle := len_le_catP ((List.range len).map F) k hk
    rw [e] at hle ⊢
    exact ⟨⟨b, o, rfl, cell_lt hc', hc'⟩, h2, h3, by omega⟩
end Go.Proofs.Ytofdjpophacldaa
