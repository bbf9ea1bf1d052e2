/-
  The walk of SealTells: one byte turned is always told. No condition but the size of what is read.
-/
import Derived.Test.YtofdjpophacldaaOpen
import Derived.Test.YtofdjpophacldaaSealShort
namespace Go.Proofs.Ytofdjpophacldaa
open Go.RowKit

theorem be8_inj {u v : Nat} (hu : u < 18446744073709551616) (hv : v < 18446744073709551616) (h : be 8 u = be 8 v) : u = v := by
  have h1 := val_be 8 u
  have h2 := val_be 8 v
  rw [h, h2] at h1
  rw [Nat.mod_eq_of_lt (by simpa using hv), Nat.mod_eq_of_lt (by simpa using hu)] at h1
  exact h1.symm
theorem tail8_inj {xs ys : List UInt8} (h : tail8 xs = tail8 ys) : fsum basis xs = fsum basis ys :=
  UInt64.toNat_inj.1 (be8_inj (UInt64.toNat_lt _) (UInt64.toNat_lt _) h)
/-- What was sealed and turned in one place opens just where nothing was turned. -/
theorem sealed_set (xs : List UInt8) (j : Nat) (hj : j < (sealed xs).length) (c : UInt8) : ((sealed xs).set j c).drop xs.length = tail8 (((sealed xs).set j c).take xs.length) ↔ (sealed xs)[j] = c := by
  constructor
  · intro h
    by_cases hlt : j < xs.length
    · have e1 : (sealed xs).set j c = xs.set j c ++ tail8 xs := by unfold sealed; rw [List.set_append_left _ _ hlt]
      have e2 : (sealed xs)[j] = xs[j] := by
        show (xs ++ tail8 xs)[j]'hj = xs[j]
        exact List.getElem_append_left hlt
      have hl : (xs.set j c).length = xs.length := by simp
      rw [e1, ← hl, List.drop_left, List.take_left] at h
      have := (fsum_set basis xs j hlt c).1 (tail8_inj h).symm
      rw [e2]; exact this
    · have hge : xs.length ≤ j := by omega
      have e1 : (sealed xs).set j c = xs ++ (tail8 xs).set (j - xs.length) c := by unfold sealed; rw [List.set_append_right _ _ hge]
      rw [e1, List.drop_left, List.take_left] at h
      have hjt : j - xs.length < (tail8 xs).length := by rw [sealed_length] at hj; rw [tail8_length]; omega
      have e3 : (sealed xs)[j] = (tail8 xs)[j - xs.length] := by
        show (xs ++ tail8 xs)[j]'hj = (tail8 xs)[j - xs.length]
        exact List.getElem_append_right hge
      rw [e3]
      have e4 : ((tail8 xs).set (j - xs.length) c)[j - xs.length]? = (tail8 xs)[j - xs.length]? := by rw [h]
      rw [List.getElem?_set_self hjt, List.getElem?_eq_getElem hjt] at e4
      injection e4 with e4
      exact e4.symm
  · intro h
    have e : (sealed xs).set j c = sealed xs := by rw [← h]; simp
    rw [e]
    unfold sealed
    rw [List.drop_left, List.take_left]

/-- A byte of one's own slice, read and written. -/
theorem Own.at_ {w : World} {base : Nat} {v : Value} {xs : List UInt8} (h : Own w base v xs) {k : Nat} (hk : k < xs.length) :
    ∃ g c, v = .slice (some ⟨g, 0, none⟩) xs.length c ∧ base ≤ g ∧ g < w.heap.size ∧ xs.length ≤ c ∧ w.cell? ⟨g, k, none⟩ = some (byt xs[k]) ∧ w.frozen? ⟨g, k, none⟩ = false ∧ ∀ d, Own (w.setCell ⟨g, k, none⟩ (byt d)) base v (xs.set k d) := by
  rcases h.2 with ⟨_, hn⟩ | ⟨g, cap, cur, hv, hg, hh, hnc, hm, hcs, ht⟩
  · omega
  · have hkc : k < cur.size := by rw [hcs]; omega
    have hcell : cur[k]? = some (byt xs[k]) := by
      have h1 : (cur.toList.take (xs.length * 1))[k]? = some (byt xs[k]) := by rw [ht]; simp [hk]
      rw [List.getElem?_take_of_lt (by omega)] at h1
      simpa using h1
    refine ⟨g, cap, hv, hg, lt_of_block hh, hnc, by simp [World.cell?, hh, hcell], by simp [World.frozen?, hh], ?_⟩
    intro d
    refine ⟨by simp, .inr ⟨g, cap, cur.setIfInBounds k (byt d), by rw [hv]; simp, hg, ?_, by simpa using hnc, hm, by simpa using hcs, ?_⟩⟩
    · simp [World.setCell, Array.getElem?_modify, hh]
    · rw [Nat.mul_one] at ht
      simp only [Array.toList_setIfInBounds, List.length_set, Nat.mul_one, List.map_set]
      rw [← ht, List.take_set]

theorem tells_end (a b : Bool) (h : a = b) : (a == b) = true := by rw [h]; simp

set_option maxHeartbeats 800000 in
theorem tells_walk (A : Option Addr) (c : Nat) (xs : List UInt8) (at_ to_ : Int) (w : World) (hx : Has w w.heap.size A xs) (hc : xs.length ≤ c) (hl : c ≤ 140737488351232)
    (_ : (Lit.int .i64 at_).wf = true) (hto : (Lit.int .u8 to_).wf = true) :
    Calls Try.prog 10 #[.slice A xs.length c, .int .i64 at_, .int .u8 to_] w fun e w' => e = .returned (.bool true) ∧ Below w.heap.size w w' := by
  obtain ⟨tb, rfl⟩ := byte_of to_ hto
  have htb := tb.toNat_lt
  clear hto
  go_enter Try.func10, Try.ntmps10
  go_wp2_with fail
  refine (head2_any w).mono ?_
  rintro e w1 ⟨rfl, hb1⟩
  have hx1 := (hx.below hb1).more hb1.size
  go_wp2_with fail
  refine (copy_any A xs.length c xs w1 hx1 rfl (by omega)).mono ?_
  rintro e w2 ⟨rfl, hw2⟩
  have hn2 := Has.new w1 5 xs (0, 0) _ rfl
  have hb2 := hb1.alloc hb1.size (.cells (bcells xs) 5)
  have hz2 : (w1.alloc (.cells (bcells xs) 5)).heap.size = w1.heap.size + 1 := by simp
  rw [hw2] at hn2 hb2 hz2
  have HZ := hide hz2
  clear hw2 hx1 hz2 hb1
  go_wp2_with fail
  refine (seal_any (some ⟨w1.heap.size, 0, none⟩) xs.length xs.length _ xs w2 hn2 (by have := HZ.out; omega) rfl (by omega)).mono ?_
  rintro e w3 ⟨v3, rfl, ho3, hbl3⟩
  have hb3 := hb2.trans (hbl3.mono hb2.size)
  have ho3' := ho3.from_ hb2.size
  clear hn2 hb2 hbl3 HZ ho3
  have hsl := sealed_length xs
  -- the place that is turned
  obtain ⟨j, hj, hcase⟩ : ∃ j : Nat, j < xs.length + 8 ∧ ((at_ = (j : Int)) ∨ (j = 0 ∧ (at_ < 0 ∨ (xs.length : Int) + 8 ≤ at_))) := by
    by_cases h : 0 ≤ at_ ∧ at_ < (xs.length : Int) + 8
    · exact ⟨at_.toNat, by omega, .inl (by omega)⟩
    · exact ⟨0, by omega, .inr ⟨rfl, by omega⟩⟩
  have hjs : j < (sealed xs).length := by omega
  obtain ⟨g, cc, hv3, hg, hg2, hcc, hcell, hfr, hset⟩ := ho3'.at_ hjs
  rw [hsl] at hv3 hcc
  subst hv3
  have hbyte := (sealed xs)[j].toNat_lt
  have HS := hide (sealed_set xs j hjs tb)
  unfold byt at hcell
  have HSET := hide (hset tb)
  clear hset ho3'
  generalize hsb : (sealed xs)[j] = sb at *

  clear hsb
  have hcase' : (at_ = (j : Int)) ∨ (j = 0 ∧ decide (at_ < 0) = true) ∨ (j = 0 ∧ decide (at_ < 0) = false ∧ decide ((xs.length : Int) + 8 ≤ at_) = true) := by
    rcases hcase with h | ⟨h0, h⟩
    · exact .inl h
    · by_cases hn : at_ < 0
      · exact .inr (.inl ⟨h0, by simpa using hn⟩)
      · exact .inr (.inr ⟨h0, by simp; omega, by simp; omega⟩)
  clear hcase
  have fin : ∀ (e : Ending) (w' : World), (((sealed xs).set j tb).drop xs.length = tail8 (((sealed xs).set j tb).take xs.length) → ∃ v, e = .returned (.tuple #[v, .int .i64 0]) ∧ Own w' (w3.setCell ⟨g, j, none⟩ (byt tb)).heap.size v (((sealed xs).set j tb).take xs.length)) ∧
      (((sealed xs).set j tb).drop xs.length ≠ tail8 (((sealed xs).set j tb).take xs.length) → e = .returned (.tuple #[.slice none 0 0, .int .i64 14])) ∧ Below (w3.setCell ⟨g, j, none⟩ (byt tb)).heap.size (w3.setCell ⟨g, j, none⟩ (byt tb)) w' →
      ∃ v er, e = .returned (.tuple #[v, .int .i64 er]) ∧ Hid ((er == 0) = ((sb.toNat : Int) == (tb.toNat : Int))) ∧ Below w.heap.size w w' := by
    intro e w' ⟨h1, h2, h3⟩
    have hbw : Below w.heap.size w w' := (hb3.setCell (p := ⟨g, j, none⟩) hg (byt tb)).trans (h3.mono (by simp [World.setCell]; exact hb3.size))
    by_cases he : sb = tb
    · obtain ⟨v, rfl, _⟩ := h1 (HS.out.2 he)
      exact ⟨v, 0, rfl, by show ((0 : Int) == 0) = _; rw [he]; simp, hbw⟩
    · refine ⟨_, 14, h2 (fun h => he (HS.out.1 h)), ?_, hbw⟩
      show ((14 : Int) == 0) = _
      have : ((sb.toNat : Int) == (tb.toNat : Int)) = false := by
        rw [beq_eq_false_iff_ne]; intro h; exact he (UInt8.toNat_inj.1 (by omega))
      rw [this]; rfl
  have FIN := hide fin
  clear fin
  obtain ⟨A4, n4, c4, hv4, hn4, hnc4, hx4, _⟩ := HSET.out.form
  injection hv4 with e1 e2 e3
  subst e1 e2 e3
  have HX := hide hx4
  clear hx4
  have hlen4 : ((sealed xs).set j tb).length = xs.length + 8 := by simp; exact hsl
  have HOP := hide (open_walk (some ⟨g, 0, none⟩) xs.length cc _ ((sealed xs).set j tb) (w3.setCell ⟨g, j, none⟩ (byt tb)) HX.out (Nat.le_refl _) hlen4 (by omega) hcc)
  clear hn4 hlen4 HSET HX hsl
  unfold byt at HOP FIN
  have i1 : (j : Int) < (xs.length : Int) + 8 := by omega
  have t0 : (((xs.length + 8 : Nat) : Int) != (xs.length : Int) + 8) = false := by simp
  rcases hcase' with rfl | ⟨rfl, t1⟩ | ⟨rfl, t1, t2⟩
  · have t1 : decide ((j : Int) < 0) = false := decide_eq_false (by omega)
    have t2 : decide ((xs.length : Int) + 8 ≤ (j : Int)) = false := decide_eq_false (by omega)
    go_wp2_with fail
    refine HOP.out.mono ?_
    intro e w4 h4
    obtain ⟨v, er, rfl, hq, hbw⟩ := FIN.out e w4 h4
    clear h4
    go_wp2
    go_ret
    exact ⟨by rw [tells_end _ _ hq.out]; rfl, hbw⟩
  all_goals
    go_wp2_with fail
    refine HOP.out.mono ?_
    intro e w4 h4
    obtain ⟨v, er, rfl, hq, hbw⟩ := FIN.out e w4 h4
    clear h4
    go_wp2
    go_ret
    exact ⟨by rw [tells_end _ _ hq.out]; rfl, hbw⟩
end Go.Proofs.Ytofdjpophacldaa
