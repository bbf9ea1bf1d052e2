/-
  The walk of NetFull. No condition.
-/
import Derived.Test.YtpbfibofjkinmaaNetF
set_option linter.unusedSimpArgs false
set_option linter.unusedVariables false
namespace Go.Proofs.Ytpbfibofjkinmaa
open Go.RowKit

/-- The packets that NetFull puts: the j-th comes from 1 + j % 9 and holds xs. -/
def Row9 (xs : List UInt8) (k : Nat) (ps : List Pkt) : Prop := ∀ (j : Nat) p, ps[j]? = some p → p.f = 1 + ((j + k : Nat) : Int) % 9 ∧ p.t = 1 ∧ p.xs = xs
theorem Row9.add {xs : List UInt8} {ps : List Pkt} {i : Nat} (h : Row9 xs 0 ps) (hi : ps.length = i) (A : Option Addr) (n c : Nat) : Row9 xs 0 (ps ++ [⟨1 + (i : Int) % 9, 1, A, n, c, xs⟩]) := by
  intro j p hp
  rcases Nat.lt_or_ge j ps.length with hj | hj
  · rw [List.getElem?_append_left hj] at hp
    exact h j p hp
  · have h1 := (List.getElem?_eq_some_iff.1 hp).1
    simp at h1
    obtain rfl : j = ps.length := by omega
    simp at hp
    subst hp
    exact ⟨by rw [hi]; rfl, rfl, rfl⟩
theorem Row9.tail {xs : List UInt8} {p : Pkt} {ps : List Pkt} {k : Nat} (h : Row9 xs k (p :: ps)) : Row9 xs (k + 1) ps := fun j q hq => by
  have := h (j + 1) q (by simpa using hq)
  rwa [show j + 1 + k = j + (k + 1) by omega] at this

set_option maxHeartbeats 1600000 in
set_option maxRecDepth 20000 in
theorem netFull_walk (A : Option Addr) (c : Nat) (xs : List UInt8) (w : World) (hx : Has w w.heap.size A xs) (hc : xs.length ≤ c) (hz : c ≤ 140737488351232) :
    Calls Try.prog 7 #[.slice A xs.length c] w fun e w' => e = .returned (.bool true) ∧ Below w.heap.size w w' := by
  obtain ⟨n, hn⟩ : ∃ n, n = xs.length := ⟨_, rfl⟩
  rw [← hn]
  have HN := hide hn
  clear hn
  go_enter Try.func7, Try.ntmps7
  go_wp2_with fail
  refine (head12_any w).mono ?_
  rintro e w1 ⟨rfl, hb1⟩
  go_wp2_with fail
  refine (nnew_any w1).mono ?_
  rintro e w2 ⟨rfl, hN2, hk2⟩
  have hb2 := hb1.trans (hk2.mono hb1.size)
  by_cases h100 : n ≤ 100
  · have hw1 := hb1.size
    have hok : ∀ j : Nat, okP (1 + (j : Int) % 9) 1 xs.length := fun j => by
      have := HN.out
      unfold okP
      refine ⟨by omega, by omega, by omega, by omega, by omega⟩
    have HOK := hide hok
    clear hok
    go_wp2
    go_loopw [4] (fun i wr => ∃ (j : Nat) (v : Value) (ps : List Pkt), j ≤ 512 ∧ i = .int .i64 (j : Int) ∧ Hid (ps.length = j) ∧ IsN wr w1.heap.size w1.heap.size v ps ∧ Row9 xs 0 ps ∧ Below w.heap.size w wr) (fun i _ => 512 - (intOf i).toNat)
    case atStart => exact ⟨0, _, [], by omega, rfl, rfl, hN2, (fun j p hp => by simp at hp), hb2⟩
    case round =>
      obtain ⟨j, v, ps, hj, rfl, hl, hN, hR, hb⟩ := hrel
      clear hN2 hk2 hb2 hb1
      by_cases hlt : j < 512
      · have m9 : IntKind.i64.wrap (1 + (j : Int) % 9) = 1 + (j : Int) % 9 := IntWalk.i64_in _ (by omega)
        have hz1 := hb.size
        have hzr := lt_of_block hN.blk
        go_wp2_with fail
        refine (copy_any A n c xs wr ((hx.below hb).more hz1) HN.out.symm (by omega)).mono ?_
        rintro e w3 ⟨rfl, hw3⟩
        have hb3 : Below w1.heap.size wr w3 := by rw [← hw3]; exact (Below.refl _ _).alloc (by omega) _
        have hx3 : Has w3 (wr.heap.size + 1) (some ⟨wr.heap.size, 0, none⟩) xs := by rw [← hw3]; exact Has.new wr 5 xs (0, 0) _ rfl
        have hs3 : wr.heap.size + 1 ≤ w3.heap.size := by rw [← hw3]; simp
        have hN3 : IsN w3 w1.heap.size w1.heap.size v ps := by rw [← hw3]; exact hN.below ((Below.refl _ _).alloc (Nat.le_refl _) _)
        clear hw3
        have hput := nput_ok w1.heap.size w1.heap.size v ps (1 + (j : Int) % 9) 1 (some ⟨wr.heap.size, 0, none⟩) n n (wr.heap.size + 1) xs w3 hN3 hx3 hs3 HN.out.symm (putE_zero (HOK.out j) (by rw [hl.out]; exact hlt))
        go_wp2_with fail
        refine hput.mono ?_
        rintro e w4 ⟨rfl, v4, A4, n4, c4, hN4, hk4⟩
        have hb4 : Below w.heap.size w w4 := (hb.trans (hb3.mono hw1)).trans (hk4.mono hw1)
        clear hput hN3 hx3
        go_wp2_with fail
        go_roundw
        case rel => exact ⟨j + 1, v4, _, by omega, by go_num, hide (by simp; exact hl.out), hN4, hR.add hl.out A4 n4 c4, hb4⟩
        case measure => simp [intOf]; omega
      · obtain rfl : j = 512 := by omega
        have hzr := lt_of_block hN.blk
        have hw1' := hb.size
        have hput := nput_not w1.heap.size w1.heap.size v ps 1 1 none 0 0 0 [] wr 43 hN (Has.nil _ _ _) (by omega) rfl (by rw [putE_ok (by unfold okP; simp), if_neg (by rw [hl.out]; omega)]) (by omega)
        go_wp2_with fail
        refine hput.mono ?_
        rintro e w3 ⟨rfl, hN3, hk3⟩
        have hb3 := hb.trans (hk3.mono hw1)
        clear hput hN hb hk3
        obtain ⟨p0, hp0⟩ : ∃ p0, ps[0]? = some p0 := ⟨_, List.getElem?_eq_getElem (by rw [hl.out]; omega)⟩
        have hcp := ncopy_full w1.heap.size w1.heap.size v ps 0 p0 w3 hN3 hp0 (by rw [hl.out]; omega)
        clear hp0
        go_wp2_with fail
        refine hcp.mono ?_
        rintro e w4 ⟨rfl, hN4, hk4⟩
        have hb4 := hb3.trans (hk4.mono hw1)
        clear hcp hN3 hb3 hk4
        have hlen := nlen_any w1.heap.size w1.heap.size v ps w4 hN4
        rw [hl.out] at hlen
        go_wp2_with fail
        refine hlen.mono ?_
        rintro e w5 ⟨rfl, rfl⟩
        clear hlen
        go_wp2
        go_loopw [5, 6, 7] (fun i _ _ wr => ∃ (j : Nat) (v : Value) (ps : List Pkt), j ≤ 512 ∧ i = .int .i64 (j : Int) ∧ Hid (ps.length + j = 512) ∧ IsN wr w1.heap.size w1.heap.size v ps ∧ Row9 xs j ps ∧ Below w.heap.size w wr) (fun i _ _ _ => 512 - (intOf i).toNat)
        case atStart => exact ⟨0, v, ps, by omega, rfl, hide (by rw [hl.out]), hN4, hR, hb4⟩
        case round =>
          obtain ⟨j, v5, ps5, hj5, rfl, hl5, hN5, hR5, hb5⟩ := hrel
          clear hR hl hN4 hb4
          have hzr5 := lt_of_block hN5.blk
          by_cases hlt : j < 512
          · have m9 : IntKind.i64.wrap (1 + (j : Int) % 9) = 1 + (j : Int) % 9 := IntWalk.i64_in _ (by omega)
            cases ps5 with
            | nil => have := hl5.out; simp at this; omega
            | cons p5 ps6 =>
              obtain ⟨e1, e2, e3⟩ := hR5 0 p5 rfl
              obtain ⟨pf, pt, pA, pn, pc, px⟩ := p5
              simp only at e1 e2 e3
              subst e2 e3
              rw [show ((0 + j : Nat) : Int) = (j : Int) by omega] at e1
              subst e1
              have htk := ntake_ok w1.heap.size w1.heap.size v5 _ 0 _ wr hN5 rfl
              have hR6 := hR5.tail
              have hl6 : Hid (ps6.length + (j + 1) = 512) := hide (by have := hl5.out; simp at this; omega)
              go_wp2_with fail
              refine htk.mono ?_
              rintro e w6 ⟨rfl, v6, hN6, ho6, hk6⟩
              have hb6 := hb5.trans (hk6.mono hw1)
              clear htk hN5 hR5 hl5
              simp only [List.take_zero, Nat.zero_add, List.drop_succ_cons, List.drop_zero, List.nil_append] at hN6
              go_wp2_with fail
              have hN7 := hN6.below ((Below.refl _ _).alloc (Nat.le_refl _) (.cells #[.int .i64 (1 + (j : Int) % 9), .int .i64 1, .slice pA pn pc] 34))
              have hb7 : Below w.heap.size w (w6.alloc (.cells #[.int .i64 (1 + (j : Int) % 9), .int .i64 1, .slice pA pn pc] 34)) := hb6.alloc hb6.size _
              obtain ⟨hxp, hxn⟩ := own_has (ho6.alloc (.cells #[.int .i64 (1 + (j : Int) % 9), .int .i64 1, .slice pA pn pc] 34))
              have hx7 := hx.below hb7
              generalize w6.alloc (.cells #[.int .i64 (1 + (j : Int) % 9), .int .i64 1, .slice pA pn pc] 34) = w7 at *
              refine (same_any pA A pn n pc c _ _ px px w7 hxp hx7 hxn HN.out.symm (by have h1 := HN.out; have h2 : px.length = pn := hxn; omega)).mono ?_
              rintro e w8 ⟨rfl, m8, rfl⟩
              rw [decide_eq_true rfl]
              have hN8 := hN7.below (below_drewN (Below.refl w7.heap.size w7) m8)
              have hb8 := below_drewN hb7 m8
              generalize w7.drewN m8 = w8 at *
              clear hx7 hxp hN7 ho6 hN6 hb6 hb7
              go_wp2_with fail
              go_roundw
              case rel => exact ⟨j + 1, v6, ps6, by omega, by go_num, hl6, hN8, hR6, hb8⟩
              case measure => simp [intOf]; omega
          · obtain rfl : j = 512 := by omega
            have hn0 : ps5 = [] := List.eq_nil_of_length_eq_zero (by have := hl5.out; omega)
            subst hn0
            have htk := ntake_no (.pointer (some ⟨w1.heap.size, 0, none⟩)) 0 0 wr (nlen_below hN5) (hasB_zero 0)
            go_wp2_with fail
            refine htk.mono ?_
            rintro e w6 ⟨rfl, hk6⟩
            have hN6 := hN5.below hk6
            have hb6 := hb5.trans (hk6.mono hb5.size)
            clear htk hN5 hb5 hR5 hl5
            go_wp2_with fail
            have hN7 := hN6.below ((Below.refl _ _).alloc (Nat.le_refl _) (.cells #[.int .i64 0, .int .i64 0, .slice none 0 0] 34))
            have hb7 : Below w.heap.size w (w6.alloc (.cells #[.int .i64 0, .int .i64 0, .slice none 0 0] 34)) := hb6.alloc hb6.size _
            generalize w6.alloc (.cells #[.int .i64 0, .int .i64 0, .slice none 0 0] 34) = w7 at *
            refine (nlen_any w1.heap.size w1.heap.size v5 [] w7 hN7).mono ?_
            rintro e w8 ⟨rfl, rfl⟩
            go_wp2
            go_ret
            exact ⟨rfl, hb7⟩
  · go_wp2
    go_ret
    exact ⟨rfl, hb2⟩
end Go.Proofs.Ytpbfibofjkinmaa
