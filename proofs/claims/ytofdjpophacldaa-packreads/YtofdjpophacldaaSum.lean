/-
  Sum of seal over any pieces: the fold of the step over all bytes. Conditions: the pieces read as bytes, each at most 2^47.
-/
import Derived.Test.YtofdjpophacldaaCopy
import Derived.Test.YtofdjpophacldaaFnv

namespace Go.Proofs.Ytofdjpophacldaa
open Go.RowKit

/-- A piece: where it lies, its capacity, its bytes. -/
structure Piece where
  spot : Option Addr
  len : Nat
  cap : Nat
  bs : List UInt8
def Piece.val (p : Piece) : Value := .slice p.spot p.len p.cap
/-- The slice of slices that begins at A holds these pieces, all of it in blocks below B. -/
def HasP (w : World) (B : Nat) (A : Option Addr) (ps : List Piece) : Prop :=
  ∀ k (h : k < ps.length), (∃ b o, A = some ⟨b, o, none⟩ ∧ b < B ∧ w.cell? ⟨b, o + k, none⟩ = some ps[k].val) ∧ Has w B ps[k].spot ps[k].bs ∧ ps[k].bs.length = ps[k].len ∧ ps[k].len ≤ 140737488355328
def catP (ps : List Piece) : List UInt8 := ps.flatMap Piece.bs
theorem catP_take (ps : List Piece) (k : Nat) (hk : k < ps.length) : catP (ps.take (k + 1)) = catP (ps.take k) ++ ps[k].bs := by
  unfold catP
  rw [List.take_succ_eq_append_getElem hk, List.flatMap_append, List.flatMap_singleton]

theorem HasP.below {w w' : World} {B : Nat} {A : Option Addr} {ps : List Piece} (h : HasP w B A ps) (hb : Below B w w') : HasP w' B A ps := by
  intro k hk
  obtain ⟨⟨b, o, hA, hlt, hc⟩, h2, h3⟩ := h k hk
  exact ⟨⟨b, o, hA, hlt, (hb.cell (p := ⟨b, o + k, none⟩) hlt).trans hc⟩, h2.below hb, h3⟩
/-- One piece, laid in a new block. -/
theorem HasP.one (w : World) (t : TypeId) (p : Piece) (g : Nat) (hg : g = w.heap.size) (h : Has w g p.spot p.bs) (hn : p.bs.length = p.len) (hl : p.len ≤ 140737488355328) :
    HasP (w.alloc (.cells #[p.val] t)) (g + 1) (some ⟨g, 0, none⟩) [p] := by
  subst hg
  intro k hk
  have e : k = 0 := by simpa using hk
  subst e
  exact ⟨⟨w.heap.size, 0, rfl, by omega, by simp⟩, (h.alloc (Nat.le_refl _) _).more (by omega), hn, hl⟩

/-- Two pieces, laid in a new block. -/
theorem HasP.two (w : World) (t : TypeId) (p q : Piece) (g : Nat) (hg : g = w.heap.size) (h : Has w g p.spot p.bs) (hn : p.bs.length = p.len) (hl : p.len ≤ 140737488355328)
    (h' : Has w g q.spot q.bs) (hn' : q.bs.length = q.len) (hl' : q.len ≤ 140737488355328) :
    HasP (w.alloc (.cells #[p.val, q.val] t)) (g + 1) (some ⟨g, 0, none⟩) [p, q] := by
  subst hg
  intro k hk
  have e : k = 0 ∨ k = 1 := by simp at hk; omega
  rcases e with rfl | rfl
  · exact ⟨⟨w.heap.size, 0, rfl, by omega, by simp⟩, (h.alloc (Nat.le_refl _) _).more (by omega), hn, hl⟩
  · exact ⟨⟨w.heap.size, 0, rfl, by omega, by simp⟩, (h'.alloc (Nat.le_refl _) _).more (by omega), hn', hl'⟩

set_option maxHeartbeats 400000 in
theorem sum_any (A : Option Addr) (n c B : Nat) (ps : List Piece) (w : World) (hx : HasP w B A ps) (zs : List UInt8) (hpn : ps.length = n) (hn : n ≤ 140737488355328) (hzs : catP ps = zs) :
    Calls Try.prog 37 #[.slice A n c] w fun e w' => e = .returned (.int .u64 ((fsum basis zs).toNat : Int)) ∧ w = w' := by
  subst hzs
  subst hpn
  go_enter Try.func37, Try.ntmps37
  go_wp2
  go_loop [3, 10] (fun s i => ∃ k : Nat, k ≤ ps.length ∧ i = .int .i64 k ∧ s = u64v (fsum basis (catP (ps.take k)))) (fun _ i => ps.length - (intOf i).toNat)
  case atStart => exact ⟨0, Nat.zero_le _, rfl, rfl⟩
  case round =>
    obtain ⟨k, hk, rfl, rfl⟩ := hrel
    by_cases hlt : k < ps.length
    · obtain ⟨⟨b, o, rfl, hb, hc⟩, hp, hpl, hl⟩ := hx k hlt
      unfold Piece.val at hc
      have HC : Hid (catP (ps.take (k + 1)) = catP (ps.take k) ++ ps[k].bs) := catP_take ps k hlt
      generalize hs0 : fsum basis (catP (ps.take k)) = s0 at *
      have HS := hide hs0
      clear hs0
      generalize ps[k] = p at *
      obtain ⟨pa, pn, pc, pb⟩ := p
      simp only at hc hp hl hpl HC
      subst hpl
      go_wp2
      go_loop [3, 16] (fun s i => ∃ j : Nat, j ≤ pb.length ∧ i = .int .i64 j ∧ s = u64v (fsum s0 (pb.take j))) (fun _ i => pb.length - (intOf i).toNat)
      case atStart => exact ⟨0, Nat.zero_le _, rfl, rfl⟩
      case round =>
        obtain ⟨j, hj, rfl, rfl⟩ := hrel
        by_cases hjl : j < pb.length
        · obtain ⟨b2, o2, rfl, hb2, hc2⟩ := hp j hjl
          have HF : Hid (fsum s0 (pb.take (j + 1)) = fstep (fsum s0 (pb.take j)) pb[j]) := fsum_take s0 pb j hjl
          generalize fsum s0 (pb.take j) = s1 at *
          generalize pb[j] = cc at *
          unfold byt at hc2
          unfold u64v
          go_wp2
          go_round
          case rel => exact ⟨j + 1, by omega, by go_num, by rw [HF.out]; exact fstep_val s1 cc⟩
          case measure => simp [intOf]; omega
        · go_wp2
          go_round
          case rel =>
            have e : j = pb.length := by omega
            subst e
            exact ⟨k + 1, by omega, by go_num, by rw [HC.out, fsum_append, HS.out, List.take_length]⟩
          case measure => simp [intOf]; omega
    · go_wp2
      go_ret
      have e : k = ps.length := by omega
      subst e
      exact ⟨by rw [List.take_length]; rfl, rfl⟩
end Go.Proofs.Ytofdjpophacldaa
