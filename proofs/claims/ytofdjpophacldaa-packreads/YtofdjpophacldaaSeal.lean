/-
  Seal of seal: the bytes and the eight of their sum behind them, in new memory. Conditions: the slice reads as bytes, at most 2^47 - 8 of them.
-/
import Derived.Test.YtofdjpophacldaaConcat
import Derived.Test.YtofdjpophacldaaSpell
namespace Go.Proofs.Ytofdjpophacldaa
open Go.RowKit

/-- The eight bytes of the sum of xs. -/
def tail8 (xs : List UInt8) : List UInt8 := be 8 (fsum basis xs).toNat
def sealed (xs : List UInt8) : List UInt8 := xs ++ tail8 xs
theorem tail8_length (xs : List UInt8) : (tail8 xs).length = 8 := be_length _ _
theorem sealed_length (xs : List UInt8) : (sealed xs).length = xs.length + 8 := by simp [sealed, tail8_length]
theorem eight_of (xs : List UInt8) (h : xs.length = 8) : ∃ c0 c1 c2 c3 c4 c5 c6 c7, xs = [c0, c1, c2, c3, c4, c5, c6, c7] := by
  match xs, h with
  | [c0, c1, c2, c3, c4, c5, c6, c7], _ => exact ⟨c0, c1, c2, c3, c4, c5, c6, c7, rfl⟩
theorem bcells8 (c0 c1 c2 c3 c4 c5 c6 c7 : UInt8) : bcells [c0, c1, c2, c3, c4, c5, c6, c7] = #[.int .u8 (c0.toNat : Int), .int .u8 (c1.toNat : Int), .int .u8 (c2.toNat : Int), .int .u8 (c3.toNat : Int), .int .u8 (c4.toNat : Int), .int .u8 (c5.toNat : Int), .int .u8 (c6.toNat : Int), .int .u8 (c7.toNat : Int)] := rfl

set_option maxHeartbeats 400000 in
theorem seal_any (A : Option Addr) (n c B : Nat) (xs : List UInt8) (w : World) (hx : Has w B A xs) (hB : B ≤ w.heap.size) (hn : xs.length = n) (hl : n + 8 ≤ 140737488355328) :
    Calls Try.prog 39 #[.slice A n c] w (Makes (sealed xs) w) := by
  go_enter Try.func39, Try.ntmps39
  go_wp2_with fail
  have hP := HasP.one w 26 ⟨A, n, c, xs⟩ _ rfl (hx.more hB) hn (by simp only; omega)
  refine (sum_any (some ⟨w.heap.size, 0, none⟩) 1 1 _ _ _ hP xs rfl (by simp) (by simp [catP])).mono ?_
  rintro e w1 ⟨rfl, rfl⟩
  go_wp2_with fail
  refine (spell_any (fsum basis xs).toNat _ (fsum basis xs).toNat_lt).mono ?_
  rintro e w1 ⟨rfl, hb1⟩
  have hbl := below_of_alloc hb1
  obtain ⟨c0, c1, c2, c3, c4, c5, c6, c7, h8⟩ := eight_of (tail8 xs) (tail8_length xs)
  have h8' : be 8 (fsum basis xs).toNat = [c0, c1, c2, c3, c4, c5, c6, c7] := h8
  rw [h8', bcells8]
  have H8 := hide h8
  clear h8 h8' hb1 hP
  go_wp2_with fail
  have hs := hbl.size
  have hx2 : Has (w1.alloc (.cells (bcells (tail8 xs)) 81)) (w1.heap.size + 1) A xs := ((((hx.more hB).below hbl).more hs).alloc (Nat.le_refl _) _).more (by omega)
  have hP := HasP.two (w1.alloc (.cells (bcells (tail8 xs)) 81)) 26 ⟨A, n, c, xs⟩ ⟨some ⟨w1.heap.size, 0, none⟩, 8, 8, tail8 xs⟩ (w1.heap.size + 1) (by simp) hx2 hn (by simp only; omega) (Has.new w1 81 (tail8 xs) (0, 0) _ rfl) (tail8_length xs) (by simp)
  rw [H8.out, bcells8] at hP
  refine (concat_any (some ⟨w1.heap.size + 1, 0, none⟩) 2 2 _ _ _ hP (by simp) (sealed xs) rfl (by simp) (by simp [catP, sealed, H8.out]) (by rw [sealed_length]; omega)).mono ?_
  rintro e w2 ⟨v2, rfl, ho2, hb2⟩
  go_wp2
  go_ret
  have hb3 := below_of_alloc (below_of_alloc hb2)
  refine ⟨v2, rfl, ho2.from_ ?_, hbl.trans (hb3.mono hs)⟩
  simp
  omega
end Go.Proofs.Ytofdjpophacldaa
