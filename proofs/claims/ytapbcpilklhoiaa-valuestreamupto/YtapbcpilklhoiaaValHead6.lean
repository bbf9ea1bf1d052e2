/-
  The head of synodlaw06. No condition.
-/
import Derived.Test.YtapbcpilklhoiaaValSame
import Derived.Test.YtapbcpilklhoiaaSame
import Derived.Deep.RegionHeld3
import Derived.Deep.DrawnRows
import Derived.Deep.DeepCutAuto
set_option linter.unusedSimpArgs false
set_option linter.unusedVariables false
namespace Go.Proofs.Ytapbcpilklhoiaa
open Go.RowKit

def lit9 : Array Value := #[.int .u8 1, .int .u8 2, .int .u8 0, .int .u8 1, .int .u8 2, .int .u8 1, .int .u8 1, .int .u8 1, .int .u8 2]
theorem lit9_eq : bcells hb9 = lit9 := rfl
theorem has9 (w : World) (g : Nat) (hg : g = w.heap.size) : Has (w.alloc (.cells lit9 5)) (g + 1) (some ⟨g, 0, none⟩) hb9 := by
  have := Has.new w 5 hb9 (0, 0) g hg
  rw [lit9_eq] at this
  exact this
theorem right12 : rightS [1, 2] := by decide

set_option maxHeartbeats 1600000 in
theorem head6_any (w : World) : Calls Try.prog 30 #[] w fun e w' => e = .returned (.bool true) ∧ Below w.heap.size w w' := by
  go_enter Try.func30, Try.ntmps30
  go_wp2_with fail
  refine (stop_any _).mono ?_
  rintro e w1 ⟨A1, rfl, hx1, hb1⟩
  go_wp2_with fail
  refine (vencode_stop none A1 0 2 2 w1.heap.size [1, 2] w1 hx1 (Nat.le_refl _) rfl right12).mono ?_
  rintro e w2 ⟨v2, rfl, ho2, hb2⟩
  rw [encV_head] at ho2
  obtain ⟨A2, n2, c2, rfl, hn2, hnc2, hx2, _⟩ := ho2.form
  obtain rfl : n2 = 9 := by rw [← hn2.out]; rfl
  have hb2' := hb1.trans (hb2.mono hb1.size)
  clear hb1 hb2 hx1 ho2
  have h9 := has9 w2 w2.heap.size rfl
  have hb3 := hb2'.alloc hb2'.size (.cells lit9 5)
  have hx3 : Has (w2.alloc (.cells lit9 5)) w2.heap.size A2 hb9 := hx2.alloc (Nat.le_refl _) _
  have hs3 : (w2.alloc (.cells lit9 5)).heap.size = w2.heap.size + 1 := by simp
  unfold lit9 at h9 hb3 hx3 hs3
  go_wp2_with fail
  generalize w2.alloc (.cells #[.int .u8 1, .int .u8 2, .int .u8 0, .int .u8 1, .int .u8 2, .int .u8 1, .int .u8 1, .int .u8 1, .int .u8 2] 5) = W3 at *
  refine (vdecode_head (some ⟨w2.heap.size, 0, none⟩) 9 (w2.heap.size + 1) W3 h9 (by omega)).mono ?_
  rintro e w4 ⟨A4, c4, rfl, ho4, hb4⟩
  obtain ⟨A', n', c', e', _, _, hx4⟩ := ho4.form
  injection e' with e1 e2 e3
  subst e1 e2 e3
  have hxb4 : Has w4 w2.heap.size A2 hb9 := hx3.keep fun k hk => hb4.block k (by omega)
  have hb4' := hb3.trans (hb4.mono hb3.size)
  have hz4 := hb4.size
  clear hb3 hb4 hx3 h9 hx2 ho4
  go_wp2_with fail
  have hnb := heap_alloc_new w4 (.cells #[.int .i64 2, .slice none 0 0, .slice A4 2 c4] 48)
  have k0 := (row_cells hnb 0).1
  have k1 := (row_cells hnb 1).1
  have k2 := (row_cells hnb 2).1
  simp only [List.getElem?_toArray, List.getElem?_cons_succ, List.getElem?_cons_zero] at k0 k1 k2
  have hb5 := hb4'.alloc hb4'.size (.cells #[.int .i64 2, .slice none 0 0, .slice A4 2 c4] 48)
  have hxb5 : Has (w4.alloc (.cells #[.int .i64 2, .slice none 0 0, .slice A4 2 c4] 48)) w2.heap.size A2 hb9 := hxb4.alloc (by omega) _
  have hx5 : HasI (w4.alloc (.cells #[.int .i64 2, .slice none 0 0, .slice A4 2 c4] 48)) w4.heap.size A4 [1, 2] := hx4.alloc (Nat.le_refl _) _
  have hs5 : (w4.alloc (.cells #[.int .i64 2, .slice none 0 0, .slice A4 2 c4] 48)).heap.size = w4.heap.size + 1 := by simp
  generalize w4.alloc (.cells #[.int .i64 2, .slice none 0 0, .slice A4 2 c4] 48) = W5 at *
  have hg5 : w4.heap.size < W5.heap.size := by omega
  have HSM : Hid (∀ W g, Has W w2.heap.size A2 hb9 → Has W (g + 1) (some ⟨g, 0, none⟩) hb9 → Calls Try.prog 37 #[.slice A2 9 c2, .slice (some ⟨g, 0, none⟩) 9 9] W fun e w' => e = .returned (.bool true) ∧ Below W.heap.size W w') := hide (fun W g h h' => (same_any A2 (some ⟨g, 0, none⟩) 9 9 c2 9 _ _ hb9 hb9 W h h' rfl rfl (by omega)).mono fun e w' => by
    rintro ⟨rfl, m, rfl⟩
    exact ⟨by rw [decide_eq_true rfl], below_drewN (Below.refl _ _) m⟩)
  have HRV : Hid (∀ W A7, HasI W W.heap.size A4 [1, 2] → HasI W W.heap.size A7 [1, 2] → Calls Try.prog 42 #[.agg #[.int .i64 2, .slice none 0 0, .slice A4 2 c4], .agg #[.int .i64 2, .slice none 0 0, .slice A7 2 2]] W fun e w' => e = .returned (.bool true) ∧ Below W.heap.size W w') := hide (fun W A7 h h' => by
    have := rvsame_any 2 2 none none A4 A7 0 0 0 0 2 2 c4 2 W.heap.size [] [] [1, 2] [1, 2] W (HasC.nil _ _ _) h (HasC.nil _ _ _) h' (Nat.le_refl _) rfl rfl rfl rfl (by omega) (by omega)
    rw [show sameV 2 [] [1, 2] 2 [] [1, 2] = true from by decide] at this
    exact this)
  have HKA : Hid (∀ ob, (W5.alloc ob).cell? ⟨w4.heap.size, 0, none⟩ = some (.int .i64 2) ∧ (W5.alloc ob).cell? ⟨w4.heap.size, 1, none⟩ = some (.slice none 0 0) ∧ (W5.alloc ob).cell? ⟨w4.heap.size, 2, none⟩ = some (.slice A4 2 c4)) := hide (fun ob => ⟨(World.cell?_alloc_past ob _ _ hg5).trans k0, (World.cell?_alloc_past ob _ _ hg5).trans k1, (World.cell?_alloc_past ob _ _ hg5).trans k2⟩)
  have HK3 : Hid (∀ W', Below W5.heap.size W5 W' → W'.cell? ⟨w4.heap.size, 0, none⟩ = some (.int .i64 2) ∧ W'.cell? ⟨w4.heap.size, 1, none⟩ = some (.slice none 0 0) ∧ W'.cell? ⟨w4.heap.size, 2, none⟩ = some (.slice A4 2 c4)) := hide (fun W' h => ⟨(h.cell (p := ⟨w4.heap.size, 0, none⟩) hg5).trans k0, (h.cell (p := ⟨w4.heap.size, 1, none⟩) hg5).trans k1, (h.cell (p := ⟨w4.heap.size, 2, none⟩) hg5).trans k2⟩)
  have HL9 : Hid (Has (W5.alloc (.cells #[.int .u8 1, .int .u8 2, .int .u8 0, .int .u8 1, .int .u8 2, .int .u8 1, .int .u8 1, .int .u8 1, .int .u8 2] 5)) (W5.heap.size + 1) (some ⟨W5.heap.size, 0, none⟩) hb9) := hide (has9 W5 W5.heap.size rfl)
  have HA9 : Hid (Has (W5.alloc (.cells #[.int .u8 1, .int .u8 2, .int .u8 0, .int .u8 1, .int .u8 2, .int .u8 1, .int .u8 1, .int .u8 1, .int .u8 2] 5)) w2.heap.size A2 hb9) := hide (hxb5.alloc (by omega) _)
  have HB6 : Hid (∀ ob w6, Below (W5.alloc ob).drew.heap.size (W5.alloc ob).drew w6 → Below W5.heap.size W5 w6) := hide (fun ob w6 h => (((Below.refl _ W5).alloc (Nat.le_refl _) ob).drew).trans (h.mono (by show W5.heap.size ≤ (W5.alloc ob).heap.size; simp)))
  have HX7 : Hid (∀ W', Below W5.heap.size W5 W' → HasI W' W'.heap.size A4 [1, 2]) := hide (fun W' h => (hx5.on (by omega) h).more (by have := h.size; omega))
  clear hs5
  go_region_held3 (fun w' => w'.cell? ⟨w4.heap.size, 0, none⟩ = some (.int .i64 2) ∧ w'.cell? ⟨w4.heap.size, 1, none⟩ = some (.slice none 0 0) ∧ w'.cell? ⟨w4.heap.size, 2, none⟩ = some (.slice A4 2 c4)) (first | exact ⟨k0, k1, k2⟩ | exact HKA.out _ | exact HK3.out _ b6 | exact HK3.out _ b7 | exact HK3.out _ b8 | go_keep) (first
    | ((go_at_call 37; (with_reducible refine (HSM.out _ W5.heap.size ?_ ?_).mono ?_)); exact HA9.out; exact HL9.out; rintro e w6 ⟨rfl, b6'⟩; have b6 := HB6.out _ _ b6')
    | ((go_at_call 44; (with_reducible refine (stop_any _).mono ?_)); rintro e w7 ⟨A7, rfl, hx7, b7'⟩; have b7 := b6.trans (b7'.mono b6.size))
    | ((go_at_call 42; (with_reducible refine (HRV.out _ A7 ?_ ?_).mono ?_)); exact HX7.out _ b7; exact hx7; rintro e w8 ⟨rfl, b8'⟩; have b8 := b7.trans (b8'.mono b7.size)))
  go_wp2
  go_ret
  exact ⟨rfl, hb5.trans (b8.mono hb5.size)⟩
end Go.Proofs.Ytapbcpilklhoiaa
