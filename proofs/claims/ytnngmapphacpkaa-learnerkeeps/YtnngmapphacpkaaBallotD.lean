/-
  Next, Compare, Valid of package ballot, and their references. No condition but the reach of what is read.
-/
import Derived.Test.YtnngmapphacpkaaBallotC
import Derived.Deep.RegionHeld3
import Derived.Deep.DrawnRows
import Derived.Deep.DeepCutAuto
set_option linter.unusedSimpArgs false
set_option linter.unusedVariables false
namespace Go.Proofs.Ytnngmapphacpkaa
open Go.RowKit

/-- What Next answers: a ballot and an error. -/
def NextEnds (xs : List Int) (r v : Int) (w : World) (e : Ending) (w' : World) : Prop :=
  ((e = .returned (.tuple #[.agg #[.int .i64 0, .int .i64 0], .int .i64 1]) ∧ (v ∉ xs ∨ r < 0 ∨ 1099511627776 < r)) ∨
    ∃ p q : Nat, p < xs.length ∧ xs.getD p 0 = v ∧ r = q ∧ q ≤ 1099511627776 ∧
      ((e = .returned (.tuple #[.agg #[.int .i64 0, .int .i64 0], .int .i64 27]) ∧ 1099511627776 < q + 1 + wt xs.length p q) ∨
       (e = .returned (.tuple #[.agg #[.int .i64 ((q + wt xs.length p q : Nat) + 1), .int .i64 v], .int .i64 0]) ∧ q + 1 + wt xs.length p q ≤ 1099511627776))) ∧ Below w.heap.size w w'

theorem isNaN_any (a : Int) (w : World) : Calls Try.prog 77 #[.int .i64 a] w fun e w' => e = .returned (.bool false) ∧ w = w' := by
  go_enter Try.func77, Try.ntmps77
  go_wp2
  go_ret
  exact ⟨by simp, rfl⟩

def cmp1 (a b : Int) : Int := if a < b then -1 else if b < a then 1 else 0
theorem compare1_any (a b : Int) (w : World) : Calls Try.prog 69 #[.int .i64 a, .int .i64 b] w fun e w' => e = .returned (.int .i64 (cmp1 a b)) ∧ w = w' := by
  go_enter Try.func69, Try.ntmps69
  go_wp2_with fail
  refine (isNaN_any a w).mono ?_
  rintro e w' ⟨rfl, rfl⟩
  go_wp2_with fail
  refine (isNaN_any b w).mono ?_
  rintro e w' ⟨rfl, rfl⟩
  by_cases h1 : a < b
  · have HE : Hid (cmp1 a b = -1) := if_pos h1
    go_wp2
    go_ret
    exact ⟨by rw [HE.out]; rfl, rfl⟩
  by_cases h2 : b < a
  · have HE : Hid (cmp1 a b = 1) := hide (by unfold cmp1; rw [if_neg h1, if_pos h2])
    go_wp2
    go_ret
    exact ⟨by rw [HE.out]; rfl, rfl⟩
  · have HE : Hid (cmp1 a b = 0) := hide (by unfold cmp1; rw [if_neg h1, if_neg h2])
    go_wp2
    go_ret
    exact ⟨by rw [HE.out]; rfl, rfl⟩

def pick2 (x y : Int) : Int := if x ≠ 0 then x else y
def cmp2 (a b c d : Int) : Int := pick2 (cmp1 a c) (cmp1 b d)

theorem or_any (A : Option Addr) (c B : Nat) (x y : Int) (w : World) (hx : HasI w B A [x, y]) : Calls Try.prog 68 #[.slice A 2 c] w fun e w' => e = .returned (.int .i64 (pick2 x y)) ∧ w = w' := by
  obtain ⟨b, o, rfl, hb, hc0⟩ := hx 0 (by simp)
  have hc1 := (hx.at_ 1 (by simp)).2
  simp only [List.getElem_cons_zero, List.getElem_cons_succ, Nat.add_zero] at hc0 hc1
  go_enter Try.func68, Try.ntmps68
  go_wp2
  go_loop [8] (fun i => ∃ k : Nat, k ≤ 2 ∧ i = .int .i64 k ∧ Hid (0 < k → x = 0) ∧ Hid (1 < k → y = 0)) (fun i => 2 - (intOf i).toNat)
  case atStart => exact ⟨0, by omega, rfl, fun h => absurd h (by omega), fun h => absurd h (by omega)⟩
  case round =>
    obtain ⟨k, hk, rfl, hx0, hy0⟩ := hrel
    by_cases h0 : k = 0
    · subst h0
      by_cases hz : x = 0
      · have t1 : (x != 0) = false := by simp [hz]
        have HZ := hide hz
        clear hz
        go_wp2
        go_round
        case rel => exact ⟨1, by omega, by go_num, fun _ => HZ.out, fun h => absurd h (by omega)⟩
        case measure => simp [intOf]
      · have t1 : (x != 0) = true := by simpa using hz
        have HZ : Hid (pick2 x y = x) := hide (if_pos hz)
        clear hz
        go_wp2
        go_ret
        exact ⟨by rw [HZ.out]; rfl, rfl⟩
    by_cases h1 : k = 1
    · subst h1
      by_cases hz : y = 0
      · have t1 : (y != 0) = false := by simp [hz]
        have HZ := hide hz
        clear hz
        go_wp2
        go_round
        case rel => exact ⟨2, by omega, by go_num, fun _ => hx0.out (by omega), fun _ => HZ.out⟩
        case measure => simp [intOf]
      · have t1 : (y != 0) = true := by simpa using hz
        have HX : Hid (pick2 x y = y) := hide (if_neg (by simp [hx0.out (by omega)]))
        clear hz
        go_wp2
        go_ret
        exact ⟨by rw [HX.out]; rfl, rfl⟩
    · obtain rfl : k = 2 := by omega
      have HX : Hid (pick2 x y = 0) := hide ((if_neg (by simp [hx0.out (by omega)])).trans (hy0.out (by omega)))
      go_wp2
      go_ret
      exact ⟨by rw [HX.out]; rfl, rfl⟩

theorem two_kept (a b c d : Int) (w : World) :
    ((((w.alloc (.cells #[.int .i64 a, .int .i64 b] 40)).alloc (.cells #[.int .i64 c, .int .i64 d] 40)).cell? ⟨w.heap.size, 0, none⟩ = some (.int .i64 a) ∧ ((w.alloc (.cells #[.int .i64 a, .int .i64 b] 40)).alloc (.cells #[.int .i64 c, .int .i64 d] 40)).cell? ⟨w.heap.size, 1, none⟩ = some (.int .i64 b) ∧ ((w.alloc (.cells #[.int .i64 a, .int .i64 b] 40)).alloc (.cells #[.int .i64 c, .int .i64 d] 40)).cell? ⟨w.heap.size + 1, 0, none⟩ = some (.int .i64 c) ∧ ((w.alloc (.cells #[.int .i64 a, .int .i64 b] 40)).alloc (.cells #[.int .i64 c, .int .i64 d] 40)).cell? ⟨w.heap.size + 1, 1, none⟩ = some (.int .i64 d)) ∧
      ∀ o, ((((w.alloc (.cells #[.int .i64 a, .int .i64 b] 40)).alloc (.cells #[.int .i64 c, .int .i64 d] 40)).alloc o).cell? ⟨w.heap.size, 0, none⟩ = some (.int .i64 a) ∧ (((w.alloc (.cells #[.int .i64 a, .int .i64 b] 40)).alloc (.cells #[.int .i64 c, .int .i64 d] 40)).alloc o).cell? ⟨w.heap.size, 1, none⟩ = some (.int .i64 b) ∧ (((w.alloc (.cells #[.int .i64 a, .int .i64 b] 40)).alloc (.cells #[.int .i64 c, .int .i64 d] 40)).alloc o).cell? ⟨w.heap.size + 1, 0, none⟩ = some (.int .i64 c) ∧ (((w.alloc (.cells #[.int .i64 a, .int .i64 b] 40)).alloc (.cells #[.int .i64 c, .int .i64 d] 40)).alloc o).cell? ⟨w.heap.size + 1, 1, none⟩ = some (.int .i64 d))) := by
  have k1 : ∀ i, ((w.alloc (.cells #[.int .i64 a, .int .i64 b] 40)).alloc (.cells #[.int .i64 c, .int .i64 d] 40)).cell? ⟨w.heap.size, i, none⟩ = (#[.int .i64 a, .int .i64 b] : Array Value)[i]? := fun i =>
    (World.cell?_alloc_past (w := w.alloc _) _ w.heap.size i (by simp)).trans (cell_of_row _ _ _ _ _ _ (heap_alloc_new w _))
  have k2 : ∀ i, ((w.alloc (.cells #[.int .i64 a, .int .i64 b] 40)).alloc (.cells #[.int .i64 c, .int .i64 d] 40)).cell? ⟨w.heap.size + 1, i, none⟩ = (#[.int .i64 c, .int .i64 d] : Array Value)[i]? := fun i => by simp
  refine ⟨⟨k1 0, k1 1, k2 0, k2 1⟩, fun o => ⟨?_, ?_, ?_, ?_⟩⟩
  · exact (World.cell?_alloc_past o w.heap.size 0 (by simp; omega)).trans (k1 0)
  · exact (World.cell?_alloc_past o w.heap.size 1 (by simp; omega)).trans (k1 1)
  · exact (World.cell?_alloc_past o (w.heap.size + 1) 0 (by simp)).trans (k2 0)
  · exact (World.cell?_alloc_past o (w.heap.size + 1) 1 (by simp)).trans (k2 1)

theorem compare_any (a b c d : Int) (w : World) : Calls Try.prog 55 #[.agg #[.int .i64 a, .int .i64 b], .agg #[.int .i64 c, .int .i64 d]] w fun e w' => e = .returned (.int .i64 (cmp2 a b c d)) ∧ Below w.heap.size w w' := by
  go_enter Try.func55, Try.ntmps55
  go_wp2_with fail
  have HK := hide (two_kept a b c d w)
  go_region_held3 (fun w' => w'.cell? ⟨w.heap.size, 0, none⟩ = some (.int .i64 a) ∧ w'.cell? ⟨w.heap.size, 1, none⟩ = some (.int .i64 b) ∧ w'.cell? ⟨w.heap.size + 1, 0, none⟩ = some (.int .i64 c) ∧ w'.cell? ⟨w.heap.size + 1, 1, none⟩ = some (.int .i64 d)) (first | exact HK.out.1 | exact HK.out.2 _ | go_keep) (first
    | ((go_at_call 69; (with_reducible refine (compare1_any a c _).mono ?_)); rintro e w2 ⟨rfl, rfl⟩)
    | ((go_at_call 69; (with_reducible refine (compare1_any b d _).mono ?_)); rintro e w2 ⟨rfl, rfl⟩)
    | ((go_at_call 68; (with_reducible refine (or_any (some ⟨w.heap.size + 1 + 1, 0, none⟩) 2 (w.heap.size + 1 + 1 + 1) (cmp1 a c) (cmp1 b d) _ ?_).mono ?_)); exact HasI.new ((w.alloc _).alloc _) 3 [cmp1 a c, cmp1 b d] (0, 0) _ (by simp); rintro e w2 ⟨rfl, rfl⟩))
  go_wp2
  go_ret
  exact ⟨rfl, by go_grown⟩
end Go.Proofs.Ytnngmapphacpkaa
