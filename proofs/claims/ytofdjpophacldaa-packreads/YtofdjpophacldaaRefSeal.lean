/-
  Sum, Seal and Open of synodref02: the same sum by long multiplication, the same sealed bytes, the same answers. Conditions: the slices read as bytes, at most 2^47 - 8 of them.
-/
import Derived.Test.YtofdjpophacldaaSeal
import Derived.Test.YtofdjpophacldaaSame
namespace Go.Proofs.Ytofdjpophacldaa
open Go.RowKit

theorem long_step (h : UInt64) (c : UInt8) : Value.int .u64 (IntKind.u64.wrap (IntKind.u64.wrap (bits .xor .u64 (h.toNat : Int) (IntKind.u64.wrap (c.toNat : Int)) * 435) + IntKind.u64.wrap (bits .xor .u64 (h.toNat : Int) (IntKind.u64.wrap (c.toNat : Int)) * 1099511627776))) = Value.int .u64 ((fstep h c).toNat : Int) := by
  rw [← fstep_val]
  congr 1
  simp only [IntKind.wrap_u64]
  omega

theorem refsum_any (A : Option Addr) (n c B : Nat) (xs : List UInt8) (w : World) (hx : Has w B A xs) (hn : xs.length = n) (hl : n ≤ 140737488355328) :
    Calls Try.prog 38 #[.slice A n c] w fun e w' => e = .returned (.int .u64 ((fsum basis xs).toNat : Int)) ∧ w = w' := by
  subst hn
  go_enter Try.func38, Try.ntmps38
  go_wp2
  go_loop [3, 7] (fun s i => ∃ k : Nat, k ≤ xs.length ∧ i = .int .i64 k ∧ s = u64v (fsum basis (xs.take k))) (fun _ i => xs.length - (intOf i).toNat)
  case atStart => exact ⟨0, Nat.zero_le _, rfl, rfl⟩
  case round =>
    obtain ⟨k, hk, rfl, rfl⟩ := hrel
    by_cases hlt : k < xs.length
    · obtain ⟨b, o, rfl, hb, hc⟩ := hx k hlt
      have HF := hide (fsum_take basis xs k hlt)
      generalize fsum basis (xs.take k) = s1 at *
      generalize xs[k] = cc at *
      unfold byt at hc
      unfold u64v
      go_wp2
      go_round
      case rel => exact ⟨k + 1, by omega, by go_num, by rw [HF.out]; exact long_step s1 cc⟩
      case measure => simp [intOf]; omega
    · have e : k = xs.length := by omega
      subst e
      rw [List.take_length]
      go_wp2
      go_ret
      exact ⟨rfl, rfl⟩

/-- The number shifted up by i bytes, and its highest byte. -/
theorem high_byte (u i : Nat) (h : i < 8) : (u * 256 ^ i % 18446744073709551616) / 72057594037927936 = u / 256 ^ (7 - i) % 256 := by
  have hi : i = 0 ∨ i = 1 ∨ i = 2 ∨ i = 3 ∨ i = 4 ∨ i = 5 ∨ i = 6 ∨ i = 7 := by omega
  rcases hi with rfl | rfl | rfl | rfl | rfl | rfl | rfl | rfl <;> simp only [Nat.reducePow, Nat.reduceSub] <;> omega
theorem be_up (u i : Nat) (h : i < 8) : (be 8 u).take (i + 1) = (be 8 u).take i ++ [UInt8.ofNat (u * 256 ^ i % 18446744073709551616 / 72057594037927936)] := by
  have h1 := be_take 8 u (7 - i) (by omega)
  have e1 : 8 - (7 - i) = i + 1 := by omega
  have e2 : 8 - (7 - i + 1) = i := by omega
  rw [e1, e2] at h1
  rw [h1, high_byte u i h]
  congr 2
  apply UInt8.toNat_inj.1
  simp

theorem top_byte (s : Nat) (h : s < 18446744073709551616) : IntKind.u64.wrap ((s : Int) / 72057594037927936) % 256 = ((UInt8.ofNat (s / 72057594037927936)).toNat : Int) := by
  have e : (UInt8.ofNat (s / 72057594037927936)).toNat = s / 72057594037927936 % 256 := by simp
  rw [IntKind.wrap_u64, e]
  omega
theorem times_256 (s : Nat) : IntKind.u64.wrap ((s : Int) * 256) = ((s * 256 % 18446744073709551616 : Nat) : Int) := by
  rw [IntKind.wrap_u64]
  omega

set_option maxHeartbeats 400000 in
theorem refseal_any (A : Option Addr) (n c B : Nat) (xs : List UInt8) (w : World) (hx : Has w B A xs) (hB : B ≤ w.heap.size) (hn : xs.length = n) (hl : n + 8 ≤ 140737488355328) :
    Calls Try.prog 40 #[.slice A n c] w (Makes (sealed xs) w) := by
  subst hn
  go_enter Try.func40, Try.ntmps40
  go_wp2_with fail
  refine (copy_any A xs.length c xs w (hx.more hB) rfl (by omega)).mono ?_
  rintro e w1 ⟨rfl, hw1⟩
  have ho1 := Own.new w xs w.heap.size w.heap.size rfl (Nat.le_refl _) (by omega)
  have hb1 := (Below.refl w.heap.size w).alloc (Nat.le_refl _) (.cells (bcells xs) 5)
  rw [hw1] at ho1 hb1
  clear hw1
  have hx1 := hx.below (hb1.mono hB)
  go_wp2_with fail
  refine (refsum_any A xs.length c B xs w1 hx1 rfl (by omega)).mono ?_
  rintro e w2 ⟨rfl, rfl⟩
  obtain ⟨u, hu⟩ : ∃ u, u = (fsum basis xs).toNat := ⟨_, rfl⟩
  have hu64 : u < 18446744073709551616 := by rw [hu]; exact UInt64.toNat_lt _
  rw [← hu]
  have hsd : sealed xs = xs ++ be 8 u := by rw [hu]; rfl
  have HSD := hide hsd
  have HU := hide hu64
  clear hu hu64 hsd hx1
  go_wp2
  go_loopw [3, 4, 5] (fun v s i wr => ∃ k : Nat, k ≤ 8 ∧ i = .int .i64 k ∧ s = .int .u64 ((u * 256 ^ k % 18446744073709551616 : Nat) : Int) ∧ Own wr w.heap.size v (xs ++ (be 8 u).take k) ∧ Below w.heap.size w wr) (fun _ _ i _ => 8 - (intOf i).toNat)
  case atStart => exact ⟨0, by omega, rfl, by rw [Nat.pow_zero, Nat.mul_one, Nat.mod_eq_of_lt HU.out], by simpa using ho1, hb1⟩
  case round =>
    clear ho1 hb1
    obtain ⟨k, hk, rfl, rfl, ho, hbl⟩ := hrel
    by_cases hlt : k < 8
    · have HB := hide (be_up u k hlt)
      have hp : u * 256 ^ (k + 1) % 18446744073709551616 = (u * 256 ^ k % 18446744073709551616) * 256 % 18446744073709551616 := by
        rw [Nat.pow_succ, ← Nat.mul_assoc, Nat.mod_mul_mod]
      have HP := hide hp
      have hlen : (xs ++ (be 8 u).take k).length + 1 ≤ 140737488355328 := by simp [be_length]; omega
      have HL := hide hlen
      have hs64 : u * 256 ^ k % 18446744073709551616 < 18446744073709551616 := Nat.mod_lt _ (by omega)
      have HS := hide hs64
      clear hp hlen hs64
      generalize u * 256 ^ k % 18446744073709551616 = s at *
      generalize (be 8 u).take k = part at *
      go_wp2_with (at_builtin; refine list_append_bytes _ rfl (.tmp 14) (.tmp 18) rfl w.heap.size _ (xs ++ part) rfl (ho.alloc _) (wr.heap.size + 1) (some ⟨wr.heap.size, 0, none⟩) 1 1 [UInt8.ofNat (s / 72057594037927936)] rfl (Has.one wr 5 _ _ (top_byte s HS.out) _ rfl) rfl HL.out (by simp; have := hbl.size; omega) ?_; intro v2 w2 ho2 hg2 hat2)
      have hb2 : Below w.heap.size w w2 := (hbl.alloc hbl.size _).grown hg2 (by simp; have := hbl.size; omega) (fun k e => (ho.lt k e).1)
      go_roundw
      case rel => exact ⟨k + 1, by omega, by go_num, by rw [HP.out]; exact congrArg (Value.int .u64) (times_256 s), by rw [HB.out, ← List.append_assoc]; exact ho2, hb2⟩
      case measure => simp [intOf]; omega
    · have e : k = 8 := by omega
      subst e
      rw [List.take_of_length_le (by rw [be_length]; omega)] at ho
      go_wp2
      go_ret
      exact ⟨_, rfl, by rw [HSD.out]; exact ho, hbl⟩

theorem refopen_short (A : Option Addr) (n c : Nat) (w : World) (h : n < 8) : Calls Try.prog 41 #[.slice A n c] w fun e w' => e = .returned (.tuple #[.slice none 0 0, .int .i64 10]) ∧ w = w' := by
  go_enter Try.func41, Try.ntmps41
  go_wp2
  go_ret2
  exact ⟨rfl, rfl⟩
set_option maxHeartbeats 400000 in
theorem refopen_walk (A : Option Addr) (m c B : Nat) (xs : List UInt8) (w : World) (hx : Has w B A xs) (hB : B ≤ w.heap.size) (hn : xs.length = m + 8) (hl : m + 8 ≤ 140737488355328) (hc : m + 8 ≤ c) :
    Calls Try.prog 41 #[.slice A (m + 8) c] w fun e w' =>
      (xs.drop m = tail8 (xs.take m) → ∃ v, e = .returned (.tuple #[v, .int .i64 0]) ∧ Own w' w.heap.size v (xs.take m)) ∧
      (xs.drop m ≠ tail8 (xs.take m) → e = .returned (.tuple #[.slice none 0 0, .int .i64 14])) ∧ Below w.heap.size w w' := by
  have t1 : decide ((m : Int) + 8 < 8) = false := decide_eq_false (by omega)
  have i1 : (m : Int) ≤ (c : Int) := by omega
  have hml : (xs.take m).length = m := by rw [List.length_take]; omega
  go_enter Try.func41, Try.ntmps41
  go_wp2_with fail
  refine (copy_any A m c (xs.take m) w ((hx.more hB).take m) hml (by omega)).mono ?_
  rintro e w1 ⟨rfl, hw1⟩
  have ho1 := Own.new w (xs.take m) w.heap.size w.heap.size rfl (Nat.le_refl _) (by omega)
  have hb1 := (Below.refl w.heap.size w).alloc (Nat.le_refl _) (.cells (bcells (xs.take m)) 5)
  have hh1 := Has.new w 5 (xs.take m) (0, 0) _ rfl
  have hz1 : (w.alloc (.cells (bcells (xs.take m)) 5)).heap.size = w.heap.size + 1 := by simp
  rw [hw1] at ho1 hb1 hh1 hz1
  rw [hml] at ho1
  have HZ := hide hz1
  clear hw1 hz1
  go_wp2_with fail
  refine (refseal_any (some ⟨w.heap.size, 0, none⟩) m m _ (xs.take m) w1 hh1 (by have := HZ.out; omega) hml (by omega)).mono ?_
  rintro e w2 ⟨v2, rfl, ho2, hb2⟩
  obtain ⟨A2, n2, c2, rfl, hn2, _, hx2, _⟩ := ho2.form
  have hb2' := hb1.trans (hb2.mono hb1.size)
  have ho1' := ho1.below hb2
  go_wp2_with fail
  refine (same_any A2 A n2 (m + 8) c2 c _ B (sealed (xs.take m)) xs w2 hx2 (hx.below (hb2'.mono hB)) hn2.out hn (by have := hn2.out; rw [sealed_length, hml] at this; omega)).mono ?_
  rintro e w3 ⟨rfl, m3, rfl⟩
  have hiff : sealed (xs.take m) = xs ↔ xs.drop m = tail8 (xs.take m) := by
    constructor
    · intro h
      have h2 : (sealed (xs.take m)).drop m = xs.drop m := by rw [h]
      rw [← h2]
      unfold sealed
      have := List.drop_left (l₁ := xs.take m) (l₂ := tail8 (xs.take m))
      rw [hml] at this
      exact this
    · intro h
      unfold sealed
      rw [← h, List.take_append_drop]
  have ho3 := ho1'.drewN m3
  have hb3 := below_drewN hb2' m3
  by_cases he : xs.drop m = tail8 (xs.take m)
  · rw [decide_eq_true (hiff.2 he)]
    have HE := hide he
    clear he hiff
    go_wp2
    go_ret2
    exact ⟨fun _ => ⟨_, rfl, ho3⟩, fun h => absurd HE.out h, hb3⟩
  · rw [decide_eq_false (fun h => he (hiff.1 h))]
    have HE := hide he
    clear he hiff
    go_wp2
    go_ret2
    exact ⟨fun h => absurd h HE.out, fun _ => rfl, hb3⟩
end Go.Proofs.Ytofdjpophacldaa
