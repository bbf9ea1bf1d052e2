/-
  The walk of SealChains. No condition but the size of what is read.
-/
import Derived.Test.YtofdjpophacldaaSealShort
import Derived.Deep.RegionHeld3
import Derived.Deep.DrawnRows
import Derived.Deep.DeepCutAuto
namespace Go.Proofs.Ytofdjpophacldaa
open Go.RowKit

attribute [local go_sem ↓] Go.wp_at_zero Go.wp_at_succ

/-- Two pieces, laid in a new block. -/
theorem HasP.two (w : World) (t : TypeId) (p q : Piece) (g : Nat) (hg : g = w.heap.size) (h : Has w g p.spot p.bs) (hn : p.bs.length = p.len) (hl : p.len ≤ 140737488355328)
    (h' : Has w g q.spot q.bs) (hn' : q.bs.length = q.len) (hl' : q.len ≤ 140737488355328) :
    HasP (w.alloc (.cells #[p.val, q.val] t)) (g + 1) (some ⟨g, 0, none⟩) [p, q] := by
  subst hg
  intro k hk
  have e : k = 0 ∨ k = 1 := by simp at hk; omega
  rcases e with rfl | rfl
  · exact ⟨⟨w.heap.size, 0, rfl, by omega, by simp⟩, (h.alloc (Nat.le_refl _) _).more (by omega), hn, hl⟩
  · exact ⟨⟨w.heap.size, 0, rfl, by omega, by simp⟩, (h'.alloc (Nat.le_refl _) _).more (by omega), hn', hl'⟩

theorem chain_end (xs ys : List UInt8) (j : Nat) (hj : j < xs.length) (tb : UInt8) (h : ys = xs.set j tb) :
    ((((fsum basis ys).toNat : Int) == ((fsum basis xs).toNat : Int)) == ((xs[j].toNat : Int) == (tb.toNat : Int))) = true := by
  subst h
  have e1 : (((fsum basis (xs.set j tb)).toNat : Int) == ((fsum basis xs).toNat : Int)) = decide (fsum basis (xs.set j tb) = fsum basis xs) := by
    rw [Bool.eq_iff_iff, beq_iff_eq, decide_eq_true_iff]
    exact ⟨fun h => UInt64.toNat_inj.1 (by omega), fun h => by rw [h]⟩
  have e2 : ((xs[j].toNat : Int) == (tb.toNat : Int)) = decide (xs[j] = tb) := by
    rw [Bool.eq_iff_iff, beq_iff_eq, decide_eq_true_iff]
    exact ⟨fun h => UInt8.toNat_inj.1 (by omega), fun h => by rw [h]⟩
  rw [e1, e2]
  simp [fsum_set basis xs j hj tb]

set_option maxHeartbeats 1600000 in
theorem chains_walk (A : Option Addr) (c : Nat) (xs : List UInt8) (cut at_ to_ : Int) (w : World) (hx : Has w w.heap.size A xs) (hc : xs.length ≤ c) (hl : c ≤ 140737488351232)
    (_ : (Lit.int .i64 cut).wf = true) (_ : (Lit.int .i64 at_).wf = true) (hto : (Lit.int .u8 to_).wf = true) :
    Calls Try.prog 12 #[.slice A xs.length c, .int .i64 cut, .int .i64 at_, .int .u8 to_] w fun e w' => e = .returned (.bool true) ∧ Below w.heap.size w w' := by
  go_enter Try.func12, Try.ntmps12
  go_wp2_with fail
  refine (head2_any _).mono ?_
  rintro e w1 ⟨rfl, hb1⟩
  have hx1 : Has w1 w1.heap.size A xs := (hx.below hb1).more hb1.size
  go_upto_region 3 with fail
  go_cut [19] (fun s wx => ∃ ok : Bool, s = .bool ok ∧ (ok = false → 0 ≤ cut ∧ cut ≤ xs.length) ∧ w1 = wx)
  case first =>
    by_cases h0 : cut < 0
    · have t1 : decide (cut < 0) = true := by simpa using h0
      go_wp2_with fail
      go_meet
      exact ⟨true, rfl, by simp, rfl⟩
    · have t1 : decide (cut < 0) = false := by simpa using h0
      go_wp2_with fail
      go_meet
      refine ⟨_, rfl, fun h => ?_, rfl⟩
      simp at h
      omega
  case rest =>
    obtain ⟨ok, rfl, hok, rfl⟩ := hcut
    go_upto_if 19 with fail
    go_cut [1] (fun s wx => ∃ m : Nat, m ≤ xs.length ∧ s = .int .i64 m ∧ w1 = wx)
    case first =>
      cases ok
      · obtain ⟨h0, h1⟩ := hok rfl
        go_wp2_with fail
        go_meet
        exact ⟨cut.toNat, by omega, by congr 1; omega, rfl⟩
      · go_wp2_with fail
        go_meet
        exact ⟨xs.length / 2, by omega, by congr 1, rfl⟩
    case rest =>
      obtain ⟨m, hm, rfl, rfl⟩ := hcut
      have t4 : (m : Int) ≤ (c : Int) := by omega
      have t5 : (m : Int) ≤ (xs.length : Int) := by omega
      have t6 : (0 : Int) ≤ (m : Int) := by omega
      go_upto_region 5 with fail
      go_cut [37] (fun s wx => s = .bool false ∧ Below w.heap.size w wx)
      case first =>
        have hx2 : ∀ o1 o2 o3, Has (((w1.alloc o1).alloc o2).alloc o3) (w1.heap.size + 3) A xs := fun o1 o2 o3 => ((((hx1.alloc (Nat.le_refl _) o1).more (by simp)).alloc (Nat.le_refl _) o2).more (by simp)).alloc (Nat.le_refl _) o3 |>.more (by simp)
        obtain ⟨A2, hA2, hd⟩ : ∃ A2, A2 = (if c = m then A else Option.map (fun x => x.add m) A) ∧ Has w1 w1.heap.size A2 (xs.drop m) := by
          refine ⟨_, rfl, ?_⟩
          split
          · rw [List.drop_eq_nil_of_le (by omega)]; exact Has.nil _ _ _
          · exact hx1.drop m
        by_cases hcm : c = m
        · rw [if_pos hcm] at hA2
          subst hA2
          subst hcm
          have exs : xs.length = c := by omega
          have hdr : xs.drop c = [] := List.drop_eq_nil_of_le (by omega)
          have htk : xs.take c = xs := List.take_of_length_le (by omega)
          rw [hdr] at hd
          clear hdr
          have HT := hide htk
          clear htk
          subst exs
          go_region_held3 (fun _ => True) (trivial) (first
            | ((go_at_call 15; (with_reducible refine (copy_any A2 0 0 [] _ ?_ ?_ ?_).mono ?_)); exact Has.nil _ _ _; rfl; omega; rintro e w2 ⟨rfl, rfl⟩)
            | ((go_at_call 15; (with_reducible refine (copy_any A2 xs.length xs.length xs _ ?_ ?_ ?_).mono ?_)); (first | exact hx1 | exact (hx2 _ _ _).more (by simp)); rfl; omega; rintro e w2 ⟨rfl, rfl⟩)
            | ((go_at_call 37; (with_reducible refine (sum_any (some ⟨w1.heap.size + 2, 0, none⟩) 2 2 (w1.heap.size + 2 + 1) [⟨some ⟨w1.heap.size, 0, none⟩, xs.length, xs.length, xs⟩, ⟨some ⟨w1.heap.size + 1, 0, none⟩, 0, 0, []⟩] _ ?_ xs ?_ ?_ ?_).mono ?_));
               exact HasP.two ((w1.alloc _).alloc _) 26 _ _ (w1.heap.size + 2) (by simp) (((Has.new w1 5 xs (0, 0) _ rfl).alloc (by simp) _).more (by simp)) rfl (by simp only; omega) (Has.nil _ _ _) rfl (by simp)
               rfl; omega; simp [catP]; rintro e w2 ⟨rfl, rfl⟩)
            | ((go_at_call 37; (with_reducible refine (sum_any (some ⟨w1.heap.size + 1 + 1 + 1 + 1, 0, none⟩) 1 1 (w1.heap.size + 1 + 1 + 1 + 1 + 1) [⟨some ⟨w1.heap.size + 1 + 1 + 1, 0, none⟩, xs.length, xs.length, xs⟩] _ ?_ xs ?_ ?_ ?_).mono ?_));
               exact HasP.one ((((w1.alloc _).alloc _).alloc _).alloc _) 26 _ (w1.heap.size + 1 + 1 + 1 + 1) (by simp) (Has.new (((w1.alloc _).alloc _).alloc _) 5 xs (0, 0) _ (by simp)) rfl (by simp only; omega)
               rfl; omega; simp [catP]; rintro e w2 ⟨rfl, rfl⟩))
          go_wp2_with fail
          go_meet
          refine ⟨by simp, ?_⟩
          have hs := hb1.size
          exact (((((hb1.alloc hs _).alloc (by simp; omega) _).alloc (by simp; omega) _).alloc (by simp; omega) _).alloc (by simp; omega) _).drew
        · rw [if_neg hcm] at hA2
          subst hA2
          go_region_held3 (fun _ => True) (trivial) (first
            | ((go_at_call 15; (with_reducible refine (copy_any A m c (xs.take m) _ ?_ ?_ ?_).mono ?_)); exact hx1.take m; (simp; omega); omega; rintro e w2 ⟨rfl, rfl⟩)
            | ((go_at_call 15; (with_reducible refine (copy_any (Option.map (fun x => x.add m) A) (xs.length - m) (c - m) (xs.drop m) _ ?_ ?_ ?_).mono ?_)); exact (hd.alloc (Nat.le_refl _) _).more (by simp); simp; omega; rintro e w2 ⟨rfl, rfl⟩)
            | ((go_at_call 15; (with_reducible refine (copy_any A xs.length c xs _ ?_ ?_ ?_).mono ?_)); exact (hx2 _ _ _).more (by simp); rfl; omega; rintro e w2 ⟨rfl, rfl⟩)
            | ((go_at_call 37; (with_reducible refine (sum_any (some ⟨w1.heap.size + 2, 0, none⟩) 2 2 (w1.heap.size + 2 + 1) [⟨some ⟨w1.heap.size, 0, none⟩, m, m, xs.take m⟩, ⟨some ⟨w1.heap.size + 1, 0, none⟩, xs.length - m, xs.length - m, xs.drop m⟩] _ ?_ xs ?_ ?_ ?_).mono ?_));
               exact HasP.two ((w1.alloc _).alloc _) 26 _ _ (w1.heap.size + 2) (by simp) (((Has.new w1 5 (xs.take m) (0, 0) _ rfl).alloc (by simp) _).more (by simp)) (by simp; omega) (by simp only; omega) ((Has.new (w1.alloc _) 5 (xs.drop m) (0, 0) _ (by simp)).more (by simp)) (by simp) (by simp only; omega)
               rfl; omega; simp [catP]; rintro e w2 ⟨rfl, rfl⟩)
            | ((go_at_call 37; (with_reducible refine (sum_any (some ⟨w1.heap.size + 1 + 1 + 1 + 1, 0, none⟩) 1 1 (w1.heap.size + 1 + 1 + 1 + 1 + 1) [⟨some ⟨w1.heap.size + 1 + 1 + 1, 0, none⟩, xs.length, xs.length, xs⟩] _ ?_ xs ?_ ?_ ?_).mono ?_));
               exact HasP.one ((((w1.alloc _).alloc _).alloc _).alloc _) 26 _ (w1.heap.size + 1 + 1 + 1 + 1) (by simp) (Has.new (((w1.alloc _).alloc _).alloc _) 5 xs (0, 0) _ (by simp)) rfl (by simp only; omega)
               rfl; omega; simp [catP]; rintro e w2 ⟨rfl, rfl⟩))
          go_wp2_with fail
          go_meet
          refine ⟨by simp, ?_⟩
          have hs := hb1.size
          exact (((((hb1.alloc hs _).alloc (by simp; omega) _).alloc (by simp; omega) _).alloc (by simp; omega) _).alloc (by simp; omega) _).drew
      case rest =>
        obtain ⟨rfl, hb2⟩ := hcut
        clear hx1 hb1 t4 t5 t6 hok
        have hx1 : Has wc wc.heap.size A xs := (hx.below hb2).more hb2.size
        by_cases h0 : at_ < 0
        · have t1 : decide (at_ < 0) = true := by simpa using h0
          go_wp2
          go_ret
          exact ⟨rfl, hb2⟩
        have t1 : decide (at_ < 0) = false := by simpa using h0
        obtain ⟨j, rfl⟩ := Int.eq_ofNat_of_zero_le (show 0 ≤ at_ by omega)
        by_cases h1 : xs.length ≤ j
        · have t2 : decide (xs.length ≤ j) = true := by simpa using h1
          go_wp2
          go_ret
          exact ⟨rfl, hb2⟩
        have t2 : decide (xs.length ≤ j) = false := by simpa using h1
        have hj : j < xs.length := by omega
        have hcell := hx1 j hj
        obtain ⟨b, o, rfl, hb, hcj⟩ := hcell
        obtain ⟨tb, rfl⟩ := byte_of to_ hto
        obtain ⟨ys, hys⟩ : ∃ ys, ys = xs.set j tb := ⟨_, rfl⟩
        have hset : (bcells xs).setIfInBounds j (.int .u8 (tb.toNat : Int)) = bcells ys := by rw [hys]; exact bcells_set xs j tb
        have HY := hide hys
        clear hys
        have hget := bcells_get xs j hj
        unfold byt at hget hcj
        go_wp2_with fail
        refine (copy_any (some ⟨b, o, none⟩) xs.length c xs _ hx1 rfl (by omega)).mono ?_
        rintro e w2 ⟨rfl, rfl⟩
        go_wp2_with fail
        have hyl : ys.length = xs.length := by rw [HY.out]; simp
        have HL := hide hyl
        clear hyl hset hget
        have HK : Hid (∀ o1 o2 o3 o4, (((wc.alloc o1).alloc o2).alloc o3).cell? ⟨b, o + j, none⟩ = some (.int .u8 (xs[j].toNat : Int)) ∧ ((((wc.alloc o1).alloc o2).alloc o3).alloc o4).cell? ⟨b, o + j, none⟩ = some (.int .u8 (xs[j].toNat : Int))) := by
          intro o1 o2 o3 o4
          have h1 := (World.cell?_alloc_past (w := wc) o1 b (o + j) hb).trans hcj
          have h2 := (World.cell?_alloc_past (w := wc.alloc o1) o2 b (o + j) (by simp; omega)).trans h1
          have h3 := (World.cell?_alloc_past (w := (wc.alloc o1).alloc o2) o3 b (o + j) (by simp; omega)).trans h2
          exact ⟨h3, (World.cell?_alloc_past (w := ((wc.alloc o1).alloc o2).alloc o3) o4 b (o + j) (by simp; omega)).trans h3⟩
        go_region_held3 (fun w' => w'.cell? ⟨b, o + j, none⟩ = some (.int .u8 (xs[j].toNat : Int))) (first | exact (HK.out _ _ _ (Obj.map #[] 0)).1 | exact (HK.out _ _ _ _).2 | go_keep) (first
          | ((go_at_call 37; (with_reducible refine (sum_any (some ⟨wc.heap.size + 1, 0, none⟩) 1 1 (wc.heap.size + 1 + 1) [⟨some ⟨wc.heap.size, 0, none⟩, xs.length, xs.length, ys⟩] _ ?_ ys ?_ ?_ ?_).mono ?_));
             exact HasP.one (wc.alloc _) 26 _ (wc.heap.size + 1) (by simp) (Has.new wc 5 ys (0, 0) _ rfl) HL.out (by simp only; omega)
             rfl; omega; simp [catP]; rintro e w2 ⟨rfl, rfl⟩)
          | ((go_at_call 15; (with_reducible refine (copy_any (some ⟨b, o, none⟩) xs.length c xs _ ?_ ?_ ?_).mono ?_)); exact (((hx1.alloc (Nat.le_refl _) _).more (by simp)).alloc (Nat.le_refl _) _).more (by simp); rfl; omega; rintro e w2 ⟨rfl, rfl⟩)
          | ((go_at_call 37; (with_reducible refine (sum_any (some ⟨wc.heap.size + 1 + 1 + 1, 0, none⟩) 1 1 (wc.heap.size + 1 + 1 + 1 + 1) [⟨some ⟨wc.heap.size + 1 + 1, 0, none⟩, xs.length, xs.length, xs⟩] _ ?_ xs ?_ ?_ ?_).mono ?_));
             exact HasP.one (((wc.alloc _).alloc _).alloc _) 26 _ (wc.heap.size + 1 + 1 + 1) (by simp) (Has.new ((wc.alloc _).alloc _) 5 xs (0, 0) _ (by simp)) rfl (by simp only; omega)
             rfl; omega; simp [catP]; rintro e w2 ⟨rfl, rfl⟩))
        go_wp2
        go_ret
        refine ⟨?_, ?_⟩
        · exact congrArg (fun x => Ending.returned (.bool x)) (chain_end xs ys j hj tb HY.out)
        · have hs := hb2.size
          exact ((((hb2.alloc hs _).alloc (by simp; omega) _).alloc (by simp; omega) _).alloc (by simp; omega) _).drew
end Go.Proofs.Ytofdjpophacldaa
