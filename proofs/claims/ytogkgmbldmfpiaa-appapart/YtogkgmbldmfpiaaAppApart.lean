/-
  AppApart: the walk. Condition: the slice reads as operations, at most 2^47 of them.
-/
import Derived.Test.YtogkgmbldmfpiaaAppTwice
set_option linter.unusedSimpArgs false
set_option linter.unusedVariables false
namespace Go.Proofs.Ytogkgmbldmfpiaa
open Go.RowKit

theorem upd_comm (S : Nat → Int) {R K : Nat} (h : R ≠ K) (p q m n : Int) : upd (upd S K m n) R p q = upd (upd S R p q) K m n := by
  funext i
  unfold upd
  by_cases h1 : i = 2 * R
  · rw [if_pos h1, if_neg (by omega), if_neg (by omega), if_pos h1]
  · rw [if_neg h1]
    by_cases h2 : i = 2 * R + 1
    · rw [if_pos h2, if_neg (by omega), if_neg (by omega), if_neg h1, if_pos h2]
    · rw [if_neg h2, if_neg h1, if_neg h2]

theorem run_apart (S : Nat → Int) {K : Nat} (m n : Int) (k : Int) {R T : Nat} (hR : R ≠ K) (hT : T ≠ K) (t re im : Int) :
    run (upd S K m n) k R T t re im = (upd (run S k R T t re im).1 K m n, (run S k R T t re im).2) := by
  have a1 : upd S K m n (2 * R) = S (2 * R) := upd_other _ _ _ _ _ (by omega) (by omega)
  have a2 : upd S K m n (2 * R + 1) = S (2 * R + 1) := upd_other _ _ _ _ _ (by omega) (by omega)
  have a3 : upd S K m n (2 * T) = S (2 * T) := upd_other _ _ _ _ _ (by omega) (by omega)
  have a4 : upd S K m n (2 * T + 1) = S (2 * T + 1) := upd_other _ _ _ _ _ (by omega) (by omega)
  have sw : swp (upd S K m n) R T = upd (swp S R T) K m n := by
    unfold swp
    rw [a1, a2, a3, a4, upd_comm _ hR, upd_comm _ hT]
  have s1 : swp (upd S K m n) R T (2 * R) = swp S R T (2 * R) := by rw [sw]; exact upd_other _ _ _ _ _ (by omega) (by omega)
  have s2 : swp (upd S K m n) R T (2 * R + 1) = swp S R T (2 * R + 1) := by rw [sw]; exact upd_other _ _ _ _ _ (by omega) (by omega)
  unfold run
  rw [a1, a2, a3, a4, s1, s2, sw]
  split
  · rfl
  · split
    · rw [upd_comm _ hR]
    · split
      · rfl
      · split
        · split
          · rw [upd_comm _ hR]
          · rfl
        · split
          · rw [upd_comm _ hR]
          · rfl

/-- What is put into another register changes nothing else. -/
theorem app_apart {S : Nat → Int} (hS : okS S) {K : Nat} {m n : Int} (hm : inB m) (hn : inB n) (o : Opv) (hr : o.r ≠ K) (ht : o.t ≠ K) :
    appO (upd S K m n) o = (upd (appO S o).1 K m n, (appO S o).2) := by
  have hU := okS_upd hS K hm hn
  unfold appO app
  by_cases h : rightOp o.k o.r o.t o.re o.im
  · rw [if_pos ⟨hU, h⟩, if_pos ⟨hS, h⟩]
    obtain ⟨R, T, e1, e2, hR, hT, _, _⟩ := right_parts h
    exact run_apart S m n _ (by omega) (by omega) _ _ _
  · rw [if_neg (fun x => h x.2), if_neg (fun x => h x.2)]

/-- A register that is not named stays. -/
theorem app_stays (S : Nat → Int) (o : Opv) (j : Nat) (h1 : (j : Int) ≠ o.r) (h2 : o.k ≠ 6 ∨ (j : Int) ≠ o.t) : (appO S o).1 (2 * j) = S (2 * j) ∧ (appO S o).1 (2 * j + 1) = S (2 * j + 1) := by
  unfold appO app
  split
  · rename_i h
    obtain ⟨R, T, e1, e2, hR, hT, _, _⟩ := right_parts h.2
    rw [e1, e2, Int.toNat_natCast, Int.toNat_natCast]
    rw [e1] at h1
    rw [e2] at h2
    unfold run
    split
    · exact ⟨rfl, rfl⟩
    · split
      · exact ⟨upd_other _ _ _ _ _ (by omega) (by omega), upd_other _ _ _ _ _ (by omega) (by omega)⟩
      · split
        · rename_i h6
          have hT' : (j : Int) ≠ T := by
            rcases h2 with h2 | h2
            · exact absurd h6 h2
            · exact h2
          show swp S R T (2 * j) = S (2 * j) ∧ swp S R T (2 * j + 1) = S (2 * j + 1)
          rw [swp_at, swp_at, if_neg (by omega), if_neg (by omega), if_neg (by omega), if_neg (by omega), if_neg (by omega), if_neg (by omega), if_neg (by omega), if_neg (by omega)]
          exact ⟨rfl, rfl⟩
        · split
          · split
            · exact ⟨upd_other _ _ _ _ _ (by omega) (by omega), upd_other _ _ _ _ _ (by omega) (by omega)⟩
            · exact ⟨rfl, rfl⟩
          · split
            · exact ⟨upd_other _ _ _ _ _ (by omega) (by omega), upd_other _ _ _ _ _ (by omega) (by omega)⟩
            · exact ⟨rfl, rfl⟩
  · exact ⟨rfl, rfl⟩

/-- Memory within AppApart. -/
structure ApW (w : World) (S T : Nat → Int) (o : Opv) (a b c : Int) (g9 g12 : Nat) (wr : World) : Prop where
  b1 : Blk wr g9 S
  b2 : Blk wr g12 T
  op : wr.heap[w.heap.size]? = some (.cells #[.int .i64 o.k, .int .i64 o.r, .int .i64 o.t, .int .i64 o.re, .int .i64 o.im] 40 (0, 0))
  rs : wr.heap[g12 + 1]? = some (.cells #[.int .i64 a, .int .i64 b, .int .i64 c] 50 (0, 0))
  bl : Below w.heap.size w wr

theorem ApW.drewN {w : World} {S T : Nat → Int} {o : Opv} {a b c : Int} {g9 g12 : Nat} {wr : World} (h : ApW w S T o a b c g9 g12 wr) (n : Nat) : ApW w S T o a b c g9 g12 (wr.drewN n) :=
  ⟨⟨h.b1.at_⟩, ⟨h.b2.at_⟩, h.op, h.rs, ⟨h.bl.os, h.bl.tape, h.bl.output, h.bl.size, h.bl.block⟩⟩

theorem ApW.of {w : World} {S T : Nat → Int} {o : Opv} {a b c : Int} {g9 g12 : Nat} {wr wx : World} (h : ApW w S T o a b c g9 g12 wr) (h1 : wx.heap[g9]? = wr.heap[g9]?) (h2 : wx.heap[g12]? = wr.heap[g12]?)
    (h3 : wx.heap[w.heap.size]? = wr.heap[w.heap.size]?) (h4 : wx.heap[g12 + 1]? = wr.heap[g12 + 1]?) (h5 : Below w.heap.size w wx) : ApW w S T o a b c g9 g12 wx :=
  ⟨⟨h1.trans h.b1.at_⟩, ⟨h2.trans h.b2.at_⟩, h3.trans h.op, h4.trans h.rs, h5⟩
theorem ApW.below {w : World} {S T : Nat → Int} {o : Opv} {a b c : Int} {g9 g12 : Nat} {wr wx : World} (h : ApW w S T o a b c g9 g12 wr) (hb : Below wr.heap.size wr wx) : ApW w S T o a b c g9 g12 wx :=
  h.of (hb.block _ h.b1.lt) (hb.block _ h.b2.lt) (hb.block _ (Array.getElem?_eq_some_iff.1 h.op).1) (hb.block _ (Array.getElem?_eq_some_iff.1 h.rs).1) (h.bl.trans (hb.mono h.bl.size))
theorem ApW.alloc {w : World} {S T : Nat → Int} {o : Opv} {a b c : Int} {g9 g12 : Nat} {wr : World} (h : ApW w S T o a b c g9 g12 wr) (x : Obj) : ApW w S T o a b c g9 g12 (wr.alloc x) :=
  h.below ((Below.refl _ _).alloc (Nat.le_refl _) x)
theorem ApW.far {w : World} {S T : Nat → Int} {o : Opv} {a b c : Int} {g9 g12 g : Nat} {wr : World} (h : ApW w S T o a b c g9 g12 wr) (i j : Nat) (u v : Value)
    (n1 : g9 ≠ g) (n2 : g12 ≠ g) (n3 : w.heap.size ≠ g) (n4 : g12 + 1 ≠ g) (hg : w.heap.size ≤ g) : ApW w S T o a b c g9 g12 ((wr.setCell ⟨g, i, none⟩ u).setCell ⟨g, j, none⟩ v) := by
  have key : ∀ k, k ≠ g → ((wr.setCell ⟨g, i, none⟩ u).setCell ⟨g, j, none⟩ v).heap[k]? = wr.heap[k]? := fun k hk => (Below.heap_setCell _ _ _ k hk).trans (Below.heap_setCell _ _ _ k hk)
  exact h.of (key _ n1) (key _ n2) (key _ n3) (key _ n4) ((h.bl.setCell hg u).setCell hg v)

theorem Blk.thawed {w : World} {g : Nat} {S : Nat → Int} (h : Blk w g S) (R : Nat) : w.frozen? ⟨g, R * 2, none⟩ = false ∧ w.frozen? ⟨g, R * 2 + 1, none⟩ = false := ⟨by simp [World.frozen?, h.at_], by simp [World.frozen?, h.at_]⟩
theorem Blk.put {w : World} {g : Nat} {S : Nat → Int} (h : Blk w g S) (R : Nat) (hR : R < 8) (p q : Int) : Blk ((w.setCell ⟨g, R * 2, none⟩ (.int .i64 p)).setCell ⟨g, R * 2 + 1, none⟩ (.int .i64 q)) g (upd S R p q) := by
  refine ⟨?_⟩
  rw [setCell_eq_setRow _ _ _ _ _ _ _ h.at_, setCell_eq_setRow _ _ _ _ _ _ _ (setRow_heap _ _ _ _ _ _ h.at_), setRow_setRow, cl_upd S R hR p q]
  exact setRow_heap _ _ _ _ _ _ h.at_

set_option maxRecDepth 100000 in
set_option maxHeartbeats 8000000 in
theorem apart_walk (A : Option Addr) (c : Nat) (ts : List Opv) (op : Opv) (kk re : Int) (w : World) (hO : HasO w w.heap.size A ts) (hn : ts.length ≤ 140737488351232) :
    Calls Try.prog 10 #[.slice A ts.length c, .agg #[.int .i64 op.k, .int .i64 op.r, .int .i64 op.t, .int .i64 op.re, .int .i64 op.im], .int .i64 kk, .int .i64 re] w fun e w' => e = .returned (.bool true) ∧ Below w.heap.size w w' := by
  have ka := and_7 kk
  obtain ⟨K, hK8, eK⟩ : ∃ K : Nat, K < 8 ∧ kk % 8 = K := ⟨(kk % 8).toNat, by omega, by omega⟩
  rw [eK] at ka
  have km := and_1023 re
  generalize hM : re % 1024 = M at *
  have iM : inB M := by unfold inB; omega
  have i1 : inB 1 := by unfold inB; omega
  have K0 : (0 : Int) ≤ (K : Int) := Int.natCast_nonneg _
  have K8 : (K : Int) < 8 := by omega
  clear eK hM
  go_enter Try.func10, Try.ntmps10
  go_wp2_with fail
  refine (head4_any _).mono ?_
  rintro e w1 ⟨rfl, hb1⟩
  have z1 := hb1.size
  simp at z1
  have OP1 : w1.heap[w.heap.size]? = some (.cells #[.int .i64 op.k, .int .i64 op.r, .int .i64 op.t, .int .i64 op.re, .int .i64 op.im] 40 (0, 0)) := (hb1.block _ (by simp)).trans (heap_alloc_new w _)
  replace hb1 := below_of_alloc hb1
  go_wp2_with (refine wpList_store_row rfl 45 _ _ rfl w1.heap.size #[.int .i64 0, .int .i64 0, .int .i64 0, .int .i64 0, .int .i64 0, .int .i64 0, .int .i64 0, .int .i64 0, .int .i64 0, .int .i64 0, .int .i64 0, .int .i64 0, .int .i64 0, .int .i64 0, .int .i64 0, .int .i64 0] rfl rfl _ _ (heap_alloc_new w1 _) size_state rfl (by rw [← cl_Z0]; exact one_cl Z0) ?_; rw [new_row])
  rw [← cl_Z0]
  have OP2 := hide ((Below.heap_alloc w1 (.cells (cl Z0).toArray 45) w.heap.size (by omega)).trans OP1)
  clear OP1
  go_loopw [23] (fun i wr => ∃ k : Nat, k ≤ ts.length ∧ i = .int .i64 k ∧ Scripted w w1.heap.size wr ∧ wr.heap[w.heap.size]? = some (.cells #[.int .i64 op.k, .int .i64 op.r, .int .i64 op.t, .int .i64 op.re, .int .i64 op.im] 40 (0, 0))) (fun i _ => ts.length - (intOf i).toNat)
  case atStart => exact ⟨0, Nat.zero_le _, rfl, ⟨Z0, okS_Z0, Blk.new w1 Z0, hb1.alloc (by omega) _⟩, OP2.out⟩
  case round =>
    obtain ⟨k, hk, rfl, ⟨S, hS, hB, hbl⟩, hop⟩ := hrel
    have HOP := hide hop
    clear hop OP2
    by_cases hlt : k < ts.length
    · obtain ⟨b, o, rfl, hbw, c0, c1, c2, c3, c4⟩ := hO.below hbl k hlt
      generalize ts[k] = ov at *
      have HB := hide (hB.alloc (.cells #[.int .i64 ov.k, .int .i64 ov.r, .int .i64 ov.t, .int .i64 ov.re, .int .i64 ov.im] 40)).at_
      have hzr := hB.lt
      have q0 : (0 : Int) ≤ (k : Int) := by omega
      have q1 : (k : Int) < (ts.length : Int) := by omega
      go_wp2_with (refine wpList_load_row rfl 45 _ rfl w1.heap.size rfl _ _ _ _ HB.out Try.underlying45 rfl (size_cl S) ?_)
      refine (apply_gen S ov _).mono ?_
      rintro e w2 ⟨rfl, hb2⟩
      have hB2 : Blk w2 w1.heap.size S := (hB.alloc _).below hb2 (by simp; omega)
      have HB2 := hide hB2.at_
      have hbl2 : Below w.heap.size w w2 := (hbl.alloc hbl.size _).trans (hb2.mono (by have := hbl.size; simp; omega))
      have HOP2 := hide ((hb2.block w.heap.size (by simp; omega)).trans ((Below.heap_alloc wr _ w.heap.size (by omega)).trans HOP.out))
      go_wp2_with (refine wpList_store_row rfl 45 _ _ rfl w1.heap.size (cl (appO S ov).1).toArray rfl rfl _ _ HB2.out (size_cl _) ((cl_size S).trans (cl_size _).symm) (one_cl _) ?_)
      go_roundw
      case rel => exact ⟨k + 1, by omega, by go_num, ⟨(appO S ov).1, okS_app hS _ _ _ _ _, hB2.set _, below_setRow hbl2 (by omega) _⟩, (setRow_other _ _ _ _ (by omega)).trans HOP2.out⟩
      case measure => simp [intOf]; omega
    · obtain rfl : k = ts.length := by omega
      have HB := hide hB.at_
      have hlt9 := hB.lt
      obtain ⟨p0, p1, p2, p3, p4⟩ := cells5 HOP.out
      clear hO
      go_wp2_with (refine wpList_load_row rfl 45 _ rfl w1.heap.size rfl _ _ _ _ HB.out Try.underlying45 rfl (size_cl S) ?_)
      refine (apply_gen S op _).mono ?_
      rintro e w3 ⟨rfl, hb3⟩
      have OP3 := hide ((hb3.block w.heap.size (by omega)).trans HOP.out)
      replace hB := hB.below hb3 hB.lt
      replace hbl := hbl.trans (hb3.mono hbl.size)
      have hz3 := hB.lt
      clear HB HOP hb3 p0 p1 p2 p3 p4
      go_upto_region 11 with (refine wpList_store_row rfl 45 _ _ rfl w3.heap.size (cl (appO S op).1).toArray rfl rfl _ _ (old2 w3 _ _) (size_cl _) (cl_size _).symm (one_cl _) ?_; rw [alloc_set2])
      have AP : ApW w S (appO S op).1 op (appO S op).2.1 (appO S op).2.2.1 (appO S op).2.2.2 w1.heap.size w3.heap.size ((w3.alloc (.cells (cl (appO S op).1).toArray 45)).alloc (.cells #[.int .i64 (appO S op).2.1, .int .i64 (appO S op).2.2.1, .int .i64 (appO S op).2.2.2] 50)) := by
        refine ⟨(hB.alloc _).alloc _, (Blk.new w3 _).alloc _, ?_, ?_, (hbl.alloc hbl.size _).alloc (by have := hbl.size; simp; omega) _⟩
        · rw [Below.heap_alloc _ _ _ (by simp; omega), Below.heap_alloc _ _ _ (by omega)]
          exact OP3.out
        · have := heap_alloc_new (w3.alloc (.cells (cl (appO S op).1).toArray 45)) (.cells #[.int .i64 (appO S op).2.1, .int .i64 (appO S op).2.2.1, .int .i64 (appO S op).2.2.2] 50)
          simpa using this
      have hne : w1.heap.size ≠ w3.heap.size := by omega
      have hge3 : w.heap.size ≤ w3.heap.size := hbl.size
      clear hB hbl OP3
      generalize (w3.alloc (.cells (cl (appO S op).1).toArray 45)).alloc (.cells #[.int .i64 (appO S op).2.1, .int .i64 (appO S op).2.2.1, .int .i64 (appO S op).2.2.2] 50) = w4 at *
      generalize w3.heap.size = g2 at *
      go_wp2_with fail
      go_loopw [42] (fun i wx => ∃ j : Nat, j ≤ 8 ∧ i = .int .i64 j ∧ ApW w S (appO S op).1 op (appO S op).2.1 (appO S op).2.2.1 (appO S op).2.2.2 w1.heap.size g2 wx) (fun i _ => 8 - (intOf i).toNat)
      case atStart => exact ⟨0, Nat.zero_le _, rfl, AP⟩
      case round =>
        clear AP
        obtain ⟨j, hj, rfl, AP⟩ := hrel
        obtain ⟨p0, p1, p2, p3, p4⟩ := cells5 AP.op
        by_cases hlt : j < 8
        · obtain ⟨s1, s2⟩ := AP.b1.reg j hlt
          obtain ⟨t1, t2⟩ := AP.b2.reg j hlt
          have q0 : (0 : Int) ≤ (j : Int) := by omega
          have q1 : (j : Int) < 8 := by omega
          by_cases h1 : (j : Int) = op.r
          · have h1' : ((j : Int) != op.r) = false := by simpa using h1
            clear h1
            go_wp2_with fail
            go_quiet (fail)
            go_wp2
            go_roundw
            case rel => exact ⟨j + 1, by omega, by go_num, AP.drewN _⟩
            case measure => simp [intOf]; omega
          · have h1' : ((j : Int) != op.r) = true := by simpa using h1
            by_cases h3 : op.k = 6 ∧ (j : Int) = op.t
            · obtain ⟨h6, h7⟩ := h3
              have h6' : (op.k != 6) = false := by simpa using h6
              have h7' : ((j : Int) != op.t) = false := by simpa using h7
              clear h1 h6 h7
              go_wp2_with fail
              go_quiet (fail)
              go_wp2
              go_roundw
              case rel => exact ⟨j + 1, by omega, by go_num, AP.drewN _⟩
              case measure => simp [intOf]; omega
            · obtain ⟨st1, st2⟩ := app_stays S op j h1 (by omega)
              rw [st1] at t1
              rw [st2] at t2
              have ke := fun w => equal_regs 9998 (S (2 * j)) (S (2 * j + 1)) (S (2 * j)) (S (2 * j + 1)) w
              rw [decide_eq_true rfl] at ke
              clear st1 st2
              by_cases h6 : op.k = 6
              · have h6' : (op.k != 6) = false := by simpa using h6
                have h7' : ((j : Int) != op.t) = true := by simpa using fun h7 => h3 ⟨h6, h7⟩
                clear h1 h3 h6
                go_wp2_with fail
                go_quiet (fail)
                go_wp2
                go_roundw
                case rel => exact ⟨j + 1, by omega, by go_num, AP.drewN _⟩
                case measure => simp [intOf]; omega
              · have h6' : (op.k != 6) = true := by simpa using h6
                clear h1 h3 h6
                go_wp2_with fail
                go_quiet (fail)
                go_wp2
                go_roundw
                case rel => exact ⟨j + 1, by omega, by go_num, AP.drewN _⟩
                case measure => simp [intOf]; omega
        · obtain rfl : j = 8 := by omega
          by_cases hKR : (K : Int) = op.r
          · have hKR' : ((K : Int) == op.r) = true := by simpa using hKR
            clear hKR
            go_wp2
            go_ret
            exact ⟨rfl, AP.bl⟩
          · have hKR' : ((K : Int) == op.r) = false := by simpa using hKR
            by_cases hKT : (K : Int) = op.t
            · have hKT' : ((K : Int) == op.t) = true := by simpa using hKT
              clear hKR hKT
              go_wp2
              go_ret
              exact ⟨rfl, AP.bl⟩
            · have hKT' : ((K : Int) == op.t) = false := by simpa using hKT
              have hap := app_apart hS iM i1 op (fun h => hKR h.symm) (fun h => hKT h.symm)
              have HC := apply_gen (upd S K M 1) op
              rw [hap] at HC
              have HC' := hide HC
              clear HC hap hKR hKT
              have HB := hide AP.b1.at_
              go_upto_region 20 with (first
                | (refine wpList_load_row rfl 45 _ rfl w1.heap.size rfl _ _ _ _ HB.out Try.underlying45 rfl (size_cl S) ?_)
                | (refine wpList_store_row rfl 45 _ _ rfl wr.heap.size (cl S).toArray rfl rfl _ _ (heap_alloc_new wr _) (size_cl S) (cl_size S).symm (one_cl S) ?_; rw [new_row]))
              have B5 := Blk.new wr S
              have AP5 := AP.alloc (.cells (cl S).toArray 45)
              have g5e : w.heap.size ≤ wr.heap.size := AP.bl.size
              have g5a : w1.heap.size ≠ wr.heap.size := by have := AP.b1.lt; omega
              have g5b : g2 ≠ wr.heap.size := by have := AP.b2.lt; omega
              have g5c : w.heap.size ≠ wr.heap.size := by have := (Array.getElem?_eq_some_iff.1 AP.op).1; omega
              have g5d : g2 + 1 ≠ wr.heap.size := by have := (Array.getElem?_eq_some_iff.1 AP.rs).1; omega
              clear AP HB p0 p1 p2 p3 p4
              generalize wr.alloc (.cells (cl S).toArray 45) = w5 at *
              generalize wr.heap.size = g5 at *
              obtain ⟨u1, u2⟩ := B5.reg K hK8
              obtain ⟨y1, y2⟩ := B5.thawed K
              go_upto_region 21 with fail
              have B6 := B5.put K hK8 M 1
              have AP6 := AP5.far (g := g5) (K * 2) (K * 2 + 1) (.int .i64 M) (.int .i64 1) g5a g5b g5c g5d g5e
              clear AP5 B5 u1 u2 y1 y2
              generalize (w5.setCell ⟨g5, K * 2, none⟩ (.int .i64 M)).setCell ⟨g5, K * 2 + 1, none⟩ (.int .i64 1) = w6 at *
              obtain ⟨p0, p1, p2, p3, p4⟩ := cells5 AP6.op
              have HB6 := hide B6.at_
              go_wp2_with (refine wpList_load_row rfl 45 (.tmp 15) rfl g5 rfl _ _ _ _ HB6.out Try.underlying45 rfl (size_cl _) ?_)
              refine (HC'.out _).mono ?_
              rintro e w7 ⟨rfl, hb7⟩
              have AP7 := AP6.below hb7
              clear AP6 B6 HB6 hb7 p0 p1 p2 p3 p4 HC'
              go_upto_region 22 with (refine wpList_store_row rfl 45 _ _ rfl w7.heap.size (cl (upd (appO S op).1 K M 1)).toArray rfl rfl _ _ (old2 w7 _ _) (size_cl _) (cl_size _).symm (one_cl _) ?_; rw [alloc_set2])
              have B8 := (Blk.new w7 (upd (appO S op).1 K M 1)).alloc (.cells #[.int .i64 (appO S op).2.1, .int .i64 (appO S op).2.2.1, .int .i64 (appO S op).2.2.2] 50)
              obtain ⟨f0, f1, f2⟩ := res_kept (Below.refl _ ((w7.alloc (.cells (cl (upd (appO S op).1 K M 1)).toArray 45)).alloc (.cells #[.int .i64 (appO S op).2.1, .int .i64 (appO S op).2.2.1, .int .i64 (appO S op).2.2.2] 50)))
              have g7e : w.heap.size ≤ w7.heap.size := AP7.bl.size
              have g7a : w1.heap.size ≠ w7.heap.size := by have := AP7.b1.lt; omega
              have g7b : g2 ≠ w7.heap.size := by have := AP7.b2.lt; omega
              have g7c : w.heap.size ≠ w7.heap.size := by have := (Array.getElem?_eq_some_iff.1 AP7.op).1; omega
              have g7d : g2 + 1 ≠ w7.heap.size := by have := (Array.getElem?_eq_some_iff.1 AP7.rs).1; omega
              have AP8 := (AP7.alloc (.cells (cl (upd (appO S op).1 K M 1)).toArray 45)).alloc (.cells #[.int .i64 (appO S op).2.1, .int .i64 (appO S op).2.2.1, .int .i64 (appO S op).2.2.2] 50)
              clear AP7
              generalize (w7.alloc (.cells (cl (upd (appO S op).1 K M 1)).toArray 45)).alloc (.cells #[.int .i64 (appO S op).2.1, .int .i64 (appO S op).2.2.1, .int .i64 (appO S op).2.2.2] 50) = w8 at *
              generalize w7.heap.size = g7 at *
              obtain ⟨u1, u2⟩ := B8.reg K hK8
              obtain ⟨y1, y2⟩ := B8.thawed K
              obtain ⟨v1, v2⟩ := AP8.b2.reg K hK8
              go_upto_region 23 with fail
              have B9 := B8.put K hK8 ((appO S op).1 (2 * K)) ((appO S op).1 (2 * K + 1))
              rw [upd_upd, upd_self] at B9
              have AP9 := AP8.far (g := g7) (K * 2) (K * 2 + 1) (.int .i64 ((appO S op).1 (2 * K))) (.int .i64 ((appO S op).1 (2 * K + 1))) g7a g7b g7c g7d g7e
              have far9 : ∀ i, ((w8.setCell ⟨g7, K * 2, none⟩ (.int .i64 ((appO S op).1 (2 * K)))).setCell ⟨g7, K * 2 + 1, none⟩ (.int .i64 ((appO S op).1 (2 * K + 1)))).cell? ⟨g7 + 1, i, none⟩ = w8.cell? ⟨g7 + 1, i, none⟩ := fun i => by
                rw [World.cell?_setCell_other _ _ _ _ (fun e => by injection e with e1; omega), World.cell?_setCell_other _ _ _ _ (fun e => by injection e with e1; omega)]
              replace f0 := (far9 0).trans f0
              replace f1 := (far9 1).trans f1
              replace f2 := (far9 2).trans f2
              clear AP8 B8 u1 u2 y1 y2 v1 v2 far9
              generalize (w8.setCell ⟨g7, K * 2, none⟩ (.int .i64 ((appO S op).1 (2 * K)))).setCell ⟨g7, K * 2 + 1, none⟩ (.int .i64 ((appO S op).1 (2 * K + 1))) = w9 at *
              obtain ⟨r0, r1, r2⟩ := cells_3 AP9.rs
              have k1 := fun w => equal_res 9998 (appO S op).2.1 (appO S op).2.2.1 (appO S op).2.2.2 (appO S op).2.1 (appO S op).2.2.1 (appO S op).2.2.2 w
              rw [decide_eq_true rfl] at k1
              have k2 := fun w => equal_state (appO S op).1 (appO S op).1 w
              rw [sameS_refl] at k2
              have HB1 := hide AP9.b2.at_
              have HB2 := hide B9.at_
              go_wp2_with (first
                | (refine wpList_load_want (by rfl) 45 (.tmp 16) rfl g7 rfl _ _ _ _ HB2.out Try.underlying45 rfl (size_cl _) ?_)
                | (refine wpList_load_want (by rfl) 45 (.tmp 12) rfl g2 rfl _ _ _ _ HB1.out Try.underlying45 rfl (size_cl _) ?_))
              go_ret
              exact ⟨rfl, AP9.bl⟩
end Go.Proofs.Ytogkgmbldmfpiaa
