/-
  AppTwice: the walk. Condition: the slice reads as operations, at most 2^47 of them.
-/
import Derived.Test.YtogkgmbldmfpiaaAppScript
import Derived.Test.YtogkgmbldmfpiaaTmod
set_option linter.unusedSimpArgs false
set_option linter.unusedVariables false
namespace Go.Proofs.Ytogkgmbldmfpiaa
open Go.RowKit

theorem apply_gen (S : Nat → Int) (o : Opv) (w : World) :
    Calls Try.prog 30 #[.agg (cl S).toArray, .agg #[.int .i64 o.k, .int .i64 o.r, .int .i64 o.t, .int .i64 o.re, .int .i64 o.im]] w fun e w' =>
      e = .returned (.tuple #[.agg (cl (appO S o).1).toArray, .agg #[.int .i64 (appO S o).2.1, .int .i64 (appO S o).2.2.1, .int .i64 (appO S o).2.2.2]]) ∧ Below w.heap.size w w' := apply_any S o.k o.r o.t o.re o.im w

theorem new_row (w : World) (Z A : Array Value) (t : TypeId) : (w.alloc (.cells Z t)).setRow w.heap.size A = w.alloc (.cells A t) := by
  unfold World.setRow World.alloc
  congr 1
  apply Array.ext_getElem?
  intro i
  rw [Array.getElem?_modify]
  by_cases h : w.heap.size = i
  · subst h
    simp
  · have h' : ¬ i = w.heap.size := fun e => h e.symm
    simp [h, h', Array.getElem?_push]

/-- Turned k times. -/
def turned (S : Nat → Int) (R k : Nat) : Nat → Int := upd S R (rot k (S (2 * R), S (2 * R + 1))).1 (rot k (S (2 * R), S (2 * R + 1))).2
theorem turned_ok {S : Nat → Int} (hS : okS S) {R : Nat} (hR : R < 8) (k : Nat) : okS (turned S R k) :=
  okS_upd hS R (rot_in k _ (hS R hR).1 (hS R hR).2).1 (rot_in k _ (hS R hR).1 (hS R hR).2).2
theorem turned_zero (S : Nat → Int) (R : Nat) : turned S R 0 = S := upd_self S R
theorem turned_four (S : Nat → Int) (R : Nat) : turned S R 4 = S := by
  unfold turned
  have e : rot 4 (S (2 * R), S (2 * R + 1)) = (S (2 * R), S (2 * R + 1)) := by
    simp [rot]
  rw [e]
  exact upd_self S R
theorem turned_succ {S : Nat → Int} (hS : okS S) {R : Nat} (hR : R < 8) (k : Nat) : ∃ a b c, app (turned S R k) 5 R 1 0 0 = (turned S R (k + 1), a, b, c) := by
  have h := app_turn (T := 1) (turned_ok hS hR k) hR (by omega)
  have e1 : turned S R k (2 * R) = (rot k (S (2 * R), S (2 * R + 1))).1 := upd_re _ _ _ _
  have e2 : turned S R k (2 * R + 1) = (rot k (S (2 * R), S (2 * R + 1))).2 := upd_im _ _ _ _
  rw [e1, e2] at h
  have e3 : upd (turned S R k) R (rot 1 ((rot k (S (2 * R), S (2 * R + 1))).1, (rot k (S (2 * R), S (2 * R + 1))).2)).1 (rot 1 ((rot k (S (2 * R), S (2 * R + 1))).1, (rot k (S (2 * R), S (2 * R + 1))).2)).2 = turned S R (k + 1) := by
    unfold turned
    rw [upd_upd]
    rfl
  rw [e3] at h
  exact ⟨_, _, _, h⟩

theorem eta4 {x : (Nat → Int) × Int × Int × Int} {S : Nat → Int} (h : x.1 = S) : x = (S, x.2.1, x.2.2.1, x.2.2.2) := by
  obtain ⟨a, b, c, d⟩ := x
  cases h
  rfl

def Turning (w : World) (S : Nat → Int) (g g2 R k : Nat) (wr : World) : Prop := Blk wr g S ∧ Blk wr g2 (turned S R k) ∧ Below w.heap.size w wr

set_option maxRecDepth 100000 in
set_option maxHeartbeats 4000000 in
theorem twice_walk (A : Option Addr) (c : Nat) (ts : List Opv) (reg tt re im : Int) (w : World) (hO : HasO w w.heap.size A ts) (hn : ts.length ≤ 140737488351232) :
    Calls Try.prog 9 #[.slice A ts.length c, .int .i64 reg, .int .i64 tt, .int .i64 re, .int .i64 im] w fun e w' => e = .returned (.bool true) ∧ Below w.heap.size w w' := by
  have ka := and_7 reg
  have kb := and_7 tt
  obtain ⟨R, hR8, eR⟩ : ∃ R : Nat, R < 8 ∧ reg % 8 = R := ⟨(reg % 8).toNat, by omega, by omega⟩
  obtain ⟨T, hT8, eT⟩ : ∃ T : Nat, T < 8 ∧ tt % 8 = T := ⟨(tt % 8).toNat, by omega, by omega⟩
  rw [eR] at ka
  rw [eT] at kb
  have bp := tmod_bd re 1000 (by omega)
  have bq := tmod_bd im 1000 (by omega)
  generalize hp : re.tmod (1000 : Nat) = P at *
  generalize hq : im.tmod (1000 : Nat) = Q at *
  have hp : re.tmod 1000 = P := hp
  have hq : im.tmod 1000 = Q := hq
  have R0 : (0 : Int) ≤ (R : Int) := Int.natCast_nonneg _
  have R8 : (R : Int) < 8 := by omega
  clear eR eT
  go_enter Try.func9, Try.ntmps9
  go_wp2_with fail
  refine (head4_any _).mono ?_
  rintro e w1 ⟨rfl, hb1⟩
  have z1 := hb1.size
  go_wp2_with (refine wpList_store_row rfl 45 _ _ rfl w1.heap.size #[.int .i64 0, .int .i64 0, .int .i64 0, .int .i64 0, .int .i64 0, .int .i64 0, .int .i64 0, .int .i64 0, .int .i64 0, .int .i64 0, .int .i64 0, .int .i64 0, .int .i64 0, .int .i64 0, .int .i64 0, .int .i64 0] rfl rfl _ _ (heap_alloc_new w1 _) size_state rfl (by rw [← cl_Z0]; exact one_cl Z0) ?_; rw [new_row])
  rw [← cl_Z0]
  go_loopw [25] (fun i wr => ∃ k : Nat, k ≤ ts.length ∧ i = .int .i64 k ∧ Scripted w w1.heap.size wr) (fun i _ => ts.length - (intOf i).toNat)
  case atStart => exact ⟨0, Nat.zero_le _, rfl, Z0, okS_Z0, Blk.new w1 Z0, hb1.alloc z1 _⟩
  case round =>
    obtain ⟨k, hk, rfl, S, hS, hB, hbl⟩ := hrel
    by_cases hlt : k < ts.length
    · obtain ⟨b, o, rfl, hbw, c0, c1, c2, c3, c4⟩ := hO.below hbl k hlt
      generalize ts[k] = ov at *
      have HB := hide (hB.alloc (.cells #[.int .i64 ov.k, .int .i64 ov.r, .int .i64 ov.t, .int .i64 ov.re, .int .i64 ov.im] 40)).at_
      have hzr := hB.lt
      have q0 : (0 : Int) ≤ (k : Int) := by omega
      have q1 : (k : Int) < (ts.length : Int) := by omega
      go_wp2_with (refine wpList_load_row rfl 45 _ rfl w1.heap.size rfl _ _ _ _ HB.out Try.underlying45 rfl (size_cl S) ?_)
      refine (apply_gen S ov _).mono ?_
      rintro e w2 ⟨rfl, hb2⟩
      have hB2 : Blk w2 w1.heap.size S := (hB.alloc _).below hb2 (by simp; omega)
      have HB2 := hide hB2.at_
      have hbl2 : Below w.heap.size w w2 := (hbl.alloc hbl.size _).trans (hb2.mono (by have := hbl.size; simp; omega))
      go_wp2_with (refine wpList_store_row rfl 45 _ _ rfl w1.heap.size (cl (appO S ov).1).toArray rfl rfl _ _ HB2.out (size_cl _) ((cl_size S).trans (cl_size _).symm) (one_cl _) ?_)
      go_roundw
      case rel => exact ⟨k + 1, by omega, by go_num, (appO S ov).1, okS_app hS _ _ _ _ _, hB2.set _, below_setRow hbl2 z1 _⟩
      case measure => simp [intOf]; omega
    · obtain rfl : k = ts.length := by omega
      have HB := hide hB.at_
      clear hO
      go_upto_region 14 with (first
        | (refine wpList_load_row rfl 45 _ rfl w1.heap.size rfl _ _ _ _ HB.out Try.underlying45 rfl (size_cl S) ?_)
        | (refine wpList_store_row rfl 45 _ _ rfl wr.heap.size (cl S).toArray rfl rfl _ _ (heap_alloc_new wr _) (size_cl S) (cl_size S).symm (one_cl S) ?_; rw [new_row]))
      have B1 := hB.alloc (.cells (cl S).toArray 45)
      have B2 : Blk (wr.alloc (.cells (cl S).toArray 45)) wr.heap.size (turned S R 0) := ⟨by rw [turned_zero]; exact (Blk.new wr S).at_⟩
      have hbl2 := hbl.alloc hbl.size (.cells (cl S).toArray 45)
      have hne : w1.heap.size ≠ wr.heap.size := by have := hB.lt; omega
      have hge : w.heap.size ≤ wr.heap.size := hbl.size
      clear hB hbl HB
      generalize wr.heap.size = g2 at *
      generalize wr.alloc (.cells (cl S).toArray 45) = w2 at *
      go_wp2_with fail
      go_loopw [15] (fun i wx => ∃ k : Nat, k ≤ 4 ∧ i = .int .i64 k ∧ Turning w S w1.heap.size g2 R k wx) (fun i _ => 4 - (intOf i).toNat)
      case atStart => exact ⟨0, Nat.zero_le _, rfl, B1, B2, hbl2⟩
      case round =>
        clear B1 B2 hbl2
        obtain ⟨k, hk, rfl, B1, B2, hbl⟩ := hrel
        by_cases hlt : k < 4
        · obtain ⟨a, b, d, e5⟩ := turned_succ hS hR8 k
          have HC := hide (apply_out _ _ _ _ _ _ e5)
          have HB := hide B2.at_
          clear e5
          go_wp2_with (refine wpList_load_row rfl 45 _ rfl g2 rfl _ _ _ _ HB.out Try.underlying45 rfl (size_cl _) ?_)
          refine (HC.out _).mono ?_
          rintro e w3 ⟨rfl, hb3⟩
          have C2 := B2.below hb3 B2.lt
          have C1 := B1.below hb3 B1.lt
          have HB2 := hide C2.at_
          have hbl3 : Below w.heap.size w w3 := hbl.trans (hb3.mono hbl.size)
          go_wp2_with (refine wpList_store_row rfl 45 _ _ rfl g2 (cl (turned S R (k + 1))).toArray rfl rfl _ _ HB2.out (size_cl _) ((cl_size _).trans (cl_size _).symm) (one_cl _) ?_)
          go_roundw
          case rel => exact ⟨k + 1, by omega, by go_num, C1.other _ hne, C2.set _, below_setRow hbl3 hge _⟩
          case measure => simp [intOf]; omega
        · obtain rfl : k = 4 := by omega
          rw [turned_four] at B2
          have iP : inB P := by unfold inB; omega
          have iQ : inB Q := by unfold inB; omega
          have iP' : inB (-P) := by unfold inB; omega
          have iQ' : inB (-Q) := by unfold inB; omega
          have E6 := hide (apply_out _ _ _ _ _ _ (eta4 (app_swap hS hR8 hT8)))
          have oW : okS (swp S R T) := by have := okS_app hS 6 R T 0 0; rwa [app_swap hS hR8 hT8] at this
          have E7 := hide (apply_out _ _ _ _ _ _ (eta4 ((app_swap oW hR8 hT8).trans (swp_swp S R T))))
          have HB1 := hide B1.at_
          go_wp2_with (refine wpList_load_row rfl 45 (.tmp 11) rfl w1.heap.size rfl _ _ _ _ HB1.out Try.underlying45 rfl (size_cl _) ?_)
          refine (E6.out _).mono ?_
          rintro e w3 ⟨rfl, hb3⟩
          replace B1 := B1.below hb3 B1.lt
          replace B2 := B2.below hb3 B2.lt
          replace hbl := hbl.trans (hb3.mono hbl.size)
          clear HB1 hb3
          go_upto_region 19 with (refine wpList_store_row rfl 45 _ _ rfl w3.heap.size (cl (swp S R T)).toArray rfl rfl _ _ (old2 w3 _ _) (size_cl _) (cl_size _).symm (one_cl _) ?_; rw [alloc_set2])
          have B3 := (Blk.new w3 (swp S R T)).alloc (.cells #[.int .i64 (app S 6 R T 0 0).2.1, .int .i64 (app S 6 R T 0 0).2.2.1, .int .i64 (app S 6 R T 0 0).2.2.2] 50)
          have n31 : w1.heap.size ≠ w3.heap.size := by have := B1.lt; omega
          have n32 : g2 ≠ w3.heap.size := by have := B2.lt; omega
          have g3e : w.heap.size ≤ w3.heap.size := hbl.size
          replace hbl := (hbl.alloc hbl.size (.cells (cl (swp S R T)).toArray 45)).alloc (by have := hbl.size; simp; omega) (.cells #[.int .i64 (app S 6 R T 0 0).2.1, .int .i64 (app S 6 R T 0 0).2.2.1, .int .i64 (app S 6 R T 0 0).2.2.2] 50)
          replace B1 := (B1.alloc (.cells (cl (swp S R T)).toArray 45)).alloc (.cells #[.int .i64 (app S 6 R T 0 0).2.1, .int .i64 (app S 6 R T 0 0).2.2.1, .int .i64 (app S 6 R T 0 0).2.2.2] 50)
          replace B2 := (B2.alloc (.cells (cl (swp S R T)).toArray 45)).alloc (.cells #[.int .i64 (app S 6 R T 0 0).2.1, .int .i64 (app S 6 R T 0 0).2.2.1, .int .i64 (app S 6 R T 0 0).2.2.2] 50)
          generalize (w3.alloc (.cells (cl (swp S R T)).toArray 45)).alloc (.cells #[.int .i64 (app S 6 R T 0 0).2.1, .int .i64 (app S 6 R T 0 0).2.2.1, .int .i64 (app S 6 R T 0 0).2.2.2] 50) = w4 at *
          generalize w3.heap.size = g3 at *
          have HB3 := hide B3.at_
          go_wp2_with (refine wpList_load_row rfl 45 (.tmp 16) rfl g3 rfl _ _ _ _ HB3.out Try.underlying45 rfl (size_cl _) ?_)
          refine (E7.out _).mono ?_
          rintro e w5 ⟨rfl, hb5⟩
          replace B1 := B1.below hb5 B1.lt
          replace B2 := B2.below hb5 B2.lt
          replace B3 := B3.below hb5 B3.lt
          replace hbl := hbl.trans (hb5.mono hbl.size)
          clear HB3 hb5
          have HB3 := hide B3.at_
          go_upto_region 20 with (refine wpList_store_row rfl 45 _ _ rfl g3 (cl (S)).toArray rfl rfl _ _ HB3.out (size_cl _) ((cl_size _).trans (cl_size _).symm) (one_cl _) ?_)
          replace B1 := B1.other (cl S).toArray n31
          replace B2 := B2.other (cl S).toArray n32
          replace B3 := B3.set S
          replace hbl := below_setRow hbl g3e (cl S).toArray
          clear HB3
          generalize w5.setRow g3 (cl S).toArray = w6 at *
          have ke := fun w => equal_state S S w
          rw [sameS_refl] at ke
          have HB1 := hide B1.at_
          by_cases hin : inB (S (2 * R) + P) ∧ inB (S (2 * R + 1) + Q)
          · have e3 := app_add hS hR8 iP iQ
            rw [if_pos hin] at e3
            have o3 := okS_upd hS R hin.1 hin.2
            have e4 := app_add o3 hR8 iP' iQ'
            rw [upd_re, upd_im, show S (2 * R) + P + -P = S (2 * R) from by omega, show S (2 * R + 1) + Q + -Q = S (2 * R + 1) from by omega, if_pos (hS R hR8), upd_upd, upd_self] at e4
            have E8 := hide (apply_out _ _ _ _ _ _ e3)
            have E9 := hide (apply_out _ _ _ _ _ _ e4)
            clear e3 e4 o3
            go_wp2_with (refine wpList_load_row rfl 45 (.tmp 11) rfl w1.heap.size rfl _ _ _ _ HB1.out Try.underlying45 rfl (size_cl _) ?_)
            refine (E8.out _).mono ?_
            rintro e w7 ⟨rfl, hb7⟩
            replace B1 := B1.below hb7 B1.lt
            replace B2 := B2.below hb7 B2.lt
            replace B3 := B3.below hb7 B3.lt
            replace hbl := hbl.trans (hb7.mono hbl.size)
            clear HB1 hb7
            go_upto_region 21 with (refine wpList_store_row rfl 45 _ _ rfl w7.heap.size (cl (upd S R (S (2 * R) + P) (S (2 * R + 1) + Q))).toArray rfl rfl _ _ (old2 w7 _ _) (size_cl _) (cl_size _).symm (one_cl _) ?_; rw [alloc_set2])
            have B4 := (Blk.new w7 (upd S R (S (2 * R) + P) (S (2 * R + 1) + Q))).alloc (.cells #[.int .i64 1, .int .i64 (S (2 * R) + P), .int .i64 (S (2 * R + 1) + Q)] 50)
            obtain ⟨f0, _, _⟩ := res_kept (Below.refl _ ((w7.alloc (.cells (cl (upd S R (S (2 * R) + P) (S (2 * R + 1) + Q))).toArray 45)).alloc (.cells #[.int .i64 1, .int .i64 (S (2 * R) + P), .int .i64 (S (2 * R + 1) + Q)] 50)))
            have n41 : w1.heap.size ≠ w7.heap.size := by have := B1.lt; omega
            have n42 : g2 ≠ w7.heap.size := by have := B2.lt; omega
            have n43 : g3 ≠ w7.heap.size := by have := B3.lt; omega
            have g4e : w.heap.size ≤ w7.heap.size := hbl.size
            replace hbl := (hbl.alloc hbl.size (.cells (cl (upd S R (S (2 * R) + P) (S (2 * R + 1) + Q))).toArray 45)).alloc (by have := hbl.size; simp; omega) (.cells #[.int .i64 1, .int .i64 (S (2 * R) + P), .int .i64 (S (2 * R + 1) + Q)] 50)
            replace B1 := (B1.alloc (.cells (cl (upd S R (S (2 * R) + P) (S (2 * R + 1) + Q))).toArray 45)).alloc (.cells #[.int .i64 1, .int .i64 (S (2 * R) + P), .int .i64 (S (2 * R + 1) + Q)] 50)
            replace B2 := (B2.alloc (.cells (cl (upd S R (S (2 * R) + P) (S (2 * R + 1) + Q))).toArray 45)).alloc (.cells #[.int .i64 1, .int .i64 (S (2 * R) + P), .int .i64 (S (2 * R + 1) + Q)] 50)
            replace B3 := (B3.alloc (.cells (cl (upd S R (S (2 * R) + P) (S (2 * R + 1) + Q))).toArray 45)).alloc (.cells #[.int .i64 1, .int .i64 (S (2 * R) + P), .int .i64 (S (2 * R + 1) + Q)] 50)
            generalize (w7.alloc (.cells (cl (upd S R (S (2 * R) + P) (S (2 * R + 1) + Q))).toArray 45)).alloc (.cells #[.int .i64 1, .int .i64 (S (2 * R) + P), .int .i64 (S (2 * R + 1) + Q)] 50) = w8 at *
            generalize w7.heap.size = g4 at *
            have HB4 := hide B4.at_
            go_wp2_with (refine wpList_load_row rfl 45 (.tmp 18) rfl g4 rfl _ _ _ _ HB4.out Try.underlying45 rfl (size_cl _) ?_)
            refine (E9.out _).mono ?_
            rintro e w9 ⟨rfl, hb9⟩
            replace B1 := B1.below hb9 B1.lt
            replace B2 := B2.below hb9 B2.lt
            replace B3 := B3.below hb9 B3.lt
            replace B4 := B4.below hb9 B4.lt
            replace hbl := hbl.trans (hb9.mono hbl.size)
            clear HB4 hb9 f0
            have HB4 := hide B4.at_
            go_upto_region 23 with (refine wpList_store_row rfl 45 _ _ rfl g4 (cl (S)).toArray rfl rfl _ _ HB4.out (size_cl _) ((cl_size _).trans (cl_size _).symm) (one_cl _) ?_)
            replace B1 := B1.other (cl S).toArray n41
            replace B2 := B2.other (cl S).toArray n42
            replace B3 := B3.other (cl S).toArray n43
            replace B4 := B4.set S
            replace hbl := below_setRow hbl g4e (cl S).toArray
            clear HB4
            generalize w9.setRow g4 (cl S).toArray = w10 at *
            have HB1 := hide B1.at_
            have HB2 := hide B2.at_
            have HB3 := hide B3.at_
            have HB4 := hide B4.at_
            go_wp2_with (first
              | (refine wpList_load_row rfl 45 (.tmp 14) rfl g2 rfl _ _ _ _ HB2.out Try.underlying45 rfl (size_cl _) ?_)
              | (refine wpList_load_row rfl 45 (.tmp 11) rfl w1.heap.size rfl _ _ _ _ HB1.out Try.underlying45 rfl (size_cl _) ?_)
              | (refine wpList_load_want (by rfl) 45 (.tmp 14) rfl g2 rfl _ _ _ _ HB2.out Try.underlying45 rfl (size_cl _) ?_)
              | (refine wpList_load_want (by rfl) 45 (.tmp 11) rfl w1.heap.size rfl _ _ _ _ HB1.out Try.underlying45 rfl (size_cl _) ?_)
              | (refine wpList_load_want (by rfl) 45 (.tmp 16) rfl g3 rfl _ _ _ _ HB3.out Try.underlying45 rfl (size_cl _) ?_)
              | (refine wpList_load_want (by rfl) 45 (.tmp 18) rfl g4 rfl _ _ _ _ HB4.out Try.underlying45 rfl (size_cl _) ?_))
            go_ret
            exact ⟨rfl, hbl⟩
          · have e3 := app_add hS hR8 iP iQ
            rw [if_neg hin] at e3
            have E8 := hide (apply_out _ _ _ _ _ _ e3)
            clear e3
            go_wp2_with (refine wpList_load_row rfl 45 (.tmp 11) rfl w1.heap.size rfl _ _ _ _ HB1.out Try.underlying45 rfl (size_cl _) ?_)
            refine (E8.out _).mono ?_
            rintro e w7 ⟨rfl, hb7⟩
            replace B1 := B1.below hb7 B1.lt
            replace B2 := B2.below hb7 B2.lt
            replace B3 := B3.below hb7 B3.lt
            replace hbl := hbl.trans (hb7.mono hbl.size)
            clear HB1 hb7
            go_upto_region 21 with (refine wpList_store_row rfl 45 _ _ rfl w7.heap.size (cl (S)).toArray rfl rfl _ _ (old2 w7 _ _) (size_cl _) (cl_size _).symm (one_cl _) ?_; rw [alloc_set2])
            have B4 := (Blk.new w7 S).alloc (.cells #[.int .i64 2, .int .i64 0, .int .i64 0] 50)
            obtain ⟨f0, _, _⟩ := res_kept (Below.refl _ ((w7.alloc (.cells (cl S).toArray 45)).alloc (.cells #[.int .i64 2, .int .i64 0, .int .i64 0] 50)))
            replace hbl := (hbl.alloc hbl.size (.cells (cl S).toArray 45)).alloc (by have := hbl.size; simp; omega) (.cells #[.int .i64 2, .int .i64 0, .int .i64 0] 50)
            replace B1 := (B1.alloc (.cells (cl S).toArray 45)).alloc (.cells #[.int .i64 2, .int .i64 0, .int .i64 0] 50)
            replace B2 := (B2.alloc (.cells (cl S).toArray 45)).alloc (.cells #[.int .i64 2, .int .i64 0, .int .i64 0] 50)
            replace B3 := (B3.alloc (.cells (cl S).toArray 45)).alloc (.cells #[.int .i64 2, .int .i64 0, .int .i64 0] 50)
            generalize (w7.alloc (.cells (cl S).toArray 45)).alloc (.cells #[.int .i64 2, .int .i64 0, .int .i64 0] 50) = w8 at *
            generalize w7.heap.size = g4 at *
            have HB1 := hide B1.at_
            have HB2 := hide B2.at_
            have HB3 := hide B3.at_
            have HB4 := hide B4.at_
            go_wp2_with (first
              | (refine wpList_load_row rfl 45 (.tmp 14) rfl g2 rfl _ _ _ _ HB2.out Try.underlying45 rfl (size_cl _) ?_)
              | (refine wpList_load_row rfl 45 (.tmp 11) rfl w1.heap.size rfl _ _ _ _ HB1.out Try.underlying45 rfl (size_cl _) ?_)
              | (refine wpList_load_want (by rfl) 45 (.tmp 14) rfl g2 rfl _ _ _ _ HB2.out Try.underlying45 rfl (size_cl _) ?_)
              | (refine wpList_load_want (by rfl) 45 (.tmp 11) rfl w1.heap.size rfl _ _ _ _ HB1.out Try.underlying45 rfl (size_cl _) ?_)
              | (refine wpList_load_want (by rfl) 45 (.tmp 16) rfl g3 rfl _ _ _ _ HB3.out Try.underlying45 rfl (size_cl _) ?_)
              | (refine wpList_load_want (by rfl) 45 (.tmp 18) rfl g4 rfl _ _ _ _ HB4.out Try.underlying45 rfl (size_cl _) ?_))
            go_ret
            exact ⟨rfl, hbl⟩
end Go.Proofs.Ytogkgmbldmfpiaa
