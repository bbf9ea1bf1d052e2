/-
  The walk of PackBack: what was written is read again, and then nothing is left. Condition: all that is read is of bulk at most 2^20.
-/
import Derived.Test.YtofdjpophacldaaPuts
namespace Go.Proofs.Ytofdjpophacldaa
open Go.RowKit

set_option maxHeartbeats 1600000 in
theorem back_walk (A : Option Addr) (c : Nat) (qs : List PutV) (w : World) (hx : HasS w w.heap.size A qs) (hn : qs.length ≤ 1048576) (hb : (outP qs).length ≤ 140000000000000) :
    Calls Try.prog 5 #[.slice A qs.length c] w fun e w' => e = .returned (.bool true) ∧ Below w.heap.size w w' := by
  have HB := hide hb
  clear hb
  go_enter Try.func5, Try.ntmps5
  go_wp2_with fail
  refine (head1_any w).mono ?_
  rintro e w1 ⟨rfl, hb1⟩
  go_wp2_with fail
  refine (newwriter_any w1).mono ?_
  rintro e w2 ⟨rfl, hw2⟩
  have hwr2 := wr_new w1 w.heap.size hb1.size
  have hb2 := hb1.alloc hb1.size (.cells #[.slice none 0 0] 75)
  rw [hw2] at hwr2 hb2
  clear hw2 hb1
  generalize w1.heap.size = g at *
  go_wp2_with fail
  go_loopw [14] (fun i wr => ∃ (k : Nat) (b : Option Nat), k ≤ qs.length ∧ i = .int .i64 k ∧ Wr wr w.heap.size g b (outP (qs.take k)) ∧ Below w.heap.size w wr) (fun i _ => qs.length - (intOf i).toNat)
  case atStart => exact ⟨0, none, Nat.zero_le _, rfl, hwr2, hb2⟩
  case round =>
    clear hwr2 hb2
    obtain ⟨k, b, hk, rfl, hwr, hbl⟩ := hrel
    by_cases hlt : k < qs.length
    · obtain ⟨⟨ab, ao, rfl, habb, c0, c1, c2⟩, hk0, hk1, hp, hpl⟩ := hx k hlt
      replace c0 := (hbl.cell (p := ⟨ab, ao + k * 3, none⟩) habb).trans c0
      replace c1 := (hbl.cell (p := ⟨ab, ao + k * 3 + 1, none⟩) habb).trans c1
      replace c2 := (hbl.cell (p := ⟨ab, ao + k * 3 + 2, none⟩) habb).trans c2
      have hsz := hbl.size
      have hpw := hp.below hbl
      have HT := hide (outP_take qs k hlt)
      have HP := hide (outP_part qs k hlt)
      generalize qs[k] = q at *
      obtain ⟨qk, qn, qa, ql, qc, qb⟩ := q
      simp only at c0 c1 c2 hk0 hk1 hp hpl hpw
      unfold Piece.val at c2
      simp only at c2
      generalize outP (qs.take k) = xs at *
      have hb3 := hbl.alloc hsz (.cells #[.int .i64 qk, .int .i64 qn, .slice qa ql qc] 28)
      have hwr3 := hwr.below ((Below.refl _ _).alloc (Nat.le_refl _) (.cells #[.int .i64 qk, .int .i64 qn, .slice qa ql qc] 28))
      have hpw3 := hp.below hb3
      by_cases h0 : qk = 0
      · subst h0
        rw [encP_0] at HT HP
        have hlen := HP.out
        rw [enc_length] at hlen
        have HL : Hid (xs.length + 9 ≤ 140737488355328) := by have := HB.out; exact hide (by omega)
        clear hlen
        go_wp2_with fail
        rw [unb_wrap]
        refine (wnum_any g w.heap.size b xs (unb qn) _ hwr3 (unb_lt _) HL.out).mono ?_
        rintro e w4 ⟨rfl, b4, hwr4, _, hk4⟩
        have hbl4 := hb3.trans (hk4.below hb3.size (fun k h => (hwr3.foot k h).1))
        go_wp2
        go_roundw
        case rel => exact ⟨k + 1, b4, by omega, by go_num, by rw [HT.out]; exact hwr4, hbl4⟩
        case measure => simp [intOf]; omega
      · by_cases h1 : qk = 1
        · subst h1
          rw [encP_1] at HT HP
          have hlen := HP.out
          rw [enc_length] at hlen
          have HL : Hid (xs.length + 9 ≤ 140737488355328) := by have := HB.out; exact hide (by omega)
          clear hlen
          go_wp2_with fail
          refine (wint_any g w.heap.size b xs qn _ hwr3 hk1 HL.out).mono ?_
          rintro e w4 ⟨rfl, b4, hwr4, _, hk4⟩
          have hbl4 := hb3.trans (hk4.below hb3.size (fun k h => (hwr3.foot k h).1))
          go_wp2
          go_roundw
          case rel => exact ⟨k + 1, b4, by omega, by go_num, by rw [HT.out]; exact hwr4, hbl4⟩
          case measure => simp [intOf]; omega
        · rw [encP_2 h0 h1] at HT HP
          have hlen := HP.out
          rw [List.length_append, enc_length] at hlen
          simp only at hlen
          have HL : Hid (xs.length + 9 + ql ≤ 140737488355328) := by have := HB.out; exact hide (by omega)
          have hql : ql ≤ 140737488355328 := by have := HL.out; omega
          clear hlen
          have t0 : (qk == 0) = false := by simpa using h0
          have t1 : (qk == 1) = false := by simpa using h1
          clear h0 h1
          go_wp2_with fail
          refine (copy_any qa ql qc qb _ (hpw3.more hb3.size) hpl hql).mono ?_
          rintro e w4 ⟨rfl, hw4⟩
          have hwr4 := hwr3.below ((Below.refl _ _).alloc (Nat.le_refl _) (.cells (bcells qb) 5))
          have hb4 := hb3.alloc hb3.size (.cells (bcells qb) 5)
          have hn4 := Has.new (wr.alloc (.cells #[.int .i64 qk, .int .i64 qn, .slice qa ql qc] 28)) 5 qb (0, 0) (wr.heap.size + 1) (by simp)
          have hs4 : wr.heap.size + 1 + 1 ≤ ((wr.alloc (.cells #[.int .i64 qk, .int .i64 qn, .slice qa ql qc] 28)).alloc (.cells (bcells qb) 5)).heap.size := by simp
          have ho4 : Off (Foot g b) (some ⟨wr.heap.size + 1, 0, none⟩) qb := by
            intro a e _ hf
            injection e with e
            subst e
            have := (hwr.foot _ hf).2
            simp at this
            omega
          rw [hw4] at hwr4 hb4 hn4 hs4
          clear hw4
          go_wp2_with fail
          refine (wtext_any g w.heap.size (wr.heap.size + 1 + 1) b xs (some ⟨wr.heap.size + 1, 0, none⟩) ql ql qb w4 hwr4 hn4 ho4 hs4 hpl HL.out).mono ?_
          rintro e w5 ⟨rfl, b5, hwr5, _, hk5⟩
          have hbl5 := hb4.trans (hk5.below hb4.size (fun k h => (hwr4.foot k h).1))
          subst hpl
          go_wp2
          go_roundw
          case rel => exact ⟨k + 1, b5, by omega, by go_num, by rw [HT.out]; exact hwr5, hbl5⟩
          case measure => simp [intOf]; omega
    · have e : k = qs.length := by omega
      subst e
      rw [List.take_length] at hwr
      go_wp2_with fail
      refine (wbytes_any g w.heap.size b (outP qs) wr hwr (by have := HB.out; omega)).mono ?_
      rintro e w3 ⟨v3, rfl, ho3, hbl3⟩
      obtain ⟨A3, n3, c3, rfl, hn3, _, hx3, _⟩ := ho3.form
      have hb3 := hbl.trans (hbl3.mono hbl.size)
      go_wp2_with fail
      refine (newreader_any A3 n3 c3 _ (outP qs) w3 hx3 (Nat.le_refl _) hn3.out (by have := hn3.out; have := HB.out; omega)).mono ?_
      rintro e w4 ⟨gr, br, rfl, hrd4, hf4, hbl4⟩
      have hb4 := hb3.trans (hbl4.mono hb3.size)
      have hf4' : ∀ j, Foot gr br j → w.heap.size ≤ j := fun j hj => Nat.le_trans hb3.size (hf4 j hj).1
      clear hf4 hbl4 hb3 hx3 ho3 hbl3 hwr hbl
      go_wp2_with fail
      go_loopw [44] (fun i wx => ∃ (k : Nat) (br : Option Nat), k ≤ qs.length ∧ i = .int .i64 k ∧ Rd wx gr br (outP (qs.drop k)) 0 ∧ (∀ j, Foot gr br j → w.heap.size ≤ j) ∧ Below w.heap.size w wx) (fun i _ => qs.length - (intOf i).toNat)
      case atStart => exact ⟨0, br, Nat.zero_le _, rfl, hrd4, hf4', hb4⟩
      case round =>
        clear hrd4 hf4' hb4
        obtain ⟨k, br, hk, rfl, hrd, hft, hbl⟩ := hrel
        by_cases hlt : k < qs.length
        · obtain ⟨⟨ab, ao, rfl, habb, c0, c1, c2⟩, hk0, hk1, hp, hpl⟩ := hx k hlt
          replace c0 := (hbl.cell (p := ⟨ab, ao + k * 3, none⟩) habb).trans c0
          replace c1 := (hbl.cell (p := ⟨ab, ao + k * 3 + 1, none⟩) habb).trans c1
          replace c2 := (hbl.cell (p := ⟨ab, ao + k * 3 + 2, none⟩) habb).trans c2
          have hsz := hbl.size
          rw [outP_drop qs k hlt] at hrd
          have HP := hide (outP_part qs k hlt)
          generalize qs[k] = q at *
          obtain ⟨qk, qn, qa, ql, qc, qb⟩ := q
          simp only at c0 c1 c2 hk0 hk1 hp hpl
          unfold Piece.val at c2
          simp only at c2
          generalize hts : outP (qs.drop (k + 1)) = ts at *
          have HTS := hide hts
          clear hts
          have hb5 := hbl.alloc hsz (.cells #[.int .i64 qk, .int .i64 qn, .slice qa ql qc] 28)
          have hrd5 := hrd.below ((Below.refl _ _).alloc (Nat.le_refl _) (.cells #[.int .i64 qk, .int .i64 qn, .slice qa ql qc] 28))
          have d1 : (wr.alloc (.cells #[.int .i64 qk, .int .i64 qn, .slice qa ql qc] 28)).cell? ⟨wr.heap.size, 1, none⟩ = some (.int .i64 qn) := by simp
          have d2 : (wr.alloc (.cells #[.int .i64 qk, .int .i64 qn, .slice qa ql qc] 28)).cell? ⟨wr.heap.size, 2, none⟩ = some (.slice qa ql qc) := by simp
          have hs5 : wr.heap.size < (wr.alloc (.cells #[.int .i64 qk, .int .i64 qn, .slice qa ql qc] 28)).heap.size := by simp
          have hgr : gr < wr.heap.size := by
            obtain ⟨_, _, _, h, _⟩ := hrd
            exact lt_of_block h
          have HR : Hid (∀ (W W' : World) (b' : Option Nat), Below w.heap.size w W → wr.heap.size < W.heap.size → W.cell? ⟨wr.heap.size, 1, none⟩ = some (.int .i64 qn) → W.cell? ⟨wr.heap.size, 2, none⟩ = some (.slice qa ql qc) → (b' = br ∨ b' = none) → Kept (fun j => j = gr) W W' →
              Below w.heap.size w W' ∧ W'.cell? ⟨wr.heap.size, 1, none⟩ = some (.int .i64 qn) ∧ W'.cell? ⟨wr.heap.size, 2, none⟩ = some (.slice qa ql qc) ∧ (∀ j, Foot gr b' j → w.heap.size ≤ j)) := by
            refine hide fun W W' b' h1 h2 h3 h4 h5 h6 => ⟨h1.trans (h6.below h1.size (fun j hj => hft j (.inl hj))), ?_, ?_, fun j hj => ?_⟩
            · exact (World.cell?_of_block (w := W) (a := ⟨wr.heap.size, 1, none⟩) (h6.block _ h2 (fun e => by simp only at e; omega))).trans h3
            · exact (World.cell?_of_block (w := W) (a := ⟨wr.heap.size, 2, none⟩) (h6.block _ h2 (fun e => by simp only at e; omega))).trans h4
            · rcases hj with hj | hj
              · exact hft j (.inl hj)
              · rcases h5 with rfl | rfl
                · exact hft j (.inr hj)
                · cases hj
          by_cases h0 : qk = 0
          · subst h0
            rw [encP_0] at hrd5
            have HC : Hid (∀ W : World, Rd W gr br (enc (unb qn) ++ ts) 0 → Calls Try.prog 26 #[.pointer (some ⟨gr, 0, none⟩)] W (REnds gr br (.int .u64 (unb qn : Int)) ts 0 W)) := by
              intro W h
              have h' := rnum_any gr br _ W h
              rw [rn_enc _ (unb_lt _)] at h'
              exact h'
            have t1 : (((unb qn : Nat) : Int) != IntKind.u64.wrap qn) = false := by rw [unb_wrap]; simp
            go_wp2_with fail
            generalize wr.alloc (.cells #[.int .i64 0, .int .i64 qn, .slice qa ql qc] 28) = w5 at *
            go_region_held3 (fun w' => w'.cell? ⟨wr.heap.size, 1, none⟩ = some (.int .i64 qn)) (first | exact d1 | exact d7 | go_keep)
              (first | ((go_at_call 26; (with_reducible refine (HC.out _ ?_).mono ?_)); exact hrd5; rintro e w7 ⟨rfl, b7, hrd7, hb7, hk7⟩; obtain ⟨hbl7, d7, e7, hf7⟩ := HR.out _ w7 b7 hb5.drew hs5 d1 d2 hb7 hk7))
            all_goals
              go_wp2_with fail
              go_roundw
              case rel => exact ⟨k + 1, b7, by omega, by go_num, by rw [HTS.out]; exact hrd7, hf7, hbl7⟩
              case measure => simp [intOf]; omega
          · by_cases h1 : qk = 1
            · subst h1
              rw [encP_1] at hrd5
              have HC : Hid (∀ W : World, Rd W gr br (enc (zig qn) ++ ts) 0 → Calls Try.prog 27 #[.pointer (some ⟨gr, 0, none⟩)] W (REnds gr br (.int .i64 qn) ts 0 W)) := by
                intro W h
                have h' := rint_any gr br _ W h
                rw [rn_enc _ (zig_lt hk1)] at h'
                simp only [zag_zig hk1] at h'
                exact h'
              go_wp2_with fail
              generalize wr.alloc (.cells #[.int .i64 1, .int .i64 qn, .slice qa ql qc] 28) = w5 at *
              go_region_held3 (fun w' => w'.cell? ⟨wr.heap.size, 1, none⟩ = some (.int .i64 qn)) (first | exact d1 | exact d7 | go_keep)
                (first | ((go_at_call 27; (with_reducible refine (HC.out _ ?_).mono ?_)); exact hrd5; rintro e w7 ⟨rfl, b7, hrd7, hb7, hk7⟩; obtain ⟨hbl7, d7, e7, hf7⟩ := HR.out _ w7 b7 hb5.drew hs5 d1 d2 hb7 hk7))
              all_goals
                go_wp2_with fail
                go_roundw
                case rel => exact ⟨k + 1, b7, by omega, by go_num, by rw [HTS.out]; exact hrd7, hf7, hbl7⟩
                case measure => simp [intOf]; omega
            · rw [encP_2 h0 h1] at hrd5 HP
              simp only at hrd5
              have hlen := HP.out
              rw [List.length_append, enc_length] at hlen
              simp only at hlen
              have hql : ql ≤ 140737488355328 := by have := HB.out; omega
              clear hlen
              have t0 : (qk == 0) = false := by simpa using h0
              have t1 : (qk == 1) = false := by simpa using h1
              clear h0 h1
              have HC : Hid (∀ W : World, Rd W gr br (enc qb.length ++ qb ++ ts) 0 → Calls Try.prog 32 #[.pointer (some ⟨gr, 0, none⟩), .int .i64 (ql : Int)] W (TEnds gr br qb ts 0 W)) := by
                intro W h
                have hr : rcn (enc qb.length ++ qb ++ ts) (ql : Int) = (qb.length, qb ++ ts, 0) := by
                  unfold rcn
                  rw [List.append_assoc, rn_enc _ (by omega), if_neg (by simp; omega)]
                have h' := rtext_ok gr br _ (ql : Int) W h (by unfold IsInt; omega) (by rw [hr]) (by rw [hr]; simp)
                rw [hr] at h'
                simpa using h'
              go_wp2_with fail
              generalize wr.alloc (.cells #[.int .i64 qk, .int .i64 qn, .slice qa ql qc] 28) = w5 at *
              go_region_held3 (fun w' => w'.cell? ⟨wr.heap.size, 2, none⟩ = some (.slice qa ql qc)) (first | exact d2 | exact e7 | go_keep)
                (first
                  | ((go_at_call 32; (with_reducible refine (HC.out _ ?_).mono ?_)); exact hrd5; rintro e w7 ⟨v7, rfl, ho7, b7, hrd7, hb7, hk7⟩; obtain ⟨hbl7, d7, e7, hf7⟩ := HR.out _ w7 b7 hb5.drew hs5 d1 d2 hb7 hk7; obtain ⟨A7, n7, c7, rfl, hn7, _, hx7, _⟩ := ho7.form; have hp7 := hp.below hbl7)
                  | ((go_at_call 23; (with_reducible refine (same_true A7 qa n7 ql c7 qc w7.heap.size w.heap.size qb _ ?_ ?_ ?_ ?_ ?_).mono ?_)); exact hx7; exact hp7; exact hn7.out; exact hpl; (have := hn7.out; omega); rintro e w8 ⟨rfl, m8, rfl⟩))
              all_goals
                go_wp2_with fail
                go_roundw
                case rel => exact ⟨k + 1, b7, by omega, by go_num, by rw [HTS.out]; exact hrd7, hf7, below_drewN hbl7 m8⟩
                case measure => simp [intOf]; omega
        · have e : k = qs.length := by omega
          subst e
          rw [List.drop_length] at hrd
          go_wp2_with fail
          refine (rdone_end gr br wr hrd).mono ?_
          rintro e w5 ⟨rfl, rfl⟩
          go_wp2
          go_ret
          exact ⟨rfl, hbl⟩
end Go.Proofs.Ytofdjpophacldaa
