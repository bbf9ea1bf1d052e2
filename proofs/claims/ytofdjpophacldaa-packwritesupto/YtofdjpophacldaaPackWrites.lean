/-
  The walk of PackWrites: whatever is written, all bytes so far are the document's, in new memory. Condition: all that is read is of bulk at most 2^20.
-/
import Derived.Test.YtofdjpophacldaaRefPack
import Derived.Test.YtofdjpophacldaaSealOpens
import Derived.Deep.CutBlock
import Derived.Lib.Builder
namespace Go.Proofs.Ytofdjpophacldaa
open Go.RowKit

theorem writer_has : (Try.prog.info? 75).isSome = true := by kernel_rfl
theorem neq_writer (W : World) (g : Nat) : (binOp .neq 24 (.pointer (some ⟨g, 0, none⟩)) (.pointer (some ⟨g, 0, none⟩))).run Try.prog W = .ok (.bool false) W := by
  obtain ⟨j, hj⟩ := Option.isSome_iff_exists.1 writer_has
  exact Lib.run_neq_ptr_same (P := Try.prog) W ⟨g, 0, none⟩ Try.underlying24 hj

/-- What holds behind the switch: one more is written, what is wanted lies apart, and the copy of what was read stands in its box. -/
def Mid (w : World) (g gp : Nat) (q : PutV) (vw : Value) (xs : List UInt8) (wx : World) : Prop :=
  ∃ b, Wr wx w.heap.size g b (xs ++ encP q) ∧ Own wx w.heap.size vw xs ∧ (∀ j, vw.ownBlock = some j → ¬ Foot g b j) ∧ Below w.heap.size w wx ∧ wx.heap[gp]? = some (.cells #[.int .i64 q.k, .int .i64 q.n, q.p.val] 28 (0, 0))

theorem own_type {w : World} {base g : Nat} {v : Value} {xs : List UInt8} {cs : Array Value} {t : TypeId} {m : Nat × Nat} (ho : Own w base v xs) (hg : w.heap[g]? = some (.cells cs t m)) (ht : t ≠ 5) : v.ownBlock ≠ some g := by
  rcases ho.2 with ⟨rfl, _⟩ | ⟨g', cap, cur, rfl, _, hh, _⟩
  · intro h; cases h
  · intro h
    have e : g' = g := by simpa [Value.ownBlock] using h
    subst e
    rw [hg] at hh
    injection hh with hh
    injection hh with _ h2
    exact ht h2
theorem wr_type {w : World} {base g gp : Nat} {b : Option Nat} {xs : List UInt8} {cs : Array Value} {m : Nat × Nat} (h : Wr w base g b xs) (hg : w.heap[gp]? = some (.cells cs 28 m)) : ¬ Foot g b gp := by
  obtain ⟨_, v, hv, ho, hb⟩ := h
  rintro (rfl | hf)
  · rw [hg] at hv
    injection hv with hv
    injection hv with _ h2
    exact absurd h2 (by decide)
  · exact own_type ho hg (by decide) (hb.trans hf)

theorem Mid.below {w wx wy : World} {g gp : Nat} {q : PutV} {vw : Value} {xs : List UInt8} (h : Mid w g gp q vw xs wx) (hb : Below wx.heap.size wx wy) : Mid w g gp q vw xs wy := by
  obtain ⟨b, h1, h2, h3, h4, h5⟩ := h
  exact ⟨b, h1.below hb, h2.below hb, h3, h4.trans (hb.mono h4.size), (hb.block gp (lt_of_block h5)).trans h5⟩

theorem mid_write {w w4 w5 w6 : World} {g gp gb : Nat} {b b5 : Option Nat} {q : PutV} {vw : Value} {xs ys : List UInt8} (hb4 : Below w.heap.size w w4) (hwr4 : Wr w4 w.heap.size g b xs) (how4 : Own w4 w.heap.size vw xs)
    (hd : ∀ j, vw.ownBlock = some j → ¬ Foot g b j) (hbox : w4.heap[gp]? = some (.cells #[.int .i64 q.k, .int .i64 q.n, q.p.val] 28 (0, 0))) (hwr5 : Wr w5 w.heap.size g b5 ys) (hb5 : b5 = b ∨ ∃ k, b5 = some k ∧ w4.heap.size ≤ k)
    (hk5 : Kept (Foot g b) w4 w5) (hk6 : Kept (fun j => j = gb) w5 w6) (hgb1 : ¬ Foot g b gb) (hgb2 : gb < w4.heap.size) (hgb3 : vw.ownBlock ≠ some gb) (hgb4 : gb ≠ gp) (hgb5 : w.heap.size ≤ gb) (hy : ys = xs ++ encP q) : Mid w g gp q vw xs w6 := by
  subst hy
  have hF : ∀ j, j < w4.heap.size → ¬ Foot g b j → ¬ Foot g b5 j := by
    intro j h1 h2 h3
    rcases foot_step hb5 j h3 with h | h
    · exact h2 h
    · omega
  have hgp := wr_type hwr4 hbox
  have hl := lt_of_block hbox
  have how5 := how4.kept hk5 (fun j _ _ e => hd j e)
  have hbl5 := hb4.trans (hk5.below hb4.size (fun k h => (hwr4.foot k h).1))
  have box5 := (hk5.block gp hl hgp).trans hbox
  refine ⟨b5, hwr5.kept hk6 (fun k hf e => by subst e; exact hF k hgb2 hgb1 hf), how5.kept hk6 (fun j _ _ e1 e2 => hgb3 (e2 ▸ e1)), fun j e => hF j (how4.lt j e).2 (hd j e),
    hbl5.trans (hk6.below hbl5.size (fun k e => by subst e; exact hgb5)), (hk6.block gp (lt_of_block box5) (fun e => hgb4 e.symm)).trans box5⟩

theorem three_cell {w : World} {g : Nat} {x y z : Value} {t : TypeId} (h : w.heap[g]? = some (.cells #[x, y, z] t (0, 0))) : w.cell? ⟨g, 0, none⟩ = some x ∧ w.cell? ⟨g, 1, none⟩ = some y ∧ w.cell? ⟨g, 2, none⟩ = some z := by
  simp [World.cell?, h]

theorem cell_lt' {w : World} {p : Addr} {v : Value} (h : w.cell? p = some v) : p.block < w.heap.size := by
  rcases Nat.lt_or_ge p.block w.heap.size with hl | hg
  · exact hl
  · exfalso
    unfold World.cell? at h
    rw [Array.getElem?_eq_none hg] at h
    cases p with
    | mk b o s => cases s <;> simp at h

set_option maxRecDepth 20000 in
set_option maxHeartbeats 6400000 in
theorem writes_walk (A : Option Addr) (c : Nat) (qs : List PutV) (w : World) (hx : HasS w w.heap.size A qs) (hn : qs.length ≤ 1048576) (hb : (outP qs).length ≤ 100000000000000) (hbs : ∀ i (h : i < qs.length), qs[i].p.bs.length ≤ 1048576) :
    Calls Try.prog 3 #[.slice A qs.length c] w fun e w' => e = .returned (.bool true) ∧ Below w.heap.size w w' := by
  have HB := hide hb
  have HBS := hide hbs
  clear hb hbs
  go_enter Try.func3, Try.ntmps3
  go_wp2_with fail
  refine (head1_any w).mono ?_
  rintro e w1 ⟨rfl, hb1⟩
  go_wp2_with fail
  refine (newwriter_any w1).mono ?_
  rintro e w2 ⟨rfl, hw2⟩
  have hwr2 := wr_new w1 w.heap.size hb1.size
  have hb2 := hb1.alloc hb1.size (.cells #[.slice none 0 0] 75)
  rw [hw2] at hwr2 hb2
  clear hw2 hb1
  generalize w1.heap.size = g at *
  go_wp2_with fail
  have hwr3 := hwr2.below ((Below.refl _ _).alloc (Nat.le_refl _) (.cells #[] 5))
  have hb3 := hb2.alloc hb2.size (.cells #[] 5)
  have how3 := Own.new w2 [] _ w.heap.size rfl hb2.size (by simp)
  have hd3 : ∀ j, (Value.slice (some ⟨w2.heap.size, 0, none⟩) 0 0).ownBlock = some j → ¬ Foot g none j := by
    intro j e hf
    have := (hwr2.foot j hf).2
    simp [Value.ownBlock] at e
    omega
  go_loopw [4, 18] (fun vw i wr => ∃ (k : Nat) (b : Option Nat), k ≤ qs.length ∧ i = .int .i64 k ∧ Wr wr w.heap.size g b (outP (qs.take k)) ∧ Own wr w.heap.size vw (outP (qs.take k)) ∧ (∀ j, vw.ownBlock = some j → ¬ Foot g b j) ∧ Below w.heap.size w wr) (fun _ i _ => qs.length - (intOf i).toNat)
  case atStart => exact ⟨0, none, Nat.zero_le _, rfl, hwr3, how3, hd3, hb3⟩
  case round =>
    clear hwr2 hb2 hwr3 hb3 how3 hd3
    obtain ⟨k, b, hk, rfl, hwr, how, hd, hbl⟩ := hrel
    by_cases hlt : k < qs.length
    · obtain ⟨⟨ab, ao, rfl, habb, c0, c1, c2⟩, hk0, hk1, hp, hpl⟩ := hx k hlt
      replace c0 := (hbl.cell (p := ⟨ab, ao + k * 3, none⟩) habb).trans c0
      replace c1 := (hbl.cell (p := ⟨ab, ao + k * 3 + 1, none⟩) habb).trans c1
      replace c2 := (hbl.cell (p := ⟨ab, ao + k * 3 + 2, none⟩) habb).trans c2
      have hsz := hbl.size
      have HT := hide (outP_take qs k hlt)
      have HP := hide (outP_part qs k hlt)
      have hql := HBS.out k hlt
      generalize qs[k] = q at *
      obtain ⟨qk, qn, qa, ql, qc, qb⟩ := q
      simp only at c0 c1 c2 hk0 hk1 hp hpl hql
      unfold Piece.val at c2
      simp only at c2
      rw [hpl] at hql
      generalize outP (qs.take k) = xs at *
      have hb3 := hbl.alloc hsz (.cells #[.int .i64 qk, .int .i64 qn, .slice qa ql qc] 28)
      have hwr3 := hwr.below ((Below.refl _ _).alloc (Nat.le_refl _) (.cells #[.int .i64 qk, .int .i64 qn, .slice qa ql qc] 28))
      have how3 := how.alloc (.cells #[.int .i64 qk, .int .i64 qn, .slice qa ql qc] 28)
      have hbox3 := heap_alloc_new wr (.cells #[.int .i64 qk, .int .i64 qn, .slice qa ql qc] 28)
      have hpw3 := hp.below hb3
      go_wp2_with fail
      refine (copy_any qa ql qc qb _ (hpw3.more hb3.size) hpl (by omega)).mono ?_
      rintro e w4 ⟨rfl, hw4⟩
      have hwr4 := hwr3.below ((Below.refl _ _).alloc (Nat.le_refl _) (.cells (bcells qb) 5))
      have how4 := how3.alloc (.cells (bcells qb) 5)
      have hb4 := hb3.alloc hb3.size (.cells (bcells qb) 5)
      have hbox4 : ((wr.alloc (.cells #[.int .i64 qk, .int .i64 qn, .slice qa ql qc] 28)).alloc (.cells (bcells qb) 5)).heap[wr.heap.size]? = some (.cells #[.int .i64 qk, .int .i64 qn, .slice qa ql qc] 28 (0, 0)) := (Below.heap_alloc _ _ _ (by simp)).trans hbox3
      have hcp4 : Own ((wr.alloc (.cells #[.int .i64 qk, .int .i64 qn, .slice qa ql qc] 28)).alloc (.cells (bcells qb) 5)) w.heap.size (.slice (some ⟨wr.heap.size + 1, 0, none⟩) qb.length qb.length) qb := Own.new (wr.alloc (.cells #[.int .i64 qk, .int .i64 qn, .slice qa ql qc] 28)) qb (wr.heap.size + 1) _ (by simp) (by omega) (by omega)
      have hs4 : wr.heap.size + 1 + 1 ≤ ((wr.alloc (.cells #[.int .i64 qk, .int .i64 qn, .slice qa ql qc] 28)).alloc (.cells (bcells qb) 5)).heap.size := by simp
      rw [hpl] at hcp4
      have hgb1 : ¬ Foot g b (wr.heap.size + 1) := fun hf => by have := (hwr.foot _ hf).2; omega
      have hgb3 : u4.ownBlock ≠ some (wr.heap.size + 1) := fun e => by have := (how.lt _ e).2; omega
      rw [hw4] at hwr4 how4 hb4 hbox4 hcp4 hs4
      clear hw4 hwr3 how3 hb3 hbox3 hpw3 hwr how hbl c0 c1 c2
      obtain ⟨d0, d1, d2⟩ := three_cell hbox4
      go_upto_block 2 with fail
      go_cut [7] (fun s wx => s = .pointer (some ⟨g, 0, none⟩) ∧ Mid w g wr.heap.size ⟨qk, qn, qa, ql, qc, qb⟩ u4 xs wx)
      case first =>
        by_cases h0 : qk = 0
        · subst h0
          rw [encP_0] at HP
          have hlen := HP.out
          rw [enc_length] at hlen
          have HL : Hid (xs.length + 9 ≤ 140737488355328) := by have := HB.out; exact hide (by omega)
          clear hlen
          go_wp2_with fail
          rw [unb_wrap]
          refine (wnum_any g w.heap.size b xs (unb qn) w4 hwr4 (unb_lt _) HL.out).mono ?_
          rintro e w5 ⟨rfl, b5, hwr5, hb5, hk5⟩
          have hm5 : Mid w g wr.heap.size ⟨0, qn, qa, ql, qc, qb⟩ u4 xs w5 := mid_write (gb := wr.heap.size + 1) hb4 hwr4 how4 hd hbox4 hwr5 hb5 hk5 (Kept.refl _ _) hgb1 (by omega) hgb3 (by omega) (by omega) (by rw [encP_0])
          have e1 : w5.cell? ⟨wr.heap.size, 1, none⟩ = some (.int .i64 qn) := by
            obtain ⟨_, _, _, _, _, h⟩ := hm5
            exact (three_cell h).2.1
          have HN : Hid (∀ W : World, Calls Try.prog 18 #[.int .u64 (IntKind.u64.wrap qn)] W fun e w' => ∃ A' c', e = .returned (.slice A' (enc (unb qn)).length c') ∧ Below W.heap.size W w') := by
            intro W
            rw [unb_wrap]
            refine (refnum_any (unb qn) W (unb_lt _)).mono ?_
            rintro e w' ⟨v, rfl, ho, hb⟩
            obtain ⟨A', n', c', rfl, hn', _⟩ := ho.form
            have := hn'.out
            subst this
            exact ⟨A', c', rfl, hb⟩
          have HS : Hid (∀ W : World, Calls Try.prog 17 #[.int .u64 (IntKind.u64.wrap qn)] W fun e w' => e = .returned (.int .i64 ((enc (unb qn)).length : Int)) ∧ W = w') := by
            intro W
            rw [unb_wrap]
            exact size_any (unb qn) W (unb_lt _)
          clear hwr5 hb5 hk5 hwr4 how4 hb4 hbox4 hcp4 hs4 d0 d1 d2
          generalize (enc (unb qn)).length = en at *
          go_wp2_with fail
          go_region_held3 (fun w' => w'.cell? ⟨wr.heap.size, 1, none⟩ = some (.int .i64 qn)) (first | exact e1 | exact e6 | go_keep)
            (first
              | ((go_at_call 17; (with_reducible refine (HS.out _).mono ?_)); rintro e w6 ⟨rfl, rfl⟩)
              | ((go_at_call 18; (with_reducible refine (HN.out _).mono ?_)); rintro e w6 ⟨A6, c6, rfl, hb6⟩; have e6 : w6.cell? ⟨wr.heap.size, 1, none⟩ = some (.int .i64 qn) := (hb6.cell (p := ⟨wr.heap.size, 1, none⟩) (cell_lt' e1)).trans e1))
          all_goals
            go_wp2_with fail
            go_meet
            exact ⟨rfl, hm5.below (Below.trans (Below.drew (Below.refl _ _)) hb6)⟩
        · by_cases h1 : qk = 1
          · subst h1
            rw [encP_1] at HP
            have hlen := HP.out
            rw [enc_length] at hlen
            have HL : Hid (xs.length + 9 ≤ 140737488355328) := by have := HB.out; exact hide (by omega)
            clear hlen
            go_wp2_with fail
            refine (wint_any g w.heap.size b xs qn w4 hwr4 hk1 HL.out).mono ?_
            rintro e w5 ⟨rfl, b5, hwr5, hb5, hk5⟩
            have hm5 : Mid w g wr.heap.size ⟨1, qn, qa, ql, qc, qb⟩ u4 xs w5 := mid_write (gb := wr.heap.size + 1) hb4 hwr4 how4 hd hbox4 hwr5 hb5 hk5 (Kept.refl _ _) hgb1 (by omega) hgb3 (by omega) (by omega) (by rw [encP_1])
            go_wp2_with fail
            go_meet
            exact ⟨rfl, hm5⟩
          · have HE := hide (encP_2 (n := qn) (p := ⟨qa, ql, qc, qb⟩) h0 h1)
            rw [encP_2 h0 h1] at HP
            have hlen := HP.out
            rw [List.length_append, enc_length] at hlen
            simp only at hlen
            have HL : Hid (xs.length + 9 + ql ≤ 140737488355328) := by have := HB.out; exact hide (by omega)
            clear hlen
            have t0 : (qk == 0) = false := by simpa using h0
            have t1 : (qk == 1) = false := by simpa using h1
            clear h0 h1
            obtain ⟨_, _, _, hv4, hn4, _, hx4, _⟩ := hcp4.form
            injection hv4 with i1 i2 i3
            subst i1 i2 i3
            have ho4 : Off (Foot g b) (some ⟨wr.heap.size + 1, 0, none⟩) qb := by
              intro a e _ hf
              injection e with e
              subst e
              exact hgb1 hf
            go_wp2_with fail
            refine (wtext_any g w.heap.size _ b xs (some ⟨wr.heap.size + 1, 0, none⟩) ql ql qb w4 hwr4 hx4 ho4 (Nat.le_refl _) hpl HL.out).mono ?_
            rintro e w5 ⟨rfl, b5, hwr5, hb5, hk5⟩
            have hcp5 := hcp4.kept hk5 (fun j _ _ e hf => by
              have : j = wr.heap.size + 1 := by simpa [Value.ownBlock] using e.symm
              subst this
              exact hgb1 hf)
            go_wp2
            go_loopw [32] (fun i wx => ∃ k : Nat, k ≤ ql ∧ i = .int .i64 k ∧ ∃ zs, Hid (zs.length = ql) ∧ Own wx w.heap.size (.slice (some ⟨wr.heap.size + 1, 0, none⟩) ql ql) zs ∧ Kept (fun j => j = wr.heap.size + 1) w5 wx) (fun i _ => ql - (intOf i).toNat)
            case atStart => exact ⟨0, Nat.zero_le _, rfl, _, hpl, hcp5, Kept.refl _ _⟩
            case round =>
              obtain ⟨k2, hk2, rfl, zs, hzl, hoz, hkz⟩ := hrel
              by_cases hlt2 : k2 < ql
              · have hkz' : k2 < zs.length := by have := hzl.out; omega
                obtain ⟨g2, cc, hv, hg, hg2, _, hcell, hfr, hset⟩ := hoz.at_ hkz'
                injection hv with e1 e2 e3
                injection e1 with e1
                injection e1 with e1
                subst e1 e3
                obtain ⟨cb, hcb⟩ : ∃ cb, zs[k2]'hkz' = cb := ⟨_, rfl⟩
                rw [hcb] at hcell
                have HSET := hide (hset (cb ^^^ 255))
                have HX := hide (xor_255 cb)
                unfold byt at hcell
                clear hset e2 hcb
                have HKZ := hide hkz
                have HOZ := hide hoz
                clear hkz hoz
                go_wp2
                go_roundw
                case rel => exact ⟨k2 + 1, by omega, by go_num, zs.set k2 (cb ^^^ 255), by show (zs.set k2 (cb ^^^ 255)).length = ql; rw [List.length_set]; exact hzl.out, by rw [HX.out]; exact HSET.out, HKZ.out.setCell (.inl rfl) _⟩
                case measure => simp [intOf]; omega
              · have hm6 := mid_write (q := ⟨qk, qn, qa, ql, qc, qb⟩) hb4 hwr4 how4 hd hbox4 hwr5 hb5 hk5 hkz hgb1 (by omega) hgb3 (by omega) (by omega) (by rw [HE.out, ← hpl])
                clear hkz hoz hzl zs hcp5 hwr5 hb5 hk5
                go_wp2_with fail
                go_meet
                exact ⟨rfl, hm6⟩
      case rest =>
        obtain ⟨rfl, b6, hwr6, how6, hd6, hbl6, hbox6⟩ := hcut
        obtain ⟨d0', d1', d2'⟩ := three_cell hbox6
        unfold Piece.val at d2'
        simp only at d0' d1' d2'
        have HBO := hide (bytesof_any qk qn qa ql qc w.heap.size qb wc hk1 (hp.below hbl6) hbl6.size hpl (by omega))
        have HLE : Hid (xs.length + (encP ⟨qk, qn, qa, ql, qc, qb⟩).length ≤ 100000000000000) := by
          have := HP.out
          have := HB.out
          exact hide (by omega)
        clear hwr4 how4 hb4 hbox4 hcp4 hs4 d0 d1 d2 hgb1 hgb3 hd hbox6 HP
        generalize encP ⟨qk, qn, qa, ql, qc, qb⟩ = en at *
        go_wp2_with fail
        refine HBO.out.mono ?_
        rintro e w7 ⟨v7, rfl, ho7, hb7⟩
        obtain ⟨A7, n7, c7, rfl, hn7, _, hx7, _⟩ := ho7.form
        have hwr7 := hwr6.below hb7
        have how7 := how6.below hb7
        have hbl7 := hbl6.trans (hb7.mono hbl6.size)
        clear hwr6 how6 hb7 hbl6 HBO d0' d1' d2' ho7
        go_wp2_with (at_builtin; refine list_append_bytes _ rfl (.tmp 65) (.tmp 67) rfl w.heap.size _ xs rfl how7 w7.heap.size A7 n7 c7 en rfl hx7 hn7.out (by have := HLE.out; have := hn7.out; omega) hbl7.size ?_; intro v8 w8 ho8 hg8 hat8)
        have hk8 : Kept (fun j => u4.ownBlock = some j) w7 w8 := Kept.of_grown hg8 (fun k e => e)
        have hwr8 := hwr7.kept hk8 (fun k hf e => hd6 k e hf)
        have hbl8 := hbl7.grown hg8 hbl7.size (fun k e => (how7.lt k e).1)
        have hd8 : ∀ j, v8.ownBlock = some j → ¬ Foot g b6 j := by
          intro j e hf
          rcases hat8 with h | h
          · exact hd6 j (h.symm.trans e) hf
          · have h2 : some j = some w7.heap.size := e.symm.trans h
            injection h2 with h2
            have := (hwr7.foot j hf).2
            omega
        have hall : (xs ++ en).length ≤ 100000000000000 := by rw [List.length_append]; exact HLE.out
        have HALL := hide hall
        clear hk8 hg8 hat8 how7 hwr7 hbl7 hx7 hd6 hall
        refine (wbytes_any g w.heap.size b6 (xs ++ en) w8 hwr8 (by have := HALL.out; omega)).mono ?_
        rintro e w9 ⟨v9, rfl, ho9, hb9⟩
        have hwr9 := hwr8.below hb9
        have how9 := ho8.below hb9
        have hbl9 := hbl8.trans (hb9.mono hbl8.size)
        have hs9 := hb9.size
        have hs8 := hbl8.size
        have hv8lt := ho8.lt
        have hf8 := hwr8.foot
        clear hwr8 hbl8 hb9
        obtain ⟨A8, n8, c8, rfl, hn8, _, hx8, _⟩ := how9.form
        obtain ⟨A9, n9, c9, rfl, hn9, _, hx9, _⟩ := ho9.form
        have hn9b : n9 ≤ 140737488355328 := by have := hn9.out; have := HALL.out; omega
        clear ho8
        have hneq := neq_writer w9 g
        go_wp2_with fail
        clear hneq
        refine (same_true A9 A8 n9 n8 c9 c8 _ _ (xs ++ en) w9 hx9 hx8 hn9.out hn8.out hn9b).mono ?_
        rintro e w10 ⟨rfl, m10, rfl⟩
        have hwr10 : Wr (w9.drewN m10) w.heap.size g b6 (xs ++ en) := hwr9
        have how10 := how9.drewN m10
        have ho10 := ho9.drewN m10
        have hbl10 := below_drewN hbl9 m10
        clear hwr9 how9 ho9 hbl9 hx8 hx9
        generalize w9.drewN m10 = w10 at *
        have hv9lt := ho10.lt
        go_wp2
        go_loopw [82] (fun i wx => ∃ k : Nat, k ≤ n9 ∧ i = .int .i64 k ∧ ∃ zs, Hid (zs.length = n9) ∧ Own wx w8.heap.size (.slice A9 n9 c9) zs ∧ Kept (fun j => (Value.slice A9 n9 c9).ownBlock = some j) w10 wx) (fun i _ => n9 - (intOf i).toNat)
        case atStart => exact ⟨0, Nat.zero_le _, rfl, _, hn9, ho10, Kept.refl _ _⟩
        case round =>
          obtain ⟨k2, hk2, rfl, zs, hzl, hoz, hkz⟩ := hrel
          by_cases hlt2 : k2 < n9
          · have hkz' : k2 < zs.length := by have := hzl.out; omega
            obtain ⟨g2, cc, hv, hg, hg2, _, hcell, hfr, hset⟩ := hoz.at_ hkz'
            injection hv with e1 e2 e3
            subst e1 e3
            obtain ⟨cb, hcb⟩ : ∃ cb, zs[k2]'hkz' = cb := ⟨_, rfl⟩
            rw [hcb] at hcell
            have HSET := hide (hset (cb ^^^ 255))
            have HX := hide (xor_255 cb)
            unfold byt at hcell
            clear hset e2 hcb
            have HKZ := hide hkz
            have HOZ := hide hoz
            clear hkz hoz
            go_wp2
            go_roundw
            case rel => exact ⟨k2 + 1, by omega, by go_num, zs.set k2 (cb ^^^ 255), by show (zs.set k2 (cb ^^^ 255)).length = n9; rw [List.length_set]; exact hzl.out, by rw [HX.out]; exact HSET.out, HKZ.out.setCell (p := ⟨g2, k2, none⟩) (.inl rfl) _⟩
            case measure => simp [intOf]; omega
          · have hwr11 := hwr10.kept hkz (fun k hf e => by have := hv9lt k e; have := (hf8 k hf).2; omega)
            have how11 := how10.kept hkz (fun j _ _ e1 e2 => by have := hv9lt j e2; have := (hv8lt j e1).2; omega)
            have hbl11 := hbl10.trans (hkz.below hbl10.size (fun j e => by have := hv9lt j e; omega))
            clear hkz hoz hzl zs hwr10 how10 hbl10 ho10
            go_wp2
            go_roundw
            case rel => exact ⟨k + 1, b6, by omega, by go_num, by rw [HT.out]; exact hwr11, by rw [HT.out]; exact how11, hd8, hbl11⟩
            case measure => simp [intOf]; omega
    · have e : k = qs.length := by omega
      subst e
      rw [List.take_length] at hwr how
      obtain ⟨A3, n3, c3, rfl, hn3, _, hx3, _⟩ := how.form
      go_wp2_with fail
      refine (wbytes_any g w.heap.size b (outP qs) wr hwr (by have := HB.out; omega)).mono ?_
      rintro e w9 ⟨v9, rfl, ho9, hb9⟩
      obtain ⟨A9, n9, c9, rfl, hn9, _, hx9, _⟩ := ho9.form
      have hbl9 := hbl.trans (hb9.mono hbl.size)
      go_wp2_with fail
      refine (same_true A9 A3 n9 n3 c9 c3 _ _ (outP qs) w9 hx9 (hx3.below hb9) hn9.out hn3.out (by have := hn9.out; have := HB.out; omega)).mono ?_
      rintro e w10 ⟨rfl, m10, rfl⟩
      go_wp2
      go_ret
      exact ⟨rfl, below_drewN hbl9 m10⟩
end Go.Proofs.Ytofdjpophacldaa
