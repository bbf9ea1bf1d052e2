/-
  The walk of PackOneForm. No condition but the size of what is read.
-/
import Derived.Test.YtofdjpophacldaaPackHead
namespace Go.Proofs.Ytofdjpophacldaa
open Go.RowKit

theorem Wr.kept {F : Nat → Prop} {w w' : World} {base g : Nat} {b : Option Nat} {xs : List UInt8} (h : Wr w base g b xs) (hk : Kept F w w') (hd : ∀ k, Foot g b k → ¬ F k) : Wr w' base g b xs :=
  h.keep fun k hf => hk.block k (h.foot k hf).2 (hd k hf)

theorem rn_bad {xs : List UInt8} (h : (rn xs).2.2 ≠ 0) : (rn xs).1 = 0 := by
  rcases Nat.eq_zero_or_pos (rn xs).1 with h0 | h0
  · exact h0
  · exact absurd (rn_err h0) h
/-- A number that was read without an error stands there in its one form. -/
theorem rn_form {xs : List UInt8} (h : (rn xs).2.2 = 0) : enc (rn xs).1 ++ (rn xs).2.1 = xs := by
  cases xs with
  | nil => simp [rn] at h
  | cons c t =>
    by_cases h8 : 8 < c.toNat
    · rw [rn_wide h8] at h; simp at h
    by_cases hs : t.length < c.toNat
    · rw [rn_short h8 hs] at h; simp at h
    by_cases hz : 0 < c.toNat ∧ t.head? = some 0
    · rw [rn_zero h8 hs hz] at h; simp at h
    · rw [rn_ok h8 hs hz]
      have hl : (t.take c.toNat).length = c.toNat := by rw [List.length_take]; omega
      have hb : bw (val (t.take c.toNat)) = c.toNat := by
        cases ht : t.take c.toNat with
        | nil => rw [ht] at hl; simp at hl; rw [← hl]; rfl
        | cons x r =>
          rw [ht] at hl
          simp at hl
          rw [bw_val x r ?_ (by omega)]
          · exact hl
          · intro hx
            apply hz
            refine ⟨by omega, ?_⟩
            cases t with
            | nil => simp at ht
            | cons y s =>
              obtain ⟨m, hm⟩ : ∃ m, c.toNat = m + 1 := ⟨c.toNat - 1, by omega⟩
              rw [hm, List.take_succ_cons] at ht
              injection ht with e1 _
              rw [List.head?_cons, e1, hx]
      unfold enc
      simp only
      rw [hb]
      have hv := be_val (t.take c.toNat)
      rw [hl] at hv
      rw [hv, List.cons_append, List.take_append_drop]
      congr 1
      apply UInt8.toNat_inj.1
      simp

/-- What holds ahead of each round: what was written and what is left make up all, and the two objects lie apart. -/
def Halves (w : World) (g gr : Nat) (bs : List UInt8) (k : Nat) (wr : World) : Prop :=
  ∃ b br xs ys, Wr wr w.heap.size g b xs ∧ Rd wr gr br ys 0 ∧ (∀ k, Foot gr br k → ¬ Foot g b k ∧ w.heap.size ≤ k ∧ k < wr.heap.size) ∧ Below w.heap.size w wr ∧ xs ++ ys = bs ∧ k ≤ xs.length ∧ (xs.length < bs.length ∨ bs = [])

set_option maxHeartbeats 1600000 in
theorem oneform_walk (A : Option Addr) (c : Nat) (bs : List UInt8) (w : World) (hx : Has w w.heap.size A bs) (_hc : bs.length ≤ c) (hl : c ≤ 140737488351232) :
    Calls Try.prog 6 #[.slice A bs.length c] w fun e w' => e = .returned (.bool true) ∧ Below w.heap.size w w' := by
  go_enter Try.func6, Try.ntmps6
  go_wp2_with fail
  refine (head1_any w).mono ?_
  rintro e w1 ⟨rfl, hb1⟩
  have hx1 := (hx.below hb1).more hb1.size
  go_wp2_with fail
  refine (copy_any A bs.length c bs w1 hx1 rfl (by omega)).mono ?_
  rintro e w2 ⟨rfl, hw2⟩
  have hn2 := Has.new w1 5 bs (0, 0) _ rfl
  have hb2 := hb1.alloc hb1.size (.cells (bcells bs) 5)
  have hz2 : (w1.alloc (.cells (bcells bs) 5)).heap.size = w1.heap.size + 1 := by simp
  rw [hw2] at hn2 hb2 hz2
  clear hw2 hx1
  have HZ := hide hz2
  clear hz2
  go_wp2_with fail
  refine (newreader_any (some ⟨w1.heap.size, 0, none⟩) bs.length bs.length _ bs w2 hn2 (by have := HZ.out; omega) rfl (by omega)).mono ?_
  rintro e w3 ⟨gr, br, rfl, hrd3, hf3, hbl3⟩
  have hb3 := hb2.trans (hbl3.mono hb2.size)
  go_wp2_with fail
  refine (newwriter_any w3).mono ?_
  rintro e w4 ⟨rfl, hw4⟩
  have hJ : Halves w w3.heap.size gr bs 0 w4 := by
    rw [← hw4]
    have hs := hb3.size
    refine ⟨none, br, [], bs, wr_new w3 _ hs, hrd3.below ((Below.refl _ _).alloc (Nat.le_refl _) _), ?_, hb3.alloc hs _, rfl, Nat.le_refl _, ?_⟩
    · intro k hk
      have h1 := hf3 k hk
      have h2 := hb2.size
      refine ⟨?_, by omega, by simp; omega⟩
      rintro (rfl | h)
      · omega
      · cases h
    · cases bs with
      | nil => exact .inr rfl
      | cons x r => exact .inl (by simp)
  clear hw4 hrd3 hf3 hbl3 hb3 hn2 hb2 HZ hb1
  generalize w3.heap.size = g at *
  go_wp2
  go_loopw [5] (fun i wr => ∃ k : Nat, k ≤ bs.length ∧ i = .int .i64 k ∧ Halves w g gr bs k wr) (fun i _ => bs.length - (intOf i).toNat)
  case atStart => exact ⟨0, Nat.zero_le _, rfl, hJ⟩
  case round =>
    clear hJ
    obtain ⟨k, hk, rfl, b, br', xs, ys, hwr, hrd, hap, hbl, hxy, hkx, hlen⟩ := hrel
    have HXY := hide hxy
    have hbl' : xs.length ≤ bs.length := by rw [← hxy]; simp
    clear hxy
    by_cases hlt : k < bs.length
    · have hrn := rnum_any gr br' ys wr hrd
      have hq1 := rn_lt ys
      have hq2 := @rn_bad ys
      have hq3 := @rn_form ys
      generalize rn ys = q at *
      obtain ⟨u, ts, er⟩ := q
      simp only at hrn hq1 hq2 hq3
      have HRN := hide hrn
      have HQ1 := hide hq1
      clear hrn hq1 hrd
      by_cases he : er = 0
      · subst he
        have HF := hide (hq3 rfl)
        clear hq2 hq3
        go_wp2_with fail
        refine HRN.out.mono ?_
        rintro e w5 ⟨rfl, b5, hrd5, hb5, hk5⟩
        have hap5 : ∀ k, Foot gr b5 k → ¬ Foot g b k ∧ w.heap.size ≤ k ∧ k < w5.heap.size := by
          intro k hk
          have hk' : Foot gr br' k := by
            rcases hk with rfl | hk
            · exact .inl rfl
            · rcases hb5 with rfl | rfl
              · exact .inr hk
              · cases hk
          obtain ⟨h1, h2, h3⟩ := hap k hk'
          exact ⟨h1, h2, Nat.lt_of_lt_of_le h3 hk5.size⟩
        have hwr5 := hwr.kept hk5 (fun k hf he => (hap k (.inl he)).1 hf)
        have hbl5 := hbl.trans (hk5.below hbl.size (fun k h => (hap k (.inl h)).2.1))
        clear hk5 hb5 hap hwr hbl
        go_wp2_with fail
        refine (rerr_any gr b5 ts 0 w5 hrd5).mono ?_
        rintro e w6 ⟨rfl, rfl⟩
        go_wp2_with fail
        refine (wnum_any g w.heap.size b xs u w5 hwr5 HQ1.out (by omega)).mono ?_
        rintro e w6 ⟨rfl, b6, hwr6, hb6, hk6⟩
        have hap6 : ∀ k, Foot gr b5 k → ¬ Foot g b6 k ∧ w.heap.size ≤ k ∧ k < w6.heap.size := by
          intro k hk
          obtain ⟨h1, h2, h3⟩ := hap5 k hk
          refine ⟨fun hf => ?_, h2, Nat.lt_of_lt_of_le h3 hk6.size⟩
          rcases foot_step hb6 k hf with h | h
          · exact h1 h
          · omega
        have hrd6 := hrd5.kept hk6 (fun k h => (hap5 k h).1)
        have hbl6 := hbl5.trans (hk6.below hbl5.size (fun k h => (hwr5.foot k h).1))
        clear hk6 hb6 hap5 hwr5 hbl5 hrd5
        have hel := enc_length u
        have hall : (xs ++ enc u) ++ ts = bs := by rw [List.append_assoc, HF.out, HXY.out]
        have hle : (xs ++ enc u).length ≤ bs.length := by rw [← hall]; simp
        have hk1 : k + 1 ≤ (xs ++ enc u).length := by rw [List.length_append]; omega
        have HALL := hide hall
        clear hall hel
        generalize xs ++ enc u = zs at *
        go_wp2_with fail
        refine (wbytes_any g w.heap.size b6 zs w6 hwr6 (by omega)).mono ?_
        rintro e w7 ⟨v7, rfl, ho7, hbl7⟩
        obtain ⟨A7, n7, c7, rfl, hn7, _, hx7, _⟩ := ho7.form
        have hwr7 := hwr6.below hbl7
        have hrd7 := hrd6.below hbl7
        have hb7 := hbl6.trans (hbl7.mono hbl6.size)
        have hap7 : ∀ k, Foot gr b5 k → ¬ Foot g b6 k ∧ w.heap.size ≤ k ∧ k < w7.heap.size := by
          intro k hk
          obtain ⟨h1, h2, h3⟩ := hap6 k hk
          exact ⟨h1, h2, Nat.lt_of_lt_of_le h3 hbl7.size⟩
        clear ho7 hx7 hbl7 hwr6 hrd6 hap6 hbl6
        by_cases hfull : bs.length ≤ n7
        · have t1 : decide (bs.length ≤ n7) = true := by simpa using hfull
          have hts : ts = [] := by
            have h1 := congrArg List.length HALL.out
            have h2 := hn7.out
            rw [List.length_append] at h1
            exact List.eq_nil_of_length_eq_zero (by omega)
          subst hts
          have hzb : zs = bs := by have := HALL.out; simpa using this
          have HZB := hide hzb
          clear hzb
          go_wp2_with fail
          refine (rdone_end gr b5 w7 hrd7).mono ?_
          rintro e w8 ⟨rfl, rfl⟩
          go_wp2_with fail
          refine (wbytes_any g w.heap.size b6 zs w7 hwr7 (by omega)).mono ?_
          rintro e w8 ⟨v8, rfl, ho8, hbl8⟩
          obtain ⟨A8, n8, c8, rfl, hn8, _, hx8, _⟩ := ho8.form
          have hb8 := hb7.trans (hbl8.mono hb7.size)
          go_wp2_with fail
          refine (same_any A8 A n8 bs.length c8 c _ w.heap.size zs bs w8 hx8 (hx.below hb8) hn8.out rfl (by have := hn8.out; omega)).mono ?_
          rintro e w9 ⟨rfl, m9, rfl⟩
          rw [decide_eq_true HZB.out]
          go_wp2
          go_ret
          exact ⟨rfl, below_drewN hb8 m9⟩
        · have t1 : decide (bs.length ≤ n7) = false := by simpa using hfull
          go_wp2
          go_roundw
          case rel => exact ⟨k + 1, by omega, by go_num, b6, b5, zs, ts, hwr7, hrd7, hap7, hb7, HALL.out, hk1, .inl (by have := hn7.out; omega)⟩
          case measure => simp [intOf]; omega
      · have hu : u = 0 := hq2 he
        subst hu
        clear hq2 hq3
        have t1 : ((er : Int) != 0) = true := by rw [bne_iff_ne]; omega
        have HE := hide he
        clear he
        go_wp2_with fail
        refine HRN.out.mono ?_
        rintro e w5 ⟨rfl, b5, hrd5, hb5, hk5⟩
        have hbl5 := hbl.trans (hk5.below hbl.size (fun k h => (hap k (.inl h)).2.1))
        go_wp2_with fail
        refine (rerr_any gr b5 ts er w5 hrd5).mono ?_
        rintro e w6 ⟨rfl, rfl⟩
        go_wp2_with fail
        refine (rdone_stuck gr b5 ts er w5 hrd5 HE.out).mono ?_
        rintro e w6 ⟨rfl, rfl⟩
        go_wp2
        go_ret
        exact ⟨rfl, hbl5⟩
    · have hb0 : bs = [] := by
        rcases hlen with h | h
        · omega
        · exact h
      subst hb0
      have hys : ys = [] := by have := HXY.out; simp at this; exact this.2
      subst hys
      have hk0 : k = 0 := by simpa using hk
      subst hk0
      go_wp2_with fail
      refine (rdone_end gr br' wr hrd).mono ?_
      rintro e w5 ⟨rfl, rfl⟩
      go_wp2
      go_ret
      exact ⟨rfl, hbl⟩
end Go.Proofs.Ytofdjpophacldaa
