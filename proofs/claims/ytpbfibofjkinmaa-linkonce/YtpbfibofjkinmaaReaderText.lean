/-
  Count, Text and Done of pack's reader, and of a nil one. Conditions: at most 2^47 bytes.
-/
import Derived.Test.YtpbfibofjkinmaaReaderCalls
import Derived.WalkLawsBesides
set_option linter.unusedSimpArgs false
set_option linter.unusedVariables false
namespace Go.Proofs.Ytpbfibofjkinmaa
open Go.RowKit

theorem rn_err {xs : List UInt8} (h : 0 < (rn xs).1) : (rn xs).2.2 = 0 := by
  cases xs with
  | nil => simp [rn] at h
  | cons c t =>
    by_cases h8 : 8 < c.toNat
    · rw [rn_wide h8] at h; simp at h
    by_cases hs : t.length < c.toNat
    · rw [rn_short h8 hs] at h; simp at h
    by_cases hz : 0 < c.toNat ∧ t.head? = some 0
    · rw [rn_zero h8 hs hz] at h; simp at h
    · rw [rn_ok h8 hs hz]
/-- What reading a count of xs gives. -/
def rcn (xs : List UInt8) (most : Int) : Nat × List UInt8 × Nat := if most.toNat < (rn xs).1 then (0, [], 12) else rn xs

theorem wrap_max {most : Int} (h : IsInt most) : IntKind.u64.wrap (max most 0) = (most.toNat : Int) := by
  unfold IsInt at h
  rw [IntKind.wrap_u64]
  omega

theorem rcount_big (g : Nat) (b : Option Nat) (xs : List UInt8) (most : Int) (w : World) (h : Rd w g b xs 0) (hm : IsInt most) (hbig : most.toNat < (rn xs).1) :
    Calls Try.prog 77 #[.pointer (some ⟨g, 0, none⟩), .int .i64 most] w (REnds g b (.int .i64 0) [] 12 w) := by
  have HN := hide (rnum_any g b xs w h)
  have H0 := hide (rn_err (xs := xs) (by omega))
  have hmax := wrap_max hm
  clear h hm
  generalize rn xs = q at *
  obtain ⟨u, ys, er⟩ := q
  simp only at hbig HN H0
  have t1 : decide (most.toNat < u) = true := by simpa using hbig
  have t2 : decide (max most 0 < (u : Int)) = true := decide_eq_true (by omega)
  go_enter Try.func77, Try.ntmps77
  go_wp2
  refine wp_scope_forward 0 rfl ?_
  go_wp2_with fail
  refine HN.out.mono ?_
  rintro e w1 ⟨rfl, b1, ⟨A, n, c, hv, hn, hnc, hcm, hx, hb, hbg⟩, hb1, hk1⟩
  obtain rfl : er = 0 := H0.out
  have HF := hide (rfail_any g _ 12 w1 hv)
  clear hv hx hb
  go_wp2
  go_step3
  refine ⟨rfl, ?_⟩
  go_wp2_with fail
  refine HF.out.mono ?_
  rintro e w2 ⟨rfl, hr2, hk2⟩
  go_wp2
  rw [Exit.noGoto_ret]
  go_ret
  exact ⟨rfl, none, hr2, .inr rfl, hk1.step hk2 (fun k e => .inl e)⟩

theorem rcount_fine (g : Nat) (b : Option Nat) (xs : List UInt8) (most : Int) (w : World) (h : Rd w g b xs 0) (hm : IsInt most) (hbig : ¬ most.toNat < (rn xs).1) :
    Calls Try.prog 77 #[.pointer (some ⟨g, 0, none⟩), .int .i64 most] w (REnds g b (.int .i64 ((rn xs).1 : Int)) (rn xs).2.1 (rn xs).2.2 w) := by
  have HN := hide (rnum_any g b xs w h)
  have hmax := wrap_max hm
  have hu : (rn xs).1 ≤ 9223372036854775807 := by unfold IsInt at hm; omega
  have HU := hide hu
  clear h hm hu
  generalize rn xs = q at *
  obtain ⟨u, ys, er⟩ := q
  simp only at hbig HN HU
  have t1 : decide (most.toNat < u) = false := by simpa using hbig
  have t2 : decide (max most 0 < (u : Int)) = false := decide_eq_false (by omega)
  have hw : wrap64 (u : Int) = (u : Int) := by unfold wrap64; have := HU.out; omega
  clear hbig
  go_enter Try.func77, Try.ntmps77
  go_wp2
  go_step3
  go_wp2_with fail
  refine HN.out.mono ?_
  rintro e w1 ⟨rfl, hr⟩
  have HR := hide hr
  clear hr
  go_wp2
  rw [Exit.noGoto_ret]
  go_ret
  exact ⟨ret_num hw, HR.out⟩
theorem rcount_any (g : Nat) (b : Option Nat) (xs : List UInt8) (most : Int) (w : World) (h : Rd w g b xs 0) (hm : IsInt most) :
    Calls Try.prog 77 #[.pointer (some ⟨g, 0, none⟩), .int .i64 most] w (REnds g b (.int .i64 ((rcn xs most).1 : Int)) (rcn xs most).2.1 (rcn xs most).2.2 w) := by
  by_cases hbig : most.toNat < (rn xs).1
  · have e : rcn xs most = (0, [], 12) := by unfold rcn; rw [if_pos hbig]
    rw [e]; exact rcount_big g b xs most w h hm hbig
  · have e : rcn xs most = rn xs := by unfold rcn; rw [if_neg hbig]
    rw [e]; exact rcount_fine g b xs most w h hm hbig
theorem rcount_stuck (g : Nat) (b : Option Nat) (xs : List UInt8) (er : Nat) (most : Int) (w : World) (h : Rd w g b xs er) (he : er ≠ 0) (hm : IsInt most) :
    Calls Try.prog 77 #[.pointer (some ⟨g, 0, none⟩), .int .i64 most] w fun e w' => e = .returned (.int .i64 0) ∧ w = w' := by
  have HN := hide (rnum_stuck g b xs er w h he)
  have hmax := wrap_max hm
  have t1 : decide ((most.toNat : Int) < 0) = false := decide_eq_false (by omega)
  have t2 : decide (max most 0 < 0) = false := decide_eq_false (by omega)
  clear h he hm
  go_enter Try.func77, Try.ntmps77
  go_wp2
  go_step3
  go_wp2_with fail
  refine HN.out.mono ?_
  rintro e w1 ⟨rfl, rfl⟩
  go_wp2
  rw [Exit.noGoto_ret]
  go_ret
  exact ⟨rfl, rfl⟩
theorem rcount_nil (most : Int) (w : World) (hm : IsInt most) :
    Calls Try.prog 77 #[.pointer none, .int .i64 most] w fun e w' => e = .returned (.int .i64 0) ∧ w = w' := by
  have hmax := wrap_max hm
  have t1 : decide ((most.toNat : Int) < 0) = false := decide_eq_false (by omega)
  have t2 : decide (max most 0 < 0) = false := decide_eq_false (by omega)
  clear hm
  go_enter Try.func77, Try.ntmps77
  go_wp2
  go_step3
  go_wp2_with fail
  refine (rnum_nil _).mono ?_
  rintro e w1 ⟨rfl, rfl⟩
  go_wp2
  rw [Exit.noGoto_ret]
  go_ret
  exact ⟨rfl, rfl⟩

/-- What a reader's Text answers and leaves. -/
def TEnds (g : Nat) (b : Option Nat) (zs ys : List UInt8) (er : Nat) (w : World) (e : Ending) (w' : World) : Prop :=
  ∃ v, e = .returned v ∧ Own w' w.heap.size v zs ∧ ∃ b', Rd w' g b' ys er ∧ (b' = b ∨ b' = none) ∧ Kept (fun k => k = g) w w'
theorem rtext_stuck (g : Nat) (b : Option Nat) (xs : List UInt8) (er : Nat) (most : Int) (w : World) (h : Rd w g b xs er) (he : er ≠ 0) (hm : IsInt most) :
    Calls Try.prog 78 #[.pointer (some ⟨g, 0, none⟩), .int .i64 most] w fun e w' => e = .returned (.slice none 0 0) ∧ w = w' := by
  have HN := hide (rcount_stuck g b xs er most w h he hm)
  have HE := hide (rerr_any g b xs er w h)
  have t1 : ((er : Int) != 0) = true := by rw [bne_iff_ne]; omega
  clear h he hm
  go_enter Try.func78, Try.ntmps78
  go_wp2
  refine wp_scope_forward 0 rfl ?_
  go_wp2_with fail
  refine HN.out.mono ?_
  rintro e w1 ⟨rfl, rfl⟩
  go_wp2_with fail
  refine HE.out.mono ?_
  rintro e w1 ⟨rfl, rfl⟩
  go_wp2
  go_step3
  refine ⟨rfl, ?_⟩
  go_wp2
  rw [Exit.noGoto_ret]
  go_ret
  exact ⟨rfl, rfl⟩
theorem rtext_nil (most : Int) (w : World) (hm : IsInt most) :
    Calls Try.prog 78 #[.pointer none, .int .i64 most] w fun e w' => e = .returned (.slice none 0 0) ∧ w = w' := by
  have HN := hide (rcount_nil most w hm)
  clear hm
  go_enter Try.func78, Try.ntmps78
  go_wp2
  refine wp_scope_forward 0 rfl ?_
  go_wp2_with fail
  refine HN.out.mono ?_
  rintro e w1 ⟨rfl, rfl⟩
  go_wp2_with fail
  refine (rerr_nil _).mono ?_
  rintro e w1 ⟨rfl, rfl⟩
  go_wp2
  go_step3
  refine ⟨rfl, ?_⟩
  go_wp2
  rw [Exit.noGoto_ret]
  go_ret
  exact ⟨rfl, rfl⟩
theorem rtext_bad (g : Nat) (b : Option Nat) (xs : List UInt8) (most : Int) (w : World) (h : Rd w g b xs 0) (hm : IsInt most) (he : (rcn xs most).2.2 ≠ 0) :
    Calls Try.prog 78 #[.pointer (some ⟨g, 0, none⟩), .int .i64 most] w (TEnds g b [] (rcn xs most).2.1 (rcn xs most).2.2 w) := by
  have HN := hide (rcount_any g b xs most w h hm)
  clear h hm
  generalize rcn xs most = q at *
  obtain ⟨u, ys, er⟩ := q
  simp only at HN he
  have t1 : ((er : Int) != 0) = true := by rw [bne_iff_ne]; omega
  clear he
  go_enter Try.func78, Try.ntmps78
  go_wp2
  refine wp_scope_forward 0 rfl ?_
  go_wp2_with fail
  refine HN.out.mono ?_
  rintro e w1 ⟨rfl, b1, hr1, hb1, hk1⟩
  go_wp2_with fail
  refine (rerr_any g b1 ys er w1 hr1).mono ?_
  rintro e w2 ⟨rfl, rfl⟩
  go_wp2
  go_step3
  refine ⟨rfl, ?_⟩
  go_wp2
  rw [Exit.noGoto_ret]
  go_ret
  exact ⟨_, rfl, Own.nil _ _, b1, hr1, hb1, hk1⟩
theorem rtext_short (g : Nat) (b : Option Nat) (xs : List UInt8) (most : Int) (w : World) (h : Rd w g b xs 0) (hm : IsInt most) (he : (rcn xs most).2.2 = 0) (hs : (rcn xs most).2.1.length < (rcn xs most).1) :
    Calls Try.prog 78 #[.pointer (some ⟨g, 0, none⟩), .int .i64 most] w (TEnds g b [] [] 10 w) := by
  have HN := hide (rcount_any g b xs most w h hm)
  clear h hm
  generalize rcn xs most = q at *
  obtain ⟨u, ys, er⟩ := q
  simp only at HN he hs
  subst he
  go_enter Try.func78, Try.ntmps78
  go_wp2
  refine wp_scope_forward 1 rfl ?_
  go_wp2_with fail
  refine HN.out.mono ?_
  rintro e w1 ⟨rfl, b1, hr1, hb1, hk1⟩
  go_wp2_with fail
  refine (rerr_any g b1 ys 0 w1 hr1).mono ?_
  rintro e w2 ⟨rfl, rfl⟩
  obtain ⟨A, n, c, hv, hn, hnc, hcm, hx, hb, hbg⟩ := hr1
  have c0 := two_cell0 hv
  have HF := hide (rfail_any g _ 10 w1 hv)
  have t2 : decide (n < u) = true := decide_eq_true (by have := hn.out; omega)
  have i2 : n < u := by have := hn.out; omega
  clear hv hx hb
  go_wp2
  go_step3
  refine ⟨rfl, ?_⟩
  go_wp2_with fail
  refine HF.out.mono ?_
  rintro e w2 ⟨rfl, hr2, hk2⟩
  go_wp2
  rw [Exit.noGoto_ret]
  go_ret
  exact ⟨_, rfl, Own.nil _ _, none, hr2, .inr rfl, hk1.step hk2 (fun k e => .inl e)⟩
theorem rtext_ok (g : Nat) (b : Option Nat) (xs : List UInt8) (most : Int) (w : World) (h : Rd w g b xs 0) (hm : IsInt most) (he : (rcn xs most).2.2 = 0) (hs : (rcn xs most).1 ≤ (rcn xs most).2.1.length) :
    Calls Try.prog 78 #[.pointer (some ⟨g, 0, none⟩), .int .i64 most] w (TEnds g b ((rcn xs most).2.1.take (rcn xs most).1) ((rcn xs most).2.1.drop (rcn xs most).1) 0 w) := by
  have HN := hide (rcount_any g b xs most w h hm)
  clear h hm
  generalize rcn xs most = q at *
  obtain ⟨u, ys, er⟩ := q
  simp only at HN he hs
  subst he
  go_enter Try.func78, Try.ntmps78
  go_wp2
  go_step3
  go_wp2_with fail
  refine HN.out.mono ?_
  rintro e w1 ⟨rfl, b1, hr1, hb1, hk1⟩
  go_wp2_with fail
  refine (rerr_any g b1 ys 0 w1 hr1).mono ?_
  rintro e w2 ⟨rfl, rfl⟩
  have hg1 : g < w1.heap.size := by obtain ⟨A, n, c, hv, _⟩ := hr1; exact lt_of_block hv
  obtain ⟨A, n, c, hv, hn, hnc, hcm, hx, hb, hbg⟩ := hr1
  have c0 := two_cell0 hv
  have t2 : decide (n < u) = false := decide_eq_false (by have := hn.out; omega)
  have i2 : u ≤ n := by have := hn.out; omega
  have i3 : (u : Int) ≤ (c : Int) := by omega
  clear hs
  have hcase : Hid (c = u) ∧ c ≤ u ∨ ¬ c = u := by
    by_cases h : c = u
    · exact .inl ⟨h, by omega⟩
    · exact .inr h
  rcases hcase with ⟨HC, hcu⟩ | hcu
  all_goals
    go_wp2_with fail
    refine (clone_any A u c w1.heap.size (ys.take u) w1 (hx.take u) (Nat.le_refl _) (by have := hn.out; rw [List.length_take]; omega) (by omega)).mono ?_
    rintro e w2 ⟨v2, rfl, ho2, hbl⟩
    have hv2 : w2.heap[g]? = some (.cells #[.slice A n c, .int .i64 0] 132 (0, 0)) := (hbl.block g hg1).trans hv
    have c2 := two_cell0 hv2
    have f2 := two_free (i := 0) hv2
    have hx2 : Has w2 w2.heap.size A ys := (hx.below hbl).more hbl.size
    have HF : ∀ A' c', c' = c - u → (A' = A ∧ c = u ∨ A' = Option.map (fun x => x.add u) A) → TEnds g b (ys.take u) (ys.drop u) 0 w (.returned v2) (w2.setCell ⟨g, 0, none⟩ (.slice A' (n - u) c')) := by
      intro A' c' hc' hA'
      have hcut := rd_cut (n' := n - u) (c' := c') hv2 hn.out hnc hcm hx2 hb hbg i2 rfl hc' hA'
      refine ⟨v2, rfl, (ho2.keep fun k e => Below.heap_setCell _ _ _ _ ?_).from_ hk1.size, b1, hcut.1, hb1, (hk1.step (Kept.of_below (F := fun k => k = g) hbl) (fun k e => .inl e)).step hcut.2 (fun k e => .inl e)⟩
      have := (ho2.lt k e).1
      simp only
      omega
    have HF' := hide HF
    clear HF ho2 hx2 hx
    go_wp2
    rw [Exit.noGoto_ret]
    go_ret
    first
      | exact HF'.out _ _ rfl (.inr rfl)
      | exact HF'.out _ 0 (by omega) (.inl ⟨rfl, HC.out⟩)

/-- The reader's error at the end. -/
theorem rdone_stuck (g : Nat) (b : Option Nat) (xs : List UInt8) (er : Nat) (w : World) (h : Rd w g b xs er) (he : er ≠ 0) :
    Calls Try.prog 79 #[.pointer (some ⟨g, 0, none⟩)] w fun e w' => e = .returned (.int .i64 (er : Int)) ∧ w = w' := by
  have HE := hide (rerr_any g b xs er w h)
  have t1 : ((er : Int) != 0) = true := by rw [bne_iff_ne]; omega
  clear h he
  go_enter Try.func79, Try.ntmps79
  go_wp2
  refine wp_scope_forward 0 rfl ?_
  go_wp2_with fail
  refine HE.out.mono ?_
  rintro e w1 ⟨rfl, rfl⟩
  go_wp2
  go_step3
  refine ⟨rfl, ?_⟩
  go_wp2_with fail
  refine HE.out.mono ?_
  rintro e w1 ⟨rfl, rfl⟩
  go_wp2
  rw [Exit.noGoto_ret]
  go_ret
  exact ⟨rfl, rfl⟩
theorem rdone_nil (w : World) : Calls Try.prog 79 #[.pointer none] w fun e w' => e = .returned (.int .i64 1) ∧ w = w' := by
  go_enter Try.func79, Try.ntmps79
  go_wp2
  refine wp_scope_forward 0 rfl ?_
  go_wp2_with fail
  refine (rerr_nil _).mono ?_
  rintro e w1 ⟨rfl, rfl⟩
  go_wp2
  go_step3
  refine ⟨rfl, ?_⟩
  go_wp2_with fail
  refine (rerr_nil _).mono ?_
  rintro e w1 ⟨rfl, rfl⟩
  go_wp2
  rw [Exit.noGoto_ret]
  go_ret
  exact ⟨rfl, rfl⟩
theorem rdone_end (g : Nat) (b : Option Nat) (w : World) (h : Rd w g b [] 0) :
    Calls Try.prog 79 #[.pointer (some ⟨g, 0, none⟩)] w fun e w' => e = .returned (.int .i64 0) ∧ w = w' := by
  have HE := hide (rerr_any g b [] 0 w h)
  obtain ⟨A, n, c, hv, hn, hnc, hcm, hx, hb, hbg⟩ := h
  have c0 := two_cell0 hv
  obtain rfl : 0 = n := hn.out
  clear hv hx hb
  go_enter Try.func79, Try.ntmps79
  go_wp2
  go_step3
  go_wp2_with fail
  refine HE.out.mono ?_
  rintro e w1 ⟨rfl, rfl⟩
  go_wp2
  rw [Exit.noGoto_ret]
  go_ret
  exact ⟨rfl, rfl⟩
theorem rdone_trail (g : Nat) (b : Option Nat) (xs : List UInt8) (w : World) (h : Rd w g b xs 0) (hne : xs ≠ []) :
    Calls Try.prog 79 #[.pointer (some ⟨g, 0, none⟩)] w (REnds g b (.int .i64 13) [] 13 w) := by
  have HE := hide (rerr_any g b xs 0 w h)
  obtain ⟨A, n, c, hv, hn, hnc, hcm, hx, hb, hbg⟩ := h
  have c0 := two_cell0 hv
  have HF := hide (rfail_any g _ 13 w hv)
  have hn0 : 0 < n := by have := hn.out; have := List.length_pos_iff.2 hne; omega
  have t2 : decide (0 < n) = true := by simpa using hn0
  clear hv hx hb hne
  go_enter Try.func79, Try.ntmps79
  go_wp2
  refine wp_scope_forward 1 rfl ?_
  go_wp2_with fail
  refine HE.out.mono ?_
  rintro e w1 ⟨rfl, rfl⟩
  go_wp2
  go_step3
  refine ⟨rfl, ?_⟩
  go_wp2_with fail
  refine HF.out.mono ?_
  rintro e w2 ⟨rfl, hr2, hk2⟩
  go_wp2_with fail
  go_step3
  go_wp2_with fail
  refine (rerr_any g none [] 13 w2 hr2).mono ?_
  rintro e w3 ⟨rfl, rfl⟩
  go_wp2
  rw [Exit.noGoto_ret]
  go_ret
  exact ⟨rfl, none, hr2, .inr rfl, hk2⟩
end Go.Proofs.Ytpbfibofjkinmaa
