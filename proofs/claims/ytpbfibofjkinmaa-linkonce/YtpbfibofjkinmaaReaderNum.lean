/-
  Num of pack's reader where a whole number stands next, or one whose first byte is 0. Conditions: at most 2^47 bytes.
-/
import Derived.Test.YtpbfibofjkinmaaReader
set_option linter.unusedSimpArgs false
set_option linter.unusedVariables false
namespace Go.Proofs.Ytpbfibofjkinmaa
open Go.RowKit

/-- The first byte of the number is 0. -/
theorem rnum_zero (g : Nat) (b : Option Nat) (ch : UInt8) (t : List UInt8) (w : World) (h : Rd w g b (ch :: 0 :: t) 0) (h8 : ch.toNat ≤ 8) (h0 : 0 < ch.toNat) (hs : ch.toNat ≤ t.length + 1) :
    Calls Try.prog 88 #[.pointer (some ⟨g, 0, none⟩)] w (REnds g b (.int .u64 0) [] 11 w) := by
  have HE := hide (rerr_any g b _ 0 w h)
  obtain ⟨A, n, c, hv, hn, hnc, hcm, hx, hb, hbg⟩ := h
  have c0 := two_cell0 hv
  have HF := hide (rfail_any g _ 11 w hv)
  obtain ⟨k, rfl, hk⟩ : ∃ k, n = k + 2 ∧ k = t.length := ⟨t.length, by have := hn.out; simp at this; omega, rfl⟩
  obtain ⟨b0, o0, rfl, hb0, hc0⟩ := hx 0 (by simp)
  obtain ⟨b1, o1, e1, _, hc1⟩ := hx 1 (by simp)
  injection e1 with e1
  injection e1 with eb eo
  subst eb eo
  unfold byt at hc0 hc1
  simp only [List.getElem_cons_zero, List.getElem_cons_succ, Nat.add_zero] at hc0 hc1
  have hc1' : w.cell? ⟨b0, o0 + 1, none⟩ = some (.int .u8 0) := hc1
  clear hc1
  generalize ch.toNat = m at *
  have t1 : decide ((8 : Int) < (m : Int)) = false := by simp; omega
  have t2 : decide (k + 1 < m) = false := by simp; omega
  have t2' : decide ((k : Int) + 1 < (m : Int)) = false := by simp; omega
  have t3 : decide ((0 : Int) < (m : Int)) = true := by simp; omega
  have i1 : m ≤ k + 1 := by omega
  clear hk hs
  go_enter Try.func88, Try.ntmps88
  go_wp2
  refine wp_scope_forward 2 rfl ?_
  go_wp2_with fail
  refine HE.out.mono ?_
  rintro e w' ⟨rfl, rfl⟩
  go_wp2
  go_step3
  refine ⟨rfl, ?_⟩
  go_wp2_with fail
  refine HF.out.mono ?_
  rintro e w' ⟨rfl, hr, hk⟩
  go_wp2
  rw [Exit.noGoto_ret]
  go_ret
  exact ⟨rfl, none, hr, .inr rfl, hk⟩

theorem or_step (u : Nat) (c : UInt8) (h : u < 72057594037927936) : bits .or .u64 (IntKind.u64.wrap ((u : Int) * 256)) (IntKind.u64.wrap (c.toNat : Int)) = ((256 * u + c.toNat : Nat) : Int) := by
  have hc := c.toNat_lt
  have e1 : IntKind.u64.wrap ((u : Int) * 256) = ((256 * u : Nat) : Int) := by rw [IntKind.wrap_u64]; omega
  have e2 : IntKind.u64.wrap (c.toNat : Int) = (c.toNat : Int) := by rw [IntKind.wrap_u64]; omega
  rw [e1, e2, u64_or_nat _ _ (by omega) (by omega), nat_join 8 _ _ (by omega) (by omega)]
theorem val_take (d : List UInt8) (j : Nat) (h : j < d.length) : val (d.take (j + 1)) = 256 * val (d.take j) + d[j].toNat := by
  rw [List.take_succ_eq_append_getElem h, val_snoc]
theorem val_take_lt (d : List UInt8) (j : Nat) (h : j < d.length) (h8 : d.length ≤ 8) : val (d.take j) < 72057594037927936 := by
  have h1 := val_lt (d.take j)
  have h2 : (d.take j).length ≤ 7 := by rw [List.length_take]; omega
  have h3 := Nat.pow_le_pow_right (show 0 < 256 by omega) h2
  simp only [Nat.reducePow] at h3
  omega

theorem addr_add (b o s : Nat) : Option.map (fun x : Addr => x.add s) (some ⟨b, o, none⟩) = some ⟨b, o + s, none⟩ := by
  simp only [Option.map_some, Addr.add]
  split <;> simp_all
/-- The reader behind a cut of what is left. -/
theorem rd_cut {w : World} {g : Nat} {b : Option Nat} {xs : List UInt8} {A A' : Option Addr} {n c s n' c' : Nat} (hv : w.heap[g]? = some (.cells #[.slice A n c, .int .i64 0] 132 (0, 0))) (hn : xs.length = n) (hnc : n ≤ c) (hcm : n ≤ 140737488355328)
    (hx : Has w w.heap.size A xs) (hb : A.map (·.block) = b) (hbg : b ≠ some g) (hs : s ≤ n) (hn' : n' = n - s) (hc' : c' = c - s) (hA : A' = A ∧ c = s ∨ A' = Option.map (fun x => x.add s) A) :
    Rd (w.setCell ⟨g, 0, none⟩ (.slice A' n' c')) g b (xs.drop s) 0 ∧ Kept (fun k => k = g) w (w.setCell ⟨g, 0, none⟩ (.slice A' n' c')) := by
  have hk : Kept (fun k => k = g) w (w.setCell ⟨g, 0, none⟩ (.slice A' n' c')) := (Kept.refl (fun k => k = g) w).setCell (p := ⟨g, 0, none⟩) (.inl rfl) _
  have hsz : (w.setCell ⟨g, 0, none⟩ (.slice A' n' c')).heap.size = w.heap.size := by simp [World.setCell]
  refine ⟨⟨A', n', c', two_set0 hv, ?_, by omega, by omega, ?_, ?_, hbg⟩, hk⟩
  · show (xs.drop s).length = n'
    simp; omega
  · rw [hsz]
    rcases hA with ⟨rfl, hcs⟩ | rfl
    · rw [List.drop_eq_nil_of_le (by omega)]; exact Has.nil _ _ _
    · refine (hx.drop s).apart (Nat.le_refl _) hk ?_
      intro e
      apply hbg
      rw [← hb, ← e]
      cases A with
      | none => rfl
      | some a => simp [Addr.add]; split <;> rfl
  · rcases hA with ⟨rfl, _⟩ | rfl
    · exact hb
    · rw [← hb]
      cases A with
      | none => rfl
      | some a => simp [Addr.add]; split <;> rfl

set_option maxHeartbeats 800000 in
theorem rnum_ok (g : Nat) (b : Option Nat) (ch : UInt8) (d t : List UInt8) (w : World) (h : Rd w g b (ch :: (d ++ t)) 0) (hm : d.length = ch.toNat) (h8 : d.length ≤ 8) (hz : ∀ x r, d = x :: r → x ≠ 0) :
    Calls Try.prog 88 #[.pointer (some ⟨g, 0, none⟩)] w (REnds g b (.int .u64 (val d : Int)) t 0 w) := by
  have HE := hide (rerr_any g b _ 0 w h)
  obtain ⟨A, n, c, hv, hn, hnc, hcm, hx, hb, hbg⟩ := h
  have c0 := two_cell0 hv
  have f0 := two_free (i := 0) hv
  obtain ⟨k, rfl, hk⟩ : ∃ k, n = k + 1 ∧ k = d.length + t.length := ⟨d.length + t.length, by have := hn.out; simp at this; omega, rfl⟩
  obtain ⟨b0, o0, rfl, hb0, hc0⟩ := hx 0 (by simp)
  have hcd : ∀ j (hj : j < d.length), w.cell? ⟨b0, o0 + 1 + j, none⟩ = some (.int .u8 (d[j].toNat : Int)) := by
    intro j hj
    obtain ⟨b1, o1, e1, _, hc1⟩ := hx (j + 1) (by simp; omega)
    injection e1 with e1
    injection e1 with eb eo
    subst eb eo
    rw [show o0 + 1 + j = o0 + (j + 1) from by omega, hc1]
    simp [hj, byt, List.getElem_append_left]
  have HCD := hide hcd
  clear hcd
  have HX := hide hx
  clear hx
  have HN := hn
  clear hn
  unfold byt at hc0
  simp only [List.getElem_cons_zero, Nat.add_zero] at hc0
  rw [← hm] at hc0
  have t1 : decide ((8 : Int) < (d.length : Int)) = false := by simp; omega
  have t2 : decide (k < d.length) = false := by simp; omega
  have i1 : d.length ≤ k := by omega
  have HK := hide hk
  clear hk
  have HM := hide hm
  clear hm
  have hdr : (ch :: (d ++ t)).drop (1 + d.length) = t := by rw [Nat.add_comm, List.drop_succ_cons, List.drop_left]
  have HDR := hide hdr
  clear hdr
  have fin : ∀ (A' : Option Addr) (n' c' : Nat) (e : Ending) (w' : World), n' = k + 1 - (1 + d.length) → c' = c - (1 + d.length) → (A' = some ⟨b0, o0, none⟩ ∧ c = 1 + d.length ∨ A' = some ⟨b0, o0 + (1 + d.length), none⟩) → e = .returned (.int .u64 (val d : Int)) →
      w' = w.setCell ⟨g, 0, none⟩ (.slice A' n' c') → REnds g b (.int .u64 (val d : Int)) t 0 w e w' := by
    intro A' n' c' e w' h1 h2 h3 h4 h5
    subst h5
    have hcut := rd_cut (A' := A') (s := 1 + d.length) hv HN.out hnc hcm HX.out hb hbg (by omega) h1 h2 (by
      rcases h3 with ⟨rfl, h⟩ | h
      · exact .inl ⟨rfl, h⟩
      · exact .inr (h.trans (addr_add _ _ _).symm))
    rw [HDR.out] at hcut
    exact ⟨h4, b, hcut.1, .inl rfl, hcut.2⟩
  have FIN := hide fin
  clear fin
  have HV := hide hv
  clear hv hb
  by_cases hcc : c = 1 + d.length
  all_goals
    cases d with
    | nil =>
      have hc1 := hcc
      simp only [List.length_nil, Nat.add_zero] at hc1
      go_enter Try.func88, Try.ntmps88
      go_wp2
      go_step3
      go_wp2_with fail
      refine HE.out.mono ?_
      rintro e w' ⟨rfl, rfl⟩
      go_wp2
      refine wp_loop_rounds 1 ?_
      rw [rounds_succ]
      go_wp2
      rw [Exit.noGoto_ret]
      go_ret
      first
        | exact FIN.out (some ⟨b0, o0, none⟩) k 0 _ _ (by simp) (by simp; omega) (.inl ⟨rfl, hcc⟩) rfl rfl
        | exact FIN.out (some ⟨b0, o0 + 1, none⟩) k (c - 1) _ _ (by simp) (by simp) (.inr rfl) rfl rfl
    | cons x r =>
      have hx0 : x ≠ 0 := hz x r rfl
      have hc1 := HCD.out 0 (by simp)
      simp only [List.getElem_cons_zero, Nat.add_zero] at hc1
      have t3 : ((x.toNat : Int) == 0) = false := by
        rw [beq_eq_false_iff_ne]; intro e; exact hx0 (UInt8.toNat_inj.1 (by simp; omega))
      clear hz
      generalize hd : (x :: r) = d at *
      have hdl : 0 < d.length := by rw [← hd]; simp
      have t4 : decide (0 < d.length) = true := by simpa using hdl
      have hcn1 : ¬ c = 1 := by omega
      have HCC := hide hcc
      have hle : c ≤ 1 + d.length ∨ 2 + d.length ≤ c := by omega
      clear hd hcc
      go_enter Try.func88, Try.ntmps88
      go_wp2
      go_step3
      go_wp2_with fail
      refine HE.out.mono ?_
      rintro e w' ⟨rfl, rfl⟩
      go_wp2
      go_loop [4, 52] (fun s i => ∃ j : Nat, j ≤ d.length ∧ i = .int .i64 j ∧ s = .int .u64 (val (d.take j) : Int)) (fun _ i => d.length - (intOf i).toNat)
      case atStart => exact ⟨0, Nat.zero_le _, rfl, rfl⟩
      case round =>
        obtain ⟨j, hj, rfl, rfl⟩ := hrel
        by_cases hjl : j < d.length
        · have hcj := HCD.out j hjl
          have HV := hide (val_take d j hjl)
          have HB := hide (val_take_lt d j hjl h8)
          generalize val (d.take j) = u at *
          generalize d[j] = cj at *
          go_wp2
          go_round
          case rel => exact ⟨j + 1, by omega, by go_num, by rw [HV.out]; exact congrArg (Value.int .u64) (or_step u cj HB.out)⟩
          case measure => simp [intOf]; omega
        · have e : j = d.length := by omega
          have HL := hide e
          go_wp2
          go_ret
          first
            | exact FIN.out _ _ _ _ _ rfl rfl (.inr rfl) rfl rfl
            | exact FIN.out _ _ _ _ _ (by omega) (by omega) (.inl ⟨rfl, HCC.out⟩) rfl rfl
end Go.Proofs.Ytpbfibofjkinmaa
