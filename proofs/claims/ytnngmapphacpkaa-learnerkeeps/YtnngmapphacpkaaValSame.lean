/-
  Slices of commands compared; Same of value and of its reference. Conditions: what is read is in reach.
-/
import Derived.Test.YtnngmapphacpkaaValEq
set_option linter.unusedSimpArgs false
set_option linter.unusedVariables false
namespace Go.Proofs.Ytnngmapphacpkaa
open Go.RowKit

theorem HasC.at_ {w : World} {B : Nat} {b o : Nat} {cs : List Cmdv} (h : HasC w B (some ⟨b, o, none⟩) cs) (i : Nat) (hi : i < cs.length) :
    w.cell? ⟨b, o + i * 8, none⟩ = some (.int .i64 cs[i].s) ∧ w.cell? ⟨b, o + i * 8 + 1, none⟩ = some (.int .i64 cs[i].q) ∧ w.cell? ⟨b, o + i * 8 + 2, none⟩ = some (.int .i64 cs[i].a) ∧ w.cell? ⟨b, o + i * 8 + 3, none⟩ = some (.int .i64 cs[i].k) ∧ w.cell? ⟨b, o + i * 8 + 4, none⟩ = some (.int .i64 cs[i].r) ∧ w.cell? ⟨b, o + i * 8 + 5, none⟩ = some (.int .i64 cs[i].t) ∧ w.cell? ⟨b, o + i * 8 + 6, none⟩ = some (.int .i64 cs[i].re) ∧ w.cell? ⟨b, o + i * 8 + 7, none⟩ = some (.int .i64 cs[i].im) := by
  obtain ⟨b', o', e, _, r⟩ := h i hi
  cases e
  exact r

theorem eqC_map {cs ds : List Cmdv} {k : Nat} (h : k < cs.length) (h' : k < ds.length) (ht : (cs.take k).map Cmdv.ints = (ds.take k).map Cmdv.ints) (he : eqC cs[k] ds[k] = true) : (cs.take (k + 1)).map Cmdv.ints = (ds.take (k + 1)).map Cmdv.ints := by
  rw [List.take_succ_eq_append_getElem h, List.take_succ_eq_append_getElem h', List.map_append, List.map_append, ht]
  simp [of_decide_eq_true he]
theorem eqC_ne {cs ds : List Cmdv} {k : Nat} (h : k < cs.length) (h' : k < ds.length) (he : eqC cs[k] ds[k] = false) : eqCs cs ds = false := by
  refine decide_eq_false fun hh => ?_
  have := congrArg (fun l => l[k]?) hh
  simp [h, h'] at this
  exact absurd this (of_decide_eq_false he)

set_option maxHeartbeats 800000 in
theorem equalC_any (A A' : Option Addr) (n n' c c' B B' : Nat) (cs ds : List Cmdv) (w : World) (hx : HasC w B A cs) (hy : HasC w B' A' ds) (hn : cs.length = n) (hn' : ds.length = n') (hl : n ≤ 140737488355328) :
    Calls Try.prog 71 #[.slice A n c, .slice A' n' c'] w fun e w' => e = .returned (.bool (eqCs cs ds)) ∧ ∃ n, w.drewN n = w' := by
  subst hn hn'
  by_cases he : cs.length = ds.length
  · have t1 : ((cs.length : Int) != (ds.length : Int)) = false := by simp [he]
    have HE := hide he
    clear he
    go_enter Try.func71, Try.ntmps71
    go_wp2
    go_loopw [13] (fun i wr => ∃ k m : Nat, k ≤ cs.length ∧ i = .int .i64 k ∧ Hid ((cs.take k).map Cmdv.ints = (ds.take k).map Cmdv.ints) ∧ w.drewN m = wr) (fun i _ => cs.length - (intOf i).toNat)
    case atStart => exact ⟨0, 0, Nat.zero_le _, rfl, rfl, rfl⟩
    case round =>
      obtain ⟨k, m, hk, rfl, HT, rfl⟩ := hrel
      by_cases hlt : k < cs.length
      · have hlt' : k < ds.length := by have := HE.out; omega
        obtain ⟨b, o, rfl, hb, p0, p1, p2, p3, p4, p5, p6, p7⟩ := hx k hlt
        obtain ⟨b', o', rfl, hb', q0, q1, q2, q3, q4, q5, q6, q7⟩ := hy k hlt'
        have i1 : (k : Int) < (cs.length : Int) := by omega
        have i2 : (k : Int) < (ds.length : Int) := by omega
        have i3 : (0 : Int) ≤ (k : Int) := by omega
        have ke := fun w => equal_cmd 9997 cs[k] ds[k] w
        rcases hxy : eqC cs[k] ds[k] with _ | _
        · have HN : Hid (eqCs cs ds = false) := hide (eqC_ne hlt hlt' hxy)
          rw [hxy] at ke
          clear hxy
          generalize cs[k] = c1 at *
          generalize ds[k] = c2 at *
          go_wp2_with fail
          go_quiet (fail)
          go_wp2
          go_ret
          exact ⟨by rw [HN.out]; rfl, m + nq, by simp⟩
        · have HN := hide (eqC_map hlt hlt' HT.out hxy)
          rw [hxy] at ke
          clear hxy
          generalize cs[k] = c1 at *
          generalize ds[k] = c2 at *
          go_wp2_with fail
          go_quiet (fail)
          go_wp2
          go_roundw
          case rel => exact ⟨k + 1, m + nq, by omega, by go_num, HN, by simp⟩
          case measure => simp [intOf]; omega
      · go_wp2
        go_ret
        have e : k = cs.length := by omega
        subst e
        have hxy : eqCs cs ds = true := decide_eq_true (by
          have := HT.out
          rw [List.take_length, HE.out, List.take_length] at this
          exact this)
        exact ⟨by rw [hxy]; rfl, m, rfl⟩
  · have t1 : ((cs.length : Int) != (ds.length : Int)) = true := by simp; omega
    have HN : Hid (eqCs cs ds = false) := hide (decide_eq_false fun h => he (by have := congrArg List.length h; simpa using this))
    clear he
    go_enter Try.func71, Try.ntmps71
    go_wp2
    go_ret
    exact ⟨by rw [HN.out]; rfl, 0, rfl⟩

/-- Two values are the same. -/
def sameV (k : Int) (cs : List Cmdv) (ns : List Int) (k' : Int) (cs' : List Cmdv) (ns' : List Int) : Bool := (k == k') && (eqCs cs cs' && decide (ns = ns'))

set_option maxHeartbeats 800000 in
theorem vsame_any (k k' : Int) (A A' D D' : Option Addr) (n n' c c' m m' d d' B : Nat) (cs cs' : List Cmdv) (ns ns' : List Int) (w : World) (hC : HasC w B A cs) (hN : HasI w B D ns) (hC' : HasC w B A' cs') (hN' : HasI w B D' ns') (hB : B ≤ w.heap.size)
    (hn : cs.length = n) (hn' : cs'.length = n') (hm : ns.length = m) (hm' : ns'.length = m') (hl : n ≤ 140737488355328) (hlm : m ≤ 140737488355328) :
    Calls Try.prog 58 #[.agg #[.int .i64 k, .slice A n c, .slice D m d], .agg #[.int .i64 k', .slice A' n' c', .slice D' m' d']] w fun e w' => e = .returned (.bool (sameV k cs ns k' cs' ns')) ∧ Below w.heap.size w w' := by
  have hA : ∀ o1 o2, HasC ((w.alloc o1).alloc o2) B A cs := fun o1 o2 => (hC.alloc hB o1).alloc (by simp; omega) o2
  have hA' : ∀ o1 o2, HasC ((w.alloc o1).alloc o2) B A' cs' := fun o1 o2 => (hC'.alloc hB o1).alloc (by simp; omega) o2
  have hD : ∀ o1 o2, HasI ((w.alloc o1).alloc o2) B D ns := fun o1 o2 => (hN.alloc hB o1).alloc (by simp; omega) o2
  have hD' : ∀ o1 o2, HasI ((w.alloc o1).alloc o2) B D' ns' := fun o1 o2 => (hN'.alloc hB o1).alloc (by simp; omega) o2
  rcases hk : (k == k') with _ | _
  · have HE : Hid (sameV k cs ns k' cs' ns' = false) := hide (by unfold sameV; rw [hk]; rfl)
    go_enter Try.func58, Try.ntmps58
    go_wp2
    go_ret
    exact ⟨by rw [HE.out]; rfl, by go_grown⟩
  · have HE : Hid (sameV k cs ns k' cs' ns' = (eqCs cs cs' && decide (ns = ns'))) := hide (by unfold sameV; rw [hk]; rfl)
    go_enter Try.func58, Try.ntmps58
    go_wp2_with fail
    refine (equalC_any A A' n n' c c' B B cs cs' _ (hA _ _) (hA' _ _) hn hn' hl).mono ?_
    rintro e w1 ⟨rfl, nq, rfl⟩
    rcases hE : eqCs cs cs' with _ | _
    · have HE' : Hid (sameV k cs ns k' cs' ns' = false) := hide (by rw [HE.out, hE]; rfl)
      go_wp2
      go_ret
      exact ⟨by rw [HE'.out]; rfl, below_drewN (by go_grown) _⟩
    · have HE' : Hid (sameV k cs ns k' cs' ns' = decide (ns = ns')) := hide (by rw [HE.out, hE]; rfl)
      go_wp2_with fail
      refine (equalI_any D D' m m' d d' B B ns ns' _ (HasI.drewN (hD _ _) nq) (HasI.drewN (hD' _ _) nq) hm hm' hlm).mono ?_
      rintro e w2 ⟨rfl, nq2, rfl⟩
      go_wp2
      go_ret
      exact ⟨by rw [HE'.out]; rfl, below_drewN (by go_grown) _⟩

set_option maxHeartbeats 800000 in
theorem rvsame_any (k k' : Int) (A A' D D' : Option Addr) (n n' c c' m m' d d' B : Nat) (cs cs' : List Cmdv) (ns ns' : List Int) (w : World) (hC : HasC w B A cs) (hN : HasI w B D ns) (hC' : HasC w B A' cs') (hN' : HasI w B D' ns') (hB : B ≤ w.heap.size)
    (hn : cs.length = n) (hn' : cs'.length = n') (hm : ns.length = m) (hm' : ns'.length = m') (hl : n ≤ 140737488355328) (hlm : m ≤ 140737488355328) :
    Calls Try.prog 21 #[.agg #[.int .i64 k, .slice A n c, .slice D m d], .agg #[.int .i64 k', .slice A' n' c', .slice D' m' d']] w fun e w' => e = .returned (.bool (sameV k cs ns k' cs' ns')) ∧ Below w.heap.size w w' := by
  have hA : ∀ o1 o2, HasC ((w.alloc o1).alloc o2) B A cs := fun o1 o2 => (hC.alloc hB o1).alloc (by simp; omega) o2
  have hA' : ∀ o1 o2, HasC ((w.alloc o1).alloc o2) B A' cs' := fun o1 o2 => (hC'.alloc hB o1).alloc (by simp; omega) o2
  have hD : ∀ o1 o2, HasI ((w.alloc o1).alloc o2) B D ns := fun o1 o2 => (hN.alloc hB o1).alloc (by simp; omega) o2
  have hD' : ∀ o1 o2, HasI ((w.alloc o1).alloc o2) B D' ns' := fun o1 o2 => (hN'.alloc hB o1).alloc (by simp; omega) o2
  rcases hk : (k != k') with _ | _
  · have hk' : (k == k') = true := by simpa [bne] using hk
    have HE : Hid (sameV k cs ns k' cs' ns' = (eqCs cs cs' && decide (ns = ns'))) := hide (by unfold sameV; rw [hk']; rfl)
    clear hk'
    by_cases hln : n = n'
    · have t1 : ((n : Int) != (n' : Int)) = false := by simp [hln]
      have HLN := hide hln
      clear hln
      go_enter Try.func21, Try.ntmps21
      go_wp2_with fail
      refine (rints_any D D' m m' d d' B B ns ns' _ (hD _ _) (hD' _ _) hm hm' hlm).mono ?_
      rintro e w2 ⟨rfl, nq, rfl⟩
      by_cases hE : ns = ns'
      · have hd : decide (ns = ns') = true := decide_eq_true hE
        have HE' : Hid (sameV k cs ns k' cs' ns' = eqCs cs cs') := hide (by rw [HE.out, hd, Bool.and_true])
        rw [hd]
        clear hd hE HE
        go_wp2_with fail
        have hA1 := hA (.cells #[.int .i64 k, .slice A n c, .slice D m d] 35) (.cells #[.int .i64 k', .slice A' n' c', .slice D' m' d'] 35)
        have hA1' := hA' (.cells #[.int .i64 k, .slice A n c, .slice D m d] 35) (.cells #[.int .i64 k', .slice A' n' c', .slice D' m' d'] 35)
        have u1 : ((w.alloc (.cells #[.int .i64 k, .slice A n c, .slice D m d] 35)).alloc (.cells #[.int .i64 k', .slice A' n' c', .slice D' m' d'] 35)).cell? ⟨w.heap.size, 1, none⟩ = some (.slice A n c) := (World.cell?_alloc_past (w := w.alloc _) _ w.heap.size 1 (by simp)).trans (cell_of_row _ _ _ _ _ _ (heap_alloc_new w _))
        have u2 : ((w.alloc (.cells #[.int .i64 k, .slice A n c, .slice D m d] 35)).alloc (.cells #[.int .i64 k', .slice A' n' c', .slice D' m' d'] 35)).cell? ⟨w.heap.size + 1, 1, none⟩ = some (.slice A' n' c') := by simp
        have hbw : Below w.heap.size w ((w.alloc (.cells #[.int .i64 k, .slice A n c, .slice D m d] 35)).alloc (.cells #[.int .i64 k', .slice A' n' c', .slice D' m' d'] 35)) := by go_grown
        generalize (w.alloc (.cells #[.int .i64 k, .slice A n c, .slice D m d] 35)).alloc (.cells #[.int .i64 k', .slice A' n' c', .slice D' m' d'] 35) = W0 at *
        clear hA hA' hD hD' hC hC' hN hN' t1
        go_loopw [31] (fun i wr => ∃ j mm : Nat, j ≤ n ∧ i = .int .i64 j ∧ Hid ((cs.take j).map Cmdv.ints = (cs'.take j).map Cmdv.ints) ∧ W0.drewN mm = wr) (fun i _ => n - (intOf i).toNat)
        case atStart => exact ⟨0, nq, Nat.zero_le _, rfl, rfl, rfl⟩
        case round =>
          obtain ⟨j, mm, hj, rfl, HT, rfl⟩ := hrel
          by_cases hlt : j < n
          · have hlt1 : j < cs.length := by omega
            have hlt2 : j < cs'.length := by have := HLN.out; omega
            obtain ⟨b, o, rfl, hb, p0, p1, p2, p3, p4, p5, p6, p7⟩ := hA1 j hlt1
            obtain ⟨b', o', rfl, hb', q0, q1, q2, q3, q4, q5, q6, q7⟩ := hA1' j hlt2
            have i1 : (j : Int) < (n : Int) := by omega
            have i2 : (j : Int) < (n' : Int) := by have := HLN.out; omega
            have i3 : (0 : Int) ≤ (j : Int) := by omega
            have ke := fun w => equal_cmd 9997 cs[j] cs'[j] w
            rcases hxy : eqC cs[j] cs'[j] with _ | _
            · have HNE : Hid (eqCs cs cs' = false) := hide (eqC_ne hlt1 hlt2 hxy)
              rw [hxy] at ke
              clear hxy
              generalize cs[j] = c1 at *
              generalize cs'[j] = c2 at *
              go_wp2_with fail
              go_quiet (fail)
              go_wp2
              go_ret
              exact ⟨by rw [HE'.out, HNE.out]; rfl, by rw [World.drewN_drewN]; exact below_drewN hbw _⟩
            · have HNX := hide (eqC_map hlt1 hlt2 HT.out hxy)
              rw [hxy] at ke
              clear hxy
              generalize cs[j] = c1 at *
              generalize cs'[j] = c2 at *
              go_wp2_with fail
              go_quiet (fail)
              go_wp2
              go_roundw
              case rel => exact ⟨j + 1, mm + nq, by omega, by go_num, HNX, by simp⟩
              case measure => simp [intOf]; omega
          · have hall : eqCs cs cs' = true := decide_eq_true (by
              have := HT.out
              rw [List.take_of_length_le (by omega), List.take_of_length_le (by have := HLN.out; omega)] at this
              exact this)
            have HNE := hide hall
            clear hall
            go_wp2
            go_ret
            exact ⟨by rw [HE'.out, HNE.out]; rfl, below_drewN hbw _⟩
      · have hd : decide (ns = ns') = false := decide_eq_false hE
        have HE' : Hid (sameV k cs ns k' cs' ns' = false) := hide (by rw [HE.out, hd, Bool.and_false])
        rw [hd]
        clear hd hE
        go_wp2
        go_ret
        exact ⟨by rw [HE'.out]; rfl, below_drewN (by go_grown) _⟩
    · have t1 : ((n : Int) != (n' : Int)) = true := by rw [bne_iff_ne]; omega
      have hE : eqCs cs cs' = false := decide_eq_false fun h => hln (by have := congrArg List.length h; simp at this; omega)
      have HE' : Hid (sameV k cs ns k' cs' ns' = false) := hide (by rw [HE.out, hE]; rfl)
      clear hln hE
      go_enter Try.func21, Try.ntmps21
      go_wp2
      go_ret
      exact ⟨by rw [HE'.out]; rfl, by go_grown⟩
  · have hk' : (k == k') = false := by simpa [bne] using hk
    have HE : Hid (sameV k cs ns k' cs' ns' = false) := hide (by unfold sameV; rw [hk']; rfl)
    clear hk'
    go_enter Try.func21, Try.ntmps21
    go_wp2
    go_ret
    exact ⟨by rw [HE.out]; rfl, by go_grown⟩
end Go.Proofs.Ytnngmapphacpkaa
