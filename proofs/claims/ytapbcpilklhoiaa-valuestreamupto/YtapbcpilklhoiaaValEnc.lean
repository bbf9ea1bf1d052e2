/-
  Encode of package value, whatever the value. Conditions: what is read is in reach.
-/
import Derived.Test.YtapbcpilklhoiaaValCheck
import Derived.Test.YtapbcpilklhoiaaValPure
set_option linter.unusedSimpArgs false
set_option linter.unusedVariables false
namespace Go.Proofs.Ytapbcpilklhoiaa
open Go.RowKit

theorem chkS_in {ns : List Int} (h : chkS ns = 0) : ns.length ≤ 7 ∧ ∀ m ∈ ns, 0 ≤ m ∧ m ≤ 9 := by
  have hr : rightS ns := by
    by_cases h1 : rightS ns
    · exact h1
    · unfold chkS at h; rw [if_neg h1] at h; omega
  refine ⟨hr.2.1, fun m hm => ?_⟩
  obtain ⟨j, hj, rfl⟩ := List.getElem_of_mem hm
  have := (hr.2.2 j hj).1
  rw [getD_at hj] at this
  have h2 := of_decide_eq_true this
  omega
/-- What Check lets through. -/
theorem chkV_fine {k : Int} {cs : List Cmdv} {ns : List Int} (hc : ∀ c ∈ cs, IsCmd c) (h : chkV k cs ns = 0) : FineV k cs ns := by
  unfold chkV at h
  by_cases hs : shB k cs.length ns.length = true
  · rw [if_pos hs] at h
    have hp : shP k cs.length ns.length := of_decide_eq_true hs
    unfold shP at hp
    by_cases k2 : k = 2
    · rw [if_pos k2] at h
      obtain ⟨h1, h2⟩ := chkS_in h
      exact ⟨by omega, by omega, hc, h1, h2⟩
    · have hn0 : ns = [] := List.eq_nil_of_length_eq_zero (by omega)
      subst hn0
      exact ⟨by omega, by omega, hc, by simp, by simp⟩
  · rw [if_neg hs] at h
    omega
theorem encV_len {k : Int} {cs : List Cmdv} {ns : List Int} (h : FineV k cs ns) : (encV k cs ns).length ≤ 1000 := by
  have h1 := encNs_length ns
  have h2 := bw_le (unb k)
  have h3 := bw_le cs.length
  have h4 := bw_le ns.length
  have h5 := encCs_length cs
  have h6 := h.cl
  have h7 := h.nl
  unfold encV
  simp only [List.length_append, enc_length]
  omega

set_option maxHeartbeats 800000 in
theorem vencode_ok (k : Int) (A A' : Option Addr) (n c n' c' B : Nat) (cs : List Cmdv) (ns : List Int) (w : World) (hC : HasC w B A cs) (hN : HasI w B A' ns) (hB : B ≤ w.heap.size) (hn : cs.length = n) (hn' : ns.length = n') (hcs : ∀ x ∈ cs, IsCmd x) (h0 : chkV k cs ns = 0) :
    Calls Try.prog 36 #[.agg #[.int .i64 k, .slice A n c, .slice A' n' c']] w fun e w' => ∃ v, e = .returned (.tuple #[v, .int .i64 0]) ∧ Own w' w.heap.size v (encV k cs ns) ∧ Below w.heap.size w w' := by
  have hf := chkV_fine hcs h0
  have hlv := encV_len hf
  have h7 : n' ≤ 7 := by rw [← hn']; exact hf.nl
  have h8 : n ≤ 8 := by rw [← hn]; exact hf.cl
  have HN := hide hn
  have HN' := hide hn'
  have H0 := hide h0
  clear hn hn' h0
  go_enter Try.func36, Try.ntmps36
  go_wp2_with fail
  refine (vcheck_any k A A' n c n' c' B cs ns _ (hC.alloc hB _) (hN.alloc hB _) (by simp; omega) HN.out HN'.out (by omega)).mono ?_
  rintro e w1 ⟨rfl, hb1⟩
  rw [H0.out]
  obtain ⟨c0, c1, c2, hz⟩ := val_box hb1
  have hN1 : HasI w1 B A' ns := (hN.alloc hB _).on (by simp; omega) hb1
  have hC1 : HasC w1 B A cs := (hC.alloc hB _).on (by simp; omega) hb1
  have hb1' := below_of_alloc' hb1
  clear hb1
  go_wp2_with fail
  refine (newwriter_any w1).mono ?_
  rintro e w2 ⟨rfl, hw2⟩
  have hwr := wr_new w1 w1.heap.size (Nat.le_refl _)
  have hb2 : Below w1.heap.size w1 (w1.alloc (.cells #[.slice none 0 0] 104)) := (Below.refl _ _).alloc (Nat.le_refl _) _
  rw [hw2] at hwr hb2
  have hk0 : ∀ i, w2.cell? ⟨w.heap.size, i, none⟩ = w1.cell? ⟨w.heap.size, i, none⟩ := fun i => hb2.cell (p := ⟨w.heap.size, i, none⟩) hz
  have d0 := (hk0 0).trans c0
  have d1 := (hk0 1).trans c1
  have d2 := (hk0 2).trans c2
  have hN2 : HasI w2 B A' ns := hN1.on (by omega) hb2
  have hC2 : HasC w2 B A cs := hC1.on (by omega) hb2
  clear hw2 hk0
  go_wp2_with fail
  refine (vwrite_any w1.heap.size w1.heap.size none [] k A A' n c n' c' B cs ns w2 hwr hC2 hN2 (by omega) HN.out HN'.out hcs (by simp; omega)).mono ?_
  rintro e w3 ⟨rfl, b3, hw3, _, hk3⟩
  have hb3 : Below w1.heap.size w2 w3 := hk3.below hb2.size (fun k hk => (hwr.foot k hk).1)
  have hb3' := hb1'.trans ((hb2.trans hb3).mono hb1'.size)
  rw [List.nil_append] at hw3
  go_wp2_with fail
  refine (wbytes_any w1.heap.size w1.heap.size b3 (encV k cs ns) w3 hw3 (by omega)).mono ?_
  rintro e w4 ⟨v4, rfl, ho4, hb4⟩
  go_wp2
  go_returns
  exact ⟨v4, rfl, ho4.from_ hb3'.size, hb3'.trans (hb4.mono hb3'.size)⟩

theorem vencode_bad (k : Int) (A A' : Option Addr) (n c n' c' B : Nat) (cs : List Cmdv) (ns : List Int) (w : World) (hC : HasC w B A cs) (hN : HasI w B A' ns) (hB : B ≤ w.heap.size) (hn : cs.length = n) (hn' : ns.length = n') (hl' : n' ≤ 140737488355328) (h0 : chkV k cs ns ≠ 0) :
    Calls Try.prog 36 #[.agg #[.int .i64 k, .slice A n c, .slice A' n' c']] w fun e w' => e = .returned (.tuple #[.slice none 0 0, .int .i64 (chkV k cs ns)]) ∧ Below w.heap.size w w' := by
  have HN := hide hn
  have HN' := hide hn'
  have t0 : (chkV k cs ns != 0) = true := by rw [bne_iff_ne]; exact h0
  clear hn hn' h0
  go_enter Try.func36, Try.ntmps36
  go_wp2_with fail
  refine (vcheck_any k A A' n c n' c' B cs ns _ (hC.alloc hB _) (hN.alloc hB _) (by simp; omega) HN.out HN'.out (by omega)).mono ?_
  rintro e w1 ⟨rfl, hb1⟩
  have hb1' := below_of_alloc' hb1
  clear hb1
  go_wp2
  go_returns
  exact ⟨rfl, hb1'⟩
end Go.Proofs.Ytapbcpilklhoiaa
