/-
  Encode of package value, whatever the value. Conditions: what is read is in reach.
-/
import Derived.Test.YtnngmapphacpkaaValCheck
import Derived.Test.YtnngmapphacpkaaValPure
set_option linter.unusedSimpArgs false
set_option linter.unusedVariables false
namespace Go.Proofs.Ytnngmapphacpkaa
open Go.RowKit

theorem chkS_in {ns : List Int} (h : chkS ns = 0) : ns.length ≤ 7 ∧ ∀ m ∈ ns, 0 ≤ m ∧ m ≤ 9 := by
  have hr : rightS ns := by
    by_cases h1 : rightS ns
    · exact h1
    · unfold chkS at h; rw [if_neg h1] at h; omega
  refine ⟨hr.2.1, fun m hm => ?_⟩
  obtain ⟨j, hj, rfl⟩ := List.getElem_of_mem hm
  have := (hr.2.2 j hj).1
  rw [getD_at hj] at this
  have h2 := of_decide_eq_true this
  omega
/-- What Check lets through. -/
theorem chkV_fine {k : Int} {cs : List Cmdv} {ns : List Int} (hc : ∀ c ∈ cs, IsCmd c) (h : chkV k cs ns = 0) : FineV k cs ns := by
  unfold chkV at h
  by_cases hs : shB k cs.length ns.length = true
  · rw [if_pos hs] at h
    have hp : shP k cs.length ns.length := of_decide_eq_true hs
    unfold shP at hp
    by_cases k2 : k = 2
    · rw [if_pos k2] at h
      obtain ⟨h1, h2⟩ := chkS_in h
      exact ⟨by omega, by omega, hc, h1, h2⟩
    · have hn0 : ns = [] := List.eq_nil_of_length_eq_zero (by omega)
      subst hn0
      exact ⟨by omega, by omega, hc, by simp, by simp⟩
  · rw [if_neg hs] at h
    omega
theorem encV_len {k : Int} {cs : List Cmdv} {ns : List Int} (h : FineV k cs ns) : (encV k cs ns).length ≤ 1000 := by
  have h1 := encNs_length ns
  have h2 := bw_le (unb k)
  have h3 := bw_le cs.length
  have h4 := bw_le ns.length
  have h5 := encCs_length cs
  have h6 := h.cl
  have h7 := h.nl
  unfold encV
  simp only [List.length_append, enc_length]
  omega

end Go.Proofs.Ytnngmapphacpkaa
