/-
  head of the Link laws. No condition.
-/
import Derived.Test.YtpbfibofjkinmaaLinkW
set_option linter.unusedSimpArgs false
set_option linter.unusedVariables false
namespace Go.Proofs.Ytpbfibofjkinmaa
open Go.RowKit Go.Maps

theorem EK.from_ {w : World} {base base' g : Nat} {k : Lk} {F : Nat → Prop} (h : EK w base g k F) (hb : base' ≤ base) : EK w base' g k F := by
  obtain ⟨wv, mv, dv, hI, rfl⟩ := h
  refine ⟨wv, mv, dv, ⟨hI.blk, Nat.le_trans hb hI.bg, hI.row.from_ hb, fun l hl => ⟨(hI.dat l hl).1.from_ hb, (hI.dat l hl).2⟩, ?_, hI.due.from_ hb, hI.len, hI.dsl⟩, rfl⟩
  rcases hI.set with h1 | ⟨b, h1, h2, h3⟩
  · exact .inl h1
  · exact .inr ⟨b, h1, Nat.le_trans hb h2, h3⟩
theorem OwnF.at_ {W : World} {base : Nat} {A : Option Addr} {n c : Nat} {ps : List Piece} (h : OwnF W base (.slice A n c) ps) (hb : ∀ p ∈ ps, p.bs.length ≤ 140737488355328) (i : Nat) (hi : i < ps.length) :
    ∃ g, A = some ⟨g, 0, none⟩ ∧ ps.length = n ∧ W.cell? ⟨g, i, none⟩ = some ps[i].val ∧ Has W W.heap.size ps[i].spot ps[i].bs ∧ ps[i].bs.length = ps[i].len ∧ ps[i].len ≤ 140737488355328 := by
  rcases h.row.2 with ⟨hv, hn⟩ | ⟨g, cap, cur, hv, hg, hh, hnc, hm, hcs, ht⟩
  · omega
  · injection hv with e1 e2 e3
    subst e1 e2 e3
    obtain ⟨_, _, _, e', _, _, hP⟩ := h.form hb
    injection e' with e1 e2 e3
    subst e1 e2 e3
    obtain ⟨⟨b, o, e', hbb, hcell⟩, h1, h2, h3⟩ := hP i hi
    injection e' with e'
    injection e' with e1 e2 e3
    subst e1 e2
    rw [Nat.zero_add] at hcell
    exact ⟨g, rfl, rfl, hcell, h1, h2, h3⟩

theorem InP.car {k k' : Lk} {lf nm od : Nat} {xs : List UInt8} {o : Option (List UInt8)} (h : InP k ⟨1, lf, nm, od, xs, ([], 0)⟩ k' o) (h1 : 0 < lf) (h2 : 0 < nm) (h3 : 0 < od) (h4 : od ≤ nm) : ∃ fr, TakeP k lf nm od fr k' ∧ o = if fr = true then some xs else none := by
  have he := err_car lf nm od xs h1 h2 h3 h4
  rcases h with ⟨h5, _⟩ | ⟨_, h5, _⟩ | ⟨_, _, h6⟩
  · exact absurd he h5
  · exact absurd h5 (show ¬ (1 : Nat) = 2 by omega)
  · exact h6
theorem InP.rec_ {k k' : Lk} {lf nm : Nat} {o : Option (List UInt8)} (h : InP k ⟨2, lf, nm, 0, [], ([], 0)⟩ k' o) (h1 : 0 < lf) (h2 : 0 < nm) : k' = (if (lf : Int) = k.life then k.free nm else k) ∧ o = none := by
  have he := err_rec lf nm h1 h2
  rcases h with ⟨h5, _⟩ | ⟨_, _, h6⟩ | ⟨_, h6, _⟩
  · exact absurd he h5
  · exact h6
  · exact absurd rfl h6

def F0 : List UInt8 := [1, 1, 1, 3, 1, 1, 1, 1, 1, 1, 97]
theorem f0_eq : frB 1 3 1 1 [97] = F0 := by decide
theorem f0_rd : rdF F0 = ⟨1, 3, 1, 1, [97], ([], 0)⟩ := by rw [← f0_eq]; exact rdF_car 3 1 1 [97] (by omega) (by omega) (by omega) (by simp)
theorem f0_err : (rdF F0).err = 0 := by rw [f0_rd]; exact err_car 3 1 1 [97] (by omega) (by omega) (by omega) (by omega)
def K1 (A : Option Addr) (n c : Nat) (s : Bool) (a : Int) : Lk := ⟨3, 10, 1, [⟨1, A, n, c, s, a, [97]⟩], 0, 0, fun _ => false, [], 0⟩
theorem head_send {k1 : Lk} (hs : SendP (Lk.new 3 10) [97] k1) : ∃ A n c, k1 = K1 A n c false 0 := by
  obtain ⟨A, n, c, e⟩ := hs.2 (by decide)
  exact ⟨A, n, c, e⟩
theorem head_out0 (A : Option Addr) (n c : Nat) : (K1 A n c false 0).recs ++ (K1 A n c false 0).carries 0 = [F0] := by rw [← f0_eq]; rfl
theorem head_at0 (A : Option Addr) (n c : Nat) : (K1 A n c false 0).sentAt 0 = K1 A n c true 0 := rfl
theorem due9 (A : Option Addr) (n c : Nat) : dueB ⟨1, A, n, c, true, 0, [97]⟩ 9 10 = false := by
  have e : decide (u64 10 ≤ u64 (u64 9 - u64 0)) = false := by decide
  simp [dueB, e]
theorem due10 (A : Option Addr) (n c : Nat) : dueB ⟨1, A, n, c, true, 0, [97]⟩ 10 10 = true := by
  have e : decide (u64 10 ≤ u64 (u64 10 - u64 0)) = true := by decide
  simp [dueB, e]
theorem head_out9 (A : Option Addr) (n c : Nat) : (K1 A n c true 0).recs ++ (K1 A n c true 0).carries 9 = [] := by
  simp [Lk.recs, Lk.carries, K1, due9]
theorem head_at9 (A : Option Addr) (n c : Nat) : (K1 A n c true 0).sentAt 9 = K1 A n c true 0 := by
  simp [Lk.sentAt, K1, Ltr.stamp, due9]
theorem head_out10 (A : Option Addr) (n c : Nat) : ((K1 A n c true 0).recs ++ (K1 A n c true 0).carries 10).length = 1 := by
  simp [Lk.recs, Lk.carries, K1, due10]
theorem head_at10 (A : Option Addr) (n c : Nat) : (K1 A n c true 0).sentAt 10 = K1 A n c true 10 := by
  simp [Lk.sentAt, K1, Ltr.stamp, due10]
theorem head_in1 {k : Lk} {o : Option (List UInt8)} (h : InP (Lk.new 1 10) (rdF F0) k o) : o = some [97] ∧ k.pl = 3 ∧ k.all = 1 ∧ (∀ x, k.S x = false) ∧ k.cnt = 1 := by
  rw [f0_rd] at h
  obtain ⟨fr, h1, rfl⟩ := h.car (by omega) (by omega) (by omega) (by omega)
  obtain ⟨rfl, rfl⟩ := take_next h1 (by decide) (fun x => by unfold Lk.born Lk.new; split <;> rfl) (by decide)
  refine ⟨rfl, ?_, rfl, fun _ => rfl, ?_⟩
  · rfl
  · rfl
theorem head_in2 {k k' : Lk} {o : Option (List UInt8)} (h : InP k (rdF F0) k' o) (h1 : k.pl = 3) (h2 : k.all = 1) (h3 : ∀ x, k.S x = false) : o = none := by
  rw [f0_rd] at h
  obtain ⟨fr, h4, rfl⟩ := h.car (by omega) (by omega) (by omega) (by omega)
  have eb : k.born ((3 : Nat) : Int) = k := by unfold Lk.born; rw [if_pos (by rw [h1]; decide)]
  obtain ⟨rfl, _⟩ := take_again h4 (by rw [h1]; decide) (fun x => by rw [eb]; exact h3 x) (by rw [eb, h2]; decide)
  rfl
end Go.Proofs.Ytpbfibofjkinmaa
