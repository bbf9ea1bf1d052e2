/-
  The reference's Same of package net. Conditions: what is read is in reach.
-/
import Derived.Test.YtpbfibofjkinmaaNetH
import Derived.Deep.RegionWith
set_option linter.unusedSimpArgs false
set_option linter.unusedVariables false
namespace Go.Proofs.Ytpbfibofjkinmaa
open Go.RowKit

/-- What a packet says. -/
def Pkt.key (p : Pkt) : Int × Int × List UInt8 := (p.f, p.t, p.xs)

/-- The slice that begins at A reads as the packets ps; their data lie below B. -/
structure Reads (w : World) (B : Nat) (A : Option Addr) (ps : List Pkt) : Prop where
  row : ∀ i (h : i < ps.length), ∃ g o, A = some ⟨g, o, none⟩ ∧ w.rangeAt g (o + i * 3) ps[i].cells
  dat : ∀ p ∈ ps, Has w B p.A p.xs ∧ p.xs.length = p.n ∧ p.n ≤ 140737488355328

theorem Reads.of {w : World} {base : Nat} {A : Option Addr} {n c : Nat} {ps : List Pkt} {B : Nat} (h : OwnR w base 34 3 (.slice A n c) (ps.map Pkt.cells)) (hd : ∀ p ∈ ps, Has w B p.A p.xs ∧ p.xs.length = p.n ∧ p.n ≤ 140737488355328) : Reads w B A ps ∧ ps.length = n := by
  obtain ⟨A', n', c', e', hn, _, _, hr, _, _⟩ := h.form
  injection e' with e1 e2 e3
  subst e1 e2 e3
  refine ⟨⟨fun i hi => ?_, hd⟩, by have := hn.out; simpa using this⟩
  obtain ⟨g, e, hra, _, _⟩ := hr i (by simpa using hi)
  exact ⟨g, 0, e, by have h1 := hra; simp only [List.getElem_map] at h1; rw [Nat.zero_add]; exact h1⟩
theorem Reads.drewN {w : World} {B : Nat} {A : Option Addr} {ps : List Pkt} (h : Reads w B A ps) (m : Nat) : Reads (w.drewN m) B A ps := ⟨fun i hi => h.row i hi, fun p hp => h.dat p hp⟩

theorem key_take {ps qs : List Pkt} {j : Nat} (h : ∀ i p q, i < j → ps[i]? = some p → qs[i]? = some q → p.key = q.key) (hl : ps.length = qs.length) (hj : j = ps.length) : ps.map Pkt.key = qs.map Pkt.key := by
  apply List.ext_getElem
  · simpa using hl
  · intro i h1 h2
    simp at h1 h2 ⊢
    exact h i _ _ (by omega) (List.getElem?_eq_getElem h1) (List.getElem?_eq_getElem h2)
theorem key_ne {ps qs : List Pkt} {j : Nat} {p q : Pkt} (hp : ps[j]? = some p) (hq : qs[j]? = some q) (h : p.key ≠ q.key) : ps.map Pkt.key ≠ qs.map Pkt.key := fun e => by
  have h1 : (ps.map Pkt.key)[j]? = (qs.map Pkt.key)[j]? := by rw [e]
  rw [List.getElem?_map, List.getElem?_map, hp, hq] at h1
  exact h (by simpa using h1)

def NSameEnds (ps qs : List Pkt) (w : World) (e : Ending) (w' : World) : Prop := e = .returned (.bool (decide (ps.map Pkt.key = qs.map Pkt.key))) ∧ ∃ m, w.drewN m = w'

set_option maxHeartbeats 1600000 in
set_option maxRecDepth 20000 in
theorem nrsame_any (A A' : Option Addr) (n n' c c' B : Nat) (ps qs : List Pkt) (w : World) (hA : Reads w B A ps) (hA' : Reads w B A' qs) (hn : ps.length = n) (hn' : qs.length = n') (hl : n ≤ 1024) :
    Calls Try.prog 26 #[.slice A n c, .slice A' n' c'] w (NSameEnds ps qs w) := by
  have HN := hide hn
  have HN' := hide hn'
  clear hn hn'
  by_cases hnn : n = n'
  · subst hnn
    go_enter Try.func26, Try.ntmps26
    go_wp2
    go_loopw [5, 13] (fun _ i wr => ∃ j : Nat, j ≤ n ∧ i = .int .i64 (j : Int) ∧ Hid (∀ i p q, i < j → ps[i]? = some p → qs[i]? = some q → p.key = q.key) ∧ ∃ m, Hid (w.drewN m = wr)) (fun _ i _ => n - (intOf i).toNat)
    case atStart => exact ⟨0, by omega, rfl, hide (fun i p q h => by omega), 0, rfl⟩
    case round =>
      obtain ⟨j, hj, rfl, hal, m, hm⟩ := hrel
      have hAr : Reads wr B A ps := by rw [← hm.out]; exact hA.drewN m
      have hAr' : Reads wr B A' qs := by rw [← hm.out]; exact hA'.drewN m
      by_cases hlt : j < n
      · have h1 : j < ps.length := by rw [HN.out]; exact hlt
        have h2 : j < qs.length := by rw [HN'.out]; exact hlt
        have p1 : ps[j]? = some ps[j] := List.getElem?_eq_getElem h1
        have p2 : qs[j]? = some qs[j] := List.getElem?_eq_getElem h2
        obtain ⟨g, o, rfl, hra⟩ := hAr.row j h1
        obtain ⟨g', o', rfl, hra'⟩ := hAr'.row j h2
        obtain ⟨hx, hxn, hxl⟩ := hAr.dat ps[j] (List.getElem_mem h1)
        obtain ⟨hy, hyn, _⟩ := hAr'.dat qs[j] (List.getElem_mem h2)
        generalize ps[j] = p at *
        generalize qs[j] = q at *
        obtain ⟨pf, pt, pA, pn, pc, px⟩ := p
        obtain ⟨qf, qt, qA, qn, qc, qx⟩ := q
        simp only at hx hxn hxl hy hyn
        have r0 := hra 0 _ rfl
        have r1 := hra 1 _ rfl
        have r2 := hra 2 _ rfl
        have s0 := hra' 0 _ rfl
        have s1 := hra' 1 _ rfl
        have s2 := hra' 2 _ rfl
        simp only [Nat.add_zero] at r0 s0
        have hi : (j : Int) < (n : Int) := by omega
        have P1 := hide p1
        have P2 := hide p2
        have HS : Hid (∀ W, Has W B pA px → Has W B qA qx → Calls Try.prog 33 #[.slice pA pn pc, .slice qA qn qc] W (SameEnds px qx W)) := hide (fun W a b => same_any pA qA pn qn pc qc B B px qx W a b hxn hyn hxl)
        clear hra hra' p1 p2 h1 h2 hA hA' hAr hAr' hxn hyn hxl
        by_cases e1 : pf = qf
        · by_cases e2 : pt = qt
          · subst e1 e2
            by_cases e3 : px = qx
            · have HQ : Hid (∀ nq, Calls Try.prog 33 #[.slice pA pn pc, .slice qA qn qc] (wr.drewN nq) fun e w'' => e = .returned (.bool true) ∧ ∃ m', w'' = wr.drewN m') := hide (fun nq => Calls.quiet_of ((HS.out _ (hx.drewN nq) (hy.drewN nq)).mono fun e w' h => by
                obtain ⟨he, m', hm'⟩ := h
                exact ⟨by rw [he, decide_eq_true e3], m', hm'.symm⟩))
              have HE := hide e3
              clear e3 HS hx hy
              go_wp2_with fail
              go_quiet ((go_at_call 33; exact HQ.out _))
              go_wp2_with fail
              go_roundw
              case rel =>
                refine ⟨j + 1, by omega, by go_num, hide fun i p' q' hi hp' hq' => ?_, m + nq, hide (by rw [← hm.out]; exact (World.drewN_drewN _ _ _).symm)⟩
                rcases Nat.lt_or_ge i j with h1 | h1
                · exact hal.out i p' q' h1 hp' hq'
                · obtain rfl : i = j := by omega
                  rw [P1.out] at hp'
                  rw [P2.out] at hq'
                  injection hp' with hp'
                  injection hq' with hq'
                  subst hp' hq'
                  simp only [Pkt.key, HE.out]
              case measure => simp [intOf]; omega
            · have HQ : Hid (∀ nq, Calls Try.prog 33 #[.slice pA pn pc, .slice qA qn qc] (wr.drewN nq) fun e w'' => e = .returned (.bool false) ∧ ∃ m', w'' = wr.drewN m') := hide (fun nq => Calls.quiet_of ((HS.out _ (hx.drewN nq) (hy.drewN nq)).mono fun e w' h => by
                obtain ⟨he, m', hm'⟩ := h
                exact ⟨by rw [he, decide_eq_false e3], m', hm'.symm⟩))
              have HK := hide (key_ne P1.out P2.out (fun h => by injection h with a b; injection b with _ b; exact e3 b))
              clear e3 HS hx hy
              go_wp2_with fail
              go_quiet ((go_at_call 33; exact HQ.out _))
              go_wp2
              go_ret
              exact ⟨by rw [decide_eq_false HK.out]; rfl, m + nq, by rw [← hm.out]; exact (World.drewN_drewN _ _ _).symm⟩
          · have t2 : (pt != qt) = true := by simpa using e2
            have HK := hide (key_ne P1.out P2.out (fun h => by injection h with a b; injection b with b _; exact e2 b))
            subst e1
            clear e2
            go_wp2_with fail
            go_quiet (fail)
            go_wp2
            go_ret
            exact ⟨by rw [decide_eq_false HK.out]; rfl, m + nq, by rw [← hm.out]; exact (World.drewN_drewN _ _ _).symm⟩
        · have t1 : (pf != qf) = true := by simpa using e1
          have HK := hide (key_ne P1.out P2.out (fun h => by injection h with a _; exact e1 a))
          clear e1
          go_wp2_with fail
          go_quiet (fail)
          go_wp2
          go_ret
          exact ⟨by rw [decide_eq_false HK.out]; rfl, m + nq, by rw [← hm.out]; exact (World.drewN_drewN _ _ _).symm⟩
      · obtain rfl : j = n := by omega
        have HK := hide (key_take hal.out (by rw [HN.out, HN'.out]) HN.out.symm)
        go_wp2
        go_ret
        exact ⟨by rw [decide_eq_true HK.out]; rfl, m, hm.out⟩
  · have hd : ((n : Int) != (n' : Int)) = true := by simp; omega
    have HK := hide (show ¬ ps.map Pkt.key = qs.map Pkt.key from fun e => hnn (by rw [← HN.out, ← HN'.out]; simpa using congrArg List.length e))
    clear hnn
    go_enter Try.func26, Try.ntmps26
    go_wp2
    go_ret
    exact ⟨by rw [decide_eq_false HK.out]; rfl, 0, rfl⟩
end Go.Proofs.Ytpbfibofjkinmaa
