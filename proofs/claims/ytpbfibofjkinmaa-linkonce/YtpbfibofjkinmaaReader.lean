/-
  The reader of pack: what it holds in memory, and what each of its calls answers and leaves. Conditions: at most 2^47 bytes.
-/
import Derived.Test.YtpbfibofjkinmaaWriterCalls
import Derived.ScopeJumps
import Derived.WalkMore
import Derived.Laws.ByValue
set_option linter.unusedSimpArgs false
set_option linter.unusedVariables false
namespace Go.Proofs.Ytpbfibofjkinmaa
open Go.RowKit

/-- A scope in which the run jumps once, forward, to one label. -/
theorem wp_scope_forward {P : Program} {a : Act} {w : World} {Q : Exit → Act → World → Prop} {c rest : Code} (l : Nat) (hf : findLabel c l = some rest)
    (first : c.wp P (Exit.jump l (fun a' w' => rest.wp P (Exit.noGoto Q) a' w') Q) a w) : (Code.scope c).wp P Q a w := by
  refine wp_scope_jumps l _ (fun _ _ => 0) hf first ?_
  intro a' w' hJ
  refine Code.wp_mono ?_ hJ
  intro e a'' w'' h
  cases e <;> first | exact h | exact absurd h (by simp [Exit.noGoto])

/-- The reader at block g has xs left, which lies in block b (or nowhere), and the error er. -/
def Rd (w : World) (g : Nat) (b : Option Nat) (xs : List UInt8) (er : Nat) : Prop :=
  ∃ A n c, w.heap[g]? = some (.cells #[.slice A n c, .int .i64 (er : Int)] 132 (0, 0)) ∧ Hid (xs.length = n) ∧ n ≤ c ∧ n ≤ 140737488355328 ∧ Has w w.heap.size A xs ∧ A.map (·.block) = b ∧ b ≠ some g

theorem rerr_nil (w : World) : Calls Try.prog 90 #[.pointer none] w fun e w' => e = .returned (.int .i64 1) ∧ w = w' := by
  go_enter Try.func90, Try.ntmps90
  go_wp2
  go_ret
  exact ⟨rfl, rfl⟩
theorem rerr_any (g : Nat) (b : Option Nat) (xs : List UInt8) (er : Nat) (w : World) (h : Rd w g b xs er) : Calls Try.prog 90 #[.pointer (some ⟨g, 0, none⟩)] w fun e w' => e = .returned (.int .i64 (er : Int)) ∧ w = w' := by
  obtain ⟨A, n, c, hg, _⟩ := h
  have hc : w.cell? ⟨g, 1, none⟩ = some (.int .i64 (er : Int)) := by simp [World.cell?, hg]
  go_enter Try.func90, Try.ntmps90
  go_wp2
  go_ret
  exact ⟨rfl, rfl⟩
theorem rnum_nil (w : World) : Calls Try.prog 88 #[.pointer none] w fun e w' => e = .returned (.int .u64 0) ∧ w = w' := by
  go_enter Try.func88, Try.ntmps88
  go_wp2
  refine wp_scope_forward 0 rfl ?_
  go_wp2_with fail
  refine (rerr_nil _).mono ?_
  rintro e w' ⟨rfl, rfl⟩
  go_wp2
  go_step3
  refine ⟨rfl, ?_⟩
  go_wp2
  rw [Exit.noGoto_ret]
  go_ret
  exact ⟨rfl, rfl⟩

/-- What a call that reads answers and leaves. -/
def REnds (g : Nat) (b : Option Nat) (v : Value) (ys : List UInt8) (er : Nat) (w : World) (e : Ending) (w' : World) : Prop :=
  e = .returned v ∧ ∃ b', Rd w' g b' ys er ∧ (b' = b ∨ b' = none) ∧ Kept (fun k => k = g) w w'

theorem two_set0 {w : World} {g : Nat} {x y u : Value} {t : TypeId} (h : w.heap[g]? = some (.cells #[x, y] t (0, 0))) : (w.setCell ⟨g, 0, none⟩ u).heap[g]? = some (.cells #[u, y] t (0, 0)) := by
  simp [World.setCell, Array.getElem?_modify, h]
theorem two_set1 {w : World} {g : Nat} {x y u : Value} {t : TypeId} (h : w.heap[g]? = some (.cells #[x, y] t (0, 0))) : (w.setCell ⟨g, 1, none⟩ u).heap[g]? = some (.cells #[x, u] t (0, 0)) := by
  simp [World.setCell, Array.getElem?_modify, h]
theorem two_cell0 {w : World} {g : Nat} {x y : Value} {t : TypeId} (h : w.heap[g]? = some (.cells #[x, y] t (0, 0))) : w.cell? ⟨g, 0, none⟩ = some x := by simp [World.cell?, h]
theorem two_cell1 {w : World} {g : Nat} {x y : Value} {t : TypeId} (h : w.heap[g]? = some (.cells #[x, y] t (0, 0))) : w.cell? ⟨g, 1, none⟩ = some y := by simp [World.cell?, h]
theorem two_free {w : World} {g i : Nat} {x y : Value} {t : TypeId} (h : w.heap[g]? = some (.cells #[x, y] t (0, 0))) : w.frozen? ⟨g, i, none⟩ = false := by simp [World.frozen?, h]

/-- Bytes in other blocks than g stay where only g turns. -/
theorem Has.apart {w w' : World} {B g : Nat} {A : Option Addr} {xs : List UInt8} (h : Has w B A xs) (hB : B ≤ w.heap.size) (hk : Kept (fun k => k = g) w w') (hd : A.map (·.block) ≠ some g) : Has w' B A xs :=
  h.kept hB hk (fun a e _ hf => hd (by rw [e]; simp [hf]))

/-- The reader's end by an error. -/
theorem rfail_any (g : Nat) (x : Value) (k : Nat) (w : World) (hv : w.heap[g]? = some (.cells #[x, .int .i64 0] 132 (0, 0))) :
    Calls Try.prog 89 #[.pointer (some ⟨g, 0, none⟩), .int .i64 (k : Int)] w fun e w' => e = .returned (.tuple #[]) ∧ Rd w' g none [] k ∧ Kept (fun k => k = g) w w' := by
  have c0 := two_cell0 hv
  have c1 := two_cell1 hv
  have f0 := two_free (i := 0) hv
  have f1 := two_free (i := 1) hv
  go_enter Try.func89, Try.ntmps89
  go_wp2
  go_end0
  refine ⟨rfl, ?_, ?_⟩
  · exact ⟨none, 0, 0, two_set1 (two_set0 hv), rfl, Nat.le_refl _, by omega, Has.nil _ _ _, rfl, by simp⟩
  · exact ((Kept.refl (fun k => k = g) w).setCell (p := ⟨g, 0, none⟩) (.inl rfl) _).setCell (p := ⟨g, 1, none⟩) (.inl rfl) _

/-- An error that has come stays. -/
theorem rnum_stuck (g : Nat) (b : Option Nat) (xs : List UInt8) (er : Nat) (w : World) (h : Rd w g b xs er) (he : er ≠ 0) :
    Calls Try.prog 88 #[.pointer (some ⟨g, 0, none⟩)] w fun e w' => e = .returned (.int .u64 0) ∧ w = w' := by
  have HE := hide (rerr_any g b xs er w h)
  have t1 : ((er : Int) != 0) = true := by rw [bne_iff_ne]; omega
  clear h
  go_enter Try.func88, Try.ntmps88
  go_wp2
  refine wp_scope_forward 0 rfl ?_
  go_wp2_with fail
  refine HE.out.mono ?_
  rintro e w' ⟨rfl, rfl⟩
  go_wp2
  go_step3
  refine ⟨rfl, ?_⟩
  go_wp2
  rw [Exit.noGoto_ret]
  go_ret
  exact ⟨rfl, rfl⟩

/-- Nothing is left. -/
theorem rnum_empty (g : Nat) (b : Option Nat) (w : World) (h : Rd w g b [] 0) :
    Calls Try.prog 88 #[.pointer (some ⟨g, 0, none⟩)] w (REnds g b (.int .u64 0) [] 10 w) := by
  have HE := hide (rerr_any g b [] 0 w h)
  obtain ⟨A, n, c, hv, hn, hnc, hcm, hx, hb, hbg⟩ := h
  have c0 := two_cell0 hv
  have HF := hide (rfail_any g _ 10 w hv)
  obtain rfl : 0 = n := hn.out
  go_enter Try.func88, Try.ntmps88
  go_wp2
  refine wp_scope_forward 1 rfl ?_
  go_wp2_with fail
  refine HE.out.mono ?_
  rintro e w' ⟨rfl, rfl⟩
  go_wp2
  go_step3
  refine ⟨rfl, ?_⟩
  go_wp2_with fail
  refine HF.out.mono ?_
  rintro e w' ⟨rfl, hr, hk⟩
  go_wp2
  rw [Exit.noGoto_ret]
  go_ret
  exact ⟨rfl, none, hr, .inr rfl, hk⟩

/-- The first byte is too great. -/
theorem rnum_wide (g : Nat) (b : Option Nat) (ch : UInt8) (t : List UInt8) (w : World) (h : Rd w g b (ch :: t) 0) (h8 : 8 < ch.toNat) :
    Calls Try.prog 88 #[.pointer (some ⟨g, 0, none⟩)] w (REnds g b (.int .u64 0) [] 11 w) := by
  have HE := hide (rerr_any g b _ 0 w h)
  obtain ⟨A, n, c, hv, hn, hnc, hcm, hx, hb, hbg⟩ := h
  have c0 := two_cell0 hv
  have HF := hide (rfail_any g _ 11 w hv)
  obtain ⟨k, rfl⟩ : ∃ k, n = k + 1 := ⟨t.length, by have := hn.out; simp at this; omega⟩
  obtain ⟨b0, o0, rfl, hb0, hc0⟩ := hx 0 (by simp)
  unfold byt at hc0
  simp only [List.getElem_cons_zero, Nat.add_zero] at hc0
  have hch := ch.toNat_lt
  generalize ch.toNat = m at *
  have t1 : decide ((8 : Int) < (m : Int)) = true := by simp; omega
  go_enter Try.func88, Try.ntmps88
  go_wp2
  refine wp_scope_forward 2 rfl ?_
  go_wp2_with fail
  refine HE.out.mono ?_
  rintro e w' ⟨rfl, rfl⟩
  go_wp2
  go_step3
  refine ⟨rfl, ?_⟩
  go_wp2_with fail
  refine HF.out.mono ?_
  rintro e w' ⟨rfl, hr, hk⟩
  go_wp2
  rw [Exit.noGoto_ret]
  go_ret
  exact ⟨rfl, none, hr, .inr rfl, hk⟩

/-- Too few bytes are left. -/
theorem rnum_short (g : Nat) (b : Option Nat) (ch : UInt8) (t : List UInt8) (w : World) (h : Rd w g b (ch :: t) 0) (h8 : ch.toNat ≤ 8) (hs : t.length < ch.toNat) :
    Calls Try.prog 88 #[.pointer (some ⟨g, 0, none⟩)] w (REnds g b (.int .u64 0) [] 10 w) := by
  have HE := hide (rerr_any g b _ 0 w h)
  obtain ⟨A, n, c, hv, hn, hnc, hcm, hx, hb, hbg⟩ := h
  have c0 := two_cell0 hv
  have HF := hide (rfail_any g _ 10 w hv)
  obtain ⟨k, rfl, hk⟩ : ∃ k, n = k + 1 ∧ k = t.length := ⟨t.length, by have := hn.out; simp at this; omega, rfl⟩
  obtain ⟨b0, o0, rfl, hb0, hc0⟩ := hx 0 (by simp)
  unfold byt at hc0
  simp only [List.getElem_cons_zero, Nat.add_zero] at hc0
  generalize ch.toNat = m at *
  have t1 : decide ((8 : Int) < (m : Int)) = false := by simp; omega
  have t2 : decide (k < m) = true := by simp; omega
  have i1 : k < m := by omega
  clear hk hs
  go_enter Try.func88, Try.ntmps88
  go_wp2
  refine wp_scope_forward 1 rfl ?_
  go_wp2_with fail
  refine HE.out.mono ?_
  rintro e w' ⟨rfl, rfl⟩
  go_wp2
  go_step3
  refine ⟨rfl, ?_⟩
  go_wp2_with fail
  refine HF.out.mono ?_
  rintro e w' ⟨rfl, hr, hk⟩
  go_wp2
  rw [Exit.noGoto_ret]
  go_ret
  exact ⟨rfl, none, hr, .inr rfl, hk⟩
end Go.Proofs.Ytpbfibofjkinmaa
