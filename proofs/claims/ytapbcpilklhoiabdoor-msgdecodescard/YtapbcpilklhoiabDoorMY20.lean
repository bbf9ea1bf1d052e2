/-
  CheckVotes of the reference. Conditions: what is read is in reach.
  What the reference asks of a message's plain fields, against what the package asks. No condition.
  Uses and has of the reference. No condition.
-/
import Derived.Test.YtapbcpilklhoiabDoorMY14
import Derived.Test.YtapbcpilklhoiabDoorMY11
import Derived.Test.YtapbcpilklhoiabDoorMY9
import Derived.BigQuiet
import Derived.Deep.DeepCutAuto
import Derived.Deep.Cut
set_option linter.unusedSimpArgs false
set_option linter.unusedVariables false

namespace Go.Proofs.YtapbcpilklhoiabDoor
open Go.RowKit

def usS : List (List UInt8) := [[], [98, 115], [98, 115, 108, 111], [98], [98, 115, 118], [98, 115, 118], [98, 115, 116], [98, 116], [115], [115, 118], [115, 108, 100], [115, 108], [115, 108, 100], [99], [99, 114]]
/-- The letters of what a kind uses. -/
def usOf (k : Int) : List UInt8 := if 1 ≤ k ∧ k ≤ 14 then usS.getD k.toNat [] else []
/-- A text. -/
def str (s : List UInt8) : Value := .string ⟨s.toArray⟩
def usA : Array Value := #[.string ⟨#[]⟩, .string ⟨#[98, 115]⟩, .string ⟨#[98, 115, 108, 111]⟩, .string ⟨#[98]⟩, .string ⟨#[98, 115, 118]⟩, .string ⟨#[98, 115, 118]⟩, .string ⟨#[98, 115, 116]⟩, .string ⟨#[98, 116]⟩, .string ⟨#[115]⟩, .string ⟨#[115, 118]⟩, .string ⟨#[115, 108, 100]⟩, .string ⟨#[115, 108]⟩, .string ⟨#[115, 108, 100]⟩, .string ⟨#[99]⟩, .string ⟨#[99, 114]⟩]
theorem usA_get : ∀ j : Nat, j < 15 → usA[j]? = some (str (usS.getD j [])) := by
  intro j hj
  match j, hj with
  | 0, _ | 1, _ | 2, _ | 3, _ | 4, _ | 5, _ | 6, _ | 7, _ | 8, _ | 9, _ | 10, _ | 11, _ | 12, _ | 13, _ | 14, _ => rfl

theorem ruses_any (k : Int) (w : World) : Calls Tryd.prog 20 #[.int .i64 k] w fun e w' => e = .returned (str (usOf k)) ∧ Below w.heap.size w w' := by
  by_cases h1 : 1 ≤ k
  · by_cases h2 : k ≤ 14
    · obtain ⟨j, rfl⟩ : ∃ j : Nat, k = (j : Int) := ⟨k.toNat, by omega⟩
      have HE : Hid (usOf (j : Int) = usS.getD j []) := hide (by unfold usOf; rw [if_pos ⟨h1, h2⟩]; simp)
      have hc : (w.alloc (.cells #[.string ⟨#[]⟩, .string ⟨#[98, 115]⟩, .string ⟨#[98, 115, 108, 111]⟩, .string ⟨#[98]⟩, .string ⟨#[98, 115, 118]⟩, .string ⟨#[98, 115, 118]⟩, .string ⟨#[98, 115, 116]⟩, .string ⟨#[98, 116]⟩, .string ⟨#[115]⟩, .string ⟨#[115, 118]⟩, .string ⟨#[115, 108, 100]⟩, .string ⟨#[115, 108]⟩, .string ⟨#[115, 108, 100]⟩, .string ⟨#[99]⟩, .string ⟨#[99, 114]⟩] 9)).cell? ⟨w.heap.size, j, none⟩ = some (str (usS.getD j [])) := (cell_of_row _ _ _ _ _ _ (heap_alloc_new w (.cells #[.string ⟨#[]⟩, .string ⟨#[98, 115]⟩, .string ⟨#[98, 115, 108, 111]⟩, .string ⟨#[98]⟩, .string ⟨#[98, 115, 118]⟩, .string ⟨#[98, 115, 118]⟩, .string ⟨#[98, 115, 116]⟩, .string ⟨#[98, 116]⟩, .string ⟨#[115]⟩, .string ⟨#[115, 118]⟩, .string ⟨#[115, 108, 100]⟩, .string ⟨#[115, 108]⟩, .string ⟨#[115, 108, 100]⟩, .string ⟨#[99]⟩, .string ⟨#[99, 114]⟩] 9))).trans (usA_get j (by omega))
      have b0 : Below w.heap.size w (w.alloc (.cells #[.string ⟨#[]⟩, .string ⟨#[98, 115]⟩, .string ⟨#[98, 115, 108, 111]⟩, .string ⟨#[98]⟩, .string ⟨#[98, 115, 118]⟩, .string ⟨#[98, 115, 118]⟩, .string ⟨#[98, 115, 116]⟩, .string ⟨#[98, 116]⟩, .string ⟨#[115]⟩, .string ⟨#[115, 118]⟩, .string ⟨#[115, 108, 100]⟩, .string ⟨#[115, 108]⟩, .string ⟨#[115, 108, 100]⟩, .string ⟨#[99]⟩, .string ⟨#[99, 114]⟩] 9)) := by go_grown
      unfold str at *
      generalize usS.getD j [] = s at *
      go_enter Tryd.func20, Tryd.ntmps20
      go_upto_region 2 with fail
      generalize w.alloc (.cells #[.string ⟨#[]⟩, .string ⟨#[98, 115]⟩, .string ⟨#[98, 115, 108, 111]⟩, .string ⟨#[98]⟩, .string ⟨#[98, 115, 118]⟩, .string ⟨#[98, 115, 118]⟩, .string ⟨#[98, 115, 116]⟩, .string ⟨#[98, 116]⟩, .string ⟨#[115]⟩, .string ⟨#[115, 118]⟩, .string ⟨#[115, 108, 100]⟩, .string ⟨#[115, 108]⟩, .string ⟨#[115, 108, 100]⟩, .string ⟨#[99]⟩, .string ⟨#[99, 114]⟩] 9) = w0 at *
      go_wp2
      go_ret
      exact ⟨by rw [HE.out]; rfl, b0⟩
    · have HE : Hid (usOf k = []) := hide (if_neg (fun h => h2 h.2))
      go_enter Tryd.func20, Tryd.ntmps20
      go_wp2
      go_ret
      exact ⟨by rw [HE.out]; rfl, by go_grown⟩
  · have HE : Hid (usOf k = []) := hide (if_neg (fun h => h1 h.1))
    go_enter Tryd.func20, Tryd.ntmps20
    go_wp2
    go_ret
    exact ⟨by rw [HE.out]; rfl, by go_grown⟩

theorem str_at (s : List UInt8) (j : Nat) (h : j < s.length) (w : World) : (Instr.index 9 (str s) (.int .i64 (j : Int))).run Tryd.prog w = .ok (.int .u8 ((s[j]).toNat : Int)) w := by
  have hs : (⟨s.toArray⟩ : ByteArray).size = s.length := by simp [ByteArray.size]
  unfold str
  rw [run_index_string w 9 ⟨s.toArray⟩ .i64 (j : Int) Tryd.underlying9, dif_pos ⟨by omega, by rw [hs]; omega⟩]
  congr 3

theorem rhasc_any (s : List UInt8) (c : UInt8) (w : World) (hl : s.length ≤ 1000000) : Calls Tryd.prog 24 #[str s, .int .u8 (c.toNat : Int)] w fun e w' => e = .returned (.bool (s.contains c)) ∧ w = w' := by
  have hs : (⟨s.toArray⟩ : ByteArray).size = s.length := by simp [ByteArray.size]
  unfold str
  go_enter Tryd.func24, Tryd.ntmps24
  go_wp2_with fail
  go_loopw [5] (fun i wr => ∃ j : Nat, j ≤ s.length ∧ i = .int .i64 j ∧ Hid (c ∉ s.take j) ∧ w = wr) (fun i _ => s.length - (intOf i).toNat)
  case atStart => exact ⟨0, Nat.zero_le _, rfl, hide (by simp), rfl⟩
  case round =>
    obtain ⟨j, hj, rfl, HC, rfl⟩ := hrel
    by_cases hlt : j < s.length
    · have ka := fun W => str_at s j hlt W
      unfold str at ka
      have HTK : Hid (s.take (j + 1) = s.take j ++ [s[j]]) := hide (List.take_succ_eq_append_getElem hlt)
      have HMEM : Hid (s[j] ∈ s) := hide (List.getElem_mem hlt)
      generalize s[j] = x at *
      by_cases hx : x = c
      · have HE : Hid (s.contains c = true) := hide (by rw [List.contains_iff_mem, ← hx]; exact HMEM.out)
        subst hx
        go_wp2
        go_ret
        exact ⟨by rw [HE.out]; rfl, rfl⟩
      · have t0 : ((x.toNat : Int) == (c.toNat : Int)) = false := by
          rw [beq_eq_false_iff_ne]
          intro e
          exact hx (UInt8.toNat_inj.1 (by omega))
        have HN : Hid (c ∉ s.take (j + 1)) := hide (by
          rw [HTK.out, List.mem_append, List.mem_singleton]
          rintro (h | h)
          · exact HC.out h
          · exact hx h.symm)
        go_wp2_with fail
        go_roundw
        case rel => exact ⟨j + 1, by omega, by go_num, HN, trivial⟩
        case measure => simp [intOf]; omega
    · obtain rfl : j = s.length := by omega
      have HE : Hid (s.contains c = false) := hide (by
        have h1 := HC.out
        rw [List.take_length] at h1
        rw [Bool.eq_false_iff, ne_eq, List.contains_iff_mem]
        exact h1)
      go_wp2
      go_ret
      exact ⟨by rw [HE.out]; rfl, rfl⟩
end Go.Proofs.YtapbcpilklhoiabDoor

namespace Go.Proofs.YtapbcpilklhoiabDoor
open Go.RowKit

def letters : List (UInt8 × Int) := [(98, 2), (115, 4), (108, 16), (116, 32), (118, 64), (111, 128), (99, 256), (114, 512), (100, 1024)]
theorem us_bits : (List.range 15).all (fun k => letters.all fun x => usedT (k : Int) == 0 || ((usOf (k : Int)).contains x.1 == ut (usedT (k : Int)) x.2)) = true := by decide +kernel
theorem us_bit {k : Int} (h : usedT k ≠ 0) (c : UInt8) (f : Int) (hm : (c, f) ∈ letters) : (usOf k).contains c = ut (usedT k) f := by
  have hk := used_in h
  have hh := List.all_eq_true.1 (List.all_eq_true.1 us_bits k.toNat (List.mem_range.2 (by omega))) (c, f) hm
  rw [Int.toNat_of_nonneg hk.1, Bool.or_eq_true] at hh
  rcases hh with h1 | h1
  · exact absurd (eq_of_beq h1) h
  · exact eq_of_beq h1
theorem us_nil_all : (List.range 15).all (fun k => (usedT (k : Int) == 0) == (usOf (k : Int)).isEmpty) = true := by decide +kernel
theorem us_nil (k : Int) : (usOf k).isEmpty = (usedT k == 0) := by
  by_cases hk : 0 ≤ k ∧ k ≤ 14
  · have hh := List.all_eq_true.1 us_nil_all k.toNat (List.mem_range.2 (by omega))
    rw [Int.toNat_of_nonneg hk.1] at hh
    exact (eq_of_beq hh).symm
  · have e1 : usedT k = 0 := by unfold usedT; rw [if_neg hk]
    have e2 : usOf k = [] := by unfold usOf; rw [if_neg (by omega)]
    rw [e1, e2]
    rfl
def oneK (k : Int) : Bool := k == 1 || (k == 2 || (k == 4 || (k == 5 || (k == 8 || k == 9))))
theorem one_all : (List.range 15).all (fun k => oneK (k : Int) == (lsOf (usedT (k : Int)) == 1)) = true := by decide +kernel
theorem one_ls {k : Int} (h : usedT k ≠ 0) : oneK k = (lsOf (usedT k) == 1) := by
  have hk := used_in h
  have hh := List.all_eq_true.1 one_all k.toNat (List.mem_range.2 (by omega))
  rw [Int.toNat_of_nonneg hk.1] at hh
  exact eq_of_beq hh

/-- The plain fields are right. -/
def PlP (m : Msgv) : Prop := usedT m.kd ≠ 0 ∧ (0 ≤ m.fr ∧ m.fr ≤ 9 ∧ 0 ≤ m.tt ∧ m.tt ≤ 9 ∧ 0 ≤ m.ep ∧ m.ep ≤ 1099511627776) ∧
  ((ut (usedT m.kd) 2 = false → [m.br, m.bn] = [0, 0]) ∧ (ut (usedT m.kd) 4 = false → m.sl = 0) ∧ (ut (usedT m.kd) 16 = false → m.lw = 0) ∧ (ut (usedT m.kd) 32 = false → m.tm = 0)) ∧
  ((ut (usedT m.kd) 64 = false → sameV m.v.k m.v.cs m.v.ns 0 [] [] = true) ∧ (ut (usedT m.kd) 128 = false → m.vn = 0) ∧ (ut (usedT m.kd) 256 = false → eqC m.cm zeroC = true)) ∧
  ((ut (usedT m.kd) 512 = false → [m.rk, m.rr, m.ri] = [0, 0, 0]) ∧ (ut (usedT m.kd) 1024 = false → m.dn = 0) ∧ m.dn ≤ 1024) ∧
  (0 ≤ m.sl ∧ m.sl ≤ 1099511627776 ∧ 0 ≤ m.lw ∧ m.lw ≤ 1099511627776 ∧ 0 ≤ m.tm ∧ m.tm ≤ 1099511627776) ∧ (oneK m.kd = true → 1 ≤ m.sl)
instance (m : Msgv) : Decidable (PlP m) := by unfold PlP; infer_instance
def plB (m : Msgv) : Bool := decide (PlP m)

def fchk2 (k : Nat) : Bool := bools.all fun b1 => bools.all fun b2 => bools.all fun b3 => bools.all fun b4 => bools.all fun b5 => bools.all fun b6 => bools.all fun b7 => bools.all fun b8 => bools.all fun b9 => (bits .andNot .i64 (filB b1 b2 b3 b4 b5 b6 b7 b8 b9) (usedT (k : Int)) == 0) || !((!b1 || ut (usedT (k : Int)) 2) && (!b2 || ut (usedT (k : Int)) 4) && (!b3 || ut (usedT (k : Int)) 16) && (!b4 || ut (usedT (k : Int)) 32) && (!b5 || ut (usedT (k : Int)) 64) && (!b6 || ut (usedT (k : Int)) 128) && (!b7 || ut (usedT (k : Int)) 256) && (!b8 || ut (usedT (k : Int)) 512) && (!b9 || ut (usedT (k : Int)) 1024))
theorem fil_all2 : (List.range 15).all fchk2 = true := by decide +kernel
theorem fil_conv (k : Nat) (hk : k < 15) (b1 b2 b3 b4 b5 b6 b7 b8 b9 : Bool) (h1 : b1 = true → ut (usedT (k : Int)) 2 = true) (h2 : b2 = true → ut (usedT (k : Int)) 4 = true) (h3 : b3 = true → ut (usedT (k : Int)) 16 = true) (h4 : b4 = true → ut (usedT (k : Int)) 32 = true) (h5 : b5 = true → ut (usedT (k : Int)) 64 = true) (h6 : b6 = true → ut (usedT (k : Int)) 128 = true) (h7 : b7 = true → ut (usedT (k : Int)) 256 = true) (h8 : b8 = true → ut (usedT (k : Int)) 512 = true) (h9 : b9 = true → ut (usedT (k : Int)) 1024 = true) :
    bits .andNot .i64 (filB b1 b2 b3 b4 b5 b6 b7 b8 b9) (usedT (k : Int)) = 0 := by
  have hh := List.all_eq_true.1 fil_all2 k (List.mem_range.2 hk)
  unfold fchk2 at hh
  replace hh := List.all_eq_true.1 hh b1 (bools_mem b1)
  replace hh := List.all_eq_true.1 hh b2 (bools_mem b2)
  replace hh := List.all_eq_true.1 hh b3 (bools_mem b3)
  replace hh := List.all_eq_true.1 hh b4 (bools_mem b4)
  replace hh := List.all_eq_true.1 hh b5 (bools_mem b5)
  replace hh := List.all_eq_true.1 hh b6 (bools_mem b6)
  replace hh := List.all_eq_true.1 hh b7 (bools_mem b7)
  replace hh := List.all_eq_true.1 hh b8 (bools_mem b8)
  replace hh := List.all_eq_true.1 hh b9 (bools_mem b9)
  have im : ∀ {b c : Bool}, (b = true → c = true) → (!b || c) = true := fun {b c} h => by cases b with | false => rfl | true => rw [h rfl]; rfl
  rw [im h1, im h2, im h3, im h4, im h5, im h6, im h7, im h8, im h9] at hh
  simpa using hh

/-- The tests of Check ahead of the ballot's. -/
theorem chk_pl (m : Msgv) : ((usedT m.kd == 0) = false ∧ (bits .andNot .i64 (filV m) (usedT m.kd) != 0) = false ∧ bndB m (lsOf (usedT m.kd)) = true) ↔ PlP m := by
  by_cases hu : usedT m.kd = 0
  · exact ⟨fun h => absurd hu (by simpa using h.1), fun h => absurd hu h.1⟩
  have hk := used_in hu
  have hkk : ((m.kd.toNat : Nat) : Int) = m.kd := by omega
  have nt : ∀ {b c : Bool}, (b = true → c = true) → c = false → b = false := fun {b c} h hc => by cases b with | false => rfl | true => rw [h rfl] at hc; exact hc
  have tn : ∀ {b c : Bool}, (c = false → b = false) → b = true → c = true := fun {b c} h hb => by cases c with | true => rfl | false => rw [h rfl] at hb; exact hb
  have hls : lsOf (usedT m.kd) = 0 ∨ lsOf (usedT m.kd) = 1 := by unfold lsOf; split <;> simp
  have hone := one_ls hu
  constructor
  · rintro ⟨_, hf, hb⟩
    have hf0 : bits .andNot .i64 (filV m) (usedT m.kd) = 0 := by simpa using hf
    have hF := fil_used m.kd.toNat (by omega) (!decide (m.br = 0) || !decide (m.bn = 0)) (m.sl != 0) (m.lw != 0) (m.tm != 0) (!sameV m.v.k m.v.cs m.v.ns 0 [] []) (decide (0 < m.vn)) (!eqC m.cm zeroC) (!decide (m.rk = 0) || (!decide (m.rr = 0) || !decide (m.ri = 0))) (decide (0 < m.dn)) (by rw [hkk]; exact hf0)
    rw [hkk] at hF
    obtain ⟨f1, f2, f3, f4, f5, f6, f7, f8, f9⟩ := hF
    unfold bndB insB at hb
    simp only [Bool.and_eq_true, decide_eq_true_eq] at hb
    obtain ⟨⟨⟨⟨⟨⟨q1, q2⟩, q3⟩, q4⟩, q5⟩, q6⟩, q7⟩ := hb
    refine ⟨hu, ⟨q1.1, q1.2, q2.1, q2.2, q3.1, q3.2⟩, ⟨fun e => ?_, fun e => ?_, fun e => ?_, fun e => ?_⟩, ⟨fun e => ?_, fun e => ?_, fun e => ?_⟩, ⟨fun e => ?_, fun e => ?_, q7⟩, ⟨by omega, q4.2, q5.1, q5.2, q6.1, q6.2⟩, fun e => ?_⟩
    · have := nt f1 e; simp at this; rw [this.1, this.2]
    · have := nt f2 e; simpa using this
    · have := nt f3 e; simpa using this
    · have := nt f4 e; simpa using this
    · have := nt f5 e; simpa using this
    · have := nt f6 e; simpa using this
    · have := nt f7 e; simpa using this
    · have := nt f8 e; simp at this; rw [this.1, this.2.1, this.2.2]
    · have := nt f9 e; simpa using this
    · rw [hone] at e
      have : lsOf (usedT m.kd) = 1 := by simpa using e
      omega
  · rintro ⟨_, hb1, ⟨z1, z2, z3, z4⟩, ⟨z5, z6, z7⟩, ⟨z8, z9, hd⟩, hb2, ho⟩
    refine ⟨by simpa using hu, ?_, ?_⟩
    · have e := fil_conv m.kd.toNat (by omega) (!decide (m.br = 0) || !decide (m.bn = 0)) (m.sl != 0) (m.lw != 0) (m.tm != 0) (!sameV m.v.k m.v.cs m.v.ns 0 [] []) (decide (0 < m.vn)) (!eqC m.cm zeroC) (!decide (m.rk = 0) || (!decide (m.rr = 0) || !decide (m.ri = 0))) (decide (0 < m.dn))
        (by rw [hkk]; exact tn fun e => by have := z1 e; simp at this; simp [this]) (by rw [hkk]; exact tn fun e => by have := z2 e; simp [this]) (by rw [hkk]; exact tn fun e => by have := z3 e; simp [this]) (by rw [hkk]; exact tn fun e => by have := z4 e; simp [this])
        (by rw [hkk]; exact tn fun e => by rw [z5 e]; rfl) (by rw [hkk]; exact tn fun e => by have := z6 e; simp [this]) (by rw [hkk]; exact tn fun e => by rw [z7 e]; rfl) (by rw [hkk]; exact tn fun e => by have := z8 e; simp at this; simp [this]) (by rw [hkk]; exact tn fun e => by have := z9 e; simp [this])
      rw [hkk] at e
      have e' : bits .andNot .i64 (filV m) (usedT m.kd) = 0 := e
      rw [e']
      rfl
    · unfold bndB insB
      simp only [Bool.and_eq_true, decide_eq_true_eq]
      refine ⟨⟨⟨⟨⟨⟨⟨hb1.1, hb1.2.1⟩, hb1.2.2.1, hb1.2.2.2.1⟩, hb1.2.2.2.2.1, hb1.2.2.2.2.2⟩, ?_, hb2.2.1⟩, hb2.2.2.1, hb2.2.2.2.1⟩, hb2.2.2.2.2.1, hb2.2.2.2.2.2⟩, hd⟩
      rcases hls with e | e
      · omega
      · have := ho (by rw [hone, e]; rfl)
        omega
end Go.Proofs.YtapbcpilklhoiabDoor

namespace Go.Proofs.YtapbcpilklhoiabDoor
open Go.RowKit

theorem rbvalid_any (a b : Int) (w : World) : Calls Tryd.prog 25 #[.agg #[.int .i64 a, .int .i64 b]] w fun e w' => e = .returned (.bool (valB a b)) ∧ Below w.heap.size w w' := by
  by_cases h1 : 0 < a
  · by_cases h2 : a ≤ 1099511627776
    · by_cases h3 : 0 < b
      · by_cases h4 : b ≤ 9
        · have HE : Hid (valB a b = true) := hide (decide_eq_true (by omega))
          go_enter Tryd.func25, Tryd.ntmps25
          go_wp2
          go_ret
          exact ⟨by rw [HE.out]; rfl, by go_grown⟩
        · have HE : Hid (valB a b = false) := hide (decide_eq_false (by omega))
          go_enter Tryd.func25, Tryd.ntmps25
          go_wp2
          go_ret
          exact ⟨by rw [HE.out]; rfl, by go_grown⟩
      · have HE : Hid (valB a b = false) := hide (decide_eq_false (by omega))
        go_enter Tryd.func25, Tryd.ntmps25
        go_wp2
        go_ret
        exact ⟨by rw [HE.out]; rfl, by go_grown⟩
    · have HE : Hid (valB a b = false) := hide (decide_eq_false (by omega))
      go_enter Tryd.func25, Tryd.ntmps25
      go_wp2
      go_ret
      exact ⟨by rw [HE.out]; rfl, by go_grown⟩
  · have HE : Hid (valB a b = false) := hide (decide_eq_false (by omega))
    go_enter Tryd.func25, Tryd.ntmps25
    go_wp2
    go_ret
    exact ⟨by rw [HE.out]; rfl, by go_grown⟩

def FromOk (vs : List Votev) (f : Int) (j : Nat) (f' : Int) : Prop := f ≤ f' ∧ (j = 0 → f' = f) ∧ (∀ i (h : i < vs.length), j = i + 1 → f' = vs[i].sl + 1)
theorem chkVt_ins {v : Votev} {f : Int} (h : insB v.sl f 1099511627776 = false) : chkVt v f = 26 := by unfold chkVt; rw [if_neg (by rw [h]; simp)]
theorem insB_false {n lo hi : Int} (h : n < lo ∨ hi < n) : insB n lo hi = false := decide_eq_false (by omega)
theorem insB_true {n lo hi : Int} (h1 : lo ≤ n) (h2 : n ≤ hi) : insB n lo hi = true := decide_eq_true ⟨h1, h2⟩

set_option maxHeartbeats 3200000 in
theorem rcheckvotes_any (A : Option Addr) (n c B : Nat) (vs : List Votev) (f : Int) (w : World) (hV : HasVt w B A vs) (hB : B ≤ w.heap.size) (hn : vs.length = n) :
    Calls Tryd.prog 27 #[.slice A n c, .int .i64 f] w fun e w' => e = .returned (.int .i64 (chkVotes vs f)) ∧ Below w.heap.size w w' := by
  have HN := hide hn
  clear hn
  by_cases h64 : n ≤ 64
  · have HE : Hid (chkVotes vs f = chkVts vs f) := hide (by unfold chkVotes; rw [if_pos (by rw [HN.out]; exact h64)])
    have HVV : Hid (∀ W, Below w.heap.size w W → HasVt W B A vs) := hide (fun W h => hV.below (h.mono hB))
    clear hV
    have t1 : decide ((64 : Int) < (n : Int)) = false := by simp; omega
    have t2 : decide (64 < n) = false := by simp; omega
    go_enter Tryd.func27, Tryd.ntmps27
    go_wp2_with fail
    clear t1 t2
    go_loopw [12] (fun i wr => ∃ (j : Nat) (f' : Int), j ≤ n ∧ i = .int .i64 j ∧ Hid (FromOk vs f j f') ∧ Hid (chkVts vs f = chkVts (vs.drop j) f') ∧ Below w.heap.size w wr) (fun i _ => n - (intOf i).toNat)
    case atStart => exact ⟨0, f, Nat.zero_le _, rfl, hide ⟨Int.le_refl _, fun _ => rfl, fun i _ h => by omega⟩, hide rfl, Below.refl _ _⟩
    case round =>
      obtain ⟨j, f', hj, rfl, hfr, hcs, hbr⟩ := hrel
      by_cases hlt : j < n
      · have hlt' : j < vs.length := by rw [HN.out]; exact hlt
        have hcl := HVV.out _ hbr j hlt'
        have hok : Hid (chkVt vs[j] f' = 0 → chkVts vs f = chkVts (vs.drop (j + 1)) (vs[j].sl + 1) ∧ FromOk vs f (j + 1) (vs[j].sl + 1)) := hide (fun h => ⟨hcs.out.trans (chkVts_ok hlt' h), by
          have hin : insB vs[j].sl f' 1099511627776 = true := by
            cases e : insB vs[j].sl f' 1099511627776 with
            | true => rfl
            | false => rw [chkVt_ins e] at h; omega
          have hin' : f' ≤ vs[j].sl ∧ vs[j].sl ≤ 1099511627776 := of_decide_eq_true hin
          have := hfr.out.1
          exact ⟨by omega, by omega, fun i hi e => by obtain rfl : i = j := by omega
                                                      rfl⟩⟩)
        have hbad : Hid (chkVt vs[j] f' ≠ 0 → chkVts vs f = chkVt vs[j] f') := hide (fun h => hcs.out.trans (chkVts_bad hlt' h))
        have hpv : Hid (∀ i, j = i + 1 → ∃ b o x, A = some ⟨b, o, none⟩ ∧ wr.cell? ⟨b, o + i * 6, none⟩ = some (.int .i64 x) ∧ f' = x + 1) := hide (fun i e => by
          obtain ⟨⟨b, o, hA, _, h0, _⟩, _⟩ := HVV.out _ hbr i (by omega)
          exact ⟨b, o, _, hA, h0, hfr.out.2.2 i (by omega) e⟩)
        have hff := hfr.out.1
        have hf0 := hfr.out.2.1
        generalize vs[j] = v at *
        obtain ⟨⟨ab, ao, rfl, hab, e0, e1, e2, e3, e4, e5⟩, hv⟩ := hcl
        have i1 : (j : Int) < (n : Int) := by omega
        have i3 : (0 : Int) ≤ (j : Int) := by omega
        have hzr := hbr.size
        go_upto_region 6 with fail
        go_cut [12, 47] from 12 to 64 (fun i x wx => i = .int .i64 (j : Int) ∧ x = .bool (!insB v.sl f' 1099511627776) ∧ Below wr.heap.size wr wx)
        case first =>
          by_cases q1 : v.sl < f
          · have tq : decide (v.sl < f) = true := decide_eq_true q1
            have HI := hide (insB_false (lo := f') (hi := 1099511627776) (Or.inl (show v.sl < f' by omega)))
            clear q1
            go_quiet (fail)
            go_wp2_with fail
            go_meet
            exact ⟨rfl, by rw [HI.out]; rfl, below_drewN (Below.refl _ _) _⟩
          have tq1 : decide (v.sl < f) = false := decide_eq_false q1
          by_cases j0 : j = 0
          · have tj : decide ((0 : Int) < (j : Int)) = false := by simp; omega
            have tj' : decide (0 < j) = false := by simp; omega
            have ef := hf0 j0
            by_cases q2 : 1099511627776 < v.sl
            · have HI := hide (insB_false (lo := f') (n := v.sl) (Or.inr q2))
              have tq2 : decide (1099511627776 < v.sl) = true := decide_eq_true q2
              clear q1 q2 j0 ef
              go_quiet (fail)
              go_wp2_with fail
              go_meet
              exact ⟨rfl, by rw [HI.out]; rfl, below_drewN (Below.refl _ _) _⟩
            · have HI := hide (insB_true (lo := f') (hi := 1099511627776) (n := v.sl) (by omega) (by omega))
              have tq2 : decide (1099511627776 < v.sl) = false := decide_eq_false q2
              clear q1 q2 j0 ef
              go_quiet (fail)
              go_wp2_with fail
              go_meet
              exact ⟨rfl, by rw [HI.out]; rfl, below_drewN (Below.refl _ _) _⟩
          · obtain ⟨i, rfl⟩ : ∃ i, j = i + 1 := ⟨j - 1, by omega⟩
            obtain ⟨b', o', x, eA, p0, ef⟩ := hpv.out i rfl
            injection eA with eA
            injection eA with eA1 eA2
            subst eA1 eA2
            have tj : decide ((0 : Int) < ((i + 1 : Nat) : Int)) = true := decide_eq_true (by omega)
            have k1 : (0 : Int) ≤ (i : Int) := by omega
            have k2 : (i : Int) < (n : Int) := by omega
            by_cases q3 : v.sl ≤ x
            · have HI := hide (insB_false (lo := f') (hi := 1099511627776) (n := v.sl) (Or.inl (by omega)))
              have tq3 : decide (v.sl ≤ x) = true := decide_eq_true q3
              clear q1 q3 j0 ef
              go_quiet (fail)
              go_wp2_with fail
              go_meet
              exact ⟨rfl, by rw [HI.out]; rfl, below_drewN (Below.refl _ _) _⟩
            have tq3 : decide (v.sl ≤ x) = false := decide_eq_false q3
            by_cases q2 : 1099511627776 < v.sl
            · have HI := hide (insB_false (lo := f') (n := v.sl) (Or.inr q2))
              have tq2 : decide (1099511627776 < v.sl) = true := decide_eq_true q2
              clear q1 q2 q3 j0 ef
              go_quiet (fail)
              go_wp2_with fail
              go_meet
              exact ⟨rfl, by rw [HI.out]; rfl, below_drewN (Below.refl _ _) _⟩
            · have HI := hide (insB_true (lo := f') (hi := 1099511627776) (n := v.sl) (by omega) (by omega))
              have tq2 : decide (1099511627776 < v.sl) = false := decide_eq_false q2
              clear q1 q2 q3 j0 ef
              go_quiet (fail)
              go_wp2_with fail
              go_meet
              exact ⟨rfl, by rw [HI.out]; rfl, below_drewN (Below.refl _ _) _⟩
        case rest =>
          obtain ⟨rfl, rfl, hb1⟩ := hcut
          have hz1 := hb1.size
          generalize wc = w1 at *
          have e : ∀ i, w1.cell? ⟨ab, i, none⟩ = wr.cell? ⟨ab, i, none⟩ := fun i => World.cell?_of_block (w := wr) (a := ⟨ab, i, none⟩) (hb1.block ab (by omega))
          have c1 := (e _).trans e1
          have c2 := (e _).trans e2
          have c3 := (e _).trans e3
          have c4 := (e _).trans e4
          have c5 := (e _).trans e5
          have hv1 := hv.on (by omega) hb1
          have hbw1 := hbr.trans (hb1.mono hzr)
          clear e e0 e1 e2 e3 e4 e5 hv hb1 hpv hf0 hff
          cases hin : insB v.sl f' 1099511627776 with
          | false =>
            have T := hide ((hbad.out (by rw [chkVt_ins hin]; omega)).trans (chkVt_ins hin))
            clear hin
            go_wp2
            go_ret
            exact ⟨by rw [HE.out, T.out]; rfl, hbw1⟩
          | true =>
            go_wp2_with fail
            refine (rbvalid_any v.br v.bn w1).mono ?_
            rintro e w2 ⟨rfl, hb2⟩
            have hz2 := hb2.size
            cases hvl : valB v.br v.bn with
            | false =>
              have e27 : chkVt v f' = 27 := by unfold chkVt; rw [if_pos hin, if_neg (by rw [hvl]; simp)]
              have T := hide ((hbad.out (by rw [e27]; omega)).trans e27)
              clear hin hvl e27
              go_wp2
              go_ret
              exact ⟨by rw [HE.out, T.out]; rfl, hbw1.trans (hb2.mono hbw1.size)⟩
            | true =>
              have ev : chkVt v f' = chkV v.v.k v.v.cs v.v.ns := by unfold chkVt; rw [if_pos hin, if_pos hvl]
              have e : ∀ i, w2.cell? ⟨ab, i, none⟩ = w1.cell? ⟨ab, i, none⟩ := fun i => World.cell?_of_block (w := w1) (a := ⟨ab, i, none⟩) (hb2.block ab (by omega))
              have d3 := (e _).trans c3
              have d4 := (e _).trans c4
              have d5 := (e _).trans c5
              have hv2 := hv1.on (by omega) hb2
              have hbw2 := hbw1.trans (hb2.mono hbw1.size)
              clear e c1 c2 c3 c4 c5 hv1 hb2 hbw1 hin hvl
              go_wp2_with fail
              refine (rvcheck_any v.v.k v.v.A v.v.D v.v.n v.v.c v.v.m v.v.d B v.v.cs v.v.ns w2 hv2.c hv2.i (by omega) hv2.en hv2.em (by have := hv2.lm; omega)).mono ?_
              rintro e w3 ⟨rfl, hb3⟩
              have hbw3 := hbw2.trans (hb3.mono hbw2.size)
              rw [← ev]
              by_cases h0 : chkVt v f' = 0
              · obtain ⟨T1, T2⟩ := hok.out h0
                have T1 := hide T1
                have T2 := hide T2
                rw [h0]
                clear h0 hok hbad ev
                go_wp2_with fail
                go_roundw
                case rel => exact ⟨j + 1, v.sl + 1, by omega, by go_num, T2, T1, hbw3⟩
                case measure => simp [intOf]; omega
              · have T := hide (hbad.out h0)
                have t1 : (chkVt v f' != 0) = true := by rw [bne_iff_ne]; exact h0
                clear h0 hok hbad ev
                go_wp2
                go_ret
                exact ⟨by rw [HE.out, T.out]; rfl, hbw3⟩
      · obtain rfl : j = n := by omega
        have T : Hid (chkVts vs f = 0) := hide (by rw [hcs.out, List.drop_of_length_le (by rw [HN.out]; omega)]; rfl)
        go_wp2
        go_ret
        exact ⟨by rw [HE.out, T.out]; rfl, hbr⟩
  · have HE : Hid (chkVotes vs f = 26) := hide (by unfold chkVotes; rw [if_neg (by rw [HN.out]; exact h64)])
    have t1 : decide ((64 : Int) < (n : Int)) = true := by simp; omega
    have t2 : decide (64 < n) = true := by simp; omega
    go_enter Tryd.func27, Tryd.ntmps27
    go_wp2
    go_ret
    exact ⟨by rw [HE.out]; rfl, Below.refl _ _⟩
end Go.Proofs.YtapbcpilklhoiabDoor
