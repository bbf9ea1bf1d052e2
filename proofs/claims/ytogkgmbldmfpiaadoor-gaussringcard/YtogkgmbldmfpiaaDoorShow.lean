/-
  Show of gauss: a right number as its text. Condition: the library's table of powers of ten is as its text lays it.
-/
import Derived.Test.YtogkgmbldmfpiaaDoorShelfI
import Derived.Test.YtogkgmbldmfpiaaDoorDigits
import Derived.Test.YtogkgmbldmfpiaaDoorGaussIn
import Derived.Lib.AppendIntMem
import Derived.WalkSmall
import Derived.Lib.ItoaLen
import Derived.Below
namespace Go.Proofs.YtogkgmbldmfpiaaDoor
open Go.RowKit

theorem gPow : Tryd.prog.globalNamed "internal/strconv.uint64pow10" = some (Tryd.prog.globalNamed "internal/strconv.uint64pow10").get! := by kernel_rfl

/-- The table of powers of ten. -/
structure Tab (w : World) : Prop where
  is : Lib.TabIs Tryd.prog w "internal/strconv.uint64pow10" .u64 Lib.pow10Tab
  lt : (Tryd.prog.globalNamed "internal/strconv.uint64pow10").get! < w.heap.size

theorem Tab.below {w w' : World} (h : Tab w) (hb : Below w.heap.size w w') : Tab w' :=
  ⟨var?_below hb gPow h.lt h.is, Nat.lt_of_lt_of_le h.lt hb.size⟩

theorem itoa_any (n : Int) (h0 : -9223372036854775808 ≤ n) (h1 : n ≤ 9223372036854775807) (w : World) (ht : Tab w) :
    Calls Tryd.prog 23 #[.int .i64 n] w fun e w' => e = .returned (.string ⟨(Lib.itoa n).toArray⟩) ∧ Below w.heap.size w w' :=
  (Tryd.strconv_Itoa n h0 h1 w ht.is).mono fun _ _ ⟨he, k, os, hw⟩ => ⟨he, by subst hw; exact Lib.below_grow _ w (Nat.le_refl _) k os⟩

theorem ba_app (x y : List UInt8) : (⟨x.toArray⟩ : ByteArray) ++ (⟨y.toArray⟩ : ByteArray) = ⟨(x ++ y).toArray⟩ := ByteArray.ext (by simp)

theorem shown_neg (a b : Int) (h : b < 0) : (⟨(Lib.itoa a).toArray⟩ : ByteArray) ++ ⟨#[45]⟩ ++ ⟨(Lib.itoa (-b)).toArray⟩ ++ ⟨#[105]⟩ = ⟨(showL a b).toArray⟩ := by
  have e1 : (⟨#[45]⟩ : ByteArray) = ⟨([45] : List UInt8).toArray⟩ := rfl
  have e2 : (⟨#[105]⟩ : ByteArray) = ⟨([105] : List UInt8).toArray⟩ := rfl
  have e3 : Lib.itoa (-b) = Lib.decDigits b.natAbs := by
    unfold Lib.itoa
    rw [if_neg (by omega), show (-b).toNat = b.natAbs from by omega]
  rw [e1, e2, e3, ba_app, ba_app, ba_app]
  unfold showL
  rw [if_pos h]
  simp
theorem shown_pos (a b : Int) (h : ¬ b < 0) : (⟨(Lib.itoa a).toArray⟩ : ByteArray) ++ ⟨#[43]⟩ ++ ⟨(Lib.itoa b).toArray⟩ ++ ⟨#[105]⟩ = ⟨(showL a b).toArray⟩ := by
  have e1 : (⟨#[43]⟩ : ByteArray) = ⟨([43] : List UInt8).toArray⟩ := rfl
  have e2 : (⟨#[105]⟩ : ByteArray) = ⟨([105] : List UInt8).toArray⟩ := rfl
  have e3 : Lib.itoa b = Lib.decDigits b.natAbs := by
    unfold Lib.itoa
    rw [if_neg h, show b.toNat = b.natAbs from by omega]
  rw [e1, e2, e3, ba_app, ba_app, ba_app]
  unfold showL
  rw [if_neg h]
  simp

theorem show_yes (x y : Nat) (a b : Int) (hx : FV x a) (hy : FV y b) (ha : inB a) (hb : inB b) (w : World) (ht : Tab w) :
    Calls Tryd.prog 15 #[.complex .f64 x y] w fun e w' => e = .returned (.tuple #[.string ⟨(showL a b).toArray⟩, .bool true]) ∧ Below w.heap.size w w' := by
  have ha' := ha
  have hb' := hb
  unfold inB at ha' hb'
  have hl1 := Lib.itoa_length_le a (by omega) (by omega)
  by_cases hs : b < 0
  · have hl2 := Lib.itoa_length_le (-b) (by omega) (by omega)
    go_enter Tryd.func15, Tryd.ntmps15
    go_wp2_with fail
    refine (parts_yes x y a b hx hy ha hb w).mono ?_
    rintro e w' ⟨rfl, rfl⟩
    go_wp2_with fail
    refine (itoa_any a (by omega) (by omega) w ht).mono ?_
    rintro e w1 ⟨rfl, hb1⟩
    go_wp2_with fail
    refine (itoa_any (-b) (by omega) (by omega) w1 (ht.below hb1)).mono ?_
    rintro e w2 ⟨rfl, hb2⟩
    go_wp2
    go_ret2
    refine ⟨?_, hb1.trans (hb2.mono hb1.size)⟩
    exact congrArg (fun s => Ending.returned (.tuple #[.string s, .bool true])) (shown_neg a b hs)
  · have hl2 := Lib.itoa_length_le b (by omega) (by omega)
    go_enter Tryd.func15, Tryd.ntmps15
    go_wp2_with fail
    refine (parts_yes x y a b hx hy ha hb w).mono ?_
    rintro e w' ⟨rfl, rfl⟩
    go_wp2_with fail
    refine (itoa_any a (by omega) (by omega) w ht).mono ?_
    rintro e w1 ⟨rfl, hb1⟩
    go_wp2_with fail
    refine (itoa_any b (by omega) (by omega) w1 (ht.below hb1)).mono ?_
    rintro e w2 ⟨rfl, hb2⟩
    go_wp2
    go_ret2
    refine ⟨?_, hb1.trans (hb2.mono hb1.size)⟩
    exact congrArg (fun s => Ending.returned (.tuple #[.string s, .bool true])) (shown_pos a b (by omega))

/-- What two numbers show is the same only if they are. -/
theorem shown_same (a b c d : Int) : ((⟨(showL a b).toArray⟩ : ByteArray).toList == (⟨(showL c d).toArray⟩ : ByteArray).toList) = decide (a = c ∧ b = d) := by
  by_cases h : a = c ∧ b = d
  · obtain ⟨rfl, rfl⟩ := h
    simp
  · rw [decide_eq_false h, beq_eq_false_iff_ne]
    intro e
    have h1 := beq_toListBytes (⟨(showL a b).toArray⟩ : ByteArray) ⟨(showL c d).toArray⟩
    have h2 : ((⟨(showL a b).toArray⟩ : ByteArray) == ⟨(showL c d).toArray⟩) = true := by
      first | (rw [h1, e]; simp; done) | (rw [← h1, e]; simp; done) | (rw [e] at h1; simpa using h1)
    have h3 : ((showL a b).toArray == (showL c d).toArray) = true := h2
    have e3 : showL a b = showL c d := by
      have := congrArg Array.toList (eq_of_beq h3)
      simpa using this
    exact h (showL_inj e3)
end Go.Proofs.YtogkgmbldmfpiaaDoor
