/-
  write of package link's frames. Conditions: the numbers are not negative, the data is in reach.
-/
import Derived.Test.YtpbfibofjkinmaaWriterCalls
import Derived.Test.YtpbfibofjkinmaaLinkN
import Derived.Deep.RegionHeld3
import Derived.Deep.DeepCutAuto
set_option linter.unusedSimpArgs false
set_option linter.unusedVariables false
namespace Go.Proofs.Ytpbfibofjkinmaa
open Go.RowKit

/-- What stands behind calls that write: the writer, where its bytes lie, what is kept. -/
structure WGo (g : Nat) (b : Option Nat) (base : Nat) (W0 : World) (ys : List UInt8) (b' : Option Nat) (w' : World) : Prop where
  wr : Wr w' base g b' ys
  lie : b' = b ∨ ∃ k, b' = some k ∧ W0.heap.size ≤ k
  kept : Kept (Foot g b) W0 w'
theorem WGo.step {g : Nat} {b b1 : Option Nat} {base : Nat} {W0 w1 w2 : World} {ys zs : List UInt8} (h : WGo g b base W0 ys b1 w1)
    {b2 : Option Nat} (hw : Wr w2 base g b2 zs) (hl : b2 = b1 ∨ ∃ k, b2 = some k ∧ w1.heap.size ≤ k) (hk : Kept (Foot g b1) w1 w2) : WGo g b base W0 zs b2 w2 :=
  ⟨hw, lies_step h.lie hl h.kept.size, h.kept.step hk (foot_step h.lie)⟩
theorem WGo.drew {g : Nat} {b b1 : Option Nat} {base : Nat} {W0 w1 : World} {ys : List UInt8} (h : WGo g b base W0 ys b1 w1) : WGo g b base W0 ys b1 w1.drew :=
  ⟨h.wr, h.lie, h.kept.drew⟩
theorem WGo.alloc {g : Nat} {b b1 : Option Nat} {base : Nat} {W0 w1 : World} {ys : List UInt8} (h : WGo g b base W0 ys b1 w1) (o : Obj) : WGo g b base W0 ys b1 (w1.alloc o) :=
  ⟨h.wr.below ((Below.refl _ _).alloc (Nat.le_refl _) o), h.lie, h.kept.step (Kept.of_below (F := fun _ => False) ((Below.refl _ _).alloc (Nat.le_refl _) o)) (fun _ h => h.elim)⟩


/-- The bytes of a frame. -/
def frB (kd lf nm od : Nat) (xs : List UInt8) : List UInt8 := if kd = 1 then enc kd ++ enc lf ++ enc nm ++ enc od ++ (enc xs.length ++ xs) else enc kd ++ enc lf ++ enc nm

set_option maxHeartbeats 1600000 in
set_option maxRecDepth 20000 in
theorem lwrite_any (kd lf nm od : Nat) (A : Option Addr) (n c B : Nat) (xs : List UInt8) (w : World) (hx : Has w B A xs) (hB : B ≤ w.heap.size) (hn : xs.length = n) (hl : n ≤ 140737488350000)
    (h0 : kd < 9223372036854775808) (h1 : lf < 9223372036854775808) (h2 : nm < 9223372036854775808) (h3 : od < 9223372036854775808) :
    Calls Try.prog 60 #[.agg #[.int .i64 (kd : Int), .int .i64 (lf : Int), .int .i64 (nm : Int), .int .i64 (od : Int), .slice A n c]] w (Makes (frB kd lf nm od xs) w) := by
  have hE0 : kd = 1 → frB kd lf nm od xs = enc kd ++ enc lf ++ enc nm ++ enc od ++ (enc n ++ xs) := fun h => by unfold frB; rw [if_pos h, hn]
  have hE1 : ¬ kd = 1 → frB kd lf nm od xs = enc kd ++ enc lf ++ enc nm := fun h => by unfold frB; rw [if_neg h]
  have HE0 := hide hE0
  have HE1 := hide hE1
  have HN := hide hn
  clear hE0 hE1 hn
  go_enter Try.func60, Try.ntmps60
  go_wp2_with fail
  have hp := heap_alloc_new w (.cells #[.int .i64 (kd : Int), .int .i64 (lf : Int), .int .i64 (nm : Int), .int .i64 (od : Int), .slice A n c] 97)
  have hb0 : Below w.heap.size w (w.alloc (.cells #[.int .i64 (kd : Int), .int .i64 (lf : Int), .int .i64 (nm : Int), .int .i64 (od : Int), .slice A n c] 97)) := (Below.refl _ _).alloc (Nat.le_refl _) _
  have hsz : (w.alloc (.cells #[.int .i64 (kd : Int), .int .i64 (lf : Int), .int .i64 (nm : Int), .int .i64 (od : Int), .slice A n c] 97)).heap.size = w.heap.size + 1 := by simp
  have hx0 := hx.alloc hB (.cells #[.int .i64 (kd : Int), .int .i64 (lf : Int), .int .i64 (nm : Int), .int .i64 (od : Int), .slice A n c] 97)
  generalize w.alloc (.cells #[.int .i64 (kd : Int), .int .i64 (lf : Int), .int .i64 (nm : Int), .int .i64 (od : Int), .slice A n c] 97) = W0 at *
  obtain ⟨gw, hgw⟩ : ∃ gw, gw = W0.heap.size := ⟨_, rfl⟩
  generalize hgb : w.heap.size = gb at *
  have HNW : Hid (Calls Try.prog 71 #[] W0.drew fun e w' => e = .returned (.pointer (some ⟨gw, 0, none⟩)) ∧ WGo gw none gw W0 [] none w') := hide ((newwriter_any W0.drew).mono fun e w' => by
    rintro ⟨rfl, rfl⟩
    refine ⟨by rw [hgw]; rfl, by rw [hgw]; exact wr_new W0.drew _ (Nat.le_refl _), .inl rfl, ?_⟩
    exact Kept.of_below (((Below.refl _ W0).drew).alloc (Nat.le_refl _) _))
  have HK : Hid (∀ ys b' w', WGo gw none gw W0 ys b' w' → w'.heap[gb]? = some (.cells #[.int .i64 (kd : Int), .int .i64 (lf : Int), .int .i64 (nm : Int), .int .i64 (od : Int), .slice A n c] 97 (0, 0)) ∧ Has w' B A xs ∧ B ≤ w'.heap.size ∧ Below gb w w') := hide (fun ys b' w' h => by
    have hF : ∀ k, Foot gw none k → gw ≤ k := fun k hk => by
      rcases hk with rfl | hk
      · exact Nat.le_refl _
      · cases hk
    refine ⟨(h.kept.block gb (by omega) (fun e => by have := hF _ e; omega)).trans hp, hx0.keep fun b hb => h.kept.block b (by omega) (fun e => by have := hF _ e; omega), by have := h.kept.size; omega, hb0.trans (h.kept.below (by omega) (fun k hk => by have := hF k hk; omega))⟩)
  have HC : Hid (∀ ys b' w', WGo gw none gw W0 ys b' w' → w'.cell? ⟨gb, 0, none⟩ = some (.int .i64 (kd : Int)) ∧ w'.cell? ⟨gb, 1, none⟩ = some (.int .i64 (lf : Int)) ∧ w'.cell? ⟨gb, 2, none⟩ = some (.int .i64 (nm : Int))) := hide (fun ys b' w' h => by
    have hq := (HK.out ys b' w' h).1
    exact ⟨(row_cells hq 0).1, (row_cells hq 1).1, (row_cells hq 2).1⟩)
  have c0 := (row_cells hp 0).1
  have c1 := (row_cells hp 1).1
  have c2 := (row_cells hp 2).1
  simp only [List.getElem?_toArray, List.getElem?_cons_succ, List.getElem?_cons_zero] at c0 c1 c2
  have u0 : IntKind.u64.wrap (kd : Int) = (kd : Int) := by rw [IntKind.wrap_u64]; omega
  have u1 : IntKind.u64.wrap (lf : Int) = (lf : Int) := by rw [IntKind.wrap_u64]; omega
  have u2 : IntKind.u64.wrap (nm : Int) = (nm : Int) := by rw [IntKind.wrap_u64]; omega
  have u3 : IntKind.u64.wrap (od : Int) = (od : Int) := by rw [IntKind.wrap_u64]; omega
  have HN9 : Hid (∀ (u : Nat) (ys : List UInt8) (b1 : Option Nat) (W : World), u < 9223372036854775808 → ys.length ≤ 1000 → WGo gw none gw W0 ys b1 W → Calls Try.prog 72 #[.pointer (some ⟨gw, 0, none⟩), .int .u64 (u : Int)] W fun e w' => e = .returned (.pointer (some ⟨gw, 0, none⟩)) ∧ ∃ b', WGo gw none gw W0 (ys ++ enc u) b' w') := hide (fun u ys b1 W hu hl h => (wnum_any gw gw b1 ys u W h.wr (by omega) (by omega)).mono fun e w' => by
    rintro ⟨rfl, b2, hw2, hb2, hk2⟩
    exact ⟨rfl, b2, h.step hw2 hb2 hk2⟩)
  have L : Hid ((enc kd).length ≤ 9 ∧ (enc lf).length ≤ 9 ∧ (enc nm).length ≤ 9 ∧ (enc od).length ≤ 9) := hide ⟨by rw [enc_length]; have := bw_le kd; omega, by rw [enc_length]; have := bw_le lf; omega, by rw [enc_length]; have := bw_le nm; omega, by rw [enc_length]; have := bw_le od; omega⟩
  have L1 : Hid (([] : List UInt8).length ≤ 1000) := hide (by simp)
  have L2 : Hid ((enc kd).length ≤ 1000) := hide (by have := L.out; omega)
  have L3 : Hid ((enc kd ++ enc lf).length ≤ 1000) := hide (by have := L.out; rw [List.length_append]; omega)
  have HT : Hid (∀ (ys : List UInt8) (b1 : Option Nat) (W : World), ys.length ≤ 1000 → WGo gw none gw W0 ys b1 W → Calls Try.prog 73 #[.pointer (some ⟨gw, 0, none⟩), .slice A n c] W fun e w' => e = .returned (.pointer (some ⟨gw, 0, none⟩)) ∧ ∃ b', WGo gw none gw W0 (ys ++ (enc n ++ xs)) b' w') := hide (fun ys b1 W hl h => by
    obtain ⟨_, hx', hB', _⟩ := HK.out ys b1 W h
    refine (wtext_any gw gw B b1 ys A n c xs W h.wr hx' (Off.low hx' (fun k hk => ?_)) hB' HN.out (by omega)).mono fun e w' => ?_
    · have := (h.wr.foot k hk).1
      omega
    · rintro ⟨rfl, b2, hw2, hb2, hk2⟩
      exact ⟨rfl, b2, h.step hw2 hb2 hk2⟩)
  have HBy : Hid (∀ (ys : List UInt8) (b1 : Option Nat) (W : World), ys.length ≤ 140737488355328 → WGo gw none gw W0 ys b1 W → Calls Try.prog 74 #[.pointer (some ⟨gw, 0, none⟩)] W fun e w' => ∃ v, e = .returned v ∧ Own w' gb v ys ∧ Below gb w w') := hide (fun ys b1 W hl h => (wbytes_any gw gw b1 ys W h.wr hl).mono fun e w' => by
    rintro ⟨v, rfl, ho, hb⟩
    have h4 := (HK.out ys b1 W h).2.2.2
    exact ⟨v, rfl, ho.from_ (by have := h4.size; omega), h4.trans (hb.mono (by have := h4.size; omega))⟩)
  have HC2 : Hid (∀ ys b' w', WGo gw none gw W0 ys b' w' → w'.cell? ⟨gb, 3, none⟩ = some (.int .i64 (od : Int)) ∧ w'.cell? ⟨gb, 4, none⟩ = some (.slice A n c)) := hide (fun ys b' w' h => by
    have hq := (HK.out ys b' w' h).1
    exact ⟨(row_cells hq 3).1, (row_cells hq 4).1⟩)
  have L4 : Hid ((enc kd ++ enc lf ++ enc nm).length ≤ 1000) := hide (by have := L.out; rw [List.length_append, List.length_append]; omega)
  have L5 : Hid ((enc kd ++ enc lf ++ enc nm ++ enc od).length ≤ 1000) := hide (by have := L.out; rw [List.length_append, List.length_append, List.length_append]; omega)
  have L6 : Hid ((enc kd ++ enc lf ++ enc nm).length ≤ 140737488355328) := hide (by have := L4.out; omega)
  have L7 : Hid ((enc kd ++ enc lf ++ enc nm ++ enc od ++ (enc n ++ xs)).length ≤ 140737488355328) := hide (by
    have h5 := L5.out
    have h6 := HN.out
    have h7 := bw_le n
    have h8 : (enc n ++ xs).length = bw n + 1 + xs.length := by rw [List.length_append, enc_length]
    rw [List.length_append, h8]
    omega)
  have H0 := hide h0
  have H1 := hide h1
  have H2 := hide h2
  have H3 := hide h3
  have HGB := hide hgb
  clear hx hx0 hp hb0 hgb hgw hsz
  go_region_held3 (fun w' => w'.cell? ⟨gb, 0, none⟩ = some (.int .i64 (kd : Int)) ∧ w'.cell? ⟨gb, 1, none⟩ = some (.int .i64 (lf : Int)) ∧ w'.cell? ⟨gb, 2, none⟩ = some (.int .i64 (nm : Int))) (first | exact ⟨c0, c1, c2⟩ | exact HC.out _ _ _ q1 | exact HC.out _ _ _ q2 | exact HC.out _ _ _ q3 | exact HC.out _ _ _ q4 | go_keep) (first
    | ((go_at_call 71; (with_reducible refine HNW.out.mono ?_)); rintro e w1 ⟨rfl, q1⟩)
    | ((go_at_call 72; (with_reducible refine (HN9.out kd [] none _ H0.out L1.out ?_).mono ?_)); exact q1; rintro e w2 ⟨rfl, b2, q2⟩)
    | ((go_at_call 72; (with_reducible refine (HN9.out lf (enc kd) b2 _ H1.out L2.out ?_).mono ?_)); exact q2; rintro e w3 ⟨rfl, b3, q3⟩)
    | ((go_at_call 72; (with_reducible refine (HN9.out nm (enc kd ++ enc lf) b3 _ H2.out L3.out ?_).mono ?_)); exact q3; rintro e w4 ⟨rfl, b4, q4⟩))
  obtain ⟨d0, _, _⟩ := HC.out _ _ _ q4
  obtain ⟨d3, d4⟩ := HC2.out _ _ _ q4
  clear c0 c1 c2 q1 q2 q3 HNW
  by_cases h1 : kd = 1
  · have t1 : ((kd : Int) == 1) = true := by simp [h1]
    have hE := HE0.out h1
    have HE := hide hE
    clear hE h1
    go_upto_region 3 with fail
    go_region_held3 (fun w' => w'.cell? ⟨gb, 3, none⟩ = some (.int .i64 (od : Int)) ∧ w'.cell? ⟨gb, 4, none⟩ = some (.slice A n c)) (first | exact ⟨d3, d4⟩ | exact HC2.out _ _ _ q5 | exact HC2.out _ _ _ q6 | go_keep) (first
      | ((go_at_call 72; (with_reducible refine (HN9.out od (enc kd ++ enc lf ++ enc nm) b4 _ H3.out L4.out ?_).mono ?_)); exact q4.drew; rintro e w5 ⟨rfl, b5, q5⟩)
      | ((go_at_call 73; (with_reducible refine (HT.out (enc kd ++ enc lf ++ enc nm ++ enc od) b5 _ L5.out ?_).mono ?_)); exact q5; rintro e w6 ⟨rfl, b6, q6⟩))
    have hby := HBy.out _ b6 w6 L7.out q6
    clear q4 q5
    go_wp2_with fail
    refine hby.mono ?_
    rintro e w7 ⟨v, rfl, ho, hb⟩
    go_wp2
    go_ret
    exact ⟨v, rfl, by rw [HE.out, HGB.out]; exact ho, by rw [HGB.out]; exact hb⟩
  · have t1 : ((kd : Int) == 1) = false := by simp; omega
    have hE := HE1.out h1
    have HE := hide hE
    have hby := HBy.out _ b4 w4 L6.out q4
    clear hE h1
    go_wp2_with fail
    refine hby.mono ?_
    rintro e w7 ⟨v, rfl, ho, hb⟩
    go_wp2
    go_ret
    exact ⟨v, rfl, by rw [HE.out, HGB.out]; exact ho, by rw [HGB.out]; exact hb⟩
end Go.Proofs.Ytpbfibofjkinmaa
