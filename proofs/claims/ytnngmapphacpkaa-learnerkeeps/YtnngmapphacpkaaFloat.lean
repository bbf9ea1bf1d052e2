/-
  Whole numbers below 2^53 in 64 bit floats: what is read back, sums, differences, products, order, conversions. No condition: plain lemmas.
-/
import Derived.Laws.ComplexArith
set_option linter.unusedSimpArgs false
set_option linter.unusedVariables false
namespace Go.Proofs.Ytnngmapphacpkaa
open Ieee

/-- A magnitude with its sign. -/
def sg (s : Bool) (m : Nat) : Int := if s then -(m : Int) else m

theorem signed_sg (s : Bool) (m u : Nat) : signed s m u = sg s m * 2 ^ u := by
  unfold signed sg
  rw [Nat.shiftLeft_eq]
  cases s <;> simp [Int.neg_mul]

theorem sg_natAbs (s : Bool) (m : Nat) : (sg s m).natAbs = m := by unfold sg; cases s <;> simp
theorem sg_mul (s t : Bool) (m n : Nat) : sg (s ^^ t) (m * n) = sg s m * sg t n := by
  unfold sg; cases s <;> cases t <;> simp [Int.neg_mul, Int.mul_neg]
theorem sg_opp (s : Bool) (m : Nat) : sg (!s) m = - sg s m := by unfold sg; cases s <;> simp

theorem two_pow_pos' (k : Nat) : (0 : Int) < 2 ^ k := by
  have : (0 : Nat) < 2 ^ k := Nat.two_pow_pos k
  have h : ((2 ^ k : Nat) : Int) = (2 : Int) ^ k := by push_cast; rfl
  omega

theorem pow_split (a b c : Nat) (h : a = b + c) : (2 : Int) ^ a = 2 ^ b * 2 ^ c := by rw [h, Int.pow_add]

/-- The datum of this sign, magnitude and place is the whole number n. -/
def Rep (s : Bool) (m : Nat) (e : Int) (n : Int) : Prop := ∀ k : Nat, 0 ≤ e + k → sg s m * 2 ^ (e + k).toNat = n * 2 ^ k

theorem Rep.of {s : Bool} {m : Nat} {e n : Int} (k : Nat) (h0 : 0 ≤ e + k) (h : sg s m * 2 ^ (e + k).toNat = n * 2 ^ k) : Rep s m e n := by
  intro j hj
  rcases Nat.le_total k j with hl | hl
  · rw [pow_split (e + j).toNat (e + k).toNat (j - k) (by omega), pow_split j k (j - k) (by omega), ← Int.mul_assoc, h, Int.mul_assoc]
  · rw [pow_split (e + k).toNat (e + j).toNat (k - j) (by omega), pow_split k j (k - j) (by omega), ← Int.mul_assoc, ← Int.mul_assoc] at h
    exact Int.eq_of_mul_eq_mul_right (Int.ne_of_gt (two_pow_pos' (k - j))) h

theorem Rep.inj {s : Bool} {m : Nat} {e a b : Int} (h : Rep s m e a) (h' : Rep s m e b) : a = b := by
  have h1 := h (-e).toNat (by omega)
  have h2 := h' (-e).toNat (by omega)
  exact Int.eq_of_mul_eq_mul_right (Int.ne_of_gt (two_pow_pos' (-e).toNat)) (h1.symm.trans h2)

theorem Rep.opp {s : Bool} {m : Nat} {e n : Int} (h : Rep s m e n) : Rep (!s) m e (-n) := by
  intro k hk
  rw [sg_opp, Int.neg_mul, h k hk, Int.neg_mul]

theorem Rep.abs {s : Bool} {m : Nat} {e n : Int} (h : Rep s m e n) (k : Nat) (hk : 0 ≤ e + k) : m * 2 ^ (e + k).toNat = n.natAbs * 2 ^ k := by
  have := congrArg Int.natAbs (h k hk)
  rw [Int.natAbs_mul, Int.natAbs_mul, sg_natAbs, Int.natAbs_pow, Int.natAbs_pow] at this
  simpa using this

/-- The sign of it. -/
theorem Rep.sgn {s : Bool} {m : Nat} {e n : Int} (h : Rep s m e n) : n = sg s n.natAbs := by
  have h1 := h (-e).toNat (by omega)
  have hp := two_pow_pos' (-e).toNat
  have hq := two_pow_pos' (e + (-e).toNat).toNat
  unfold sg at *
  cases s
  · simp only [Bool.false_eq_true, if_false] at *
    have : 0 ≤ n := by
      rcases Int.lt_or_le n 0 with hn | hn
      · have a := Int.mul_neg_of_neg_of_pos hn hp
        have b := Int.mul_nonneg (Int.natCast_nonneg m) (Int.le_of_lt hq)
        omega
      · exact hn
    omega
  · simp only [if_true] at *
    have : n ≤ 0 := by
      rcases Int.lt_or_le 0 n with hn | hn
      · have a := Int.mul_pos hn hp
        have b := Int.mul_nonneg (Int.natCast_nonneg m) (Int.le_of_lt hq)
        rw [Int.neg_mul] at h1
        omega
      · exact hn
    omega

theorem log2_mul (a b : Nat) (h : a ≠ 0) : (a * 2 ^ b).log2 = a.log2 + b := by
  have hb : 0 < 2 ^ b := Nat.two_pow_pos b
  rw [Nat.log2_eq_iff (Nat.mul_ne_zero h (by omega))]
  have h1 := Nat.log2_self_le h
  have h2 := @Nat.lt_log2_self a
  refine ⟨?_, ?_⟩
  · rw [Nat.pow_add]; exact Nat.mul_le_mul_right _ h1
  · rw [show a.log2 + b + 1 = (a.log2 + 1) + b from by omega, Nat.pow_add]
    exact Nat.mul_lt_mul_of_pos_right h2 hb

theorem cut_even_exact (neg : Bool) (x d : Nat) (hx : x ≠ 0) : Toward.even.cut neg (x * 2 ^ d) d = x := by
  unfold Toward.cut
  have hl : (x * 2 ^ d).log2 = x.log2 + d := log2_mul x d hx
  have hp : 0 < 2 ^ d := Nat.two_pow_pos d
  have hm : min d ((x * 2 ^ d).log2 + 2) = d := by omega
  simp only [hm, Nat.one_shiftLeft, Nat.mul_mod_left, Nat.mul_div_cancel _ hp]
  have hne : ¬ (2 ^ d < 2 * 0) := by omega
  have hne2 : (2 ^ d == 2 * 0) = false := by simp
  simp [hne]

theorem cut_zero_exact (neg : Bool) (x d : Nat) : Toward.zero.cut neg (x * 2 ^ d) d = x := by
  unfold Toward.cut
  have hp : 0 < 2 ^ d := Nat.two_pow_pos d
  by_cases hx : x = 0
  · subst hx; simp
  · have hl : (x * 2 ^ d).log2 = x.log2 + d := log2_mul x d hx
    have hm : min d ((x * 2 ^ d).log2 + 2) = d := by omega
    simp only [hm, Nat.one_shiftLeft, Nat.mul_div_cancel _ hp]
    simp

theorem read_word (s : Bool) (q K : Nat) (hq : q ≤ 1074) (h1 : 4503599627370496 ≤ K) (h2 : K < 9007199254740992) :
    double.read (double.word s (q * 4503599627370496 + K)) = .number s K (-1074 + q) := by
  have e1 : double.signWeight = 9223372036854775808 := by decide
  have e2 : double.binade = 4503599627370496 := by decide
  have e3 : double.infRung = 9218868437227405312 := by decide
  have e4 : double.leastPlace = -1074 := by decide
  unfold Format.read Format.word
  simp only [e1, e2, e3, e4]
  have r1 : (q * 4503599627370496 + K) % 9223372036854775808 = q * 4503599627370496 + K := by omega
  have r2 : (9223372036854775808 + (q * 4503599627370496 + K)) % 9223372036854775808 = q * 4503599627370496 + K := by omega
  have r3 : (q * 4503599627370496 + K) / 9223372036854775808 % 2 = 0 := by omega
  have r4 : (9223372036854775808 + (q * 4503599627370496 + K)) / 9223372036854775808 % 2 = 1 := by omega
  have r5 : ¬ (q * 4503599627370496 + K < 4503599627370496) := by omega
  have r6 : q * 4503599627370496 + K < 9218868437227405312 := by omega
  have r7 : 4503599627370496 + (q * 4503599627370496 + K) % 4503599627370496 = K := by omega
  have r8 : (q * 4503599627370496 + K) / 4503599627370496 - 1 = q := by omega
  cases s
  · simp only [Bool.false_eq_true, if_false, r1, r3, r5, r6, r7, r8, if_true]; simp
  · simp only [if_true, r2, r4, r5, r6, r7, r8, if_false]; simp

/-- A whole number below 2^53 is written as it is. -/
theorem write_exact {s : Bool} {m : Nat} {e n : Int} (h : Rep s m e n) (hn : n.natAbs < 9007199254740992) :
    ∃ K e', double.read (double.nearest s m e) = .number s K e' ∧ Rep s K e' n := by
  by_cases hm : m = 0
  · subst hm
    have h0 : n = 0 := by
      have := h.abs (-e).toNat (by omega)
      have hp : 0 < 2 ^ (-e).toNat := Nat.two_pow_pos _
      rw [Nat.zero_mul] at this
      rcases Nat.mul_eq_zero.1 this.symm with h1 | h1
      · omega
      · omega
    subst h0
    refine ⟨0, -1074, ?_, fun k _ => by simp [sg]⟩
    unfold Format.nearest
    rw [if_pos rfl]
    cases s <;> decide
  · have hN : n.natAbs ≠ 0 := by
      intro h0
      have := h.abs (-e).toNat (by omega)
      rw [h0] at this
      have hp : 0 < 2 ^ (e + (-e).toNat).toNat := Nat.two_pow_pos _
      rw [Nat.zero_mul] at this
      rcases Nat.mul_eq_zero.1 this with h1 | h1
      · exact hm h1
      · omega
    have hsg := h.sgn
    generalize hNN : n.natAbs = N at *
    have hL : (e + m.log2 : Int) = N.log2 := by
      have h1 := h.abs (-e).toNat (by omega)
      rw [hNN] at h1
      have h2 := congrArg Nat.log2 h1
      rw [log2_mul _ _ hm, log2_mul _ _ hN] at h2
      omega
    have hL52 : N.log2 ≤ 52 := by
      have : N.log2 < 53 := (Nat.log2_lt hN).2 (by simpa using hn)
      omega
    have hK1 : 4503599627370496 ≤ N * 2 ^ (52 - N.log2) := by
      have h1 := Nat.log2_self_le hN
      have h2 : 2 ^ N.log2 * 2 ^ (52 - N.log2) ≤ N * 2 ^ (52 - N.log2) := Nat.mul_le_mul_right _ h1
      rw [← Nat.pow_add, show N.log2 + (52 - N.log2) = 52 from by omega] at h2
      simpa using h2
    have hK2 : N * 2 ^ (52 - N.log2) < 9007199254740992 := by
      have h1 := @Nat.lt_log2_self N
      have h2 : N * 2 ^ (52 - N.log2) < 2 ^ (N.log2 + 1) * 2 ^ (52 - N.log2) := Nat.mul_lt_mul_of_pos_right h1 (Nat.two_pow_pos _)
      rw [← Nat.pow_add, show N.log2 + 1 + (52 - N.log2) = 53 from by omega] at h2
      simpa using h2
    have hcut : Toward.even.cut s (m <<< (e - (N.log2 - 52 : Int)).toNat) ((N.log2 - 52 : Int) - e).toNat = N * 2 ^ (52 - N.log2) := by
      rcases Int.le_total (N.log2 - 52) e with hc | hc
      · rw [show ((N.log2 - 52 : Int) - e).toNat = 0 from by omega, Nat.shiftLeft_eq]
        have h1 := h.abs (52 - N.log2) (by omega)
        rw [hNN, show (e + (52 - N.log2 : Nat)).toNat = (e - (N.log2 - 52 : Int)).toNat from by omega] at h1
        rw [h1]
        have := cut_even_exact s (N * 2 ^ (52 - N.log2)) 0 (by omega)
        simpa using this
      · rw [show (e - (N.log2 - 52 : Int)).toNat = 0 from by omega]
        have h1 := h.abs (-e).toNat (by omega)
        rw [hNN, show (e + (-e).toNat).toNat = 0 from by omega, show (-e).toNat = (52 - N.log2) + ((N.log2 - 52 : Int) - e).toNat from by omega, Nat.pow_add, ← Nat.mul_assoc] at h1
        have h2 : m = N * 2 ^ (52 - N.log2) * 2 ^ ((N.log2 - 52 : Int) - e).toNat := by simpa using h1
        rw [Nat.shiftLeft_eq, Nat.pow_zero, Nat.mul_one]
        rw [congrArg (fun x => Toward.even.cut s x ((N.log2 - 52 : Int) - e).toNat) h2]
        exact cut_even_exact s (N * 2 ^ (52 - N.log2)) _ (by omega)
    refine ⟨N * 2 ^ (52 - N.log2), N.log2 - 52, ?_, ?_⟩
    · have hlast : max (e + m.log2 - (double.fractionBits : Int)) double.leastPlace = (N.log2 - 52 : Int) := by
        rw [show double.leastPlace = -1074 from by decide, show (double.fractionBits : Int) = 52 from by decide]
        omega
      unfold Format.nearest
      rw [if_neg hm]
      simp only [hlast, hcut]
      rw [show ((N.log2 - 52 : Int) - double.leastPlace).toNat = N.log2 + 1022 from by rw [show double.leastPlace = -1074 from by decide]; omega,
        show double.binade = 4503599627370496 from by decide, show double.infRung = 9218868437227405312 from by decide, Nat.min_eq_left (by omega), read_word s _ _ (by omega) hK1 hK2]
      rw [show (-1074 + ((N.log2 + 1022 : Nat) : Int)) = (N.log2 - 52 : Int) from by omega]
    · refine Rep.of (52 - N.log2) (by omega) ?_
      rw [show ((N.log2 - 52 : Int) + (52 - N.log2 : Nat)).toNat = 0 from by omega]
      conv => rhs; rw [hsg]
      unfold sg
      cases s <;> simp [Int.neg_mul]

/-- The bits stand for the whole number n. -/
def FV (x : Nat) (n : Int) : Prop := ∃ s m e, double.read x = .number s m e ∧ Rep s m e n

theorem FV.inj {x : Nat} {a b : Int} (h : FV x a) (h' : FV x b) : a = b := by
  obtain ⟨s, m, e, hr, hp⟩ := h
  obtain ⟨s', m', e', hr', hp'⟩ := h'
  rw [hr] at hr'
  injection hr' with h1 h2 h3
  subst h1 h2 h3
  exact hp.inj hp'

theorem rep_int (n : Int) : Rep (decide (n < 0)) n.natAbs 0 n := by
  intro k _
  rw [show ((0 : Int) + k).toNat = k from by omega]
  congr 1
  unfold sg
  by_cases h : n < 0 <;> simp [h] <;> omega

theorem fv_int (n : Int) (hn : n.natAbs < 9007199254740992) : FV (floatOfInt .f64 n) n := by
  obtain ⟨K, e', hr, hp⟩ := write_exact (rep_int n) hn
  exact ⟨_, K, e', hr, hp⟩

theorem fv_zero : FV 0 0 := ⟨false, 0, -1074, by decide, fun k _ => by simp [sg]⟩

theorem rep_sum {s t : Bool} {m n : Nat} {i j a b : Int} (h : Rep s m i a) (h' : Rep t n j b) :
    ∃ u M e, Datum.sum (.number s m i) (.number t n j) = some (.number u M e) ∧ Rep u M e (a + b) := by
  refine ⟨_, _, _, rfl, ?_⟩
  have key : ∀ total : Int, ∀ z : Bool, sg (if total = 0 then z else decide (total < 0)) total.natAbs = total := by
    intro total z
    unfold sg
    by_cases h0 : total = 0
    · subst h0; cases z <;> simp
    · by_cases h1 : total < 0 <;> simp [h0, h1] <;> omega
  refine Rep.of ((-i).toNat + (-j).toNat) (by omega) ?_
  simp only [key, signed_sg]
  have h1 := h ((-i).toNat + (-j).toNat) (by omega)
  have h2 := h' ((-i).toNat + (-j).toNat) (by omega)
  rw [Int.add_mul, Int.add_mul, ← h1, ← h2, Int.mul_assoc, Int.mul_assoc]
  rw [← pow_split (i + ((-i).toNat + (-j).toNat : Nat)).toNat (i - min i j).toNat (min i j + ((-i).toNat + (-j).toNat : Nat)).toNat (by omega)]
  rw [← pow_split (j + ((-i).toNat + (-j).toNat : Nat)).toNat (j - min i j).toNat (min i j + ((-i).toNat + (-j).toNat : Nat)).toNat (by omega)]

theorem rep_product {s t : Bool} {m n : Nat} {i j a b : Int} (h : Rep s m i a) (h' : Rep t n j b) : Rep (s ^^ t) (m * n) (i + j) (a * b) := by
  refine Rep.of ((-i).toNat + (-j).toNat) (by omega) ?_
  have h1 := h (-i).toNat (by omega)
  have h2 := h' (-j).toNat (by omega)
  rw [sg_mul, pow_split (i + j + ((-i).toNat + (-j).toNat : Nat)).toNat (i + (-i).toNat).toNat (j + (-j).toNat).toNat (by omega), Int.pow_add]
  calc sg s m * sg t n * (2 ^ (i + (-i).toNat).toNat * 2 ^ (j + (-j).toNat).toNat) = (sg s m * 2 ^ (i + (-i).toNat).toNat) * (sg t n * 2 ^ (j + (-j).toNat).toNat) := by ac_rfl
    _ = a * 2 ^ (-i).toNat * (b * 2 ^ (-j).toNat) := by rw [h1, h2]
    _ = a * b * (2 ^ (-i).toNat * 2 ^ (-j).toNat) := by ac_rfl

theorem fv_add {x y : Nat} {a b : Int} (h : FV x a) (h' : FV y b) (hn : (a + b).natAbs < 9007199254740992) : ∃ r, floatBits .add .f64 x y = some r ∧ FV r (a + b) := by
  obtain ⟨s, m, e, hr, hp⟩ := h
  obtain ⟨t, n, j, hr', hp'⟩ := h'
  obtain ⟨u, M, E, hs, hR⟩ := rep_sum hp hp'
  obtain ⟨K, e', hw, hW⟩ := write_exact hR hn
  refine ⟨double.nearest u M E, ?_, u, K, e', hw, hW⟩
  show double.add x y = _
  unfold Format.add
  rw [hr, hr', hs]
  rfl

theorem fv_sub {x y : Nat} {a b : Int} (h : FV x a) (h' : FV y b) (hn : (a - b).natAbs < 9007199254740992) : ∃ r, floatBits .sub .f64 x y = some r ∧ FV r (a - b) := by
  obtain ⟨s, m, e, hr, hp⟩ := h
  obtain ⟨t, n, j, hr', hp'⟩ := h'
  obtain ⟨u, M, E, hs, hR⟩ := rep_sum hp hp'.opp
  rw [← Int.sub_eq_add_neg] at hR
  obtain ⟨K, e', hw, hW⟩ := write_exact hR hn
  refine ⟨double.nearest u M E, ?_, u, K, e', hw, hW⟩
  show double.sub x y = _
  unfold Format.sub
  rw [hr, hr']
  show (Datum.sum (.number s m e) (.number (!t) n j)).map _ = _
  rw [hs]
  rfl

theorem fv_mul {x y : Nat} {a b : Int} (h : FV x a) (h' : FV y b) (hn : (a * b).natAbs < 9007199254740992) : ∃ r, floatBits .mul .f64 x y = some r ∧ FV r (a * b) := by
  obtain ⟨s, m, e, hr, hp⟩ := h
  obtain ⟨t, n, j, hr', hp'⟩ := h'
  have hR := rep_product hp hp'
  obtain ⟨K, e', hw, hW⟩ := write_exact hR hn
  refine ⟨double.nearest (s ^^ t) (m * n) (e + j), ?_, _, K, e', hw, hW⟩
  show double.mul x y = _
  unfold Format.mul
  rw [hr, hr']
  rfl

theorem compare_scale (X Y p : Int) (hp : 0 < p) : compare (X * p) (Y * p) = compare X Y := by
  rcases Int.lt_trichotomy X Y with h | h | h
  · rw [Int.compare_eq_lt.2 h, Int.compare_eq_lt.2 (Int.mul_lt_mul_of_pos_right h hp)]
  · subst h; simp
  · rw [Int.compare_eq_gt.2 h, Int.compare_eq_gt.2 (Int.mul_lt_mul_of_pos_right h hp)]

/-- Two finite numbers stand as their values do. -/
theorem order_number (s t : Bool) (m n : Nat) (i j : Int) (k : Nat) (hi : 0 ≤ i + k) (hj : 0 ≤ j + k) :
    Datum.order (.number s m i) (.number t n j) = some (compare (sg s m * 2 ^ (i + k).toNat) (sg t n * 2 ^ (j + k).toNat)) := by
  show some (compare (signed s m (i - min i j).toNat) (signed t n (j - min i j).toNat)) = _
  rw [signed_sg, signed_sg, ← compare_scale _ _ _ (two_pow_pos' (min i j + k).toNat), Int.mul_assoc, Int.mul_assoc]
  rw [← pow_split (i + k).toNat (i - min i j).toNat (min i j + k).toNat (by omega)]
  rw [← pow_split (j + k).toNat (j - min i j).toNat (min i j + k).toNat (by omega)]

theorem fv_order {x y : Nat} {a b : Int} (h : FV x a) (h' : FV y b) : FloatKind.f64.format.order x y = some (compare a b) := by
  obtain ⟨s, m, e, hr, hp⟩ := h
  obtain ⟨t, n, j, hr', hp'⟩ := h'
  show Datum.order (double.read x) (double.read y) = _
  rw [hr, hr', order_number s t m n e j ((-e).toNat + (-j).toNat) (by omega) (by omega), hp _ (by omega), hp' _ (by omega), compare_scale _ _ _ (two_pow_pos' _)]

/-- What is the same as a whole number is that number. -/
theorem fv_of_order {x y : Nat} {a : Int} (h : FV x a) (h' : FloatKind.f64.format.order x y = some .eq) : FV y a := by
  obtain ⟨s, m, e, hr, hp⟩ := h
  change Datum.order (double.read x) (double.read y) = _ at h'
  rw [hr] at h'
  cases hy : double.read y with
  | number t n j =>
    refine ⟨t, n, j, hy, ?_⟩
    rw [hy, order_number s t m n e j ((-e).toNat + (-j).toNat) (by omega) (by omega), hp _ (by omega)] at h'
    have h2 : a * 2 ^ ((-e).toNat + (-j).toNat) = _ := Int.compare_eq_eq.1 (Option.some.inj h')
    exact Rep.of ((-e).toNat + (-j).toNat) (by omega) h2.symm
  | infinity t => rw [hy] at h'; cases t <;> simp [Datum.order] at h'
  | nan t f => rw [hy] at h'; simp [Datum.order] at h'

theorem rep_toInt {s : Bool} {m : Nat} {e n : Int} (h : Rep s m e n) : (Datum.number s m e).toInt .zero = some n := by
  have hsg := h.sgn
  show some (signed s (Toward.zero.cut s (m <<< e.toNat) (-e).toNat) 0) = _
  congr 1
  rw [signed_sg, Int.pow_zero, Int.mul_one]
  rcases Int.le_total 0 e with he | he
  · have h1 := h.abs 0 (by omega)
    rw [show (-e).toNat = 0 from by omega, Nat.shiftLeft_eq]
    rw [show (e + (0 : Nat)).toNat = e.toNat from by omega] at h1
    rw [h1]
    rw [cut_zero_exact s n.natAbs 0]
    exact hsg.symm
  · have h1 := h.abs (-e).toNat (by omega)
    rw [show (e + (-e).toNat).toNat = 0 from by omega, Nat.pow_zero, Nat.mul_one] at h1
    rw [show e.toNat = 0 from by omega, Nat.shiftLeft_eq, Nat.pow_zero, Nat.mul_one, h1, cut_zero_exact]
    exact hsg.symm

theorem fv_toInt {x : Nat} {n : Int} (h : FV x n) (hn : n.natAbs < 9007199254740992) : floatToIntVal .f64 x .i64 = some n := by
  obtain ⟨s, m, e, hr, hp⟩ := h
  unfold floatToIntVal
  rw [show FloatKind.f64.decode x = .number s m e from hr, rep_toInt hp]
  simp only
  rw [if_pos]
  have e1 : IntKind.i64.min = -9223372036854775808 := by decide
  have e2 : IntKind.i64.max = 9223372036854775807 := by decide
  omega

/-- A number between two whole ones has an integer in that range. -/
theorem toInt_between {x y z : Nat} {a b : Int} (ha : FV y a) (hb : FV z b) (h0 : a ≤ 0) (h1 : 0 ≤ b) (ha' : -9223372036854775808 ≤ a) (hb' : b ≤ 9223372036854775807)
    (hl : FloatKind.f64.format.order y x = some .lt ∨ FloatKind.f64.format.order y x = some .eq) (hr : FloatKind.f64.format.order x z = some .lt ∨ FloatKind.f64.format.order x z = some .eq) :
    ∃ n, floatToIntVal .f64 x .i64 = some n ∧ a ≤ n ∧ n ≤ b := by
  obtain ⟨s, m, e, hy, hp⟩ := ha
  obtain ⟨t, n, j, hz, hq⟩ := hb
  change Datum.order (double.read y) (double.read x) = _ ∨ Datum.order (double.read y) (double.read x) = _ at hl
  change Datum.order (double.read x) (double.read z) = _ ∨ Datum.order (double.read x) (double.read z) = _ at hr
  rw [hy] at hl
  rw [hz] at hr
  cases hx : double.read x with
  | number u M i =>
    rw [hx, order_number s u m M e i ((-e).toNat + (-j).toNat + (-i).toNat) (by omega) (by omega), hp _ (by omega)] at hl
    rw [hx, order_number u t M n i j ((-e).toNat + (-j).toNat + (-i).toNat) (by omega) (by omega), hq _ (by omega)] at hr
    generalize hk : (-e).toNat + (-j).toNat + (-i).toNat = k at hl hr
    have hpk := two_pow_pos' k
    have hl' : a * 2 ^ k ≤ sg u M * 2 ^ (i + k).toNat := by
      rcases hl with h | h
      · exact Int.le_of_lt (Int.compare_eq_lt.1 (Option.some.inj h))
      · exact Int.le_of_eq (Int.compare_eq_eq.1 (Option.some.inj h))
    have hr' : sg u M * 2 ^ (i + k).toNat ≤ b * 2 ^ k := by
      rcases hr with h | h
      · exact Int.le_of_lt (Int.compare_eq_lt.1 (Option.some.inj h))
      · exact Int.le_of_eq (Int.compare_eq_eq.1 (Option.some.inj h))
    clear hl hr
    have hcut : ∃ c, Toward.zero.cut u (M <<< i.toNat) (-i).toNat = c ∧ c * 2 ^ k ≤ M * 2 ^ (i + k).toNat := by
      refine ⟨_, rfl, ?_⟩
      unfold Toward.cut
      simp only [Nat.shiftLeft_eq, Nat.one_mul, Bool.toNat_false, Nat.add_zero]
      rcases Int.le_total 0 i with hi | hi
      · rw [show (-i).toNat = 0 from by omega, Nat.zero_min, Nat.pow_zero, Nat.div_one, Nat.mul_assoc, ← Nat.pow_add, show i.toNat + k = (i + k).toNat from by omega]
        exact Nat.le_refl _
      · rw [show i.toNat = 0 from by omega, Nat.pow_zero, Nat.mul_one]
        rcases Nat.le_total (-i).toNat (M.log2 + 2) with hg | hg
        · rw [Nat.min_eq_left hg, show k = (-i).toNat + (i + k).toNat from by omega, Nat.pow_add, ← Nat.mul_assoc]
          rw [show (i + ((-i).toNat + (i + k).toNat : Nat)).toNat = (i + k).toNat from by omega]
          exact Nat.mul_le_mul_right _ (Nat.div_mul_le_self _ _)
        · rw [Nat.min_eq_right hg, Nat.div_eq_of_lt, Nat.zero_mul]
          · exact Nat.zero_le _
          · have := @Nat.lt_log2_self M
            have h2 : 2 ^ (M.log2 + 2) = 2 ^ (M.log2 + 1) * 2 := Nat.pow_succ _ _
            omega
    obtain ⟨c, hc, hc2⟩ := hcut
    have hti : (Datum.number u M i).toInt .zero = some (sg u c) := by
      show some (signed u (Toward.zero.cut u (M <<< i.toNat) (-i).toNat) 0) = _
      rw [hc, signed_sg, Int.pow_zero, Int.mul_one]
    have hc3 : (c : Int) * 2 ^ k ≤ (M : Int) * 2 ^ (i + k).toNat := by
      have := Int.ofNat_le.2 hc2
      push_cast at this
      exact this
    have hab : a ≤ sg u c ∧ sg u c ≤ b := by
      unfold sg at *
      cases u
      · simp only [Bool.false_eq_true, if_false] at *
        refine ⟨by omega, Int.le_of_mul_le_mul_right (Int.le_trans hc3 hr') hpk⟩
      · simp only [if_true] at *
        refine ⟨Int.le_of_mul_le_mul_right (a := 2 ^ k) ?_ hpk, by omega⟩
        rw [Int.neg_mul] at *
        omega
    refine ⟨sg u c, ?_, hab⟩
    unfold floatToIntVal
    rw [show FloatKind.f64.decode x = .number u M i from hx, hti]
    simp only
    rw [if_pos]
    have e1 : IntKind.i64.min = -9223372036854775808 := by decide
    have e2 : IntKind.i64.max = 9223372036854775807 := by decide
    omega
  | infinity u =>
    rw [hx] at hl hr
    cases u <;> simp [Datum.order] at hl hr
  | nan u f =>
    rw [hx] at hl
    simp [Datum.order] at hl

/-- The other sign. -/
theorem read_neg (x : Nat) (hx : x < 18446744073709551616) : double.read (Op.negFloat .f64 x) = (double.read x).opposite := by
  have e1 : double.signWeight = 9223372036854775808 := by decide
  have hn : Op.negFloat .f64 x = if x < 9223372036854775808 then x + 9223372036854775808 else x - 9223372036854775808 := by
    unfold Op.negFloat
    rw [show 2 ^ (FloatKind.f64.format.exponentBits + FloatKind.f64.format.fractionBits) = 2 ^ 63 from by decide]
    by_cases h : x < 9223372036854775808
    · rw [if_pos h]
      have := Nat.two_pow_add_eq_or_of_lt (i := 63) (b := x) (by simpa using h) 1
      have h2 : x ^^^ 2 ^ 63 = 2 ^ 63 * 1 + x := by
        rw [this]
        apply Nat.eq_of_testBit_eq
        intro i
        simp only [Nat.testBit_xor, Nat.testBit_or, Nat.testBit_two_pow, Nat.mul_one]
        by_cases hi : 63 = i
        · subst hi
          have : x.testBit 63 = false := Nat.testBit_lt_two_pow (by simpa using h)
          simp [this]
        · simp [hi]
      omega
    · rw [if_neg h]
      have hy : x - 9223372036854775808 < 2 ^ 63 := by omega
      have := Nat.two_pow_add_eq_or_of_lt (i := 63) (b := x - 9223372036854775808) hy 1
      have hx2 : x = 2 ^ 63 * 1 ||| (x - 9223372036854775808) := by rw [← this]; omega
      generalize x - 9223372036854775808 = y at *
      subst hx2
      apply Nat.eq_of_testBit_eq
      intro i
      simp only [Nat.testBit_xor, Nat.testBit_or, Nat.testBit_two_pow, Nat.mul_one]
      by_cases hi : 63 = i
      · subst hi
        have : y.testBit 63 = false := Nat.testBit_lt_two_pow hy
        simp [this]
      · simp [hi]
  rw [hn]
  unfold Format.read
  simp only [e1]
  by_cases h : x < 9223372036854775808
  · rw [if_pos h]
    have r1 : (x + 9223372036854775808) % 9223372036854775808 = x % 9223372036854775808 := by omega
    have r2 : ((x + 9223372036854775808) / 9223372036854775808 % 2 == 1) = !(x / 9223372036854775808 % 2 == 1) := by
      rw [show (x + 9223372036854775808) / 9223372036854775808 % 2 = 1 from by omega, show x / 9223372036854775808 % 2 = 0 from by omega]; rfl
    rw [r1, r2]
    split
    · rfl
    · split
      · rfl
      · split <;> rfl
  · rw [if_neg h]
    have r1 : (x - 9223372036854775808) % 9223372036854775808 = x % 9223372036854775808 := by omega
    have r2 : ((x - 9223372036854775808) / 9223372036854775808 % 2 == 1) = !(x / 9223372036854775808 % 2 == 1) := by
      rw [show (x - 9223372036854775808) / 9223372036854775808 % 2 = 0 from by omega, show x / 9223372036854775808 % 2 = 1 from by omega]; rfl
    rw [r1, r2]
    split
    · rfl
    · split
      · rfl
      · split <;> rfl

theorem fv_neg {x : Nat} {n : Int} (hx : x < 18446744073709551616) (h : FV x n) : FV (Op.negFloat .f64 x) (-n) := by
  obtain ⟨s, m, e, hr, hp⟩ := h
  exact ⟨!s, m, e, by rw [read_neg x hx, hr]; rfl, hp.opp⟩

theorem fv_neg_back {x : Nat} {n : Int} (hx : x < 18446744073709551616) (h : FV (Op.negFloat .f64 x) n) : FV x (-n) := by
  obtain ⟨s, m, e, hr, hp⟩ := h
  rw [read_neg x hx] at hr
  cases hd : double.read x with
  | number t k i =>
    rw [hd] at hr
    injection hr with h1 h2 h3
    subst h1 h2 h3
    refine ⟨t, k, i, hd, ?_⟩
    have := hp.opp
    rwa [Bool.not_not] at this
  | infinity t => rw [hd] at hr; cases hr
  | nan t f => rw [hd] at hr; cases hr
end Go.Proofs.Ytnngmapphacpkaa
