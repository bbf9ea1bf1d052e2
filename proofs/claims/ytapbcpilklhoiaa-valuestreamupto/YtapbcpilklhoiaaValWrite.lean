/-
  Write of package value, and the head's value. Conditions: what is read is in reach.
-/
import Derived.Test.YtapbcpilklhoiaaValPut
set_option linter.unusedSimpArgs false
set_option linter.unusedVariables false
namespace Go.Proofs.Ytapbcpilklhoiaa
open Go.RowKit

theorem stop_any (w : World) : Calls Try.prog 44 #[] w fun e w' => ∃ A, e = .returned (.agg #[.int .i64 2, .slice none 0 0, .slice A 2 2]) ∧ HasI w' w'.heap.size A [1, 2] ∧ Below w.heap.size w w' := by
  go_enter Try.func44, Try.ntmps44
  go_wp2
  go_returns
  refine ⟨_, rfl, ?_, by go_grown⟩
  exact (HasI.new (w.alloc _) 3 [1, 2] (0, 0) (w.heap.size + 1) (by simp)).more (by simp)

/-- The number of an int's bits. -/
def unb (n : Int) : Nat := (n % 18446744073709551616).toNat
theorem unb_lt (n : Int) : unb n < 18446744073709551616 := by unfold unb; omega
theorem unb_wrap (n : Int) : IntKind.u64.wrap n = (unb n : Int) := by unfold unb; rw [IntKind.wrap_u64]; omega
theorem unb_nat (n : Nat) (h : n < 18446744073709551616) : unb (n : Int) = n := by unfold unb; omega

def encCs (cs : List Cmdv) : List UInt8 := cs.flatMap fun c => encL c.ints
def encNs (ns : List Int) : List UInt8 := ns.flatMap fun m => enc (unb m)
theorem encCs_take (cs : List Cmdv) (k : Nat) (hk : k < cs.length) : encCs (cs.take (k + 1)) = encCs (cs.take k) ++ encL cs[k].ints := by
  unfold encCs
  rw [List.take_succ_eq_append_getElem hk, List.flatMap_append, List.flatMap_singleton]
theorem encNs_take (ns : List Int) (k : Nat) (hk : k < ns.length) : encNs (ns.take (k + 1)) = encNs (ns.take k) ++ enc (unb ns[k]) := by
  unfold encNs
  rw [List.take_succ_eq_append_getElem hk, List.flatMap_append, List.flatMap_singleton]
theorem encCs_length (cs : List Cmdv) : (encCs cs).length ≤ 72 * cs.length := by
  induction cs with
  | nil => simp [encCs]
  | cons x xs ih =>
    have e : encCs (x :: xs) = encL x.ints ++ encCs xs := rfl
    have := encL_length x.ints
    have h8 : x.ints.length = 8 := rfl
    rw [e, List.length_append, List.length_cons]
    omega
theorem encNs_length (ns : List Int) : (encNs ns).length ≤ 9 * ns.length := by
  induction ns with
  | nil => simp [encNs]
  | cons x xs ih =>
    have e : encNs (x :: xs) = enc (unb x) ++ encNs xs := rfl
    have := bw_le (unb x)
    rw [e, List.length_append, enc_length, List.length_cons]
    omega
/-- The bytes of a value. -/
def encV (kd : Int) (cs : List Cmdv) (ns : List Int) : List UInt8 := enc (unb kd) ++ (enc cs.length ++ (encCs cs ++ (enc ns.length ++ encNs ns)))

theorem Kept.cell {F : Nat → Prop} {w w' : World} (h : Kept F w w') {k i : Nat} (hk : k < w.heap.size) (hF : ¬ F k) : w'.cell? ⟨k, i, none⟩ = w.cell? ⟨k, i, none⟩ :=
  World.cell?_of_block (w := w) (a := ⟨k, i, none⟩) (h.block k hk hF)

/-- What stands behind calls that write: the writer, where its bytes lie, what is kept. -/
structure WGo (g : Nat) (b : Option Nat) (base : Nat) (W0 : World) (ys : List UInt8) (b' : Option Nat) (w' : World) : Prop where
  wr : Wr w' base g b' ys
  lie : b' = b ∨ ∃ k, b' = some k ∧ W0.heap.size ≤ k
  kept : Kept (Foot g b) W0 w'
theorem WGo.step {g : Nat} {b b1 : Option Nat} {base : Nat} {W0 w1 w2 : World} {ys zs : List UInt8} (h : WGo g b base W0 ys b1 w1)
    {b2 : Option Nat} (hw : Wr w2 base g b2 zs) (hl : b2 = b1 ∨ ∃ k, b2 = some k ∧ w1.heap.size ≤ k) (hk : Kept (Foot g b1) w1 w2) : WGo g b base W0 zs b2 w2 :=
  ⟨hw, lies_step h.lie hl h.kept.size, h.kept.step hk (foot_step h.lie)⟩
theorem WGo.drew {g : Nat} {b b1 : Option Nat} {base : Nat} {W0 w1 : World} {ys : List UInt8} (h : WGo g b base W0 ys b1 w1) : WGo g b base W0 ys b1 w1.drew :=
  ⟨h.wr, h.lie, h.kept.drew⟩
theorem WGo.alloc {g : Nat} {b b1 : Option Nat} {base : Nat} {W0 w1 : World} {ys : List UInt8} (h : WGo g b base W0 ys b1 w1) (o : Obj) : WGo g b base W0 ys b1 (w1.alloc o) :=
  ⟨h.wr.below ((Below.refl _ _).alloc (Nat.le_refl _) o), h.lie, h.kept.step (Kept.of_below (F := fun _ => False) ((Below.refl _ _).alloc (Nat.le_refl _) o)) (fun _ h => h.elim)⟩

set_option maxHeartbeats 1600000 in
theorem vwrite_any (g base : Nat) (b : Option Nat) (xs : List UInt8) (kd : Int) (A A' : Option Addr) (n c n' c' B : Nat) (cs : List Cmdv) (ns : List Int) (w : World) (hw : Wr w base g b xs) (hC : HasC w B A cs) (hN : HasI w B A' ns) (hB : B ≤ base)
    (hn : cs.length = n) (hn' : ns.length = n') (hcs : ∀ x ∈ cs, IsCmd x) (hlen : xs.length + 27 + 72 * n + 9 * n' ≤ 140737488355328) :
    Calls Try.prog 47 #[.pointer (some ⟨g, 0, none⟩), .agg #[.int .i64 kd, .slice A n c, .slice A' n' c']] w (PEnds g b base (xs ++ encV kd cs ns) w) := by
  have hgs := hw.lt
  have hbs : base ≤ w.heap.size := by have := hw.1; omega
  go_enter Try.func47, Try.ntmps47
  go_wp2_with fail
  have c0 : (w.alloc (.cells #[.int .i64 kd, .slice A n c, .slice A' n' c'] 48)).cell? ⟨w.heap.size, 0, none⟩ = some (.int .i64 kd) := cell_of_row _ _ _ _ _ _ (heap_alloc_new w _)
  have c1 : (w.alloc (.cells #[.int .i64 kd, .slice A n c, .slice A' n' c'] 48)).cell? ⟨w.heap.size, 1, none⟩ = some (.slice A n c) := cell_of_row _ _ _ _ _ _ (heap_alloc_new w _)
  have c2 : (w.alloc (.cells #[.int .i64 kd, .slice A n c, .slice A' n' c'] 48)).cell? ⟨w.heap.size, 2, none⟩ = some (.slice A' n' c') := cell_of_row _ _ _ _ _ _ (heap_alloc_new w _)
  have hb0 : Below w.heap.size w (w.alloc (.cells #[.int .i64 kd, .slice A n c, .slice A' n' c'] 48)) := (Below.refl _ _).alloc (Nat.le_refl _) _
  have hsz : (w.alloc (.cells #[.int .i64 kd, .slice A n c, .slice A' n' c'] 48)).heap.size = w.heap.size + 1 := by simp
  generalize w.alloc (.cells #[.int .i64 kd, .slice A n c, .slice A' n' c'] 48) = W0 at *
  have hC0 : HasC W0 B A cs := hC.on (by omega) hb0
  have hN0 : HasI W0 B A' ns := hN.on (by omega) hb0
  have hw0 : WGo g b base W0 xs b W0 := ⟨hw.below hb0, .inl rfl, Kept.refl _ _⟩
  have hft := hw.foot
  have hbox : ¬ Foot g b w.heap.size := fun h => by have := (hft _ h).2; omega
  have hlow : ∀ k, Foot g b k → base ≤ k := fun k h => (hft k h).1
  have HEnd : Hid (∀ b' ys w', WGo g b base W0 ys b' w' → PEnds g b base ys w (.returned (.tuple #[])) w') := hide (fun b' ys w' h => ⟨rfl, b', h.wr, by
    rcases h.lie with h1 | ⟨k, h1, h2⟩
    · exact .inl h1
    · exact .inr ⟨k, h1, by omega⟩, (Kept.of_below hb0).step h.kept (fun k hk => .inl hk)⟩)
  clear hC hN hw hb0 hft
  generalize w.heap.size = gb at *
  have hgb : gb < W0.heap.size := by omega
  have HKC : Hid (∀ ys b' w', WGo g b base W0 ys b' w' → w'.cell? ⟨gb, 0, none⟩ = some (.int .i64 kd) ∧ w'.cell? ⟨gb, 1, none⟩ = some (.slice A n c) ∧ w'.cell? ⟨gb, 2, none⟩ = some (.slice A' n' c')) := hide (fun ys b' w' h => ⟨(h.kept.cell hgb hbox).trans c0, (h.kept.cell hgb hbox).trans c1, (h.kept.cell hgb hbox).trans c2⟩)
  have HHC : Hid (∀ ys b' w', WGo g b base W0 ys b' w' → HasC w' B A cs ∧ HasI w' B A' ns) := hide (fun ys b' w' h => ⟨hC0.keep fun k _ _ hk => h.kept.block k (by omega) (fun hf => by have := hlow k hf; omega), hN0.keep fun k hk => h.kept.block k (by omega) (fun hf => by have := hlow k hf; omega)⟩)
  have hku := unb_wrap kd
  have hnu : IntKind.u64.wrap (n : Int) = (n : Int) := by rw [IntKind.wrap_u64]; omega
  have hnu' : IntKind.u64.wrap (n' : Int) = (n' : Int) := by rw [IntKind.wrap_u64]; omega
  have hbk := bw_le (unb kd)
  have hbn := bw_le n
  have hbn' := bw_le n'
  have HN : Hid (∀ (u : Nat) (ys : List UInt8) (b1 : Option Nat) (W : World), u < 18446744073709551616 → ys.length + 9 ≤ 140737488355328 → WGo g b base W0 ys b1 W → Calls Try.prog 73 #[.pointer (some ⟨g, 0, none⟩), .int .u64 (u : Int)] W fun e w' => e = .returned (.pointer (some ⟨g, 0, none⟩)) ∧ ∃ b', WGo g b base W0 (ys ++ enc u) b' w') := hide (fun u ys b1 W hu hl h => (wnum_any g base b1 ys u W h.wr hu hl).mono fun e w' => by
    rintro ⟨rfl, b2, hw2, hb2, hk2⟩
    exact ⟨rfl, b2, h.step hw2 hb2 hk2⟩)
  have L1 := hide (show xs.length + 9 ≤ 140737488355328 by omega)
  have L2 := hide (show (xs ++ enc (unb kd)).length + 9 ≤ 140737488355328 by rw [List.length_append, enc_length]; omega)
  have U1 := hide (unb_lt kd)
  have U2 := hide (show n < 18446744073709551616 by omega)
  have U3 := hide (show n' < 18446744073709551616 by omega)
  generalize hu : unb kd = u at *
  have HU := hide hu
  clear hu
  go_region_held3 (fun w' => w'.cell? ⟨gb, 0, none⟩ = some (.int .i64 kd) ∧ w'.cell? ⟨gb, 1, none⟩ = some (.slice A n c)) (first | exact ⟨c0, c1⟩ | exact ⟨(HKC.out _ _ _ h2).1, (HKC.out _ _ _ h2).2.1⟩ | exact ⟨(HKC.out _ _ _ h3).1, (HKC.out _ _ _ h3).2.1⟩ | go_keep) (first
    | ((go_at_call 73; (with_reducible refine (HN.out u xs b _ U1.out L1.out ?_).mono ?_)); exact hw0.drew; rintro e w2 ⟨rfl, b2, h2⟩)
    | ((go_at_call 73; (with_reducible refine (HN.out n (xs ++ enc u) b2 _ U2.out L2.out ?_).mono ?_)); exact h2; rintro e w3 ⟨rfl, b3, h3⟩))
  clear h2 hw0
  obtain ⟨k0, k1, k2⟩ := HKC.out _ _ _ h3
  go_wp2_with fail
  have HLC := hide (fun k => encCs_length (cs.take k))
  have HLN := hide (fun k => encNs_length (ns.take k))
  have hle3 : (xs ++ enc u ++ enc n).length ≤ xs.length + 18 := by rw [List.length_append, List.length_append, enc_length, enc_length]; omega
  have HXS : Hid (∀ zs, xs ++ enc u ++ enc n ++ zs = xs ++ (enc u ++ (enc n ++ zs))) := hide (fun zs => by simp)
  generalize xs ++ enc u ++ enc n = ys at *
  have HCS := hide hcs
  have HNN := hide hn
  have HNN' := hide hn'
  clear hcs hn hn' L1 L2 hlow hbox hgs hbs
  go_loopw [21] (fun i wr => ∃ (k : Nat) (b' : Option Nat), k ≤ n ∧ i = .int .i64 k ∧ WGo g b base W0 (ys ++ encCs (cs.take k)) b' wr) (fun i _ => n - (intOf i).toNat)
  case atStart => exact ⟨0, b3, Nat.zero_le _, rfl, by simpa [encCs] using h3⟩
  case round =>
    clear k0 k1 k2 h3
    obtain ⟨k, b1, hk, rfl, h1⟩ := hrel
    by_cases hlt : k < n
    · have hlt' : k < cs.length := by rw [HNN.out]; exact hlt
      have hcm := HCS.out _ (List.getElem_mem hlt')
      have htk := encCs_take cs k hlt'
      have hcl := (HHC.out _ _ _ h1).1 k hlt'
      have hle : (ys ++ encCs (cs.take k)).length + 72 ≤ 140737488355328 := by
        have := HLC.out k
        rw [List.length_take] at this
        rw [List.length_append]
        omega
      generalize cs[k] = cm at *
      obtain ⟨ab, ao, rfl, hab, e0, e1, e2, e3, e4, e5, e6, e7⟩ := hcl
      generalize hzs : ys ++ encCs (cs.take k) = zs at *
      have HZ : Hid (ys ++ encCs (cs.take (k + 1)) = zs ++ encL cm.ints) := hide (by rw [htk, ← List.append_assoc, hzs])
      have HL := hide hle
      clear hle htk hzs
      go_wp2_with fail
      refine (putcmd_any g base b1 zs cm _ (h1.alloc _).wr hcm HL.out).mono ?_
      rintro e w4 ⟨rfl, b4, hw4, hb4, hk4⟩
      have h4 := (h1.alloc (.cells #[.int .i64 cm.s, .int .i64 cm.q, .int .i64 cm.a, .int .i64 cm.k, .int .i64 cm.r, .int .i64 cm.t, .int .i64 cm.re, .int .i64 cm.im] 52)).step hw4 hb4 hk4
      go_wp2
      go_roundw
      case rel => exact ⟨k + 1, b4, by omega, by go_num, by rw [HZ.out]; exact h4⟩
      case measure => simp [intOf]; omega
    · obtain rfl : k = n := by omega
      obtain ⟨k0, k1, k2⟩ := HKC.out _ _ _ h1
      have hcs : cs.take k = cs := List.take_of_length_le (by rw [HNN.out]; omega)
      rw [hcs] at h1
      have L3 : Hid ((ys ++ encCs cs).length + 9 ≤ 140737488355328) := hide (by
        have := HLC.out k
        rw [hcs, HNN.out] at this
        rw [List.length_append]
        omega)
      go_wp2_with fail
      refine (HN.out n' (ys ++ encCs cs) b1 _ U3.out L3.out h1).mono ?_
      rintro e w5 ⟨rfl, b5, h5⟩
      obtain ⟨k0, k1, k2⟩ := HKC.out _ _ _ h5
      go_wp2_with fail
      have hle5 : (ys ++ encCs cs ++ enc n').length ≤ xs.length + 27 + 72 * k := by
        have := HLC.out k
        rw [hcs, HNN.out] at this
        rw [List.length_append, List.length_append, enc_length]
        omega
      have HALL : Hid (xs ++ encV kd cs ns = ys ++ encCs cs ++ enc n' ++ encNs ns) := hide (by
        unfold encV
        rw [HU.out, HNN.out, HNN'.out, ← HXS.out]
        simp)
      generalize ys ++ encCs cs ++ enc n' = qs at *
      clear h1 k0 k1 k2 hcs
      go_loopw [38] (fun i wr => ∃ (j : Nat) (b' : Option Nat), j ≤ n' ∧ i = .int .i64 j ∧ WGo g b base W0 (qs ++ encNs (ns.take j)) b' wr) (fun i _ => n' - (intOf i).toNat)
      case atStart => exact ⟨0, b5, Nat.zero_le _, rfl, by simpa [encNs] using h5⟩
      case round =>
        clear h5
        obtain ⟨j, b6, hj, rfl, h6⟩ := hrel
        by_cases hlt : j < n'
        · have hlt' : j < ns.length := by rw [HNN'.out]; exact hlt
          have htk := encNs_take ns j hlt'
          have hcl := (HHC.out _ _ _ h6).2 j hlt'
          have hle : (qs ++ encNs (ns.take j)).length + 9 ≤ 140737488355328 := by
            have := HLN.out j
            rw [List.length_take] at this
            rw [List.length_append]
            omega
          generalize ns[j] = m at *
          obtain ⟨ab, ao, rfl, hab, e0⟩ := hcl
          generalize hzs : qs ++ encNs (ns.take j) = zs at *
          have HZ : Hid (qs ++ encNs (ns.take (j + 1)) = zs ++ enc (unb m)) := hide (by rw [htk, ← List.append_assoc, hzs])
          have HL := hide hle
          have hmu := unb_wrap m
          have UM := hide (unb_lt m)
          clear hle htk hzs
          go_wp2_with fail
          refine (HN.out (unb m) zs b6 _ UM.out HL.out h6).mono ?_
          rintro e w7 ⟨rfl, b7, h7⟩
          go_wp2
          go_roundw
          case rel => exact ⟨j + 1, b7, by omega, by go_num, by rw [HZ.out]; exact h7⟩
          case measure => simp [intOf]; omega
        · obtain rfl : j = n' := by omega
          have hns : ns.take j = ns := List.take_of_length_le (by rw [HNN'.out]; omega)
          rw [hns] at h6
          go_wp2
          go_end0
          rw [HALL.out]
          exact HEnd.out _ _ _ h6
end Go.Proofs.Ytapbcpilklhoiaa
