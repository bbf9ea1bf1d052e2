/-
  A holder in memory; NewHolder, Granted, Valid, Clear of package lease. No condition but that times are numbers of 64 bits.
-/
import Derived.Test.YtgdncmkhcdmjoaaLeaseB
import Derived.Test.YtgdncmkhcdmjoaaIntMap
import Derived.Test.YtgdncmkhcdmjoaaCloneI
import Derived.Test.YtgdncmkhcdmjoaaDriftF
import Derived.Deep.DeepCutAuto
set_option linter.unusedSimpArgs false
set_option linter.unusedVariables false
namespace Go.Proofs.Ytgdncmkhcdmjoaa
open Go.RowKit
theorem list_append_intsL {ops : Array Oper} {rest : List Oper} {o : Oper} {a : Act} {Q : Exit → Act → World → Prop} (w : World) (hw : Region.wanted o (yielded ops a.tmps) = true) (s x : Operand)
    (ho : o.op = .call { callee := .builtin .append, args := #[s, x], argTypes := #[22, 22] }) (base : Nat) (v : Value) (xs : List Int) (hs : a.eval s = v) (hown : OwnI w base v xs)
    (B : Nat) (A : Option Addr) (m c : Nat) (news : List Int) (hx : a.eval x = .slice A m c) (hr : HasI w B A news) (hm : news.length = m)
    (hlen : xs.length + m ≤ 17592186044416) (hbase : base ≤ w.heap.size)
    (h : ∀ v' w', OwnI w' base v' (xs ++ news) → w.grownBy w' v.ownBlock → wpList Try.prog ops Q rest (a.put o.dst v') w') : wpList Try.prog ops Q (o :: rest) a w := by
  obtain ⟨v', w', hrun, h2, h3, h4⟩ := run_append_ints w o.type base v xs hown B A m c news hr hm hlen hbase
  exact list_append_want w hw s x 22 22 ho _ _ hs hx v' w' hrun (h v' w' h2 h3)

theorem same_keyL (x z : Int) : (Lit.int .i64 z).sameKey (.int .i64 x) = decide (z = x) := by
  simp [Lit.sameKey]
theorem mem_stepL {acc : List Int} {P : Int → Bool} {left : Lit → Bool} {x : Int} (h : ∀ k, k ∈ acc ↔ P k = true ∧ left (.int .i64 k) = false) (hl : left (.int .i64 x) = true) :
    (P x = false → ∀ k, k ∈ acc ↔ P k = true ∧ (left (.int .i64 k) && !(Lit.int .i64 k).sameKey (.int .i64 x)) = false) ∧
    (P x = true → ∀ k, k ∈ acc ++ [x] ↔ P k = true ∧ (left (.int .i64 k) && !(Lit.int .i64 k).sameKey (.int .i64 x)) = false) := by
  refine ⟨fun hx k => ?_, fun hx k => ?_⟩
  · rw [h k, same_keyL]
    by_cases e : k = x
    · subst e
      rw [hx]
      simp
    · rw [decide_eq_false e]
      simp
  · rw [List.mem_append, h k, same_keyL]
    by_cases e : k = x
    · subst e
      rw [hx]
      simp
    · rw [decide_eq_false e]
      simp [e]

/-- Are so many of the members such? -/
def quoH (ms : List Int) (p : Int → Bool) : Bool := decide (ms.length / 2 + 1 ≤ ms.countP p)
theorem enB_quoH {ms ks : List Int} {p : Int → Bool} (h : ∀ k, k ∈ ks ↔ p k = true) : enB ms ks = quoH ms p := by
  unfold enB quoH cnt
  have e : ms.countP (fun m => decide (m ∈ ks)) = ms.countP p := by
    apply List.countP_congr
    intro x _
    rw [decide_eq_true_iff, h x]
  rw [e]
/-- What a holder is: members, how long a grant counts, when each was asked. -/
structure Hd where
  ms : List Int
  hold : Int
  f : Int → Option Int
structure Hd.Good (q : Hd) : Prop where
  rt : rightS q.ms
  h : 0 ≤ q.hold ∧ q.hold ≤ 1048576
  k : ∀ x t, q.f x = some t → x ∈ q.ms ∧ In64' t
def Hd.M (q : Hd) : Int → Option Value := fun x => (q.f x).map (fun t => Value.int .i64 t)
structure IsH (w : World) (g : Nat) (A : Option Addr) (n c mb : Nat) (q : Hd) : Prop where
  good : q.Good
  blk : w.heap[g]? = some (.cells #[.slice A n c, .int .i64 q.hold, .map (some mb)] 92 (0, 0))
  ms : OwnI w 0 (.slice A n c) q.ms
  map : IMap w mb q.M
section
variable {w w' : World} {g : Nat} {A : Option Addr} {n c mb : Nat} {q : Hd}
theorem rightS_mem {ms : List Int} (h : rightS ms) {x : Int} (hx : x ∈ ms) : 1 ≤ x ∧ x ≤ 9 := by
  obtain ⟨i, hi, e⟩ := List.mem_iff_getElem.1 hx
  have h5 := (h.2.2 i hi).1
  have h5 : nodeB (ms.getD i 0) = true := h5
  rw [getD_at hi] at h5
  have h6 := of_decide_eq_true (show decide (1 ≤ ms[i] ∧ ms[i] ≤ 9) = true from h5)
  rw [e] at h6
  exact h6
theorem IsH.lt (h : IsH w g A n c mb q) : g < w.heap.size := lt_of_block h.blk
theorem IsH.gm (h : IsH w g A n c mb q) : g ≠ mb := fun e => by
  obtain ⟨es, cl, h1⟩ := h.map.obj
  rw [← e, h.blk] at h1
  cases h1
theorem IsH.am (h : IsH w g A n c mb q) : ∀ j, (Value.slice A n c).ownBlock = some j → j ≠ mb := fun j hj e => by
  obtain ⟨es, cl, h1⟩ := h.map.obj
  obtain ⟨cur, hc⟩ := ownsRow_typedI h.ms j hj
  rw [e, h1] at hc
  cases hc
theorem IsH.below (h : IsH w g A n c mb q) (hb : Below w.heap.size w w') : IsH w' g A n c mb q := ⟨h.good, (hb.block g h.lt).trans h.blk, h.ms.below hb, h.map.keep (hb.block mb h.map.lt)⟩
/-- Other blocks are turned. -/
theorem IsH.kept {x : Nat} (h : IsH w g A n c mb q) (hk : Kept (fun j => j = x) w w') {cur : Array Value} {t : TypeId} (hx : w.heap[x]? = some (.cells cur t (0, 0))) (h1 : t ≠ 92) (h2 : t ≠ 3) : IsH w' g A n c mb q := by
  refine ⟨h.good, (hk.block g h.lt (fun e => ?_)).trans h.blk, h.ms.keep fun j hj => hk.block j (h.ms.lt j hj).2 (fun e => ownI_ne h.ms hx h2 (by rw [← e]; exact hj)), h.map.keep (hk.block mb h.map.lt (fun e => ?_))⟩
  · rw [← e, h.blk] at hx
    injection hx with hx
    injection hx with _ e2
    exact h1 e2.symm
  · obtain ⟨es, cl, e1⟩ := h.map.obj
    rw [e, hx] at e1
    cases e1
/-- Its map alone is turned. -/
theorem IsH.turn (h : IsH w g A n c mb q) {f' : Int → Option Int} (hg : ∀ x t, f' x = some t → x ∈ q.ms ∧ In64' t) (hm : IMap w' mb (Hd.M { q with f := f' })) (hk : Kept (fun j => j = mb) w w') : IsH w' g A n c mb { q with f := f' } :=
  ⟨⟨h.good.rt, h.good.h, hg⟩, (hk.block g h.lt h.gm).trans h.blk, h.ms.keep fun j hj => hk.block j (h.ms.lt j hj).2 (h.am j hj), hm⟩
theorem IsH.cells (h : IsH w g A n c mb q) : (w.cell? ⟨g, 0, none⟩ = some (.slice A n c) ∧ w.cell? ⟨g, 1, none⟩ = some (.int .i64 q.hold) ∧ w.cell? ⟨g, 2, none⟩ = some (.map (some mb))) ∧ ∀ i, w.frozen? ⟨g, i, none⟩ = false :=
  ⟨⟨(row_cells h.blk 0).1, (row_cells h.blk 1).1, (row_cells h.blk 2).1⟩, fun i => (row_cells h.blk i).2⟩
theorem IsH.mem (h : IsH w g A n c mb q) : HasI w w.heap.size A q.ms ∧ q.ms.length = n ∧ n ≤ 7 := by
  obtain ⟨_, _, _, e1, h1, _, h2⟩ := h.ms.form
  cases e1
  have := h.good.rt.2.1
  have h3 := h1.out
  exact ⟨h2, h3, by omega⟩
theorem eq_pH (b : Nat) (w : World) : (binOp .eql 61 (.pointer (some ⟨b, 0, none⟩)) (.pointer none)).run Try.prog w = .ok (.bool false) w := by kernel_rfl
theorem neq_pH (b : Nat) (w : World) : (binOp .neq 61 (.pointer (some ⟨b, 0, none⟩)) (.pointer none)).run Try.prog w = .ok (.bool true) w := by kernel_rfl
theorem zero_ii (w : World) : (zeroValue 3).run Try.prog w = .ok (.int .i64 0) w := by kernel_rfl
def Hd.new (ms : List Int) (len rho : Int) : Hd := ⟨ms, holdN len rho, fun _ => none⟩
theorem holdN_in (len rho : Int) : 0 ≤ holdN len rho ∧ holdN len rho ≤ 1048576 := by
  by_cases h : lentB len rho = true
  · obtain ⟨t0, t1, _, _⟩ := lent_bounds h
    have := (hold_has h).2
    omega
  · have e : lentB len rho = false := by simpa using h
    unfold holdN
    rw [e, if_neg (by simp)]
    omega
/-- What New leaves. -/
def HNewEnds (ms : List Int) (len rho : Int) (w : World) (e : Ending) (w' : World) : Prop :=
  (rightS ms → ∃ g A n c mb, e = .returned (.pointer (some ⟨g, 0, none⟩)) ∧ IsH w' g A n c mb (Hd.new ms len rho) ∧ w.heap.size ≤ g ∧ w.heap.size ≤ mb) ∧ (¬ rightS ms → e = .returned (.pointer none)) ∧ Below w.heap.size w w'
theorem hnew_is {w w1 : World} {A : Option Addr} {n c : Nat} {ms : List Int} {len rho h : Int} (hr : rightS ms) (hb : Below w.heap.size w w1) (ho : OwnI w1 w.heap.size (.slice A n c) ms) (hh : holdN len rho = h) :
    IsH ((w1.alloc (.map #[] 0)).alloc (.cells #[.slice A n c, .int .i64 h, .map (some w1.heap.size)] 92)) (w1.heap.size + 1) A n c w1.heap.size (Hd.new ms len rho) := by
  subst hh
  have hz : (w1.alloc (.map #[] 0)).heap.size = w1.heap.size + 1 := by simp
  have b1 : Below w1.heap.size w1 (w1.alloc (.map #[] 0)) := (Below.refl _ _).alloc (Nat.le_refl _) _
  have hg := heap_alloc_new (w1.alloc (.map #[] 0)) (.cells #[.slice A n c, .int .i64 (holdN len rho), .map (some w1.heap.size)] 92)
  rw [hz] at hg
  have b2 : Below (w1.alloc (.map #[] 0)).heap.size (w1.alloc (.map #[] 0)) ((w1.alloc (.map #[] 0)).alloc (.cells #[.slice A n c, .int .i64 (holdN len rho), .map (some w1.heap.size)] 92)) := (Below.refl _ _).alloc (Nat.le_refl _) _
  refine ⟨⟨hr, holdN_in len rho, fun x t e => by cases e⟩, hg, ((ho.from_ (Nat.zero_le _)).below b1).below b2, ?_⟩
  exact (IMap.new w1).keep (b2.block _ (by omega))
set_option maxRecDepth 20000 in
theorem hnew_any (Am : Option Addr) (nm cm B : Nat) (ms : List Int) (len rho : Int) (w : World) (hm : HasI w B Am ms) (hB : B ≤ w.heap.size) (hn : ms.length = nm) (hl : nm ≤ 17592186044416) :
    Calls Try.prog 29 #[.slice Am nm cm, .int .i64 len, .int .i64 rho] w (HNewEnds ms len rho w) := by
  have hck := bcheck_any Am nm cm B ms w hm hn (by omega)
  have hcl := cloneI_any' Am nm cm B ms w hm hB hn hl
  by_cases hr : rightS ms
  · rw [show chkS ms = 0 from if_pos hr] at hck
    have HR := hide hr
    have hho := hold_any len rho
    obtain ⟨h, hh⟩ : ∃ h, holdN len rho = h := ⟨_, rfl⟩
    rw [hh] at hho
    have HH := hide hh
    have hmm := @run_makeMap Try.prog
    clear hm hr hn hh
    go_enter Try.func29, Try.ntmps29
    go_wp2_with fail
    refine hck.mono ?_
    rintro e _ ⟨rfl, rfl⟩
    go_wp2_with fail
    refine hcl.mono ?_
    rintro e w1 ⟨v1, rfl, ho1, hb1⟩
    obtain ⟨A1, n1, c1, rfl, hn1, _, _⟩ := ho1.form
    have HO := hide ho1
    clear ho1
    go_wp2_with fail
    refine (hho w1).mono ?_
    rintro e _ ⟨rfl, rfl⟩
    go_wp2
    go_ret
    exact ⟨fun _ => ⟨w1.heap.size + 1, A1, n1, c1, w1.heap.size, rfl, hnew_is HR.out hb1 HO.out HH.out, by have := hb1.size; omega, hb1.size⟩, fun h => absurd HR.out h, (hb1.alloc hb1.size _).alloc (by simp; have := hb1.size; omega) _⟩
  · rw [show chkS ms = 24 from if_neg hr] at hck
    have HR := hide hr
    clear hr hm hn
    go_enter Try.func29, Try.ntmps29
    go_wp2_with fail
    refine hck.mono ?_
    rintro e _ ⟨rfl, rfl⟩
    go_wp2
    go_ret
    exact ⟨fun h => absurd h HR.out, fun _ => rfl, Below.refl _ _⟩
/-- What a call on a holder leaves. -/
def HEnds (g : Nat) (A : Option Addr) (n c mb : Nat) (q : Hd) (r : Value) (w : World) (e : Ending) (w' : World) : Prop := e = .returned r ∧ IsH w' g A n c mb q ∧ Kept (fun j => j = mb) w w'
/-- What Granted does. -/
def Hd.granted (q : Hd) (node asked : Int) : Hd × Bool :=
  if node ∈ q.ms then ({ q with f := fun x => if x = node then some (match q.f node with | none => asked | some t => max t asked) else q.f x }, true) else (q, false)
set_option maxHeartbeats 800000 in
set_option maxRecDepth 20000 in
theorem hgranted_any (h : IsH w g A n c mb q) (node asked : Int) (hnw : (Lit.int .i64 node).wf = true) (ha : In64' asked) : Calls Try.prog 32 #[.pointer (some ⟨g, 0, none⟩), .int .i64 node, .int .i64 asked] w (HEnds g A n c mb (q.granted node asked).1 (.bool (q.granted node asked).2) w) := by
  obtain ⟨m1, m2, m3⟩ := h.mem
  have hhas := has_any A n c w.heap.size q.ms node w m1 m2 (by omega)
  obtain ⟨⟨c0, c1, c2⟩, _⟩ := h.cells
  have heq := eq_pH g
  by_cases hm : node ∈ q.ms
  · rw [decide_eq_true hm] at hhas
    have hlk := h.map.look Try.underlying90 true hnw (zero_ii w)
    rw [if_pos rfl] at hlk
    obtain ⟨w2, hrun, hst, htn⟩ := h.map.store Try.underlying90 (fun x v hx => by
      unfold Hd.M at hx
      cases hf : q.f x with
      | none => rw [hf] at hx; cases hx
      | some t => have := rightS_mem h.good.rt (h.good.k x t hf).1; omega) hnw (.int .i64 asked)
    have hk2 : Kept (fun j => j = mb) w w2 := Kept.of_grown (F := fun j => j = mb) htn.grown (fun j hj => (Option.some.inj hj).symm)
    have HE : Hid (q.granted node asked = ({ q with f := fun x => if x = node then some (match q.f node with | none => asked | some t => max t asked) else q.f x }, true)) := hide (if_pos hm)
    have HSTORE : Hid ((match q.f node with | none => asked | some t => max t asked) = asked → IsH w2 g A n c mb (q.granted node asked).1) := hide (fun e => by
      rw [HE.out]
      refine h.turn (fun x t hx => ?_) ?_ hk2
      · by_cases e1 : x = node
        · rw [if_pos e1, e] at hx
          exact ⟨by rw [e1]; exact hm, by cases hx; exact ha⟩
        · rw [if_neg e1] at hx
          exact h.good.k x t hx
      · have e3 : (Hd.M { q with f := fun x => if x = node then some (match q.f node with | none => asked | some t => max t asked) else q.f x }) = fun y => if y = node then some (.int .i64 asked) else q.M y := by
          funext y
          unfold Hd.M
          by_cases e1 : y = node
          · simp only [e1, if_true, e, Option.map_some]
          · simp only [e1, if_false]
        rw [e3]
        exact hst)
    cases hf : q.f node with
    | none =>
      have hM : q.M node = none := by unfold Hd.M; rw [hf]; rfl
      rw [hM] at hlk
      have HS := hide (HSTORE.out (by rw [hf]))
      have HK := hide hk2
      clear h hm hst htn hk2 hf hM HSTORE m1 m2 m3 ha
      go_enter Try.func32, Try.ntmps32
      go_wp2_with fail
      refine hhas.mono ?_
      rintro e _ ⟨rfl, rfl⟩
      go_wp2
      go_ret
      refine ⟨by rw [HE.out]; rfl, HS.out, HK.out⟩
    | some t =>
      have hM : q.M node = some (.int .i64 t) := by unfold Hd.M; rw [hf]; rfl
      rw [hM] at hlk
      by_cases hlt : t < asked
      · have d1 : decide (t < asked) = true := decide_eq_true hlt
        have HS := hide (HSTORE.out (by rw [hf]; show max t asked = asked; omega))
        have HK := hide hk2
        clear h hm hst htn hk2 hf hM HSTORE m1 m2 m3 ha hlt
        go_enter Try.func32, Try.ntmps32
        go_wp2_with fail
        refine hhas.mono ?_
        rintro e _ ⟨rfl, rfl⟩
        go_wp2
        go_ret
        refine ⟨by rw [HE.out]; rfl, HS.out, HK.out⟩
      · have d1 : decide (t < asked) = false := decide_eq_false hlt
        have hsame : (q.granted node asked).1 = q := by
          rw [HE.out]
          have : (fun x => if x = node then some (match q.f node with | none => asked | some t => max t asked) else q.f x) = q.f := by
            funext x
            by_cases e1 : x = node
            · rw [if_pos e1, e1, hf]
              show some (max t asked) = some t
              rw [show max t asked = t by omega]
            · rw [if_neg e1]
          rw [this]
        have HS : Hid (IsH w g A n c mb (q.granted node asked).1) := hide (by rw [hsame]; exact h)
        clear h hm hst htn hk2 hf hM HSTORE m1 m2 m3 ha hlt hsame hrun
        go_enter Try.func32, Try.ntmps32
        go_wp2_with fail
        refine hhas.mono ?_
        rintro e _ ⟨rfl, rfl⟩
        go_wp2
        go_ret
        refine ⟨by rw [HE.out]; rfl, HS.out, Kept.refl _ _⟩
  · rw [decide_eq_false hm] at hhas
    have HE : Hid (q.granted node asked = (q, false)) := hide (if_neg hm)
    have HS := hide h
    clear h hm m1 m2 m3 ha
    go_enter Try.func32, Try.ntmps32
    go_wp2_with fail
    refine hhas.mono ?_
    rintro e _ ⟨rfl, rfl⟩
    go_wp2
    go_ret
    rw [HE.out]
    exact ⟨rfl, HS.out, Kept.refl _ _⟩
theorem hgranted_nil (node asked : Int) (w : World) : Calls Try.prog 32 #[.pointer none, .int .i64 node, .int .i64 asked] w fun e w' => e = .returned (.bool false) ∧ w = w' := by
  go_enter Try.func32, Try.ntmps32
  go_wp2
  go_ret
  exact ⟨rfl, rfl⟩
theorem hvalid_nil (now : Int) (w : World) : Calls Try.prog 31 #[.pointer none, .int .i64 now] w fun e w' => e = .returned (.bool false) ∧ w = w' := by
  go_enter Try.func31, Try.ntmps31
  go_wp2
  go_ret
  exact ⟨rfl, rfl⟩
end
end Go.Proofs.Ytgdncmkhcdmjoaa
