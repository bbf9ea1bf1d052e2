/-
  The reference's holder: NewHolder and Granted; what they say of the latest times. No condition but the reach of what is read.
-/
import Derived.Test.YtgdncmkhcdmjoaaLeaseH
set_option linter.unusedSimpArgs false
set_option linter.unusedVariables false
namespace Go.Proofs.Ytgdncmkhcdmjoaa
open Go.RowKit
/-- The latest time of a node among pairs. -/
def lastS (x : Int) (o : Option Int) (p : Int × Int) : Option Int := if p.1 = x then some (match o with | none => p.2 | some t => max t p.2) else o
def lastF (ps : List (Int × Int)) (x : Int) : Option Int := ps.foldl (lastS x) none
def lastG (x : Int) (t : Int) (p : Int × Int) : Int := if p.1 = x then max t p.2 else t
theorem lastF_snoc (ps : List (Int × Int)) (p : Int × Int) (x : Int) : lastF (ps ++ [p]) x = if p.1 = x then some (match lastF ps x with | none => p.2 | some t => max t p.2) else lastF ps x := by
  unfold lastF
  rw [List.foldl_append]
  rfl
theorem lastG_max (x s : Int) : ∀ (l : List (Int × Int)) (t : Int), l.foldl (lastG x) (max s t) = max s (l.foldl (lastG x) t)
  | [], t => rfl
  | p :: l, t => by
    show l.foldl (lastG x) (lastG x (max s t) p) = max s (l.foldl (lastG x) (lastG x t p))
    have e : lastG x (max s t) p = max s (lastG x t p) := by
      unfold lastG
      split
      · omega
      · rfl
    rw [e, lastG_max x s l]
theorem lastG_ge (x : Int) (p : Int × Int) (hp : p.1 = x) : ∀ (l : List (Int × Int)) (t : Int), p ∈ l → p.2 ≤ l.foldl (lastG x) t
  | a :: l, t, h => by
    show p.2 ≤ l.foldl (lastG x) (lastG x t a)
    rcases List.mem_cons.1 h with rfl | h
    · have e : lastG x t p = max p.2 t := by unfold lastG; rw [if_pos hp, Int.max_comm]
      rw [e, lastG_max]
      omega
    · exact lastG_ge x p hp l _ h
theorem lastS_some (x : Int) : ∀ (l : List (Int × Int)) (t : Int), l.foldl (lastS x) (some t) = some (l.foldl (lastG x) t)
  | [], _ => rfl
  | a :: l, t => by
    show l.foldl (lastS x) (lastS x (some t) a) = some (l.foldl (lastG x) (lastG x t a))
    have e : lastS x (some t) a = some (lastG x t a) := by
      unfold lastS lastG
      split <;> rfl
    rw [e, lastS_some x l]
theorem lastF_in (x : Int) (p : Int × Int) (hp : p.1 = x) : ∀ (l : List (Int × Int)), p ∈ l → l.foldl (lastS x) none = some (l.foldl (lastG x) p.2)
  | a :: l, h => by
    show l.foldl (lastS x) (lastS x none a) = some (l.foldl (lastG x) (lastG x p.2 a))
    by_cases ha : a.1 = x
    · have e1 : lastS x none a = some a.2 := if_pos ha
      have e2 : lastG x p.2 a = max p.2 a.2 := if_pos ha
      rw [e1, e2, lastS_some, lastG_max]
      congr 1
      rcases List.mem_cons.1 h with rfl | h
      · have := lastG_max x p.2 l p.2
        rw [show max p.2 p.2 = p.2 by omega] at this
        exact this
      · have := lastG_ge x p hp l a.2 h
        omega
    · have e1 : lastS x none a = none := if_neg ha
      have e2 : lastG x p.2 a = p.2 := if_neg ha
      rw [e1, e2]
      rcases List.mem_cons.1 h with rfl | h
      · exact absurd hp ha
      · exact lastF_in x p hp l h
theorem lastF_none (x : Int) : ∀ (l : List (Int × Int)), (∀ p ∈ l, p.1 ≠ x) → lastF l x = none
  | [], _ => rfl
  | a :: l, h => by
    show l.foldl (lastS x) (lastS x none a) = none
    have e1 : lastS x none a = none := if_neg (h a (by simp))
    rw [e1]
    exact lastF_none x l fun p hp => h p (by simp [hp])
theorem list_append_ints5 {ops : Array Oper} {rest : List Oper} {o : Oper} {a : Act} {Q : Exit → Act → World → Prop} (w : World) (hw : Region.wanted o (yielded ops a.tmps) = true) (s x : Operand)
    (ho : o.op = .call { callee := .builtin .append, args := #[s, x], argTypes := #[22, 22] }) (base : Nat) (v : Value) (xs : List Int) (hs : a.eval s = v) (hown : OwnI w base v xs)
    (B : Nat) (A : Option Addr) (m c : Nat) (news : List Int) (hx : a.eval x = .slice A m c) (hr : HasI w B A news) (hm : news.length = m)
    (hlen : xs.length + m ≤ 17592186044416) (hbase : base ≤ w.heap.size)
    (h : ∀ v' w', OwnI w' base v' (xs ++ news) → w.grownBy w' v.ownBlock → (v'.ownBlock = v.ownBlock ∨ v'.ownBlock = some w.heap.size) → wpList Try.prog ops Q rest (a.put o.dst v') w') : wpList Try.prog ops Q (o :: rest) a w := by
  obtain ⟨v', w', hrun, h2, h3, h4⟩ := run_append_ints w o.type base v xs hown B A m c news hr hm hlen hbase
  exact list_append_want w hw s x 22 22 ho _ _ hs hx v' w' hrun (h v' w' h2 h3 h4)
theorem hrn_cell {tmps : Array Value} {w : World} {g : Nat} {A : Array Value} {t : TypeId} {v : Value} (h2 : tmps.getD 6 undef = .pointer (some ⟨g, 0, none⟩)) (h3 : tmps.getD 7 undef = v) (hA : w.heap[g]? = some (.cells A t (0, 0))) (sA : A.size = 4) :
    (results Try.f28 tmps).run Try.prog w = .ok (.tuple #[.agg A, v]) w := by
  have h2' : tmps[6]?.getD undef = .pointer (some ⟨g, 0, none⟩) := by simpa using h2
  have h3' : tmps[7]?.getD undef = v := by simpa using h3
  have i1 : (Try.prog.info? 58).map (·.size) = some A.size := by rw [sA]; kernel_rfl
  have e1 := run_loadVar_row (P := Try.prog) w g t 58 A (0, 0) _ hA Try.underlying58 rfl i1
  simp [results, Try.results28, h2', h3', asAddr, e1]
  try rfl
theorem hrg_cell {tmps : Array Value} {w : World} {g : Nat} {A : Array Value} {t : TypeId} {v : Value} (h2 : tmps.getD 6 undef = .pointer (some ⟨g, 0, none⟩)) (h3 : tmps.getD 7 undef = v) (hA : w.heap[g]? = some (.cells A t (0, 0))) (sA : A.size = 4) :
    (results Try.f33 tmps).run Try.prog w = .ok (.tuple #[.agg A, v]) w := by
  have h2' : tmps[6]?.getD undef = .pointer (some ⟨g, 0, none⟩) := by simpa using h2
  have h3' : tmps[7]?.getD undef = v := by simpa using h3
  have i1 : (Try.prog.info? 58).map (·.size) = some A.size := by rw [sA]; kernel_rfl
  have e1 := run_loadVar_row (P := Try.prog) w g t 58 A (0, 0) _ hA Try.underlying58 rfl i1
  simp [results, Try.results33, h2', h3', asAddr, e1]
  try rfl
/-- What the reference's NewHolder answers. -/
def HRNewEnds (ms : List Int) (len rho : Int) (w : World) (e : Ending) (w' : World) : Prop :=
  ∃ A n c, e = .returned (.tuple #[.agg #[.slice A n c, .int .i64 (holdN len rho), .slice none 0 0, .slice none 0 0], .bool (decide (rightS ms))]) ∧ OwnI w' w.heap.size (.slice A n c) ms ∧ Below w.heap.size w w'
set_option maxHeartbeats 1600000 in
set_option maxRecDepth 20000 in
theorem hrnew_any (Am : Option Addr) (nm cm B : Nat) (ms : List Int) (len rho : Int) (w : World) (hm : HasI w B Am ms) (hB : B ≤ w.heap.size) (hn : ms.length = nm) (hl : nm ≤ 17592186044416) :
    Calls Try.prog 28 #[.slice Am nm cm, .int .i64 len, .int .i64 rho] w (HRNewEnds ms len rho w) := by
  have hq0 := heap_alloc_new w (.cells #[.slice none 0 0, .int .i64 0, .slice none 0 0, .slice none 0 0] 58)
  have hb0 : Below w.heap.size w (w.alloc (.cells #[.slice none 0 0, .int .i64 0, .slice none 0 0, .slice none 0 0] 58)) := (Below.refl _ _).alloc (Nat.le_refl _) _
  have hm0 := hm.alloc hB (.cells #[.slice none 0 0, .int .i64 0, .slice none 0 0, .slice none 0 0] 58)
  have hz0 : (w.alloc (.cells #[.slice none 0 0, .int .i64 0, .slice none 0 0, .slice none 0 0] 58)).heap.size = w.heap.size + 1 := by simp
  go_enter Try.func28, Try.ntmps28
  go_upto_region 1 with fail
  generalize w.alloc (.cells #[.slice none 0 0, .int .i64 0, .slice none 0 0, .slice none 0 0] 58) = w0 at *
  have hho := rhold_any len rho
  obtain ⟨h, hh⟩ : ∃ h, holdN len rho = h := ⟨_, rfl⟩
  rw [hh] at hho
  obtain ⟨v1, wa, hr1, hown1, hba⟩ := run_copy_ints w0 22 Am nm cm B ms hm0 hn hl (by omega)
  obtain ⟨Aa, na, ca, rfl, hna, hnca, hxa⟩ := hown1.form
  have hri := rright_any Am nm cm B ms wa (hm0.below (hba.mono (by omega))) hn (by omega)
  obtain ⟨rb, hrb⟩ : ∃ rb, decide (rightS ms) = rb := ⟨_, rfl⟩
  rw [hrb] at hri
  have HH := hide hh
  have HRB := hide hrb
  have HR1 := hide hr1
  have HO := hide hown1
  have HZ := hide hz0
  have hq1 := (hba.block _ (lt_of_block hq0)).trans hq0
  have HQ := hide hq1
  have HB := hide (hb0.trans (hba.mono hb0.size))
  clear hh hrb hr1 hown1 hz0 hq0 hb0 hq1 hm hm0 hba hxa
  go_wp2_with (first
    | (at_builtin; refine list_append_want _ (by rfl) (.tmp 8) (.tmp 9) 22 22 rfl _ _ rfl rfl _ _ HR1.out ?_)
    | fail)
  refine (hho wa).mono ?_
  rintro e _ ⟨rfl, rfl⟩
  go_wp2_with fail
  refine hri.mono ?_
  rintro e _ ⟨rfl, d1, rfl⟩
  have HQ1 : Hid ((wa.drewN d1).heap[w.heap.size]? = some (.cells #[.slice none 0 0, .int .i64 0, .slice none 0 0, .slice none 0 0] 58 (0, 0))) := HQ
  have hk5 := Kept.of_setRow (wa.drewN d1) w.heap.size #[.slice Aa na ca, .int .i64 h, .slice none 0 0, .slice none 0 0]
  have hr5 := set_row_at (B := #[.slice Aa na ca, .int .i64 h, .slice none 0 0, .slice none 0 0]) HQ1.out
  have HO5 := hide ((HO.out.keep (w' := wa.drewN d1) (fun _ _ => rfl)).keep fun j hj => hk5.block j (HO.out.lt j hj).2 (fun e => ownI_ne HO.out HQ.out (by decide) (by rw [← e]; exact hj)))
  have HB5 := hide ((below_drewN HB.out d1).trans (hk5.below (show w.heap.size ≤ wa.heap.size from HB.out.size) (fun j hj => by omega)))
  clear hk5
  go_wp2_with (refine wpList_store_row rfl 58 _ _ rfl w.heap.size #[.slice Aa na ca, .int .i64 h, .slice none 0 0, .slice none 0 0] rfl rfl _ _ HQ1.out (by kernel_rfl) rfl (by simp [Value.oneCell']) ?_; generalize (wa.drewN d1).setRow w.heap.size #[.slice Aa na ca, .int .i64 h, .slice none 0 0, .slice none 0 0] = w5 at *)
  refine bodyPost_ret (v := .tuple #[.agg #[.slice Aa na ca, .int .i64 h, .slice none 0 0, .slice none 0 0], .bool rb]) (hrn_cell rfl rfl hr5 rfl) rfl ?_
  exact ⟨Aa, na, ca, by rw [HH.out, HRB.out], HO5.out.from_ (by have := HZ.out; omega), HB5.out⟩
end Go.Proofs.Ytgdncmkhcdmjoaa
