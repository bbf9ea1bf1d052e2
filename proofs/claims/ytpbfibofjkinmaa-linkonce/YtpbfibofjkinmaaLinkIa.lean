/-
  LinkOnce as plain mathematics: what has come, what is gone. No condition.
-/
import Derived.Test.YtpbfibofjkinmaaLinkHb
set_option linter.unusedSimpArgs false
set_option linter.unusedVariables false
namespace Go.Proofs.Ytpbfibofjkinmaa
open Go.RowKit Go.Maps

def TX (T : Txts) (n : Nat) : List UInt8 := T.getD (n - 1) []
theorem TX.app {T : Txts} {n : Nat} (h1 : 1 ≤ n) (h : n ≤ T.length) (R : Txts) : TX (T ++ R) n = TX T n := by
  unfold TX
  rw [List.getD_eq_getElem?_getD, List.getD_eq_getElem?_getD, List.getElem?_append_left (by omega)]
theorem TX.last (T : Txts) (d : List UInt8) : TX (T ++ [d]) (T.length + 1) = d := by
  unfold TX
  simp

/-- The hearing end: what has come is what was handed out. -/
structure BI (k : Lk) (N : Nat) (D : List Nat) : Prop where
  pl : k.pl = 5 ∨ (k.pl = 0 ∧ D = [] ∧ k.ds = [])
  come : ∀ n : Nat, 1 ≤ n → (k.come (n : Int) = true ↔ n ∈ D)
  ds : ∀ d ∈ k.ds, ∃ n ∈ D, d = (n : Int) ∧ 1 ≤ n ∧ n ≤ N
  all0 : 0 ≤ k.all
  alln : k.all ≤ N
  S : ∀ x, k.S x = true → x ≤ N
  ls : k.ls = []
  cnt : k.cnt ≤ D.length
theorem come_iff (k : Lk) (n : Int) : k.come n = true ↔ (n ≤ k.all ∨ k.S n = true) := by
  unfold Lk.come
  rw [Bool.or_eq_true, decide_eq_true_eq]
theorem BI.more {k : Lk} {N M : Nat} {D : List Nat} (h : BI k N D) (hNM : N ≤ M) : BI k M D :=
  ⟨h.pl, h.come, fun d hd => by
    obtain ⟨n, h1, h2, h3, h4⟩ := h.ds d hd
    exact ⟨n, h1, h2, h3, by omega⟩, h.all0, by have := h.alln; omega, fun x hx => by have := h.S x hx; omega, h.ls, h.cnt⟩
theorem BI.out {k : Lk} {N : Nat} {D : List Nat} (h : BI k N D) (now : Int) : BI (k.sentAt now) N D :=
  ⟨h.pl.elim .inl (fun e => .inr ⟨e.1, e.2.1, rfl⟩), h.come, fun d hd => (by cases hd), h.all0, h.alln, h.S, by show k.ls.map _ = []; rw [h.ls]; rfl, h.cnt⟩
theorem BI.born {k : Lk} {N : Nat} {D : List Nat} (h : BI k N D) : BI (k.born 5) N D ∧ (k.born 5).pl = 5 ∧ (k.born 5).ds = k.ds := by
  unfold Lk.born
  rcases h.pl with e | ⟨e, rfl, hd⟩
  · rw [if_pos (by omega)]
    exact ⟨h, e, rfl⟩
  · rw [if_neg (by omega)]
    refine ⟨⟨.inl rfl, fun n hn => ?_, fun d hd => (by cases hd), Int.le_refl _, by show (0 : Int) ≤ N; omega, fun x hx => (by cases hx), h.ls, h.cnt⟩, rfl, hd.symm⟩
    rw [come_iff]
    simp
    omega
theorem owe_facts (k : Lk) (n : Int) : (k.owe n).all = k.all ∧ (k.owe n).S = k.S ∧ (k.owe n).pl = k.pl ∧ (k.owe n).ls = k.ls ∧ (k.owe n).cnt = k.cnt ∧ (k.owe n).ds = if k.ds.length < 32 then k.ds ++ [n] else k.ds := by
  unfold Lk.owe
  split <;> exact ⟨rfl, rfl, rfl, rfl, rfl, rfl⟩
theorem BI.take {k k' : Lk} {N nm od : Nat} {D : List Nat} {fr : Bool} (h : BI k N D) (hN : N ≤ 60) (h1 : 1 ≤ od) (h2 : od ≤ nm) (h3 : nm ≤ N) (hod : ∀ x, 1 ≤ x → x < od → x ∈ D) (ht : TakeP k ((5 : Nat) : Int) nm od fr k') :
    ((nm ∈ D ∧ fr = false ∧ BI k' N D) ∨ (nm ∉ D ∧ fr = true ∧ BI k' N (D ++ [nm]))) ∧ k'.ds = (if k.ds.length < 32 then k.ds ++ [(nm : Int)] else k.ds) := by
  rcases ht with ⟨h4, _⟩ | ⟨_, a, k1, hr, hk1, hc⟩
  · rcases h.pl with e | ⟨e, _⟩ <;> omega
  · obtain ⟨hb, hbp, hbd⟩ := h.born
    have e5 : ((5 : Nat) : Int) = 5 := rfl
    rw [e5] at hr hk1
    rw [← hbd]
    generalize k.born 5 = kb at *
    have hod' : ∀ x : Nat, 1 ≤ x → (x : Int) ≤ (od : Int) - 1 → x ∈ D := fun x q1 q2 => hod x q1 (by omega)
    have ha0 := hb.all0
    have haN := hr.le hb.alln (by omega) hb.S
    have ha1 := hr.1
    have c1 : ∀ n : Nat, 1 ≤ n → ((n : Int) ≤ a ∨ (kb.S n = true ∧ a < (n : Int)) ↔ n ∈ D) := fun n hn => by
      rw [← hb.come n hn, come_iff]
      constructor
      · rintro (q | ⟨q, _⟩)
        · by_cases q1 : (n : Int) ≤ kb.all
          · exact .inl q1
          · by_cases q2 : (n : Int) ≤ (od : Int) - 1
            · have := hod' n hn q2
              rw [← hb.come n hn, come_iff] at this
              exact this
            · exact .inr (hr.2.1 n (by omega) q)
        · exact .inr q
      · rintro (q | q)
        · exact .inl (by omega)
        · by_cases q1 : (n : Int) ≤ a
          · exact .inl q1
          · exact .inr ⟨q, by omega⟩
    have hk1a : k1.all = a := by rw [hk1]
    have hk1S : ∀ x, k1.S x = (kb.S x && decide (a < x)) := fun x => by rw [hk1]
    have hk1p : k1.pl = kb.pl ∧ k1.ls = kb.ls ∧ k1.cnt = kb.cnt ∧ k1.ds = kb.ds := by rw [hk1]; exact ⟨rfl, rfl, rfl, rfl⟩
    have hcm1 : ∀ n : Nat, 1 ≤ n → (k1.come (n : Int) = true ↔ n ∈ D) := fun n hn => by
      rw [come_iff, hk1a, hk1S, Bool.and_eq_true, decide_eq_true_eq]
      exact c1 n hn
    clear hk1
    obtain ⟨o1, o2, o3, o4, o5, o6⟩ := owe_facts k1 (nm : Int)
    rcases hc with ⟨h64, _⟩ | ⟨_, ⟨hcm, rfl, rfl⟩ | ⟨hcm, rfl, a', hr', rfl⟩⟩
    · omega
    · have hin := (hcm1 nm (by omega)).1 hcm
      refine ⟨.inl ⟨hin, rfl, ⟨.inl (by rw [o3, hk1p.1, hbp]), fun n hn => ?_, fun d hd => ?_, by rw [o1, hk1a]; omega, by rw [o1, hk1a]; exact haN, fun x hx => ?_, by rw [o4, hk1p.2.1]; exact hb.ls, by rw [o5, hk1p.2.2.1]; exact hb.cnt⟩⟩, by rw [o6, hk1p.2.2.2]⟩
      · rw [come_iff, o1, o2, ← come_iff]
        exact hcm1 n hn
      · rw [o6, hk1p.2.2.2] at hd
        split at hd
        · rcases List.mem_append.1 hd with q | q
          · exact hb.ds d q
          · simp at q
            exact ⟨nm, hin, q, by omega, h3⟩
        · exact hb.ds d hd
      · rw [o2, hk1S, Bool.and_eq_true] at hx
        exact hb.S x hx.1
    · have hni : nm ∉ D := fun hin => by
        have := (hcm1 nm (by omega)).2 hin
        rw [hcm] at this
        cases this
      have hP : ∀ x, ((k1.owe (nm : Int)).plus (nm : Int)).S x = ((kb.S x && decide (a < x)) || decide (x = (nm : Int))) := fun x => by
        show ((k1.owe (nm : Int)).S x || decide (x = (nm : Int))) = _
        rw [o2, hk1S]
      have hPa : ((k1.owe (nm : Int)).plus (nm : Int)).all = a := by
        show (k1.owe (nm : Int)).all = a
        rw [o1, hk1a]
      have hSN : ∀ x, ((k1.owe (nm : Int)).plus (nm : Int)).S x = true → x ≤ (N : Int) := fun x hx => by
        rw [hP, Bool.or_eq_true, Bool.and_eq_true] at hx
        rcases hx with q | q
        · exact hb.S x q.1
        · have := of_decide_eq_true q
          omega
      have haN' := hr'.le (by rw [hPa]; exact haN) haN hSN
      have ha2 := hr'.1
      have ha3 := hr'.2.1
      rw [hPa] at ha2 ha3
      refine ⟨.inr ⟨hni, rfl, ⟨.inl ?_, fun n hn => ?_, fun d hd => ?_, by show 0 ≤ a'; omega, haN', fun x hx => ?_, ?_, ?_⟩⟩, ?_⟩
      · show (k1.owe (nm : Int)).pl = 5
        rw [o3, hk1p.1, hbp]
      · rw [come_iff, List.mem_append, List.mem_singleton, ← c1 n hn]
        show ((n : Int) ≤ a' ∨ (((k1.owe (nm : Int)).plus (nm : Int)).S n && decide (a' < (n : Int))) = true) ↔ _
        rw [Bool.and_eq_true, hP, Bool.or_eq_true, Bool.and_eq_true, decide_eq_true_eq, decide_eq_true_eq, decide_eq_true_eq]
        constructor
        · rintro (q | ⟨q | q, _⟩)
          · by_cases q1 : (n : Int) ≤ a
            · exact .inl (.inl q1)
            · have q2 := ha3 n (by omega) q
              rw [hP, Bool.or_eq_true, Bool.and_eq_true, decide_eq_true_eq, decide_eq_true_eq] at q2
              rcases q2 with q3 | q3
              · exact .inl (.inr q3)
              · exact .inr (by omega)
          · exact .inl (.inr q)
          · exact .inr (by omega)
        · rintro ((q | q) | rfl)
          · exact .inl (by omega)
          · by_cases q1 : (n : Int) ≤ a'
            · exact .inl q1
            · exact .inr ⟨.inl q, by omega⟩
          · by_cases q1 : (n : Int) ≤ a'
            · exact .inl q1
            · exact .inr ⟨.inr rfl, by omega⟩
      · have hd' : d ∈ (k1.owe (nm : Int)).ds := hd
        rw [o6, hk1p.2.2.2] at hd'
        have key : d ∈ kb.ds → ∃ n ∈ D ++ [nm], d = (n : Int) ∧ 1 ≤ n ∧ n ≤ N := fun q => by
          obtain ⟨n, q1, q2⟩ := hb.ds d q
          exact ⟨n, List.mem_append_left _ q1, q2⟩
        split at hd'
        · rcases List.mem_append.1 hd' with q | q
          · exact key q
          · simp at q
            exact ⟨nm, by simp, q, by omega, h3⟩
        · exact key hd'
      · have hx' : (((k1.owe (nm : Int)).plus (nm : Int)).S x && decide (a' < x)) = true := hx
        rw [Bool.and_eq_true] at hx'
        exact hSN x hx'.1
      · show (k1.owe (nm : Int)).ls = []
        rw [o4, hk1p.2.1]
        exact hb.ls
      · show (k1.owe (nm : Int)).cnt + 1 ≤ _
        rw [o5, hk1p.2.2.1, List.length_append]
        have := hb.cnt
        simp
        omega
      · show (k1.owe (nm : Int)).ds = _
        rw [o6, hk1p.2.2.2]

/-- A right frame of the sender's: its number, and that all below its oldest have come out. -/
def GF (T : Txts) (D : List Nat) (f : List UInt8) (n : Nat) : Prop := ∃ od, 1 ≤ od ∧ od ≤ n ∧ n ≤ T.length ∧ (∀ x, 1 ≤ x → x < od → x ∈ D) ∧ f = frB 1 5 n od (TX T n)
theorem GF.more {T : Txts} {D : List Nat} {f : List UInt8} {n : Nat} (h : GF T D f n) (R : Txts) {D' : List Nat} (hD : ∀ x ∈ D, x ∈ D') : GF (T ++ R) D' f n := by
  obtain ⟨od, h1, h2, h3, h4, h5⟩ := h
  exact ⟨od, h1, h2, by rw [List.length_append]; omega, fun x q1 q2 => hD x (h4 x q1 q2), by rw [TX.app (by omega) h3]; exact h5⟩
theorem GF.len {T : Txts} {D : List Nat} {f : List UInt8} {n : Nat} (h : GF T D f n) (hT : ∀ x ∈ T, x.length ≤ 65472) : f.length ≤ 140737488355328 := by
  obtain ⟨od, h1, h2, h3, _, rfl⟩ := h
  refine frB_len _ _ _ _ _ ?_
  unfold TX
  rw [List.getD_eq_getElem?_getD, List.getElem?_eq_getElem (by omega)]
  have := hT _ (List.getElem_mem (show n - 1 < T.length by omega))
  simp only [Option.getD_some]
  omega
theorem BI.move {k k' : Lk} {T : Txts} {D : List Nat} {fs os : List (List UInt8)} (hm : MoveP k fs k' os) (h : BI k T.length D) (hN : T.length ≤ 60) (hT : ∀ x ∈ T, x.length ≤ 65472) (hDn : D.Nodup) (ns : List Nat) (hl : ns.length = fs.length)
    (hfs : ∀ i (hi : i < fs.length) (hi' : i < ns.length), GF T D fs[i] ns[i]) :
    ∃ new, os = new.map (TX T) ∧ BI k' T.length (D ++ new) ∧ (D ++ new).Nodup ∧ (∀ n ∈ ns, n ∈ D ++ new) ∧ (∀ n ∈ new, n ∈ ns) ∧ (k.ds.length + fs.length ≤ 32 → k'.ds = k.ds ++ ns.map (fun (n : Nat) => (n : Int))) := by
  induction hm generalizing ns with
  | none =>
    obtain rfl : ns = [] := List.eq_nil_of_length_eq_zero hl
    exact ⟨[], rfl, by rw [List.append_nil]; exact h, by rw [List.append_nil]; exact hDn, by simp, by simp, fun _ => by simp⟩
  | snoc h1 h2 ih =>
    rename_i fs k1 k2 os f o
    rw [List.length_append, List.length_singleton] at hl
    obtain ⟨new, rfl, i1, i2, i3, i4, i5⟩ := ih (ns.take fs.length) (by simp; omega) (fun i hi hi' => by
      have := hfs i (by rw [List.length_append]; simp; omega) (by omega)
      rw [List.getElem_append_left hi] at this
      rw [List.getElem_take]
      exact this)
    obtain ⟨nm, hns, hg⟩ : ∃ nm, ns = ns.take fs.length ++ [nm] ∧ GF T D f nm := by
      refine ⟨ns[fs.length], by rw [← List.take_succ_eq_append_getElem (by omega), List.take_of_length_le (by omega)], ?_⟩
      have := hfs fs.length (by simp) (by omega)
      rw [List.getElem_append_right (Nat.le_refl _)] at this
      simpa using this
    clear hfs
    obtain ⟨od, g1, g2, g3, g4, g5⟩ := hg
    subst g5
    have htx : (TX T nm).length ≤ 65536 := by
      unfold TX
      rw [List.getD_eq_getElem?_getD, List.getElem?_eq_getElem (by omega)]
      have := hT _ (List.getElem_mem (show nm - 1 < T.length by omega))
      simp only [Option.getD_some]
      omega
    rw [rdF_car 5 nm od (TX T nm) (by omega) (by omega) (by omega) htx] at h2
    obtain ⟨fr, ht, rfl⟩ := h2.car (by omega) (by omega) (by omega) g2
    obtain ⟨hc, hds⟩ := i1.take hN g1 g2 g3 (fun x q1 q2 => List.mem_append_left _ (g4 x q1 q2)) ht
    have hdl : k.ds.length + (fs ++ [frB 1 5 nm od (TX T nm)]).length ≤ 32 → k2.ds = k.ds ++ ns.map (fun (n : Nat) => (n : Int)) := fun hle => by
      rw [List.length_append, List.length_singleton] at hle
      have e := i5 (by omega)
      have hlen : k1.ds.length < 32 := by
        rw [e, List.length_append, List.length_map, List.length_take]
        omega
      rw [hds, if_pos hlen, e, hns, List.map_append, List.append_assoc, ← hns]
      rfl
    rcases hc with ⟨c1, rfl, c2⟩ | ⟨c1, rfl, c2⟩
    · refine ⟨new, by simp, c2, i2, fun n hn => ?_, fun n hn => ?_, hdl⟩
      · rw [hns] at hn
        rcases List.mem_append.1 hn with q | q
        · exact i3 n q
        · simp at q; rw [q]; exact c1
      · rw [hns]; exact List.mem_append_left _ (i4 n hn)
    · refine ⟨new ++ [nm], by simp, by rw [← List.append_assoc]; exact c2, ?_, fun n hn => ?_, fun n hn => ?_, hdl⟩
      · rw [← List.append_assoc]
        refine List.nodup_append.2 ⟨i2, by simp, fun x hx y hy => ?_⟩
        simp at hy
        subst hy
        rintro rfl
        exact c1 hx
      · rw [← List.append_assoc]
        rw [hns] at hn
        rcases List.mem_append.1 hn with q | q
        · exact List.mem_append_left _ (i3 n q)
        · exact List.mem_append_right _ q
      · rw [hns]
        rcases List.mem_append.1 hn with q | q
        · exact List.mem_append_left _ (i4 n q)
        · exact List.mem_append_right _ q
end Go.Proofs.Ytpbfibofjkinmaa
