/-
  Link's calls by what they do to one end and to its blocks. Conditions: the numbers are in reach.
-/
import Derived.Test.YtpbfibofjkinmaaLinkQ
import Derived.Test.YtpbfibofjkinmaaLinkR
set_option linter.unusedSimpArgs false
set_option linter.unusedVariables false
namespace Go.Proofs.Ytpbfibofjkinmaa
open Go.RowKit Go.Maps

/-- Block g is the end k; its blocks are those of F. -/
def EK (w : World) (base g : Nat) (k : Lk) (F : Nat → Prop) : Prop := ∃ wv mv dv, IsK w base g wv mv dv k ∧ F = LBl g wv mv dv
section
variable {w w' : World} {base g : Nat} {k : Lk} {F : Nat → Prop}
theorem EK.lt (h : EK w base g k F) : ∀ j, F j → base ≤ j ∧ j < w.heap.size := by
  obtain ⟨wv, mv, dv, hI, rfl⟩ := h
  exact hI.lt
theorem EK.self (h : EK w base g k F) : F g := by
  obtain ⟨wv, mv, dv, hI, rfl⟩ := h
  exact .inl rfl
theorem EK.no (h : EK w base g k F) : ∀ j cur t, w.heap[j]? = some (.cells cur t (0, 0)) → t = 32 ∨ t = 5 → ¬ F j := by
  obtain ⟨wv, mv, dv, hI, rfl⟩ := h
  intro j cur t hj ht
  rcases ht with rfl | rfl
  · exact hI.other hj (by decide) (by decide) (by decide)
  · exact hI.other hj (by decide) (by decide) (by decide)
theorem EK.kept {G : Nat → Prop} (h : EK w base g k F) (hk : Kept G w w') (hd : ∀ j, F j → ¬ G j) (ht : ∀ j cur, w.heap[j]? = some (.cells cur 5 (0, 0)) → ¬ G j) : EK w' base g k F := by
  obtain ⟨wv, mv, dv, hI, rfl⟩ := h
  refine ⟨wv, mv, dv, hI.kept hk (fun j hj => ⟨fun hl => hd j hl hj, fun l hl e => ?_⟩), rfl⟩
  obtain ⟨cur, hc⟩ := ownsRow_typed (hI.dat l hl).1 j e
  exact ht j cur hc hj
theorem EK.below (h : EK w base g k F) (hb : Below w.heap.size w w') : EK w' base g k F := by
  obtain ⟨wv, mv, dv, hI, rfl⟩ := h
  exact ⟨wv, mv, dv, hI.below hb, rfl⟩
theorem EK.own {base' : Nat} {v : Value} {xs : List UInt8} (h : EK w base g k F) (ho : Own w base' v xs) (hk : Kept F w w') : Own w' base' v xs :=
  ho.keep fun j hj => by
    obtain ⟨cur, hc⟩ := ownsRow_typed ho j hj
    exact hk.block j (lt_of_block hc) (h.no j cur _ hc (.inr rfl))
theorem EK.ownF {base' : Nat} {v : Value} {ps : List Piece} (h : EK w base g k F) (ho : OwnF w base' v ps) (hk : Kept F w w') : OwnF w' base' v ps := ho.kept hk h.no
theorem EK.len (h : EK w base g k F) : k.ls.length ≤ 4096 := by
  obtain ⟨wv, mv, dv, hI, rfl⟩ := h
  exact hI.len
theorem EK.dat (h : EK w base g k F) : ∀ l ∈ k.ls, l.xs.length ≤ 65472 := by
  obtain ⟨wv, mv, dv, hI, rfl⟩ := h
  exact fun l hl => (hI.dat l hl).2
end

/-- The numbers of an end are in reach. -/
structure Fit (k : Lk) : Prop where
  nums : k.Nums
  all : Num k.all
  S : ∀ x, k.S x = true → x ≤ 2199023255552
  ds : k.ds.length ≤ 32
  le : ∀ l ∈ k.ls, l.num ≤ k.last
theorem Fit.old {k : Lk} (h : Fit k) : k.old ≤ k.last + 1 := by
  unfold Lk.old
  split
  · omega
  · rename_i l ls e
    have := h.le l (by rw [e]; simp)
    omega

theorem enew (b r : Int) (w : World) : Calls Try.prog 35 #[.int .i64 b, .int .i64 r] w fun e w' => e = .returned (.pointer (some ⟨w.heap.size, 0, none⟩)) ∧ EK w' w.heap.size w.heap.size (Lk.new b r) (fun j => j = w.heap.size) ∧ Below w.heap.size w w' := by
  refine (lnew_any b r w).mono ?_
  rintro e w' ⟨rfl, hI, hb⟩
  refine ⟨rfl, ⟨_, _, _, hI, ?_⟩, hb⟩
  funext j
  simp only [LBl, mapBlock, Value.ownBlock, eq_iff_iff, reduceCtorEq, or_false]

/-- What Send does to an end. -/
def SendP (k : Lk) (xs : List UInt8) (k' : Lk) : Prop :=
  (sendE k xs.length ≠ 0 → k' = k) ∧ (sendE k xs.length = 0 → ∃ A n c, k' = { k with last := k.last + 1, ls := k.ls ++ [⟨k.last + 1, A, n, c, false, 0, xs⟩] })
theorem esendH {w : World} {base g : Nat} {k : Lk} {F : Nat → Prop} (A : Option Addr) (n c : Nat) (xs : List UInt8) (h : EK w base g k F) (hf : Fit k) (hh : Has w w.heap.size A xs) (hn : xs.length = n) (hap : ∀ j o, A = some ⟨j, o, none⟩ → ¬ F j) (h1 : k.last ≤ 1099511627776) (hl : k.ls.length < 4096) :
    Calls Try.prog 38 #[.pointer (some ⟨g, 0, none⟩), .slice A n c] w fun e w' => e = .returned (.int .i64 (sendE k xs.length)) ∧ ∃ k' F', EK w' base g k' F' ∧ Kept F w w' ∧ (∀ j, F' j → F j ∨ w.heap.size ≤ j) ∧ SendP k xs k' := by
  have hself := h.self
  obtain ⟨wv, mv, dv, hI, rfl⟩ := h
  have h0 := hf.nums.last
  have hol := hf.nums.old
  unfold Num at h0
  refine (lsend_any base g wv mv dv k A n c w.heap.size xs w hI hh (Nat.le_refl _) hn (fun j o e => ?_) h0.1 (by omega) hol.1 hf.old hl).mono ?_
  · exact fun e' => hap j o e (by rw [e']; exact hself)
  · rintro e w' ⟨rfl, wv', k', hI', hk', hw', hne, heq⟩
    refine ⟨rfl, k', _, ⟨wv', mv, dv, hI', rfl⟩, hk', ?_, fun e => (hne e).1, fun e => ?_⟩
    · rintro j (e | e | e | e)
      · exact .inl (.inl e)
      · rcases hw' j e with e' | e'
        · exact .inl (.inr (.inl e'))
        · exact .inr e'
      · exact .inl (.inr (.inr (.inl e)))
      · exact .inl (.inr (.inr (.inr e)))
    · obtain ⟨A, n, c, e', _⟩ := heq e
      exact ⟨A, n, c, e'⟩
theorem esend {w : World} {base g base' : Nat} {k : Lk} {F : Nat → Prop} (A : Option Addr) (n c : Nat) (xs : List UInt8) (h : EK w base g k F) (hf : Fit k) (hx : Own w base' (.slice A n c) xs) (h1 : k.last ≤ 1099511627776) (hl : k.ls.length < 4096) :
    Calls Try.prog 38 #[.pointer (some ⟨g, 0, none⟩), .slice A n c] w fun e w' => e = .returned (.int .i64 (sendE k xs.length)) ∧ ∃ k' F', EK w' base g k' F' ∧ Kept F w w' ∧ (∀ j, F' j → F j ∨ w.heap.size ≤ j) ∧ SendP k xs k' := by
  have hno := h.no
  obtain ⟨_, _, _, e', hn, _, hh, _⟩ := hx.form
  injection e' with e1 e2 e3
  subst e1 e2 e3
  refine esendH A n c xs h hf hh hn.out (fun j o e => ?_) h1 hl
  subst e
  obtain ⟨cur, hc⟩ := ownsRow_typed hx j rfl
  exact hno j cur _ hc (.inr rfl)

theorem eout {w : World} {base g : Nat} {k : Lk} {F : Nat → Prop} (now : Int) (h : EK w base g k F) (hf : Fit k) :
    Calls Try.prog 40 #[.pointer (some ⟨g, 0, none⟩), .int .i64 now] w fun e w' => ∃ v ps F', e = .returned v ∧ OwnF w' w.heap.size v ps ∧ ps.map Piece.bs = k.recs ++ k.carries now ∧ EK w' base g (k.sentAt now) F' ∧ Kept F w w' ∧ (∀ j, F' j → F j) := by
  obtain ⟨wv, mv, dv, hI, rfl⟩ := h
  refine (lout_any base g wv mv dv k now w hI hf.nums).mono ?_
  rintro e w' ⟨v, ps, rfl, ho, hp, hI', hk⟩
  refine ⟨v, ps, _, rfl, ho, hp, ⟨_, _, _, hI', rfl⟩, hk, ?_⟩
  rintro j (e | e | e | e)
  · exact .inl e
  · exact .inr (.inl e)
  · exact .inr (.inr (.inl e))
  · cases e

theorem ein {w : World} {base g : Nat} {k : Lk} {F : Nat → Prop} (A : Option Addr) (n c B : Nat) (fs : List UInt8) (h : EK w base g k F) (hf : Fit k) (hx : Has w B A fs) (hB : B ≤ w.heap.size) (hn : fs.length = n) (hl : n ≤ 140737488355328) (hc : k.cnt < 4096) :
    Calls Try.prog 43 #[.pointer (some ⟨g, 0, none⟩), .slice A n c] w fun e w' => ∃ k' o v F', e = .returned (.tuple #[v, .bool (outB o), .int .i64 (rdF fs).err]) ∧ Own w' w.heap.size v (outX o) ∧ InP k (rdF fs) k' o ∧ EK w' base g k' F' ∧ Kept F w w' ∧ (∀ j, F' j → F j ∨ w.heap.size ≤ j) := by
  obtain ⟨wv, mv, dv, hI, rfl⟩ := h
  have ha := hf.all
  have hd := hf.ds
  unfold Num at ha
  refine (lin_any base g wv mv dv k A n c B fs w hI hx hB hn hl ha.1 ha.2 hf.S hc (by omega)).mono ?_
  rintro e w' ⟨wv', mv', dv', k', o, v, hI', hk, hfr, hp, rfl, ho⟩
  exact ⟨k', o, v, _, rfl, ho, hp, ⟨_, _, _, hI', rfl⟩, hk, hfr⟩

theorem ewaiting {w : World} {base g : Nat} {k : Lk} {F : Nat → Prop} (h : EK w base g k F) : Calls Try.prog 44 #[.pointer (some ⟨g, 0, none⟩)] w fun e w' => e = .returned (.int .i64 (k.ls.length : Int)) ∧ w = w' := by
  obtain ⟨wv, mv, dv, hI, rfl⟩ := h
  exact lwaiting_any base g wv mv dv k w hI
end Go.Proofs.Ytpbfibofjkinmaa
