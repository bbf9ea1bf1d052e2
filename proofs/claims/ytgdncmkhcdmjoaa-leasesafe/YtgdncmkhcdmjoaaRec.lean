/-
  Slices of structs that the call owns, row by row: what they hold, append, stores into the middle, a cut, clear. No condition: over any type of rows.
-/
import Derived.Test.YtgdncmkhcdmjoaaRows
import Derived.Test.YtgdncmkhcdmjoaaWords
import Derived.Deep.QuietTactic
import Derived.BigQuiet
import Derived.Outline
import Derived.Handy
import Derived.Maps.AppendAt
import Derived.ArgAppend
import Derived.RegionTactic
import Derived.OwnWalk
import Derived.WalkSpells
import Derived.Deep.MidRow
import Derived.Deep.RegionLaw
import Derived.Lib.AppendZeros
set_option linter.unusedSimpArgs false
set_option linter.unusedVariables false
namespace Go.Proofs.Ytgdncmkhcdmjoaa
open Go.RowKit

/-- What is known of a type of rows: e the element's, t the slice's, k cells, b bytes, z its zero value. -/
structure RowT (e t : TypeId) (k b : Nat) (z : Value) : Prop where
  und : Try.prog.underlying t = some (.slice e)
  info : (Try.prog.info? e).map (fun i => (i.zero, i.size, i.bytes)) = some (some z, k, b)
  zs : z.cells.size = k
  pos : 0 < k

theorem infoR {P : Program} {e : TypeId} {z : Value} {k b : Nat} (h : (P.info? e).map (fun i => (i.zero, i.size, i.bytes)) = some (some z, k, b)) : ∃ i, P.info? e = some i ∧ i.zero = some z ∧ i.size = k ∧ i.bytes = b := by
  cases hq : P.info? e with
  | none => simp [hq] at h
  | some i => simp [hq] at h; exact ⟨i, rfl, h.1, h.2.1, h.2.2⟩

/-- Rows of k cells. -/
def Wide (k : Nat) (rs : List (List Value)) : Prop := ∀ r ∈ rs, r.length = k ∧ ∀ u ∈ r, u.oneCell' = true
theorem Wide.nil (k : Nat) : Wide k [] := fun _ h => absurd h (by simp)
theorem Wide.tail {k : Nat} {r : List Value} {rs : List (List Value)} (h : Wide k (r :: rs)) : Wide k rs := fun x hx => h x (by simp [hx])
theorem Wide.append {k : Nat} {rs ss : List (List Value)} (h : Wide k rs) (h' : Wide k ss) : Wide k (rs ++ ss) := fun r hr => by
  rcases List.mem_append.1 hr with h1 | h1
  · exact h r h1
  · exact h' r h1
theorem Wide.take {k : Nat} {rs : List (List Value)} (h : Wide k rs) (n : Nat) : Wide k (rs.take n) := fun r hr => h r (List.mem_of_mem_take hr)
theorem Wide.drop {k : Nat} {rs : List (List Value)} (h : Wide k rs) (n : Nat) : Wide k (rs.drop n) := fun r hr => h r (List.mem_of_mem_drop hr)
theorem Wide.one {k : Nat} {r : List Value} (h : r.length = k) (h1 : ∀ u ∈ r, u.oneCell' = true) : Wide k [r] := fun x hx => by
  simp at hx
  subst hx
  exact ⟨h, h1⟩
theorem Wide.len {k : Nat} {rs : List (List Value)} (h : Wide k rs) : rs.flatten.length = rs.length * k := by
  induction rs with
  | nil => simp
  | cons r rs ih => rw [List.flatten_cons, List.length_append, ih h.tail, (h r (by simp)).1, List.length_cons, Nat.succ_mul, Nat.add_comm]
theorem Wide.get {k : Nat} {rs : List (List Value)} (h : Wide k rs) {i j : Nat} (hi : i < rs.length) (hj : j < k) : rs.flatten[i * k + j]? = rs[i][j]? := by
  induction rs generalizing i with
  | nil => simp at hi
  | cons r rs ih =>
    have hr := (h r (by simp)).1
    rw [List.flatten_cons]
    match i with
    | 0 => rw [List.getElem?_append_left (by omega)]; simp
    | i + 1 =>
      rw [List.getElem?_append_right (by rw [hr, Nat.succ_mul]; omega), hr, show (i + 1) * k + j - k = i * k + j from by rw [Nat.succ_mul]; omega, ih h.tail (by simpa using hi)]
      simp
theorem Wide.take_flatten {k : Nat} {rs : List (List Value)} (h : Wide k rs) (n : Nat) : rs.flatten.take (n * k) = (rs.take n).flatten := by
  induction rs generalizing n with
  | nil => simp
  | cons r rs ih =>
    have hr := (h r (by simp)).1
    match n with
    | 0 => simp
    | n + 1 => rw [List.flatten_cons, List.take_succ_cons, List.flatten_cons, List.take_append, hr, Nat.succ_mul, Nat.add_sub_cancel, ih h.tail, List.take_of_length_le (by omega)]
theorem Wide.drop_flatten {k : Nat} {rs : List (List Value)} (h : Wide k rs) (n : Nat) : rs.flatten.drop (n * k) = (rs.drop n).flatten := by
  induction rs generalizing n with
  | nil => simp
  | cons r rs ih =>
    have hr := (h r (by simp)).1
    match n with
    | 0 => simp
    | n + 1 => rw [List.flatten_cons, List.drop_succ_cons, List.drop_append, hr, Nat.succ_mul, Nat.add_sub_cancel, ih h.tail, List.drop_eq_nil_of_le (by omega), List.nil_append]
theorem Wide.cells {k : Nat} {rs : List (List Value)} (h : Wide k rs) : ∀ u ∈ rs.flatten, u.oneCell' = true := fun u hu => by
  obtain ⟨r, hr, hm⟩ := List.mem_flatten.1 hu
  exact (h r hr).2 u hm

/-- The slice value v holds just the rows rs, in a block of the call's own (from base on), or is nil. -/
structure OwnR (w : World) (base : Nat) (e : TypeId) (k : Nat) (v : Value) (rs : List (List Value)) : Prop where
  row : w.ownsRow base e k v rs.length rs.flatten
  wide : Wide k rs

theorem OwnR.nil (w : World) (base : Nat) (e : TypeId) (k : Nat) : OwnR w base e k (.slice none 0 0) [] := ⟨⟨by simp, .inl ⟨rfl, rfl⟩⟩, Wide.nil k⟩
theorem OwnR.lt {w : World} {base : Nat} {e : TypeId} {k : Nat} {v : Value} {rs : List (List Value)} (h : OwnR w base e k v rs) : ∀ g, v.ownBlock = some g → base ≤ g ∧ g < w.heap.size := World.ownsRow.lt h.row
theorem OwnR.keep {w w' : World} {base : Nat} {e : TypeId} {k : Nat} {v : Value} {rs : List (List Value)} (h : OwnR w base e k v rs) (hk : ∀ g, v.ownBlock = some g → w'.heap[g]? = w.heap[g]?) : OwnR w' base e k v rs := by
  refine ⟨⟨h.row.1, ?_⟩, h.wide⟩
  rcases h.row.2 with h2 | ⟨g, cap, cur, hv, hg, hh, r⟩
  · exact .inl h2
  · exact .inr ⟨g, cap, cur, hv, hg, by rw [hk g (by rw [hv]; rfl)]; exact hh, r⟩
theorem OwnR.below {w w' : World} {base : Nat} {e : TypeId} {k : Nat} {v : Value} {rs : List (List Value)} (h : OwnR w base e k v rs) (hb : Below w.heap.size w w') : OwnR w' base e k v rs :=
  h.keep fun g hg => hb.block g (h.lt g hg).2
theorem OwnR.from_ {w : World} {base base' : Nat} {e : TypeId} {k : Nat} {v : Value} {rs : List (List Value)} (h : OwnR w base e k v rs) (hb : base' ≤ base) : OwnR w base' e k v rs := by
  refine ⟨⟨h.row.1, ?_⟩, h.wide⟩
  rcases h.row.2 with h2 | ⟨g, cap, cur, hv, hg, r⟩
  · exact .inl h2
  · exact .inr ⟨g, cap, cur, hv, by omega, r⟩
/-- The block of the rows is of their type. -/
theorem OwnR.typed {w : World} {base : Nat} {e : TypeId} {k : Nat} {v : Value} {rs : List (List Value)} (h : OwnR w base e k v rs) : ∀ g, v.ownBlock = some g → ∃ cur, w.heap[g]? = some (.cells cur e (0, 0)) := by
  intro g hg
  rcases h.row.2 with ⟨hv, _⟩ | ⟨g', cap, cur, hv, _, hh, _⟩
  · rw [hv] at hg; cases hg
  · rw [hv] at hg; cases hg; exact ⟨cur, hh⟩

/-- The slice that begins at A reads as the rows rs, each k cells, which may be written. -/
def HasR (w : World) (A : Option Addr) (k : Nat) (rs : List (List Value)) : Prop :=
  ∀ i (h : i < rs.length), ∃ g, A = some ⟨g, 0, none⟩ ∧ w.rangeAt g (i * k) rs[i] ∧ w.there g (i * k) k ∧ g < w.heap.size

theorem OwnR.form {w : World} {base : Nat} {e : TypeId} {k : Nat} {v : Value} {rs : List (List Value)} (h : OwnR w base e k v rs) : ∃ A n c, v = .slice A n c ∧ Hid (rs.length = n) ∧ n ≤ c ∧ c ≤ maxLen ∧ HasR w A k rs ∧ (A = none → n = 0) ∧ ∀ a, A = some a → ∃ g, a = ⟨g, 0, none⟩ ∧ base ≤ g ∧ g < w.heap.size := by
  rcases h.row.2 with ⟨hv, hn⟩ | ⟨g, cap, cur, hv, hg, hh, hnc, hm, hcs, ht⟩
  · have hx : rs = [] := List.eq_nil_of_length_eq_zero hn
    subst hx
    exact ⟨none, 0, 0, hv, rfl, Nat.le_refl _, by unfold maxLen; omega, fun i hi => absurd hi (by simp), fun _ => rfl, fun a ha => by cases ha⟩
  · refine ⟨some ⟨g, 0, none⟩, rs.length, cap, hv, rfl, hnc, hm, fun i hi => ⟨g, rfl, fun j u hu => ?_, fun j hj => ?_, lt_of_block hh⟩, (fun h => by cases h), (fun a ha => by cases ha; exact ⟨g, rfl, hg, lt_of_block hh⟩)⟩
    · have hj : j < k := by
        have := (List.getElem?_eq_some_iff.1 hu).1
        rwa [(h.wide _ (List.getElem_mem hi)).1] at this
      have h1 : i * k + j < rs.length * k := by
        have : (i + 1) * k ≤ rs.length * k := Nat.mul_le_mul_right k hi
        rw [Nat.succ_mul] at this
        omega
      have h2 : (cur.toList.take (rs.length * k))[i * k + j]? = some u := by rw [ht, h.wide.get hi hj, hu]
      rw [List.getElem?_take_of_lt h1] at h2
      simp only [World.cell?, hh]
      simpa using h2
    · have h1 : i * k + j < cur.size := by
        have : (i + 1) * k ≤ rs.length * k := Nat.mul_le_mul_right k hi
        have h3 : rs.length * k ≤ cap * k := Nat.mul_le_mul_right k hnc
        rw [Nat.succ_mul] at this
        omega
      refine ⟨?_, ?_⟩
      · simp only [World.cell?, hh]
        simp [h1]
      · simp [World.frozen?, hh]

/-- Behind stores into one block. -/
theorem setCells_block {e : TypeId} (g : Nat) : ∀ (vs : List Value) (o : Nat) (w : World) (cur : Array Value), w.heap[g]? = some (.cells cur e (0, 0)) → o + vs.length ≤ cur.size →
    ∃ cur' : Array Value, (w.setCells g o vs).heap[g]? = some (.cells cur' e (0, 0)) ∧ cur'.toList = cur.toList.take o ++ vs ++ cur.toList.drop (o + vs.length)
  | [], o, w, cur, h, _ => ⟨cur, h, by simp⟩
  | v :: r, o, w, cur, h, hl => by
    simp only [List.length_cons] at hl
    obtain ⟨cur', h1, h2⟩ := setCells_block g r (o + 1) (w.setCell ⟨g, o, none⟩ v) (cur.setIfInBounds o v) (heap_setCell_same w g o cur e v h) (by simp; omega)
    refine ⟨cur', h1, ?_⟩
    rw [h2, Array.toList_setIfInBounds, List.length_cons]
    apply List.ext_getElem?
    intro i
    simp only [List.getElem?_append, List.length_append, List.length_take, List.length_set, List.getElem?_take, List.getElem?_drop, List.length_cons, List.getElem?_set, Array.length_toList]
    have e1 : min (o + 1) cur.size = o + 1 := by omega
    have e2 : min o cur.size = o := by omega
    rw [e1, e2]
    by_cases c1 : i < o
    · simp [c1, show i < o + 1 + r.length from by omega, show i < o + (r.length + 1) from by omega, show i < o + 1 from by omega, show ¬ o = i from by omega]
    · by_cases c2 : i = o
      · subst c2
        simp [show i < i + 1 + r.length from by omega, show i < cur.size from by omega]
      · by_cases c3 : i < o + 1 + r.length
        · have e3 : i - o = (i - (o + 1)) + 1 := by omega
          simp [c1, c3, show i < o + (r.length + 1) from by omega, show ¬ i < o + 1 from by omega, e3]
        · have e4 : o + 1 + r.length + (i - (o + 1 + r.length)) = i := by omega
          have e5 : o + (r.length + 1) + (i - (o + (r.length + 1))) = i := by omega
          simp [c3, show ¬ i < o + (r.length + 1) from by omega, e4, e5, show ¬ o = i from by omega]
theorem setCells_other (g : Nat) : ∀ (vs : List Value) (o : Nat) (w : World) (j : Nat), j ≠ g → (w.setCells g o vs).heap[j]? = w.heap[j]?
  | [], _, _, _, _ => rfl
  | v :: r, o, w, j, h => by rw [World.setCells, setCells_other g r _ _ j h, Below.heap_setCell _ _ _ _ h]
theorem setCells_size (g : Nat) : ∀ (vs : List Value) (o : Nat) (w : World), (w.setCells g o vs).heap.size = w.heap.size
  | [], _, _ => rfl
  | v :: r, o, w => by rw [World.setCells, setCells_size g r]; simp [World.setCell]
theorem setCells_rest (g : Nat) : ∀ (vs : List Value) (o : Nat) (w : World), (w.setCells g o vs).os = w.os ∧ (w.setCells g o vs).tape = w.tape ∧ (w.setCells g o vs).output = w.output
  | [], _, _ => ⟨rfl, rfl, rfl⟩
  | v :: r, o, w => by rw [World.setCells]; exact setCells_rest g r _ _
theorem Kept.setCells {F : Nat → Prop} {w w' : World} (h : Kept F w w') {g : Nat} (hp : F g ∨ w.heap.size ≤ g) (o : Nat) (vs : List Value) : Kept F w (w'.setCells g o vs) :=
  ⟨(setCells_rest g vs o w').1.trans h.os, (setCells_rest g vs o w').2.1.trans h.tape, (setCells_rest g vs o w').2.2.trans h.output, by rw [setCells_size]; exact h.size, fun k hk hn => (setCells_other g vs o w' k (by
    rintro rfl
    rcases hp with hp | hp
    · exact hn hp
    · omega)).trans (h.block k hk hn)⟩

/-- Rows laid into the middle. -/
theorem OwnR.put {w : World} {base : Nat} {e : TypeId} {k g n c : Nat} {rs : List (List Value)} (h : OwnR w base e k (.slice (some ⟨g, 0, none⟩) n c) rs) (i : Nat) (news : List (List Value)) (hw : Wide k news) (hi : i + news.length ≤ rs.length) :
    OwnR (w.setCells g (i * k) news.flatten) base e k (.slice (some ⟨g, 0, none⟩) n c) (rs.take i ++ news ++ rs.drop (i + news.length)) := by
  obtain ⟨g', cap, cur, hv, hg, hh, hnc, hm, hcs, ht⟩ : ∃ g' cap cur, (.slice (some ⟨g, 0, none⟩) n c : Value) = .slice (some ⟨g', 0, none⟩) rs.length cap ∧ base ≤ g' ∧ w.heap[g']? = some (.cells cur e (0, 0)) ∧ rs.length ≤ cap ∧ cap ≤ maxLen ∧ cur.size = cap * k ∧ cur.toList.take (rs.length * k) = rs.flatten := by
    rcases h.row.2 with ⟨hv, _⟩ | h2
    · cases hv
    · exact h2
  have hl : (rs.take i ++ news ++ rs.drop (i + news.length)).length = rs.length := by simp; omega
  have hle : (i + news.length) * k ≤ rs.length * k := Nat.mul_le_mul_right k hi
  have hle2 : rs.length * k ≤ cap * k := Nat.mul_le_mul_right k hnc
  have hnl := hw.len
  rw [Nat.add_mul] at hle
  injection hv with ha hn' hc'
  injection ha with ha'
  injection ha' with ha''
  subst ha'' hn' hc'
  obtain ⟨cur', h1, h2⟩ := setCells_block g news.flatten (i * k) w cur hh (by rw [hnl]; omega)
  have hwide : Wide k (rs.take i ++ news ++ rs.drop (i + news.length)) := ((h.wide.take i).append hw).append (h.wide.drop _)
  refine ⟨⟨hwide.len, .inr ⟨g, c, cur', by rw [hl], hg, h1, by rw [hl]; exact hnc, hm, ?_, ?_⟩⟩, hwide⟩
  · have := congrArg List.length h2
    simp only [Array.length_toList, List.length_append, List.length_take, List.length_drop] at this
    omega
  · rw [hl, h2, List.take_append, List.take_append]
    have e1 : (cur.toList.take (i * k)).take (rs.length * k) = (rs.take i).flatten := by
      rw [← h.wide.take_flatten, ← ht, List.take_take, List.take_take]
      congr 1
      omega
    have e2 : (cur.toList.take (i * k)).length = i * k := by simp; omega
    have e3 : (cur.toList.drop (i * k + news.flatten.length)).take (rs.length * k - (i * k + news.flatten.length)) = (rs.drop (i + news.length)).flatten := by
      rw [← h.wide.drop_flatten, ← ht, hnl, List.drop_take, Nat.add_mul]
    rw [e1, List.length_append, e2, List.take_of_length_le (l := news.flatten) (by rw [hnl]; omega), e3]
    simp
/-- The first rows alone. -/
theorem OwnR.cut {w : World} {base : Nat} {e : TypeId} {k g n c : Nat} {rs : List (List Value)} (h : OwnR w base e k (.slice (some ⟨g, 0, none⟩) n c) rs) (i : Nat) (hi : i ≤ rs.length) :
    OwnR w base e k (.slice (some ⟨g, 0, none⟩) i c) (rs.take i) := by
  obtain ⟨g', cap, cur, hv, hg, hh, hnc, hm, hcs, ht⟩ : ∃ g' cap cur, (.slice (some ⟨g, 0, none⟩) n c : Value) = .slice (some ⟨g', 0, none⟩) rs.length cap ∧ base ≤ g' ∧ w.heap[g']? = some (.cells cur e (0, 0)) ∧ rs.length ≤ cap ∧ cap ≤ maxLen ∧ cur.size = cap * k ∧ cur.toList.take (rs.length * k) = rs.flatten := by
    rcases h.row.2 with ⟨hv, _⟩ | h2
    · cases hv
    · exact h2
  injection hv with ha hn' hc'
  injection ha with ha'
  injection ha' with ha''
  subst ha'' hn' hc'
  have hl : (rs.take i).length = i := by simp; omega
  have hle : i * k ≤ rs.length * k := Nat.mul_le_mul_right k hi
  refine ⟨⟨(h.wide.take i).len, .inr ⟨g, c, cur, by rw [hl], hg, hh, by rw [hl]; omega, hm, hcs, ?_⟩⟩, h.wide.take i⟩
  rw [hl, ← h.wide.take_flatten, ← ht, List.take_take]
  congr 1
  omega

/-- clear of rows. -/
theorem run_clear_rows {e t : TypeId} {k b : Nat} {z : Value} (T : RowT e t k b z) (w : World) (ty : TypeId) (g o n c : Nat) (h1 : ∀ u ∈ z.cells, u.oneCell' = true) (ht : w.there g o (n * k)) (hz : ∀ w, (zeroValue e).run Try.prog w = .ok z w) :
    (Builtin.clear_ #[t] ty #[.slice (some ⟨g, o, none⟩) n c]).run Try.prog w = .ok (.tuple #[]) (w.setCells g o (List.replicate n z.cells.toList).flatten) := by
  have hzc : (Builtin.zeroCells z.cells n).toList = (List.replicate n z.cells.toList).flatten := by
    have hw : Wide k (List.replicate n z.cells.toList) := fun r hr => by
      rw [List.eq_of_mem_replicate hr]
      exact ⟨by simpa using T.zs, fun u hu => h1 u (by simpa using hu)⟩
    apply List.ext_getElem?
    intro i
    rcases Nat.lt_or_ge i (n * k) with hi | hi
    · have hk := T.pos
      have hd : i / k < n := by rw [Nat.div_lt_iff_lt_mul hk]; exact hi
      have hm : i % k < k := Nat.mod_lt _ hk
      have e1 : i = i / k * k + i % k := by rw [Nat.mul_comm]; exact (Nat.div_add_mod i k).symm
      have h2 := hw.get (i := i / k) (j := i % k) (by simpa using hd) hm
      rw [← e1] at h2
      rw [h2]
      simp [Builtin.zeroCells, T.zs, hi, hm]
    · rw [List.getElem?_eq_none (by simp [Builtin.zeroCells, T.zs]; omega), List.getElem?_eq_none (by rw [hw.len]; simpa using hi)]
  have hall : ∀ u ∈ (List.replicate n z.cells.toList).flatten, u.oneCell' = true := fun u hu => by
    obtain ⟨r, hr, hm⟩ := List.mem_flatten.1 hu
    rw [List.eq_of_mem_replicate hr] at hm
    exact h1 u (by simpa using hm)
  have hlen : (List.replicate n z.cells.toList).flatten.length = n * k := by rw [← hzc]; simp [Builtin.zeroCells, T.zs]
  have hst := run_storeCells_cells (P := Try.prog) g o (List.replicate n z.cells.toList).flatten 0 w (fun j hj => by simpa using (ht j (by omega)).1) (fun j hj => by simpa using (ht j (by omega)).2) hall
  simp only [Nat.add_zero] at hst
  cases n with
  | zero => simp [Builtin.clear_, run_underlying T.und, World.setCells]
  | succ m => simp [Builtin.clear_, run_underlying T.und, hz, hzc, hst]

/-- Rows laid behind those that are there. -/
theorem run_append_rows {e t : TypeId} {k b : Nat} {z : Value} (T : RowT e t k b z) (w : World) (ty base : Nat) (v : Value) (rs : List (List Value)) (hown : OwnR w base e k v rs) (ad : Addr) (m c : Nat) (news : List (List Value)) (hw : Wide k news) (hm : news.length = m)
    (hr : ∀ j u, news.flatten[j]? = some u → w.cell? (ad.add j) = some u) (h63 : rs.length + m ≤ maxLen) (hby : (rs.length + m) * b ≤ 140737488355328) (hbase : base ≤ w.heap.size) :
    ∃ v' w', (Builtin.append_ #[t, t] ty #[v, .slice (some ad) m c]).run Try.prog w = .ok v' w' ∧ OwnR w' base e k v' (rs ++ news) ∧ w.grownBy w' v.ownBlock ∧ (v'.ownBlock = v.ownBlock ∨ v'.ownBlock = some w.heap.size) := by
  obtain ⟨i0, hi0, hz0, hz1, hz2⟩ := infoR T.info
  subst hm
  obtain ⟨v', w', hrun, h2, h3, _, h5⟩ := run_append_own_at (P := Try.prog) w base t ty e i0 _ k b T.und hi0 hz0 hz1 hz2 T.zs T.pos v rs.length rs.flatten hown.row ad news.length c news.flatten hw.len hr hw.cells h63 hby hbase
  exact ⟨v', w', hrun, ⟨by rw [List.length_append, List.flatten_append]; exact h2, hown.wide.append hw⟩, h3, h5⟩
/-- One row, out of a block just made. -/
theorem one_row {w : World} {g : Nat} {cs : Array Value} {t : TypeId} (h : w.heap[g]? = some (.cells cs t (0, 0))) : ∀ j u, ([cs.toList] : List (List Value)).flatten[j]? = some u → w.cell? ((⟨g, 0, none⟩ : Addr).add j) = some u := by
  intro j u hu
  rw [Addr.add_mid, Nat.zero_add, cell_of_row _ _ _ _ _ _ h]
  simpa using hu
theorem step_append_rows {e t : TypeId} {k b : Nat} {z : Value} (T : RowT e t k b z) {ops : Array Oper} {o : Oper} {a : Act} {K : Act → World → Prop} {Q : Exit → Act → World → Prop} {E : Prop} (w : World) (hgd : o.guard = none) (s x : Operand)
    (ho : o.op = .call { callee := .builtin .append, args := #[s, x], argTypes := #[t, t] }) (base : Nat) (v : Value) (rs : List (List Value)) (hs : a.eval s = v) (hown : OwnR w base e k v rs)
    (ad : Addr) (m c : Nat) (news : List (List Value)) (hx : a.eval x = .slice (some ad) m c) (hw : Wide k news) (hm : news.length = m) (hr : ∀ j u, news.flatten[j]? = some u → w.cell? (ad.add j) = some u)
    (h63 : rs.length + m ≤ maxLen) (hby : (rs.length + m) * b ≤ 140737488355328) (hbase : base ≤ w.heap.size)
    (h : ∀ v' w', OwnR w' base e k v' (rs ++ news) → w.grownBy w' v.ownBlock → (v'.ownBlock = v.ownBlock ∨ v'.ownBlock = some w.heap.size) → K (a.put o.dst v') w') :
    if Region.wanted o (yielded ops a.tmps) = true then Oper.wp Try.prog o a w K Q else E := by
  rw [if_pos (by simp [Region.wanted, hgd])]
  obtain ⟨v', w', hrun, h2, h3, h4⟩ := run_append_rows T w o.type base v rs hown ad m c news hw hm hr h63 hby hbase
  exact Lib.wp_append_run w s x t t ho _ _ hs hx v' w' hrun (h v' w' h2 h3 h4)
theorem list_append_rows {e t : TypeId} {k b : Nat} {z : Value} (T : RowT e t k b z) {ops : Array Oper} {rest : List Oper} {o : Oper} {a : Act} {Q : Exit → Act → World → Prop} (w : World) (hw' : Region.wanted o (yielded ops a.tmps) = true) (s x : Operand)
    (ho : o.op = .call { callee := .builtin .append, args := #[s, x], argTypes := #[t, t] }) (base : Nat) (v : Value) (rs : List (List Value)) (hs : a.eval s = v) (hown : OwnR w base e k v rs)
    (ad : Addr) (m c : Nat) (news : List (List Value)) (hx : a.eval x = .slice (some ad) m c) (hw : Wide k news) (hm : news.length = m) (hr : ∀ j u, news.flatten[j]? = some u → w.cell? (ad.add j) = some u)
    (h63 : rs.length + m ≤ maxLen) (hby : (rs.length + m) * b ≤ 140737488355328) (hbase : base ≤ w.heap.size)
    (h : ∀ v' w', OwnR w' base e k v' (rs ++ news) → w.grownBy w' v.ownBlock → (v'.ownBlock = v.ownBlock ∨ v'.ownBlock = some w.heap.size) → wpList Try.prog ops Q rest (a.put o.dst v') w') :
    wpList Try.prog ops Q (o :: rest) a w :=
  wpList_step fun _ hK => by
    rw [if_pos hw']
    obtain ⟨v', w', hrun, h2, h3, h4⟩ := run_append_rows T w o.type base v rs hown ad m c news hw hm hr h63 hby hbase
    exact Lib.wp_append_run w s x t t ho _ _ hs hx v' w' hrun (hK _ _ (h v' w' h2 h3 h4))

theorem row_cells {w : World} {g : Nat} {cs : Array Value} {t : TypeId} (h : w.heap[g]? = some (.cells cs t (0, 0))) (i : Nat) : w.cell? ⟨g, i, none⟩ = cs[i]? ∧ w.frozen? ⟨g, i, none⟩ = false := ⟨cell_of_row _ _ _ _ _ _ h, by simp [World.frozen?, h]⟩
theorem Kept.of_setRow (w : World) (g : Nat) (A : Array Value) : Kept (fun k => k = g) w (w.setRow g A) :=
  ⟨rfl, rfl, rfl, by simp [World.setRow], fun k _ hn => by simp only [World.setRow, Array.getElem?_modify]; rw [if_neg (fun h => hn h.symm)]⟩
theorem set_row_at {w : World} {g : Nat} {A B : Array Value} {t : TypeId} {fr : Nat × Nat} (h : w.heap[g]? = some (.cells A t fr)) : (w.setRow g B).heap[g]? = some (.cells B t fr) := by
  simp [World.setRow, Array.getElem?_modify, h]
theorem Kept.cell {F : Nat → Prop} {w w' : World} (h : Kept F w w') {k i : Nat} (hk : k < w.heap.size) (hF : ¬ F k) : w'.cell? ⟨k, i, none⟩ = w.cell? ⟨k, i, none⟩ :=
  World.cell?_of_block (w := w) (a := ⟨k, i, none⟩) (h.block k hk hF)
theorem Kept.weak {F G : Nat → Prop} {w w' : World} (h : Kept F w w') (hF : ∀ k, F k → G k) : Kept G w w' := ⟨h.os, h.tape, h.output, h.size, fun k hk hn => h.block k hk (fun hf => hn (hF k hf))⟩
/-- A cell of a block that is known whole is set. -/
theorem set_cell_at {w : World} {g i : Nat} {A : Array Value} {t : TypeId} (v : Value) (h : w.heap[g]? = some (.cells A t (0, 0))) : (w.setCell ⟨g, i, none⟩ v).heap[g]? = some (.cells (A.setIfInBounds i v) t (0, 0)) := heap_setCell_same w g i A t v h
end Go.Proofs.Ytgdncmkhcdmjoaa
