/-
  A map from numbers to whatever lies under them, by its raw values. Conditions: a number that is stored under lies within 64 bits, and those that are there within 1 to 2^40.
-/
import Derived.Test.YtgdncmkhcdmjoaaWords
import Derived.Test.YtgdncmkhcdmjoaaChecked
import Derived.RowKit
import Derived.Maps.OwnSet
import Derived.Maps.RangeWalk
set_option linter.unusedSimpArgs false
set_option linter.unusedVariables false
namespace Go.Proofs.Ytgdncmkhcdmjoaa
open Go.RowKit
open Go.WideElems (Fit rd rg rd_key rg_of)
open Go.ChangeMaps Go.MapKept Go.WideShapes

/-- A value as it is. -/
def raw (v : Value) : Option (DataW Value × List MemPlace) := some (.held v, [])
theorem int_key : Maps.Keyed Try.prog 3 := Maps.int_keyed Try.underlying3
theorem lit_ne {x y : Int} (h : x ≠ y) : (Lit.int .i64 x) ≠ .int .i64 y := fun e => by injection e with _ e; exact h e
/-- The map in block b holds M. -/
def IMap (w : World) (b : Nat) (M : Int → Option Value) : Prop :=
  ∃ D : DataW Value, w.ownsMap Try.prog 3 raw b (Maps.size D) D ∧ (∀ x, Maps.has D (.int .i64 x) = (M x).isSome) ∧ ∀ x v, M x = some v → ∀ z, D.atKey (.int .i64 x) z = .held v
theorem owns_tight {w : World} {b n : Nat} {D : DataW Value} (h : w.ownsMap Try.prog 3 raw b n D) : w.ownsMap Try.prog 3 raw b (Maps.size D) D := by
  obtain ⟨es, clock, hb, F, hs, rfl⟩ := h
  exact ⟨es, clock, hb, F, by simp [Maps.size, length_sorted], rfl⟩

/-- So many different numbers lie between lo and lo + N. -/
theorem pigeon (lo : Int) : ∀ (N : Nat) (l : List Int), l.Nodup → (∀ x ∈ l, lo < x ∧ x ≤ lo + N) → l.length ≤ N
  | 0, l, _, h => by
    rcases l with _ | ⟨x, l⟩
    · simp
    · have := h x (by simp)
      omega
  | N + 1, l, hn, h => by
    by_cases hm : lo + (N + 1 : Nat) ∈ l
    · have h1 := List.length_erase_of_mem hm
      have h2 := pigeon lo N (l.erase (lo + (N + 1 : Nat))) (hn.erase _) (fun x hx => by
        have hx' := (hn.mem_erase_iff).1 hx
        have := h x hx'.2
        have h3 := hx'.1
        omega)
      have h3 : 0 < l.length := List.length_pos_of_mem hm
      omega
    · have := pigeon lo N l hn (fun x hx => by
        have h1 := h x hx
        refine ⟨h1.1, ?_⟩
        by_cases h2 : x = lo + (N + 1 : Nat)
        · rw [h2] at hx
          exact absurd hx hm
        · omega)
      omega

section
variable {w w' : World} {b : Nat} {M : Int → Option Value}
/-- The numbers that are there, each once. -/
theorem IMap.keys {D : DataW Value} {n : Nat} (h : w.ownsMap Try.prog 3 raw b n D) : ∃ ks : List Int, ks.Nodup ∧ (∀ x, x ∈ ks ↔ Maps.has D (.int .i64 x) = true) ∧ ks.length = Maps.size D := by
  obtain ⟨es, clock, hb, F, hs, rfl⟩ := h
  have hk : ∀ p ∈ (es.toList.map (rg Try.prog 3 raw)).foldr DataW.insert [], ∃ x, p.1 = Lit.int .i64 x := fun p hp => by
    obtain ⟨key, hkey⟩ := Maps.fit_keys F p (mem_sorted.1 hp)
    obtain ⟨x', hx'⟩ := Maps.keyOf_int_inv Try.underlying3 hkey
    exact ⟨x', hx'.2.1⟩
  have hpw : ((es.toList.map (rg Try.prog 3 raw)).foldr DataW.insert []).Pairwise (fun p q => p.1 ≠ q.1) := ((sorted_perm _).pairwise_iff (fun {_ _} hne => Ne.symm hne)).2 (Maps.fit_apart int_key F)
  generalize (es.toList.map (rg Try.prog 3 raw)).foldr DataW.insert [] = S at *
  let f : Lit × DataW Value → Int := fun p => match p.1 with
    | .int _ x => x
    | _ => 0
  have hf : ∀ p ∈ S, p.1 = Lit.int .i64 (f p) := fun p hp => by
    obtain ⟨x, hx⟩ := hk p hp
    show p.1 = Lit.int .i64 (match p.1 with
      | .int _ x => x
      | _ => 0)
    rw [hx]
  refine ⟨S.map f, ?_, fun x => ?_, by simp [Maps.size]⟩
  · rw [List.Nodup, List.pairwise_map]
    refine List.Pairwise.imp_of_mem (fun {p q} hp hq hne e => hne ?_) hpw
    rw [hf p hp, hf q hq, e]
  · rw [List.mem_map, Maps.has_eq, List.any_eq_true]
    constructor
    · rintro ⟨p, hp, rfl⟩
      exact ⟨p, hp, by rw [hf p hp]; simp [Lit.sameKey]⟩
    · rintro ⟨p, hp, hs'⟩
      have e := WideAt.sameKey_eq hs'
      refine ⟨p, hp, ?_⟩
      have e2 := hf p hp
      rw [e] at e2
      injection e2 with _ e2
      exact e2.symm
/-- Where all that are there lie between lo and lo + N, they are N at most. -/
theorem IMap.count (lo : Int) (N : Nat) {D : DataW Value} {n : Nat} (h : w.ownsMap Try.prog 3 raw b n D) (hr : ∀ x, Maps.has D (.int .i64 x) = true → lo < x ∧ x ≤ lo + N) : Maps.size D ≤ N := by
  obtain ⟨ks, h1, h2, h3⟩ := IMap.keys h
  rw [← h3]
  exact pigeon lo N ks h1 (fun x hx => hr x ((h2 x).1 hx))
theorem IMap.lt (h : IMap w b M) : b < w.heap.size := by
  obtain ⟨D, ho, _⟩ := h
  exact ho.lt
theorem IMap.obj (h : IMap w b M) : ∃ es cl, w.heap[b]? = some (.map es cl) := by
  obtain ⟨D, ⟨es, clock, hb, _⟩, _⟩ := h
  exact ⟨es, clock, hb⟩
theorem IMap.keep (h : IMap w b M) (e : w'.heap[b]? = w.heap[b]?) : IMap w' b M := by
  obtain ⟨D, ⟨es, cl, h1, h2⟩, hh⟩ := h
  exact ⟨D, ⟨es, cl, e.trans h1, h2⟩, hh⟩
theorem IMap.new (w : World) : IMap (w.alloc (.map #[] 0)) w.heap.size (fun _ => none) := ⟨.map [], World.ownsMap_made w _ _ _, fun _ => rfl, fun _ _ e => by cases e⟩
theorem IMap.look {T E : TypeId} (hT : Try.prog.underlying T = some (.map 3 E)) (c : Bool) (h : IMap w b M) {x : Int} (hx : (Lit.int .i64 x).wf = true) {z : Value} (hz : (zeroValue E).run Try.prog w = .ok z w) :
    (Instr.lookup T (.map (some b)) (.int .i64 x) c).run Try.prog w = .ok (if c then .tuple #[(M x).getD z, .bool (M x).isSome] else (M x).getD z) w := by
  obtain ⟨D, ⟨es, clock, hb, F, hs, rfl⟩, hh, hv⟩ := h
  have hkey := Maps.keyOf_int_mk Try.underlying3 hx
  rcases Maps.fit_look c int_key hT hz hb F hkey with ⟨hrun, _, hat⟩ | ⟨e0, y, _, _, hrun, hRv, hat, _⟩
  · have h0 := Maps.has_false_of_atKey hat
    rw [hh x] at h0
    rw [hrun]
    cases hM : M x with
    | none => rfl
    | some u => rw [hM] at h0; cases h0
  · have h0 := Maps.has_true_of_atKey hat
    rw [hh x] at h0
    rw [hrun]
    cases hM : M x with
    | none => rw [hM] at h0; cases h0
    | some u =>
      have e1 := hv x u hM (.held undef)
      rw [hat] at e1
      have e2 : DataW.held e0.val = y.1 := congrArg Prod.fst (Option.some.inj hRv)
      rw [← e2] at e1
      have e3 := DataW.held.inj e1
      rw [e3]
      rfl
theorem IMap.store {T E : TypeId} (hT : Try.prog.underlying T = some (.map 3 E)) (h : IMap w b M) (hr : ∀ x v, M x = some v → 1 ≤ x ∧ x ≤ 1099511627776) {x : Int} (hx : (Lit.int .i64 x).wf = true) (v : Value) :
    ∃ w', (Instr.mapUpdate T (.map (some b)) (.int .i64 x) v).run Try.prog w = .ok () w' ∧ IMap w' b (fun y => if y = x then some v else M y) ∧ w.mapTurned w' b := by
  obtain ⟨D, ho, hh, hv⟩ := h
  have hsz : Maps.size D ≤ 1099511627776 := IMap.count 0 _ ho (fun x hx => by
    rw [hh x] at hx
    obtain ⟨u, hu⟩ := Option.isSome_iff_exists.1 hx
    have := hr x u hu
    omega)
  have hkey := Maps.keyOf_int_mk Try.underlying3 hx
  obtain ⟨w', hrun, ho', ht⟩ := ho.store int_key hT (by unfold maxLen; omega) hkey (val := v) (d := .held v) (ps := []) rfl
  have hm := ho.isMap
  have hk := int_key.key hkey
  refine ⟨w', hrun, ⟨_, owns_tight ho', fun y => ?_, fun y u hy z => ?_⟩, ht⟩
  · dsimp only
    by_cases e : y = x
    · subst e; rw [Maps.has_put_same hm hk, if_pos rfl]; rfl
    · rw [Maps.has_put_other (lit_ne e), if_neg e]; exact hh y
  · dsimp only at hy
    by_cases e : y = x
    · subst e
      rw [if_pos rfl] at hy
      rw [Maps.atKey_put_same hm hk, Option.some.inj hy]
    · rw [if_neg e] at hy
      rw [Maps.atKey_put_other (lit_ne e)]
      exact hv y u hy z
theorem IMap.drop {T E : TypeId} (hT : Try.prog.underlying T = some (.map 3 E)) (h : IMap w b M) {x : Int} (hx : (Lit.int .i64 x).wf = true) (ty : TypeId) :
    ∃ w', (Builtin.delete_ #[T, 3] ty #[.map (some b), .int .i64 x]).run Try.prog w = .ok (.tuple #[]) w' ∧ IMap w' b (fun y => if y = x then none else M y) ∧ w.mapTurned w' b := by
  obtain ⟨D, ho, hh, hv⟩ := h
  have hkey := Maps.keyOf_int_mk Try.underlying3 hx
  obtain ⟨w', hrun, ho', ht⟩ := ho.drop int_key hT hkey ty
  refine ⟨w', hrun, ⟨_, owns_tight ho', fun y => ?_, fun y u hy z => ?_⟩, ht⟩
  · dsimp only
    by_cases e : y = x
    · subst e; rw [Maps.has_del_same, if_pos rfl]; rfl
    · rw [Maps.has_del_other (lit_ne e), if_neg e]; exact hh y
  · dsimp only at hy
    by_cases e : y = x
    · rw [if_pos e] at hy; cases hy
    · rw [if_neg e] at hy
      rw [Maps.atKey_del_other (lit_ne e)]
      exact hv y u hy z
end
end Go.Proofs.Ytgdncmkhcdmjoaa
