/-
  The walk of the Link laws' head. No condition.
-/
import Derived.Test.YtpbfibofjkinmaaLinkX
import Derived.Lib.SlBytesConst
set_option linter.unusedSimpArgs false
set_option linter.unusedVariables false
namespace Go.Proofs.Ytpbfibofjkinmaa
open Go.RowKit Go.Maps

set_option maxHeartbeats 4000000 in
set_option maxRecDepth 20000 in
theorem head13_any (w : World) : Calls Try.prog 34 #[] w fun e w' => e = .returned (.bool true) ∧ Below w.heap.size w w' := by
  have kc := fun (w : World) (C : Array Value) (n c : Nat) => Lib.run_convert_bytes_const (P := Try.prog) w 32 5 C n c Try.underlying32 Try.underlying5
  go_enter Try.func34, Try.ntmps34
  go_wp2_with fail
  refine (enew 3 10 w).mono ?_
  rintro e w1 ⟨rfl, hE1, hb1⟩
  go_wp2_with fail
  refine (enew 1 10 w1).mono ?_
  rintro e w2 ⟨rfl, hE2, hb2⟩
  have hz1 := (hE1.lt w.heap.size rfl).2
  have hD2 : Duo w w2 w.heap.size w1.heap.size (Lk.new 3 10) (Lk.new 1 10) (fun j => j = w.heap.size) (fun j => j = w1.heap.size) :=
    ⟨hE1.below hb2, hE2.from_ hb1.size, fun j h1 h2 => by omega, hb1.trans (hb2.mono hb1.size)⟩
  generalize hga : w.heap.size = ga at *
  generalize hgb : w1.heap.size = gb at *
  have HGA := hide hga
  clear hE1 hb1 hE2 hb2 hgb hga
  have hba : Below w2.heap.size w2 (w2.alloc (.cells #[.int .u8 97] 5 (1, 2))) := (Below.refl _ _).alloc (Nat.le_refl _) _
  have hD3 := hD2.below hba
  have hx3 : Has (w2.alloc (.cells #[.int .u8 97] 5 (1, 2))) (w2.heap.size + 1) (some ⟨w2.heap.size, 0, none⟩) [97] := Has.new w2 5 [97] (1, 2) w2.heap.size rfl
  have hsd := esendH (some ⟨w2.heap.size, 0, none⟩) 1 1 [97] hD3.a (Fit.new 3 10) (hx3.more (by simp)) rfl (fun j o e => by
    injection e with e
    injection e with e
    have := (hD2.a.lt ga rfl).2
    omega) (by decide) (by decide)
  rw [show sendE (Lk.new 3 10) ([97] : List UInt8).length = 0 from by decide] at hsd
  have HD3 := hide hD3
  clear hD2 hba hD3 hx3 hz1
  go_wp2_with fail
  generalize w2.alloc (.cells #[.int .u8 97] 5 (1, 2)) = w3 at *
  refine hsd.mono ?_
  rintro e w4 ⟨rfl, k1, Fa1, hE4, hk4, hf4, hs4⟩
  have hfit := (Fit.new 3 10).send hs4 (by decide)
  have hD4 := HD3.out.step hE4 hk4 hf4
  obtain ⟨A, n, c, rfl⟩ := head_send hs4
  have ho0 := eout 0 hD4.a hfit
  have HFIT := hide hfit
  have HD4 := hide hD4
  clear HD3 hE4 hk4 hf4 hs4 hsd hfit hD4
  rw [head_out0, head_at0] at ho0
  go_wp2_with fail
  refine ho0.mono ?_
  rintro e w5 ⟨v5, ps, F5, rfl, hO5, hP5, hE5, hk5, hf5⟩
  have hD5 := HD4.out.step hE5 hk5 (fun j hj => .inl (hf5 j hj))
  have hfit5 : Fit (K1 A n c true 0) := by have := HFIT.out.out 0; rwa [head_at0] at this
  obtain ⟨p, rfl⟩ : ∃ p, ps = [p] := by
    have := congrArg List.length hP5
    simp at this
    exact List.length_eq_one_iff.1 this
  have hpb : p.bs = F0 := by simpa using hP5
  have hpl : ∀ q ∈ [p], q.bs.length ≤ 140737488355328 := fun q hq => by simp at hq; subst hq; rw [hpb]; decide
  obtain ⟨Af, nf, cf, rfl, _, _, _⟩ := hO5.form hpl
  obtain ⟨gf, rfl, hnf, _⟩ := hO5.at_ hpl 0 (by simp)
  obtain rfl : 1 = nf := by simpa using hnf
  obtain ⟨pA, pn, pc, pb⟩ := p
  simp only at hpb
  subst hpb
  have HPL := hide hpl
  have HO5 := hide hO5
  have HD5 := hide hD5
  have HFIT5 := hide hfit5
  obtain ⟨_, e', _, hcell, _, _, _⟩ := hO5.at_ hpl 0 (by simp)
  injection e' with e'
  injection e' with e'
  subst e'
  have hcell' : w5.cell? ⟨gf, 0, none⟩ = some (.slice pA pn pc) := hcell
  clear hcell ho0 hP5 hE5 hk5 hf5 hD5 hfit5 hnf hpl hO5 HD4 HFIT
  go_wp2_with fail
  have hb6 : Below w5.heap.size w5 (w5.alloc (.cells (bcells F0) 5)) := (Below.refl _ _).alloc (Nat.le_refl _) _
  have hy6 : Has (w5.alloc (.cells (bcells F0) 5)) (w5.heap.size + 1) (some ⟨w5.heap.size, 0, none⟩) F0 := Has.new w5 5 F0 (0, 0) w5.heap.size rfl
  have hz6 : (w5.alloc (.cells (bcells F0) 5)).heap.size = w5.heap.size + 1 := by simp
  have eB : (bcells F0) = #[.int .u8 1, .int .u8 1, .int .u8 1, .int .u8 3, .int .u8 1, .int .u8 1, .int .u8 1, .int .u8 1, .int .u8 1, .int .u8 1, .int .u8 97] := rfl
  rw [eB] at hb6 hy6 hz6
  have hO6 := HO5.out.below hb6
  have hD6 := HD5.out.below hb6
  obtain ⟨_, e', _, _, hx6, hxn6, hxl6⟩ := hO6.at_ HPL.out 0 (by simp)
  injection e' with e'
  injection e' with e'
  subst e'
  simp only [List.getElem_cons_zero] at hx6 hxn6 hxl6
  generalize hw6 : w5.alloc (.cells #[.int .u8 1, .int .u8 1, .int .u8 1, .int .u8 3, .int .u8 1, .int .u8 1, .int .u8 1, .int .u8 1, .int .u8 1, .int .u8 1, .int .u8 97] 5) = w6 at *
  refine (same_any pA (some ⟨w5.heap.size, 0, none⟩) pn 11 pc 11 _ _ F0 F0 w6 hx6 hy6 hxn6 rfl hxl6).mono ?_
  rintro e w7 ⟨rfl, n7, rfl⟩
  have hb7 : Below w6.heap.size w6 (w6.drewN n7) := below_drewN (Below.refl _ _) n7
  have hO7 := hide (hO6.below hb7)
  have hD7 := hide (hD6.below hb7)
  generalize w6.drewN n7 = w7 at *
  have ho9 := eout 9 hD7.out.a HFIT5.out
  rw [head_out9, head_at9] at ho9
  rw [show decide (F0 = F0) = true from by decide]
  clear hb6 hy6 hz6 hw6 hO6 hD6 hx6 hxn6 hxl6 hb7 eB hcell' HO5 HD5
  go_wp2_with fail
  refine ho9.mono ?_
  rintro e w8 ⟨v8, ps8, F8, rfl, hO8, hP8, hE8, hk8, hf8⟩
  have hD8 := hide (hD7.out.step hE8 hk8 (fun j hj => .inl (hf8 j hj)))
  have hO9 := hide (hD7.out.a.ownF hO7.out hk8)
  obtain rfl : ps8 = [] := by simpa using hP8
  obtain ⟨A8, n8, c8, rfl, hn8, _, _⟩ := hO8.form (fun p hp => absurd hp (by simp))
  obtain rfl : 0 = n8 := hn8.out
  have ho10 := eout 10 hD8.out.a HFIT5.out
  rw [head_at10] at ho10
  clear ho9 hO8 hP8 hE8 hk8 hf8 hn8 hO7 hD7
  go_wp2_with fail
  refine ho10.mono ?_
  rintro e wA ⟨vA, psA, FA, rfl, hOA, hPA, hEA, hkA, hfA⟩
  have hDA := hide (hD8.out.step hEA hkA (fun j hj => .inl (hfA j hj)))
  have hOB := hide (hD8.out.a.ownF hO9.out hkA)
  have hlA : psA.length = 1 := by
    have h1 := congrArg List.length hPA
    rw [head_out10] at h1
    simpa using h1
  have hbA : ∀ p ∈ psA, p.bs.length ≤ 140737488355328 := by
    intro p hp
    have h1 : p.bs ∈ (K1 A n c true 0).recs ++ (K1 A n c true 0).carries 10 := by rw [← hPA]; exact List.mem_map_of_mem hp
    have h2 : (K1 A n c true 0).recs ++ (K1 A n c true 0).carries 10 = [F0] := by
      rw [← f0_eq]
      simp [Lk.recs, Lk.carries, K1, due10, Lk.car, Lk.old]
    rw [h2] at h1
    simp at h1
    rw [h1]
    decide
  obtain ⟨A9, n9, c9, rfl, hn9, _, _⟩ := hOA.form hbA
  obtain rfl : 1 = n9 := by have := hn9.out; omega
  obtain ⟨_, e', _, hcell, hx, hxn, hxl⟩ := hOB.out.at_ HPL.out 0 (by simp)
  injection e' with e'
  injection e' with e'
  subst e'
  simp only [List.getElem_cons_zero] at hx hxn hxl
  have hcell' : wA.cell? ⟨gf, 0, none⟩ = some (.slice pA pn pc) := hcell
  have hin1 := ein pA pn pc wA.heap.size F0 hDA.out.b (Fit.new 1 10) hx (Nat.le_refl _) hxn hxl (by decide)
  clear ho10 hOA hPA hEA hkA hfA hlA hbA hn9 hcell hx hxn hxl hD8 hO9
  go_wp2_with fail
  refine hin1.mono ?_
  rintro e wC ⟨k2, o2, v2, F2, rfl, ho2, hp2, hE2, hk2, hf2⟩
  obtain ⟨rfl, q1, q2, q3, q4⟩ := head_in1 hp2
  have hfit2 := ((Fit.new 1 10).in_ hp2).1
  have hDC := hide (hDA.out.swap.step hE2 hk2 hf2)
  have hOC := hide (hDA.out.b.ownF hOB.out hk2)
  obtain ⟨_, e', _, hcell, hx, hxn, hxl⟩ := hOC.out.at_ HPL.out 0 (by simp)
  injection e' with e'
  injection e' with e'
  subst e'
  simp only [List.getElem_cons_zero] at hx hxn hxl
  have hcell2 : wC.cell? ⟨gf, 0, none⟩ = some (.slice pA pn pc) := hcell
  have hin2 := ein pA pn pc wC.heap.size F0 hDC.out.a hfit2 hx (Nat.le_refl _) hxn hxl (by omega)
  rw [f0_err]
  have HO2 := hide ho2
  clear hin1 hp2 hE2 hk2 hf2 hDA hOB hcell hx hxn hxl hcell' ho2
  go_wp2_with fail
  refine hin2.mono ?_
  rintro e wD ⟨k3, o3, v3, F3, rfl, ho3, hp3, hE3, hk3, hf3⟩
  obtain rfl := head_in2 hp3 q1 q2 q3
  have hDD := hide (hDC.out.step hE3 hk3 hf3)
  have hO3 := hDC.out.a.own HO2.out hk3
  rw [f0_err]
  obtain ⟨A3, n3, c3, rfl, hn3, _, hx3, _⟩ := hO3.form
  obtain rfl : 1 = n3 := hn3.out
  have HX3 := hide hx3
  clear hin2 ho3 hp3 hE3 hk3 hf3 hDC hOC hcell2 hO3 hn3 hx3 HO2 q1 q2 q3 q4 hfit2
  simp only [outB, outX, Option.isSome_some, Option.isSome_none]
  go_wp2_with fail
  have hbE : Below wD.heap.size wD (wD.alloc (.cells #[.int .u8 97] 5 (1, 2))) := (Below.refl _ _).alloc (Nat.le_refl _) _
  have hyE : Has (wD.alloc (.cells #[.int .u8 97] 5 (1, 2))) (wD.heap.size + 1) (some ⟨wD.heap.size, 0, none⟩) [97] := Has.new wD 5 [97] (1, 2) wD.heap.size rfl
  have hDE := hDD.out.below hbE
  have hxE := HX3.out.keep (fun b hb => hbE.block b hb)
  generalize hwE : wD.alloc (.cells #[.int .u8 97] 5 (1, 2)) = wE at *
  refine (same_any A3 (some ⟨wD.heap.size, 0, none⟩) 1 1 c3 1 _ _ [97] [97] wE hxE hyE rfl rfl (by omega)).mono ?_
  rintro e wF ⟨rfl, nF, rfl⟩
  have hDF := hDE.below (below_drewN (Below.refl wE.heap.size wE) nF)
  have hwt := ewaiting hDF.b
  rw [show decide (([97] : List UInt8) = [97]) = true from by decide]
  have HDF := hide hDF
  clear hbE hyE hDE hxE hwE hDD HX3 hDF
  generalize wE.drewN nF = wG at *
  go_wp2_with fail
  refine hwt.mono ?_
  rintro e wH ⟨rfl, rfl⟩
  clear hwt
  have hfin : Below w.heap.size w wG := HDF.out.bel
  have HFN := hide hfin
  clear hfin
  unfold K1
  simp only [List.length_cons, List.length_nil]
  go_wp2
  go_ret
  exact ⟨rfl, HFN.out⟩
end Go.Proofs.Ytpbfibofjkinmaa
