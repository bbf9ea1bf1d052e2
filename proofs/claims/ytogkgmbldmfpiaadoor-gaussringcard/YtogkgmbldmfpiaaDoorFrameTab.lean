/-
  From the row's condition to the table of powers of ten. No condition.
-/
import Derived.Test.YtogkgmbldmfpiaaDoorFrameD
import Derived.Test.YtogkgmbldmfpiaaDoorShow
import Derived.Lib.LaidTab
namespace Go.Proofs.YtogkgmbldmfpiaaDoor
open Go.ChangeShapes Go.WideShapes Go.ChangeAt Go.RowKit

theorem tPow : (Tryd.prog.globals[(Tryd.prog.globalNamed "internal/strconv.uint64pow10").get!]?).map (·.type) = some 84 := by kernel_rfl

theorem tab_of_laid {W : World} (h : laidMetH Tryd.prog laid3 W) : Tab W := by
  rw [MakeChecks.laidMetH_plain _ _ _ (by kernel_rfl)] at h
  obtain ⟨ps, ⟨g0, t0, cs0, f0, p0, q0, hg0, ht0, hv0, hd0, ⟨g1, t1, cs1, f1, p1, q1, hg1, ht1, hv1, hd1, ⟨g2, t2, cs2, f2, p2, q2, hg2, ht2, hv2, hd2, _, _⟩, _⟩, _⟩, _, _⟩ := h
  obtain rfl := Option.some.inj (gPow.symm.trans hg2)
  obtain rfl := Option.some.inj (tPow.symm.trans ht2)
  have hc := Lib.cells_of_tab (zs := Lib.pow10Tab) (k := .u64) Tryd.underlying84 Tryd.underlying72 (by kernel_rfl) (by kernel_rfl) hd2
  have his : Lib.TabIs Tryd.prog W "internal/strconv.uint64pow10" .u64 Lib.pow10Tab := by
    unfold Lib.TabIs
    rw [hv2, ← hc]
  refine ⟨his, ?_⟩
  exact World.block_lt_of_cell? W _ (his.cell gPow 0 (by decide))
end Go.Proofs.YtogkgmbldmfpiaaDoor
