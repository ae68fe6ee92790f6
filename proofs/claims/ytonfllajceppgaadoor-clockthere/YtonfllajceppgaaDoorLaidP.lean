/-
  Clock: the table of powers, whole, off the tied list.
-/
import Derived.Test.YtonfllajceppgaaDoorD6
import Derived.Test.YtonfllajceppgaaDoorLaidC
namespace Go.Proofs.YtonfllajceppgaaDoor
open Go.ChangeShapes Go.WideShapes Go.ChangeAt Go.RowKit
theorem Tryd.lf_pow2 : Rows.clockPutsRow.laid.filter (fun x => x.1 == "internal/strconv.uint64pow10") = [("internal/strconv.uint64pow10", Lib.tabData .u64 Lib.pow10Tab)] := by kernel_rfl
theorem tabp_of_laid {W : World} (h : laidMetH Tryd.prog Rows.clockPutsRow.laid W) : TabP W := by
  refine ⟨tabs_of_laid h, ?_⟩
  have h1 := laidMetH.filter (fun x => x.1 == "internal/strconv.uint64pow10") h
  rw [Tryd.lf_pow2] at h1
  exact Lib.tabIs_of_head (rest := []) Tryd.g_pow Tryd.gt_pow Tryd.underlying112 Tryd.u64 Tryd.c64 Tryd.gc_pow (laid_one rfl h1)
end Go.Proofs.YtonfllajceppgaaDoor
