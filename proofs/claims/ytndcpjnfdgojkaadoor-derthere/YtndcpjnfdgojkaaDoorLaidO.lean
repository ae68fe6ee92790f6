/-
  Der: the table of powers, whole, off the tied list.
-/
import Derived.Test.YtndcpjnfdgojkaaDoorE72
import Derived.Test.YtndcpjnfdgojkaaDoorLaidD
namespace Go.Proofs.YtndcpjnfdgojkaaDoor
open Go.ChangeShapes Go.WideShapes Go.ChangeAt Go.RowKit
theorem Tryd.lf_pow2 : Rows.derSplitsRow.laid.filter (fun x => x.1 == "internal/strconv.uint64pow10") = [("internal/strconv.uint64pow10", Lib.tabData .u64 Lib.pow10Tab)] := by kernel_rfl
theorem p10_of_laid {W : World} (h : laidMetH Tryd.prog Rows.derSplitsRow.laid W) : P10 W := by
  have h1 := laidMetH.filter (fun x => x.1 == "internal/strconv.uint64pow10") h
  rw [Tryd.lf_pow2] at h1
  exact Lib.tabIs_of_head (rest := []) Tryd.g_pow Tryd.gt_pow Tryd.underlying118 Tryd.u64 Tryd.c64 Tryd.gc_pow (laid_one rfl h1)
structure TabO (w : World) : Prop where
  tab : Tab w
  p10 : P10 w
end Go.Proofs.YtndcpjnfdgojkaaDoor
