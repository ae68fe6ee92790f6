/-
  Policy: the tables that the walks of names read, off the tied list.
-/
import Derived.Lib.SmallJoins
import Derived.Lib.LaidTab
import Derived.Lib.LaidU8T
import Derived.LaidSub
import Derived.MakeChecks
import Derived.OpenShut
import Derived.ProofKit
import Derived.Test.YtkjdihikcgpababDoorK26
namespace Go.Proofs.YtkjdihikcgpababDoor
open Go.ChangeShapes Go.WideShapes Go.ChangeAt Go.RowKit
theorem Tryd.gt_pow : (Tryd.prog.globals[2]?).map (·.type) = some 143 := by kernel_rfl
theorem Tryd.gc_pow : Tryd.prog.cellsOf 143 = 20 := by kernel_rfl
theorem Tryd.lf_pow : Rows.policyPlainRow.laid.filter (fun x => x.1 == "internal/strconv.uint64pow10") = [("internal/strconv.uint64pow10", Lib.tabData .u64 Lib.pow10Tab)] := by kernel_rfl
theorem Tryd.lf_fst : Rows.policyPlainRow.laid.filter (fun x => x.1 == "unicode/utf8.first") = [("unicode/utf8.first", Lib.firstData)] := by kernel_rfl
theorem Tryd.lf_acc : Rows.policyPlainRow.laid.filter (fun x => x.1 == "unicode/utf8.acceptRanges") = [("unicode/utf8.acceptRanges", Lib.acceptData)] := by kernel_rfl
theorem Tryd.c64 : Tryd.prog.cellsOf 101 = 1 := by kernel_rfl
theorem Tryd.u64 : Tryd.prog.underlying 101 = some (.int .u64) := by kernel_rfl
theorem laid_one {W : World} {n : String} {d : DataW Unit} (hd : d.handleName?.isNone = true) (h : laidMetH Tryd.prog [(n, d)] W) : laidMet Tryd.prog [(n, d)] W := by
  have e : ([(n, d)] : List (String × DataW Unit)).filter (fun x => x.2.handleName?.isSome) = [] := by
    have h0 : d.handleName?.isSome = false := by cases hx : d.handleName? <;> simp_all
    simp [h0]
  unfold laidMetH at h
  rw [e] at h
  exact h
theorem tabsK_of_laid {W : World} (h : laidMetH Tryd.prog Rows.policyPlainRow.laid W) : TabK W := by
  have h1 := laidMetH.filter (fun x => x.1 == "internal/strconv.uint64pow10") h
  have h2 := laidMetH.filter (fun x => x.1 == "unicode/utf8.first") h
  have h3 := laidMetH.filter (fun x => x.1 == "unicode/utf8.acceptRanges") h
  rw [Tryd.lf_pow] at h1
  rw [Tryd.lf_fst] at h2
  rw [Tryd.lf_acc] at h3
  refine ⟨?_, Lib.tabIs_of_head (rest := []) Tryd.g_pw Tryd.gt_pow Tryd.underlying143 Tryd.u64 Tryd.c64 Tryd.gc_pow (laid_one rfl h1)⟩
  exact utf8Tabs_of_readsT (U8Types.of196 Tryd.lays196) ⟨by kernel_rfl, by kernel_rfl, by kernel_rfl, by kernel_rfl, by kernel_rfl, by kernel_rfl, by kernel_rfl⟩ (Lib.laidMet.reads (laid_one rfl h2) (.head _)) (Lib.laidMet.reads (laid_one rfl h3) (.head _))
end Go.Proofs.YtkjdihikcgpababDoor
