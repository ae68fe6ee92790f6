/-
  Der: the page's examples of numbers.
-/
import Derived.LoopN
import Derived.Test.YtillkhjihggcjaaGreatDoorK6
namespace Go.Proofs.YtillkhjihggcjaaGreatDoor
open Go.RowKit
theorem isInt_live {w : World} (b : Nat) (c0 : w.cell? ⟨b, 0, none⟩ = some (.int .u8 255)) (c1 : w.cell? ⟨b, 1, none⟩ = some (.int .u8 127)) :
    Calls Tryz.prog 117 #[.slice (some ⟨b, 0, none⟩) 2 2] w fun e w' => e = .returned (.bool true) ∧ w = w' := by
  go_enter Tryz.func117, Tryz.ntmps117
  go_wp2
  go_ret
  exact ⟨rfl, rfl⟩
theorem isInt_one {w : World} (b : Nat) : Calls Tryz.prog 117 #[.slice (some ⟨b, 0, none⟩) 1 1] w fun e w' => e = .returned (.bool true) ∧ w = w' := by
  go_enter Tryz.func117, Tryz.ntmps117
  go_wp2
  go_ret
  exact ⟨rfl, rfl⟩
theorem int_val : bits BinOp.or IntKind.i64 (wrap64 (wrap64 (IntKind.i8.wrap 255) * 256)) 127 = -129 := by decide +kernel
theorem Int_live {w : World} (b : Nat) (hA : Arr .u8 5 w b [255, 127]) :
    Calls Tryz.prog 114 #[.slice (some ⟨b, 0, none⟩) 2 2] w fun e w' => e = .returned (.tuple #[.int .i64 (-129), .int .i64 0]) ∧ w = w' := by
  have c0 : w.cell? ⟨b, 0, none⟩ = some (.int .u8 255) := hA.cell 0 (by simp)
  have c1 : w.cell? ⟨b, 1, none⟩ = some (.int .u8 127) := hA.cell 1 (by simp)
  clear hA
  go_enter Tryz.func114, Tryz.ntmps114
  go_wp2_with (go_at_call 117; refine (isInt_live b c0 c1).mono ?_; rintro e w' ⟨rfl, rfl⟩)
  refine wp_loop_rounds 2 ?_
  rw [rounds_succ]
  go_wp2
  rw [rounds_succ]
  go_wp2
  go_ret2
  refine ⟨?_, rfl⟩
  show Ending.returned (.tuple #[.int .i64 (bits BinOp.or IntKind.i64 (wrap64 (wrap64 (IntKind.i8.wrap 255) * 256)) 127), .int .i64 0]) = _
  rw [int_val]
theorem Uint_live {w : World} (b : Nat) (hA : Arr .u8 5 w b [128]) :
    Calls Tryz.prog 99 #[.slice (some ⟨b, 0, none⟩) 1 1] w fun e w' => e = .returned (.tuple #[.slice none 0 0, .int .i64 40]) ∧ w = w' := by
  have c0 : w.cell? ⟨b, 0, none⟩ = some (.int .u8 128) := hA.cell 0 (by simp)
  clear hA
  go_enter Tryz.func99, Tryz.ntmps99
  go_wp2_with (go_at_call 117; refine (isInt_one b).mono ?_; rintro e w' ⟨rfl, rfl⟩)
  go_ret2
  exact ⟨rfl, rfl⟩
end Go.Proofs.YtillkhjihggcjaaGreatDoor
