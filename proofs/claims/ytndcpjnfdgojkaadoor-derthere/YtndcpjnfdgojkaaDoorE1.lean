/-
  Der: the page's examples of numbers.
-/
import Derived.Test.YtndcpjnfdgojkaaDoorE0
import Derived.LoopN
namespace Go.Proofs.YtndcpjnfdgojkaaDoor
open Go.RowKit
theorem isInt_live {w : World} (b : Nat) (c0 : w.cell? ⟨b, 0, none⟩ = some (.int .u8 255)) (c1 : w.cell? ⟨b, 1, none⟩ = some (.int .u8 127)) :
    Calls Tryd.prog 39 #[.slice (some ⟨b, 0, none⟩) 2 2] w fun e w' => e = .returned (.bool true) ∧ w = w' := by
  go_enter Tryd.func39, Tryd.ntmps39
  go_wp2
  go_ret
  exact ⟨rfl, rfl⟩
theorem isInt_one {w : World} (b : Nat) : Calls Tryd.prog 39 #[.slice (some ⟨b, 0, none⟩) 1 1] w fun e w' => e = .returned (.bool true) ∧ w = w' := by
  go_enter Tryd.func39, Tryd.ntmps39
  go_wp2
  go_ret
  exact ⟨rfl, rfl⟩
theorem int_val : bits BinOp.or IntKind.i64 (wrap64 (wrap64 (IntKind.i8.wrap 255) * 256)) 127 = -129 := by decide +kernel
theorem Int_live {w : World} (b : Nat) (hA : Arr .u8 5 w b [255, 127]) :
    Calls Tryd.prog 19 #[.slice (some ⟨b, 0, none⟩) 2 2] w fun e w' => e = .returned (.tuple #[.int .i64 (-129), .int .i64 0]) ∧ w = w' := by
  have c0 : w.cell? ⟨b, 0, none⟩ = some (.int .u8 255) := hA.cell 0 (by simp)
  have c1 : w.cell? ⟨b, 1, none⟩ = some (.int .u8 127) := hA.cell 1 (by simp)
  clear hA
  go_enter Tryd.func19, Tryd.ntmps19
  go_wp2_with (go_at_call 39; refine (isInt_live b c0 c1).mono ?_; rintro e w' ⟨rfl, rfl⟩)
  refine wp_loop_rounds 2 ?_
  rw [rounds_succ]
  go_wp2
  rw [rounds_succ]
  go_wp2
  go_ret2
  refine ⟨?_, rfl⟩
  show Ending.returned (.tuple #[.int .i64 (bits BinOp.or IntKind.i64 (wrap64 (wrap64 (IntKind.i8.wrap 255) * 256)) 127), .int .i64 0]) = _
  rw [int_val]
theorem Uint_live {w : World} (b : Nat) (hA : Arr .u8 5 w b [128]) :
    Calls Tryd.prog 21 #[.slice (some ⟨b, 0, none⟩) 1 1] w fun e w' => e = .returned (.tuple #[.slice none 0 0, .int .i64 40]) ∧ w = w' := by
  have c0 : w.cell? ⟨b, 0, none⟩ = some (.int .u8 128) := hA.cell 0 (by simp)
  clear hA
  go_enter Tryd.func21, Tryd.ntmps21
  go_wp2_with (go_at_call 39; refine (isInt_one b).mono ?_; rintro e w' ⟨rfl, rfl⟩)
  go_ret2
  exact ⟨rfl, rfl⟩
theorem num4_any (x : Int) (w : World) : Calls Tryd.prog 15 #[.int .i64 x] w fun e w' => e = .returned (.int .i64 x) ∧ w = w' := by
  go_enter Tryd.func15, Tryd.ntmps15
  go_wp2
  go_ret
  exact ⟨rfl, rfl⟩
end Go.Proofs.YtndcpjnfdgojkaaDoor
