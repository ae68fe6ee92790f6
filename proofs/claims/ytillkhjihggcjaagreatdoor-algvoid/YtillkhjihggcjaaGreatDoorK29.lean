/-
  Alg: the reference's Sign.
-/
import Derived.Test.YtillkhjihggcjaaGreatDoorK28
namespace Go.Proofs.YtillkhjihggcjaaGreatDoor
open Go.RowKit
set_option maxRecDepth 20000
theorem ixr_0 (w : World) : (Instr.index 111 (.agg #[.string ⟨#[49]⟩, .string ⟨#[53]⟩, .string ⟨#[49, 49]⟩, .string ⟨#[49, 50]⟩, .string ⟨#[49, 51]⟩]) (.int .i64 0)).run Tryz.prog w = .ok (.string ⟨#[49]⟩) w := by kernel_rfl
theorem ixr_1 (w : World) : (Instr.index 111 (.agg #[.string ⟨#[49]⟩, .string ⟨#[53]⟩, .string ⟨#[49, 49]⟩, .string ⟨#[49, 50]⟩, .string ⟨#[49, 51]⟩]) (.int .i64 1)).run Tryz.prog w = .ok (.string ⟨#[53]⟩) w := by kernel_rfl
theorem ixr_2 (w : World) : (Instr.index 111 (.agg #[.string ⟨#[49]⟩, .string ⟨#[53]⟩, .string ⟨#[49, 49]⟩, .string ⟨#[49, 50]⟩, .string ⟨#[49, 51]⟩]) (.int .i64 2)).run Tryz.prog w = .ok (.string ⟨#[49, 49]⟩) w := by kernel_rfl
theorem ixr_3 (w : World) : (Instr.index 111 (.agg #[.string ⟨#[49]⟩, .string ⟨#[53]⟩, .string ⟨#[49, 49]⟩, .string ⟨#[49, 50]⟩, .string ⟨#[49, 51]⟩]) (.int .i64 3)).run Tryz.prog w = .ok (.string ⟨#[49, 50]⟩) w := by kernel_rfl
theorem ixr_4 (w : World) : (Instr.index 111 (.agg #[.string ⟨#[49]⟩, .string ⟨#[53]⟩, .string ⟨#[49, 49]⟩, .string ⟨#[49, 50]⟩, .string ⟨#[49, 51]⟩]) (.int .i64 4)).run Tryz.prog w = .ok (.string ⟨#[49, 51]⟩) w := by kernel_rfl
theorem ixp_1 (w : World) : (Instr.index 111 (.agg #[.string ⟨#[]⟩, .string ⟨#[49]⟩, .string ⟨#[51, 46, 50]⟩, .string ⟨#[51, 46, 51]⟩, .string ⟨#[51, 46, 52]⟩]) (.int .i64 1)).run Tryz.prog w = .ok (.string ⟨#[49]⟩) w := by kernel_rfl
theorem ixp_2 (w : World) : (Instr.index 111 (.agg #[.string ⟨#[]⟩, .string ⟨#[49]⟩, .string ⟨#[51, 46, 50]⟩, .string ⟨#[51, 46, 51]⟩, .string ⟨#[51, 46, 52]⟩]) (.int .i64 2)).run Tryz.prog w = .ok (.string ⟨#[51, 46, 50]⟩) w := by kernel_rfl
theorem ixp_3 (w : World) : (Instr.index 111 (.agg #[.string ⟨#[]⟩, .string ⟨#[49]⟩, .string ⟨#[51, 46, 50]⟩, .string ⟨#[51, 46, 51]⟩, .string ⟨#[51, 46, 52]⟩]) (.int .i64 3)).run Tryz.prog w = .ok (.string ⟨#[51, 46, 51]⟩) w := by kernel_rfl
theorem ixp_4 (w : World) : (Instr.index 111 (.agg #[.string ⟨#[]⟩, .string ⟨#[49]⟩, .string ⟨#[51, 46, 50]⟩, .string ⟨#[51, 46, 51]⟩, .string ⟨#[51, 46, 52]⟩]) (.int .i64 4)).run Tryz.prog w = .ok (.string ⟨#[51, 46, 52]⟩) w := by kernel_rfl
theorem ROr_0 {w : World} : Calls Tryz.prog 28 #[.int .i64 0] w fun e w' => e = .returned (.string ⟨#[49, 46, 50, 46, 56, 52, 48, 46, 49, 49, 51, 53, 52, 57, 46, 49, 46, 49, 46, 49]⟩) ∧ w = w' := by
  have hx := ixr_0
  go_enter Tryz.func28, Tryz.ntmps28; go_wp2; go_ret; exact ⟨rfl, rfl⟩
theorem ROr_1 {w : World} : Calls Tryz.prog 28 #[.int .i64 1] w fun e w' => e = .returned (.string ⟨#[49, 46, 50, 46, 56, 52, 48, 46, 49, 49, 51, 53, 52, 57, 46, 49, 46, 49, 46, 53]⟩) ∧ w = w' := by
  have hx := ixr_1
  go_enter Tryz.func28, Tryz.ntmps28; go_wp2; go_ret; exact ⟨rfl, rfl⟩
theorem ROr_2 {w : World} : Calls Tryz.prog 28 #[.int .i64 2] w fun e w' => e = .returned (.string ⟨#[49, 46, 50, 46, 56, 52, 48, 46, 49, 49, 51, 53, 52, 57, 46, 49, 46, 49, 46, 49, 49]⟩) ∧ w = w' := by
  have hx := ixr_2
  go_enter Tryz.func28, Tryz.ntmps28; go_wp2; go_ret; exact ⟨rfl, rfl⟩
theorem ROr_3 {w : World} : Calls Tryz.prog 28 #[.int .i64 3] w fun e w' => e = .returned (.string ⟨#[49, 46, 50, 46, 56, 52, 48, 46, 49, 49, 51, 53, 52, 57, 46, 49, 46, 49, 46, 49, 50]⟩) ∧ w = w' := by
  have hx := ixr_3
  go_enter Tryz.func28, Tryz.ntmps28; go_wp2; go_ret; exact ⟨rfl, rfl⟩
theorem ROr_4 {w : World} : Calls Tryz.prog 28 #[.int .i64 4] w fun e w' => e = .returned (.string ⟨#[49, 46, 50, 46, 56, 52, 48, 46, 49, 49, 51, 53, 52, 57, 46, 49, 46, 49, 46, 49, 51]⟩) ∧ w = w' := by
  have hx := ixr_4
  go_enter Tryz.func28, Tryz.ntmps28; go_wp2; go_ret; exact ⟨rfl, rfl⟩
theorem ROp_1 {w : World} : Calls Tryz.prog 29 #[.int .i64 1] w fun e w' => e = .returned (.string ⟨#[49, 46, 50, 46, 56, 52, 48, 46, 49, 48, 48, 52, 53, 46, 52, 46, 49]⟩) ∧ w = w' := by
  have hx := ixp_1
  go_enter Tryz.func29, Tryz.ntmps29; go_wp2; go_ret; exact ⟨rfl, rfl⟩
theorem ROp_2 {w : World} : Calls Tryz.prog 29 #[.int .i64 2] w fun e w' => e = .returned (.string ⟨#[49, 46, 50, 46, 56, 52, 48, 46, 49, 48, 48, 52, 53, 46, 52, 46, 51, 46, 50]⟩) ∧ w = w' := by
  have hx := ixp_2
  go_enter Tryz.func29, Tryz.ntmps29; go_wp2; go_ret; exact ⟨rfl, rfl⟩
theorem ROp_3 {w : World} : Calls Tryz.prog 29 #[.int .i64 3] w fun e w' => e = .returned (.string ⟨#[49, 46, 50, 46, 56, 52, 48, 46, 49, 48, 48, 52, 53, 46, 52, 46, 51, 46, 51]⟩) ∧ w = w' := by
  have hx := ixp_3
  go_enter Tryz.func29, Tryz.ntmps29; go_wp2; go_ret; exact ⟨rfl, rfl⟩
theorem ROp_4 {w : World} : Calls Tryz.prog 29 #[.int .i64 4] w fun e w' => e = .returned (.string ⟨#[49, 46, 50, 46, 56, 52, 48, 46, 49, 48, 48, 52, 53, 46, 52, 46, 51, 46, 52]⟩) ∧ w = w' := by
  have hx := ixp_4
  go_enter Tryz.func29, Tryz.ntmps29; go_wp2; go_ret; exact ⟨rfl, rfl⟩
end Go.Proofs.YtillkhjihggcjaaGreatDoor
