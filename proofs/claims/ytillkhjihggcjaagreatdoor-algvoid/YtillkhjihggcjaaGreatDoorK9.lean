/-
  Der: decimal numbers of the page's example.
-/
import Derived.Laws.MathBits
import Derived.Deep.CutRange
import Derived.BigQuiet
import Derived.Deep.QuietTactic
import Derived.Test.YtillkhjihggcjaaGreatDoorK8
namespace Go.Proofs.YtillkhjihggcjaaGreatDoor
open Go.RowKit
theorem small_1 {w : World} : Calls Tryz.prog 143 #[.int .i64 1] w fun e w' => e = .returned (.string ⟨#[49]⟩) ∧ w = w' := by
  go_enter Tryz.func143, Tryz.ntmps143
  go_wp2
  go_ret
  exact ⟨rfl, rfl⟩
theorem small_2 {w : World} : Calls Tryz.prog 143 #[.int .i64 2] w fun e w' => e = .returned (.string ⟨#[50]⟩) ∧ w = w' := by
  go_enter Tryz.func143, Tryz.ntmps143
  go_wp2
  go_ret
  exact ⟨rfl, rfl⟩
set_option maxRecDepth 1000000 in
set_option maxHeartbeats 2000000 in
theorem len64_840 {w : World} : Calls Tryz.prog 154 #[.int .u64 840] w fun e w' => e = .returned (.int .i64 10) ∧ w = w' := by
  go_enter Tryz.func154, Tryz.ntmps154
  go_wp2
  go_ret
  refine ⟨?_, rfl⟩
  kernel_rfl
theorem log10_10 {w : World} : Calls Tryz.prog 153 #[.int .i64 10] w fun e w' => e = .returned (.int .i64 3) ∧ w = w' := by
  go_enter Tryz.func153, Tryz.ntmps153
  go_wp2
  go_ret
  exact ⟨rfl, rfl⟩
theorem bool2_f {w : World} : Calls Tryz.prog 155 #[.bool false] w fun e w' => e = .returned (.int .i64 0) ∧ w = w' := by
  go_enter Tryz.func155, Tryz.ntmps155
  go_wp2
  go_ret
  exact ⟨rfl, rfl⟩
/-- What the examples ask of the package's tables. -/
structure Tab (w : World) : Prop where
  size : 2 < w.heap.size
  pw : w.cell? ⟨2, 3, none⟩ = some (.int .u64 1000)
theorem Tab.below {w w' : World} (h : Tab w) (hb : Below w.heap.size w w') : Tab w' :=
  ⟨Nat.lt_of_lt_of_le h.size hb.size, by rw [hb.cell (p := ⟨2, 3, none⟩) h.size]; exact h.pw⟩
theorem numDigits_840 {w : World} (hT : Tab w) : Calls Tryz.prog 144 #[.int .u64 840] w fun e w' => e = .returned (.int .i64 3) ∧ w = w' := by
  have h3 := hT.pw
  clear hT
  go_enter Tryz.func144, Tryz.ntmps144
  go_wp2_with (first
    | (go_at_call 154; refine len64_840.mono ?_; rintro e w' ⟨rfl, rfl⟩)
    | (go_at_call 153; refine log10_10.mono ?_; rintro e w' ⟨rfl, rfl⟩)
    | (go_at_call 155; refine bool2_f.mono ?_; rintro e w' ⟨rfl, rfl⟩))
  go_ret
  exact ⟨rfl, rfl⟩
set_option maxRecDepth 1000000 in
set_option maxHeartbeats 4000000 in
theorem format_840 {w : World} (b c : Nat) (T : TypeId) (S : List Value) (hB : Blk T w b S) (hS : 3 ≤ S.length) :
    Calls Tryz.prog 145 #[.slice (some ⟨b, 0, none⟩) 3 c, .int .u64 840] w fun e w' => (∃ v, e = .returned v) ∧ Upd w w' b ∧ w'.cell? ⟨b, 0, none⟩ = some (.int .u8 56) ∧ w'.cell? ⟨b, 1, none⟩ = some (.int .u8 52) ∧ w'.cell? ⟨b, 2, none⟩ = some (.int .u8 48) := by
  have HB : Hid (Blk T w b S ∧ 3 ≤ S.length) := ⟨hB, hS⟩
  obtain ⟨x0, h0⟩ : ∃ x, w.cell? ⟨b, 0, none⟩ = some x := ⟨_, by rw [hB.cell 0, List.getElem?_eq_getElem (by omega)]⟩
  obtain ⟨x1, h1⟩ : ∃ x, w.cell? ⟨b, 1, none⟩ = some x := ⟨_, by rw [hB.cell 1, List.getElem?_eq_getElem (by omega)]⟩
  obtain ⟨x2, h2⟩ : ∃ x, w.cell? ⟨b, 2, none⟩ = some x := ⟨_, by rw [hB.cell 2, List.getElem?_eq_getElem (by omega)]⟩
  have f0 := hB.frozen 0
  have f1 := hB.frozen 1
  have f2 := hB.frozen 2
  clear hB hS
  go_enter Tryz.func145, Tryz.ntmps145
  go_wp2_with fail
  refine wp_loop_rounds 1 ?_
  rw [rounds_succ]
  go_upto_region 23 with (fail)
  go_region
  go_upto_region 26 with (fail)
  refine wp_gen (fun W => Upd w W b ∧ ∃ S', Blk T W b S' ∧ 3 ≤ S'.length ∧ S'[1]? = some (.int .u8 52) ∧ S'[2]? = some (.int .u8 48)) ⟨Upd.trans (Upd.trans (Upd.set _ _ _ _) (Upd.set _ _ _ _)) ⟨rfl, rfl, rfl, Nat.le_refl _, fun _ _ _ => rfl⟩, _, (HB.out.1.set 2 _).set 1 _, ?_, ?_, ?_⟩ ?_
  · rw [List.length_set, List.length_set]; exact HB.out.2
  · rw [List.getElem?_set_self (by rw [List.length_set]; have := HB.out.2; omega)]; kernel_rfl
  · rw [List.getElem?_set_ne (by omega), List.getElem?_set_self (by have := HB.out.2; omega)]; kernel_rfl
  clear h0 h1 h2 f0 f1 f2
  rintro w1 ⟨hu, S', hB, hl, e1, e2⟩
  obtain ⟨x, h0⟩ : ∃ x, w1.cell? ⟨b, 0, none⟩ = some x := ⟨_, by rw [hB.cell 0, List.getElem?_eq_getElem (by omega)]⟩
  have f0 := hB.frozen 0
  have H1 : Hid (Upd w w1 b ∧ Blk T w1 b S' ∧ 3 ≤ S'.length ∧ S'[1]? = some (.int .u8 52) ∧ S'[2]? = some (.int .u8 48)) := ⟨hu, hB, hl, e1, e2⟩
  clear hu hB hl e1 e2
  go_wp2
  go_end0
  have hB := H1.out.2.1.set 0 (.int .u8 56)
  refine ⟨⟨_, rfl⟩, H1.out.1.trans (Upd.set _ _ _ _), ?_, ?_, ?_⟩
  · rw [hB.cell 0, List.getElem?_set_self (by have := H1.out.2.2.1; omega)]
  · rw [hB.cell 1, List.getElem?_set_ne (by omega), H1.out.2.2.2.1]
  · rw [hB.cell 2, List.getElem?_set_ne (by omega), H1.out.2.2.2.2]
end Go.Proofs.YtillkhjihggcjaaGreatDoor
