/-
  Der: the page's example of an object identifier, its numbers.
-/
import Derived.Test.YtndcpjnfdgojkaaDoorE5
namespace Go.Proofs.YtndcpjnfdgojkaaDoor
open Go.RowKit
theorem Tryd.und64 : Tryd.prog.underlying 83 = some (.slice 81) := by kernel_rfl
theorem Tryd.info64 : (Tryd.prog.info? 81).map (fun i => (i.zero, i.size, i.bytes)) = some (some (.int .u64 0), 1, 8) := by kernel_rfl
theorem new64 {w : World} {e : TypeId} (x : Int) : Sl .u64 (w.alloc (.cells #[.int .u64 x] e)) (.slice (some ⟨w.heap.size, 0, none⟩) 1 1) [x] := new_sl [x] (0, 0)
theorem and7_42 : bits .and .u8 42 127 = 42 := by decide +kernel
theorem and7_134 : bits .and .u8 134 127 = 6 := by decide +kernel
theorem and7_72 : bits .and .u8 72 127 = 72 := by decide +kernel
theorem or_42 : bits .or .u64 0 42 = 42 := by decide +kernel
theorem or_6 : bits .or .u64 0 6 = 6 := by decide +kernel
theorem or_840 : bits .or .u64 768 72 = 840 := by decide +kernel
set_option maxRecDepth 20000 in
set_option maxHeartbeats 2000000 in
theorem laidArcs_live {w : World} (b : Nat) (hA : Arr .u8 5 w b [42, 134, 72]) :
    Calls Tryd.prog 44 #[.slice (some ⟨b, 0, none⟩) 3 3] w fun e w' => ∃ r, e = .returned (.tuple #[r, .bool true]) ∧ Row .u64 81 w.heap.size w' r [42, 840] ∧ Below w.heap.size w w' := by
  have hb := hA.lt
  have c0 : w.cell? ⟨b, 0, none⟩ = some (.int .u8 42) := hA.cell 0 (by simp)
  have c1 : w.cell? ⟨b, 1, none⟩ = some (.int .u8 134) := hA.cell 1 (by simp)
  have c2 : w.cell? ⟨b, 2, none⟩ = some (.int .u8 72) := hA.cell 2 (by simp)
  have HA : Hid (Arr .u8 5 w b [42, 134, 72]) := hA
  have a1 := and7_42
  have a2 := and7_134
  have a3 := and7_72
  have o1 := or_42
  have o2 := or_6
  have o3 := or_840
  clear hA
  go_enter Tryd.func44, Tryd.ntmps44
  go_wp2_with fail
  refine wp_loop_rounds 4 ?_
  rw [rounds_succ]
  go_wp2_with (at_builtin; refine wpList_ap rfl (.tmp 29) (.tmp 31) 83 83 rfl .u64 81 8 Tryd.und64 Tryd.info64 (by decide) w.heap.size _ [] rfl (Row.nil _ _ _ _) _ [42] rfl (src_sl Tryd.und64 (new64 42)) (by decide) (by simp) ?_; intro v1 w1 hr hg)
  have hb1 : Below w.heap.size w w1 := (al1 _).trans (hg.below (Row.nil _ _ w.heap.size _) (by simp))
  obtain ⟨a1', k1, hv⟩ := hr.ne
  replace hv : v1 = .slice a1' 1 k1 := hv
  subst hv
  have H1 : Hid (Row .u64 81 w.heap.size w1 (.slice a1' 1 k1) [42] ∧ Below w.heap.size w w1) := ⟨hr, hb1⟩
  replace c1 : w1.cell? ⟨b, 1, none⟩ = some (.int .u8 134) := by rw [hb1.cell (p := ⟨b, 1, none⟩) hb]; exact c1
  replace c2 : w1.cell? ⟨b, 2, none⟩ = some (.int .u8 72) := by rw [hb1.cell (p := ⟨b, 2, none⟩) hb]; exact c2
  clear hr hg hb1 c0
  rw [rounds_succ]
  go_wp2_with fail
  rw [rounds_succ]
  go_wp2_with (at_builtin; refine wpList_ap rfl (.tmp 29) (.tmp 31) 83 83 rfl .u64 81 8 Tryd.und64 Tryd.info64 (by decide) w.heap.size _ [42] rfl (H1.out.1.alloc _) _ [840] rfl (src_sl Tryd.und64 (new64 840)) (by decide) (by have := H1.out.2.size; simp; omega) ?_; intro v2 w2 hr hg)
  have hb2 : Below w.heap.size w w2 := (H1.out.2.alloc H1.out.2.size _).trans (hg.below (H1.out.1.alloc _) (by have := H1.out.2.size; simp; omega))
  obtain ⟨a2', k2, hv⟩ := hr.ne
  replace hv : v2 = .slice a2' 2 k2 := hv
  subst hv
  have H2 : Hid (Row .u64 81 w.heap.size w2 (.slice a2' 2 k2) [42, 840] ∧ Below w.heap.size w w2) := ⟨hr, hb2⟩
  clear hr hg hb2 c1 c2
  rw [rounds_succ]
  go_wp2
  go_ret2
  exact ⟨_, rfl, H2.out.1, H2.out.2⟩
end Go.Proofs.YtndcpjnfdgojkaaDoor
