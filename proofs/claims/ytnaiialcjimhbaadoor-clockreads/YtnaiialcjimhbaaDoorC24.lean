/-
  Clock: the reference's May.
-/
import Derived.Test.YtnaiialcjimhbaaDoorC23
namespace Go.Proofs.YtnaiialcjimhbaaDoor
open Go.RowKit
set_option maxRecDepth 100000 in
set_option maxHeartbeats 8000000 in
theorem May_any {w : World} (t : Mo) : Calls Tryd.prog 30 #[.agg t.cells.toArray] w fun e w' => (t.Ok ∧ e = .returned (.bool true) ∨ ¬ t.Ok ∧ e = .returned (.bool false)) ∧ Below w.heap.size w w' := by
  have HO := Mo.ok_iff t
  obtain ⟨Y, M, D, h, m, s⟩ := t
  simp only at HO
  have HK : Hid _ := HO
  clear HO
  unfold Mo.cells
  by_cases a0 : Y < 0
  · go_enter Tryd.func30, Tryd.ntmps30
    go_upto_region 1 with (fail)
    go_quiet (fail)
    go_wp2
    go_ret
    exact ⟨Or.inr ⟨fun k => (by have := HK.out.1 k; omega), rfl⟩, below_drewN _ (al1 _)⟩
    
  by_cases a1 : 9999 < Y
  · go_enter Tryd.func30, Tryd.ntmps30
    go_upto_region 1 with (fail)
    go_quiet (fail)
    go_wp2
    go_ret
    exact ⟨Or.inr ⟨fun k => (by have := HK.out.1 k; omega), rfl⟩, below_drewN _ (al1 _)⟩
    
  by_cases a2 : M < 1
  · go_enter Tryd.func30, Tryd.ntmps30
    go_upto_region 1 with (fail)
    go_quiet (fail)
    go_wp2
    go_ret
    exact ⟨Or.inr ⟨fun k => (by have := HK.out.1 k; omega), rfl⟩, below_drewN _ (al1 _)⟩
    
  by_cases a3 : 12 < M
  · go_enter Tryd.func30, Tryd.ntmps30
    go_upto_region 1 with (fail)
    go_quiet (fail)
    go_wp2
    go_ret
    exact ⟨Or.inr ⟨fun k => (by have := HK.out.1 k; omega), rfl⟩, below_drewN _ (al1 _)⟩
    
  by_cases a4 : D < 1
  · go_enter Tryd.func30, Tryd.ntmps30
    go_upto_region 1 with (fail)
    go_quiet (fail)
    go_wp2
    go_ret
    exact ⟨Or.inr ⟨fun k => (by have := HK.out.1 k; omega), rfl⟩, below_drewN _ (al1 _)⟩
    
  obtain ⟨z, hz⟩ : ∃ z, ml Y M = z := ⟨_, rfl⟩
  have HM : Hid (∀ w : World, Calls Tryd.prog 32 #[.int .i64 Y, .int .i64 M] w fun e w' => e = .returned (.int .i64 z) ∧ w' = w) := fun w => by rw [← hz]; exact month_any Y M (by omega) (by omega) (by omega) (by omega)
  rw [hz] at HK
  by_cases a5 : z < D
  · go_enter Tryd.func30, Tryd.ntmps30
    go_upto_region 1 with (fail)
    go_quiet ((go_at_call 32; exact Calls.quiet_of_same (HM.out _)))
    go_wp2
    go_ret
    exact ⟨Or.inr ⟨fun k => (by have := HK.out.1 k; omega), rfl⟩, below_drewN _ (al1 _)⟩
    
  by_cases b0 : 0 ≤ h
  rotate_left
  · go_enter Tryd.func30, Tryd.ntmps30
    go_upto_region 1 with (fail)
    go_quiet ((go_at_call 32; exact Calls.quiet_of_same (HM.out _)))
    go_upto_region 3 with (fail)
    refine wp_gen (fun W => Below w.heap.size w W ∧ Blk 23 W w.heap.size (Mo.cells ⟨Y, M, D, h, m, s⟩)) ⟨below_drewN _ (al1 _), Blk.drewN (Blk.new _ w (Mo.cells ⟨Y, M, D, h, m, s⟩)) _⟩ ?_
    rintro w1 ⟨hb1, hB1⟩
    obtain ⟨c0, c1, c2, c3, c4, c5, g0, g1, g2, g3, g4, g5⟩ := Mo.facts hB1
    have H1 : Hid (Below w.heap.size w w1) := hb1
    clear hb1 hB1 g0 g1 g2 g3 g4 g5
    go_wp2
    go_ret
    exact ⟨Or.inr ⟨fun k => (by have := HK.out.1 k; omega), rfl⟩, H1.out⟩
    
  by_cases b1 : h < 24
  rotate_left
  · go_enter Tryd.func30, Tryd.ntmps30
    go_upto_region 1 with (fail)
    go_quiet ((go_at_call 32; exact Calls.quiet_of_same (HM.out _)))
    go_upto_region 3 with (fail)
    refine wp_gen (fun W => Below w.heap.size w W ∧ Blk 23 W w.heap.size (Mo.cells ⟨Y, M, D, h, m, s⟩)) ⟨below_drewN _ (al1 _), Blk.drewN (Blk.new _ w (Mo.cells ⟨Y, M, D, h, m, s⟩)) _⟩ ?_
    rintro w1 ⟨hb1, hB1⟩
    obtain ⟨c0, c1, c2, c3, c4, c5, g0, g1, g2, g3, g4, g5⟩ := Mo.facts hB1
    have H1 : Hid (Below w.heap.size w w1) := hb1
    clear hb1 hB1 g0 g1 g2 g3 g4 g5
    go_wp2
    go_ret
    exact ⟨Or.inr ⟨fun k => (by have := HK.out.1 k; omega), rfl⟩, H1.out⟩
    
  by_cases b2 : 0 ≤ m
  rotate_left
  · go_enter Tryd.func30, Tryd.ntmps30
    go_upto_region 1 with (fail)
    go_quiet ((go_at_call 32; exact Calls.quiet_of_same (HM.out _)))
    go_upto_region 3 with (fail)
    refine wp_gen (fun W => Below w.heap.size w W ∧ Blk 23 W w.heap.size (Mo.cells ⟨Y, M, D, h, m, s⟩)) ⟨below_drewN _ (al1 _), Blk.drewN (Blk.new _ w (Mo.cells ⟨Y, M, D, h, m, s⟩)) _⟩ ?_
    rintro w1 ⟨hb1, hB1⟩
    obtain ⟨c0, c1, c2, c3, c4, c5, g0, g1, g2, g3, g4, g5⟩ := Mo.facts hB1
    have H1 : Hid (Below w.heap.size w w1) := hb1
    clear hb1 hB1 g0 g1 g2 g3 g4 g5
    go_wp2
    go_ret
    exact ⟨Or.inr ⟨fun k => (by have := HK.out.1 k; omega), rfl⟩, H1.out⟩
    
  by_cases b3 : m < 60
  rotate_left
  · go_enter Tryd.func30, Tryd.ntmps30
    go_upto_region 1 with (fail)
    go_quiet ((go_at_call 32; exact Calls.quiet_of_same (HM.out _)))
    go_upto_region 3 with (fail)
    refine wp_gen (fun W => Below w.heap.size w W ∧ Blk 23 W w.heap.size (Mo.cells ⟨Y, M, D, h, m, s⟩)) ⟨below_drewN _ (al1 _), Blk.drewN (Blk.new _ w (Mo.cells ⟨Y, M, D, h, m, s⟩)) _⟩ ?_
    rintro w1 ⟨hb1, hB1⟩
    obtain ⟨c0, c1, c2, c3, c4, c5, g0, g1, g2, g3, g4, g5⟩ := Mo.facts hB1
    have H1 : Hid (Below w.heap.size w w1) := hb1
    clear hb1 hB1 g0 g1 g2 g3 g4 g5
    go_wp2
    go_ret
    exact ⟨Or.inr ⟨fun k => (by have := HK.out.1 k; omega), rfl⟩, H1.out⟩
    
  by_cases b4 : 0 ≤ s
  rotate_left
  · go_enter Tryd.func30, Tryd.ntmps30
    go_upto_region 1 with (fail)
    go_quiet ((go_at_call 32; exact Calls.quiet_of_same (HM.out _)))
    go_upto_region 3 with (fail)
    refine wp_gen (fun W => Below w.heap.size w W ∧ Blk 23 W w.heap.size (Mo.cells ⟨Y, M, D, h, m, s⟩)) ⟨below_drewN _ (al1 _), Blk.drewN (Blk.new _ w (Mo.cells ⟨Y, M, D, h, m, s⟩)) _⟩ ?_
    rintro w1 ⟨hb1, hB1⟩
    obtain ⟨c0, c1, c2, c3, c4, c5, g0, g1, g2, g3, g4, g5⟩ := Mo.facts hB1
    have H1 : Hid (Below w.heap.size w w1) := hb1
    clear hb1 hB1 g0 g1 g2 g3 g4 g5
    go_wp2
    go_ret
    exact ⟨Or.inr ⟨fun k => (by have := HK.out.1 k; omega), rfl⟩, H1.out⟩
    
  by_cases b5 : s < 60
  rotate_left
  · go_enter Tryd.func30, Tryd.ntmps30
    go_upto_region 1 with (fail)
    go_quiet ((go_at_call 32; exact Calls.quiet_of_same (HM.out _)))
    go_upto_region 3 with (fail)
    refine wp_gen (fun W => Below w.heap.size w W ∧ Blk 23 W w.heap.size (Mo.cells ⟨Y, M, D, h, m, s⟩)) ⟨below_drewN _ (al1 _), Blk.drewN (Blk.new _ w (Mo.cells ⟨Y, M, D, h, m, s⟩)) _⟩ ?_
    rintro w1 ⟨hb1, hB1⟩
    obtain ⟨c0, c1, c2, c3, c4, c5, g0, g1, g2, g3, g4, g5⟩ := Mo.facts hB1
    have H1 : Hid (Below w.heap.size w w1) := hb1
    clear hb1 hB1 g0 g1 g2 g3 g4 g5
    go_wp2
    go_ret
    exact ⟨Or.inr ⟨fun k => (by have := HK.out.1 k; omega), rfl⟩, H1.out⟩
    
  go_enter Tryd.func30, Tryd.ntmps30
  go_upto_region 1 with (fail)
  go_quiet ((go_at_call 32; exact Calls.quiet_of_same (HM.out _)))
  go_upto_region 3 with (fail)
  refine wp_gen (fun W => Below w.heap.size w W ∧ Blk 23 W w.heap.size (Mo.cells ⟨Y, M, D, h, m, s⟩)) ⟨below_drewN _ (al1 _), Blk.drewN (Blk.new _ w (Mo.cells ⟨Y, M, D, h, m, s⟩)) _⟩ ?_
  rintro w1 ⟨hb1, hB1⟩
  obtain ⟨c0, c1, c2, c3, c4, c5, g0, g1, g2, g3, g4, g5⟩ := Mo.facts hB1
  have H1 : Hid (Below w.heap.size w w1) := hb1
  clear hb1 hB1 g0 g1 g2 g3 g4 g5
  go_wp2
  go_ret
  exact ⟨Or.inl ⟨HK.out.2 ⟨⟨by omega, by omega, by omega, by omega, by omega, by omega⟩, b0, b1, b2, b3, b4, b5⟩, rfl⟩, H1.out⟩
end Go.Proofs.YtnaiialcjimhbaaDoor
