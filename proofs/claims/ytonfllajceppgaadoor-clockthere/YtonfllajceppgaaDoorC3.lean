/-
  Clock: the seconds of a moment.
-/
import Derived.Test.YtonfllajceppgaaDoorC2
namespace Go.Proofs.YtonfllajceppgaaDoor
open Go.RowKit
def ybW (y : Int) : Int := wrap64 (wrap64 (wrap64 (wrap64 (365 * y) + wrap64 (y.tdiv 4)) - wrap64 (y.tdiv 100)) + wrap64 (y.tdiv 400))
def mbW (y : Int) : Int := wrap64 ((wrap64 (wrap64 (153 * y) + 2)).tdiv 5)
theorem yearBegins_some {w : World} (y : Int) : Calls Tryd.prog 49 #[.int .i64 y] w fun e w' => e = .returned (.int .i64 (ybW y)) ∧ w' = w := by
  go_enter Tryd.func49, Tryd.ntmps49
  go_wp2
  go_ret
  exact ⟨rfl, rfl⟩
theorem monthBegins_some {w : World} (y : Int) : Calls Tryd.prog 50 #[.int .i64 y] w fun e w' => e = .returned (.int .i64 (mbW y)) ∧ w' = w := by
  go_enter Tryd.func50, Tryd.ntmps50
  go_wp2
  go_ret
  exact ⟨rfl, rfl⟩
theorem yearBegins_same {w : World} (y : Int) (a : Int) {z : Int} (hz : z = y) (h0 : 0 ≤ y) (h1 : y ≤ 1000000) (ha : yb y = a) : Calls Tryd.prog 49 #[.int .i64 z] w fun e w' => e = .returned (.int .i64 a) ∧ w' = w := by
  subst hz
  exact (yearBegins_any z h0 h1).mono fun e w' ⟨h, k⟩ => ⟨by rw [h, ha], k.symm⟩
theorem monthBegins_same {w : World} (y : Int) (a : Int) {z : Int} (hz : z = y) (h0 : 0 ≤ y) (h1 : y ≤ 1000000) (ha : mb y = a) : Calls Tryd.prog 50 #[.int .i64 z] w fun e w' => e = .returned (.int .i64 a) ∧ w' = w := by
  subst hz
  exact (monthBegins_any z h0 h1).mono fun e w' ⟨h, k⟩ => ⟨by rw [h, ha], k.symm⟩
set_option maxHeartbeats 1000000 in
theorem reckoned_some {w : World} (t : Mo) : Calls Tryd.prog 30 #[.agg t.cells.toArray] w fun e w' => (∃ r, e = .returned (.int .i64 r)) ∧ Below w.heap.size w w' := by
  obtain ⟨Y, M, D, h, m, s⟩ := t
  unfold Mo.cells
  obtain ⟨M3, hM3⟩ : ∃ x, wrap64 (M - 3) = x := ⟨_, rfl⟩
  by_cases hm : M3 < 0
  all_goals
    go_enter Tryd.func30, Tryd.ntmps30
    go_upto_region 1 with (fail)
    go_quiet (fail)
    rw [hM3]
    go_upto_region 4 with (fail)
    refine wp_gen (fun W => Below w.heap.size w W ∧ Blk 40 W w.heap.size (Mo.cells ⟨Y, M, D, h, m, s⟩)) ⟨below_drewN _ (al1 _), Blk.drewN (Blk.new _ w (Mo.cells ⟨Y, M, D, h, m, s⟩)) _⟩ ?_
    rintro w1 ⟨hb1, hB1⟩
    obtain ⟨c0, c1, c2, c3, c4, c5, g0, g1, g2, g3, g4, g5⟩ := Mo.facts hB1
    have H1 : Hid (Below w.heap.size w w1) := hb1
    clear hb1 hB1 g0 g1 g2 g3 g4 g5
    go_quiet (first
      | (go_at_call 49; exact Calls.quiet_of_same (yearBegins_some _))
      | (go_at_call 50; exact Calls.quiet_of_same (monthBegins_some _)))
    go_wp2
    go_ret
    exact ⟨⟨_, rfl⟩, below_drewN _ H1.out⟩
set_option maxHeartbeats 1000000 in
theorem reckoned_ok {w : World} (t : Mo) (hO : t.Ok) : Calls Tryd.prog 30 #[.agg t.cells.toArray] w fun e w' => e = .returned (.int .i64 t.sec) ∧ Below w.heap.size w w' := by
  have hR := mar_reck (Y := t.Y) hO.m0 hO.m1
  have hday := Mo.day_lt hO
  have hday0 := Mo.day_nn hO
  obtain ⟨Y, M, D, h, m, s⟩ := t
  have y0 := hO.y0; have y1 := hO.y1; have m0 := hO.m0; have m1 := hO.m1
  have d0 := hO.d0; have h0 := hO.h0; have h1 := hO.h1; have i0 := hO.i0; have i1 := hO.i1; have s0 := hO.s0; have s1 := hO.s1
  have d31 : D ≤ 31 := Int.le_trans hO.d1 (ml_le Y M)
  simp only at y0 y1 m0 m1 d0 h0 h1 i0 i1 s0 s1 hR
  unfold Mo.day at hday hday0
  simp only at hday hday0
  unfold Mo.cells
  clear hO
  by_cases hm : M < 3
  · obtain ⟨a, ha⟩ : ∃ a, yb (Y + 399) = a := ⟨_, rfl⟩
    obtain ⟨b, hb⟩ : ∃ b, mb (M + 9) = b := ⟨_, rfl⟩
    have e := hR.2 hm
    rw [ha, hb] at e
    have b0 : 0 ≤ b ∧ b ≤ 400 := by rw [← hb]; unfold mb; omega
    obtain ⟨b0, b1⟩ := b0
    have a0 : 0 ≤ a ∧ a ≤ 10000000 := by omega
    obtain ⟨a0, a1⟩ := a0
    have HE : Hid (Mo.sec ⟨Y, M, D, h, m, s⟩ = (a + b + D - 1 - 865565) * 86400 + h * 3600 + m * 60 + s) := by
      unfold Hid Mo.sec Mo.day; simp only; omega
    clear hR hday hday0 e
    go_enter Tryd.func30, Tryd.ntmps30
    go_upto_region 1 with (fail)
    go_quiet (fail)
    go_upto_region 4 with (fail)
    refine wp_gen (fun W => Below w.heap.size w W ∧ Blk 40 W w.heap.size (Mo.cells ⟨Y, M, D, h, m, s⟩)) ⟨below_drewN _ (al1 _), Blk.drewN (Blk.new _ w (Mo.cells ⟨Y, M, D, h, m, s⟩)) _⟩ ?_
    rintro w1 ⟨hb1, hB1⟩
    obtain ⟨c0, c1, c2, c3, c4, c5, g0, g1, g2, g3, g4, g5⟩ := Mo.facts hB1
    have H1 : Hid (Below w.heap.size w w1) := hb1
    clear hb1 hB1 g0 g1 g2 g3 g4 g5
    go_quiet (first
      | (go_at_call 49; exact Calls.quiet_of_same (yearBegins_same (Y + 399) a (by omega) (by omega) (by omega) ha))
      | (go_at_call 50; exact Calls.quiet_of_same (monthBegins_same (M + 9) b (by omega) (by omega) (by omega) hb)))
    go_wp2
    go_ret
    exact ⟨by rw [HE.out]; rfl, below_drewN _ H1.out⟩
  · obtain ⟨a, ha⟩ : ∃ a, yb (Y + 400) = a := ⟨_, rfl⟩
    obtain ⟨b, hb⟩ : ∃ b, mb (M - 3) = b := ⟨_, rfl⟩
    have e := hR.1 (by omega)
    rw [ha, hb] at e
    have b0 : 0 ≤ b ∧ b ≤ 400 := by rw [← hb]; unfold mb; omega
    obtain ⟨b0, b1⟩ := b0
    have a0 : 0 ≤ a ∧ a ≤ 10000000 := by omega
    obtain ⟨a0, a1⟩ := a0
    have HE : Hid (Mo.sec ⟨Y, M, D, h, m, s⟩ = (a + b + D - 1 - 865565) * 86400 + h * 3600 + m * 60 + s) := by
      unfold Hid Mo.sec Mo.day; simp only; omega
    clear hR hday hday0 e
    go_enter Tryd.func30, Tryd.ntmps30
    go_upto_region 1 with (fail)
    go_quiet (fail)
    go_upto_region 4 with (fail)
    refine wp_gen (fun W => Below w.heap.size w W ∧ Blk 40 W w.heap.size (Mo.cells ⟨Y, M, D, h, m, s⟩)) ⟨below_drewN _ (al1 _), Blk.drewN (Blk.new _ w (Mo.cells ⟨Y, M, D, h, m, s⟩)) _⟩ ?_
    rintro w1 ⟨hb1, hB1⟩
    obtain ⟨c0, c1, c2, c3, c4, c5, g0, g1, g2, g3, g4, g5⟩ := Mo.facts hB1
    have H1 : Hid (Below w.heap.size w w1) := hb1
    clear hb1 hB1 g0 g1 g2 g3 g4 g5
    go_quiet (first
      | (go_at_call 49; exact Calls.quiet_of_same (yearBegins_same (Y + 400) a (by omega) (by omega) (by omega) ha))
      | (go_at_call 50; exact Calls.quiet_of_same (monthBegins_same (M - 3) b (by omega) (by omega) (by omega) hb)))
    go_wp2
    go_ret
    exact ⟨by rw [HE.out]; rfl, below_drewN _ H1.out⟩
end Go.Proofs.YtonfllajceppgaaDoor
