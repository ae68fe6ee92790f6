/-
  Clock: the seconds of a moment, or that it is none.
-/
import Derived.Test.YtonfllajceppgaaDoorC3
namespace Go.Proofs.YtonfllajceppgaaDoor
open Go.RowKit
def SecondsIs (t : Mo) (e : Ending) : Prop :=
  (t.Ok ∧ e = .returned (.tuple #[.int .i64 t.sec, .int .i64 0])) ∨ (¬ t.Ok ∧ e = .returned (.tuple #[.int .i64 0, .int .i64 50]))
theorem reckoned_any {w : World} (t : Mo) : Calls Tryd.prog 30 #[.agg t.cells.toArray] w fun e w' => ∃ r, e = .returned (.int .i64 r) ∧ (t.Ok → r = t.sec) ∧ Below w.heap.size w w' := by
  by_cases h : t.Ok
  · exact (reckoned_ok t h).mono fun e w' ⟨he, hb⟩ => ⟨_, he, fun _ => rfl, hb⟩
  · exact (reckoned_some t).mono fun e w' ⟨⟨r, he⟩, hb⟩ => ⟨r, he, fun k => absurd k h, hb⟩
set_option maxHeartbeats 1000000 in
theorem Seconds_any {w : World} (t : Mo) : Calls Tryd.prog 21 #[.agg t.cells.toArray] w fun e w' => SecondsIs t e ∧ Below w.heap.size w w' := by
  have HR2 : Hid (∀ w : World, Calls Tryd.prog 30 #[.agg t.cells.toArray] w fun e w' => ∃ r, e = .returned (.int .i64 r) ∧ (t.Ok → r = t.sec) ∧ Below w.heap.size w w') := fun w => reckoned_any t
  obtain ⟨Y, M, D, h, m, s⟩ := t
  unfold Mo.cells
  go_enter Tryd.func21, Tryd.ntmps21
  go_wp2_with fail
  refine (HR2.out _).mono ?_
  rintro e w1 ⟨r, rfl, hO, hb⟩
  have HR : Hid (Mo.Ok ⟨Y, M, D, h, m, s⟩ → r = Mo.sec ⟨Y, M, D, h, m, s⟩) := hO
  clear hO
  have hB1 : Blk 40 w1 w.heap.size (Mo.cells ⟨Y, M, D, h, m, s⟩) := below_blk hb (by simp) (Blk.new _ w _)
  have hb1 : Below w.heap.size w w1 := (al1 _).trans (hb.mono (by simp))
  have H1 : Hid (Below w.heap.size w w1 ∧ Blk 40 w1 w.heap.size (Mo.cells ⟨Y, M, D, h, m, s⟩)) := ⟨hb1, hB1⟩
  clear hb hb1 hB1
  go_wp2_with fail
  refine (Parts_any r).mono ?_
  rintro e w2 ⟨hP, hb⟩
  have hB2 : Blk 40 w2 w.heap.size (Mo.cells ⟨Y, M, D, h, m, s⟩) := below_blk hb H1.out.2.lt H1.out.2
  have hb2 : Below w.heap.size w w2 := below_via H1.out.1 hb (Nat.le_refl _)
  have H2 : Hid (Below w.heap.size w w2 ∧ Blk 40 w2 w.heap.size (Mo.cells ⟨Y, M, D, h, m, s⟩)) := ⟨hb2, hB2⟩
  clear hb hb2 hB2
  rcases hP with ⟨r0, r1, u, rfl, uO, us⟩ | ⟨hr, rfl⟩
  · obtain ⟨Y', M', D', h', m', s'⟩ := u
    unfold Mo.cells
    go_upto_region 3 with (fail)
    refine wp_gen (fun W => Below w.heap.size w W ∧ Blk 40 W w.heap.size (Mo.cells ⟨Y, M, D, h, m, s⟩) ∧ Blk 40 W w2.heap.size (Mo.cells ⟨Y', M', D', h', m', s'⟩)) ⟨al2' H2.out.1, H2.out.2.alloc _, Blk.new _ w2 (Mo.cells ⟨Y', M', D', h', m', s'⟩)⟩ ?_
    rintro w3 ⟨hb3, hB3, hN3⟩
    obtain ⟨c0, c1, c2, c3, c4, c5, g0, g1, g2, g3, g4, g5⟩ := Mo.facts hB3
    obtain ⟨d0, d1, d2, d3, d4, d5, f0, f1, f2, f3, f4, f5⟩ := Mo.facts hN3
    have H3 : Hid (Below w.heap.size w w3) := hb3
    have HO : Hid (Mo.Ok ⟨Y', M', D', h', m', s'⟩ ∧ Mo.sec ⟨Y', M', D', h', m', s'⟩ = r) := ⟨uO, us⟩
    clear hb3 hB3 hN3 g0 g1 g2 g3 g4 g5 f0 f1 f2 f3 f4 f5 uO us
    go_wp2
    all_goals go_ret2
    · have e : (⟨Y', M', D', h', m', s'⟩ : Mo) = ⟨Y, M, D, h, m, s⟩ := by simp only [Mo.mk.injEq]; omega
      have k := HO.out
      rw [e] at k
      refine ⟨Or.inl ⟨k.1, ?_⟩, H3.out⟩
      rw [k.2]
      rfl
    all_goals
      refine ⟨Or.inr ⟨fun k => ?_, rfl⟩, H3.out⟩
      have e := Mo.inj HO.out.1 k (HO.out.2.trans (HR.out k))
      simp only [Mo.mk.injEq] at e
      omega
  · unfold Mo.cells
    go_wp2
    go_ret2
    refine ⟨Or.inr ⟨fun k => hr ?_, rfl⟩, al2' H2.out.1⟩
    rw [HR.out k]; exact Mo.sec_range k
end Go.Proofs.YtonfllajceppgaaDoor
