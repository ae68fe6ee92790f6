/-
  Clock: a moment's seconds are those of this moment, and of no other one.
-/
import Derived.Test.YtnaiialcjimhbaaDoorC17
namespace Go.Proofs.YtnaiialcjimhbaaDoor
open Go.RowKit
set_option maxRecDepth 100000 in
set_option maxHeartbeats 4000000 in
theorem ClockBack_any {w : World} (t : Mo) (sec : Int) (hT : Tab w) : Calls Tryd.prog 7 #[.agg t.cells.toArray, .int .i64 sec] w fun e w' => e = .returned (.bool true) ∧ Below w.heap.size w w' := by
  have HT : Hid (Tab w) := hT
  clear hT
  have HS : Hid (∀ w : World, Calls Tryd.prog 9 #[.agg t.cells.toArray] w fun e w' => SecondsIs t e ∧ Below w.heap.size w w') := fun w => Seconds_any t
  obtain ⟨Y, M, D, h, m, s⟩ := t
  unfold Mo.cells at HS ⊢
  go_enter Tryd.func7, Tryd.ntmps7
  go_wp2_with fail
  refine (HS.out _).mono ?_
  rintro e w1 ⟨hS, hb⟩
  have hB1 : Blk 23 w1 w.heap.size (Mo.cells ⟨Y, M, D, h, m, s⟩) := below_blk hb (by simp) (Blk.new _ w _)
  have hb1 : Below w.heap.size w w1 := (al1 _).trans (hb.mono (by simp))
  have H1 : Hid (Below w.heap.size w w1 ∧ Blk 23 w1 w.heap.size (Mo.cells ⟨Y, M, D, h, m, s⟩)) := ⟨hb1, hB1⟩
  clear hb hb1 hB1
  rcases hS with ⟨hO, rfl⟩ | ⟨hO, rfl⟩
  · have HP : Hid (∀ w : World, Calls Tryd.prog 13 #[.int .i64 (Mo.sec ⟨Y, M, D, h, m, s⟩)] w fun e w' => e = .returned (.tuple #[.agg (Mo.cells ⟨Y, M, D, h, m, s⟩).toArray, .int .i64 0]) ∧ Below w.heap.size w w') := fun w => (Parts_any _).mono fun e w' ⟨hp, hb⟩ => ⟨by
      rcases hp with ⟨_, _, u, he, uO, us⟩ | ⟨hn, _⟩
      · rw [he, Mo.inj uO hO us]
      · exact absurd (Mo.sec_range hO) hn, hb⟩
    obtain ⟨a, ha⟩ : ∃ a, Mo.sec ⟨Y, M, D, h, m, s⟩ = a := ⟨_, rfl⟩
    rw [ha] at HP ⊢
    clear ha hO
    unfold Mo.cells at HP
    go_wp2_with (go_at_call 11; refine (num_any _).mono ?_; rintro e w' ⟨rfl, rfl⟩)
    refine (HP.out _).mono ?_
    rintro e w2 ⟨rfl, hb⟩
    have hB2 : Blk 23 w2 w.heap.size (Mo.cells ⟨Y, M, D, h, m, s⟩) := below_blk hb H1.out.2.lt H1.out.2
    have hb2 : Below w.heap.size w w2 := below_via H1.out.1 hb (Nat.le_refl _)
    have H2 : Hid (Below w.heap.size w w2 ∧ Blk 23 w2 w.heap.size (Mo.cells ⟨Y, M, D, h, m, s⟩)) := ⟨hb2, hB2⟩
    clear hb hb2 hB2
    go_upto_region 4 with (fail)
    refine wp_gen (fun W => Below w.heap.size w W ∧ Blk 23 W w.heap.size (Mo.cells ⟨Y, M, D, h, m, s⟩) ∧ Blk 23 W w2.heap.size (Mo.cells ⟨Y, M, D, h, m, s⟩)) ⟨al2' H2.out.1, H2.out.2.alloc _, Blk.new _ w2 (Mo.cells ⟨Y, M, D, h, m, s⟩)⟩ ?_
    rintro w3 ⟨hb3, hB3, hN3⟩
    obtain ⟨c0, c1, c2, c3, c4, c5, g0, g1, g2, g3, g4, g5⟩ := Mo.facts hB3
    obtain ⟨d0, d1, d2, d3, d4, d5, f0, f1, f2, f3, f4, f5⟩ := Mo.facts hN3
    have H3 : Hid (Below w.heap.size w w3) := hb3
    clear hb3 hB3 hN3 g0 g1 g2 g3 g4 g5 f0 f1 f2 f3 f4 f5
    go_wp2_with (go_at_call 11; refine (num_any _).mono ?_; rintro e w' ⟨rfl, rfl⟩)
    clear c0 c1 c2 c3 c4 c5 d0 d1 d2 d3 d4 d5
    refine (Parts_any sec).mono ?_
    rintro e v1 ⟨hP, hb⟩
    have hbv : Below w.heap.size w v1 := below_via H3.out hb (Nat.le_refl _)
    have HV : Hid (Below w.heap.size w v1) := hbv
    clear hb hbv
    rcases hP with ⟨r0, r1, u, rfl, uO, us⟩ | ⟨hr, rfl⟩
    · have HQ : Hid (∀ w : World, Calls Tryd.prog 9 #[.agg u.cells.toArray] w fun e w' => e = .returned (.tuple #[.int .i64 sec, .int .i64 0]) ∧ Below w.heap.size w w') := fun w => (Seconds_any u).mono fun e w' ⟨h, hb⟩ => ⟨by rw [seconds_is uO h, us], hb⟩
      clear uO us
      obtain ⟨Y2, M2, D2, h2, m2, s2⟩ := u
      unfold Mo.cells at HQ ⊢
      go_wp2_with (go_at_call 11; refine (num_any _).mono ?_; rintro e w' ⟨rfl, rfl⟩)
      refine (HQ.out _).mono ?_
      rintro e v2 ⟨rfl, hb⟩
      have HV2 : Hid (Below w.heap.size w v2) := below_via (al2' HV.out) hb (Nat.le_refl _)
      clear hb
      go_wp2_with (go_at_call 11; refine (num_any _).mono ?_; rintro e w' ⟨rfl, rfl⟩)
      refine (live_any (HT.out.below HV2.out)).mono ?_
      rintro e v3 ⟨rfl, hb⟩
      have HV3 : Hid (Below w.heap.size w v3) := below_via HV2.out hb (Nat.le_refl _)
      clear hb
      go_wp2
      go_ret
      exact ⟨rfl, HV3.out⟩
    · unfold Mo.cells
      go_wp2_with (go_at_call 11; refine (num_any _).mono ?_; rintro e w' ⟨rfl, rfl⟩)
      refine (live_any (HT.out.below (al2' HV.out))).mono ?_
      rintro e v3 ⟨rfl, hb⟩
      have HV3 : Hid (Below w.heap.size w v3) := below_via (al2' HV.out) hb (Nat.le_refl _)
      clear hb
      go_wp2
      go_ret
      exact ⟨rfl, HV3.out⟩
  · clear hO
    go_wp2_with (go_at_call 11; refine (num_any _).mono ?_; rintro e w' ⟨rfl, rfl⟩)
    refine (Parts_any sec).mono ?_
    rintro e v1 ⟨hP, hb⟩
    have hbv : Below w.heap.size w v1 := below_via H1.out.1 hb (Nat.le_refl _)
    have HV : Hid (Below w.heap.size w v1) := hbv
    clear hb hbv
    rcases hP with ⟨r0, r1, u, rfl, uO, us⟩ | ⟨hr, rfl⟩
    · have HQ : Hid (∀ w : World, Calls Tryd.prog 9 #[.agg u.cells.toArray] w fun e w' => e = .returned (.tuple #[.int .i64 sec, .int .i64 0]) ∧ Below w.heap.size w w') := fun w => (Seconds_any u).mono fun e w' ⟨h, hb⟩ => ⟨by rw [seconds_is uO h, us], hb⟩
      clear uO us
      obtain ⟨Y2, M2, D2, h2, m2, s2⟩ := u
      unfold Mo.cells at HQ ⊢
      go_wp2_with (go_at_call 11; refine (num_any _).mono ?_; rintro e w' ⟨rfl, rfl⟩)
      refine (HQ.out _).mono ?_
      rintro e v2 ⟨rfl, hb⟩
      have HV2 : Hid (Below w.heap.size w v2) := below_via (al2' HV.out) hb (Nat.le_refl _)
      clear hb
      go_wp2_with (go_at_call 11; refine (num_any _).mono ?_; rintro e w' ⟨rfl, rfl⟩)
      refine (live_any (HT.out.below HV2.out)).mono ?_
      rintro e v3 ⟨rfl, hb⟩
      have HV3 : Hid (Below w.heap.size w v3) := below_via HV2.out hb (Nat.le_refl _)
      clear hb
      go_wp2
      go_ret
      exact ⟨rfl, HV3.out⟩
    · unfold Mo.cells
      go_wp2_with (go_at_call 11; refine (num_any _).mono ?_; rintro e w' ⟨rfl, rfl⟩)
      refine (live_any (HT.out.below (al2' HV.out))).mono ?_
      rintro e v3 ⟨rfl, hb⟩
      have HV3 : Hid (Below w.heap.size w v3) := below_via (al2' HV.out) hb (Nat.le_refl _)
      clear hb
      go_wp2
      go_ret
      exact ⟨rfl, HV3.out⟩
end Go.Proofs.YtnaiialcjimhbaaDoor
