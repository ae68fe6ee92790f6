/-
  Clock: the next second.
-/
import Derived.Test.YtnaiialcjimhbabDoorC17
namespace Go.Proofs.YtnaiialcjimhbabDoor
open Go.RowKit
/-- the next second's moment -/
def Mo.next (t : Mo) : Mo :=
  if t.s < 59 then { t with s := t.s + 1 } else
  if t.m < 59 then { t with m := t.m + 1, s := 0 } else
  if t.h < 23 then { t with h := t.h + 1, m := 0, s := 0 } else
  if t.D < ml t.Y t.M then { t with D := t.D + 1, h := 0, m := 0, s := 0 } else
  if t.M < 12 then { t with M := t.M + 1, D := 1, h := 0, m := 0, s := 0 } else
  { Y := t.Y + 1, M := 1, D := 1, h := 0, m := 0, s := 0 }
theorem ml_12 (y : Int) : ml y 12 = 31 := by unfold ml; simp
theorem Mo.next_ok {t : Mo} (k : t.Ok) (hr : t.sec + 1 ≤ 253402300799) : t.next.Ok ∧ t.next.sec = t.sec + 1 := by
  have y0 := k.y0; have y1 := k.y1; have m0 := k.m0; have m1 := k.m1; have d0 := k.d0; have d1 := k.d1
  have h0 := k.h0; have h1 := k.h1; have i0 := k.i0; have i1 := k.i1; have s0 := k.s0; have s1 := k.s1
  obtain ⟨Y, M, D, h, m, s⟩ := t
  simp only at y0 y1 m0 m1 d0 d1 h0 h1 i0 i1 s0 s1
  clear k
  unfold Mo.next
  simp only
  by_cases c1 : s < 59
  · rw [if_pos c1]
    refine ⟨mo_ok ⟨⟨y0, y1, m0, m1, d0, d1⟩, h0, h1, i0, i1, ?_, ?_⟩, ?_⟩
    · simp only; omega
    · simp only; omega
    · simp only [Mo.sec, Mo.day]; omega
  rw [if_neg c1]
  by_cases c2 : m < 59
  · rw [if_pos c2]
    refine ⟨mo_ok ⟨⟨y0, y1, m0, m1, d0, d1⟩, h0, h1, ?_, ?_, ?_, ?_⟩, ?_⟩ <;> simp only [Mo.sec, Mo.day] <;> omega
  rw [if_neg c2]
  by_cases c3 : h < 23
  · rw [if_pos c3]
    refine ⟨mo_ok ⟨⟨y0, y1, m0, m1, d0, d1⟩, ?_, ?_, ?_, ?_, ?_, ?_⟩, ?_⟩ <;> simp only [Mo.sec, Mo.day] <;> omega
  rw [if_neg c3]
  by_cases c4 : D < ml Y M
  · rw [if_pos c4]
    refine ⟨mo_ok ⟨⟨y0, y1, m0, m1, ?_, ?_⟩, ?_, ?_, ?_, ?_, ?_, ?_⟩, ?_⟩ <;> simp only [Mo.sec, Mo.day] <;> omega
  rw [if_neg c4]
  by_cases c5 : M < 12
  · rw [if_pos c5]
    have e := ms_succ Y M m0 m1
    have g := ml_ge Y (M + 1)
    refine ⟨mo_ok ⟨⟨y0, y1, ?_, ?_, ?_, ?_⟩, ?_, ?_, ?_, ?_, ?_, ?_⟩, ?_⟩ <;> simp only [Mo.sec, Mo.day] <;> omega
  rw [if_neg c5]
  obtain rfl : M = 12 := by omega
  have e := ms_succ Y 12 m0 m1
  rw [ml_12] at *
  rw [show (12 : Int) + 1 = 13 from rfl, ms_13] at e
  have f := ys_succ Y
  have y2 : Y + 1 ≤ 9999 := by
    by_cases hy : Y = 9999
    · subst hy
      have a1 : ys 9999 = 3652060 := by decide
      have a2 : lp 9999 = 0 := by decide
      simp only [Mo.sec, Mo.day] at hr
      omega
    · omega
  refine ⟨mo_ok ⟨⟨?_, y2, ?_, ?_, ?_, ?_⟩, ?_, ?_, ?_, ?_, ?_, ?_⟩, ?_⟩
  · simp only; omega
  · simp only; omega
  · simp only; omega
  · simp only; omega
  · have := ml_ge (Y + 1) 1; simp only; omega
  · simp only; omega
  · simp only; omega
  · simp only; omega
  · simp only; omega
  · simp only; omega
  · simp only; omega
  · simp only [Mo.sec, Mo.day]
    rw [ms_1, f]; omega
set_option maxRecDepth 100000 in
set_option maxHeartbeats 8000000 in
theorem ClockNext_any {w : World} (sec : Int) (hlo : -9223372036854775808 ≤ sec) (hT : Tab w) : Calls Tryd.prog 3 #[.int .i64 sec] w fun e w' => e = .returned (.bool true) ∧ Below w.heap.size w w' := by
  have HT : Hid (Tab w) := hT
  clear hT
  by_cases hbig : 1125899906842624 < sec
  · go_enter Tryd.func3, Tryd.ntmps3
    go_wp2_with (go_at_call 5; refine (live_any HT.out).mono ?_; rintro e w4 ⟨rfl, hb⟩)
    go_ret
    exact ⟨rfl, hb⟩
  · go_enter Tryd.func3, Tryd.ntmps3
    go_wp2_with fail
    refine (Parts_any sec).mono ?_
    rintro e w1 ⟨hP, hb⟩
    have H1 : Hid (Below w.heap.size w w1) := hb
    clear hb
    obtain ⟨t, e1, rfl, h0⟩ : ∃ (t : Mo) (e1 : Int), e = .returned (.tuple #[.agg t.cells.toArray, .int .i64 e1]) ∧ (e1 = 0 ∧ t.Ok ∧ t.sec = sec ∨ e1 = 50) := by
      rcases hP with ⟨_, _, t, h, hO, hs⟩ | ⟨_, h⟩
      · exact ⟨t, _, h, Or.inl ⟨rfl, hO, hs⟩⟩
      · exact ⟨_, _, h, Or.inr rfl⟩
    clear hP
    obtain ⟨Y, M, D, h, m, s⟩ := t
    unfold Mo.cells
    go_wp2_with fail
    refine (Parts_any (sec + 1)).mono ?_
    rintro e w2 ⟨hP, hb⟩
    have hB2 : Blk 24 w2 w1.heap.size (Mo.cells ⟨Y, M, D, h, m, s⟩) := below_blk hb (by simp) (Blk.new _ w1 _)
    have hb2 : Below w.heap.size w w2 := below_via (al2' H1.out) hb (Nat.le_refl _)
    have H2 : Hid (Below w.heap.size w w2 ∧ Blk 24 w2 w1.heap.size (Mo.cells ⟨Y, M, D, h, m, s⟩)) := ⟨hb2, hB2⟩
    clear hb hb2 hB2
    obtain ⟨u, e2, rfl, k0⟩ : ∃ (t : Mo) (e1 : Int), e = .returned (.tuple #[.agg t.cells.toArray, .int .i64 e1]) ∧ (e1 = 0 ∧ t.Ok ∧ t.sec = sec + 1 ∧ sec + 1 ≤ 253402300799 ∨ e1 = 50) := by
      rcases hP with ⟨_, hr, t, h, hO, hs⟩ | ⟨_, h⟩
      · exact ⟨t, _, h, Or.inl ⟨rfl, hO, hs, hr⟩⟩
      · exact ⟨_, _, h, Or.inr rfl⟩
    clear hP
    rcases h0 with ⟨rfl, o1, s1⟩ | rfl
    · rcases k0 with ⟨rfl, o2, s2, hr⟩ | rfl
      · have hn := Mo.next_ok o1 (by rw [s1]; exact hr)
        have hu : u = Mo.next ⟨Y, M, D, h, m, s⟩ := Mo.inj o2 hn.1 (by rw [s2, hn.2, s1])
        have y0 := o1.y0; have y1 := o1.y1; have m0 := o1.m0; have m1 := o1.m1; have d0 := o1.d0; have d1 := o1.d1
        have h0 := o1.h0; have h1 := o1.h1; have i0 := o1.i0; have i1 := o1.i1; have z0 := o1.s0; have z1 := o1.s1
        have g28 := ml_ge Y M
        have g31 := ml_le Y M
        simp only at y0 y1 m0 m1 d0 d1 h0 h1 i0 i1 z0 z1
        clear o1 o2 s1 s2 hr hn
        unfold Mo.next at hu
        simp only at hu
        by_cases c0 : s < 59
        · rw [if_pos c0] at hu
          subst hu
          unfold Mo.cells
          go_upto_region 5 with (fail)
          refine wp_gen (fun W => Below w.heap.size w W ∧ Blk 24 W w1.heap.size (Mo.cells ⟨Y, M, D, h, m, s⟩) ∧ Blk 24 W w2.heap.size (Mo.cells ⟨Y, M, D, h, m, s + 1⟩)) ⟨al2' H2.out.1, H2.out.2.alloc _, Blk.new _ w2 (Mo.cells ⟨Y, M, D, h, m, s + 1⟩)⟩ ?_
          rintro w3 ⟨hb3, hB3, hN3⟩
          obtain ⟨p, hp⟩ : ∃ p, w1.heap.size = p := ⟨_, rfl⟩
          obtain ⟨q, hq⟩ : ∃ q, w2.heap.size = q := ⟨_, rfl⟩
          have hne : p ≠ q := by have := H2.out.2.lt; omega
          rw [hp] at hB3 ⊢
          rw [hq] at hN3 ⊢
          have H3 : Hid (Below w.heap.size w w3 ∧ Blk 24 w3 p (Mo.cells ⟨Y, M, D, h, m, s⟩) ∧ Blk 24 w3 q (Mo.cells ⟨Y, M, D, h, m, s + 1⟩) ∧ p ≠ q ∧ w.heap.size ≤ p) := ⟨hb3, hB3, hN3, hne, by rw [← hp]; exact H1.out.size⟩
          obtain ⟨p0, p1, p2, p3, p4, p5, f0, f1, f2, f3, f4, f5⟩ := Mo.facts hB3
          obtain ⟨q0, q1, q2, q3, q4, q5, g0, g1, g2, g3, g4, g5⟩ := Mo.facts hN3
          clear hb3 hB3 hN3 hne hp hq g0 g1 g2 g3 g4 g5
          go_upto_region 9 with (first
            | (go_at_call 7; refine (num_any _).mono ?_; rintro e w' ⟨rfl, rfl⟩))
          refine wp_gen (fun W => Below w.heap.size w W ∧ Blk 24 W p (Mo.cells ⟨Y, M, D, h, m, s + 1⟩) ∧ Blk 24 W q (Mo.cells ⟨Y, M, D, h, m, s + 1⟩)) ⟨(Upd.set w3 p 5 (.int .i64 (s + 1))).below H3.out.1 H3.out.1.size H3.out.2.2.2.2, H3.out.2.1.set 5 (.int .i64 (s + 1)), (Upd.set w3 p 5 (.int .i64 (s + 1))).blk H3.out.2.2.1 (Ne.symm H3.out.2.2.2.1)⟩ ?_
          clear p0 p1 p2 p3 p4 p5 f0 f1 f2 f3 f4 f5 q0 q1 q2 q3 q4 q5
          rintro w5 ⟨hb5, hB5, hN5⟩
          obtain ⟨p0, p1, p2, p3, p4, p5, f0, f1, f2, f3, f4, f5⟩ := Mo.facts hB5
          obtain ⟨q0, q1, q2, q3, q4, q5, g0, g1, g2, g3, g4, g5⟩ := Mo.facts hN5
          have H5 : Hid (Below w.heap.size w w5) := hb5
          clear hb5 hB5 hN5 f0 f1 f2 f3 f4 f5 g0 g1 g2 g3 g4 g5
          go_wp2_with (go_at_call 5; refine (live_any (HT.out.below H5.out)).mono ?_; rintro e w4 ⟨rfl, hb⟩)
          go_ret
          exact ⟨rfl, below_via H5.out hb (Nat.le_refl _)⟩
        rw [if_neg c0] at hu
        by_cases c1 : m < 59
        · rw [if_pos c1] at hu
          obtain rfl : s = 59 := by omega
          subst hu
          unfold Mo.cells
          go_upto_region 5 with (fail)
          refine wp_gen (fun W => Below w.heap.size w W ∧ Blk 24 W w1.heap.size (Mo.cells ⟨Y, M, D, h, m, 59⟩) ∧ Blk 24 W w2.heap.size (Mo.cells ⟨Y, M, D, h, m + 1, 0⟩)) ⟨al2' H2.out.1, H2.out.2.alloc _, Blk.new _ w2 (Mo.cells ⟨Y, M, D, h, m + 1, 0⟩)⟩ ?_
          rintro w3 ⟨hb3, hB3, hN3⟩
          obtain ⟨p, hp⟩ : ∃ p, w1.heap.size = p := ⟨_, rfl⟩
          obtain ⟨q, hq⟩ : ∃ q, w2.heap.size = q := ⟨_, rfl⟩
          have hne : p ≠ q := by have := H2.out.2.lt; omega
          rw [hp] at hB3 ⊢
          rw [hq] at hN3 ⊢
          have H3 : Hid (Below w.heap.size w w3 ∧ Blk 24 w3 p (Mo.cells ⟨Y, M, D, h, m, 59⟩) ∧ Blk 24 w3 q (Mo.cells ⟨Y, M, D, h, m + 1, 0⟩) ∧ p ≠ q ∧ w.heap.size ≤ p) := ⟨hb3, hB3, hN3, hne, by rw [← hp]; exact H1.out.size⟩
          obtain ⟨p0, p1, p2, p3, p4, p5, f0, f1, f2, f3, f4, f5⟩ := Mo.facts hB3
          obtain ⟨q0, q1, q2, q3, q4, q5, g0, g1, g2, g3, g4, g5⟩ := Mo.facts hN3
          clear hb3 hB3 hN3 hne hp hq g0 g1 g2 g3 g4 g5
          go_wp2_with (first
            | (go_at_call 7; refine (num_any _).mono ?_; rintro e w' ⟨rfl, rfl⟩)
            | (go_at_call 5; refine (live_any (HT.out.below H3.out.1)).mono ?_; rintro e w4 ⟨rfl, hb⟩))
          go_ret
          exact ⟨rfl, below_via H3.out.1 hb (Nat.le_refl _)⟩
        rw [if_neg c1] at hu
        by_cases c2 : h < 23
        · rw [if_pos c2] at hu
          obtain rfl : s = 59 := by omega
          obtain rfl : m = 59 := by omega
          subst hu
          unfold Mo.cells
          go_upto_region 5 with (fail)
          refine wp_gen (fun W => Below w.heap.size w W ∧ Blk 24 W w1.heap.size (Mo.cells ⟨Y, M, D, h, 59, 59⟩) ∧ Blk 24 W w2.heap.size (Mo.cells ⟨Y, M, D, h + 1, 0, 0⟩)) ⟨al2' H2.out.1, H2.out.2.alloc _, Blk.new _ w2 (Mo.cells ⟨Y, M, D, h + 1, 0, 0⟩)⟩ ?_
          rintro w3 ⟨hb3, hB3, hN3⟩
          obtain ⟨p, hp⟩ : ∃ p, w1.heap.size = p := ⟨_, rfl⟩
          obtain ⟨q, hq⟩ : ∃ q, w2.heap.size = q := ⟨_, rfl⟩
          have hne : p ≠ q := by have := H2.out.2.lt; omega
          rw [hp] at hB3 ⊢
          rw [hq] at hN3 ⊢
          have H3 : Hid (Below w.heap.size w w3 ∧ Blk 24 w3 p (Mo.cells ⟨Y, M, D, h, 59, 59⟩) ∧ Blk 24 w3 q (Mo.cells ⟨Y, M, D, h + 1, 0, 0⟩) ∧ p ≠ q ∧ w.heap.size ≤ p) := ⟨hb3, hB3, hN3, hne, by rw [← hp]; exact H1.out.size⟩
          obtain ⟨p0, p1, p2, p3, p4, p5, f0, f1, f2, f3, f4, f5⟩ := Mo.facts hB3
          obtain ⟨q0, q1, q2, q3, q4, q5, g0, g1, g2, g3, g4, g5⟩ := Mo.facts hN3
          clear hb3 hB3 hN3 hne hp hq g0 g1 g2 g3 g4 g5
          go_wp2_with (first
            | (go_at_call 7; refine (num_any _).mono ?_; rintro e w' ⟨rfl, rfl⟩)
            | (go_at_call 5; refine (live_any (HT.out.below H3.out.1)).mono ?_; rintro e w4 ⟨rfl, hb⟩))
          go_ret
          exact ⟨rfl, below_via H3.out.1 hb (Nat.le_refl _)⟩
        rw [if_neg c2] at hu
        by_cases c3 : D < ml Y M
        · rw [if_pos c3] at hu
          obtain rfl : s = 59 := by omega
          obtain rfl : m = 59 := by omega
          obtain rfl : h = 23 := by omega
          have nd : ¬ D + 1 = 1 := by omega
          subst hu
          unfold Mo.cells
          go_upto_region 5 with (fail)
          refine wp_gen (fun W => Below w.heap.size w W ∧ Blk 24 W w1.heap.size (Mo.cells ⟨Y, M, D, 23, 59, 59⟩) ∧ Blk 24 W w2.heap.size (Mo.cells ⟨Y, M, D + 1, 0, 0, 0⟩)) ⟨al2' H2.out.1, H2.out.2.alloc _, Blk.new _ w2 (Mo.cells ⟨Y, M, D + 1, 0, 0, 0⟩)⟩ ?_
          rintro w3 ⟨hb3, hB3, hN3⟩
          obtain ⟨p, hp⟩ : ∃ p, w1.heap.size = p := ⟨_, rfl⟩
          obtain ⟨q, hq⟩ : ∃ q, w2.heap.size = q := ⟨_, rfl⟩
          have hne : p ≠ q := by have := H2.out.2.lt; omega
          rw [hp] at hB3 ⊢
          rw [hq] at hN3 ⊢
          have H3 : Hid (Below w.heap.size w w3 ∧ Blk 24 w3 p (Mo.cells ⟨Y, M, D, 23, 59, 59⟩) ∧ Blk 24 w3 q (Mo.cells ⟨Y, M, D + 1, 0, 0, 0⟩) ∧ p ≠ q ∧ w.heap.size ≤ p) := ⟨hb3, hB3, hN3, hne, by rw [← hp]; exact H1.out.size⟩
          obtain ⟨p0, p1, p2, p3, p4, p5, f0, f1, f2, f3, f4, f5⟩ := Mo.facts hB3
          obtain ⟨q0, q1, q2, q3, q4, q5, g0, g1, g2, g3, g4, g5⟩ := Mo.facts hN3
          clear hb3 hB3 hN3 hne hp hq g0 g1 g2 g3 g4 g5
          go_wp2_with (first
            | (go_at_call 7; refine (num_any _).mono ?_; rintro e w' ⟨rfl, rfl⟩)
            | (go_at_call 5; refine (live_any (HT.out.below H3.out.1)).mono ?_; rintro e w4 ⟨rfl, hb⟩))
          go_ret
          exact ⟨rfl, below_via H3.out.1 hb (Nat.le_refl _)⟩
        rw [if_neg c3] at hu
        by_cases c4 : M < 12
        · rw [if_pos c4] at hu
          obtain rfl : s = 59 := by omega
          obtain rfl : m = 59 := by omega
          obtain rfl : h = 23 := by omega
          have nm : ¬ M + 1 = 1 := by omega
          have nd : 28 ≤ D := by omega
          have nd31 : D ≤ 31 := by omega
          subst hu
          unfold Mo.cells
          go_upto_region 5 with (fail)
          refine wp_gen (fun W => Below w.heap.size w W ∧ Blk 24 W w1.heap.size (Mo.cells ⟨Y, M, D, 23, 59, 59⟩) ∧ Blk 24 W w2.heap.size (Mo.cells ⟨Y, M + 1, 1, 0, 0, 0⟩)) ⟨al2' H2.out.1, H2.out.2.alloc _, Blk.new _ w2 (Mo.cells ⟨Y, M + 1, 1, 0, 0, 0⟩)⟩ ?_
          rintro w3 ⟨hb3, hB3, hN3⟩
          obtain ⟨p, hp⟩ : ∃ p, w1.heap.size = p := ⟨_, rfl⟩
          obtain ⟨q, hq⟩ : ∃ q, w2.heap.size = q := ⟨_, rfl⟩
          have hne : p ≠ q := by have := H2.out.2.lt; omega
          rw [hp] at hB3 ⊢
          rw [hq] at hN3 ⊢
          have H3 : Hid (Below w.heap.size w w3 ∧ Blk 24 w3 p (Mo.cells ⟨Y, M, D, 23, 59, 59⟩) ∧ Blk 24 w3 q (Mo.cells ⟨Y, M + 1, 1, 0, 0, 0⟩) ∧ p ≠ q ∧ w.heap.size ≤ p) := ⟨hb3, hB3, hN3, hne, by rw [← hp]; exact H1.out.size⟩
          obtain ⟨p0, p1, p2, p3, p4, p5, f0, f1, f2, f3, f4, f5⟩ := Mo.facts hB3
          obtain ⟨q0, q1, q2, q3, q4, q5, g0, g1, g2, g3, g4, g5⟩ := Mo.facts hN3
          clear hb3 hB3 hN3 hne hp hq g0 g1 g2 g3 g4 g5
          go_wp2_with (first
            | (go_at_call 7; refine (num_any _).mono ?_; rintro e w' ⟨rfl, rfl⟩)
            | (go_at_call 5; refine (live_any (HT.out.below H3.out.1)).mono ?_; rintro e w4 ⟨rfl, hb⟩))
          go_ret
          exact ⟨rfl, below_via H3.out.1 hb (Nat.le_refl _)⟩
        rw [if_neg c4] at hu
        obtain rfl : s = 59 := by omega
        obtain rfl : m = 59 := by omega
        obtain rfl : h = 23 := by omega
        obtain rfl : M = 12 := by omega
        obtain rfl : D = 31 := by have := ml_12 Y; omega
        subst hu
        unfold Mo.cells
        go_upto_region 5 with (fail)
        refine wp_gen (fun W => Below w.heap.size w W ∧ Blk 24 W w1.heap.size (Mo.cells ⟨Y, 12, 31, 23, 59, 59⟩) ∧ Blk 24 W w2.heap.size (Mo.cells ⟨Y + 1, 1, 1, 0, 0, 0⟩)) ⟨al2' H2.out.1, H2.out.2.alloc _, Blk.new _ w2 (Mo.cells ⟨Y + 1, 1, 1, 0, 0, 0⟩)⟩ ?_
        rintro w3 ⟨hb3, hB3, hN3⟩
        obtain ⟨p, hp⟩ : ∃ p, w1.heap.size = p := ⟨_, rfl⟩
        obtain ⟨q, hq⟩ : ∃ q, w2.heap.size = q := ⟨_, rfl⟩
        have hne : p ≠ q := by have := H2.out.2.lt; omega
        rw [hp] at hB3 ⊢
        rw [hq] at hN3 ⊢
        have H3 : Hid (Below w.heap.size w w3 ∧ Blk 24 w3 p (Mo.cells ⟨Y, 12, 31, 23, 59, 59⟩) ∧ Blk 24 w3 q (Mo.cells ⟨Y + 1, 1, 1, 0, 0, 0⟩) ∧ p ≠ q ∧ w.heap.size ≤ p) := ⟨hb3, hB3, hN3, hne, by rw [← hp]; exact H1.out.size⟩
        obtain ⟨p0, p1, p2, p3, p4, p5, f0, f1, f2, f3, f4, f5⟩ := Mo.facts hB3
        obtain ⟨q0, q1, q2, q3, q4, q5, g0, g1, g2, g3, g4, g5⟩ := Mo.facts hN3
        clear hb3 hB3 hN3 hne hp hq g0 g1 g2 g3 g4 g5
        go_wp2_with (first
          | (go_at_call 7; refine (num_any _).mono ?_; rintro e w' ⟨rfl, rfl⟩)
          | (go_at_call 5; refine (live_any (HT.out.below H3.out.1)).mono ?_; rintro e w4 ⟨rfl, hb⟩))
        go_ret
        exact ⟨rfl, below_via H3.out.1 hb (Nat.le_refl _)⟩
      · obtain ⟨Y', M', D', h', m', s'⟩ := u
        unfold Mo.cells
        go_wp2_with (first
          | (go_at_call 7; refine (num_any _).mono ?_; rintro e w' ⟨rfl, rfl⟩)
          | (go_at_call 5; refine (live_any (HT.out.below (al2' H2.out.1))).mono ?_; rintro e w4 ⟨rfl, hb⟩))
        go_ret
        exact ⟨rfl, below_via (al2' H2.out.1) hb (Nat.le_refl _)⟩
    · obtain ⟨Y', M', D', h', m', s'⟩ := u
      unfold Mo.cells
      go_wp2_with (first
        | (go_at_call 7; refine (num_any _).mono ?_; rintro e w' ⟨rfl, rfl⟩)
        | (go_at_call 5; refine (live_any (HT.out.below (al2' H2.out.1))).mono ?_; rintro e w4 ⟨rfl, hb⟩))
      go_ret
      exact ⟨rfl, below_via (al2' H2.out.1) hb (Nat.le_refl _)⟩
end Go.Proofs.YtnaiialcjimhbabDoor
