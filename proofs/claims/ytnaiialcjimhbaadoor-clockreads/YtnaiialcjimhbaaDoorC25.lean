/-
  Clock: the reference's Seconds; ClockSeconds.
-/
import Derived.Test.YtnaiialcjimhbaaDoorC24
namespace Go.Proofs.YtnaiialcjimhbaaDoor
open Go.RowKit
theorem ys_range {y : Int} (h0 : 0 ≤ y) (h1 : y ≤ 20000) : 0 ≤ ys y ∧ ys y ≤ 8000000 := by
  have a : (y + 99) / 100 ≤ (y + 3) / 4 + 1 := by omega
  have b : 0 ≤ (y + 3) / 4 := by omega
  have c : (y + 3) / 4 ≤ 6000 := by omega
  have d : (y + 399) / 400 ≤ 60 := by omega
  have e : 0 ≤ (y + 99) / 100 := by omega
  have f : (y + 99) / 100 ≤ y := by omega
  unfold ys; omega
theorem ms_range {y m : Int} (h0 : 1 ≤ m) (h1 : m ≤ 13) : 0 ≤ ms y m ∧ ms y m ≤ 366 := by
  have l := lp_01 y
  unfold ms; split <;> omega
theorem ys_0 : ys 0 = 0 := by decide
set_option maxRecDepth 100000 in
set_option maxHeartbeats 4000000 in
theorem RSeconds_any {w : World} (t : Mo) : Calls Tryd.prog 10 #[.agg t.cells.toArray] w fun e w' => SecondsIs t e ∧ Below w.heap.size w w' := by
  have HM : Hid (∀ w : World, Calls Tryd.prog 30 #[.agg t.cells.toArray] w fun e w' => (t.Ok ∧ e = .returned (.bool true) ∨ ¬ t.Ok ∧ e = .returned (.bool false)) ∧ Below w.heap.size w w') := fun w => May_any t
  obtain ⟨Y, M, D, h, m, s⟩ := t
  unfold Mo.cells at HM ⊢
  go_enter Tryd.func10, Tryd.ntmps10
  go_wp2_with fail
  refine (HM.out _).mono ?_
  rintro e w1 ⟨hM, hb⟩
  have hB1 : Blk 23 w1 w.heap.size (Mo.cells ⟨Y, M, D, h, m, s⟩) := below_blk hb (by simp) (Blk.new _ w _)
  have hb1 : Below w.heap.size w w1 := (al1 _).trans (hb.mono (by simp))
  obtain ⟨c0, c1, c2, c3, c4, c5, g0, g1, g2, g3, g4, g5⟩ := Mo.facts hB1
  have H1 : Hid (Below w.heap.size w w1) := hb1
  clear hb hb1 hB1 g0 g1 g2 g3 g4 g5
  rcases hM with ⟨hO, rfl⟩ | ⟨hO, rfl⟩
  · have HO : Hid (Mo.Ok ⟨Y, M, D, h, m, s⟩) := hO
    have y0 := hO.y0; have y1 := hO.y1; have m0 := hO.m0; have m1 := hO.m1
    have d0 := hO.d0; have h0 := hO.h0; have h1 := hO.h1; have i0 := hO.i0; have i1 := hO.i1; have s0 := hO.s0; have s1 := hO.s1
    have d31 : D ≤ 31 := Int.le_trans hO.d1 (ml_le Y M)
    simp only at y0 y1 m0 m1 d0 h0 h1 i0 i1 s0 s1
    clear hO
    go_wp2_with fail
    go_loopw [4, 5] (fun dv yv wr => ∃ y : Int, 0 ≤ y ∧ y ≤ Y ∧ dv = .int .i64 (D - 1 + ys y) ∧ yv = .int .i64 y ∧ w1 = wr) (fun _ yv _ => (Y - intOf yv).toNat)
    case atStart => exact ⟨0, by omega, y0, by rw [ys_0]; simp, rfl, rfl⟩
    case round =>
      obtain ⟨y, z0, z1, rfl, rfl, rfl⟩ := hrel
      by_cases hlt : y < Y
      · obtain ⟨a, ha⟩ : ∃ a, ys y = a := ⟨_, rfl⟩
        have hr := ys_range z0 (show y ≤ 20000 by omega)
        rw [ha] at hr
        obtain ⟨a0, a1⟩ := hr
        obtain ⟨l, hl⟩ : ∃ l, 365 + lp y = l := ⟨_, rfl⟩
        have hl0 : 0 ≤ l ∧ l ≤ 366 := by have := lp_01 y; omega
        obtain ⟨l0, l1⟩ := hl0
        have HS : Hid (ys (y + 1) = a + l ∧ (Y - (y + 1)).toNat < (Y - y).toNat ∧ 0 ≤ y + 1 ∧ y + 1 ≤ Y) := ⟨by rw [ys_succ, ha]; omega, by omega, by omega, by omega⟩
        rw [ha]
        go_wp2_with (go_at_call 31; refine (year_any y z0 (by omega)).mono ?_; rintro e w' ⟨rfl, rfl⟩; rw [hl])
        refine ⟨⟨y + 1, HS.out.2.2.1, HS.out.2.2.2, ?_, rfl, trivial⟩, HS.out.2.1⟩
        rw [HS.out.1, ← Int.add_assoc]
      · obtain rfl : y = Y := by omega
        obtain ⟨a, ha⟩ : ∃ a, ys y = a := ⟨_, rfl⟩
        have hr := ys_range z0 (show y ≤ 20000 by omega)
        rw [ha] at hr
        obtain ⟨a0, a1⟩ := hr
        have HA : Hid (ys y = a) := ha
        rw [ha]
        clear ha
        go_wp2_with fail
        go_loopw [4, 6] (fun dv kv wr => ∃ k : Int, 1 ≤ k ∧ k ≤ M ∧ dv = .int .i64 (D - 1 + a + ms y k) ∧ kv = .int .i64 k ∧ w1 = wr) (fun _ kv _ => (M - intOf kv).toNat)
        case atStart => exact ⟨1, by omega, m0, by rw [ms_1]; simp, rfl, rfl⟩
        case round =>
          obtain ⟨k, k0, k1, rfl, rfl, rfl⟩ := hrel
          obtain ⟨b, hb⟩ : ∃ b, ms y k = b := ⟨_, rfl⟩
          have hr := ms_range (y := y) k0 (show k ≤ 13 by omega)
          rw [hb] at hr
          obtain ⟨b0, b1⟩ := hr
          rw [hb]
          by_cases hkt : k < M
          · obtain ⟨l, hl⟩ : ∃ l, ml y k = l := ⟨_, rfl⟩
            have hl0 : 0 ≤ l ∧ l ≤ 31 := by have := ml_ge y k; have := ml_le y k; omega
            obtain ⟨l0, l1⟩ := hl0
            have HS : Hid (ms y (k + 1) = b + l ∧ (M - (k + 1)).toNat < (M - k).toNat ∧ 1 ≤ k + 1 ∧ k + 1 ≤ M) := ⟨by rw [ms_succ y k k0 (by omega), hb, hl], by omega, by omega, by omega⟩
            go_wp2_with (go_at_call 32; refine (month_any y k z0 (by omega) k0 (by omega)).mono ?_; rintro e w' ⟨rfl, rfl⟩; rw [hl])
            refine ⟨⟨k + 1, HS.out.2.2.1, HS.out.2.2.2, ?_, rfl, trivial⟩, HS.out.2.1⟩
            rw [HS.out.1, ← Int.add_assoc]
          · obtain rfl : k = M := by omega
            have HE : Hid (Mo.sec ⟨y, k, D, h, m, s⟩ = (D - 1 + a + b - 719528) * 86400 + h * 3600 + m * 60 + s) := by
              show _ = _
              simp only [Mo.sec, Mo.day]; rw [HA.out, hb]; omega
            go_wp2
            go_ret2
            exact ⟨Or.inl ⟨HO.out, by rw [HE.out]; rfl⟩, H1.out⟩
  · go_wp2
    go_ret2
    exact ⟨Or.inr ⟨hO, rfl⟩, H1.out⟩
set_option maxRecDepth 100000 in
set_option maxHeartbeats 4000000 in
theorem ClockSeconds_any {w : World} (t : Mo) (hT : Tab w) : Calls Tryd.prog 3 #[.agg t.cells.toArray] w fun e w' => e = .returned (.bool true) ∧ Below w.heap.size w w' := by
  have HT : Hid (Tab w) := hT
  clear hT
  obtain ⟨x, k, hx⟩ : ∃ x k, ∀ e, SecondsIs t e → e = .returned (.tuple #[.int .i64 x, .int .i64 k]) := by
    by_cases h : t.Ok
    · exact ⟨t.sec, 0, fun e he => seconds_is h he⟩
    · exact ⟨0, 50, fun e he => by rcases he with ⟨k, _⟩ | ⟨_, k⟩; exact absurd k h; exact k⟩
  have HS : Hid (∀ w : World, Calls Tryd.prog 9 #[.agg t.cells.toArray] w fun e w' => e = .returned (.tuple #[.int .i64 x, .int .i64 k]) ∧ Below w.heap.size w w') := fun w => (Seconds_any t).mono fun e w' ⟨h, b⟩ => ⟨hx e h, b⟩
  have HR : Hid (∀ w : World, Calls Tryd.prog 10 #[.agg t.cells.toArray] w fun e w' => e = .returned (.tuple #[.int .i64 x, .int .i64 k]) ∧ Below w.heap.size w w') := fun w => (RSeconds_any t).mono fun e w' ⟨h, b⟩ => ⟨hx e h, b⟩
  clear hx
  obtain ⟨Y, M, D, h, m, s⟩ := t
  unfold Mo.cells at HS HR ⊢
  go_enter Tryd.func3, Tryd.ntmps3
  go_wp2_with fail
  refine (HS.out _).mono ?_
  rintro e w1 ⟨rfl, hb⟩
  have hB1 : Blk 23 w1 w.heap.size (Mo.cells ⟨Y, M, D, h, m, s⟩) := below_blk hb (by simp) (Blk.new _ w _)
  have hb1 : Below w.heap.size w w1 := (al1 _).trans (hb.mono (by simp))
  obtain ⟨c0, c1, c2, c3, c4, c5, g0, g1, g2, g3, g4, g5⟩ := Mo.facts hB1
  have H1 : Hid (Below w.heap.size w w1) := hb1
  clear hb hb1 hB1 g0 g1 g2 g3 g4 g5
  go_wp2_with fail
  refine (HR.out _).mono ?_
  rintro e w2 ⟨rfl, hb⟩
  have H2 : Hid (Below w.heap.size w w2) := below_via H1.out hb (Nat.le_refl _)
  clear hb
  go_wp2_with (first
    | (go_at_call 11; refine (num_any _).mono ?_; rintro e w' ⟨rfl, rfl⟩)
    | (go_at_call 12; refine (live_any (HT.out.below H2.out)).mono ?_; rintro e w4 ⟨rfl, hb⟩))
  go_ret
  exact ⟨rfl, below_via H2.out hb (Nat.le_refl _)⟩
end Go.Proofs.YtnaiialcjimhbaaDoor
