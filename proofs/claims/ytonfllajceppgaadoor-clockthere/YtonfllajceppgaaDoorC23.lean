/-
  Clock: the reference's years and months; whether it is a moment.
-/
import Derived.Test.YtonfllajceppgaaDoorC17
namespace Go.Proofs.YtonfllajceppgaaDoor
open Go.RowKit
theorem lp_cases {y : Int} : (lp y = 1 ↔ (y % 400 = 0 ∨ (y % 4 = 0 ∧ y % 100 ≠ 0))) := by
  unfold lp; split <;> omega
theorem leap_any {w : World} (y : Int) (h0 : 0 ≤ y) (h1 : y ≤ 1000000) : Calls Tryd.prog 44 #[.int .i64 y] w fun e w' => e = .returned (.bool (decide (lp y = 1))) ∧ w' = w := by
  by_cases a : y % 400 = 0
  · have e : lp y = 1 := lp_cases.2 (Or.inl a)
    rw [e]
    go_enter Tryd.func44, Tryd.ntmps44
    go_wp2
    go_ret
    exact ⟨rfl, rfl⟩
  · have ha : (y % 400 == 0) = false := by simp [a]
    by_cases b : y % 4 = 0
    · by_cases c : y % 100 = 0
      · have e : decide (lp y = 1) = false := by rw [decide_eq_false_iff_not, lp_cases]; omega
        rw [e]
        go_enter Tryd.func44, Tryd.ntmps44
        go_wp2
        go_ret
        exact ⟨rfl, rfl⟩
      · have hc : (y % 100 != 0) = true := by simp [c]
        have e : lp y = 1 := lp_cases.2 (Or.inr ⟨b, c⟩)
        rw [e]
        go_enter Tryd.func44, Tryd.ntmps44
        go_wp2
        go_ret
        exact ⟨rfl, rfl⟩
    · have e : decide (lp y = 1) = false := by rw [decide_eq_false_iff_not, lp_cases]; omega
      rw [e]
      go_enter Tryd.func44, Tryd.ntmps44
      go_wp2
      go_ret
      exact ⟨rfl, rfl⟩
theorem year_any {w : World} (y : Int) (h0 : 0 ≤ y) (h1 : y ≤ 1000000) : Calls Tryd.prog 27 #[.int .i64 y] w fun e w' => e = .returned (.int .i64 (365 + lp y)) ∧ w' = w := by
  have HL : Hid (∀ w : World, Calls Tryd.prog 44 #[.int .i64 y] w fun e w' => e = .returned (.bool (decide (lp y = 1))) ∧ w' = w) := fun w => leap_any y h0 h1
  rcases lp_01 y with e | e
  · rw [e] at HL ⊢
    go_enter Tryd.func27, Tryd.ntmps27
    go_wp2_with fail
    refine (HL.out _).mono ?_
    rintro e w' ⟨rfl, rfl⟩
    go_wp2
    go_ret
    exact ⟨rfl, rfl⟩
  · rw [e] at HL ⊢
    go_enter Tryd.func27, Tryd.ntmps27
    go_wp2_with fail
    refine (HL.out _).mono ?_
    rintro e w' ⟨rfl, rfl⟩
    go_wp2
    go_ret
    exact ⟨rfl, rfl⟩
set_option maxHeartbeats 1000000 in
theorem month_any {w : World} (y m : Int) (h0 : 0 ≤ y) (h1 : y ≤ 1000000) (m0 : 1 ≤ m) (m1 : m ≤ 12) : Calls Tryd.prog 28 #[.int .i64 y, .int .i64 m] w fun e w' => e = .returned (.int .i64 (ml y m)) ∧ w' = w := by
  have HY : Hid (∀ w : World, Calls Tryd.prog 27 #[.int .i64 y] w fun e w' => e = .returned (.int .i64 (365 + lp y)) ∧ w' = w) := fun w => year_any y h0 h1
  have l := lp_01 y
  have e : m = 2 ∨ m = 1 ∨ m = 3 ∨ m = 4 ∨ m = 5 ∨ m = 6 ∨ m = 7 ∨ m = 8 ∨ m = 9 ∨ m = 10 ∨ m = 11 ∨ m = 12 := by omega
  rcases e with e | e | e | e | e | e | e | e | e | e | e | e <;> subst e
  · obtain ⟨x, hx⟩ : ∃ x, 365 + lp y = x := ⟨_, rfl⟩
    have hm : ml y 2 = x - 337 := by unfold ml; simp; omega
    have x0 : 365 ≤ x := by omega
    have x1 : x ≤ 366 := by omega
    rw [hx] at HY
    rw [hm]
    clear hm hx l
    go_enter Tryd.func28, Tryd.ntmps28
    go_wp2_with fail
    refine (HY.out _).mono ?_
    rintro e w' ⟨rfl, rfl⟩
    go_wp2
    go_ret
    exact ⟨rfl, rfl⟩
  all_goals
    clear HY l
    go_enter Tryd.func28, Tryd.ntmps28
    go_wp2
    go_ret
    refine ⟨?_, rfl⟩
    unfold ml
    simp
theorem Mo.ok_iff (t : Mo) : t.Ok ↔ ((0 ≤ t.Y ∧ t.Y ≤ 9999 ∧ 1 ≤ t.M ∧ t.M ≤ 12 ∧ 1 ≤ t.D ∧ t.D ≤ ml t.Y t.M) ∧ (0 ≤ t.h ∧ t.h < 24 ∧ 0 ≤ t.m ∧ t.m < 60 ∧ 0 ≤ t.s ∧ t.s < 60)) :=
  ⟨fun k => ⟨⟨k.y0, k.y1, k.m0, k.m1, k.d0, k.d1⟩, k.h0, k.h1, k.i0, k.i1, k.s0, k.s1⟩, mo_ok⟩
end Go.Proofs.YtonfllajceppgaaDoor
