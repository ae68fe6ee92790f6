/-
  Clock: zeros, so many.
-/
import Derived.Test.YtonfllajceppgaaDoorC9
namespace Go.Proofs.YtonfllajceppgaaDoor
open Go.RowKit
set_option maxRecDepth 100000 in
theorem mul64_k {w : World} (k : Nat) (h2 : 2 ≤ k) (h14 : k ≤ 14) : Calls Tryd.prog 56 #[.int .u64 1, .int .u64 k] w fun e w' => e = .returned (.tuple #[.int .u64 0, .int .u64 k]) ∧ w = w' := by
  have : k = 2 ∨ k = 3 ∨ k = 4 ∨ k = 5 ∨ k = 6 ∨ k = 7 ∨ k = 8 ∨ k = 9 ∨ k = 10 ∨ k = 11 ∨ k = 12 ∨ k = 13 ∨ k = 14 := by omega
  rcases this with h | h | h | h | h | h | h | h | h | h | h | h | h <;> subst h
  all_goals
    go_enter Tryd.func56, Tryd.ntmps56
    go_wp2
    go_ret2
    refine ⟨?_, rfl⟩
    kernel_rfl
theorem mul_k {w : World} (k : Nat) (h2 : 2 ≤ k) (h14 : k ≤ 14) : Calls Tryd.prog 38 #[.int .u64 1, .int .u64 k] w fun e w' => e = .returned (.tuple #[.int .u64 0, .int .u64 k]) ∧ w = w' := by
  go_enter Tryd.func38, Tryd.ntmps38
  go_wp2_with fail
  refine (mul64_k k h2 h14).mono ?_
  rintro e w' ⟨rfl, rfl⟩
  go_wp2
  go_ret2
  exact ⟨rfl, rfl⟩
set_option maxRecDepth 100000 in
theorem litePrefix_c {w : World} (S T : ByteArray) (r : Bool) (zT : T.size = 1) (hz : 1 ≤ S.size) (hr : ((S.extract 0 1).toList == T.toList) = r) : Calls Tryd.prog 57 #[.string S, .string T] w fun e w' => e = .returned (.bool r) ∧ w = w' := by
  have hzI : (1 : Int) ≤ (S.size : Int) := by omega
  go_enter Tryd.func57, Tryd.ntmps57
  go_wp2
  go_ret
  exact ⟨by rw [← hr]; rfl, rfl⟩
set_option maxRecDepth 100000 in
theorem prefix_c {w : World} (S T : ByteArray) (r : Bool) (zT : T.size = 1) (hz : decide (1 ≤ S.size) = true) (hr : ((S.extract 0 1).toList == T.toList) = r) : Calls Tryd.prog 39 #[.string S, .string T] w fun e w' => e = .returned (.bool r) ∧ w = w' := by
  have HC : Hid (∀ w, Calls Tryd.prog 57 #[.string S, .string T] w fun e w' => e = .returned (.bool r) ∧ w = w') := fun w => litePrefix_c S T r zT (of_decide_eq_true hz) hr
  clear zT hz hr
  go_enter Tryd.func39, Tryd.ntmps39
  go_wp2_with fail
  refine (HC.out _).mono ?_
  rintro e w' ⟨rfl, rfl⟩
  go_wp2
  go_ret
  exact ⟨rfl, rfl⟩
def zeros (k : Nat) : List Int := List.replicate k 48
set_option maxRecDepth 1000000 in
set_option maxHeartbeats 4000000 in
theorem Repeat_k {w : World} (k : Nat) (h14 : k ≤ 14) : Calls Tryd.prog 26 #[.string ⟨#[48]⟩, .int .i64 k] w fun e w' => e = .returned (.string (strOfNums (zeros k))) ∧ w = w' := by
  by_cases h0 : k = 0
  · subst h0
    go_enter Tryd.func26, Tryd.ntmps26
    go_wp2
    go_ret
    exact ⟨rfl, rfl⟩
  · by_cases h1 : k = 1
    · subst h1
      go_enter Tryd.func26, Tryd.ntmps26
      go_wp2
      go_ret
      exact ⟨rfl, rfl⟩
    · have k0 : ¬ (k : Int) = 0 := by omega
      have k1 : ¬ (k : Int) = 1 := by omega
      have k14 : (k : Int) ≤ 14 := by omega
      have HK : Hid (2 ≤ k ∧ k ≤ 14) := ⟨by omega, h14⟩
      go_enter Tryd.func26, Tryd.ntmps26
      go_wp2_with (first
        | (go_at_call 38; refine (mul_k k HK.out.1 HK.out.2).mono ?_; rintro e w' ⟨rfl, rfl⟩)
        | (go_at_call 39; refine (prefix_c _ _ false rfl (by kernel_rfl) (by decide +kernel)).mono ?_; rintro e w' ⟨rfl, rfl⟩)
        | (go_at_call 39; refine (prefix_c _ _ true rfl (by kernel_rfl) (by decide +kernel)).mono ?_; rintro e w' ⟨rfl, rfl⟩))
      go_ret
      refine ⟨?_, rfl⟩
      have : k = 2 ∨ k = 3 ∨ k = 4 ∨ k = 5 ∨ k = 6 ∨ k = 7 ∨ k = 8 ∨ k = 9 ∨ k = 10 ∨ k = 11 ∨ k = 12 ∨ k = 13 ∨ k = 14 := by have := HK.out; omega
      rcases this with h | h | h | h | h | h | h | h | h | h | h | h | h <;> subst h <;> (refine congrArg (fun s => Ending.returned (Value.string s)) ?_; decide +kernel)
end Go.Proofs.YtonfllajceppgaaDoor
