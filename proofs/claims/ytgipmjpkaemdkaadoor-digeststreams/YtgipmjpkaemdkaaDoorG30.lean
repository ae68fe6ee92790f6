/-
  Digest: the reference's left, right, turn, filled.
-/
import Derived.Test.YtgipmjpkaemdkaaDoorG22
import Derived.Test.YtgipmjpkaemdkaaDoorApB
namespace Go.Proofs.YtgipmjpkaemdkaaDoor
open Go.RowKit
theorem bits_or_comm (k : IntKind) (x y : Int) : bits .or k x y = bits .or k y x := by unfold bits; simp only []; rw [BitVec.or_comm]

set_option maxHeartbeats 1000000 in
theorem left_nat {w : World} (x : Int) (n : Nat) (hx : U32 x) (h1 : 1 ≤ n) (h2 : n ≤ 31) :
    Calls Tryd.prog 42 #[.int .u32 x, .int .i64 n] w fun e w' => e = .returned (.int .u32 (rot32 x n)) ∧ ∃ q, w' = w.drewN q := by
  obtain ⟨hx0, hx1⟩ := hx
  obtain ⟨m, hm⟩ : ∃ m, 32 - n = m := ⟨_, rfl⟩
  have hmI : (32 : Int) - (n : Int) = (m : Int) := by omega
  have HV : Hid (rot32 x n = bits .or .u32 (IntKind.u32.wrap (x * 2 ^ n)) (x / 2 ^ m)) := by unfold rot32; rw [hm]; rfl
  have hm0 : m ≤ 32 := by omega
  clear hm
  go_enter Tryd.func42, Tryd.ntmps42
  go_wp2
  go_quiet (fail)
  go_wp2
  go_ret
  exact ⟨by rw [HV.out]; rfl, _, rfl⟩
theorem left_I (x n : Int) (w : World) (hx : U32 x) (h : 1 ≤ n ∧ n ≤ 31) :
    Calls Tryd.prog 42 #[.int .u32 x, .int .i64 n] w fun e w' => e = .returned (.int .u32 (rot32 x n.toNat)) ∧ ∃ q, w' = w.drewN q := by
  obtain ⟨n, rfl⟩ := Int.eq_ofNat_of_zero_le (show 0 ≤ n by omega)
  rw [Int.toNat_natCast]
  exact left_nat x n hx (by omega) (by omega)

set_option maxHeartbeats 1000000 in
theorem right_nat {w : World} (x : Int) (n : Nat) (hx : U32 x) (h1 : 1 ≤ n) (h2 : n ≤ 31) :
    Calls Tryd.prog 44 #[.int .u32 x, .int .i64 n] w fun e w' => e = .returned (.int .u32 (rot32 x (32 - n))) ∧ ∃ q, w' = w.drewN q := by
  obtain ⟨hx0, hx1⟩ := hx
  obtain ⟨m, hm⟩ : ∃ m, 32 - n = m := ⟨_, rfl⟩
  have hmI : (32 : Int) - (n : Int) = (m : Int) := by omega
  have HV : Hid (rot32 x (32 - n) = bits .or .u32 (x / 2 ^ n) (IntKind.u32.wrap (x * 2 ^ m))) := by unfold rot32; rw [hm, show 32 - m = n by omega]; exact bits_or_comm _ _ _
  have hm0 : m ≤ 32 := by omega
  clear hm
  go_enter Tryd.func44, Tryd.ntmps44
  go_wp2
  go_quiet (fail)
  go_wp2
  go_ret
  exact ⟨by rw [HV.out]; rfl, _, rfl⟩
theorem right_I (x n : Int) (w : World) (hx : U32 x) (h : 1 ≤ n ∧ n ≤ 31) :
    Calls Tryd.prog 44 #[.int .u32 x, .int .i64 n] w fun e w' => e = .returned (.int .u32 (rot32 x (32 - n.toNat))) ∧ ∃ q, w' = w.drewN q := by
  obtain ⟨n, rfl⟩ := Int.eq_ofNat_of_zero_le (show 0 ≤ n by omega)
  rw [Int.toNat_natCast]
  exact right_nat x n hx (by omega) (by omega)

set_option maxHeartbeats 1000000 in
theorem turn_nat {w : World} (x : Int) (n : Nat) (hx : U64 x) (h1 : 1 ≤ n) (h2 : n ≤ 63) :
    Calls Tryd.prog 46 #[.int .u64 x, .int .i64 n] w fun e w' => e = .returned (.int .u64 (rot64 x (64 - n))) ∧ ∃ q, w' = w.drewN q := by
  obtain ⟨hx0, hx1⟩ := hx
  obtain ⟨m, hm⟩ : ∃ m, 64 - n = m := ⟨_, rfl⟩
  have hmI : (64 : Int) - (n : Int) = (m : Int) := by omega
  have HV : Hid (rot64 x (64 - n) = bits .or .u64 (x / 2 ^ n) (IntKind.u64.wrap (x * 2 ^ m))) := by unfold rot64; rw [hm, show 64 - m = n by omega]; exact bits_or_comm _ _ _
  have hm0 : m ≤ 64 := by omega
  clear hm
  go_enter Tryd.func46, Tryd.ntmps46
  go_wp2
  go_quiet (fail)
  go_wp2
  go_ret
  exact ⟨by rw [HV.out]; rfl, _, rfl⟩
theorem turn_I (x n : Int) (w : World) (hx : U64 x) (h : 1 ≤ n ∧ n ≤ 63) :
    Calls Tryd.prog 46 #[.int .u64 x, .int .i64 n] w fun e w' => e = .returned (.int .u64 (rot64 x (64 - n.toNat))) ∧ ∃ q, w' = w.drewN q := by
  obtain ⟨n, rfl⟩ := Int.eq_ofNat_of_zero_le (show 0 ≤ n by omega)
  rw [Int.toNat_natCast]
  exact turn_nat x n hx (by omega) (by omega)
end Go.Proofs.YtgipmjpkaemdkaaDoor
