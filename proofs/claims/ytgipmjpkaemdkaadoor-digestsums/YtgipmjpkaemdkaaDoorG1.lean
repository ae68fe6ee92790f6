/-
  Digest: the walks of RotateLeft32, RotateLeft64, turns32, moved32, turns64, moved64, choose1, Size, Block.
-/
import Derived.Test.YtgipmjpkaemdkaaDoorBase
import Derived.Deep.QuietTactic
import Derived.BigQuiet
import Derived.Deep.CutRange
namespace Go.Proofs.YtgipmjpkaemdkaaDoor
open Go.RowKit

/-- x turned left by s bits. -/
def rot32 (x : Int) (s : Nat) : Int := bits .or .u32 (IntKind.u32.wrap (x * 2 ^ s)) (x / 2 ^ (32 - s))
def rot64 (x : Int) (s : Nat) : Int := bits .or .u64 (IntKind.u64.wrap (x * 2 ^ s)) (x / 2 ^ (64 - s))

set_option maxHeartbeats 1000000 in
theorem RotateLeft32_any {w : World} (x k : Int) (hx : U32 x) (s : Nat) (hs : bits .and .u64 (IntKind.u64.wrap k) 31 = s) (hs1 : s ≤ 31) :
    Calls Tryd.prog 51 #[.int .u32 x, .int .i64 k] w fun e w' => e = .returned (.int .u32 (rot32 x s)) ∧ w = w' := by
  obtain ⟨h1, h2⟩ := hx
  have e1 : (32 : Int) - (s : Int) = ((32 - s : Nat) : Int) := by omega
  obtain ⟨t, ht⟩ : ∃ t, 32 - s = t := ⟨_, rfl⟩
  rw [ht] at e1
  have HR : Hid (rot32 x s = bits .or .u32 (IntKind.u32.wrap (x * 2 ^ s)) (x / 2 ^ t)) := by unfold rot32; rw [ht]; rfl
  have ht1 : t ≤ 32 := by omega
  clear ht
  go_enter Tryd.func51, Tryd.ntmps51
  go_wp2
  go_ret
  exact ⟨by rw [HR.out]; rfl, rfl⟩

theorem neg_and32 (i : Nat) (h : 1 ≤ i) (h' : i ≤ 31) : bits .and .u64 (IntKind.u64.wrap (-(i : Int))) 31 = (32 - i : Nat) := by
  have e : IntKind.u64.wrap (-(i : Int)) = 18446744073709551616 - (i : Int) := by rw [IntKind.wrap_u64]; omega
  have h2 : bits .and .u64 (18446744073709551616 - (i : Int)) 31 = (18446744073709551616 - (i : Int)) % 32 := by
    obtain ⟨z, hz⟩ : ∃ z, 18446744073709551616 - (i : Int) = z := ⟨_, rfl⟩
    have h0 : 0 ≤ z := by omega
    have h1 : z < 18446744073709551616 := by omega
    rw [hz]; go_bits2
  rw [e, h2]; omega
def trn32 (x : Int) (i j k : Nat) : Int := bits .xor .u32 (bits .xor .u32 (rot32 x (32 - i)) (rot32 x (32 - j))) (rot32 x (32 - k))
def mvd32 (x : Int) (i j k : Nat) : Int := bits .xor .u32 (bits .xor .u32 (rot32 x (32 - i)) (rot32 x (32 - j))) (x / 2 ^ k)
set_option maxHeartbeats 1000000 in
theorem turns32_any {w : World} (x : Int) (hx : U32 x) (i j k : Nat) (hi : 1 ≤ i ∧ i ≤ 31) (hj : 1 ≤ j ∧ j ≤ 31) (hk : 1 ≤ k ∧ k ≤ 31) :
    Calls Tryd.prog 54 #[.int .u32 x, .int .i64 i, .int .i64 j, .int .i64 k] w fun e w' => e = .returned (.int .u32 (trn32 x i j k)) ∧ w = w' := by
  have r1 := RotateLeft32_any (w := w) x (-(i : Int)) hx (32 - i) (neg_and32 i hi.1 hi.2) (by omega)
  have r2 := RotateLeft32_any (w := w) x (-(j : Int)) hx (32 - j) (neg_and32 j hj.1 hj.2) (by omega)
  have r3 := RotateLeft32_any (w := w) x (-(k : Int)) hx (32 - k) (neg_and32 k hk.1 hk.2) (by omega)
  obtain ⟨a, ha⟩ : ∃ a, rot32 x (32 - i) = a := ⟨_, rfl⟩
  obtain ⟨b, hb⟩ : ∃ b, rot32 x (32 - j) = b := ⟨_, rfl⟩
  obtain ⟨c, hc⟩ : ∃ c, rot32 x (32 - k) = c := ⟨_, rfl⟩
  have HT : Hid (trn32 x i j k = bits .xor .u32 (bits .xor .u32 a b) c) := by unfold trn32; rw [ha, hb, hc]; rfl
  rw [ha] at r1; rw [hb] at r2; rw [hc] at r3
  clear ha hb hc hx
  go_enter Tryd.func54, Tryd.ntmps54
  go_wp2_with (first
    | (go_at_call 51; replace g1 := g1; replace g2 := g2; refine r3.mono ?_; rintro e w' ⟨rfl, rfl⟩)
    | (go_at_call 51; replace g1 := g1; refine r2.mono ?_; rintro e w' ⟨rfl, rfl⟩; have g2 := trivial)
    | (go_at_call 51; refine r1.mono ?_; rintro e w' ⟨rfl, rfl⟩; have g1 := trivial))
  go_ret
  exact ⟨by rw [HT.out]; rfl, rfl⟩
def sh32 (k : Int) : Nat := (bits .and .u64 (IntKind.u64.wrap k) 31).toNat
theorem sh32_neg (i : Nat) (h : 1 ≤ i) (h' : i ≤ 31) : sh32 (-(i : Int)) = 32 - i := by unfold sh32; rw [neg_and32 i h h']; exact Int.toNat_natCast _
theorem and31 (z : Int) (h0 : 0 ≤ z) (h1 : z < 18446744073709551616) : bits .and .u64 z 31 = z % 32 := by go_bits2
theorem rot32_any {w : World} (x k : Int) (hx : U32 x) :
    Calls Tryd.prog 51 #[.int .u32 x, .int .i64 k] w fun e w' => e = .returned (.int .u32 (rot32 x (sh32 k))) ∧ w' = w := by
  have h := and31 (IntKind.u64.wrap k) (by rw [IntKind.wrap_u64]; omega) (by rw [IntKind.wrap_u64]; omega)
  refine (RotateLeft32_any x k hx (sh32 k) (by unfold sh32; rw [h]; omega) (by unfold sh32; rw [h]; omega)).mono fun _ _ h => ⟨h.1, h.2.symm⟩
set_option maxHeartbeats 1000000 in
theorem moved32_any {w : World} (x : Int) (hx : U32 x) (i j k : Nat) (hi : 1 ≤ i ∧ i ≤ 31) (hj : 1 ≤ j ∧ j ≤ 31) (hk : k ≤ 31) :
    Calls Tryd.prog 58 #[.int .u32 x, .int .i64 i, .int .i64 j, .int .i64 k] w fun e w' => e = .returned (.int .u32 (mvd32 x i j k)) ∧ ∃ q, w' = w.drewN q := by
  have HX : Hid (U32 x) := hx
  have HT : Hid (mvd32 x i j k = bits .xor .u32 (bits .xor .u32 (rot32 x (sh32 (-(i : Int)))) (rot32 x (sh32 (-(j : Int))))) (x / 2 ^ k)) := by
    unfold mvd32; rw [sh32_neg i hi.1 hi.2, sh32_neg j hj.1 hj.2]; rfl
  have hk0 : (0 : Int) ≤ (k : Int) := by omega
  clear hx
  go_enter Tryd.func58, Tryd.ntmps58
  go_upto_region 1 with (fail)
  go_quiet ((go_at_call 51; exact Calls.quiet_of_same (rot32_any _ _ HX.out)))
  go_wp2
  go_ret
  exact ⟨by rw [HT.out]; rfl, _, rfl⟩

set_option maxHeartbeats 1000000 in
theorem RotateLeft64_any {w : World} (x k : Int) (hx : 0 ≤ x ∧ x < 18446744073709551616) (s : Nat) (hs : bits .and .u64 (IntKind.u64.wrap k) 63 = s) (hs1 : s ≤ 63) :
    Calls Tryd.prog 60 #[.int .u64 x, .int .i64 k] w fun e w' => e = .returned (.int .u64 (rot64 x s)) ∧ w = w' := by
  obtain ⟨h1, h2⟩ := hx
  have e1 : (64 : Int) - (s : Int) = ((64 - s : Nat) : Int) := by omega
  obtain ⟨t, ht⟩ : ∃ t, 64 - s = t := ⟨_, rfl⟩
  rw [ht] at e1
  have HR : Hid (rot64 x s = bits .or .u64 (IntKind.u64.wrap (x * 2 ^ s)) (x / 2 ^ t)) := by unfold rot64; rw [ht]; rfl
  have ht1 : t ≤ 64 := by omega
  clear ht
  go_enter Tryd.func60, Tryd.ntmps60
  go_wp2
  go_ret
  exact ⟨by rw [HR.out]; rfl, rfl⟩

theorem neg_and64 (i : Nat) (h : 1 ≤ i) (h' : i ≤ 63) : bits .and .u64 (IntKind.u64.wrap (-(i : Int))) 63 = (64 - i : Nat) := by
  have e : IntKind.u64.wrap (-(i : Int)) = 18446744073709551616 - (i : Int) := by rw [IntKind.wrap_u64]; omega
  have h2 : bits .and .u64 (18446744073709551616 - (i : Int)) 63 = (18446744073709551616 - (i : Int)) % 64 := by
    obtain ⟨z, hz⟩ : ∃ z, 18446744073709551616 - (i : Int) = z := ⟨_, rfl⟩
    have h0 : 0 ≤ z := by omega
    have h1 : z < 18446744073709551616 := by omega
    rw [hz]; go_bits2
  rw [e, h2]; omega
def trn64 (x : Int) (i j k : Nat) : Int := bits .xor .u64 (bits .xor .u64 (rot64 x (64 - i)) (rot64 x (64 - j))) (rot64 x (64 - k))
def mvd64 (x : Int) (i j k : Nat) : Int := bits .xor .u64 (bits .xor .u64 (rot64 x (64 - i)) (rot64 x (64 - j))) (x / 2 ^ k)
set_option maxHeartbeats 1000000 in
theorem turns64_any {w : World} (x : Int) (hx : 0 ≤ x ∧ x < 18446744073709551616) (i j k : Nat) (hi : 1 ≤ i ∧ i ≤ 63) (hj : 1 ≤ j ∧ j ≤ 63) (hk : 1 ≤ k ∧ k ≤ 63) :
    Calls Tryd.prog 56 #[.int .u64 x, .int .i64 i, .int .i64 j, .int .i64 k] w fun e w' => e = .returned (.int .u64 (trn64 x i j k)) ∧ w = w' := by
  have r1 := RotateLeft64_any (w := w) x (-(i : Int)) hx (64 - i) (neg_and64 i hi.1 hi.2) (by omega)
  have r2 := RotateLeft64_any (w := w) x (-(j : Int)) hx (64 - j) (neg_and64 j hj.1 hj.2) (by omega)
  have r3 := RotateLeft64_any (w := w) x (-(k : Int)) hx (64 - k) (neg_and64 k hk.1 hk.2) (by omega)
  obtain ⟨a, ha⟩ : ∃ a, rot64 x (64 - i) = a := ⟨_, rfl⟩
  obtain ⟨b, hb⟩ : ∃ b, rot64 x (64 - j) = b := ⟨_, rfl⟩
  obtain ⟨c, hc⟩ : ∃ c, rot64 x (64 - k) = c := ⟨_, rfl⟩
  have HT : Hid (trn64 x i j k = bits .xor .u64 (bits .xor .u64 a b) c) := by unfold trn64; rw [ha, hb, hc]; rfl
  rw [ha] at r1; rw [hb] at r2; rw [hc] at r3
  clear ha hb hc hx
  go_enter Tryd.func56, Tryd.ntmps56
  go_wp2_with (first
    | (go_at_call 60; replace g1 := g1; replace g2 := g2; refine r3.mono ?_; rintro e w' ⟨rfl, rfl⟩)
    | (go_at_call 60; replace g1 := g1; refine r2.mono ?_; rintro e w' ⟨rfl, rfl⟩; have g2 := trivial)
    | (go_at_call 60; refine r1.mono ?_; rintro e w' ⟨rfl, rfl⟩; have g1 := trivial))
  go_ret
  exact ⟨by rw [HT.out]; rfl, rfl⟩
def sh64 (k : Int) : Nat := (bits .and .u64 (IntKind.u64.wrap k) 63).toNat
theorem sh64_neg (i : Nat) (h : 1 ≤ i) (h' : i ≤ 63) : sh64 (-(i : Int)) = 64 - i := by unfold sh64; rw [neg_and64 i h h']; exact Int.toNat_natCast _
theorem and63 (z : Int) (h0 : 0 ≤ z) (h1 : z < 18446744073709551616) : bits .and .u64 z 63 = z % 64 := by go_bits2
theorem rot64_any {w : World} (x k : Int) (hx : 0 ≤ x ∧ x < 18446744073709551616) :
    Calls Tryd.prog 60 #[.int .u64 x, .int .i64 k] w fun e w' => e = .returned (.int .u64 (rot64 x (sh64 k))) ∧ w' = w := by
  have h := and63 (IntKind.u64.wrap k) (by rw [IntKind.wrap_u64]; omega) (by rw [IntKind.wrap_u64]; omega)
  refine (RotateLeft64_any x k hx (sh64 k) (by unfold sh64; rw [h]; omega) (by unfold sh64; rw [h]; omega)).mono fun _ _ h => ⟨h.1, h.2.symm⟩
set_option maxHeartbeats 1000000 in
theorem moved64_any {w : World} (x : Int) (hx : 0 ≤ x ∧ x < 18446744073709551616) (i j k : Nat) (hi : 1 ≤ i ∧ i ≤ 63) (hj : 1 ≤ j ∧ j ≤ 63) (hk : k ≤ 63) :
    Calls Tryd.prog 59 #[.int .u64 x, .int .i64 i, .int .i64 j, .int .i64 k] w fun e w' => e = .returned (.int .u64 (mvd64 x i j k)) ∧ ∃ q, w' = w.drewN q := by
  have HX : Hid (0 ≤ x ∧ x < 18446744073709551616) := hx
  have HT : Hid (mvd64 x i j k = bits .xor .u64 (bits .xor .u64 (rot64 x (sh64 (-(i : Int)))) (rot64 x (sh64 (-(j : Int))))) (x / 2 ^ k)) := by
    unfold mvd64; rw [sh64_neg i hi.1 hi.2, sh64_neg j hj.1 hj.2]; rfl
  have hk0 : (0 : Int) ≤ (k : Int) := by omega
  clear hx
  go_enter Tryd.func59, Tryd.ntmps59
  go_upto_region 1 with (fail)
  go_quiet ((go_at_call 60; exact Calls.quiet_of_same (rot64_any _ _ HX.out)))
  go_wp2
  go_ret
  exact ⟨by rw [HT.out]; rfl, _, rfl⟩
end Go.Proofs.YtgipmjpkaemdkaaDoor
