/-
  The walks of Len32, Bits.
-/
import Derived.Test.YthkheocggcmooaaW8
import Derived.Laws.MathBits
namespace Go.Proofs.Ythkheocggcmooaa
open Go.RowKit

theorem w64 (z : Int) (h0 : 0 ≤ z) (h1 : z < 9223372036854775808) : wrap64 z = z := by unfold wrap64; omega

set_option maxRecDepth 1000000 in
set_option maxHeartbeats 2000000 in
theorem Len32_any (x : Int) (hx : U32 x) (w : World) :
    Calls Try.prog 53 #[.int .u32 x] w fun e w' => e = .returned (.int .i64 (bitLen x.toNat)) ∧ w' = w := by
  obtain ⟨h0, h1⟩ := hx
  by_cases g1 : 65536 ≤ x
  · have s1 := bitLen_shift x.toNat 16 (by omega)
    by_cases g2 : 256 ≤ x / 65536
    · have s2 := bitLen_shift (x.toNat / 2 ^ 16) 8 (by omega)
      have e1 : x.toNat / 2 ^ 16 / 2 ^ 8 = (x / 65536 / 256).toNat := by omega
      rw [e1] at s2
      have HS : Hid (bitLen x.toNat = 16 + (8 + bitLen (x / 65536 / 256).toNat)) := by rw [s1, s2]; rfl
      have g3 : x / 65536 / 256 < 256 := by omega
      have g4 : 0 ≤ x / 65536 / 256 := by omega
      have l8 := bitLen_le8 (x / 65536 / 256).toNat (by omega)
      clear s1 s2 e1
      go_enter Try.func53, Try.ntmps53
      go_wp2
      go_ret
      refine ⟨ret_int ?_, rfl⟩
      rw [HS.out, len8tab_get, w64 (bitLen _) (by omega) (by omega), w64 _ (by omega) (by omega)]; omega
    · have e1 : x.toNat / 2 ^ 16 = (x / 65536).toNat := by omega
      rw [e1] at s1
      have HS : Hid (bitLen x.toNat = 16 + bitLen (x / 65536).toNat) := s1
      have g3 : x / 65536 < 256 := by omega
      have g4 : 0 ≤ x / 65536 := by omega
      have l8 := bitLen_le8 (x / 65536).toNat (by omega)
      clear s1 e1
      go_enter Try.func53, Try.ntmps53
      go_wp2
      go_ret
      refine ⟨ret_int ?_, rfl⟩
      rw [HS.out, len8tab_get, w64 (bitLen _) (by omega) (by omega), w64 _ (by omega) (by omega)]; omega
  · by_cases g2 : 256 ≤ x
    · have s1 := bitLen_shift x.toNat 8 (by omega)
      have e1 : x.toNat / 2 ^ 8 = (x / 256).toNat := by omega
      rw [e1] at s1
      have HS : Hid (bitLen x.toNat = 8 + bitLen (x / 256).toNat) := s1
      have g3 : x / 256 < 256 := by omega
      have g4 : 0 ≤ x / 256 := by omega
      have l8 := bitLen_le8 (x / 256).toNat (by omega)
      clear s1 e1
      go_enter Try.func53, Try.ntmps53
      go_wp2
      go_ret
      refine ⟨ret_int ?_, rfl⟩
      rw [HS.out, len8tab_get, w64 (bitLen _) (by omega) (by omega), w64 _ (by omega) (by omega)]; omega
    · have g3 : x < 256 := by omega
      have l8 := bitLen_le8 x.toNat (by omega)
      go_enter Try.func53, Try.ntmps53
      go_wp2
      go_ret
      refine ⟨ret_int ?_, rfl⟩
      rw [len8tab_get, w64 (bitLen _) (by omega) (by omega), w64 (bitLen _) (by omega) (by omega)]

theorem pow32 (m : Nat) : (4294967296 : Int) ^ m = ((2 ^ (32 * m) : Nat) : Int) := by
  rw [Nat.pow_mul]; simp
theorem top_div {xs : List Int} {m : Nat} (hu : U32s xs) (h : sig xs = m + 1) : (val xs).toNat / 2 ^ (32 * m) = (xs.getD m 0).toNat ∧ (xs.getD m 0).toNat ≠ 0 := by
  have hl := sig_le xs
  have e := val_take_sig xs
  rw [h, val_take_succ _ _ (by omega)] at e
  have h1 := val_nonneg (hu.take m); have h2 := val_lt (hu.take m)
  rw [List.length_take, Nat.min_eq_left (by omega)] at h2
  have h3 := hu.at m
  have h4 := sig_pos hu (by omega : 0 < sig xs)
  rw [h, Nat.add_sub_cancel] at h4
  obtain ⟨t, ht⟩ := Int.eq_ofNat_of_zero_le h1
  obtain ⟨y, hy⟩ := Int.eq_ofNat_of_zero_le h3.1
  rw [hy] at h4 ⊢
  refine ⟨?_, by omega⟩
  rw [ht, hy, pow32] at e
  rw [ht, pow32] at h2
  have e2 : (val xs).toNat = t + 2 ^ (32 * m) * y := by rw [← e]; exact Int.toNat_natCast (t + 2 ^ (32 * m) * y)
  have h5 : t < 2 ^ (32 * m) := by exact_mod_cast h2
  rw [e2, Nat.add_mul_div_left _ _ (by omega), Nat.div_eq_of_lt h5]; simp

set_option maxHeartbeats 1000000 in
theorem Bits_any (xs : List Int) (v : Value) (w : World) (hx : Sl .u32 w v xs) (ux : U32s xs) (lx : xs.length ≤ 36028797018963968) :
    Calls Try.prog 18 #[v] w fun e w' => e = .returned (.int .i64 (bitLen (val xs).toNat)) ∧ Below w.heap.size w w' := by
  obtain ⟨a1, c1, rfl, hc1, h1⟩ := id hx
  have hl := sig_le xs
  by_cases h0 : sig xs = 0
  · have hlen : Len w (.slice a1 xs.length c1) 0 := ⟨xs, hx, by omega, h0⟩
    have HB : Hid (bitLen (val xs).toNat = 0) := by rw [val_of_sig0 h0]; rfl
    clear h0
    go_enter Try.func18, Try.ntmps18
    go_wp2_with (go_at_call 52; refine (length_len _ _ hlen).mono ?_; rintro e w' ⟨rfl, rfl⟩)
    go_ret
    exact ⟨ret_int (by rw [HB.out]; rfl), Below.refl _ _⟩
  · obtain ⟨m, hm⟩ : ∃ m, sig xs = m + 1 := ⟨sig xs - 1, by omega⟩
    have hlen : Len w (.slice a1 xs.length c1) (m + 1) := ⟨xs, hx, by omega, hm⟩
    obtain ⟨ht, ht0⟩ := top_div ux hm
    obtain ⟨y, hy⟩ : ∃ y, xs.getD m 0 = y := ⟨_, rfl⟩
    have uy : U32 y := hy ▸ ux.at m
    rw [hy] at ht ht0
    have hs := bitLen_shift (val xs).toNat (32 * m) (by rw [ht]; exact ht0)
    rw [ht] at hs
    have HB : Hid (bitLen (val xs).toNat = 32 * m + bitLen y.toNat) := hs
    rcases h1 with rfl | ⟨b, o, rfl, hb, hr⟩
    · simp at hl; omega
    have hcy : w.cell? ⟨b, o + m, none⟩ = some (.int .u32 y) := by rw [← hy]; exact hr m (by omega)
    have hb32 : bitLen y.toNat ≤ 32 := by
      have := bitLen_spec y.toNat
      apply Classical.byContradiction; intro hc
      have h2 := this.2 (by omega)
      have h3 : 2 ^ 32 ≤ 2 ^ (bitLen y.toNat - 1) := Nat.pow_le_pow_right (by decide) (by omega)
      obtain ⟨u1, u2⟩ := uy
      omega
    obtain ⟨bl, hbl⟩ : ∃ bl, bitLen y.toNat = bl := ⟨_, rfl⟩
    have hcall := Len32_any y uy w
    rw [hbl] at hb32 hcall
    have HB2 : Hid (bitLen (val xs).toNat = 32 * m + bl) := by rw [← hbl]; exact HB.out
    have hmx : m < xs.length := by omega
    clear hs ht ht0 hr h0 hm hy hx hl HB hbl
    go_enter Try.func18, Try.ntmps18
    go_wp2_with (first
      | (go_at_call 52; refine (length_len _ _ hlen).mono ?_; rintro e w' ⟨rfl, rfl⟩)
      | (go_at_call 53; refine hcall.mono ?_; rintro e w' ⟨rfl, rfl⟩))
    go_ret
    exact ⟨ret_int (by rw [HB2.out]; simp), Below.refl _ _⟩
end Go.Proofs.Ythkheocggcmooaa
