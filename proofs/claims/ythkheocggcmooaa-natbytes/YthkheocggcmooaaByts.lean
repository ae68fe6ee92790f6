/-
  NatBytes: whatever the bytes, the list and the numbers, the law answers true, and writes nothing that was there.
-/
import Derived.Test.YthkheocggcmooaaV
import Derived.Test.YthkheocggcmooaaW43
import Derived.Test.YthkheocggcmooaaW44
import Derived.Test.YthkheocggcmooaaW45
namespace Go.Proofs.Ythkheocggcmooaa
open Go.RowKit

theorem pow256_mono {i j : Nat} (h : i ≤ j) : (256 : Int) ^ i ≤ 256 ^ j := by
  induction j with
  | zero => have : i = 0 := by omega
            subst this; exact Int.le_refl _
  | succ j ih =>
    by_cases hj : i = j + 1
    · subst hj; exact Int.le_refl _
    · have h1 := ih (by omega); have h2 : (0 : Int) < 256 ^ j := Int.pow_pos (by decide)
      rw [Int.pow_succ]; omega
theorem fromS_len {bs : List Int} (ub : U8s bs) : (fromS bs).1.length ≤ 512 := by
  unfold fromS
  split
  · simp
  · rename_i h
    have h1 := bv_bound ub.rev
    have h2 : (256 : Int) ^ bs.reverse.length ≤ 256 ^ 2048 := by
      rw [List.length_reverse]; exact pow256_mono (by omega)
    have h3 : (256 : Int) ^ 2048 = 4294967296 ^ 512 := by rw [show (2048 : Nat) = 4 * 512 from rfl, Int.pow_mul]; rfl
    exact lim_fits h1.1 (by omega)
theorem bytS_len (X : List Int) (n : Int) : (bytS X n).1.length ≤ 2048 := by
  unfold bytS
  split
  · simp
  · split
    · simp
    · rename_i h
      split
      · simp
      · simp only [beb_len]; omega

set_option maxHeartbeats 4000000 in
theorem bytes_any (bs X : List Int) (n sm : Int) (a0 a1 : Option Addr) (c0 c1 : Nat) (w : World) (hb : Sl .u8 w (.slice a0 bs.length c0) bs) (hX : Sl .u32 w (.slice a1 X.length c1) X) (ub : U8s bs) (uX : U32s X) (hn0 : -9223372036854775808 ≤ n) (hn1 : n ≤ 9223372036854775807) (hs0 : 0 ≤ sm) (hs1 : sm < 18446744073709551616) (sb : bs.length * 1 ≤ 140737488351232) (sX : X.length * 4 ≤ 140737488351232) :
    Calls Try.prog 8 #[.slice a0 bs.length c0, .slice a1 X.length c1, .int .i64 n, .int .u64 sm] w fun e w' => e = .returned (.bool true) ∧ Below w.heap.size w w' := by
  have hBt : Below w.heap.size w w := Below.refl _ _
  obtain ⟨S1, hS1⟩ : ∃ S, fromS bs = S := ⟨_, rfl⟩
  have lS1 := fromS_len ub
  rw [hS1] at lS1
  have HS1 : Hid (fromS bs = S1) := hS1
  obtain ⟨S2, hS2⟩ : ∃ S, bytS X n = S := ⟨_, rfl⟩
  have lS2 := bytS_len X n
  rw [hS2] at lS2
  have HS2 : Hid (bytS X n = S2) := hS2
  clear hS1 hS2
  obtain ⟨L, k⟩ := S1
  obtain ⟨L2, k2⟩ := S2
  simp only at lS1 lS2
  have lsm : (lim sm.toNat).length ≤ 2 := lim_fits hs0 (by omega)
  go_enter Try.func8, Try.ntmps8
  go_wp2_with (first
    | (go_at_call 23; refine (live_any _).mono ?_; rintro e w' ⟨rfl, hB⟩; replace hBt := grow0 hBt hB)
    | (go_at_call 22; refine (Kept_any _ _ X hd hX (by omega)).mono ?_; rintro e w' ⟨rfl, hB⟩; replace hBt := grow0 hBt hB)
    | (go_at_call 41; refine (Kept8_any _ _ bs hc hb (by omega)).mono ?_; rintro e w' ⟨rfl, hB⟩; replace hd := hd.below hB; replace hX := below_sl hB hX; replace hBt := grow0 hBt hB)
    | (go_at_call 14; replace hsame := hsame; refine (Same_any _ _ (lim sm.toNat) hm1 hm2 (by omega)).mono ?_; rintro e w' ⟨rfl, hB⟩; replace hc := hc.below hB; replace hd := hd.below hB; replace hb := below_sl hB hb; replace hX := below_sl hB hX; replace hBt := grow0 hBt hB)
    | (go_at_call 40; refine (RSmall_any sm hs0 hs1 _).mono ?_; rintro e w' ⟨m2, rfl, hm2, hB⟩; replace hm1 := below_sl hB hm1; replace hc := hc.below hB; replace hd := hd.below hB; replace hb := below_sl hB hb; replace hX := below_sl hB hX; replace hBt := grow0 hBt hB)
    | (go_at_call 39; refine (Small_any sm hs0 hs1 _).mono ?_; rintro e w' ⟨m1, rfl, hOm1, hB⟩; have hm1 := hOm1.sl; replace hc := hc.below hB; replace hd := hd.below hB; replace hb := below_sl hB hb; replace hX := below_sl hB hX; replace hBt := grow0 hBt hB)
    | (go_at_call 38; refine (SameBytes_any _ _ L2 hs ht (by omega)).mono ?_; rintro e w' ⟨rfl, hB⟩; replace hc := hc.below hB; replace hd := hd.below hB; replace hb := below_sl hB hb; replace hX := below_sl hB hX; replace hBt := grow0 hBt hB)
    | (go_at_call 15; refine (num_any _ _).mono ?_; rintro e w' ⟨rfl, rfl⟩)
    | (go_at_call 14; refine (Same_any _ _ L hx hy (by omega)).mono ?_; rintro e w' ⟨rfl, hB⟩; have hsame := trivial; replace hs := below_sl hB hs; replace ht := below_sl hB ht; replace hc := hc.below hB; replace hd := hd.below hB; replace hb := below_sl hB hb; replace hX := below_sl hB hX; replace hBt := grow0 hBt hB)
    | (go_at_call 37; refine (RBytes_any X n _ _ hX uX hn0 hn1).mono ?_; rintro e w' ⟨⟨t, rfl, ht⟩, hB⟩; rw [HS2.out] at ht ⊢; replace hx := below_sl hB hx; replace hy := below_sl hB hy; replace hs := below_sl hB hs; replace hc := hc.below hB; replace hd := hd.below hB; replace hb := below_sl hB hb; replace hX := below_sl hB hX; replace hBt := grow0 hBt hB)
    | (go_at_call 36; refine (Bytes_any X n _ _ hd.sl uX hn0 hn1).mono ?_; rintro e w' ⟨⟨s, rfl, hOs, _⟩, hB⟩; rw [HS2.out] at hOs ⊢; have hs := hOs.sl; replace hx := below_sl hB hx; replace hy := below_sl hB hy; replace hc := hc.below hB; replace hd := hd.below hB; replace hb := below_sl hB hb; replace hX := below_sl hB hX; replace hBt := grow0 hBt hB)
    | (go_at_call 35; refine (RFromBytes_any bs _ _ hb ub).mono ?_; rintro e w' ⟨⟨y, rfl, hy⟩, hB⟩; rw [HS1.out] at hy ⊢; replace hx := below_sl hB hx; replace hc := hc.below hB; replace hd := hd.below hB; replace hb := below_sl hB hb; replace hX := below_sl hB hX; replace hBt := grow0 hBt hB)
    | (go_at_call 34; refine (FromBytes_any bs _ _ hc.sl ub).mono ?_; rintro e w' ⟨⟨x, rfl, hOx⟩, hB⟩; rw [HS1.out] at hOx ⊢; have hx := hOx.sl; replace hc := hc.below hB; replace hd := hd.below hB; replace hb := below_sl hB hb; replace hX := below_sl hB hX; replace hBt := grow0 hBt hB)
    | (go_at_call 9; refine (Lent_any X _ _ hX sX).mono ?_; rintro e w' ⟨d, rfl, hd, hB⟩; replace hc := hc.below hB; replace hb := below_sl hB hb; replace hX := below_sl hB hX; replace hBt := grow0 hBt hB)
    | (go_at_call 33; refine (Lent8_any bs _ _ hb sb).mono ?_; rintro e w' ⟨c, rfl, hc, hB⟩; replace hb := below_sl hB hb; replace hX := below_sl hB hX; replace hBt := grow0 hBt hB))
  go_ret
  exact ⟨rfl, hBt⟩
end Go.Proofs.Ythkheocggcmooaa
