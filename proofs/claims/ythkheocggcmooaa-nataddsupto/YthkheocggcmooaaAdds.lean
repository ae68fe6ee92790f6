/-
  NatAdds: whatever the two lists of at most 1048576 limbs, the law answers true, and writes nothing that was there.
-/
import Derived.Test.YthkheocggcmooaaV
import Derived.Test.YthkheocggcmooaaW30
import Derived.Test.YthkheocggcmooaaW42
namespace Go.Proofs.Ythkheocggcmooaa
open Go.RowKit

theorem addS_len (X Y : List Int) : (addS X Y).1.length ≤ 512 := by
  unfold addS fit
  split
  · simp
  · split
    · simp
    · simp; omega
theorem subS_len {X Y : List Int} (uX : U32s X) (uY : U32s Y) : (subS X Y).1.length ≤ 512 := by
  unfold subS
  split
  · simp
  · rename_i h
    split
    · simp
    · rename_i h2
      have bX := val_lt uX; have nY := val_nonneg uY
      have pX := pow_mono (show X.length ≤ 512 by omega)
      exact lim_fits (by omega) (by omega)

set_option maxHeartbeats 4000000 in
theorem adds_any (X Y : List Int) (a0 a1 : Option Addr) (c0 c1 : Nat) (w : World) (hX : Sl .u32 w (.slice a0 X.length c0) X) (hY : Sl .u32 w (.slice a1 Y.length c1) Y) (uX : U32s X) (uY : U32s Y) (sX : X.length ≤ 1048576) (sY : Y.length ≤ 1048576) :
    Calls Try.prog 3 #[.slice a0 X.length c0, .slice a1 Y.length c1] w fun e w' => e = .returned (.bool true) ∧ Below w.heap.size w w' := by
  have hBt : Below w.heap.size w w := Below.refl _ _
  obtain ⟨S1, hS1⟩ : ∃ S, addS X Y = S := ⟨_, rfl⟩
  have lS1 := addS_len X Y
  rw [hS1] at lS1
  have HS1 : Hid (addS X Y = S1) := hS1
  obtain ⟨S2, hS2⟩ : ∃ S, subS X Y = S := ⟨_, rfl⟩
  have lS2 := subS_len uX uY
  rw [hS2] at lS2
  have HS2 : Hid (subS X Y = S2) := hS2
  obtain ⟨L, k⟩ := S1
  obtain ⟨L2, k2⟩ := S2
  simp only at lS1 lS2
  obtain ⟨N, hN⟩ : ∃ N, val X = N := ⟨_, rfl⟩
  have HN : Hid (val X = N) := hN
  obtain ⟨bl, hbl⟩ : ∃ bl : Int, (bitLen N.toNat : Int) = bl := ⟨_, rfl⟩
  have HBL : Hid ((bitLen N.toNat : Int) = bl) := hbl
  obtain ⟨cc, hcc⟩ : ∃ cc, cmpI (val X) (val Y) = cc := ⟨_, rfl⟩
  have HC : Hid (cmpI (val X) (val Y) = cc) := hcc
  have lN : (lim N.toNat).length ≤ X.length := lim_fits (hN ▸ val_nonneg uX) (by rw [← hN]; exact val_lt uX)
  clear hS1 hS2 hN hbl hcc
  go_enter Try.func3, Try.ntmps3
  go_wp2_with (first
    | (go_at_call 23; refine (live_any _).mono ?_; rintro e w' ⟨rfl, hB⟩; replace hBt := grow0 hBt hB)
    | (go_at_call 22; replace hdone := hdone; refine (Kept_any _ _ Y hd hY (by omega)).mono ?_; rintro e w' ⟨rfl, hB⟩; replace hBt := grow0 hBt hB)
    | (go_at_call 22; refine (Kept_any _ _ X hc hX (by omega)).mono ?_; rintro e w' ⟨rfl, hB⟩; have hdone := trivial; replace hc := hc.below hB; replace hd := hd.below hB; replace hX := below_sl hB hX; replace hY := below_sl hB hY; replace hBt := grow0 hBt hB)
    | (go_at_call 21; refine (RCmp_any _ _ X Y hX hY uX uY (by omega) (by omega) cc HC.out).mono ?_; rintro e w' ⟨rfl, hB⟩; replace hc := hc.below hB; replace hd := hd.below hB; replace hX := below_sl hB hX; replace hY := below_sl hB hY; replace hBt := grow0 hBt hB)
    | (go_at_call 20; refine (CmpV _ _ X Y hc.sl hd.sl uX uY (by omega) (by omega) cc HC.out).mono ?_; rintro e w' ⟨rfl, hB⟩; replace hc := hc.below hB; replace hd := hd.below hB; replace hX := below_sl hB hX; replace hY := below_sl hB hY; replace hBt := grow0 hBt hB)
    | (go_at_call 19; refine (RBits_any _ X hX uX (by omega) N HN.out).mono ?_; rintro e w' ⟨rfl, hB⟩; rw [HBL.out]; replace hc := hc.below hB; replace hd := hd.below hB; replace hX := below_sl hB hX; replace hY := below_sl hB hY; replace hBt := grow0 hBt hB)
    | (go_at_call 18; refine (Bits_any X _ _ hc.sl uX (by omega)).mono ?_; rintro e w' ⟨rfl, hB⟩; rw [HN.out, HBL.out]; replace hc := hc.below hB; replace hd := hd.below hB; replace hX := below_sl hB hX; replace hY := below_sl hB hY; replace hBt := grow0 hBt hB)
    | (go_at_call 14; replace hs1 := hs1; replace hs2 := hs2; refine (Same_any _ _ (lim N.toNat) hm1 hm2 (by omega)).mono ?_; rintro e w' ⟨rfl, hB⟩; replace hc := hc.below hB; replace hd := hd.below hB; replace hX := below_sl hB hX; replace hY := below_sl hB hY; replace hBt := grow0 hBt hB)
    | (go_at_call 17; refine (RTrim_any _ X hX uX (by omega) N HN.out).mono ?_; rintro e w' ⟨m2, rfl, hm2, hB⟩; replace hm1 := below_sl hB hm1; replace hc := hc.below hB; replace hd := hd.below hB; replace hX := below_sl hB hX; replace hY := below_sl hB hY; replace hBt := grow0 hBt hB)
    | (go_at_call 16; refine (TrimV _ X hc.sl uX (by omega) N HN.out).mono ?_; rintro e w' ⟨m1, rfl, hOm1, hB⟩; have hm1 := hOm1.sl; replace hc := hc.below hB; replace hd := hd.below hB; replace hX := below_sl hB hX; replace hY := below_sl hB hY; replace hBt := grow0 hBt hB)
    | (go_at_call 14; replace hs1 := hs1; refine (Same_any _ _ L2 hx hy (by omega)).mono ?_; rintro e w' ⟨rfl, hB⟩; have hs2 := trivial; replace hc := hc.below hB; replace hd := hd.below hB; replace hX := below_sl hB hX; replace hY := below_sl hB hY; replace hBt := grow0 hBt hB)
    | (go_at_call 14; refine (Same_any _ _ L hs ht (by omega)).mono ?_; rintro e w' ⟨rfl, hB⟩; have hs1 := trivial; replace hx := below_sl hB hx; replace hy := below_sl hB hy; replace hc := hc.below hB; replace hd := hd.below hB; replace hX := below_sl hB hX; replace hY := below_sl hB hY; replace hBt := grow0 hBt hB)
    | (go_at_call 15; refine (num_any _ _).mono ?_; rintro e w' ⟨rfl, rfl⟩)
    | (go_at_call 13; refine (RSub_any X Y _ _ _ hX hY uX uY).mono ?_; rintro e w' ⟨⟨y, rfl, hy⟩, hB⟩; rw [HS2.out] at hy ⊢; replace hx := below_sl hB hx; replace hs := below_sl hB hs; replace ht := below_sl hB ht; replace hc := hc.below hB; replace hd := hd.below hB; replace hX := below_sl hB hX; replace hY := below_sl hB hY; replace hBt := grow0 hBt hB)
    | (go_at_call 12; refine (Sub_any X Y _ _ _ hc.sl hd.sl uX uY).mono ?_; rintro e w' ⟨⟨x, rfl, hOx⟩, hB⟩; rw [HS2.out] at hOx ⊢; have hx := hOx.sl; replace hs := below_sl hB hs; replace ht := below_sl hB ht; replace hc := hc.below hB; replace hd := hd.below hB; replace hX := below_sl hB hX; replace hY := below_sl hB hY; replace hBt := grow0 hBt hB)
    | (go_at_call 11; refine (RAdd_any X Y _ _ _ hX hY uX uY).mono ?_; rintro e w' ⟨⟨t, rfl, ht⟩, hB⟩; rw [HS1.out] at ht ⊢; replace hs := below_sl hB hs; replace hc := hc.below hB; replace hd := hd.below hB; replace hX := below_sl hB hX; replace hY := below_sl hB hY; replace hBt := grow0 hBt hB)
    | (go_at_call 10; refine (Add_any X Y _ _ _ hc.sl hd.sl uX uY).mono ?_; rintro e w' ⟨⟨s, rfl, hOs⟩, hB⟩; rw [HS1.out] at hOs ⊢; have hs := hOs.sl; replace hc := hc.below hB; replace hd := hd.below hB; replace hX := below_sl hB hX; replace hY := below_sl hB hY; replace hBt := grow0 hBt hB)
    | (go_at_call 9; replace hc := hc; refine (Lent_any Y _ _ hY (by omega)).mono ?_; rintro e w' ⟨d, rfl, hd, hB⟩; replace hc := hc.below hB; replace hX := below_sl hB hX; replace hY := below_sl hB hY; replace hBt := grow0 hBt hB)
    | (go_at_call 9; refine (Lent_any X _ _ hX (by omega)).mono ?_; rintro e w' ⟨c, rfl, hc, hB⟩; replace hX := below_sl hB hX; replace hY := below_sl hB hY; replace hBt := grow0 hBt hB))
  go_ret
  exact ⟨rfl, hBt⟩
end Go.Proofs.Ythkheocggcmooaa
