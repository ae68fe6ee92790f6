/-
  NatMuls: whatever the two lists, the law answers true, and writes nothing that was there.
-/
import Derived.Test.YthkheocggcmooaaV
import Derived.Test.YthkheocggcmooaaW30
import Derived.Test.YthkheocggcmooaaW37
namespace Go.Proofs.Ythkheocggcmooaa
open Go.RowKit

theorem mulS_len (X Y : List Int) : (mulS X Y).1.length ≤ 512 := by
  unfold mulS fit
  split
  · simp
  · split
    · simp
    · simp; omega

set_option maxHeartbeats 4000000 in
theorem muls_any (X Y : List Int) (a0 a1 : Option Addr) (c0 c1 : Nat) (w : World) (hX : Sl .u32 w (.slice a0 X.length c0) X) (hY : Sl .u32 w (.slice a1 Y.length c1) Y) (uX : U32s X) (uY : U32s Y) (sX : X.length * 4 ≤ 140737488351232) (sY : Y.length * 4 ≤ 140737488351232) :
    Calls Try.prog 4 #[.slice a0 X.length c0, .slice a1 Y.length c1] w fun e w' => e = .returned (.bool true) ∧ Below w.heap.size w w' := by
  have hBt : Below w.heap.size w w := Below.refl _ _
  obtain ⟨S, hS⟩ : ∃ S, mulS X Y = S := ⟨_, rfl⟩
  have lS := mulS_len X Y
  rw [hS] at lS
  have HS : Hid (mulS X Y = S) := hS
  clear hS
  obtain ⟨L, k⟩ := S
  simp only at lS
  go_enter Try.func4, Try.ntmps4
  go_wp2_with (first
    | (go_at_call 23; refine (live_any _).mono ?_; rintro e w' ⟨rfl, hB⟩; replace hBt := grow0 hBt hB)
    | (go_at_call 22; replace hdone := hdone; refine (Kept_any _ _ Y hd hY (by omega)).mono ?_; rintro e w' ⟨rfl, hB⟩; replace hBt := grow0 hBt hB)
    | (go_at_call 22; refine (Kept_any _ _ X hc hX (by omega)).mono ?_; rintro e w' ⟨rfl, hB⟩; replace hd := hd.below hB; replace hY := below_sl hB hY; replace hBt := grow0 hBt hB; have hdone := trivial)
    | (go_at_call 15; refine (num_any _ _).mono ?_; rintro e w' ⟨rfl, rfl⟩)
    | (go_at_call 14; refine (Same_any _ _ L hp hq (by omega)).mono ?_; rintro e w' ⟨rfl, hB⟩; replace hc := hc.below hB; replace hd := hd.below hB; replace hX := below_sl hB hX; replace hY := below_sl hB hY; replace hBt := grow0 hBt hB)
    | (go_at_call 25; refine (RMul_any X Y _ _ _ hX hY uX uY).mono ?_; rintro e w' ⟨⟨q, rfl, hq⟩, hB⟩; rw [HS.out] at hq ⊢; replace hp := below_sl hB hp; replace hc := hc.below hB; replace hd := hd.below hB; replace hX := below_sl hB hX; replace hY := below_sl hB hY; replace hBt := grow0 hBt hB)
    | (go_at_call 24; refine (Mul_any X Y _ _ _ hc.sl hd.sl uX uY).mono ?_; rintro e w' ⟨⟨p, rfl, hOp⟩, hB⟩; rw [HS.out] at hOp ⊢; have hp := hOp.sl; replace hc := hc.below hB; replace hd := hd.below hB; replace hX := below_sl hB hX; replace hY := below_sl hB hY; replace hBt := grow0 hBt hB)
    | (go_at_call 9; replace hc := hc; refine (Lent_any Y _ _ hY sY).mono ?_; rintro e w' ⟨d, rfl, hd, hB⟩; replace hc := hc.below hB; replace hX := below_sl hB hX; replace hY := below_sl hB hY; replace hBt := grow0 hBt hB)
    | (go_at_call 9; refine (Lent_any X _ _ hX sX).mono ?_; rintro e w' ⟨c, rfl, hc, hB⟩; replace hX := below_sl hB hX; replace hY := below_sl hB hY; replace hBt := grow0 hBt hB))
  go_ret
  exact ⟨rfl, hBt⟩
end Go.Proofs.Ythkheocggcmooaa
