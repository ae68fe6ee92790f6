/-
  NatDivs: whatever the two lists, the law answers true, and writes nothing that was there.
-/
import Derived.Test.YthkheocggcmooaaV
import Derived.Test.YthkheocggcmooaaW30
import Derived.Test.YthkheocggcmooaaW40
namespace Go.Proofs.Ythkheocggcmooaa
open Go.RowKit

theorem divS_len (X Y : List Int) (uX : U32s X) (uY : U32s Y) : (divS X Y).1.length ≤ 512 ∧ (divS X Y).2.1.length ≤ 512 := by
  unfold divS
  have nX := val_nonneg uX; have nY := val_nonneg uY
  split
  · simp
  · rename_i hl
    split
    · simp
    · rename_i h0
      have bX := val_lt uX; have bY := val_lt uY
      have pX := pow_mono (show X.length ≤ 512 by omega); have pY := pow_mono (show Y.length ≤ 512 by omega)
      refine ⟨lim_fits (Int.ediv_nonneg nX nY) ?_, lim_fits (Int.emod_nonneg _ h0) ?_⟩
      · have := Int.ediv_le_self (val Y) nX; omega
      · have := Int.emod_lt_of_pos (val X) (show 0 < val Y by omega); omega

set_option maxHeartbeats 4000000 in
theorem divs_any (X Y : List Int) (a0 a1 : Option Addr) (c0 c1 : Nat) (w : World) (hX : Sl .u32 w (.slice a0 X.length c0) X) (hY : Sl .u32 w (.slice a1 Y.length c1) Y) (uX : U32s X) (uY : U32s Y) (sX : X.length * 4 ≤ 140737488351232) (sY : Y.length * 4 ≤ 140737488351232) :
    Calls Try.prog 5 #[.slice a0 X.length c0, .slice a1 Y.length c1] w fun e w' => e = .returned (.bool true) ∧ Below w.heap.size w w' := by
  have hBt : Below w.heap.size w w := Below.refl _ _
  obtain ⟨S, hS⟩ : ∃ S, divS X Y = S := ⟨_, rfl⟩
  have lS := divS_len X Y uX uY
  rw [hS] at lS
  have HS : Hid (divS X Y = S) := hS
  clear hS
  obtain ⟨L, L2, k⟩ := S
  simp only at lS
  obtain ⟨lS, lS2⟩ := lS
  go_enter Try.func5, Try.ntmps5
  go_wp2_with (first
    | (go_at_call 23; refine (live_any _).mono ?_; rintro e w' ⟨rfl, hB⟩; replace hBt := grow0 hBt hB)
    | (go_at_call 22; replace hdone := hdone; refine (Kept_any _ _ Y hd hY (by omega)).mono ?_; rintro e w' ⟨rfl, hB⟩; replace hBt := grow0 hBt hB)
    | (go_at_call 22; refine (Kept_any _ _ X hc hX (by omega)).mono ?_; rintro e w' ⟨rfl, hB⟩; replace hd := hd.below hB; replace hY := below_sl hB hY; replace hBt := grow0 hBt hB; have hdone := trivial)
    | (go_at_call 15; refine (num_any _ _).mono ?_; rintro e w' ⟨rfl, rfl⟩)
    | (go_at_call 14; replace hsame := hsame; refine (Same_any _ _ L2 hr hy (by omega)).mono ?_; rintro e w' ⟨rfl, hB⟩; replace hc := hc.below hB; replace hd := hd.below hB; replace hX := below_sl hB hX; replace hY := below_sl hB hY; replace hBt := grow0 hBt hB)
    | (go_at_call 14; refine (Same_any _ _ L hq hx (by omega)).mono ?_; rintro e w' ⟨rfl, hB⟩; have hsame := trivial; replace hr := below_sl hB hr; replace hy := below_sl hB hy; replace hc := hc.below hB; replace hd := hd.below hB; replace hX := below_sl hB hX; replace hY := below_sl hB hY; replace hBt := grow0 hBt hB)
    | (go_at_call 27; refine (RDivMod_any X Y _ _ _ hX hY uX uY).mono ?_; rintro e w' ⟨⟨x, y, rfl, hx, hy⟩, hB⟩; rw [HS.out] at hx hy ⊢; replace hq := below_sl hB hq; replace hr := below_sl hB hr; replace hc := hc.below hB; replace hd := hd.below hB; replace hX := below_sl hB hX; replace hY := below_sl hB hY; replace hBt := grow0 hBt hB)
    | (go_at_call 26; refine (DivMod_any X Y _ _ _ hc.sl hd.sl uX uY (.inr long_ok)).mono ?_; rintro e w' ⟨⟨q, r, rfl, hOq, hOr⟩, hB⟩; rw [HS.out] at hOq hOr ⊢; have hq := hOq.sl; have hr := hOr.sl; replace hc := hc.below hB; replace hd := hd.below hB; replace hX := below_sl hB hX; replace hY := below_sl hB hY; replace hBt := grow0 hBt hB)
    | (go_at_call 9; replace hc := hc; refine (Lent_any Y _ _ hY sY).mono ?_; rintro e w' ⟨d, rfl, hd, hB⟩; replace hc := hc.below hB; replace hX := below_sl hB hX; replace hY := below_sl hB hY; replace hBt := grow0 hBt hB)
    | (go_at_call 9; refine (Lent_any X _ _ hX sX).mono ?_; rintro e w' ⟨c, rfl, hc, hB⟩; replace hX := below_sl hB hX; replace hY := below_sl hB hY; replace hBt := grow0 hBt hB))
  go_ret
  exact ⟨rfl, hBt⟩
end Go.Proofs.Ythkheocggcmooaa
