/-
  NatPowers: whatever the three lists, the law answers true, and writes nothing that was there.
-/
import Derived.Test.YthkheocggcmooaaV
import Derived.Test.YthkheocggcmooaaW30
import Derived.Test.YthkheocggcmooaaW54
namespace Go.Proofs.Ythkheocggcmooaa
open Go.RowKit

def isDear (E Y : List Int) : Bool := decide (E.length ≤ 256) && decide (Y.length ≤ 256) && decide (40000 < E.length * Y.length * Y.length)
theorem dear_any {w : World} (v u : Value) (E Y : List Int) (hE : Sl .u32 w v E) (hY : Sl .u32 w u Y) (c : Bool) (hc : isDear E Y = c) :
    Calls Try.prog 28 #[v, u] w fun e w' => e = .returned (.bool c) ∧ w = w' := by
  obtain ⟨a, ca, hv, _⟩ := hE.len
  obtain ⟨b, cb, hu, _⟩ := hY.len
  subst hv; subst hu
  by_cases h1 : E.length ≤ 256
  · by_cases h2 : Y.length ≤ 256
    · obtain ⟨p, hp⟩ : ∃ p, E.length * Y.length = p := ⟨_, rfl⟩
      obtain ⟨r, hr⟩ : ∃ r, p * Y.length = r := ⟨_, rfl⟩
      have hp1 : p ≤ 256 * 256 := by rw [← hp]; exact Nat.mul_le_mul h1 h2
      have hr1 : r ≤ 256 * 256 * 256 := by rw [← hr]; exact Nat.mul_le_mul hp1 h2
      have hpi : (E.length : Int) * (Y.length : Int) = (p : Int) := by rw [← hp]; simp
      have hri : (p : Int) * (Y.length : Int) = (r : Int) := by rw [← hr]; simp
      have HT : Hid (c = decide ((40000 : Int) < (r : Int))) := by
        show c = decide ((40000 : Int) < (r : Int))
        rw [← hc]; unfold isDear; rw [hp, hr]
        by_cases h3 : 40000 < r
        · rw [decide_eq_true h1, decide_eq_true h2, decide_eq_true h3, decide_eq_true (by omega)]; rfl
        · rw [decide_eq_true h1, decide_eq_true h2, decide_eq_false h3, decide_eq_false (by omega)]; rfl
      clear hc hp hr
      go_enter Try.func28, Try.ntmps28
      go_wp2
      go_ret
      exact ⟨by rw [HT.out]; rfl, rfl⟩
    · have HT : Hid (c = false) := by show c = false; rw [← hc]; unfold isDear; simp [h2]
      clear hc
      go_enter Try.func28, Try.ntmps28
      go_wp2
      go_ret
      exact ⟨by rw [HT.out]; rfl, rfl⟩
  · have HT : Hid (c = false) := by show c = false; rw [← hc]; unfold isDear; simp [h1]
    clear hc
    go_enter Try.func28, Try.ntmps28
    go_wp2
    go_ret
    exact ⟨by rw [HT.out]; rfl, rfl⟩
theorem expS_len {X E Y : List Int} (uY : U32s Y) : (expS X E Y).1.length ≤ 512 := by
  unfold expS
  split
  · simp
  · rename_i h
    split
    · simp
    · rename_i h0
      have nY := val_nonneg uY; have bY := val_lt uY
      unfold expLong at h
      have pY := pow_mono (show Y.length ≤ 512 by omega)
      have h1 := Int.emod_lt_of_pos (val X ^ (val E).toNat) (show 0 < val Y by omega)
      exact lim_fits (Int.emod_nonneg _ h0) (by omega)

set_option maxHeartbeats 4000000 in
theorem powers_any (X E Y : List Int) (a0 a1 a2 : Option Addr) (c0 c1 c2 : Nat) (w : World) (hX : Sl .u32 w (.slice a0 X.length c0) X) (hE : Sl .u32 w (.slice a1 E.length c1) E) (hY : Sl .u32 w (.slice a2 Y.length c2) Y) (uX : U32s X) (uE : U32s E) (uY : U32s Y) (sX : X.length * 4 ≤ 140737488351232) (sE : E.length * 4 ≤ 140737488351232) (sY : Y.length * 4 ≤ 140737488351232) :
    Calls Try.prog 6 #[.slice a0 X.length c0, .slice a1 E.length c1, .slice a2 Y.length c2] w fun e w' => e = .returned (.bool true) ∧ Below w.heap.size w w' := by
  have hBt : Below w.heap.size w w := Below.refl _ _
  obtain ⟨dd, hdd⟩ : ∃ dd, isDear E Y = dd := ⟨_, rfl⟩
  cases dd with
  | true =>
    have hdr := hdd
    clear hdd
    go_enter Try.func6, Try.ntmps6
    go_wp2_with (first
      | (go_at_call 28; refine (dear_any _ _ E Y hE hY true hdr).mono ?_; rintro e w' ⟨rfl, rfl⟩)
      | (go_at_call 23; refine (live_any _).mono ?_; rintro e w' ⟨rfl, hB⟩; replace hBt := grow0 hBt hB))
    go_ret
    exact ⟨rfl, hBt⟩
  | false =>
    have hdr := hdd
    clear hdd
    obtain ⟨S, hS⟩ : ∃ S, expS X E Y = S := ⟨_, rfl⟩
    have lS := expS_len (X := X) (E := E) uY
    rw [hS] at lS
    have HS : Hid (expS X E Y = S) := hS
    clear hS
    obtain ⟨L, k⟩ := S
    simp only at lS
    go_enter Try.func6, Try.ntmps6
    go_wp2_with (first
      | (go_at_call 28; refine (dear_any _ _ E Y hE hY false hdr).mono ?_; rintro e w' ⟨rfl, rfl⟩)
      | (go_at_call 23; refine (live_any _).mono ?_; rintro e w' ⟨rfl, hB⟩; replace hBt := grow0 hBt hB)
      | (go_at_call 22; replace hk1 := hk1; replace hk2 := hk2; refine (Kept_any _ _ Y hn hY (by omega)).mono ?_; rintro e w' ⟨rfl, hB⟩; replace hBt := grow0 hBt hB)
      | (go_at_call 22; replace hk1 := hk1; refine (Kept_any _ _ E hd hE (by omega)).mono ?_; rintro e w' ⟨rfl, hB⟩; have hk2 := trivial; replace hc := hc.below hB; replace hd := hd.below hB; replace hn := hn.below hB; replace hX := below_sl hB hX; replace hE := below_sl hB hE; replace hY := below_sl hB hY; replace hBt := grow0 hBt hB)
      | (go_at_call 22; refine (Kept_any _ _ X hc hX (by omega)).mono ?_; rintro e w' ⟨rfl, hB⟩; have hk1 := trivial; replace hc := hc.below hB; replace hd := hd.below hB; replace hn := hn.below hB; replace hX := below_sl hB hX; replace hE := below_sl hB hE; replace hY := below_sl hB hY; replace hBt := grow0 hBt hB)
      | (go_at_call 15; refine (num_any _ _).mono ?_; rintro e w' ⟨rfl, rfl⟩)
      | (go_at_call 14; refine (Same_any _ _ L hx hy (by omega)).mono ?_; rintro e w' ⟨rfl, hB⟩; replace hc := hc.below hB; replace hd := hd.below hB; replace hn := hn.below hB; replace hX := below_sl hB hX; replace hE := below_sl hB hE; replace hY := below_sl hB hY; replace hBt := grow0 hBt hB)
      | (go_at_call 30; refine (RExpMod_any X E Y _ _ _ _ hX hE hY uX uE uY).mono ?_; rintro e w' ⟨⟨y, rfl, hy⟩, hB⟩; rw [HS.out] at hy ⊢; replace hx := below_sl hB hx; replace hc := hc.below hB; replace hd := hd.below hB; replace hn := hn.below hB; replace hX := below_sl hB hX; replace hE := below_sl hB hE; replace hY := below_sl hB hY; replace hBt := grow0 hBt hB)
      | (go_at_call 29; refine (ExpMod_any X E Y _ _ _ _ hc.sl hd.sl hn.sl uX uE uY (.inr long_ok)).mono ?_; rintro e w' ⟨⟨x, rfl, hOx⟩, hB⟩; rw [HS.out] at hOx ⊢; have hx := hOx.sl; replace hc := hc.below hB; replace hd := hd.below hB; replace hn := hn.below hB; replace hX := below_sl hB hX; replace hE := below_sl hB hE; replace hY := below_sl hB hY; replace hBt := grow0 hBt hB)
      | (go_at_call 9; replace hc := hc; replace hd := hd; refine (Lent_any Y _ _ hY sY).mono ?_; rintro e w' ⟨n, rfl, hn, hB⟩; replace hc := hc.below hB; replace hd := hd.below hB; replace hX := below_sl hB hX; replace hE := below_sl hB hE; replace hY := below_sl hB hY; replace hBt := grow0 hBt hB)
      | (go_at_call 9; replace hc := hc; refine (Lent_any E _ _ hE sE).mono ?_; rintro e w' ⟨d, rfl, hd, hB⟩; replace hc := hc.below hB; replace hX := below_sl hB hX; replace hE := below_sl hB hE; replace hY := below_sl hB hY; replace hBt := grow0 hBt hB)
      | (go_at_call 9; refine (Lent_any X _ _ hX sX).mono ?_; rintro e w' ⟨c, rfl, hc, hB⟩; replace hX := below_sl hB hX; replace hE := below_sl hB hE; replace hY := below_sl hB hY; replace hBt := grow0 hBt hB))
    go_ret
    exact ⟨rfl, hBt⟩
end Go.Proofs.Ythkheocggcmooaa
