/-
  NatExponents: whatever the four lists, the law answers true, and writes nothing that was there.
-/
import Derived.Test.YtcbdjgjaeopekabParts
namespace Go.Proofs.Ytcbdjgjaeopekab
open Go.RowKit

theorem BitsV {w : World} (v : Value) (X : List Int) (h : Sl .u32 w v X) (uX : U32s X) (lX : X.length ≤ 36028797018963968) (n : Nat) (hn : bitLen (val X).toNat = n + 1) :
    Calls Try.prog 18 #[v] w fun e w' => e = .returned (.int .i64 (n + 1)) ∧ Below w.heap.size w w' := by
  refine (Bits_any X v w h uX lX).mono ?_
  rintro e w' ⟨rfl, hB⟩
  exact ⟨by rw [hn]; rfl, hB⟩
theorem ExpV {w : World} (v u t : Value) (X E M : List Int) (h : Sl .u32 w v X) (h' : Sl .u32 w u E) (h'' : Sl .u32 w t M) (uX : U32s X) (uE : U32s E) (uM : U32s M) (lX : X.length ≤ 512) (lE : E.length ≤ 256) (lM : M.length ≤ 256) (h0 : 0 < val M) (R : Int) (hR : val X ^ (val E).toNat % val M = R) :
    Calls Try.prog 19 #[v, u, t] w fun e w' => ∃ r, e = .returned (.tuple #[r, .int .i64 0]) ∧ Own w.heap.size w' r (lim R.toNat) ∧ Below w.heap.size w w' := by
  subst hR
  refine (ExpMod_any X E M v u t w h h' h'' uX uE uM (.inr long_ok)).mono ?_
  have e1 : expS X E M = (lim (val X ^ (val E).toNat % val M).toNat, 0) := by unfold expS expLong; rw [if_neg (by omega), if_neg (by omega)]
  rintro e w' ⟨⟨r, rfl, hr⟩, hB⟩
  rw [e1] at hr
  exact ⟨r, by rw [e1], hr, hB⟩

set_option maxHeartbeats 4000000 in
theorem exponents_any (X E F M : List Int) (a0 a1 a2 a3 : Option Addr) (c0 c1 c2 c3 : Nat) (w : World) (hX : Sl .u32 w (.slice a0 X.length c0) X) (hE : Sl .u32 w (.slice a1 E.length c1) E) (hF : Sl .u32 w (.slice a2 F.length c2) F) (hM : Sl .u32 w (.slice a3 M.length c3) M) (uX : U32s X) (uE : U32s E) (uF : U32s F) (uM : U32s M) :
    Calls Try.prog 5 #[.slice a0 X.length c0, .slice a1 E.length c1, .slice a2 F.length c2, .slice a3 M.length c3] w fun e w' => e = .returned (.bool true) ∧ Below w.heap.size w w' := by
  have hBt : Below w.heap.size w w := Below.refl _ _
  by_cases lX : 20 < X.length
  · go_enter Try.func5, Try.ntmps5
    go_wp2_with (first | (go_at_call 9; refine (live_any _).mono ?_; rintro e w' ⟨rfl, hB⟩; replace hBt := grow0 hBt hB))
    go_ret
    exact ⟨rfl, hBt⟩
  by_cases lE : 20 < E.length
  · go_enter Try.func5, Try.ntmps5
    go_wp2_with (first | (go_at_call 9; refine (live_any _).mono ?_; rintro e w' ⟨rfl, hB⟩; replace hBt := grow0 hBt hB))
    go_ret
    exact ⟨rfl, hBt⟩
  by_cases lF : 20 < F.length
  · go_enter Try.func5, Try.ntmps5
    go_wp2_with (first | (go_at_call 9; refine (live_any _).mono ?_; rintro e w' ⟨rfl, hB⟩; replace hBt := grow0 hBt hB))
    go_ret
    exact ⟨rfl, hBt⟩
  by_cases lM : 20 < M.length
  · go_enter Try.func5, Try.ntmps5
    go_wp2_with (first | (go_at_call 9; refine (live_any _).mono ?_; rintro e w' ⟨rfl, hB⟩; replace hBt := grow0 hBt hB))
    go_ret
    exact ⟨rfl, hBt⟩
  by_cases h0 : val M = 0
  · have HZ : Hid (val M = 0) := h0
    clear h0
    go_enter Try.func5, Try.ntmps5
    go_wp2_with (first
      | (go_at_call 18; refine (BitsZero _ M hM uM (by omega) HZ.out).mono ?_; rintro e w' ⟨rfl, hB⟩; replace hBt := grow0 hBt hB)
      | (go_at_call 9; refine (live_any _).mono ?_; rintro e w' ⟨rfl, hB⟩; replace hBt := grow0 hBt hB))
    go_ret
    exact ⟨rfl, hBt⟩
  have nX := val_nonneg uX; have nE := val_nonneg uE; have nF := val_nonneg uF; have nM := val_nonneg uM
  have hM0 : 0 < val M := by omega
  have bE := val_lt uE; have bF := val_lt uF; have bM := val_lt uM
  have pE := pow_mono (show E.length ≤ 20 by omega); have pF := pow_mono (show F.length ≤ 20 by omega); have pM := pow_mono (show M.length ≤ 20 by omega)
  obtain ⟨nb, hnb⟩ : ∃ nb, bitLen (val M).toNat = nb + 1 := ⟨bitLen (val M).toNat - 1, by
    have : bitLen (val M).toNat ≠ 0 := by unfold bitLen; rw [if_neg (by omega)]; omega
    omega⟩
  obtain ⟨EF, hEF⟩ : ∃ EF, val E + val F = EF := ⟨_, rfl⟩
  obtain ⟨R1, hR1⟩ : ∃ R, val X ^ (val (lim EF.toNat)).toNat % val M = R := ⟨_, rfl⟩
  obtain ⟨R2, hR2⟩ : ∃ R, val X ^ (val E).toNat % val M = R := ⟨_, rfl⟩
  obtain ⟨R3, hR3⟩ : ∃ R, val X ^ (val F).toNat % val M = R := ⟨_, rfl⟩
  obtain ⟨P, hP⟩ : ∃ P, R2 * R3 = P := ⟨_, rfl⟩
  have r10 : 0 ≤ R1 := by rw [← hR1]; exact Int.emod_nonneg _ (by omega)
  have r11 : R1 < val M := by rw [← hR1]; exact Int.emod_lt_of_pos _ hM0
  have r20 : 0 ≤ R2 := by rw [← hR2]; exact Int.emod_nonneg _ (by omega)
  have r21 : R2 < val M := by rw [← hR2]; exact Int.emod_lt_of_pos _ hM0
  have r30 : 0 ≤ R3 := by rw [← hR3]; exact Int.emod_nonneg _ (by omega)
  have r31 : R3 < val M := by rw [← hR3]; exact Int.emod_lt_of_pos _ hM0
  have hP0 : 0 ≤ P := by rw [← hP]; exact Int.mul_nonneg r20 r30
  have lEF : (lim EF.toNat).length ≤ 21 := lim_fits (by omega) (by rw [pow_succ32]; omega)
  have l1 : (lim R1.toNat).length ≤ 20 := lim_fits r10 (by omega)
  have l2 : (lim R2.toNat).length ≤ 20 := lim_fits r20 (by omega)
  have l3 : (lim R3.toNat).length ≤ 20 := lim_fits r30 (by omega)
  have HB : Hid (bitLen (val M).toNat = nb + 1) := hnb
  have HEF : Hid (val E + val F = EF) := hEF
  have HR1 : Hid (val X ^ (val (lim EF.toNat)).toNat % val M = R1) := hR1
  have HR2 : Hid (val X ^ (val E).toNat % val M = R2) := hR2
  have HR3 : Hid (val X ^ (val F).toNat % val M = R3) := hR3
  have HP : Hid (val (lim R2.toNat) * val (lim R3.toNat) = P) := by rw [val_limI r20, val_limI r30]; exact hP
  have HD : Hid (val (lim P.toNat) % val M = R1) := by
    rw [val_limI hP0, ← hP, ← hR2, ← hR3, ← Int.mul_emod, ← Int.pow_add, ← hR1, val_limI (by omega), ← hEF, Int.toNat_add nE nF]; rfl
  have hnb0 : ((nb : Int) + 1 == 0) = false := by simp; omega
  clear nX nE nF nM bE bF bM pE pF pM hnb hEF hR1 hR2 hR3 hP r10 r11 r20 r21 r30 r31 hP0 h0
  go_enter Try.func5, Try.ntmps5
  go_wp2_with (first
    | (go_at_call 9; refine (live_any _).mono ?_; rintro e w' ⟨rfl, hB⟩; replace hX := below_sl hB hX; replace hE := below_sl hB hE; replace hF := below_sl hB hF; replace hM := below_sl hB hM; replace hs := below_sl hB hs; replace hx := below_sl hB hx; replace hy := below_sl hB hy; replace hz := below_sl hB hz; replace hp := below_sl hB hp; replace hr := below_sl hB hr; replace hBt := grow0 hBt hB)
    | (go_at_call 14; refine (Same_any _ _ _ hr hx (by omega)).mono ?_; rintro e w' ⟨rfl, hB⟩; replace hX := below_sl hB hX; replace hE := below_sl hB hE; replace hF := below_sl hB hF; replace hM := below_sl hB hM; replace hs := below_sl hB hs; replace hx := below_sl hB hx; replace hy := below_sl hB hy; replace hz := below_sl hB hz; replace hp := below_sl hB hp; replace hr := below_sl hB hr; replace hBt := grow0 hBt hB)
    | (go_at_call 13; refine (num_any _ _).mono ?_; rintro e w' ⟨rfl, rfl⟩)
    | (go_at_call 17; refine (DivV _ _ (lim P.toNat) M hp hM (lim_u32 _) uM (by omega) (by omega) hM0 _ R1 rfl HD.out).mono ?_; rintro e w' ⟨q, r, rfl, hOq, hOr, hB⟩; replace hX := below_sl hB hX; replace hE := below_sl hB hE; replace hF := below_sl hB hF; replace hM := below_sl hB hM; replace hs := below_sl hB hs; replace hx := below_sl hB hx; replace hy := below_sl hB hy; replace hz := below_sl hB hz; replace hp := below_sl hB hp; have hr := hOr.sl; replace hBt := grow0 hBt hB)
    | (go_at_call 12; refine (MulV _ _ (lim R2.toNat) (lim R3.toNat) hy hz (lim_u32 _) (lim_u32 _) (by omega) P HP.out).mono ?_; rintro e w' ⟨p, rfl, hOp, hlp, hB⟩; replace hX := below_sl hB hX; replace hE := below_sl hB hE; replace hF := below_sl hB hF; replace hM := below_sl hB hM; replace hs := below_sl hB hs; replace hx := below_sl hB hx; replace hy := below_sl hB hy; replace hz := below_sl hB hz; have hp := hOp.sl; replace hBt := grow0 hBt hB)
    | (go_at_call 19; replace hy := hy; refine (ExpV _ _ _ X F M hX hF hM uX uF uM (by omega) (by omega) (by omega) hM0 R3 HR3.out).mono ?_; rintro e w' ⟨z, rfl, hOz, hB⟩; replace hX := below_sl hB hX; replace hE := below_sl hB hE; replace hF := below_sl hB hF; replace hM := below_sl hB hM; replace hs := below_sl hB hs; replace hx := below_sl hB hx; replace hy := below_sl hB hy; have hz := hOz.sl; replace hBt := grow0 hBt hB)
    | (go_at_call 19; replace hx := hx; refine (ExpV _ _ _ X E M hX hE hM uX uE uM (by omega) (by omega) (by omega) hM0 R2 HR2.out).mono ?_; rintro e w' ⟨y, rfl, hOy, hB⟩; replace hX := below_sl hB hX; replace hE := below_sl hB hE; replace hF := below_sl hB hF; replace hM := below_sl hB hM; replace hs := below_sl hB hs; replace hx := below_sl hB hx; have hy := hOy.sl; replace hBt := grow0 hBt hB)
    | (go_at_call 19; refine (ExpV _ _ _ X (lim EF.toNat) M hX hs hM uX (lim_u32 _) uM (by omega) (by omega) (by omega) hM0 R1 HR1.out).mono ?_; rintro e w' ⟨x, rfl, hOx, hB⟩; replace hX := below_sl hB hX; replace hE := below_sl hB hE; replace hF := below_sl hB hF; replace hM := below_sl hB hM; replace hs := below_sl hB hs; have hx := hOx.sl; replace hBt := grow0 hBt hB)
    | (go_at_call 10; refine (AddV _ _ E F hE hF uE uF (by omega) (by omega) EF HEF.out).mono ?_; rintro e w' ⟨s, rfl, hOs, hB⟩; replace hX := below_sl hB hX; replace hE := below_sl hB hE; replace hF := below_sl hB hF; replace hM := below_sl hB hM; have hs := hOs.sl; replace hBt := grow0 hBt hB)
    | (go_at_call 18; refine (BitsV _ M hM uM (by omega) nb HB.out).mono ?_; rintro e w' ⟨rfl, hB⟩; replace hX := below_sl hB hX; replace hE := below_sl hB hE; replace hF := below_sl hB hF; replace hM := below_sl hB hM; replace hBt := grow0 hBt hB))
  go_ret
  exact ⟨rfl, hBt⟩
end Go.Proofs.Ytcbdjgjaeopekab
