/-
  NatParts: whatever the two lists, the law answers true, and writes nothing that was there.
-/
import Derived.Test.YtcbdjgjaeopekabV
namespace Go.Proofs.Ytcbdjgjaeopekab
open Go.RowKit

theorem DivZero {w : World} (v u : Value) (X Y : List Int) (h : Sl .u32 w v X) (h' : Sl .u32 w u Y) (uX : U32s X) (uY : U32s Y) (lX : X.length ≤ 512) (lY : Y.length ≤ 512) (h0 : val Y = 0) :
    Calls Try.prog 17 #[v, u] w fun e w' => ∃ q r, e = .returned (.tuple #[q, r, .int .i64 11]) ∧ Below w.heap.size w w' := by
  refine (DivMod_any X Y v u w h h' uX uY (.inr long_ok)).mono ?_
  have e1 : divS X Y = ([], [], 11) := by unfold divS; rw [if_neg (by omega), if_pos h0]
  rintro e w' ⟨⟨q, r, rfl, hq, hr⟩, hB⟩
  exact ⟨q, r, by rw [e1], hB⟩
theorem BitsZero {w : World} (v : Value) (X : List Int) (h : Sl .u32 w v X) (uX : U32s X) (lX : X.length ≤ 36028797018963968) (h0 : val X = 0) :
    Calls Try.prog 18 #[v] w fun e w' => e = .returned (.int .i64 0) ∧ Below w.heap.size w w' := by
  refine (Bits_any X v w h uX lX).mono ?_
  rintro e w' ⟨rfl, hB⟩
  exact ⟨by rw [h0]; rfl, hB⟩

set_option maxHeartbeats 4000000 in
theorem parts_any (X Y : List Int) (a0 a1 : Option Addr) (c0 c1 : Nat) (w : World) (hX : Sl .u32 w (.slice a0 X.length c0) X) (hY : Sl .u32 w (.slice a1 Y.length c1) Y) (uX : U32s X) (uY : U32s Y) :
    Calls Try.prog 4 #[.slice a0 X.length c0, .slice a1 Y.length c1] w fun e w' => e = .returned (.bool true) ∧ Below w.heap.size w w' := by
  have hBt : Below w.heap.size w w := Below.refl _ _
  by_cases l1 : 200 < X.length
  · go_enter Try.func4, Try.ntmps4
    go_wp2_with (first | (go_at_call 9; refine (live_any _).mono ?_; rintro e w' ⟨rfl, hB⟩; replace hBt := grow0 hBt hB))
    go_ret
    exact ⟨rfl, hBt⟩
  by_cases l2 : 200 < Y.length
  · go_enter Try.func4, Try.ntmps4
    go_wp2_with (first | (go_at_call 9; refine (live_any _).mono ?_; rintro e w' ⟨rfl, hB⟩; replace hBt := grow0 hBt hB))
    go_ret
    exact ⟨rfl, hBt⟩
  by_cases h0 : val Y = 0
  · have HZ : Hid (val Y = 0) := h0
    clear h0
    go_enter Try.func4, Try.ntmps4
    go_wp2_with (first
      | (go_at_call 17; refine (DivZero _ _ X Y hX hY uX uY (by omega) (by omega) HZ.out).mono ?_; rintro e w' ⟨q, r, rfl, hB⟩; replace hY := below_sl hB hY; replace hBt := grow0 hBt hB)
      | (go_at_call 18; refine (BitsZero _ Y hY uY (by omega) HZ.out).mono ?_; rintro e w' ⟨rfl, hB⟩; replace hBt := grow0 hBt hB)
      | (go_at_call 13; refine (num_any _ _).mono ?_; rintro e w' ⟨rfl, rfl⟩)
      | (go_at_call 9; refine (live_any _).mono ?_; rintro e w' ⟨rfl, hB⟩; replace hBt := grow0 hBt hB))
    go_ret
    exact ⟨rfl, hBt⟩
  have nX := val_nonneg uX; have nY := val_nonneg uY
  have hY0 : 0 < val Y := by omega
  have bX := val_lt uX; have bY := val_lt uY; have pX := pow_mono (show X.length ≤ 200 by omega); have pY := pow_mono (show Y.length ≤ 200 by omega)
  obtain ⟨A, hA⟩ : ∃ A, val X = A := ⟨_, rfl⟩
  obtain ⟨Q, hQ⟩ : ∃ Q, val X / val Y = Q := ⟨_, rfl⟩
  obtain ⟨R, hR⟩ : ∃ R, val X % val Y = R := ⟨_, rfl⟩
  obtain ⟨QY, hQY⟩ : ∃ QY, Q * val Y = QY := ⟨_, rfl⟩
  have hQ0 : 0 ≤ Q := by rw [← hQ]; exact Int.ediv_nonneg nX nY
  have hQX : Q ≤ val X := by rw [← hQ]; exact Int.ediv_le_self _ nX
  have hR0 : 0 ≤ R := by rw [← hR]; exact Int.emod_nonneg _ (by omega)
  have hR1 : R < val Y := by rw [← hR]; exact Int.emod_lt_of_pos _ hY0
  have hsum : QY + R = A := by have := Int.mul_ediv_add_emod (val X) (val Y); rw [hQ, hR, Int.mul_comm, hQY] at this; omega
  have hQY0 : 0 ≤ QY := by rw [← hQY]; exact Int.mul_nonneg hQ0 nY
  have lQ : (lim Q.toNat).length ≤ 200 := lim_fits hQ0 (by omega)
  have lR : (lim R.toNat).length ≤ 200 := lim_fits hR0 (by omega)
  have lA : (lim A.toNat).length ≤ 200 := lim_fits (by omega) (by omega)
  have lQY : (lim QY.toNat).length ≤ 200 := lim_fits hQY0 (by omega)
  have HQ : Hid (val X / val Y = Q) := hQ
  have HR : Hid (val X % val Y = R) := hR
  have HM : Hid (val (lim Q.toNat) * val Y = QY) := by rw [val_limI hQ0]; exact hQY
  have HS : Hid (val (lim QY.toNat) + val (lim R.toNat) = A) := by rw [val_limI hQY0, val_limI hR0]; exact hsum
  have HC1 : Hid (cmpI (val (lim A.toNat)) (val X) = 0) := by rw [val_limI (by omega), hA]; unfold cmpI; rw [if_neg (by omega), if_neg (by omega)]; rfl
  have HC2 : Hid (cmpI (val (lim R.toNat)) (val Y) = -1) := by rw [val_limI hR0]; unfold cmpI; rw [if_pos hR1]; rfl
  clear bX bY pX pY nX nY hA hQ hR hQY hsum h0 hQX hR1 hQY0 hQ0 hR0
  go_enter Try.func4, Try.ntmps4
  go_wp2_with (first
    | (go_at_call 9; refine (live_any _).mono ?_; rintro e w' ⟨rfl, hB⟩; replace hX := below_sl hB hX; replace hY := below_sl hB hY; replace hq := below_sl hB hq; replace hr := below_sl hB hr; replace hp := below_sl hB hp; replace hs := below_sl hB hs; replace hBt := grow0 hBt hB)
    | (go_at_call 16; replace hdone := hdone; refine (CmpV _ _ (lim R.toNat) Y hr hY (lim_u32 _) uY (by omega) (by omega) (-1) HC2.out).mono ?_; rintro e w' ⟨rfl, hB⟩; replace hX := below_sl hB hX; replace hY := below_sl hB hY; replace hq := below_sl hB hq; replace hr := below_sl hB hr; replace hp := below_sl hB hp; replace hs := below_sl hB hs; replace hBt := grow0 hBt hB)
    | (go_at_call 16; refine (CmpV _ _ (lim A.toNat) X hs hX (lim_u32 _) uX (by omega) (by omega) 0 HC1.out).mono ?_; rintro e w' ⟨rfl, hB⟩; replace hX := below_sl hB hX; replace hY := below_sl hB hY; replace hq := below_sl hB hq; replace hr := below_sl hB hr; replace hp := below_sl hB hp; replace hs := below_sl hB hs; have hdone := trivial; replace hBt := grow0 hBt hB)
    | (go_at_call 13; refine (num_any _ _).mono ?_; rintro e w' ⟨rfl, rfl⟩)
    | (go_at_call 10; refine (AddV _ _ (lim QY.toNat) (lim R.toNat) hp hr (lim_u32 _) (lim_u32 _) (by omega) (by omega) A HS.out).mono ?_; rintro e w' ⟨s, rfl, hOs, hB⟩; replace hX := below_sl hB hX; replace hY := below_sl hB hY; replace hq := below_sl hB hq; replace hr := below_sl hB hr; replace hp := below_sl hB hp; have hs := hOs.sl; replace hBt := grow0 hBt hB)
    | (go_at_call 12; refine (MulV _ _ (lim Q.toNat) Y hq hY (lim_u32 _) uY (by omega) QY HM.out).mono ?_; rintro e w' ⟨p, rfl, hOp, hlp, hB⟩; replace hX := below_sl hB hX; replace hY := below_sl hB hY; replace hq := below_sl hB hq; replace hr := below_sl hB hr; have hp := hOp.sl; replace hBt := grow0 hBt hB)
    | (go_at_call 17; refine (DivV _ _ X Y hX hY uX uY (by omega) (by omega) hY0 Q R HQ.out HR.out).mono ?_; rintro e w' ⟨q, r, rfl, hOq, hOr, hB⟩; replace hX := below_sl hB hX; replace hY := below_sl hB hY; have hq := hOq.sl; have hr := hOr.sl; replace hBt := grow0 hBt hB))
  go_ret
  exact ⟨rfl, hBt⟩
end Go.Proofs.Ytcbdjgjaeopekab
