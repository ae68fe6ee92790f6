/-
  NatRing: whatever the three lists, the law answers true, and writes nothing that was there.
-/
import Derived.Test.YtcbdjgjaeopekabV
namespace Go.Proofs.Ytcbdjgjaeopekab
open Go.RowKit

set_option maxHeartbeats 4000000 in
theorem ring_any (X Y Z : List Int) (a0 a1 a2 : Option Addr) (c0 c1 c2 : Nat) (w : World) (hX : Sl .u32 w (.slice a0 X.length c0) X) (hY : Sl .u32 w (.slice a1 Y.length c1) Y) (hZ : Sl .u32 w (.slice a2 Z.length c2) Z) (uX : U32s X) (uY : U32s Y) (uZ : U32s Z) :
    Calls Try.prog 3 #[.slice a0 X.length c0, .slice a1 Y.length c1, .slice a2 Z.length c2] w fun e w' => e = .returned (.bool true) ∧ Below w.heap.size w w' := by
  have hBt : Below w.heap.size w w := Below.refl _ _
  by_cases l1 : 100 < X.length
  · go_enter Try.func3, Try.ntmps3
    go_wp2_with (go_at_call 9; refine (live_any _).mono ?_; rintro e w' ⟨rfl, hB⟩)
    go_ret
    exact ⟨rfl, hB⟩
  by_cases l2 : 100 < Y.length
  · go_enter Try.func3, Try.ntmps3
    go_wp2_with (go_at_call 9; refine (live_any _).mono ?_; rintro e w' ⟨rfl, hB⟩)
    go_ret
    exact ⟨rfl, hB⟩
  by_cases l3 : 100 < Z.length
  · go_enter Try.func3, Try.ntmps3
    go_wp2_with (go_at_call 9; refine (live_any _).mono ?_; rintro e w' ⟨rfl, hB⟩)
    go_ret
    exact ⟨rfl, hB⟩
  have nX := val_nonneg uX; have nY := val_nonneg uY; have nZ := val_nonneg uZ
  have bX := val_lt uX; have bY := val_lt uY; have pX := pow_mono (show X.length ≤ 100 by omega); have pY := pow_mono (show Y.length ≤ 100 by omega)
  obtain ⟨A, hA⟩ : ∃ A, val X = A := ⟨_, rfl⟩
  obtain ⟨AB, hAB⟩ : ∃ AB, val X + val Y = AB := ⟨_, rfl⟩
  obtain ⟨AC, hM2⟩ : ∃ AC, val X * val Z = AC := ⟨_, rfl⟩
  obtain ⟨CB, hM3⟩ : ∃ CB, val Z * val Y = CB := ⟨_, rfl⟩
  obtain ⟨ABC, hABC⟩ : ∃ ABC, (val X + val Y) * val Z = ABC := ⟨_, rfl⟩
  have hBA : val Y + val X = AB := by omega
  have hA0 : 0 ≤ A := by omega
  have nAC : 0 ≤ AC := by rw [← hM2]; exact Int.mul_nonneg nX nZ
  have nCB : 0 ≤ CB := by rw [← hM3]; exact Int.mul_nonneg nZ nY
  have lAB2 : (lim AB.toNat).length ≤ 101 := lim_fits (by omega) (by rw [pow_succ32]; omega)
  have lAB : (lim AB.toNat).length ≤ 512 := by omega
  have lA : (lim A.toNat).length ≤ 1152921504606846976 := by have := lim_fits (k := 100) hA0 (by omega); omega
  have hS : val (lim AB.toNat) - val Y = A := by rw [val_limI (by omega)]; omega
  have hM1 : val (lim AB.toNat) * val Z = ABC := by rw [val_limI (by omega), ← hAB]; exact hABC
  have hS2 : val (lim AC.toNat) + val (lim CB.toNat) = ABC := by
    rw [val_limI nAC, val_limI nCB, ← hM2, ← hM3, ← hABC, Int.add_mul, Int.mul_comm (val Z)]
  have lABC : (lim ABC.toNat).length ≤ 1152921504606846976 := by
    have h1 := val_lt (lim_u32 AB.toNat); have h2 := val_lt uZ; have h3 := val_nonneg (lim_u32 AB.toNat)
    have : (lim ABC.toNat).length ≤ (lim AB.toNat).length + Z.length := lim_fits (by rw [← hM1]; exact Int.mul_nonneg h3 nZ) (by
      rw [← hM1, Int.pow_add]
      calc val (lim AB.toNat) * val Z ≤ val (lim AB.toNat) * 4294967296 ^ Z.length := Int.mul_le_mul_of_nonneg_left (Int.le_of_lt h2) h3
        _ < 4294967296 ^ (lim AB.toNat).length * 4294967296 ^ Z.length := Int.mul_lt_mul_of_pos_right h1 (pow_pos32 _))
    omega
  obtain ⟨c, hc, hc0⟩ : ∃ c, cmpI (val (lim AB.toNat)) (val X) = c ∧ 0 ≤ c := by
    rw [val_limI (by omega)]
    unfold cmpI; rw [if_neg (by omega)]; split
    · exact ⟨1, rfl, by decide⟩
    · exact ⟨0, rfl, by decide⟩
  have lAB3 : (lim AB.toNat).length ≤ 1152921504606846976 := by omega
  have HAB : Hid (val X + val Y = AB) := hAB
  have HBA : Hid (val Y + val X = AB) := hBA
  have HS : Hid (val (lim AB.toNat) - val Y = A) := hS
  have HM1 : Hid (val (lim AB.toNat) * val Z = ABC) := hM1
  have HM2 : Hid (val X * val Z = AC) := hM2
  have HM3 : Hid (val Z * val Y = CB) := hM3
  have HS2 : Hid (val (lim AC.toNat) + val (lim CB.toNat) = ABC) := hS2
  have HA : Hid (val X = A) := hA
  have HC : Hid (cmpI (val (lim AB.toNat)) (val X) = c) := hc
  clear bX bY pX pY nX nY nZ hAB hBA hS hM1 hM2 hM3 hS2 hA hc hABC nAC nCB
  go_enter Try.func3, Try.ntmps3
  go_wp2_with (first
    | (go_at_call 9; refine (live_any _).mono ?_; rintro e w' ⟨rfl, hB⟩; replace hX := below_sl hB hX; replace hY := below_sl hB hY; replace hZ := below_sl hB hZ; replace hs := below_sl hB hs; replace ht := below_sl hB ht; replace hd := below_sl hB hd; replace hp := below_sl hB hp; replace hq := below_sl hB hq; replace hr := below_sl hB hr; replace hu := below_sl hB hu; replace hk := below_sl hB hk; replace hBt := grow0 hBt hB)
    | (go_at_call 16; refine (CmpV _ _ (lim AB.toNat) X hs hX (lim_u32 _) uX (by omega) (by omega) c HC.out).mono ?_; rintro e w' ⟨rfl, hB⟩; replace hX := below_sl hB hX; replace hY := below_sl hB hY; replace hZ := below_sl hB hZ; replace hs := below_sl hB hs; replace ht := below_sl hB ht; replace hd := below_sl hB hd; replace hp := below_sl hB hp; replace hq := below_sl hB hq; replace hr := below_sl hB hr; replace hu := below_sl hB hu; replace hk := below_sl hB hk; replace hBt := grow0 hBt hB)
    | (go_at_call 15; refine (TrimV _ X hX uX (by omega) A HA.out).mono ?_; rintro e w' ⟨k, rfl, hOk, hB⟩; replace hX := below_sl hB hX; replace hY := below_sl hB hY; replace hZ := below_sl hB hZ; replace hs := below_sl hB hs; replace ht := below_sl hB ht; replace hd := below_sl hB hd; replace hp := below_sl hB hp; replace hq := below_sl hB hq; replace hr := below_sl hB hr; replace hu := below_sl hB hu; have hk := hOk.sl; replace hBt := grow0 hBt hB)
    | (go_at_call 14; refine (Same_any _ _ _ (by assumption) (by assumption) (by assumption)).mono ?_; rintro e w' ⟨rfl, hB⟩; replace hX := below_sl hB hX; replace hY := below_sl hB hY; replace hZ := below_sl hB hZ; replace hs := below_sl hB hs; replace ht := below_sl hB ht; replace hd := below_sl hB hd; replace hp := below_sl hB hp; replace hq := below_sl hB hq; replace hr := below_sl hB hr; replace hu := below_sl hB hu; (try replace hk := below_sl hB hk); replace hBt := grow0 hBt hB)
    | (go_at_call 13; refine (num_any _ _).mono ?_; rintro e w' ⟨rfl, rfl⟩)
    | (go_at_call 10; replace hr := hr; refine (AddV _ _ (lim AC.toNat) (lim CB.toNat) hq hr (lim_u32 _) (lim_u32 _) (by omega) (by omega) ABC HS2.out).mono ?_; rintro e w' ⟨u, rfl, hOu, hB⟩; replace hX := below_sl hB hX; replace hY := below_sl hB hY; replace hZ := below_sl hB hZ; replace hs := below_sl hB hs; replace ht := below_sl hB ht; replace hd := below_sl hB hd; replace hp := below_sl hB hp; replace hq := below_sl hB hq; replace hr := below_sl hB hr; have hu := hOu.sl; replace hBt := grow0 hBt hB)
    | (go_at_call 12; replace hq := hq; refine (MulV _ _ Z Y hZ hY uZ uY (by omega) CB HM3.out).mono ?_; rintro e w' ⟨r, rfl, hOr, hlr, hB⟩; replace hX := below_sl hB hX; replace hY := below_sl hB hY; replace hZ := below_sl hB hZ; replace hs := below_sl hB hs; replace ht := below_sl hB ht; replace hd := below_sl hB hd; replace hp := below_sl hB hp; replace hq := below_sl hB hq; have hr := hOr.sl; replace hBt := grow0 hBt hB)
    | (go_at_call 12; replace hp := hp; refine (MulV _ _ X Z hX hZ uX uZ (by omega) AC HM2.out).mono ?_; rintro e w' ⟨q, rfl, hOq, hlq, hB⟩; replace hX := below_sl hB hX; replace hY := below_sl hB hY; replace hZ := below_sl hB hZ; replace hs := below_sl hB hs; replace ht := below_sl hB ht; replace hd := below_sl hB hd; replace hp := below_sl hB hp; have hq := hOq.sl; replace hBt := grow0 hBt hB)
    | (go_at_call 12; replace hd := hd; refine (MulV _ _ (lim AB.toNat) Z hs hZ (lim_u32 _) uZ (by omega) ABC HM1.out).mono ?_; rintro e w' ⟨p, rfl, hOp, hlp, hB⟩; replace hX := below_sl hB hX; replace hY := below_sl hB hY; replace hZ := below_sl hB hZ; replace hs := below_sl hB hs; replace ht := below_sl hB ht; replace hd := below_sl hB hd; have hp := hOp.sl; replace hBt := grow0 hBt hB)
    | (go_at_call 11; replace ht := ht; refine (SubV _ _ (lim AB.toNat) Y hs hY (lim_u32 _) uY lAB (by omega) A HS.out hA0).mono ?_; rintro e w' ⟨d, rfl, hOd, hB⟩; replace hX := below_sl hB hX; replace hY := below_sl hB hY; replace hZ := below_sl hB hZ; replace hs := below_sl hB hs; replace ht := below_sl hB ht; have hd := hOd.sl; replace hBt := grow0 hBt hB)
    | (go_at_call 10; replace hs := hs; refine (AddV _ _ Y X hY hX uY uX (by omega) (by omega) AB HBA.out).mono ?_; rintro e w' ⟨t, rfl, hOt, hB⟩; replace hX := below_sl hB hX; replace hY := below_sl hB hY; replace hZ := below_sl hB hZ; replace hs := below_sl hB hs; have ht := hOt.sl; replace hBt := grow0 hBt hB)
    | (go_at_call 10; refine (AddV _ _ X Y hX hY uX uY (by omega) (by omega) AB HAB.out).mono ?_; rintro e w' ⟨s, rfl, hOs, hB⟩; replace hX := below_sl hB hX; replace hY := below_sl hB hY; replace hZ := below_sl hB hZ; have hs := hOs.sl; replace hBt := grow0 hBt hB))
  go_ret
  exact ⟨rfl, hBt⟩
end Go.Proofs.Ytcbdjgjaeopekab
