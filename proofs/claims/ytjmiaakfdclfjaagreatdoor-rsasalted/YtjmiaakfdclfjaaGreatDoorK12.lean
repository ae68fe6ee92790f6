/-
  The walk of the reference's ExpMod: bit by bit from the highest, modulo a multiple of m whose highest limb is great.
-/
import Derived.Test.YtjmiaakfdclfjaaGreatDoorK11
namespace Go.Proofs.YtjmiaakfdclfjaaGreatDoor.Nt
open Go.RowKit

theorem lim_ge32 {n : Nat} {k : Nat} (h : (lim n).length = k + 1) : (4294967296 : Int) ^ k ≤ n := by
  apply Decidable.byContradiction
  intro hc
  have := lim_len_le (n := n) (k := k) (by omega)
  omega
theorem lim_len_eq {V : Int} {k : Nat} (h0 : 4294967296 ^ k ≤ V) (h1 : V < 4294967296 ^ (k + 1)) : (lim V.toNat).length = k + 1 := by
  have hp := pow_pos32 k
  have h2 : (lim V.toNat).length ≤ k + 1 := lim_fits (by omega) h1
  apply Decidable.byContradiction
  intro hc
  have h3 := val_lt (lim_u32 V.toNat)
  rw [val_limI (by omega)] at h3
  have h4 := pow_mono (show (lim V.toNat).length ≤ k by omega)
  omega
theorem half_eq (E k : Nat) : E / 2 ^ k = 2 * (E / 2 ^ (k + 1)) + E / 2 ^ k % 2 := by
  have : E / 2 ^ (k + 1) = E / 2 ^ k / 2 := by rw [Nat.pow_succ, Nat.div_div_eq_div_mul]
  rw [this]; omega

set_option maxHeartbeats 8000000 in
set_option maxRecDepth 20000 in
theorem RExpMod_any (X E Y : List Int) (v u t : Value) (w : World) (hX : Sl .u32 w v X) (hE : Sl .u32 w u E) (hY : Sl .u32 w t Y) (uX : U32s X) (uE : U32s E) (uY : U32s Y) :
    Calls Tryz.prog 45 #[v, u, t] w fun e w' => RTwo w' e (expS X E Y) ∧ Below w.heap.size w w' := by
  have hBt : Below w.heap.size w w := Below.refl _ _
  obtain ⟨ax, cx, hvx, _⟩ := hX.len
  subst hvx
  by_cases h1 : 512 < X.length
  · have HL : Hid (expS X E Y = ([], 3)) := by unfold expS expLong; rw [if_pos (.inl h1)]; rfl
    go_enter Tryz.func45, Tryz.ntmps45
    go_wp2
    go_ret2
    exact ⟨RTwo.nil' HL.out, hBt⟩
  by_cases h2 : 256 < E.length ∨ 256 < Y.length
  · have HL : Hid (expS X E Y = ([], 3)) := by unfold expS expLong; rw [if_pos (.inr h2)]; rfl
    have hb : (decide (256 < E.length) || decide (256 < Y.length)) = true := by simpa using h2
    clear h2
    go_enter Tryz.func45, Tryz.ntmps45
    go_wp2_with (go_at_call 69; refine (long_any _ _ _ E Y hE hY true (by assumption)).mono ?_; rintro e w' ⟨rfl, rfl⟩)
    go_ret2
    exact ⟨RTwo.nil' HL.out, hBt⟩
  have hb : (decide (256 < E.length) || decide (256 < Y.length)) = false := by simpa using h2
  have hnl : ¬ expLong X E Y := by unfold expLong; omega
  have lX : X.length ≤ 512 := by omega
  have lE : E.length ≤ 256 := by omega
  have lY : Y.length ≤ 256 := by omega
  obtain ⟨M, hNY⟩ : ∃ n, val Y = n := ⟨_, rfl⟩
  have HY : Hid (val Y = M) := hNY
  have nY : 0 ≤ M := hNY ▸ val_nonneg uY
  have bY := val_lt uY
  rw [hNY] at bY
  have dY : (D.lim M.toNat).length ≤ 2 * Y.length := D.lim_fits nY (by rw [pow16_32]; exact bY)
  by_cases h0 : M = 0
  · have HL : Hid (expS X E Y = ([], 11)) := by unfold expS; rw [if_neg hnl, hNY, if_pos h0]; rfl
    have hdl : D.lim M.toNat = [] := by rw [h0]; rfl
    have HD : Hid (D.lim M.toNat = []) := hdl
    clear hnl hdl hNY bY dY nY h0 h2
    go_enter Tryz.func45, Tryz.ntmps45
    go_wp2_with (first
      | (go_at_call 69; refine (long_any _ _ _ E Y hE hY false (by assumption)).mono ?_; rintro e w' ⟨rfl, rfl⟩)
      | (go_at_call 43; refine (Digits_any _ Y hY uY (by omega) M HY.out).mono ?_; rintro e w' ⟨q, rfl, hq, hB⟩; rw [HD.out] at hq; replace hBt := grow0 hBt hB; obtain ⟨aq, cq, hqv, _⟩ := hq.len; simp only [List.length_nil] at hqv; subst hqv))
    go_ret2
    exact ⟨RTwo.nil' HL.out, hBt⟩
  have hM : 0 < M := by omega
  have hdp : (D.lim M.toNat).length ≠ 0 := fun h => by have := (D.len_val (n := M.toNat)).1 h; omega
  obtain ⟨ld, hld⟩ : ∃ ld, (D.lim M.toNat).length = ld + 1 := ⟨(D.lim M.toNat).length - 1, by omega⟩
  have HLD : Hid ((D.lim M.toNat).length = ld + 1) := hld
  have hld0 : ((ld : Int) + 1 == 0) = false := by simp; omega
  have hlm : (lim M.toNat).length ≤ 256 := Nat.le_trans (lim_fits nY bY) lY
  have hlne : (lim M.toNat).length ≠ 0 := fun h => by
    have h3 := val_limI nY
    rw [List.eq_nil_of_length_eq_zero h] at h3; simp [val] at h3; omega
  obtain ⟨k1, hk1⟩ : ∃ k1, (lim M.toNat).length = k1 + 1 := ⟨(lim M.toNat).length - 1, by omega⟩
  have hMge : 4294967296 ^ k1 ≤ M := by have := lim_ge32 hk1; rw [Int.toNat_of_nonneg nY] at this; exact this
  have hMlt : M < 4294967296 ^ (k1 + 1) := by have := val_lt (lim_u32 M.toNat); rw [val_limI nY, hk1] at this; exact this
  have HMb : Hid (4294967296 ^ k1 ≤ M ∧ M < 4294967296 ^ (k1 + 1)) := ⟨hMge, hMlt⟩
  have HK : Hid ((lim M.toNat).length = k1 + 1) := hk1
  have HVM : Hid (D.val (D.lim M.toNat) = M) := D.val_limI nY
  have HNL : Hid (¬ expLong X E Y ∧ ¬ M = 0) := ⟨hnl, h0⟩
  have k1l : k1 ≤ 255 := by omega
  have ldl : ld + 1 ≤ 512 := by omega
  clear hnl hNY bY dY nY h0 h2 hdp hld hlm hlne hk1 hMge hMlt
  go_enter Tryz.func45, Tryz.ntmps45
  go_wp2_with (first
    | (go_at_call 69; refine (long_any _ _ _ E Y hE hY false (by assumption)).mono ?_; rintro e w' ⟨rfl, rfl⟩)
    | (go_at_call 43; refine (Digits_any _ Y hY uY (by omega) M HY.out).mono ?_; rintro e w' ⟨d, rfl, hd, hB⟩; replace hBt := grow0 hBt hB; obtain ⟨aq, cq, hqv, _⟩ := hd.len; rw [HLD.out] at hqv; subst hqv)
    | (go_at_call 68; refine (Limbs_any _ _ hd (D.lim_u16 _) (by rw [HLD.out]; omega) M HVM.out).mono ?_; rintro e w3 ⟨m0, rfl, hm0, hB⟩; replace hd := below_sl hB hd; replace hBt := grow0 hBt hB))
  have hd3 := hd; have hBt3 := hBt
  clear hd hBt
  go_loopg [2, 9] (4294967296 ^ (k1 + 1) - M).toNat (fun gk mv tv wr => ∃ (V : Int) (j : Nat), gk = (4294967296 ^ (k1 + 1) - V).toNat ∧ Hid (V = M * 2 ^ j ∧ 4294967296 ^ k1 ≤ V ∧ V < 4294967296 ^ (k1 + 1)) ∧ Sl .u32 wr mv (lim V.toNat) ∧ Sl .u64 wr tv (D.lim (2 ^ j)) ∧ Sl .u64 wr (.slice aq (ld + 1) cq) (D.lim M.toNat) ∧ Below w.heap.size w wr)
  case atStart =>
    refine ⟨M, 0, rfl, ⟨by simp, HMb.out.1, HMb.out.2⟩, al1 hm0, ?_, al1 hd3, al hBt3⟩
    exact Arr.sl64 (S := [1]) (arr_new rfl rfl)
  case round =>
    clear hm0 hd3 hBt3
    obtain ⟨V, j, hgk, HV, hm, ht, hd, hBt⟩ := hrel
    have hlen := lim_len_eq HV.out.2.1 HV.out.2.2
    obtain ⟨x, hx⟩ : ∃ x, (lim V.toNat).getD k1 0 = x := ⟨_, rfl⟩
    have ux : U32 x := hx ▸ (lim_u32 _).at k1
    obtain ⟨am, cm, hvm, hcm⟩ := hm.len
    rw [hlen] at hvm hcm
    subst hvm
    obtain ⟨bm, om, hbm, hbml, hrm⟩ : ∃ b off, am = some ⟨b, off, none⟩ ∧ b < wr.heap.size ∧ Rd .u32 wr b off (lim V.toNat) := by
      obtain ⟨a', c', h3, _, h4⟩ := id hm
      simp only [Value.slice.injEq] at h3
      obtain ⟨rfl, _, _⟩ := h3
      rcases h4 with h4 | ⟨b, off, rfl, hb, hr⟩
      · rw [h4] at hlen; simp at hlen
      · exact ⟨b, off, rfl, hb, hr⟩
    subst hbm
    have hcx : wr.cell? ⟨bm, om + k1, none⟩ = some (.int .u32 x) := by rw [hrm k1 (by omega), hx]
    obtain ⟨ux1, ux2⟩ := ux
    have hV0 : 0 ≤ V := by have := HV.out.2.1; have := pow_pos32 k1; omega
    have HT : Hid (val ((lim V.toNat).take k1) < 4294967296 ^ k1 ∧ 0 ≤ val ((lim V.toNat).take k1) ∧ V = val ((lim V.toNat).take k1) + 4294967296 ^ k1 * x) := by
      have h3 := val_top (R := lim V.toNat) (n := k1) hlen
      rw [val_limI hV0, hx] at h3
      have h4 := val_lt ((lim_u32 V.toNat).take k1)
      rw [List.length_take, Nat.min_eq_left (by omega)] at h4
      exact ⟨h4, val_nonneg ((lim_u32 V.toNat).take k1), h3⟩
    have l16 : (D.lim V.toNat).length ≤ 512 := by
      have := D.lim_fits (n := V) (k := 2 * (k1 + 1)) hV0 (by rw [pow16_32]; exact HV.out.2.2); omega
    have l2j : (D.lim (2 ^ j)).length ≤ 512 := by
      have h5 : ((2 ^ j : Nat) : Int) < 65536 ^ (2 * (k1 + 1)) := by
        rw [pow16_32]
        have h6 := HV.out.1; have h7 := HV.out.2.2
        have h8 : (1 : Int) * 2 ^ j ≤ M * 2 ^ j := Int.mul_le_mul_of_nonneg_right (by omega) (Int.pow_nonneg (by decide))
        rw [Int.natCast_pow]; show (2 : Int) ^ j < _; omega
      have := D.lim_len_le h5; omega
    by_cases hx31 : x < 2147483648
    · have hV2 : 2 * V < 4294967296 ^ (k1 + 1) := by
        obtain ⟨h3, h4, h5⟩ := HT.out
        have h6 : 4294967296 ^ k1 * x ≤ 4294967296 ^ k1 * 2147483647 := Int.mul_le_mul_of_nonneg_left (by omega) (Int.le_of_lt (pow_pos32 k1))
        rw [pow_succ32]; omega
      have HV' : Hid (V + V = M * 2 ^ (j + 1) ∧ 4294967296 ^ k1 ≤ V + V ∧ V + V < 4294967296 ^ (k1 + 1)) := by
        have h3 := HV.out
        refine ⟨?_, by omega, by omega⟩
        rw [Int.pow_succ, ← Int.mul_assoc, ← h3.1]; omega
      have HA : Hid (D.val (D.lim V.toNat) + D.val (D.lim V.toNat) = V + V) := by rw [D.val_limI hV0]; rfl
      have HA2 : Hid (D.val (D.lim (V + V).toNat) = V + V) := D.val_limI (by omega)
      have l32 : (D.lim (V + V).toNat).length ≤ 512 := by
        have := D.lim_fits (n := V + V) (k := 2 * (k1 + 1)) (by omega) (by rw [pow16_32]; omega); omega
      have HB : Hid (D.val (D.lim (2 ^ j)) + D.val (D.lim (2 ^ j)) = ((2 ^ (j + 1) : Nat) : Int)) := by
        show D.val (D.lim (2 ^ j)) + D.val (D.lim (2 ^ j)) = ((2 ^ (j + 1) : Nat) : Int)
        rw [D.val_lim, Nat.pow_succ]; omega
      have HVL : Hid (val (lim V.toNat) = V) := val_limI hV0
      have HG : Hid (gk = (4294967296 ^ (k1 + 1) - V).toNat ∧ 0 < V ∧ V + V < 4294967296 ^ (k1 + 1)) := ⟨hgk, by have := HV.out.2.1; have := pow_pos32 k1; omega, by omega⟩
      have hl32 : (lim V.toNat).length ≤ 256 := by omega
      clear hgk hx hrm hV2 HV
      go_wp2_with (first
        | (go_at_call 43; replace hp := hp; refine (Digits_any _ _ hm (lim_u32 _) (by omega) V HVL.out).mono ?_; rintro e w' ⟨q, rfl, hq, hB⟩; replace hp := below_sl hB hp; replace hm := below_sl hB hm; replace ht := below_sl hB ht; replace hd := below_sl hB hd; replace hBt := grow0 hBt hB)
        | (go_at_call 43; refine (Digits_any _ _ hm (lim_u32 _) (by omega) V HVL.out).mono ?_; rintro e w' ⟨p, rfl, hp, hB⟩; replace hm := below_sl hB hm; replace ht := below_sl hB ht; replace hd := below_sl hB hd; replace hBt := grow0 hBt hB)
        | (go_at_call 70; replace hn := hn; refine (add_any _ _ _ _ ht ht (D.lim_u16 _) (D.lim_u16 _) (by omega) (by omega) _ HB.out).mono ?_; rintro e w' ⟨t2, rfl, ht2, hB⟩; replace hn := below_sl hB hn; replace hd := below_sl hB hd; replace hBt := grow0 hBt hB)
        | (go_at_call 70; refine (add_any _ _ _ _ hp hq (D.lim_u16 _) (D.lim_u16 _) (by omega) (by omega) (V + V) HA.out).mono ?_; rintro e w' ⟨s, rfl, hs, hB⟩; replace ht := below_sl hB ht; replace hd := below_sl hB hd; replace hBt := grow0 hBt hB)
        | (go_at_call 68; refine (Limbs_any _ _ hs (D.lim_u16 _) (by omega) (V + V) HA2.out).mono ?_; rintro e w' ⟨n2, rfl, hn, hB⟩; replace ht := below_sl hB ht; replace hd := below_sl hB hd; replace hBt := grow0 hBt hB))
      go_roundg (4294967296 ^ (k1 + 1) - (V + V)).toNat
      case measure => have h := HG.out; omega
      case rel => exact ⟨V + V, j + 1, rfl, HV'.out, hn, by rw [Int.toNat_natCast] at ht2; exact ht2, hd, hBt⟩
    · obtain ⟨NX, hNX⟩ : ∃ n, val X = n := ⟨_, rfl⟩
      have HX : Hid (val X = NX) := hNX
      have nX : 0 ≤ NX := hNX ▸ val_nonneg uX
      have bX := val_lt uX
      rw [hNX] at bX
      have dX : (D.lim NX.toNat).length ≤ 2 * X.length := D.lim_fits nX (by rw [pow16_32]; exact bX)
      obtain ⟨EN, hEN⟩ : ∃ n, (val E).toNat = n := ⟨_, rfl⟩
      obtain ⟨bl, hbl⟩ : ∃ bl, bitLen EN = bl := ⟨_, rfl⟩
      have HBL : Hid (bitLen (val E).toNat = bl ∧ (val E).toNat = EN ∧ EN < 2 ^ bl ∧ bl ≤ 32 * E.length) := by
        refine ⟨by rw [hEN]; exact hbl, hEN, by rw [← hbl]; exact (bitLen_spec EN).1, ?_⟩
        rw [← hbl, ← hEN]
        refine bitLen_lt ?_
        have h4 := val_lt uE
        have h6 : (((val E).toNat : Nat) : Int) < ((2 ^ (32 * E.length) : Nat) : Int) := by
          rw [Int.toNat_of_nonneg (val_nonneg uE), Int.natCast_pow, Int.pow_mul]; exact h4
        exact Int.ofNat_lt.1 h6
      have hbl8 : bl ≤ 8192 := by have := HBL.out.2.2.2; omega
      have hVp : 1 < V := by
        obtain ⟨h3, h4, h5⟩ := HT.out
        have h6 : 1 * x ≤ 4294967296 ^ k1 * x := Int.mul_le_mul_of_nonneg_right (by have := pow_pos32 k1; omega) ux1
        omega
      have hV0' : 0 < V := by omega
      obtain ⟨x0, hx0⟩ : ∃ x0, NX % V = x0 := ⟨_, rfl⟩
      have x00 : 0 ≤ x0 := by rw [← hx0]; exact Int.emod_nonneg _ (by omega)
      have x01 : x0 < V := by rw [← hx0]; exact Int.emod_lt_of_pos _ hV0'
      have HMU : Hid (D.val (D.lim M.toNat) * D.val (D.lim (2 ^ j)) = V) := by
        show D.val (D.lim M.toNat) * D.val (D.lim (2 ^ j)) = V
        rw [HVM.out, D.val_lim, HV.out.1, Int.natCast_pow]; rfl
      have HXM : Hid (D.val (D.lim NX.toNat) % V = x0) := by rw [D.val_limI nX]; exact hx0
      have HX0 : Hid (D.val (D.lim x0.toNat) = x0) := D.val_limI x00
      have l0 : (D.lim x0.toNat).length ≤ 512 := by
        have := D.lim_fits (n := x0) (k := 2 * (k1 + 1)) x00 (by rw [pow16_32]; have := HV.out.2.2; omega); omega
      have l1 : (lim x0.toNat).length ≤ k1 + 1 := lim_fits x00 (by have := HV.out.2.2; omega)
      have HVX : Hid (val (lim x0.toNat) = NX % V) := by rw [val_limI x00]; exact hx0.symm
      have HVV : Hid (val (lim V.toNat) = V) := val_limI hV0
      have HD : Hid (M ∣ V) := ⟨2 ^ j, HV.out.1⟩
      have hlen' : (lim V.toNat).length ≤ k1 + 1 := by omega
      have hX' := below_sl hBt hX
      have hE' := below_sl hBt hE
      have HR : Hid (expS X E Y = (lim (NX ^ EN % M).toNat, 0)) := by unfold expS; rw [if_neg HNL.out.1, HY.out, if_neg HNL.out.2, hNX, hEN]; rfl
      have ldm : (D.lim M.toNat).length ≤ 512 := by rw [HLD.out]; exact ldl
      clear hgk hx hrm HT hNX bX hEN hbl hx0 x00 x01 hX hE hY HV hlen
      go_wp2_with (first
        | (go_at_call 71; replace hwb := hwb; replace hbw := hbw; refine (wide_any _ [1] (Arr.sl (S := [1]) (arr_new rfl rfl)) (u1 (by decide) (by decide)) (k1 + 1) (by simp) (by omega)).mono ?_; rintro e w' ⟨ro, Lo, rfl, lo1, lo2, lo3, ho, hB⟩; replace hwb := below_sl hB (al1 hwb); replace hbw := below_sl hB (al1 hbw); replace hE' := below_sl hB (al1 hE'); replace hd := below_sl hB (al1 hd); replace hBt := grow0 (al hBt) hB)
        | (go_at_call 71; replace hwb := hwb; refine (wide_any _ _ hxl (lim_u32 _) (k1 + 1) l1 (by omega)).mono ?_; rintro e w' ⟨rb, Lb, rfl, lb1, lb2, lb3, hbw, hB⟩; replace hwb := below_sl hB hwb; replace hE' := below_sl hB hE'; replace hd := below_sl hB hd; replace hBt := grow0 hBt hB)
        | (go_at_call 71; refine (wide_any _ _ hm (lim_u32 _) (k1 + 1) hlen' (by omega)).mono ?_; rintro e w' ⟨rp, Lp, rfl, lp1, lp2, lp3, hwb, hB⟩; replace hX' := below_sl hB hX'; replace hE' := below_sl hB hE'; replace hd := below_sl hB hd; replace ht := below_sl hB ht; replace hBt := grow0 hBt hB; obtain ⟨ap, cp, hvp, _⟩ := hwb.len; rw [lp1] at hvp; subst hvp)
        | (go_at_call 43; refine (Digits_any _ X hX' uX (by omega) NX HX.out).mono ?_; rintro e w' ⟨q, rfl, hq, hB⟩; replace hwb := below_sl hB hwb; replace hE' := below_sl hB hE'; replace hd := below_sl hB hd; replace ht := below_sl hB ht; replace hBt := grow0 hBt hB)
        | (go_at_call 73; refine (mul_any _ _ _ _ hd ht (D.lim_u16 _) (D.lim_u16 _) (by omega) (by omega) V HMU.out).mono ?_; rintro e w' ⟨s, rfl, hs, hB⟩; replace hq := below_sl hB hq; replace hwb := below_sl hB hwb; replace hE' := below_sl hB hE'; replace hd := below_sl hB hd; replace hBt := grow0 hBt hB)
        | (go_at_call 72; refine (divmod_any _ _ _ V hq hs (D.lim_u16 _) hV0' (by omega) (by omega) _ x0 rfl HXM.out).mono ?_; rintro e w' ⟨qq, rr, rfl, _, hrr, hB⟩; replace hwb := below_sl hB hwb; replace hE' := below_sl hB hE'; replace hd := below_sl hB hd; replace hBt := grow0 hBt hB)
        | (go_at_call 68; refine (Limbs_any _ _ hrr (D.lim_u16 _) (by omega) x0 HX0.out).mono ?_; rintro e w' ⟨xl, rfl, hxl, hB⟩; replace hwb := below_sl hB hwb; replace hE' := below_sl hB hE'; replace hd := below_sl hB hd; replace hBt := grow0 hBt hB)
        | (go_at_call 18; refine (RBits_any _ E hE' uE (by omega) _ rfl).mono ?_; rintro e w5 ⟨rfl, hB⟩; rw [HBL.out.1]; replace ho := below_sl hB ho; replace hwb := below_sl hB hwb; replace hbw := below_sl hB hbw; replace hE' := below_sl hB hE'; replace hd := below_sl hB hd; replace hBt := grow0 hBt hB))
      have one : val [1] = 1 := by decide
      rw [one] at lo3
      rw [HVX.out] at lb3
      rw [HVV.out] at lp3
      have HLP : Hid (val Lp = V ∧ val Lb = NX % V) := ⟨lp3, lb3⟩
      have hLp0 : 0 < val Lp := by rw [lp3]; exact hV0'
      have HST : Hid (Lo.length = k1 + 1 ∧ U32s Lo ∧ val Lo = NX ^ (EN / 2 ^ bl) % V ∧ Sl .u64 w5 ro Lo) := by
        refine ⟨lo1, lo2, ?_, ho⟩
        rw [lo3, Nat.div_eq_of_lt HBL.out.2.2.1, Int.pow_zero]; exact (Int.emod_eq_of_lt (by decide) hVp).symm
      obtain ⟨au, cu, hvu, hcu⟩ := hE'.len
      subst hvu
      clear one lo1 lo2 lo3 ho lp3 lb3 hxl hrr hm ht hs hq hX'
      go_loopw [14, 15] (fun ov iv wr => ∃ (k : Nat) (Lo : List Int), iv = .int .i64 ((k : Int) - 1) ∧ k ≤ bl ∧ Lo.length = k1 + 1 ∧ U32s Lo ∧ Hid (val Lo = NX ^ (EN / 2 ^ k) % V) ∧ Sl .u64 wr ov Lo ∧ Below w5.heap.size w5 wr) (fun _ iv _ => (intOf iv + 1).toNat)
      case atStart => exact ⟨bl, Lo, by go_num, Nat.le_refl _, HST.out.1, HST.out.2.1, HST.out.2.2.1, HST.out.2.2.2, Below.refl _ _⟩
      case round =>
        clear HST
        obtain ⟨k0, Lo, rfl, hk, lo1, uLo, HLo, ho, hB5⟩ := hrel
        cases k0 with
        | zero =>
          have em : (((0 : Nat) : Int) - 1) = -1 := by rfl
          rw [em]
          clear em
          obtain ⟨ao, co, hvo, hco⟩ := ho.len
          rw [lo1] at hvo hco
          subst hvo
          obtain ⟨bo, oo, hbo, hbol, hro⟩ : ∃ b off, ao = some ⟨b, off, none⟩ ∧ b < wr.heap.size ∧ Rd .u64 wr b off Lo := by
            obtain ⟨a', c', h3, _, h4⟩ := id ho
            simp only [Value.slice.injEq] at h3
            obtain ⟨rfl, _, _⟩ := h3
            rcases h4 with h4 | ⟨b, off, rfl, hb, hr⟩
            · rw [h4] at lo1; simp at lo1
            · exact ⟨b, off, rfl, hb, hr⟩
          subst hbo
          obtain ⟨w6, hw6⟩ : ∃ w6, wr = w6 := ⟨_, rfl⟩
          rw [hw6] at ho hB5 hbol hro ⊢
          clear hw6
          have HRO : Hid (Rd .u64 w6 bo oo Lo) := hro
          have hd6 := below_sl hB5 hd
          have hBt6 := grow0 hBt hB5
          clear hro ho hd hBt hwb hbw hE'
          go_wp2
          go_loopw [16, 17] (fun lv iv wr => ∃ i : Nat, iv = .int .i64 i ∧ i ≤ k1 + 1 ∧ Row .u32 38 w6.heap.size wr lv (Lo.take i) ∧ Below w6.heap.size w6 wr) (fun _ iv _ => k1 + 1 - (intOf iv).toNat)
          case atStart => exact ⟨0, rfl, by omega, Row.nil _ _ _ _, Below.refl _ _⟩
          case round =>
            obtain ⟨i, rfl, hi, hrow, hBr⟩ := hrel
            by_cases hlt : i < k1 + 1
            · obtain ⟨y, hy⟩ : ∃ y, Lo.getD i 0 = y := ⟨_, rfl⟩
              have uy : U32 y := hy ▸ uLo.at i
              obtain ⟨uy1, uy2⟩ := uy
              have hcy : wr.cell? ⟨bo, oo + i, none⟩ = some (.int .u64 y) := by rw [hBr.cell hbol, HRO.out i (by omega), hy]
              have hsz : w6.heap.size ≤ wr.heap.size := hBr.size
              have HH : Hid (Lo.take (i + 1) = Lo.take i ++ [y] ∧ Below w6.heap.size w6 wr ∧ (Lo.take i).length = i) := ⟨by rw [D.take_snoc Lo (by omega), hy], hBr, by simp; omega⟩
              clear hy hBr
              go_wp2_with (at_builtin; refine wpList_ap rfl (.tmp 105) (.tmp 111) 24 24 rfl .u32 38 4 Tryz.und32 Tryz.info32 (by decide) w6.heap.size _ (Lo.take i) (by rfl) (hrow.alloc _) _ [y] (by rfl) (src_sl Tryz.und32 (Arr.sl (S := [y]) (arr_new rfl rfl))) (by rw [HH.out.2.2]; simp only [List.length_singleton]; omega) (by simp; omega) ?_; intro v1 w7 hr1 hg1; have hB7 := hg1.below (hrow.alloc _) (by simp; omega))
              go_roundw
              case rel => exact ⟨i + 1, by go_num, by omega, by rw [HH.out.1]; exact hr1, (al HH.out.2.1).trans hB7⟩
              case measure => simp [intOf]; omega
            · have hfull : Lo.take i = Lo := List.take_of_length_le (by omega)
              rw [hfull] at hrow
              have hs := hrow.sl
              obtain ⟨R, hR⟩ : ∃ R, val Lo % M = R := ⟨_, rfl⟩
              have R0 : 0 ≤ R := by rw [← hR]; exact Int.emod_nonneg _ (by omega)
              have R1 : R < M := by rw [← hR]; exact Int.emod_lt_of_pos _ hM
              obtain ⟨NL, hNL⟩ : ∃ NL, val Lo = NL := ⟨_, rfl⟩
              have nNL : 0 ≤ NL := hNL ▸ val_nonneg uLo
              have HNLo : Hid (val Lo = NL) := hNL
              have lNL : (D.lim NL.toNat).length ≤ 512 := by
                have h3 := val_lt uLo; rw [hNL, lo1] at h3
                have := D.lim_fits (n := NL) (k := 2 * (k1 + 1)) nNL (by rw [pow16_32]; exact h3); omega
              have HDM : Hid (D.val (D.lim NL.toNat) % M = R) := by rw [D.val_limI nNL, ← hNL]; exact hR
              have lR : (D.lim R.toNat).length ≤ 512 := by
                have := HMb.out.2
                have := D.lim_fits (n := R) (k := 2 * (k1 + 1)) R0 (by rw [pow16_32]; omega); omega
              have HVR : Hid (D.val (D.lim R.toNat) = R) := D.val_limI R0
              have HFin : Hid (expS X E Y = (lim R.toNat, 0)) := by
                have h3 := HLo.out
                rw [Nat.pow_zero, Nat.div_one] at h3
                rw [HR.out, ← hR, h3, Int.emod_emod_of_dvd _ HD.out]; rfl
              have hd7 := below_sl hBr hd6
              have hBt7 := grow0 hBt6 hBr
              have hloL : Lo.length ≤ 256 := by omega
              clear hfull hrow hR hNL R0 R1
              go_wp2_with (first
                | (go_at_call 43; refine (Digits_any _ Lo hs uLo (by omega) NL HNLo.out).mono ?_; rintro e w' ⟨q, rfl, hq, hB⟩; replace hd7 := below_sl hB hd7; replace hBt7 := grow0 hBt7 hB)
                | (go_at_call 72; refine (divmod_any _ _ _ M hq hd7 (D.lim_u16 _) hM (by omega) (by omega) _ R rfl HDM.out).mono ?_; rintro e w' ⟨qq2, rr2, rfl, _, hrr, hB⟩; replace hBt7 := grow0 hBt7 hB)
                | (go_at_call 68; refine (Limbs_any _ _ hrr (D.lim_u16 _) (by omega) R HVR.out).mono ?_; rintro e w' ⟨xl2, rfl, hxl, hB⟩; replace hBt7 := grow0 hBt7 hB))
              go_ret2
              exact ⟨RTwo.mk' hxl HFin.out, hBt7⟩
        | succ k =>
          have em : (((k + 1 : Nat) : Int) - 1) = (k : Int) := by omega
          rw [em]
          clear em
          have hkE : k < 32 * E.length := by have := HBL.out.2.2.2; omega
          obtain ⟨be, oe, hbe, hbel, hre⟩ : ∃ b off, au = some ⟨b, off, none⟩ ∧ b < w5.heap.size ∧ Rd .u32 w5 b off E := by
            obtain ⟨a', c', h3, _, h4⟩ := id hE'
            simp only [Value.slice.injEq] at h3
            obtain ⟨rfl, _, _⟩ := h3
            rcases h4 with h4 | ⟨b, off, rfl, hb, hr⟩
            · rw [h4] at hkE; simp at hkE
            · exact ⟨b, off, rfl, hb, hr⟩
          subst hbe
          obtain ⟨qd, hqd⟩ : ∃ q, k / 32 = q := ⟨_, rfl⟩
          obtain ⟨sh, hsh⟩ : ∃ s, k % 32 = s := ⟨_, rfl⟩
          obtain ⟨y, hy⟩ : ∃ y, E.getD qd 0 = y := ⟨_, rfl⟩
          have uy : U32 y := hy ▸ uE.at _
          obtain ⟨uy1, uy2⟩ := uy
          have HCY : Hid (∀ w', Below w5.heap.size w5 w' → w'.cell? ⟨be, oe + qd, none⟩ = some (.int .u32 y)) := fun w' hw' => by rw [hw'.cell hbel, hre qd (by omega), hy]
          have HB : Hid (EN / 2 ^ k % 2 = y.toNat / 2 ^ sh % 2) := by
            show EN / 2 ^ k % 2 = y.toNat / 2 ^ sh % 2
            rw [← bit_eq, hqd, hsh, ← HBL.out.2.1, getD_div E qd uE, hy]
          have hqi : (k : Int) / 32 = qd := by omega
          have hsi : (k : Int) % 32 = sh := by omega
          have hs32 : sh < 32 := by omega
          have hqE : qd < E.length := by omega
          have hp2 : 0 < (2 : Int) ^ sh := Int.pow_pos (by decide)
          have hd0 : 0 ≤ y / 2 ^ sh := Int.ediv_nonneg uy1 (Int.le_of_lt hp2)
          have hd1 : y / 2 ^ sh < 4294967296 := Int.lt_of_le_of_lt (Int.ediv_le_self _ uy1) uy2
          have hand := and1 (y / 2 ^ sh) hd0 hd1
          have hcast : ((y.toNat / 2 ^ sh % 2 : Nat) : Int) = y / 2 ^ sh % 2 := by
            obtain ⟨n, rfl⟩ := Int.eq_ofNat_of_zero_le uy1
            simp
          obtain ⟨btv, hbt⟩ : ∃ bt, y / 2 ^ sh % 2 = bt := ⟨_, rfl⟩
          rw [hbt] at hand hcast
          have hb01 : btv = 0 ∨ btv = 1 := by omega
          have HB2 : Hid (EN / 2 ^ k % 2 = btv.toNat) := by
            show EN / 2 ^ k % 2 = btv.toNat
            rw [HB.out]; omega
          have hp5 := below_sl hB5 hwb
          have hb5 := below_sl hB5 hbw
          clear hqd hsh hy hbt hcast HB hre
          rcases hb01 with rfl | rfl
          · have HN : Hid (∀ L : List Int, val L = val Lo * val Lo % val Lp → val L = NX ^ (EN / 2 ^ k) % V) := fun L hL => by
              rw [hL, HLP.out.1, HLo.out, pow_dbl, half_eq EN k, HB2.out]; simp
            go_wp2_with (go_at_call 74; refine (product64_any _ _ _ Lo Lo Lp ho ho hp5 uLo uLo lp2 k1 lo1 lo1 lp1 (by omega) hLp0).mono ?_; rintro e w7 ⟨r1, L1, rfl, l11, l12, l13, hr1, hB7⟩; have hcy := HCY.out w7 (hB5.trans (hB7.mono hB5.size)))
            go_roundw
            case rel => exact ⟨k, L1, by go_num, by omega, l11, l12, HN.out L1 l13, hr1, hB5.trans (hB7.mono hB5.size)⟩
            case measure => simp [intOf]
          · have HN : Hid (∀ L L2 : List Int, val L = val Lo * val Lo % val Lp → val L2 = val L * val Lb % val Lp → val L2 = NX ^ (EN / 2 ^ k) % V) := fun L L2 hL hL2 => by
              rw [hL2, hL, HLP.out.1, HLP.out.2, HLo.out, pow_dbl, pow_dbl1, half_eq EN k, HB2.out]; simp
            go_wp2_with (first
              | (go_at_call 74; replace hcy := hcy; refine (product64_any _ _ _ L1 Lb Lp hr1 hb5 hp5 l12 lb2 lp2 k1 l11 lb1 lp1 (by omega) hLp0).mono ?_; rintro e w8 ⟨r2, L2, rfl, l21, l22, l23, hr2, hB8⟩)
              | (go_at_call 74; refine (product64_any _ _ _ Lo Lo Lp ho ho hp5 uLo uLo lp2 k1 lo1 lo1 lp1 (by omega) hLp0).mono ?_; rintro e w7 ⟨r1, L1, rfl, l11, l12, l13, hr1, hB7⟩; have hB57 := hB5.trans (hB7.mono hB5.size); have hcy := HCY.out w7 hB57; replace hp5 := below_sl hB7 hp5; replace hb5 := below_sl hB7 hb5))
            go_roundw
            case rel => exact ⟨k, L2, by go_num, by omega, l21, l22, HN.out L1 L2 l13 l23, hr2, hB57.trans (hB8.mono hB57.size)⟩
            case measure => simp [intOf]
end Go.Proofs.YtjmiaakfdclfjaaGreatDoor.Nt
/-
  The walk of the reference's Bytes.
-/
namespace Go.Proofs.YtjmiaakfdclfjaaGreatDoor.Nt
open Go.RowKit

def RTwo8 (w : World) (e : Ending) (s : List Int × Int) : Prop := ∃ r, e = .returned (.tuple #[r, .int .i64 s.2]) ∧ Sl .u8 w r s.1
theorem RTwo8.nil' {w : World} {n : Int} {s : List Int × Int} (hs : s = ([], n)) : RTwo8 w (.returned (.tuple #[.slice none 0 0, .int .i64 n])) s := by
  subst hs; exact ⟨_, rfl, ⟨none, 0, rfl, Nat.le_refl _, .inl rfl⟩⟩
theorem RTwo8.mk' {w : World} {r : Value} {n : Int} {L : List Int} {s : List Int × Int} (h : Sl .u8 w r L) (hs : s = (L, n)) : RTwo8 w (.returned (.tuple #[r, .int .i64 n])) s := by
  subst hs; exact ⟨r, rfl, h⟩
theorem digit_of {xs : List Int} (hu : D.U16s xs) (i : Nat) : D.val xs / 65536 ^ i % 65536 = xs.getD i 0 := by
  have h := D.getD_div xs i hu
  have h0 := D.val_nonneg hu
  have h1 := hu.at i; unfold D.U16 at h1
  obtain ⟨n, hn⟩ := Int.eq_ofNat_of_zero_le h0
  rw [hn] at h ⊢
  have e : ((n / 2 ^ (16 * i) % 65536 : Nat) : Int) = (n : Int) / 65536 ^ i % 65536 := by
    rw [Int.natCast_emod, Int.natCast_ediv, Int.natCast_pow, Int.pow_mul]; rfl
  rw [← e]
  simp only [Int.toNat_natCast] at h
  rw [h]; omega
theorem byte_even (N : Int) (i q : Nat) (h : i = 2 * q) : N / 65536 ^ q % 65536 % 256 = N / 256 ^ i % 256 := by
  subst h
  rw [Int.pow_mul, show ((256 : Int) ^ 2) = 65536 by decide]
  omega
theorem byte_odd (N : Int) (i q : Nat) (h : i = 2 * q + 1) : N / 65536 ^ q % 65536 / 256 % 256 = N / 256 ^ i % 256 := by
  subst h
  have e : (256 : Int) ^ (2 * q + 1) = 65536 ^ q * 256 := by rw [Int.pow_succ, Int.pow_mul, show ((256 : Int) ^ 2) = 65536 by decide]
  rw [e, ← Int.ediv_ediv_of_nonneg (Int.pow_nonneg (by decide))]
  omega

theorem bitLen_val {X : List Int} (uX : U32s X) : bitLen (val X).toNat ≤ 32 * X.length := by
  refine bitLen_lt ?_
  have h4 := val_lt uX
  have h6 : (((val X).toNat : Nat) : Int) < ((2 ^ (32 * X.length) : Nat) : Int) := by
    rw [Int.toNat_of_nonneg (val_nonneg uX), Int.natCast_pow, Int.pow_mul]; exact h4
  exact Int.ofNat_lt.1 h6

set_option maxHeartbeats 2000000 in
theorem RBytes_any (X : List Int) (n : Int) (v : Value) (w : World) (hX : Sl .u32 w v X) (uX : U32s X) (hn0 : -9223372036854775808 ≤ n) (hn1 : n ≤ 9223372036854775807) :
    Calls Tryz.prog 46 #[v, .int .i64 n] w fun e w' => RTwo8 w' e (bytS X n) ∧ Below w.heap.size w w' := by
  have hX0 := hX
  obtain ⟨a, c, hv, _⟩ := hX.len
  subst hv
  have hBt : Below w.heap.size w w := Below.refl _ _
  by_cases h1 : 512 < X.length
  · have HL : Hid (bytS X n = ([], 3)) := by unfold bytS; rw [if_pos h1]; rfl
    go_enter Tryz.func46, Tryz.ntmps46
    go_wp2
    go_ret2
    exact ⟨RTwo8.nil' HL.out, hBt⟩
  by_cases h2 : n < 0
  · have HL : Hid (bytS X n = ([], 1)) := by unfold bytS; rw [if_neg h1, if_pos (.inl h2)]; rfl
    go_enter Tryz.func46, Tryz.ntmps46
    go_wp2
    go_ret2
    exact ⟨RTwo8.nil' HL.out, hBt⟩
  by_cases h3 : 2048 < n
  · have HL : Hid (bytS X n = ([], 1)) := by unfold bytS; rw [if_neg h1, if_pos (.inr h3)]; rfl
    go_enter Tryz.func46, Tryz.ntmps46
    go_wp2
    go_ret2
    exact ⟨RTwo8.nil' HL.out, hBt⟩
  obtain ⟨m, rfl⟩ : ∃ m : Nat, n = m := ⟨n.toNat, by omega⟩
  have hm : m ≤ 2048 := by omega
  obtain ⟨N, hN⟩ : ∃ N, val X = N := ⟨_, rfl⟩
  have nN : 0 ≤ N := hN ▸ val_nonneg uX
  have HN : Hid (val X = N) := hN
  have hls : X.length ≤ 512 := by omega
  obtain ⟨bl, hbl⟩ : ∃ bl, bitLen N.toNat = bl := ⟨_, rfl⟩
  have HBL : Hid (bitLen N.toNat = bl) := hbl
  have hbl2 : bl ≤ 16384 := by
    have := bitLen_val uX
    rw [hN, hbl] at this; omega
  have bX := val_lt uX
  rw [hN] at bX
  have dN : (D.lim N.toNat).length ≤ 1024 := by
    have := D.lim_fits (k := 2 * X.length) nN (by rw [pow16_32]; exact bX)
    omega
  by_cases h4 : 8 * m < bl
  · have HL : Hid (bytS X m = ([], 3)) := by unfold bytS; rw [if_neg h1, if_neg (by omega), hN, hbl, if_pos (by omega)]; rfl
    clear hN hbl bX
    go_enter Tryz.func46, Tryz.ntmps46
    go_wp2_with (first
      | (go_at_call 43; refine (Digits_any _ X hX uX (by omega) N HN.out).mono ?_; rintro e w' ⟨d, rfl, hd, hB⟩; replace hX := below_sl hB hX; replace hBt := grow0 hBt hB)
      | (go_at_call 18; refine (RBits_any _ X hX uX (by omega) N HN.out).mono ?_; rintro e w' ⟨rfl, hB⟩; rw [HBL.out]; replace hBt := grow0 hBt hB))
    go_ret2
    exact ⟨RTwo8.nil' HL.out, hBt⟩
  have HL : Hid (bytS X m = (beb N m, 0)) := by unfold bytS; rw [if_neg h1, if_neg (by omega), hN, hbl, if_neg (by omega)]; rfl
  clear hN hbl bX
  go_enter Tryz.func46, Tryz.ntmps46
  go_wp2_with (first
    | (go_at_call 43; refine (Digits_any _ X hX uX (by omega) N HN.out).mono ?_; rintro e w' ⟨d, rfl, hd, hB⟩; replace hX := below_sl hB hX; replace hBt := grow0 hBt hB)
    | (go_at_call 18; refine (RBits_any _ X hX uX (by omega) N HN.out).mono ?_; rintro e w3 ⟨rfl, hB⟩; rw [HBL.out]; replace hd := below_sl hB hd; replace hBt := grow0 hBt hB)
    | (at_make; refine wpList_mk _ rfl _ _ 22 rfl .u8 5 1 Tryz.und8 Tryz.info8 _ m rfl rfl rfl (by omega) (by omega) ?_; intro w4 hA4 hB4))
  obtain ⟨b4, hb4⟩ : ∃ b4, w3.heap.size = b4 := ⟨_, rfl⟩
  rw [hb4] at hA4
  rw [hb4]
  have HB3 : Hid (Below w.heap.size w w3 ∧ w3.heap.size = b4) := ⟨hBt, hb4⟩
  clear hBt
  go_loopw [8] (fun iv wr => ∃ (i : Nat) (S : List Int), iv = .int .i64 i ∧ i ≤ m ∧ Arr .u8 5 wr b4 S ∧ S.length = m ∧ (∀ j, j < i → S.getD (m - 1 - j) 0 = N / 256 ^ j % 256) ∧ Below w3.heap.size w3 wr) (fun iv _ => m - (intOf iv).toNat)
  case atStart => exact ⟨0, _, rfl, Nat.zero_le _, hA4, by simp, fun j hj => by omega, hB4⟩
  case round =>
    clear hA4 hB4
    obtain ⟨i, S, rfl, hi, hS, lS, hg, hBr⟩ := hrel
    by_cases hlt : i < m
    · obtain ⟨q, hq⟩ : ∃ q, i / 2 = q := ⟨_, rfl⟩
      obtain ⟨p, hp⟩ : ∃ p, m - 1 - i = p := ⟨_, rfl⟩
      obtain ⟨y, hy⟩ : ∃ y, (D.lim N.toNat).getD q 0 = y := ⟨_, rfl⟩
      have uy : D.U16 y := hy ▸ (D.lim_u16 _).at q
      obtain ⟨uy1, uy2⟩ := uy
      have hyv : N / 65536 ^ q % 65536 = y := by rw [← hy, ← digit_of (D.lim_u16 _) q, D.val_limI nN]
      have hqi : (i : Int) / 2 = q := by omega
      have hpi : (m : Int) - 1 - i = p := by omega
      have hd1 := digit_nat _ (D.lim N.toNat) (below_sl hBr hd) (by omega) q (by omega) y hy
      obtain ⟨s, hs⟩ : ∃ s, S.getD p 0 = s := ⟨_, rfl⟩
      have hcs := hS.cell p (by omega)
      rw [hs] at hcs
      have hfs := hS.frozen p
      have HH : Hid (Arr .u8 5 wr b4 S ∧ S.length = m ∧ (∀ j, j < i → S.getD (m - 1 - j) 0 = N / 256 ^ j % 256) ∧ Below w3.heap.size w3 wr ∧ m - 1 - i = p) := ⟨hS, lS, hg, hBr, hp⟩
      have hpm : p < m := by omega
      have done : ∀ x : Int, x = N / 256 ^ i % 256 → ∀ j, j < i + 1 → (S.set p x).getD (m - 1 - j) 0 = N / 256 ^ j % 256 := fun x hx j hj => by
        by_cases hji : j = i
        · subst hji
          rw [hp, List.getD_eq_getElem?_getD, List.getElem?_set_self (by omega)]; simpa using hx
        · rw [List.getD_eq_getElem?_getD, List.getElem?_set_ne (by omega), ← List.getD_eq_getElem?_getD]; exact hg j (by omega)
      have HDn : Hid (∀ x : Int, x = N / 256 ^ i % 256 → ∀ j, j < i + 1 → (S.set p x).getD (m - 1 - j) 0 = N / 256 ^ j % 256) := done
      rcases Nat.mod_two_eq_zero_or_one i with he | ho
      · have hri : (i : Int) % 2 = 0 := by omega
        have HV : Hid (y % 256 = N / 256 ^ i % 256) := by rw [← hyv]; exact byte_even N i q (by omega)
        clear hS lS hg hBr hp hy hyv hs done hq he
        go_wp2_with (go_at_call 75; refine hd1.mono ?_; rintro e w' ⟨rfl, rfl⟩)
        go_roundw
        case rel =>
          obtain ⟨hS, lS, hg, hBr, hp⟩ := HH.out
          exact ⟨i + 1, S.set p (y % 256), by go_num, by omega, hS.set _ _, by simpa using lS, HDn.out _ HV.out, hBr.setCell (show w3.heap.size ≤ b4 by have := HB3.out.2; omega) _⟩
        case measure => simp [intOf]; omega
      · have hri : (i : Int) % 2 = 1 := by omega
        have HV : Hid (y / 256 = N / 256 ^ i % 256) := by
          have h7 := byte_odd N i q (by omega)
          rw [hyv] at h7
          show y / 256 = N / 256 ^ i % 256
          rw [← h7]; omega
        clear hS lS hg hBr hp hy hyv hs done hq ho
        go_wp2_with (go_at_call 75; refine hd1.mono ?_; rintro e w' ⟨rfl, rfl⟩)
        go_roundw
        case rel =>
          obtain ⟨hS, lS, hg, hBr, hp⟩ := HH.out
          exact ⟨i + 1, S.set p (y / 256), by go_num, by omega, hS.set _ _, by simpa using lS, HDn.out _ HV.out, hBr.setCell (show w3.heap.size ≤ b4 by have := HB3.out.2; omega) _⟩
        case measure => simp [intOf]; omega
    · have him : i = m := by omega
      have hS' : S = beb N m := getD_ext (by rw [beb_len]; exact lS) (fun k hk => by
        rw [beb_get N m k (by omega)]
        have := hg (m - 1 - k) (by omega)
        rw [show m - 1 - (m - 1 - k) = k by omega] at this; exact this)
      have hs := hS.sl8
      rw [lS] at hs
      have hs' : Sl .u8 wr (.slice (some ⟨b4, 0, none⟩) m m) (beb N m) := by rw [← hS']; exact hs
      clear hS hg hs hS' lS him
      go_wp2
      go_ret2
      exact ⟨RTwo8.mk' hs' HL.out, HB3.out.1.trans (hBr.mono HB3.out.1.size)⟩
end Go.Proofs.YtjmiaakfdclfjaaGreatDoor.Nt
/-
  The walks of the reference's Small and FromBytes.
-/
namespace Go.Proofs.YtjmiaakfdclfjaaGreatDoor.Nt
open Go.RowKit

def joinB : List Int → List Int
  | [] => []
  | [d] => [d]
  | d :: e :: r => (d + 256 * e) :: joinB r
theorem joinB_val (n : Nat) : ∀ ds : List Int, ds.length ≤ n → D.val (joinB ds) = bv ds := by
  induction n with
  | zero => intro ds h; have : ds = [] := List.eq_nil_of_length_eq_zero (by omega); subst this; rfl
  | succ n ih =>
    intro ds h
    match ds with
    | [] => rfl
    | [d] => simp [joinB, bv, D.val]
    | d :: e :: r => simp only [joinB, bv, D.val]; rw [ih r (by simp at h; omega)]; omega
theorem joinB_u16 (n : Nat) : ∀ ds : List Int, ds.length ≤ n → U8s ds → D.U16s (joinB ds) := by
  induction n with
  | zero => intro ds h _; have : ds = [] := List.eq_nil_of_length_eq_zero (by omega); subst this; exact D.U16s.nil
  | succ n ih =>
    intro ds h hu
    match ds with
    | [] => exact D.U16s.nil
    | [d] => have := hu d (by simp); unfold U8 at this; exact D.U16s.cons ⟨by omega, by omega⟩ D.U16s.nil
    | d :: e :: r =>
      have h1 := hu d (by simp); have h2 := hu e (by simp); unfold U8 at h1 h2
      exact D.U16s.cons ⟨by omega, by omega⟩ (ih r (by simp at h; omega) hu.tail.tail)
theorem joinB_snoc (k : Nat) : ∀ ds : List Int, 2 * k < ds.length → joinB (ds.take (2 * (k + 1))) = joinB (ds.take (2 * k)) ++ [ds.getD (2 * k) 0 + 256 * ds.getD (2 * k + 1) 0] := by
  induction k with
  | zero =>
    intro ds h
    match ds with
    | [d] => simp [joinB]
    | d :: e :: r => simp [joinB]
  | succ k ih =>
    intro ds h
    match ds with
    | [d] => simp at h
    | d :: e :: r =>
      have := ih r (by simp at h; omega)
      have e1 : 2 * (k + 1 + 1) = 2 * (k + 1) + 2 := by omega
      have e2 : 2 * (k + 1) = 2 * k + 2 := by omega
      rw [e1, e2, List.take_succ_cons, List.take_succ_cons, List.take_succ_cons, List.take_succ_cons]
      simp only [joinB, List.cons_append]
      rw [show 2 * k + 2 = 2 * (k + 1) by omega, this]
      simp [show 2 * (k + 1) = 2 * k + 1 + 1 by omega]
theorem joinB_length_le (n : Nat) : ∀ ds : List Int, ds.length ≤ n → (joinB ds).length ≤ ds.length := by
  induction n with
  | zero => intro ds h; have : ds = [] := List.eq_nil_of_length_eq_zero (by omega); subst this; simp [joinB]
  | succ n ih =>
    intro ds h
    match ds with
    | [] => simp [joinB]
    | [d] => simp [joinB]
    | d :: e :: r => have := ih r (by simp at h; omega); simp only [joinB, List.length_cons]; omega

set_option maxHeartbeats 2000000 in
theorem RFromBytes_any (bs : List Int) (v : Value) (w : World) (hb : Sl .u8 w v bs) (ub : U8s bs) :
    Calls Tryz.prog 44 #[v] w fun e w' => RTwo w' e (fromS bs) ∧ Below w.heap.size w w' := by
  have hb0 := hb
  obtain ⟨a, c, hv, hc⟩ := hb.len
  subst hv
  by_cases hlong : 2048 < bs.length
  · have HL : Hid (fromS bs = ([], 3)) := by unfold fromS; rw [if_pos hlong]; rfl
    go_enter Tryz.func44, Tryz.ntmps44
    go_wp2
    go_ret2
    exact ⟨RTwo.nil' HL.out, Below.refl _ _⟩
  obtain ⟨rb, hrb⟩ : ∃ rb, bs.reverse = rb := ⟨_, rfl⟩
  have lrb : rb.length = bs.length := by rw [← hrb]; simp
  have urb : U8s rb := hrb ▸ ub.rev
  have hget : ∀ j, j < bs.length → rb.getD j 0 = bs.getD (bs.length - 1 - j) 0 := fun j hj => by
    rw [← hrb, List.getD_eq_getElem?_getD, List.getElem?_reverse hj, ← List.getD_eq_getElem?_getD]
  obtain ⟨N, hN⟩ : ∃ N, bv rb = N := ⟨_, rfl⟩
  have HL : Hid (fromS bs = (lim N.toNat, 0)) := by unfold fromS; rw [if_neg hlong, hrb, hN]; rfl
  have HN : Hid (bv rb = N) := hN
  have HG : Hid (∀ j, j < bs.length → rb.getD j 0 = bs.getD (bs.length - 1 - j) 0) := hget
  clear hrb hN hget
  go_enter Tryz.func44, Tryz.ntmps44
  go_wp2
  go_loopw [4, 5] (fun o i wr => ∃ j : Nat, j % 2 = 0 ∧ j ≤ bs.length + 1 ∧ i = .int .i64 ((bs.length : Int) - 1 - j) ∧ Row .u64 43 w.heap.size wr o (joinB (rb.take j)) ∧ Below w.heap.size w wr) (fun _ i _ => (intOf i + 2).toNat)
  case atStart => exact ⟨0, rfl, by omega, by go_num, Row.nil _ _ _ _, Below.refl _ _⟩
  case round =>
    obtain ⟨j, hj2, hj, rfl, hrow, hBt⟩ := hrel
    by_cases hlt : j < bs.length
    · obtain ⟨i, hi⟩ : ∃ i, bs.length - 1 - j = i := ⟨_, rfl⟩
      have hiI : (bs.length : Int) - 1 - j = (i : Int) := by omega
      obtain ⟨y, hy⟩ : ∃ y, rb.getD j 0 = y := ⟨_, rfl⟩
      obtain ⟨z, hz⟩ : ∃ z, rb.getD (j + 1) 0 = z := ⟨_, rfl⟩
      have uy : U8 y := hy ▸ urb.at j
      have uz : U8 z := hz ▸ urb.at (j + 1)
      obtain ⟨uy1, uy2⟩ := uy
      obtain ⟨uz1, uz2⟩ := uz
      obtain ⟨b, off, ha, hbb, hrd⟩ : ∃ b off, a = some ⟨b, off, none⟩ ∧ b < w.heap.size ∧ Rd .u8 w b off bs := by
        obtain ⟨a', c', h1, _, h2⟩ := hb0
        cases h1
        rcases h2 with rfl | ⟨b, off, rfl, hb, hr⟩
        · simp at hlt
        · exact ⟨b, off, rfl, hb, hr⟩
      subst ha
      have hcy : wr.cell? ⟨b, off + i, none⟩ = some (.int .u8 y) := by rw [hBt.cell hbb, hrd i (by omega), ← hi, ← HG.out j hlt, hy]
      have hsz : w.heap.size ≤ wr.heap.size := hBt.size
      have hlen : (joinB (rb.take j)).length ≤ j := by have := joinB_length_le _ (rb.take j) (Nat.le_refl _); simp at this; omega
      have HLn : Hid ((joinB (rb.take j)).length ≤ j) := hlen
      have hsn : joinB (rb.take (j + 2)) = joinB (rb.take j) ++ [y + 256 * z] := by
        have := joinB_snoc (j / 2) rb (by omega)
        rw [show 2 * (j / 2 + 1) = j + 2 by omega, show 2 * (j / 2) = j by omega, hy, hz] at this; exact this
      have HH : Hid (joinB (rb.take (j + 2)) = joinB (rb.take j) ++ [y + 256 * z] ∧ Below w.heap.size w wr ∧ (bs.length : Int) - 1 - j = (i : Int)) := ⟨hsn, hBt, hiI⟩
      by_cases hi0 : i = 0
      · have hz0 : z = 0 := by rw [← hz]; simp [List.getD, List.getElem?_eq_none (show rb.length ≤ j + 1 by omega)]
        subst hz0
        subst hi0
        have hi00 : (bs.length : Int) - 1 - j = 0 := by omega
        rw [hi00]
        simp only [Nat.add_zero] at hcy
        clear hi00
        clear hy hz hrd hsn hBt hlen hb0 hb hiI hi
        go_wp2_with (at_builtin; refine wpList_ap rfl (.tmp 33) (.tmp 35) 73 73 rfl .u64 43 8 Tryz.und64 Tryz.info64 (by decide) w.heap.size _ (joinB (rb.take j)) (by rfl) (hrow.alloc _) _ [y + 256 * 0] (by rfl) (src_sl Tryz.und64 (Arr.sl64 (S := [y + 256 * 0]) (arr_new rfl (by simp)))) (by have := HLn.out; simp only [List.length_singleton]; omega) (by simp; omega) ?_; intro v1 w1 hr1 hg1; have hB1 := hg1.below (hrow.alloc _) (by simp; omega))
        go_roundw
        case rel => exact ⟨j + 2, by omega, by omega, by have := HH.out.2.2; go_num, by rw [HH.out.1]; exact hr1, (al HH.out.2.1).trans hB1⟩
        case measure => simp [intOf]
      · obtain ⟨i', rfl⟩ : ∃ i', i = i' + 1 := ⟨i - 1, by omega⟩
        have hcz : wr.cell? ⟨b, off + i', none⟩ = some (.int .u8 z) := by rw [hBt.cell hbb, hrd i' (by omega), ← hz, HG.out (j + 1) (by omega)]; congr 3; omega
        have hib : i' + 1 < bs.length := by omega
        rw [hiI]
        clear hy hz hrd hsn hBt hlen hb0 hb hiI hi hi0
        go_wp2_with (at_builtin; refine wpList_ap rfl (.tmp 33) (.tmp 35) 73 73 rfl .u64 43 8 Tryz.und64 Tryz.info64 (by decide) w.heap.size _ (joinB (rb.take j)) (by rfl) (hrow.alloc _) _ [y + 256 * z] (by rfl) (src_sl Tryz.und64 (Arr.sl64 (S := [y + 256 * z]) (arr_new rfl (by simp; omega)))) (by have := HLn.out; simp only [List.length_singleton]; omega) (by simp; omega) ?_; intro v1 w1 hr1 hg1; have hB1 := hg1.below (hrow.alloc _) (by simp; omega))
        go_roundw
        case rel => exact ⟨j + 2, by omega, by omega, by have := HH.out.2.2; go_num, by rw [HH.out.1]; exact hr1, (al HH.out.2.1).trans hB1⟩
        case measure => simp [intOf]; omega
    · have hneg : (bs.length : Int) - 1 - j < 0 := by omega
      have hfull : rb.take j = rb := List.take_of_length_le (by omega)
      rw [hfull] at hrow
      have hs := hrow.sl
      have hlen : (joinB rb).length ≤ 2048 := by have := joinB_length_le _ rb (Nat.le_refl _); omega
      have hu := joinB_u16 _ rb (Nat.le_refl _) urb
      have HV : Hid (D.val (joinB rb) = N) := (joinB_val _ rb (Nat.le_refl _)).trans HN.out
      clear hfull hrow hb0 hb
      go_wp2_with (go_at_call 68; refine (Limbs_any _ (joinB rb) hs hu (by omega) N HV.out).mono ?_; rintro e w' ⟨o, rfl, ho, hB⟩; replace hBt := grow0 hBt hB)
      go_ret2
      exact ⟨RTwo.mk' ho HL.out, hBt⟩
end Go.Proofs.YtjmiaakfdclfjaaGreatDoor.Nt
