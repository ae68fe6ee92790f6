/-
  NatUndoes: whatever the three lists, the law answers true, and writes nothing that was there.
-/
import Derived.Test.YthkheocggcmooabV
namespace Go.Proofs.Ythkheocggcmooab
open Go.RowKit

theorem bez_ex {A M : Int} (n : Nat) : ∀ r x f g s, x.toNat ≤ n → (s = 1 ∨ s = -1) → Euc A M r x f g s → ∃ D G, Bez A M D G := by
  induction n with
  | zero =>
    intro r x f g s hx hs h
    have h0 : x = 0 := by have := h.x0; omega
    subst h0
    rcases hs with hs | hs
    · exact ⟨_, _, h.last hs⟩
    · by_cases hf : f = 0
      · subst hf; exact ⟨_, _, h.last0⟩
      · exact ⟨_, _, h.lastN hs (by have := h.f0; omega)⟩
  | succ n ih =>
    intro r x f g s hx hs h
    by_cases h0 : x = 0
    · subst h0; exact ih r 0 f g s (by omega) hs h
    · have hp : 0 < x := by have := h.x0; omega
      refine ih _ _ _ _ _ ?_ (by omega) (h.step hp)
      have := Int.emod_lt_of_pos r hp; have := Int.emod_nonneg r h0; omega
def HasInv (A M G : Int) : Prop := 0 ≤ G ∧ G < M ∧ ∃ t, A * G = 1 + M * t
def NoInv (A M : Int) : Prop := ∃ D, 1 < D ∧ D ∣ A ∧ D ∣ M
theorem inv_or (A : Int) {M : Int} (hM : 0 < M) : (∃ G, HasInv A M G) ∨ NoInv A M := by
  obtain ⟨D, G, h⟩ := bez_ex (A % M).toNat M (A % M) 0 1 (-1) (Nat.le_refl _) (.inr rfl) (Euc.start A hM)
  by_cases h1 : D = 1
  · subst h1; exact .inl ⟨G, h.one hM⟩
  · exact .inr ⟨D, by have := h.1; omega, (h.2.2.2.1 D).1 (Int.dvd_refl D)⟩
theorem no_inv {A M G D : Int} (h : HasInv A M G) (hD : 1 < D) (h1 : D ∣ A) (h2 : D ∣ M) : False := by
  obtain ⟨_, _, t, ht⟩ := h
  have e : (1 : Int) = A * G - M * t := by omega
  have : D ∣ 1 := by rw [e]; exact Int.dvd_sub (Int.dvd_trans h1 (Int.dvd_mul_right _ _)) (Int.dvd_trans h2 (Int.dvd_mul_right _ _))
  have := Int.le_of_dvd (by decide) this
  omega
theorem small_dvd {M x : Int} (h : M ∣ x) (h1 : x < M) (h2 : -M < x) : x = 0 := by
  obtain ⟨k, rfl⟩ := h
  have hM : 0 < M := by omega
  have h3 : k < 1 := by
    refine Int.lt_of_mul_lt_mul_left (a := M) ?_ (Int.le_of_lt hM); omega
  have h4 : -1 < k := by
    refine Int.lt_of_mul_lt_mul_left (a := M) ?_ (Int.le_of_lt hM); omega
  have : k = 0 := by omega
  subst this; simp
theorem inv_uniq {A M G H : Int} (h : HasInv A M G) (k : HasInv A M H) : G = H := by
  obtain ⟨g0, g1, t, ht⟩ := h
  obtain ⟨h0, h1, s, hs⟩ := k
  have hd : M ∣ G - H := ⟨H * t - G * s, by grind⟩
  have := small_dvd hd (by omega) (by omega)
  omega
theorem inv_back {A M G : Int} (h : HasInv A M G) (hM : 0 < M) : HasInv G M (A % M) := by
  obtain ⟨g0, g1, t, ht⟩ := h
  refine ⟨Int.emod_nonneg _ (by omega), Int.emod_lt_of_pos _ hM, t - A / M * G, ?_⟩
  have h1 := Int.mul_ediv_add_emod A M
  have e : A % M = A - M * (A / M) := by omega
  rw [e]; grind

theorem one_sl {w : World} {v : Value} (h : Sl .u32 w v (lim (Int.toNat 1))) : Sl .u32 w v [1] := by
  rwa [lim_of (u1 (by decide) (by decide)) (by decide) (by decide : val [1] = 1)] at h
theorem InvV {w : World} (v u : Value) (X M : List Int) (h : Sl .u32 w v X) (h' : Sl .u32 w u M) (uX : U32s X) (uM : U32s M) (lX : X.length ≤ 512) (lM : M.length ≤ 512) (h0 : 0 < val M) (G : Int) (hG : HasInv (val X) (val M) G) :
    Calls Try.prog 20 #[v, u] w fun e w' => ∃ r, e = .returned (.tuple #[r, .int .i64 0]) ∧ Own w.heap.size w' r (lim G.toNat) ∧ Below w.heap.size w w' := by
  refine (Inverse_any X M v u w h h' uX uM (.inr long_ok)).mono ?_
  rintro e w' ⟨s, hs, ⟨r, rfl, hr⟩, hB⟩
  unfold InvS at hs
  rw [if_neg (by omega), if_neg (by omega)] at hs
  rcases hs with ⟨H, a, b, c, rfl⟩ | ⟨D, a, b, c, rfl⟩
  · have : G = H := inv_uniq hG ⟨a, b, c⟩
    subst this
    exact ⟨r, rfl, hr, hB⟩
  · exact (no_inv hG a b c).elim
theorem InvNo {w : World} (v u : Value) (X M : List Int) (h : Sl .u32 w v X) (h' : Sl .u32 w u M) (uX : U32s X) (uM : U32s M) (lX : X.length ≤ 512) (lM : M.length ≤ 512) (h0 : 0 < val M) (hG : NoInv (val X) (val M)) :
    Calls Try.prog 20 #[v, u] w fun e w' => ∃ r, e = .returned (.tuple #[r, .int .i64 5]) ∧ Below w.heap.size w w' := by
  refine (Inverse_any X M v u w h h' uX uM (.inr long_ok)).mono ?_
  rintro e w' ⟨s, hs, ⟨r, rfl, hr⟩, hB⟩
  unfold InvS at hs
  rw [if_neg (by omega), if_neg (by omega)] at hs
  rcases hs with ⟨H, a, b, c, rfl⟩ | ⟨D, a, b, c, rfl⟩
  · obtain ⟨D, d1, d2, d3⟩ := hG
    exact (no_inv ⟨a, b, c⟩ d1 d2 d3).elim
  · exact ⟨r, rfl, hB⟩

set_option maxHeartbeats 4000000 in
theorem undoes_any (X M Z : List Int) (a0 a1 a2 : Option Addr) (c0 c1 c2 : Nat) (w : World) (hX : Sl .u32 w (.slice a0 X.length c0) X) (hM : Sl .u32 w (.slice a1 M.length c1) M) (hZ : Sl .u32 w (.slice a2 Z.length c2) Z) (uX : U32s X) (uM : U32s M) (uZ : U32s Z) :
    Calls Try.prog 6 #[.slice a0 X.length c0, .slice a1 M.length c1, .slice a2 Z.length c2] w fun e w' => e = .returned (.bool true) ∧ Below w.heap.size w w' := by
  have hBt : Below w.heap.size w w := Below.refl _ _
  by_cases lX : 40 < X.length
  · go_enter Try.func6, Try.ntmps6
    go_wp2_with (first | (go_at_call 9; refine (live_any _).mono ?_; rintro e w' ⟨rfl, hB⟩; replace hBt := grow0 hBt hB))
    go_ret
    exact ⟨rfl, hBt⟩
  by_cases lM : 40 < M.length
  · go_enter Try.func6, Try.ntmps6
    go_wp2_with (first | (go_at_call 9; refine (live_any _).mono ?_; rintro e w' ⟨rfl, hB⟩; replace hBt := grow0 hBt hB))
    go_ret
    exact ⟨rfl, hBt⟩
  by_cases lZ : 40 < Z.length
  · go_enter Try.func6, Try.ntmps6
    go_wp2_with (first | (go_at_call 9; refine (live_any _).mono ?_; rintro e w' ⟨rfl, hB⟩; replace hBt := grow0 hBt hB))
    go_ret
    exact ⟨rfl, hBt⟩
  have one : val [1] = 1 := by decide
  by_cases m1 : val M = 1
  · have HC : Hid (cmpI (val M) (val [1]) = 0) := by rw [one, m1]; rfl
    clear m1 one
    go_enter Try.func6, Try.ntmps6
    go_wp2_with (first
      | (go_at_call 16; refine (CmpV _ _ M [1] (al1 hM) (Arr.sl (arr_new rfl rfl)) uM (u1 (by decide) (by decide)) (by omega) (by decide) 0 HC.out).mono ?_; rintro e w' ⟨rfl, hB⟩; replace hBt := grow0 (al hBt) hB)
      | (go_at_call 9; refine (live_any _).mono ?_; rintro e w' ⟨rfl, hB⟩; replace hBt := grow0 hBt hB))
    go_ret
    exact ⟨rfl, hBt⟩
  by_cases m2 : val M < 1
  · have HC : Hid (cmpI (val M) (val [1]) = -1) := by rw [one]; unfold cmpI; rw [if_pos m2]; rfl
    clear m1 m2 one
    go_enter Try.func6, Try.ntmps6
    go_wp2_with (first
      | (go_at_call 16; refine (CmpV _ _ M [1] (al1 hM) (Arr.sl (arr_new rfl rfl)) uM (u1 (by decide) (by decide)) (by omega) (by decide) (-1) HC.out).mono ?_; rintro e w' ⟨rfl, hB⟩; replace hBt := grow0 (al hBt) hB)
      | (go_at_call 9; refine (live_any _).mono ?_; rintro e w' ⟨rfl, hB⟩; replace hBt := grow0 hBt hB))
    go_ret
    exact ⟨rfl, hBt⟩
  have hM0 : 0 < val M := by omega
  have HC : Hid (cmpI (val M) (val [1]) = 1) := by rw [one]; unfold cmpI; rw [if_neg (by omega), if_pos (by omega)]; rfl
  have nX := val_nonneg uX; have nM := val_nonneg uM; have nZ := val_nonneg uZ
  have bM := val_lt uM; have pM := pow_mono (show M.length ≤ 40 by omega)
  rcases inv_or (val X) hM0 with ⟨G, hG⟩ | hI
  · obtain ⟨P, hP⟩ : ∃ P, val X * G = P := ⟨_, rfl⟩
    obtain ⟨T, hT⟩ : ∃ T, val X % val M = T := ⟨_, rfl⟩
    have HG : Hid (HasInv (val X) (val M) G) := hG
    have hG2 := inv_back hG hM0
    have g0 := hG.1; have g1 := hG.2.1
    have t0 := hG2.1; have t1 := hG2.2.1
    rw [hT] at t0 t1 hG2
    have HG2 : Hid (HasInv (val (lim G.toNat)) (val M) T) := by rw [val_limI g0]; exact hG2
    have HT : Hid (val X % val M = T) := hT
    have hP0 : 0 ≤ P := by rw [← hP]; exact Int.mul_nonneg nX g0
    have HP : Hid (val X * val (lim G.toNat) = P) := by rw [val_limI g0]; exact hP
    have HD : Hid (val (lim P.toNat) % val M = 1) := by
      obtain ⟨_, _, t, ht⟩ := hG
      rw [val_limI hP0, ← hP, ht, Int.add_mul_emod_self_left]; exact Int.emod_eq_of_lt (by decide) (by omega)
    have HC2 : Hid (cmpI (val (lim G.toNat)) (val M) = -1) := by rw [val_limI g0]; unfold cmpI; rw [if_pos g1]; rfl
    have lG : (lim G.toNat).length ≤ 40 := lim_fits g0 (by omega)
    have lT : (lim T.toNat).length ≤ 40 := lim_fits t0 (by omega)
    clear nX nM nZ bM pM hG hP hT hG2 g0 g1 t0 t1 hP0 m1 m2 one
    go_enter Try.func6, Try.ntmps6
    go_wp2_with (first
      | (go_at_call 9; refine (live_any _).mono ?_; rintro e w' ⟨rfl, hB⟩; replace hX := below_sl hB hX; replace hM := below_sl hB hM; replace hy := below_sl hB hy; replace hp := below_sl hB hp; replace hr := below_sl hB hr; replace hz := below_sl hB hz; replace ht := below_sl hB ht; replace hBt := grow0 hBt hB)
      | (go_at_call 16; replace hsame := hsame; refine (CmpV _ _ (lim G.toNat) M hy hM (lim_u32 _) uM (by omega) (by omega) (-1) HC2.out).mono ?_; rintro e w' ⟨rfl, hB⟩; replace hX := below_sl hB hX; replace hM := below_sl hB hM; replace hy := below_sl hB hy; replace hp := below_sl hB hp; replace hr := below_sl hB hr; replace hz := below_sl hB hz; replace ht := below_sl hB ht; replace hBt := grow0 hBt hB)
      | (go_at_call 14; replace hsame := hsame; refine (Same_any _ _ (lim T.toNat) hz ht (by omega)).mono ?_; rintro e w' ⟨rfl, hB⟩; replace hX := below_sl hB hX; replace hM := below_sl hB hM; replace hy := below_sl hB hy; replace hp := below_sl hB hp; replace hr := below_sl hB hr; replace hz := below_sl hB hz; replace ht := below_sl hB ht; replace hBt := grow0 hBt hB)
      | (go_at_call 14; refine (Same_any _ _ [1] (al1 hr) (Arr.sl (arr_new rfl rfl)) (by decide)).mono ?_; rintro e w' ⟨rfl, hB⟩; replace hX := below_sl hB (al1 hX); replace hM := below_sl hB (al1 hM); replace hy := below_sl hB (al1 hy); replace hp := below_sl hB (al1 hp); replace hr := below_sl hB (al1 hr); replace hz := below_sl hB (al1 hz); replace ht := below_sl hB (al1 ht); have hsame := trivial; replace hBt := grow0 (al hBt) hB)
      | (go_at_call 17; replace hdm := hdm; refine (DivV _ _ X M hX hM uX uM (by omega) (by omega) hM0 _ T rfl HT.out).mono ?_; rintro e w' ⟨q2, t, rfl, hOq2, hOt, hB⟩; replace hX := below_sl hB hX; replace hM := below_sl hB hM; replace hy := below_sl hB hy; replace hp := below_sl hB hp; replace hr := below_sl hB hr; replace hz := below_sl hB hz; have ht := hOt.sl; replace hBt := grow0 hBt hB)
      | (go_at_call 20; replace hy := hy; refine (InvV _ _ (lim G.toNat) M hy hM (lim_u32 _) uM (by omega) (by omega) (by omega) T HG2.out).mono ?_; rintro e w' ⟨z, rfl, hOz, hB⟩; replace hX := below_sl hB hX; replace hM := below_sl hB hM; replace hy := below_sl hB hy; replace hp := below_sl hB hp; replace hr := below_sl hB hr; have hz := hOz.sl; replace hBt := grow0 hBt hB)
      | (go_at_call 17; refine (DivV _ _ (lim P.toNat) M hp hM (lim_u32 _) uM (by omega) (by omega) hM0 _ 1 rfl HD.out).mono ?_; rintro e w' ⟨q, r, rfl, hOq, hOr, hB⟩; replace hX := below_sl hB hX; replace hM := below_sl hB hM; replace hy := below_sl hB hy; replace hp := below_sl hB hp; have hr := one_sl hOr.sl; have hdm := trivial; replace hBt := grow0 hBt hB)
      | (go_at_call 12; refine (MulV _ _ X (lim G.toNat) hX hy uX (lim_u32 _) (by omega) P HP.out).mono ?_; rintro e w' ⟨p, rfl, hOp, hlp, hB⟩; replace hX := below_sl hB hX; replace hM := below_sl hB hM; replace hy := below_sl hB hy; have hp := hOp.sl; replace hBt := grow0 hBt hB)
      | (go_at_call 13; refine (num_any _ _).mono ?_; rintro e w' ⟨rfl, rfl⟩)
      | (go_at_call 20; refine (InvV _ _ X M hX hM uX uM (by omega) (by omega) (by omega) G HG.out).mono ?_; rintro e w' ⟨y, rfl, hOy, hB⟩; replace hX := below_sl hB hX; replace hM := below_sl hB hM; have hy := hOy.sl; replace hBt := grow0 hBt hB)
      | (go_at_call 16; refine (CmpV _ _ M [1] (al1 hM) (Arr.sl (arr_new rfl rfl)) uM (u1 (by decide) (by decide)) (by omega) (by decide) 1 HC.out).mono ?_; rintro e w' ⟨rfl, hB⟩; replace hX := below_sl hB (al1 hX); replace hM := below_sl hB (al1 hM); have hdone := trivial; replace hBt := grow0 (al hBt) hB))
    go_ret
    exact ⟨rfl, hBt⟩
  · obtain ⟨P, hP⟩ : ∃ P, val X * val Z = P := ⟨_, rfl⟩
    obtain ⟨R1, hR1⟩ : ∃ R, P % val M = R := ⟨_, rfl⟩
    have hP0 : 0 ≤ P := by rw [← hP]; exact Int.mul_nonneg nX nZ
    have r0 : 0 ≤ R1 := by rw [← hR1]; exact Int.emod_nonneg _ (by omega)
    have r1 : R1 < val M := by rw [← hR1]; exact Int.emod_lt_of_pos _ hM0
    have rne : R1 ≠ 1 := by
      intro h
      obtain ⟨D, d1, d2, d3⟩ := hI
      have h1 := Int.mul_ediv_add_emod P (val M)
      have h2 : (1 : Int) = P - val M * (P / val M) := by omega
      have : D ∣ 1 := by rw [h2, ← hP]; exact Int.dvd_sub (Int.dvd_trans d2 (Int.dvd_mul_right _ _)) (Int.dvd_trans d3 (Int.dvd_mul_right _ _))
      have := Int.le_of_dvd (by decide) this
      omega
    have HI : Hid (NoInv (val X) (val M)) := hI
    have HP : Hid (val X * val Z = P) := hP
    have HD : Hid (val (lim P.toNat) % val M = R1) := by rw [val_limI hP0]; exact hR1
    have lR : (lim R1.toNat).length ≤ 40 := lim_fits r0 (by omega)
    by_cases h0 : R1 = 0
    · have HC2 : Hid (cmpI (val (lim R1.toNat)) (val [1]) = -1) := by rw [val_limI r0, one, h0]; rfl
      clear nX nM nZ bM pM hP hP0 hI hR1 r0 r1 rne h0 m1 m2 one
      go_enter Try.func6, Try.ntmps6
      go_wp2_with (first
        | (go_at_call 9; refine (live_any _).mono ?_; rintro e w' ⟨rfl, hB⟩; replace hX := below_sl hB hX; replace hM := below_sl hB hM; replace hZ := below_sl hB hZ; replace hp := below_sl hB hp; replace hr := below_sl hB hr; replace hBt := grow0 hBt hB)
        | (go_at_call 16; replace hdone := hdone; refine (CmpV _ _ (lim R1.toNat) [1] (al1 hr) (Arr.sl (arr_new rfl rfl)) (lim_u32 _) (u1 (by decide) (by decide)) (by omega) (by decide) (-1) HC2.out).mono ?_; rintro e w' ⟨rfl, hB⟩; replace hX := below_sl hB (al1 hX); replace hM := below_sl hB (al1 hM); replace hZ := below_sl hB (al1 hZ); replace hp := below_sl hB (al1 hp); replace hr := below_sl hB (al1 hr); replace hBt := grow0 (al hBt) hB)
        | (go_at_call 17; refine (DivV _ _ (lim P.toNat) M hp hM (lim_u32 _) uM (by omega) (by omega) hM0 _ R1 rfl HD.out).mono ?_; rintro e w' ⟨q, r, rfl, hOq, hOr, hB⟩; replace hX := below_sl hB hX; replace hM := below_sl hB hM; replace hZ := below_sl hB hZ; replace hp := below_sl hB hp; have hr := hOr.sl; replace hBt := grow0 hBt hB)
        | (go_at_call 12; refine (MulV _ _ X Z hX hZ uX uZ (by omega) P HP.out).mono ?_; rintro e w' ⟨p, rfl, hOp, hlp, hB⟩; replace hX := below_sl hB hX; replace hM := below_sl hB hM; replace hZ := below_sl hB hZ; have hp := hOp.sl; replace hBt := grow0 hBt hB)
        | (go_at_call 13; refine (num_any _ _).mono ?_; rintro e w' ⟨rfl, rfl⟩)
        | (go_at_call 20; refine (InvNo _ _ X M hX hM uX uM (by omega) (by omega) (by omega) HI.out).mono ?_; rintro e w' ⟨y, rfl, hB⟩; replace hX := below_sl hB hX; replace hM := below_sl hB hM; replace hZ := below_sl hB hZ; replace hBt := grow0 hBt hB)
        | (go_at_call 16; refine (CmpV _ _ M [1] (al1 hM) (Arr.sl (arr_new rfl rfl)) uM (u1 (by decide) (by decide)) (by omega) (by decide) 1 HC.out).mono ?_; rintro e w' ⟨rfl, hB⟩; replace hX := below_sl hB (al1 hX); replace hM := below_sl hB (al1 hM); replace hZ := below_sl hB (al1 hZ); have hdone := trivial; replace hBt := grow0 (al hBt) hB))
      go_ret
      exact ⟨rfl, hBt⟩
    · have HC2 : Hid (cmpI (val (lim R1.toNat)) (val [1]) = 1) := by rw [val_limI r0, one]; unfold cmpI; rw [if_neg (by omega), if_pos (by omega)]; rfl
      clear nX nM nZ bM pM hP hP0 hI hR1 r0 r1 rne h0 m1 m2 one
      go_enter Try.func6, Try.ntmps6
      go_wp2_with (first
        | (go_at_call 9; refine (live_any _).mono ?_; rintro e w' ⟨rfl, hB⟩; replace hX := below_sl hB hX; replace hM := below_sl hB hM; replace hZ := below_sl hB hZ; replace hp := below_sl hB hp; replace hr := below_sl hB hr; replace hBt := grow0 hBt hB)
        | (go_at_call 16; replace hdone := hdone; refine (CmpV _ _ (lim R1.toNat) [1] (al1 hr) (Arr.sl (arr_new rfl rfl)) (lim_u32 _) (u1 (by decide) (by decide)) (by omega) (by decide) 1 HC2.out).mono ?_; rintro e w' ⟨rfl, hB⟩; replace hX := below_sl hB (al1 hX); replace hM := below_sl hB (al1 hM); replace hZ := below_sl hB (al1 hZ); replace hp := below_sl hB (al1 hp); replace hr := below_sl hB (al1 hr); replace hBt := grow0 (al hBt) hB)
        | (go_at_call 17; refine (DivV _ _ (lim P.toNat) M hp hM (lim_u32 _) uM (by omega) (by omega) hM0 _ R1 rfl HD.out).mono ?_; rintro e w' ⟨q, r, rfl, hOq, hOr, hB⟩; replace hX := below_sl hB hX; replace hM := below_sl hB hM; replace hZ := below_sl hB hZ; replace hp := below_sl hB hp; have hr := hOr.sl; replace hBt := grow0 hBt hB)
        | (go_at_call 12; refine (MulV _ _ X Z hX hZ uX uZ (by omega) P HP.out).mono ?_; rintro e w' ⟨p, rfl, hOp, hlp, hB⟩; replace hX := below_sl hB hX; replace hM := below_sl hB hM; replace hZ := below_sl hB hZ; have hp := hOp.sl; replace hBt := grow0 hBt hB)
        | (go_at_call 13; refine (num_any _ _).mono ?_; rintro e w' ⟨rfl, rfl⟩)
        | (go_at_call 20; refine (InvNo _ _ X M hX hM uX uM (by omega) (by omega) (by omega) HI.out).mono ?_; rintro e w' ⟨y, rfl, hB⟩; replace hX := below_sl hB hX; replace hM := below_sl hB hM; replace hZ := below_sl hB hZ; replace hBt := grow0 hBt hB)
        | (go_at_call 16; refine (CmpV _ _ M [1] (al1 hM) (Arr.sl (arr_new rfl rfl)) uM (u1 (by decide) (by decide)) (by omega) (by decide) 1 HC.out).mono ?_; rintro e w' ⟨rfl, hB⟩; replace hX := below_sl hB (al1 hX); replace hM := below_sl hB (al1 hM); replace hZ := below_sl hB (al1 hZ); have hdone := trivial; replace hBt := grow0 (al hBt) hB))
      go_ret
      exact ⟨rfl, hBt⟩
end Go.Proofs.Ythkheocggcmooab
