/-
  NatInverts: whatever the two lists, the law answers true, and writes nothing that was there.
-/
import Derived.Test.YthkheocggcmooaaV
import Derived.Test.YthkheocggcmooaaW30
import Derived.Test.YthkheocggcmooaaW41
namespace Go.Proofs.Ythkheocggcmooaa
open Go.RowKit

theorem small_dvd {M x : Int} (h : M ∣ x) (h1 : x < M) (h2 : -M < x) : x = 0 := by
  obtain ⟨k, rfl⟩ := h
  have hM : 0 < M := by omega
  have h3 : k < 1 := by
    refine Int.lt_of_mul_lt_mul_left (a := M) ?_ (Int.le_of_lt hM); omega
  have h4 : -1 < k := by
    refine Int.lt_of_mul_lt_mul_left (a := M) ?_ (Int.le_of_lt hM); omega
  have : k = 0 := by omega
  subst this; simp
theorem inv_uniq {A M G H t s : Int} (g0 : 0 ≤ G) (g1 : G < M) (ht : A * G = 1 + M * t) (h0 : 0 ≤ H) (h1 : H < M) (hs : A * H = 1 + M * s) : G = H := by
  have hd : M ∣ G - H := ⟨H * t - G * s, by grind⟩
  have := small_dvd hd (by omega) (by omega)
  omega
theorem no_inv {A M G D t : Int} (ht : A * G = 1 + M * t) (hD : 1 < D) (h1 : D ∣ A) (h2 : D ∣ M) : False := by
  have e : (1 : Int) = A * G - M * t := by omega
  have : D ∣ 1 := by rw [e]; exact Int.dvd_sub (Int.dvd_trans h1 (Int.dvd_mul_right _ _)) (Int.dvd_trans h2 (Int.dvd_mul_right _ _))
  have := Int.le_of_dvd (by decide) this
  omega
theorem InvS_uniq {X M : List Int} {s s' : List Int × Int} (h : InvS X M s) (h' : InvS X M s') : s = s' := by
  unfold InvS at h h'
  split at h
  · rename_i hl; rw [if_pos hl] at h'; rw [h, h']
  · rename_i hl
    rw [if_neg hl] at h'
    split at h
    · rename_i h0; rw [if_pos h0] at h'; rw [h, h']
    · rename_i h0
      rw [if_neg h0] at h'
      rcases h with ⟨G, g0, g1, ⟨t, ht⟩, rfl⟩ | ⟨D, d1, d2, d3, rfl⟩
      · rcases h' with ⟨H, k0, k1, ⟨s, hs⟩, rfl⟩ | ⟨D, d1, d2, d3, rfl⟩
        · rw [inv_uniq g0 g1 ht k0 k1 hs]
        · exact (no_inv ht d1 d2 d3).elim
      · rcases h' with ⟨H, k0, k1, ⟨s, hs⟩, rfl⟩ | ⟨_, _, _, _, rfl⟩
        · exact (no_inv hs d1 d2 d3).elim
        · rfl
theorem InvS_len {X M : List Int} (uM : U32s M) {s : List Int × Int} (h : InvS X M s) : s.1.length ≤ 512 := by
  unfold InvS at h
  split at h
  · rw [h]; simp
  · rename_i hl
    split at h
    · rw [h]; simp
    · rcases h with ⟨G, g0, g1, _, rfl⟩ | ⟨_, _, _, _, rfl⟩
      · have b := val_lt uM; have p := pow_mono (show M.length ≤ 512 by omega)
        exact lim_fits g0 (by omega)
      · simp

set_option maxHeartbeats 4000000 in
theorem inverts_any (X Y : List Int) (a0 a1 : Option Addr) (c0 c1 : Nat) (w : World) (hX : Sl .u32 w (.slice a0 X.length c0) X) (hY : Sl .u32 w (.slice a1 Y.length c1) Y) (uX : U32s X) (uY : U32s Y) (sX : X.length * 4 ≤ 140737488351232) (sY : Y.length * 4 ≤ 140737488351232) :
    Calls Try.prog 7 #[.slice a0 X.length c0, .slice a1 Y.length c1] w fun e w' => e = .returned (.bool true) ∧ Below w.heap.size w w' := by
  have hBt : Below w.heap.size w w := Below.refl _ _
  by_cases hm : 64 < Y.length ∧ Y.length ≤ 512
  · obtain ⟨hm1, hm2⟩ := hm
    go_enter Try.func7, Try.ntmps7
    go_wp2_with (first | (go_at_call 23; refine (live_any _).mono ?_; rintro e w' ⟨rfl, hB⟩; replace hBt := grow0 hBt hB))
    go_ret
    exact ⟨rfl, hBt⟩
  have key : Y.length ≤ 64 ∨ 512 < Y.length := by omega
  clear hm
  rcases key with hm | hm
  all_goals
    go_enter Try.func7, Try.ntmps7
    go_wp2_with (first
      | (go_at_call 23; refine (live_any _).mono ?_; rintro e w' ⟨rfl, hB⟩; replace hBt := grow0 hBt hB)
      | (go_at_call 22; replace hdone := hdone; refine (Kept_any _ _ Y hd hY (by omega)).mono ?_; rintro e w' ⟨rfl, hB⟩; replace hBt := grow0 hBt hB)
      | (go_at_call 22; refine (Kept_any _ _ X hc hX (by omega)).mono ?_; rintro e w' ⟨rfl, hB⟩; replace hd := hd.below hB; replace hY := below_sl hB hY; replace hBt := grow0 hBt hB; have hdone := trivial)
      | (go_at_call 15; refine (num_any _ _).mono ?_; rintro e w' ⟨rfl, rfl⟩)
      | (go_at_call 14; refine (Same_any _ _ L hp hq (by omega)).mono ?_; rintro e w' ⟨rfl, hB⟩; replace hc := hc.below hB; replace hd := hd.below hB; replace hX := below_sl hB hX; replace hY := below_sl hB hY; replace hBt := grow0 hBt hB)
      | (go_at_call 32; refine (RInverse_any X Y _ _ _ hX hY uX uY).mono ?_; rintro e w' ⟨s', hs', ⟨q, rfl, hq⟩, hB⟩; have hE := InvS_uniq hs' HS.out; subst hE; simp only at hq ⊢; replace hp := below_sl hB hp; replace hc := hc.below hB; replace hd := hd.below hB; replace hX := below_sl hB hX; replace hY := below_sl hB hY; replace hBt := grow0 hBt hB; clear hs')
      | (go_at_call 31; refine (Inverse_any X Y _ _ _ hc.sl hd.sl uX uY (.inr long_ok)).mono ?_; rintro e w' ⟨⟨L, k⟩, hs, ⟨p, rfl, hOp⟩, hB⟩; have lS := InvS_len uY hs; have HS : Hid (InvS X Y (L, k)) := hs; clear hs; simp only at hOp lS ⊢; have hp := hOp.sl; replace hc := hc.below hB; replace hd := hd.below hB; replace hX := below_sl hB hX; replace hY := below_sl hB hY; replace hBt := grow0 hBt hB)
      | (go_at_call 9; replace hc := hc; refine (Lent_any Y _ _ hY sY).mono ?_; rintro e w' ⟨d, rfl, hd, hB⟩; replace hc := hc.below hB; replace hX := below_sl hB hX; replace hY := below_sl hB hY; replace hBt := grow0 hBt hB)
      | (go_at_call 9; refine (Lent_any X _ _ hX sX).mono ?_; rintro e w' ⟨c, rfl, hc, hB⟩; replace hX := below_sl hB hX; replace hY := below_sl hB hY; replace hBt := grow0 hBt hB))
    go_ret
    exact ⟨rfl, hBt⟩
end Go.Proofs.Ythkheocggcmooaa
