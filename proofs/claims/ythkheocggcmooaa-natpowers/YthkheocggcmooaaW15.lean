/-
  The walks of ExpMod and Inverse.
-/
import Derived.Test.YthkheocggcmooaaW13
namespace Go.Proofs.Ythkheocggcmooaa
open Go.RowKit

abbrev expLong (X E M : List Int) : Prop := 512 < X.length ∨ 256 < E.length ∨ 256 < M.length
def expS (X E M : List Int) : List Int × Int := if expLong X E M then ([], 3) else if val M = 0 then ([], 11) else (lim (val X ^ (val E).toNat % val M).toNat, 0)

set_option maxHeartbeats 1000000 in
theorem powerFault_any (X E M : List Int) (v u t : Value) (w : World) (hX : Sl .u32 w v X) (hE : Sl .u32 w u E) (hM : Sl .u32 w t M) (uM : U32s M) (c : Int) (hc : c = if expLong X E M then 3 else if val M = 0 then 11 else 0) :
    Calls Try.prog 59 #[v, u, t] w fun e w' => e = .returned (.int .i64 c) ∧ w = w' := by
  obtain ⟨a1, c1, rfl, _⟩ := hX.len
  obtain ⟨a2, c2, rfl, _⟩ := hE.len
  obtain ⟨a3, c3, rfl, _⟩ := id hM.len
  by_cases h1 : 512 < X.length
  · have HC : Hid (c = 3) := by rw [hc, if_pos (.inl h1)]; rfl
    clear hc
    go_enter Try.func59, Try.ntmps59
    go_wp2
    go_ret
    exact ⟨ret_int HC.out.symm, rfl⟩
  by_cases h2 : 256 < E.length
  · have HC : Hid (c = 3) := by rw [hc, if_pos (.inr (.inl h2))]; rfl
    clear hc
    go_enter Try.func59, Try.ntmps59
    go_wp2
    go_ret
    exact ⟨ret_int HC.out.symm, rfl⟩
  by_cases h3 : 256 < M.length
  · have HC : Hid (c = 3) := by rw [hc, if_pos (.inr (.inr h3))]; rfl
    clear hc
    go_enter Try.func59, Try.ntmps59
    go_wp2
    go_ret
    exact ⟨ret_int HC.out.symm, rfl⟩
  have hnl : ¬ expLong X E M := by unfold expLong; omega
  have hlen : Len w (.slice a3 M.length c3) (sig M) := ⟨M, hM, by omega, rfl⟩
  by_cases h4 : sig M = 0
  · have HC : Hid (c = 11) := by rw [hc, if_neg hnl, if_pos (val_of_sig0 h4)]; rfl
    rw [h4] at hlen
    clear hc hnl h4
    go_enter Try.func59, Try.ntmps59
    go_wp2_with (go_at_call 52; refine (length_len _ _ hlen).mono ?_; rintro e w' ⟨rfl, rfl⟩)
    go_ret
    exact ⟨ret_int HC.out.symm, rfl⟩
  · have HC : Hid (c = 0) := by rw [hc, if_neg hnl, if_neg (fun h => h4 (sig0_of_val uM h))]; rfl
    obtain ⟨m, hm⟩ : ∃ m, sig M = m + 1 := ⟨sig M - 1, by omega⟩
    rw [hm] at hlen
    clear hc hnl h4 hm
    go_enter Try.func59, Try.ntmps59
    go_wp2_with (go_at_call 52; refine (length_len _ _ hlen).mono ?_; rintro e w' ⟨rfl, rfl⟩)
    go_ret
    exact ⟨ret_int HC.out.symm, rfl⟩

set_option maxHeartbeats 1000000 in
theorem ExpMod_any (X E M : List Int) (v u t : Value) (w : World) (hX : Sl .u32 w v X) (hE : Sl .u32 w u E) (hM : Sl .u32 w t M) (uX : U32s X) (uE : U32s E) (uM : U32s M) (H : val M < 4294967296 ∨ LongOK) :
    Calls Try.prog 29 #[v, u, t] w fun e w' => Two w.heap.size w' e (expS X E M) ∧ Below w.heap.size w w' := by
  by_cases h1 : expLong X E M
  · have hpf := powerFault_any X E M v u t w hX hE hM uM 3 (by rw [if_pos h1])
    have HC : Hid (expS X E M = ([], 3)) := by unfold expS; rw [if_pos h1]; rfl
    clear h1
    go_enter Try.func29, Try.ntmps29
    go_wp2_with (go_at_call 59; refine hpf.mono ?_; rintro e w' ⟨rfl, rfl⟩)
    go_ret2
    exact ⟨Two.nil' HC.out, Below.refl _ _⟩
  by_cases h2 : val M = 0
  · have hpf := powerFault_any X E M v u t w hX hE hM uM 11 (by rw [if_neg h1, if_pos h2])
    have HC : Hid (expS X E M = ([], 11)) := by unfold expS; rw [if_neg h1, if_pos h2]; rfl
    clear h1 h2
    go_enter Try.func29, Try.ntmps29
    go_wp2_with (go_at_call 59; refine hpf.mono ?_; rintro e w' ⟨rfl, rfl⟩)
    go_ret2
    exact ⟨Two.nil' HC.out, Below.refl _ _⟩
  have hpf := powerFault_any X E M v u t w hX hE hM uM 0 (by rw [if_neg h1, if_neg h2])
  have HC : Hid (expS X E M = (lim (val X ^ (val E).toNat % val M).toNat, 0)) := by unfold expS; rw [if_neg h1, if_neg h2]; rfl
  have hl : ¬ (512 < X.length ∨ 256 < E.length ∨ 256 < M.length) := h1
  have h0 : 0 < val M := by have := val_nonneg uM; omega
  have lX : X.length ≤ 1152921504606846976 := by omega
  have lE : E.length ≤ 1152921504606846976 := by omega
  have lM : M.length ≤ 1152921504606846976 := by omega
  have lX2 : X.length ≤ 1024 := by omega
  have lM2 : M.length ≤ 1024 := by omega
  have lE2 : (trim E).length ≤ 1024 := by rw [trim_len]; have := sig_le E; omega
  have HL : Hid (val M < 4294967296 ∨ LongOK) := H
  clear h1 h2 hl H
  go_enter Try.func29, Try.ntmps29
  go_wp2_with (first
    | (go_at_call 59; refine hpf.mono ?_; rintro e w' ⟨rfl, rfl⟩)
    | (go_at_call 45; replace hrE := hrE; refine (cut_sl _ _ hM lM).mono ?_; rintro e w' ⟨r, rfl, hrM, rfl⟩)
    | (go_at_call 45; replace hrX := hrX; refine (cut_sl _ _ hE lE).mono ?_; rintro e w' ⟨r, rfl, hrE, rfl⟩)
    | (go_at_call 45; refine (cut_sl _ _ hX lX).mono ?_; rintro e w' ⟨r, rfl, hrX, rfl⟩)
    | (go_at_call 60; refine (power_any _ _ _ _ _ (trim E) X.length _ (Num.of_trim hrX uX) lX2 hrE (trim_u32 uE) lE2 ((Num.of_trim hrM uM).mono lM2) h0 HL.out).mono ?_; rintro e w' ⟨r, rfl, hO, hB⟩))
  go_ret2
  rw [trim_val] at hO
  exact ⟨Two.mk' hO HC.out, hB⟩

/-- What Inverse answers: the inverse, or that there is a common divisor. -/
def InvS (X M : List Int) (s : List Int × Int) : Prop :=
  if 512 < X.length ∨ 512 < M.length then s = ([], 3) else if val M = 0 then s = ([], 11) else
    (∃ G, 0 ≤ G ∧ G < val M ∧ (∃ t, val X * G = 1 + val M * t) ∧ s = (lim G.toNat, 0)) ∨ (∃ D, 1 < D ∧ D ∣ val X ∧ D ∣ val M ∧ s = ([], 5))

theorem Bez.one {A M G : Int} (h : Bez A M 1 G) (_hM : 0 < M) : 0 ≤ G ∧ G < M ∧ ∃ t, A * G = 1 + M * t := by
  obtain ⟨_, h1, h2, _, ⟨t, ht⟩, h3⟩ := h
  by_cases hG : G = M
  · subst hG
    have hd : G ∣ 1 := by
      have e : (1 : Int) = G * (A - t) := by rw [Int.mul_sub]; have := Int.mul_comm A G; omega
      rw [e]; exact Int.dvd_mul_right _ _
    have := Int.le_of_dvd (by decide) hd
    have h1 : G = 1 := by omega
    have h4 := h3 h1
    omega
  · exact ⟨h1, by omega, t, ht⟩

set_option maxHeartbeats 1000000 in
theorem Inverse_any (X M : List Int) (v u : Value) (w : World) (hX : Sl .u32 w v X) (hM : Sl .u32 w u M) (uX : U32s X) (uM : U32s M) (H : val M < 4294967296 ∨ LongOK) :
    Calls Try.prog 31 #[v, u] w fun e w' => ∃ s, InvS X M s ∧ Two w.heap.size w' e s ∧ Below w.heap.size w w' := by
  by_cases hlong : 512 < X.length ∨ 512 < M.length
  · have hb : (decide (512 < X.length) || decide (512 < M.length)) = true := by simpa using hlong
    have HL : Hid (InvS X M ([], 3)) := by unfold InvS; rw [if_pos hlong]; rfl
    clear hlong
    go_enter Try.func31, Try.ntmps31
    go_wp2_with (go_at_call 42; refine (tooLong_sl v u X M hX hM true hb).mono ?_; rintro e w' ⟨rfl, rfl⟩)
    go_ret2
    exact ⟨_, HL.out, Two.nil' rfl, Below.refl _ _⟩
  have hb : (decide (512 < X.length) || decide (512 < M.length)) = false := by simpa using hlong
  have lX : X.length ≤ 1152921504606846976 := by omega
  have lM : M.length ≤ 1152921504606846976 := by omega
  have lX2 : X.length ≤ 1024 := by omega
  have lM2 : M.length ≤ 1024 := by omega
  by_cases hz : sig M = 0
  · have hlen : Len w u 0 := ⟨M, hM, lM, hz⟩
    have HL : Hid (InvS X M ([], 11)) := by unfold InvS; rw [if_neg hlong, if_pos (val_of_sig0 hz)]; rfl
    clear hlong hz
    go_enter Try.func31, Try.ntmps31
    go_wp2_with (first
      | (go_at_call 42; refine (tooLong_sl v u X M hX hM false hb).mono ?_; rintro e w' ⟨rfl, rfl⟩)
      | (go_at_call 52; refine (length_len _ _ hlen).mono ?_; rintro e w' ⟨rfl, rfl⟩))
    go_ret2
    exact ⟨_, HL.out, Two.nil' rfl, Below.refl _ _⟩
  obtain ⟨m, hm⟩ : ∃ m, sig M = m + 1 := ⟨sig M - 1, by omega⟩
  have hlen : Len w u (m + 1) := ⟨M, hM, lM, hm⟩
  have hv0 : ¬ val M = 0 := fun h => hz (sig0_of_val uM h)
  have h0 : 0 < val M := by have := val_nonneg uM; omega
  have HI : Hid (∀ s, InvS X M s ↔ ((∃ G, 0 ≤ G ∧ G < val M ∧ (∃ t, val X * G = 1 + val M * t) ∧ s = (lim G.toNat, 0)) ∨ (∃ D, 1 < D ∧ D ∣ val X ∧ D ∣ val M ∧ s = ([], 5)))) := by
    intro s; unfold InvS; rw [if_neg hlong, if_neg hv0]
  have HL : Hid (val M < 4294967296 ∨ LongOK) := H
  clear hlong hz hm hv0 H
  go_enter Try.func31, Try.ntmps31
  go_wp2_with (first
    | (go_at_call 42; refine (tooLong_sl v u X M hX hM false hb).mono ?_; rintro e w' ⟨rfl, rfl⟩)
    | (go_at_call 52; refine (length_len _ _ hlen).mono ?_; rintro e w' ⟨rfl, rfl⟩)
    | (go_at_call 45; replace hrX := hrX; refine (cut_sl _ _ hM lM).mono ?_; rintro e w' ⟨r, rfl, hrM, rfl⟩)
    | (go_at_call 45; refine (cut_sl _ _ hX lX).mono ?_; rintro e w' ⟨r, rfl, hrX, rfl⟩)
    | (go_at_call 63; refine (euclid_any _ _ _ _ _ ((Num.of_trim hrX uX).mono lX2) ((Num.of_trim hrM uM).mono lM2) h0 HL.out).mono ?_; rintro e w1 ⟨d, g, D, G, rfl, hbez, hOd, hOg, hnd, hB⟩; have HBz : Hid (Bez (val X) (val M) D G) := hbez; clear hbez; obtain ⟨c, hc⟩ : ∃ c, cmpI D 1 = c := ⟨_, rfl⟩)
    | (go_at_call 39; refine (Small_num _ (by decide) (by decide)).mono ?_; rintro e w2 ⟨r1, rfl, hO1, hn1, hB2⟩; replace hnd := hnd.below hB2; replace hOg := hOg.below hB2; replace hB := hB.trans (hB2.mono hB.size))
    | (go_at_call 20; refine (Cmp_sl _ _ _ _ hnd.2.2 hn1.2.2 (lim_u32 _) (lim_u32 _) (by have := hnd.len; omega) (by have := hn1.len; omega) c (by rw [hnd.val, hn1.val]; exact hc)).mono ?_; rintro e w3 ⟨rfl, hB3⟩; replace hOg := hOg.below hB3; replace hB := hB.trans (hB3.mono hB.size)))
  · go_ret2
    refine ⟨([], 5), (HI.out _).2 (.inr ⟨D, ?_, ?_, ?_, rfl⟩), Two.nil' rfl, hB⟩
    · have h1 := HBz.out.1
      have h2 : D ≠ 1 := by
        intro h; subst h
        have h3 : (c != 0) = true := by assumption
        rw [← hc] at h3; simp [cmpI] at h3
      omega
    · exact ((HBz.out.2.2.2.1 D).1 (Int.dvd_refl D)).1
    · exact ((HBz.out.2.2.2.1 D).1 (Int.dvd_refl D)).2
  · go_ret2
    have h3 : (c != 0) = false := by assumption
    have hD : D = 1 := by
      simp at h3
      rw [h3] at hc
      unfold cmpI at hc
      split at hc
      · simp at hc
      · split at hc
        · simp at hc
        · omega
    have hbz := HBz.out
    rw [hD] at hbz
    obtain ⟨g1, g2, g3⟩ := hbz.one h0
    exact ⟨_, (HI.out _).2 (.inl ⟨G, g1, g2, g3, rfl⟩), Two.mk' hOg rfl, hB⟩
end Go.Proofs.Ythkheocggcmooaa
