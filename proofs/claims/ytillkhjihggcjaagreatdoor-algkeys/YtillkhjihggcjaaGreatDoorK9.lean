/-
  The walks of ExpMod, euclid, Inverse.
-/
import Derived.Deep.LoopGhost
import Derived.Test.YtillkhjihggcjaaGreatDoorK8
namespace Go.Proofs.YtillkhjihggcjaaGreatDoor.Nt
open Go.RowKit

/-- What stands between two rounds of Euclid's: rests r, x; factors f, g; s: the sign of f. -/
structure Euc (A M r x f g s : Int) : Prop where
  x0 : 0 ≤ x
  xr : x < r
  rM : r ≤ M
  f0 : 0 ≤ f
  fg : f ≤ g
  tot : r * g + x * f = M
  c1 : ∃ k, r = s * f * A + M * k
  c2 : ∃ k, x = -(s * g * A) + M * k
  dv : ∀ d : Int, (d ∣ r ∧ d ∣ x) ↔ (d ∣ A ∧ d ∣ M)
  one : M = 1 → f = 0
theorem Euc.start (A : Int) {M : Int} (hM : 0 < M) : Euc A M M (A % M) 0 1 (-1) where
  x0 := Int.emod_nonneg _ (by omega)
  xr := Int.emod_lt_of_pos _ hM
  rM := Int.le_refl _
  f0 := Int.le_refl _
  fg := by decide
  tot := by simp
  c1 := ⟨1, by simp⟩
  c2 := ⟨-(A / M), by have := Int.mul_ediv_add_emod A M; have e : M * -(A / M) = -(M * (A / M)) := Int.mul_neg _ _; rw [e]; omega⟩
  dv := fun d => by
    have h := Int.mul_ediv_add_emod A M
    constructor
    · rintro ⟨h1, h2⟩
      exact ⟨by rw [← h]; exact Int.dvd_add (Int.dvd_trans h1 (Int.dvd_mul_right _ _)) h2, h1⟩
    · rintro ⟨h1, h2⟩
      refine ⟨h2, ?_⟩
      have e : A % M = A - M * (A / M) := by omega
      rw [e]; exact Int.dvd_sub h1 (Int.dvd_trans h2 (Int.dvd_mul_right _ _))
  one := fun _ => rfl
theorem Euc.step {A M r x f g s : Int} (h : Euc A M r x f g s) (hx : 0 < x) : Euc A M x (r % x) g (f + r / x * g) (-s) := by
  have hq := Int.mul_ediv_add_emod r x
  obtain ⟨q, hqe⟩ : ∃ q, r / x = q := ⟨_, rfl⟩
  obtain ⟨y, hye⟩ : ∃ y, r % x = y := ⟨_, rfl⟩
  have hy0 : 0 ≤ y := by rw [← hye]; exact Int.emod_nonneg _ (by omega)
  have hy1 : y < x := by rw [← hye]; exact Int.emod_lt_of_pos _ hx
  have hq1 : 1 ≤ q := by rw [← hqe]; exact Int.le_ediv_of_mul_le hx (by have := h.xr; omega)
  rw [hqe, hye] at hq
  rw [hqe, hye]
  have g0 : 0 ≤ g := Int.le_trans h.f0 h.fg
  have hfg := h.fg; have hf0 := h.f0
  have hgq : g ≤ q * g := by
    calc g = 1 * g := (Int.one_mul g).symm
      _ ≤ q * g := Int.mul_le_mul_of_nonneg_right hq1 g0
  refine ⟨hy0, hy1, by have := h.xr; have := h.rM; omega, g0, by omega, ?_, ?_, ?_, fun d => ?_, fun h1 => ?_⟩
  · have := h.tot
    grind
  · obtain ⟨k, hk⟩ := h.c2
    exact ⟨k, by rw [hk]; grind⟩
  · obtain ⟨k, hk⟩ := h.c1
    obtain ⟨j, hj⟩ := h.c2
    refine ⟨k - q * j, ?_⟩
    have : y = r - x * q := by omega
    rw [this, hk, hj]; grind
  · rw [← h.dv d]
    constructor
    · rintro ⟨h1, h2⟩
      exact ⟨by rw [← hq]; exact Int.dvd_add (Int.dvd_trans h1 (Int.dvd_mul_right _ _)) h2, h1⟩
    · rintro ⟨h1, h2⟩
      refine ⟨h2, ?_⟩
      have e : y = r - x * q := by omega
      rw [e]; exact Int.dvd_sub h1 (Int.dvd_trans h2 (Int.dvd_mul_right _ _))
  · have := h.xr; have := h.rM; omega
/-- What Euclid's rounds end with. -/
def Bez (A M D G : Int) : Prop := 0 < D ∧ 0 ≤ G ∧ G ≤ M ∧ (∀ d : Int, d ∣ D ↔ (d ∣ A ∧ d ∣ M)) ∧ (∃ t, A * G = D + M * t) ∧ (M = 1 → G = 0)
end Go.Proofs.YtillkhjihggcjaaGreatDoor.Nt
/-
  The walks of ExpMod and Inverse.
-/
namespace Go.Proofs.YtillkhjihggcjaaGreatDoor.Nt
open Go.RowKit

theorem Bez.one {A M G : Int} (h : Bez A M 1 G) (_hM : 0 < M) : 0 ≤ G ∧ G < M ∧ ∃ t, A * G = 1 + M * t := by
  obtain ⟨_, h1, h2, _, ⟨t, ht⟩, h3⟩ := h
  by_cases hG : G = M
  · subst hG
    have hd : G ∣ 1 := by
      have e : (1 : Int) = G * (A - t) := by rw [Int.mul_sub]; have := Int.mul_comm A G; omega
      rw [e]; exact Int.dvd_mul_right _ _
    have := Int.le_of_dvd (by decide) hd
    have h1 : G = 1 := by omega
    have h4 := h3 h1
    omega
  · exact ⟨h1, by omega, t, ht⟩

end Go.Proofs.YtillkhjihggcjaaGreatDoor.Nt
