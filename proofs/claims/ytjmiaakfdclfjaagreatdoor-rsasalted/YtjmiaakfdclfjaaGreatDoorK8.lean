/-
  The arithmetic of the reference's long division: a guess by the highest digits is never too small.
-/
import Derived.Test.YtjmiaakfdclfjaaGreatDoorK7
namespace Go.Proofs.YtjmiaakfdclfjaaGreatDoor.D

theorem drop_step (A : List Int) (k : Nat) (h : k < A.length) : val (A.drop k) = A.getD k 0 + 65536 * val (A.drop (k + 1)) := by
  rw [List.drop_eq_getElem_cons h]; simp only [val]; simp [List.getD, List.getElem?_eq_getElem h]
theorem top3 {L : List Int} (u : U16s L) (m : Nat) (h : L.length ≤ m + 3) :
    ∃ lo, 0 ≤ lo ∧ lo < 65536 ^ m ∧ val L = lo + 65536 ^ m * ((L.getD (m + 2) 0 * 65536 + L.getD (m + 1) 0) * 65536 + L.getD m 0) := by
  refine ⟨val (L.take m), val_nonneg (u.take m), ?_, ?_⟩
  · exact Int.lt_of_lt_of_le (val_lt (u.take m)) (pow_mono (by simp; omega))
  · have h1 : val L = val (L.take (m + 3)) := by rw [List.take_of_length_le h]
    rw [h1, val_take_succ, val_take_succ, val_take_succ, pow_succ16, pow_succ16]
    grind
theorem top2 {L : List Int} (u : U16s L) (m : Nat) (h : L.length ≤ m + 2) :
    ∃ lo, 0 ≤ lo ∧ lo < 65536 ^ m ∧ val L = lo + 65536 ^ m * (L.getD (m + 1) 0 * 65536 + L.getD m 0) := by
  refine ⟨val (L.take m), val_nonneg (u.take m), ?_, ?_⟩
  · exact Int.lt_of_lt_of_le (val_lt (u.take m)) (pow_mono (by simp; omega))
  · have h1 : val L = val (L.take (m + 2)) := by rw [List.take_of_length_le h]
    rw [h1, val_take_succ, val_take_succ, pow_succ16]
    grind
/-- The guess by the highest digits: the true digit is not above it. -/
theorem guess_ge {R M P high top lo lo' : Int} (hP : 0 < P) (h0 : lo < P) (h0' : 0 ≤ lo') (hR : R = lo + P * high) (hM : M = lo' + P * top) (ht : 0 < top) (hh : 0 ≤ high) : R < (high / top + 1) * M := by
  have h1 : high < (high / top + 1) * top := by
    have := Int.mul_ediv_add_emod high top; have := Int.emod_lt_of_pos high ht
    rw [Int.add_mul, Int.mul_comm (high / top) top]; omega
  have hq : 0 ≤ high / top := Int.ediv_nonneg hh (by omega)
  have h2 : R < P * (high + 1) := by rw [hR, Int.mul_add]; omega
  have h3 : P * (high + 1) ≤ P * ((high / top + 1) * top) := Int.mul_le_mul_of_nonneg_left (by omega) (by omega)
  have h4 : P * ((high / top + 1) * top) ≤ (high / top + 1) * M := by
    rw [hM, Int.mul_add, ← Int.mul_assoc P, Int.mul_comm P, Int.mul_assoc]
    have : 0 ≤ (high / top + 1) * lo' := Int.mul_nonneg (by omega) h0'
    omega
  omega
/-- One digit more. -/
theorem div_step {hi M a R g : Int} (hM : 0 < M) (hR : hi % M = R) (h1 : g * M ≤ a + 65536 * R) (h2 : a + 65536 * R < (g + 1) * M) :
    (a + 65536 * hi) / M = g + 65536 * (hi / M) ∧ (a + 65536 * hi) % M = a + 65536 * R - g * M := by
  have h3 := Int.mul_ediv_add_emod hi M
  rw [hR] at h3
  have e : a + 65536 * hi = (a + 65536 * R - g * M) + M * (g + 65536 * (hi / M)) := by
    rw [← h3]
    have : (M * (hi / M) + R) / M = hi / M := by rw [h3]
    rw [this]; grind
  have h4 : 0 ≤ a + 65536 * R - g * M := by omega
  have h5 : a + 65536 * R - g * M < M := by rw [Int.add_mul] at h2; omega
  constructor
  · rw [e, Int.add_mul_ediv_left _ _ (by omega), Int.ediv_eq_zero_of_lt h4 h5]; omega
  · rw [e, Int.add_mul_emod_self_left, Int.emod_eq_of_lt h4 h5]
theorem drop_set {S : List Int} {k : Nat} (x : Int) (h : k < S.length) : val ((S.set k x).drop k) = x + 65536 * val (S.drop (k + 1)) := by
  rw [drop_step _ k (by simpa using h)]
  congr 1
  · simp [List.getD, h]
  · rw [List.drop_set_of_lt (by omega)]
end Go.Proofs.YtjmiaakfdclfjaaGreatDoor.D
