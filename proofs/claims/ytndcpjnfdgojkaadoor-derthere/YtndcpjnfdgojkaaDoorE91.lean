/-
  Der: the bytes of a number that is not below 0.
-/
import Derived.Test.YtndcpjnfdgojkaaDoorE90
namespace Go.Proofs.YtndcpjnfdgojkaaDoor
open Go.RowKit
/-- So many bytes it takes, whatever its size. -/
def IsU (n : Int) (m : Nat) : Prop := 1 ≤ m ∧ pk n (m - 1) ∧ (m = 1 ∨ ¬ pk n (m - 2))
theorem IsU.uniq {n : Int} {m m' : Nat} (h : IsU n m) (h' : IsU n m') : m = m' := by
  obtain ⟨a1, a3, a4⟩ := h
  obtain ⟨b1, b3, b4⟩ := h'
  rcases Nat.lt_trichotomy m m' with hlt | heq | hgt
  · rcases b4 with b4 | b4
    · omega
    · have := pk_more a3 (m' - 2 - (m - 1))
      rw [show m - 1 + (m' - 2 - (m - 1)) = m' - 2 by omega] at this
      exact absurd this b4
  · exact heq
  · rcases a4 with a4 | a4
    · omega
    · have := pk_more b3 (m - 2 - (m' - 1))
      rw [show m' - 1 + (m - 2 - (m' - 1)) = m - 2 by omega] at this
      exact absurd this a4
theorem qs_nat (N : Nat) : ∀ d, qs (N : Int) d = ((N / 2 ^ (8 * d) : Nat) : Int)
  | 0 => by simp [qs]
  | d + 1 => by
    show qs (N : Int) d / 256 = _
    rw [qs_nat N d, show 8 * (d + 1) = 8 * d + 8 by omega, Nat.pow_add, ← Nat.div_div_eq_div_mul]
    rfl
theorem pk_nat (N j : Nat) : pk (N : Int) j ↔ N < 2 ^ (8 * j + 7) := by
  unfold pk
  rw [rsI_qs, qs_nat]
  have h0 : N / 2 ^ (8 * j) / 128 = N / 2 ^ (8 * j + 7) := by rw [Nat.pow_add, ← Nat.div_div_eq_div_mul]
  have h1 : ((N / 2 ^ (8 * j) : Nat) : Int) / 128 = ((N / 2 ^ (8 * j + 7) : Nat) : Int) := by rw [← h0]; rfl
  rw [h1]
  have h2 : N / 2 ^ (8 * j + 7) = 0 ↔ N < 2 ^ (8 * j + 7) := by
    rw [Nat.div_eq_zero_iff]
    have : 0 < 2 ^ (8 * j + 7) := Nat.two_pow_pos _
    omega
  rw [← h2]
  obtain ⟨Q, hQ⟩ : ∃ Q, N / 2 ^ (8 * j + 7) = Q := ⟨_, rfl⟩
  rw [hQ]
  clear h0 h1 h2 hQ
  omega
theorem isU_bits (N : Nat) : IsU (N : Int) (bitLen N / 8 + 1) := by
  obtain ⟨l, hl⟩ : ∃ l, bitLen N = l := ⟨_, rfl⟩
  have hs := bitLen_spec N
  rw [hl] at hs ⊢
  refine ⟨by omega, ?_, ?_⟩
  · rw [pk_nat]
    exact Nat.lt_of_lt_of_le hs.1 (Nat.pow_le_pow_right (by decide) (by omega))
  · by_cases h : l / 8 + 1 = 1
    · exact .inl h
    · right
      rw [pk_nat]
      have h2 := hs.2 (by first | omega | (intro h0; subst h0; have : bitLen 0 = 0 := rfl; omega))
      have h3 : 2 ^ (8 * (l / 8 + 1 - 2) + 7) ≤ 2 ^ (l - 1) := Nat.pow_le_pow_right (by decide) (by omega)
      omega
/-- A limb's byte is the number's. -/
theorem limb_byte {A : List Int} (hu : U32s A) (i : Nat) : A.getD (i / 4) 0 / 2 ^ (i % 4 * 8) % 256 = qs (val A) i % 256 := by
  have h := getD_div A (i / 4) hu
  have h0 := val_nonneg hu
  have h1 := hu.at (i / 4)
  obtain ⟨N, hN⟩ := Int.eq_ofNat_of_zero_le h0
  obtain ⟨z, hz⟩ := Int.eq_ofNat_of_zero_le h1.1
  rw [hN, hz] at h
  rw [hN, hz, qs_nat]
  simp only [Int.toNat_natCast] at h
  have e : z / 2 ^ (i % 4 * 8) % 256 = N / 2 ^ (8 * i) % 256 := by
    rw [← h, show 8 * i = 32 * (i / 4) + i % 4 * 8 by omega, Nat.pow_add, ← Nat.div_div_eq_div_mul]
    obtain ⟨M, hM⟩ : ∃ M, N / 2 ^ (32 * (i / 4)) = M := ⟨_, rfl⟩
    rw [hM]
    have h4 : i % 4 = 0 ∨ i % 4 = 1 ∨ i % 4 = 2 ∨ i % 4 = 3 := by omega
    rcases h4 with h4 | h4 | h4 | h4 <;> rw [h4] <;> omega
  have e2 : (z : Int) / 2 ^ (i % 4 * 8) % 256 = ((z / 2 ^ (i % 4 * 8) % 256 : Nat) : Int) := by
    have h4 : i % 4 = 0 ∨ i % 4 = 1 ∨ i % 4 = 2 ∨ i % 4 = 3 := by omega
    rcases h4 with h4 | h4 | h4 | h4 <;> rw [h4] <;> rfl
  rw [e2, e]
  rfl
theorem high_byte {A : List Int} (hu : U32s A) (i : Nat) (hi : A.length ≤ i / 4) : qs (val A) i % 256 = 0 := by
  have h0 := val_nonneg hu
  have h1 := val_lt hu
  obtain ⟨N, hN⟩ := Int.eq_ofNat_of_zero_le h0
  rw [hN, pow32] at h1
  rw [hN, qs_nat]
  have h2 : N < 2 ^ (32 * A.length) := by exact_mod_cast h1
  have h3 : N < 2 ^ (8 * i) := Nat.lt_of_lt_of_le h2 (Nat.pow_le_pow_right (by decide) (by omega))
  rw [Nat.div_eq_of_lt h3]
  rfl
end Go.Proofs.YtndcpjnfdgojkaaDoor
