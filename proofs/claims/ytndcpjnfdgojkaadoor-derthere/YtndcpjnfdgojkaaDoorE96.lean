/-
  Der: numbers that are not below 0 there and back, without a walk.
-/
import Derived.Test.YtndcpjnfdgojkaaDoorE95
import Derived.Test.YtndcpjnfdgojkaaDoorE91
namespace Go.Proofs.YtndcpjnfdgojkaaDoor
open Go.RowKit
theorem pow_256 (k : Nat) : 2 ^ (8 * k) = 256 ^ k := by rw [Nat.pow_mul]
theorem bv_pI (N m : Nat) : ∀ k, k ≤ m → bv ((pI (N : Int) m).reverse.take k) = ((N % 256 ^ k : Nat) : Int)
  | 0, _ => by simp [bv, Nat.mod_one]
  | k + 1, hk => by
    have hl : k < (pI (N : Int) m).reverse.length := by rw [List.length_reverse, pI_len]; omega
    rw [bv_take_succ _ _ hl, bv_pI N m k (by omega)]
    have e : (pI (N : Int) m).reverse.getD k 0 = ((N / 256 ^ k % 256 : Nat) : Int) := by
      rw [List.getD_eq_getElem?_getD, List.getElem?_reverse (by rw [pI_len]; omega), pI_len, ← List.getD_eq_getElem?_getD, pI_get _ _ _ (by omega), show m - 1 - (m - 1 - k) = k by omega, qs_nat, pow_256]
      rfl
    rw [e, Nat.pow_succ, Nat.mod_mul, Int.natCast_add, Int.natCast_mul, Int.natCast_pow]
    rfl
theorem bv_full (N m : Nat) (h : N < 256 ^ m) : bv (pI (N : Int) m).reverse = (N : Int) := by
  have := bv_pI N m m (Nat.le_refl _)
  rw [List.take_of_length_le (by rw [List.length_reverse, pI_len]; exact Nat.le_refl _), Nat.mod_eq_of_lt h] at this
  exact this
theorem pI_drop (n : Int) (m : Nat) : (pI n (m + 1)).drop 1 = pI n m := by
  refine List.ext_getElem (by rw [List.length_drop, pI_len, pI_len]; omega) (fun i h1 h2 => ?_)
  rw [pI_len] at h2
  rw [List.getElem_drop]
  have a := pI_get n (m + 1) (1 + i) (by omega)
  have b := pI_get n m i h2
  rw [List.getD_eq_getElem?_getD, List.getElem?_eq_getElem (by rw [pI_len]; omega)] at a b
  rw [show m + 1 - 1 - (1 + i) = m - 1 - i by omega] at a
  exact a.trans b.symm
theorem uint_there {N m : Nat} (h : IsU (N : Int) m) (hm : m ≤ 2048) : uintS (pI (N : Int) m) = (lim N, 0) := by
  have hok := (int_pI h.1 h.2.1).2 h.2.2
  obtain ⟨d, rfl⟩ : ∃ d, m = d + 1 := ⟨m - 1, by have := h.1; omega⟩
  have hN := (pk_nat N _).1 h.2.1
  rw [Nat.add_sub_cancel, Nat.pow_add, pow_256] at hN
  have hq : N / 256 ^ d < 128 := by
    rw [Nat.div_lt_iff_lt_mul (Nat.pow_pos (by decide))]
    rw [Nat.mul_comm]; exact hN
  obtain ⟨Q, hQ⟩ : ∃ Q, N / 256 ^ d = Q := ⟨_, rfl⟩
  rw [hQ] at hq
  have h0 : (pI (N : Int) (d + 1)).getD 0 0 = (Q : Int) := by
    rw [pI_get _ _ _ (by omega), show d + 1 - 1 - 0 = d by omega, qs_nat, pow_256, hQ]
    omega
  unfold uintS
  rw [if_neg (by rw [hok]; simp), h0, if_neg (by omega)]
  by_cases hz : Q = 0
  · have hlt : N < 256 ^ d := by
      rw [← hQ, Nat.div_eq_zero_iff] at hz
      have : 0 < 256 ^ d := Nat.pow_pos (by decide)
      omega
    rw [if_pos (by omega), pI_drop]
    unfold fromS
    rw [if_neg (by rw [pI_len]; omega), bv_full N d hlt, Int.toNat_natCast]
  · have hlt : N < 256 ^ (d + 1) := by
      rw [Nat.pow_succ]
      have : 0 < 256 ^ d := Nat.pow_pos (by decide)
      omega
    rw [if_neg (by omega)]
    unfold fromS
    rw [if_neg (by rw [pI_len]; omega), bv_full N (d + 1) hlt, Int.toNat_natCast]
end Go.Proofs.YtndcpjnfdgojkaaDoor
