/-
  Der: how many groups of seven bits, how many bytes.
-/
import Derived.Test.YtndcpjnfdgojkaaDoorE24
namespace Go.Proofs.YtndcpjnfdgojkaaDoor
open Go.RowKit
theorem ex_sev (t : Nat) (h : t ≤ 268435455) : ∃ k, k ≤ 8 ∧ t / 128 ^ k < 128 ∧ ∀ j, j < k → 128 ≤ t / 128 ^ j := by
  by_cases h0 : t < 128
  · exact ⟨0, by omega, by simpa using h0, fun j hj => by omega⟩
  by_cases h1 : t < 16384
  · exact ⟨1, by omega, by simp; omega, fun j hj => by
      obtain rfl : j = 0 := by omega
      simp
      omega⟩
  by_cases h2 : t < 2097152
  · exact ⟨2, by omega, by simp; omega, fun j hj => by
      have : j = 0 ∨ j = 1 := by omega
      rcases this with rfl | rfl <;> simp <;> omega⟩
  · exact ⟨3, by omega, by simp; omega, fun j hj => by
      have : j = 0 ∨ j = 1 ∨ j = 2 := by omega
      rcases this with rfl | rfl | rfl <;> simp <;> omega⟩
theorem ex_len (t : Nat) (h : t ≤ 16777216) : ∃ l, l ≤ 7 ∧ t / 256 ^ l = 0 ∧ ∀ j, j < l → 0 < t / 256 ^ j := by
  by_cases h0 : t = 0
  · exact ⟨0, by omega, by simpa using h0, fun j hj => by omega⟩
  by_cases h1 : t < 256
  · exact ⟨1, by omega, by simp; omega, fun j hj => by
      obtain rfl : j = 0 := by omega
      simp
      omega⟩
  by_cases h2 : t < 65536
  · exact ⟨2, by omega, by simp; omega, fun j hj => by
      have : j = 0 ∨ j = 1 := by omega
      rcases this with rfl | rfl <;> simp <;> omega⟩
  by_cases h3 : t < 16777216
  · exact ⟨3, by omega, by simp; omega, fun j hj => by
      have : j = 0 ∨ j = 1 ∨ j = 2 := by omega
      rcases this with rfl | rfl | rfl <;> simp <;> omega⟩
  · exact ⟨4, by omega, by simp; omega, fun j hj => by
      have : j = 0 ∨ j = 1 ∨ j = 2 ∨ j = 3 := by omega
      rcases this with rfl | rfl | rfl | rfl <;> simp <;> omega⟩
end Go.Proofs.YtndcpjnfdgojkaaDoor
