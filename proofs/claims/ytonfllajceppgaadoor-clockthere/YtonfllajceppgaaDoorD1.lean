/-
  Clock: decimal digits in so many places.
-/
import Derived.Test.YtonfllajceppgaaDoorC17
import Derived.Test.YtonfllajceppgaaDoorShelf
import Derived.Lib.ItoaLen
namespace Go.Proofs.YtonfllajceppgaaDoor
open Go.RowKit
/-- The last k digits of n, the first ahead. -/
def wd : Nat → Nat → List Int
  | 0, _ => []
  | k + 1, n => wd k (n / 10) ++ [48 + ((n % 10 : Nat) : Int)]
theorem wd_len : ∀ k n, (wd k n).length = k
  | 0, _ => rfl
  | k + 1, n => by show (wd k (n / 10) ++ [_]).length = _; rw [List.length_append, wd_len k]; rfl
theorem wd_dgs : ∀ k n, Dgs (wd k n)
  | 0, _ => fun x hx => by simp [wd] at hx
  | k + 1, n => fun x hx => by
    rcases List.mem_append.1 hx with h | h
    · exact wd_dgs k _ x h
    · have := List.mem_singleton.1 h
      subst this
      unfold Dg; omega
theorem wd_add (j : Nat) : ∀ k n, wd (j + k) n = wd j (n / 10 ^ k) ++ wd k n
  | 0, n => by simp [wd]
  | k + 1, n => by
    show wd (j + k) (n / 10) ++ [_] = wd j _ ++ (wd k (n / 10) ++ [_])
    rw [wd_add j k (n / 10), List.append_assoc, Nat.div_div_eq_div_mul, show 10 * 10 ^ k = 10 ^ (k + 1) by rw [Nat.pow_succ, Nat.mul_comm]]
theorem wd_low (a : Nat) : ∀ k b, wd k (a * 10 ^ k + b) = wd k b
  | 0, b => rfl
  | k + 1, b => by
    show wd k ((a * 10 ^ (k + 1) + b) / 10) ++ [48 + (((a * 10 ^ (k + 1) + b) % 10 : Nat) : Int)] = wd k (b / 10) ++ [48 + ((b % 10 : Nat) : Int)]
    have e : a * 10 ^ (k + 1) = 10 * (a * 10 ^ k) := by rw [Nat.pow_succ, ← Nat.mul_assoc, Nat.mul_comm]
    rw [e]
    have e1 : (10 * (a * 10 ^ k) + b) / 10 = a * 10 ^ k + b / 10 := by omega
    have e2 : (10 * (a * 10 ^ k) + b) % 10 = b % 10 := by omega
    rw [e1, e2, wd_low a k]
theorem wd_join (j k a b : Nat) (h : b < 10 ^ k) : wd (j + k) (a * 10 ^ k + b) = wd j a ++ wd k b := by
  rw [wd_add, wd_low]
  congr 2
  rw [Nat.mul_comm, Nat.mul_add_div (Nat.pow_pos (by decide)), Nat.div_eq_of_lt h, Nat.add_zero]
theorem wd_zero : ∀ k, wd k 0 = zeros k
  | 0 => rfl
  | k + 1 => by
    show wd k (0 / 10) ++ [48 + ((0 % 10 : Nat) : Int)] = _
    rw [show 0 / 10 = 0 from rfl, wd_zero k]
    unfold zeros
    rw [List.replicate_succ']
    rfl
def nums (l : List UInt8) : List Int := l.map fun b => (b.toNat : Int)
theorem nums_app (a b : List UInt8) : nums (a ++ b) = nums a ++ nums b := by simp [nums]
theorem nums_len (l : List UInt8) : (nums l).length = l.length := by simp [nums]
theorem str_nums (l : List UInt8) : strOfNums (nums l) = ⟨l.toArray⟩ := by
  unfold strOfNums nums
  rw [List.map_map]
  congr 2
  apply List.ext_getElem
  · simp
  · intro i h1 h2
    simp
theorem dig_wd : ∀ (k u : Nat), u < 10 ^ (k + 1) → (Lib.decDigits u).length ≤ k + 1 ∧ zeros (k + 1 - (Lib.decDigits u).length) ++ nums (Lib.decDigits u) = wd (k + 1) u
  | 0, u, h => by
    have h10 : u < 10 := by simpa using h
    rw [Lib.decDigits_one h10]
    refine ⟨by simp, ?_⟩
    show [((UInt8.ofNat (48 + u)).toNat : Int)] = [] ++ [48 + ((u % 10 : Nat) : Int)]
    simp
    omega
  | k + 1, u, h => by
    by_cases h10 : u < 10
    · rw [Lib.decDigits_one h10]
      refine ⟨by simp, ?_⟩
      show zeros (k + 1) ++ [((UInt8.ofNat (48 + u)).toNat : Int)] = wd (k + 1) (u / 10) ++ [48 + ((u % 10 : Nat) : Int)]
      rw [show u / 10 = 0 by omega, wd_zero]
      congr 2
      simp
      omega
    · have ih := dig_wd k (u / 10) (by rw [Nat.pow_succ] at h; omega)
      have e : Lib.decDigits u = Lib.decDigits (u / 10) ++ [UInt8.ofNat (48 + u % 10)] := by rw [Lib.decDigits, dif_neg h10]
      rw [e, List.length_append]
      refine ⟨by simp; exact ih.1, ?_⟩
      rw [nums_app, ← List.append_assoc]
      show _ = wd (k + 1) (u / 10) ++ [48 + ((u % 10 : Nat) : Int)]
      rw [← ih.2]
      congr 1
      · congr 2
        simp
      · show [((UInt8.ofNat (48 + u % 10)).toNat : Int)] = _
        simp
        omega
abbrev P10 (w : World) : Prop := Lib.TabIs Tryd.prog w "internal/strconv.uint64pow10" .u64 Lib.pow10Tab
theorem Itoa_any {w : World} (n : Int) (h0 : -9223372036854775808 ≤ n) (h1 : n ≤ 9223372036854775807) (hT : P10 w) :
    Calls Tryd.prog 25 #[.int .i64 n] w fun e w' => e = .returned (.string (strOfNums (nums (Lib.itoa n)))) ∧ Below w.heap.size w w' := by
  refine (Tryd.strconv_Itoa n h0 h1 w hT).mono ?_
  rintro e w' ⟨rfl, k, os, rfl⟩
  refine ⟨by rw [str_nums], rfl, rfl, rfl, ?_, fun j hj => ?_⟩
  · show _ ≤ (w.heap ++ os).size
    rw [Array.size_append]; omega
  · show (w.heap ++ os)[j]? = _
    rw [Array.getElem?_append_left hj]
set_option maxRecDepth 100000 in
set_option maxHeartbeats 1000000 in
theorem digits_any {w : World} (u k : Nat) (hk : k < 14) (hu : u < 10 ^ (k + 1)) (hT : P10 w) : Calls Tryd.prog 15 #[.int .i64 u, .int .i64 ((k + 1 : Nat) : Int)] w fun e w' => e = .returned (.string (strOfNums (wd (k + 1) u))) ∧ Below w.heap.size w w' := by
  have hd := dig_wd k u hu
  have u14 : u < 100000000000000 := Nat.lt_of_lt_of_le hu (by
    have : 10 ^ (k + 1) ≤ 10 ^ 14 := Nat.pow_le_pow_right (by decide) (by omega)
    simpa using this)
  have HI : Hid (∀ w, P10 w → Calls Tryd.prog 25 #[.int .i64 u] w fun e w' => e = .returned (.string (strOfNums (nums (Lib.decDigits u)))) ∧ Below w.heap.size w w') := fun w h => by
    have := Itoa_any (w := w) u (by omega) (by omega) h
    rw [Lib.itoa_nonneg] at this
    exact this
  have HT : Hid (P10 w) := hT
  obtain ⟨D, hD⟩ : ∃ D, nums (Lib.decDigits u) = D := ⟨_, rfl⟩
  rw [← nums_len, hD] at hd
  rw [hD] at HI
  obtain ⟨z, hz⟩ : ∃ z, D.length = z := ⟨_, rfl⟩
  rw [hz] at hd
  have hS : (strOfNums D).size = z := by rw [st_size]; exact hz
  have hZ : (strOfNums (zeros (k + 1 - z))).size ≤ 14 := by rw [st_size]; unfold zeros; simp; omega
  have HA : Hid (strOfNums (zeros (k + 1 - z)) ++ strOfNums D = strOfNums (wd (k + 1) u)) := by
    show _ = _
    rw [st_append, hd.2]
  have HR : Hid (∀ w : World, Calls Tryd.prog 26 #[.string ⟨#[48]⟩, .int .i64 (((k + 1 : Nat) : Int) - (z : Int))] w fun e w' => e = .returned (.string (strOfNums (zeros (k + 1 - z)))) ∧ w = w') := fun w => by
    have := Repeat_k (w := w) (k + 1 - z) (by omega)
    rw [show ((k + 1 - z : Nat) : Int) = ((k + 1 : Nat) : Int) - (z : Int) by omega] at this
    exact this
  obtain ⟨A, hA⟩ : ∃ A, strOfNums (zeros (k + 1 - z)) = A := ⟨_, rfl⟩
  obtain ⟨B, hB⟩ : ∃ B, strOfNums D = B := ⟨_, rfl⟩
  rw [hA] at hZ HA HR
  rw [hB] at hS HA HI
  obtain ⟨q, hq⟩ : ∃ q, k + 1 = q := ⟨_, rfl⟩
  rw [hq] at HR HA hd ⊢
  have zq : (z : Int) ≤ (q : Int) := by omega
  have qz : (q : Int) ≤ 14 := by omega
  have zz : (B.size : Int) = (z : Int) := by omega
  have Bz : B.size ≤ 14 := by omega
  have HBs : Hid (B.size = z) := hS
  clear hS hA hB hD hd hz hu hT hq hk
  go_enter Tryd.func15, Tryd.ntmps15
  go_wp2_with fail
  refine (HI.out _ HT.out).mono ?_
  rintro e w1 ⟨rfl, hb⟩
  have H1 : Hid (Below w.heap.size w w1) := hb
  clear hb
  go_wp2_with fail
  refine (HR.out _).mono ?_
  rintro e w2 ⟨rfl, rfl⟩
  go_wp2
  go_ret
  refine ⟨?_, H1.out⟩
  rw [← HA.out]; rfl
end Go.Proofs.YtonfllajceppgaaDoor
