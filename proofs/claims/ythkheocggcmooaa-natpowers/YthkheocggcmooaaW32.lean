/-
  The walk of the reference's order: which of two numbers in digits is greater.
-/
import Derived.Test.YthkheocggcmooaaW31
namespace Go.Proofs.Ythkheocggcmooaa
open Go.RowKit

def maxN (a b : Nat) : Nat := if a < b then b else a
set_option maxHeartbeats 1000000 in
theorem order_any {w : World} (v u : Value) (xs ys : List Int) (h : Sl .u64 w v xs) (h' : Sl .u64 w u ys) (ux : D.U16s xs) (uy : D.U16s ys) (hl : xs.length ≤ 1073741824) (hl' : ys.length ≤ 1073741824) (c : Int) (hc : cmpI (D.val xs) (D.val ys) = c) :
    Calls Try.prog 54 #[v, u] w fun e w' => e = .returned (.int .i64 c) ∧ w = w' := by
  obtain ⟨a, cp, hv, _⟩ := h.len
  obtain ⟨a', cp', hv', _⟩ := h'.len
  subst hv; subst hv'
  obtain ⟨n, hn⟩ : ∃ n, maxN xs.length ys.length = n := ⟨_, rfl⟩
  have hn1 : xs.length ≤ n := by rw [← hn]; unfold maxN; split <;> omega
  have hn2 : ys.length ≤ n := by rw [← hn]; unfold maxN; split <;> omega
  have HC : Hid (cmpI (D.val xs) (D.val ys) = c) := hc
  clear hc
  by_cases hlt : xs.length < ys.length
  · have e1 : n = ys.length := by rw [← hn]; unfold maxN; rw [if_pos hlt]
    clear hn
    subst e1
    go_enter Try.func54, Try.ntmps54
    go_wp2
    go_loop [6] (fun i => ∃ k : Nat, k ≤ ys.length ∧ i = .int .i64 ((k : Int) - 1) ∧ ∀ j, k ≤ j → xs.getD j 0 = ys.getD j 0) (fun i => (intOf i + 1).toNat)
    case atStart => exact ⟨ys.length, Nat.le_refl _, by go_num, fun j h1 => by rw [List.getD, List.getD, List.getElem?_eq_none (by omega), List.getElem?_eq_none (by omega)]⟩
    case round =>
      obtain ⟨k, hk, rfl, hz⟩ := hrel
      cases k with
      | zero =>
        have HE : Hid (c = 0) := by
          have h1 := D.val_ext xs ys (fun j => hz j (Nat.zero_le _)); have h2 := HC.out
          unfold cmpI at h2; rw [if_neg (by omega), if_neg (by omega)] at h2; exact h2.symm
        clear hz
        simp only [Int.ofNat_zero, Int.zero_sub]
        go_wp2
        go_ret
        exact ⟨by rw [HE.out]; rfl, rfl⟩
      | succ m =>
        have em : (((m + 1 : Nat) : Int) - 1) = (m : Int) := by omega
        rw [em]
        clear em
        obtain ⟨x, hx⟩ : ∃ x, xs.getD m 0 = x := ⟨_, rfl⟩
        obtain ⟨y, hy⟩ : ∃ y, ys.getD m 0 = y := ⟨_, rfl⟩
        have HZ : Hid (∀ j, m + 1 ≤ j → xs.getD j 0 = ys.getD j 0) := hz
        have HX : Hid (xs.getD m 0 = x) := hx
        have HY : Hid (ys.getD m 0 = y) := hy
        have HT : Hid (x < y → c = -1) := fun hlt => by
          have h1 := D.val_lt_of m xs ys ux uy (fun j hj => hz j (by omega)) (by rw [hx, hy]; exact hlt)
          have h2 := HC.out; unfold cmpI at h2; rw [if_pos h1] at h2; exact h2.symm
        have HG : Hid (y < x → c = 1) := fun hlt => by
          have h1 := D.val_lt_of m ys xs uy ux (fun j hj => (hz j (by omega)).symm) (by rw [hx, hy]; exact hlt)
          have h2 := HC.out; unfold cmpI at h2; rw [if_neg (by omega), if_pos h1] at h2; exact h2.symm
        clear hz hx hy
        have hd1 := digit_nat _ xs h (by omega) m (by omega) x HX.out
        have hd2 := digit_nat _ ys h' (by omega) m (by omega) y HY.out
        by_cases hxy : x < y
        · have hE : c = -1 := HT.out hxy
          subst hE
          go_wp2_with (first
            | (go_at_call 64; replace hdone := hdone; refine (hd2).mono ?_; rintro e w' ⟨rfl, rfl⟩; clear hdone)
            | (go_at_call 64; refine (hd1).mono ?_; rintro e w' ⟨rfl, rfl⟩; have hdone := trivial))
          go_ret
          exact ⟨rfl, rfl⟩
        by_cases hyx : y < x
        · have hE : c = 1 := HG.out hyx
          subst hE
          go_wp2_with (first
            | (go_at_call 64; replace hdone := hdone; refine (hd2).mono ?_; rintro e w' ⟨rfl, rfl⟩; clear hdone)
            | (go_at_call 64; refine (hd1).mono ?_; rintro e w' ⟨rfl, rfl⟩; have hdone := trivial))
          go_ret
          exact ⟨rfl, rfl⟩
        · go_wp2_with (first
            | (go_at_call 64; replace hdone := hdone; refine (hd2).mono ?_; rintro e w' ⟨rfl, rfl⟩; clear hdone)
            | (go_at_call 64; refine (hd1).mono ?_; rintro e w' ⟨rfl, rfl⟩; have hdone := trivial))
          go_round
          case rel => exact ⟨m, by omega, by go_num, fun j h1 => by
            by_cases h3 : j = m
            · subst h3; rw [HX.out, HY.out]; omega
            · exact HZ.out j (by omega)⟩
          case measure => simp [intOf]
  · have e1 : n = xs.length := by rw [← hn]; unfold maxN; rw [if_neg hlt]
    clear hn
    subst e1
    go_enter Try.func54, Try.ntmps54
    go_wp2
    go_loop [6] (fun i => ∃ k : Nat, k ≤ xs.length ∧ i = .int .i64 ((k : Int) - 1) ∧ ∀ j, k ≤ j → xs.getD j 0 = ys.getD j 0) (fun i => (intOf i + 1).toNat)
    case atStart => exact ⟨xs.length, Nat.le_refl _, by go_num, fun j h1 => by rw [List.getD, List.getD, List.getElem?_eq_none (by omega), List.getElem?_eq_none (by omega)]⟩
    case round =>
      obtain ⟨k, hk, rfl, hz⟩ := hrel
      cases k with
      | zero =>
        have HE : Hid (c = 0) := by
          have h1 := D.val_ext xs ys (fun j => hz j (Nat.zero_le _)); have h2 := HC.out
          unfold cmpI at h2; rw [if_neg (by omega), if_neg (by omega)] at h2; exact h2.symm
        clear hz
        simp only [Int.ofNat_zero, Int.zero_sub]
        go_wp2
        go_ret
        exact ⟨by rw [HE.out]; rfl, rfl⟩
      | succ m =>
        have em : (((m + 1 : Nat) : Int) - 1) = (m : Int) := by omega
        rw [em]
        clear em
        obtain ⟨x, hx⟩ : ∃ x, xs.getD m 0 = x := ⟨_, rfl⟩
        obtain ⟨y, hy⟩ : ∃ y, ys.getD m 0 = y := ⟨_, rfl⟩
        have HZ : Hid (∀ j, m + 1 ≤ j → xs.getD j 0 = ys.getD j 0) := hz
        have HX : Hid (xs.getD m 0 = x) := hx
        have HY : Hid (ys.getD m 0 = y) := hy
        have HT : Hid (x < y → c = -1) := fun hlt => by
          have h1 := D.val_lt_of m xs ys ux uy (fun j hj => hz j (by omega)) (by rw [hx, hy]; exact hlt)
          have h2 := HC.out; unfold cmpI at h2; rw [if_pos h1] at h2; exact h2.symm
        have HG : Hid (y < x → c = 1) := fun hlt => by
          have h1 := D.val_lt_of m ys xs uy ux (fun j hj => (hz j (by omega)).symm) (by rw [hx, hy]; exact hlt)
          have h2 := HC.out; unfold cmpI at h2; rw [if_neg (by omega), if_pos h1] at h2; exact h2.symm
        clear hz hx hy
        have hd1 := digit_nat _ xs h (by omega) m (by omega) x HX.out
        have hd2 := digit_nat _ ys h' (by omega) m (by omega) y HY.out
        by_cases hxy : x < y
        · have hE : c = -1 := HT.out hxy
          subst hE
          go_wp2_with (first
            | (go_at_call 64; replace hdone := hdone; refine (hd2).mono ?_; rintro e w' ⟨rfl, rfl⟩; clear hdone)
            | (go_at_call 64; refine (hd1).mono ?_; rintro e w' ⟨rfl, rfl⟩; have hdone := trivial))
          go_ret
          exact ⟨rfl, rfl⟩
        by_cases hyx : y < x
        · have hE : c = 1 := HG.out hyx
          subst hE
          go_wp2_with (first
            | (go_at_call 64; replace hdone := hdone; refine (hd2).mono ?_; rintro e w' ⟨rfl, rfl⟩; clear hdone)
            | (go_at_call 64; refine (hd1).mono ?_; rintro e w' ⟨rfl, rfl⟩; have hdone := trivial))
          go_ret
          exact ⟨rfl, rfl⟩
        · go_wp2_with (first
            | (go_at_call 64; replace hdone := hdone; refine (hd2).mono ?_; rintro e w' ⟨rfl, rfl⟩; clear hdone)
            | (go_at_call 64; refine (hd1).mono ?_; rintro e w' ⟨rfl, rfl⟩; have hdone := trivial))
          go_round
          case rel => exact ⟨m, by omega, by go_num, fun j h1 => by
            by_cases h3 : j = m
            · subst h3; rw [HX.out, HY.out]; omega
            · exact HZ.out j (by omega)⟩
          case measure => simp [intOf]
end Go.Proofs.Ythkheocggcmooaa
