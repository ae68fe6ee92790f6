/-
  The walks of the reference's reach and take: lists of limbs as 64-bit numbers.
-/
import Derived.Test.YthkheocggcmooaaW36
import Derived.Test.YthkheocggcmooaaW6
namespace Go.Proofs.Ythkheocggcmooaa
open Go.RowKit

theorem val_top {R : List Int} {n : Nat} (h : R.length = n + 1) : val R = val (R.take n) + 4294967296 ^ n * R.getD n 0 := by
  have := val_take_succ R n (by omega)
  rw [List.take_of_length_le (by omega)] at this; exact this

set_option maxHeartbeats 2000000 in
theorem reach_any {w : World} (v u : Value) (R P : List Int) (hR : Sl .u64 w v R) (hP : Sl .u64 w u P) (uR : U32s R) (uP : U32s P) (n : Nat) (lR : R.length = n + 1) (lP : P.length = n) (hn : n ≤ 65536) (c : Bool) (hc : decide (val P ≤ val R) = c) :
    Calls Try.prog 73 #[v, u] w fun e w' => e = .returned (.bool c) ∧ Below w.heap.size w w' := by
  subst hc
  obtain ⟨a, ca, hv, hca⟩ := hR.len
  obtain ⟨b, cb, hu, hcb⟩ := hP.len
  subst hv; subst hu
  rw [lR] at hR hca ⊢
  rw [lP] at hP hcb ⊢
  obtain ⟨br, orr, ha, hbr, hrr⟩ : ∃ b off, a = some ⟨b, off, none⟩ ∧ b < w.heap.size ∧ Rd .u64 w b off R := by
    obtain ⟨a', c', h1, _, h2⟩ := id hR
    simp only [Value.slice.injEq] at h1
    obtain ⟨rfl, _, _⟩ := h1
    rcases h2 with h2 | ⟨b, off, rfl, hb, hr⟩
    · rw [h2] at lR; simp at lR
    · exact ⟨b, off, rfl, hb, hr⟩
  subst ha
  obtain ⟨t, ht⟩ : ∃ t, R.getD n 0 = t := ⟨_, rfl⟩
  have ut : U32 t := ht ▸ uR.at n
  obtain ⟨ut1, ut2⟩ := ut
  have hct : w.cell? ⟨br, orr + n, none⟩ = some (.int .u64 t) := by rw [hrr n (by omega), ht]
  by_cases ht0 : 0 < t
  · have HV : Hid (val P ≤ val R) := by
      show val P ≤ val R
      have h1 := val_top lR; have h2 := val_nonneg (uR.take n); have h3 := val_lt uP
      rw [ht] at h1; rw [lP] at h3
      have h4 : 4294967296 ^ n * 1 ≤ 4294967296 ^ n * t := Int.mul_le_mul_of_nonneg_left (by omega) (Int.le_of_lt (pow_pos32 n))
      omega
    clear hrr hR hP
    go_enter Try.func73, Try.ntmps73
    go_wp2
    go_ret
    exact ⟨by rw [decide_eq_true HV.out]; rfl, Below.refl _ _⟩
  have ht' : t = 0 := by omega
  have HT : Hid (R.getD n 0 = 0) := ht.trans ht'
  have HR : Hid (Rd .u64 w br orr R) := hrr
  clear ht hrr
  subst ht'
  go_enter Try.func73, Try.ntmps73
  go_wp2
  go_loopw [5] (fun i wr => ∃ k : Nat, k ≤ n ∧ i = .int .i64 ((k : Int) - 1) ∧ (∀ j, k ≤ j → R.getD j 0 = P.getD j 0) ∧ Below w.heap.size w wr) (fun i _ => (intOf i + 1).toNat)
  case atStart =>
    refine ⟨n, Nat.le_refl _, by go_num, fun j h1 => ?_, Below.refl _ _⟩
    by_cases hj : j = n
    · subst hj; rw [HT.out, getD_out P (by omega)]
    · rw [getD_out R (by omega), getD_out P (by omega)]
  case round =>
    obtain ⟨k, hk, rfl, hz, hBt⟩ := hrel
    cases k with
    | zero =>
      have HV : Hid (val P ≤ val R) := by
        have := val_ext R P (fun j => hz j (Nat.zero_le _))
        show val P ≤ val R; omega
      have em : (((0 : Nat) : Int) - 1) = -1 := by rfl
      rw [em]
      clear em hz
      go_wp2
      go_ret
      exact ⟨by rw [decide_eq_true HV.out]; rfl, hBt⟩
    | succ m =>
      have em : (((m + 1 : Nat) : Int) - 1) = (m : Int) := by omega
      rw [em]
      clear em
      obtain ⟨x, hx⟩ : ∃ x, R.getD m 0 = x := ⟨_, rfl⟩
      obtain ⟨y, hy⟩ : ∃ y, P.getD m 0 = y := ⟨_, rfl⟩
      obtain ⟨bp, op, hb, hbp, hrp⟩ : ∃ b' off, b = some ⟨b', off, none⟩ ∧ b' < w.heap.size ∧ Rd .u64 w b' off P := by
        obtain ⟨a', c', h1, _, h2⟩ := id hP
        simp only [Value.slice.injEq] at h1
        obtain ⟨rfl, _, _⟩ := h1
        rcases h2 with h2 | ⟨b, off, rfl, hb, hr⟩
        · rw [h2] at lP; simp at lP; omega
        · exact ⟨b, off, rfl, hb, hr⟩
      subst hb
      have hcx : wr.cell? ⟨br, orr + m, none⟩ = some (.int .u64 x) := by rw [hBt.cell hbr, HR.out m (by omega), hx]
      have hcy : wr.cell? ⟨bp, op + m, none⟩ = some (.int .u64 y) := by rw [hBt.cell hbp, hrp m (by omega), hy]
      have hm0 : (0 : Int) ≤ (m : Int) := by omega
      have hm1 : (m : Int) < (n : Int) := by omega
      have hm2 : (m : Int) < (n : Int) + 1 := by omega
      by_cases hxy : x = y
      · have HZ : Hid (∀ j, m ≤ j → R.getD j 0 = P.getD j 0) := fun j hj => by
          by_cases h3 : j = m
          · subst h3; rw [hx, hy, hxy]
          · exact hz j (by omega)
        subst hxy
        clear hz hx hy hrp
        go_wp2
        go_quiet (fail)
        go_wp2
        go_roundw
        case rel => exact ⟨m, by omega, by go_num, HZ.out, dr hBt⟩
        case measure => simp [intOf]
      · have HV : Hid (decide (val P ≤ val R) = decide (y < x)) := by
          show decide (val P ≤ val R) = decide (y < x)
          by_cases h1 : x < y
          · have := val_lt_of m R P uR uP (fun j hj => hz j (by omega)) (by rw [hx, hy]; exact h1)
            rw [decide_eq_false (by omega), decide_eq_false (by omega)]
          · have := val_lt_of m P R uP uR (fun j hj => (hz j (by omega)).symm) (by rw [hx, hy]; omega)
            rw [decide_eq_true (by omega), decide_eq_true (by omega)]
        have hne : (x != y) = true := by simpa using hxy
        have hne' : (x == y) = false := by simpa using hxy
        clear hz hx hy hrp
        go_wp2
        go_quiet (fail)
        go_wp2
        go_quiet (fail)
        go_wp2
        go_ret
        exact ⟨by rw [HV.out]; rfl, dr (dr hBt)⟩
end Go.Proofs.Ythkheocggcmooaa
