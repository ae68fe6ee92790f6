/-
  The walk of divideByLimb: any number by a limb.
-/
import Derived.Test.YthkheocggcmooaaW8
namespace Go.Proofs.Ythkheocggcmooaa
open Go.RowKit

theorem or32 (l a : Int) (h0 : 0 ≤ l) (h1 : l < 4294967296) (a0 : 0 ≤ a) (a1 : a < 4294967296) : bits BinOp.or .u64 (l * 4294967296) a = l * 4294967296 + a := by
  obtain ⟨n, rfl⟩ := Int.eq_ofNat_of_zero_le h0
  obtain ⟨m, rfl⟩ := Int.eq_ofNat_of_zero_le a0
  have h := bits_or_u64_nat (n * 4294967296) m (by omega) (by omega)
  have e : n * 4294967296 ||| m = n * 4294967296 + m := by
    have := Nat.two_pow_add_eq_or_of_lt (i := 32) (b := m) (by omega) n
    rw [Nat.mul_comm n 4294967296]; exact this.symm
  rw [e] at h
  simpa using h

theorem quo_step (vs vx l b a q r : Int) (T : Int) (hT : T = l * 4294967296 + a) (hqr : T = q * b + r) (ih : vx = vs * b + l) : a + 4294967296 * vx = (q + 4294967296 * vs) * b + r := by
  rw [ih, Int.add_mul, Int.mul_assoc, Int.mul_add]; omega

theorem drop_set_self {S : List Int} {m : Nat} {z : Int} (h : m < S.length) : (S.set m z).drop m = z :: S.drop (m + 1) := by
  induction S generalizing m with
  | nil => simp at h
  | cons x S ih =>
    cases m with
    | zero => simp
    | succ m => simpa using ih (by simpa using h)

set_option maxHeartbeats 1000000 in
theorem divideByLimb_any (X : List Int) (d : Int) (v : Value) (w : World) (hX : Sl .u32 w v X) (uX : U32s X) (hd0 : 0 < d) (hd1 : d < 4294967296) (lX : X.length ≤ 1099511627776) :
    Calls Try.prog 68 #[v, .int .u32 d] w fun e w' => ∃ q r, e = .returned (.tuple #[q, r]) ∧ Own w.heap.size w' q (lim (val X / d).toNat) ∧ Own w.heap.size w' r (lim (val X % d).toNat) ∧ Below w.heap.size w w' := by
  obtain ⟨aX, cX, rfl, hcX, hXr⟩ := id hX
  go_enter Try.func68, Try.ntmps68
  go_wp2_with (at_make; refine wpList_mk _ rfl _ _ 22 rfl .u32 53 4 Try.und32 Try.info32 _ X.length rfl rfl (by omega) (by omega) (by omega) ?_; intro w1 hA1 hB1)
  go_loopw [6, 14] (fun lv iv wr => ∃ (k : Nat) (l : Int) (S : List Int), iv = .int .i64 k ∧ lv = .int .u64 l ∧ k ≤ X.length ∧ 0 ≤ l ∧ l < d ∧ Arr .u32 53 wr w.heap.size S ∧ U32s S ∧ S.length = X.length ∧ Below w.heap.size w wr ∧ val (X.drop (X.length - k)) = val (S.drop (X.length - k)) * d + l)
      (fun _ iv _ => X.length - (intOf iv).toNat)
  case atStart => exact ⟨0, 0, _, rfl, rfl, Nat.zero_le _, by decide, hd0, hA1, U32s.zeros _, by simp, hB1, by simp [val]⟩
  case round =>
    clear hA1 hB1
    obtain ⟨k, l, S, rfl, rfl, hk, hl0, hl1, hA, huS, hlS, hB, hv⟩ := hrel
    by_cases hlt : k < X.length
    · rcases hXr with rfl | ⟨b, o, rfl, hb, hr⟩
      · simp at hlt
      obtain ⟨m, hm⟩ : ∃ m, X.length - 1 - k = m := ⟨_, rfl⟩
      obtain ⟨a, ha⟩ : ∃ a, X.getD m 0 = a := ⟨_, rfl⟩
      have ua : U32 a := ha ▸ uX.at m
      have hca : wr.cell? ⟨b, o + m, none⟩ = some (.int .u32 a) := by rw [← ha]; exact (below_rd hB hb hr) m (by omega)
      obtain ⟨z, hcz⟩ : ∃ z, wr.cell? ⟨w.heap.size, m, none⟩ = some (.int .u32 z) := ⟨_, hA.cell m (by omega)⟩
      have hfz : wr.frozen? ⟨w.heap.size, m, none⟩ = false := hA.frozen m
      have hidx : ((X.length : Int) - 1 - k).toNat = m := by omega
      have hmi : ((X.length : Int) - 1 - k) = m := by omega
      obtain ⟨a0, a1⟩ := ua
      have hor := or32 l a hl0 (by omega) a0 a1
      have hq0 : 0 ≤ (l * 4294967296 + a) / d := Int.ediv_nonneg (by omega) (by omega)
      have hq1 : (l * 4294967296 + a) / d < 4294967296 := Int.ediv_lt_of_lt_mul hd0 (by omega)
      have hr0 : 0 ≤ (l * 4294967296 + a) % d := Int.emod_nonneg _ (by omega)
      have hr1 : (l * 4294967296 + a) % d < d := Int.emod_lt_of_pos _ hd0
      have HH : Hid (X.getD m 0 = a ∧ Arr .u32 53 wr w.heap.size S ∧ U32s S ∧ S.length = X.length ∧ Below w.heap.size w wr ∧ val (X.drop (X.length - k)) = val (S.drop (X.length - k)) * d + l ∧ X.length - 1 - k = m) := ⟨ha, hA, huS, hlS, hB, hv, hm⟩
      clear hA huS hlS hB hv ha hm hr hX uX
      go_wp2
      go_roundw
      case rel =>
        obtain ⟨ha, hA, huS, hlS, hB, hv, hm⟩ := HH.out
        have hdm : (l * 4294967296 + a) = (l * 4294967296 + a) / d * d + (l * 4294967296 + a) % d := by have := Int.mul_ediv_add_emod (l * 4294967296 + a) d; rw [Int.mul_comm] at this; omega
        refine ⟨k + 1, _, S.set m ((l * 4294967296 + a) / d), by go_num, rfl, by omega, hr0, hr1, hA.set _ _, huS.set _ ⟨hq0, hq1⟩, by simpa using hlS, hB.setCell (Nat.le_refl _) _, ?_⟩
        have e1 : X.length - (k + 1) = m := by omega
        have e2 : X.length - k = m + 1 := by omega
        rw [e2] at hv
        rw [e1, List.drop_eq_getElem_cons (show m < X.length by omega), drop_set_self (by omega)]
        simp only [val]
        have e3 : X[m]'(by omega) = a := by rw [← ha]; simp [show m < X.length by omega]
        rw [e3]
        exact quo_step _ _ l d a _ _ _ rfl hdm hv
      case measure => simp [intOf]; omega
    · have hkX : k = X.length := by omega
      have hsl := hA.sl
      rw [hlS] at hsl
      have hcut := cut_any S (some ⟨w.heap.size, 0, none⟩) X.length wr (by rw [hlS]; exact hsl) (by omega)
      rw [hlS] at hcut
      have HH : Hid (Arr .u32 53 wr w.heap.size S ∧ U32s S ∧ S.length = X.length ∧ Below w.heap.size w wr ∧ val (X.drop (X.length - k)) = val (S.drop (X.length - k)) * d + l ∧ k = X.length) := ⟨hA, huS, hlS, hB, hv, hkX⟩
      clear hA huS hlS hB hv hsl hkX
      go_wp2_with (first
        | (go_at_call 45; refine hcut.mono ?_; rintro e w' ⟨rfl, rfl⟩)
        | (go_at_call 39; refine (Small_any l hl0 (by omega) _).mono ?_; rintro e w2 ⟨r, rfl, hr, hB2⟩))
      go_ret2
      obtain ⟨hA, huS, hlS, hB, hv, rfl⟩ := HH.out
      simp only [Nat.sub_self, List.drop_zero] at hv
      have hO := Own.cut (B := w.heap.size) hA huS (Nat.le_refl _) (by omega)
      rw [hlS] at hO
      have e1 : val X / d = val S := by
        rw [hv, Int.add_comm, Int.add_mul_ediv_right _ _ (by omega), Int.ediv_eq_zero_of_lt hl0 hl1]; omega
      have e2 : val X % d = l := by
        rw [hv, Int.add_comm, Int.add_mul_emod_self_right, Int.emod_eq_of_lt hl0 hl1]
      refine ⟨_, _, rfl, ?_, ?_, hB.trans (hB2.mono hB.size)⟩
      · rw [e1]; exact hO.below hB2
      · rw [e2]; exact hr.mono hB.size
end Go.Proofs.Ythkheocggcmooaa
