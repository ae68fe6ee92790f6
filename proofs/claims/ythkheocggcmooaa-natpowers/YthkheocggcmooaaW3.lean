/-
  The walk of takeTimes: x times b is taken from the lowest limbs of a, in place.
-/
import Derived.Test.YthkheocggcmooaaW2
namespace Go.Proofs.Ythkheocggcmooaa
open Go.RowKit

theorem and32 (x : Int) (h0 : 0 ≤ x) (h1 : x < 18446744073709551616) : bits BinOp.and .u64 x 4294967295 = x % 4294967296 := by
  obtain ⟨n, rfl⟩ := Int.eq_ofNat_of_zero_le h0
  have h := bits_and_u64_nat n 4294967295 (by omega) (by decide)
  have e : n &&& 4294967295 = n % 4294967296 := Nat.and_two_pow_sub_one_eq_mod n 32
  rw [e] at h
  exact h.trans (by omega)


theorem wrap_u64 (z : Int) : IntKind.u64.wrap z = z % 18446744073709551616 := by simp [IntKind.wrap, IntKind.bits, IntKind.signed]

theorem take_arith (T a : Int) (h0 : 0 ≤ T) (h1 : T ≤ 18446744069414584320) (a0 : 0 ≤ a) (a1 : a < 4294967296) :
    (a - T % 4294967296) % 18446744073709551616 % 4294967296 + T = a + 4294967296 * ((T / 4294967296 + (a - T % 4294967296) % 18446744073709551616 / 9223372036854775808) % 18446744073709551616) ∧
      0 ≤ (T / 4294967296 + (a - T % 4294967296) % 18446744073709551616 / 9223372036854775808) % 18446744073709551616 ∧
      (T / 4294967296 + (a - T % 4294967296) % 18446744073709551616 / 9223372036854775808) % 18446744073709551616 < 4294967296 := by
  obtain ⟨lo, hlo⟩ : ∃ lo, lo = T % 4294967296 := ⟨_, rfl⟩
  obtain ⟨hi, hhi⟩ : ∃ hi, hi = T / 4294967296 := ⟨_, rfl⟩
  have hT : T = 4294967296 * hi + lo := by omega
  rw [← hlo, ← hhi]
  by_cases h : lo ≤ a
  · have e1 : (a - lo) % 18446744073709551616 = a - lo := by omega
    have e2 : (a - lo) / 9223372036854775808 = 0 := by omega
    rw [e1, e2]; omega
  · have e1 : (a - lo) % 18446744073709551616 = a - lo + 18446744073709551616 := by omega
    have e2 : (a - lo + 18446744073709551616) / 9223372036854775808 = 1 := by omega
    rw [e1, e2]; omega

/-- The difference's step: a limb and a carry more. -/
theorem sub_step (P c x y a z cn V Y : Int) (vZ vA vY : Int) (hz : z + (c + x * y) = a + 4294967296 * cn) (ih : vZ + x * vY = vA + P * c) (hV : V = vZ + P * z) (hY : Y = vY + P * y) :
    V + x * Y = (vA + P * a) + (4294967296 * P) * cn := by
  have h1 : P * z + P * (c + x * y) = P * a + (4294967296 * P) * cn := by rw [← Int.mul_add, hz, Int.mul_add, Int.mul_comm 4294967296 P, Int.mul_assoc]
  have h2 : P * (c + x * y) = P * c + P * (x * y) := Int.mul_add _ _ _
  have h4 : x * (P * y) = P * (x * y) := by rw [← Int.mul_assoc, Int.mul_comm x P, Int.mul_assoc]
  rw [hV, hY, Int.mul_add, h4]; omega

set_option maxHeartbeats 1000000 in
theorem takeTimes_any (A ys : List Int) (x : Int) (ba off n c : Nat) (v : Value) (w : World) (hA : Arr .u32 53 w ba A) (huA : U32s A) (hux : U32 x) (huy : U32s ys)
    (hy : Sl .u32 w v ys) (hne : ∀ b o n' c', ys ≠ [] → v = .slice (some ⟨b, o, none⟩) n' c' → b ≠ ba) (hfit : off + ys.length ≤ A.length) (hcap : ys.length ≤ c) (hl : ys.length ≤ 1152921504606846976) :
    Calls Try.prog 67 #[.slice (some ⟨ba, off, none⟩) n c, v, .int .u32 x] w fun e w' =>
      ∃ Z carry, e = .returned (.int .u32 carry) ∧ U32 carry ∧ U32s Z ∧ Z.length = ys.length ∧ Arr .u32 53 w' ba (A.take off ++ Z ++ A.drop (off + Z.length)) ∧ Upd w w' ba ∧
        val Z + x * val ys = val ((A.drop off).take ys.length) + 4294967296 ^ ys.length * carry := by
  obtain ⟨ab, cb, rfl, hcb, hy⟩ := hy
  have hfin : ys.take ys.length = ys := List.take_length
  rcases hy with rfl | ⟨b, ob, rfl, hb, hr⟩
  · simp only [List.length_nil]
    go_enter Try.func67, Try.ntmps67
    go_wp2
    go_loop [7, 16] (fun t i => i = .int .i64 0 ∧ t = .int .u64 0) (fun _ _ => 0)
    case atStart => exact ⟨rfl, rfl⟩
    case round =>
      obtain ⟨rfl, rfl⟩ := hrel
      go_wp2
      go_ret
      exact ⟨[], 0, rfl, ⟨by decide, by decide⟩, U32s.nil, rfl, by simpa using hA, Upd.refl _ _, by simp [val]⟩
  · by_cases hys : ys = []
    · subst hys
      simp only [List.length_nil]
      go_enter Try.func67, Try.ntmps67
      go_wp2
      go_loop [7, 16] (fun t i => i = .int .i64 0 ∧ t = .int .u64 0) (fun _ _ => 0)
      case atStart => exact ⟨rfl, rfl⟩
      case round =>
        obtain ⟨rfl, rfl⟩ := hrel
        go_wp2
        go_ret
        exact ⟨[], 0, rfl, ⟨by decide, by decide⟩, U32s.nil, rfl, by simpa using hA, Upd.refl _ _, by simp [val]⟩
    have hbne : b ≠ ba := hne _ _ _ _ hys rfl
    clear hne hys
    obtain ⟨ux1, ux2⟩ := hux
    go_enter Try.func67, Try.ntmps67
    go_wp2
    go_loopw [7, 16] (fun t i wr => ∃ Z carry, Z.length ≤ ys.length ∧ i = .int .i64 Z.length ∧ t = .int .u64 carry ∧ U32 carry ∧ U32s Z ∧ Arr .u32 53 wr ba (A.take off ++ Z ++ A.drop (off + Z.length)) ∧ Upd w wr ba ∧
        val Z + x * val (ys.take Z.length) = val ((A.drop off).take Z.length) + 4294967296 ^ Z.length * carry) (fun _ i _ => ys.length - (intOf i).toNat)
    case atStart => exact ⟨[], 0, Nat.zero_le _, rfl, rfl, ⟨by decide, by decide⟩, U32s.nil, by simpa using hA, Upd.refl _ _, by simp [val]⟩
    case round =>
      obtain ⟨Z, carry, hk, rfl, rfl, hc, hZ, hArr, hUpd, heq⟩ := hrel
      by_cases hlt : Z.length < ys.length
      · obtain ⟨y, hyk⟩ : ∃ y, ys.getD Z.length 0 = y := ⟨_, rfl⟩
        obtain ⟨a, hak⟩ : ∃ a, A.getD (off + Z.length) 0 = a := ⟨_, rfl⟩
        have uy : U32 y := hyk ▸ huy.at Z.length
        have ua : U32 a := hak ▸ huA.at _
        have hcy : wr.cell? ⟨b, ob + Z.length, none⟩ = some (.int .u32 y) := by rw [← hyk]; exact (hUpd.rd hb hr hbne) Z.length hlt
        have hca : wr.cell? ⟨ba, off + Z.length, none⟩ = some (.int .u32 a) := by
          rw [hArr.cell _ (by rw [mid_len _ _ _ (by omega)]; omega), mid_get, hak]
        have hfa : wr.frozen? ⟨ba, off + Z.length, none⟩ = false := hArr.frozen _
        obtain ⟨p, hp⟩ : ∃ p, x * y = p := ⟨_, rfl⟩
        have hpb := mul_u32 ⟨ux1, ux2⟩ uy
        rw [hp] at hpb
        obtain ⟨pb1, pb2⟩ := hpb
        obtain ⟨c1, c2⟩ := hc
        obtain ⟨uy1, uy2⟩ := uy
        obtain ⟨ua1, ua2⟩ := ua
        obtain ⟨kz, hkz⟩ : ∃ kz, Z.length = kz := ⟨_, rfl⟩
        have HH : Hid (ys.getD Z.length 0 = y ∧ A.getD (off + Z.length) 0 = a ∧ Arr .u32 53 wr ba (A.take off ++ Z ++ A.drop (off + Z.length)) ∧ Upd w wr ba ∧ U32s Z ∧ U32s A ∧ Rd .u32 w b ob ys ∧ Z.length = kz ∧
          val Z + x * val (ys.take Z.length) = val ((A.drop off).take Z.length) + 4294967296 ^ Z.length * carry) := ⟨hyk, hak, hArr, hUpd, hZ, huA, hr, hkz, heq⟩
        clear hyk hak hArr hUpd hZ heq hr
        rw [hkz] at hcy hca hfa hlt ⊢
        clear hkz
        have hand := and32 (carry + p) (by omega) (by omega)
        go_wp2
        go_roundw
        case rel =>
          obtain ⟨hyk, hak, hArr, hUpd, hZ, huA, hr, hkz, heq⟩ := HH.out
          have hz1 : ∀ z : Int, IntKind.u64.wrap z = z % 18446744073709551616 := wrap_u64
          simp only [hz1]
          obtain ⟨k1, k2, k3⟩ := take_arith (carry + p) a (by omega) (by omega) ua1 ua2
          obtain ⟨cn, hcn⟩ : ∃ cn, cn = ((carry + p) / 4294967296 + (a - (carry + p) % 4294967296) % 18446744073709551616 / 9223372036854775808) % 18446744073709551616 := ⟨_, rfl⟩
          obtain ⟨z, hz⟩ : ∃ z, z = (a - (carry + p) % 4294967296) % 18446744073709551616 % 4294967296 := ⟨_, rfl⟩
          have k4 : U32 z := by rw [hz]; exact ⟨by omega, by omega⟩
          rw [← hcn] at k1 k2 k3
          rw [← hz] at k1
          rw [← hcn, ← hz]
          refine ⟨Z ++ [z], cn, ?_, ?_, rfl, ⟨k2, k3⟩, ?_, ?_, ?_, ?_⟩
          · simp; omega
          · simp [hkz]
          · exact hZ.append (U32s.cons k4 U32s.nil)
          · subst hkz; rw [← mid_set _ _ _ _ (by omega)]; exact hArr.set _ _
          · exact hUpd.trans (Upd.set _ _ _ _)
          · subst hkz
            have hgd : (A.drop off).getD Z.length 0 = a := by rw [List.getD_eq_getElem?_getD, List.getElem?_drop, ← List.getD_eq_getElem?_getD]; exact hak
            rw [List.length_append, List.length_singleton, pow_succ32, val_take_succ (A.drop off) _ (by simp; omega), hgd]
            exact sub_step _ carry x y a z cn _ _ _ _ _ (by rw [hp]; exact k1) heq (val_snoc _ _) (by rw [val_take_succ _ _ (by omega), hyk])
        case measure => simp [intOf]; omega
      · have hfull : ys.length = Z.length := by omega
        have HH : Hid (Arr .u32 53 wr ba (A.take off ++ Z ++ A.drop (off + Z.length)) ∧ Upd w wr ba ∧ U32s Z ∧ U32 carry ∧ ys.length = Z.length ∧
          val Z + x * val (ys.take Z.length) = val ((A.drop off).take Z.length) + 4294967296 ^ Z.length * carry) := ⟨hArr, hUpd, hZ, hc, hfull, heq⟩
        obtain ⟨c1, c2⟩ := hc
        clear hArr hUpd hZ heq hfull
        go_wp2
        go_ret
        obtain ⟨hArr, hUpd, hZ, hc, hfull, heq⟩ := HH.out
        refine ⟨Z, carry, rfl, hc, hZ, hfull.symm, hArr, hUpd, ?_⟩
        rw [hfull, ← heq, ← hfull, hfin]
end Go.Proofs.Ythkheocggcmooaa
