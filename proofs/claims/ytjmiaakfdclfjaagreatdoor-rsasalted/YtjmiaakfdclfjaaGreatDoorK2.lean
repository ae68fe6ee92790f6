/-
  The walk of addTimes: x times b is added to the lowest limbs of a, in place.
-/
import Derived.Deep.Cut
import Derived.Test.YtjmiaakfdclfjaaGreatDoorK1
namespace Go.Proofs.YtjmiaakfdclfjaaGreatDoor.Nt
open Go.RowKit

theorem _root_.Go.Proofs.YtjmiaakfdclfjaaGreatDoor.Arr.drewN {k : IntKind} {e : TypeId} {w : World} {b : Nat} {xs : List Int} (h : Arr k e w b xs) (n : Nat) : Arr k e (w.drewN n) b xs := h
theorem _root_.Go.Proofs.YtjmiaakfdclfjaaGreatDoor.Upd.drewN {w w' : World} {b : Nat} (h : Upd w w' b) (n : Nat) : Upd w (w'.drewN n) b := ⟨h.os, h.tape, h.output, h.size, h.block⟩
theorem mul_u32 {x y : Int} (hx : U32 x) (hy : U32 y) : 0 ≤ x * y ∧ x * y ≤ 18446744065119617025 := by
  unfold U32 at hx hy
  refine ⟨Int.mul_nonneg hx.1 hy.1, ?_⟩
  calc x * y ≤ 4294967295 * y := Int.mul_le_mul_of_nonneg_right (by omega) hy.1
    _ ≤ 4294967295 * 4294967295 := Int.mul_le_mul_of_nonneg_left (by omega) (by decide)
    _ = _ := by decide
theorem val_snoc (xs : List Int) (x : Int) : val (xs ++ [x]) = val xs + 4294967296 ^ xs.length * x := by rw [val_append]; simp [val]
theorem take_snoc (xs : List Int) (k : Nat) (h : k < xs.length) : xs.take (k + 1) = xs.take k ++ [xs.getD k 0] := by
  rw [List.take_succ_eq_append_getElem h]; simp [h]
theorem val_take_succ (xs : List Int) (k : Nat) (h : k < xs.length) : val (xs.take (k + 1)) = val (xs.take k) + 4294967296 ^ k * xs.getD k 0 := by
  rw [take_snoc xs k h, val_snoc, List.length_take, Nat.min_eq_left (by omega)]

/-- One limb more: the row behind the store. -/
theorem mid_set (A Z : List Int) (off : Nat) (z : Int) (h : off + Z.length < A.length) :
    (A.take off ++ Z ++ A.drop (off + Z.length)).set (off + Z.length) z = A.take off ++ (Z ++ [z]) ++ A.drop (off + (Z ++ [z]).length) := by
  have h1 : (A.take off ++ Z).length = off + Z.length := by simp; omega
  rw [List.set_append_right _ _ (by omega), h1, Nat.sub_self, List.drop_eq_getElem_cons h]
  simp [Nat.add_assoc]
theorem mid_get (A Z : List Int) (off : Nat) : (A.take off ++ Z ++ A.drop (off + Z.length)).getD (off + Z.length) 0 = A.getD (off + Z.length) 0 := by
  by_cases h : off ≤ A.length
  · have h1 : (A.take off ++ Z).length = off + Z.length := by simp; omega
    rw [List.getD_eq_getElem?_getD, List.getElem?_append_right (by omega), h1, Nat.sub_self, List.getElem?_drop]; simp
  · have h2 : A.drop (off + Z.length) = [] := List.drop_eq_nil_of_le (by omega)
    rw [h2, List.getD_eq_getElem?_getD, List.getD_eq_getElem?_getD, List.getElem?_eq_none (by simp; omega), List.getElem?_eq_none (by omega)]
theorem mid_len (A Z : List Int) (off : Nat) (h : off + Z.length ≤ A.length) : (A.take off ++ Z ++ A.drop (off + Z.length)).length = A.length := by
  simp; omega

/-- The sum's step: a limb and a carry more. -/
theorem add_step (P c x y a v u : Int) (T : Int) (hT : T = c + (x * y + a)) (ih : v + P * c = u) :
    (v + P * (T % 4294967296)) + (4294967296 * P) * (T / 4294967296) = u + P * a + x * (P * y) := by
  have h1 : T % 4294967296 + 4294967296 * (T / 4294967296) = T := by omega
  have h2 : P * (T % 4294967296) + (4294967296 * P) * (T / 4294967296) = P * T := by
    rw [← h1, Int.mul_add]; congr 1
    · rw [h1]
    · rw [h1, Int.mul_comm 4294967296 P, Int.mul_assoc]
  have h3 : P * T = P * c + (P * (x * y) + P * a) := by rw [hT, Int.mul_add, Int.mul_add]
  have h4 : x * (P * y) = P * (x * y) := by rw [← Int.mul_assoc, Int.mul_comm x P, Int.mul_assoc]
  omega

set_option maxHeartbeats 1000000 in
theorem addTimes_any (A ys : List Int) (x : Int) (ba off n c : Nat) (v : Value) (w : World) (hA : Arr .u32 38 w ba A) (huA : U32s A) (hux : U32 x) (huy : U32s ys)
    (hy : Sl .u32 w v ys) (hne : ∀ b o n' c', ys ≠ [] → v = .slice (some ⟨b, o, none⟩) n' c' → b ≠ ba) (hfit : off + ys.length ≤ A.length) (hcap : ys.length ≤ c) (hl : ys.length ≤ 1152921504606846976) :
    Calls Tryz.prog 107 #[.slice (some ⟨ba, off, none⟩) n c, v, .int .u32 x] w fun e w' =>
      ∃ Z carry, e = .returned (.int .u32 carry) ∧ U32 carry ∧ U32s Z ∧ Z.length = ys.length ∧ Arr .u32 38 w' ba (A.take off ++ Z ++ A.drop (off + Z.length)) ∧ Upd w w' ba ∧
        val Z + 4294967296 ^ ys.length * carry = val ((A.drop off).take ys.length) + x * val ys := by
  obtain ⟨ab, cb, rfl, hcb, hy⟩ := hy
  have hfin : ys.take ys.length = ys := List.take_length
  rcases hy with rfl | ⟨b, ob, rfl, hb, hr⟩
  · simp only [List.length_nil]
    go_enter Tryz.func107, Tryz.ntmps107
    go_wp2
    go_loop [7, 15] (fun t i => i = .int .i64 0 ∧ t = .int .u64 0) (fun _ _ => 0)
    case atStart => exact ⟨rfl, rfl⟩
    case round =>
      obtain ⟨rfl, rfl⟩ := hrel
      go_wp2
      go_ret
      exact ⟨[], 0, rfl, ⟨by decide, by decide⟩, U32s.nil, rfl, by simpa using hA, Upd.refl _ _, by simp [val]⟩
  · by_cases hys : ys = []
    · subst hys
      simp only [List.length_nil]
      go_enter Tryz.func107, Tryz.ntmps107
      go_wp2
      go_loop [7, 15] (fun t i => i = .int .i64 0 ∧ t = .int .u64 0) (fun _ _ => 0)
      case atStart => exact ⟨rfl, rfl⟩
      case round =>
        obtain ⟨rfl, rfl⟩ := hrel
        go_wp2
        go_ret
        exact ⟨[], 0, rfl, ⟨by decide, by decide⟩, U32s.nil, rfl, by simpa using hA, Upd.refl _ _, by simp [val]⟩
    have hbne : b ≠ ba := hne _ _ _ _ hys rfl
    clear hne hys
    obtain ⟨ux1, ux2⟩ := hux
    go_enter Tryz.func107, Tryz.ntmps107
    go_wp2
    go_loopw [7, 15] (fun t i wr => ∃ Z carry, Z.length ≤ ys.length ∧ i = .int .i64 Z.length ∧ t = .int .u64 carry ∧ U32 carry ∧ U32s Z ∧ Arr .u32 38 wr ba (A.take off ++ Z ++ A.drop (off + Z.length)) ∧ Upd w wr ba ∧
        val Z + 4294967296 ^ Z.length * carry = val ((A.drop off).take Z.length) + x * val (ys.take Z.length)) (fun _ i _ => ys.length - (intOf i).toNat)
    case atStart => exact ⟨[], 0, Nat.zero_le _, rfl, rfl, ⟨by decide, by decide⟩, U32s.nil, by simpa using hA, Upd.refl _ _, by simp [val]⟩
    case round =>
      obtain ⟨Z, carry, hk, rfl, rfl, hc, hZ, hArr, hUpd, heq⟩ := hrel
      by_cases hlt : Z.length < ys.length
      · obtain ⟨y, hyk⟩ : ∃ y, ys.getD Z.length 0 = y := ⟨_, rfl⟩
        obtain ⟨a, hak⟩ : ∃ a, A.getD (off + Z.length) 0 = a := ⟨_, rfl⟩
        have uy : U32 y := hyk ▸ huy.at Z.length
        have ua : U32 a := hak ▸ huA.at _
        have hcy : wr.cell? ⟨b, ob + Z.length, none⟩ = some (.int .u32 y) := by rw [← hyk]; exact (hUpd.rd hb hr hbne) Z.length hlt
        have hca : wr.cell? ⟨ba, off + Z.length, none⟩ = some (.int .u32 a) := by
          rw [hArr.cell _ (by rw [mid_len _ _ _ (by omega)]; omega), mid_get, hak]
        have hfa : wr.frozen? ⟨ba, off + Z.length, none⟩ = false := hArr.frozen _
        obtain ⟨p, hp⟩ : ∃ p, x * y = p := ⟨_, rfl⟩
        have hpb := mul_u32 ⟨ux1, ux2⟩ uy
        rw [hp] at hpb
        obtain ⟨pb1, pb2⟩ := hpb
        obtain ⟨c1, c2⟩ := hc
        obtain ⟨uy1, uy2⟩ := uy
        obtain ⟨ua1, ua2⟩ := ua
        obtain ⟨kz, hkz⟩ : ∃ kz, Z.length = kz := ⟨_, rfl⟩
        have HH : Hid (ys.getD Z.length 0 = y ∧ A.getD (off + Z.length) 0 = a ∧ Arr .u32 38 wr ba (A.take off ++ Z ++ A.drop (off + Z.length)) ∧ Upd w wr ba ∧ U32s Z ∧ U32s A ∧ Rd .u32 w b ob ys ∧ Z.length = kz ∧
          val Z + 4294967296 ^ Z.length * carry = val ((A.drop off).take Z.length) + x * val (ys.take Z.length)) := ⟨hyk, hak, hArr, hUpd, hZ, huA, hr, hkz, heq⟩
        clear hyk hak hArr hUpd hZ heq hr
        rw [hkz] at hcy hca hfa hlt ⊢
        clear hkz
        go_wp2
        go_quiet (fail)
        go_wp2
        go_roundw
        case rel =>
          obtain ⟨hyk, hak, hArr, hUpd, hZ, huA, hr, hkz, heq⟩ := HH.out
          refine ⟨Z ++ [(carry + (p + a)) % 4294967296], (carry + (p + a)) / 4294967296, ?_, ?_, ?_, ?_, ?_, ?_, ?_, ?_⟩
          · simp; omega
          · simp [hkz]
          · go_num
          · exact ⟨by omega, by omega⟩
          · exact hZ.append (U32s.cons ⟨by omega, by omega⟩ U32s.nil)
          · subst hkz; rw [← mid_set _ _ _ _ (by omega)]; exact (hArr.drewN _).set _ _
          · exact (hUpd.drewN _).trans (Upd.set _ _ _ _)
          · subst hkz
            rw [val_snoc, List.length_append, List.length_singleton, pow_succ32, val_take_succ _ _ (by simp; omega), val_take_succ _ _ (by omega), hyk]
            have hgd : (A.drop off).getD Z.length 0 = a := by rw [List.getD_eq_getElem?_getD, List.getElem?_drop, ← List.getD_eq_getElem?_getD]; exact hak
            rw [hgd]
            have := add_step (4294967296 ^ Z.length) carry x y a (val Z) _ _ (by rw [hp]) heq
            rw [this, Int.mul_add]; omega
        case measure => simp [intOf]; omega
      · have hfull : ys.length = Z.length := by omega
        have HH : Hid (Arr .u32 38 wr ba (A.take off ++ Z ++ A.drop (off + Z.length)) ∧ Upd w wr ba ∧ U32s Z ∧ U32 carry ∧ ys.length = Z.length ∧
          val Z + 4294967296 ^ Z.length * carry = val ((A.drop off).take Z.length) + x * val (ys.take Z.length)) := ⟨hArr, hUpd, hZ, hc, hfull, heq⟩
        obtain ⟨c1, c2⟩ := hc
        clear hArr hUpd hZ heq hfull
        go_wp2
        go_ret
        obtain ⟨hArr, hUpd, hZ, hc, hfull, heq⟩ := HH.out
        refine ⟨Z, carry, rfl, hc, hZ, hfull.symm, hArr, hUpd, ?_⟩
        rw [hfull, heq, ← hfull, hfin]
end Go.Proofs.YtjmiaakfdclfjaaGreatDoor.Nt
/-
  The walk of takeTimes: x times b is taken from the lowest limbs of a, in place.
-/
namespace Go.Proofs.YtjmiaakfdclfjaaGreatDoor.Nt
open Go.RowKit

theorem and32 (x : Int) (h0 : 0 ≤ x) (h1 : x < 18446744073709551616) : bits BinOp.and .u64 x 4294967295 = x % 4294967296 := by
  obtain ⟨n, rfl⟩ := Int.eq_ofNat_of_zero_le h0
  have h := bits_and_u64_nat n 4294967295 (by omega) (by decide)
  have e : n &&& 4294967295 = n % 4294967296 := Nat.and_two_pow_sub_one_eq_mod n 32
  rw [e] at h
  exact h.trans (by omega)


theorem wrap_u64 (z : Int) : IntKind.u64.wrap z = z % 18446744073709551616 := by simp [IntKind.wrap, IntKind.bits, IntKind.signed]

theorem take_arith (T a : Int) (h0 : 0 ≤ T) (h1 : T ≤ 18446744069414584320) (a0 : 0 ≤ a) (a1 : a < 4294967296) :
    (a - T % 4294967296) % 18446744073709551616 % 4294967296 + T = a + 4294967296 * ((T / 4294967296 + (a - T % 4294967296) % 18446744073709551616 / 9223372036854775808) % 18446744073709551616) ∧
      0 ≤ (T / 4294967296 + (a - T % 4294967296) % 18446744073709551616 / 9223372036854775808) % 18446744073709551616 ∧
      (T / 4294967296 + (a - T % 4294967296) % 18446744073709551616 / 9223372036854775808) % 18446744073709551616 < 4294967296 := by
  obtain ⟨lo, hlo⟩ : ∃ lo, lo = T % 4294967296 := ⟨_, rfl⟩
  obtain ⟨hi, hhi⟩ : ∃ hi, hi = T / 4294967296 := ⟨_, rfl⟩
  have hT : T = 4294967296 * hi + lo := by omega
  rw [← hlo, ← hhi]
  by_cases h : lo ≤ a
  · have e1 : (a - lo) % 18446744073709551616 = a - lo := by omega
    have e2 : (a - lo) / 9223372036854775808 = 0 := by omega
    rw [e1, e2]; omega
  · have e1 : (a - lo) % 18446744073709551616 = a - lo + 18446744073709551616 := by omega
    have e2 : (a - lo + 18446744073709551616) / 9223372036854775808 = 1 := by omega
    rw [e1, e2]; omega

/-- The difference's step: a limb and a carry more. -/
theorem sub_step (P c x y a z cn V Y : Int) (vZ vA vY : Int) (hz : z + (c + x * y) = a + 4294967296 * cn) (ih : vZ + x * vY = vA + P * c) (hV : V = vZ + P * z) (hY : Y = vY + P * y) :
    V + x * Y = (vA + P * a) + (4294967296 * P) * cn := by
  have h1 : P * z + P * (c + x * y) = P * a + (4294967296 * P) * cn := by rw [← Int.mul_add, hz, Int.mul_add, Int.mul_comm 4294967296 P, Int.mul_assoc]
  have h2 : P * (c + x * y) = P * c + P * (x * y) := Int.mul_add _ _ _
  have h4 : x * (P * y) = P * (x * y) := by rw [← Int.mul_assoc, Int.mul_comm x P, Int.mul_assoc]
  rw [hV, hY, Int.mul_add, h4]; omega

set_option maxHeartbeats 1000000 in
theorem takeTimes_any (A ys : List Int) (x : Int) (ba off n c : Nat) (v : Value) (w : World) (hA : Arr .u32 38 w ba A) (huA : U32s A) (hux : U32 x) (huy : U32s ys)
    (hy : Sl .u32 w v ys) (hne : ∀ b o n' c', ys ≠ [] → v = .slice (some ⟨b, o, none⟩) n' c' → b ≠ ba) (hfit : off + ys.length ≤ A.length) (hcap : ys.length ≤ c) (hl : ys.length ≤ 1152921504606846976) :
    Calls Tryz.prog 127 #[.slice (some ⟨ba, off, none⟩) n c, v, .int .u32 x] w fun e w' =>
      ∃ Z carry, e = .returned (.int .u32 carry) ∧ U32 carry ∧ U32s Z ∧ Z.length = ys.length ∧ Arr .u32 38 w' ba (A.take off ++ Z ++ A.drop (off + Z.length)) ∧ Upd w w' ba ∧
        val Z + x * val ys = val ((A.drop off).take ys.length) + 4294967296 ^ ys.length * carry := by
  obtain ⟨ab, cb, rfl, hcb, hy⟩ := hy
  have hfin : ys.take ys.length = ys := List.take_length
  rcases hy with rfl | ⟨b, ob, rfl, hb, hr⟩
  · simp only [List.length_nil]
    go_enter Tryz.func127, Tryz.ntmps127
    go_wp2
    go_loop [7, 16] (fun t i => i = .int .i64 0 ∧ t = .int .u64 0) (fun _ _ => 0)
    case atStart => exact ⟨rfl, rfl⟩
    case round =>
      obtain ⟨rfl, rfl⟩ := hrel
      go_wp2
      go_ret
      exact ⟨[], 0, rfl, ⟨by decide, by decide⟩, U32s.nil, rfl, by simpa using hA, Upd.refl _ _, by simp [val]⟩
  · by_cases hys : ys = []
    · subst hys
      simp only [List.length_nil]
      go_enter Tryz.func127, Tryz.ntmps127
      go_wp2
      go_loop [7, 16] (fun t i => i = .int .i64 0 ∧ t = .int .u64 0) (fun _ _ => 0)
      case atStart => exact ⟨rfl, rfl⟩
      case round =>
        obtain ⟨rfl, rfl⟩ := hrel
        go_wp2
        go_ret
        exact ⟨[], 0, rfl, ⟨by decide, by decide⟩, U32s.nil, rfl, by simpa using hA, Upd.refl _ _, by simp [val]⟩
    have hbne : b ≠ ba := hne _ _ _ _ hys rfl
    clear hne hys
    obtain ⟨ux1, ux2⟩ := hux
    go_enter Tryz.func127, Tryz.ntmps127
    go_wp2
    go_loopw [7, 16] (fun t i wr => ∃ Z carry, Z.length ≤ ys.length ∧ i = .int .i64 Z.length ∧ t = .int .u64 carry ∧ U32 carry ∧ U32s Z ∧ Arr .u32 38 wr ba (A.take off ++ Z ++ A.drop (off + Z.length)) ∧ Upd w wr ba ∧
        val Z + x * val (ys.take Z.length) = val ((A.drop off).take Z.length) + 4294967296 ^ Z.length * carry) (fun _ i _ => ys.length - (intOf i).toNat)
    case atStart => exact ⟨[], 0, Nat.zero_le _, rfl, rfl, ⟨by decide, by decide⟩, U32s.nil, by simpa using hA, Upd.refl _ _, by simp [val]⟩
    case round =>
      obtain ⟨Z, carry, hk, rfl, rfl, hc, hZ, hArr, hUpd, heq⟩ := hrel
      by_cases hlt : Z.length < ys.length
      · obtain ⟨y, hyk⟩ : ∃ y, ys.getD Z.length 0 = y := ⟨_, rfl⟩
        obtain ⟨a, hak⟩ : ∃ a, A.getD (off + Z.length) 0 = a := ⟨_, rfl⟩
        have uy : U32 y := hyk ▸ huy.at Z.length
        have ua : U32 a := hak ▸ huA.at _
        have hcy : wr.cell? ⟨b, ob + Z.length, none⟩ = some (.int .u32 y) := by rw [← hyk]; exact (hUpd.rd hb hr hbne) Z.length hlt
        have hca : wr.cell? ⟨ba, off + Z.length, none⟩ = some (.int .u32 a) := by
          rw [hArr.cell _ (by rw [mid_len _ _ _ (by omega)]; omega), mid_get, hak]
        have hfa : wr.frozen? ⟨ba, off + Z.length, none⟩ = false := hArr.frozen _
        obtain ⟨p, hp⟩ : ∃ p, x * y = p := ⟨_, rfl⟩
        have hpb := mul_u32 ⟨ux1, ux2⟩ uy
        rw [hp] at hpb
        obtain ⟨pb1, pb2⟩ := hpb
        obtain ⟨c1, c2⟩ := hc
        obtain ⟨uy1, uy2⟩ := uy
        obtain ⟨ua1, ua2⟩ := ua
        obtain ⟨kz, hkz⟩ : ∃ kz, Z.length = kz := ⟨_, rfl⟩
        have HH : Hid (ys.getD Z.length 0 = y ∧ A.getD (off + Z.length) 0 = a ∧ Arr .u32 38 wr ba (A.take off ++ Z ++ A.drop (off + Z.length)) ∧ Upd w wr ba ∧ U32s Z ∧ U32s A ∧ Rd .u32 w b ob ys ∧ Z.length = kz ∧
          val Z + x * val (ys.take Z.length) = val ((A.drop off).take Z.length) + 4294967296 ^ Z.length * carry) := ⟨hyk, hak, hArr, hUpd, hZ, huA, hr, hkz, heq⟩
        clear hyk hak hArr hUpd hZ heq hr
        rw [hkz] at hcy hca hfa hlt ⊢
        clear hkz
        have hand := and32 (carry + p) (by omega) (by omega)
        go_wp2
        go_roundw
        case rel =>
          obtain ⟨hyk, hak, hArr, hUpd, hZ, huA, hr, hkz, heq⟩ := HH.out
          have hz1 : ∀ z : Int, IntKind.u64.wrap z = z % 18446744073709551616 := wrap_u64
          simp only [hz1]
          obtain ⟨k1, k2, k3⟩ := take_arith (carry + p) a (by omega) (by omega) ua1 ua2
          obtain ⟨cn, hcn⟩ : ∃ cn, cn = ((carry + p) / 4294967296 + (a - (carry + p) % 4294967296) % 18446744073709551616 / 9223372036854775808) % 18446744073709551616 := ⟨_, rfl⟩
          obtain ⟨z, hz⟩ : ∃ z, z = (a - (carry + p) % 4294967296) % 18446744073709551616 % 4294967296 := ⟨_, rfl⟩
          have k4 : U32 z := by rw [hz]; exact ⟨by omega, by omega⟩
          rw [← hcn] at k1 k2 k3
          rw [← hz] at k1
          rw [← hcn, ← hz]
          refine ⟨Z ++ [z], cn, ?_, ?_, rfl, ⟨k2, k3⟩, ?_, ?_, ?_, ?_⟩
          · simp; omega
          · simp [hkz]
          · exact hZ.append (U32s.cons k4 U32s.nil)
          · subst hkz; rw [← mid_set _ _ _ _ (by omega)]; exact hArr.set _ _
          · exact hUpd.trans (Upd.set _ _ _ _)
          · subst hkz
            have hgd : (A.drop off).getD Z.length 0 = a := by rw [List.getD_eq_getElem?_getD, List.getElem?_drop, ← List.getD_eq_getElem?_getD]; exact hak
            rw [List.length_append, List.length_singleton, pow_succ32, val_take_succ (A.drop off) _ (by simp; omega), hgd]
            exact sub_step _ carry x y a z cn _ _ _ _ _ (by rw [hp]; exact k1) heq (val_snoc _ _) (by rw [val_take_succ _ _ (by omega), hyk])
        case measure => simp [intOf]; omega
      · have hfull : ys.length = Z.length := by omega
        have HH : Hid (Arr .u32 38 wr ba (A.take off ++ Z ++ A.drop (off + Z.length)) ∧ Upd w wr ba ∧ U32s Z ∧ U32 carry ∧ ys.length = Z.length ∧
          val Z + x * val (ys.take Z.length) = val ((A.drop off).take Z.length) + 4294967296 ^ Z.length * carry) := ⟨hArr, hUpd, hZ, hc, hfull, heq⟩
        obtain ⟨c1, c2⟩ := hc
        clear hArr hUpd hZ heq hfull
        go_wp2
        go_ret
        obtain ⟨hArr, hUpd, hZ, hc, hfull, heq⟩ := HH.out
        refine ⟨Z, carry, rfl, hc, hZ, hfull.symm, hArr, hUpd, ?_⟩
        rw [hfull, ← heq, ← hfull, hfin]
end Go.Proofs.YtjmiaakfdclfjaaGreatDoor.Nt
/-
  Laws for make and copy in the words of Base: what each leaves in memory.
-/
namespace Go.Proofs.YtjmiaakfdclfjaaGreatDoor.Nt
open Go.RowKit

theorem Tryz.info32 : (Tryz.prog.info? 38).map (fun i => (i.zero, i.size, i.bytes)) = some (some (.int .u32 0), 1, 4) := by kernel_rfl
theorem Tryz.info8 : (Tryz.prog.info? 5).map (fun i => (i.zero, i.size, i.bytes)) = some (some (.int .u8 0), 1, 1) := by kernel_rfl
theorem Tryz.und32 : Tryz.prog.underlying 24 = some (.slice 38) := by kernel_rfl
theorem Tryz.und8 : Tryz.prog.underlying 22 = some (.slice 5) := by kernel_rfl
theorem Tryz.one32 : (Tryz.prog.info? 38).map (·.size) = some 1 := by kernel_rfl
theorem Tryz.one8 : (Tryz.prog.info? 5).map (·.size) = some 1 := by kernel_rfl

theorem toArray_of_toList {α : Type} {a : Array α} {l : List α} (h : a.toList = l) : a = l.toArray := by subst h; simp

/-- 'make([]T, n)': n noughts in a block of their own. -/
theorem wpList_mk {P : Program} (w : World) {ops : Array Oper} {rest : List Oper} {o : Oper} {a : Act} {Q : Exit → Act → World → Prop} (hg : o.guard = none) (l c : Operand) (t : TypeId) (hop : o.op = .makeSlice t l c)
    (k : IntKind) (e : TypeId) (bytes : Nat) (ht : P.underlying t = some (.slice e)) (hi : (P.info? e).map (fun i => (i.zero, i.size, i.bytes)) = some (some (.int k 0), 1, bytes))
    (L : Int) (n : Nat) (hl : a.eval l = .int .i64 L) (hc : a.eval c = .int .i64 L) (hL : L = n) (hb : bytes * n ≤ 281474976710656) (hm : n ≤ 1152921504606846976)
    (hK : ∀ w', Arr k e w' w.heap.size (List.replicate n 0) → Below w.heap.size w w' → wpList P ops Q rest (a.put o.dst (.slice (some ⟨w.heap.size, 0, none⟩) n n)) w') :
    wpList P ops Q (o :: rest) a w := by
  obtain ⟨i0, hi0, hz0, hz1, hz2⟩ := info_parts hi
  refine wpList_make_full w hg l c t hop w.heap.size e i0 (.int k 0) 1 ht hi0 hz0 hz1 .i64 .i64 L L n hl hc hL hL (by rw [hz2]; exact hb) (by unfold maxLen; omega) (Nat.le_refl _) ?_
  intro w' hown hgr
  refine hK w' ?_ ((Below.refl _ _).grown hgr (Nat.le_refl _) (fun k hk => by cases hk))
  obtain ⟨_, h⟩ := hown
  rcases h with ⟨h, _⟩ | ⟨g, cap, cur, hv, _, hg, _, _, hs, htk⟩
  · cases h
  · simp only [Value.slice.injEq, Option.some.injEq, Addr.mk.injEq, and_true, true_and] at hv
    obtain ⟨rfl, rfl⟩ := hv
    unfold Arr
    rw [hg]
    have e1 : cur.toList = List.replicate n (.int k 0) := by
      rw [List.take_of_length_le (by simp; omega)] at htk
      rw [htk, Nat.mul_one]; exact toList_madeCells_one (.int k 0) n
    rw [toArray_of_toList e1]; simp

/-- 'copy(dst, src)', dst at a place of a block of its own. -/
theorem wpList_cp {P : Program} {w : World} {ops : Array Oper} {rest : List Oper} {o : Oper} {a : Act} {Q : Exit → Act → World → Prop} (hgd : o.guard = none) (d s : Operand) (t : TypeId)
    (ho : o.op = .call { callee := .builtin .copy, args := #[d, s], argTypes := #[t, t] }) (k : IntKind) (e : TypeId) (hu : P.underlying t = some (.slice e)) (hsz : (P.info? e).map (·.size) = some 1)
    (g off dLen dCap : Nat) (D xs : List Int) (hA : Arr k e w g D) (v : Value) (hd : a.eval d = .slice (some ⟨g, off, none⟩) dLen dCap) (hs : a.eval s = v) (hx : Sl k w v xs)
    (n : Nat) (hn : n = Nat.min xs.length dLen) (hfit : off + n ≤ D.length)
    (h : ∀ w', Arr k e w' g (D.take off ++ (xs.take n ++ D.drop (off + n))) → Upd w w' g → wpList P ops Q rest (a.put o.dst (goInt n)) w') :
    wpList P ops Q (o :: rest) a w := by
  obtain ⟨sp, sCap, rfl, _, hx⟩ := hx
  have hlen : ((xs.take n).map (Value.int k)).length = n := by
    have : n ≤ xs.length := by rw [hn]; exact Nat.min_le_left _ _
    simp; omega
  by_cases h0 : n = 0
  · refine wpList_copy_nothing hgd d s t t ho e hu hsz _ sp dLen dCap xs.length sCap hd hs (by omega) ?_
    subst h0
    exact h w (by simpa using hA) (Upd.refl _ _)
  · rcases hx with rfl | ⟨b, ob, rfl, hb, hr⟩
    · simp at hn; omega
    · have hr' : n ≤ xs.length := by rw [hn]; exact Nat.min_le_left _ _
      have hc := wpList_copy_own (P := P) (ops := ops) (rest := rest) (Q := Q) hgd d s t t ho e hu hsz g off dLen dCap ⟨b, ob, none⟩ xs.length sCap hd hs _ e hA ((xs.take n).map (Value.int k)) (by rw [hlen, hn])
        (fun j u hj => by
          have hjn : j < n := by rw [← hlen]; exact (List.getElem?_eq_some_iff.1 hj).1
          have hadd : (⟨b, ob, none⟩ : Addr).add j = ⟨b, ob + j, none⟩ := by simp [Addr.add]
          rw [hadd, hr j (by omega), ← hj]
          simp [hjn, show j < xs.length by omega]) (by rw [hlen]; simpa using hfit) (by intro u hu; obtain ⟨x, _, rfl⟩ := List.mem_map.1 hu; rfl)
      rw [hlen] at hc
      refine hc (h _ ?_ ⟨rfl, rfl, rfl, by simp [World.setRow], fun k _ hk => setRow_other w g k _ (fun e => hk (by simp [e]))⟩)
      unfold Arr
      rw [setRow_heap w g _ _ e _ hA]
      simp [List.map_take, List.map_drop]

/-- A result: memory from block B on, a whole block of its own, or nil; it reads xs. -/
def Own (B : Nat) (w : World) (v : Value) (xs : List Int) : Prop :=
  (v = .slice none 0 0 ∧ xs = []) ∨ ∃ b S, v = .slice (some ⟨b, 0, none⟩) xs.length S.length ∧ B ≤ b ∧ Arr .u32 38 w b S ∧ U32s S ∧ xs.length ≤ S.length ∧ S.take xs.length = xs ∧ S.length ≤ 1125899906842624
theorem Own.sl {B : Nat} {w : World} {v : Value} {xs : List Int} (h : Own B w v xs) : Sl .u32 w v xs := by
  rcases h with ⟨rfl, rfl⟩ | ⟨b, S, rfl, _, hA, _, hl, ht, _⟩
  · exact ⟨none, 0, rfl, Nat.le_refl _, .inl rfl⟩
  · refine ⟨_, _, rfl, hl, .inr ⟨b, 0, rfl, hA.lt, ?_⟩⟩
    have := hA.rd 0 xs.length (by omega)
    rw [List.drop_zero, ht] at this; exact this
theorem Own.below {B : Nat} {w w' : World} {v : Value} {xs : List Int} (h : Own B w v xs) (hb : Below w.heap.size w w') : Own B w' v xs := by
  rcases h with h | ⟨b, S, rfl, h1, hA, h2⟩
  · exact .inl h
  · exact .inr ⟨b, S, rfl, h1, below_arr hb hA.lt hA, h2⟩
theorem Own.mono {B B' : Nat} {w : World} {v : Value} {xs : List Int} (h : Own B w v xs) (hb : B' ≤ B) : Own B' w v xs := by
  rcases h with h | ⟨b, S, rfl, h1, h2⟩
  · exact .inl h
  · exact .inr ⟨b, S, rfl, by omega, h2⟩
theorem Own.ne {B : Nat} {w : World} {v : Value} {xs : List Int} (h : Own B w v xs) : ∃ a c, v = .slice a xs.length c := by
  rcases h with ⟨rfl, rfl⟩ | ⟨b, S, rfl, _⟩
  · exact ⟨_, _, rfl⟩
  · exact ⟨_, _, rfl⟩
theorem _root_.Go.Proofs.YtjmiaakfdclfjaaGreatDoor.Arr.sl {k : IntKind} {e : TypeId} {w : World} {b : Nat} {S : List Int} (h : Arr k e w b S) : Sl k w (.slice (some ⟨b, 0, none⟩) S.length S.length) S :=
  ⟨_, _, rfl, Nat.le_refl _, .inr ⟨b, 0, rfl, h.lt, by have := h.rd 0 S.length (by omega); simpa using this⟩⟩
/-- A whole block, cut: the number itself. -/
theorem Own.cut {B : Nat} {w : World} {b : Nat} {S : List Int} (hA : Arr .u32 38 w b S) (hu : U32s S) (hB : B ≤ b) (hl : S.length ≤ 1125899906842624) :
    Own B w (.slice (some ⟨b, 0, none⟩) (sig S) S.length) (lim (val S).toNat) := by
  have hs := sig_le S
  have e := take_sig_lim hu
  have e2 : (lim (val S).toNat).length = sig S := by rw [← e]; simp; omega
  refine .inr ⟨b, S, by rw [e2], hB, hA, hu, by omega, by rw [e2, e], hl⟩
end Go.Proofs.YtjmiaakfdclfjaaGreatDoor.Nt
/-
  The walk of sum: the sum of any two numbers, in new memory.
-/
namespace Go.Proofs.YtjmiaakfdclfjaaGreatDoor.Nt
open Go.RowKit

theorem _root_.Go.Proofs.YtjmiaakfdclfjaaGreatDoor.Sl.old {k : IntKind} {w : World} {v : Value} {xs : List Int} (h : Sl k w v xs) : ∀ b o n c, xs ≠ [] → v = .slice (some ⟨b, o, none⟩) n c → b < w.heap.size := by
  intro b o n c hne hv
  obtain ⟨a, c', rfl, _, h | ⟨b', o', rfl, hb, _⟩⟩ := h
  · exact absurd h hne
  · cases hv; exact hb
theorem _root_.Go.Proofs.YtjmiaakfdclfjaaGreatDoor.Sl.ne {k : IntKind} {w : World} {v : Value} {xs : List Int} (h : Sl k w v xs) {ba : Nat} (hb : w.heap.size ≤ ba) : ∀ b o n c, xs ≠ [] → v = .slice (some ⟨b, o, none⟩) n c → b ≠ ba := by
  intro b o n c h1 h2; have := h.old b o n c h1 h2; omega
theorem val_set {S : List Int} {i : Nat} (h : i < S.length) (z : Int) : val (S.set i z) = val S + 4294967296 ^ i * (z - S.getD i 0) := by
  induction S generalizing i with
  | nil => simp at h
  | cons x S ih =>
    cases i with
    | zero => simp [val]; omega
    | succ i =>
      have := ih (i := i) (by simpa using h)
      simp only [List.set_cons_succ, val, this, pow_succ32, Int.mul_add, Int.mul_assoc]
      simp only [List.getD_cons_succ]; omega

theorem nmin2 {a b : Nat} (h : b ≤ a) : b = Nat.min a b := (Nat.min_eq_right h).symm
/-- A carry of 1 does not run over the end. -/
theorem pow_mono {i j : Nat} (h : i ≤ j) : (4294967296 : Int) ^ i ≤ 4294967296 ^ j := by
  obtain ⟨d, rfl⟩ := Nat.le.dest h
  rw [Int.pow_add]
  have h1 := pow_pos32 i; have h2 := pow_pos32 d
  calc (4294967296 : Int) ^ i = 4294967296 ^ i * 1 := by rw [Int.mul_one]
    _ ≤ 4294967296 ^ i * 4294967296 ^ d := Int.mul_le_mul_of_nonneg_left (by omega) (by omega)
end Go.Proofs.YtjmiaakfdclfjaaGreatDoor.Nt
/-
  The walks of difference, Trim, Small, fitting.
-/
namespace Go.Proofs.YtjmiaakfdclfjaaGreatDoor.Nt
open Go.RowKit

/-- A whole block that is without a limb 0 at its end: the number itself. -/
theorem Own.whole {B : Nat} {w : World} {b : Nat} {S : List Int} (hA : Arr .u32 38 w b S) (hu : U32s S) (hB : B ≤ b) (hl : S.length ≤ 1125899906842624) :
    Own B w (.slice (some ⟨b, 0, none⟩) S.length S.length) S := .inr ⟨b, S, rfl, hB, hA, hu, Nat.le_refl _, List.take_length, hl⟩

set_option maxHeartbeats 400000 in
theorem Trim_any (X : List Int) (v : Value) (w : World) (hX : Sl .u32 w v X) (uX : U32s X) (lX : X.length ≤ 35184372088832) :
    Calls Tryz.prog 115 #[v] w fun e w' => ∃ r, e = .returned r ∧ Own w.heap.size w' r (lim (val X).toNat) ∧ Below w.heap.size w w' := by
  obtain ⟨aX, cX, rfl, hcX⟩ := hX.len
  have hs := sig_le X
  go_enter Tryz.func115, Tryz.ntmps115
  go_wp2_with (first
      | (go_at_call 53; refine (length_any X _ _ hX (by omega)).mono ?_; rintro e w' ⟨rfl, rfl⟩)
      | (at_make; refine wpList_mk _ rfl _ _ 24 rfl .u32 38 4 Tryz.und32 Tryz.info32 _ (sig X) rfl rfl (by omega) (by omega) (by omega) ?_; intro w1 hA1 hB1)
      | (refine wpList_cp rfl (.tmp 7) (.tmp 8) 24 rfl .u32 38 Tryz.und32 Tryz.one32 _ 0 (sig X) (sig X) _ X hA1 _ rfl rfl (below_sl hB1 hX) (sig X) (nmin2 (by omega)) (by simp) ?_; intro w2 hA2 hU2))
  go_ret
  have hB2 := hU2.below hB1 (Nat.le_of_lt hA1.lt) (Nat.le_refl _)
  refine ⟨_, rfl, ?_, hB2⟩
  have e1 : List.take 0 (List.replicate (sig X) (0 : Int)) ++ (X.take (sig X) ++ (List.replicate (sig X) 0).drop (0 + sig X)) = X.take (sig X) := by simp
  rw [e1] at hA2
  have := Own.whole (B := _) hA2 (uX.take _) (Nat.le_refl _) (by simp; omega)
  rw [List.length_take, Nat.min_eq_left hs, take_sig_lim uX] at this
  exact this

set_option maxHeartbeats 400000 in
theorem Small_any (n : Int) (h0 : 0 ≤ n) (h1 : n < 18446744073709551616) (w : World) :
    Calls Tryz.prog 97 #[.int .u64 n] w fun e w' => ∃ r, e = .returned r ∧ Own w.heap.size w' r (lim n.toNat) ∧ Below w.heap.size w w' := by
  go_enter Tryz.func97, Tryz.ntmps97
  have hA : Arr .u32 38 (w.alloc (.cells #[.int .u32 (n % 4294967296), .int .u32 (n / 4294967296)] 38)) w.heap.size [n % 4294967296, n / 4294967296] := by
    unfold Arr; rw [heap_alloc_new]; rfl
  have hu : U32s [n % 4294967296, n / 4294967296] := U32s.cons ⟨by omega, by omega⟩ (U32s.cons ⟨by omega, by omega⟩ U32s.nil)
  have hO := Own.cut (B := w.heap.size) hA hu (Nat.le_refl _) (by simp)
  have e : val [n % 4294967296, n / 4294967296] = n := by simp [val]; omega
  rw [e] at hO
  have hcut := cut_any _ _ _ _ hA.sl (by simp)
  clear hA hu e
  go_wp2_with (go_at_call 77; refine hcut.mono ?_; rintro e w4 ⟨rfl, rfl⟩)
  go_ret
  exact ⟨_, rfl, hO, (Below.refl _ _).alloc (Nat.le_refl _) _⟩

end Go.Proofs.YtjmiaakfdclfjaaGreatDoor.Nt
/-
  The walk of Cmp: which of any two numbers is greater.
-/
namespace Go.Proofs.YtjmiaakfdclfjaaGreatDoor.Nt
open Go.RowKit

theorem val_ext : ∀ (xs ys : List Int), (∀ j, xs.getD j 0 = ys.getD j 0) → val xs = val ys
  | [], [], _ => rfl
  | x :: xs, [], h => by
    have h0 := h 0; have := val_ext xs [] (fun j => by simpa using h (j + 1)); simp at h0; simp [val] at this ⊢; omega
  | [], y :: ys, h => by
    have h0 := h 0; have := val_ext [] ys (fun j => by simpa using h (j + 1)); simp at h0; simp [val] at this ⊢; omega
  | x :: xs, y :: ys, h => by
    have h0 := h 0; have := val_ext xs ys (fun j => by simpa using h (j + 1)); simp at h0; simp [val]; omega
theorem getD_tail (xs : List Int) (j : Nat) : xs.tail.getD j 0 = xs.getD (j + 1) 0 := by cases xs <;> simp
theorem val_head_tail (xs : List Int) : val xs = xs.getD 0 0 + 4294967296 * val xs.tail := by cases xs <;> simp [val]
theorem _root_.Go.Proofs.YtjmiaakfdclfjaaGreatDoor.U32s.tl {xs : List Int} (h : U32s xs) : U32s xs.tail := fun y hy => h y (List.mem_of_mem_tail hy)
theorem val_lt_of (i : Nat) : ∀ (xs ys : List Int), U32s xs → U32s ys → (∀ j, i < j → xs.getD j 0 = ys.getD j 0) → xs.getD i 0 < ys.getD i 0 → val xs < val ys := by
  induction i with
  | zero =>
    intro xs ys ux uy h hlt
    have := val_ext xs.tail ys.tail (fun j => by rw [getD_tail, getD_tail]; exact h (j + 1) (by omega))
    rw [val_head_tail xs, val_head_tail ys]; omega
  | succ i ih =>
    intro xs ys ux uy h hlt
    have := ih xs.tail ys.tail ux.tl uy.tl (fun j hj => by rw [getD_tail, getD_tail]; exact h (j + 1) (by omega)) (by rw [getD_tail, getD_tail]; exact hlt)
    have h1 := ux.at 0; have h2 := uy.at 0
    unfold U32 at h1 h2
    rw [val_head_tail xs, val_head_tail ys]; omega
theorem sig_zero {xs : List Int} {j : Nat} (h : sig xs ≤ j) : xs.getD j 0 = 0 := by
  induction xs generalizing j with
  | nil => simp
  | cons x xs ih =>
    simp only [sig] at h
    split at h
    · rename_i h1
      split at h
      · rename_i h2
        cases j with
        | zero => simpa using h2
        | succ j => rw [List.getD_cons_succ]; exact ih (by omega)
      · cases j with
        | zero => omega
        | succ j => rw [List.getD_cons_succ]; exact ih (by omega)
    · cases j with
      | zero => omega
      | succ j => rw [List.getD_cons_succ]; exact ih (by omega)
theorem sig_pos {xs : List Int} (hu : U32s xs) (h : 0 < sig xs) : 0 < xs.getD (sig xs - 1) 0 := by
  have h1 := sig_last h; have h2 := hu.at (sig xs - 1); unfold U32 at h2; omega
theorem val_lt_of_sig {xs ys : List Int} (ux : U32s xs) (uy : U32s ys) (h : sig xs < sig ys) : val xs < val ys := by
  refine val_lt_of (sig ys - 1) xs ys ux uy (fun j hj => by rw [sig_zero (by omega), sig_zero (by omega)]) ?_
  rw [sig_zero (xs := xs) (by omega)]; exact sig_pos uy (by omega)

def cmpI (x y : Int) : Int := if x < y then -1 else if y < x then 1 else 0

/-- 'the slice v has k significant limbs'. -/
def Len (w : World) (v : Value) (k : Nat) : Prop := ∃ xs, Sl .u32 w v xs ∧ xs.length ≤ 1152921504606846976 ∧ sig xs = k
theorem length_len {w : World} (v : Value) (k : Nat) (h : Len w v k) : Calls Tryz.prog 53 #[v] w fun e w' => e = .returned (.int .i64 k) ∧ w = w' := by
  obtain ⟨xs, h1, h2, rfl⟩ := h; exact (length_any xs v w h1 h2).mono fun e w' h => ⟨h.1, h.2.symm⟩

set_option maxHeartbeats 1000000 in
theorem Cmp_any (xs ys : List Int) (v u : Value) (w : World) (hx : Sl .u32 w v xs) (hy : Sl .u32 w u ys) (ux : U32s xs) (uy : U32s ys) (lx : xs.length ≤ 1152921504606846976) (ly : ys.length ≤ 1152921504606846976) :
    Calls Tryz.prog 50 #[v, u] w fun e w' => e = .returned (.int .i64 (cmpI (val xs) (val ys))) ∧ Below w.heap.size w w' := by
  have hlx : Len w v (sig xs) := ⟨xs, hx, lx, rfl⟩
  have hly : Len w u (sig ys) := ⟨ys, hy, ly, rfl⟩
  obtain ⟨a1, c1, rfl, hc1, h1⟩ := id hx
  obtain ⟨a2, c2, rfl, hc2, h2⟩ := id hy
  have hsx := sig_le xs
  have hsy := sig_le ys
  by_cases hlt : sig xs < sig ys
  · have HC : Hid (val xs < val ys) := val_lt_of_sig ux uy hlt
    go_enter Tryz.func50, Tryz.ntmps50
    go_wp2_with (go_at_call 53; refine (length_len _ _ (by assumption)).mono ?_; rintro e w' ⟨rfl, rfl⟩)
    go_ret
    exact ⟨ret_int (by unfold cmpI; rw [if_pos HC.out]), Below.refl _ _⟩
  by_cases hgt : sig ys < sig xs
  · have HC : Hid (val ys < val xs) := val_lt_of_sig uy ux hgt
    go_enter Tryz.func50, Tryz.ntmps50
    go_wp2_with (go_at_call 53; refine (length_len _ _ (by assumption)).mono ?_; rintro e w' ⟨rfl, rfl⟩)
    go_ret
    exact ⟨ret_int (by unfold cmpI; rw [if_neg (by have := HC.out; omega), if_pos HC.out]), Below.refl _ _⟩
  obtain ⟨n, hn⟩ : ∃ n, sig xs = n := ⟨_, rfl⟩
  have hn2 : sig ys = n := by omega
  rw [hn] at hlx
  rw [hn2] at hly
  clear hlt hgt
  have HZ : Hid (∀ j, n ≤ j → xs.getD j 0 = ys.getD j 0) := fun j hj => by rw [sig_zero (by omega), sig_zero (by omega)]
  have hnx : n ≤ xs.length := by omega
  have hny : n ≤ ys.length := by omega
  clear hsx hsy hn hn2
  by_cases hn0 : n = 0
  · subst hn0
    have HE : Hid (val xs = val ys) := val_ext _ _ (fun j => HZ.out j (Nat.zero_le _))
    go_enter Tryz.func50, Tryz.ntmps50
    go_wp2_with (go_at_call 53; refine (length_len _ _ (by assumption)).mono ?_; rintro e w' ⟨rfl, rfl⟩)
    go_loop [22] (fun i => i = .int .i64 0) (fun _ => 0)
    case atStart => rfl
    case round =>
      subst hrel
      go_wp2
      go_ret
      exact ⟨ret_int (by unfold cmpI; rw [HE.out]; simp), Below.refl _ _⟩
  rcases h1 with rfl | ⟨b1, o1, rfl, hb1, hr1⟩
  · simp at hnx; omega
  rcases h2 with rfl | ⟨b2, o2, rfl, hb2, hr2⟩
  · simp at hny; omega
  go_enter Tryz.func50, Tryz.ntmps50
  go_wp2_with (go_at_call 53; refine (length_len _ _ (by assumption)).mono ?_; rintro e w' ⟨rfl, rfl⟩)
  go_loopw [22] (fun i wr => ∃ k : Nat, k ≤ n ∧ i = .int .i64 k ∧ (∀ j, n - k ≤ j → xs.getD j 0 = ys.getD j 0) ∧ Below w.heap.size w wr) (fun i _ => n - (intOf i).toNat)
  case atStart => exact ⟨0, Nat.zero_le _, rfl, by simpa using HZ.out, Below.refl _ _⟩
  case round =>
    obtain ⟨k, hk, rfl, hz, hB⟩ := hrel
    by_cases hkn : k < n
    · obtain ⟨m, hm⟩ : ∃ m, m = n - 1 - k := ⟨_, rfl⟩
      have hcx : wr.cell? ⟨b1, o1 + (n - 1 - k), none⟩ = some (.int .u32 (xs.getD (n - 1 - k) 0)) := (below_rd hB hb1 hr1) _ (by omega)
      have hcy : wr.cell? ⟨b2, o2 + (n - 1 - k), none⟩ = some (.int .u32 (ys.getD (n - 1 - k) 0)) := (below_rd hB hb2 hr2) _ (by omega)
      obtain ⟨x, hxk⟩ : ∃ x, xs.getD (n - 1 - k) 0 = x := ⟨_, rfl⟩
      obtain ⟨y, hyk⟩ : ∃ y, ys.getD (n - 1 - k) 0 = y := ⟨_, rfl⟩
      rw [hxk] at hcx
      rw [hyk] at hcy
      have hidx : ((n : Int) - 1 - k).toNat = n - 1 - k := by omega
      have HH : Hid (xs.getD (n - 1 - k) 0 = x ∧ ys.getD (n - 1 - k) 0 = y ∧ (∀ j, n - k ≤ j → xs.getD j 0 = ys.getD j 0) ∧ Below w.heap.size w wr) := ⟨hxk, hyk, hz, hB⟩
      clear hxk hyk hz hB hr1 hr2 hm hx hy hlx hly HZ
      by_cases hxy : x < y
      · go_wp2
        go_quiet (fail)
        go_wp2
        go_ret
        obtain ⟨hxk, hyk, hz, hB⟩ := HH.out
        have := val_lt_of (n - 1 - k) xs ys ux uy (fun j hj => hz j (by omega)) (by rw [hxk, hyk]; exact hxy)
        exact ⟨ret_int (by unfold cmpI; rw [if_pos this]), hB.trans ⟨rfl, rfl, rfl, Nat.le_refl _, fun _ _ => rfl⟩⟩
      by_cases hyx : y < x
      · go_wp2
        go_quiet (fail)
        go_wp2
        go_quiet (fail)
        go_wp2
        go_ret
        obtain ⟨hxk, hyk, hz, hB⟩ := HH.out
        have := val_lt_of (n - 1 - k) ys xs uy ux (fun j hj => (hz j (by omega)).symm) (by rw [hxk, hyk]; exact hyx)
        exact ⟨ret_int (by unfold cmpI; rw [if_neg (by omega), if_pos this]), hB.trans ⟨rfl, rfl, rfl, Nat.le_refl _, fun _ _ => rfl⟩⟩
      · go_wp2
        go_quiet (fail)
        go_wp2
        go_quiet (fail)
        go_wp2
        go_roundw
        case rel =>
          obtain ⟨hxk, hyk, hz, hB⟩ := HH.out
          refine ⟨k + 1, by omega, by go_num, fun j hj => ?_, hB.trans ⟨rfl, rfl, rfl, Nat.le_refl _, fun _ _ => rfl⟩⟩
          by_cases hj2 : n - k ≤ j
          · exact hz j hj2
          · have : j = n - 1 - k := by omega
            subst this; rw [hxk, hyk]; omega
        case measure => simp [intOf]; omega
    · have HE : Hid (val xs = val ys) := val_ext _ _ (fun j => hz j (by omega))
      have HB : Hid (Below w.heap.size w wr) := hB
      clear hz hB
      go_wp2
      go_ret
      exact ⟨ret_int (by unfold cmpI; rw [HE.out]; simp), HB.out⟩
end Go.Proofs.YtjmiaakfdclfjaaGreatDoor.Nt
