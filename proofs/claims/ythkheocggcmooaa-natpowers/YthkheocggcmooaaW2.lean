/-
  The walk of addTimes: x times b is added to the lowest limbs of a, in place.
-/
import Derived.Test.YthkheocggcmooaaW1
namespace Go.Proofs.Ythkheocggcmooaa
open Go.RowKit

theorem drewN_heap (w : World) (n : Nat) : (w.drewN n).heap = w.heap := rfl
theorem Arr.drewN {k : IntKind} {e : TypeId} {w : World} {b : Nat} {xs : List Int} (h : Arr k e w b xs) (n : Nat) : Arr k e (w.drewN n) b xs := h
theorem Upd.drewN {w w' : World} {b : Nat} (h : Upd w w' b) (n : Nat) : Upd w (w'.drewN n) b := ⟨h.os, h.tape, h.output, h.size, h.block⟩
theorem mul_u32 {x y : Int} (hx : U32 x) (hy : U32 y) : 0 ≤ x * y ∧ x * y ≤ 18446744065119617025 := by
  unfold U32 at hx hy
  refine ⟨Int.mul_nonneg hx.1 hy.1, ?_⟩
  calc x * y ≤ 4294967295 * y := Int.mul_le_mul_of_nonneg_right (by omega) hy.1
    _ ≤ 4294967295 * 4294967295 := Int.mul_le_mul_of_nonneg_left (by omega) (by decide)
    _ = _ := by decide
theorem val_snoc (xs : List Int) (x : Int) : val (xs ++ [x]) = val xs + 4294967296 ^ xs.length * x := by rw [val_append]; simp [val]
theorem take_snoc (xs : List Int) (k : Nat) (h : k < xs.length) : xs.take (k + 1) = xs.take k ++ [xs.getD k 0] := by
  rw [List.take_succ_eq_append_getElem h]; simp [h]
theorem val_take_succ (xs : List Int) (k : Nat) (h : k < xs.length) : val (xs.take (k + 1)) = val (xs.take k) + 4294967296 ^ k * xs.getD k 0 := by
  rw [take_snoc xs k h, val_snoc, List.length_take, Nat.min_eq_left (by omega)]

/-- One limb more: the row behind the store. -/
theorem mid_set (A Z : List Int) (off : Nat) (z : Int) (h : off + Z.length < A.length) :
    (A.take off ++ Z ++ A.drop (off + Z.length)).set (off + Z.length) z = A.take off ++ (Z ++ [z]) ++ A.drop (off + (Z ++ [z]).length) := by
  have h1 : (A.take off ++ Z).length = off + Z.length := by simp; omega
  rw [List.set_append_right _ _ (by omega), h1, Nat.sub_self, List.drop_eq_getElem_cons h]
  simp [Nat.add_assoc]
theorem mid_get (A Z : List Int) (off : Nat) : (A.take off ++ Z ++ A.drop (off + Z.length)).getD (off + Z.length) 0 = A.getD (off + Z.length) 0 := by
  by_cases h : off ≤ A.length
  · have h1 : (A.take off ++ Z).length = off + Z.length := by simp; omega
    rw [List.getD_eq_getElem?_getD, List.getElem?_append_right (by omega), h1, Nat.sub_self, List.getElem?_drop]; simp
  · have h2 : A.drop (off + Z.length) = [] := List.drop_eq_nil_of_le (by omega)
    rw [h2, List.getD_eq_getElem?_getD, List.getD_eq_getElem?_getD, List.getElem?_eq_none (by simp; omega), List.getElem?_eq_none (by omega)]
theorem mid_len (A Z : List Int) (off : Nat) (h : off + Z.length ≤ A.length) : (A.take off ++ Z ++ A.drop (off + Z.length)).length = A.length := by
  simp; omega

/-- The sum's step: a limb and a carry more. -/
theorem add_step (P c x y a v u : Int) (T : Int) (hT : T = c + (x * y + a)) (ih : v + P * c = u) :
    (v + P * (T % 4294967296)) + (4294967296 * P) * (T / 4294967296) = u + P * a + x * (P * y) := by
  have h1 : T % 4294967296 + 4294967296 * (T / 4294967296) = T := by omega
  have h2 : P * (T % 4294967296) + (4294967296 * P) * (T / 4294967296) = P * T := by
    rw [← h1, Int.mul_add]; congr 1
    · rw [h1]
    · rw [h1, Int.mul_comm 4294967296 P, Int.mul_assoc]
  have h3 : P * T = P * c + (P * (x * y) + P * a) := by rw [hT, Int.mul_add, Int.mul_add]
  have h4 : x * (P * y) = P * (x * y) := by rw [← Int.mul_assoc, Int.mul_comm x P, Int.mul_assoc]
  omega

set_option maxHeartbeats 1000000 in
theorem addTimes_any (A ys : List Int) (x : Int) (ba off n c : Nat) (v : Value) (w : World) (hA : Arr .u32 53 w ba A) (huA : U32s A) (hux : U32 x) (huy : U32s ys)
    (hy : Sl .u32 w v ys) (hne : ∀ b o n' c', ys ≠ [] → v = .slice (some ⟨b, o, none⟩) n' c' → b ≠ ba) (hfit : off + ys.length ≤ A.length) (hcap : ys.length ≤ c) (hl : ys.length ≤ 1152921504606846976) :
    Calls Try.prog 65 #[.slice (some ⟨ba, off, none⟩) n c, v, .int .u32 x] w fun e w' =>
      ∃ Z carry, e = .returned (.int .u32 carry) ∧ U32 carry ∧ U32s Z ∧ Z.length = ys.length ∧ Arr .u32 53 w' ba (A.take off ++ Z ++ A.drop (off + Z.length)) ∧ Upd w w' ba ∧
        val Z + 4294967296 ^ ys.length * carry = val ((A.drop off).take ys.length) + x * val ys := by
  obtain ⟨ab, cb, rfl, hcb, hy⟩ := hy
  have hfin : ys.take ys.length = ys := List.take_length
  rcases hy with rfl | ⟨b, ob, rfl, hb, hr⟩
  · simp only [List.length_nil]
    go_enter Try.func65, Try.ntmps65
    go_wp2
    go_loop [7, 15] (fun t i => i = .int .i64 0 ∧ t = .int .u64 0) (fun _ _ => 0)
    case atStart => exact ⟨rfl, rfl⟩
    case round =>
      obtain ⟨rfl, rfl⟩ := hrel
      go_wp2
      go_ret
      exact ⟨[], 0, rfl, ⟨by decide, by decide⟩, U32s.nil, rfl, by simpa using hA, Upd.refl _ _, by simp [val]⟩
  · by_cases hys : ys = []
    · subst hys
      simp only [List.length_nil]
      go_enter Try.func65, Try.ntmps65
      go_wp2
      go_loop [7, 15] (fun t i => i = .int .i64 0 ∧ t = .int .u64 0) (fun _ _ => 0)
      case atStart => exact ⟨rfl, rfl⟩
      case round =>
        obtain ⟨rfl, rfl⟩ := hrel
        go_wp2
        go_ret
        exact ⟨[], 0, rfl, ⟨by decide, by decide⟩, U32s.nil, rfl, by simpa using hA, Upd.refl _ _, by simp [val]⟩
    have hbne : b ≠ ba := hne _ _ _ _ hys rfl
    clear hne hys
    obtain ⟨ux1, ux2⟩ := hux
    go_enter Try.func65, Try.ntmps65
    go_wp2
    go_loopw [7, 15] (fun t i wr => ∃ Z carry, Z.length ≤ ys.length ∧ i = .int .i64 Z.length ∧ t = .int .u64 carry ∧ U32 carry ∧ U32s Z ∧ Arr .u32 53 wr ba (A.take off ++ Z ++ A.drop (off + Z.length)) ∧ Upd w wr ba ∧
        val Z + 4294967296 ^ Z.length * carry = val ((A.drop off).take Z.length) + x * val (ys.take Z.length)) (fun _ i _ => ys.length - (intOf i).toNat)
    case atStart => exact ⟨[], 0, Nat.zero_le _, rfl, rfl, ⟨by decide, by decide⟩, U32s.nil, by simpa using hA, Upd.refl _ _, by simp [val]⟩
    case round =>
      obtain ⟨Z, carry, hk, rfl, rfl, hc, hZ, hArr, hUpd, heq⟩ := hrel
      by_cases hlt : Z.length < ys.length
      · obtain ⟨y, hyk⟩ : ∃ y, ys.getD Z.length 0 = y := ⟨_, rfl⟩
        obtain ⟨a, hak⟩ : ∃ a, A.getD (off + Z.length) 0 = a := ⟨_, rfl⟩
        have uy : U32 y := hyk ▸ huy.at Z.length
        have ua : U32 a := hak ▸ huA.at _
        have hcy : wr.cell? ⟨b, ob + Z.length, none⟩ = some (.int .u32 y) := by rw [← hyk]; exact (hUpd.rd hb hr hbne) Z.length hlt
        have hca : wr.cell? ⟨ba, off + Z.length, none⟩ = some (.int .u32 a) := by
          rw [hArr.cell _ (by rw [mid_len _ _ _ (by omega)]; omega), mid_get, hak]
        have hfa : wr.frozen? ⟨ba, off + Z.length, none⟩ = false := hArr.frozen _
        obtain ⟨p, hp⟩ : ∃ p, x * y = p := ⟨_, rfl⟩
        have hpb := mul_u32 ⟨ux1, ux2⟩ uy
        rw [hp] at hpb
        obtain ⟨pb1, pb2⟩ := hpb
        obtain ⟨c1, c2⟩ := hc
        obtain ⟨uy1, uy2⟩ := uy
        obtain ⟨ua1, ua2⟩ := ua
        obtain ⟨kz, hkz⟩ : ∃ kz, Z.length = kz := ⟨_, rfl⟩
        have HH : Hid (ys.getD Z.length 0 = y ∧ A.getD (off + Z.length) 0 = a ∧ Arr .u32 53 wr ba (A.take off ++ Z ++ A.drop (off + Z.length)) ∧ Upd w wr ba ∧ U32s Z ∧ U32s A ∧ Rd .u32 w b ob ys ∧ Z.length = kz ∧
          val Z + 4294967296 ^ Z.length * carry = val ((A.drop off).take Z.length) + x * val (ys.take Z.length)) := ⟨hyk, hak, hArr, hUpd, hZ, huA, hr, hkz, heq⟩
        clear hyk hak hArr hUpd hZ heq hr
        rw [hkz] at hcy hca hfa hlt ⊢
        clear hkz
        go_wp2
        go_quiet (fail)
        go_wp2
        go_roundw
        case rel =>
          obtain ⟨hyk, hak, hArr, hUpd, hZ, huA, hr, hkz, heq⟩ := HH.out
          refine ⟨Z ++ [(carry + (p + a)) % 4294967296], (carry + (p + a)) / 4294967296, ?_, ?_, ?_, ?_, ?_, ?_, ?_, ?_⟩
          · simp; omega
          · simp [hkz]
          · go_num
          · exact ⟨by omega, by omega⟩
          · exact hZ.append (U32s.cons ⟨by omega, by omega⟩ U32s.nil)
          · subst hkz; rw [← mid_set _ _ _ _ (by omega)]; exact (hArr.drewN _).set _ _
          · exact (hUpd.drewN _).trans (Upd.set _ _ _ _)
          · subst hkz
            rw [val_snoc, List.length_append, List.length_singleton, pow_succ32, val_take_succ _ _ (by simp; omega), val_take_succ _ _ (by omega), hyk]
            have hgd : (A.drop off).getD Z.length 0 = a := by rw [List.getD_eq_getElem?_getD, List.getElem?_drop, ← List.getD_eq_getElem?_getD]; exact hak
            rw [hgd]
            have := add_step (4294967296 ^ Z.length) carry x y a (val Z) _ _ (by rw [hp]) heq
            rw [this, Int.mul_add]; omega
        case measure => simp [intOf]; omega
      · have hfull : ys.length = Z.length := by omega
        have HH : Hid (Arr .u32 53 wr ba (A.take off ++ Z ++ A.drop (off + Z.length)) ∧ Upd w wr ba ∧ U32s Z ∧ U32 carry ∧ ys.length = Z.length ∧
          val Z + 4294967296 ^ Z.length * carry = val ((A.drop off).take Z.length) + x * val (ys.take Z.length)) := ⟨hArr, hUpd, hZ, hc, hfull, heq⟩
        obtain ⟨c1, c2⟩ := hc
        clear hArr hUpd hZ heq hfull
        go_wp2
        go_ret
        obtain ⟨hArr, hUpd, hZ, hc, hfull, heq⟩ := HH.out
        refine ⟨Z, carry, rfl, hc, hZ, hfull.symm, hArr, hUpd, ?_⟩
        rw [hfull, heq, ← hfull, hfin]
end Go.Proofs.Ythkheocggcmooaa
