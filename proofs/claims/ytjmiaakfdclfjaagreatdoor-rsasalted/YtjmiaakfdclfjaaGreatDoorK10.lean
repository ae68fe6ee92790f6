/-
  The walk of the reference's DivMod.
-/
import Derived.Deep.CutRange
import Derived.Test.YtjmiaakfdclfjaaGreatDoorK9
namespace Go.Proofs.YtjmiaakfdclfjaaGreatDoor.Nt
open Go.RowKit

def RThree (w : World) (e : Ending) (s : List Int × List Int × Int) : Prop := ∃ q r, e = .returned (.tuple #[q, r, .int .i64 s.2.2]) ∧ Sl .u32 w q s.1 ∧ Sl .u32 w r s.2.1
theorem sl_none (w : World) : Sl .u32 w (.slice none 0 0) [] := ⟨none, 0, rfl, Nat.le_refl _, .inl rfl⟩
theorem RThree.nil' {w : World} {n : Int} {s : List Int × List Int × Int} (hs : s = ([], [], n)) : RThree w (.returned (.tuple #[.slice none 0 0, .slice none 0 0, .int .i64 n])) s := by
  subst hs; exact ⟨_, _, rfl, sl_none _, sl_none _⟩
theorem RThree.mk' {w : World} {q r : Value} {n : Int} {L M : List Int} {s : List Int × List Int × Int} (h : Sl .u32 w q L) (h' : Sl .u32 w r M) (hs : s = (L, M, n)) : RThree w (.returned (.tuple #[q, r, .int .i64 n])) s := by
  subst hs; exact ⟨q, r, rfl, h, h'⟩

end Go.Proofs.YtjmiaakfdclfjaaGreatDoor.Nt
/-
  The walk of live: the page's examples hold.
-/
namespace Go.Proofs.YtjmiaakfdclfjaaGreatDoor.Nt
open Go.RowKit

end Go.Proofs.YtjmiaakfdclfjaaGreatDoor.Nt
/-
  The walks of shiftUp, shiftDown, guess.
-/
namespace Go.Proofs.YtjmiaakfdclfjaaGreatDoor.Nt
open Go.RowKit

theorem wraps_u64 (n : Int) (h₀ : 0 ≤ n) (h₁ : n < 2 ^ 64) : IntKind.u64.wrap n = n := by rw [wrap_u64]; omega
theorem u1' {x : Int} (h : 0 ≤ x) (h' : x < 4294967296) : U32s [x] := U32s.cons ⟨h, h'⟩ U32s.nil
/-- 2^s, s below 32. -/
theorem p2 (s : Nat) (hs : s < 32) : (1 : Int) ≤ 2 ^ s ∧ (2 : Int) ^ s ≤ 2147483648 := by
  have h0 : (0 : Int) < 2 ^ s := Int.pow_pos (by decide)
  have h1 : (2 : Int) ^ s ≤ 2 ^ 31 := by exact_mod_cast Nat.pow_le_pow_right (n := 2) (by decide) (show s ≤ 31 by omega)
  exact ⟨by omega, by omega⟩
theorem or_up (s : Nat) (c x : Int) (hs : s < 32) (c0 : 0 ≤ c) (c1 : c < 2 ^ s) (hx : U32 x) : bits .or .u64 c (x * 2 ^ s) = c + x * 2 ^ s := by
  obtain ⟨x0, x1⟩ := hx
  obtain ⟨a, rfl⟩ := Int.eq_ofNat_of_zero_le c0
  obtain ⟨b, rfl⟩ := Int.eq_ofNat_of_zero_le x0
  have ha : a < 2 ^ s := by exact_mod_cast c1
  have hp : 2 ^ s ≤ 2 ^ 31 := Nat.pow_le_pow_right (by decide) (by omega)
  have hb : b < 4294967296 := by omega
  have hm : b * 2 ^ s < 2 ^ 64 := by
    calc b * 2 ^ s ≤ 4294967296 * 2 ^ s := Nat.mul_le_mul_right _ (by omega)
      _ ≤ 4294967296 * 2 ^ 31 := Nat.mul_le_mul_left _ hp
      _ < 2 ^ 64 := by decide
  have h := (bits_nat .u64 64 (by decide) wraps_u64 a (b * 2 ^ s) (by omega) hm).2
  have e : ((b * 2 ^ s : Nat) : Int) = (b : Int) * 2 ^ s := by simp
  rw [e] at h
  rw [h, Nat.or_comm, Nat.mul_comm b, ← Nat.two_pow_add_eq_or_of_lt ha b]
  simp only [Int.natCast_add, Int.natCast_mul, Int.natCast_pow]
  rw [Int.mul_comm (b : Int)]; simp [Int.add_comm]
theorem mul_p {x p : Int} (hx : U32 x) (h1 : 1 ≤ p) (h2 : p ≤ 2147483648) : 0 ≤ x * p ∧ x * p ≤ 4294967295 * p := by
  obtain ⟨x0, x1⟩ := hx
  exact ⟨Int.mul_nonneg x0 (by omega), Int.mul_le_mul_of_nonneg_right (by omega) (by omega)⟩
theorem up_step (P c x p v u T : Int) (hT : T = c + x * p) (ih : v + P * c = u * p) : (v + P * (T % 4294967296)) + (4294967296 * P) * (T / 4294967296) = (u + P * x) * p := by
  have h1 : T % 4294967296 + 4294967296 * (T / 4294967296) = T := by omega
  obtain ⟨r, hr⟩ : ∃ r, T % 4294967296 = r := ⟨_, rfl⟩
  obtain ⟨q, hq⟩ : ∃ q, T / 4294967296 = q := ⟨_, rfl⟩
  rw [hr, hq] at h1
  rw [hr, hq]
  grind
theorem tail_set (Z : List Int) (m : Nat) (z : Int) : (Z ++ List.replicate (m + 1) 0).set Z.length z = (Z ++ [z]) ++ List.replicate m 0 := by
  rw [List.set_append_right _ _ (Nat.le_refl _), Nat.sub_self, List.replicate_succ]; simp

set_option maxHeartbeats 2000000 in
theorem shiftUp_any (X : List Int) (s : Nat) (hs : s < 32) (v : Value) (w : World) (hX : Sl .u32 w v X) (uX : U32s X) (lX : X.length ≤ 1073741824) :
    Calls Tryz.prog 123 #[v, .int .i64 s] w fun e w' => ∃ S, e = .returned (.slice (some ⟨w.heap.size, 0, none⟩) (X.length + 1) (X.length + 1)) ∧ Arr .u32 38 w' w.heap.size S ∧ U32s S ∧ S.length = X.length + 1 ∧ val S = val X * 2 ^ s ∧ Below w.heap.size w w' := by
  obtain ⟨aX, cX, rfl, hcX, hXr⟩ := id hX
  obtain ⟨pp, hpp⟩ : ∃ pp : Int, 2 ^ s = pp := ⟨_, rfl⟩
  have hp2 := p2 s hs
  rw [hpp] at hp2
  obtain ⟨p1, p3⟩ := hp2
  have HP : Hid ((2 : Int) ^ s = pp) := hpp
  have hfin : X.take X.length = X := List.take_length
  have HF : Hid (X.take X.length = X) := hfin
  obtain ⟨n, hn⟩ : ∃ n, X.length = n := ⟨_, rfl⟩
  have HN : Hid (X.length = n) := hn
  rw [hn] at lX hcX ⊢
  clear hfin hX
  go_enter Tryz.func123, Tryz.ntmps123
  go_wp2_with (at_make; refine wpList_mk _ rfl _ _ 24 rfl .u32 38 4 Tryz.und32 Tryz.info32 _ (n + 1) rfl rfl (by omega) (by omega) (by omega) ?_; intro w1 hA1 hB1)
  go_loopw [6, 14] (fun cv iv wr => ∃ (Z : List Int) (c : Int), iv = .int .i64 Z.length ∧ cv = .int .u64 c ∧ Z.length ≤ n ∧ 0 ≤ c ∧ c < pp ∧ Arr .u32 38 wr w.heap.size (Z ++ List.replicate (n + 1 - Z.length) 0) ∧ U32s Z ∧ Below w.heap.size w wr ∧ val Z + 4294967296 ^ Z.length * c = val (X.take Z.length) * pp)
      (fun _ iv _ => n - (intOf iv).toNat)
  case atStart => exact ⟨[], 0, rfl, rfl, Nat.zero_le _, Int.le_refl _, by omega, by simpa using hA1, U32s.nil, hB1, by simp [val]⟩
  case round =>
    clear hA1 hB1
    obtain ⟨Z, c, rfl, rfl, hk, hc0, hc1, hA, huZ, hB, hv⟩ := hrel
    by_cases hlt : Z.length < n
    · rcases hXr with rfl | ⟨b, o, rfl, hb, hr⟩
      · simp at hn; omega
      obtain ⟨x, hx⟩ : ∃ x, X.getD Z.length 0 = x := ⟨_, rfl⟩
      have ux : U32 x := hx ▸ uX.at _
      have hcx : wr.cell? ⟨b, o + Z.length, none⟩ = some (.int .u32 x) := by rw [← hx]; exact (below_rd hB hb hr) _ (by omega)
      obtain ⟨y, hcy⟩ : ∃ y, wr.cell? ⟨w.heap.size, Z.length, none⟩ = some (.int .u32 y) := ⟨_, hA.cell _ (by simp; omega)⟩
      have hfz : wr.frozen? ⟨w.heap.size, Z.length, none⟩ = false := hA.frozen _
      have hor := or_up s c x hs hc0 (by rw [hpp]; exact hc1) ux
      obtain ⟨m0, m1⟩ := mul_p ux p1 p3
      obtain ⟨t, ht⟩ : ∃ t, x * pp = t := ⟨_, rfl⟩
      rw [hpp, ht] at hor
      rw [ht] at m0 m1
      obtain ⟨x0, x1⟩ := ux
      have HT : Hid (x * pp = t) := ht
      obtain ⟨k, hkz⟩ : ∃ k, Z.length = k := ⟨_, rfl⟩
      have HH : Hid (X.getD Z.length 0 = x ∧ Arr .u32 38 wr w.heap.size (Z ++ List.replicate (n + 1 - Z.length) 0) ∧ U32s Z ∧ Below w.heap.size w wr ∧ val Z + 4294967296 ^ Z.length * c = val (X.take Z.length) * pp ∧ Z.length = k) := ⟨hx, hA, huZ, hB, hv, hkz⟩
      have hshl : x * 2 ^ s = t := by rw [hpp]; exact ht
      rw [hkz] at hcx hcy hfz hlt hk ⊢
      clear hx hA huZ hB hv hkz hr hn ht hpp
      go_wp2
      go_roundw
      case rel =>
        obtain ⟨hx, hA, huZ, hB, hv, rfl⟩ := HH.out
        have hnn := HN.out
        refine ⟨Z ++ [(c + t) % 4294967296], (c + t) / 4294967296, by simp, rfl, by simp; omega, by omega, by omega, ?_, huZ.append (u1' (by omega) (by omega)), hB.setCell (Nat.le_refl _) _, ?_⟩
        · have := hA.set Z.length ((c + t) % 4294967296)
          rw [show n + 1 - Z.length = (n - Z.length) + 1 by omega, tail_set] at this
          simpa [show n + 1 - (Z.length + 1) = n - Z.length by omega] using this
        · rw [val_snoc, List.length_append, List.length_singleton, pow_succ32, val_take_succ _ _ (by omega), hx]
          exact up_step _ c x pp _ _ _ (by rw [HT.out]) hv
      case measure => simp [intOf]; omega
    · obtain ⟨y, hcy⟩ : ∃ y, wr.cell? ⟨w.heap.size, n, none⟩ = some (.int .u32 y) := ⟨_, hA.cell _ (by simp; omega)⟩
      have hfz : wr.frozen? ⟨w.heap.size, n, none⟩ = false := hA.frozen _
      have hk2 : Z.length = n := by omega
      have HH : Hid (Arr .u32 38 wr w.heap.size (Z ++ List.replicate (n + 1 - Z.length) 0) ∧ U32s Z ∧ Below w.heap.size w wr ∧ val Z + 4294967296 ^ Z.length * c = val (X.take Z.length) * pp ∧ Z.length = n) := ⟨hA, huZ, hB, hv, hk2⟩
      clear hA huZ hB hv hk2 hpp hn
      go_wp2
      go_ret
      obtain ⟨hA, huZ, hB, hv, hk2⟩ := HH.out
      have hnn := HN.out
      refine ⟨Z ++ [c], rfl, ?_, huZ.append (u1' (by omega) (by omega)), by simp; omega, ?_, hB.setCell (Nat.le_refl _) _⟩
      · have := hA.set Z.length c
        rw [show n + 1 - Z.length = 0 + 1 by omega, tail_set, hk2] at this
        simpa using this
      · rw [val_snoc, hv, hk2, ← hnn, HF.out, HP.out]

/-! ### shiftDown -/
theorem and_low (s : Nat) (x : Int) (hs : s < 32) (h0 : 0 ≤ x) (h1 : x < 18446744073709551616) : bits .and .u64 x (2 ^ s - 1) = x % 2 ^ s :=
  bits_mask .u64 64 (by decide) wraps_u64 s (by omega) x h0 (by simpa using h1)
theorem down_step (vS vX h a T q r p : Int) (hT : T = h * 4294967296 + a) (hqr : T = q * p + r) (ih : vX = vS * p + h) : a + 4294967296 * vX = (q + 4294967296 * vS) * p + r := quo_step vS vX h p a q r T hT hqr ih

set_option maxHeartbeats 2000000 in
theorem shiftDown_any (X : List Int) (s : Nat) (hs : s < 32) (ba c : Nat) (w : World) (hA : Arr .u32 38 w ba X) (uX : U32s X) (lX : X.length ≤ 1099511627776) :
    Calls Tryz.prog 125 #[.slice (some ⟨ba, 0, none⟩) X.length c, .int .i64 s] w fun e w' => ∃ S, e = .returned (.tuple #[]) ∧ Arr .u32 38 w' ba S ∧ U32s S ∧ S.length = X.length ∧ val S = val X / 2 ^ s ∧ Upd w w' ba := by
  obtain ⟨pp, hpp⟩ : ∃ pp : Int, 2 ^ s = pp := ⟨_, rfl⟩
  have hp2 := p2 s hs
  rw [hpp] at hp2
  obtain ⟨p1, p3⟩ := hp2
  have HP : Hid ((2 : Int) ^ s = pp) := hpp
  obtain ⟨n, hn⟩ : ∃ n, X.length = n := ⟨_, rfl⟩
  have HN : Hid (X.length = n) := hn
  rw [hn] at lX ⊢
  go_enter Tryz.func125, Tryz.ntmps125
  go_wp2
  go_loopw [4, 10] (fun hv iv wr => ∃ (k : Nat) (h : Int) (S : List Int), iv = .int .i64 k ∧ hv = .int .u64 h ∧ k ≤ n ∧ 0 ≤ h ∧ h < pp ∧ Arr .u32 38 wr ba S ∧ U32s S ∧ S.length = n ∧ Upd w wr ba ∧ S.take (n - k) = X.take (n - k) ∧ val (X.drop (n - k)) = val (S.drop (n - k)) * pp + h)
      (fun _ iv _ => n - (intOf iv).toNat)
  case atStart => exact ⟨0, 0, X, rfl, rfl, Nat.zero_le _, Int.le_refl _, by omega, hA, uX, hn, Upd.refl _ _, rfl, by rw [Nat.sub_zero, ← hn]; simp [val]⟩
  case round =>
    clear hA
    obtain ⟨k, h, S, rfl, rfl, hk, hh0, hh1, hA, huS, hlS, hU, htk, hv⟩ := hrel
    by_cases hlt : k < n
    · obtain ⟨m, hm⟩ : ∃ m, n - 1 - k = m := ⟨_, rfl⟩
      obtain ⟨a, ha⟩ : ∃ a, S.getD m 0 = a := ⟨_, rfl⟩
      have ua : U32 a := ha ▸ huS.at m
      have hca : wr.cell? ⟨ba, m, none⟩ = some (.int .u32 a) := by rw [← ha]; exact hA.cell m (by omega)
      have hfz : wr.frozen? ⟨ba, m, none⟩ = false := hA.frozen m
      have hmi : ((n : Int) - 1 - k) = m := by omega
      obtain ⟨a0, a1⟩ := ua
      have hor := or32 h a hh0 (by omega) a0 a1
      obtain ⟨T, hT⟩ : ∃ T, h * 4294967296 + a = T := ⟨_, rfl⟩
      have hT0 : 0 ≤ T := by omega
      have hT1 : T < 18446744073709551616 := by omega
      have hTp : T < 4294967296 * pp := by omega
      have hand := and_low s T hs hT0 hT1
      rw [hpp] at hand
      rw [hT] at hor
      have hq0 : 0 ≤ T / pp := Int.ediv_nonneg hT0 (by omega)
      have hq1 : T / pp < 4294967296 := Int.ediv_lt_of_lt_mul (by omega) hTp
      have hr0 : 0 ≤ T % pp := Int.emod_nonneg _ (by omega)
      have hr1 : T % pp < pp := Int.emod_lt_of_pos _ (by omega)
      have hdm : T = T / pp * pp + T % pp := by have := Int.mul_ediv_add_emod T pp; rw [Int.mul_comm] at this; omega
      have HH : Hid (S.getD m 0 = a ∧ Arr .u32 38 wr ba S ∧ U32s S ∧ S.length = n ∧ Upd w wr ba ∧ S.take (n - k) = X.take (n - k) ∧ val (X.drop (n - k)) = val (S.drop (n - k)) * pp + h ∧ n - 1 - k = m ∧ T = T / pp * pp + T % pp ∧ h * 4294967296 + a = T) := ⟨ha, hA, huS, hlS, hU, htk, hv, hm, hdm, hT⟩
      clear hA huS hlS hU htk hv ha hm hn hdm hT
      go_wp2
      go_roundw
      case rel =>
        obtain ⟨ha, hA, huS, hlS, hU, htk, hv, hm, hdm, hT⟩ := HH.out
        have hnn := HN.out
        have e1 : n - (k + 1) = m := by omega
        have e2 : n - k = m + 1 := by omega
        rw [e2] at htk hv
        have hXm : X.getD m 0 = a := by
          have := congrArg (fun l : List Int => l.getD m 0) htk
          simp only [List.getD_eq_getElem?_getD, List.getElem?_take, if_pos (Nat.lt_succ_self m)] at this
          rw [List.getD_eq_getElem?_getD, ← this, ← List.getD_eq_getElem?_getD]; exact ha
        refine ⟨k + 1, T % pp, S.set m (T / pp), by go_num, rfl, by omega, hr0, hr1, hA.set _ _, huS.set _ ⟨hq0, hq1⟩, by simpa using hlS, hU.trans (Upd.set _ _ _ _), ?_, ?_⟩
        · rw [e1, List.take_set_of_le (Nat.le_refl _)]
          have := congrArg (List.take m) htk
          simpa [List.take_take] using this
        · rw [e1, drop_set_self (by omega), List.drop_eq_getElem_cons (show m < X.length by omega)]
          have e3 : X[m]'(by omega) = a := by rw [← hXm]; simp [show m < X.length by omega]
          rw [e3]
          simp only [val]
          exact down_step _ _ h a T _ _ pp hT.symm hdm hv
      case measure => simp [intOf]; omega
    · have HH : Hid (Arr .u32 38 wr ba S ∧ U32s S ∧ S.length = n ∧ Upd w wr ba ∧ val (X.drop (n - k)) = val (S.drop (n - k)) * pp + h ∧ k = n) := ⟨hA, huS, hlS, hU, hv, by omega⟩
      clear hA huS hlS hU htk hv hn
      go_wp2
      go_end0
      obtain ⟨hA, huS, hlS, hU, hv, hkn⟩ := HH.out
      rw [hkn, Nat.sub_self, List.drop_zero, List.drop_zero] at hv
      refine ⟨S, rfl, hA, huS, hlS, ?_, hU⟩
      rw [HP.out, hv, Int.add_comm, Int.add_mul_ediv_right _ _ (by omega), Int.ediv_eq_zero_of_lt hh0 hh1]; omega

/-! ### guess -/
/-- t is the quotient of the highest three limbs by the highest two, or the greatest limb. -/
def Guess (U3 V2 t : Int) : Prop := 0 ≤ t ∧ t < 4294967296 ∧ t * V2 ≤ U3 ∧ (U3 < (t + 1) * V2 ∨ t = 4294967295)

/-- What holds between two rounds of guess. -/
def GI (d1 d0 T l0 t o : Int) : Prop := 0 ≤ t ∧ 0 ≤ o ∧ o < 8589934592 ∧ d1 * t + o = T ∧ (T * 4294967296 + l0 < (t + 1) * (d1 * 4294967296 + d0) ∨ 4294967295 ≤ t)
theorem guess_start {T l0 d0 d1 : Int} (hT : 0 ≤ T) (hd : 0 < d1) (hl : l0 < 4294967296) (h0 : 0 ≤ d0) : T * 4294967296 + l0 < (T / d1 + 1) * (d1 * 4294967296 + d0) := by
  have h1 := Int.mul_ediv_add_emod T d1
  have h2 := Int.emod_lt_of_pos T hd
  have h3 : 0 ≤ T / d1 := Int.ediv_nonneg hT (by omega)
  obtain ⟨q, hq⟩ : ∃ q, T / d1 = q := ⟨_, rfl⟩
  obtain ⟨r, hr⟩ : ∃ r, T % d1 = r := ⟨_, rfl⟩
  rw [hq, hr] at h1
  rw [hr] at h2
  rw [hq] at h3 ⊢
  have h4 : 0 ≤ (q + 1) * d0 := Int.mul_nonneg (by omega) h0
  have h5 : (q + 1) * (d1 * 4294967296 + d0) = (d1 * q + d1) * 4294967296 + (q + 1) * d0 := by grind
  rw [h5]; omega
theorem guess_fin {T t o l0 d0 d1 : Int} (h : d1 * t + o = T) (h2 : t * d0 ≤ o * 4294967296 + l0) : t * (d1 * 4294967296 + d0) ≤ T * 4294967296 + l0 := by
  have h5 : t * (d1 * 4294967296 + d0) = (d1 * t) * 4294967296 + t * d0 := by grind
  rw [h5]; omega
theorem guess_dec {T t o l0 d0 d1 : Int} (h : d1 * t + o = T) (h2 : o * 4294967296 + l0 < t * d0) : T * 4294967296 + l0 < (t - 1 + 1) * (d1 * 4294967296 + d0) := by
  have h5 : (t - 1 + 1) * (d1 * 4294967296 + d0) = (d1 * t) * 4294967296 + t * d0 := by grind
  rw [h5]; omega

set_option maxHeartbeats 4000000 in
theorem guess_any (l0 l1 l2 d0 d1 : Int) (ba oa bd od c c' : Nat) (w : World) (ul0 : U32 l0) (ul1 : U32 l1) (ul2 : U32 l2) (ud0 : U32 d0) (ud1 : U32 d1) (hd : 2147483648 ≤ d1) (htop : l2 * 4294967296 + l1 ≤ d1 * 4294967296 + d0)
    (c0 : w.cell? ⟨ba, oa, none⟩ = some (.int .u32 l0)) (c1 : w.cell? ⟨ba, oa + 1, none⟩ = some (.int .u32 l1)) (c2 : w.cell? ⟨ba, oa + 2, none⟩ = some (.int .u32 l2))
    (e0 : w.cell? ⟨bd, od, none⟩ = some (.int .u32 d0)) (e1 : w.cell? ⟨bd, od + 1, none⟩ = some (.int .u32 d1)) :
    Calls Tryz.prog 126 #[.slice (some ⟨ba, oa, none⟩) 3 c, .slice (some ⟨bd, od, none⟩) 2 c'] w fun e w' => ∃ t, e = .returned (.int .u32 t) ∧ Guess ((l2 * 4294967296 + l1) * 4294967296 + l0) (d1 * 4294967296 + d0) t ∧ ∃ n, w' = w.drewN n := by
  obtain ⟨a0, a1⟩ := ul0; obtain ⟨b0, b1⟩ := ul1; obtain ⟨f0, f1⟩ := ul2; obtain ⟨g0, g1⟩ := ud0; obtain ⟨k0, k1⟩ := ud1
  have hor := or32 l2 l1 f0 f1 b0 b1
  obtain ⟨T, hT⟩ : ∃ T, l2 * 4294967296 + l1 = T := ⟨_, rfl⟩
  rw [hT] at hor htop
  have hT0 : 0 ≤ T := by omega
  have hT1 : T < 18446744073709551616 := by omega
  have hq0 : 0 ≤ T / d1 := Int.ediv_nonneg hT0 (by omega)
  have hr0 : 0 ≤ T % d1 := Int.emod_nonneg _ (by omega)
  have hr1 : T % d1 < d1 := Int.emod_lt_of_pos _ (by omega)
  have hqr := Int.mul_ediv_add_emod T d1
  have hq2 : T / d1 ≤ T := Int.ediv_le_self _ hT0
  have HH : Hid (l2 * 4294967296 + l1 = T ∧ d1 * (T / d1) + T % d1 = T) := ⟨hT, hqr⟩
  rw [hT]
  clear hT hqr
  have hd10 : d1 ≠ 0 := by omega
  go_enter Tryz.func126, Tryz.ntmps126
  go_wp2
  go_quiet (fail)
  go_wp2
  go_quiet (fail)
  go_wp2
  go_quiet (fail)
  go_wp2
  have hstart := guess_start (l0 := l0) (d0 := d0) hT0 (by omega : 0 < d1) a1 g0
  go_loop [8, 9] (fun tv ov => ∃ t o : Int, tv = .int .u64 t ∧ ov = .int .u64 o ∧ GI d1 d0 T l0 t o)
    (fun tv _ => (intOf tv).toNat)
  case atStart => exact ⟨_, _, rfl, rfl, hq0, hr0, by omega, HH.out.2, .inl hstart⟩
  case round =>
    clear hstart hq0 hr0 hr1 hq2
    obtain ⟨t, o, rfl, rfl, t0, o0, o1, heq, hi⟩ := hrel
    have htT : t ≤ T := by
      have : 1 * t ≤ d1 * t := Int.mul_le_mul_of_nonneg_right (by omega) t0
      omega
    have hbig : 4294967296 ≤ t → o < 4294967296 := by
      intro h
      have : d1 * 4294967296 ≤ d1 * t := Int.mul_le_mul_of_nonneg_left h (by omega)
      omega
    by_cases h1 : 4294967296 ≤ o
    · have ht : t < 4294967296 := by apply Classical.byContradiction; intro h; have := hbig (by omega); omega
      have hf := guess_fin heq (by have := mul_u32 ⟨t0, ht⟩ ⟨g0, g1⟩; omega : t * d0 ≤ o * 4294967296 + l0)
      have HF : Hid (Guess (T * 4294967296 + l0) (d1 * 4294967296 + d0) t) := ⟨t0, ht, hf, by rcases hi with h | h; exact .inl h; exact .inr (by omega)⟩
      have hno : ¬ o < 4294967296 := by omega
      clear heq hi hbig hf h1
      go_wp2
      go_ret
      exact ⟨t, rfl, HF.out, _, rfl⟩
    · have h1' : o < 4294967296 := by omega
      by_cases h2 : 4294967296 ≤ t
      · have HE : Hid (GI d1 d0 T l0 (t - 1) (o + d1)) := ⟨by omega, by omega, by omega, by rw [Int.mul_sub]; omega, .inr (by omega)⟩
        clear heq hi hbig h1
        go_wp2
        go_round
        case rel => first | exact HE.out | exact ⟨t - 1, o + d1, rfl, rfl, HE.out⟩
        case measure => simp [intOf]; omega
      · have ht : t < 4294967296 := by omega
        obtain ⟨p, hp⟩ : ∃ p, t * d0 = p := ⟨_, rfl⟩
        have hpb := mul_u32 ⟨t0, ht⟩ ⟨g0, g1⟩
        rw [hp] at hpb
        obtain ⟨pb0, pb1⟩ := hpb
        have hor2 := or32 o l0 o0 h1' a0 a1
        by_cases h3 : o * 4294967296 + l0 < p
        · have hdec := guess_dec (l0 := l0) heq (by rw [hp]; exact h3)
          have ht1 : 1 ≤ t := by
            apply Classical.byContradiction; intro h
            have : t = 0 := by omega
            subst this; simp at hp; omega
          have HE : Hid (GI d1 d0 T l0 (t - 1) (o + d1)) := ⟨by omega, by omega, by omega, by rw [Int.mul_sub]; omega, .inl hdec⟩
          clear heq hi hbig h1 hdec
          go_wp2
          go_round
          case rel => first | exact HE.out | exact ⟨t - 1, o + d1, rfl, rfl, HE.out⟩
          case measure => simp [intOf]; omega
        · have hf := guess_fin heq (by rw [hp]; omega : t * d0 ≤ o * 4294967296 + l0)
          have HF : Hid (Guess (T * 4294967296 + l0) (d1 * 4294967296 + d0) t) := ⟨t0, ht, hf, by rcases hi with h | h; exact .inl h; exact .inr (by omega)⟩
          clear heq hi hbig h1 hf
          go_wp2
          go_ret
          exact ⟨t, rfl, HF.out, _, rfl⟩
end Go.Proofs.YtjmiaakfdclfjaaGreatDoor.Nt
/-
  The walk of divideStep.
-/
namespace Go.Proofs.YtjmiaakfdclfjaaGreatDoor.Nt
open Go.RowKit

/-- The highest limbs of a list, and the rest. -/
theorem val_split (X : List Int) (m : Nat) (h : m ≤ X.length) : val X = val (X.take m) + 4294967296 ^ m * val (X.drop m) := by
  conv => lhs; rw [← List.take_append_drop m X]
  rw [val_append, List.length_take, Nat.min_eq_left h]
theorem drop2 {X : List Int} {m : Nat} (h : X.length = m + 2) : X.drop m = [X.getD m 0, X.getD (m + 1) 0] := by
  rw [List.drop_eq_getElem_cons (by omega), List.drop_eq_getElem_cons (by omega), List.drop_of_length_le (by omega)]
  simp [show m < X.length by omega, show m + 1 < X.length by omega]
theorem drop3 {X : List Int} {m : Nat} (h : X.length = m + 3) : X.drop m = [X.getD m 0, X.getD (m + 1) 0, X.getD (m + 2) 0] := by
  rw [List.drop_eq_getElem_cons (by omega), List.drop_eq_getElem_cons (by omega), List.drop_eq_getElem_cons (by omega), List.drop_of_length_le (by omega)]
  simp [show m < X.length by omega, show m + 1 < X.length by omega, show m + 2 < X.length by omega]

/-- The guess is the quotient, or one too great. -/
theorem guess_near {u v P U3 V2 U V t d1 d0 : Int} (hP : 0 < P) (hu0 : 0 ≤ u) (hu : u < P) (hv0 : 0 ≤ v) (hv : v < P) (hU : U = u + P * U3) (hV : V = v + P * V2) (hUV : U < V * 4294967296) (hg : Guess U3 V2 t) (hd : V2 = d1 * 4294967296 + d0) (h1 : 1 ≤ d1) (h0 : 0 ≤ d0) :
    U < (t + 1) * V ∧ t * V < U + V := by
  obtain ⟨t0, t1, t2, t3⟩ := hg
  have hV2 : 4294967296 ≤ V2 := by omega
  have hPV : P * 4294967296 ≤ P * V2 := Int.mul_le_mul_of_nonneg_left hV2 (by omega)
  constructor
  · rcases t3 with h | h
    · have h2 : P * (U3 + 1) ≤ P * ((t + 1) * V2) := Int.mul_le_mul_of_nonneg_left (by omega) (by omega)
      have h3 : 0 ≤ (t + 1) * v := Int.mul_nonneg (by omega) hv0
      have h4 : (t + 1) * V = (t + 1) * v + P * ((t + 1) * V2) := by rw [hV]; grind
      have h5 : P * (U3 + 1) = P * U3 + P := by rw [Int.mul_add, Int.mul_one]
      omega
    · subst h; have : (4294967295 + 1 : Int) * V = V * 4294967296 := by rw [Int.mul_comm]; rfl
      omega
  · have h2 : P * (t * V2) ≤ P * U3 := Int.mul_le_mul_of_nonneg_left t2 (by omega)
    have h3 : t * V = t * v + P * (t * V2) := by rw [hV]; grind
    have h4 : t * v ≤ t * P := Int.mul_le_mul_of_nonneg_left (by omega) t0
    have h5 : t * P ≤ 4294967295 * P := Int.mul_le_mul_of_nonneg_right (by omega) (by omega)
    omega
theorem top_le {u v P U3 V2 U V T l0 : Int} (hP : 0 < P) (hu0 : 0 ≤ u) (hv : v < P) (hU : U = u + P * U3) (hV : V = v + P * V2) (hUV : U < V * 4294967296) (hT : U3 = T * 4294967296 + l0) (hl : 0 ≤ l0) : T ≤ V2 := by
  apply Classical.byContradiction; intro h
  have h1 : P * (V2 + 1) ≤ P * T := Int.mul_le_mul_of_nonneg_left (by omega) (by omega)
  have h2 : P * (V2 + 1) = P * V2 + P := by rw [Int.mul_add, Int.mul_one]
  have h3 : P * U3 = P * T * 4294967296 + P * l0 := by rw [hT]; grind
  have h4 : 0 ≤ P * l0 := Int.mul_nonneg (by omega) hl
  omega
theorem step_low {U V t R : Int} (hV : 0 < V) (hR : R = U - t * V) (h0 : 0 ≤ R) (h1 : R < V) : U / V = t ∧ U % V = R := by
  have e : U = R + t * V := by omega
  constructor
  · rw [e, Int.add_mul_ediv_right _ _ (by omega), Int.ediv_eq_zero_of_lt h0 h1]; omega
  · rw [e, Int.add_mul_emod_self_right, Int.emod_eq_of_lt h0 h1]
/-- What is still to be taken is given back once: the highest limb is 0 then. -/
theorem give_back {z P k W : Int} (z0 : 0 ≤ z) (z1 : z < P) (hW : W = z + P * k) (w0 : 0 ≤ W) (w1 : W < P) : k = 0 := by
  have hP : 0 < P := by omega
  apply Classical.byContradiction; intro h
  rcases Int.lt_or_gt_of_ne h with h | h
  · have : P * k ≤ P * (-1) := Int.mul_le_mul_of_nonneg_left (by omega) (by omega)
    omega
  · have : P * 1 ≤ P * k := Int.mul_le_mul_of_nonneg_left (by omega) (by omega)
    omega

theorem last_set (A Z : List Int) (x : Int) (m : Nat) {i : Nat} {R : List Int} (hi : i ≤ A.length) (hZ : Z.length = m + 2) : (A.take i ++ (Z ++ [x]) ++ R).set (i + (m + 2)) 0 = A.take i ++ (Z ++ [0]) ++ R := by
  have h1 : (A.take i).length = i := by simp; omega
  rw [List.append_assoc, List.set_append_right _ _ (by omega), h1, Nat.add_sub_cancel_left, List.append_assoc, List.set_append_right _ _ (by omega), hZ, Nat.sub_self]
  simp

set_option maxHeartbeats 4000000 in
theorem divideStep_any (A D : List Int) (ba i bd od c c' m : Nat) (w : World) (hA : Arr .u32 38 w ba A) (huA : U32s A) (hD : Rd .u32 w bd od D) (hbd : bd < w.heap.size) (hne : bd ≠ ba) (uD : U32s D) (lD : D.length = m + 2) (hfit : i + (m + 3) ≤ A.length) (hc : m + 3 ≤ c) (hc' : m + 2 ≤ c')
    (lm : m ≤ 1073741824) (hd1 : 2147483648 ≤ D.getD (m + 1) 0) (hUV : val ((A.drop i).take (m + 3)) < val D * 4294967296) :
    Calls Tryz.prog 124 #[.slice (some ⟨ba, i, none⟩) (m + 3) c, .slice (some ⟨bd, od, none⟩) (m + 2) c'] w fun e w' =>
      ∃ Z, e = .returned (.int .u32 (val ((A.drop i).take (m + 3)) / val D)) ∧ Z.length = m + 3 ∧ U32s Z ∧ val Z = val ((A.drop i).take (m + 3)) % val D ∧ Arr .u32 38 w' ba (A.take i ++ Z ++ A.drop (i + Z.length)) ∧ Upd w w' ba := by
  obtain ⟨X, hX⟩ : ∃ X, (A.drop i).take (m + 3) = X := ⟨_, rfl⟩
  have lX : X.length = m + 3 := by rw [← hX]; simp; omega
  have uX : U32s X := by rw [← hX]; exact (huA.drop i).take _
  have gX : ∀ j, j < m + 3 → X.getD j 0 = A.getD (i + j) 0 := by
    intro j hj; rw [← hX, List.getD_eq_getElem?_getD, List.getElem?_take, if_pos hj, List.getElem?_drop, ← List.getD_eq_getElem?_getD]
  rw [hX] at hUV ⊢
  obtain ⟨l0, h0⟩ : ∃ l, X.getD m 0 = l := ⟨_, rfl⟩
  obtain ⟨l1, h1⟩ : ∃ l, X.getD (m + 1) 0 = l := ⟨_, rfl⟩
  obtain ⟨l2, h2⟩ : ∃ l, X.getD (m + 2) 0 = l := ⟨_, rfl⟩
  obtain ⟨d0, g0⟩ : ∃ l, D.getD m 0 = l := ⟨_, rfl⟩
  obtain ⟨d1, g1⟩ : ∃ l, D.getD (m + 1) 0 = l := ⟨_, rfl⟩
  have k0 : U32 l0 := h0 ▸ uX.at m
  have k1 : U32 l1 := h1 ▸ uX.at _
  have k2 : U32 l2 := h2 ▸ uX.at _
  have j0 : U32 d0 := g0 ▸ uD.at m
  have j1 : U32 d1 := g1 ▸ uD.at _
  rw [g1] at hd1
  have ca : ∀ j, j < m + 3 → w.cell? ⟨ba, i + j, none⟩ = some (.int .u32 (X.getD j 0)) := by
    intro j hj; rw [gX j hj]; exact hA.cell _ (by omega)
  have ca0 := ca m (by omega); rw [h0] at ca0
  have ca1 := ca (m + 1) (by omega); rw [h1, ← Nat.add_assoc] at ca1
  have ca2 := ca (m + 2) (by omega); rw [h2, ← Nat.add_assoc] at ca2
  have cd0 := hD m (by omega); rw [g0] at cd0
  have cd1 := hD (m + 1) (by omega); rw [g1, ← Nat.add_assoc] at cd1
  have hP := pow_pos32 m
  have sU := val_split X m (by omega)
  have sV := val_split D m (by omega)
  rw [drop3 lX, h0, h1, h2] at sU
  rw [drop2 lD, g0, g1] at sV
  have eU : val [l0, l1, l2] = (l2 * 4294967296 + l1) * 4294967296 + l0 := by simp only [val]; omega
  have eV : val [d0, d1] = d1 * 4294967296 + d0 := by simp only [val]; omega
  rw [eU] at sU
  rw [eV] at sV
  have u0 := val_nonneg (uX.take m); have u1 := val_lt (uX.take m)
  have v0 := val_nonneg (uD.take m); have v1 := val_lt (uD.take m)
  rw [List.length_take, Nat.min_eq_left (by omega)] at u1 v1
  have htop := top_le hP u0 v1 sU sV hUV rfl k0.1
  have hnear := fun t (hg : Guess ((l2 * 4294967296 + l1) * 4294967296 + l0) (d1 * 4294967296 + d0) t) => guess_near hP u0 u1 v0 v1 sU sV hUV hg rfl (by omega) j0.1
  have hVpos : 0 < val D := by
    have := Int.mul_nonneg (Int.le_of_lt hP) (show 0 ≤ d1 * 4294967296 + d0 - 1 by have := j0.1; omega)
    rw [Int.mul_sub, Int.mul_one] at this; omega
  have hVlt := val_lt uD
  rw [lD] at hVlt
  have hguess := fun (q : Nat) => guess_any l0 l1 l2 d0 d1 ba (i + m) bd (od + m) (c - m) (c' - m) (w.drewN q) k0 k1 k2 j0 j1 hd1 htop ca0 ca1 ca2 cd0 cd1
  -- the low limbs, and the highest
  have sU2 := val_split X (m + 2) (by omega)
  have e2 : X.drop (m + 2) = [l2] := by
    rw [List.drop_eq_getElem_cons (by omega), List.drop_of_length_le (by omega)]
    simp [← h2, show m + 2 < X.length by omega]
  rw [e2] at sU2
  have e3 : val [l2] = l2 := by simp [val]
  rw [e3] at sU2
  have hXt : ((A.drop i).take (m + 2)) = X.take (m + 2) := by rw [← hX, List.take_take, Nat.min_eq_left (by omega)]
  have hslD : ∀ q, Sl .u32 (w.drewN q) (.slice (some ⟨bd, od, none⟩) (m + 2) c') D := fun q => ⟨_, _, by rw [lD], by omega, .inr ⟨bd, od, rfl, hbd, hD⟩⟩
  have htake := fun (q : Nat) (t : Int) (ut : U32 t) => takeTimes_any A D t ba i (m + 3) c (.slice (some ⟨bd, od, none⟩) (m + 2) c') (w.drewN q) hA huA ut uD (hslD q) (by intro b o n' c'' _ h; cases h; exact hne) (by omega) (by omega) (by omega)
  rw [lD] at htake
  have htake2 : ∀ (q : Nat) (t : Int), U32 t → Calls Tryz.prog 127 #[.slice (some ⟨ba, i, none⟩) (m + 3) c, .slice (some ⟨bd, od, none⟩) (m + 2) c', .int .u32 t] (w.drewN q) fun e w' =>
      ∃ Z1 carry, e = .returned (.int .u32 carry) ∧ 0 ≤ carry ∧ carry < 4294967296 ∧ w'.cell? ⟨ba, i + (m + 2), none⟩ = some (.int .u32 l2) ∧ w'.frozen? ⟨ba, i + (m + 2), none⟩ = false ∧
        Hid (Z1.length = m + 2 ∧ U32s Z1 ∧ Arr .u32 38 w' ba (A.take i ++ Z1 ++ A.drop (i + Z1.length)) ∧ Upd w w' ba ∧ val Z1 + t * val D = val (X.take (m + 2)) + 4294967296 ^ (m + 2) * carry) := by
    intro q t ut
    refine (htake q t ut).mono ?_
    rintro e w' ⟨Z1, carry, rfl, hcr, uZ, lZ, hA', hU', heq⟩
    have hl2 : (A.take i ++ Z1 ++ A.drop (i + Z1.length)).getD (i + (m + 2)) 0 = l2 := by rw [← lZ, mid_get, lZ, ← gX (m + 2) (by omega), h2]
    rw [hXt] at heq
    exact ⟨Z1, carry, rfl, hcr.1, hcr.2, by rw [hA'.cell _ (by rw [mid_len _ _ _ (by omega)]; omega), hl2], hA'.frozen _, show _ ∧ _ from ⟨lZ, uZ, hA', (Upd.drewN (Upd.refl w ba) q).trans hU', heq⟩⟩
  have HH : Hid ((A.drop i).take (m + 3) = X ∧ val X = val (X.take (m + 2)) + 4294967296 ^ (m + 2) * l2) := ⟨hX, sU2⟩
  have hcm : ¬ c = m := by omega
  have hwm : IntKind.i64.wrap (m : Int) = m := by rw [IntKind.wrap_i64]; omega
  have hcm' : ¬ c' = m := by omega
  clear sU sV u0 u1 v0 v1 hX gX ca eU eV e2 e3 hP htake sU2 hXt hslD
  go_enter Tryz.func124, Tryz.ntmps124
  go_upto_region 2 with (fail)
  go_cut [6] from 9 (fun s6 wc => ∃ t q, s6 = .int .u32 t ∧ Guess ((l2 * 4294967296 + l1) * 4294967296 + l0) (d1 * 4294967296 + d0) t ∧ wc = w.drewN q)
  case first =>
    go_region_with (go_at_call 126; refine (hguess _).mono ?_; rintro e w2 ⟨t, rfl, hg, n2, rfl⟩)
    all_goals
      go_wp2_with fail
      go_meet
      case rel => exact ⟨t, _, rfl, hg, rfl⟩
  case rest =>
    obtain ⟨t, q, rfl, hg, rfl⟩ := hcut
    obtain ⟨n1, n2⟩ := hnear t hg
    obtain ⟨t0, t1, _, _⟩ := hg
    have hcall := htake2 q t ⟨t0, t1⟩
    have HN : Hid (val X < (t + 1) * val D ∧ t * val D < val X + val D) := ⟨n1, n2⟩
    clear n1 n2 hnear hguess htake2 ca0 ca1 ca2 cd0 cd1 htop
    go_wp2_with fail
    refine hcall.mono ?_
    rintro e w3 ⟨Z1, carry, rfl, cr0, cr1, hc3, hf3, HZ⟩
    obtain ⟨f0, f1⟩ := k2
    clear hcall
    by_cases hbl : l2 < carry
    · have hw : IntKind.u32.wrap (l2 - carry) = l2 - carry + 4294967296 := by rw [IntKind.wrap_u32]; omega
      have hadd : ∀ q2, Calls Tryz.prog 107 #[.slice (some ⟨ba, i, none⟩) (m + 3) c, .slice (some ⟨bd, od, none⟩) (m + 2) c', .int .u32 1] ((w3.setCell ⟨ba, i + (m + 2), none⟩ (.int .u32 (l2 - carry + 4294967296))).drewN q2) fun e w' =>
          e = .returned (.int .u32 (carry - l2)) ∧ w'.cell? ⟨ba, i + (m + 2), none⟩ = some (.int .u32 (l2 - carry + 4294967296)) ∧ w'.frozen? ⟨ba, i + (m + 2), none⟩ = false ∧
            Hid (∃ Z2, Z2.length = m + 2 ∧ U32s Z2 ∧ Arr .u32 38 w' ba (A.take i ++ (Z2 ++ [l2 - carry + 4294967296]) ++ A.drop (i + (m + 3))) ∧ Upd w w' ba ∧ val Z2 = val X - (t - 1) * val D ∧ val Z2 < val D) := by
        intro q2
        obtain ⟨lZ, uZ, hA3, hU3, heq⟩ := HZ.out
        have hA4 := hA3.set (i + (m + 2)) (l2 - carry + 4294967296)
        have hZl : i + (m + 2) = i + Z1.length := by omega
        rw [hZl, mid_set _ _ _ _ (by omega), ← hZl] at hA4
        have hlen4 : (Z1 ++ [l2 - carry + 4294967296]).length = m + 3 := by simp; omega
        rw [hlen4] at hA4
        obtain ⟨A4, hA4e⟩ : ∃ A4, A.take i ++ (Z1 ++ [l2 - carry + 4294967296]) ++ A.drop (i + (m + 3)) = A4 := ⟨_, rfl⟩
        have ul : U32 (l2 - carry + 4294967296) := ⟨by omega, by omega⟩
        have uA4 : U32s A4 := by rw [← hA4e]; exact ((huA.take i).append (uZ.append (U32s.cons ul U32s.nil))).append (huA.drop _)
        have lA4 : A4.length = A.length := by rw [← hA4e]; simp; omega
        have tA4 : A4.take i = A.take i := by rw [← hA4e, List.append_assoc, List.take_append_of_le_length (by simp; omega), List.take_take, Nat.min_self]
        have dA4 : A4.drop i = Z1 ++ ([l2 - carry + 4294967296] ++ A.drop (i + (m + 3))) := by
          rw [← hA4e, List.append_assoc, List.drop_append_of_le_length (by simp; omega), List.drop_of_length_le (by simp; omega)]; simp
        have sA4 : (A4.drop i).take (m + 2) = Z1 := by rw [dA4, ← lZ, List.take_left]
        have dA5 : A4.drop (i + (m + 2)) = [l2 - carry + 4294967296] ++ A.drop (i + (m + 3)) := by rw [← List.drop_drop, dA4, ← lZ, List.drop_left]
        rw [hA4e] at hA4
        have hU4 : Upd w ((w3.setCell ⟨ba, i + (m + 2), none⟩ (.int .u32 (l2 - carry + 4294967296))).drewN q2) ba := (hU3.trans (Upd.set _ _ _ _)).drewN q2
        have hslD : Sl .u32 ((w3.setCell ⟨ba, i + (m + 2), none⟩ (.int .u32 (l2 - carry + 4294967296))).drewN q2) (.slice (some ⟨bd, od, none⟩) (m + 2) c') D :=
          ⟨_, _, by rw [lD], by omega, .inr ⟨bd, od, rfl, Nat.lt_of_lt_of_le hbd hU4.size, hU4.rd hbd hD hne⟩⟩
        refine (addTimes_any A4 D 1 ba i (m + 3) c _ _ (hA4.drewN q2) uA4 ⟨by decide, by decide⟩ uD hslD (by intro b o n' c'' _ h; cases h; exact hne) (by omega) (by omega) (by omega)).mono ?_
        rintro e w' ⟨Z2, c2, rfl, hcr, uZ2, lZ2, hA', hU', heq2⟩
        rw [lD] at lZ2 heq2
        rw [sA4] at heq2
        obtain ⟨n1, n2⟩ := HN.out
        have hX2 := HH.out.2
        have z0 := val_nonneg uZ2
        have z1 := val_lt uZ2
        rw [lZ2] at z1
        have hW : val X - (t - 1) * val D = val Z2 + 4294967296 ^ (m + 2) * (l2 - carry + c2) := by
          have e1 : (t - 1) * val D = t * val D - val D := by rw [Int.sub_mul, Int.one_mul]
          have e2 : 4294967296 ^ (m + 2) * (l2 - carry + c2) = 4294967296 ^ (m + 2) * l2 - 4294967296 ^ (m + 2) * carry + 4294967296 ^ (m + 2) * c2 := by rw [Int.mul_add, Int.mul_sub]
          rw [e1, e2]; omega
        have hWlt : val X - (t - 1) * val D < val D := by
          have e1 : (t - 1) * val D = t * val D - val D := by rw [Int.sub_mul, Int.one_mul]
          have e3 : 4294967296 ^ (m + 2) * l2 + 4294967296 ^ (m + 2) ≤ 4294967296 ^ (m + 2) * carry := by
            have := Int.mul_le_mul_of_nonneg_left (show l2 + 1 ≤ carry by omega) (Int.le_of_lt (pow_pos32 (m + 2)))
            rw [Int.mul_add, Int.mul_one] at this; exact this
          have hz1 := val_lt uZ
          rw [lZ] at hz1
          rw [e1]; omega
        have hk := give_back z0 z1 hW (by have e1 : (t - 1) * val D = t * val D - val D := by rw [Int.sub_mul, Int.one_mul]
                                          omega) (by omega)
        have hc2 : c2 = carry - l2 := by omega
        subst hc2
        have hAr : Arr .u32 38 w' ba (A.take i ++ (Z2 ++ [l2 - carry + 4294967296]) ++ A.drop (i + (m + 3))) := by
          rw [tA4, lZ2, dA5] at hA'
          simpa using hA'
        have hg : (A.take i ++ (Z2 ++ [l2 - carry + 4294967296]) ++ A.drop (i + (m + 3))).getD (i + (m + 2)) 0 = l2 - carry + 4294967296 := by
          rw [List.getD_eq_getElem?_getD, List.append_assoc, List.getElem?_append_right (by simp; omega), List.getElem?_append_left (by simp; omega), List.getElem?_append_right (by simp; omega)]
          simp [show i + (m + 2) - min i A.length - Z2.length = 0 by omega]
        rw [hk, Int.mul_zero, Int.add_zero] at hW
        exact ⟨rfl, by rw [hAr.cell _ (by simp; omega), hg], hAr.frozen _, show ∃ _, _ from ⟨Z2, lZ2, uZ2, hAr, hU4.trans hU', hW.symm, by omega⟩⟩
      have ht1 : 1 ≤ t := by
        apply Classical.byContradiction; intro h
        have : t = 0 := by omega
        subst this
        obtain ⟨lZ, uZ, _, _, heq⟩ := HZ.out
        have e3 : 4294967296 ^ (m + 2) * l2 + 4294967296 ^ (m + 2) ≤ 4294967296 ^ (m + 2) * carry := by
          have := Int.mul_le_mul_of_nonneg_left (show l2 + 1 ≤ carry by omega) (Int.le_of_lt (pow_pos32 (m + 2)))
          rw [Int.mul_add, Int.mul_one] at this; exact this
        have hz1 := val_lt uZ
        have hz0 := val_nonneg (uX.take (m + 2))
        have hl0 : 0 ≤ 4294967296 ^ (m + 2) * l2 := Int.mul_nonneg (Int.le_of_lt (pow_pos32 _)) f0
        rw [lZ] at hz1
        simp at heq
        omega
      have hw2 : IntKind.u32.wrap (l2 - carry + 4294967296 + (carry - l2)) = 0 := by rw [IntKind.wrap_u32]; omega
      obtain ⟨ln, hln⟩ : ∃ ln, l2 - carry + 4294967296 = ln := ⟨_, rfl⟩
      obtain ⟨cb, hcb⟩ : ∃ cb, carry - l2 = cb := ⟨_, rfl⟩
      rw [hln] at hw hadd hw2
      rw [hcb] at hadd hw2
      have HL : Hid (ln + cb = 4294967296 ∧ 0 ≤ cb ∧ 0 ≤ ln) := ⟨by omega, by omega, by omega⟩
      clear hln hcb
      go_wp2
      have hm0 : (0 : Int) ≤ (m : Int) + 2 := by omega
      have hmt : ((m : Int) + 2).toNat = m + 2 := by omega
      go_region_with (go_at_call 107; refine (hadd _).mono ?_; rintro e w5 ⟨rfl, hc5, hf5, H5⟩)
      all_goals
        go_wp2
        go_ret
        obtain ⟨Z2, lZ2, uZ2, hA5, hU5, hv2, hv3⟩ := H5.out
        obtain ⟨q1, q2⟩ := step_low hVpos hv2 (val_nonneg uZ2) hv3
        refine ⟨Z2 ++ [0], ?_, by simp; omega, uZ2.append (u1' (by decide) (by decide)), ?_, ?_, hU5.trans (Upd.set _ _ _ _)⟩
        · rw [q1]; rfl
        · rw [val_snoc, q2]; simp
        · have := hA5.set (i + (m + 2)) 0
          rw [last_set _ _ _ _ (by omega) lZ2] at this
          have e : (Z2 ++ [(0 : Int)]).length = m + 3 := by simp; omega
          rw [e]; exact this
    · have hnb : carry ≤ l2 := by omega
      go_wp2
      go_ret
      obtain ⟨lZ, uZ, hA3, hU3, heq⟩ := HZ.out
      obtain ⟨n1, n2⟩ := HN.out
      have hX2 := HH.out.2
      have hR : val (Z1 ++ [l2 - carry]) = val X - t * val D := by
        rw [val_snoc, lZ, Int.mul_sub]; omega
      have hR0 : 0 ≤ val (Z1 ++ [l2 - carry]) := val_nonneg (uZ.append (u1' (by omega) (by omega)))
      have hR1 : val (Z1 ++ [l2 - carry]) < val D := by rw [hR]; have e1 : (t + 1) * val D = t * val D + val D := by rw [Int.add_mul, Int.one_mul]
                                                        omega
      obtain ⟨q1, q2⟩ := step_low hVpos hR hR0 hR1
      refine ⟨Z1 ++ [l2 - carry], ?_, by simp; omega, uZ.append (u1' (by omega) (by omega)), q2.symm, ?_, hU3.trans (Upd.set _ _ _ _)⟩
      · rw [q1]; rfl
      · rw [← mid_set _ _ _ _ (by omega)]
        have := hA3.set (i + Z1.length) (l2 - carry)
        rw [lZ] at this ⊢
        exact this
end Go.Proofs.YtjmiaakfdclfjaaGreatDoor.Nt
