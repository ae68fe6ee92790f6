/-
  The walk of product: the product of any two numbers, in new memory.
-/
import Derived.Deep.CutRange
import Derived.Laws.MathBits
import Derived.Test.YtjmiaakfdclfjaaGreatDoorK2
namespace Go.Proofs.YtjmiaakfdclfjaaGreatDoor.Nt
open Go.RowKit

theorem mid_val {S Z : List Int} {i : Nat} (h : i + Z.length ≤ S.length) :
    val (S.take i ++ Z ++ S.drop (i + Z.length)) = val S + 4294967296 ^ i * (val Z - val ((S.drop i).take Z.length)) := by
  have e : val S = val (S.take i) + 4294967296 ^ i * (val ((S.drop i).take Z.length) + 4294967296 ^ Z.length * val (S.drop (i + Z.length))) := by
    conv => lhs; rw [← List.take_append_drop i S, ← List.take_append_drop Z.length (S.drop i)]
    rw [val_append, val_append, List.length_take, List.length_take, Nat.min_eq_left (by omega), Nat.min_eq_left (by simp; omega), List.drop_drop]
  rw [e, List.append_assoc, val_append, val_append, List.length_take, Nat.min_eq_left (by omega), Int.mul_sub, Int.mul_add, Int.mul_add]; omega
theorem mid_above {S Z : List Int} {i j : Nat} (h : i + Z.length ≤ S.length) (hj : i + Z.length ≤ j) : (S.take i ++ Z ++ S.drop (i + Z.length)).getD j 0 = S.getD j 0 := by
  have h1 : (S.take i ++ Z).length = i + Z.length := by simp; omega
  rw [List.getD_eq_getElem?_getD, List.getElem?_append_right (by omega), h1, List.getElem?_drop, List.getD_eq_getElem?_getD]
  congr 2; omega
theorem mid_u32 {S Z : List Int} {i : Nat} (hS : U32s S) (hZ : U32s Z) : U32s (S.take i ++ Z ++ S.drop (i + Z.length)) := ((hS.take i).append hZ).append (hS.drop _)

set_option maxHeartbeats 1000000 in
theorem product_any (X Y : List Int) (v u : Value) (w : World) (hX : Sl .u32 w v X) (hY : Sl .u32 w u Y) (uX : U32s X) (uY : U32s Y) (lX : X.length ≤ 1073741824) (lY : Y.length ≤ 1073741824) :
    Calls Tryz.prog 98 #[v, u] w fun e w' => ∃ r, e = .returned r ∧ Own w.heap.size w' r (lim (val X * val Y).toNat) ∧ Below w.heap.size w w' := by
  obtain ⟨aX, cX, rfl, hcX, hXr⟩ := id hX
  obtain ⟨aY, cY, rfl, hcY⟩ := hY.len
  have hfin : X.take X.length = X := List.take_length
  go_enter Tryz.func98, Tryz.ntmps98
  go_wp2_with (at_make; refine wpList_mk _ rfl _ _ 24 rfl .u32 38 4 Tryz.und32 Tryz.info32 _ (X.length + Y.length) rfl rfl (by omega) (by omega) (by omega) ?_; intro w1 hA1 hB1)
  go_loopw [15] (fun iv wr => ∃ (i : Nat) (S : List Int), iv = .int .i64 i ∧ i ≤ X.length ∧ Arr .u32 38 wr w.heap.size S ∧ U32s S ∧ S.length = X.length + Y.length ∧ Below w.heap.size w wr ∧ val S = val (X.take i) * val Y ∧ ∀ j, i + Y.length ≤ j → S.getD j 0 = 0)
      (fun iv _ => X.length - (intOf iv).toNat)
  case atStart => exact ⟨0, _, rfl, Nat.zero_le _, hA1, U32s.zeros _, by simp, hB1, by simp [val_zeros, val], fun j _ => by simp [List.getD, List.getElem?_replicate]; split <;> rfl⟩
  case round =>
    clear hA1 hB1
    obtain ⟨i, S, rfl, hi, hA, huS, hlS, hB, hv, hz⟩ := hrel
    by_cases hlt : i < X.length
    · rcases hXr with rfl | ⟨b, o, rfl, hb, hr⟩
      · simp at hlt
      obtain ⟨x, hx⟩ : ∃ x, X.getD i 0 = x := ⟨_, rfl⟩
      have ux : U32 x := hx ▸ uX.at i
      have hcx : wr.cell? ⟨b, o + i, none⟩ = some (.int .u32 x) := by rw [← hx]; exact (below_rd hB hb hr) i hlt
      have hcall : ∀ q, Calls Tryz.prog 107 #[.slice (some ⟨w.heap.size, i, none⟩) (X.length + Y.length - i) (X.length + Y.length - i), .slice aY Y.length cY, .int .u32 x] (wr.drewN q) fun e w' =>
          ∃ S' carry, e = .returned (.int .u32 carry) ∧ w'.cell? ⟨w.heap.size, i + Y.length, none⟩ = some (.int .u32 0) ∧ w'.frozen? ⟨w.heap.size, i + Y.length, none⟩ = false ∧ Hid (U32 carry ∧ U32s S' ∧ S'.length = X.length + Y.length ∧ Arr .u32 38 w' w.heap.size S' ∧ Below w.heap.size w w' ∧
            val S' + 4294967296 ^ (i + Y.length) * carry = val (X.take i) * val Y + 4294967296 ^ i * (x * val Y) ∧ ∀ j, i + Y.length ≤ j → S'.getD j 0 = 0) := by
        intro q
        have hBq : Below w.heap.size w (wr.drewN q) := hB.trans ⟨rfl, rfl, rfl, Nat.le_refl _, fun _ _ => rfl⟩
        refine (addTimes_any S Y x w.heap.size i _ _ _ (wr.drewN q) hA huS ux uY (below_sl hBq hY) (hY.ne (Nat.le_refl _)) (by omega) (by omega) (by omega)).mono ?_
        rintro e w' ⟨Z, carry, rfl, hc, hZ, hZl, hA', hU', heq⟩
        have hfit : i + Z.length ≤ S.length := by omega
        have hz2 : (S.take i ++ Z ++ S.drop (i + Z.length)).getD (i + Y.length) 0 = 0 := by rw [mid_above hfit (by omega)]; exact hz _ (Nat.le_refl _)
        refine ⟨_, carry, rfl, by rw [hA'.cell _ (by rw [mid_len _ _ _ hfit]; omega), hz2], hA'.frozen _, show _ ∧ _ from ⟨hc, mid_u32 huS hZ, by rw [mid_len _ _ _ hfit]; exact hlS, hA', hU'.below hBq (Nat.le_of_lt hA.lt) (Nat.le_refl _), ?_, fun j hj => by rw [mid_above hfit (by omega)]; exact hz j hj⟩⟩
        rw [mid_val hfit, hv, hZl, Int.pow_add, Int.mul_assoc]
        have : val Z - val ((S.drop i).take Y.length) = x * val Y - 4294967296 ^ Y.length * carry := by omega
        rw [this, Int.mul_sub]; omega
      have HV : Hid (X.getD i 0 = x ∧ Below w.heap.size w wr) := ⟨hx, hB⟩
      clear hA huS hv hz hr hX hY uY hx hB
      go_upto_region 5 with (fail)
      go_region_with (go_at_call 107; refine (hcall _).mono ?_; rintro e w2 ⟨S', carry, rfl, hcl2, hfz2, HS2⟩)
      all_goals
        go_wp2
        go_roundw
        case rel =>
          obtain ⟨hc, hS', hSl', hA', hB', heq', hz'⟩ := HS2.out
          obtain ⟨hx, _⟩ := HV.out
          refine ⟨i + 1, S'.set (i + Y.length) carry, by go_num, by omega, (by exact hA'.set _ _), hS'.set _ hc, by simpa using hSl', hB'.setCell (Nat.le_refl _) _, ?_, fun j hj => ?_⟩
          · rw [val_set (by omega), hz' _ (Nat.le_refl _), val_take_succ _ _ hlt, hx, Int.add_mul, Int.mul_assoc, Int.sub_zero]; exact heq'
          · rw [List.getD_eq_getElem?_getD, List.getElem?_set_ne (by omega), ← List.getD_eq_getElem?_getD]; exact hz' j (by omega)
        case measure => simp [intOf]; omega
    · have hin : i = X.length := by omega
      have hsl := hA.sl
      rw [hlS] at hsl
      have hcut := cut_any S (some ⟨w.heap.size, 0, none⟩) (X.length + Y.length) wr (by rw [hlS]; exact hsl) (by omega)
      rw [hlS] at hcut
      have HS : Hid (Arr .u32 38 wr w.heap.size S ∧ U32s S ∧ S.length = X.length + Y.length ∧ Below w.heap.size w wr ∧ val S = val (X.take i) * val Y ∧ i = X.length) := ⟨hA, huS, hlS, hB, hv, hin⟩
      clear hA huS hB hv hz hsl hlS hin
      go_wp2_with (go_at_call 77; refine hcut.mono ?_; rintro e w4 ⟨rfl, rfl⟩)
      go_ret
      obtain ⟨hA, huS, hlS, hB, hv, rfl⟩ := HS.out
      refine ⟨_, rfl, ?_, hB⟩
      have := Own.cut (B := w.heap.size) hA huS (Nat.le_refl _) (by omega)
      rw [hlS, hv, hfin] at this
      exact this
end Go.Proofs.YtjmiaakfdclfjaaGreatDoor.Nt
/-
  The walks of Add, Sub, Mul: sums, differences, products of any two numbers, or the error.
-/
namespace Go.Proofs.YtjmiaakfdclfjaaGreatDoor.Nt
open Go.RowKit

def trim (xs : List Int) : List Int := xs.take (sig xs)
theorem trim_val (xs : List Int) : val (trim xs) = val xs := val_take_sig xs
theorem trim_u32 {xs : List Int} (h : U32s xs) : U32s (trim xs) := h.take _
theorem trim_len (xs : List Int) : (trim xs).length = sig xs := by simp [trim, sig_le]
theorem _root_.Go.Proofs.YtjmiaakfdclfjaaGreatDoor.Sl.trim {w : World} {a : Option Addr} {c : Nat} {xs : List Int} (h : Sl .u32 w (.slice a xs.length c) xs) : Sl .u32 w (.slice a (sig xs) c) (trim xs) := by
  obtain ⟨a', c', he, hc, h⟩ := h
  cases he
  refine ⟨a, c, by rw [trim_len], by rw [trim_len]; have := sig_le xs; omega, ?_⟩
  rcases h with rfl | ⟨b, off, rfl, hb, hr⟩
  · exact .inl rfl
  · exact .inr ⟨b, off, rfl, hb, hr.take _⟩

/-- cut, as a number: what it answers reads the trimmed list. -/
theorem cut_sl {w : World} (v : Value) (xs : List Int) (h : Sl .u32 w v xs) (hl : xs.length ≤ 1152921504606846976) :
    Calls Tryz.prog 77 #[v] w fun e w' => ∃ r, e = .returned r ∧ Sl .u32 w r (Go.Proofs.YtjmiaakfdclfjaaGreatDoor.Nt.trim xs) ∧ w = w' := by
  obtain ⟨a, c, rfl, _⟩ := h.len
  exact (cut_any xs a c w h hl).mono fun e w' ⟨h1, h2⟩ => ⟨_, h1, h.trim, h2.symm⟩

/-- A number and an error, as two results. -/
def Two (B : Nat) (w : World) (e : Ending) (s : List Int × Int) : Prop := ∃ r, e = .returned (.tuple #[r, .int .i64 s.2]) ∧ Own B w r s.1

theorem Two.mk' {B : Nat} {w : World} {r : Value} {n : Int} {L : List Int} {s : List Int × Int} (h : Own B w r L) (hs : s = (L, n)) : Two B w (.returned (.tuple #[r, .int .i64 n])) s := by
  subst hs; exact ⟨r, rfl, h⟩
theorem Two.nil' {B : Nat} {w : World} {n : Int} {s : List Int × Int} (hs : s = ([], n)) : Two B w (.returned (.tuple #[.slice none 0 0, .int .i64 n])) s := by
  subst hs; exact ⟨_, rfl, .inl ⟨rfl, rfl⟩⟩

theorem Cmp_sl {w : World} (v u : Value) (X Y : List Int) (h : Sl .u32 w v X) (h' : Sl .u32 w u Y) (uX : U32s X) (uY : U32s Y) (lX : X.length ≤ 1152921504606846976) (lY : Y.length ≤ 1152921504606846976) (c : Int) (hc : cmpI (val X) (val Y) = c) :
    Calls Tryz.prog 50 #[v, u] w fun e w' => e = .returned (.int .i64 c) ∧ Below w.heap.size w w' := by
  subst hc; exact Cmp_any X Y v u w h h' uX uY lX lY

theorem sig_le_of_val {X Y : List Int} (uX : U32s X) (uY : U32s Y) (h : val Y ≤ val X) : sig Y ≤ sig X := by
  apply Classical.byContradiction; intro hc
  have := val_lt_of_sig uX uY (by omega); omega

end Go.Proofs.YtjmiaakfdclfjaaGreatDoor.Nt
/-
  The walk of divideByLimb: any number by a limb.
-/
namespace Go.Proofs.YtjmiaakfdclfjaaGreatDoor.Nt
open Go.RowKit

theorem or32 (l a : Int) (h0 : 0 ≤ l) (h1 : l < 4294967296) (a0 : 0 ≤ a) (a1 : a < 4294967296) : bits BinOp.or .u64 (l * 4294967296) a = l * 4294967296 + a := by
  obtain ⟨n, rfl⟩ := Int.eq_ofNat_of_zero_le h0
  obtain ⟨m, rfl⟩ := Int.eq_ofNat_of_zero_le a0
  have h := bits_or_u64_nat (n * 4294967296) m (by omega) (by omega)
  have e : n * 4294967296 ||| m = n * 4294967296 + m := by
    have := Nat.two_pow_add_eq_or_of_lt (i := 32) (b := m) (by omega) n
    rw [Nat.mul_comm n 4294967296]; exact this.symm
  rw [e] at h
  simpa using h

theorem quo_step (vs vx l b a q r : Int) (T : Int) (hT : T = l * 4294967296 + a) (hqr : T = q * b + r) (ih : vx = vs * b + l) : a + 4294967296 * vx = (q + 4294967296 * vs) * b + r := by
  rw [ih, Int.add_mul, Int.mul_assoc, Int.mul_add]; omega

theorem drop_set_self {S : List Int} {m : Nat} {z : Int} (h : m < S.length) : (S.set m z).drop m = z :: S.drop (m + 1) := by
  induction S generalizing m with
  | nil => simp at h
  | cons x S ih =>
    cases m with
    | zero => simp
    | succ m => simpa using ih (by simpa using h)

set_option maxHeartbeats 1000000 in
theorem divideByLimb_any (X : List Int) (d : Int) (v : Value) (w : World) (hX : Sl .u32 w v X) (uX : U32s X) (hd0 : 0 < d) (hd1 : d < 4294967296) (lX : X.length ≤ 1099511627776) :
    Calls Tryz.prog 116 #[v, .int .u32 d] w fun e w' => ∃ q r, e = .returned (.tuple #[q, r]) ∧ Own w.heap.size w' q (lim (val X / d).toNat) ∧ Own w.heap.size w' r (lim (val X % d).toNat) ∧ Below w.heap.size w w' := by
  obtain ⟨aX, cX, rfl, hcX, hXr⟩ := id hX
  go_enter Tryz.func116, Tryz.ntmps116
  go_wp2_with (at_make; refine wpList_mk _ rfl _ _ 24 rfl .u32 38 4 Tryz.und32 Tryz.info32 _ X.length rfl rfl (by omega) (by omega) (by omega) ?_; intro w1 hA1 hB1)
  go_loopw [6, 14] (fun lv iv wr => ∃ (k : Nat) (l : Int) (S : List Int), iv = .int .i64 k ∧ lv = .int .u64 l ∧ k ≤ X.length ∧ 0 ≤ l ∧ l < d ∧ Arr .u32 38 wr w.heap.size S ∧ U32s S ∧ S.length = X.length ∧ Below w.heap.size w wr ∧ val (X.drop (X.length - k)) = val (S.drop (X.length - k)) * d + l)
      (fun _ iv _ => X.length - (intOf iv).toNat)
  case atStart => exact ⟨0, 0, _, rfl, rfl, Nat.zero_le _, by decide, hd0, hA1, U32s.zeros _, by simp, hB1, by simp [val]⟩
  case round =>
    clear hA1 hB1
    obtain ⟨k, l, S, rfl, rfl, hk, hl0, hl1, hA, huS, hlS, hB, hv⟩ := hrel
    by_cases hlt : k < X.length
    · rcases hXr with rfl | ⟨b, o, rfl, hb, hr⟩
      · simp at hlt
      obtain ⟨m, hm⟩ : ∃ m, X.length - 1 - k = m := ⟨_, rfl⟩
      obtain ⟨a, ha⟩ : ∃ a, X.getD m 0 = a := ⟨_, rfl⟩
      have ua : U32 a := ha ▸ uX.at m
      have hca : wr.cell? ⟨b, o + m, none⟩ = some (.int .u32 a) := by rw [← ha]; exact (below_rd hB hb hr) m (by omega)
      obtain ⟨z, hcz⟩ : ∃ z, wr.cell? ⟨w.heap.size, m, none⟩ = some (.int .u32 z) := ⟨_, hA.cell m (by omega)⟩
      have hfz : wr.frozen? ⟨w.heap.size, m, none⟩ = false := hA.frozen m
      have hidx : ((X.length : Int) - 1 - k).toNat = m := by omega
      have hmi : ((X.length : Int) - 1 - k) = m := by omega
      obtain ⟨a0, a1⟩ := ua
      have hor := or32 l a hl0 (by omega) a0 a1
      have hq0 : 0 ≤ (l * 4294967296 + a) / d := Int.ediv_nonneg (by omega) (by omega)
      have hq1 : (l * 4294967296 + a) / d < 4294967296 := Int.ediv_lt_of_lt_mul hd0 (by omega)
      have hr0 : 0 ≤ (l * 4294967296 + a) % d := Int.emod_nonneg _ (by omega)
      have hr1 : (l * 4294967296 + a) % d < d := Int.emod_lt_of_pos _ hd0
      have HH : Hid (X.getD m 0 = a ∧ Arr .u32 38 wr w.heap.size S ∧ U32s S ∧ S.length = X.length ∧ Below w.heap.size w wr ∧ val (X.drop (X.length - k)) = val (S.drop (X.length - k)) * d + l ∧ X.length - 1 - k = m) := ⟨ha, hA, huS, hlS, hB, hv, hm⟩
      clear hA huS hlS hB hv ha hm hr hX uX
      go_wp2
      go_roundw
      case rel =>
        obtain ⟨ha, hA, huS, hlS, hB, hv, hm⟩ := HH.out
        have hdm : (l * 4294967296 + a) = (l * 4294967296 + a) / d * d + (l * 4294967296 + a) % d := by have := Int.mul_ediv_add_emod (l * 4294967296 + a) d; rw [Int.mul_comm] at this; omega
        refine ⟨k + 1, _, S.set m ((l * 4294967296 + a) / d), by go_num, rfl, by omega, hr0, hr1, hA.set _ _, huS.set _ ⟨hq0, hq1⟩, by simpa using hlS, hB.setCell (Nat.le_refl _) _, ?_⟩
        have e1 : X.length - (k + 1) = m := by omega
        have e2 : X.length - k = m + 1 := by omega
        rw [e2] at hv
        rw [e1, List.drop_eq_getElem_cons (show m < X.length by omega), drop_set_self (by omega)]
        simp only [val]
        have e3 : X[m]'(by omega) = a := by rw [← ha]; simp [show m < X.length by omega]
        rw [e3]
        exact quo_step _ _ l d a _ _ _ rfl hdm hv
      case measure => simp [intOf]; omega
    · have hkX : k = X.length := by omega
      have hsl := hA.sl
      rw [hlS] at hsl
      have hcut := cut_any S (some ⟨w.heap.size, 0, none⟩) X.length wr (by rw [hlS]; exact hsl) (by omega)
      rw [hlS] at hcut
      have HH : Hid (Arr .u32 38 wr w.heap.size S ∧ U32s S ∧ S.length = X.length ∧ Below w.heap.size w wr ∧ val (X.drop (X.length - k)) = val (S.drop (X.length - k)) * d + l ∧ k = X.length) := ⟨hA, huS, hlS, hB, hv, hkX⟩
      clear hA huS hlS hB hv hsl hkX
      go_wp2_with (first
        | (go_at_call 77; refine hcut.mono ?_; rintro e w' ⟨rfl, rfl⟩)
        | (go_at_call 97; refine (Small_any l hl0 (by omega) _).mono ?_; rintro e w2 ⟨r, rfl, hr, hB2⟩))
      go_ret2
      obtain ⟨hA, huS, hlS, hB, hv, rfl⟩ := HH.out
      simp only [Nat.sub_self, List.drop_zero] at hv
      have hO := Own.cut (B := w.heap.size) hA huS (Nat.le_refl _) (by omega)
      rw [hlS] at hO
      have e1 : val X / d = val S := by
        rw [hv, Int.add_comm, Int.add_mul_ediv_right _ _ (by omega), Int.ediv_eq_zero_of_lt hl0 hl1]; omega
      have e2 : val X % d = l := by
        rw [hv, Int.add_comm, Int.add_mul_emod_self_right, Int.emod_eq_of_lt hl0 hl1]
      refine ⟨_, _, rfl, ?_, ?_, hB.trans (hB2.mono hB.size)⟩
      · rw [e1]; exact hO.below hB2
      · rw [e2]; exact hr.mono hB.size
end Go.Proofs.YtjmiaakfdclfjaaGreatDoor.Nt
/-
  The walks of Len32, Bits.
-/
namespace Go.Proofs.YtjmiaakfdclfjaaGreatDoor.Nt
open Go.RowKit

theorem w64 (z : Int) (h0 : 0 ≤ z) (h1 : z < 9223372036854775808) : wrap64 z = z := by unfold wrap64; omega

set_option maxRecDepth 1000000 in
set_option maxHeartbeats 2000000 in
theorem Len32_any (x : Int) (hx : U32 x) (w : World) :
    Calls Tryz.prog 54 #[.int .u32 x] w fun e w' => e = .returned (.int .i64 (bitLen x.toNat)) ∧ w' = w := by
  obtain ⟨h0, h1⟩ := hx
  by_cases g1 : 65536 ≤ x
  · have s1 := bitLen_shift x.toNat 16 (by omega)
    by_cases g2 : 256 ≤ x / 65536
    · have s2 := bitLen_shift (x.toNat / 2 ^ 16) 8 (by omega)
      have e1 : x.toNat / 2 ^ 16 / 2 ^ 8 = (x / 65536 / 256).toNat := by omega
      rw [e1] at s2
      have HS : Hid (bitLen x.toNat = 16 + (8 + bitLen (x / 65536 / 256).toNat)) := by rw [s1, s2]; rfl
      have g3 : x / 65536 / 256 < 256 := by omega
      have g4 : 0 ≤ x / 65536 / 256 := by omega
      have l8 := bitLen_le8 (x / 65536 / 256).toNat (by omega)
      clear s1 s2 e1
      go_enter Tryz.func54, Tryz.ntmps54
      go_wp2
      go_ret
      refine ⟨ret_int ?_, rfl⟩
      rw [HS.out, len8tab_get, w64 (bitLen _) (by omega) (by omega), w64 _ (by omega) (by omega)]; omega
    · have e1 : x.toNat / 2 ^ 16 = (x / 65536).toNat := by omega
      rw [e1] at s1
      have HS : Hid (bitLen x.toNat = 16 + bitLen (x / 65536).toNat) := s1
      have g3 : x / 65536 < 256 := by omega
      have g4 : 0 ≤ x / 65536 := by omega
      have l8 := bitLen_le8 (x / 65536).toNat (by omega)
      clear s1 e1
      go_enter Tryz.func54, Tryz.ntmps54
      go_wp2
      go_ret
      refine ⟨ret_int ?_, rfl⟩
      rw [HS.out, len8tab_get, w64 (bitLen _) (by omega) (by omega), w64 _ (by omega) (by omega)]; omega
  · by_cases g2 : 256 ≤ x
    · have s1 := bitLen_shift x.toNat 8 (by omega)
      have e1 : x.toNat / 2 ^ 8 = (x / 256).toNat := by omega
      rw [e1] at s1
      have HS : Hid (bitLen x.toNat = 8 + bitLen (x / 256).toNat) := s1
      have g3 : x / 256 < 256 := by omega
      have g4 : 0 ≤ x / 256 := by omega
      have l8 := bitLen_le8 (x / 256).toNat (by omega)
      clear s1 e1
      go_enter Tryz.func54, Tryz.ntmps54
      go_wp2
      go_ret
      refine ⟨ret_int ?_, rfl⟩
      rw [HS.out, len8tab_get, w64 (bitLen _) (by omega) (by omega), w64 _ (by omega) (by omega)]; omega
    · have g3 : x < 256 := by omega
      have l8 := bitLen_le8 x.toNat (by omega)
      go_enter Tryz.func54, Tryz.ntmps54
      go_wp2
      go_ret
      refine ⟨ret_int ?_, rfl⟩
      rw [len8tab_get, w64 (bitLen _) (by omega) (by omega), w64 (bitLen _) (by omega) (by omega)]

theorem pow32 (m : Nat) : (4294967296 : Int) ^ m = ((2 ^ (32 * m) : Nat) : Int) := by
  rw [Nat.pow_mul]; simp
theorem top_div {xs : List Int} {m : Nat} (hu : U32s xs) (h : sig xs = m + 1) : (val xs).toNat / 2 ^ (32 * m) = (xs.getD m 0).toNat ∧ (xs.getD m 0).toNat ≠ 0 := by
  have hl := sig_le xs
  have e := val_take_sig xs
  rw [h, val_take_succ _ _ (by omega)] at e
  have h1 := val_nonneg (hu.take m); have h2 := val_lt (hu.take m)
  rw [List.length_take, Nat.min_eq_left (by omega)] at h2
  have h3 := hu.at m
  have h4 := sig_pos hu (by omega : 0 < sig xs)
  rw [h, Nat.add_sub_cancel] at h4
  obtain ⟨t, ht⟩ := Int.eq_ofNat_of_zero_le h1
  obtain ⟨y, hy⟩ := Int.eq_ofNat_of_zero_le h3.1
  rw [hy] at h4 ⊢
  refine ⟨?_, by omega⟩
  rw [ht, hy, pow32] at e
  rw [ht, pow32] at h2
  have e2 : (val xs).toNat = t + 2 ^ (32 * m) * y := by rw [← e]; exact Int.toNat_natCast (t + 2 ^ (32 * m) * y)
  have h5 : t < 2 ^ (32 * m) := by exact_mod_cast h2
  rw [e2, Nat.add_mul_div_left _ _ (by omega), Nat.div_eq_of_lt h5]; simp

set_option maxHeartbeats 1000000 in
theorem Bits_any (xs : List Int) (v : Value) (w : World) (hx : Sl .u32 w v xs) (ux : U32s xs) (lx : xs.length ≤ 36028797018963968) :
    Calls Tryz.prog 25 #[v] w fun e w' => e = .returned (.int .i64 (bitLen (val xs).toNat)) ∧ Below w.heap.size w w' := by
  obtain ⟨a1, c1, rfl, hc1, h1⟩ := id hx
  have hl := sig_le xs
  by_cases h0 : sig xs = 0
  · have hlen : Len w (.slice a1 xs.length c1) 0 := ⟨xs, hx, by omega, h0⟩
    have HB : Hid (bitLen (val xs).toNat = 0) := by rw [val_of_sig0 h0]; rfl
    clear h0
    go_enter Tryz.func25, Tryz.ntmps25
    go_wp2_with (go_at_call 53; refine (length_len _ _ hlen).mono ?_; rintro e w' ⟨rfl, rfl⟩)
    go_ret
    exact ⟨ret_int (by rw [HB.out]; rfl), Below.refl _ _⟩
  · obtain ⟨m, hm⟩ : ∃ m, sig xs = m + 1 := ⟨sig xs - 1, by omega⟩
    have hlen : Len w (.slice a1 xs.length c1) (m + 1) := ⟨xs, hx, by omega, hm⟩
    obtain ⟨ht, ht0⟩ := top_div ux hm
    obtain ⟨y, hy⟩ : ∃ y, xs.getD m 0 = y := ⟨_, rfl⟩
    have uy : U32 y := hy ▸ ux.at m
    rw [hy] at ht ht0
    have hs := bitLen_shift (val xs).toNat (32 * m) (by rw [ht]; exact ht0)
    rw [ht] at hs
    have HB : Hid (bitLen (val xs).toNat = 32 * m + bitLen y.toNat) := hs
    rcases h1 with rfl | ⟨b, o, rfl, hb, hr⟩
    · simp at hl; omega
    have hcy : w.cell? ⟨b, o + m, none⟩ = some (.int .u32 y) := by rw [← hy]; exact hr m (by omega)
    have hb32 : bitLen y.toNat ≤ 32 := by
      have := bitLen_spec y.toNat
      apply Classical.byContradiction; intro hc
      have h2 := this.2 (by omega)
      have h3 : 2 ^ 32 ≤ 2 ^ (bitLen y.toNat - 1) := Nat.pow_le_pow_right (by decide) (by omega)
      obtain ⟨u1, u2⟩ := uy
      omega
    obtain ⟨bl, hbl⟩ : ∃ bl, bitLen y.toNat = bl := ⟨_, rfl⟩
    have hcall := Len32_any y uy w
    rw [hbl] at hb32 hcall
    have HB2 : Hid (bitLen (val xs).toNat = 32 * m + bl) := by rw [← hbl]; exact HB.out
    have hmx : m < xs.length := by omega
    clear hs ht ht0 hr h0 hm hy hx hl HB hbl
    go_enter Tryz.func25, Tryz.ntmps25
    go_wp2_with (first
      | (go_at_call 53; refine (length_len _ _ hlen).mono ?_; rintro e w' ⟨rfl, rfl⟩)
      | (go_at_call 54; refine hcall.mono ?_; rintro e w' ⟨rfl, rfl⟩))
    go_ret
    exact ⟨ret_int (by rw [HB2.out]; simp), Below.refl _ _⟩
end Go.Proofs.YtjmiaakfdclfjaaGreatDoor.Nt
/-
  The walks of divide, rest, DivMod: any quotient and rest (the long division's own walk is handed in as a hypothesis: LongOK).
-/
namespace Go.Proofs.YtjmiaakfdclfjaaGreatDoor.Nt
open Go.RowKit

/-- Quotient and rest as two results. -/
def QR (B : Nat) (w : World) (e : Ending) (x y : Int) : Prop := ∃ q r, e = .returned (.tuple #[q, r]) ∧ Own B w q (lim (x / y).toNat) ∧ Own B w r (lim (x % y).toNat)

/-- The long division keeps its promise. -/
def LongOK : Prop := ∀ (X Y : List Int) (v u : Value) (w : World), Sl .u32 w v X → Sl .u32 w u Y → U32s X → U32s Y → sig X = X.length → sig Y = Y.length → 2 ≤ Y.length → val Y ≤ val X → X.length ≤ 1073741824 →
    Calls Tryz.prog 117 #[v, u] w fun e w' => QR w.heap.size w' e (val X) (val Y) ∧ Below w.heap.size w w'

set_option maxHeartbeats 1000000 in
theorem divide_any (X Y : List Int) (v u : Value) (w : World) (hX : Sl .u32 w v X) (hY : Sl .u32 w u Y) (uX : U32s X) (uY : U32s Y) (sX : sig X = X.length) (sY : sig Y = Y.length) (h0 : Y ≠ []) (lX : X.length ≤ 1073741824) (lY : Y.length ≤ 1073741824)
    (H : Y.length = 1 ∨ LongOK) :
    Calls Tryz.prog 106 #[v, u] w fun e w' => QR w.heap.size w' e (val X) (val Y) ∧ Below w.heap.size w w' := by
  have hY0 : 0 < Y.length := by cases Y <;> simp at *
  obtain ⟨a1, c1, rfl, _⟩ := hX.len
  obtain ⟨a2, c2, rfl, hc2, hYr⟩ := id hY
  have nX := val_nonneg uX
  by_cases hlt : val X < val Y
  · have hc : cmpI (val X) (val Y) = -1 := by unfold cmpI; rw [if_pos hlt]
    have HE : Hid (val X / val Y = 0 ∧ val X % val Y = val X) := ⟨Int.ediv_eq_zero_of_lt nX hlt, Int.emod_eq_of_lt nX hlt⟩
    clear hlt
    go_enter Tryz.func106, Tryz.ntmps106
    go_wp2_with (first
      | (go_at_call 50; refine (Cmp_sl _ _ X Y hX hY uX uY (by omega) (by omega) _ hc).mono ?_; rintro e w1 ⟨rfl, hB⟩; have hX1 := below_sl hB hX)
      | (go_at_call 115; refine (Trim_any X _ _ hX1 uX (by omega)).mono ?_; rintro e w2 ⟨r, rfl, hr, hB2⟩))
    go_ret2
    obtain ⟨e1, e2⟩ := HE.out
    refine ⟨⟨_, _, rfl, ?_, ?_⟩, hB.trans (hB2.mono hB.size)⟩
    · rw [e1]; exact .inl ⟨rfl, by simp [lim_zero]⟩
    · rw [e2]; exact hr.mono hB.size
  · obtain ⟨c, hc, hc0⟩ : ∃ c, cmpI (val X) (val Y) = c ∧ 0 ≤ c := by
      unfold cmpI; rw [if_neg hlt]; split
      · exact ⟨1, rfl, by decide⟩
      · exact ⟨0, rfl, by decide⟩
    by_cases h1 : Y.length = 1
    · obtain ⟨y, rfl⟩ : ∃ y, Y = [y] := by
        match Y, h1 with
        | [y], _ => exact ⟨y, rfl⟩
      have uy : U32 y := uY.head
      have hy0 : y ≠ 0 := by intro h; subst h; simp [sig] at sY
      have hvy : val [y] = y := by simp [val]
      rcases hYr with hYr | ⟨b, o, rfl, hb, hr⟩
      · simp at hYr
      have hcell := hr 0 (by simp)
      simp at hcell
      have HE : Hid (val [y] = y) := hvy
      obtain ⟨u1, u2⟩ := uy
      have hy1 : 0 < y := by omega
      clear hlt hr hvy sY h1
      simp only [List.length_cons, List.length_nil] at hY hc2 ⊢
      go_enter Tryz.func106, Tryz.ntmps106
      go_wp2_with (first
        | (go_at_call 50; refine (Cmp_sl _ _ X [y] hX hY uX uY (by omega) (by simp) _ hc).mono ?_; rintro e w1 ⟨rfl, hB⟩; have hX1 := below_sl hB hX; have hcell1 := (hB.cell (p := ⟨b, o, none⟩) hb).trans hcell)
        | (go_at_call 116; refine (divideByLimb_any X y _ _ hX1 uX hy1 u2 (by omega)).mono ?_; rintro e w2 ⟨q, r, rfl, hq, hr, hB2⟩))
      go_ret2
      rw [HE.out]
      exact ⟨⟨_, _, rfl, hq.mono hB.size, hr.mono hB.size⟩, hB.trans (hB2.mono hB.size)⟩
    · have H2 : LongOK := by rcases H with h | h; exact absurd h h1; exact h
      have HH : Hid (LongOK ∧ val Y ≤ val X) := ⟨H2, by omega⟩
      have hY2 : 2 ≤ Y.length := by omega
      clear hlt H H2 hYr
      go_enter Tryz.func106, Tryz.ntmps106
      go_wp2_with (first
        | (go_at_call 50; refine (Cmp_sl _ _ X Y hX hY uX uY (by omega) (by omega) _ hc).mono ?_; rintro e w1 ⟨rfl, hB⟩; have hX1 := below_sl hB hX; have hY1 := below_sl hB hY)
        | (go_at_call 117; refine (HH.out.1 X Y _ _ _ hX1 hY1 uX uY sX sY hY2 HH.out.2 lX).mono ?_; rintro e w2 ⟨⟨q, r, rfl, hq, hr⟩, hB2⟩))
      go_ret2
      exact ⟨⟨_, _, rfl, hq.mono hB.size, hr.mono hB.size⟩, hB.trans (hB2.mono hB.size)⟩

set_option maxHeartbeats 400000 in
theorem rest_any (X Y : List Int) (v u : Value) (w : World) (hX : Sl .u32 w v X) (hY : Sl .u32 w u Y) (uX : U32s X) (uY : U32s Y) (sX : sig X = X.length) (sY : sig Y = Y.length) (h0 : Y ≠ []) (lX : X.length ≤ 1073741824) (lY : Y.length ≤ 1073741824)
    (H : Y.length = 1 ∨ LongOK) :
    Calls Tryz.prog 96 #[v, u] w fun e w' => ∃ r, e = .returned r ∧ Own w.heap.size w' r (lim (val X % val Y).toNat) ∧ Below w.heap.size w w' := by
  go_enter Tryz.func96, Tryz.ntmps96
  go_wp2_with (go_at_call 106; refine (divide_any X Y v u w hX hY uX uY sX sY h0 lX lY H).mono ?_; rintro e w2 ⟨⟨q, r, rfl, hq, hr⟩, hB2⟩)
  go_ret
  exact ⟨_, rfl, hr, hB2⟩

def Three (B : Nat) (w : World) (e : Ending) (s : List Int × List Int × Int) : Prop := ∃ q r, e = .returned (.tuple #[q, r, .int .i64 s.2.2]) ∧ Own B w q s.1 ∧ Own B w r s.2.1
theorem Three.nil' {B : Nat} {w : World} {n : Int} {s : List Int × List Int × Int} (hs : s = ([], [], n)) : Three B w (.returned (.tuple #[.slice none 0 0, .slice none 0 0, .int .i64 n])) s := by
  subst hs; exact ⟨_, _, rfl, .inl ⟨rfl, rfl⟩, .inl ⟨rfl, rfl⟩⟩
theorem Three.mk' {B : Nat} {w : World} {q r : Value} {n : Int} {L M : List Int} {s : List Int × List Int × Int} (h : Own B w q L) (h' : Own B w r M) (hs : s = (L, M, n)) : Three B w (.returned (.tuple #[q, r, .int .i64 n])) s := by
  subst hs; exact ⟨_, _, rfl, h, h'⟩

end Go.Proofs.YtjmiaakfdclfjaaGreatDoor.Nt
/-
  Numbers by their values: the contracts above, said of values alone; the walks of hasBit, power, ExpMod.
-/
namespace Go.Proofs.YtjmiaakfdclfjaaGreatDoor.Nt
open Go.RowKit

/-- The slice v reads the number N (no limb 0 at its end), of at most k limbs. -/
def Num (k : Nat) (w : World) (v : Value) (N : Int) : Prop := 0 ≤ N ∧ N < 4294967296 ^ k ∧ Sl .u32 w v (lim N.toNat)
theorem Num.len {k : Nat} {w : World} {v : Value} {N : Int} (h : Num k w v N) : (lim N.toNat).length ≤ k := lim_len_le (by rw [Int.toNat_of_nonneg h.1]; exact h.2.1)
theorem Num.val {k : Nat} {w : World} {v : Value} {N : Int} (h : Num k w v N) : Go.Proofs.YtjmiaakfdclfjaaGreatDoor.val (lim N.toNat) = N := by rw [val_lim, Int.toNat_of_nonneg h.1]
theorem Num.below {k : Nat} {w w' : World} {v : Value} {N : Int} (h : Num k w v N) (hb : Below w.heap.size w w') : Num k w' v N := ⟨h.1, h.2.1, below_sl hb h.2.2⟩
theorem Num.of_own {k B : Nat} {w : World} {v : Value} {N : Int} (h : Own B w v (lim N.toNat)) (h0 : 0 ≤ N) (h1 : N < 4294967296 ^ k) : Num k w v N := ⟨h0, h1, h.sl⟩
theorem Num.of_trim {w : World} {v : Value} {X : List Int} (h : Sl .u32 w v (trim X)) (uX : U32s X) : Num X.length w v (Go.Proofs.YtjmiaakfdclfjaaGreatDoor.val X) := by
  refine ⟨val_nonneg uX, val_lt uX, ?_⟩
  rw [← take_sig_lim uX]; exact h
theorem Num.mono {k k' : Nat} {w : World} {v : Value} {N : Int} (h : Num k w v N) (hk : k ≤ k') : Num k' w v N := ⟨h.1, Int.lt_of_lt_of_le h.2.1 (pow_mono hk), h.2.2⟩
theorem lim_nil {n : Nat} (h : lim n = []) : n = 0 := by have := val_lim n; rw [h] at this; simp [Go.Proofs.YtjmiaakfdclfjaaGreatDoor.val] at this; omega
theorem lim_len_one {N : Int} (h0 : 0 < N) (h1 : N < 4294967296) : (lim N.toNat).length = 1 := by
  rw [lim_pos (by omega)]
  have : N.toNat / 4294967296 = 0 := by omega
  rw [this, lim_zero]; rfl

theorem product_num {k j : Nat} {w : World} (v u : Value) (x y : Int) (hx : Num k w v x) (hy : Num j w u y) (hk : k ≤ 1073741824) (hj : j ≤ 1073741824) :
    Calls Tryz.prog 98 #[v, u] w fun e w' => ∃ r, e = .returned r ∧ Own w.heap.size w' r (lim (x * y).toNat) ∧ Num (k + j) w' r (x * y) ∧ Below w.heap.size w w' := by
  have lx := hx.len; have ly := hy.len
  refine (product_any _ _ v u w hx.2.2 hy.2.2 (lim_u32 _) (lim_u32 _) (by omega) (by omega)).mono ?_
  rintro e w' ⟨r, rfl, hr, hB⟩
  rw [hx.val, hy.val] at hr
  refine ⟨r, rfl, hr, Num.of_own hr (Int.mul_nonneg hx.1 hy.1) ?_, hB⟩
  rw [Int.pow_add]
  calc x * y ≤ x * 4294967296 ^ j := Int.mul_le_mul_of_nonneg_left (Int.le_of_lt hy.2.1) hx.1
    _ < 4294967296 ^ k * 4294967296 ^ j := Int.mul_lt_mul_of_pos_right hx.2.1 (pow_pos32 j)

theorem rest_num {k j : Nat} {w : World} (v u : Value) (x y : Int) (hx : Num k w v x) (hy : Num j w u y) (hk : k ≤ 1073741824) (hj : j ≤ 1073741824) (h0 : 0 < y) (H : y < 4294967296 ∨ LongOK) :
    Calls Tryz.prog 96 #[v, u] w fun e w' => ∃ r, e = .returned r ∧ Own w.heap.size w' r (lim (x % y).toNat) ∧ Num j w' r (x % y) ∧ Below w.heap.size w w' := by
  have lx := hx.len; have ly := hy.len
  refine (rest_any _ _ v u w hx.2.2 hy.2.2 (lim_u32 _) (lim_u32 _) (sig_lim _) (sig_lim _) (fun h => by have := lim_nil h; omega) (by omega) (by omega) ?_).mono ?_
  · rcases H with h | h
    · exact .inl (lim_len_one h0 h)
    · exact .inr h
  rintro e w' ⟨r, rfl, hr, hB⟩
  rw [hx.val, hy.val] at hr
  have h1 := Int.emod_nonneg x (b := y) (by omega); have h2 := Int.emod_lt_of_pos x h0
  exact ⟨r, rfl, hr, Num.of_own hr h1 (Int.lt_trans h2 hy.2.1), hB⟩

/-! ### hasBit -/
theorem and1 (x : Int) (h0 : 0 ≤ x) (h1 : x < 4294967296) : bits BinOp.and .u32 x 1 = x % 2 := by go_bits2

theorem getD_div (xs : List Int) (i : Nat) (hu : U32s xs) : (val xs).toNat / 2 ^ (32 * i) % 4294967296 = (xs.getD i 0).toNat := by
  induction i generalizing xs with
  | zero =>
    rw [val_head_tail]
    have h1 := hu.at 0; unfold U32 at h1
    have h2 := val_nonneg hu.tl
    simp only [Nat.mul_zero, Nat.pow_zero, Nat.div_one]; omega
  | succ i ih =>
    have := ih xs.tail hu.tl
    rw [getD_tail] at this
    rw [← this, val_head_tail xs]
    have h1 := hu.at 0; unfold U32 at h1
    have h2 := val_nonneg hu.tl
    rw [Nat.mul_add, Nat.mul_one, Nat.add_comm, Nat.pow_add, ← Nat.div_div_eq_div_mul]
    congr 2; omega

theorem bit_eq (v i : Nat) : v / 2 ^ (32 * (i / 32)) % 4294967296 / 2 ^ (i % 32) % 2 = v / 2 ^ i % 2 := by
  have e : (4294967296 : Nat) = 2 ^ (i % 32) * 2 ^ (32 - i % 32) := by rw [← Nat.pow_add, show i % 32 + (32 - i % 32) = 32 by omega]
  have e2 : i = 32 * (i / 32) + i % 32 := by omega
  rw [e, Nat.mod_mul_right_div_self, Nat.div_div_eq_div_mul, ← Nat.pow_add, ← e2]
  have e3 : 2 ^ (32 - i % 32) = 2 * 2 ^ (31 - i % 32) := by rw [Nat.mul_comm, ← Nat.pow_succ]; congr 1; omega
  rw [e3, Nat.mod_mul_right_mod]

set_option maxHeartbeats 1000000 in
theorem hasBit_any (X : List Int) (i : Nat) (v : Value) (w : World) (hX : Sl .u32 w v X) (uX : U32s X) (hi : i < 32 * X.length) (hl : X.length ≤ 1073741824) :
    Calls Tryz.prog 99 #[v, .int .i64 i] w fun e w' => e = .returned (.bool (decide ((val X).toNat / 2 ^ i % 2 = 1))) ∧ w = w' := by
  obtain ⟨a, c, rfl, hc, h1⟩ := hX
  rcases h1 with rfl | ⟨b, o, rfl, hb, hr⟩
  · simp at hi
  obtain ⟨y, hy⟩ : ∃ y, X.getD (i / 32) 0 = y := ⟨_, rfl⟩
  have uy : U32 y := hy ▸ uX.at _
  have hcell := hr (i / 32) (by omega)
  rw [hy] at hcell
  obtain ⟨u1, u2⟩ := uy
  obtain ⟨m, hm⟩ : ∃ m, i / 32 = m := ⟨_, rfl⟩
  obtain ⟨s, hs⟩ : ∃ s, i % 32 = s := ⟨_, rfl⟩
  have HE : Hid ((val X).toNat / 2 ^ i % 2 = y.toNat / 2 ^ s % 2) := by
    rw [← bit_eq, getD_div X _ uX, hy, hs]; rfl
  have hmi : (i : Int) / 32 = m := by omega
  have hsi : (i : Int) % 32 = s := by omega
  have hs32 : s < 32 := by omega
  have hmX : m < X.length := by omega
  rw [hm] at hcell
  have hp : 0 < (2 : Int) ^ s := Int.pow_pos (by decide)
  have hd0 : 0 ≤ y / 2 ^ s := Int.ediv_nonneg u1 (Int.le_of_lt hp)
  have hd1 : y / 2 ^ s < 4294967296 := Int.lt_of_le_of_lt (Int.ediv_le_self _ u1) u2
  have hand := and1 (y / 2 ^ s) hd0 hd1
  clear hr hy hm hs
  go_enter Tryz.func99, Tryz.ntmps99
  go_wp2
  go_ret
  refine ⟨?_, rfl⟩
  rw [HE.out]
  obtain ⟨n, rfl⟩ := Int.eq_ofNat_of_zero_le u1
  have e1 : ((n / 2 ^ s % 2 : Nat) : Int) = (n : Int) / 2 ^ s % 2 := by simp
  have e2 : ((n : Int) / 2 ^ s % 2 == 1) = decide (n / 2 ^ s % 2 = 1) := by
    rw [← e1, Bool.eq_iff_iff]; simp; omega
  exact congrArg (fun b => Ending.returned (Value.bool b)) e2

/-! ### power -/
theorem pow_dbl (v M : Int) (t : Nat) : (v ^ t % M) * (v ^ t % M) % M = v ^ (2 * t) % M := by
  rw [← Int.mul_emod, ← Int.pow_add, Nat.two_mul]
theorem pow_dbl1 (v M : Int) (t : Nat) : (v ^ (2 * t) % M) * (v % M) % M = v ^ (2 * t + 1) % M := by
  rw [← Int.mul_emod, Int.pow_succ]
theorem half_step (E n k : Nat) (h : k < n) : E / 2 ^ (n - (k + 1)) = 2 * (E / 2 ^ (n - k)) + E / 2 ^ (n - 1 - k) % 2 := by
  have e : n - k = (n - (k + 1)) + 1 := by omega
  have e2 : n - 1 - k = n - (k + 1) := by omega
  rw [e, e2, Nat.pow_succ, ← Nat.div_div_eq_div_mul]; omega

theorem bitLen_lt {n k : Nat} (h : n < 2 ^ k) : bitLen n ≤ k := by
  have := bitLen_spec n
  apply Classical.byContradiction; intro hc
  by_cases h0 : n = 0
  · subst h0; simp [bitLen] at hc
  · have h2 := this.2 h0
    have h3 : 2 ^ k ≤ 2 ^ (bitLen n - 1) := Nat.pow_le_pow_right (by decide) (by omega)
    omega

set_option maxHeartbeats 2000000 in
theorem power_any (b e m : Value) (x M : Int) (E : List Int) (kx : Nat) (w : World) (hb : Num kx w b x) (hkx : kx ≤ 1024) (he : Sl .u32 w e E) (uE : U32s E) (lE : E.length ≤ 1024) (hm : Num 1024 w m M) (h0 : 0 < M) (H : M < 4294967296 ∨ LongOK) :
    Calls Tryz.prog 79 #[b, e, m] w fun e w' => ∃ r, e = .returned r ∧ Own w.heap.size w' r (lim (x ^ (val E).toNat % M).toNat) ∧ Below w.heap.size w w' := by
  have HL : Hid (M < 4294967296 ∨ LongOK) := H
  have hBt : Below w.heap.size w w := Below.refl _ _
  obtain ⟨n, hn⟩ : ∃ n, bitLen (val E).toNat = n := ⟨_, rfl⟩
  have hlt : (val E).toNat < 2 ^ (32 * E.length) := by
    have := val_lt uE; rw [pow32] at this; have := val_nonneg uE; omega
  have hn1 : n ≤ 32 * E.length := by rw [← hn]; exact bitLen_lt hlt
  have hs : (val E).toNat / 2 ^ n = 0 := by rw [← hn]; exact Nat.div_eq_of_lt (bitLen_spec _).1
  have HN : Hid (bitLen (val E).toNat = n ∧ (val E).toNat / 2 ^ n = 0) := ⟨hn, hs⟩
  have hbits := fun (w' : World) (hB : Below w.heap.size w w') => Bits_any E e w' (below_sl hB he) uE (by omega)
  rw [hn] at hbits
  clear hn hs hlt H
  go_enter Tryz.func79, Tryz.ntmps79
  go_wp2_with (first
    | (go_at_call 97; refine (Small_any 1 (by decide) (by decide) _).mono ?_; rintro e w' ⟨r, rfl, hr, hB⟩; have hone := Num.of_own (k := 1) hr (by decide) (by decide); replace hm := hm.below hB; replace hnb := hnb.below hB; replace hBt := hBt.trans (hB.mono hBt.size))
    | (go_at_call 96; refine (rest_num _ _ _ _ hone hm (by omega) (by omega) h0 HL.out).mono ?_; rintro e w' ⟨rx, rfl, hrx, hnx, hB⟩; replace hm := hm.below hB; replace hnb := hnb.below hB; replace hrx := hrx.mono hBt.size; replace hBt := hBt.trans (hB.mono hBt.size))
    | (go_at_call 96; refine (rest_num _ _ _ _ hb hm (by omega) (by omega) h0 HL.out).mono ?_; rintro e w' ⟨rb, rfl, hrb, hnb, hB⟩; replace hm := hm.below hB; replace hBt := hBt.trans (hB.mono hBt.size))
    | (go_at_call 25; refine (hbits _ hBt).mono ?_; rintro e w' ⟨rfl, hB⟩; replace hm := hm.below hB; replace hnb := hnb.below hB; replace hrx := hrx.below hB; replace hnx := hnx.below hB; replace hBt := hBt.trans (hB.mono hBt.size)))
  clear hbits hone
  go_loopw [7, 19] (fun xv kv wr => ∃ k : Nat, kv = .int .i64 k ∧ k ≤ n ∧ Own w.heap.size wr xv (lim (x ^ ((val E).toNat / 2 ^ (n - k)) % M).toNat) ∧ Num 1024 wr xv (x ^ ((val E).toNat / 2 ^ (n - k)) % M) ∧ Num 1024 wr rb (x % M) ∧ Num 1024 wr m M ∧ Below w.heap.size w wr)
    (fun _ kv _ => n - (intOf kv).toNat)
  case atStart => exact ⟨0, rfl, Nat.zero_le _, by rw [Nat.sub_zero, HN.out.2, Int.pow_zero]; exact hrx, by rw [Nat.sub_zero, HN.out.2, Int.pow_zero]; exact hnx, hnb, hm, hBt⟩
  case round =>
    clear hrx hnx hnb hm hBt
    obtain ⟨k, rfl, hk, hO, hx, hnb, hm, hBt⟩ := hrel
    by_cases hlt : k < n
    · have hhalf := half_step (val E).toNat n k hlt
      obtain ⟨t, ht⟩ : ∃ t, (val E).toNat / 2 ^ (n - k) = t := ⟨_, rfl⟩
      rw [ht] at hO hx hhalf
      have hbit := fun (w' : World) (hB : Below w.heap.size w w') => hasBit_any E (n - 1 - k) e w' (below_sl hB he) uE (by omega) (by omega)
      have hcast : ((n - 1 - k : Nat) : Int) = (n : Int) - 1 - k := by omega
      rw [hcast] at hbit
      by_cases hb1 : (val E).toNat / 2 ^ (n - 1 - k) % 2 = 1
      · rw [hb1] at hhalf
        have HH : Hid ((val E).toNat / 2 ^ (n - (k + 1)) = 2 * t + 1) := hhalf
        have hdt : decide ((val E).toNat / 2 ^ (n - 1 - k) % 2 = 1) = true := decide_eq_true hb1
        rw [hdt] at hbit
        clear hb1 hdt hhalf ht hcast
        go_wp2_with (first
          | (go_at_call 99; refine (hbit _ hBt).mono ?_; rintro e w' ⟨rfl, rfl⟩)
          | (go_at_call 98; refine (product_num _ _ _ _ hx hx (by omega) (by omega)).mono ?_; rintro e w' ⟨r, rfl, hO1, hp, hB⟩; replace hm := hm.below hB; replace hnb := hnb.below hB; replace hBt := hBt.trans (hB.mono hBt.size); clear hx)
          | (go_at_call 96; refine (rest_num _ _ _ _ hp hm (by omega) (by omega) h0 HL.out).mono ?_; rintro e w' ⟨r, rfl, hO2, hx2, hB⟩; replace hm := hm.below hB; replace hnb := hnb.below hB; replace hBt := hBt.trans (hB.mono hBt.size); clear hp)
          | (go_at_call 98; refine (product_num _ _ _ _ hx2 hnb (by omega) (by omega)).mono ?_; rintro e w' ⟨r, rfl, hO1, hp2, hB⟩; replace hm := hm.below hB; replace hnb := hnb.below hB; replace hBt := hBt.trans (hB.mono hBt.size); clear hx2)
          | (go_at_call 96; refine (rest_num _ _ _ _ hp2 hm (by omega) (by omega) h0 HL.out).mono ?_; rintro e w' ⟨r, rfl, hO3, hx3, hB⟩; replace hm := hm.below hB; replace hnb := hnb.below hB; replace hO3 := hO3.mono hBt.size; replace hBt := hBt.trans (hB.mono hBt.size); clear hp2))
        go_roundw
        case rel =>
          rw [pow_dbl, pow_dbl1] at hO3 hx3
          exact ⟨k + 1, by go_num, by omega, by rw [HH.out]; exact hO3, by rw [HH.out]; exact hx3, hnb, hm, hBt⟩
        case measure => simp [intOf]; omega
      · have hb0 : (val E).toNat / 2 ^ (n - 1 - k) % 2 = 0 := by omega
        rw [hb0] at hhalf
        have HH : Hid ((val E).toNat / 2 ^ (n - (k + 1)) = 2 * t) := hhalf
        have hdt : decide ((val E).toNat / 2 ^ (n - 1 - k) % 2 = 1) = false := decide_eq_false hb1
        rw [hdt] at hbit
        clear hb1 hb0 hdt hhalf ht hcast
        go_wp2_with (first
          | (go_at_call 99; refine (hbit _ hBt).mono ?_; rintro e w' ⟨rfl, rfl⟩)
          | (go_at_call 98; refine (product_num _ _ _ _ hx hx (by omega) (by omega)).mono ?_; rintro e w' ⟨r, rfl, hO1, hp, hB⟩; replace hm := hm.below hB; replace hnb := hnb.below hB; replace hBt := hBt.trans (hB.mono hBt.size); clear hx)
          | (go_at_call 96; refine (rest_num _ _ _ _ hp hm (by omega) (by omega) h0 HL.out).mono ?_; rintro e w' ⟨r, rfl, hO2, hx2, hB⟩; replace hm := hm.below hB; replace hnb := hnb.below hB; replace hO2 := hO2.mono hBt.size; replace hBt := hBt.trans (hB.mono hBt.size); clear hp))
        go_roundw
        case rel =>
          rw [pow_dbl] at hO2 hx2
          exact ⟨k + 1, by go_num, by omega, by rw [HH.out]; exact hO2, by rw [HH.out]; exact hx2, hnb, hm, hBt⟩
        case measure => simp [intOf]; omega
    · have hkn : k = n := by omega
      have HO : Hid (Own w.heap.size wr u7 (lim (x ^ ((val E).toNat / 2 ^ (n - k)) % M).toNat) ∧ k = n) := ⟨hO, hkn⟩
      clear hO hx hkn
      go_wp2
      go_ret
      obtain ⟨hO, rfl⟩ := HO.out
      rw [Nat.sub_self, Nat.pow_zero, Nat.div_one] at hO
      exact ⟨_, rfl, hO, hBt⟩
end Go.Proofs.YtjmiaakfdclfjaaGreatDoor.Nt
