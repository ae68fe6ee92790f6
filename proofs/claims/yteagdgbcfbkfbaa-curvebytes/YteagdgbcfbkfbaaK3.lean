/-
  The walks of Add, Sub, Mul: sums, differences, products of any two numbers, or the error.
-/
import Derived.Laws.MathBits
import Derived.Test.YteagdgbcfbkfbaaK2
namespace Go.Proofs.Yteagdgbcfbkfbaa.Nt
open Go.RowKit

def trim (xs : List Int) : List Int := xs.take (sig xs)
theorem trim_val (xs : List Int) : val (trim xs) = val xs := val_take_sig xs
theorem trim_u32 {xs : List Int} (h : U32s xs) : U32s (trim xs) := h.take _
theorem trim_len (xs : List Int) : (trim xs).length = sig xs := by simp [trim, sig_le]
theorem trim_sig (xs : List Int) : sig (trim xs) = (trim xs).length := by rw [trim_len]; exact sig_take
theorem _root_.Go.Proofs.Yteagdgbcfbkfbaa.Sl.trim {w : World} {a : Option Addr} {c : Nat} {xs : List Int} (h : Sl .u32 w (.slice a xs.length c) xs) : Sl .u32 w (.slice a (sig xs) c) (trim xs) := by
  obtain ⟨a', c', he, hc, h⟩ := h
  cases he
  refine ⟨a, c, by rw [trim_len], by rw [trim_len]; have := sig_le xs; omega, ?_⟩
  rcases h with rfl | ⟨b, off, rfl, hb, hr⟩
  · exact .inl rfl
  · exact .inr ⟨b, off, rfl, hb, hr.take _⟩

/-- cut, as a number: what it answers reads the trimmed list. -/
theorem cut_sl {w : World} (v : Value) (xs : List Int) (h : Sl .u32 w v xs) (hl : xs.length ≤ 1152921504606846976) :
    Calls Try.prog 93 #[v] w fun e w' => ∃ r, e = .returned r ∧ Sl .u32 w r (Go.Proofs.Yteagdgbcfbkfbaa.Nt.trim xs) ∧ w = w' := by
  obtain ⟨a, c, rfl, _⟩ := h.len
  exact (cut_any xs a c w h hl).mono fun e w' ⟨h1, h2⟩ => ⟨_, h1, h.trim, h2.symm⟩

theorem tooLong_sl {w : World} (v u : Value) (xs ys : List Int) (h : Sl .u32 w v xs) (h' : Sl .u32 w u ys) (b : Bool) (hb : (decide (512 < xs.length) || decide (512 < ys.length)) = b) :
    Calls Try.prog 98 #[v, u] w fun e w' => e = .returned (.bool b) ∧ w = w' := by
  subst hb; exact (tooLong_any xs ys v u w h h').mono fun e w' ⟨h1, h2⟩ => ⟨h1, h2.symm⟩

def fit (L : List Int) : List Int × Int := if 512 < L.length then ([], 3) else (L, 0)
def addS (X Y : List Int) : List Int × Int := if 512 < X.length ∨ 512 < Y.length then ([], 3) else fit (lim (val X + val Y).toNat)
def mulS (X Y : List Int) : List Int × Int := if 512 < X.length ∨ 512 < Y.length then ([], 3) else fit (lim (val X * val Y).toNat)
def subS (X Y : List Int) : List Int × Int := if 512 < X.length ∨ 512 < Y.length then ([], 3) else if val X < val Y then ([], 10) else (lim (val X - val Y).toNat, 0)

/-- A number and an error, as two results. -/
def Two (B : Nat) (w : World) (e : Ending) (s : List Int × Int) : Prop := ∃ r, e = .returned (.tuple #[r, .int .i64 s.2]) ∧ Own B w r s.1

theorem Two.mk' {B : Nat} {w : World} {r : Value} {n : Int} {L : List Int} {s : List Int × Int} (h : Own B w r L) (hs : s = (L, n)) : Two B w (.returned (.tuple #[r, .int .i64 n])) s := by
  subst hs; exact ⟨r, rfl, h⟩
theorem Two.nil' {B : Nat} {w : World} {n : Int} {s : List Int × Int} (hs : s = ([], n)) : Two B w (.returned (.tuple #[.slice none 0 0, .int .i64 n])) s := by
  subst hs; exact ⟨_, rfl, .inl ⟨rfl, rfl⟩⟩

theorem fitting_own {w w0 : World} {B : Nat} (v : Value) (L : List Int) (h : Own B w v L) (hB : Below w0.heap.size w0 w) :
    Calls Try.prog 109 #[v] w fun e w' => ∃ r, e = .returned (.tuple #[r, .int .i64 (fit L).2]) ∧ Own B w' r (fit L).1 ∧ w = w' := by
  obtain ⟨a, c, rfl⟩ := h.ne
  refine (fitting_any a L.length c w).mono fun e w' ⟨h1, h2⟩ => ?_
  subst h2
  unfold fit
  by_cases hl : 512 < L.length
  · rw [if_pos hl] at h1 ⊢; exact ⟨_, h1, .inl ⟨rfl, rfl⟩, rfl⟩
  · rw [if_neg hl] at h1 ⊢; exact ⟨_, h1, h, rfl⟩

set_option maxHeartbeats 1000000 in
theorem Add_any (X Y : List Int) (v u : Value) (w : World) (hX : Sl .u32 w v X) (hY : Sl .u32 w u Y) (uX : U32s X) (uY : U32s Y) :
    Calls Try.prog 80 #[v, u] w fun e w' => Two w.heap.size w' e (addS X Y) ∧ Below w.heap.size w w' := by
  by_cases hlong : 512 < X.length ∨ 512 < Y.length
  · have hb : (decide (512 < X.length) || decide (512 < Y.length)) = true := by simpa using hlong
    have HL : Hid (512 < X.length ∨ 512 < Y.length) := hlong
    clear hlong
    go_enter Try.func80, Try.ntmps80
    go_wp2_with (go_at_call 98; refine (tooLong_sl v u X Y hX hY true hb).mono ?_; rintro e w' ⟨rfl, rfl⟩)
    go_ret2
    exact ⟨Two.nil' (by unfold addS; rw [if_pos HL.out]), Below.refl _ _⟩
  · have hb : (decide (512 < X.length) || decide (512 < Y.length)) = false := by simpa using hlong
    have uX' := trim_u32 uX
    have uY' := trim_u32 uY
    have lX : X.length ≤ 1152921504606846976 := by omega
    have lY : Y.length ≤ 1152921504606846976 := by omega
    have lX' : (trim X).length ≤ 1099511627776 := by have := sig_le X; rw [trim_len]; omega
    have lY' : (trim Y).length ≤ 1099511627776 := by have := sig_le Y; rw [trim_len]; omega
    have HL : Hid (¬ (512 < X.length ∨ 512 < Y.length)) := hlong
    clear hlong
    go_enter Try.func80, Try.ntmps80
    go_wp2_with (first
      | (go_at_call 98; refine (tooLong_sl v u X Y hX hY false hb).mono ?_; rintro e w' ⟨rfl, rfl⟩)
      | (go_at_call 93; refine (cut_sl _ _ (by assumption) (by assumption)).mono ?_; rintro e w' ⟨r, rfl, hr, rfl⟩)
      | (go_at_call 110; refine (sum_any (trim X) (trim Y) _ _ _ (by assumption) (by assumption) uX' uY' lX' lY').mono ?_; rintro e w1 ⟨s, rfl, hs, hB⟩)
      | (go_at_call 109; refine (fitting_own _ _ hs hB).mono ?_; rintro e w' ⟨t, rfl, ht, rfl⟩))
    go_ret2
    exact ⟨Two.mk' ht (by unfold addS; rw [if_neg HL.out, trim_val, trim_val]), hB⟩

set_option maxHeartbeats 1000000 in
theorem Mul_any (X Y : List Int) (v u : Value) (w : World) (hX : Sl .u32 w v X) (hY : Sl .u32 w u Y) (uX : U32s X) (uY : U32s Y) :
    Calls Try.prog 100 #[v, u] w fun e w' => Two w.heap.size w' e (mulS X Y) ∧ Below w.heap.size w w' := by
  by_cases hlong : 512 < X.length ∨ 512 < Y.length
  · have hb : (decide (512 < X.length) || decide (512 < Y.length)) = true := by simpa using hlong
    have HL : Hid (512 < X.length ∨ 512 < Y.length) := hlong
    clear hlong
    go_enter Try.func100, Try.ntmps100
    go_wp2_with (go_at_call 98; refine (tooLong_sl v u X Y hX hY true hb).mono ?_; rintro e w' ⟨rfl, rfl⟩)
    go_ret2
    exact ⟨Two.nil' (by unfold mulS; rw [if_pos HL.out]), Below.refl _ _⟩
  · have hb : (decide (512 < X.length) || decide (512 < Y.length)) = false := by simpa using hlong
    have uX' := trim_u32 uX
    have uY' := trim_u32 uY
    have lX : X.length ≤ 1152921504606846976 := by omega
    have lY : Y.length ≤ 1152921504606846976 := by omega
    have lX' : (trim X).length ≤ 1073741824 := by have := sig_le X; rw [trim_len]; omega
    have lY' : (trim Y).length ≤ 1073741824 := by have := sig_le Y; rw [trim_len]; omega
    have HL : Hid (¬ (512 < X.length ∨ 512 < Y.length)) := hlong
    clear hlong
    go_enter Try.func100, Try.ntmps100
    go_wp2_with (first
      | (go_at_call 98; refine (tooLong_sl v u X Y hX hY false hb).mono ?_; rintro e w' ⟨rfl, rfl⟩)
      | (go_at_call 93; refine (cut_sl _ _ (by assumption) (by assumption)).mono ?_; rintro e w' ⟨r, rfl, hr, rfl⟩)
      | (go_at_call 116; refine (product_any (trim X) (trim Y) _ _ _ (by assumption) (by assumption) uX' uY' lX' lY').mono ?_; rintro e w1 ⟨s, rfl, hs, hB⟩)
      | (go_at_call 109; refine (fitting_own _ _ hs hB).mono ?_; rintro e w' ⟨t, rfl, ht, rfl⟩))
    go_ret2
    exact ⟨Two.mk' ht (by unfold mulS; rw [if_neg HL.out, trim_val, trim_val]), hB⟩

theorem Cmp_sl {w : World} (v u : Value) (X Y : List Int) (h : Sl .u32 w v X) (h' : Sl .u32 w u Y) (uX : U32s X) (uY : U32s Y) (lX : X.length ≤ 1152921504606846976) (lY : Y.length ≤ 1152921504606846976) (c : Int) (hc : cmpI (val X) (val Y) = c) :
    Calls Try.prog 79 #[v, u] w fun e w' => e = .returned (.int .i64 c) ∧ Below w.heap.size w w' := by
  subst hc; exact Cmp_any X Y v u w h h' uX uY lX lY

theorem sig_le_of_val {X Y : List Int} (uX : U32s X) (uY : U32s Y) (h : val Y ≤ val X) : sig Y ≤ sig X := by
  apply Classical.byContradiction; intro hc
  have := val_lt_of_sig uX uY (by omega); omega

set_option maxHeartbeats 1000000 in
theorem Sub_any (X Y : List Int) (v u : Value) (w : World) (hX : Sl .u32 w v X) (hY : Sl .u32 w u Y) (uX : U32s X) (uY : U32s Y) :
    Calls Try.prog 81 #[v, u] w fun e w' => Two w.heap.size w' e (subS X Y) ∧ Below w.heap.size w w' := by
  by_cases hlong : 512 < X.length ∨ 512 < Y.length
  · have hb : (decide (512 < X.length) || decide (512 < Y.length)) = true := by simpa using hlong
    have HL : Hid (512 < X.length ∨ 512 < Y.length) := hlong
    clear hlong
    go_enter Try.func81, Try.ntmps81
    go_wp2_with (go_at_call 98; refine (tooLong_sl v u X Y hX hY true hb).mono ?_; rintro e w' ⟨rfl, rfl⟩)
    go_ret2
    exact ⟨Two.nil' (by unfold subS; rw [if_pos HL.out]), Below.refl _ _⟩
  have hb : (decide (512 < X.length) || decide (512 < Y.length)) = false := by simpa using hlong
  have lX : X.length ≤ 1152921504606846976 := by omega
  have lY : Y.length ≤ 1152921504606846976 := by omega
  have HL : Hid (¬ (512 < X.length ∨ 512 < Y.length)) := hlong
  by_cases hlt : val X < val Y
  · have hc : cmpI (val X) (val Y) = -1 := by unfold cmpI; rw [if_pos hlt]
    have HC : Hid (val X < val Y) := hlt
    clear hlong hlt
    go_enter Try.func81, Try.ntmps81
    go_wp2_with (first
      | (go_at_call 98; refine (tooLong_sl v u X Y hX hY false hb).mono ?_; rintro e w' ⟨rfl, rfl⟩)
      | (go_at_call 79; refine (Cmp_sl v u X Y hX hY uX uY lX lY _ hc).mono ?_; rintro e w1 ⟨rfl, hB⟩))
    go_ret2
    exact ⟨Two.nil' (by unfold subS; rw [if_neg HL.out, if_pos HC.out]), hB⟩
  · obtain ⟨c, hc, hc0⟩ : ∃ c, cmpI (val X) (val Y) = c ∧ 0 ≤ c := by
      unfold cmpI; rw [if_neg hlt]; split
      · exact ⟨1, rfl, by decide⟩
      · exact ⟨0, rfl, by decide⟩
    have HC : Hid (¬ val X < val Y) := hlt
    have uX' := trim_u32 uX
    have uY' := trim_u32 uY
    have lX' : (trim X).length ≤ 1099511627776 := by have := sig_le X; rw [trim_len]; omega
    have lXY : (trim Y).length ≤ (trim X).length := by rw [trim_len, trim_len]; exact sig_le_of_val uX uY (by omega)
    have hle : val (trim Y) ≤ val (trim X) := by rw [trim_val, trim_val]; omega
    clear hlong hlt
    go_enter Try.func81, Try.ntmps81
    go_wp2_with (first
      | (go_at_call 98; refine (tooLong_sl v u X Y hX hY false hb).mono ?_; rintro e w' ⟨rfl, rfl⟩)
      | (go_at_call 79; refine (Cmp_sl v u X Y hX hY uX uY lX lY _ hc).mono ?_; rintro e w1 ⟨rfl, hB⟩; have hX1 := below_sl hB hX; have hY1 := below_sl hB hY)
      | (go_at_call 93; refine (cut_sl _ _ (by assumption) (by assumption)).mono ?_; rintro e w' ⟨r, rfl, hr, rfl⟩)
      | (go_at_call 111; refine (difference_any (trim X) (trim Y) _ _ _ (by assumption) (by assumption) uX' uY' lX' lXY hle).mono ?_; rintro e w2 ⟨s, rfl, hs, hB2⟩))
    go_ret2
    rw [trim_val, trim_val] at hs
    exact ⟨Two.mk' (hs.mono hB.size) (by unfold subS; rw [if_neg HL.out, if_neg (by have := HC.out; omega)]), hB.trans (hB2.mono hB.size)⟩
end Go.Proofs.Yteagdgbcfbkfbaa.Nt
/-
  The walk of divideByLimb: any number by a limb.
-/
namespace Go.Proofs.Yteagdgbcfbkfbaa.Nt
open Go.RowKit

theorem or32 (l a : Int) (h0 : 0 ≤ l) (h1 : l < 4294967296) (a0 : 0 ≤ a) (a1 : a < 4294967296) : bits BinOp.or .u64 (l * 4294967296) a = l * 4294967296 + a := by
  obtain ⟨n, rfl⟩ := Int.eq_ofNat_of_zero_le h0
  obtain ⟨m, rfl⟩ := Int.eq_ofNat_of_zero_le a0
  have h := bits_or_u64_nat (n * 4294967296) m (by omega) (by omega)
  have e : n * 4294967296 ||| m = n * 4294967296 + m := by
    have := Nat.two_pow_add_eq_or_of_lt (i := 32) (b := m) (by omega) n
    rw [Nat.mul_comm n 4294967296]; exact this.symm
  rw [e] at h
  simpa using h

theorem quo_step (vs vx l b a q r : Int) (T : Int) (hT : T = l * 4294967296 + a) (hqr : T = q * b + r) (ih : vx = vs * b + l) : a + 4294967296 * vx = (q + 4294967296 * vs) * b + r := by
  rw [ih, Int.add_mul, Int.mul_assoc, Int.mul_add]; omega

theorem drop_set_self {S : List Int} {m : Nat} {z : Int} (h : m < S.length) : (S.set m z).drop m = z :: S.drop (m + 1) := by
  induction S generalizing m with
  | nil => simp at h
  | cons x S ih =>
    cases m with
    | zero => simp
    | succ m => simpa using ih (by simpa using h)

set_option maxHeartbeats 1000000 in
theorem divideByLimb_any (X : List Int) (d : Int) (v : Value) (w : World) (hX : Sl .u32 w v X) (uX : U32s X) (hd0 : 0 < d) (hd1 : d < 4294967296) (lX : X.length ≤ 1099511627776) :
    Calls Try.prog 119 #[v, .int .u32 d] w fun e w' => ∃ q r, e = .returned (.tuple #[q, r]) ∧ Own w.heap.size w' q (lim (val X / d).toNat) ∧ Own w.heap.size w' r (lim (val X % d).toNat) ∧ Below w.heap.size w w' := by
  obtain ⟨aX, cX, rfl, hcX, hXr⟩ := id hX
  go_enter Try.func119, Try.ntmps119
  go_wp2_with (at_make; refine wpList_mk _ rfl _ _ 22 rfl .u32 55 4 Try.und32 Try.info32 _ X.length rfl rfl (by omega) (by omega) (by omega) ?_; intro w1 hA1 hB1)
  go_loopw [6, 14] (fun lv iv wr => ∃ (k : Nat) (l : Int) (S : List Int), iv = .int .i64 k ∧ lv = .int .u64 l ∧ k ≤ X.length ∧ 0 ≤ l ∧ l < d ∧ Arr .u32 55 wr w.heap.size S ∧ U32s S ∧ S.length = X.length ∧ Below w.heap.size w wr ∧ val (X.drop (X.length - k)) = val (S.drop (X.length - k)) * d + l)
      (fun _ iv _ => X.length - (intOf iv).toNat)
  case atStart => exact ⟨0, 0, _, rfl, rfl, Nat.zero_le _, by decide, hd0, hA1, U32s.zeros _, by simp, hB1, by simp [val]⟩
  case round =>
    clear hA1 hB1
    obtain ⟨k, l, S, rfl, rfl, hk, hl0, hl1, hA, huS, hlS, hB, hv⟩ := hrel
    by_cases hlt : k < X.length
    · rcases hXr with rfl | ⟨b, o, rfl, hb, hr⟩
      · simp at hlt
      obtain ⟨m, hm⟩ : ∃ m, X.length - 1 - k = m := ⟨_, rfl⟩
      obtain ⟨a, ha⟩ : ∃ a, X.getD m 0 = a := ⟨_, rfl⟩
      have ua : U32 a := ha ▸ uX.at m
      have hca : wr.cell? ⟨b, o + m, none⟩ = some (.int .u32 a) := by rw [← ha]; exact (below_rd hB hb hr) m (by omega)
      obtain ⟨z, hcz⟩ : ∃ z, wr.cell? ⟨w.heap.size, m, none⟩ = some (.int .u32 z) := ⟨_, hA.cell m (by omega)⟩
      have hfz : wr.frozen? ⟨w.heap.size, m, none⟩ = false := hA.frozen m
      have hidx : ((X.length : Int) - 1 - k).toNat = m := by omega
      have hmi : ((X.length : Int) - 1 - k) = m := by omega
      obtain ⟨a0, a1⟩ := ua
      have hor := or32 l a hl0 (by omega) a0 a1
      have hq0 : 0 ≤ (l * 4294967296 + a) / d := Int.ediv_nonneg (by omega) (by omega)
      have hq1 : (l * 4294967296 + a) / d < 4294967296 := Int.ediv_lt_of_lt_mul hd0 (by omega)
      have hr0 : 0 ≤ (l * 4294967296 + a) % d := Int.emod_nonneg _ (by omega)
      have hr1 : (l * 4294967296 + a) % d < d := Int.emod_lt_of_pos _ hd0
      have HH : Hid (X.getD m 0 = a ∧ Arr .u32 55 wr w.heap.size S ∧ U32s S ∧ S.length = X.length ∧ Below w.heap.size w wr ∧ val (X.drop (X.length - k)) = val (S.drop (X.length - k)) * d + l ∧ X.length - 1 - k = m) := ⟨ha, hA, huS, hlS, hB, hv, hm⟩
      clear hA huS hlS hB hv ha hm hr hX uX
      go_wp2
      go_roundw
      case rel =>
        obtain ⟨ha, hA, huS, hlS, hB, hv, hm⟩ := HH.out
        have hdm : (l * 4294967296 + a) = (l * 4294967296 + a) / d * d + (l * 4294967296 + a) % d := by have := Int.mul_ediv_add_emod (l * 4294967296 + a) d; rw [Int.mul_comm] at this; omega
        refine ⟨k + 1, _, S.set m ((l * 4294967296 + a) / d), by go_num, rfl, by omega, hr0, hr1, hA.set _ _, huS.set _ ⟨hq0, hq1⟩, by simpa using hlS, hB.setCell (Nat.le_refl _) _, ?_⟩
        have e1 : X.length - (k + 1) = m := by omega
        have e2 : X.length - k = m + 1 := by omega
        rw [e2] at hv
        rw [e1, List.drop_eq_getElem_cons (show m < X.length by omega), drop_set_self (by omega)]
        simp only [val]
        have e3 : X[m]'(by omega) = a := by rw [← ha]; simp [show m < X.length by omega]
        rw [e3]
        exact quo_step _ _ l d a _ _ _ rfl hdm hv
      case measure => simp [intOf]; omega
    · have hkX : k = X.length := by omega
      have hsl := hA.sl
      rw [hlS] at hsl
      have hcut := cut_any S (some ⟨w.heap.size, 0, none⟩) X.length wr (by rw [hlS]; exact hsl) (by omega)
      rw [hlS] at hcut
      have HH : Hid (Arr .u32 55 wr w.heap.size S ∧ U32s S ∧ S.length = X.length ∧ Below w.heap.size w wr ∧ val (X.drop (X.length - k)) = val (S.drop (X.length - k)) * d + l ∧ k = X.length) := ⟨hA, huS, hlS, hB, hv, hkX⟩
      clear hA huS hlS hB hv hsl hkX
      go_wp2_with (first
        | (go_at_call 93; refine hcut.mono ?_; rintro e w' ⟨rfl, rfl⟩)
        | (go_at_call 70; refine (Small_any l hl0 (by omega) _).mono ?_; rintro e w2 ⟨r, rfl, hr, hB2⟩))
      go_ret2
      obtain ⟨hA, huS, hlS, hB, hv, rfl⟩ := HH.out
      simp only [Nat.sub_self, List.drop_zero] at hv
      have hO := Own.cut (B := w.heap.size) hA huS (Nat.le_refl _) (by omega)
      rw [hlS] at hO
      have e1 : val X / d = val S := by
        rw [hv, Int.add_comm, Int.add_mul_ediv_right _ _ (by omega), Int.ediv_eq_zero_of_lt hl0 hl1]; omega
      have e2 : val X % d = l := by
        rw [hv, Int.add_comm, Int.add_mul_emod_self_right, Int.emod_eq_of_lt hl0 hl1]
      refine ⟨_, _, rfl, ?_, ?_, hB.trans (hB2.mono hB.size)⟩
      · rw [e1]; exact hO.below hB2
      · rw [e2]; exact hr.mono hB.size
end Go.Proofs.Yteagdgbcfbkfbaa.Nt
/-
  The walks of Len32, Bits.
-/
namespace Go.Proofs.Yteagdgbcfbkfbaa.Nt
open Go.RowKit

theorem w64 (z : Int) (h0 : 0 ≤ z) (h1 : z < 9223372036854775808) : wrap64 z = z := by unfold wrap64; omega

set_option maxRecDepth 1000000 in
set_option maxHeartbeats 2000000 in
theorem Len32_any (x : Int) (hx : U32 x) (w : World) :
    Calls Try.prog 114 #[.int .u32 x] w fun e w' => e = .returned (.int .i64 (bitLen x.toNat)) ∧ w' = w := by
  obtain ⟨h0, h1⟩ := hx
  by_cases g1 : 65536 ≤ x
  · have s1 := bitLen_shift x.toNat 16 (by omega)
    by_cases g2 : 256 ≤ x / 65536
    · have s2 := bitLen_shift (x.toNat / 2 ^ 16) 8 (by omega)
      have e1 : x.toNat / 2 ^ 16 / 2 ^ 8 = (x / 65536 / 256).toNat := by omega
      rw [e1] at s2
      have HS : Hid (bitLen x.toNat = 16 + (8 + bitLen (x / 65536 / 256).toNat)) := by rw [s1, s2]; rfl
      have g3 : x / 65536 / 256 < 256 := by omega
      have g4 : 0 ≤ x / 65536 / 256 := by omega
      have l8 := bitLen_le8 (x / 65536 / 256).toNat (by omega)
      clear s1 s2 e1
      go_enter Try.func114, Try.ntmps114
      go_wp2
      go_ret
      refine ⟨ret_int ?_, rfl⟩
      rw [HS.out, len8tab_get, w64 (bitLen _) (by omega) (by omega), w64 _ (by omega) (by omega)]; omega
    · have e1 : x.toNat / 2 ^ 16 = (x / 65536).toNat := by omega
      rw [e1] at s1
      have HS : Hid (bitLen x.toNat = 16 + bitLen (x / 65536).toNat) := s1
      have g3 : x / 65536 < 256 := by omega
      have g4 : 0 ≤ x / 65536 := by omega
      have l8 := bitLen_le8 (x / 65536).toNat (by omega)
      clear s1 e1
      go_enter Try.func114, Try.ntmps114
      go_wp2
      go_ret
      refine ⟨ret_int ?_, rfl⟩
      rw [HS.out, len8tab_get, w64 (bitLen _) (by omega) (by omega), w64 _ (by omega) (by omega)]; omega
  · by_cases g2 : 256 ≤ x
    · have s1 := bitLen_shift x.toNat 8 (by omega)
      have e1 : x.toNat / 2 ^ 8 = (x / 256).toNat := by omega
      rw [e1] at s1
      have HS : Hid (bitLen x.toNat = 8 + bitLen (x / 256).toNat) := s1
      have g3 : x / 256 < 256 := by omega
      have g4 : 0 ≤ x / 256 := by omega
      have l8 := bitLen_le8 (x / 256).toNat (by omega)
      clear s1 e1
      go_enter Try.func114, Try.ntmps114
      go_wp2
      go_ret
      refine ⟨ret_int ?_, rfl⟩
      rw [HS.out, len8tab_get, w64 (bitLen _) (by omega) (by omega), w64 _ (by omega) (by omega)]; omega
    · have g3 : x < 256 := by omega
      have l8 := bitLen_le8 x.toNat (by omega)
      go_enter Try.func114, Try.ntmps114
      go_wp2
      go_ret
      refine ⟨ret_int ?_, rfl⟩
      rw [len8tab_get, w64 (bitLen _) (by omega) (by omega), w64 (bitLen _) (by omega) (by omega)]

theorem pow32 (m : Nat) : (4294967296 : Int) ^ m = ((2 ^ (32 * m) : Nat) : Int) := by
  rw [Nat.pow_mul]; simp
theorem top_div {xs : List Int} {m : Nat} (hu : U32s xs) (h : sig xs = m + 1) : (val xs).toNat / 2 ^ (32 * m) = (xs.getD m 0).toNat ∧ (xs.getD m 0).toNat ≠ 0 := by
  have hl := sig_le xs
  have e := val_take_sig xs
  rw [h, val_take_succ _ _ (by omega)] at e
  have h1 := val_nonneg (hu.take m); have h2 := val_lt (hu.take m)
  rw [List.length_take, Nat.min_eq_left (by omega)] at h2
  have h3 := hu.at m
  have h4 := sig_pos hu (by omega : 0 < sig xs)
  rw [h, Nat.add_sub_cancel] at h4
  obtain ⟨t, ht⟩ := Int.eq_ofNat_of_zero_le h1
  obtain ⟨y, hy⟩ := Int.eq_ofNat_of_zero_le h3.1
  rw [hy] at h4 ⊢
  refine ⟨?_, by omega⟩
  rw [ht, hy, pow32] at e
  rw [ht, pow32] at h2
  have e2 : (val xs).toNat = t + 2 ^ (32 * m) * y := by rw [← e]; exact Int.toNat_natCast (t + 2 ^ (32 * m) * y)
  have h5 : t < 2 ^ (32 * m) := by exact_mod_cast h2
  rw [e2, Nat.add_mul_div_left _ _ (by omega), Nat.div_eq_of_lt h5]; simp

set_option maxHeartbeats 1000000 in
theorem Bits_any (xs : List Int) (v : Value) (w : World) (hx : Sl .u32 w v xs) (ux : U32s xs) (lx : xs.length ≤ 36028797018963968) :
    Calls Try.prog 89 #[v] w fun e w' => e = .returned (.int .i64 (bitLen (val xs).toNat)) ∧ Below w.heap.size w w' := by
  obtain ⟨a1, c1, rfl, hc1, h1⟩ := id hx
  have hl := sig_le xs
  by_cases h0 : sig xs = 0
  · have hlen : Len w (.slice a1 xs.length c1) 0 := ⟨xs, hx, by omega, h0⟩
    have HB : Hid (bitLen (val xs).toNat = 0) := by rw [val_of_sig0 h0]; rfl
    clear h0
    go_enter Try.func89, Try.ntmps89
    go_wp2_with (go_at_call 78; refine (length_len _ _ hlen).mono ?_; rintro e w' ⟨rfl, rfl⟩)
    go_ret
    exact ⟨ret_int (by rw [HB.out]; rfl), Below.refl _ _⟩
  · obtain ⟨m, hm⟩ : ∃ m, sig xs = m + 1 := ⟨sig xs - 1, by omega⟩
    have hlen : Len w (.slice a1 xs.length c1) (m + 1) := ⟨xs, hx, by omega, hm⟩
    obtain ⟨ht, ht0⟩ := top_div ux hm
    obtain ⟨y, hy⟩ : ∃ y, xs.getD m 0 = y := ⟨_, rfl⟩
    have uy : U32 y := hy ▸ ux.at m
    rw [hy] at ht ht0
    have hs := bitLen_shift (val xs).toNat (32 * m) (by rw [ht]; exact ht0)
    rw [ht] at hs
    have HB : Hid (bitLen (val xs).toNat = 32 * m + bitLen y.toNat) := hs
    rcases h1 with rfl | ⟨b, o, rfl, hb, hr⟩
    · simp at hl; omega
    have hcy : w.cell? ⟨b, o + m, none⟩ = some (.int .u32 y) := by rw [← hy]; exact hr m (by omega)
    have hb32 : bitLen y.toNat ≤ 32 := by
      have := bitLen_spec y.toNat
      apply Classical.byContradiction; intro hc
      have h2 := this.2 (by omega)
      have h3 : 2 ^ 32 ≤ 2 ^ (bitLen y.toNat - 1) := Nat.pow_le_pow_right (by decide) (by omega)
      obtain ⟨u1, u2⟩ := uy
      omega
    obtain ⟨bl, hbl⟩ : ∃ bl, bitLen y.toNat = bl := ⟨_, rfl⟩
    have hcall := Len32_any y uy w
    rw [hbl] at hb32 hcall
    have HB2 : Hid (bitLen (val xs).toNat = 32 * m + bl) := by rw [← hbl]; exact HB.out
    have hmx : m < xs.length := by omega
    clear hs ht ht0 hr h0 hm hy hx hl HB hbl
    go_enter Try.func89, Try.ntmps89
    go_wp2_with (first
      | (go_at_call 78; refine (length_len _ _ hlen).mono ?_; rintro e w' ⟨rfl, rfl⟩)
      | (go_at_call 114; refine hcall.mono ?_; rintro e w' ⟨rfl, rfl⟩))
    go_ret
    exact ⟨ret_int (by rw [HB2.out]; simp), Below.refl _ _⟩
end Go.Proofs.Yteagdgbcfbkfbaa.Nt
/-
  The walks of divide, rest, DivMod: any quotient and rest (the long division's own walk is handed in as a hypothesis: LongOK).
-/
namespace Go.Proofs.Yteagdgbcfbkfbaa.Nt
open Go.RowKit

/-- Quotient and rest as two results. -/
def QR (B : Nat) (w : World) (e : Ending) (x y : Int) : Prop := ∃ q r, e = .returned (.tuple #[q, r]) ∧ Own B w q (lim (x / y).toNat) ∧ Own B w r (lim (x % y).toNat)

/-- The long division keeps its promise. -/
def LongOK : Prop := ∀ (X Y : List Int) (v u : Value) (w : World), Sl .u32 w v X → Sl .u32 w u Y → U32s X → U32s Y → sig X = X.length → sig Y = Y.length → 2 ≤ Y.length → val Y ≤ val X → X.length ≤ 1073741824 →
    Calls Try.prog 120 #[v, u] w fun e w' => QR w.heap.size w' e (val X) (val Y) ∧ Below w.heap.size w w'

set_option maxHeartbeats 1000000 in
theorem divide_any (X Y : List Int) (v u : Value) (w : World) (hX : Sl .u32 w v X) (hY : Sl .u32 w u Y) (uX : U32s X) (uY : U32s Y) (sX : sig X = X.length) (sY : sig Y = Y.length) (h0 : Y ≠ []) (lX : X.length ≤ 1073741824) (lY : Y.length ≤ 1073741824)
    (H : Y.length = 1 ∨ LongOK) :
    Calls Try.prog 113 #[v, u] w fun e w' => QR w.heap.size w' e (val X) (val Y) ∧ Below w.heap.size w w' := by
  have hY0 : 0 < Y.length := by cases Y <;> simp at *
  obtain ⟨a1, c1, rfl, _⟩ := hX.len
  obtain ⟨a2, c2, rfl, hc2, hYr⟩ := id hY
  have nX := val_nonneg uX
  by_cases hlt : val X < val Y
  · have hc : cmpI (val X) (val Y) = -1 := by unfold cmpI; rw [if_pos hlt]
    have HE : Hid (val X / val Y = 0 ∧ val X % val Y = val X) := ⟨Int.ediv_eq_zero_of_lt nX hlt, Int.emod_eq_of_lt nX hlt⟩
    clear hlt
    go_enter Try.func113, Try.ntmps113
    go_wp2_with (first
      | (go_at_call 79; refine (Cmp_sl _ _ X Y hX hY uX uY (by omega) (by omega) _ hc).mono ?_; rintro e w1 ⟨rfl, hB⟩; have hX1 := below_sl hB hX)
      | (go_at_call 44; refine (Trim_any X _ _ hX1 uX (by omega)).mono ?_; rintro e w2 ⟨r, rfl, hr, hB2⟩))
    go_ret2
    obtain ⟨e1, e2⟩ := HE.out
    refine ⟨⟨_, _, rfl, ?_, ?_⟩, hB.trans (hB2.mono hB.size)⟩
    · rw [e1]; exact .inl ⟨rfl, by simp [lim_zero]⟩
    · rw [e2]; exact hr.mono hB.size
  · obtain ⟨c, hc, hc0⟩ : ∃ c, cmpI (val X) (val Y) = c ∧ 0 ≤ c := by
      unfold cmpI; rw [if_neg hlt]; split
      · exact ⟨1, rfl, by decide⟩
      · exact ⟨0, rfl, by decide⟩
    by_cases h1 : Y.length = 1
    · obtain ⟨y, rfl⟩ : ∃ y, Y = [y] := by
        match Y, h1 with
        | [y], _ => exact ⟨y, rfl⟩
      have uy : U32 y := uY.head
      have hy0 : y ≠ 0 := by intro h; subst h; simp [sig] at sY
      have hvy : val [y] = y := by simp [val]
      rcases hYr with hYr | ⟨b, o, rfl, hb, hr⟩
      · simp at hYr
      have hcell := hr 0 (by simp)
      simp at hcell
      have HE : Hid (val [y] = y) := hvy
      obtain ⟨u1, u2⟩ := uy
      have hy1 : 0 < y := by omega
      clear hlt hr hvy sY h1
      simp only [List.length_cons, List.length_nil] at hY hc2 ⊢
      go_enter Try.func113, Try.ntmps113
      go_wp2_with (first
        | (go_at_call 79; refine (Cmp_sl _ _ X [y] hX hY uX uY (by omega) (by simp) _ hc).mono ?_; rintro e w1 ⟨rfl, hB⟩; have hX1 := below_sl hB hX; have hcell1 := (hB.cell (p := ⟨b, o, none⟩) hb).trans hcell)
        | (go_at_call 119; refine (divideByLimb_any X y _ _ hX1 uX hy1 u2 (by omega)).mono ?_; rintro e w2 ⟨q, r, rfl, hq, hr, hB2⟩))
      go_ret2
      rw [HE.out]
      exact ⟨⟨_, _, rfl, hq.mono hB.size, hr.mono hB.size⟩, hB.trans (hB2.mono hB.size)⟩
    · have H2 : LongOK := by rcases H with h | h; exact absurd h h1; exact h
      have HH : Hid (LongOK ∧ val Y ≤ val X) := ⟨H2, by omega⟩
      have hY2 : 2 ≤ Y.length := by omega
      clear hlt H H2 hYr
      go_enter Try.func113, Try.ntmps113
      go_wp2_with (first
        | (go_at_call 79; refine (Cmp_sl _ _ X Y hX hY uX uY (by omega) (by omega) _ hc).mono ?_; rintro e w1 ⟨rfl, hB⟩; have hX1 := below_sl hB hX; have hY1 := below_sl hB hY)
        | (go_at_call 120; refine (HH.out.1 X Y _ _ _ hX1 hY1 uX uY sX sY hY2 HH.out.2 lX).mono ?_; rintro e w2 ⟨⟨q, r, rfl, hq, hr⟩, hB2⟩))
      go_ret2
      exact ⟨⟨_, _, rfl, hq.mono hB.size, hr.mono hB.size⟩, hB.trans (hB2.mono hB.size)⟩

set_option maxHeartbeats 400000 in
theorem rest_any (X Y : List Int) (v u : Value) (w : World) (hX : Sl .u32 w v X) (hY : Sl .u32 w u Y) (uX : U32s X) (uY : U32s Y) (sX : sig X = X.length) (sY : sig Y = Y.length) (h0 : Y ≠ []) (lX : X.length ≤ 1073741824) (lY : Y.length ≤ 1073741824)
    (H : Y.length = 1 ∨ LongOK) :
    Calls Try.prog 115 #[v, u] w fun e w' => ∃ r, e = .returned r ∧ Own w.heap.size w' r (lim (val X % val Y).toNat) ∧ Below w.heap.size w w' := by
  go_enter Try.func115, Try.ntmps115
  go_wp2_with (go_at_call 113; refine (divide_any X Y v u w hX hY uX uY sX sY h0 lX lY H).mono ?_; rintro e w2 ⟨⟨q, r, rfl, hq, hr⟩, hB2⟩)
  go_ret
  exact ⟨_, rfl, hr, hB2⟩

/-- Three results: quotient, rest, error. -/
def divS (X Y : List Int) : List Int × List Int × Int := if 512 < X.length ∨ 512 < Y.length then ([], [], 3) else if val Y = 0 then ([], [], 11) else (lim (val X / val Y).toNat, lim (val X % val Y).toNat, 0)
def Three (B : Nat) (w : World) (e : Ending) (s : List Int × List Int × Int) : Prop := ∃ q r, e = .returned (.tuple #[q, r, .int .i64 s.2.2]) ∧ Own B w q s.1 ∧ Own B w r s.2.1
theorem Three.nil' {B : Nat} {w : World} {n : Int} {s : List Int × List Int × Int} (hs : s = ([], [], n)) : Three B w (.returned (.tuple #[.slice none 0 0, .slice none 0 0, .int .i64 n])) s := by
  subst hs; exact ⟨_, _, rfl, .inl ⟨rfl, rfl⟩, .inl ⟨rfl, rfl⟩⟩
theorem Three.mk' {B : Nat} {w : World} {q r : Value} {n : Int} {L M : List Int} {s : List Int × List Int × Int} (h : Own B w q L) (h' : Own B w r M) (hs : s = (L, M, n)) : Three B w (.returned (.tuple #[q, r, .int .i64 n])) s := by
  subst hs; exact ⟨_, _, rfl, h, h'⟩

set_option maxHeartbeats 1000000 in
theorem DivMod_any (X Y : List Int) (v u : Value) (w : World) (hX : Sl .u32 w v X) (hY : Sl .u32 w u Y) (uX : U32s X) (uY : U32s Y) (H : sig Y ≤ 1 ∨ LongOK) :
    Calls Try.prog 88 #[v, u] w fun e w' => Three w.heap.size w' e (divS X Y) ∧ Below w.heap.size w w' := by
  by_cases hlong : 512 < X.length ∨ 512 < Y.length
  · have hb : (decide (512 < X.length) || decide (512 < Y.length)) = true := by simpa using hlong
    have HL : Hid (512 < X.length ∨ 512 < Y.length) := hlong
    clear hlong
    go_enter Try.func88, Try.ntmps88
    go_wp2_with (go_at_call 98; refine (tooLong_sl v u X Y hX hY true hb).mono ?_; rintro e w' ⟨rfl, rfl⟩)
    go_ret3
    exact ⟨Three.nil' (by unfold divS; rw [if_pos HL.out]), Below.refl _ _⟩
  have hb : (decide (512 < X.length) || decide (512 < Y.length)) = false := by simpa using hlong
  have lX : X.length ≤ 1152921504606846976 := by omega
  have lY : Y.length ≤ 1152921504606846976 := by omega
  have HL : Hid (¬ (512 < X.length ∨ 512 < Y.length)) := hlong
  by_cases hz : sig Y = 0
  · have hlen : Len w u 0 := ⟨Y, hY, lY, hz⟩
    have HZ : Hid (val Y = 0) := val_of_sig0 hz
    clear hlong hz
    go_enter Try.func88, Try.ntmps88
    go_wp2_with (first
      | (go_at_call 98; refine (tooLong_sl v u X Y hX hY false hb).mono ?_; rintro e w' ⟨rfl, rfl⟩)
      | (go_at_call 78; refine (length_len _ _ hlen).mono ?_; rintro e w' ⟨rfl, rfl⟩))
    go_ret3
    exact ⟨Three.nil' (by unfold divS; rw [if_neg HL.out, if_pos HZ.out]), Below.refl _ _⟩
  · obtain ⟨m, hm⟩ : ∃ m, sig Y = m + 1 := ⟨sig Y - 1, by omega⟩
    have hlen : Len w u (m + 1) := ⟨Y, hY, lY, hm⟩
    have HZ : Hid (¬ val Y = 0) := fun h => hz (sig0_of_val uY h)
    have uX' := trim_u32 uX
    have uY' := trim_u32 uY
    have lX' : (trim X).length ≤ 1073741824 := by have := sig_le X; rw [trim_len]; omega
    have lY' : (trim Y).length ≤ 1073741824 := by have := sig_le Y; rw [trim_len]; omega
    have hne : trim Y ≠ [] := by intro h; have := trim_len Y; rw [h] at this; simp at this; omega
    have H2 : (trim Y).length = 1 ∨ LongOK := by rw [trim_len]; rcases H with h | h; exact .inl (by omega); exact .inr h
    have HH : Hid ((trim Y).length = 1 ∨ LongOK) := H2
    clear hlong hz hm H H2
    go_enter Try.func88, Try.ntmps88
    go_wp2_with (first
      | (go_at_call 98; refine (tooLong_sl v u X Y hX hY false hb).mono ?_; rintro e w' ⟨rfl, rfl⟩)
      | (go_at_call 78; refine (length_len _ _ hlen).mono ?_; rintro e w' ⟨rfl, rfl⟩)
      | (go_at_call 93; refine (cut_sl _ _ (by assumption) (by assumption)).mono ?_; rintro e w' ⟨r, rfl, hr, rfl⟩)
      | (go_at_call 113; refine (divide_any (trim X) (trim Y) _ _ _ (by assumption) (by assumption) uX' uY' (trim_sig X) (trim_sig Y) hne lX' lY' HH.out).mono ?_; rintro e w2 ⟨⟨q, r, rfl, hq, hr⟩, hB2⟩))
    go_ret3
    rw [trim_val, trim_val] at hq hr
    exact ⟨Three.mk' hq hr (by unfold divS; rw [if_neg HL.out, if_neg HZ.out]), hB2⟩
end Go.Proofs.Yteagdgbcfbkfbaa.Nt
/-
  Numbers by their values: the contracts above, said of values alone; the walks of hasBit, power, ExpMod.
-/
namespace Go.Proofs.Yteagdgbcfbkfbaa.Nt
open Go.RowKit

/-- The slice v reads the number N (no limb 0 at its end), of at most k limbs. -/
def Num (k : Nat) (w : World) (v : Value) (N : Int) : Prop := 0 ≤ N ∧ N < 4294967296 ^ k ∧ Sl .u32 w v (lim N.toNat)
theorem Num.len {k : Nat} {w : World} {v : Value} {N : Int} (h : Num k w v N) : (lim N.toNat).length ≤ k := lim_len_le (by rw [Int.toNat_of_nonneg h.1]; exact h.2.1)
theorem Num.val {k : Nat} {w : World} {v : Value} {N : Int} (h : Num k w v N) : Go.Proofs.Yteagdgbcfbkfbaa.val (lim N.toNat) = N := by rw [val_lim, Int.toNat_of_nonneg h.1]
theorem Num.below {k : Nat} {w w' : World} {v : Value} {N : Int} (h : Num k w v N) (hb : Below w.heap.size w w') : Num k w' v N := ⟨h.1, h.2.1, below_sl hb h.2.2⟩
theorem Num.of_own {k B : Nat} {w : World} {v : Value} {N : Int} (h : Own B w v (lim N.toNat)) (h0 : 0 ≤ N) (h1 : N < 4294967296 ^ k) : Num k w v N := ⟨h0, h1, h.sl⟩
theorem Num.of_trim {w : World} {v : Value} {X : List Int} (h : Sl .u32 w v (trim X)) (uX : U32s X) : Num X.length w v (Go.Proofs.Yteagdgbcfbkfbaa.val X) := by
  refine ⟨val_nonneg uX, val_lt uX, ?_⟩
  rw [← take_sig_lim uX]; exact h
theorem Num.mono {k k' : Nat} {w : World} {v : Value} {N : Int} (h : Num k w v N) (hk : k ≤ k') : Num k' w v N := ⟨h.1, Int.lt_of_lt_of_le h.2.1 (pow_mono hk), h.2.2⟩
theorem lim_nil {n : Nat} (h : lim n = []) : n = 0 := by have := val_lim n; rw [h] at this; simp [Go.Proofs.Yteagdgbcfbkfbaa.val] at this; omega
theorem lim_len_one {N : Int} (h0 : 0 < N) (h1 : N < 4294967296) : (lim N.toNat).length = 1 := by
  rw [lim_pos (by omega)]
  have : N.toNat / 4294967296 = 0 := by omega
  rw [this, lim_zero]; rfl

theorem product_num {k j : Nat} {w : World} (v u : Value) (x y : Int) (hx : Num k w v x) (hy : Num j w u y) (hk : k ≤ 1073741824) (hj : j ≤ 1073741824) :
    Calls Try.prog 116 #[v, u] w fun e w' => ∃ r, e = .returned r ∧ Own w.heap.size w' r (lim (x * y).toNat) ∧ Num (k + j) w' r (x * y) ∧ Below w.heap.size w w' := by
  have lx := hx.len; have ly := hy.len
  refine (product_any _ _ v u w hx.2.2 hy.2.2 (lim_u32 _) (lim_u32 _) (by omega) (by omega)).mono ?_
  rintro e w' ⟨r, rfl, hr, hB⟩
  rw [hx.val, hy.val] at hr
  refine ⟨r, rfl, hr, Num.of_own hr (Int.mul_nonneg hx.1 hy.1) ?_, hB⟩
  rw [Int.pow_add]
  calc x * y ≤ x * 4294967296 ^ j := Int.mul_le_mul_of_nonneg_left (Int.le_of_lt hy.2.1) hx.1
    _ < 4294967296 ^ k * 4294967296 ^ j := Int.mul_lt_mul_of_pos_right hx.2.1 (pow_pos32 j)

theorem rest_num {k j : Nat} {w : World} (v u : Value) (x y : Int) (hx : Num k w v x) (hy : Num j w u y) (hk : k ≤ 1073741824) (hj : j ≤ 1073741824) (h0 : 0 < y) (H : y < 4294967296 ∨ LongOK) :
    Calls Try.prog 115 #[v, u] w fun e w' => ∃ r, e = .returned r ∧ Own w.heap.size w' r (lim (x % y).toNat) ∧ Num j w' r (x % y) ∧ Below w.heap.size w w' := by
  have lx := hx.len; have ly := hy.len
  refine (rest_any _ _ v u w hx.2.2 hy.2.2 (lim_u32 _) (lim_u32 _) (sig_lim _) (sig_lim _) (fun h => by have := lim_nil h; omega) (by omega) (by omega) ?_).mono ?_
  · rcases H with h | h
    · exact .inl (lim_len_one h0 h)
    · exact .inr h
  rintro e w' ⟨r, rfl, hr, hB⟩
  rw [hx.val, hy.val] at hr
  have h1 := Int.emod_nonneg x (b := y) (by omega); have h2 := Int.emod_lt_of_pos x h0
  exact ⟨r, rfl, hr, Num.of_own hr h1 (Int.lt_trans h2 hy.2.1), hB⟩

theorem divide_num {k j : Nat} {w : World} (v u : Value) (x y : Int) (hx : Num k w v x) (hy : Num j w u y) (hk : k ≤ 1073741824) (hj : j ≤ 1073741824) (h0 : 0 < y) (H : y < 4294967296 ∨ LongOK) :
    Calls Try.prog 113 #[v, u] w fun e w' => ∃ q r, e = .returned (.tuple #[q, r]) ∧ Own w.heap.size w' q (lim (x / y).toNat) ∧ Own w.heap.size w' r (lim (x % y).toNat) ∧ Num k w' q (x / y) ∧ Num j w' r (x % y) ∧ Below w.heap.size w w' := by
  have lx := hx.len; have ly := hy.len
  refine (divide_any _ _ v u w hx.2.2 hy.2.2 (lim_u32 _) (lim_u32 _) (sig_lim _) (sig_lim _) (fun h => by have := lim_nil h; omega) (by omega) (by omega) ?_).mono ?_
  · rcases H with h | h
    · exact .inl (lim_len_one h0 h)
    · exact .inr h
  rintro e w' ⟨⟨q, r, rfl, hq, hr⟩, hB⟩
  rw [hx.val, hy.val] at hr hq
  have h1 := Int.emod_nonneg x (b := y) (by omega); have h2 := Int.emod_lt_of_pos x h0
  have h3 := Int.ediv_nonneg hx.1 (Int.le_of_lt h0); have h4 : x / y ≤ x := Int.ediv_le_self _ hx.1
  exact ⟨q, r, rfl, hq, hr, Num.of_own hq h3 (Int.lt_of_le_of_lt h4 hx.2.1), Num.of_own hr h1 (Int.lt_trans h2 hy.2.1), hB⟩

theorem sum_num {k : Nat} {w : World} (v u : Value) (x y : Int) (hx : Num k w v x) (hy : Num k w u y) (hk : k ≤ 1073741824) :
    Calls Try.prog 110 #[v, u] w fun e w' => ∃ r, e = .returned r ∧ Own w.heap.size w' r (lim (x + y).toNat) ∧ Num (k + 1) w' r (x + y) ∧ Below w.heap.size w w' := by
  have lx := hx.len; have ly := hy.len
  refine (sum_any _ _ v u w hx.2.2 hy.2.2 (lim_u32 _) (lim_u32 _) (by omega) (by omega)).mono ?_
  rintro e w' ⟨r, rfl, hr, hB⟩
  rw [hx.val, hy.val] at hr
  have := hx.1; have := hx.2.1; have := hy.1; have := hy.2.1
  exact ⟨r, rfl, hr, Num.of_own hr (by omega) (by rw [pow_succ32]; omega), hB⟩

theorem difference_num {k j : Nat} {w : World} (v u : Value) (x y : Int) (hx : Num k w v x) (hy : Num j w u y) (hk : k ≤ 1073741824) (hle : y ≤ x) :
    Calls Try.prog 111 #[v, u] w fun e w' => ∃ r, e = .returned r ∧ Own w.heap.size w' r (lim (x - y).toNat) ∧ Num k w' r (x - y) ∧ Below w.heap.size w w' := by
  have lx := hx.len
  have hv : Go.Proofs.Yteagdgbcfbkfbaa.val (lim y.toNat) ≤ Go.Proofs.Yteagdgbcfbkfbaa.val (lim x.toNat) := by rw [hx.val, hy.val]; exact hle
  have hl := sig_le_of_val (lim_u32 _) (lim_u32 _) hv
  rw [sig_lim, sig_lim] at hl
  refine (difference_any _ _ v u w hx.2.2 hy.2.2 (lim_u32 _) (lim_u32 _) (by omega) hl hv).mono ?_
  rintro e w' ⟨r, rfl, hr, hB⟩
  rw [hx.val, hy.val] at hr
  have := hx.1; have := hx.2.1; have := hy.1
  exact ⟨r, rfl, hr, Num.of_own hr (by omega) (by omega), hB⟩

/-! ### hasBit -/
theorem and1 (x : Int) (h0 : 0 ≤ x) (h1 : x < 4294967296) : bits BinOp.and .u32 x 1 = x % 2 := by go_bits2

theorem getD_div (xs : List Int) (i : Nat) (hu : U32s xs) : (val xs).toNat / 2 ^ (32 * i) % 4294967296 = (xs.getD i 0).toNat := by
  induction i generalizing xs with
  | zero =>
    rw [val_head_tail]
    have h1 := hu.at 0; unfold U32 at h1
    have h2 := val_nonneg hu.tl
    simp only [Nat.mul_zero, Nat.pow_zero, Nat.div_one]; omega
  | succ i ih =>
    have := ih xs.tail hu.tl
    rw [getD_tail] at this
    rw [← this, val_head_tail xs]
    have h1 := hu.at 0; unfold U32 at h1
    have h2 := val_nonneg hu.tl
    rw [Nat.mul_add, Nat.mul_one, Nat.add_comm, Nat.pow_add, ← Nat.div_div_eq_div_mul]
    congr 2; omega

theorem bit_eq (v i : Nat) : v / 2 ^ (32 * (i / 32)) % 4294967296 / 2 ^ (i % 32) % 2 = v / 2 ^ i % 2 := by
  have e : (4294967296 : Nat) = 2 ^ (i % 32) * 2 ^ (32 - i % 32) := by rw [← Nat.pow_add, show i % 32 + (32 - i % 32) = 32 by omega]
  have e2 : i = 32 * (i / 32) + i % 32 := by omega
  rw [e, Nat.mod_mul_right_div_self, Nat.div_div_eq_div_mul, ← Nat.pow_add, ← e2]
  have e3 : 2 ^ (32 - i % 32) = 2 * 2 ^ (31 - i % 32) := by rw [Nat.mul_comm, ← Nat.pow_succ]; congr 1; omega
  rw [e3, Nat.mod_mul_right_mod]

/-! ### power -/
theorem pow_dbl (v M : Int) (t : Nat) : (v ^ t % M) * (v ^ t % M) % M = v ^ (2 * t) % M := by
  rw [← Int.mul_emod, ← Int.pow_add, Nat.two_mul]
theorem pow_dbl1 (v M : Int) (t : Nat) : (v ^ (2 * t) % M) * (v % M) % M = v ^ (2 * t + 1) % M := by
  rw [← Int.mul_emod, Int.pow_succ]
theorem half_step (E n k : Nat) (h : k < n) : E / 2 ^ (n - (k + 1)) = 2 * (E / 2 ^ (n - k)) + E / 2 ^ (n - 1 - k) % 2 := by
  have e : n - k = (n - (k + 1)) + 1 := by omega
  have e2 : n - 1 - k = n - (k + 1) := by omega
  rw [e, e2, Nat.pow_succ, ← Nat.div_div_eq_div_mul]; omega

theorem bitLen_lt {n k : Nat} (h : n < 2 ^ k) : bitLen n ≤ k := by
  have := bitLen_spec n
  apply Classical.byContradiction; intro hc
  by_cases h0 : n = 0
  · subst h0; simp [bitLen] at hc
  · have h2 := this.2 h0
    have h3 : 2 ^ k ≤ 2 ^ (bitLen n - 1) := Nat.pow_le_pow_right (by decide) (by omega)
    omega

end Go.Proofs.Yteagdgbcfbkfbaa.Nt
