/-
  The walks of Add, Sub, Mul: sums, differences, products of any two numbers, or the error.
-/
import Derived.Test.YthkheocggcmooaaW7
namespace Go.Proofs.Ythkheocggcmooaa
open Go.RowKit

def trim (xs : List Int) : List Int := xs.take (sig xs)
theorem trim_val (xs : List Int) : val (trim xs) = val xs := val_take_sig xs
theorem trim_u32 {xs : List Int} (h : U32s xs) : U32s (trim xs) := h.take _
theorem trim_len (xs : List Int) : (trim xs).length = sig xs := by simp [trim, sig_le]
theorem trim_sig (xs : List Int) : sig (trim xs) = (trim xs).length := by rw [trim_len]; exact sig_take
theorem Sl.trim {w : World} {a : Option Addr} {c : Nat} {xs : List Int} (h : Sl .u32 w (.slice a xs.length c) xs) : Sl .u32 w (.slice a (sig xs) c) (trim xs) := by
  obtain ⟨a', c', he, hc, h⟩ := h
  cases he
  refine ⟨a, c, by rw [trim_len], by rw [trim_len]; have := sig_le xs; omega, ?_⟩
  rcases h with rfl | ⟨b, off, rfl, hb, hr⟩
  · exact .inl rfl
  · exact .inr ⟨b, off, rfl, hb, hr.take _⟩

/-- cut, as a number: what it answers reads the trimmed list. -/
theorem cut_sl {w : World} (v : Value) (xs : List Int) (h : Sl .u32 w v xs) (hl : xs.length ≤ 1152921504606846976) :
    Calls Try.prog 45 #[v] w fun e w' => ∃ r, e = .returned r ∧ Sl .u32 w r (Go.Proofs.Ythkheocggcmooaa.trim xs) ∧ w = w' := by
  obtain ⟨a, c, rfl, _⟩ := h.len
  exact (cut_any xs a c w h hl).mono fun e w' ⟨h1, h2⟩ => ⟨_, h1, h.trim, h2.symm⟩

theorem tooLong_sl {w : World} (v u : Value) (xs ys : List Int) (h : Sl .u32 w v xs) (h' : Sl .u32 w u ys) (b : Bool) (hb : (decide (512 < xs.length) || decide (512 < ys.length)) = b) :
    Calls Try.prog 42 #[v, u] w fun e w' => e = .returned (.bool b) ∧ w = w' := by
  subst hb; exact (tooLong_any xs ys v u w h h').mono fun e w' ⟨h1, h2⟩ => ⟨h1, h2.symm⟩

def fit (L : List Int) : List Int × Int := if 512 < L.length then ([], 3) else (L, 0)
def addS (X Y : List Int) : List Int × Int := if 512 < X.length ∨ 512 < Y.length then ([], 3) else fit (lim (val X + val Y).toNat)
def mulS (X Y : List Int) : List Int × Int := if 512 < X.length ∨ 512 < Y.length then ([], 3) else fit (lim (val X * val Y).toNat)
def subS (X Y : List Int) : List Int × Int := if 512 < X.length ∨ 512 < Y.length then ([], 3) else if val X < val Y then ([], 10) else (lim (val X - val Y).toNat, 0)

/-- A number and an error, as two results. -/
def Two (B : Nat) (w : World) (e : Ending) (s : List Int × Int) : Prop := ∃ r, e = .returned (.tuple #[r, .int .i64 s.2]) ∧ Own B w r s.1

theorem Two.mk' {B : Nat} {w : World} {r : Value} {n : Int} {L : List Int} {s : List Int × Int} (h : Own B w r L) (hs : s = (L, n)) : Two B w (.returned (.tuple #[r, .int .i64 n])) s := by
  subst hs; exact ⟨r, rfl, h⟩
theorem Two.nil' {B : Nat} {w : World} {n : Int} {s : List Int × Int} (hs : s = ([], n)) : Two B w (.returned (.tuple #[.slice none 0 0, .int .i64 n])) s := by
  subst hs; exact ⟨_, rfl, .inl ⟨rfl, rfl⟩⟩

theorem fitting_own {w w0 : World} {B : Nat} (v : Value) (L : List Int) (h : Own B w v L) (hB : Below w0.heap.size w0 w) :
    Calls Try.prog 43 #[v] w fun e w' => ∃ r, e = .returned (.tuple #[r, .int .i64 (fit L).2]) ∧ Own B w' r (fit L).1 ∧ w = w' := by
  obtain ⟨a, c, rfl⟩ := h.ne
  refine (fitting_any a L.length c w).mono fun e w' ⟨h1, h2⟩ => ?_
  subst h2
  unfold fit
  by_cases hl : 512 < L.length
  · rw [if_pos hl] at h1 ⊢; exact ⟨_, h1, .inl ⟨rfl, rfl⟩, rfl⟩
  · rw [if_neg hl] at h1 ⊢; exact ⟨_, h1, h, rfl⟩

set_option maxHeartbeats 1000000 in
theorem Add_any (X Y : List Int) (v u : Value) (w : World) (hX : Sl .u32 w v X) (hY : Sl .u32 w u Y) (uX : U32s X) (uY : U32s Y) :
    Calls Try.prog 10 #[v, u] w fun e w' => Two w.heap.size w' e (addS X Y) ∧ Below w.heap.size w w' := by
  by_cases hlong : 512 < X.length ∨ 512 < Y.length
  · have hb : (decide (512 < X.length) || decide (512 < Y.length)) = true := by simpa using hlong
    have HL : Hid (512 < X.length ∨ 512 < Y.length) := hlong
    clear hlong
    go_enter Try.func10, Try.ntmps10
    go_wp2_with (go_at_call 42; refine (tooLong_sl v u X Y hX hY true hb).mono ?_; rintro e w' ⟨rfl, rfl⟩)
    go_ret2
    exact ⟨Two.nil' (by unfold addS; rw [if_pos HL.out]), Below.refl _ _⟩
  · have hb : (decide (512 < X.length) || decide (512 < Y.length)) = false := by simpa using hlong
    have uX' := trim_u32 uX
    have uY' := trim_u32 uY
    have lX : X.length ≤ 1152921504606846976 := by omega
    have lY : Y.length ≤ 1152921504606846976 := by omega
    have lX' : (trim X).length ≤ 1099511627776 := by have := sig_le X; rw [trim_len]; omega
    have lY' : (trim Y).length ≤ 1099511627776 := by have := sig_le Y; rw [trim_len]; omega
    have HL : Hid (¬ (512 < X.length ∨ 512 < Y.length)) := hlong
    clear hlong
    go_enter Try.func10, Try.ntmps10
    go_wp2_with (first
      | (go_at_call 42; refine (tooLong_sl v u X Y hX hY false hb).mono ?_; rintro e w' ⟨rfl, rfl⟩)
      | (go_at_call 45; refine (cut_sl _ _ (by assumption) (by assumption)).mono ?_; rintro e w' ⟨r, rfl, hr, rfl⟩)
      | (go_at_call 44; refine (sum_any (trim X) (trim Y) _ _ _ (by assumption) (by assumption) uX' uY' lX' lY').mono ?_; rintro e w1 ⟨s, rfl, hs, hB⟩)
      | (go_at_call 43; refine (fitting_own _ _ hs hB).mono ?_; rintro e w' ⟨t, rfl, ht, rfl⟩))
    go_ret2
    exact ⟨Two.mk' ht (by unfold addS; rw [if_neg HL.out, trim_val, trim_val]), hB⟩

set_option maxHeartbeats 1000000 in
theorem Mul_any (X Y : List Int) (v u : Value) (w : World) (hX : Sl .u32 w v X) (hY : Sl .u32 w u Y) (uX : U32s X) (uY : U32s Y) :
    Calls Try.prog 24 #[v, u] w fun e w' => Two w.heap.size w' e (mulS X Y) ∧ Below w.heap.size w w' := by
  by_cases hlong : 512 < X.length ∨ 512 < Y.length
  · have hb : (decide (512 < X.length) || decide (512 < Y.length)) = true := by simpa using hlong
    have HL : Hid (512 < X.length ∨ 512 < Y.length) := hlong
    clear hlong
    go_enter Try.func24, Try.ntmps24
    go_wp2_with (go_at_call 42; refine (tooLong_sl v u X Y hX hY true hb).mono ?_; rintro e w' ⟨rfl, rfl⟩)
    go_ret2
    exact ⟨Two.nil' (by unfold mulS; rw [if_pos HL.out]), Below.refl _ _⟩
  · have hb : (decide (512 < X.length) || decide (512 < Y.length)) = false := by simpa using hlong
    have uX' := trim_u32 uX
    have uY' := trim_u32 uY
    have lX : X.length ≤ 1152921504606846976 := by omega
    have lY : Y.length ≤ 1152921504606846976 := by omega
    have lX' : (trim X).length ≤ 1073741824 := by have := sig_le X; rw [trim_len]; omega
    have lY' : (trim Y).length ≤ 1073741824 := by have := sig_le Y; rw [trim_len]; omega
    have HL : Hid (¬ (512 < X.length ∨ 512 < Y.length)) := hlong
    clear hlong
    go_enter Try.func24, Try.ntmps24
    go_wp2_with (first
      | (go_at_call 42; refine (tooLong_sl v u X Y hX hY false hb).mono ?_; rintro e w' ⟨rfl, rfl⟩)
      | (go_at_call 45; refine (cut_sl _ _ (by assumption) (by assumption)).mono ?_; rintro e w' ⟨r, rfl, hr, rfl⟩)
      | (go_at_call 55; refine (product_any (trim X) (trim Y) _ _ _ (by assumption) (by assumption) uX' uY' lX' lY').mono ?_; rintro e w1 ⟨s, rfl, hs, hB⟩)
      | (go_at_call 43; refine (fitting_own _ _ hs hB).mono ?_; rintro e w' ⟨t, rfl, ht, rfl⟩))
    go_ret2
    exact ⟨Two.mk' ht (by unfold mulS; rw [if_neg HL.out, trim_val, trim_val]), hB⟩

theorem Cmp_sl {w : World} (v u : Value) (X Y : List Int) (h : Sl .u32 w v X) (h' : Sl .u32 w u Y) (uX : U32s X) (uY : U32s Y) (lX : X.length ≤ 1152921504606846976) (lY : Y.length ≤ 1152921504606846976) (c : Int) (hc : cmpI (val X) (val Y) = c) :
    Calls Try.prog 20 #[v, u] w fun e w' => e = .returned (.int .i64 c) ∧ Below w.heap.size w w' := by
  subst hc; exact Cmp_any X Y v u w h h' uX uY lX lY

theorem sig_le_of_val {X Y : List Int} (uX : U32s X) (uY : U32s Y) (h : val Y ≤ val X) : sig Y ≤ sig X := by
  apply Classical.byContradiction; intro hc
  have := val_lt_of_sig uX uY (by omega); omega

set_option maxHeartbeats 1000000 in
theorem Sub_any (X Y : List Int) (v u : Value) (w : World) (hX : Sl .u32 w v X) (hY : Sl .u32 w u Y) (uX : U32s X) (uY : U32s Y) :
    Calls Try.prog 12 #[v, u] w fun e w' => Two w.heap.size w' e (subS X Y) ∧ Below w.heap.size w w' := by
  by_cases hlong : 512 < X.length ∨ 512 < Y.length
  · have hb : (decide (512 < X.length) || decide (512 < Y.length)) = true := by simpa using hlong
    have HL : Hid (512 < X.length ∨ 512 < Y.length) := hlong
    clear hlong
    go_enter Try.func12, Try.ntmps12
    go_wp2_with (go_at_call 42; refine (tooLong_sl v u X Y hX hY true hb).mono ?_; rintro e w' ⟨rfl, rfl⟩)
    go_ret2
    exact ⟨Two.nil' (by unfold subS; rw [if_pos HL.out]), Below.refl _ _⟩
  have hb : (decide (512 < X.length) || decide (512 < Y.length)) = false := by simpa using hlong
  have lX : X.length ≤ 1152921504606846976 := by omega
  have lY : Y.length ≤ 1152921504606846976 := by omega
  have HL : Hid (¬ (512 < X.length ∨ 512 < Y.length)) := hlong
  by_cases hlt : val X < val Y
  · have hc : cmpI (val X) (val Y) = -1 := by unfold cmpI; rw [if_pos hlt]
    have HC : Hid (val X < val Y) := hlt
    clear hlong hlt
    go_enter Try.func12, Try.ntmps12
    go_wp2_with (first
      | (go_at_call 42; refine (tooLong_sl v u X Y hX hY false hb).mono ?_; rintro e w' ⟨rfl, rfl⟩)
      | (go_at_call 20; refine (Cmp_sl v u X Y hX hY uX uY lX lY _ hc).mono ?_; rintro e w1 ⟨rfl, hB⟩))
    go_ret2
    exact ⟨Two.nil' (by unfold subS; rw [if_neg HL.out, if_pos HC.out]), hB⟩
  · obtain ⟨c, hc, hc0⟩ : ∃ c, cmpI (val X) (val Y) = c ∧ 0 ≤ c := by
      unfold cmpI; rw [if_neg hlt]; split
      · exact ⟨1, rfl, by decide⟩
      · exact ⟨0, rfl, by decide⟩
    have HC : Hid (¬ val X < val Y) := hlt
    have uX' := trim_u32 uX
    have uY' := trim_u32 uY
    have lX' : (trim X).length ≤ 1099511627776 := by have := sig_le X; rw [trim_len]; omega
    have lXY : (trim Y).length ≤ (trim X).length := by rw [trim_len, trim_len]; exact sig_le_of_val uX uY (by omega)
    have hle : val (trim Y) ≤ val (trim X) := by rw [trim_val, trim_val]; omega
    clear hlong hlt
    go_enter Try.func12, Try.ntmps12
    go_wp2_with (first
      | (go_at_call 42; refine (tooLong_sl v u X Y hX hY false hb).mono ?_; rintro e w' ⟨rfl, rfl⟩)
      | (go_at_call 20; refine (Cmp_sl v u X Y hX hY uX uY lX lY _ hc).mono ?_; rintro e w1 ⟨rfl, hB⟩; have hX1 := below_sl hB hX; have hY1 := below_sl hB hY)
      | (go_at_call 45; refine (cut_sl _ _ (by assumption) (by assumption)).mono ?_; rintro e w' ⟨r, rfl, hr, rfl⟩)
      | (go_at_call 50; refine (difference_any (trim X) (trim Y) _ _ _ (by assumption) (by assumption) uX' uY' lX' lXY hle).mono ?_; rintro e w2 ⟨s, rfl, hs, hB2⟩))
    go_ret2
    rw [trim_val, trim_val] at hs
    exact ⟨Two.mk' (hs.mono hB.size) (by unfold subS; rw [if_neg HL.out, if_neg (by have := HC.out; omega)]), hB.trans (hB2.mono hB.size)⟩
end Go.Proofs.Ythkheocggcmooaa
