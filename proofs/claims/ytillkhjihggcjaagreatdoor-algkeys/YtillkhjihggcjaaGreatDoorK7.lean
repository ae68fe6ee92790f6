/-
  The walk of product: the product of any two numbers, in new memory.
-/
import Derived.Deep.CutRange
import Derived.Test.YtillkhjihggcjaaGreatDoorK6
namespace Go.Proofs.YtillkhjihggcjaaGreatDoor.Nt
open Go.RowKit

theorem mid_val {S Z : List Int} {i : Nat} (h : i + Z.length ≤ S.length) :
    val (S.take i ++ Z ++ S.drop (i + Z.length)) = val S + 4294967296 ^ i * (val Z - val ((S.drop i).take Z.length)) := by
  have e : val S = val (S.take i) + 4294967296 ^ i * (val ((S.drop i).take Z.length) + 4294967296 ^ Z.length * val (S.drop (i + Z.length))) := by
    conv => lhs; rw [← List.take_append_drop i S, ← List.take_append_drop Z.length (S.drop i)]
    rw [val_append, val_append, List.length_take, List.length_take, Nat.min_eq_left (by omega), Nat.min_eq_left (by simp; omega), List.drop_drop]
  rw [e, List.append_assoc, val_append, val_append, List.length_take, Nat.min_eq_left (by omega), Int.mul_sub, Int.mul_add, Int.mul_add]; omega
theorem mid_above {S Z : List Int} {i j : Nat} (h : i + Z.length ≤ S.length) (hj : i + Z.length ≤ j) : (S.take i ++ Z ++ S.drop (i + Z.length)).getD j 0 = S.getD j 0 := by
  have h1 : (S.take i ++ Z).length = i + Z.length := by simp; omega
  rw [List.getD_eq_getElem?_getD, List.getElem?_append_right (by omega), h1, List.getElem?_drop, List.getD_eq_getElem?_getD]
  congr 2; omega
theorem mid_u32 {S Z : List Int} {i : Nat} (hS : U32s S) (hZ : U32s Z) : U32s (S.take i ++ Z ++ S.drop (i + Z.length)) := ((hS.take i).append hZ).append (hS.drop _)

set_option maxHeartbeats 1000000 in
theorem product_any (X Y : List Int) (v u : Value) (w : World) (hX : Sl .u32 w v X) (hY : Sl .u32 w u Y) (uX : U32s X) (uY : U32s Y) (lX : X.length ≤ 1073741824) (lY : Y.length ≤ 1073741824) :
    Calls Tryz.prog 151 #[v, u] w fun e w' => ∃ r, e = .returned r ∧ Own w.heap.size w' r (lim (val X * val Y).toNat) ∧ Below w.heap.size w w' := by
  obtain ⟨aX, cX, rfl, hcX, hXr⟩ := id hX
  obtain ⟨aY, cY, rfl, hcY⟩ := hY.len
  have hfin : X.take X.length = X := List.take_length
  go_enter Tryz.func151, Tryz.ntmps151
  go_wp2_with (at_make; refine wpList_mk _ rfl _ _ 40 rfl .u32 119 4 Tryz.und32 Tryz.info32 _ (X.length + Y.length) rfl rfl (by omega) (by omega) (by omega) ?_; intro w1 hA1 hB1)
  go_loopw [15] (fun iv wr => ∃ (i : Nat) (S : List Int), iv = .int .i64 i ∧ i ≤ X.length ∧ Arr .u32 119 wr w.heap.size S ∧ U32s S ∧ S.length = X.length + Y.length ∧ Below w.heap.size w wr ∧ val S = val (X.take i) * val Y ∧ ∀ j, i + Y.length ≤ j → S.getD j 0 = 0)
      (fun iv _ => X.length - (intOf iv).toNat)
  case atStart => exact ⟨0, _, rfl, Nat.zero_le _, hA1, U32s.zeros _, by simp, hB1, by simp [val_zeros, val], fun j _ => by simp [List.getD, List.getElem?_replicate]; split <;> rfl⟩
  case round =>
    clear hA1 hB1
    obtain ⟨i, S, rfl, hi, hA, huS, hlS, hB, hv, hz⟩ := hrel
    by_cases hlt : i < X.length
    · rcases hXr with rfl | ⟨b, o, rfl, hb, hr⟩
      · simp at hlt
      obtain ⟨x, hx⟩ : ∃ x, X.getD i 0 = x := ⟨_, rfl⟩
      have ux : U32 x := hx ▸ uX.at i
      have hcx : wr.cell? ⟨b, o + i, none⟩ = some (.int .u32 x) := by rw [← hx]; exact (below_rd hB hb hr) i hlt
      have hcall : ∀ q, Calls Tryz.prog 158 #[.slice (some ⟨w.heap.size, i, none⟩) (X.length + Y.length - i) (X.length + Y.length - i), .slice aY Y.length cY, .int .u32 x] (wr.drewN q) fun e w' =>
          ∃ S' carry, e = .returned (.int .u32 carry) ∧ w'.cell? ⟨w.heap.size, i + Y.length, none⟩ = some (.int .u32 0) ∧ w'.frozen? ⟨w.heap.size, i + Y.length, none⟩ = false ∧ Hid (U32 carry ∧ U32s S' ∧ S'.length = X.length + Y.length ∧ Arr .u32 119 w' w.heap.size S' ∧ Below w.heap.size w w' ∧
            val S' + 4294967296 ^ (i + Y.length) * carry = val (X.take i) * val Y + 4294967296 ^ i * (x * val Y) ∧ ∀ j, i + Y.length ≤ j → S'.getD j 0 = 0) := by
        intro q
        have hBq : Below w.heap.size w (wr.drewN q) := hB.trans ⟨rfl, rfl, rfl, Nat.le_refl _, fun _ _ => rfl⟩
        refine (addTimes_any S Y x w.heap.size i _ _ _ (wr.drewN q) hA huS ux uY (below_sl hBq hY) (hY.ne (Nat.le_refl _)) (by omega) (by omega) (by omega)).mono ?_
        rintro e w' ⟨Z, carry, rfl, hc, hZ, hZl, hA', hU', heq⟩
        have hfit : i + Z.length ≤ S.length := by omega
        have hz2 : (S.take i ++ Z ++ S.drop (i + Z.length)).getD (i + Y.length) 0 = 0 := by rw [mid_above hfit (by omega)]; exact hz _ (Nat.le_refl _)
        refine ⟨_, carry, rfl, by rw [hA'.cell _ (by rw [mid_len _ _ _ hfit]; omega), hz2], hA'.frozen _, show _ ∧ _ from ⟨hc, mid_u32 huS hZ, by rw [mid_len _ _ _ hfit]; exact hlS, hA', hU'.below hBq (Nat.le_of_lt hA.lt) (Nat.le_refl _), ?_, fun j hj => by rw [mid_above hfit (by omega)]; exact hz j hj⟩⟩
        rw [mid_val hfit, hv, hZl, Int.pow_add, Int.mul_assoc]
        have : val Z - val ((S.drop i).take Y.length) = x * val Y - 4294967296 ^ Y.length * carry := by omega
        rw [this, Int.mul_sub]; omega
      have HV : Hid (X.getD i 0 = x ∧ Below w.heap.size w wr) := ⟨hx, hB⟩
      clear hA huS hv hz hr hX hY uY hx hB
      go_upto_region 5 with (fail)
      go_region_with (go_at_call 158; refine (hcall _).mono ?_; rintro e w2 ⟨S', carry, rfl, hcl2, hfz2, HS2⟩)
      all_goals
        go_wp2
        go_roundw
        case rel =>
          obtain ⟨hc, hS', hSl', hA', hB', heq', hz'⟩ := HS2.out
          obtain ⟨hx, _⟩ := HV.out
          refine ⟨i + 1, S'.set (i + Y.length) carry, by go_num, by omega, (by exact hA'.set _ _), hS'.set _ hc, by simpa using hSl', hB'.setCell (Nat.le_refl _) _, ?_, fun j hj => ?_⟩
          · rw [val_set (by omega), hz' _ (Nat.le_refl _), val_take_succ _ _ hlt, hx, Int.add_mul, Int.mul_assoc, Int.sub_zero]; exact heq'
          · rw [List.getD_eq_getElem?_getD, List.getElem?_set_ne (by omega), ← List.getD_eq_getElem?_getD]; exact hz' j (by omega)
        case measure => simp [intOf]; omega
    · have hin : i = X.length := by omega
      have hsl := hA.sl
      rw [hlS] at hsl
      have hcut := cut_any S (some ⟨w.heap.size, 0, none⟩) (X.length + Y.length) wr (by rw [hlS]; exact hsl) (by omega)
      rw [hlS] at hcut
      have HS : Hid (Arr .u32 119 wr w.heap.size S ∧ U32s S ∧ S.length = X.length + Y.length ∧ Below w.heap.size w wr ∧ val S = val (X.take i) * val Y ∧ i = X.length) := ⟨hA, huS, hlS, hB, hv, hin⟩
      clear hA huS hB hv hz hsl hlS hin
      go_wp2_with (go_at_call 121; refine hcut.mono ?_; rintro e w4 ⟨rfl, rfl⟩)
      go_ret
      obtain ⟨hA, huS, hlS, hB, hv, rfl⟩ := HS.out
      refine ⟨_, rfl, ?_, hB⟩
      have := Own.cut (B := w.heap.size) hA huS (Nat.le_refl _) (by omega)
      rw [hlS, hv, hfin] at this
      exact this
end Go.Proofs.YtillkhjihggcjaaGreatDoor.Nt
/-
  The walks of Add, Sub, Mul: sums, differences, products of any two numbers, or the error.
-/
namespace Go.Proofs.YtillkhjihggcjaaGreatDoor.Nt
open Go.RowKit

def trim (xs : List Int) : List Int := xs.take (sig xs)
theorem trim_val (xs : List Int) : val (trim xs) = val xs := val_take_sig xs
theorem trim_u32 {xs : List Int} (h : U32s xs) : U32s (trim xs) := h.take _
theorem trim_len (xs : List Int) : (trim xs).length = sig xs := by simp [trim, sig_le]
theorem trim_sig (xs : List Int) : sig (trim xs) = (trim xs).length := by rw [trim_len]; exact sig_take
theorem _root_.Go.Proofs.YtillkhjihggcjaaGreatDoor.Sl.trim {w : World} {a : Option Addr} {c : Nat} {xs : List Int} (h : Sl .u32 w (.slice a xs.length c) xs) : Sl .u32 w (.slice a (sig xs) c) (trim xs) := by
  obtain ⟨a', c', he, hc, h⟩ := h
  cases he
  refine ⟨a, c, by rw [trim_len], by rw [trim_len]; have := sig_le xs; omega, ?_⟩
  rcases h with rfl | ⟨b, off, rfl, hb, hr⟩
  · exact .inl rfl
  · exact .inr ⟨b, off, rfl, hb, hr.take _⟩

/-- cut, as a number: what it answers reads the trimmed list. -/
theorem cut_sl {w : World} (v : Value) (xs : List Int) (h : Sl .u32 w v xs) (hl : xs.length ≤ 1152921504606846976) :
    Calls Tryz.prog 121 #[v] w fun e w' => ∃ r, e = .returned r ∧ Sl .u32 w r (Go.Proofs.YtillkhjihggcjaaGreatDoor.Nt.trim xs) ∧ w = w' := by
  obtain ⟨a, c, rfl, _⟩ := h.len
  exact (cut_any xs a c w h hl).mono fun e w' ⟨h1, h2⟩ => ⟨_, h1, h.trim, h2.symm⟩

theorem tooLong_sl {w : World} (v u : Value) (xs ys : List Int) (h : Sl .u32 w v xs) (h' : Sl .u32 w u ys) (b : Bool) (hb : (decide (512 < xs.length) || decide (512 < ys.length)) = b) :
    Calls Tryz.prog 147 #[v, u] w fun e w' => e = .returned (.bool b) ∧ w = w' := by
  subst hb; exact (tooLong_any xs ys v u w h h').mono fun e w' ⟨h1, h2⟩ => ⟨h1, h2.symm⟩

def fit (L : List Int) : List Int × Int := if 512 < L.length then ([], 3) else (L, 0)
def addS (X Y : List Int) : List Int × Int := if 512 < X.length ∨ 512 < Y.length then ([], 3) else fit (lim (val X + val Y).toNat)
def mulS (X Y : List Int) : List Int × Int := if 512 < X.length ∨ 512 < Y.length then ([], 3) else fit (lim (val X * val Y).toNat)
def subS (X Y : List Int) : List Int × Int := if 512 < X.length ∨ 512 < Y.length then ([], 3) else if val X < val Y then ([], 10) else (lim (val X - val Y).toNat, 0)

/-- A number and an error, as two results. -/
def Two (B : Nat) (w : World) (e : Ending) (s : List Int × Int) : Prop := ∃ r, e = .returned (.tuple #[r, .int .i64 s.2]) ∧ Own B w r s.1

theorem Two.mk' {B : Nat} {w : World} {r : Value} {n : Int} {L : List Int} {s : List Int × Int} (h : Own B w r L) (hs : s = (L, n)) : Two B w (.returned (.tuple #[r, .int .i64 n])) s := by
  subst hs; exact ⟨r, rfl, h⟩
theorem Two.nil' {B : Nat} {w : World} {n : Int} {s : List Int × Int} (hs : s = ([], n)) : Two B w (.returned (.tuple #[.slice none 0 0, .int .i64 n])) s := by
  subst hs; exact ⟨_, rfl, .inl ⟨rfl, rfl⟩⟩

theorem fitting_own {w w0 : World} {B : Nat} (v : Value) (L : List Int) (h : Own B w v L) (hB : Below w0.heap.size w0 w) :
    Calls Tryz.prog 148 #[v] w fun e w' => ∃ r, e = .returned (.tuple #[r, .int .i64 (fit L).2]) ∧ Own B w' r (fit L).1 ∧ w = w' := by
  obtain ⟨a, c, rfl⟩ := h.ne
  refine (fitting_any a L.length c w).mono fun e w' ⟨h1, h2⟩ => ?_
  subst h2
  unfold fit
  by_cases hl : 512 < L.length
  · rw [if_pos hl] at h1 ⊢; exact ⟨_, h1, .inl ⟨rfl, rfl⟩, rfl⟩
  · rw [if_neg hl] at h1 ⊢; exact ⟨_, h1, h, rfl⟩

set_option maxHeartbeats 1000000 in
theorem Add_any (X Y : List Int) (v u : Value) (w : World) (hX : Sl .u32 w v X) (hY : Sl .u32 w u Y) (uX : U32s X) (uY : U32s Y) :
    Calls Tryz.prog 138 #[v, u] w fun e w' => Two w.heap.size w' e (addS X Y) ∧ Below w.heap.size w w' := by
  by_cases hlong : 512 < X.length ∨ 512 < Y.length
  · have hb : (decide (512 < X.length) || decide (512 < Y.length)) = true := by simpa using hlong
    have HL : Hid (512 < X.length ∨ 512 < Y.length) := hlong
    clear hlong
    go_enter Tryz.func138, Tryz.ntmps138
    go_wp2_with (go_at_call 147; refine (tooLong_sl v u X Y hX hY true hb).mono ?_; rintro e w' ⟨rfl, rfl⟩)
    go_ret2
    exact ⟨Two.nil' (by unfold addS; rw [if_pos HL.out]), Below.refl _ _⟩
  · have hb : (decide (512 < X.length) || decide (512 < Y.length)) = false := by simpa using hlong
    have uX' := trim_u32 uX
    have uY' := trim_u32 uY
    have lX : X.length ≤ 1152921504606846976 := by omega
    have lY : Y.length ≤ 1152921504606846976 := by omega
    have lX' : (trim X).length ≤ 1099511627776 := by have := sig_le X; rw [trim_len]; omega
    have lY' : (trim Y).length ≤ 1099511627776 := by have := sig_le Y; rw [trim_len]; omega
    have HL : Hid (¬ (512 < X.length ∨ 512 < Y.length)) := hlong
    clear hlong
    go_enter Tryz.func138, Tryz.ntmps138
    go_wp2_with (first
      | (go_at_call 147; refine (tooLong_sl v u X Y hX hY false hb).mono ?_; rintro e w' ⟨rfl, rfl⟩)
      | (go_at_call 121; refine (cut_sl _ _ (by assumption) (by assumption)).mono ?_; rintro e w' ⟨r, rfl, hr, rfl⟩)
      | (go_at_call 149; refine (sum_any (trim X) (trim Y) _ _ _ (by assumption) (by assumption) uX' uY' lX' lY').mono ?_; rintro e w1 ⟨s, rfl, hs, hB⟩)
      | (go_at_call 148; refine (fitting_own _ _ hs hB).mono ?_; rintro e w' ⟨t, rfl, ht, rfl⟩))
    go_ret2
    exact ⟨Two.mk' ht (by unfold addS; rw [if_neg HL.out, trim_val, trim_val]), hB⟩

set_option maxHeartbeats 1000000 in
theorem Mul_any (X Y : List Int) (v u : Value) (w : World) (hX : Sl .u32 w v X) (hY : Sl .u32 w u Y) (uX : U32s X) (uY : U32s Y) :
    Calls Tryz.prog 140 #[v, u] w fun e w' => Two w.heap.size w' e (mulS X Y) ∧ Below w.heap.size w w' := by
  by_cases hlong : 512 < X.length ∨ 512 < Y.length
  · have hb : (decide (512 < X.length) || decide (512 < Y.length)) = true := by simpa using hlong
    have HL : Hid (512 < X.length ∨ 512 < Y.length) := hlong
    clear hlong
    go_enter Tryz.func140, Tryz.ntmps140
    go_wp2_with (go_at_call 147; refine (tooLong_sl v u X Y hX hY true hb).mono ?_; rintro e w' ⟨rfl, rfl⟩)
    go_ret2
    exact ⟨Two.nil' (by unfold mulS; rw [if_pos HL.out]), Below.refl _ _⟩
  · have hb : (decide (512 < X.length) || decide (512 < Y.length)) = false := by simpa using hlong
    have uX' := trim_u32 uX
    have uY' := trim_u32 uY
    have lX : X.length ≤ 1152921504606846976 := by omega
    have lY : Y.length ≤ 1152921504606846976 := by omega
    have lX' : (trim X).length ≤ 1073741824 := by have := sig_le X; rw [trim_len]; omega
    have lY' : (trim Y).length ≤ 1073741824 := by have := sig_le Y; rw [trim_len]; omega
    have HL : Hid (¬ (512 < X.length ∨ 512 < Y.length)) := hlong
    clear hlong
    go_enter Tryz.func140, Tryz.ntmps140
    go_wp2_with (first
      | (go_at_call 147; refine (tooLong_sl v u X Y hX hY false hb).mono ?_; rintro e w' ⟨rfl, rfl⟩)
      | (go_at_call 121; refine (cut_sl _ _ (by assumption) (by assumption)).mono ?_; rintro e w' ⟨r, rfl, hr, rfl⟩)
      | (go_at_call 151; refine (product_any (trim X) (trim Y) _ _ _ (by assumption) (by assumption) uX' uY' lX' lY').mono ?_; rintro e w1 ⟨s, rfl, hs, hB⟩)
      | (go_at_call 148; refine (fitting_own _ _ hs hB).mono ?_; rintro e w' ⟨t, rfl, ht, rfl⟩))
    go_ret2
    exact ⟨Two.mk' ht (by unfold mulS; rw [if_neg HL.out, trim_val, trim_val]), hB⟩

theorem Cmp_sl {w : World} (v u : Value) (X Y : List Int) (h : Sl .u32 w v X) (h' : Sl .u32 w u Y) (uX : U32s X) (uY : U32s Y) (lX : X.length ≤ 1152921504606846976) (lY : Y.length ≤ 1152921504606846976) (c : Int) (hc : cmpI (val X) (val Y) = c) :
    Calls Tryz.prog 122 #[v, u] w fun e w' => e = .returned (.int .i64 c) ∧ Below w.heap.size w w' := by
  subst hc; exact Cmp_any X Y v u w h h' uX uY lX lY

theorem sig_le_of_val {X Y : List Int} (uX : U32s X) (uY : U32s Y) (h : val Y ≤ val X) : sig Y ≤ sig X := by
  apply Classical.byContradiction; intro hc
  have := val_lt_of_sig uX uY (by omega); omega

set_option maxHeartbeats 1000000 in
theorem Sub_any (X Y : List Int) (v u : Value) (w : World) (hX : Sl .u32 w v X) (hY : Sl .u32 w u Y) (uX : U32s X) (uY : U32s Y) :
    Calls Tryz.prog 139 #[v, u] w fun e w' => Two w.heap.size w' e (subS X Y) ∧ Below w.heap.size w w' := by
  by_cases hlong : 512 < X.length ∨ 512 < Y.length
  · have hb : (decide (512 < X.length) || decide (512 < Y.length)) = true := by simpa using hlong
    have HL : Hid (512 < X.length ∨ 512 < Y.length) := hlong
    clear hlong
    go_enter Tryz.func139, Tryz.ntmps139
    go_wp2_with (go_at_call 147; refine (tooLong_sl v u X Y hX hY true hb).mono ?_; rintro e w' ⟨rfl, rfl⟩)
    go_ret2
    exact ⟨Two.nil' (by unfold subS; rw [if_pos HL.out]), Below.refl _ _⟩
  have hb : (decide (512 < X.length) || decide (512 < Y.length)) = false := by simpa using hlong
  have lX : X.length ≤ 1152921504606846976 := by omega
  have lY : Y.length ≤ 1152921504606846976 := by omega
  have HL : Hid (¬ (512 < X.length ∨ 512 < Y.length)) := hlong
  by_cases hlt : val X < val Y
  · have hc : cmpI (val X) (val Y) = -1 := by unfold cmpI; rw [if_pos hlt]
    have HC : Hid (val X < val Y) := hlt
    clear hlong hlt
    go_enter Tryz.func139, Tryz.ntmps139
    go_wp2_with (first
      | (go_at_call 147; refine (tooLong_sl v u X Y hX hY false hb).mono ?_; rintro e w' ⟨rfl, rfl⟩)
      | (go_at_call 122; refine (Cmp_sl v u X Y hX hY uX uY lX lY _ hc).mono ?_; rintro e w1 ⟨rfl, hB⟩))
    go_ret2
    exact ⟨Two.nil' (by unfold subS; rw [if_neg HL.out, if_pos HC.out]), hB⟩
  · obtain ⟨c, hc, hc0⟩ : ∃ c, cmpI (val X) (val Y) = c ∧ 0 ≤ c := by
      unfold cmpI; rw [if_neg hlt]; split
      · exact ⟨1, rfl, by decide⟩
      · exact ⟨0, rfl, by decide⟩
    have HC : Hid (¬ val X < val Y) := hlt
    have uX' := trim_u32 uX
    have uY' := trim_u32 uY
    have lX' : (trim X).length ≤ 1099511627776 := by have := sig_le X; rw [trim_len]; omega
    have lXY : (trim Y).length ≤ (trim X).length := by rw [trim_len, trim_len]; exact sig_le_of_val uX uY (by omega)
    have hle : val (trim Y) ≤ val (trim X) := by rw [trim_val, trim_val]; omega
    clear hlong hlt
    go_enter Tryz.func139, Tryz.ntmps139
    go_wp2_with (first
      | (go_at_call 147; refine (tooLong_sl v u X Y hX hY false hb).mono ?_; rintro e w' ⟨rfl, rfl⟩)
      | (go_at_call 122; refine (Cmp_sl v u X Y hX hY uX uY lX lY _ hc).mono ?_; rintro e w1 ⟨rfl, hB⟩; have hX1 := below_sl hB hX; have hY1 := below_sl hB hY)
      | (go_at_call 121; refine (cut_sl _ _ (by assumption) (by assumption)).mono ?_; rintro e w' ⟨r, rfl, hr, rfl⟩)
      | (go_at_call 150; refine (difference_any (trim X) (trim Y) _ _ _ (by assumption) (by assumption) uX' uY' lX' lXY hle).mono ?_; rintro e w2 ⟨s, rfl, hs, hB2⟩))
    go_ret2
    rw [trim_val, trim_val] at hs
    exact ⟨Two.mk' (hs.mono hB.size) (by unfold subS; rw [if_neg HL.out, if_neg (by have := HC.out; omega)]), hB.trans (hB2.mono hB.size)⟩
end Go.Proofs.YtillkhjihggcjaaGreatDoor.Nt
/-
  The walk of divideByLimb: any number by a limb.
-/
namespace Go.Proofs.YtillkhjihggcjaaGreatDoor.Nt
open Go.RowKit

theorem or32 (l a : Int) (h0 : 0 ≤ l) (h1 : l < 4294967296) (a0 : 0 ≤ a) (a1 : a < 4294967296) : bits BinOp.or .u64 (l * 4294967296) a = l * 4294967296 + a := by
  obtain ⟨n, rfl⟩ := Int.eq_ofNat_of_zero_le h0
  obtain ⟨m, rfl⟩ := Int.eq_ofNat_of_zero_le a0
  have h := bits_or_u64_nat (n * 4294967296) m (by omega) (by omega)
  have e : n * 4294967296 ||| m = n * 4294967296 + m := by
    have := Nat.two_pow_add_eq_or_of_lt (i := 32) (b := m) (by omega) n
    rw [Nat.mul_comm n 4294967296]; exact this.symm
  rw [e] at h
  simpa using h

theorem quo_step (vs vx l b a q r : Int) (T : Int) (hT : T = l * 4294967296 + a) (hqr : T = q * b + r) (ih : vx = vs * b + l) : a + 4294967296 * vx = (q + 4294967296 * vs) * b + r := by
  rw [ih, Int.add_mul, Int.mul_assoc, Int.mul_add]; omega

theorem drop_set_self {S : List Int} {m : Nat} {z : Int} (h : m < S.length) : (S.set m z).drop m = z :: S.drop (m + 1) := by
  induction S generalizing m with
  | nil => simp at h
  | cons x S ih =>
    cases m with
    | zero => simp
    | succ m => simpa using ih (by simpa using h)

set_option maxHeartbeats 1000000 in
theorem divideByLimb_any (X : List Int) (d : Int) (v : Value) (w : World) (hX : Sl .u32 w v X) (uX : U32s X) (hd0 : 0 < d) (hd1 : d < 4294967296) (lX : X.length ≤ 1099511627776) :
    Calls Tryz.prog 160 #[v, .int .u32 d] w fun e w' => ∃ q r, e = .returned (.tuple #[q, r]) ∧ Own w.heap.size w' q (lim (val X / d).toNat) ∧ Own w.heap.size w' r (lim (val X % d).toNat) ∧ Below w.heap.size w w' := by
  obtain ⟨aX, cX, rfl, hcX, hXr⟩ := id hX
  go_enter Tryz.func160, Tryz.ntmps160
  go_wp2_with (at_make; refine wpList_mk _ rfl _ _ 40 rfl .u32 119 4 Tryz.und32 Tryz.info32 _ X.length rfl rfl (by omega) (by omega) (by omega) ?_; intro w1 hA1 hB1)
  go_loopw [6, 14] (fun lv iv wr => ∃ (k : Nat) (l : Int) (S : List Int), iv = .int .i64 k ∧ lv = .int .u64 l ∧ k ≤ X.length ∧ 0 ≤ l ∧ l < d ∧ Arr .u32 119 wr w.heap.size S ∧ U32s S ∧ S.length = X.length ∧ Below w.heap.size w wr ∧ val (X.drop (X.length - k)) = val (S.drop (X.length - k)) * d + l)
      (fun _ iv _ => X.length - (intOf iv).toNat)
  case atStart => exact ⟨0, 0, _, rfl, rfl, Nat.zero_le _, by decide, hd0, hA1, U32s.zeros _, by simp, hB1, by simp [val]⟩
  case round =>
    clear hA1 hB1
    obtain ⟨k, l, S, rfl, rfl, hk, hl0, hl1, hA, huS, hlS, hB, hv⟩ := hrel
    by_cases hlt : k < X.length
    · rcases hXr with rfl | ⟨b, o, rfl, hb, hr⟩
      · simp at hlt
      obtain ⟨m, hm⟩ : ∃ m, X.length - 1 - k = m := ⟨_, rfl⟩
      obtain ⟨a, ha⟩ : ∃ a, X.getD m 0 = a := ⟨_, rfl⟩
      have ua : U32 a := ha ▸ uX.at m
      have hca : wr.cell? ⟨b, o + m, none⟩ = some (.int .u32 a) := by rw [← ha]; exact (below_rd hB hb hr) m (by omega)
      obtain ⟨z, hcz⟩ : ∃ z, wr.cell? ⟨w.heap.size, m, none⟩ = some (.int .u32 z) := ⟨_, hA.cell m (by omega)⟩
      have hfz : wr.frozen? ⟨w.heap.size, m, none⟩ = false := hA.frozen m
      have hidx : ((X.length : Int) - 1 - k).toNat = m := by omega
      have hmi : ((X.length : Int) - 1 - k) = m := by omega
      obtain ⟨a0, a1⟩ := ua
      have hor := or32 l a hl0 (by omega) a0 a1
      have hq0 : 0 ≤ (l * 4294967296 + a) / d := Int.ediv_nonneg (by omega) (by omega)
      have hq1 : (l * 4294967296 + a) / d < 4294967296 := Int.ediv_lt_of_lt_mul hd0 (by omega)
      have hr0 : 0 ≤ (l * 4294967296 + a) % d := Int.emod_nonneg _ (by omega)
      have hr1 : (l * 4294967296 + a) % d < d := Int.emod_lt_of_pos _ hd0
      have HH : Hid (X.getD m 0 = a ∧ Arr .u32 119 wr w.heap.size S ∧ U32s S ∧ S.length = X.length ∧ Below w.heap.size w wr ∧ val (X.drop (X.length - k)) = val (S.drop (X.length - k)) * d + l ∧ X.length - 1 - k = m) := ⟨ha, hA, huS, hlS, hB, hv, hm⟩
      clear hA huS hlS hB hv ha hm hr hX uX
      go_wp2
      go_roundw
      case rel =>
        obtain ⟨ha, hA, huS, hlS, hB, hv, hm⟩ := HH.out
        have hdm : (l * 4294967296 + a) = (l * 4294967296 + a) / d * d + (l * 4294967296 + a) % d := by have := Int.mul_ediv_add_emod (l * 4294967296 + a) d; rw [Int.mul_comm] at this; omega
        refine ⟨k + 1, _, S.set m ((l * 4294967296 + a) / d), by go_num, rfl, by omega, hr0, hr1, hA.set _ _, huS.set _ ⟨hq0, hq1⟩, by simpa using hlS, hB.setCell (Nat.le_refl _) _, ?_⟩
        have e1 : X.length - (k + 1) = m := by omega
        have e2 : X.length - k = m + 1 := by omega
        rw [e2] at hv
        rw [e1, List.drop_eq_getElem_cons (show m < X.length by omega), drop_set_self (by omega)]
        simp only [val]
        have e3 : X[m]'(by omega) = a := by rw [← ha]; simp [show m < X.length by omega]
        rw [e3]
        exact quo_step _ _ l d a _ _ _ rfl hdm hv
      case measure => simp [intOf]; omega
    · have hkX : k = X.length := by omega
      have hsl := hA.sl
      rw [hlS] at hsl
      have hcut := cut_any S (some ⟨w.heap.size, 0, none⟩) X.length wr (by rw [hlS]; exact hsl) (by omega)
      rw [hlS] at hcut
      have HH : Hid (Arr .u32 119 wr w.heap.size S ∧ U32s S ∧ S.length = X.length ∧ Below w.heap.size w wr ∧ val (X.drop (X.length - k)) = val (S.drop (X.length - k)) * d + l ∧ k = X.length) := ⟨hA, huS, hlS, hB, hv, hkX⟩
      clear hA huS hlS hB hv hsl hkX
      go_wp2_with (first
        | (go_at_call 121; refine hcut.mono ?_; rintro e w' ⟨rfl, rfl⟩)
        | (go_at_call 164; refine (Small_any l hl0 (by omega) _).mono ?_; rintro e w2 ⟨r, rfl, hr, hB2⟩))
      go_ret2
      obtain ⟨hA, huS, hlS, hB, hv, rfl⟩ := HH.out
      simp only [Nat.sub_self, List.drop_zero] at hv
      have hO := Own.cut (B := w.heap.size) hA huS (Nat.le_refl _) (by omega)
      rw [hlS] at hO
      have e1 : val X / d = val S := by
        rw [hv, Int.add_comm, Int.add_mul_ediv_right _ _ (by omega), Int.ediv_eq_zero_of_lt hl0 hl1]; omega
      have e2 : val X % d = l := by
        rw [hv, Int.add_comm, Int.add_mul_emod_self_right, Int.emod_eq_of_lt hl0 hl1]
      refine ⟨_, _, rfl, ?_, ?_, hB.trans (hB2.mono hB.size)⟩
      · rw [e1]; exact hO.below hB2
      · rw [e2]; exact hr.mono hB.size
end Go.Proofs.YtillkhjihggcjaaGreatDoor.Nt
