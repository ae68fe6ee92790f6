/-
  The walk of product: the product of any two numbers, in new memory.
-/
import Derived.Test.YthkheocggcmooaaW5
import Derived.Test.YthkheocggcmooaaW6
import Derived.Deep.CutRange
namespace Go.Proofs.Ythkheocggcmooaa
open Go.RowKit

theorem mid_val {S Z : List Int} {i : Nat} (h : i + Z.length ≤ S.length) :
    val (S.take i ++ Z ++ S.drop (i + Z.length)) = val S + 4294967296 ^ i * (val Z - val ((S.drop i).take Z.length)) := by
  have e : val S = val (S.take i) + 4294967296 ^ i * (val ((S.drop i).take Z.length) + 4294967296 ^ Z.length * val (S.drop (i + Z.length))) := by
    conv => lhs; rw [← List.take_append_drop i S, ← List.take_append_drop Z.length (S.drop i)]
    rw [val_append, val_append, List.length_take, List.length_take, Nat.min_eq_left (by omega), Nat.min_eq_left (by simp; omega), List.drop_drop]
  rw [e, List.append_assoc, val_append, val_append, List.length_take, Nat.min_eq_left (by omega), Int.mul_sub, Int.mul_add, Int.mul_add]; omega
theorem mid_above {S Z : List Int} {i j : Nat} (h : i + Z.length ≤ S.length) (hj : i + Z.length ≤ j) : (S.take i ++ Z ++ S.drop (i + Z.length)).getD j 0 = S.getD j 0 := by
  have h1 : (S.take i ++ Z).length = i + Z.length := by simp; omega
  rw [List.getD_eq_getElem?_getD, List.getElem?_append_right (by omega), h1, List.getElem?_drop, List.getD_eq_getElem?_getD]
  congr 2; omega
theorem mid_u32 {S Z : List Int} {i : Nat} (hS : U32s S) (hZ : U32s Z) : U32s (S.take i ++ Z ++ S.drop (i + Z.length)) := ((hS.take i).append hZ).append (hS.drop _)

set_option maxHeartbeats 1000000 in
theorem product_any (X Y : List Int) (v u : Value) (w : World) (hX : Sl .u32 w v X) (hY : Sl .u32 w u Y) (uX : U32s X) (uY : U32s Y) (lX : X.length ≤ 1073741824) (lY : Y.length ≤ 1073741824) :
    Calls Try.prog 55 #[v, u] w fun e w' => ∃ r, e = .returned r ∧ Own w.heap.size w' r (lim (val X * val Y).toNat) ∧ Below w.heap.size w w' := by
  obtain ⟨aX, cX, rfl, hcX, hXr⟩ := id hX
  obtain ⟨aY, cY, rfl, hcY⟩ := hY.len
  have hfin : X.take X.length = X := List.take_length
  go_enter Try.func55, Try.ntmps55
  go_wp2_with (at_make; refine wpList_mk _ rfl _ _ 22 rfl .u32 53 4 Try.und32 Try.info32 _ (X.length + Y.length) rfl rfl (by omega) (by omega) (by omega) ?_; intro w1 hA1 hB1)
  go_loopw [15] (fun iv wr => ∃ (i : Nat) (S : List Int), iv = .int .i64 i ∧ i ≤ X.length ∧ Arr .u32 53 wr w.heap.size S ∧ U32s S ∧ S.length = X.length + Y.length ∧ Below w.heap.size w wr ∧ val S = val (X.take i) * val Y ∧ ∀ j, i + Y.length ≤ j → S.getD j 0 = 0)
      (fun iv _ => X.length - (intOf iv).toNat)
  case atStart => exact ⟨0, _, rfl, Nat.zero_le _, hA1, U32s.zeros _, by simp, hB1, by simp [val_zeros, val], fun j _ => by simp [List.getD, List.getElem?_replicate]; split <;> rfl⟩
  case round =>
    clear hA1 hB1
    obtain ⟨i, S, rfl, hi, hA, huS, hlS, hB, hv, hz⟩ := hrel
    by_cases hlt : i < X.length
    · rcases hXr with rfl | ⟨b, o, rfl, hb, hr⟩
      · simp at hlt
      obtain ⟨x, hx⟩ : ∃ x, X.getD i 0 = x := ⟨_, rfl⟩
      have ux : U32 x := hx ▸ uX.at i
      have hcx : wr.cell? ⟨b, o + i, none⟩ = some (.int .u32 x) := by rw [← hx]; exact (below_rd hB hb hr) i hlt
      have hcall : ∀ q, Calls Try.prog 65 #[.slice (some ⟨w.heap.size, i, none⟩) (X.length + Y.length - i) (X.length + Y.length - i), .slice aY Y.length cY, .int .u32 x] (wr.drewN q) fun e w' =>
          ∃ S' carry, e = .returned (.int .u32 carry) ∧ w'.cell? ⟨w.heap.size, i + Y.length, none⟩ = some (.int .u32 0) ∧ w'.frozen? ⟨w.heap.size, i + Y.length, none⟩ = false ∧ Hid (U32 carry ∧ U32s S' ∧ S'.length = X.length + Y.length ∧ Arr .u32 53 w' w.heap.size S' ∧ Below w.heap.size w w' ∧
            val S' + 4294967296 ^ (i + Y.length) * carry = val (X.take i) * val Y + 4294967296 ^ i * (x * val Y) ∧ ∀ j, i + Y.length ≤ j → S'.getD j 0 = 0) := by
        intro q
        have hBq : Below w.heap.size w (wr.drewN q) := hB.trans ⟨rfl, rfl, rfl, Nat.le_refl _, fun _ _ => rfl⟩
        refine (addTimes_any S Y x w.heap.size i _ _ _ (wr.drewN q) hA huS ux uY (below_sl hBq hY) (hY.ne (Nat.le_refl _)) (by omega) (by omega) (by omega)).mono ?_
        rintro e w' ⟨Z, carry, rfl, hc, hZ, hZl, hA', hU', heq⟩
        have hfit : i + Z.length ≤ S.length := by omega
        have hz2 : (S.take i ++ Z ++ S.drop (i + Z.length)).getD (i + Y.length) 0 = 0 := by rw [mid_above hfit (by omega)]; exact hz _ (Nat.le_refl _)
        refine ⟨_, carry, rfl, by rw [hA'.cell _ (by rw [mid_len _ _ _ hfit]; omega), hz2], hA'.frozen _, show _ ∧ _ from ⟨hc, mid_u32 huS hZ, by rw [mid_len _ _ _ hfit]; exact hlS, hA', hU'.below hBq (Nat.le_of_lt hA.lt) (Nat.le_refl _), ?_, fun j hj => by rw [mid_above hfit (by omega)]; exact hz j hj⟩⟩
        rw [mid_val hfit, hv, hZl, Int.pow_add, Int.mul_assoc]
        have : val Z - val ((S.drop i).take Y.length) = x * val Y - 4294967296 ^ Y.length * carry := by omega
        rw [this, Int.mul_sub]; omega
      have HV : Hid (X.getD i 0 = x ∧ Below w.heap.size w wr) := ⟨hx, hB⟩
      clear hA huS hv hz hr hX hY uY hx hB
      go_upto_region 5 with (fail)
      go_region_with (go_at_call 65; refine (hcall _).mono ?_; rintro e w2 ⟨S', carry, rfl, hcl2, hfz2, HS2⟩)
      all_goals
        go_wp2
        go_roundw
        case rel =>
          obtain ⟨hc, hS', hSl', hA', hB', heq', hz'⟩ := HS2.out
          obtain ⟨hx, _⟩ := HV.out
          refine ⟨i + 1, S'.set (i + Y.length) carry, by go_num, by omega, (by exact hA'.set _ _), hS'.set _ hc, by simpa using hSl', hB'.setCell (Nat.le_refl _) _, ?_, fun j hj => ?_⟩
          · rw [val_set (by omega), hz' _ (Nat.le_refl _), val_take_succ _ _ hlt, hx, Int.add_mul, Int.mul_assoc, Int.sub_zero]; exact heq'
          · rw [List.getD_eq_getElem?_getD, List.getElem?_set_ne (by omega), ← List.getD_eq_getElem?_getD]; exact hz' j (by omega)
        case measure => simp [intOf]; omega
    · have hin : i = X.length := by omega
      have hsl := hA.sl
      rw [hlS] at hsl
      have hcut := cut_any S (some ⟨w.heap.size, 0, none⟩) (X.length + Y.length) wr (by rw [hlS]; exact hsl) (by omega)
      rw [hlS] at hcut
      have HS : Hid (Arr .u32 53 wr w.heap.size S ∧ U32s S ∧ S.length = X.length + Y.length ∧ Below w.heap.size w wr ∧ val S = val (X.take i) * val Y ∧ i = X.length) := ⟨hA, huS, hlS, hB, hv, hin⟩
      clear hA huS hB hv hz hsl hlS hin
      go_wp2_with (go_at_call 45; refine hcut.mono ?_; rintro e w4 ⟨rfl, rfl⟩)
      go_ret
      obtain ⟨hA, huS, hlS, hB, hv, rfl⟩ := HS.out
      refine ⟨_, rfl, ?_, hB⟩
      have := Own.cut (B := w.heap.size) hA huS (Nat.le_refl _) (by omega)
      rw [hlS, hv, hfin] at this
      exact this
end Go.Proofs.Ythkheocggcmooaa
