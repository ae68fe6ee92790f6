/-
  The walks of difference, Trim, Small, fitting.
-/
import Derived.Test.YthkheocggcmooaaW4
namespace Go.Proofs.Ythkheocggcmooaa
open Go.RowKit

theorem borrow_in {i n : Nat} {s t : Int} (h0 : 0 ≤ t) (h : s - 4294967296 ^ i * 1 = t) (hs : s < 4294967296 ^ n) : i < n := by
  apply Classical.byContradiction; intro hc
  have := pow_mono (i := n) (j := i) (by omega)
  omega

theorem diff_start {X Y Z : List Int} {carry : Int} {w : World} {blk : Nat} (uX : U32s X) (uY : U32s Y) (lXY : Y.length ≤ X.length) (uZ : U32s Z) (lZ : Z.length = Y.length) (hc0 : 0 ≤ carry)
    (heq : val Z + 1 * val Y = val (((List.take 0 (List.replicate X.length (0 : Int)) ++ (X.take X.length ++ (List.replicate X.length 0).drop (0 + X.length))).drop 0).take Y.length) + 4294967296 ^ Y.length * carry)
    (hA : Arr .u32 53 w blk ((List.take 0 (List.replicate X.length (0 : Int)) ++ (X.take X.length ++ (List.replicate X.length 0).drop (0 + X.length))).take 0 ++ Z ++ (List.take 0 (List.replicate X.length (0 : Int)) ++ (X.take X.length ++ (List.replicate X.length 0).drop (0 + X.length))).drop (0 + Z.length))) :
    ∃ S, Arr .u32 53 w blk S ∧ U32s S ∧ S.length = X.length ∧ val S - 4294967296 ^ Y.length * carry = val X - val Y ∧ (carry = 0 ∨ carry = 1) := by
  have e1 : List.take 0 (List.replicate X.length (0 : Int)) ++ (X.take X.length ++ (List.replicate X.length 0).drop (0 + X.length)) = X := by simp
  rw [e1] at heq hA
  simp only [List.take_zero, List.nil_append, Nat.zero_add, List.drop_zero] at heq hA
  have hsplit : val X = val (X.take Y.length) + 4294967296 ^ Y.length * val (X.drop Y.length) := by
    conv => lhs; rw [← List.take_append_drop Y.length X]
    rw [val_append, List.length_take, Nat.min_eq_left (by omega)]
  refine ⟨_, hA, uZ.append (uX.drop _), by simp; omega, ?_, ?_⟩
  · rw [val_append, lZ]; omega
  · have h1 := val_nonneg (uX.take Y.length)
    have h2 := val_lt uY; have h3 := val_lt uZ; have hp := pow_pos32 Y.length
    rw [lZ] at h3
    have h4 : 4294967296 ^ Y.length * carry < 4294967296 ^ Y.length * 2 := by omega
    have h5 := Int.lt_of_mul_lt_mul_left h4 (by omega)
    omega

set_option maxHeartbeats 1000000 in
theorem difference_any (X Y : List Int) (v u : Value) (w : World) (hX : Sl .u32 w v X) (hY : Sl .u32 w u Y) (uX : U32s X) (uY : U32s Y) (lX : X.length ≤ 1099511627776) (lXY : Y.length ≤ X.length) (hle : val Y ≤ val X) :
    Calls Try.prog 50 #[v, u] w fun e w' => ∃ r, e = .returned r ∧ Own w.heap.size w' r (lim (val X - val Y).toNat) ∧ Below w.heap.size w w' := by
  obtain ⟨aX, cX, rfl, hcX⟩ := hX.len
  obtain ⟨aY, cY, rfl, hcY⟩ := hY.len
  obtain ⟨tot, htot⟩ : ∃ tot, val X - val Y = tot := ⟨_, rfl⟩
  rw [htot]
  have h0 : 0 ≤ tot := by omega
  have HT : Hid (val X - val Y = tot) := htot
  clear htot hle
  go_enter Try.func50, Try.ntmps50
  go_wp2_with (first
      | (at_make; refine wpList_mk _ rfl _ _ 22 rfl .u32 53 4 Try.und32 Try.info32 _ X.length rfl rfl (by omega) (by omega) (by omega) ?_; intro w1 hA1 hB1)
      | (refine wpList_cp rfl (.tmp 11) (.tmp 12) 22 rfl .u32 53 Try.und32 Try.one32 _ 0 X.length X.length _ X hA1 _ rfl rfl (below_sl hB1 hX) X.length (nmin (by omega)) (by simp) ?_; intro w2 hA2 hU2)
      | (go_at_call 67; refine (takeTimes_any _ Y 1 _ 0 _ _ _ _ hA2 (by simpa using uX) ⟨by decide, by decide⟩ uY (below_sl (hU2.below hB1 (Nat.le_of_lt hA1.lt) (Nat.le_refl _)) hY) (hY.ne (Nat.le_refl _)) (by simp; omega) (by omega) (by omega)).mono ?_; rintro e w3 ⟨Z, carry, rfl, hcar, hZ, hZl, hA3, hU3, heq⟩))
  obtain ⟨S, hAS, huS, hlS, hvS, hcar1⟩ := diff_start uX uY lXY hZ hZl hcar.1 heq hA3
  have hB3 : Below w.heap.size w w3 := hU3.below (hU2.below hB1 (Nat.le_of_lt hA1.lt) (Nat.le_refl _)) (Nat.le_of_lt (hA2.lt)) (Nat.le_refl _)
  rw [HT.out] at hvS
  clear hA1 hA2 hA3 hU2 hU3 hB1 heq hZ hZl HT hX hY uX uY hcX hcY
  go_loopw [6, 7] (fun cv iv wr => ∃ (i : Nat) (cr : Int) (S : List Int), iv = .int .i64 i ∧ cv = .int .u32 cr ∧ (cr = 0 ∨ cr = 1) ∧ Arr .u32 53 wr w.heap.size S ∧ U32s S ∧ S.length = X.length ∧ Below w.heap.size w wr ∧ val S - 4294967296 ^ i * cr = tot ∧ i ≤ X.length)
      (fun _ iv _ => X.length + 1 - (intOf iv).toNat)
  case atStart => exact ⟨Y.length, carry, S, rfl, rfl, hcar1, hAS, huS, hlS, hB3, hvS, by omega⟩
  case round =>
      clear hAS huS hlS hvS hB3 hcar1 hcar
      obtain ⟨i, cr, S, rfl, rfl, hcr, hAS, huS, hlS, hB3, hvS, hiX⟩ := hrel
      rcases hcr with rfl | rfl
      · have HS : Hid (Arr .u32 53 wr w.heap.size S ∧ U32s S ∧ S.length = X.length ∧ Below w.heap.size w wr ∧ val S - 4294967296 ^ i * 0 = tot) := ⟨hAS, huS, hlS, hB3, hvS⟩
        have hsl := hAS.sl
        rw [hlS] at hsl
        have hcut := cut_any S (some ⟨w.heap.size, 0, none⟩) X.length wr (by rw [hlS]; exact hsl) (by omega)
        rw [hlS] at hcut
        clear hAS huS hB3 hvS hsl hlS
        go_wp2_with (go_at_call 45; refine hcut.mono ?_; rintro e w4 ⟨rfl, rfl⟩)
        go_ret
        obtain ⟨hAS, huS, hlS, hB3, hvS⟩ := HS.out
        refine ⟨_, rfl, ?_, hB3⟩
        have := Own.cut (B := w.heap.size) hAS huS (Nat.le_refl _) (by omega)
        rw [hlS] at this
        rw [← hvS]; simpa using this
      · have hi := borrow_in h0 hvS (by have := val_lt huS; rw [hlS] at this; exact this)
        obtain ⟨z, hz⟩ : ∃ z, S.getD i 0 = z := ⟨_, rfl⟩
        have uz : U32 z := hz ▸ huS.at i
        obtain ⟨z1, z2⟩ := uz
        have hcell : wr.cell? ⟨w.heap.size, i, none⟩ = some (.int .u32 z) := by rw [← hz]; exact hAS.cell i (by omega)
        have hfz : wr.frozen? ⟨w.heap.size, i, none⟩ = false := hAS.frozen i
        have HS : Hid (Arr .u32 53 wr w.heap.size S ∧ U32s S ∧ S.length = X.length ∧ Below w.heap.size w wr ∧ val S - 4294967296 ^ i * 1 = tot ∧ S.getD i 0 = z) := ⟨hAS, huS, hlS, hB3, hvS, hz⟩
        clear hAS huS hlS hB3 hvS hz
        by_cases hzz : z = 0
        · subst hzz
          go_wp2
          go_roundw
          case rel =>
            obtain ⟨hAS, huS, hlS, hB3, hvS, hz⟩ := HS.out
            refine ⟨i + 1, 1, S.set i 4294967295, by go_num, rfl, .inr rfl, hAS.set _ _, huS.set _ ⟨by decide, by decide⟩, by simpa using hlS, hB3.setCell (Nat.le_refl _) _, ?_, by omega⟩
            rw [val_set (by omega), hz, pow_succ32]; omega
          case measure => simp [intOf]; omega
        · go_wp2
          go_roundw
          case rel =>
            obtain ⟨hAS, huS, hlS, hB3, hvS, hz⟩ := HS.out
            refine ⟨i + 1, 0, S.set i (z - 1), by go_num, rfl, .inl rfl, hAS.set _ _, huS.set _ ⟨by omega, by omega⟩, by simpa using hlS, hB3.setCell (Nat.le_refl _) _, ?_, by omega⟩
            rw [val_set (by omega), hz]; simp; omega
          case measure => simp [intOf]; omega

/-- A whole block that is without a limb 0 at its end: the number itself. -/
theorem Own.whole {B : Nat} {w : World} {b : Nat} {S : List Int} (hA : Arr .u32 53 w b S) (hu : U32s S) (hB : B ≤ b) (hl : S.length ≤ 1125899906842624) :
    Own B w (.slice (some ⟨b, 0, none⟩) S.length S.length) S := .inr ⟨b, S, rfl, hB, hA, hu, Nat.le_refl _, List.take_length, hl⟩

set_option maxHeartbeats 400000 in
theorem Trim_any (X : List Int) (v : Value) (w : World) (hX : Sl .u32 w v X) (uX : U32s X) (lX : X.length ≤ 35184372088832) :
    Calls Try.prog 16 #[v] w fun e w' => ∃ r, e = .returned r ∧ Own w.heap.size w' r (lim (val X).toNat) ∧ Below w.heap.size w w' := by
  obtain ⟨aX, cX, rfl, hcX⟩ := hX.len
  have hs := sig_le X
  go_enter Try.func16, Try.ntmps16
  go_wp2_with (first
      | (go_at_call 52; refine (length_any X _ _ hX (by omega)).mono ?_; rintro e w' ⟨rfl, rfl⟩)
      | (at_make; refine wpList_mk _ rfl _ _ 22 rfl .u32 53 4 Try.und32 Try.info32 _ (sig X) rfl rfl (by omega) (by omega) (by omega) ?_; intro w1 hA1 hB1)
      | (refine wpList_cp rfl (.tmp 7) (.tmp 8) 22 rfl .u32 53 Try.und32 Try.one32 _ 0 (sig X) (sig X) _ X hA1 _ rfl rfl (below_sl hB1 hX) (sig X) (nmin2 (by omega)) (by simp) ?_; intro w2 hA2 hU2))
  go_ret
  have hB2 := hU2.below hB1 (Nat.le_of_lt hA1.lt) (Nat.le_refl _)
  refine ⟨_, rfl, ?_, hB2⟩
  have e1 : List.take 0 (List.replicate (sig X) (0 : Int)) ++ (X.take (sig X) ++ (List.replicate (sig X) 0).drop (0 + sig X)) = X.take (sig X) := by simp
  rw [e1] at hA2
  have := Own.whole (B := _) hA2 (uX.take _) (Nat.le_refl _) (by simp; omega)
  rw [List.length_take, Nat.min_eq_left hs, take_sig_lim uX] at this
  exact this

set_option maxHeartbeats 400000 in
theorem Small_any (n : Int) (h0 : 0 ≤ n) (h1 : n < 18446744073709551616) (w : World) :
    Calls Try.prog 39 #[.int .u64 n] w fun e w' => ∃ r, e = .returned r ∧ Own w.heap.size w' r (lim n.toNat) ∧ Below w.heap.size w w' := by
  go_enter Try.func39, Try.ntmps39
  have hA : Arr .u32 53 (w.alloc (.cells #[.int .u32 (n % 4294967296), .int .u32 (n / 4294967296)] 53)) w.heap.size [n % 4294967296, n / 4294967296] := by
    unfold Arr; rw [heap_alloc_new]; rfl
  have hu : U32s [n % 4294967296, n / 4294967296] := U32s.cons ⟨by omega, by omega⟩ (U32s.cons ⟨by omega, by omega⟩ U32s.nil)
  have hO := Own.cut (B := w.heap.size) hA hu (Nat.le_refl _) (by simp)
  have e : val [n % 4294967296, n / 4294967296] = n := by simp [val]; omega
  rw [e] at hO
  have hcut := cut_any _ _ _ _ hA.sl (by simp)
  clear hA hu e
  go_wp2_with (go_at_call 45; refine hcut.mono ?_; rintro e w4 ⟨rfl, rfl⟩)
  go_ret
  exact ⟨_, rfl, hO, (Below.refl _ _).alloc (Nat.le_refl _) _⟩

theorem fitting_any (a : Option Addr) (n c : Nat) (w : World) :
    Calls Try.prog 43 #[.slice a n c] w fun e w' => e = .returned (if 512 < n then .tuple #[.slice none 0 0, .int .i64 3] else .tuple #[.slice a n c, .int .i64 0]) ∧ w' = w := by
  by_cases h : 512 < n
  · go_enter Try.func43, Try.ntmps43
    go_wp2
    go_ret2
    exact ⟨rfl, rfl⟩
  · go_enter Try.func43, Try.ntmps43
    go_wp2
    go_ret2
    exact ⟨rfl, rfl⟩
end Go.Proofs.Ythkheocggcmooaa
