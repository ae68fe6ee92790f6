/-
  The walk of the reference's wide; the arithmetic of its product.
-/
import Derived.Test.YthkheocggcmooaaW51
namespace Go.Proofs.Ythkheocggcmooaa
open Go.RowKit

theorem wide_set (X : List Int) (n i : Nat) (hi : i < X.length) (hn : X.length ≤ n) : (X.take i ++ List.replicate (n - i) 0).set i (X.getD i 0) = X.take (i + 1) ++ List.replicate (n - (i + 1)) 0 := by
  have h1 : (X.take i).length = i := by simp; omega
  rw [List.set_append_right _ _ (by omega), h1, Nat.sub_self, show n - i = (n - (i + 1)) + 1 by omega, List.replicate_succ, List.set_cons_zero, D.take_snoc X hi]
  simp
theorem val_pad (X : List Int) (k : Nat) : val (X ++ List.replicate k 0) = val X := by rw [val_append, val_zeros]; simp

set_option maxHeartbeats 2000000 in
theorem wide_any {w : World} (v : Value) (X : List Int) (hX : Sl .u32 w v X) (uX : U32s X) (n : Nat) (hn : X.length ≤ n) (hn2 : n ≤ 65536) :
    Calls Try.prog 61 #[v, .int .i64 n] w fun e w' => ∃ r L, e = .returned r ∧ L.length = n ∧ U32s L ∧ val L = val X ∧ Sl .u64 w' r L ∧ Below w.heap.size w w' := by
  have hX0 := hX
  obtain ⟨a, c, hv, _⟩ := hX.len
  subst hv
  go_enter Try.func61, Try.ntmps61
  go_wp2_with (at_make; refine wpList_mk _ rfl _ _ 58 rfl .u64 42 8 Try.und64 Try.info64 _ n rfl rfl rfl (by omega) (by omega) ?_; intro w1 hA1 hB1)
  go_loopw [6] (fun iv wr => ∃ i : Nat, iv = .int .i64 i ∧ i ≤ X.length ∧ Arr .u64 42 wr w.heap.size (X.take i ++ List.replicate (n - i) 0) ∧ Below w.heap.size w wr) (fun iv _ => X.length - (intOf iv).toNat)
  case atStart => exact ⟨0, rfl, Nat.zero_le _, by simpa using hA1, hB1⟩
  case round =>
    clear hA1 hB1
    obtain ⟨i, rfl, hi, hA, hBt⟩ := hrel
    by_cases hlt : i < X.length
    · obtain ⟨x, hx⟩ : ∃ x, X.getD i 0 = x := ⟨_, rfl⟩
      have ux : U32 x := hx ▸ uX.at i
      obtain ⟨ux1, ux2⟩ := ux
      obtain ⟨b, off, ha, hb, hr⟩ : ∃ b off, a = some ⟨b, off, none⟩ ∧ b < w.heap.size ∧ Rd .u32 w b off X := by
        obtain ⟨a', c', h1, _, h2⟩ := hX0
        cases h1
        rcases h2 with rfl | ⟨b, off, rfl, hb, hr⟩
        · simp at hlt
        · exact ⟨b, off, rfl, hb, hr⟩
      subst ha
      have hcx : wr.cell? ⟨b, off + i, none⟩ = some (.int .u32 x) := by rw [hBt.cell hb, hr i hlt, hx]
      have hlen : (X.take i ++ List.replicate (n - i) 0).length = n := by simp; omega
      have hco := hA.cell i (by omega)
      obtain ⟨o, ho⟩ : ∃ o, (X.take i ++ List.replicate (n - i) 0).getD i 0 = o := ⟨_, rfl⟩
      rw [ho] at hco
      have hfo := hA.frozen i
      have hin : i < n := by omega
      have HH : Hid (X.getD i 0 = x ∧ Arr .u64 42 wr w.heap.size (X.take i ++ List.replicate (n - i) 0) ∧ Below w.heap.size w wr) := ⟨hx, hA, hBt⟩
      clear hx hA hBt hr hX hX0 ho hlen
      go_wp2
      go_roundw
      case rel =>
        obtain ⟨hx, hA, hBt⟩ := HH.out
        refine ⟨i + 1, by go_num, by omega, ?_, hBt.setCell (Nat.le_refl _) _⟩
        rw [← wide_set X n i hlt hn, hx]; exact hA.set i x
      case measure => simp [intOf]; omega
    · have hfull : X.take i = X := List.take_of_length_le (by omega)
      have hiX : i = X.length := by omega
      rw [hfull] at hA
      obtain ⟨L, hL⟩ : ∃ L, X ++ List.replicate (n - i) 0 = L := ⟨_, rfl⟩
      rw [hL] at hA
      have lL : L.length = n := by rw [← hL]; simp; omega
      have uL : U32s L := hL ▸ uX.append (U32s.zeros _)
      have vL : val L = val X := by rw [← hL]; exact val_pad X _
      have hs := hA.sl64
      rw [lL] at hs
      have hs' : Sl .u64 wr (.slice (some ⟨w.heap.size, 0, none⟩) n n) L := hs
      have HV : Hid (L.length = n ∧ val L = val X) := ⟨lL, vL⟩
      clear hfull hA hs hL vL lL hX0 hX
      by_cases hin : i < n
      · go_wp2
        go_ret
        exact ⟨_, L, rfl, HV.out.1, uL, HV.out.2, hs', hBt⟩
      · go_wp2
        go_ret
        exact ⟨_, L, rfl, HV.out.1, uL, HV.out.2, hs', hBt⟩

theorem or_hi32 (x y : Int) (hx0 : 0 ≤ x) (hx : x < 4294967296) (hy0 : 0 ≤ y) (hy : y < 4294967296) : bits .or .u64 (x * 4294967296) y = x * 4294967296 + y := by
  obtain ⟨a, rfl⟩ := Int.eq_ofNat_of_zero_le hx0
  obtain ⟨b, rfl⟩ := Int.eq_ofNat_of_zero_le hy0
  have ha : a < 4294967296 := by omega
  have hb : b < 2 ^ 32 := by omega
  have h := (bits_nat .u64 64 (by decide) (fun n h₀ h₁ => by rw [IntKind.wrap_u64]; omega) (a * 4294967296) b (by omega) (by omega)).2
  have e : ((a * 4294967296 : Nat) : Int) = (a : Int) * 4294967296 := by simp
  rw [e] at h
  have h2 := Nat.two_pow_add_eq_or_of_lt hb a
  rw [h, show a * 4294967296 = 2 ^ 32 * a by omega, ← h2]
  omega
/-- One limb more is taken in, and q times P off: never too much. -/
theorem low_guess {R P B rt pt lo pl : Int} (hB : 0 < B) (h0 : 0 ≤ lo) (hR : R = lo + B * rt) (hP : P = pl + B * pt) (hpl : pl < B) (hpt : 0 ≤ pt) (hrt : 0 ≤ rt) (hRP : R < 4294967296 * P) :
    rt / (pt + 1) * P ≤ R ∧ 0 ≤ rt / (pt + 1) ∧ rt / (pt + 1) < 4294967296 := by
  have h1 := Int.mul_ediv_add_emod rt (pt + 1); have h2 := Int.emod_nonneg rt (show pt + 1 ≠ 0 by omega)
  have hq0 : 0 ≤ rt / (pt + 1) := Int.ediv_nonneg hrt (by omega)
  obtain ⟨q, hq⟩ : ∃ q, rt / (pt + 1) = q := ⟨_, rfl⟩
  rw [hq] at h1 hq0 ⊢
  have h3 : P ≤ B * (pt + 1) := by rw [Int.mul_add, Int.mul_one]; omega
  have h4 : q * P ≤ q * (B * (pt + 1)) := Int.mul_le_mul_of_nonneg_left h3 hq0
  have h5 : q * (B * (pt + 1)) = B * ((pt + 1) * q) := by grind
  have h6 : B * ((pt + 1) * q) ≤ B * rt := Int.mul_le_mul_of_nonneg_left (by omega) (by omega)
  refine ⟨by omega, hq0, ?_⟩
  have h7 : B * rt < B * (4294967296 * (pt + 1)) := by
    have h8 : 4294967296 * P ≤ 4294967296 * (B * (pt + 1)) := Int.mul_le_mul_of_nonneg_left h3 (by decide)
    have h9 : 4294967296 * (B * (pt + 1)) = B * (4294967296 * (pt + 1)) := by grind
    omega
  have h10 : rt < 4294967296 * (pt + 1) := Int.lt_of_mul_lt_mul_left h7 (by omega)
  rw [← hq]; exact Int.ediv_lt_of_lt_mul (by omega) h10
theorem shift_set (R : List Int) (n k : Nat) (hk : k < n) (lR : R.length = n + 1) :
    (R.take (k + 2) ++ (R.take n).drop (k + 1)).set (k + 1) (R.getD k 0) = R.take (k + 1) ++ (R.take n).drop k := by
  have h1 : R.take (k + 2) = R.take (k + 1) ++ [R.getD (k + 1) 0] := D.take_snoc R (by omega)
  have h2 : (R.take (k + 1)).length = k + 1 := by simp; omega
  have h3 : (R.take n).drop k = R.getD k 0 :: (R.take n).drop (k + 1) := by
    rw [List.drop_eq_getElem_cons (by simp; omega)]; simp [List.getD, List.getElem?_eq_getElem (show k < R.length by omega)]
  rw [h1, List.append_assoc, List.set_append_right _ _ (by omega), h2, Nat.sub_self, h3]; rfl
end Go.Proofs.Ythkheocggcmooaa
