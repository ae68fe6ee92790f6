/-
  The walk of the reference's take: q times P is taken off R, in place.
-/
import Derived.Deep.LoopGhost
import Derived.Deep.DrawnRows
import Derived.Test.YtndoibmpnhkmpaaGreatDoorK6
namespace Go.Proofs.YtndoibmpnhkmpaaGreatDoor.Nt
open Go.RowKit

theorem take_step (B b q x r Z A Q : Int) (h : Z = A - q * Q + B * b) (y : Int) (hy : q * x + b = y) (z b' : Int) (hz : z = r - y + 4294967296 * b') :
    Z + B * z = A + B * r - q * (Q + B * x) + 4294967296 * B * b' := by
  subst hz; subst hy; rw [h]; grind
theorem cons_set (Z R : List Int) (z : Int) (h : Z.length < R.length) : (Z ++ R.drop Z.length).set Z.length z = (Z ++ [z]) ++ R.drop (Z.length + 1) := by
  rw [List.set_append_right _ _ (Nat.le_refl _), Nat.sub_self, List.drop_eq_getElem_cons h, List.set_cons_zero]; simp
theorem cat_get (Z R : List Int) (j : Nat) (h : Z.length ≤ j) : (Z ++ R.drop Z.length).getD j 0 = R.getD j 0 := by
  rw [List.getD_eq_getElem?_getD, List.getElem?_append_right h, List.getElem?_drop, List.getD_eq_getElem?_getD]; congr 2; omega
theorem cat_len (Z R : List Int) (h : Z.length ≤ R.length) : (Z ++ R.drop Z.length).length = R.length := by simp; omega

set_option maxHeartbeats 4000000 in
theorem take_any {w : World} (u : Value) (br cr : Nat) (R P : List Int) (q : Int) (hR : Arr .u64 79 w br R) (hP : Sl .u64 w u P) (hne : ∀ b o n' c', P ≠ [] → u = .slice (some ⟨b, o, none⟩) n' c' → b ≠ br) (uR : U32s R) (uP : U32s P) (n : Nat) (lR : R.length = n + 1) (lP : P.length = n) (_hcr : n + 1 ≤ cr) (hn : n ≤ 65536) (uq : U32 q) (hle : q * val P ≤ val R) :
    Calls Tryz.prog 108 #[.slice (some ⟨br, 0, none⟩) (n + 1) cr, u, .int .u64 q] w fun e w' => e = .returned (.tuple #[]) ∧ ∃ R', Arr .u64 79 w' br R' ∧ U32s R' ∧ R'.length = n + 1 ∧ val R' = val R - q * val P ∧ Upd w w' br := by
  obtain ⟨b, cb, hu, hcb⟩ := hP.len
  subst hu
  rw [lP] at hP hcb hne ⊢
  obtain ⟨uq1, uq2⟩ := uq
  go_enter Tryz.func108, Tryz.ntmps108
  go_wp2
  go_loopw [6, 7] (fun bv iv wr => ∃ Z bo, bv = .int .u64 bo ∧ iv = .int .i64 Z.length ∧ Z.length ≤ n ∧ U32 bo ∧ U32s Z ∧ Arr .u64 79 wr br (Z ++ R.drop Z.length) ∧ Upd w wr br ∧ val Z = val (R.take Z.length) - q * val (P.take Z.length) + 4294967296 ^ Z.length * bo) (fun _ iv _ => n - (intOf iv).toNat)
  case atStart => exact ⟨[], 0, rfl, rfl, Nat.zero_le _, ⟨by decide, by decide⟩, U32s.nil, by simpa using hR, Upd.refl _ _, by simp [val]⟩
  case round =>
    obtain ⟨Z, bo, rfl, rfl, hZn, ubo, uZ, hA, hU, heq⟩ := hrel
    obtain ⟨i, hi⟩ : ∃ i, Z.length = i := ⟨_, rfl⟩
    obtain ⟨ub1, ub2⟩ := ubo
    by_cases hlt : i < n
    · obtain ⟨bp, op, hb, hbp, hrp⟩ : ∃ b' off, b = some ⟨b', off, none⟩ ∧ b' < w.heap.size ∧ Rd .u64 w b' off P := by
        obtain ⟨a', c', h1, _, h2⟩ := id hP
        simp only [Value.slice.injEq] at h1
        obtain ⟨rfl, _, _⟩ := h1
        rcases h2 with h2 | ⟨b, off, rfl, hb, hr⟩
        · rw [h2] at lP; simp at lP; omega
        · exact ⟨b, off, rfl, hb, hr⟩
      subst hb
      have hbne : bp ≠ br := hne _ _ _ _ (by intro h; rw [h] at lP; simp at lP; omega) rfl
      obtain ⟨x, hx⟩ : ∃ x, P.getD i 0 = x := ⟨_, rfl⟩
      obtain ⟨r, hr⟩ : ∃ r, R.getD i 0 = r := ⟨_, rfl⟩
      have ux : U32 x := hx ▸ uP.at i
      have ur : U32 r := hr ▸ uR.at i
      have hcx : wr.cell? ⟨bp, op + i, none⟩ = some (.int .u64 x) := by
        rw [(hU.rd hbp hrp hbne) i (by omega), hx]
      have hcr' : wr.cell? ⟨br, i, none⟩ = some (.int .u64 r) := by
        rw [hA.cell i (by rw [cat_len _ _ (by omega)]; omega), cat_get _ _ _ (by omega), hr]
      have hfr : wr.frozen? ⟨br, i, none⟩ = false := hA.frozen i
      obtain ⟨p, hp⟩ : ∃ p, q * x = p := ⟨_, rfl⟩
      have hpb := mul_u32 ⟨uq1, uq2⟩ ux
      rw [hp] at hpb
      obtain ⟨pb1, pb2⟩ := hpb
      obtain ⟨ux1, ux2⟩ := ux
      obtain ⟨ur1, ur2⟩ := ur
      obtain ⟨y, hy⟩ : ∃ y, p + bo = y := ⟨_, rfl⟩
      have hyb : y ≤ 18446744069414584320 := by omega
      have hy0 : 0 ≤ y := by omega
      obtain ⟨yl, hyl⟩ : ∃ yl, y % 4294967296 = yl := ⟨_, rfl⟩
      obtain ⟨yh, hyh⟩ : ∃ yh, y / 4294967296 = yh := ⟨_, rfl⟩
      have hand : bits BinOp.and .u64 y 4294967295 = yl := by rw [and_low32 y hy0 (by omega)]; exact hyl
      have hyl0 : 0 ≤ yl := by omega
      have hyl1 : yl < 4294967296 := by omega
      have hyh0 : 0 ≤ yh := by omega
      have hyh1 : yh ≤ 4294967295 := by omega
      have hyh2 : yh = 4294967295 → yl = 0 := by omega
      have HH : Hid (P.getD i 0 = x ∧ R.getD i 0 = r ∧ Arr .u64 79 wr br (Z ++ R.drop Z.length) ∧ Upd w wr br ∧ U32s Z ∧ Z.length = i ∧ q * x = p ∧ p + bo = y ∧ y % 4294967296 = yl ∧ y / 4294967296 = yh ∧
        val Z = val (R.take Z.length) - q * val (P.take Z.length) + 4294967296 ^ Z.length * bo) := ⟨hx, hr, hA, hU, uZ, hi, hp, hy, hyl, hyh, heq⟩
      have HF : Hid (∀ z b' : Int, z = r - y + 4294967296 * b' → val (Z ++ [z]) = val (R.take (i + 1)) - q * val (P.take (i + 1)) + 4294967296 ^ (i + 1) * b') := fun z b' hz => by
        rw [val_snoc, hi, val_take_succ R i (by omega), val_take_succ P i (by omega), hx, hr, pow_succ32]
        rw [hi] at heq
        exact take_step _ _ _ _ _ _ _ _ heq y (by rw [hp]; exact hy) z b' hz
      rw [hi]
      clear hx hr hA hU uZ hi heq hrp hyl
      by_cases hlt2 : r < yl
      · go_wp2
        go_roundw
        case rel =>
          obtain ⟨hx, hr, hA, hU, uZ, hi, hp, hy, hyl, hyh', heq⟩ := HH.out
          refine ⟨Z ++ [r + 4294967296 - yl], yh + 1, by go_num, by simp [hi], by simp; omega, ⟨by omega, by omega⟩, uZ.append (U32s.cons ⟨by omega, by omega⟩ U32s.nil), ?_, ?_, ?_⟩
          · have h1 : Arr .u64 79 _ br _ := ((hA.set i (r + 4294967296)).set i (r + 4294967296 - yl))
            rw [List.set_set, ← hi, cons_set Z R _ (by omega)] at h1
            rw [List.length_append, List.length_singleton, ← hi]; simpa [hi] using h1
          · exact (hU.trans (Upd.set _ _ _ _)).trans (Upd.set _ _ _ _)
          · rw [List.length_append, List.length_singleton, hi]; exact HF.out _ _ (by omega)
        case measure => simp [intOf]; omega
      · go_wp2
        go_roundw
        case rel =>
          obtain ⟨hx, hr, hA, hU, uZ, hi, hp, hy, hyl, hyh', heq⟩ := HH.out
          refine ⟨Z ++ [r - yl], yh, by go_num, by simp [hi], by simp; omega, ⟨by omega, by omega⟩, uZ.append (U32s.cons ⟨by omega, by omega⟩ U32s.nil), ?_, ?_, ?_⟩
          · have h1 : Arr .u64 79 _ br _ := (hA.set i (r - yl))
            rw [← hi, cons_set Z R _ (by omega)] at h1
            rw [List.length_append, List.length_singleton, ← hi]; simpa [hi] using h1
          · exact hU.trans (Upd.set _ _ _ _)
          · rw [List.length_append, List.length_singleton, hi]; exact HF.out _ _ (by omega)
        case measure => simp [intOf]; omega
    · have hin : i = n := by omega
      obtain ⟨t, ht⟩ : ∃ t, R.getD n 0 = t := ⟨_, rfl⟩
      have ut : U32 t := ht ▸ uR.at n
      obtain ⟨ut1, ut2⟩ := ut
      have htop := val_top lR
      rw [ht] at htop
      have hZb := val_lt uZ
      have hZ0 := val_nonneg uZ
      rw [hi, hin] at heq hZb
      have hPf : P.take n = P := List.take_of_length_le (by omega)
      rw [hPf] at heq
      have hbt : bo ≤ t := by
        apply Decidable.byContradiction
        intro hc
        have h1 : 4294967296 ^ n * (t + 1) ≤ 4294967296 ^ n * bo := Int.mul_le_mul_of_nonneg_left (by omega) (Int.le_of_lt (pow_pos32 n))
        rw [Int.mul_add, Int.mul_one] at h1
        omega
      have hct : wr.cell? ⟨br, n, none⟩ = some (.int .u64 t) := by
        rw [hA.cell n (by rw [cat_len _ _ (by omega)]; omega), cat_get _ _ _ (by omega), ht]
      have hft : wr.frozen? ⟨br, n, none⟩ = false := hA.frozen n
      have HH : Hid (Arr .u64 79 wr br (Z ++ R.drop Z.length) ∧ Upd w wr br ∧ U32s Z ∧ Z.length = n ∧ val Z = val (R.take n) - q * val P + 4294967296 ^ n * bo ∧ val R = val (R.take n) + 4294967296 ^ n * t) := ⟨hA, hU, uZ, hi.trans hin, heq, htop⟩
      rw [hi, hin]
      clear hA hU uZ hi hin heq htop hZb hZ0 ht hPf hR
      go_wp2
      go_end0
      obtain ⟨hA, hU, uZ, hi, heq, htop⟩ := HH.out
      refine ⟨rfl, Z ++ [t - bo], ?_, uZ.append (U32s.cons ⟨by omega, by omega⟩ U32s.nil), by simp [hi], ?_, hU.trans (Upd.set _ _ _ _)⟩
      · have h1 : Arr .u64 79 _ br _ := hA.set n (t - bo)
        rw [← hi, cons_set Z R _ (by omega), List.drop_eq_nil_of_le (by omega), List.append_nil] at h1
        simpa [hi] using h1
      · rw [val_snoc, hi, heq, htop, Int.mul_sub]; omega
end Go.Proofs.YtndoibmpnhkmpaaGreatDoor.Nt
/-
  The walk of the reference's wide; the arithmetic of its product.
-/
namespace Go.Proofs.YtndoibmpnhkmpaaGreatDoor.Nt
open Go.RowKit

theorem wide_set (X : List Int) (n i : Nat) (hi : i < X.length) (hn : X.length ≤ n) : (X.take i ++ List.replicate (n - i) 0).set i (X.getD i 0) = X.take (i + 1) ++ List.replicate (n - (i + 1)) 0 := by
  have h1 : (X.take i).length = i := by simp; omega
  rw [List.set_append_right _ _ (by omega), h1, Nat.sub_self, show n - i = (n - (i + 1)) + 1 by omega, List.replicate_succ, List.set_cons_zero, D.take_snoc X hi]
  simp
theorem val_pad (X : List Int) (k : Nat) : val (X ++ List.replicate k 0) = val X := by rw [val_append, val_zeros]; simp

set_option maxHeartbeats 2000000 in
theorem wide_any {w : World} (v : Value) (X : List Int) (hX : Sl .u32 w v X) (uX : U32s X) (n : Nat) (hn : X.length ≤ n) (hn2 : n ≤ 65536) :
    Calls Tryz.prog 74 #[v, .int .i64 n] w fun e w' => ∃ r L, e = .returned r ∧ L.length = n ∧ U32s L ∧ val L = val X ∧ Sl .u64 w' r L ∧ Below w.heap.size w w' := by
  have hX0 := hX
  obtain ⟨a, c, hv, _⟩ := hX.len
  subst hv
  go_enter Tryz.func74, Tryz.ntmps74
  go_wp2_with (at_make; refine wpList_mk _ rfl _ _ 88 rfl .u64 79 8 Tryz.und64 Tryz.info64 _ n rfl rfl rfl (by omega) (by omega) ?_; intro w1 hA1 hB1)
  go_loopw [6] (fun iv wr => ∃ i : Nat, iv = .int .i64 i ∧ i ≤ X.length ∧ Arr .u64 79 wr w.heap.size (X.take i ++ List.replicate (n - i) 0) ∧ Below w.heap.size w wr) (fun iv _ => X.length - (intOf iv).toNat)
  case atStart => exact ⟨0, rfl, Nat.zero_le _, by simpa using hA1, hB1⟩
  case round =>
    clear hA1 hB1
    obtain ⟨i, rfl, hi, hA, hBt⟩ := hrel
    by_cases hlt : i < X.length
    · obtain ⟨x, hx⟩ : ∃ x, X.getD i 0 = x := ⟨_, rfl⟩
      have ux : U32 x := hx ▸ uX.at i
      obtain ⟨ux1, ux2⟩ := ux
      obtain ⟨b, off, ha, hb, hr⟩ : ∃ b off, a = some ⟨b, off, none⟩ ∧ b < w.heap.size ∧ Rd .u32 w b off X := by
        obtain ⟨a', c', h1, _, h2⟩ := hX0
        cases h1
        rcases h2 with rfl | ⟨b, off, rfl, hb, hr⟩
        · simp at hlt
        · exact ⟨b, off, rfl, hb, hr⟩
      subst ha
      have hcx : wr.cell? ⟨b, off + i, none⟩ = some (.int .u32 x) := by rw [hBt.cell hb, hr i hlt, hx]
      have hlen : (X.take i ++ List.replicate (n - i) 0).length = n := by simp; omega
      have hco := hA.cell i (by omega)
      obtain ⟨o, ho⟩ : ∃ o, (X.take i ++ List.replicate (n - i) 0).getD i 0 = o := ⟨_, rfl⟩
      rw [ho] at hco
      have hfo := hA.frozen i
      have hin : i < n := by omega
      have HH : Hid (X.getD i 0 = x ∧ Arr .u64 79 wr w.heap.size (X.take i ++ List.replicate (n - i) 0) ∧ Below w.heap.size w wr) := ⟨hx, hA, hBt⟩
      clear hx hA hBt hr hX hX0 ho hlen
      go_wp2
      go_roundw
      case rel =>
        obtain ⟨hx, hA, hBt⟩ := HH.out
        refine ⟨i + 1, by go_num, by omega, ?_, hBt.setCell (Nat.le_refl _) _⟩
        rw [← wide_set X n i hlt hn, hx]; exact hA.set i x
      case measure => simp [intOf]; omega
    · have hfull : X.take i = X := List.take_of_length_le (by omega)
      have hiX : i = X.length := by omega
      rw [hfull] at hA
      obtain ⟨L, hL⟩ : ∃ L, X ++ List.replicate (n - i) 0 = L := ⟨_, rfl⟩
      rw [hL] at hA
      have lL : L.length = n := by rw [← hL]; simp; omega
      have uL : U32s L := hL ▸ uX.append (U32s.zeros _)
      have vL : val L = val X := by rw [← hL]; exact val_pad X _
      have hs := hA.sl64
      rw [lL] at hs
      have hs' : Sl .u64 wr (.slice (some ⟨w.heap.size, 0, none⟩) n n) L := hs
      have HV : Hid (L.length = n ∧ val L = val X) := ⟨lL, vL⟩
      clear hfull hA hs hL vL lL hX0 hX
      by_cases hin : i < n
      · go_wp2
        go_ret
        exact ⟨_, L, rfl, HV.out.1, uL, HV.out.2, hs', hBt⟩
      · go_wp2
        go_ret
        exact ⟨_, L, rfl, HV.out.1, uL, HV.out.2, hs', hBt⟩

theorem or_hi32 (x y : Int) (hx0 : 0 ≤ x) (hx : x < 4294967296) (hy0 : 0 ≤ y) (hy : y < 4294967296) : bits .or .u64 (x * 4294967296) y = x * 4294967296 + y := by
  obtain ⟨a, rfl⟩ := Int.eq_ofNat_of_zero_le hx0
  obtain ⟨b, rfl⟩ := Int.eq_ofNat_of_zero_le hy0
  have ha : a < 4294967296 := by omega
  have hb : b < 2 ^ 32 := by omega
  have h := (bits_nat .u64 64 (by decide) (fun n h₀ h₁ => by rw [IntKind.wrap_u64]; omega) (a * 4294967296) b (by omega) (by omega)).2
  have e : ((a * 4294967296 : Nat) : Int) = (a : Int) * 4294967296 := by simp
  rw [e] at h
  have h2 := Nat.two_pow_add_eq_or_of_lt hb a
  rw [h, show a * 4294967296 = 2 ^ 32 * a by omega, ← h2]
  omega
/-- One limb more is taken in, and q times P off: never too much. -/
theorem low_guess {R P B rt pt lo pl : Int} (hB : 0 < B) (h0 : 0 ≤ lo) (hR : R = lo + B * rt) (hP : P = pl + B * pt) (hpl : pl < B) (hpt : 0 ≤ pt) (hrt : 0 ≤ rt) (hRP : R < 4294967296 * P) :
    rt / (pt + 1) * P ≤ R ∧ 0 ≤ rt / (pt + 1) ∧ rt / (pt + 1) < 4294967296 := by
  have h1 := Int.mul_ediv_add_emod rt (pt + 1); have h2 := Int.emod_nonneg rt (show pt + 1 ≠ 0 by omega)
  have hq0 : 0 ≤ rt / (pt + 1) := Int.ediv_nonneg hrt (by omega)
  obtain ⟨q, hq⟩ : ∃ q, rt / (pt + 1) = q := ⟨_, rfl⟩
  rw [hq] at h1 hq0 ⊢
  have h3 : P ≤ B * (pt + 1) := by rw [Int.mul_add, Int.mul_one]; omega
  have h4 : q * P ≤ q * (B * (pt + 1)) := Int.mul_le_mul_of_nonneg_left h3 hq0
  have h5 : q * (B * (pt + 1)) = B * ((pt + 1) * q) := by grind
  have h6 : B * ((pt + 1) * q) ≤ B * rt := Int.mul_le_mul_of_nonneg_left (by omega) (by omega)
  refine ⟨by omega, hq0, ?_⟩
  have h7 : B * rt < B * (4294967296 * (pt + 1)) := by
    have h8 : 4294967296 * P ≤ 4294967296 * (B * (pt + 1)) := Int.mul_le_mul_of_nonneg_left h3 (by decide)
    have h9 : 4294967296 * (B * (pt + 1)) = B * (4294967296 * (pt + 1)) := by grind
    omega
  have h10 : rt < 4294967296 * (pt + 1) := Int.lt_of_mul_lt_mul_left h7 (by omega)
  rw [← hq]; exact Int.ediv_lt_of_lt_mul (by omega) h10
theorem shift_set (R : List Int) (n k : Nat) (hk : k < n) (lR : R.length = n + 1) :
    (R.take (k + 2) ++ (R.take n).drop (k + 1)).set (k + 1) (R.getD k 0) = R.take (k + 1) ++ (R.take n).drop k := by
  have h1 : R.take (k + 2) = R.take (k + 1) ++ [R.getD (k + 1) 0] := D.take_snoc R (by omega)
  have h2 : (R.take (k + 1)).length = k + 1 := by simp; omega
  have h3 : (R.take n).drop k = R.getD k 0 :: (R.take n).drop (k + 1) := by
    rw [List.drop_eq_getElem_cons (by simp; omega)]; simp [List.getD, List.getElem?_eq_getElem (show k < R.length by omega)]
  rw [h1, List.append_assoc, List.set_append_right _ _ (by omega), h2, Nat.sub_self, h3]; rfl
end Go.Proofs.YtndoibmpnhkmpaaGreatDoor.Nt
/-
  The walk of the reference's product: modulo P, limb by limb from the highest.
-/
namespace Go.Proofs.YtndoibmpnhkmpaaGreatDoor.Nt
open Go.RowKit
attribute [local go_sem ↓] Go.wp_at_zero Go.wp_at_succ

theorem drop_step32 (A : List Int) (k : Nat) (h : k < A.length) : val (A.drop k) = A.getD k 0 + 4294967296 * val (A.drop (k + 1)) := by
  rw [List.drop_eq_getElem_cons h]; simp only [val]; simp [List.getD, List.getElem?_eq_getElem h]
theorem mod_step {hi P t R V : Int} (hR : hi % P = R) (hV : t + 4294967296 * R = V) : (t + 4294967296 * hi) % P = V % P := by
  have h := Int.mul_ediv_add_emod hi P
  rw [hR] at h
  have e : t + 4294967296 * hi = V + P * (4294967296 * (hi / P)) := by
    rw [← hV]
    have : (P * (hi / P) + R) / P = hi / P := by rw [h]
    rw [← h, this]; grind
  rw [e, Int.add_mul_emod_self_left]
theorem sub_mod (V q P : Int) : (V - q * P) % P = V % P := by
  rw [show V - q * P = V + P * (-q) by grind, Int.add_mul_emod_self_left]
theorem sub_mod1 (V P : Int) : (V - P) % P = V % P := by
  rw [show V - P = V + P * (-1) by omega, Int.add_mul_emod_self_left]
theorem top_split {L : List Int} (u : U32s L) (m : Nat) (h : L.length = m + 2) : ∃ lo, 0 ≤ lo ∧ lo < 4294967296 ^ m ∧ val L = lo + 4294967296 ^ m * (L.getD (m + 1) 0 * 4294967296 + L.getD m 0) := by
  refine ⟨val (L.take m), val_nonneg (u.take m), ?_, ?_⟩
  · have := val_lt (u.take m); rw [List.length_take, Nat.min_eq_left (by omega)] at this; exact this
  · have h1 : val L = val (L.take (m + 1 + 1)) := by rw [List.take_of_length_le (by omega)]
    rw [h1, val_take_succ _ _ (by omega), val_take_succ _ _ (by omega), pow_succ32]
    grind

/-- The first half: the product's limbs. -/
def ProdT (w w2 : World) (bt : Nat) (T : List Int) (n : Nat) (V : Int) : Prop := Arr .u64 79 w2 bt T ∧ U32s T ∧ T.length = 2 * n ∧ val T = V ∧ Below w.heap.size w w2

set_option maxHeartbeats 8000000 in
set_option maxRecDepth 20000 in
theorem product64_any {w : World} (v u t : Value) (A Bl P : List Int) (hA : Sl .u64 w v A) (hB : Sl .u64 w u Bl) (hP : Sl .u64 w t P) (uA : U32s A) (uB : U32s Bl) (uP : U32s P) (m : Nat) (lA : A.length = m + 1) (lB : Bl.length = m + 1) (lP : P.length = m + 1) (hm : m ≤ 1024) (hP0 : 0 < val P) :
    Calls Tryz.prog 77 #[v, u, t] w fun e w' => ∃ r L, e = .returned r ∧ L.length = m + 1 ∧ U32s L ∧ val L = val A * val Bl % val P ∧ Sl .u64 w' r L ∧ Below w.heap.size w w' := by
  obtain ⟨aA, cA, hvA, hcA⟩ := hA.len
  obtain ⟨aB, cB, hvB, hcB⟩ := hB.len
  obtain ⟨aP, cP, hvP, hcP⟩ := hP.len
  subst hvA; subst hvB; subst hvP
  rw [lA] at hA hcA ⊢
  rw [lB] at hB hcB ⊢
  rw [lP] at hP hcP ⊢
  obtain ⟨ba, oa, ha, hba, hra⟩ : ∃ b off, aA = some ⟨b, off, none⟩ ∧ b < w.heap.size ∧ Rd .u64 w b off A := by
    obtain ⟨a', c', h1, _, h2⟩ := id hA
    simp only [Value.slice.injEq] at h1
    obtain ⟨rfl, _, _⟩ := h1
    rcases h2 with h2 | ⟨b, off, rfl, hb, hr⟩
    · rw [h2] at lA; simp at lA
    · exact ⟨b, off, rfl, hb, hr⟩
  obtain ⟨bb, ob, hb', hbb, hrb⟩ : ∃ b off, aB = some ⟨b, off, none⟩ ∧ b < w.heap.size ∧ Rd .u64 w b off Bl := by
    obtain ⟨a', c', h1, _, h2⟩ := id hB
    simp only [Value.slice.injEq] at h1
    obtain ⟨rfl, _, _⟩ := h1
    rcases h2 with h2 | ⟨b, off, rfl, hb, hr⟩
    · rw [h2] at lB; simp at lB
    · exact ⟨b, off, rfl, hb, hr⟩
  obtain ⟨bp, op, hp', hbp, hrp⟩ : ∃ b off, aP = some ⟨b, off, none⟩ ∧ b < w.heap.size ∧ Rd .u64 w b off P := by
    obtain ⟨a', c', h1, _, h2⟩ := id hP
    simp only [Value.slice.injEq] at h1
    obtain ⟨rfl, _, _⟩ := h1
    rcases h2 with h2 | ⟨b, off, rfl, hb, hr⟩
    · rw [h2] at lP; simp at lP
    · exact ⟨b, off, rfl, hb, hr⟩
  subst ha; subst hb'; subst hp'
  have HRA : Hid (Rd .u64 w ba oa A) := hra
  have HRB : Hid (Rd .u64 w bb ob Bl) := hrb
  have HRP : Hid (Rd .u64 w bp op P) := hrp
  have HP : Hid (Sl .u64 w (.slice (some ⟨bp, op, none⟩) (m + 1) cP) P) := hP
  clear hra hrb hrp hA hB hP
  obtain ⟨n, hn⟩ : ∃ n, m + 1 = n := ⟨_, rfl⟩
  have hn1 : 1 ≤ n := by omega
  have hn2 : n ≤ 1025 := by omega
  rw [hn] at lA lB lP hcA hcB hcP HP ⊢
  go_enter Tryz.func77, Tryz.ntmps77
  go_wp2_with (at_make; refine wpList_mk _ rfl _ _ 88 rfl .u64 79 8 Tryz.und64 Tryz.info64 _ (2 * n) (by rfl) (by rfl) (by omega) (by omega) (by omega) ?_; intro w1 hT1 hB1)
  go_loopw [9] (fun iv wr => ∃ (i : Nat) (T : List Int), iv = .int .i64 i ∧ i ≤ n ∧ Arr .u64 79 wr w.heap.size T ∧ U32s T ∧ T.length = 2 * n ∧ Below w.heap.size w wr ∧ val T = val (A.take i) * val Bl ∧ ∀ j, i + n ≤ j → T.getD j 0 = 0)
      (fun iv _ => n - (intOf iv).toNat)
  case atStart => exact ⟨0, _, rfl, Nat.zero_le _, hT1, U32s.zeros _, by simp, hB1, by simp [val_zeros, val], fun j _ => by simp [List.getD, List.getElem?_replicate]; split <;> rfl⟩
  case round =>
    clear hT1 hB1
    obtain ⟨i, S, rfl, hi, hS, uS, lS, hBt, hv, hz⟩ := hrel
    by_cases hlt : i < n
    · obtain ⟨x, hx⟩ : ∃ x, A.getD i 0 = x := ⟨_, rfl⟩
      have ux : U32 x := hx ▸ uA.at i
      have HO : Hid (Below w.heap.size w wr ∧ val S = val (A.take i) * val Bl ∧ (∀ j, i + n ≤ j → S.getD j 0 = 0) ∧ Arr .u64 79 wr w.heap.size S) := ⟨hBt, hv, hz, hS⟩
      have HX : Hid (A.getD i 0 = x) := hx
      clear hBt hv hz hx hS
      obtain ⟨ux1, ux2⟩ := ux
      go_wp2
      go_loopw [10, 11] (fun cv kv wq => ∃ Z carry, Z.length ≤ n ∧ kv = .int .i64 Z.length ∧ cv = .int .u64 carry ∧ U32 carry ∧ U32s Z ∧ Arr .u64 79 wq w.heap.size (S.take i ++ Z ++ S.drop (i + Z.length)) ∧ Below w.heap.size w wq ∧
        val Z + 4294967296 ^ Z.length * carry = val ((S.drop i).take Z.length) + x * val (Bl.take Z.length)) (fun _ kv _ => n - (intOf kv).toNat)
      case atStart => exact ⟨[], 0, Nat.zero_le _, rfl, rfl, ⟨by decide, by decide⟩, U32s.nil, by simpa using HO.out.2.2.2, HO.out.1, by simp [val]⟩
      case round =>
        obtain ⟨Z, carry, hkz, rfl, rfl, uc, uZ, hM, hBt, heq⟩ := hrel
        obtain ⟨uc1, uc2⟩ := uc
        obtain ⟨k, hk⟩ : ∃ k, Z.length = k := ⟨_, rfl⟩
        by_cases hlt2 : k < n
        · obtain ⟨y, hy⟩ : ∃ y, Bl.getD k 0 = y := ⟨_, rfl⟩
          obtain ⟨s, hs⟩ : ∃ s, S.getD (i + k) 0 = s := ⟨_, rfl⟩
          have uy : U32 y := hy ▸ uB.at k
          have us : U32 s := hs ▸ uS.at (i + k)
          have hcx : wr.cell? ⟨ba, oa + i, none⟩ = some (.int .u64 x) := by rw [hBt.cell hba, HRA.out i (by omega), HX.out]
          have hcy : wr.cell? ⟨bb, ob + k, none⟩ = some (.int .u64 y) := by rw [hBt.cell hbb, HRB.out k (by omega), hy]
          have hcs : wr.cell? ⟨w.heap.size, i + k, none⟩ = some (.int .u64 s) := by
            have := hM.cell (i + k) (by rw [mid_len _ _ _ (by omega)]; omega)
            rw [← hk, mid_get, hk, hs] at this; rw [← hk, ← this, hk]
          have hfs : wr.frozen? ⟨w.heap.size, i + k, none⟩ = false := hM.frozen _
          obtain ⟨p, hp⟩ : ∃ p, x * y = p := ⟨_, rfl⟩
          have hpb := mul_u32 ⟨ux1, ux2⟩ uy
          rw [hp] at hpb
          obtain ⟨pb1, pb2⟩ := hpb
          obtain ⟨uy1, uy2⟩ := uy
          obtain ⟨us1, us2⟩ := us
          have hand := and_low32 (p + s + carry) (by omega) (by omega)
          have HH : Hid (Bl.getD k 0 = y ∧ S.getD (i + k) 0 = s ∧ Arr .u64 79 wr w.heap.size (S.take i ++ Z ++ S.drop (i + Z.length)) ∧ Below w.heap.size w wr ∧ U32s Z ∧ Z.length = k ∧ x * y = p ∧
            val Z + 4294967296 ^ Z.length * carry = val ((S.drop i).take Z.length) + x * val (Bl.take Z.length)) := ⟨hy, hs, hM, hBt, uZ, hk, hp, heq⟩
          rw [hk] at hkz ⊢
          clear hy hs hM hBt uZ heq hk
          go_wp2
          go_quiet (fail)
          go_wp2
          go_roundw
          case rel =>
            obtain ⟨hy, hs, hM, hBt, uZ, hk, hp, heq⟩ := HH.out
            refine ⟨Z ++ [(p + s + carry) % 4294967296], (p + s + carry) / 4294967296, ?_, ?_, ?_, ?_, ?_, ?_, ?_, ?_⟩
            · simp; omega
            · simp [hk]
            · go_num
            · exact ⟨by omega, by omega⟩
            · exact uZ.append (U32s.cons ⟨by omega, by omega⟩ U32s.nil)
            · subst hk; rw [← mid_set _ _ _ _ (by omega)]; exact (hM.drewN _).set _ _
            · exact (dr hBt).setCell (Nat.le_refl _) _
            · subst hk
              rw [val_snoc, List.length_append, List.length_singleton, pow_succ32, val_take_succ _ _ (by simp; omega), val_take_succ _ _ (by omega), hy]
              have hgd : (S.drop i).getD Z.length 0 = s := by rw [List.getD_eq_getElem?_getD, List.getElem?_drop, ← List.getD_eq_getElem?_getD]; exact hs
              rw [hgd]
              have := add_step (4294967296 ^ Z.length) carry x y s (val Z) _ (p + s + carry) (by rw [hp]; omega) heq
              rw [this, Int.mul_add]; omega
          case measure => simp [intOf]; omega
        · have hkB : Z.length = n := by omega
          have hz2 : (S.take i ++ Z ++ S.drop (i + Z.length)).getD (i + n) 0 = 0 := by rw [mid_above (by omega) (by omega)]; exact HO.out.2.2.1 _ (Nat.le_refl _)
          have hcs := hM.cell (i + n) (by rw [mid_len _ _ _ (by omega)]; omega)
          rw [hz2] at hcs
          have hfs := hM.frozen (i + n)
          have HH : Hid (Arr .u64 79 wr w.heap.size (S.take i ++ Z ++ S.drop (i + Z.length)) ∧ Below w.heap.size w wr ∧ U32s Z ∧ Z.length = n ∧ U32 carry ∧ (S.take i ++ Z ++ S.drop (i + Z.length)).getD (i + n) 0 = 0 ∧
            val Z + 4294967296 ^ Z.length * carry = val ((S.drop i).take Z.length) + x * val (Bl.take Z.length)) := ⟨hM, hBt, uZ, hkB, ⟨uc1, uc2⟩, hz2, heq⟩
          rw [hkB]
          clear hM hBt uZ heq hz2 hkB
          go_wp2
          go_roundw
          case rel =>
            obtain ⟨hM, hBt, uZ, hkB, uc, hz2, heq⟩ := HH.out
            obtain ⟨_, hv, hz, _⟩ := HO.out
            have hfit : i + Z.length ≤ S.length := by omega
            refine ⟨i + 1, (S.take i ++ Z ++ S.drop (i + Z.length)).set (i + n) carry, by go_num, by omega, hM.set _ _, (mid_u32 uS uZ).set _ uc, by rw [List.length_set, mid_len _ _ _ hfit]; exact lS, hBt.setCell (Nat.le_refl _) _, ?_, fun j hj => ?_⟩
            · rw [val_set (by rw [mid_len _ _ _ hfit]; omega), hz2, Int.sub_zero, mid_val hfit, hv, val_take_succ _ _ (by omega), HX.out]
              rw [hkB, List.take_of_length_le (by omega : Bl.length ≤ n)] at heq
              have e1 : val Z - val ((S.drop i).take Z.length) = x * val Bl - 4294967296 ^ n * carry := by rw [hkB]; omega
              rw [e1, Int.pow_add]
              grind
            · rw [List.getD_eq_getElem?_getD, List.getElem?_set_ne (by omega), ← List.getD_eq_getElem?_getD, mid_above hfit (by omega)]; exact hz j (by omega)
          case measure => simp [intOf]; omega
    · have hin : i = n := by omega
      have HT : Hid (ProdT w wr w.heap.size S n (val A * val Bl)) := ⟨hS, uS, lS, by rw [hv, hin, List.take_of_length_le (by omega)], hBt⟩
      obtain ⟨bt, hbt⟩ : ∃ bt, w.heap.size = bt := ⟨_, rfl⟩
      rw [hbt] at HT ⊢
      have HBT : Hid (w.heap.size = bt) := hbt
      clear hS uS lS hv hz hBt hin hbt
      obtain ⟨w2, hw2⟩ : ∃ w2, wr = w2 := ⟨_, rfl⟩
      rw [hw2] at HT ⊢
      clear hw2
      have hbtw : bt < w2.heap.size := HT.out.1.lt
      have hww : w.heap.size ≤ w2.heap.size := HT.out.2.2.2.2.size
      go_wp2_with (at_make; refine wpList_mk _ rfl _ _ 88 rfl .u64 79 8 Tryz.und64 Tryz.info64 _ (n + 1) (by rfl) (by rfl) (by omega) (by omega) (by omega) ?_; intro w3 hR3 hB3)
      obtain ⟨br, hbr⟩ : ∃ br, w2.heap.size = br := ⟨_, rfl⟩
      rw [hbr] at hR3 ⊢
      have HBR : Hid (w2.heap.size = br) := hbr
      clear hbr
      go_loopw [14] (fun iv wr => ∃ (k : Nat) (R : List Int), iv = .int .i64 ((k : Int) - 1) ∧ k ≤ 2 * n ∧ Arr .u64 79 wr br R ∧ U32s R ∧ R.length = n + 1 ∧ val R = val (S.drop k) % val P ∧ Below w2.heap.size w2 wr) (fun iv _ => (intOf iv + 1).toNat)
      case atStart => exact ⟨2 * n, List.replicate (n + 1) 0, by go_num, Nat.le_refl _, hR3, U32s.zeros _, by simp, by rw [val_zeros, List.drop_of_length_le (by have := HT.out.2.2.1; omega)]; simp [val], hB3⟩
      case round =>
        clear hR3 hB3
        obtain ⟨k0, R, rfl, hk, hR, uR, lR, hv, hBr⟩ := hrel
        have hRP : val R < val P := by rw [hv]; exact Int.emod_lt_of_pos _ hP0
        have htop := val_top lR
        have hPb := val_lt uP
        rw [lP] at hPb
        have hR0 := val_nonneg (uR.take n)
        have urn : U32 (R.getD n 0) := uR.at n
        have hrn : R.getD n 0 = 0 := by
          apply Decidable.byContradiction
          intro hc
          unfold U32 at urn
          have : 4294967296 ^ n * 1 ≤ 4294967296 ^ n * R.getD n 0 := Int.mul_le_mul_of_nonneg_left (by omega) (Int.le_of_lt (pow_pos32 n))
          omega
        have hvt : val (R.take n) = val R := by rw [htop, hrn]; simp
        clear htop hPb hR0 urn hrn
        cases k0 with
        | zero =>
          have em : (((0 : Nat) : Int) - 1) = -1 := by rfl
          rw [em]
          have HF : Hid (Sl .u64 wr (.slice (some ⟨br, 0, none⟩) n (n + 1)) (R.take n) ∧ (R.take n).length = n ∧ val (R.take n) = val A * val Bl % val P) := by
            refine ⟨?_, by simp; omega, by rw [hvt, hv, List.drop_zero, HT.out.2.2.2.1]⟩
            have e1 : (R.take n).length = n := by simp; omega
            refine ⟨some ⟨br, 0, none⟩, n + 1, by rw [e1], by omega, .inr ⟨br, 0, rfl, hR.lt, ?_⟩⟩
            have := hR.rd 0 n (by omega)
            rw [List.drop_zero] at this; exact this
          clear em hv hRP hvt
          go_wp2
          go_ret
          exact ⟨_, R.take n, rfl, HF.out.2.1, uR.take n, HF.out.2.2, HF.out.1, HT.out.2.2.2.2.trans (hBr.mono hww)⟩
        | succ j =>
          have em : (((j + 1 : Nat) : Int) - 1) = (j : Int) := by omega
          rw [em]
          clear em
          have HR : Hid (Arr .u64 79 wr br R ∧ val R = val (S.drop (j + 1)) % val P ∧ val (R.take n) = val R ∧ Below w2.heap.size w2 wr ∧ val R < val P) := ⟨hR, hv, hvt, hBr, hRP⟩
          clear hR hv hvt hBr hRP
          go_wp2
          go_loopw [15] (fun kv wq => ∃ kk : Nat, kv = .int .i64 kk ∧ kk ≤ n ∧ Arr .u64 79 wq br (R.take (kk + 1) ++ (R.take n).drop kk) ∧ Below w2.heap.size w2 wq) (fun kv _ => (intOf kv).toNat)
          case atStart =>
            refine ⟨n, rfl, Nat.le_refl _, ?_, HR.out.2.2.2.1⟩
            have e1 : R.take (n + 1) ++ (R.take n).drop n = R := by rw [List.take_of_length_le (by omega), List.drop_of_length_le (by simp; omega), List.append_nil]
            rw [e1]; exact HR.out.1
          case round =>
            obtain ⟨kk, rfl, hkn, hL, hBq⟩ := hrel
            have hlenL : (R.take (kk + 1) ++ (R.take n).drop kk).length = n + 1 := by simp; omega
            cases kk with
            | succ k' =>
              obtain ⟨x, hx⟩ : ∃ x, R.getD k' 0 = x := ⟨_, rfl⟩
              have hcx : wr.cell? ⟨br, k', none⟩ = some (.int .u64 x) := by
                rw [hL.cell k' (by omega), List.getD_eq_getElem?_getD, List.getElem?_append_left (by simp; omega), List.getElem?_take, if_pos (by omega), ← List.getD_eq_getElem?_getD, hx]
              obtain ⟨o, ho⟩ : ∃ o, (R.take (k' + 1 + 1) ++ (R.take n).drop (k' + 1)).getD (k' + 1) 0 = o := ⟨_, rfl⟩
              have hco := hL.cell (k' + 1) (by omega)
              rw [ho] at hco
              have hfo := hL.frozen (k' + 1)
              have HH : Hid (Arr .u64 79 wr br (R.take (k' + 1 + 1) ++ (R.take n).drop (k' + 1)) ∧ Below w2.heap.size w2 wr ∧ R.getD k' 0 = x) := ⟨hL, hBq, hx⟩
              clear hL hBq hx ho hlenL
              go_wp2
              go_roundw
              case rel =>
                obtain ⟨hL, hBq, hx⟩ := HH.out
                refine ⟨k', by go_num, by omega, ?_, hBq.setCell (show w2.heap.size ≤ br by have := HBR.out; omega) _⟩
                have := hL.set (k' + 1) x
                rw [← hx, shift_set R n k' (by omega) lR, hx] at this; exact this
              case measure => simp [intOf]
            | zero =>
              obtain ⟨tj, htj⟩ : ∃ tj, S.getD j 0 = tj := ⟨_, rfl⟩
              have utj : U32 tj := htj ▸ HT.out.2.1.at j
              have hct : wr.cell? ⟨bt, j, none⟩ = some (.int .u64 tj) := by
                rw [(below_arr hBq hbtw HT.out.1).cell j (by have := HT.out.2.2.1; omega), htj]
              obtain ⟨o, ho⟩ : ∃ o, (R.take (0 + 1) ++ (R.take n).drop 0).getD 0 0 = o := ⟨_, rfl⟩
              have hco := hL.cell 0 (by omega)
              rw [ho] at hco
              have hfo := hL.frozen 0
              obtain ⟨R2, hR2⟩ : ∃ R2, tj :: R.take n = R2 := ⟨_, rfl⟩
              have hA4 : Arr .u64 79 (wr.setCell ⟨br, 0, none⟩ (.int .u64 tj)) br R2 := by
                have := hL.set 0 tj
                rw [D.take_snoc R (by omega : 0 < R.length)] at this
                rw [← hR2]; simpa using this
              have hB4 : Below w2.heap.size w2 (wr.setCell ⟨br, 0, none⟩ (.int .u64 tj)) := hBq.setCell (show w2.heap.size ≤ br by have := HBR.out; omega) _
              have lR2 : R2.length = n + 1 := by rw [← hR2]; simp; omega
              have uR2 : U32s R2 := hR2 ▸ U32s.cons utj (uR.take n)
              obtain ⟨V, hV⟩ : ∃ V, val R2 = V := ⟨_, rfl⟩
              have hV2 : tj + 4294967296 * val R = V := by rw [← hV, ← hR2]; simp only [val]; rw [HR.out.2.2.1]
              have HV : Hid (V % val P = val (S.drop j) % val P) := by
                show V % val P = val (S.drop j) % val P
                rw [drop_step32 S j (by have := HT.out.2.2.1; omega), htj]
                exact (mod_step HR.out.2.1.symm hV2).symm
              have hVP : V < 4294967296 * val P := by have := HR.out.2.2.2.2; unfold U32 at utj; omega
              obtain ⟨utj1, utj2⟩ := utj
              clear hL hBq ho hlenL hR2 hV2 htj
              have hjn : j < 2 * n := by omega
              go_upto_region 23 with (fail)
              generalize wr.setCell ⟨br, 0, none⟩ (.int .u64 tj) = W4 at *
              clear hct hco hfo
              obtain ⟨rn, hrn⟩ : ∃ x, R2.getD n 0 = x := ⟨_, rfl⟩
              obtain ⟨rm, hrm⟩ : ∃ x, R2.getD m 0 = x := ⟨_, rfl⟩
              obtain ⟨pm, hpm⟩ : ∃ x, P.getD m 0 = x := ⟨_, rfl⟩
              have urn : U32 rn := hrn ▸ uR2.at n
              have urm : U32 rm := hrm ▸ uR2.at m
              have upm : U32 pm := hpm ▸ uP.at m
              have hcn : W4.cell? ⟨br, n, none⟩ = some (.int .u64 rn) := by rw [hA4.cell n (by omega), hrn]
              have hcm : W4.cell? ⟨br, m, none⟩ = some (.int .u64 rm) := by rw [hA4.cell m (by omega), hrm]
              have hcp : W4.cell? ⟨bp, op + m, none⟩ = some (.int .u64 pm) := by
                rw [hB4.cell (p := ⟨bp, op + m, none⟩) (show bp < w2.heap.size by omega), HT.out.2.2.2.2.cell (p := ⟨bp, op + m, none⟩) (show bp < w.heap.size from hbp), HRP.out m (by omega), hpm]
              have hnm : (n : Int) - 1 = (m : Int) := by omega
              have hw1 : IntKind.i64.wrap ((n : Int) - 1) = (m : Int) := by rw [hnm, IntKind.wrap_i64]; omega
              have hw2 : IntKind.i64.wrap (m : Int) = (m : Int) := by rw [IntKind.wrap_i64]; omega
              have htn : ((m : Int)).toNat = m := by omega
              have hmn : (m : Int) < (n : Int) := by omega
              have hmn1 : (m : Int) < (n : Int) + 1 := by omega
              have hm00 : (0 : Int) ≤ (m : Int) := by omega
              have hnn1 : (n : Int) < (n : Int) + 1 := by omega
              have hn00 : (0 : Int) ≤ (n : Int) := by omega
              obtain ⟨rt, hrt⟩ : ∃ rt, rn * 4294967296 + rm = rt := ⟨_, rfl⟩
              obtain ⟨urn1, urn2⟩ := urn
              obtain ⟨urm1, urm2⟩ := urm
              obtain ⟨upm1, upm2⟩ := upm
              have hpz : (pm + 1 == 0) = false := by simp; omega
              have hpz' : ¬ pm + 1 = 0 := by omega
              have hpw : IntKind.u64.wrap (pm + 1) = pm + 1 := by rw [IntKind.wrap_u64]; omega
              have hpp : 0 ≤ pm + 1 := by omega
              have hrt0 : 0 ≤ rt := by omega
              have hor := or_hi32 rn rm urn1 urn2 urm1 urm2
              rw [hrt] at hor
              obtain ⟨q, hq⟩ : ∃ q, rt / (pm + 1) = q := ⟨_, rfl⟩
              have hlg : q * val P ≤ V ∧ 0 ≤ q ∧ q < 4294967296 := by
                obtain ⟨lo, hl0, hl1, hl2⟩ := top_split uR2 m (by omega)
                have hl3 := val_top (R := P) (n := m) (by omega)
                rw [hV, show m + 1 = n by omega, hrn, hrm, hrt] at hl2
                rw [hpm] at hl3
                have hl4 := val_lt (uP.take m)
                rw [List.length_take, Nat.min_eq_left (by omega)] at hl4
                have := low_guess (pow_pos32 m) hl0 hl2 hl3 hl4 upm1 (by omega) hVP
                rw [hq] at this; exact this
              obtain ⟨hl1, hl2, hl3⟩ := hlg
              have hcap : n + 1 ≤ n + 1 := Nat.le_refl _
              have HE : Hid (IntKind.u64.wrap ((bits BinOp.or .u64 (IntKind.u64.wrap (rn * 4294967296)) rm).tdiv (pm + 1)) = q) := by
                show IntKind.u64.wrap ((bits BinOp.or .u64 (IntKind.u64.wrap (rn * 4294967296)) rm).tdiv (pm + 1)) = q
                have e1 : IntKind.u64.wrap (rn * 4294967296) = rn * 4294967296 := by rw [IntKind.wrap_u64]; omega
                rw [e1, hor, Int.tdiv_eq_ediv_of_nonneg hrt0, hq, IntKind.wrap_u64]; omega
              have htake : ∀ q0, Calls Tryz.prog 108 #[.slice (some ⟨br, 0, none⟩) (n + 1) (n + 1), .slice (some ⟨bp, op, none⟩) n cP, .int .u64 q] (W4.drewN q0) fun e w' => e = .returned (.tuple #[]) ∧
                  Hid (∃ R3, Arr .u64 79 w' br R3 ∧ U32s R3 ∧ R3.length = n + 1 ∧ val R3 = V - q * val P ∧ Below w2.heap.size w2 w') := fun q0 => by
                have hBq : Below w2.heap.size w2 (W4.drewN q0) := dr hB4
                refine (take_any _ br (n + 1) R2 P q (hA4.drewN q0) (below_sl (HT.out.2.2.2.2.trans (hBq.mono hww)) HP.out) (HP.out.ne (by have := HBR.out; omega)) uR2 uP n lR2 lP hcap (by omega) ⟨hl2, hl3⟩ (by rw [hV]; exact hl1)).mono ?_
                rintro e w' ⟨rfl, R3, h1, h2, h3, h4, h5⟩
                exact ⟨rfl, R3, h1, h2, h3, by rw [h4, hV], h5.below hBq (by have := hBq.size; omega) (by have := HBR.out; omega)⟩
              have HQ : Hid (0 ≤ V - q * val P) := by show 0 ≤ V - q * val P; omega
              have HW : Hid (Below w2.heap.size w2 W4) := hB4
              clear hA4 hB4 hrn hrm hpm hV hl1 hVP
              clear hor hrt hq
              go_region_with (go_at_call 108; rw [HE.out]; refine (htake _).mono ?_; rintro e w5 ⟨rfl, H5⟩)
              all_goals
                obtain ⟨R3, hA3, uR3, lR3, hV3, hB5⟩ := H5.out
                have HS3 : Hid (Arr .u64 79 w5 br R3 ∧ U32s R3 ∧ R3.length = n + 1 ∧ val R3 % val P = V % val P ∧ Below w2.heap.size w2 w5) := by
                  refine ⟨hA3, uR3, lR3, ?_, hB5⟩
                  rw [hV3]; exact sub_mod V q (val P)
                clear H5 hA3 uR3 lR3 hV3 hB5 htake HQ HW HE
                go_wp2
                go_loopg [116] (val R3).toNat (fun gk _ wz => ∃ R4, gk = (val R4).toNat ∧ Arr .u64 79 wz br R4 ∧ U32s R4 ∧ R4.length = n + 1 ∧ Hid (val R4 % val P = V % val P) ∧ Below w2.heap.size w2 wz)
                case atStart => exact ⟨R3, rfl, HS3.out.1, HS3.out.2.1, HS3.out.2.2.1, HS3.out.2.2.2.1, HS3.out.2.2.2.2⟩
                case round =>
                  clear HS3
                  obtain ⟨R4, hgk, hA4, uR4, lR4, HM, hB4⟩ := hrel
                  have hPz : Sl .u64 wr (.slice (some ⟨bp, op, none⟩) n cP) P := below_sl (HT.out.2.2.2.2.trans (hB4.mono hww)) HP.out
                  have hRz := hA4.sl64
                  rw [lR4] at hRz
                  have hRz' : Sl .u64 wr (.slice (some ⟨br, 0, none⟩) (n + 1) (n + 1)) R4 := hRz
                  by_cases hge : val P ≤ val R4
                  · have hc := reach_any _ _ R4 P hRz' hPz uR4 uP n lR4 lP (by omega) true (decide_eq_true hge)
                    have htk : ∀ w', Below wr.heap.size wr w' → Calls Tryz.prog 108 #[.slice (some ⟨br, 0, none⟩) (n + 1) (n + 1), .slice (some ⟨bp, op, none⟩) n cP, .int .u64 1] w' fun e w'' => e = .returned (.tuple #[]) ∧
                        ∃ R5, Arr .u64 79 w'' br R5 ∧ U32s R5 ∧ R5.length = n + 1 ∧ val R5 = val R4 - val P ∧ Below w2.heap.size w2 w'' := fun w' hw' => by
                      have hA5 := below_arr hw' hA4.lt hA4
                      refine (take_any _ br (n + 1) R4 P 1 hA5 (below_sl hw' hPz) (HP.out.ne (by have := HBR.out; omega)) uR4 uP n lR4 lP (Nat.le_refl _) (by omega) ⟨by decide, by decide⟩ (by omega)).mono ?_
                      rintro e w'' ⟨rfl, R5, h1, h2, h3, h4, h5⟩
                      exact ⟨rfl, R5, h1, h2, h3, by rw [h4]; omega, h5.below (hB4.trans (hw'.mono hB4.size)) (by have := hB4.size; have := hw'.size; omega) (by have := HBR.out; omega)⟩
                    have HG : Hid (gk = (val R4).toNat ∧ 0 ≤ val R4 ∧ val P ≤ val R4) := ⟨hgk, val_nonneg uR4, hge⟩
                    clear hA4 hRz hRz' hPz hB4 hgk hge
                    go_wp2_with (first
                      | (go_at_call 109; refine hc.mono ?_; rintro e w6 ⟨rfl, hB6⟩)
                      | (go_at_call 108; refine (htk _ hB6).mono ?_; rintro e w7 ⟨rfl, R5, hA7, uR7, lR7, hv7, hB7⟩))
                    go_roundg (val R5).toNat
                    case measure => have h := HG.out; omega
                    case rel => exact ⟨R5, rfl, hA7, uR7, lR7, by show val R5 % val P = V % val P; rw [hv7, ← HM.out]; exact sub_mod1 (val R4) (val P), hB7⟩
                  · have hc := reach_any _ _ R4 P hRz' hPz uR4 uP n lR4 lP (by omega) false (decide_eq_false hge)
                    have HF : Hid (val R4 = val (S.drop j) % val P) := by
                      show val R4 = val (S.drop j) % val P
                      rw [← HV.out, ← HM.out]; exact (Int.emod_eq_of_lt (val_nonneg uR4) (by omega)).symm
                    have HA : Hid (Arr .u64 79 wr br R4 ∧ Below w2.heap.size w2 wr) := ⟨hA4, hB4⟩
                    clear hA4 hRz hRz' hPz hB4 hgk hge
                    go_wp2_with (go_at_call 109; refine hc.mono ?_; rintro e w6 ⟨rfl, hB6⟩)
                    go_roundw
                    case rel => exact ⟨j, R4, by go_num, by omega, below_arr hB6 HA.out.1.lt HA.out.1, uR4, lR4, HF.out, HA.out.2.trans (hB6.mono HA.out.2.size)⟩
                    case measure => simp [intOf]
end Go.Proofs.YtndoibmpnhkmpaaGreatDoor.Nt
