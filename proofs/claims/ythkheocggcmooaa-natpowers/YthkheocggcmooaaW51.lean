/-
  The walk of the reference's take: q times P is taken off R, in place.
-/
import Derived.Test.YthkheocggcmooaaW50
namespace Go.Proofs.Ythkheocggcmooaa
open Go.RowKit

theorem take_step (B b q x r Z A Q : Int) (h : Z = A - q * Q + B * b) (y : Int) (hy : q * x + b = y) (z b' : Int) (hz : z = r - y + 4294967296 * b') :
    Z + B * z = A + B * r - q * (Q + B * x) + 4294967296 * B * b' := by
  subst hz; subst hy; rw [h]; grind
theorem cons_set (Z R : List Int) (z : Int) (h : Z.length < R.length) : (Z ++ R.drop Z.length).set Z.length z = (Z ++ [z]) ++ R.drop (Z.length + 1) := by
  rw [List.set_append_right _ _ (Nat.le_refl _), Nat.sub_self, List.drop_eq_getElem_cons h, List.set_cons_zero]; simp
theorem cat_get (Z R : List Int) (j : Nat) (h : Z.length ≤ j) : (Z ++ R.drop Z.length).getD j 0 = R.getD j 0 := by
  rw [List.getD_eq_getElem?_getD, List.getElem?_append_right h, List.getElem?_drop, List.getD_eq_getElem?_getD]; congr 2; omega
theorem cat_len (Z R : List Int) (h : Z.length ≤ R.length) : (Z ++ R.drop Z.length).length = R.length := by simp; omega

set_option maxHeartbeats 4000000 in
theorem take_any {w : World} (u : Value) (br cr : Nat) (R P : List Int) (q : Int) (hR : Arr .u64 42 w br R) (hP : Sl .u64 w u P) (hne : ∀ b o n' c', P ≠ [] → u = .slice (some ⟨b, o, none⟩) n' c' → b ≠ br) (uR : U32s R) (uP : U32s P) (n : Nat) (lR : R.length = n + 1) (lP : P.length = n) (_hcr : n + 1 ≤ cr) (hn : n ≤ 65536) (uq : U32 q) (hle : q * val P ≤ val R) :
    Calls Try.prog 72 #[.slice (some ⟨br, 0, none⟩) (n + 1) cr, u, .int .u64 q] w fun e w' => e = .returned (.tuple #[]) ∧ ∃ R', Arr .u64 42 w' br R' ∧ U32s R' ∧ R'.length = n + 1 ∧ val R' = val R - q * val P ∧ Upd w w' br := by
  obtain ⟨b, cb, hu, hcb⟩ := hP.len
  subst hu
  rw [lP] at hP hcb hne ⊢
  obtain ⟨uq1, uq2⟩ := uq
  go_enter Try.func72, Try.ntmps72
  go_wp2
  go_loopw [6, 7] (fun bv iv wr => ∃ Z bo, bv = .int .u64 bo ∧ iv = .int .i64 Z.length ∧ Z.length ≤ n ∧ U32 bo ∧ U32s Z ∧ Arr .u64 42 wr br (Z ++ R.drop Z.length) ∧ Upd w wr br ∧ val Z = val (R.take Z.length) - q * val (P.take Z.length) + 4294967296 ^ Z.length * bo) (fun _ iv _ => n - (intOf iv).toNat)
  case atStart => exact ⟨[], 0, rfl, rfl, Nat.zero_le _, ⟨by decide, by decide⟩, U32s.nil, by simpa using hR, Upd.refl _ _, by simp [val]⟩
  case round =>
    obtain ⟨Z, bo, rfl, rfl, hZn, ubo, uZ, hA, hU, heq⟩ := hrel
    obtain ⟨i, hi⟩ : ∃ i, Z.length = i := ⟨_, rfl⟩
    obtain ⟨ub1, ub2⟩ := ubo
    by_cases hlt : i < n
    · obtain ⟨bp, op, hb, hbp, hrp⟩ : ∃ b' off, b = some ⟨b', off, none⟩ ∧ b' < w.heap.size ∧ Rd .u64 w b' off P := by
        obtain ⟨a', c', h1, _, h2⟩ := id hP
        simp only [Value.slice.injEq] at h1
        obtain ⟨rfl, _, _⟩ := h1
        rcases h2 with h2 | ⟨b, off, rfl, hb, hr⟩
        · rw [h2] at lP; simp at lP; omega
        · exact ⟨b, off, rfl, hb, hr⟩
      subst hb
      have hbne : bp ≠ br := hne _ _ _ _ (by intro h; rw [h] at lP; simp at lP; omega) rfl
      obtain ⟨x, hx⟩ : ∃ x, P.getD i 0 = x := ⟨_, rfl⟩
      obtain ⟨r, hr⟩ : ∃ r, R.getD i 0 = r := ⟨_, rfl⟩
      have ux : U32 x := hx ▸ uP.at i
      have ur : U32 r := hr ▸ uR.at i
      have hcx : wr.cell? ⟨bp, op + i, none⟩ = some (.int .u64 x) := by
        rw [(hU.rd hbp hrp hbne) i (by omega), hx]
      have hcr' : wr.cell? ⟨br, i, none⟩ = some (.int .u64 r) := by
        rw [hA.cell i (by rw [cat_len _ _ (by omega)]; omega), cat_get _ _ _ (by omega), hr]
      have hfr : wr.frozen? ⟨br, i, none⟩ = false := hA.frozen i
      obtain ⟨p, hp⟩ : ∃ p, q * x = p := ⟨_, rfl⟩
      have hpb := mul_u32 ⟨uq1, uq2⟩ ux
      rw [hp] at hpb
      obtain ⟨pb1, pb2⟩ := hpb
      obtain ⟨ux1, ux2⟩ := ux
      obtain ⟨ur1, ur2⟩ := ur
      obtain ⟨y, hy⟩ : ∃ y, p + bo = y := ⟨_, rfl⟩
      have hyb : y ≤ 18446744069414584320 := by omega
      have hy0 : 0 ≤ y := by omega
      obtain ⟨yl, hyl⟩ : ∃ yl, y % 4294967296 = yl := ⟨_, rfl⟩
      obtain ⟨yh, hyh⟩ : ∃ yh, y / 4294967296 = yh := ⟨_, rfl⟩
      have hand : bits BinOp.and .u64 y 4294967295 = yl := by rw [and_low32 y hy0 (by omega)]; exact hyl
      have hyl0 : 0 ≤ yl := by omega
      have hyl1 : yl < 4294967296 := by omega
      have hyh0 : 0 ≤ yh := by omega
      have hyh1 : yh ≤ 4294967295 := by omega
      have hyh2 : yh = 4294967295 → yl = 0 := by omega
      have HH : Hid (P.getD i 0 = x ∧ R.getD i 0 = r ∧ Arr .u64 42 wr br (Z ++ R.drop Z.length) ∧ Upd w wr br ∧ U32s Z ∧ Z.length = i ∧ q * x = p ∧ p + bo = y ∧ y % 4294967296 = yl ∧ y / 4294967296 = yh ∧
        val Z = val (R.take Z.length) - q * val (P.take Z.length) + 4294967296 ^ Z.length * bo) := ⟨hx, hr, hA, hU, uZ, hi, hp, hy, hyl, hyh, heq⟩
      have HF : Hid (∀ z b' : Int, z = r - y + 4294967296 * b' → val (Z ++ [z]) = val (R.take (i + 1)) - q * val (P.take (i + 1)) + 4294967296 ^ (i + 1) * b') := fun z b' hz => by
        rw [val_snoc, hi, val_take_succ R i (by omega), val_take_succ P i (by omega), hx, hr, pow_succ32]
        rw [hi] at heq
        exact take_step _ _ _ _ _ _ _ _ heq y (by rw [hp]; exact hy) z b' hz
      rw [hi]
      clear hx hr hA hU uZ hi heq hrp hyl
      by_cases hlt2 : r < yl
      · go_wp2
        go_roundw
        case rel =>
          obtain ⟨hx, hr, hA, hU, uZ, hi, hp, hy, hyl, hyh', heq⟩ := HH.out
          refine ⟨Z ++ [r + 4294967296 - yl], yh + 1, by go_num, by simp [hi], by simp; omega, ⟨by omega, by omega⟩, uZ.append (U32s.cons ⟨by omega, by omega⟩ U32s.nil), ?_, ?_, ?_⟩
          · have h1 : Arr .u64 42 _ br _ := ((hA.set i (r + 4294967296)).set i (r + 4294967296 - yl))
            rw [List.set_set, ← hi, cons_set Z R _ (by omega)] at h1
            rw [List.length_append, List.length_singleton, ← hi]; simpa [hi] using h1
          · exact (hU.trans (Upd.set _ _ _ _)).trans (Upd.set _ _ _ _)
          · rw [List.length_append, List.length_singleton, hi]; exact HF.out _ _ (by omega)
        case measure => simp [intOf]; omega
      · go_wp2
        go_roundw
        case rel =>
          obtain ⟨hx, hr, hA, hU, uZ, hi, hp, hy, hyl, hyh', heq⟩ := HH.out
          refine ⟨Z ++ [r - yl], yh, by go_num, by simp [hi], by simp; omega, ⟨by omega, by omega⟩, uZ.append (U32s.cons ⟨by omega, by omega⟩ U32s.nil), ?_, ?_, ?_⟩
          · have h1 : Arr .u64 42 _ br _ := (hA.set i (r - yl))
            rw [← hi, cons_set Z R _ (by omega)] at h1
            rw [List.length_append, List.length_singleton, ← hi]; simpa [hi] using h1
          · exact hU.trans (Upd.set _ _ _ _)
          · rw [List.length_append, List.length_singleton, hi]; exact HF.out _ _ (by omega)
        case measure => simp [intOf]; omega
    · have hin : i = n := by omega
      obtain ⟨t, ht⟩ : ∃ t, R.getD n 0 = t := ⟨_, rfl⟩
      have ut : U32 t := ht ▸ uR.at n
      obtain ⟨ut1, ut2⟩ := ut
      have htop := val_top lR
      rw [ht] at htop
      have hZb := val_lt uZ
      have hZ0 := val_nonneg uZ
      rw [hi, hin] at heq hZb
      have hPf : P.take n = P := List.take_of_length_le (by omega)
      rw [hPf] at heq
      have hbt : bo ≤ t := by
        apply Decidable.byContradiction
        intro hc
        have h1 : 4294967296 ^ n * (t + 1) ≤ 4294967296 ^ n * bo := Int.mul_le_mul_of_nonneg_left (by omega) (Int.le_of_lt (pow_pos32 n))
        rw [Int.mul_add, Int.mul_one] at h1
        omega
      have hct : wr.cell? ⟨br, n, none⟩ = some (.int .u64 t) := by
        rw [hA.cell n (by rw [cat_len _ _ (by omega)]; omega), cat_get _ _ _ (by omega), ht]
      have hft : wr.frozen? ⟨br, n, none⟩ = false := hA.frozen n
      have HH : Hid (Arr .u64 42 wr br (Z ++ R.drop Z.length) ∧ Upd w wr br ∧ U32s Z ∧ Z.length = n ∧ val Z = val (R.take n) - q * val P + 4294967296 ^ n * bo ∧ val R = val (R.take n) + 4294967296 ^ n * t) := ⟨hA, hU, uZ, hi.trans hin, heq, htop⟩
      rw [hi, hin]
      clear hA hU uZ hi hin heq htop hZb hZ0 ht hPf hR
      go_wp2
      go_end0
      obtain ⟨hA, hU, uZ, hi, heq, htop⟩ := HH.out
      refine ⟨rfl, Z ++ [t - bo], ?_, uZ.append (U32s.cons ⟨by omega, by omega⟩ U32s.nil), by simp [hi], ?_, hU.trans (Upd.set _ _ _ _)⟩
      · have h1 : Arr .u64 42 _ br _ := hA.set n (t - bo)
        rw [← hi, cons_set Z R _ (by omega), List.drop_eq_nil_of_le (by omega), List.append_nil] at h1
        simpa [hi] using h1
      · rw [val_snoc, hi, heq, htop, Int.mul_sub]; omega
end Go.Proofs.Ythkheocggcmooaa
