/-
  The walk of the reference's wide; the arithmetic of its product.
-/
import Derived.Deep.LoopGhost
import Derived.Deep.DrawnRows
import Derived.Test.YtjmiaakfdclfjaaGreatDoorK6
namespace Go.Proofs.YtjmiaakfdclfjaaGreatDoor.Nt
open Go.RowKit

theorem wide_set (X : List Int) (n i : Nat) (hi : i < X.length) (hn : X.length ≤ n) : (X.take i ++ List.replicate (n - i) 0).set i (X.getD i 0) = X.take (i + 1) ++ List.replicate (n - (i + 1)) 0 := by
  have h1 : (X.take i).length = i := by simp; omega
  rw [List.set_append_right _ _ (by omega), h1, Nat.sub_self, show n - i = (n - (i + 1)) + 1 by omega, List.replicate_succ, List.set_cons_zero, D.take_snoc X hi]
  simp
theorem val_pad (X : List Int) (k : Nat) : val (X ++ List.replicate k 0) = val X := by rw [val_append, val_zeros]; simp

set_option maxHeartbeats 2000000 in
theorem wide_any {w : World} (v : Value) (X : List Int) (hX : Sl .u32 w v X) (uX : U32s X) (n : Nat) (hn : X.length ≤ n) (hn2 : n ≤ 65536) :
    Calls Tryz.prog 71 #[v, .int .i64 n] w fun e w' => ∃ r L, e = .returned r ∧ L.length = n ∧ U32s L ∧ val L = val X ∧ Sl .u64 w' r L ∧ Below w.heap.size w w' := by
  have hX0 := hX
  obtain ⟨a, c, hv, _⟩ := hX.len
  subst hv
  go_enter Tryz.func71, Tryz.ntmps71
  go_wp2_with (at_make; refine wpList_mk _ rfl _ _ 73 rfl .u64 43 8 Tryz.und64 Tryz.info64 _ n rfl rfl rfl (by omega) (by omega) ?_; intro w1 hA1 hB1)
  go_loopw [6] (fun iv wr => ∃ i : Nat, iv = .int .i64 i ∧ i ≤ X.length ∧ Arr .u64 43 wr w.heap.size (X.take i ++ List.replicate (n - i) 0) ∧ Below w.heap.size w wr) (fun iv _ => X.length - (intOf iv).toNat)
  case atStart => exact ⟨0, rfl, Nat.zero_le _, by simpa using hA1, hB1⟩
  case round =>
    clear hA1 hB1
    obtain ⟨i, rfl, hi, hA, hBt⟩ := hrel
    by_cases hlt : i < X.length
    · obtain ⟨x, hx⟩ : ∃ x, X.getD i 0 = x := ⟨_, rfl⟩
      have ux : U32 x := hx ▸ uX.at i
      obtain ⟨ux1, ux2⟩ := ux
      obtain ⟨b, off, ha, hb, hr⟩ : ∃ b off, a = some ⟨b, off, none⟩ ∧ b < w.heap.size ∧ Rd .u32 w b off X := by
        obtain ⟨a', c', h1, _, h2⟩ := hX0
        cases h1
        rcases h2 with rfl | ⟨b, off, rfl, hb, hr⟩
        · simp at hlt
        · exact ⟨b, off, rfl, hb, hr⟩
      subst ha
      have hcx : wr.cell? ⟨b, off + i, none⟩ = some (.int .u32 x) := by rw [hBt.cell hb, hr i hlt, hx]
      have hlen : (X.take i ++ List.replicate (n - i) 0).length = n := by simp; omega
      have hco := hA.cell i (by omega)
      obtain ⟨o, ho⟩ : ∃ o, (X.take i ++ List.replicate (n - i) 0).getD i 0 = o := ⟨_, rfl⟩
      rw [ho] at hco
      have hfo := hA.frozen i
      have hin : i < n := by omega
      have HH : Hid (X.getD i 0 = x ∧ Arr .u64 43 wr w.heap.size (X.take i ++ List.replicate (n - i) 0) ∧ Below w.heap.size w wr) := ⟨hx, hA, hBt⟩
      clear hx hA hBt hr hX hX0 ho hlen
      go_wp2
      go_roundw
      case rel =>
        obtain ⟨hx, hA, hBt⟩ := HH.out
        refine ⟨i + 1, by go_num, by omega, ?_, hBt.setCell (Nat.le_refl _) _⟩
        rw [← wide_set X n i hlt hn, hx]; exact hA.set i x
      case measure => simp [intOf]; omega
    · have hfull : X.take i = X := List.take_of_length_le (by omega)
      have hiX : i = X.length := by omega
      rw [hfull] at hA
      obtain ⟨L, hL⟩ : ∃ L, X ++ List.replicate (n - i) 0 = L := ⟨_, rfl⟩
      rw [hL] at hA
      have lL : L.length = n := by rw [← hL]; simp; omega
      have uL : U32s L := hL ▸ uX.append (U32s.zeros _)
      have vL : val L = val X := by rw [← hL]; exact val_pad X _
      have hs := hA.sl64
      rw [lL] at hs
      have hs' : Sl .u64 wr (.slice (some ⟨w.heap.size, 0, none⟩) n n) L := hs
      have HV : Hid (L.length = n ∧ val L = val X) := ⟨lL, vL⟩
      clear hfull hA hs hL vL lL hX0 hX
      by_cases hin : i < n
      · go_wp2
        go_ret
        exact ⟨_, L, rfl, HV.out.1, uL, HV.out.2, hs', hBt⟩
      · go_wp2
        go_ret
        exact ⟨_, L, rfl, HV.out.1, uL, HV.out.2, hs', hBt⟩

theorem or_hi32 (x y : Int) (hx0 : 0 ≤ x) (hx : x < 4294967296) (hy0 : 0 ≤ y) (hy : y < 4294967296) : bits .or .u64 (x * 4294967296) y = x * 4294967296 + y := by
  obtain ⟨a, rfl⟩ := Int.eq_ofNat_of_zero_le hx0
  obtain ⟨b, rfl⟩ := Int.eq_ofNat_of_zero_le hy0
  have ha : a < 4294967296 := by omega
  have hb : b < 2 ^ 32 := by omega
  have h := (bits_nat .u64 64 (by decide) (fun n h₀ h₁ => by rw [IntKind.wrap_u64]; omega) (a * 4294967296) b (by omega) (by omega)).2
  have e : ((a * 4294967296 : Nat) : Int) = (a : Int) * 4294967296 := by simp
  rw [e] at h
  have h2 := Nat.two_pow_add_eq_or_of_lt hb a
  rw [h, show a * 4294967296 = 2 ^ 32 * a by omega, ← h2]
  omega
/-- One limb more is taken in, and q times P off: never too much. -/
theorem low_guess {R P B rt pt lo pl : Int} (hB : 0 < B) (h0 : 0 ≤ lo) (hR : R = lo + B * rt) (hP : P = pl + B * pt) (hpl : pl < B) (hpt : 0 ≤ pt) (hrt : 0 ≤ rt) (hRP : R < 4294967296 * P) :
    rt / (pt + 1) * P ≤ R ∧ 0 ≤ rt / (pt + 1) ∧ rt / (pt + 1) < 4294967296 := by
  have h1 := Int.mul_ediv_add_emod rt (pt + 1); have h2 := Int.emod_nonneg rt (show pt + 1 ≠ 0 by omega)
  have hq0 : 0 ≤ rt / (pt + 1) := Int.ediv_nonneg hrt (by omega)
  obtain ⟨q, hq⟩ : ∃ q, rt / (pt + 1) = q := ⟨_, rfl⟩
  rw [hq] at h1 hq0 ⊢
  have h3 : P ≤ B * (pt + 1) := by rw [Int.mul_add, Int.mul_one]; omega
  have h4 : q * P ≤ q * (B * (pt + 1)) := Int.mul_le_mul_of_nonneg_left h3 hq0
  have h5 : q * (B * (pt + 1)) = B * ((pt + 1) * q) := by grind
  have h6 : B * ((pt + 1) * q) ≤ B * rt := Int.mul_le_mul_of_nonneg_left (by omega) (by omega)
  refine ⟨by omega, hq0, ?_⟩
  have h7 : B * rt < B * (4294967296 * (pt + 1)) := by
    have h8 : 4294967296 * P ≤ 4294967296 * (B * (pt + 1)) := Int.mul_le_mul_of_nonneg_left h3 (by decide)
    have h9 : 4294967296 * (B * (pt + 1)) = B * (4294967296 * (pt + 1)) := by grind
    omega
  have h10 : rt < 4294967296 * (pt + 1) := Int.lt_of_mul_lt_mul_left h7 (by omega)
  rw [← hq]; exact Int.ediv_lt_of_lt_mul (by omega) h10
theorem shift_set (R : List Int) (n k : Nat) (hk : k < n) (lR : R.length = n + 1) :
    (R.take (k + 2) ++ (R.take n).drop (k + 1)).set (k + 1) (R.getD k 0) = R.take (k + 1) ++ (R.take n).drop k := by
  have h1 : R.take (k + 2) = R.take (k + 1) ++ [R.getD (k + 1) 0] := D.take_snoc R (by omega)
  have h2 : (R.take (k + 1)).length = k + 1 := by simp; omega
  have h3 : (R.take n).drop k = R.getD k 0 :: (R.take n).drop (k + 1) := by
    rw [List.drop_eq_getElem_cons (by simp; omega)]; simp [List.getD, List.getElem?_eq_getElem (show k < R.length by omega)]
  rw [h1, List.append_assoc, List.set_append_right _ _ (by omega), h2, Nat.sub_self, h3]; rfl
end Go.Proofs.YtjmiaakfdclfjaaGreatDoor.Nt
/-
  The walk of the reference's product: modulo P, limb by limb from the highest.
-/
namespace Go.Proofs.YtjmiaakfdclfjaaGreatDoor.Nt
open Go.RowKit
attribute [local go_sem ↓] Go.wp_at_zero Go.wp_at_succ

theorem drop_step32 (A : List Int) (k : Nat) (h : k < A.length) : val (A.drop k) = A.getD k 0 + 4294967296 * val (A.drop (k + 1)) := by
  rw [List.drop_eq_getElem_cons h]; simp only [val]; simp [List.getD, List.getElem?_eq_getElem h]
theorem mod_step {hi P t R V : Int} (hR : hi % P = R) (hV : t + 4294967296 * R = V) : (t + 4294967296 * hi) % P = V % P := by
  have h := Int.mul_ediv_add_emod hi P
  rw [hR] at h
  have e : t + 4294967296 * hi = V + P * (4294967296 * (hi / P)) := by
    rw [← hV]
    have : (P * (hi / P) + R) / P = hi / P := by rw [h]
    rw [← h, this]; grind
  rw [e, Int.add_mul_emod_self_left]
theorem sub_mod (V q P : Int) : (V - q * P) % P = V % P := by
  rw [show V - q * P = V + P * (-q) by grind, Int.add_mul_emod_self_left]
theorem sub_mod1 (V P : Int) : (V - P) % P = V % P := by
  rw [show V - P = V + P * (-1) by omega, Int.add_mul_emod_self_left]
theorem top_split {L : List Int} (u : U32s L) (m : Nat) (h : L.length = m + 2) : ∃ lo, 0 ≤ lo ∧ lo < 4294967296 ^ m ∧ val L = lo + 4294967296 ^ m * (L.getD (m + 1) 0 * 4294967296 + L.getD m 0) := by
  refine ⟨val (L.take m), val_nonneg (u.take m), ?_, ?_⟩
  · have := val_lt (u.take m); rw [List.length_take, Nat.min_eq_left (by omega)] at this; exact this
  · have h1 : val L = val (L.take (m + 1 + 1)) := by rw [List.take_of_length_le (by omega)]
    rw [h1, val_take_succ _ _ (by omega), val_take_succ _ _ (by omega), pow_succ32]
    grind

/-- The first half: the product's limbs. -/
def ProdT (w w2 : World) (bt : Nat) (T : List Int) (n : Nat) (V : Int) : Prop := Arr .u64 43 w2 bt T ∧ U32s T ∧ T.length = 2 * n ∧ val T = V ∧ Below w.heap.size w w2

set_option maxHeartbeats 8000000 in
set_option maxRecDepth 20000 in
theorem product64_any {w : World} (v u t : Value) (A Bl P : List Int) (hA : Sl .u64 w v A) (hB : Sl .u64 w u Bl) (hP : Sl .u64 w t P) (uA : U32s A) (uB : U32s Bl) (uP : U32s P) (m : Nat) (lA : A.length = m + 1) (lB : Bl.length = m + 1) (lP : P.length = m + 1) (hm : m ≤ 1024) (hP0 : 0 < val P) :
    Calls Tryz.prog 74 #[v, u, t] w fun e w' => ∃ r L, e = .returned r ∧ L.length = m + 1 ∧ U32s L ∧ val L = val A * val Bl % val P ∧ Sl .u64 w' r L ∧ Below w.heap.size w w' := by
  obtain ⟨aA, cA, hvA, hcA⟩ := hA.len
  obtain ⟨aB, cB, hvB, hcB⟩ := hB.len
  obtain ⟨aP, cP, hvP, hcP⟩ := hP.len
  subst hvA; subst hvB; subst hvP
  rw [lA] at hA hcA ⊢
  rw [lB] at hB hcB ⊢
  rw [lP] at hP hcP ⊢
  obtain ⟨ba, oa, ha, hba, hra⟩ : ∃ b off, aA = some ⟨b, off, none⟩ ∧ b < w.heap.size ∧ Rd .u64 w b off A := by
    obtain ⟨a', c', h1, _, h2⟩ := id hA
    simp only [Value.slice.injEq] at h1
    obtain ⟨rfl, _, _⟩ := h1
    rcases h2 with h2 | ⟨b, off, rfl, hb, hr⟩
    · rw [h2] at lA; simp at lA
    · exact ⟨b, off, rfl, hb, hr⟩
  obtain ⟨bb, ob, hb', hbb, hrb⟩ : ∃ b off, aB = some ⟨b, off, none⟩ ∧ b < w.heap.size ∧ Rd .u64 w b off Bl := by
    obtain ⟨a', c', h1, _, h2⟩ := id hB
    simp only [Value.slice.injEq] at h1
    obtain ⟨rfl, _, _⟩ := h1
    rcases h2 with h2 | ⟨b, off, rfl, hb, hr⟩
    · rw [h2] at lB; simp at lB
    · exact ⟨b, off, rfl, hb, hr⟩
  obtain ⟨bp, op, hp', hbp, hrp⟩ : ∃ b off, aP = some ⟨b, off, none⟩ ∧ b < w.heap.size ∧ Rd .u64 w b off P := by
    obtain ⟨a', c', h1, _, h2⟩ := id hP
    simp only [Value.slice.injEq] at h1
    obtain ⟨rfl, _, _⟩ := h1
    rcases h2 with h2 | ⟨b, off, rfl, hb, hr⟩
    · rw [h2] at lP; simp at lP
    · exact ⟨b, off, rfl, hb, hr⟩
  subst ha; subst hb'; subst hp'
  have HRA : Hid (Rd .u64 w ba oa A) := hra
  have HRB : Hid (Rd .u64 w bb ob Bl) := hrb
  have HRP : Hid (Rd .u64 w bp op P) := hrp
  have HP : Hid (Sl .u64 w (.slice (some ⟨bp, op, none⟩) (m + 1) cP) P) := hP
  clear hra hrb hrp hA hB hP
  obtain ⟨n, hn⟩ : ∃ n, m + 1 = n := ⟨_, rfl⟩
  have hn1 : 1 ≤ n := by omega
  have hn2 : n ≤ 1025 := by omega
  rw [hn] at lA lB lP hcA hcB hcP HP ⊢
  go_enter Tryz.func74, Tryz.ntmps74
  go_wp2_with (at_make; refine wpList_mk _ rfl _ _ 73 rfl .u64 43 8 Tryz.und64 Tryz.info64 _ (2 * n) (by rfl) (by rfl) (by omega) (by omega) (by omega) ?_; intro w1 hT1 hB1)
  go_loopw [9] (fun iv wr => ∃ (i : Nat) (T : List Int), iv = .int .i64 i ∧ i ≤ n ∧ Arr .u64 43 wr w.heap.size T ∧ U32s T ∧ T.length = 2 * n ∧ Below w.heap.size w wr ∧ val T = val (A.take i) * val Bl ∧ ∀ j, i + n ≤ j → T.getD j 0 = 0)
      (fun iv _ => n - (intOf iv).toNat)
  case atStart => exact ⟨0, _, rfl, Nat.zero_le _, hT1, U32s.zeros _, by simp, hB1, by simp [val_zeros, val], fun j _ => by simp [List.getD, List.getElem?_replicate]; split <;> rfl⟩
  case round =>
    clear hT1 hB1
    obtain ⟨i, S, rfl, hi, hS, uS, lS, hBt, hv, hz⟩ := hrel
    by_cases hlt : i < n
    · obtain ⟨x, hx⟩ : ∃ x, A.getD i 0 = x := ⟨_, rfl⟩
      have ux : U32 x := hx ▸ uA.at i
      have HO : Hid (Below w.heap.size w wr ∧ val S = val (A.take i) * val Bl ∧ (∀ j, i + n ≤ j → S.getD j 0 = 0) ∧ Arr .u64 43 wr w.heap.size S) := ⟨hBt, hv, hz, hS⟩
      have HX : Hid (A.getD i 0 = x) := hx
      clear hBt hv hz hx hS
      obtain ⟨ux1, ux2⟩ := ux
      go_wp2
      go_loopw [10, 11] (fun cv kv wq => ∃ Z carry, Z.length ≤ n ∧ kv = .int .i64 Z.length ∧ cv = .int .u64 carry ∧ U32 carry ∧ U32s Z ∧ Arr .u64 43 wq w.heap.size (S.take i ++ Z ++ S.drop (i + Z.length)) ∧ Below w.heap.size w wq ∧
        val Z + 4294967296 ^ Z.length * carry = val ((S.drop i).take Z.length) + x * val (Bl.take Z.length)) (fun _ kv _ => n - (intOf kv).toNat)
      case atStart => exact ⟨[], 0, Nat.zero_le _, rfl, rfl, ⟨by decide, by decide⟩, U32s.nil, by simpa using HO.out.2.2.2, HO.out.1, by simp [val]⟩
      case round =>
        obtain ⟨Z, carry, hkz, rfl, rfl, uc, uZ, hM, hBt, heq⟩ := hrel
        obtain ⟨uc1, uc2⟩ := uc
        obtain ⟨k, hk⟩ : ∃ k, Z.length = k := ⟨_, rfl⟩
        by_cases hlt2 : k < n
        · obtain ⟨y, hy⟩ : ∃ y, Bl.getD k 0 = y := ⟨_, rfl⟩
          obtain ⟨s, hs⟩ : ∃ s, S.getD (i + k) 0 = s := ⟨_, rfl⟩
          have uy : U32 y := hy ▸ uB.at k
          have us : U32 s := hs ▸ uS.at (i + k)
          have hcx : wr.cell? ⟨ba, oa + i, none⟩ = some (.int .u64 x) := by rw [hBt.cell hba, HRA.out i (by omega), HX.out]
          have hcy : wr.cell? ⟨bb, ob + k, none⟩ = some (.int .u64 y) := by rw [hBt.cell hbb, HRB.out k (by omega), hy]
          have hcs : wr.cell? ⟨w.heap.size, i + k, none⟩ = some (.int .u64 s) := by
            have := hM.cell (i + k) (by rw [mid_len _ _ _ (by omega)]; omega)
            rw [← hk, mid_get, hk, hs] at this; rw [← hk, ← this, hk]
          have hfs : wr.frozen? ⟨w.heap.size, i + k, none⟩ = false := hM.frozen _
          obtain ⟨p, hp⟩ : ∃ p, x * y = p := ⟨_, rfl⟩
          have hpb := mul_u32 ⟨ux1, ux2⟩ uy
          rw [hp] at hpb
          obtain ⟨pb1, pb2⟩ := hpb
          obtain ⟨uy1, uy2⟩ := uy
          obtain ⟨us1, us2⟩ := us
          have hand := and_low32 (p + s + carry) (by omega) (by omega)
          have HH : Hid (Bl.getD k 0 = y ∧ S.getD (i + k) 0 = s ∧ Arr .u64 43 wr w.heap.size (S.take i ++ Z ++ S.drop (i + Z.length)) ∧ Below w.heap.size w wr ∧ U32s Z ∧ Z.length = k ∧ x * y = p ∧
            val Z + 4294967296 ^ Z.length * carry = val ((S.drop i).take Z.length) + x * val (Bl.take Z.length)) := ⟨hy, hs, hM, hBt, uZ, hk, hp, heq⟩
          rw [hk] at hkz ⊢
          clear hy hs hM hBt uZ heq hk
          go_wp2
          go_quiet (fail)
          go_wp2
          go_roundw
          case rel =>
            obtain ⟨hy, hs, hM, hBt, uZ, hk, hp, heq⟩ := HH.out
            refine ⟨Z ++ [(p + s + carry) % 4294967296], (p + s + carry) / 4294967296, ?_, ?_, ?_, ?_, ?_, ?_, ?_, ?_⟩
            · simp; omega
            · simp [hk]
            · go_num
            · exact ⟨by omega, by omega⟩
            · exact uZ.append (U32s.cons ⟨by omega, by omega⟩ U32s.nil)
            · subst hk; rw [← mid_set _ _ _ _ (by omega)]; exact (hM.drewN _).set _ _
            · exact (dr hBt).setCell (Nat.le_refl _) _
            · subst hk
              rw [val_snoc, List.length_append, List.length_singleton, pow_succ32, val_take_succ _ _ (by simp; omega), val_take_succ _ _ (by omega), hy]
              have hgd : (S.drop i).getD Z.length 0 = s := by rw [List.getD_eq_getElem?_getD, List.getElem?_drop, ← List.getD_eq_getElem?_getD]; exact hs
              rw [hgd]
              have := add_step (4294967296 ^ Z.length) carry x y s (val Z) _ (p + s + carry) (by rw [hp]; omega) heq
              rw [this, Int.mul_add]; omega
          case measure => simp [intOf]; omega
        · have hkB : Z.length = n := by omega
          have hz2 : (S.take i ++ Z ++ S.drop (i + Z.length)).getD (i + n) 0 = 0 := by rw [mid_above (by omega) (by omega)]; exact HO.out.2.2.1 _ (Nat.le_refl _)
          have hcs := hM.cell (i + n) (by rw [mid_len _ _ _ (by omega)]; omega)
          rw [hz2] at hcs
          have hfs := hM.frozen (i + n)
          have HH : Hid (Arr .u64 43 wr w.heap.size (S.take i ++ Z ++ S.drop (i + Z.length)) ∧ Below w.heap.size w wr ∧ U32s Z ∧ Z.length = n ∧ U32 carry ∧ (S.take i ++ Z ++ S.drop (i + Z.length)).getD (i + n) 0 = 0 ∧
            val Z + 4294967296 ^ Z.length * carry = val ((S.drop i).take Z.length) + x * val (Bl.take Z.length)) := ⟨hM, hBt, uZ, hkB, ⟨uc1, uc2⟩, hz2, heq⟩
          rw [hkB]
          clear hM hBt uZ heq hz2 hkB
          go_wp2
          go_roundw
          case rel =>
            obtain ⟨hM, hBt, uZ, hkB, uc, hz2, heq⟩ := HH.out
            obtain ⟨_, hv, hz, _⟩ := HO.out
            have hfit : i + Z.length ≤ S.length := by omega
            refine ⟨i + 1, (S.take i ++ Z ++ S.drop (i + Z.length)).set (i + n) carry, by go_num, by omega, hM.set _ _, (mid_u32 uS uZ).set _ uc, by rw [List.length_set, mid_len _ _ _ hfit]; exact lS, hBt.setCell (Nat.le_refl _) _, ?_, fun j hj => ?_⟩
            · rw [val_set (by rw [mid_len _ _ _ hfit]; omega), hz2, Int.sub_zero, mid_val hfit, hv, val_take_succ _ _ (by omega), HX.out]
              rw [hkB, List.take_of_length_le (by omega : Bl.length ≤ n)] at heq
              have e1 : val Z - val ((S.drop i).take Z.length) = x * val Bl - 4294967296 ^ n * carry := by rw [hkB]; omega
              rw [e1, Int.pow_add]
              grind
            · rw [List.getD_eq_getElem?_getD, List.getElem?_set_ne (by omega), ← List.getD_eq_getElem?_getD, mid_above hfit (by omega)]; exact hz j (by omega)
          case measure => simp [intOf]; omega
    · have hin : i = n := by omega
      have HT : Hid (ProdT w wr w.heap.size S n (val A * val Bl)) := ⟨hS, uS, lS, by rw [hv, hin, List.take_of_length_le (by omega)], hBt⟩
      obtain ⟨bt, hbt⟩ : ∃ bt, w.heap.size = bt := ⟨_, rfl⟩
      rw [hbt] at HT ⊢
      have HBT : Hid (w.heap.size = bt) := hbt
      clear hS uS lS hv hz hBt hin hbt
      obtain ⟨w2, hw2⟩ : ∃ w2, wr = w2 := ⟨_, rfl⟩
      rw [hw2] at HT ⊢
      clear hw2
      have hbtw : bt < w2.heap.size := HT.out.1.lt
      have hww : w.heap.size ≤ w2.heap.size := HT.out.2.2.2.2.size
      go_wp2_with (at_make; refine wpList_mk _ rfl _ _ 73 rfl .u64 43 8 Tryz.und64 Tryz.info64 _ (n + 1) (by rfl) (by rfl) (by omega) (by omega) (by omega) ?_; intro w3 hR3 hB3)
      obtain ⟨br, hbr⟩ : ∃ br, w2.heap.size = br := ⟨_, rfl⟩
      rw [hbr] at hR3 ⊢
      have HBR : Hid (w2.heap.size = br) := hbr
      clear hbr
      go_loopw [14] (fun iv wr => ∃ (k : Nat) (R : List Int), iv = .int .i64 ((k : Int) - 1) ∧ k ≤ 2 * n ∧ Arr .u64 43 wr br R ∧ U32s R ∧ R.length = n + 1 ∧ val R = val (S.drop k) % val P ∧ Below w2.heap.size w2 wr) (fun iv _ => (intOf iv + 1).toNat)
      case atStart => exact ⟨2 * n, List.replicate (n + 1) 0, by go_num, Nat.le_refl _, hR3, U32s.zeros _, by simp, by rw [val_zeros, List.drop_of_length_le (by have := HT.out.2.2.1; omega)]; simp [val], hB3⟩
      case round =>
        clear hR3 hB3
        obtain ⟨k0, R, rfl, hk, hR, uR, lR, hv, hBr⟩ := hrel
        have hRP : val R < val P := by rw [hv]; exact Int.emod_lt_of_pos _ hP0
        have htop := val_top lR
        have hPb := val_lt uP
        rw [lP] at hPb
        have hR0 := val_nonneg (uR.take n)
        have urn : U32 (R.getD n 0) := uR.at n
        have hrn : R.getD n 0 = 0 := by
          apply Decidable.byContradiction
          intro hc
          unfold U32 at urn
          have : 4294967296 ^ n * 1 ≤ 4294967296 ^ n * R.getD n 0 := Int.mul_le_mul_of_nonneg_left (by omega) (Int.le_of_lt (pow_pos32 n))
          omega
        have hvt : val (R.take n) = val R := by rw [htop, hrn]; simp
        clear htop hPb hR0 urn hrn
        cases k0 with
        | zero =>
          have em : (((0 : Nat) : Int) - 1) = -1 := by rfl
          rw [em]
          have HF : Hid (Sl .u64 wr (.slice (some ⟨br, 0, none⟩) n (n + 1)) (R.take n) ∧ (R.take n).length = n ∧ val (R.take n) = val A * val Bl % val P) := by
            refine ⟨?_, by simp; omega, by rw [hvt, hv, List.drop_zero, HT.out.2.2.2.1]⟩
            have e1 : (R.take n).length = n := by simp; omega
            refine ⟨some ⟨br, 0, none⟩, n + 1, by rw [e1], by omega, .inr ⟨br, 0, rfl, hR.lt, ?_⟩⟩
            have := hR.rd 0 n (by omega)
            rw [List.drop_zero] at this; exact this
          clear em hv hRP hvt
          go_wp2
          go_ret
          exact ⟨_, R.take n, rfl, HF.out.2.1, uR.take n, HF.out.2.2, HF.out.1, HT.out.2.2.2.2.trans (hBr.mono hww)⟩
        | succ j =>
          have em : (((j + 1 : Nat) : Int) - 1) = (j : Int) := by omega
          rw [em]
          clear em
          have HR : Hid (Arr .u64 43 wr br R ∧ val R = val (S.drop (j + 1)) % val P ∧ val (R.take n) = val R ∧ Below w2.heap.size w2 wr ∧ val R < val P) := ⟨hR, hv, hvt, hBr, hRP⟩
          clear hR hv hvt hBr hRP
          go_wp2
          go_loopw [15] (fun kv wq => ∃ kk : Nat, kv = .int .i64 kk ∧ kk ≤ n ∧ Arr .u64 43 wq br (R.take (kk + 1) ++ (R.take n).drop kk) ∧ Below w2.heap.size w2 wq) (fun kv _ => (intOf kv).toNat)
          case atStart =>
            refine ⟨n, rfl, Nat.le_refl _, ?_, HR.out.2.2.2.1⟩
            have e1 : R.take (n + 1) ++ (R.take n).drop n = R := by rw [List.take_of_length_le (by omega), List.drop_of_length_le (by simp; omega), List.append_nil]
            rw [e1]; exact HR.out.1
          case round =>
            obtain ⟨kk, rfl, hkn, hL, hBq⟩ := hrel
            have hlenL : (R.take (kk + 1) ++ (R.take n).drop kk).length = n + 1 := by simp; omega
            cases kk with
            | succ k' =>
              obtain ⟨x, hx⟩ : ∃ x, R.getD k' 0 = x := ⟨_, rfl⟩
              have hcx : wr.cell? ⟨br, k', none⟩ = some (.int .u64 x) := by
                rw [hL.cell k' (by omega), List.getD_eq_getElem?_getD, List.getElem?_append_left (by simp; omega), List.getElem?_take, if_pos (by omega), ← List.getD_eq_getElem?_getD, hx]
              obtain ⟨o, ho⟩ : ∃ o, (R.take (k' + 1 + 1) ++ (R.take n).drop (k' + 1)).getD (k' + 1) 0 = o := ⟨_, rfl⟩
              have hco := hL.cell (k' + 1) (by omega)
              rw [ho] at hco
              have hfo := hL.frozen (k' + 1)
              have HH : Hid (Arr .u64 43 wr br (R.take (k' + 1 + 1) ++ (R.take n).drop (k' + 1)) ∧ Below w2.heap.size w2 wr ∧ R.getD k' 0 = x) := ⟨hL, hBq, hx⟩
              clear hL hBq hx ho hlenL
              go_wp2
              go_roundw
              case rel =>
                obtain ⟨hL, hBq, hx⟩ := HH.out
                refine ⟨k', by go_num, by omega, ?_, hBq.setCell (show w2.heap.size ≤ br by have := HBR.out; omega) _⟩
                have := hL.set (k' + 1) x
                rw [← hx, shift_set R n k' (by omega) lR, hx] at this; exact this
              case measure => simp [intOf]
            | zero =>
              obtain ⟨tj, htj⟩ : ∃ tj, S.getD j 0 = tj := ⟨_, rfl⟩
              have utj : U32 tj := htj ▸ HT.out.2.1.at j
              have hct : wr.cell? ⟨bt, j, none⟩ = some (.int .u64 tj) := by
                rw [(below_arr hBq hbtw HT.out.1).cell j (by have := HT.out.2.2.1; omega), htj]
              obtain ⟨o, ho⟩ : ∃ o, (R.take (0 + 1) ++ (R.take n).drop 0).getD 0 0 = o := ⟨_, rfl⟩
              have hco := hL.cell 0 (by omega)
              rw [ho] at hco
              have hfo := hL.frozen 0
              obtain ⟨R2, hR2⟩ : ∃ R2, tj :: R.take n = R2 := ⟨_, rfl⟩
              have hA4 : Arr .u64 43 (wr.setCell ⟨br, 0, none⟩ (.int .u64 tj)) br R2 := by
                have := hL.set 0 tj
                rw [D.take_snoc R (by omega : 0 < R.length)] at this
                rw [← hR2]; simpa using this
              have hB4 : Below w2.heap.size w2 (wr.setCell ⟨br, 0, none⟩ (.int .u64 tj)) := hBq.setCell (show w2.heap.size ≤ br by have := HBR.out; omega) _
              have lR2 : R2.length = n + 1 := by rw [← hR2]; simp; omega
              have uR2 : U32s R2 := hR2 ▸ U32s.cons utj (uR.take n)
              obtain ⟨V, hV⟩ : ∃ V, val R2 = V := ⟨_, rfl⟩
              have hV2 : tj + 4294967296 * val R = V := by rw [← hV, ← hR2]; simp only [val]; rw [HR.out.2.2.1]
              have HV : Hid (V % val P = val (S.drop j) % val P) := by
                show V % val P = val (S.drop j) % val P
                rw [drop_step32 S j (by have := HT.out.2.2.1; omega), htj]
                exact (mod_step HR.out.2.1.symm hV2).symm
              have hVP : V < 4294967296 * val P := by have := HR.out.2.2.2.2; unfold U32 at utj; omega
              obtain ⟨utj1, utj2⟩ := utj
              clear hL hBq ho hlenL hR2 hV2 htj
              have hjn : j < 2 * n := by omega
              go_upto_region 23 with (fail)
              generalize wr.setCell ⟨br, 0, none⟩ (.int .u64 tj) = W4 at *
              clear hct hco hfo
              obtain ⟨rn, hrn⟩ : ∃ x, R2.getD n 0 = x := ⟨_, rfl⟩
              obtain ⟨rm, hrm⟩ : ∃ x, R2.getD m 0 = x := ⟨_, rfl⟩
              obtain ⟨pm, hpm⟩ : ∃ x, P.getD m 0 = x := ⟨_, rfl⟩
              have urn : U32 rn := hrn ▸ uR2.at n
              have urm : U32 rm := hrm ▸ uR2.at m
              have upm : U32 pm := hpm ▸ uP.at m
              have hcn : W4.cell? ⟨br, n, none⟩ = some (.int .u64 rn) := by rw [hA4.cell n (by omega), hrn]
              have hcm : W4.cell? ⟨br, m, none⟩ = some (.int .u64 rm) := by rw [hA4.cell m (by omega), hrm]
              have hcp : W4.cell? ⟨bp, op + m, none⟩ = some (.int .u64 pm) := by
                rw [hB4.cell (p := ⟨bp, op + m, none⟩) (show bp < w2.heap.size by omega), HT.out.2.2.2.2.cell (p := ⟨bp, op + m, none⟩) (show bp < w.heap.size from hbp), HRP.out m (by omega), hpm]
              have hnm : (n : Int) - 1 = (m : Int) := by omega
              have hw1 : IntKind.i64.wrap ((n : Int) - 1) = (m : Int) := by rw [hnm, IntKind.wrap_i64]; omega
              have hw2 : IntKind.i64.wrap (m : Int) = (m : Int) := by rw [IntKind.wrap_i64]; omega
              have htn : ((m : Int)).toNat = m := by omega
              have hmn : (m : Int) < (n : Int) := by omega
              have hmn1 : (m : Int) < (n : Int) + 1 := by omega
              have hm00 : (0 : Int) ≤ (m : Int) := by omega
              have hnn1 : (n : Int) < (n : Int) + 1 := by omega
              have hn00 : (0 : Int) ≤ (n : Int) := by omega
              obtain ⟨rt, hrt⟩ : ∃ rt, rn * 4294967296 + rm = rt := ⟨_, rfl⟩
              obtain ⟨urn1, urn2⟩ := urn
              obtain ⟨urm1, urm2⟩ := urm
              obtain ⟨upm1, upm2⟩ := upm
              have hpz : (pm + 1 == 0) = false := by simp; omega
              have hpz' : ¬ pm + 1 = 0 := by omega
              have hpw : IntKind.u64.wrap (pm + 1) = pm + 1 := by rw [IntKind.wrap_u64]; omega
              have hpp : 0 ≤ pm + 1 := by omega
              have hrt0 : 0 ≤ rt := by omega
              have hor := or_hi32 rn rm urn1 urn2 urm1 urm2
              rw [hrt] at hor
              obtain ⟨q, hq⟩ : ∃ q, rt / (pm + 1) = q := ⟨_, rfl⟩
              have hlg : q * val P ≤ V ∧ 0 ≤ q ∧ q < 4294967296 := by
                obtain ⟨lo, hl0, hl1, hl2⟩ := top_split uR2 m (by omega)
                have hl3 := val_top (R := P) (n := m) (by omega)
                rw [hV, show m + 1 = n by omega, hrn, hrm, hrt] at hl2
                rw [hpm] at hl3
                have hl4 := val_lt (uP.take m)
                rw [List.length_take, Nat.min_eq_left (by omega)] at hl4
                have := low_guess (pow_pos32 m) hl0 hl2 hl3 hl4 upm1 (by omega) hVP
                rw [hq] at this; exact this
              obtain ⟨hl1, hl2, hl3⟩ := hlg
              have hcap : n + 1 ≤ n + 1 := Nat.le_refl _
              have HE : Hid (IntKind.u64.wrap ((bits BinOp.or .u64 (IntKind.u64.wrap (rn * 4294967296)) rm).tdiv (pm + 1)) = q) := by
                show IntKind.u64.wrap ((bits BinOp.or .u64 (IntKind.u64.wrap (rn * 4294967296)) rm).tdiv (pm + 1)) = q
                have e1 : IntKind.u64.wrap (rn * 4294967296) = rn * 4294967296 := by rw [IntKind.wrap_u64]; omega
                rw [e1, hor, Int.tdiv_eq_ediv_of_nonneg hrt0, hq, IntKind.wrap_u64]; omega
              have htake : ∀ q0, Calls Tryz.prog 94 #[.slice (some ⟨br, 0, none⟩) (n + 1) (n + 1), .slice (some ⟨bp, op, none⟩) n cP, .int .u64 q] (W4.drewN q0) fun e w' => e = .returned (.tuple #[]) ∧
                  Hid (∃ R3, Arr .u64 43 w' br R3 ∧ U32s R3 ∧ R3.length = n + 1 ∧ val R3 = V - q * val P ∧ Below w2.heap.size w2 w') := fun q0 => by
                have hBq : Below w2.heap.size w2 (W4.drewN q0) := dr hB4
                refine (take_any _ br (n + 1) R2 P q (hA4.drewN q0) (below_sl (HT.out.2.2.2.2.trans (hBq.mono hww)) HP.out) (HP.out.ne (by have := HBR.out; omega)) uR2 uP n lR2 lP hcap (by omega) ⟨hl2, hl3⟩ (by rw [hV]; exact hl1)).mono ?_
                rintro e w' ⟨rfl, R3, h1, h2, h3, h4, h5⟩
                exact ⟨rfl, R3, h1, h2, h3, by rw [h4, hV], h5.below hBq (by have := hBq.size; omega) (by have := HBR.out; omega)⟩
              have HQ : Hid (0 ≤ V - q * val P) := by show 0 ≤ V - q * val P; omega
              have HW : Hid (Below w2.heap.size w2 W4) := hB4
              clear hA4 hB4 hrn hrm hpm hV hl1 hVP
              clear hor hrt hq
              go_region_with (go_at_call 94; rw [HE.out]; refine (htake _).mono ?_; rintro e w5 ⟨rfl, H5⟩)
              all_goals
                obtain ⟨R3, hA3, uR3, lR3, hV3, hB5⟩ := H5.out
                have HS3 : Hid (Arr .u64 43 w5 br R3 ∧ U32s R3 ∧ R3.length = n + 1 ∧ val R3 % val P = V % val P ∧ Below w2.heap.size w2 w5) := by
                  refine ⟨hA3, uR3, lR3, ?_, hB5⟩
                  rw [hV3]; exact sub_mod V q (val P)
                clear H5 hA3 uR3 lR3 hV3 hB5 htake HQ HW HE
                go_wp2
                go_loopg [116] (val R3).toNat (fun gk _ wz => ∃ R4, gk = (val R4).toNat ∧ Arr .u64 43 wz br R4 ∧ U32s R4 ∧ R4.length = n + 1 ∧ Hid (val R4 % val P = V % val P) ∧ Below w2.heap.size w2 wz)
                case atStart => exact ⟨R3, rfl, HS3.out.1, HS3.out.2.1, HS3.out.2.2.1, HS3.out.2.2.2.1, HS3.out.2.2.2.2⟩
                case round =>
                  clear HS3
                  obtain ⟨R4, hgk, hA4, uR4, lR4, HM, hB4⟩ := hrel
                  have hPz : Sl .u64 wr (.slice (some ⟨bp, op, none⟩) n cP) P := below_sl (HT.out.2.2.2.2.trans (hB4.mono hww)) HP.out
                  have hRz := hA4.sl64
                  rw [lR4] at hRz
                  have hRz' : Sl .u64 wr (.slice (some ⟨br, 0, none⟩) (n + 1) (n + 1)) R4 := hRz
                  by_cases hge : val P ≤ val R4
                  · have hc := reach_any _ _ R4 P hRz' hPz uR4 uP n lR4 lP (by omega) true (decide_eq_true hge)
                    have htk : ∀ w', Below wr.heap.size wr w' → Calls Tryz.prog 94 #[.slice (some ⟨br, 0, none⟩) (n + 1) (n + 1), .slice (some ⟨bp, op, none⟩) n cP, .int .u64 1] w' fun e w'' => e = .returned (.tuple #[]) ∧
                        ∃ R5, Arr .u64 43 w'' br R5 ∧ U32s R5 ∧ R5.length = n + 1 ∧ val R5 = val R4 - val P ∧ Below w2.heap.size w2 w'' := fun w' hw' => by
                      have hA5 := below_arr hw' hA4.lt hA4
                      refine (take_any _ br (n + 1) R4 P 1 hA5 (below_sl hw' hPz) (HP.out.ne (by have := HBR.out; omega)) uR4 uP n lR4 lP (Nat.le_refl _) (by omega) ⟨by decide, by decide⟩ (by omega)).mono ?_
                      rintro e w'' ⟨rfl, R5, h1, h2, h3, h4, h5⟩
                      exact ⟨rfl, R5, h1, h2, h3, by rw [h4]; omega, h5.below (hB4.trans (hw'.mono hB4.size)) (by have := hB4.size; have := hw'.size; omega) (by have := HBR.out; omega)⟩
                    have HG : Hid (gk = (val R4).toNat ∧ 0 ≤ val R4 ∧ val P ≤ val R4) := ⟨hgk, val_nonneg uR4, hge⟩
                    clear hA4 hRz hRz' hPz hB4 hgk hge
                    go_wp2_with (first
                      | (go_at_call 95; refine hc.mono ?_; rintro e w6 ⟨rfl, hB6⟩)
                      | (go_at_call 94; refine (htk _ hB6).mono ?_; rintro e w7 ⟨rfl, R5, hA7, uR7, lR7, hv7, hB7⟩))
                    go_roundg (val R5).toNat
                    case measure => have h := HG.out; omega
                    case rel => exact ⟨R5, rfl, hA7, uR7, lR7, by show val R5 % val P = V % val P; rw [hv7, ← HM.out]; exact sub_mod1 (val R4) (val P), hB7⟩
                  · have hc := reach_any _ _ R4 P hRz' hPz uR4 uP n lR4 lP (by omega) false (decide_eq_false hge)
                    have HF : Hid (val R4 = val (S.drop j) % val P) := by
                      show val R4 = val (S.drop j) % val P
                      rw [← HV.out, ← HM.out]; exact (Int.emod_eq_of_lt (val_nonneg uR4) (by omega)).symm
                    have HA : Hid (Arr .u64 43 wr br R4 ∧ Below w2.heap.size w2 wr) := ⟨hA4, hB4⟩
                    clear hA4 hRz hRz' hPz hB4 hgk hge
                    go_wp2_with (go_at_call 95; refine hc.mono ?_; rintro e w6 ⟨rfl, hB6⟩)
                    go_roundw
                    case rel => exact ⟨j, R4, by go_num, by omega, below_arr hB6 HA.out.1.lt HA.out.1, uR4, lR4, HF.out, HA.out.2.trans (hB6.mono HA.out.2.size)⟩
                    case measure => simp [intOf]
end Go.Proofs.YtjmiaakfdclfjaaGreatDoor.Nt
/-
  The walks of the reference's long, Trim, Cmp, Add, Sub, Mul: they answer what the program's functions answer.
-/
namespace Go.Proofs.YtjmiaakfdclfjaaGreatDoor.Nt
open Go.RowKit

/-- A number and an error, as two results, in whatever memory. -/
def RTwo (w : World) (e : Ending) (s : List Int × Int) : Prop := ∃ r, e = .returned (.tuple #[r, .int .i64 s.2]) ∧ Sl .u32 w r s.1
theorem RTwo.nil' {w : World} {n : Int} {s : List Int × Int} (hs : s = ([], n)) : RTwo w (.returned (.tuple #[.slice none 0 0, .int .i64 n])) s := by
  subst hs; exact ⟨_, rfl, ⟨none, 0, rfl, Nat.le_refl _, .inl rfl⟩⟩
theorem RTwo.mk' {w : World} {r : Value} {n : Int} {L : List Int} {s : List Int × Int} (h : Sl .u32 w r L) (hs : s = (L, n)) : RTwo w (.returned (.tuple #[r, .int .i64 n])) s := by
  subst hs; exact ⟨r, rfl, h⟩
theorem pow16_32 (n : Nat) : (65536 : Int) ^ (2 * n) = 4294967296 ^ n := by rw [Int.pow_mul]; rfl

theorem long_any {w : World} (m : Nat) (v u : Value) (X Y : List Int) (hX : Sl .u32 w v X) (hY : Sl .u32 w u Y) (c : Bool) (hc : (decide (m < X.length) || decide (m < Y.length)) = c) :
    Calls Tryz.prog 69 #[.int .i64 m, v, u] w fun e w' => e = .returned (.bool c) ∧ w = w' := by
  obtain ⟨a, ca, hv, _⟩ := hX.len
  obtain ⟨b, cb, hu, _⟩ := hY.len
  subst hv; subst hu; subst hc
  by_cases h1 : m < X.length
  · have h1' : (m : Int) < (X.length : Int) := by omega
    go_enter Tryz.func69, Tryz.ntmps69
    go_wp2
    go_ret
    exact ⟨by simp [h1], rfl⟩
  have h1' : ¬ (m : Int) < (X.length : Int) := by omega
  by_cases h2 : m < Y.length
  · have h2' : (m : Int) < (Y.length : Int) := by omega
    go_enter Tryz.func69, Tryz.ntmps69
    go_wp2
    go_ret
    exact ⟨by simp, rfl⟩
  · have h2' : ¬ (m : Int) < (Y.length : Int) := by omega
    go_enter Tryz.func69, Tryz.ntmps69
    go_wp2
    go_ret
    exact ⟨by simp, rfl⟩

end Go.Proofs.YtjmiaakfdclfjaaGreatDoor.Nt
/-
  The walk of the reference's Bits.
-/
namespace Go.Proofs.YtjmiaakfdclfjaaGreatDoor.D
theorem getD_div (xs : List Int) (i : Nat) (hu : U16s xs) : (val xs).toNat / 2 ^ (16 * i) % 65536 = (xs.getD i 0).toNat := by
  induction i generalizing xs with
  | zero =>
    rw [val_head_tail]
    have h1 := hu.at 0; unfold U16 at h1
    have h2 := val_nonneg hu.tl
    simp only [Nat.mul_zero, Nat.pow_zero, Nat.div_one]; omega
  | succ i ih =>
    have := ih xs.tail hu.tl
    rw [getD_tail] at this
    rw [← this, val_head_tail xs]
    have h1 := hu.at 0; unfold U16 at h1
    have h2 := val_nonneg hu.tl
    rw [Nat.mul_add, Nat.mul_one, Nat.add_comm, Nat.pow_add, ← Nat.div_div_eq_div_mul]
    congr 2; omega
theorem bit_eq (v i : Nat) : v / 2 ^ (16 * (i / 16)) % 65536 / 2 ^ (i % 16) % 2 = v / 2 ^ i % 2 := by
  have e : (65536 : Nat) = 2 ^ (i % 16) * 2 ^ (16 - i % 16) := by rw [← Nat.pow_add, show i % 16 + (16 - i % 16) = 16 by omega]
  have e2 : i = 16 * (i / 16) + i % 16 := by omega
  rw [e, Nat.mod_mul_right_div_self, Nat.div_div_eq_div_mul, ← Nat.pow_add, ← e2]
  have e3 : 2 ^ (16 - i % 16) = 2 * 2 ^ (15 - i % 16) := by rw [Nat.mul_comm, ← Nat.pow_succ]; congr 1; omega
  rw [e3, Nat.mod_mul_right_mod]
end Go.Proofs.YtjmiaakfdclfjaaGreatDoor.D
namespace Go.Proofs.YtjmiaakfdclfjaaGreatDoor.Nt
open Go.RowKit

theorem and1_64 (x : Int) (h0 : 0 ≤ x) (h1 : x < 18446744073709551616) : bits BinOp.and .u64 x 1 = x % 2 := by go_bits2
theorem bitLen_eq {n k : Nat} (h : n < 2 ^ (k + 1)) (h1 : n / 2 ^ k % 2 = 1) : bitLen n = k + 1 := by
  have h2 := bitLen_lt h
  have h3 := (bitLen_spec n).1
  have hge : 2 ^ k ≤ n := by
    apply Decidable.byContradiction; intro hc
    rw [Nat.div_eq_of_lt (by omega)] at h1; simp at h1
  apply Decidable.byContradiction; intro hc
  have : 2 ^ bitLen n ≤ 2 ^ k := Nat.pow_le_pow_right (by decide) (by omega)
  omega
theorem lt_half {n k : Nat} (h : n < 2 ^ (k + 1)) (h1 : n / 2 ^ k % 2 = 0) : n < 2 ^ k := by
  have h2 : n / 2 ^ k < 2 := Nat.div_lt_of_lt_mul (by rw [Nat.pow_succ] at h; exact h)
  have h3 : n / 2 ^ k = 0 := by
    generalize n / 2 ^ k = t at h1 h2
    omega
  rcases Nat.div_eq_zero_iff.1 h3 with h4 | h4
  · have : 0 < 2 ^ k := Nat.pow_pos (by decide)
    omega
  · exact h4

set_option maxHeartbeats 2000000 in
theorem RBits_any {w : World} (v : Value) (X : List Int) (hX : Sl .u32 w v X) (uX : U32s X) (hl : X.length ≤ 268435456) (N : Int) (hN : val X = N) :
    Calls Tryz.prog 18 #[v] w fun e w' => e = .returned (.int .i64 (bitLen N.toNat)) ∧ Below w.heap.size w w' := by
  have nN : 0 ≤ N := hN ▸ val_nonneg uX
  have bX := val_lt uX
  rw [hN] at bX
  obtain ⟨Ds, hDs⟩ : ∃ Ds, D.lim N.toNat = Ds := ⟨_, rfl⟩
  have dN : Ds.length ≤ 2 * X.length := by rw [← hDs]; exact D.lim_fits nN (by rw [pow16_32]; exact bX)
  have uD : D.U16s Ds := hDs ▸ D.lim_u16 _
  have vD : D.val Ds = N := by rw [← hDs]; exact D.val_limI nN
  have HX : Hid (val X = N) := hN
  have HD : Hid (D.lim N.toNat = Ds) := hDs
  have HV : Hid (D.U16s Ds ∧ D.val Ds = N) := ⟨uD, vD⟩
  have HST : Hid (N.toNat < 2 ^ (16 * Ds.length)) := by
    have h1 := D.val_lt uD
    rw [vD] at h1
    have h2 : ((N.toNat : Nat) : Int) < ((2 ^ (16 * Ds.length) : Nat) : Int) := by
      rw [Int.toNat_of_nonneg nN, Int.natCast_pow, Int.pow_mul]; exact h1
    exact Int.ofNat_lt.1 h2
  have hBt : Below w.heap.size w w := Below.refl _ _
  clear hN bX nN hDs uD vD
  go_enter Tryz.func18, Tryz.ntmps18
  go_wp2_with (go_at_call 43; refine (Digits_any _ X hX uX (by omega) N HX.out).mono ?_; rintro e w1 ⟨p, rfl, hp, hB⟩; rw [HD.out] at hp; replace hBt := grow0 hBt hB; obtain ⟨ap, cp, hvp, _⟩ := hp.len; subst hvp)
  go_loop [4] (fun i => ∃ k : Nat, i = .int .i64 k ∧ k ≤ 16 * Ds.length ∧ Hid (N.toNat < 2 ^ k)) (fun i => (intOf i).toNat)
  case atStart => exact ⟨16 * Ds.length, by go_num, Nat.le_refl _, HST.out⟩
  case round =>
    clear HST
    obtain ⟨k, rfl, hk, HK⟩ := hrel
    cases k with
    | zero =>
      have HZ : Hid (bitLen N.toNat = 0) := by
        have h1 := HK.out
        have h2 : N.toNat = 0 := by simpa using h1
        rw [h2]; rfl
      clear HK
      go_wp2
      go_ret
      exact ⟨by rw [HZ.out]; rfl, hBt⟩
    | succ m =>
      obtain ⟨b, off, ha, hb, hrd⟩ : ∃ b off, ap = some ⟨b, off, none⟩ ∧ b < w1.heap.size ∧ Rd .u64 w1 b off Ds := by
        obtain ⟨a', c', h1, _, h2⟩ := id hp
        cases h1
        rcases h2 with rfl | ⟨b, off, rfl, hb, hr⟩
        · simp at hk
        · exact ⟨b, off, rfl, hb, hr⟩
      subst ha
      obtain ⟨q, hq⟩ : ∃ q, m / 16 = q := ⟨_, rfl⟩
      obtain ⟨s, hs⟩ : ∃ s, m % 16 = s := ⟨_, rfl⟩
      obtain ⟨y, hy⟩ : ∃ y, Ds.getD q 0 = y := ⟨_, rfl⟩
      have uy : D.U16 y := hy ▸ HV.out.1.at _
      obtain ⟨uy1, uy2⟩ := uy
      have hcy : w1.cell? ⟨b, off + q, none⟩ = some (.int .u64 y) := by rw [hrd q (by omega), hy]
      have HB : Hid (N.toNat / 2 ^ m % 2 = y.toNat / 2 ^ s % 2) := by
        show N.toNat / 2 ^ m % 2 = y.toNat / 2 ^ s % 2
        rw [← D.bit_eq, hq, hs, ← HV.out.2, D.getD_div Ds q HV.out.1, hy]
      have hmi : (m : Int) / 16 = q := by omega
      have hsi : (m : Int) % 16 = s := by omega
      have hs16 : s < 16 := by omega
      have hqD : q < Ds.length := by omega
      have hp2 : 0 < (2 : Int) ^ s := Int.pow_pos (by decide)
      have hd0 : 0 ≤ y / 2 ^ s := Int.ediv_nonneg uy1 (Int.le_of_lt hp2)
      have hd1 : y / 2 ^ s < 18446744073709551616 := by have := Int.ediv_le_self (2 ^ s) uy1; omega
      have hand := and1_64 (y / 2 ^ s) hd0 hd1
      have hcast : ((y.toNat / 2 ^ s % 2 : Nat) : Int) = y / 2 ^ s % 2 := by
        obtain ⟨n, rfl⟩ := Int.eq_ofNat_of_zero_le uy1
        simp
      obtain ⟨bt, hbt⟩ : ∃ bt, y / 2 ^ s % 2 = bt := ⟨_, rfl⟩
      rw [hbt] at hand hcast
      have hb01 : bt = 0 ∨ bt = 1 := by omega
      have HB2 : Hid (N.toNat / 2 ^ m % 2 = bt.toNat) := by
        show N.toNat / 2 ^ m % 2 = bt.toNat
        rw [HB.out]; omega
      clear hq hs hy hbt hcast HB hrd
      rcases hb01 with rfl | rfl
      · go_wp2
        go_round
        case rel => exact ⟨m, by go_num, by omega, lt_half HK.out HB2.out⟩
        case measure => simp [intOf]
      · have HR : Hid (bitLen N.toNat = m + 1) := bitLen_eq HK.out HB2.out
        go_wp2
        go_ret
        exact ⟨by rw [HR.out]; rfl, hBt⟩
end Go.Proofs.YtjmiaakfdclfjaaGreatDoor.Nt
