/-
  The walk of divideLong: the long division keeps its promise.
-/
import Derived.Laws.MakeOwn
import Derived.Deep.AppendSrc
import Derived.Deep.RegionHeld3
import Derived.Test.YtkdclocjijmgpaaK5
namespace Go.Proofs.Ytkdclocjijmgpaa.Nt
open Go.RowKit

set_option maxHeartbeats 400000 in
theorem Lead_any (x : Int) (hx : U32 x) (hx0 : x ≠ 0) (w : World) :
    Calls Try.prog 104 #[.int .u32 x] w fun e w' => ∃ s : Nat, e = .returned (.int .i64 s) ∧ s < 32 ∧ 2147483648 ≤ x * 2 ^ s ∧ x * 2 ^ s < 4294967296 ∧ w = w' := by
  have hl := Len32_any x hx w
  obtain ⟨x0, x1⟩ := hx
  obtain ⟨bl, hbl⟩ : ∃ bl, bitLen x.toNat = bl := ⟨_, rfl⟩
  have h32 : bl ≤ 32 := by rw [← hbl]; exact bitLen_lt (by omega)
  have hsp := bitLen_spec x.toNat
  rw [hbl] at hsp hl
  have hb1 : 1 ≤ bl := by
    apply Classical.byContradiction; intro h
    have : bl = 0 := by omega
    rw [this] at hsp; simp at hsp; omega
  have HS : Hid (x.toNat < 2 ^ bl ∧ 2 ^ (bl - 1) ≤ x.toNat) := ⟨hsp.1, hsp.2 (by omega)⟩
  clear hsp hbl
  go_enter Try.func104, Try.ntmps104
  go_wp2_with (go_at_call 97; refine hl.mono ?_; rintro e w' ⟨rfl, rfl⟩)
  go_ret
  obtain ⟨n, hn⟩ := Int.eq_ofNat_of_zero_le x0
  subst hn
  obtain ⟨h1, h2⟩ := HS.out
  simp only [Int.toNat_natCast] at h1 h2
  have e1 : n * 2 ^ (32 - bl) < 2 ^ 32 := by
    have := Nat.mul_lt_mul_of_pos_right h1 (Nat.two_pow_pos (32 - bl))
    rw [← Nat.pow_add, show bl + (32 - bl) = 32 by omega] at this; exact this
  have e2 : 2 ^ 31 ≤ n * 2 ^ (32 - bl) := by
    have := Nat.mul_le_mul_right (2 ^ (32 - bl)) h2
    rw [← Nat.pow_add, show bl - 1 + (32 - bl) = 31 by omega] at this; exact this
  refine ⟨32 - bl, ?_, by omega, ?_, ?_, rfl⟩
  · exact ret_int (by omega)
  · have e3 : ((n * 2 ^ (32 - bl) : Nat) : Int) = (n : Int) * 2 ^ (32 - bl) := by simp
    rw [← e3]; omega
  · have e3 : ((n * 2 ^ (32 - bl) : Nat) : Int) = (n : Int) * 2 ^ (32 - bl) := by simp
    rw [← e3]; omega

/-- What the shifted divisor is. -/
theorem norm_div {Y S : List Int} {m s : Nat} (uY : U32s Y) (lY : Y.length = m + 2) (uS : U32s S) (lS : S.length = m + 3) (hv : val S = val Y * 2 ^ s) (hp : (1 : Int) ≤ 2 ^ s) (h1 : 2147483648 ≤ Y.getD (m + 1) 0 * 2 ^ s) (h2 : Y.getD (m + 1) 0 * 2 ^ s < 4294967296) :
    sig S = m + 2 ∧ 2147483648 ≤ (trim S).getD (m + 1) 0 := by
  have sY := val_split Y (m + 1) (by omega)
  have dY : Y.drop (m + 1) = [Y.getD (m + 1) 0] := by
    rw [List.drop_eq_getElem_cons (by omega), List.drop_of_length_le (by omega)]; simp [show m + 1 < Y.length by omega]
  rw [dY] at sY
  simp only [val] at sY
  have y0 := val_nonneg (uY.take (m + 1)); have y1 := val_lt (uY.take (m + 1))
  rw [List.length_take, Nat.min_eq_left (by omega)] at y1
  obtain ⟨y, hy⟩ : ∃ y, Y.getD (m + 1) 0 = y := ⟨_, rfl⟩
  obtain ⟨p, hpp⟩ : ∃ p : Int, 2 ^ s = p := ⟨_, rfl⟩
  obtain ⟨P, hP⟩ : ∃ P : Int, 4294967296 ^ (m + 1) = P := ⟨_, rfl⟩
  have hP0 : 0 < P := by rw [← hP]; exact pow_pos32 _
  obtain ⟨a, ha⟩ : ∃ a, val (Y.take (m + 1)) = a := ⟨_, rfl⟩
  rw [hy, hpp] at h1 h2
  rw [hpp] at hv hp
  rw [hy, hP, ha] at sY
  rw [ha] at y0 y1
  rw [hP] at y1
  have hyp : y + 1 ≤ 4294967296 := by have := uY.at (m + 1); rw [hy] at this; have := this.2; omega
  -- val S = a p + P (y p), below P B
  have hvS : val S = a * p + P * (y * p) := by rw [hv, sY]; grind
  have hap : 0 ≤ a * p := Int.mul_nonneg y0 (by omega)
  have hlow : P * 2147483648 ≤ P * (y * p) := Int.mul_le_mul_of_nonneg_left h1 (by omega)
  -- (y+1) p ≤ B
  have hdv : (y + 1) * p ≤ 4294967296 := by
    -- p divides B
    have hs32 : s < 32 := by
      apply Classical.byContradiction; intro h
      have h3 : (2 : Int) ^ 32 ≤ 2 ^ s := by exact_mod_cast Nat.pow_le_pow_right (n := 2) (by decide) (show 32 ≤ s by omega)
      rw [hpp] at h3
      have hy1 : 1 ≤ y := by
        apply Classical.byContradiction; intro h4
        have h5 : y * p ≤ 0 * p := Int.mul_le_mul_of_nonneg_right (by omega) (by omega)
        rw [Int.zero_mul] at h5; omega
      have : 1 * p ≤ y * p := Int.mul_le_mul_of_nonneg_right hy1 (by omega)
      omega
    have hB : (4294967296 : Int) = 2 ^ (32 - s) * p := by
      rw [← hpp, ← Int.pow_add, show 32 - s + s = 32 by omega]; rfl
    rw [hB] at h2 ⊢
    have : y < 2 ^ (32 - s) := Int.lt_of_mul_lt_mul_right h2 (by omega)
    exact Int.mul_le_mul_of_nonneg_right (by omega) (by omega)
  have hup : val S < P * 4294967296 := by
    have h3 : a * p < P * p := Int.mul_lt_mul_of_pos_right y1 (by omega)
    have h4 : P * ((y + 1) * p) ≤ P * 4294967296 := Int.mul_le_mul_of_nonneg_left hdv (by omega)
    have h5 : P * ((y + 1) * p) = P * (y * p) + P * p := by grind
    omega
  have hPB : (4294967296 : Int) ^ (m + 2) = P * 4294967296 := by rw [pow_succ32, hP, Int.mul_comm]
  have g1 := getD_div S (m + 2) uS
  have g2 := getD_div S (m + 1) uS
  have hSn := val_nonneg uS
  obtain ⟨n, hn⟩ := Int.eq_ofNat_of_zero_le hSn
  have q2 : S.getD (m + 2) 0 = 0 := by
    have h3 := uS.at (m + 2)
    have : (val S).toNat / 2 ^ (32 * (m + 2)) = 0 := by
      apply Nat.div_eq_of_lt
      rw [← hPB, pow32, hn] at hup
      rw [hn, Int.toNat_natCast]; exact Int.ofNat_lt.1 hup
    rw [this, Nat.zero_mod] at g1
    have h4 := h3.1; omega
  have q1 : 2147483648 ≤ S.getD (m + 1) 0 := by
    have h3 := uS.at (m + 1)
    have h4 : 2147483648 ≤ (val S).toNat / 2 ^ (32 * (m + 1)) := by
      rw [Nat.le_div_iff_mul_le (Nat.two_pow_pos _)]
      have h5 : P * 2147483648 ≤ val S := by omega
      rw [← hP, pow32, hn] at h5
      have h7 : ((2 ^ (32 * (m + 1)) * 2147483648 : Nat) : Int) ≤ (n : Int) := by rw [Int.natCast_mul]; exact h5
      rw [hn, Int.toNat_natCast, Nat.mul_comm]; exact Int.ofNat_le.1 h7
    have h6 : (val S).toNat / 2 ^ (32 * (m + 1)) < 4294967296 := by
      rw [Nat.div_lt_iff_lt_mul (Nat.two_pow_pos _)]
      rw [← hP, pow32, hn] at hup
      have h7 : (n : Int) < ((2 ^ (32 * (m + 1)) * 4294967296 : Nat) : Int) := by rw [Int.natCast_mul]; exact hup
      rw [hn, Int.toNat_natCast, Nat.mul_comm]; exact Int.ofNat_lt.1 h7
    rw [Nat.mod_eq_of_lt h6] at g2
    omega
  have hsg : sig S = m + 2 := by
    refine sig_eq (by omega) (fun j h3 h4 => ?_) (.inr ?_)
    · have : j = m + 2 := by omega
      subst this; exact q2
    · simp only [show m + 2 - 1 = m + 1 from rfl]; omega
  refine ⟨hsg, ?_⟩
  unfold trim
  rw [hsg, List.getD_eq_getElem?_getD, List.getElem?_take, if_pos (by omega), ← List.getD_eq_getElem?_getD]; exact q1

/-- What stands between two rounds of the long division. -/
def LI (T V : Int) (n m : Nat) (A Q : List Int) (i : Nat) : Prop :=
  A.length = n + 1 ∧ U32s A ∧ U32s Q ∧ Q.length + (m + 1) = n ∧ T = V * (4294967296 ^ i * val (Q.drop i)) + val A ∧ val A < V * 4294967296 ^ i
theorem LI.seg {T V : Int} {n m i : Nat} {A Q : List Int} (h : LI T V n m A Q (i + 1)) (hi : i < Q.length) (hV : V < 4294967296 ^ (m + 2)) :
    val A = val (A.take i) + 4294967296 ^ i * val ((A.drop i).take (m + 3)) ∧ val ((A.drop i).take (m + 3)) < V * 4294967296 ∧ val (A.drop (i + (m + 3))) = 0 := by
  obtain ⟨lA, uA, uQ, lQ, hT, hlt⟩ := h
  have s1 := val_split A i (by omega)
  have s2 := val_split (A.drop i) (m + 3) (by simp; omega)
  rw [List.drop_drop] at s2
  have n1 := val_nonneg (uA.take i); have n2 := val_nonneg ((uA.drop i).take (m + 3)); have n3 := val_nonneg (uA.drop (i + (m + 3)))
  have hPi := pow_pos32 i; have hPm := pow_pos32 (m + 3)
  have hz : val (A.drop (i + (m + 3))) = 0 := by
    apply Classical.byContradiction; intro h
    have h1 : 4294967296 ^ (m + 3) * 1 ≤ 4294967296 ^ (m + 3) * val (A.drop (i + (m + 3))) := Int.mul_le_mul_of_nonneg_left (by omega) (by omega)
    have h2 : 4294967296 ^ i * 4294967296 ^ (m + 3) ≤ 4294967296 ^ i * val (A.drop i) := Int.mul_le_mul_of_nonneg_left (by omega) (by omega)
    have h3 : V * 4294967296 ^ (i + 1) ≤ 4294967296 ^ (m + 2) * 4294967296 ^ (i + 1) := Int.mul_le_mul_of_nonneg_right (by omega) (Int.le_of_lt (pow_pos32 _))
    have h4 : (4294967296 : Int) ^ (m + 2) * 4294967296 ^ (i + 1) = 4294967296 ^ i * 4294967296 ^ (m + 3) := by rw [← Int.pow_add, ← Int.pow_add]; congr 1; omega
    omega
  rw [hz, Int.mul_zero, Int.add_zero] at s2
  rw [s2] at s1
  refine ⟨s1, ?_, hz⟩
  apply Classical.byContradiction; intro h
  have h1 : 4294967296 ^ i * (V * 4294967296) ≤ 4294967296 ^ i * val ((A.drop i).take (m + 3)) := Int.mul_le_mul_of_nonneg_left (by omega) (by omega)
  have h2 : V * 4294967296 ^ (i + 1) = 4294967296 ^ i * (V * 4294967296) := by rw [pow_succ32]; grind
  omega
theorem LI.step {T V : Int} {n m i : Nat} {A Q Z : List Int} (h : LI T V n m A Q (i + 1)) (hi : i < Q.length) (hV0 : 0 < V) (hV : V < 4294967296 ^ (m + 2)) (lZ : Z.length = m + 3) (uZ : U32s Z) (hZ : val Z = val ((A.drop i).take (m + 3)) % V) :
    LI T V n m (A.take i ++ Z ++ A.drop (i + Z.length)) (Q.set i (val ((A.drop i).take (m + 3)) / V)) i := by
  obtain ⟨s1, s2, s3⟩ := h.seg hi hV
  obtain ⟨lA, uA, uQ, lQ, hT, hlt⟩ := h
  obtain ⟨U, hU⟩ : ∃ U, val ((A.drop i).take (m + 3)) = U := ⟨_, rfl⟩
  have hU0 : 0 ≤ U := by rw [← hU]; exact val_nonneg ((uA.drop i).take (m + 3))
  rw [hU] at s1 s2 hZ ⊢
  have hq0 : 0 ≤ U / V := Int.ediv_nonneg hU0 (by omega)
  have hq1 : U / V < 4294967296 := Int.ediv_lt_of_lt_mul hV0 (by rw [Int.mul_comm]; exact s2)
  have hr0 := Int.emod_nonneg U (b := V) (by omega); have hr1 := Int.emod_lt_of_pos U hV0
  have hdm := Int.mul_ediv_add_emod U V
  have hm := mid_val (S := A) (Z := Z) (i := i) (by omega)
  rw [lZ, hU, hZ] at hm
  have hPi := pow_pos32 i
  have n1 := val_lt (uA.take i)
  rw [List.length_take, Nat.min_eq_left (by omega)] at n1
  rw [lZ]
  refine ⟨by have := mid_len A Z i (by omega); rw [lZ] at this; omega, by have := mid_u32 (i := i) uA uZ; rw [lZ] at this; exact this, uQ.set _ ⟨hq0, hq1⟩, by simpa using lQ, ?_, ?_⟩
  · rw [drop_set_self hi, hm]
    simp only [val]
    rw [pow_succ32] at hT
    have e : 4294967296 ^ i * (U % V - U) = -(4294967296 ^ i * (V * (U / V))) := by
      have : U % V - U = -(V * (U / V)) := by omega
      rw [this, Int.mul_neg]
    rw [e, hT]; grind
  · rw [hm, s1]
    have e : 4294967296 ^ i * (U % V - U) = 4294967296 ^ i * (U % V) - 4294967296 ^ i * U := Int.mul_sub _ _ _
    have h2 : 4294967296 ^ i * (U % V) ≤ 4294967296 ^ i * (V - 1) := Int.mul_le_mul_of_nonneg_left (by omega) (by omega)
    have h3 : 4294967296 ^ i * (V - 1) = V * 4294967296 ^ i - 4294967296 ^ i := by rw [Int.mul_sub, Int.mul_one, Int.mul_comm]
    omega
end Go.Proofs.Ytkdclocjijmgpaa.Nt
/-
  The walk of divideLong.
-/
namespace Go.Proofs.Ytkdclocjijmgpaa.Nt
open Go.RowKit

theorem long_end {x y p q A : Int} (hy : 0 < y) (hp : 0 < p) (h : x * p = (y * p) * q + A) (h0 : 0 ≤ A) (h1 : A < y * p) : x / y = q ∧ x % y = A / p := by
  have hR : A = (x - y * q) * p := by grind
  have e : A / p = x - y * q := by rw [hR]; exact Int.mul_ediv_cancel _ (by omega)
  rw [hR] at h0 h1
  have r0 : 0 ≤ x - y * q := by
    apply Classical.byContradiction; intro h2
    have : (x - y * q) * p ≤ (-1) * p := Int.mul_le_mul_of_nonneg_right (by omega) (by omega)
    omega
  have r1 : x - y * q < y := Int.lt_of_mul_lt_mul_right h1 (by omega)
  rw [e]
  exact step_low (t := q) hy (by rw [Int.mul_comm]) r0 r1

set_option maxHeartbeats 8000000 in
theorem long_ok : LongOK := by
  intro X Y v u w hX hY uX uY sX sY l2 hle lX
  obtain ⟨m, lY⟩ : ∃ m, Y.length = m + 2 := ⟨Y.length - 2, by omega⟩
  have hlXY : m + 2 ≤ X.length := by have := sig_le_of_val uX uY hle; omega
  obtain ⟨aX, cX, rfl, hcX⟩ := hX.len
  obtain ⟨aY, cY, rfl, hcY, hYr⟩ := id hY
  rcases hYr with hYr | ⟨bY, oY, rfl, hbY, hrY⟩
  · rw [hYr] at lY; simp at lY
  obtain ⟨y, hy⟩ : ∃ y, Y.getD (m + 1) 0 = y := ⟨_, rfl⟩
  have uy : U32 y := hy ▸ uY.at _
  have hy0 : y ≠ 0 := by
    have := sig_last (xs := Y) (by omega)
    rw [sY, lY] at this; rw [← hy]; exact this
  have hcy : w.cell? ⟨bY, oY + (m + 1), none⟩ = some (.int .u32 y) := by rw [← hy]; exact hrY _ (by omega)
  have hVy : 0 < val Y := by have := sig_pos uY (by omega); have h2 := val_nonneg uY; apply Classical.byContradiction; intro h; have := sig0_of_val uY (by omega); omega
  obtain ⟨n, hn⟩ : ∃ n, X.length = n := ⟨_, rfl⟩
  obtain ⟨K, hK⟩ : ∃ K, n = K + (m + 1) := ⟨n - (m + 1), by omega⟩
  have hlead := Lead_any y uy hy0 w
  have hup1 := fun (s : Nat) (hs : s < 32) => shiftUp_any X s hs _ w hX uX (by omega)
  have hup2 : ∀ (w1 : World) (s : Nat), s < 32 → Below w.heap.size w w1 → 2147483648 ≤ y * 2 ^ s → y * 2 ^ s < 4294967296 →
      Calls Try.prog 105 #[.slice (some ⟨bY, oY, none⟩) Y.length cY, .int .i64 s] w1 fun e w' => ∃ S2, e = .returned (.slice (some ⟨w1.heap.size, 0, none⟩) (m + 3) (m + 3)) ∧ Below w1.heap.size w1 w' ∧
        (Calls Try.prog 77 #[.slice (some ⟨w1.heap.size, 0, none⟩) (m + 3) (m + 3)] w' fun e w'' => e = .returned (.slice (some ⟨w1.heap.size, 0, none⟩) (m + 2) (m + 3)) ∧ w'' = w') ∧
        Hid (Arr .u32 45 w' w1.heap.size S2 ∧ U32s S2 ∧ S2.length = m + 3 ∧ val S2 = val Y * 2 ^ s ∧ sig S2 = m + 2 ∧ 2147483648 ≤ (trim S2).getD (m + 1) 0) := by
    intro w1 s hs hB h1 h2
    refine (shiftUp_any Y s hs _ w1 (below_sl hB hY) uY (by omega)).mono ?_
    rintro e w' ⟨S2, rfl, hA2, uS2, lS2, vS2, hB2⟩
    rw [lY] at lS2 ⊢
    obtain ⟨hd1, hd2⟩ := norm_div uY lY uS2 lS2 vS2 (p2 s hs).1 (by rw [hy]; exact h1) (by rw [hy]; exact h2)
    have hcut := cut_any S2 (some ⟨w1.heap.size, 0, none⟩) S2.length w' hA2.sl (by omega)
    rw [hd1, lS2] at hcut
    exact ⟨S2, rfl, hB2, hcut, show _ ∧ _ from ⟨hA2, uS2, lS2, vS2, hd1, hd2⟩⟩
  rw [hn] at hX hup1 hcX lX hlXY ⊢
  rw [lY] at hY hup2 hcY ⊢
  have HX : Hid (X.length = n ∧ n = K + (m + 1) ∧ Y.getD (m + 1) 0 = y ∧ Y.length = m + 2) := ⟨hn, hK, hy, lY⟩
  have hK1 : 1 ≤ K := by omega
  have hnK : n - (m + 2) + 1 = K := by omega
  have hmK : (n : Int) - (m + 2) + 1 = K := by omega
  have hnle : n ≤ 1073741824 := lX
  clear hn hy hrY hy0 uy hK hnK sX sY hle l2 lX lY
  go_enter Try.func103, Try.ntmps103
  go_wp2_with (first
    | (go_at_call 104; refine hlead.mono ?_; rintro e w' ⟨s, rfl, hs, hs1, hs2, rfl⟩; have HS : Hid (2147483648 ≤ y * 2 ^ s ∧ y * 2 ^ s < 4294967296) := ⟨hs1, hs2⟩; clear hs1 hs2 hlead)
    | (go_at_call 105; replace H1 := H1; refine (hup2 _ s hs hB1 HS.out.1 HS.out.2).mono ?_; rintro e w2 ⟨S2, rfl, hB2, hcut, H2⟩; clear hup2)
    | (go_at_call 105; refine (hup1 s hs).mono ?_; rintro e w1 ⟨S1, rfl, hA1, uS1, lS1, vS1, hB1⟩; have H1 : Hid (Arr .u32 45 w1 w.heap.size S1 ∧ U32s S1 ∧ S1.length = n + 1 ∧ val S1 = val X * 2 ^ s) := ⟨hA1, uS1, lS1, vS1⟩; clear hA1 uS1 lS1 vS1 hup1)
    | (go_at_call 77; refine hcut.mono ?_; rintro e w3 ⟨rfl, rfl⟩)
    | (at_make; refine wpList_mk _ rfl _ _ 22 rfl .u32 45 4 Try.und32 Try.info32 _ K rfl rfl (by omega) (by omega) (by omega) ?_; intro w4 hA4 hB4))
  obtain ⟨b1, hb1⟩ : ∃ b, w.heap.size = b := ⟨_, rfl⟩
  obtain ⟨b2, hb2⟩ : ∃ b, w1.heap.size = b := ⟨_, rfl⟩
  obtain ⟨b3, hb3⟩ : ∃ b, w3.heap.size = b := ⟨_, rfl⟩
  obtain ⟨hA1, uS1, lS1, vS1⟩ := H1.out
  obtain ⟨hA2, uS2, lS2, vS2, sS2, tS2⟩ := H2.out
  have hA1' := below_arr hB4 (Nat.lt_of_lt_of_le hA1.lt hB2.size) (below_arr hB2 hA1.lt hA1)
  have hA2' := below_arr hB4 hA2.lt hA2
  have hBt2 := hB1.trans (hB2.mono hB1.size)
  have hBt := hBt2.trans (hB4.mono hBt2.size)
  have o12 : b1 < b2 := by rw [← hb1, ← hb2]; exact hA1.lt
  have o23 : b2 < b3 := by rw [← hb2, ← hb3]; exact hA2.lt
  obtain ⟨hnX, hnK, _, _⟩ := HX.out
  obtain ⟨pp, hpp⟩ : ∃ pp : Int, 2 ^ s = pp := ⟨_, rfl⟩
  obtain ⟨p1, p3⟩ := p2 s hs
  have hvD : val (trim S2) = val Y * pp := by rw [trim_val, vS2, hpp]
  have lD : (trim S2).length = m + 2 := by rw [trim_len]; exact sS2
  have uD := trim_u32 uS2
  have hVlt := val_lt uD
  rw [lD] at hVlt
  rw [hpp] at p1 p3
  have hV0 : 0 < val (trim S2) := by rw [hvD]; exact Int.mul_pos hVy (by omega)
  have hLI : LI (val S1) (val (trim S2)) n m S1 (List.replicate K 0) K := by
    refine ⟨lS1, uS1, U32s.zeros _, by simp; omega, by rw [List.drop_of_length_le (by simp)]; simp [val], ?_⟩
    rw [vS1, hpp]
    have h1 := val_lt uX
    rw [hnX] at h1
    have h2 : val X * pp < 4294967296 ^ n * pp := Int.mul_lt_mul_of_pos_right h1 (by omega)
    have h3 := val_split (trim S2) (m + 1) (by omega)
    have h4 : (trim S2).drop (m + 1) = [(trim S2).getD (m + 1) 0] := by
      rw [List.drop_eq_getElem_cons (by omega), List.drop_of_length_le (by omega)]; simp [show m + 1 < (trim S2).length by omega]
    rw [h4] at h3
    simp only [val] at h3
    have h5 := val_nonneg (uD.take (m + 1))
    have h6 : 4294967296 ^ (m + 1) * 2147483648 ≤ 4294967296 ^ (m + 1) * ((trim S2).getD (m + 1) 0 + 4294967296 * 0) := Int.mul_le_mul_of_nonneg_left (by omega) (Int.le_of_lt (pow_pos32 _))
    have h7 : 4294967296 ^ (m + 1) * 2147483648 * 4294967296 ^ K ≤ val (trim S2) * 4294967296 ^ K := Int.mul_le_mul_of_nonneg_right (by omega) (Int.le_of_lt (pow_pos32 _))
    have h8 : (4294967296 : Int) ^ n * 2147483648 = 4294967296 ^ (m + 1) * 2147483648 * 4294967296 ^ K := by rw [hnK, Int.pow_add]; grind
    have h9 : 4294967296 ^ n * pp ≤ 4294967296 ^ n * 2147483648 := Int.mul_le_mul_of_nonneg_left p3 (Int.le_of_lt (pow_pos32 _))
    omega
  rw [hb3] at hA4
  rw [hb1] at hA1'
  rw [hb2] at hA2'
  have HC : Hid (val S1 = val X * pp ∧ val (trim S2) = val Y * pp ∧ (trim S2).length = m + 2 ∧ U32s (trim S2) ∧ val (trim S2) < 4294967296 ^ (m + 2) ∧ 0 < val (trim S2) ∧ 2147483648 ≤ (trim S2).getD (m + 1) 0 ∧ 1 ≤ pp ∧ n = K + (m + 1) ∧ (2 : Int) ^ s = pp ∧ S2.length = m + 3 ∧ sig S2 = m + 2 ∧ w.heap.size = b1) := ⟨by rw [vS1, hpp], hvD, lD, uD, hVlt, hV0, tS2, p1, hnK, hpp, lS2, sS2, hb1⟩
  rw [hb1, hb2, hb3]
  have HW : Hid (w.heap.size = b1) := hb1
  have HR : Hid (∃ A Q, Arr .u32 45 w4 b1 A ∧ Arr .u32 45 w4 b3 Q ∧ Arr .u32 45 w4 b2 S2 ∧ LI (val S1) (val (trim S2)) n m A Q (K - 0) ∧ Below w.heap.size w w4) := show ∃ _, _ from ⟨S1, _, hA1', hA4, hA2', by simpa using hLI, hBt⟩
  clear hb1 hb2 hb3 hA1 uS1 lS1 vS1 hA2 uS2 lS2 vS2 sS2 tS2 hA1' hA2' hBt hBt2 hnX hnK hpp p1 p3 hvD lD uD hVlt hV0 hLI H1 H2 hA4 hB1 hB2 hB4 HX
  go_loopw [34] (fun iv wr => ∃ k : Nat, iv = .int .i64 k ∧ k ≤ K ∧ Hid (∃ A Q, Arr .u32 45 wr b1 A ∧ Arr .u32 45 wr b3 Q ∧ Arr .u32 45 wr b2 S2 ∧ LI (val S1) (val (trim S2)) n m A Q (K - k) ∧ Below w.heap.size w wr)) (fun iv _ => K - (intOf iv).toNat)
  case atStart => exact ⟨0, rfl, Nat.zero_le _, HR.out⟩
  case round =>
    clear HR
    obtain ⟨k, rfl, hk, HR⟩ := hrel
    by_cases hlt : k < K
    · obtain ⟨i, hi⟩ : ∃ i, K - 1 - k = i := ⟨_, rfl⟩
      have hii : (K : Int) - 1 - k = i := by omega
      have hni : ¬ n + 1 = i := by have := HC.out.2.2.2.2.2.2.2.2.1; omega
      have hiK : i < K := by omega
      have hin : i + (m + 3) ≤ n + 1 := by have := HC.out.2.2.2.2.2.2.2.2.1; omega
      have hcall : Calls Try.prog 106 #[.slice (some ⟨b1, i, none⟩) (m + 3) (n + 1 - i), .slice (some ⟨b2, 0, none⟩) (m + 2) (m + 3)] wr fun e w' =>
          ∃ q z, e = .returned (.int .u32 q) ∧ w'.cell? ⟨b3, i, none⟩ = some (.int .u32 z) ∧ w'.frozen? ⟨b3, i, none⟩ = false ∧
            Hid (∃ A Q, Arr .u32 45 w' b1 A ∧ Arr .u32 45 w' b3 Q ∧ Arr .u32 45 w' b2 S2 ∧ LI (val S1) (val (trim S2)) n m A (Q.set i q) (K - (k + 1)) ∧ Below w.heap.size w w' ∧ i < Q.length) := by
        obtain ⟨c1, c2, c3, c4, c5, c6, c7, c8, c9, c10, c11, c12, c13⟩ := HC.out
        obtain ⟨A, Q, rA, rQ, rS, rL, rB⟩ := HR.out
        have hKi : K - k = i + 1 := by omega
        rw [hKi] at rL
        obtain ⟨lA, uA, uQ, lQ, _, _⟩ := id rL
        have hiQ : i < Q.length := by omega
        obtain ⟨s1, s2, s3⟩ := rL.seg hiQ c5
        have hRd : Rd .u32 wr b2 0 (trim S2) := by
          have := rS.rd 0 (m + 2) (by omega)
          rw [List.drop_zero] at this
          unfold trim; rw [c12]; exact this
        refine (divideStep_any A (trim S2) b1 i b2 0 (n + 1 - i) (m + 3) m wr rA uA hRd rS.lt (by omega) c4 c3 (by omega) (by omega) (by omega) (by omega) c7 s2).mono ?_
        rintro e w' ⟨Z, rfl, lZ, uZ, vZ, hA', hU'⟩
        have hQ' := hU'.arr rQ (by omega)
        refine ⟨_, _, rfl, hQ'.cell i hiQ, hQ'.frozen i, show ∃ _, _ from ⟨_, Q, hA', hQ', hU'.arr rS (by omega), ?_, hU'.below rB (by have := rA.lt; omega) (by omega), hiQ⟩⟩
        rw [show K - (k + 1) = i by omega]
        exact rL.step hiQ c6 c5 lZ uZ vZ
      have HI : Hid (K - 1 - k = i) := hi
      have hlen : i + (m + 2) + 1 - i = m + 3 := by omega
      clear hi HR
      go_wp2_with (go_at_call 106; refine hcall.mono ?_; rintro e w5 ⟨q, z, rfl, hc5, hf5, H5⟩)
      go_roundw
      case rel =>
        obtain ⟨A, Q, rA, rQ, rS, rL, rB, hiQ⟩ := H5.out
        have hb1 := HW.out
        exact ⟨k + 1, by go_num, by omega, show ∃ _, _ from ⟨A, Q.set i q, (Upd.set _ b3 i _).arr rA (by omega), rQ.set _ _, (Upd.set _ b3 i _).arr rS (by omega), rL, rB.setCell (p := ⟨b3, i, none⟩) (show w.heap.size ≤ b3 by omega) _⟩⟩
      case measure => simp [intOf]; omega
    · have hkK : k = K := by omega
      have hdn : ∃ A Q, Arr .u32 45 wr b1 A ∧ Arr .u32 45 wr b3 Q ∧ A.length = n + 1 ∧ Q.length = K ∧ U32s A ∧ U32s Q ∧ Below w.heap.size w wr ∧ val X / val Y = val Q ∧ val X % val Y = val A / 2 ^ s := by
        obtain ⟨c1, c2, c3, c4, c5, c6, c7, c8, c9, c10, c11, c12, c13⟩ := HC.out
        obtain ⟨A, Q, rA, rQ, rS, rL, rB⟩ := HR.out
        rw [hkK, Nat.sub_self] at rL
        obtain ⟨lA, uA, uQ, lQ, hT, hlt2⟩ := rL
        simp only [Int.pow_zero, Int.one_mul, Int.mul_one, List.drop_zero] at hT hlt2
        rw [c1, c2] at hT
        rw [c2] at hlt2
        obtain ⟨q1, q2⟩ := long_end hVy (by omega : 0 < pp) hT (val_nonneg uA) hlt2
        exact ⟨A, Q, rA, rQ, lA, by omega, uA, uQ, rB, q1, by rw [c10]; exact q2⟩
      obtain ⟨A, Q, rA, rQ, lA, lQ, uA, uQ, rB, q1, q2⟩ := hdn
      have hdown : Calls Try.prog 107 #[.slice (some ⟨b1, 0, none⟩) (n + 1) (n + 1), .int .i64 s] wr fun e w' => e = .returned (.tuple #[]) ∧ ∃ sq sr, (Calls Try.prog 77 #[.slice (some ⟨b3, 0, none⟩) K K] w' fun e w'' => e = .returned (.slice (some ⟨b3, 0, none⟩) sq K) ∧ w' = w'') ∧
          (Calls Try.prog 77 #[.slice (some ⟨b1, 0, none⟩) (n + 1) (n + 1)] w' fun e w'' => e = .returned (.slice (some ⟨b1, 0, none⟩) sr (n + 1)) ∧ w' = w'') ∧
          Hid (Own w.heap.size w' (.slice (some ⟨b3, 0, none⟩) sq K) (lim (val X / val Y).toNat) ∧ Own w.heap.size w' (.slice (some ⟨b1, 0, none⟩) sr (n + 1)) (lim (val X % val Y).toNat) ∧ Below w.heap.size w w') := by
        have h := shiftDown_any A s hs b1 (n + 1) wr rA uA (by omega)
        rw [lA] at h
        refine h.mono ?_
        rintro e w' ⟨S, rfl, rS, uS, lS, vS, hU⟩
        have hb1 := HW.out
        have rQ' := hU.arr rQ (by omega)
        have h1 := cut_any Q (some ⟨b3, 0, none⟩) Q.length w' rQ'.sl (by omega)
        have h2 := cut_any S (some ⟨b1, 0, none⟩) S.length w' rS.sl (by omega)
        have o1 := Own.cut (B := w.heap.size) rQ' uQ (by omega) (by omega)
        have o2 := Own.cut (B := w.heap.size) rS uS (by omega) (by omega)
        rw [lQ] at h1 o1
        rw [lS] at h2 o2
        rw [← q1] at o1
        rw [vS, ← q2] at o2
        exact ⟨rfl, sig Q, sig S, h1.mono fun e w'' h => ⟨h.1, h.2.symm⟩, h2.mono fun e w'' h => ⟨h.1, h.2.symm⟩, show _ ∧ _ from ⟨o1, o2, hU.below rB (by have := rA.lt; omega) (by omega)⟩⟩
      clear HR rA rQ lA lQ uA uQ rB q1 q2 hkK hk
      go_wp2_with (first
        | (go_at_call 107; refine hdown.mono ?_; rintro e w6 ⟨rfl, sq, sr, hcq, hcr, H6⟩)
        | (go_at_call 77; replace hcr2 := hcr2; refine hcr.mono ?_; rintro e w7 ⟨rfl, rfl⟩)
        | (go_at_call 77; refine hcq.mono ?_; rintro e w7 ⟨rfl, rfl⟩; have hcr2 : True := trivial))
      go_ret2
      obtain ⟨o1, o2, hB⟩ := H6.out
      exact ⟨⟨_, _, rfl, o1, o2⟩, hB⟩
end Go.Proofs.Ytkdclocjijmgpaa.Nt
/-
  make in the words of Base, for seats without package nat.
-/
namespace Go.Proofs.Ytkdclocjijmgpaa
open Go.RowKit
theorem toArray_of_toList {α : Type} {a : Array α} {l : List α} (h : a.toList = l) : a = l.toArray := by subst h; simp

/-- 'make([]T, n)': n noughts in a block of their own. -/
theorem wpList_mk {P : Program} (w : World) {ops : Array Oper} {rest : List Oper} {o : Oper} {a : Act} {Q : Exit → Act → World → Prop} (hg : o.guard = none) (l c : Operand) (t : TypeId) (hop : o.op = .makeSlice t l c)
    (k : IntKind) (e : TypeId) (bytes : Nat) (ht : P.underlying t = some (.slice e)) (hi : (P.info? e).map (fun i => (i.zero, i.size, i.bytes)) = some (some (.int k 0), 1, bytes))
    (L : Int) (n : Nat) (hl : a.eval l = .int .i64 L) (hc : a.eval c = .int .i64 L) (hL : L = n) (hb : bytes * n ≤ 281474976710656) (hm : n ≤ 1152921504606846976)
    (hK : ∀ w', Arr k e w' w.heap.size (List.replicate n 0) → Below w.heap.size w w' → wpList P ops Q rest (a.put o.dst (.slice (some ⟨w.heap.size, 0, none⟩) n n)) w') :
    wpList P ops Q (o :: rest) a w := by
  obtain ⟨i0, hi0, hz0, hz1, hz2⟩ := info_parts hi
  refine wpList_make_full w hg l c t hop w.heap.size e i0 (.int k 0) 1 ht hi0 hz0 hz1 .i64 .i64 L L n hl hc hL hL (by rw [hz2]; exact hb) (by unfold maxLen; omega) (Nat.le_refl _) ?_
  intro w' hown hgr
  refine hK w' ?_ ((Below.refl _ _).grown hgr (Nat.le_refl _) (fun k hk => by cases hk))
  obtain ⟨_, h⟩ := hown
  rcases h with ⟨h, _⟩ | ⟨g, cap, cur, hv, _, hg, _, _, hs, htk⟩
  · cases h
  · simp only [Value.slice.injEq, Option.some.injEq, Addr.mk.injEq, and_true, true_and] at hv
    obtain ⟨rfl, rfl⟩ := hv
    unfold Arr
    rw [hg]
    have e1 : cur.toList = List.replicate n (.int k 0) := by
      rw [List.take_of_length_le (by simp; omega)] at htk
      rw [htk, Nat.mul_one]; exact toList_madeCells_one (.int k 0) n
    rw [toArray_of_toList e1]; simp

end Go.Proofs.Ytkdclocjijmgpaa
/-
  append onto a slice that lies in a whole block of its own (or is nil), from whatever source, in the words of Base.
-/
namespace Go.Proofs.Ytkdclocjijmgpaa
open Go.RowKit

/-- A slice of the call's own: memory from block B on, the head of a whole block of numbers, or nil; it reads xs. -/
def Row (k : IntKind) (e : TypeId) (B : Nat) (w : World) (v : Value) (xs : List Int) : Prop :=
  (v = .slice none 0 0 ∧ xs = []) ∨ ∃ b S, v = .slice (some ⟨b, 0, none⟩) xs.length S.length ∧ B ≤ b ∧ Arr k e w b S ∧ xs.length ≤ S.length ∧ S.take xs.length = xs ∧ S.length ≤ maxLen
/-- What an append has done: only new memory, or the spare room of v's block has been written. -/
def Grew (k : IntKind) (e : TypeId) (w w' : World) (v : Value) (ys : List Int) : Prop :=
  Below w.heap.size w w' ∨ ∃ b n S, v = .slice (some ⟨b, 0, none⟩) n S.length ∧ Arr k e w b S ∧ Upd w w' b ∧ n + ys.length ≤ S.length ∧ Arr k e w' b (S.take n ++ ys ++ S.drop (n + ys.length))

theorem Row.nil (k : IntKind) (e : TypeId) (B : Nat) (w : World) : Row k e B w (.slice none 0 0) [] := .inl ⟨rfl, rfl⟩
theorem Row.sl {k : IntKind} {e : TypeId} {B : Nat} {w : World} {v : Value} {xs : List Int} (h : Row k e B w v xs) : Sl k w v xs := by
  rcases h with ⟨rfl, rfl⟩ | ⟨b, S, rfl, _, hA, hl, ht, _⟩
  · exact ⟨none, 0, rfl, Nat.le_refl _, .inl rfl⟩
  · refine ⟨_, _, rfl, hl, .inr ⟨b, 0, rfl, hA.lt, ?_⟩⟩
    have := hA.rd 0 xs.length (by omega)
    rw [List.drop_zero, ht] at this; exact this
theorem Row.below {k : IntKind} {e : TypeId} {B : Nat} {w w' : World} {v : Value} {xs : List Int} (h : Row k e B w v xs) (hb : Below w.heap.size w w') : Row k e B w' v xs := by
  rcases h with h | ⟨b, S, rfl, h1, hA, h2⟩
  · exact .inl h
  · exact .inr ⟨b, S, rfl, h1, below_arr hb hA.lt hA, h2⟩
theorem Row.mono {k : IntKind} {e : TypeId} {B B' : Nat} {w : World} {v : Value} {xs : List Int} (h : Row k e B w v xs) (hb : B' ≤ B) : Row k e B' w v xs := by
  rcases h with h | ⟨b, S, rfl, h1, h2⟩
  · exact .inl h
  · exact .inr ⟨b, S, rfl, by omega, h2⟩
theorem Row.ne {k : IntKind} {e : TypeId} {B : Nat} {w : World} {v : Value} {xs : List Int} (h : Row k e B w v xs) : ∃ a c, v = .slice a xs.length c := by
  rcases h with ⟨rfl, rfl⟩ | ⟨b, S, rfl, _⟩
  · exact ⟨_, _, rfl⟩
  · exact ⟨_, _, rfl⟩
theorem Row.open {k : IntKind} {e : TypeId} {B : Nat} {w : World} {v : Value} {xs : List Int} (h : Row k e B w v xs) (n : Nat) (hn : xs.length = n) (h0 : 0 < n) :
    ∃ b S, v = .slice (some ⟨b, 0, none⟩) n S.length ∧ B ≤ b ∧ Arr k e w b S ∧ n ≤ S.length ∧ S.take n = xs ∧ S.length ≤ maxLen := by
  subst hn
  rcases h with ⟨_, rfl⟩ | h
  · simp at h0
  · exact h
theorem Row.arr {k : IntKind} {e : TypeId} {B : Nat} {w : World} {b : Nat} {S : List Int} (h : Arr k e w b S) (hB : B ≤ b) (hl : S.length ≤ maxLen) : Row k e B w (.slice (some ⟨b, 0, none⟩) S.length S.length) S :=
  .inr ⟨b, S, rfl, hB, h, Nat.le_refl _, List.take_length, hl⟩
theorem Row.alloc {k : IntKind} {e : TypeId} {B : Nat} {w : World} {v : Value} {xs : List Int} (h : Row k e B w v xs) (o : Obj) : Row k e B (w.alloc o) v xs :=
  h.below ((Below.refl _ _).alloc (Nat.le_refl _) o)
theorem Grew.below {k : IntKind} {e : TypeId} {B : Nat} {w w' : World} {v : Value} {xs ys : List Int} (h : Grew k e w w' v ys) (hr : Row k e B w v xs) (hB : B ≤ w.heap.size) : Below B w w' := by
  rcases h with h | ⟨b, n, S, rfl, _, hU, _⟩
  · exact h.mono hB
  · rcases hr with ⟨h, _⟩ | ⟨b', S', h, hb, _⟩
    · cases h
    · simp only [Value.slice.injEq, Option.some.injEq, Addr.mk.injEq, and_true] at h
      obtain ⟨rfl, _, _⟩ := h
      exact hU.below (Below.refl _ _) hB hb

theorem src_sl {P : Program} {tx e' : TypeId} (hk : P.underlying tx = some (.slice e')) {k : IntKind} {w : World} {v : Value} {ys : List Int} (h : Sl k w v ys) : Src P 1 tx v ys.length (ys.map (Value.int k)) w := by
  obtain ⟨a, c, rfl, hc, h⟩ := h
  have ho : ∀ u ∈ ys.map (Value.int k), u.oneCell' = true := by intro u hu; obtain ⟨x, _, rfl⟩ := List.mem_map.1 hu; rfl
  rcases h with rfl | ⟨b, off, rfl, hb, hr⟩
  · cases a with
    | none => exact Src.ofNil w hk c
    | some a => exact Src.ofSlice w hk a 0 c [] (by simp) (by simp) (by simp)
  · refine Src.ofSlice w hk _ _ _ _ (by simp) (fun j u hj => ?_) ho
    have hl : j < ys.length := by have := (List.getElem?_eq_some_iff.1 hj).1; simpa using this
    have hadd : (⟨b, off, none⟩ : Addr).add j = ⟨b, off + j, none⟩ := by simp [Addr.add]
    rw [hadd, hr j hl, ← hj]; simp [hl]

theorem run_ap {P : Program} (w : World) (t tx ty e : TypeId) (i : TypeInfo) (k : IntKind) (ht : P.underlying t = some (.slice e)) (hi : P.info? e = some i) (hz : i.zero = some (.int k 0)) (hsize : i.size = 1) (hby : 0 < i.bytes)
    {B : Nat} {v : Value} {xs : List Int} (hr : Row k e B w v xs) {x : Value} {ys : List Int} (hs : Src P 1 tx x ys.length (ys.map (Value.int k)) w)
    (hb : (xs.length + ys.length) * i.bytes ≤ 140737488355328) (hB : B ≤ w.heap.size) :
    ∃ v' w', (Builtin.append_ #[t, tx] ty #[v, x]).run P w = .ok v' w' ∧ Row k e B w' v' (xs ++ ys) ∧ Grew k e w w' v ys := by
  have hle : xs.length + ys.length ≤ 140737488355328 := Nat.le_trans (Nat.le_mul_of_pos_right _ hby) hb
  have hs1 : Src P i.size tx x ys.length (ys.map (Value.int k)) w := by rw [hsize]; exact hs
  have grown : ∀ (base : Option Addr) (old : Nat), old < xs.length + ys.length → (Builtin.firstCells i.size xs.length (.slice base xs.length old)).run P w.drew = .ok (xs.map (Value.int k)).toArray w.drew →
      ∃ v' w', (Builtin.append_ #[t, tx] ty #[.slice base xs.length old, x]).run P w = .ok v' w' ∧ Row k e B w' v' (xs ++ ys) ∧ Grew k e w w' (.slice base xs.length old) ys := by
    intro base old ho hold
    have h1 := run_append_grow_src (P := P) w t tx ty e i (.int k 0) ht hi hz base xs.length old _ hold x ys.length _ hs1 ho (by omega) (growslice_fits (by omega) hb)
    refine ⟨_, _, h1, ?_, .inl ((Below.refl _ _).drew.alloc (Nat.le_refl _) _)⟩
    have hge := grownCap_ge w (xs.length + ys.length) old e
    have hcm : grownCap w (xs.length + ys.length) old e ≤ maxLen := grownCap_le_maxLen w _ old e (by unfold maxLen; omega)
    obtain ⟨C, hC⟩ : ∃ C, grownCap w (xs.length + ys.length) old e = xs.length + ys.length + C := ⟨_, (Nat.add_sub_of_le hge).symm⟩
    rw [hC] at hcm ⊢
    have hzc : Builtin.zeroCells (Value.cells (.int k 0)) C = (List.replicate C (.int k 0)).toArray := by
      apply Array.ext'
      simp only [Builtin.zeroCells, Value.cells]
      simp
      rw [List.eq_replicate_iff]
      exact ⟨by simp, fun y hy => by obtain ⟨j, _, rfl⟩ := List.mem_map.1 hy; simp [Nat.mod_one]⟩
    refine .inr ⟨w.heap.size, xs ++ ys ++ List.replicate C 0, ?_, hB, ?_, by simp, List.take_left, by simp; omega⟩
    · simp; omega
    · unfold Arr
      rw [show xs.length + ys.length + C - (xs.length + ys.length) = C by omega, hzc]
      have := heap_alloc_new w.drew (.cells ((xs.map (Value.int k) ++ ys.map (Value.int k)).toArray ++ (List.replicate C (Value.int k 0)).toArray) e)
      simp only [List.map_append, List.map_replicate]
      rw [show (w.drew.heap.size) = w.heap.size from rfl] at this
      rw [this]; simp
  rcases hr with ⟨rfl, rfl⟩ | ⟨b, S, rfl, hBb, hA, hl, htk, hm⟩
  · by_cases h0 : ys.length = 0
    · have hy : ys = [] := List.eq_nil_of_length_eq_zero h0
      subst hy
      refine ⟨.slice none 0 0, w, ?_, .inl ⟨rfl, rfl⟩, .inl (Below.refl _ _)⟩
      have h1 := hs1.cells
      have h2 := hs1.len
      simp only [List.length_nil, List.map_nil] at h1 h2
      rcases hs1.kind with ⟨e', hk⟩ | hk
      · simp [Builtin.append_, run_underlying ht, run_underlying hk, sizeOf, typeInfo, hi, h2, h1]
      · simp [Builtin.append_, run_underlying ht, run_underlying hk, sizeOf, typeInfo, hi, h2, h1]
    · exact grown none 0 (by simp; omega) (run_firstCells_none w.drew i.size 0 0 0)
  · by_cases hroom : xs.length + ys.length ≤ S.length
    · have hst := run_storeCells_at P b (xs.length * i.size) e (ys.map (Value.int k)) 0 _ w hA (by simp [hsize]; omega) hs1.one
      simp only [Nat.add_zero] at hst
      have hrun : (Builtin.append_ #[t, tx] ty #[.slice (some ⟨b, 0, none⟩) xs.length S.length, x]).run P w = .ok (.slice (some ⟨b, 0, none⟩) (xs.length + ys.length) S.length) (w.setRow b (((S.map (Value.int k)).toArray.toList.take (xs.length * i.size)) ++ ys.map (Value.int k) ++ ((S.map (Value.int k)).toArray.toList.drop (xs.length * i.size + (ys.map (Value.int k)).length))).toArray) := by
        rcases hs1.kind with ⟨e', hk⟩ | hk <;> simp [Builtin.append_, run_underlying ht, run_underlying hk, sizeOf, typeInfo, hi, hs1.len, hroom, hs1.cells, Addr.add_lit, hst]
      have hA' : Arr k e (w.setRow b (((S.map (Value.int k)).toArray.toList.take (xs.length * i.size)) ++ ys.map (Value.int k) ++ ((S.map (Value.int k)).toArray.toList.drop (xs.length * i.size + (ys.map (Value.int k)).length))).toArray) b (S.take xs.length ++ ys ++ S.drop (xs.length + ys.length)) := by
        unfold Arr
        rw [setRow_heap w b _ _ e _ hA]
        simp [hsize, List.map_take, List.map_drop]
      have hlen : (S.take xs.length ++ ys ++ S.drop (xs.length + ys.length)).length = S.length := by simp; omega
      refine ⟨_, _, hrun, .inr ⟨b, _, ?_, hBb, hA', ?_, ?_, ?_⟩, .inr ⟨b, xs.length, S, rfl, hA, ⟨rfl, rfl, rfl, by simp [World.setRow], fun j _ hj => setRow_other w b j _ (fun e => hj (by simp [e]))⟩, hroom, hA'⟩⟩
      · rw [hlen]; simp
      · rw [hlen]; simp; omega
      · rw [htk]; exact List.take_left
      · rw [hlen]; exact hm
    · refine grown (some ⟨b, 0, none⟩) S.length (by omega) (run_firstCells_some w.drew i.size xs.length ⟨b, 0, none⟩ xs.length S.length _ (by simp [hsize]) (fun j u hj => ?_))
      have hj' : j < xs.length := by have := (List.getElem?_eq_some_iff.1 hj).1; simpa using this
      have hadd : (⟨b, 0, none⟩ : Addr).add j = ⟨b, j, none⟩ := by simp [Addr.add]; try omega
      have := hA.cell j (by omega)
      rw [hadd]
      have e1 : (w.drew).cell? ⟨b, j, none⟩ = w.cell? ⟨b, j, none⟩ := rfl
      rw [e1, this, ← hj]
      have e2 : S.getD j 0 = xs.getD j 0 := by
        have : (S.take xs.length).getD j 0 = S.getD j 0 := by simp [List.getD, hj']
        rw [← this, htk]
      rw [e2]; simp [hj']

theorem wpList_ap {P : Program} {w : World} {ops : Array Oper} {rest : List Oper} {o : Oper} {a : Act} {Q : Exit → Act → World → Prop} (hgd : o.guard = none) (s x : Operand) (t tx : TypeId)
    (ho : o.op = .call { callee := .builtin .append, args := #[s, x], argTypes := #[t, tx] }) (k : IntKind) (e : TypeId) (bytes : Nat) (ht : P.underlying t = some (.slice e))
    (hi : (P.info? e).map (fun i => (i.zero, i.size, i.bytes)) = some (some (.int k 0), 1, bytes)) (hby : 0 < bytes)
    (B : Nat) (v : Value) (xs : List Int) (hs : a.eval s = v) (hr : Row k e B w v xs) (u : Value) (ys : List Int) (hx : a.eval x = u) (hy : Src P 1 tx u ys.length (ys.map (Value.int k)) w)
    (hb : (xs.length + ys.length) * bytes ≤ 140737488355328) (hB : B ≤ w.heap.size)
    (h : ∀ v' w', Row k e B w' v' (xs ++ ys) → Grew k e w w' v ys → wpList P ops Q rest (a.put o.dst v') w') : wpList P ops Q (o :: rest) a w := by
  obtain ⟨i0, hi0, hz0, hz1, hz2⟩ := info_parts hi
  refine wpList_plain hgd fun K hK => ?_
  obtain ⟨v', w', hrun, h2, h3⟩ := run_ap (P := P) w t tx o.type e i0 k ht hi0 hz0 hz1 (by omega) hr hy (by rw [hz2]; exact hb) hB
  unfold Oper.wp execOp
  simp only [ho, resolve, invoke, builtin, Sem.run_bind, Sem.run_pure, Result.andThen_ok, List.map_toArray, List.map_cons, List.map_nil, hs, hx, hrun]
  exact hK _ _ (h v' w' h2 h3)
/-- The same, as one step of a region that draws its order. -/
theorem step_ap {P : Program} {ops : Array Oper} {o : Oper} {a : Act} {w : World} {K : Act → World → Prop} {Q : Exit → Act → World → Prop} {E : Prop} (hgd : o.guard = none) (s x : Operand) (t tx : TypeId)
    (ho : o.op = .call { callee := .builtin .append, args := #[s, x], argTypes := #[t, tx] }) (k : IntKind) (e : TypeId) (bytes : Nat) (ht : P.underlying t = some (.slice e))
    (hi : (P.info? e).map (fun i => (i.zero, i.size, i.bytes)) = some (some (.int k 0), 1, bytes)) (hby : 0 < bytes)
    (B : Nat) (v : Value) (xs : List Int) (hs : a.eval s = v) (hr : Row k e B w v xs) (u : Value) (ys : List Int) (hx : a.eval x = u) (hy : Src P 1 tx u ys.length (ys.map (Value.int k)) w)
    (hb : (xs.length + ys.length) * bytes ≤ 140737488355328) (hB : B ≤ w.heap.size)
    (h : ∀ v' w', Row k e B w' v' (xs ++ ys) → Grew k e w w' v ys → K (a.put o.dst v') w') : if Region.wanted o (yielded ops a.tmps) = true then Oper.wp P o a w K Q else E := by
  have hw : Region.wanted o (yielded ops a.tmps) = true := by simp [Region.wanted, hgd]
  rw [if_pos hw]
  obtain ⟨i0, hi0, hz0, hz1, hz2⟩ := info_parts hi
  obtain ⟨v', w', hrun, h2, h3⟩ := run_ap (P := P) w t tx o.type e i0 k ht hi0 hz0 hz1 (by omega) hr hy (by rw [hz2]; exact hb) hB
  unfold Oper.wp execOp
  simp only [ho, resolve, invoke, builtin, Sem.run_bind, Sem.run_pure, Result.andThen_ok, List.map_toArray, List.map_cons, List.map_nil, hs, hx, hrun]
  exact h v' w' h2 h3
end Go.Proofs.Ytkdclocjijmgpaa
