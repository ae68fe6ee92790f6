/-
  The walk of divideLong: the long division keeps its promise.
-/
import Derived.OpenShut
import Derived.Test.YtjmiaakfdclfjaaGreatDoorK10
namespace Go.Proofs.YtjmiaakfdclfjaaGreatDoor.Nt
open Go.RowKit

set_option maxHeartbeats 400000 in
theorem Lead_any (x : Int) (hx : U32 x) (hx0 : x ≠ 0) (w : World) :
    Calls Tryz.prog 122 #[.int .u32 x] w fun e w' => ∃ s : Nat, e = .returned (.int .i64 s) ∧ s < 32 ∧ 2147483648 ≤ x * 2 ^ s ∧ x * 2 ^ s < 4294967296 ∧ w = w' := by
  have hl := Len32_any x hx w
  obtain ⟨x0, x1⟩ := hx
  obtain ⟨bl, hbl⟩ : ∃ bl, bitLen x.toNat = bl := ⟨_, rfl⟩
  have h32 : bl ≤ 32 := by rw [← hbl]; exact bitLen_lt (by omega)
  have hsp := bitLen_spec x.toNat
  rw [hbl] at hsp hl
  have hb1 : 1 ≤ bl := by
    apply Classical.byContradiction; intro h
    have : bl = 0 := by omega
    rw [this] at hsp; simp at hsp; omega
  have HS : Hid (x.toNat < 2 ^ bl ∧ 2 ^ (bl - 1) ≤ x.toNat) := ⟨hsp.1, hsp.2 (by omega)⟩
  clear hsp hbl
  go_enter Tryz.func122, Tryz.ntmps122
  go_wp2_with (go_at_call 54; refine hl.mono ?_; rintro e w' ⟨rfl, rfl⟩)
  go_ret
  obtain ⟨n, hn⟩ := Int.eq_ofNat_of_zero_le x0
  subst hn
  obtain ⟨h1, h2⟩ := HS.out
  simp only [Int.toNat_natCast] at h1 h2
  have e1 : n * 2 ^ (32 - bl) < 2 ^ 32 := by
    have := Nat.mul_lt_mul_of_pos_right h1 (Nat.two_pow_pos (32 - bl))
    rw [← Nat.pow_add, show bl + (32 - bl) = 32 by omega] at this; exact this
  have e2 : 2 ^ 31 ≤ n * 2 ^ (32 - bl) := by
    have := Nat.mul_le_mul_right (2 ^ (32 - bl)) h2
    rw [← Nat.pow_add, show bl - 1 + (32 - bl) = 31 by omega] at this; exact this
  refine ⟨32 - bl, ?_, by omega, ?_, ?_, rfl⟩
  · exact ret_int (by omega)
  · have e3 : ((n * 2 ^ (32 - bl) : Nat) : Int) = (n : Int) * 2 ^ (32 - bl) := by simp
    rw [← e3]; omega
  · have e3 : ((n * 2 ^ (32 - bl) : Nat) : Int) = (n : Int) * 2 ^ (32 - bl) := by simp
    rw [← e3]; omega

/-- What the shifted divisor is. -/
theorem norm_div {Y S : List Int} {m s : Nat} (uY : U32s Y) (lY : Y.length = m + 2) (uS : U32s S) (lS : S.length = m + 3) (hv : val S = val Y * 2 ^ s) (hp : (1 : Int) ≤ 2 ^ s) (h1 : 2147483648 ≤ Y.getD (m + 1) 0 * 2 ^ s) (h2 : Y.getD (m + 1) 0 * 2 ^ s < 4294967296) :
    sig S = m + 2 ∧ 2147483648 ≤ (trim S).getD (m + 1) 0 := by
  have sY := val_split Y (m + 1) (by omega)
  have dY : Y.drop (m + 1) = [Y.getD (m + 1) 0] := by
    rw [List.drop_eq_getElem_cons (by omega), List.drop_of_length_le (by omega)]; simp [show m + 1 < Y.length by omega]
  rw [dY] at sY
  simp only [val] at sY
  have y0 := val_nonneg (uY.take (m + 1)); have y1 := val_lt (uY.take (m + 1))
  rw [List.length_take, Nat.min_eq_left (by omega)] at y1
  obtain ⟨y, hy⟩ : ∃ y, Y.getD (m + 1) 0 = y := ⟨_, rfl⟩
  obtain ⟨p, hpp⟩ : ∃ p : Int, 2 ^ s = p := ⟨_, rfl⟩
  obtain ⟨P, hP⟩ : ∃ P : Int, 4294967296 ^ (m + 1) = P := ⟨_, rfl⟩
  have hP0 : 0 < P := by rw [← hP]; exact pow_pos32 _
  obtain ⟨a, ha⟩ : ∃ a, val (Y.take (m + 1)) = a := ⟨_, rfl⟩
  rw [hy, hpp] at h1 h2
  rw [hpp] at hv hp
  rw [hy, hP, ha] at sY
  rw [ha] at y0 y1
  rw [hP] at y1
  have hyp : y + 1 ≤ 4294967296 := by have := uY.at (m + 1); rw [hy] at this; have := this.2; omega
  -- val S = a p + P (y p), below P B
  have hvS : val S = a * p + P * (y * p) := by rw [hv, sY]; grind
  have hap : 0 ≤ a * p := Int.mul_nonneg y0 (by omega)
  have hlow : P * 2147483648 ≤ P * (y * p) := Int.mul_le_mul_of_nonneg_left h1 (by omega)
  -- (y+1) p ≤ B
  have hdv : (y + 1) * p ≤ 4294967296 := by
    -- p divides B
    have hs32 : s < 32 := by
      apply Classical.byContradiction; intro h
      have h3 : (2 : Int) ^ 32 ≤ 2 ^ s := by exact_mod_cast Nat.pow_le_pow_right (n := 2) (by decide) (show 32 ≤ s by omega)
      rw [hpp] at h3
      have hy1 : 1 ≤ y := by
        apply Classical.byContradiction; intro h4
        have h5 : y * p ≤ 0 * p := Int.mul_le_mul_of_nonneg_right (by omega) (by omega)
        rw [Int.zero_mul] at h5; omega
      have : 1 * p ≤ y * p := Int.mul_le_mul_of_nonneg_right hy1 (by omega)
      omega
    have hB : (4294967296 : Int) = 2 ^ (32 - s) * p := by
      rw [← hpp, ← Int.pow_add, show 32 - s + s = 32 by omega]; rfl
    rw [hB] at h2 ⊢
    have : y < 2 ^ (32 - s) := Int.lt_of_mul_lt_mul_right h2 (by omega)
    exact Int.mul_le_mul_of_nonneg_right (by omega) (by omega)
  have hup : val S < P * 4294967296 := by
    have h3 : a * p < P * p := Int.mul_lt_mul_of_pos_right y1 (by omega)
    have h4 : P * ((y + 1) * p) ≤ P * 4294967296 := Int.mul_le_mul_of_nonneg_left hdv (by omega)
    have h5 : P * ((y + 1) * p) = P * (y * p) + P * p := by grind
    omega
  have hPB : (4294967296 : Int) ^ (m + 2) = P * 4294967296 := by rw [pow_succ32, hP, Int.mul_comm]
  have g1 := getD_div S (m + 2) uS
  have g2 := getD_div S (m + 1) uS
  have hSn := val_nonneg uS
  obtain ⟨n, hn⟩ := Int.eq_ofNat_of_zero_le hSn
  have q2 : S.getD (m + 2) 0 = 0 := by
    have h3 := uS.at (m + 2)
    have : (val S).toNat / 2 ^ (32 * (m + 2)) = 0 := by
      apply Nat.div_eq_of_lt
      rw [← hPB, pow32, hn] at hup
      rw [hn, Int.toNat_natCast]; exact Int.ofNat_lt.1 hup
    rw [this, Nat.zero_mod] at g1
    have h4 := h3.1; omega
  have q1 : 2147483648 ≤ S.getD (m + 1) 0 := by
    have h3 := uS.at (m + 1)
    have h4 : 2147483648 ≤ (val S).toNat / 2 ^ (32 * (m + 1)) := by
      rw [Nat.le_div_iff_mul_le (Nat.two_pow_pos _)]
      have h5 : P * 2147483648 ≤ val S := by omega
      rw [← hP, pow32, hn] at h5
      have h7 : ((2 ^ (32 * (m + 1)) * 2147483648 : Nat) : Int) ≤ (n : Int) := by rw [Int.natCast_mul]; exact h5
      rw [hn, Int.toNat_natCast, Nat.mul_comm]; exact Int.ofNat_le.1 h7
    have h6 : (val S).toNat / 2 ^ (32 * (m + 1)) < 4294967296 := by
      rw [Nat.div_lt_iff_lt_mul (Nat.two_pow_pos _)]
      rw [← hP, pow32, hn] at hup
      have h7 : (n : Int) < ((2 ^ (32 * (m + 1)) * 4294967296 : Nat) : Int) := by rw [Int.natCast_mul]; exact hup
      rw [hn, Int.toNat_natCast, Nat.mul_comm]; exact Int.ofNat_lt.1 h7
    rw [Nat.mod_eq_of_lt h6] at g2
    omega
  have hsg : sig S = m + 2 := by
    refine sig_eq (by omega) (fun j h3 h4 => ?_) (.inr ?_)
    · have : j = m + 2 := by omega
      subst this; exact q2
    · simp only [show m + 2 - 1 = m + 1 from rfl]; omega
  refine ⟨hsg, ?_⟩
  unfold trim
  rw [hsg, List.getD_eq_getElem?_getD, List.getElem?_take, if_pos (by omega), ← List.getD_eq_getElem?_getD]; exact q1

/-- What stands between two rounds of the long division. -/
def LI (T V : Int) (n m : Nat) (A Q : List Int) (i : Nat) : Prop :=
  A.length = n + 1 ∧ U32s A ∧ U32s Q ∧ Q.length + (m + 1) = n ∧ T = V * (4294967296 ^ i * val (Q.drop i)) + val A ∧ val A < V * 4294967296 ^ i
theorem LI.seg {T V : Int} {n m i : Nat} {A Q : List Int} (h : LI T V n m A Q (i + 1)) (hi : i < Q.length) (hV : V < 4294967296 ^ (m + 2)) :
    val A = val (A.take i) + 4294967296 ^ i * val ((A.drop i).take (m + 3)) ∧ val ((A.drop i).take (m + 3)) < V * 4294967296 ∧ val (A.drop (i + (m + 3))) = 0 := by
  obtain ⟨lA, uA, uQ, lQ, hT, hlt⟩ := h
  have s1 := val_split A i (by omega)
  have s2 := val_split (A.drop i) (m + 3) (by simp; omega)
  rw [List.drop_drop] at s2
  have n1 := val_nonneg (uA.take i); have n2 := val_nonneg ((uA.drop i).take (m + 3)); have n3 := val_nonneg (uA.drop (i + (m + 3)))
  have hPi := pow_pos32 i; have hPm := pow_pos32 (m + 3)
  have hz : val (A.drop (i + (m + 3))) = 0 := by
    apply Classical.byContradiction; intro h
    have h1 : 4294967296 ^ (m + 3) * 1 ≤ 4294967296 ^ (m + 3) * val (A.drop (i + (m + 3))) := Int.mul_le_mul_of_nonneg_left (by omega) (by omega)
    have h2 : 4294967296 ^ i * 4294967296 ^ (m + 3) ≤ 4294967296 ^ i * val (A.drop i) := Int.mul_le_mul_of_nonneg_left (by omega) (by omega)
    have h3 : V * 4294967296 ^ (i + 1) ≤ 4294967296 ^ (m + 2) * 4294967296 ^ (i + 1) := Int.mul_le_mul_of_nonneg_right (by omega) (Int.le_of_lt (pow_pos32 _))
    have h4 : (4294967296 : Int) ^ (m + 2) * 4294967296 ^ (i + 1) = 4294967296 ^ i * 4294967296 ^ (m + 3) := by rw [← Int.pow_add, ← Int.pow_add]; congr 1; omega
    omega
  rw [hz, Int.mul_zero, Int.add_zero] at s2
  rw [s2] at s1
  refine ⟨s1, ?_, hz⟩
  apply Classical.byContradiction; intro h
  have h1 : 4294967296 ^ i * (V * 4294967296) ≤ 4294967296 ^ i * val ((A.drop i).take (m + 3)) := Int.mul_le_mul_of_nonneg_left (by omega) (by omega)
  have h2 : V * 4294967296 ^ (i + 1) = 4294967296 ^ i * (V * 4294967296) := by rw [pow_succ32]; grind
  omega
theorem LI.step {T V : Int} {n m i : Nat} {A Q Z : List Int} (h : LI T V n m A Q (i + 1)) (hi : i < Q.length) (hV0 : 0 < V) (hV : V < 4294967296 ^ (m + 2)) (lZ : Z.length = m + 3) (uZ : U32s Z) (hZ : val Z = val ((A.drop i).take (m + 3)) % V) :
    LI T V n m (A.take i ++ Z ++ A.drop (i + Z.length)) (Q.set i (val ((A.drop i).take (m + 3)) / V)) i := by
  obtain ⟨s1, s2, s3⟩ := h.seg hi hV
  obtain ⟨lA, uA, uQ, lQ, hT, hlt⟩ := h
  obtain ⟨U, hU⟩ : ∃ U, val ((A.drop i).take (m + 3)) = U := ⟨_, rfl⟩
  have hU0 : 0 ≤ U := by rw [← hU]; exact val_nonneg ((uA.drop i).take (m + 3))
  rw [hU] at s1 s2 hZ ⊢
  have hq0 : 0 ≤ U / V := Int.ediv_nonneg hU0 (by omega)
  have hq1 : U / V < 4294967296 := Int.ediv_lt_of_lt_mul hV0 (by rw [Int.mul_comm]; exact s2)
  have hr0 := Int.emod_nonneg U (b := V) (by omega); have hr1 := Int.emod_lt_of_pos U hV0
  have hdm := Int.mul_ediv_add_emod U V
  have hm := mid_val (S := A) (Z := Z) (i := i) (by omega)
  rw [lZ, hU, hZ] at hm
  have hPi := pow_pos32 i
  have n1 := val_lt (uA.take i)
  rw [List.length_take, Nat.min_eq_left (by omega)] at n1
  rw [lZ]
  refine ⟨by have := mid_len A Z i (by omega); rw [lZ] at this; omega, by have := mid_u32 (i := i) uA uZ; rw [lZ] at this; exact this, uQ.set _ ⟨hq0, hq1⟩, by simpa using lQ, ?_, ?_⟩
  · rw [drop_set_self hi, hm]
    simp only [val]
    rw [pow_succ32] at hT
    have e : 4294967296 ^ i * (U % V - U) = -(4294967296 ^ i * (V * (U / V))) := by
      have : U % V - U = -(V * (U / V)) := by omega
      rw [this, Int.mul_neg]
    rw [e, hT]; grind
  · rw [hm, s1]
    have e : 4294967296 ^ i * (U % V - U) = 4294967296 ^ i * (U % V) - 4294967296 ^ i * U := Int.mul_sub _ _ _
    have h2 : 4294967296 ^ i * (U % V) ≤ 4294967296 ^ i * (V - 1) := Int.mul_le_mul_of_nonneg_left (by omega) (by omega)
    have h3 : 4294967296 ^ i * (V - 1) = V * 4294967296 ^ i - 4294967296 ^ i := by rw [Int.mul_sub, Int.mul_one, Int.mul_comm]
    omega
end Go.Proofs.YtjmiaakfdclfjaaGreatDoor.Nt
/-
  The walk of divideLong.
-/
namespace Go.Proofs.YtjmiaakfdclfjaaGreatDoor.Nt
open Go.RowKit

theorem long_end {x y p q A : Int} (hy : 0 < y) (hp : 0 < p) (h : x * p = (y * p) * q + A) (h0 : 0 ≤ A) (h1 : A < y * p) : x / y = q ∧ x % y = A / p := by
  have hR : A = (x - y * q) * p := by grind
  have e : A / p = x - y * q := by rw [hR]; exact Int.mul_ediv_cancel _ (by omega)
  rw [hR] at h0 h1
  have r0 : 0 ≤ x - y * q := by
    apply Classical.byContradiction; intro h2
    have : (x - y * q) * p ≤ (-1) * p := Int.mul_le_mul_of_nonneg_right (by omega) (by omega)
    omega
  have r1 : x - y * q < y := Int.lt_of_mul_lt_mul_right h1 (by omega)
  rw [e]
  exact step_low (t := q) hy (by rw [Int.mul_comm]) r0 r1

set_option maxHeartbeats 8000000 in
theorem long_ok : LongOK := by
  intro X Y v u w hX hY uX uY sX sY l2 hle lX
  obtain ⟨m, lY⟩ : ∃ m, Y.length = m + 2 := ⟨Y.length - 2, by omega⟩
  have hlXY : m + 2 ≤ X.length := by have := sig_le_of_val uX uY hle; omega
  obtain ⟨aX, cX, rfl, hcX⟩ := hX.len
  obtain ⟨aY, cY, rfl, hcY, hYr⟩ := id hY
  rcases hYr with hYr | ⟨bY, oY, rfl, hbY, hrY⟩
  · rw [hYr] at lY; simp at lY
  obtain ⟨y, hy⟩ : ∃ y, Y.getD (m + 1) 0 = y := ⟨_, rfl⟩
  have uy : U32 y := hy ▸ uY.at _
  have hy0 : y ≠ 0 := by
    have := sig_last (xs := Y) (by omega)
    rw [sY, lY] at this; rw [← hy]; exact this
  have hcy : w.cell? ⟨bY, oY + (m + 1), none⟩ = some (.int .u32 y) := by rw [← hy]; exact hrY _ (by omega)
  have hVy : 0 < val Y := by have := sig_pos uY (by omega); have h2 := val_nonneg uY; apply Classical.byContradiction; intro h; have := sig0_of_val uY (by omega); omega
  obtain ⟨n, hn⟩ : ∃ n, X.length = n := ⟨_, rfl⟩
  obtain ⟨K, hK⟩ : ∃ K, n = K + (m + 1) := ⟨n - (m + 1), by omega⟩
  have hlead := Lead_any y uy hy0 w
  have hup1 := fun (s : Nat) (hs : s < 32) => shiftUp_any X s hs _ w hX uX (by omega)
  have hup2 : ∀ (w1 : World) (s : Nat), s < 32 → Below w.heap.size w w1 → 2147483648 ≤ y * 2 ^ s → y * 2 ^ s < 4294967296 →
      Calls Tryz.prog 123 #[.slice (some ⟨bY, oY, none⟩) Y.length cY, .int .i64 s] w1 fun e w' => ∃ S2, e = .returned (.slice (some ⟨w1.heap.size, 0, none⟩) (m + 3) (m + 3)) ∧ Below w1.heap.size w1 w' ∧
        (Calls Tryz.prog 77 #[.slice (some ⟨w1.heap.size, 0, none⟩) (m + 3) (m + 3)] w' fun e w'' => e = .returned (.slice (some ⟨w1.heap.size, 0, none⟩) (m + 2) (m + 3)) ∧ w'' = w') ∧
        Hid (Arr .u32 38 w' w1.heap.size S2 ∧ U32s S2 ∧ S2.length = m + 3 ∧ val S2 = val Y * 2 ^ s ∧ sig S2 = m + 2 ∧ 2147483648 ≤ (trim S2).getD (m + 1) 0) := by
    intro w1 s hs hB h1 h2
    refine (shiftUp_any Y s hs _ w1 (below_sl hB hY) uY (by omega)).mono ?_
    rintro e w' ⟨S2, rfl, hA2, uS2, lS2, vS2, hB2⟩
    rw [lY] at lS2 ⊢
    obtain ⟨hd1, hd2⟩ := norm_div uY lY uS2 lS2 vS2 (p2 s hs).1 (by rw [hy]; exact h1) (by rw [hy]; exact h2)
    have hcut := cut_any S2 (some ⟨w1.heap.size, 0, none⟩) S2.length w' hA2.sl (by omega)
    rw [hd1, lS2] at hcut
    exact ⟨S2, rfl, hB2, hcut, show _ ∧ _ from ⟨hA2, uS2, lS2, vS2, hd1, hd2⟩⟩
  rw [hn] at hX hup1 hcX lX hlXY ⊢
  rw [lY] at hY hup2 hcY ⊢
  have HX : Hid (X.length = n ∧ n = K + (m + 1) ∧ Y.getD (m + 1) 0 = y ∧ Y.length = m + 2) := ⟨hn, hK, hy, lY⟩
  have hK1 : 1 ≤ K := by omega
  have hnK : n - (m + 2) + 1 = K := by omega
  have hmK : (n : Int) - (m + 2) + 1 = K := by omega
  have hnle : n ≤ 1073741824 := lX
  clear hn hy hrY hy0 uy hK hnK sX sY hle l2 lX lY
  go_enter Tryz.func117, Tryz.ntmps117
  go_wp2_with (first
    | (go_at_call 122; refine hlead.mono ?_; rintro e w' ⟨s, rfl, hs, hs1, hs2, rfl⟩; have HS : Hid (2147483648 ≤ y * 2 ^ s ∧ y * 2 ^ s < 4294967296) := ⟨hs1, hs2⟩; clear hs1 hs2 hlead)
    | (go_at_call 123; replace H1 := H1; refine (hup2 _ s hs hB1 HS.out.1 HS.out.2).mono ?_; rintro e w2 ⟨S2, rfl, hB2, hcut, H2⟩; clear hup2)
    | (go_at_call 123; refine (hup1 s hs).mono ?_; rintro e w1 ⟨S1, rfl, hA1, uS1, lS1, vS1, hB1⟩; have H1 : Hid (Arr .u32 38 w1 w.heap.size S1 ∧ U32s S1 ∧ S1.length = n + 1 ∧ val S1 = val X * 2 ^ s) := ⟨hA1, uS1, lS1, vS1⟩; clear hA1 uS1 lS1 vS1 hup1)
    | (go_at_call 77; refine hcut.mono ?_; rintro e w3 ⟨rfl, rfl⟩)
    | (at_make; refine wpList_mk _ rfl _ _ 24 rfl .u32 38 4 Tryz.und32 Tryz.info32 _ K rfl rfl (by omega) (by omega) (by omega) ?_; intro w4 hA4 hB4))
  obtain ⟨b1, hb1⟩ : ∃ b, w.heap.size = b := ⟨_, rfl⟩
  obtain ⟨b2, hb2⟩ : ∃ b, w1.heap.size = b := ⟨_, rfl⟩
  obtain ⟨b3, hb3⟩ : ∃ b, w3.heap.size = b := ⟨_, rfl⟩
  obtain ⟨hA1, uS1, lS1, vS1⟩ := H1.out
  obtain ⟨hA2, uS2, lS2, vS2, sS2, tS2⟩ := H2.out
  have hA1' := below_arr hB4 (Nat.lt_of_lt_of_le hA1.lt hB2.size) (below_arr hB2 hA1.lt hA1)
  have hA2' := below_arr hB4 hA2.lt hA2
  have hBt2 := hB1.trans (hB2.mono hB1.size)
  have hBt := hBt2.trans (hB4.mono hBt2.size)
  have o12 : b1 < b2 := by rw [← hb1, ← hb2]; exact hA1.lt
  have o23 : b2 < b3 := by rw [← hb2, ← hb3]; exact hA2.lt
  obtain ⟨hnX, hnK, _, _⟩ := HX.out
  obtain ⟨pp, hpp⟩ : ∃ pp : Int, 2 ^ s = pp := ⟨_, rfl⟩
  obtain ⟨p1, p3⟩ := p2 s hs
  have hvD : val (trim S2) = val Y * pp := by rw [trim_val, vS2, hpp]
  have lD : (trim S2).length = m + 2 := by rw [trim_len]; exact sS2
  have uD := trim_u32 uS2
  have hVlt := val_lt uD
  rw [lD] at hVlt
  rw [hpp] at p1 p3
  have hV0 : 0 < val (trim S2) := by rw [hvD]; exact Int.mul_pos hVy (by omega)
  have hLI : LI (val S1) (val (trim S2)) n m S1 (List.replicate K 0) K := by
    refine ⟨lS1, uS1, U32s.zeros _, by simp; omega, by rw [List.drop_of_length_le (by simp)]; simp [val], ?_⟩
    rw [vS1, hpp]
    have h1 := val_lt uX
    rw [hnX] at h1
    have h2 : val X * pp < 4294967296 ^ n * pp := Int.mul_lt_mul_of_pos_right h1 (by omega)
    have h3 := val_split (trim S2) (m + 1) (by omega)
    have h4 : (trim S2).drop (m + 1) = [(trim S2).getD (m + 1) 0] := by
      rw [List.drop_eq_getElem_cons (by omega), List.drop_of_length_le (by omega)]; simp [show m + 1 < (trim S2).length by omega]
    rw [h4] at h3
    simp only [val] at h3
    have h5 := val_nonneg (uD.take (m + 1))
    have h6 : 4294967296 ^ (m + 1) * 2147483648 ≤ 4294967296 ^ (m + 1) * ((trim S2).getD (m + 1) 0 + 4294967296 * 0) := Int.mul_le_mul_of_nonneg_left (by omega) (Int.le_of_lt (pow_pos32 _))
    have h7 : 4294967296 ^ (m + 1) * 2147483648 * 4294967296 ^ K ≤ val (trim S2) * 4294967296 ^ K := Int.mul_le_mul_of_nonneg_right (by omega) (Int.le_of_lt (pow_pos32 _))
    have h8 : (4294967296 : Int) ^ n * 2147483648 = 4294967296 ^ (m + 1) * 2147483648 * 4294967296 ^ K := by rw [hnK, Int.pow_add]; grind
    have h9 : 4294967296 ^ n * pp ≤ 4294967296 ^ n * 2147483648 := Int.mul_le_mul_of_nonneg_left p3 (Int.le_of_lt (pow_pos32 _))
    omega
  rw [hb3] at hA4
  rw [hb1] at hA1'
  rw [hb2] at hA2'
  have HC : Hid (val S1 = val X * pp ∧ val (trim S2) = val Y * pp ∧ (trim S2).length = m + 2 ∧ U32s (trim S2) ∧ val (trim S2) < 4294967296 ^ (m + 2) ∧ 0 < val (trim S2) ∧ 2147483648 ≤ (trim S2).getD (m + 1) 0 ∧ 1 ≤ pp ∧ n = K + (m + 1) ∧ (2 : Int) ^ s = pp ∧ S2.length = m + 3 ∧ sig S2 = m + 2 ∧ w.heap.size = b1) := ⟨by rw [vS1, hpp], hvD, lD, uD, hVlt, hV0, tS2, p1, hnK, hpp, lS2, sS2, hb1⟩
  rw [hb1, hb2, hb3]
  have HW : Hid (w.heap.size = b1) := hb1
  have HR : Hid (∃ A Q, Arr .u32 38 w4 b1 A ∧ Arr .u32 38 w4 b3 Q ∧ Arr .u32 38 w4 b2 S2 ∧ LI (val S1) (val (trim S2)) n m A Q (K - 0) ∧ Below w.heap.size w w4) := show ∃ _, _ from ⟨S1, _, hA1', hA4, hA2', by simpa using hLI, hBt⟩
  clear hb1 hb2 hb3 hA1 uS1 lS1 vS1 hA2 uS2 lS2 vS2 sS2 tS2 hA1' hA2' hBt hBt2 hnX hnK hpp p1 p3 hvD lD uD hVlt hV0 hLI H1 H2 hA4 hB1 hB2 hB4 HX
  go_loopw [34] (fun iv wr => ∃ k : Nat, iv = .int .i64 k ∧ k ≤ K ∧ Hid (∃ A Q, Arr .u32 38 wr b1 A ∧ Arr .u32 38 wr b3 Q ∧ Arr .u32 38 wr b2 S2 ∧ LI (val S1) (val (trim S2)) n m A Q (K - k) ∧ Below w.heap.size w wr)) (fun iv _ => K - (intOf iv).toNat)
  case atStart => exact ⟨0, rfl, Nat.zero_le _, HR.out⟩
  case round =>
    clear HR
    obtain ⟨k, rfl, hk, HR⟩ := hrel
    by_cases hlt : k < K
    · obtain ⟨i, hi⟩ : ∃ i, K - 1 - k = i := ⟨_, rfl⟩
      have hii : (K : Int) - 1 - k = i := by omega
      have hni : ¬ n + 1 = i := by have := HC.out.2.2.2.2.2.2.2.2.1; omega
      have hiK : i < K := by omega
      have hin : i + (m + 3) ≤ n + 1 := by have := HC.out.2.2.2.2.2.2.2.2.1; omega
      have hcall : Calls Tryz.prog 124 #[.slice (some ⟨b1, i, none⟩) (m + 3) (n + 1 - i), .slice (some ⟨b2, 0, none⟩) (m + 2) (m + 3)] wr fun e w' =>
          ∃ q z, e = .returned (.int .u32 q) ∧ w'.cell? ⟨b3, i, none⟩ = some (.int .u32 z) ∧ w'.frozen? ⟨b3, i, none⟩ = false ∧
            Hid (∃ A Q, Arr .u32 38 w' b1 A ∧ Arr .u32 38 w' b3 Q ∧ Arr .u32 38 w' b2 S2 ∧ LI (val S1) (val (trim S2)) n m A (Q.set i q) (K - (k + 1)) ∧ Below w.heap.size w w' ∧ i < Q.length) := by
        obtain ⟨c1, c2, c3, c4, c5, c6, c7, c8, c9, c10, c11, c12, c13⟩ := HC.out
        obtain ⟨A, Q, rA, rQ, rS, rL, rB⟩ := HR.out
        have hKi : K - k = i + 1 := by omega
        rw [hKi] at rL
        obtain ⟨lA, uA, uQ, lQ, _, _⟩ := id rL
        have hiQ : i < Q.length := by omega
        obtain ⟨s1, s2, s3⟩ := rL.seg hiQ c5
        have hRd : Rd .u32 wr b2 0 (trim S2) := by
          have := rS.rd 0 (m + 2) (by omega)
          rw [List.drop_zero] at this
          unfold trim; rw [c12]; exact this
        refine (divideStep_any A (trim S2) b1 i b2 0 (n + 1 - i) (m + 3) m wr rA uA hRd rS.lt (by omega) c4 c3 (by omega) (by omega) (by omega) (by omega) c7 s2).mono ?_
        rintro e w' ⟨Z, rfl, lZ, uZ, vZ, hA', hU'⟩
        have hQ' := hU'.arr rQ (by omega)
        refine ⟨_, _, rfl, hQ'.cell i hiQ, hQ'.frozen i, show ∃ _, _ from ⟨_, Q, hA', hQ', hU'.arr rS (by omega), ?_, hU'.below rB (by have := rA.lt; omega) (by omega), hiQ⟩⟩
        rw [show K - (k + 1) = i by omega]
        exact rL.step hiQ c6 c5 lZ uZ vZ
      have HI : Hid (K - 1 - k = i) := hi
      have hlen : i + (m + 2) + 1 - i = m + 3 := by omega
      clear hi HR
      go_wp2_with (go_at_call 124; refine hcall.mono ?_; rintro e w5 ⟨q, z, rfl, hc5, hf5, H5⟩)
      go_roundw
      case rel =>
        obtain ⟨A, Q, rA, rQ, rS, rL, rB, hiQ⟩ := H5.out
        have hb1 := HW.out
        exact ⟨k + 1, by go_num, by omega, show ∃ _, _ from ⟨A, Q.set i q, (Upd.set _ b3 i _).arr rA (by omega), rQ.set _ _, (Upd.set _ b3 i _).arr rS (by omega), rL, rB.setCell (p := ⟨b3, i, none⟩) (show w.heap.size ≤ b3 by omega) _⟩⟩
      case measure => simp [intOf]; omega
    · have hkK : k = K := by omega
      have hdn : ∃ A Q, Arr .u32 38 wr b1 A ∧ Arr .u32 38 wr b3 Q ∧ A.length = n + 1 ∧ Q.length = K ∧ U32s A ∧ U32s Q ∧ Below w.heap.size w wr ∧ val X / val Y = val Q ∧ val X % val Y = val A / 2 ^ s := by
        obtain ⟨c1, c2, c3, c4, c5, c6, c7, c8, c9, c10, c11, c12, c13⟩ := HC.out
        obtain ⟨A, Q, rA, rQ, rS, rL, rB⟩ := HR.out
        rw [hkK, Nat.sub_self] at rL
        obtain ⟨lA, uA, uQ, lQ, hT, hlt2⟩ := rL
        simp only [Int.pow_zero, Int.one_mul, Int.mul_one, List.drop_zero] at hT hlt2
        rw [c1, c2] at hT
        rw [c2] at hlt2
        obtain ⟨q1, q2⟩ := long_end hVy (by omega : 0 < pp) hT (val_nonneg uA) hlt2
        exact ⟨A, Q, rA, rQ, lA, by omega, uA, uQ, rB, q1, by rw [c10]; exact q2⟩
      obtain ⟨A, Q, rA, rQ, lA, lQ, uA, uQ, rB, q1, q2⟩ := hdn
      have hdown : Calls Tryz.prog 125 #[.slice (some ⟨b1, 0, none⟩) (n + 1) (n + 1), .int .i64 s] wr fun e w' => e = .returned (.tuple #[]) ∧ ∃ sq sr, (Calls Tryz.prog 77 #[.slice (some ⟨b3, 0, none⟩) K K] w' fun e w'' => e = .returned (.slice (some ⟨b3, 0, none⟩) sq K) ∧ w' = w'') ∧
          (Calls Tryz.prog 77 #[.slice (some ⟨b1, 0, none⟩) (n + 1) (n + 1)] w' fun e w'' => e = .returned (.slice (some ⟨b1, 0, none⟩) sr (n + 1)) ∧ w' = w'') ∧
          Hid (Own w.heap.size w' (.slice (some ⟨b3, 0, none⟩) sq K) (lim (val X / val Y).toNat) ∧ Own w.heap.size w' (.slice (some ⟨b1, 0, none⟩) sr (n + 1)) (lim (val X % val Y).toNat) ∧ Below w.heap.size w w') := by
        have h := shiftDown_any A s hs b1 (n + 1) wr rA uA (by omega)
        rw [lA] at h
        refine h.mono ?_
        rintro e w' ⟨S, rfl, rS, uS, lS, vS, hU⟩
        have hb1 := HW.out
        have rQ' := hU.arr rQ (by omega)
        have h1 := cut_any Q (some ⟨b3, 0, none⟩) Q.length w' rQ'.sl (by omega)
        have h2 := cut_any S (some ⟨b1, 0, none⟩) S.length w' rS.sl (by omega)
        have o1 := Own.cut (B := w.heap.size) rQ' uQ (by omega) (by omega)
        have o2 := Own.cut (B := w.heap.size) rS uS (by omega) (by omega)
        rw [lQ] at h1 o1
        rw [lS] at h2 o2
        rw [← q1] at o1
        rw [vS, ← q2] at o2
        exact ⟨rfl, sig Q, sig S, h1.mono fun e w'' h => ⟨h.1, h.2.symm⟩, h2.mono fun e w'' h => ⟨h.1, h.2.symm⟩, show _ ∧ _ from ⟨o1, o2, hU.below rB (by have := rA.lt; omega) (by omega)⟩⟩
      clear HR rA rQ lA lQ uA uQ rB q1 q2 hkK hk
      go_wp2_with (first
        | (go_at_call 125; refine hdown.mono ?_; rintro e w6 ⟨rfl, sq, sr, hcq, hcr, H6⟩)
        | (go_at_call 77; replace hcr2 := hcr2; refine hcr.mono ?_; rintro e w7 ⟨rfl, rfl⟩)
        | (go_at_call 77; refine hcq.mono ?_; rintro e w7 ⟨rfl, rfl⟩; have hcr2 : True := trivial))
      go_ret2
      obtain ⟨o1, o2, hB⟩ := H6.out
      exact ⟨⟨_, _, rfl, o1, o2⟩, hB⟩
end Go.Proofs.YtjmiaakfdclfjaaGreatDoor.Nt
/-
  The contracts of the exported functions, said of values; how the laws' arguments read.
-/
namespace Go.Proofs.YtjmiaakfdclfjaaGreatDoor.Nt
open Go.RowKit

theorem lim_fits {n : Int} {k : Nat} (h0 : 0 ≤ n) (h : n < 4294967296 ^ k) : (lim n.toNat).length ≤ k := lim_len_le (by rw [Int.toNat_of_nonneg h0]; exact h)
theorem val_limI {n : Int} (h0 : 0 ≤ n) : val (lim n.toNat) = n := by rw [val_lim, Int.toNat_of_nonneg h0]

/-! ### how an argument reads -/
def IsRow (k : IntKind) (w : World) (a : Option Addr) (len cap : Nat) (zs : List Int) : Prop :=
  (a = none ∧ len = 0 ∧ cap = 0 ∧ zs = []) ∨
  ∃ x, a = some x ∧ len ≤ cap ∧ cap ≤ maxLen ∧ zs.length = cap ∧ (∀ i, i < zs.length → w.cell? (x.add i) = some (.int k (zs.getD i 0))) ∧ ∀ n ∈ zs, (Lit.int k n).wf = true
theorem cell_spot {w : World} {x : Addr} {v : Value} (h : w.cell? x = some v) : x.spot = none ∧ x.block < w.heap.size := by
  unfold World.cell? at h
  split at h
  · rename_i c t f hh
    refine ⟨?_, (Array.getElem?_eq_some_iff.1 hh).1⟩
    by_cases hs : x.spot.isSome
    · simp [hs] at h
    · simpa using hs
  · cases h
theorem IsRow.sl {k : IntKind} {w : World} {a : Option Addr} {len cap : Nat} {zs : List Int} (h : IsRow k w a len cap zs) :
    ∃ X, X.length = len ∧ Sl k w (.slice a len cap) X ∧ ∀ n ∈ X, (Lit.int k n).wf = true := by
  rcases h with ⟨rfl, rfl, rfl, rfl⟩ | ⟨x, rfl, hl, hm, hz, hc, hw⟩
  · exact ⟨[], rfl, ⟨none, 0, rfl, Nat.le_refl _, .inl rfl⟩, by simp⟩
  · refine ⟨zs.take len, by simp; omega, ⟨some x, cap, by simp; omega, by simp; omega, ?_⟩, fun n hn => hw n (List.mem_of_mem_take hn)⟩
    by_cases h0 : len = 0
    · subst h0; exact .inl (by simp)
    · right
      obtain ⟨b, off, sp⟩ := x
      have h1 := cell_spot (hc 0 (by omega))
      have hsp : sp = none := by
        have := h1.1
        cases sp with
        | none => rfl
        | some s => simp [Addr.add] at this
      subst hsp
      have hb : b < w.heap.size := by have := h1.2; simpa [Addr.add] using this
      refine ⟨b, off, rfl, hb, fun i hi => ?_⟩
      simp at hi
      have := hc i (by omega)
      have hadd : (⟨b, off, none⟩ : Addr).add i = ⟨b, off + i, none⟩ := by simp [Addr.add]
      rw [hadd] at this
      rw [this]
      simp [show i < len by omega]
theorem IsRow.sl8 {w : World} {a : Option Addr} {len cap : Nat} {zs : List Int} (h : IsRow .u8 w a len cap zs) : ∃ X, X.length = len ∧ Sl .u8 w (.slice a len cap) X ∧ U8s X := by
  obtain ⟨X, h1, h2, h3⟩ := h.sl
  exact ⟨X, h1, h2, fun n hn => by have := bounds_u8 (h3 n hn); exact ⟨this.1, by omega⟩⟩
end Go.Proofs.YtjmiaakfdclfjaaGreatDoor.Nt
