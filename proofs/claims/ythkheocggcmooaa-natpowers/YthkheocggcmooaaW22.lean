/-
  The walk of divideLong: the long division keeps its promise.
-/
import Derived.Test.YthkheocggcmooaaW21
namespace Go.Proofs.Ythkheocggcmooaa
open Go.RowKit

set_option maxHeartbeats 400000 in
theorem Lead_any (x : Int) (hx : U32 x) (hx0 : x ≠ 0) (w : World) :
    Calls Try.prog 74 #[.int .u32 x] w fun e w' => ∃ s : Nat, e = .returned (.int .i64 s) ∧ s < 32 ∧ 2147483648 ≤ x * 2 ^ s ∧ x * 2 ^ s < 4294967296 ∧ w = w' := by
  have hl := Len32_any x hx w
  obtain ⟨x0, x1⟩ := hx
  obtain ⟨bl, hbl⟩ : ∃ bl, bitLen x.toNat = bl := ⟨_, rfl⟩
  have h32 : bl ≤ 32 := by rw [← hbl]; exact bitLen_lt (by omega)
  have hsp := bitLen_spec x.toNat
  rw [hbl] at hsp hl
  have hb1 : 1 ≤ bl := by
    apply Classical.byContradiction; intro h
    have : bl = 0 := by omega
    rw [this] at hsp; simp at hsp; omega
  have HS : Hid (x.toNat < 2 ^ bl ∧ 2 ^ (bl - 1) ≤ x.toNat) := ⟨hsp.1, hsp.2 (by omega)⟩
  clear hsp hbl
  go_enter Try.func74, Try.ntmps74
  go_wp2_with (go_at_call 53; refine hl.mono ?_; rintro e w' ⟨rfl, rfl⟩)
  go_ret
  obtain ⟨n, hn⟩ := Int.eq_ofNat_of_zero_le x0
  subst hn
  obtain ⟨h1, h2⟩ := HS.out
  simp only [Int.toNat_natCast] at h1 h2
  have e1 : n * 2 ^ (32 - bl) < 2 ^ 32 := by
    have := Nat.mul_lt_mul_of_pos_right h1 (Nat.two_pow_pos (32 - bl))
    rw [← Nat.pow_add, show bl + (32 - bl) = 32 by omega] at this; exact this
  have e2 : 2 ^ 31 ≤ n * 2 ^ (32 - bl) := by
    have := Nat.mul_le_mul_right (2 ^ (32 - bl)) h2
    rw [← Nat.pow_add, show bl - 1 + (32 - bl) = 31 by omega] at this; exact this
  refine ⟨32 - bl, ?_, by omega, ?_, ?_, rfl⟩
  · exact ret_int (by omega)
  · have e3 : ((n * 2 ^ (32 - bl) : Nat) : Int) = (n : Int) * 2 ^ (32 - bl) := by simp
    rw [← e3]; omega
  · have e3 : ((n * 2 ^ (32 - bl) : Nat) : Int) = (n : Int) * 2 ^ (32 - bl) := by simp
    rw [← e3]; omega

/-- What the shifted divisor is. -/
theorem norm_div {Y S : List Int} {m s : Nat} (uY : U32s Y) (lY : Y.length = m + 2) (uS : U32s S) (lS : S.length = m + 3) (hv : val S = val Y * 2 ^ s) (hp : (1 : Int) ≤ 2 ^ s) (h1 : 2147483648 ≤ Y.getD (m + 1) 0 * 2 ^ s) (h2 : Y.getD (m + 1) 0 * 2 ^ s < 4294967296) :
    sig S = m + 2 ∧ 2147483648 ≤ (trim S).getD (m + 1) 0 := by
  have sY := val_split Y (m + 1) (by omega)
  have dY : Y.drop (m + 1) = [Y.getD (m + 1) 0] := by
    rw [List.drop_eq_getElem_cons (by omega), List.drop_of_length_le (by omega)]; simp [show m + 1 < Y.length by omega]
  rw [dY] at sY
  simp only [val] at sY
  have y0 := val_nonneg (uY.take (m + 1)); have y1 := val_lt (uY.take (m + 1))
  rw [List.length_take, Nat.min_eq_left (by omega)] at y1
  obtain ⟨y, hy⟩ : ∃ y, Y.getD (m + 1) 0 = y := ⟨_, rfl⟩
  obtain ⟨p, hpp⟩ : ∃ p : Int, 2 ^ s = p := ⟨_, rfl⟩
  obtain ⟨P, hP⟩ : ∃ P : Int, 4294967296 ^ (m + 1) = P := ⟨_, rfl⟩
  have hP0 : 0 < P := by rw [← hP]; exact pow_pos32 _
  obtain ⟨a, ha⟩ : ∃ a, val (Y.take (m + 1)) = a := ⟨_, rfl⟩
  rw [hy, hpp] at h1 h2
  rw [hpp] at hv hp
  rw [hy, hP, ha] at sY
  rw [ha] at y0 y1
  rw [hP] at y1
  have hyp : y + 1 ≤ 4294967296 := by have := uY.at (m + 1); rw [hy] at this; have := this.2; omega
  -- val S = a p + P (y p), below P B
  have hvS : val S = a * p + P * (y * p) := by rw [hv, sY]; grind
  have hap : 0 ≤ a * p := Int.mul_nonneg y0 (by omega)
  have hlow : P * 2147483648 ≤ P * (y * p) := Int.mul_le_mul_of_nonneg_left h1 (by omega)
  -- (y+1) p ≤ B
  have hdv : (y + 1) * p ≤ 4294967296 := by
    -- p divides B
    have hs32 : s < 32 := by
      apply Classical.byContradiction; intro h
      have h3 : (2 : Int) ^ 32 ≤ 2 ^ s := by exact_mod_cast Nat.pow_le_pow_right (n := 2) (by decide) (show 32 ≤ s by omega)
      rw [hpp] at h3
      have hy1 : 1 ≤ y := by
        apply Classical.byContradiction; intro h4
        have h5 : y * p ≤ 0 * p := Int.mul_le_mul_of_nonneg_right (by omega) (by omega)
        rw [Int.zero_mul] at h5; omega
      have : 1 * p ≤ y * p := Int.mul_le_mul_of_nonneg_right hy1 (by omega)
      omega
    have hB : (4294967296 : Int) = 2 ^ (32 - s) * p := by
      rw [← hpp, ← Int.pow_add, show 32 - s + s = 32 by omega]; rfl
    rw [hB] at h2 ⊢
    have : y < 2 ^ (32 - s) := Int.lt_of_mul_lt_mul_right h2 (by omega)
    exact Int.mul_le_mul_of_nonneg_right (by omega) (by omega)
  have hup : val S < P * 4294967296 := by
    have h3 : a * p < P * p := Int.mul_lt_mul_of_pos_right y1 (by omega)
    have h4 : P * ((y + 1) * p) ≤ P * 4294967296 := Int.mul_le_mul_of_nonneg_left hdv (by omega)
    have h5 : P * ((y + 1) * p) = P * (y * p) + P * p := by grind
    omega
  have hPB : (4294967296 : Int) ^ (m + 2) = P * 4294967296 := by rw [pow_succ32, hP, Int.mul_comm]
  have g1 := getD_div S (m + 2) uS
  have g2 := getD_div S (m + 1) uS
  have hSn := val_nonneg uS
  obtain ⟨n, hn⟩ := Int.eq_ofNat_of_zero_le hSn
  have q2 : S.getD (m + 2) 0 = 0 := by
    have h3 := uS.at (m + 2)
    have : (val S).toNat / 2 ^ (32 * (m + 2)) = 0 := by
      apply Nat.div_eq_of_lt
      rw [← hPB, pow32, hn] at hup
      rw [hn, Int.toNat_natCast]; exact Int.ofNat_lt.1 hup
    rw [this, Nat.zero_mod] at g1
    have h4 := h3.1; omega
  have q1 : 2147483648 ≤ S.getD (m + 1) 0 := by
    have h3 := uS.at (m + 1)
    have h4 : 2147483648 ≤ (val S).toNat / 2 ^ (32 * (m + 1)) := by
      rw [Nat.le_div_iff_mul_le (Nat.two_pow_pos _)]
      have h5 : P * 2147483648 ≤ val S := by omega
      rw [← hP, pow32, hn] at h5
      have h7 : ((2 ^ (32 * (m + 1)) * 2147483648 : Nat) : Int) ≤ (n : Int) := by rw [Int.natCast_mul]; exact h5
      rw [hn, Int.toNat_natCast, Nat.mul_comm]; exact Int.ofNat_le.1 h7
    have h6 : (val S).toNat / 2 ^ (32 * (m + 1)) < 4294967296 := by
      rw [Nat.div_lt_iff_lt_mul (Nat.two_pow_pos _)]
      rw [← hP, pow32, hn] at hup
      have h7 : (n : Int) < ((2 ^ (32 * (m + 1)) * 4294967296 : Nat) : Int) := by rw [Int.natCast_mul]; exact hup
      rw [hn, Int.toNat_natCast, Nat.mul_comm]; exact Int.ofNat_lt.1 h7
    rw [Nat.mod_eq_of_lt h6] at g2
    omega
  have hsg : sig S = m + 2 := by
    refine sig_eq (by omega) (fun j h3 h4 => ?_) (.inr ?_)
    · have : j = m + 2 := by omega
      subst this; exact q2
    · simp only [show m + 2 - 1 = m + 1 from rfl]; omega
  refine ⟨hsg, ?_⟩
  unfold trim
  rw [hsg, List.getD_eq_getElem?_getD, List.getElem?_take, if_pos (by omega), ← List.getD_eq_getElem?_getD]; exact q1

/-- What stands between two rounds of the long division. -/
def LI (T V : Int) (n m : Nat) (A Q : List Int) (i : Nat) : Prop :=
  A.length = n + 1 ∧ U32s A ∧ U32s Q ∧ Q.length + (m + 1) = n ∧ T = V * (4294967296 ^ i * val (Q.drop i)) + val A ∧ val A < V * 4294967296 ^ i
theorem LI.seg {T V : Int} {n m i : Nat} {A Q : List Int} (h : LI T V n m A Q (i + 1)) (hi : i < Q.length) (hV : V < 4294967296 ^ (m + 2)) :
    val A = val (A.take i) + 4294967296 ^ i * val ((A.drop i).take (m + 3)) ∧ val ((A.drop i).take (m + 3)) < V * 4294967296 ∧ val (A.drop (i + (m + 3))) = 0 := by
  obtain ⟨lA, uA, uQ, lQ, hT, hlt⟩ := h
  have s1 := val_split A i (by omega)
  have s2 := val_split (A.drop i) (m + 3) (by simp; omega)
  rw [List.drop_drop] at s2
  have n1 := val_nonneg (uA.take i); have n2 := val_nonneg ((uA.drop i).take (m + 3)); have n3 := val_nonneg (uA.drop (i + (m + 3)))
  have hPi := pow_pos32 i; have hPm := pow_pos32 (m + 3)
  have hz : val (A.drop (i + (m + 3))) = 0 := by
    apply Classical.byContradiction; intro h
    have h1 : 4294967296 ^ (m + 3) * 1 ≤ 4294967296 ^ (m + 3) * val (A.drop (i + (m + 3))) := Int.mul_le_mul_of_nonneg_left (by omega) (by omega)
    have h2 : 4294967296 ^ i * 4294967296 ^ (m + 3) ≤ 4294967296 ^ i * val (A.drop i) := Int.mul_le_mul_of_nonneg_left (by omega) (by omega)
    have h3 : V * 4294967296 ^ (i + 1) ≤ 4294967296 ^ (m + 2) * 4294967296 ^ (i + 1) := Int.mul_le_mul_of_nonneg_right (by omega) (Int.le_of_lt (pow_pos32 _))
    have h4 : (4294967296 : Int) ^ (m + 2) * 4294967296 ^ (i + 1) = 4294967296 ^ i * 4294967296 ^ (m + 3) := by rw [← Int.pow_add, ← Int.pow_add]; congr 1; omega
    omega
  rw [hz, Int.mul_zero, Int.add_zero] at s2
  rw [s2] at s1
  refine ⟨s1, ?_, hz⟩
  apply Classical.byContradiction; intro h
  have h1 : 4294967296 ^ i * (V * 4294967296) ≤ 4294967296 ^ i * val ((A.drop i).take (m + 3)) := Int.mul_le_mul_of_nonneg_left (by omega) (by omega)
  have h2 : V * 4294967296 ^ (i + 1) = 4294967296 ^ i * (V * 4294967296) := by rw [pow_succ32]; grind
  omega
theorem LI.step {T V : Int} {n m i : Nat} {A Q Z : List Int} (h : LI T V n m A Q (i + 1)) (hi : i < Q.length) (hV0 : 0 < V) (hV : V < 4294967296 ^ (m + 2)) (lZ : Z.length = m + 3) (uZ : U32s Z) (hZ : val Z = val ((A.drop i).take (m + 3)) % V) :
    LI T V n m (A.take i ++ Z ++ A.drop (i + Z.length)) (Q.set i (val ((A.drop i).take (m + 3)) / V)) i := by
  obtain ⟨s1, s2, s3⟩ := h.seg hi hV
  obtain ⟨lA, uA, uQ, lQ, hT, hlt⟩ := h
  obtain ⟨U, hU⟩ : ∃ U, val ((A.drop i).take (m + 3)) = U := ⟨_, rfl⟩
  have hU0 : 0 ≤ U := by rw [← hU]; exact val_nonneg ((uA.drop i).take (m + 3))
  rw [hU] at s1 s2 hZ ⊢
  have hq0 : 0 ≤ U / V := Int.ediv_nonneg hU0 (by omega)
  have hq1 : U / V < 4294967296 := Int.ediv_lt_of_lt_mul hV0 (by rw [Int.mul_comm]; exact s2)
  have hr0 := Int.emod_nonneg U (b := V) (by omega); have hr1 := Int.emod_lt_of_pos U hV0
  have hdm := Int.mul_ediv_add_emod U V
  have hm := mid_val (S := A) (Z := Z) (i := i) (by omega)
  rw [lZ, hU, hZ] at hm
  have hPi := pow_pos32 i
  have n1 := val_lt (uA.take i)
  rw [List.length_take, Nat.min_eq_left (by omega)] at n1
  rw [lZ]
  refine ⟨by have := mid_len A Z i (by omega); rw [lZ] at this; omega, by have := mid_u32 (i := i) uA uZ; rw [lZ] at this; exact this, uQ.set _ ⟨hq0, hq1⟩, by simpa using lQ, ?_, ?_⟩
  · rw [drop_set_self hi, hm]
    simp only [val]
    rw [pow_succ32] at hT
    have e : 4294967296 ^ i * (U % V - U) = -(4294967296 ^ i * (V * (U / V))) := by
      have : U % V - U = -(V * (U / V)) := by omega
      rw [this, Int.mul_neg]
    rw [e, hT]; grind
  · rw [hm, s1]
    have e : 4294967296 ^ i * (U % V - U) = 4294967296 ^ i * (U % V) - 4294967296 ^ i * U := Int.mul_sub _ _ _
    have h2 : 4294967296 ^ i * (U % V) ≤ 4294967296 ^ i * (V - 1) := Int.mul_le_mul_of_nonneg_left (by omega) (by omega)
    have h3 : 4294967296 ^ i * (V - 1) = V * 4294967296 ^ i - 4294967296 ^ i := by rw [Int.mul_sub, Int.mul_one, Int.mul_comm]
    omega
end Go.Proofs.Ythkheocggcmooaa
