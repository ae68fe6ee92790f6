/-
  The walk of divideStep.
-/
import Derived.Test.YthkheocggcmooaaW20
import Derived.Deep.CutRange
namespace Go.Proofs.Ythkheocggcmooaa
open Go.RowKit

/-- The highest limbs of a list, and the rest. -/
theorem val_split (X : List Int) (m : Nat) (h : m ≤ X.length) : val X = val (X.take m) + 4294967296 ^ m * val (X.drop m) := by
  conv => lhs; rw [← List.take_append_drop m X]
  rw [val_append, List.length_take, Nat.min_eq_left h]
theorem drop2 {X : List Int} {m : Nat} (h : X.length = m + 2) : X.drop m = [X.getD m 0, X.getD (m + 1) 0] := by
  rw [List.drop_eq_getElem_cons (by omega), List.drop_eq_getElem_cons (by omega), List.drop_of_length_le (by omega)]
  simp [show m < X.length by omega, show m + 1 < X.length by omega]
theorem drop3 {X : List Int} {m : Nat} (h : X.length = m + 3) : X.drop m = [X.getD m 0, X.getD (m + 1) 0, X.getD (m + 2) 0] := by
  rw [List.drop_eq_getElem_cons (by omega), List.drop_eq_getElem_cons (by omega), List.drop_eq_getElem_cons (by omega), List.drop_of_length_le (by omega)]
  simp [show m < X.length by omega, show m + 1 < X.length by omega, show m + 2 < X.length by omega]

/-- The guess is the quotient, or one too great. -/
theorem guess_near {u v P U3 V2 U V t d1 d0 : Int} (hP : 0 < P) (hu0 : 0 ≤ u) (hu : u < P) (hv0 : 0 ≤ v) (hv : v < P) (hU : U = u + P * U3) (hV : V = v + P * V2) (hUV : U < V * 4294967296) (hg : Guess U3 V2 t) (hd : V2 = d1 * 4294967296 + d0) (h1 : 1 ≤ d1) (h0 : 0 ≤ d0) :
    U < (t + 1) * V ∧ t * V < U + V := by
  obtain ⟨t0, t1, t2, t3⟩ := hg
  have hV2 : 4294967296 ≤ V2 := by omega
  have hPV : P * 4294967296 ≤ P * V2 := Int.mul_le_mul_of_nonneg_left hV2 (by omega)
  constructor
  · rcases t3 with h | h
    · have h2 : P * (U3 + 1) ≤ P * ((t + 1) * V2) := Int.mul_le_mul_of_nonneg_left (by omega) (by omega)
      have h3 : 0 ≤ (t + 1) * v := Int.mul_nonneg (by omega) hv0
      have h4 : (t + 1) * V = (t + 1) * v + P * ((t + 1) * V2) := by rw [hV]; grind
      have h5 : P * (U3 + 1) = P * U3 + P := by rw [Int.mul_add, Int.mul_one]
      omega
    · subst h; have : (4294967295 + 1 : Int) * V = V * 4294967296 := by rw [Int.mul_comm]; rfl
      omega
  · have h2 : P * (t * V2) ≤ P * U3 := Int.mul_le_mul_of_nonneg_left t2 (by omega)
    have h3 : t * V = t * v + P * (t * V2) := by rw [hV]; grind
    have h4 : t * v ≤ t * P := Int.mul_le_mul_of_nonneg_left (by omega) t0
    have h5 : t * P ≤ 4294967295 * P := Int.mul_le_mul_of_nonneg_right (by omega) (by omega)
    omega
theorem top_le {u v P U3 V2 U V T l0 : Int} (hP : 0 < P) (hu0 : 0 ≤ u) (hv : v < P) (hU : U = u + P * U3) (hV : V = v + P * V2) (hUV : U < V * 4294967296) (hT : U3 = T * 4294967296 + l0) (hl : 0 ≤ l0) : T ≤ V2 := by
  apply Classical.byContradiction; intro h
  have h1 : P * (V2 + 1) ≤ P * T := Int.mul_le_mul_of_nonneg_left (by omega) (by omega)
  have h2 : P * (V2 + 1) = P * V2 + P := by rw [Int.mul_add, Int.mul_one]
  have h3 : P * U3 = P * T * 4294967296 + P * l0 := by rw [hT]; grind
  have h4 : 0 ≤ P * l0 := Int.mul_nonneg (by omega) hl
  omega
theorem step_low {U V t R : Int} (hV : 0 < V) (hR : R = U - t * V) (h0 : 0 ≤ R) (h1 : R < V) : U / V = t ∧ U % V = R := by
  have e : U = R + t * V := by omega
  constructor
  · rw [e, Int.add_mul_ediv_right _ _ (by omega), Int.ediv_eq_zero_of_lt h0 h1]; omega
  · rw [e, Int.add_mul_emod_self_right, Int.emod_eq_of_lt h0 h1]
/-- What is still to be taken is given back once: the highest limb is 0 then. -/
theorem give_back {z P k W : Int} (z0 : 0 ≤ z) (z1 : z < P) (hW : W = z + P * k) (w0 : 0 ≤ W) (w1 : W < P) : k = 0 := by
  have hP : 0 < P := by omega
  apply Classical.byContradiction; intro h
  rcases Int.lt_or_gt_of_ne h with h | h
  · have : P * k ≤ P * (-1) := Int.mul_le_mul_of_nonneg_left (by omega) (by omega)
    omega
  · have : P * 1 ≤ P * k := Int.mul_le_mul_of_nonneg_left (by omega) (by omega)
    omega

theorem last_set (A Z : List Int) (x : Int) (m : Nat) {i : Nat} {R : List Int} (hi : i ≤ A.length) (hZ : Z.length = m + 2) : (A.take i ++ (Z ++ [x]) ++ R).set (i + (m + 2)) 0 = A.take i ++ (Z ++ [0]) ++ R := by
  have h1 : (A.take i).length = i := by simp; omega
  rw [List.append_assoc, List.set_append_right _ _ (by omega), h1, Nat.add_sub_cancel_left, List.append_assoc, List.set_append_right _ _ (by omega), hZ, Nat.sub_self]
  simp

set_option maxHeartbeats 4000000 in
theorem divideStep_any (A D : List Int) (ba i bd od c c' m : Nat) (w : World) (hA : Arr .u32 53 w ba A) (huA : U32s A) (hD : Rd .u32 w bd od D) (hbd : bd < w.heap.size) (hne : bd ≠ ba) (uD : U32s D) (lD : D.length = m + 2) (hfit : i + (m + 3) ≤ A.length) (hc : m + 3 ≤ c) (hc' : m + 2 ≤ c')
    (lm : m ≤ 1073741824) (hd1 : 2147483648 ≤ D.getD (m + 1) 0) (hUV : val ((A.drop i).take (m + 3)) < val D * 4294967296) :
    Calls Try.prog 76 #[.slice (some ⟨ba, i, none⟩) (m + 3) c, .slice (some ⟨bd, od, none⟩) (m + 2) c'] w fun e w' =>
      ∃ Z, e = .returned (.int .u32 (val ((A.drop i).take (m + 3)) / val D)) ∧ Z.length = m + 3 ∧ U32s Z ∧ val Z = val ((A.drop i).take (m + 3)) % val D ∧ Arr .u32 53 w' ba (A.take i ++ Z ++ A.drop (i + Z.length)) ∧ Upd w w' ba := by
  obtain ⟨X, hX⟩ : ∃ X, (A.drop i).take (m + 3) = X := ⟨_, rfl⟩
  have lX : X.length = m + 3 := by rw [← hX]; simp; omega
  have uX : U32s X := by rw [← hX]; exact (huA.drop i).take _
  have gX : ∀ j, j < m + 3 → X.getD j 0 = A.getD (i + j) 0 := by
    intro j hj; rw [← hX, List.getD_eq_getElem?_getD, List.getElem?_take, if_pos hj, List.getElem?_drop, ← List.getD_eq_getElem?_getD]
  rw [hX] at hUV ⊢
  obtain ⟨l0, h0⟩ : ∃ l, X.getD m 0 = l := ⟨_, rfl⟩
  obtain ⟨l1, h1⟩ : ∃ l, X.getD (m + 1) 0 = l := ⟨_, rfl⟩
  obtain ⟨l2, h2⟩ : ∃ l, X.getD (m + 2) 0 = l := ⟨_, rfl⟩
  obtain ⟨d0, g0⟩ : ∃ l, D.getD m 0 = l := ⟨_, rfl⟩
  obtain ⟨d1, g1⟩ : ∃ l, D.getD (m + 1) 0 = l := ⟨_, rfl⟩
  have k0 : U32 l0 := h0 ▸ uX.at m
  have k1 : U32 l1 := h1 ▸ uX.at _
  have k2 : U32 l2 := h2 ▸ uX.at _
  have j0 : U32 d0 := g0 ▸ uD.at m
  have j1 : U32 d1 := g1 ▸ uD.at _
  rw [g1] at hd1
  have ca : ∀ j, j < m + 3 → w.cell? ⟨ba, i + j, none⟩ = some (.int .u32 (X.getD j 0)) := by
    intro j hj; rw [gX j hj]; exact hA.cell _ (by omega)
  have ca0 := ca m (by omega); rw [h0] at ca0
  have ca1 := ca (m + 1) (by omega); rw [h1, ← Nat.add_assoc] at ca1
  have ca2 := ca (m + 2) (by omega); rw [h2, ← Nat.add_assoc] at ca2
  have cd0 := hD m (by omega); rw [g0] at cd0
  have cd1 := hD (m + 1) (by omega); rw [g1, ← Nat.add_assoc] at cd1
  have hP := pow_pos32 m
  have sU := val_split X m (by omega)
  have sV := val_split D m (by omega)
  rw [drop3 lX, h0, h1, h2] at sU
  rw [drop2 lD, g0, g1] at sV
  have eU : val [l0, l1, l2] = (l2 * 4294967296 + l1) * 4294967296 + l0 := by simp only [val]; omega
  have eV : val [d0, d1] = d1 * 4294967296 + d0 := by simp only [val]; omega
  rw [eU] at sU
  rw [eV] at sV
  have u0 := val_nonneg (uX.take m); have u1 := val_lt (uX.take m)
  have v0 := val_nonneg (uD.take m); have v1 := val_lt (uD.take m)
  rw [List.length_take, Nat.min_eq_left (by omega)] at u1 v1
  have htop := top_le hP u0 v1 sU sV hUV rfl k0.1
  have hnear := fun t (hg : Guess ((l2 * 4294967296 + l1) * 4294967296 + l0) (d1 * 4294967296 + d0) t) => guess_near hP u0 u1 v0 v1 sU sV hUV hg rfl (by omega) j0.1
  have hVpos : 0 < val D := by
    have := Int.mul_nonneg (Int.le_of_lt hP) (show 0 ≤ d1 * 4294967296 + d0 - 1 by have := j0.1; omega)
    rw [Int.mul_sub, Int.mul_one] at this; omega
  have hVlt := val_lt uD
  rw [lD] at hVlt
  have hguess := fun (q : Nat) => guess_any l0 l1 l2 d0 d1 ba (i + m) bd (od + m) (c - m) (c' - m) (w.drewN q) k0 k1 k2 j0 j1 hd1 htop ca0 ca1 ca2 cd0 cd1
  -- the low limbs, and the highest
  have sU2 := val_split X (m + 2) (by omega)
  have e2 : X.drop (m + 2) = [l2] := by
    rw [List.drop_eq_getElem_cons (by omega), List.drop_of_length_le (by omega)]
    simp [← h2, show m + 2 < X.length by omega]
  rw [e2] at sU2
  have e3 : val [l2] = l2 := by simp [val]
  rw [e3] at sU2
  have hXt : ((A.drop i).take (m + 2)) = X.take (m + 2) := by rw [← hX, List.take_take, Nat.min_eq_left (by omega)]
  have hslD : ∀ q, Sl .u32 (w.drewN q) (.slice (some ⟨bd, od, none⟩) (m + 2) c') D := fun q => ⟨_, _, by rw [lD], by omega, .inr ⟨bd, od, rfl, hbd, hD⟩⟩
  have htake := fun (q : Nat) (t : Int) (ut : U32 t) => takeTimes_any A D t ba i (m + 3) c (.slice (some ⟨bd, od, none⟩) (m + 2) c') (w.drewN q) hA huA ut uD (hslD q) (by intro b o n' c'' _ h; cases h; exact hne) (by omega) (by omega) (by omega)
  rw [lD] at htake
  have htake2 : ∀ (q : Nat) (t : Int), U32 t → Calls Try.prog 67 #[.slice (some ⟨ba, i, none⟩) (m + 3) c, .slice (some ⟨bd, od, none⟩) (m + 2) c', .int .u32 t] (w.drewN q) fun e w' =>
      ∃ Z1 carry, e = .returned (.int .u32 carry) ∧ 0 ≤ carry ∧ carry < 4294967296 ∧ w'.cell? ⟨ba, i + (m + 2), none⟩ = some (.int .u32 l2) ∧ w'.frozen? ⟨ba, i + (m + 2), none⟩ = false ∧
        Hid (Z1.length = m + 2 ∧ U32s Z1 ∧ Arr .u32 53 w' ba (A.take i ++ Z1 ++ A.drop (i + Z1.length)) ∧ Upd w w' ba ∧ val Z1 + t * val D = val (X.take (m + 2)) + 4294967296 ^ (m + 2) * carry) := by
    intro q t ut
    refine (htake q t ut).mono ?_
    rintro e w' ⟨Z1, carry, rfl, hcr, uZ, lZ, hA', hU', heq⟩
    have hl2 : (A.take i ++ Z1 ++ A.drop (i + Z1.length)).getD (i + (m + 2)) 0 = l2 := by rw [← lZ, mid_get, lZ, ← gX (m + 2) (by omega), h2]
    rw [hXt] at heq
    exact ⟨Z1, carry, rfl, hcr.1, hcr.2, by rw [hA'.cell _ (by rw [mid_len _ _ _ (by omega)]; omega), hl2], hA'.frozen _, show _ ∧ _ from ⟨lZ, uZ, hA', (Upd.drewN (Upd.refl w ba) q).trans hU', heq⟩⟩
  have HH : Hid ((A.drop i).take (m + 3) = X ∧ val X = val (X.take (m + 2)) + 4294967296 ^ (m + 2) * l2) := ⟨hX, sU2⟩
  have hcm : ¬ c = m := by omega
  have hwm : IntKind.i64.wrap (m : Int) = m := by rw [IntKind.wrap_i64]; omega
  have hcm' : ¬ c' = m := by omega
  clear sU sV u0 u1 v0 v1 hX gX ca eU eV e2 e3 hP htake sU2 hXt hslD
  go_enter Try.func76, Try.ntmps76
  go_upto_region 2 with (fail)
  go_cut [6] from 9 (fun s6 wc => ∃ t q, s6 = .int .u32 t ∧ Guess ((l2 * 4294967296 + l1) * 4294967296 + l0) (d1 * 4294967296 + d0) t ∧ wc = w.drewN q)
  case first =>
    go_region_with (go_at_call 78; refine (hguess _).mono ?_; rintro e w2 ⟨t, rfl, hg, n2, rfl⟩)
    all_goals
      go_wp2_with fail
      go_meet
      case rel => exact ⟨t, _, rfl, hg, rfl⟩
  case rest =>
    obtain ⟨t, q, rfl, hg, rfl⟩ := hcut
    obtain ⟨n1, n2⟩ := hnear t hg
    obtain ⟨t0, t1, _, _⟩ := hg
    have hcall := htake2 q t ⟨t0, t1⟩
    have HN : Hid (val X < (t + 1) * val D ∧ t * val D < val X + val D) := ⟨n1, n2⟩
    clear n1 n2 hnear hguess htake2 ca0 ca1 ca2 cd0 cd1 htop
    go_wp2_with fail
    refine hcall.mono ?_
    rintro e w3 ⟨Z1, carry, rfl, cr0, cr1, hc3, hf3, HZ⟩
    obtain ⟨f0, f1⟩ := k2
    clear hcall
    by_cases hbl : l2 < carry
    · have hw : IntKind.u32.wrap (l2 - carry) = l2 - carry + 4294967296 := by rw [IntKind.wrap_u32]; omega
      have hadd : ∀ q2, Calls Try.prog 65 #[.slice (some ⟨ba, i, none⟩) (m + 3) c, .slice (some ⟨bd, od, none⟩) (m + 2) c', .int .u32 1] ((w3.setCell ⟨ba, i + (m + 2), none⟩ (.int .u32 (l2 - carry + 4294967296))).drewN q2) fun e w' =>
          e = .returned (.int .u32 (carry - l2)) ∧ w'.cell? ⟨ba, i + (m + 2), none⟩ = some (.int .u32 (l2 - carry + 4294967296)) ∧ w'.frozen? ⟨ba, i + (m + 2), none⟩ = false ∧
            Hid (∃ Z2, Z2.length = m + 2 ∧ U32s Z2 ∧ Arr .u32 53 w' ba (A.take i ++ (Z2 ++ [l2 - carry + 4294967296]) ++ A.drop (i + (m + 3))) ∧ Upd w w' ba ∧ val Z2 = val X - (t - 1) * val D ∧ val Z2 < val D) := by
        intro q2
        obtain ⟨lZ, uZ, hA3, hU3, heq⟩ := HZ.out
        have hA4 := hA3.set (i + (m + 2)) (l2 - carry + 4294967296)
        have hZl : i + (m + 2) = i + Z1.length := by omega
        rw [hZl, mid_set _ _ _ _ (by omega), ← hZl] at hA4
        have hlen4 : (Z1 ++ [l2 - carry + 4294967296]).length = m + 3 := by simp; omega
        rw [hlen4] at hA4
        obtain ⟨A4, hA4e⟩ : ∃ A4, A.take i ++ (Z1 ++ [l2 - carry + 4294967296]) ++ A.drop (i + (m + 3)) = A4 := ⟨_, rfl⟩
        have ul : U32 (l2 - carry + 4294967296) := ⟨by omega, by omega⟩
        have uA4 : U32s A4 := by rw [← hA4e]; exact ((huA.take i).append (uZ.append (U32s.cons ul U32s.nil))).append (huA.drop _)
        have lA4 : A4.length = A.length := by rw [← hA4e]; simp; omega
        have tA4 : A4.take i = A.take i := by rw [← hA4e, List.append_assoc, List.take_append_of_le_length (by simp; omega), List.take_take, Nat.min_self]
        have dA4 : A4.drop i = Z1 ++ ([l2 - carry + 4294967296] ++ A.drop (i + (m + 3))) := by
          rw [← hA4e, List.append_assoc, List.drop_append_of_le_length (by simp; omega), List.drop_of_length_le (by simp; omega)]; simp
        have sA4 : (A4.drop i).take (m + 2) = Z1 := by rw [dA4, ← lZ, List.take_left]
        have dA5 : A4.drop (i + (m + 2)) = [l2 - carry + 4294967296] ++ A.drop (i + (m + 3)) := by rw [← List.drop_drop, dA4, ← lZ, List.drop_left]
        rw [hA4e] at hA4
        have hU4 : Upd w ((w3.setCell ⟨ba, i + (m + 2), none⟩ (.int .u32 (l2 - carry + 4294967296))).drewN q2) ba := (hU3.trans (Upd.set _ _ _ _)).drewN q2
        have hslD : Sl .u32 ((w3.setCell ⟨ba, i + (m + 2), none⟩ (.int .u32 (l2 - carry + 4294967296))).drewN q2) (.slice (some ⟨bd, od, none⟩) (m + 2) c') D :=
          ⟨_, _, by rw [lD], by omega, .inr ⟨bd, od, rfl, Nat.lt_of_lt_of_le hbd hU4.size, hU4.rd hbd hD hne⟩⟩
        refine (addTimes_any A4 D 1 ba i (m + 3) c _ _ (hA4.drewN q2) uA4 ⟨by decide, by decide⟩ uD hslD (by intro b o n' c'' _ h; cases h; exact hne) (by omega) (by omega) (by omega)).mono ?_
        rintro e w' ⟨Z2, c2, rfl, hcr, uZ2, lZ2, hA', hU', heq2⟩
        rw [lD] at lZ2 heq2
        rw [sA4] at heq2
        obtain ⟨n1, n2⟩ := HN.out
        have hX2 := HH.out.2
        have z0 := val_nonneg uZ2
        have z1 := val_lt uZ2
        rw [lZ2] at z1
        have hW : val X - (t - 1) * val D = val Z2 + 4294967296 ^ (m + 2) * (l2 - carry + c2) := by
          have e1 : (t - 1) * val D = t * val D - val D := by rw [Int.sub_mul, Int.one_mul]
          have e2 : 4294967296 ^ (m + 2) * (l2 - carry + c2) = 4294967296 ^ (m + 2) * l2 - 4294967296 ^ (m + 2) * carry + 4294967296 ^ (m + 2) * c2 := by rw [Int.mul_add, Int.mul_sub]
          rw [e1, e2]; omega
        have hWlt : val X - (t - 1) * val D < val D := by
          have e1 : (t - 1) * val D = t * val D - val D := by rw [Int.sub_mul, Int.one_mul]
          have e3 : 4294967296 ^ (m + 2) * l2 + 4294967296 ^ (m + 2) ≤ 4294967296 ^ (m + 2) * carry := by
            have := Int.mul_le_mul_of_nonneg_left (show l2 + 1 ≤ carry by omega) (Int.le_of_lt (pow_pos32 (m + 2)))
            rw [Int.mul_add, Int.mul_one] at this; exact this
          have hz1 := val_lt uZ
          rw [lZ] at hz1
          rw [e1]; omega
        have hk := give_back z0 z1 hW (by have e1 : (t - 1) * val D = t * val D - val D := by rw [Int.sub_mul, Int.one_mul]
                                          omega) (by omega)
        have hc2 : c2 = carry - l2 := by omega
        subst hc2
        have hAr : Arr .u32 53 w' ba (A.take i ++ (Z2 ++ [l2 - carry + 4294967296]) ++ A.drop (i + (m + 3))) := by
          rw [tA4, lZ2, dA5] at hA'
          simpa using hA'
        have hg : (A.take i ++ (Z2 ++ [l2 - carry + 4294967296]) ++ A.drop (i + (m + 3))).getD (i + (m + 2)) 0 = l2 - carry + 4294967296 := by
          rw [List.getD_eq_getElem?_getD, List.append_assoc, List.getElem?_append_right (by simp; omega), List.getElem?_append_left (by simp; omega), List.getElem?_append_right (by simp; omega)]
          simp [show i + (m + 2) - min i A.length - Z2.length = 0 by omega]
        rw [hk, Int.mul_zero, Int.add_zero] at hW
        exact ⟨rfl, by rw [hAr.cell _ (by simp; omega), hg], hAr.frozen _, show ∃ _, _ from ⟨Z2, lZ2, uZ2, hAr, hU4.trans hU', hW.symm, by omega⟩⟩
      have ht1 : 1 ≤ t := by
        apply Classical.byContradiction; intro h
        have : t = 0 := by omega
        subst this
        obtain ⟨lZ, uZ, _, _, heq⟩ := HZ.out
        have e3 : 4294967296 ^ (m + 2) * l2 + 4294967296 ^ (m + 2) ≤ 4294967296 ^ (m + 2) * carry := by
          have := Int.mul_le_mul_of_nonneg_left (show l2 + 1 ≤ carry by omega) (Int.le_of_lt (pow_pos32 (m + 2)))
          rw [Int.mul_add, Int.mul_one] at this; exact this
        have hz1 := val_lt uZ
        have hz0 := val_nonneg (uX.take (m + 2))
        have hl0 : 0 ≤ 4294967296 ^ (m + 2) * l2 := Int.mul_nonneg (Int.le_of_lt (pow_pos32 _)) f0
        rw [lZ] at hz1
        simp at heq
        omega
      have hw2 : IntKind.u32.wrap (l2 - carry + 4294967296 + (carry - l2)) = 0 := by rw [IntKind.wrap_u32]; omega
      obtain ⟨ln, hln⟩ : ∃ ln, l2 - carry + 4294967296 = ln := ⟨_, rfl⟩
      obtain ⟨cb, hcb⟩ : ∃ cb, carry - l2 = cb := ⟨_, rfl⟩
      rw [hln] at hw hadd hw2
      rw [hcb] at hadd hw2
      have HL : Hid (ln + cb = 4294967296 ∧ 0 ≤ cb ∧ 0 ≤ ln) := ⟨by omega, by omega, by omega⟩
      clear hln hcb
      go_wp2
      have hm0 : (0 : Int) ≤ (m : Int) + 2 := by omega
      have hmt : ((m : Int) + 2).toNat = m + 2 := by omega
      go_region_with (go_at_call 65; refine (hadd _).mono ?_; rintro e w5 ⟨rfl, hc5, hf5, H5⟩)
      all_goals
        go_wp2
        go_ret
        obtain ⟨Z2, lZ2, uZ2, hA5, hU5, hv2, hv3⟩ := H5.out
        obtain ⟨q1, q2⟩ := step_low hVpos hv2 (val_nonneg uZ2) hv3
        refine ⟨Z2 ++ [0], ?_, by simp; omega, uZ2.append (u1' (by decide) (by decide)), ?_, ?_, hU5.trans (Upd.set _ _ _ _)⟩
        · rw [q1]; rfl
        · rw [val_snoc, q2]; simp
        · have := hA5.set (i + (m + 2)) 0
          rw [last_set _ _ _ _ (by omega) lZ2] at this
          have e : (Z2 ++ [(0 : Int)]).length = m + 3 := by simp; omega
          rw [e]; exact this
    · have hnb : carry ≤ l2 := by omega
      go_wp2
      go_ret
      obtain ⟨lZ, uZ, hA3, hU3, heq⟩ := HZ.out
      obtain ⟨n1, n2⟩ := HN.out
      have hX2 := HH.out.2
      have hR : val (Z1 ++ [l2 - carry]) = val X - t * val D := by
        rw [val_snoc, lZ, Int.mul_sub]; omega
      have hR0 : 0 ≤ val (Z1 ++ [l2 - carry]) := val_nonneg (uZ.append (u1' (by omega) (by omega)))
      have hR1 : val (Z1 ++ [l2 - carry]) < val D := by rw [hR]; have e1 : (t + 1) * val D = t * val D + val D := by rw [Int.add_mul, Int.one_mul]
                                                        omega
      obtain ⟨q1, q2⟩ := step_low hVpos hR hR0 hR1
      refine ⟨Z1 ++ [l2 - carry], ?_, by simp; omega, uZ.append (u1' (by omega) (by omega)), q2.symm, ?_, hU3.trans (Upd.set _ _ _ _)⟩
      · rw [q1]; rfl
      · rw [← mid_set _ _ _ _ (by omega)]
        have := hA3.set (i + Z1.length) (l2 - carry)
        rw [lZ] at this ⊢
        exact this
end Go.Proofs.Ythkheocggcmooaa
