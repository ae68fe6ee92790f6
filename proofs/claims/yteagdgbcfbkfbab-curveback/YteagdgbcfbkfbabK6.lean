/-
  The walk of divideStep.
-/
import Derived.Deep.CutRange
import Derived.Test.YteagdgbcfbkfbabK5
namespace Go.Proofs.Yteagdgbcfbkfbab.Nt
open Go.RowKit

/-- The highest limbs of a list, and the rest. -/
theorem val_split (X : List Int) (m : Nat) (h : m ≤ X.length) : val X = val (X.take m) + 4294967296 ^ m * val (X.drop m) := by
  conv => lhs; rw [← List.take_append_drop m X]
  rw [val_append, List.length_take, Nat.min_eq_left h]
theorem drop2 {X : List Int} {m : Nat} (h : X.length = m + 2) : X.drop m = [X.getD m 0, X.getD (m + 1) 0] := by
  rw [List.drop_eq_getElem_cons (by omega), List.drop_eq_getElem_cons (by omega), List.drop_of_length_le (by omega)]
  simp [show m < X.length by omega, show m + 1 < X.length by omega]
theorem drop3 {X : List Int} {m : Nat} (h : X.length = m + 3) : X.drop m = [X.getD m 0, X.getD (m + 1) 0, X.getD (m + 2) 0] := by
  rw [List.drop_eq_getElem_cons (by omega), List.drop_eq_getElem_cons (by omega), List.drop_eq_getElem_cons (by omega), List.drop_of_length_le (by omega)]
  simp [show m < X.length by omega, show m + 1 < X.length by omega, show m + 2 < X.length by omega]

/-- The guess is the quotient, or one too great. -/
theorem guess_near {u v P U3 V2 U V t d1 d0 : Int} (hP : 0 < P) (hu0 : 0 ≤ u) (hu : u < P) (hv0 : 0 ≤ v) (hv : v < P) (hU : U = u + P * U3) (hV : V = v + P * V2) (hUV : U < V * 4294967296) (hg : Guess U3 V2 t) (hd : V2 = d1 * 4294967296 + d0) (h1 : 1 ≤ d1) (h0 : 0 ≤ d0) :
    U < (t + 1) * V ∧ t * V < U + V := by
  obtain ⟨t0, t1, t2, t3⟩ := hg
  have hV2 : 4294967296 ≤ V2 := by omega
  have hPV : P * 4294967296 ≤ P * V2 := Int.mul_le_mul_of_nonneg_left hV2 (by omega)
  constructor
  · rcases t3 with h | h
    · have h2 : P * (U3 + 1) ≤ P * ((t + 1) * V2) := Int.mul_le_mul_of_nonneg_left (by omega) (by omega)
      have h3 : 0 ≤ (t + 1) * v := Int.mul_nonneg (by omega) hv0
      have h4 : (t + 1) * V = (t + 1) * v + P * ((t + 1) * V2) := by rw [hV]; grind
      have h5 : P * (U3 + 1) = P * U3 + P := by rw [Int.mul_add, Int.mul_one]
      omega
    · subst h; have : (4294967295 + 1 : Int) * V = V * 4294967296 := by rw [Int.mul_comm]; rfl
      omega
  · have h2 : P * (t * V2) ≤ P * U3 := Int.mul_le_mul_of_nonneg_left t2 (by omega)
    have h3 : t * V = t * v + P * (t * V2) := by rw [hV]; grind
    have h4 : t * v ≤ t * P := Int.mul_le_mul_of_nonneg_left (by omega) t0
    have h5 : t * P ≤ 4294967295 * P := Int.mul_le_mul_of_nonneg_right (by omega) (by omega)
    omega
theorem top_le {u v P U3 V2 U V T l0 : Int} (hP : 0 < P) (hu0 : 0 ≤ u) (hv : v < P) (hU : U = u + P * U3) (hV : V = v + P * V2) (hUV : U < V * 4294967296) (hT : U3 = T * 4294967296 + l0) (hl : 0 ≤ l0) : T ≤ V2 := by
  apply Classical.byContradiction; intro h
  have h1 : P * (V2 + 1) ≤ P * T := Int.mul_le_mul_of_nonneg_left (by omega) (by omega)
  have h2 : P * (V2 + 1) = P * V2 + P := by rw [Int.mul_add, Int.mul_one]
  have h3 : P * U3 = P * T * 4294967296 + P * l0 := by rw [hT]; grind
  have h4 : 0 ≤ P * l0 := Int.mul_nonneg (by omega) hl
  omega
theorem step_low {U V t R : Int} (hV : 0 < V) (hR : R = U - t * V) (h0 : 0 ≤ R) (h1 : R < V) : U / V = t ∧ U % V = R := by
  have e : U = R + t * V := by omega
  constructor
  · rw [e, Int.add_mul_ediv_right _ _ (by omega), Int.ediv_eq_zero_of_lt h0 h1]; omega
  · rw [e, Int.add_mul_emod_self_right, Int.emod_eq_of_lt h0 h1]
/-- What is still to be taken is given back once: the highest limb is 0 then. -/
theorem give_back {z P k W : Int} (z0 : 0 ≤ z) (z1 : z < P) (hW : W = z + P * k) (w0 : 0 ≤ W) (w1 : W < P) : k = 0 := by
  have hP : 0 < P := by omega
  apply Classical.byContradiction; intro h
  rcases Int.lt_or_gt_of_ne h with h | h
  · have : P * k ≤ P * (-1) := Int.mul_le_mul_of_nonneg_left (by omega) (by omega)
    omega
  · have : P * 1 ≤ P * k := Int.mul_le_mul_of_nonneg_left (by omega) (by omega)
    omega

theorem last_set (A Z : List Int) (x : Int) (m : Nat) {i : Nat} {R : List Int} (hi : i ≤ A.length) (hZ : Z.length = m + 2) : (A.take i ++ (Z ++ [x]) ++ R).set (i + (m + 2)) 0 = A.take i ++ (Z ++ [0]) ++ R := by
  have h1 : (A.take i).length = i := by simp; omega
  rw [List.append_assoc, List.set_append_right _ _ (by omega), h1, Nat.add_sub_cancel_left, List.append_assoc, List.set_append_right _ _ (by omega), hZ, Nat.sub_self]
  simp

set_option maxHeartbeats 4000000 in
theorem divideStep_any (A D : List Int) (ba i bd od c c' m : Nat) (w : World) (hA : Arr .u32 22 w ba A) (huA : U32s A) (hD : Rd .u32 w bd od D) (hbd : bd < w.heap.size) (hne : bd ≠ ba) (uD : U32s D) (lD : D.length = m + 2) (hfit : i + (m + 3) ≤ A.length) (hc : m + 3 ≤ c) (hc' : m + 2 ≤ c')
    (lm : m ≤ 1073741824) (hd1 : 2147483648 ≤ D.getD (m + 1) 0) (hUV : val ((A.drop i).take (m + 3)) < val D * 4294967296) :
    Calls Try.prog 69 #[.slice (some ⟨ba, i, none⟩) (m + 3) c, .slice (some ⟨bd, od, none⟩) (m + 2) c'] w fun e w' =>
      ∃ Z, e = .returned (.int .u32 (val ((A.drop i).take (m + 3)) / val D)) ∧ Z.length = m + 3 ∧ U32s Z ∧ val Z = val ((A.drop i).take (m + 3)) % val D ∧ Arr .u32 22 w' ba (A.take i ++ Z ++ A.drop (i + Z.length)) ∧ Upd w w' ba := by
  obtain ⟨X, hX⟩ : ∃ X, (A.drop i).take (m + 3) = X := ⟨_, rfl⟩
  have lX : X.length = m + 3 := by rw [← hX]; simp; omega
  have uX : U32s X := by rw [← hX]; exact (huA.drop i).take _
  have gX : ∀ j, j < m + 3 → X.getD j 0 = A.getD (i + j) 0 := by
    intro j hj; rw [← hX, List.getD_eq_getElem?_getD, List.getElem?_take, if_pos hj, List.getElem?_drop, ← List.getD_eq_getElem?_getD]
  rw [hX] at hUV ⊢
  obtain ⟨l0, h0⟩ : ∃ l, X.getD m 0 = l := ⟨_, rfl⟩
  obtain ⟨l1, h1⟩ : ∃ l, X.getD (m + 1) 0 = l := ⟨_, rfl⟩
  obtain ⟨l2, h2⟩ : ∃ l, X.getD (m + 2) 0 = l := ⟨_, rfl⟩
  obtain ⟨d0, g0⟩ : ∃ l, D.getD m 0 = l := ⟨_, rfl⟩
  obtain ⟨d1, g1⟩ : ∃ l, D.getD (m + 1) 0 = l := ⟨_, rfl⟩
  have k0 : U32 l0 := h0 ▸ uX.at m
  have k1 : U32 l1 := h1 ▸ uX.at _
  have k2 : U32 l2 := h2 ▸ uX.at _
  have j0 : U32 d0 := g0 ▸ uD.at m
  have j1 : U32 d1 := g1 ▸ uD.at _
  rw [g1] at hd1
  have ca : ∀ j, j < m + 3 → w.cell? ⟨ba, i + j, none⟩ = some (.int .u32 (X.getD j 0)) := by
    intro j hj; rw [gX j hj]; exact hA.cell _ (by omega)
  have ca0 := ca m (by omega); rw [h0] at ca0
  have ca1 := ca (m + 1) (by omega); rw [h1, ← Nat.add_assoc] at ca1
  have ca2 := ca (m + 2) (by omega); rw [h2, ← Nat.add_assoc] at ca2
  have cd0 := hD m (by omega); rw [g0] at cd0
  have cd1 := hD (m + 1) (by omega); rw [g1, ← Nat.add_assoc] at cd1
  have hP := pow_pos32 m
  have sU := val_split X m (by omega)
  have sV := val_split D m (by omega)
  rw [drop3 lX, h0, h1, h2] at sU
  rw [drop2 lD, g0, g1] at sV
  have eU : val [l0, l1, l2] = (l2 * 4294967296 + l1) * 4294967296 + l0 := by simp only [val]; omega
  have eV : val [d0, d1] = d1 * 4294967296 + d0 := by simp only [val]; omega
  rw [eU] at sU
  rw [eV] at sV
  have u0 := val_nonneg (uX.take m); have u1 := val_lt (uX.take m)
  have v0 := val_nonneg (uD.take m); have v1 := val_lt (uD.take m)
  rw [List.length_take, Nat.min_eq_left (by omega)] at u1 v1
  have htop := top_le hP u0 v1 sU sV hUV rfl k0.1
  have hnear := fun t (hg : Guess ((l2 * 4294967296 + l1) * 4294967296 + l0) (d1 * 4294967296 + d0) t) => guess_near hP u0 u1 v0 v1 sU sV hUV hg rfl (by omega) j0.1
  have hVpos : 0 < val D := by
    have := Int.mul_nonneg (Int.le_of_lt hP) (show 0 ≤ d1 * 4294967296 + d0 - 1 by have := j0.1; omega)
    rw [Int.mul_sub, Int.mul_one] at this; omega
  have hVlt := val_lt uD
  rw [lD] at hVlt
  have hguess := fun (q : Nat) => guess_any l0 l1 l2 d0 d1 ba (i + m) bd (od + m) (c - m) (c' - m) (w.drewN q) k0 k1 k2 j0 j1 hd1 htop ca0 ca1 ca2 cd0 cd1
  -- the low limbs, and the highest
  have sU2 := val_split X (m + 2) (by omega)
  have e2 : X.drop (m + 2) = [l2] := by
    rw [List.drop_eq_getElem_cons (by omega), List.drop_of_length_le (by omega)]
    simp [← h2, show m + 2 < X.length by omega]
  rw [e2] at sU2
  have e3 : val [l2] = l2 := by simp [val]
  rw [e3] at sU2
  have hXt : ((A.drop i).take (m + 2)) = X.take (m + 2) := by rw [← hX, List.take_take, Nat.min_eq_left (by omega)]
  have hslD : ∀ q, Sl .u32 (w.drewN q) (.slice (some ⟨bd, od, none⟩) (m + 2) c') D := fun q => ⟨_, _, by rw [lD], by omega, .inr ⟨bd, od, rfl, hbd, hD⟩⟩
  have htake := fun (q : Nat) (t : Int) (ut : U32 t) => takeTimes_any A D t ba i (m + 3) c (.slice (some ⟨bd, od, none⟩) (m + 2) c') (w.drewN q) hA huA ut uD (hslD q) (by intro b o n' c'' _ h; cases h; exact hne) (by omega) (by omega) (by omega)
  rw [lD] at htake
  have htake2 : ∀ (q : Nat) (t : Int), U32 t → Calls Try.prog 63 #[.slice (some ⟨ba, i, none⟩) (m + 3) c, .slice (some ⟨bd, od, none⟩) (m + 2) c', .int .u32 t] (w.drewN q) fun e w' =>
      ∃ Z1 carry, e = .returned (.int .u32 carry) ∧ 0 ≤ carry ∧ carry < 4294967296 ∧ w'.cell? ⟨ba, i + (m + 2), none⟩ = some (.int .u32 l2) ∧ w'.frozen? ⟨ba, i + (m + 2), none⟩ = false ∧
        Hid (Z1.length = m + 2 ∧ U32s Z1 ∧ Arr .u32 22 w' ba (A.take i ++ Z1 ++ A.drop (i + Z1.length)) ∧ Upd w w' ba ∧ val Z1 + t * val D = val (X.take (m + 2)) + 4294967296 ^ (m + 2) * carry) := by
    intro q t ut
    refine (htake q t ut).mono ?_
    rintro e w' ⟨Z1, carry, rfl, hcr, uZ, lZ, hA', hU', heq⟩
    have hl2 : (A.take i ++ Z1 ++ A.drop (i + Z1.length)).getD (i + (m + 2)) 0 = l2 := by rw [← lZ, mid_get, lZ, ← gX (m + 2) (by omega), h2]
    rw [hXt] at heq
    exact ⟨Z1, carry, rfl, hcr.1, hcr.2, by rw [hA'.cell _ (by rw [mid_len _ _ _ (by omega)]; omega), hl2], hA'.frozen _, show _ ∧ _ from ⟨lZ, uZ, hA', (Upd.drewN (Upd.refl w ba) q).trans hU', heq⟩⟩
  have HH : Hid ((A.drop i).take (m + 3) = X ∧ val X = val (X.take (m + 2)) + 4294967296 ^ (m + 2) * l2) := ⟨hX, sU2⟩
  have hcm : ¬ c = m := by omega
  have hwm : IntKind.i64.wrap (m : Int) = m := by rw [IntKind.wrap_i64]; omega
  have hcm' : ¬ c' = m := by omega
  clear sU sV u0 u1 v0 v1 hX gX ca eU eV e2 e3 hP htake sU2 hXt hslD
  go_enter Try.func69, Try.ntmps69
  go_upto_region 2 with (fail)
  go_cut [6] from 9 (fun s6 wc => ∃ t q, s6 = .int .u32 t ∧ Guess ((l2 * 4294967296 + l1) * 4294967296 + l0) (d1 * 4294967296 + d0) t ∧ wc = w.drewN q)
  case first =>
    go_region_with (go_at_call 71; refine (hguess _).mono ?_; rintro e w2 ⟨t, rfl, hg, n2, rfl⟩)
    all_goals
      go_wp2_with fail
      go_meet
      case rel => exact ⟨t, _, rfl, hg, rfl⟩
  case rest =>
    obtain ⟨t, q, rfl, hg, rfl⟩ := hcut
    obtain ⟨n1, n2⟩ := hnear t hg
    obtain ⟨t0, t1, _, _⟩ := hg
    have hcall := htake2 q t ⟨t0, t1⟩
    have HN : Hid (val X < (t + 1) * val D ∧ t * val D < val X + val D) := ⟨n1, n2⟩
    clear n1 n2 hnear hguess htake2 ca0 ca1 ca2 cd0 cd1 htop
    go_wp2_with fail
    refine hcall.mono ?_
    rintro e w3 ⟨Z1, carry, rfl, cr0, cr1, hc3, hf3, HZ⟩
    obtain ⟨f0, f1⟩ := k2
    clear hcall
    by_cases hbl : l2 < carry
    · have hw : IntKind.u32.wrap (l2 - carry) = l2 - carry + 4294967296 := by rw [IntKind.wrap_u32]; omega
      have hadd : ∀ q2, Calls Try.prog 62 #[.slice (some ⟨ba, i, none⟩) (m + 3) c, .slice (some ⟨bd, od, none⟩) (m + 2) c', .int .u32 1] ((w3.setCell ⟨ba, i + (m + 2), none⟩ (.int .u32 (l2 - carry + 4294967296))).drewN q2) fun e w' =>
          e = .returned (.int .u32 (carry - l2)) ∧ w'.cell? ⟨ba, i + (m + 2), none⟩ = some (.int .u32 (l2 - carry + 4294967296)) ∧ w'.frozen? ⟨ba, i + (m + 2), none⟩ = false ∧
            Hid (∃ Z2, Z2.length = m + 2 ∧ U32s Z2 ∧ Arr .u32 22 w' ba (A.take i ++ (Z2 ++ [l2 - carry + 4294967296]) ++ A.drop (i + (m + 3))) ∧ Upd w w' ba ∧ val Z2 = val X - (t - 1) * val D ∧ val Z2 < val D) := by
        intro q2
        obtain ⟨lZ, uZ, hA3, hU3, heq⟩ := HZ.out
        have hA4 := hA3.set (i + (m + 2)) (l2 - carry + 4294967296)
        have hZl : i + (m + 2) = i + Z1.length := by omega
        rw [hZl, mid_set _ _ _ _ (by omega), ← hZl] at hA4
        have hlen4 : (Z1 ++ [l2 - carry + 4294967296]).length = m + 3 := by simp; omega
        rw [hlen4] at hA4
        obtain ⟨A4, hA4e⟩ : ∃ A4, A.take i ++ (Z1 ++ [l2 - carry + 4294967296]) ++ A.drop (i + (m + 3)) = A4 := ⟨_, rfl⟩
        have ul : U32 (l2 - carry + 4294967296) := ⟨by omega, by omega⟩
        have uA4 : U32s A4 := by rw [← hA4e]; exact ((huA.take i).append (uZ.append (U32s.cons ul U32s.nil))).append (huA.drop _)
        have lA4 : A4.length = A.length := by rw [← hA4e]; simp; omega
        have tA4 : A4.take i = A.take i := by rw [← hA4e, List.append_assoc, List.take_append_of_le_length (by simp; omega), List.take_take, Nat.min_self]
        have dA4 : A4.drop i = Z1 ++ ([l2 - carry + 4294967296] ++ A.drop (i + (m + 3))) := by
          rw [← hA4e, List.append_assoc, List.drop_append_of_le_length (by simp; omega), List.drop_of_length_le (by simp; omega)]; simp
        have sA4 : (A4.drop i).take (m + 2) = Z1 := by rw [dA4, ← lZ, List.take_left]
        have dA5 : A4.drop (i + (m + 2)) = [l2 - carry + 4294967296] ++ A.drop (i + (m + 3)) := by rw [← List.drop_drop, dA4, ← lZ, List.drop_left]
        rw [hA4e] at hA4
        have hU4 : Upd w ((w3.setCell ⟨ba, i + (m + 2), none⟩ (.int .u32 (l2 - carry + 4294967296))).drewN q2) ba := (hU3.trans (Upd.set _ _ _ _)).drewN q2
        have hslD : Sl .u32 ((w3.setCell ⟨ba, i + (m + 2), none⟩ (.int .u32 (l2 - carry + 4294967296))).drewN q2) (.slice (some ⟨bd, od, none⟩) (m + 2) c') D :=
          ⟨_, _, by rw [lD], by omega, .inr ⟨bd, od, rfl, Nat.lt_of_lt_of_le hbd hU4.size, hU4.rd hbd hD hne⟩⟩
        refine (addTimes_any A4 D 1 ba i (m + 3) c _ _ (hA4.drewN q2) uA4 ⟨by decide, by decide⟩ uD hslD (by intro b o n' c'' _ h; cases h; exact hne) (by omega) (by omega) (by omega)).mono ?_
        rintro e w' ⟨Z2, c2, rfl, hcr, uZ2, lZ2, hA', hU', heq2⟩
        rw [lD] at lZ2 heq2
        rw [sA4] at heq2
        obtain ⟨n1, n2⟩ := HN.out
        have hX2 := HH.out.2
        have z0 := val_nonneg uZ2
        have z1 := val_lt uZ2
        rw [lZ2] at z1
        have hW : val X - (t - 1) * val D = val Z2 + 4294967296 ^ (m + 2) * (l2 - carry + c2) := by
          have e1 : (t - 1) * val D = t * val D - val D := by rw [Int.sub_mul, Int.one_mul]
          have e2 : 4294967296 ^ (m + 2) * (l2 - carry + c2) = 4294967296 ^ (m + 2) * l2 - 4294967296 ^ (m + 2) * carry + 4294967296 ^ (m + 2) * c2 := by rw [Int.mul_add, Int.mul_sub]
          rw [e1, e2]; omega
        have hWlt : val X - (t - 1) * val D < val D := by
          have e1 : (t - 1) * val D = t * val D - val D := by rw [Int.sub_mul, Int.one_mul]
          have e3 : 4294967296 ^ (m + 2) * l2 + 4294967296 ^ (m + 2) ≤ 4294967296 ^ (m + 2) * carry := by
            have := Int.mul_le_mul_of_nonneg_left (show l2 + 1 ≤ carry by omega) (Int.le_of_lt (pow_pos32 (m + 2)))
            rw [Int.mul_add, Int.mul_one] at this; exact this
          have hz1 := val_lt uZ
          rw [lZ] at hz1
          rw [e1]; omega
        have hk := give_back z0 z1 hW (by have e1 : (t - 1) * val D = t * val D - val D := by rw [Int.sub_mul, Int.one_mul]
                                          omega) (by omega)
        have hc2 : c2 = carry - l2 := by omega
        subst hc2
        have hAr : Arr .u32 22 w' ba (A.take i ++ (Z2 ++ [l2 - carry + 4294967296]) ++ A.drop (i + (m + 3))) := by
          rw [tA4, lZ2, dA5] at hA'
          simpa using hA'
        have hg : (A.take i ++ (Z2 ++ [l2 - carry + 4294967296]) ++ A.drop (i + (m + 3))).getD (i + (m + 2)) 0 = l2 - carry + 4294967296 := by
          rw [List.getD_eq_getElem?_getD, List.append_assoc, List.getElem?_append_right (by simp; omega), List.getElem?_append_left (by simp; omega), List.getElem?_append_right (by simp; omega)]
          simp [show i + (m + 2) - min i A.length - Z2.length = 0 by omega]
        rw [hk, Int.mul_zero, Int.add_zero] at hW
        exact ⟨rfl, by rw [hAr.cell _ (by simp; omega), hg], hAr.frozen _, show ∃ _, _ from ⟨Z2, lZ2, uZ2, hAr, hU4.trans hU', hW.symm, by omega⟩⟩
      have ht1 : 1 ≤ t := by
        apply Classical.byContradiction; intro h
        have : t = 0 := by omega
        subst this
        obtain ⟨lZ, uZ, _, _, heq⟩ := HZ.out
        have e3 : 4294967296 ^ (m + 2) * l2 + 4294967296 ^ (m + 2) ≤ 4294967296 ^ (m + 2) * carry := by
          have := Int.mul_le_mul_of_nonneg_left (show l2 + 1 ≤ carry by omega) (Int.le_of_lt (pow_pos32 (m + 2)))
          rw [Int.mul_add, Int.mul_one] at this; exact this
        have hz1 := val_lt uZ
        have hz0 := val_nonneg (uX.take (m + 2))
        have hl0 : 0 ≤ 4294967296 ^ (m + 2) * l2 := Int.mul_nonneg (Int.le_of_lt (pow_pos32 _)) f0
        rw [lZ] at hz1
        simp at heq
        omega
      have hw2 : IntKind.u32.wrap (l2 - carry + 4294967296 + (carry - l2)) = 0 := by rw [IntKind.wrap_u32]; omega
      obtain ⟨ln, hln⟩ : ∃ ln, l2 - carry + 4294967296 = ln := ⟨_, rfl⟩
      obtain ⟨cb, hcb⟩ : ∃ cb, carry - l2 = cb := ⟨_, rfl⟩
      rw [hln] at hw hadd hw2
      rw [hcb] at hadd hw2
      have HL : Hid (ln + cb = 4294967296 ∧ 0 ≤ cb ∧ 0 ≤ ln) := ⟨by omega, by omega, by omega⟩
      clear hln hcb
      go_wp2
      have hm0 : (0 : Int) ≤ (m : Int) + 2 := by omega
      have hmt : ((m : Int) + 2).toNat = m + 2 := by omega
      go_region_with (go_at_call 62; refine (hadd _).mono ?_; rintro e w5 ⟨rfl, hc5, hf5, H5⟩)
      all_goals
        go_wp2
        go_ret
        obtain ⟨Z2, lZ2, uZ2, hA5, hU5, hv2, hv3⟩ := H5.out
        obtain ⟨q1, q2⟩ := step_low hVpos hv2 (val_nonneg uZ2) hv3
        refine ⟨Z2 ++ [0], ?_, by simp; omega, uZ2.append (u1' (by decide) (by decide)), ?_, ?_, hU5.trans (Upd.set _ _ _ _)⟩
        · rw [q1]; rfl
        · rw [val_snoc, q2]; simp
        · have := hA5.set (i + (m + 2)) 0
          rw [last_set _ _ _ _ (by omega) lZ2] at this
          have e : (Z2 ++ [(0 : Int)]).length = m + 3 := by simp; omega
          rw [e]; exact this
    · have hnb : carry ≤ l2 := by omega
      go_wp2
      go_ret
      obtain ⟨lZ, uZ, hA3, hU3, heq⟩ := HZ.out
      obtain ⟨n1, n2⟩ := HN.out
      have hX2 := HH.out.2
      have hR : val (Z1 ++ [l2 - carry]) = val X - t * val D := by
        rw [val_snoc, lZ, Int.mul_sub]; omega
      have hR0 : 0 ≤ val (Z1 ++ [l2 - carry]) := val_nonneg (uZ.append (u1' (by omega) (by omega)))
      have hR1 : val (Z1 ++ [l2 - carry]) < val D := by rw [hR]; have e1 : (t + 1) * val D = t * val D + val D := by rw [Int.add_mul, Int.one_mul]
                                                        omega
      obtain ⟨q1, q2⟩ := step_low hVpos hR hR0 hR1
      refine ⟨Z1 ++ [l2 - carry], ?_, by simp; omega, uZ.append (u1' (by omega) (by omega)), q2.symm, ?_, hU3.trans (Upd.set _ _ _ _)⟩
      · rw [q1]; rfl
      · rw [← mid_set _ _ _ _ (by omega)]
        have := hA3.set (i + Z1.length) (l2 - carry)
        rw [lZ] at this ⊢
        exact this
end Go.Proofs.Yteagdgbcfbkfbab.Nt
/-
  The walk of divideLong: the long division keeps its promise.
-/
namespace Go.Proofs.Yteagdgbcfbkfbab.Nt
open Go.RowKit

set_option maxHeartbeats 400000 in
theorem Lead_any (x : Int) (hx : U32 x) (hx0 : x ≠ 0) (w : World) :
    Calls Try.prog 67 #[.int .u32 x] w fun e w' => ∃ s : Nat, e = .returned (.int .i64 s) ∧ s < 32 ∧ 2147483648 ≤ x * 2 ^ s ∧ x * 2 ^ s < 4294967296 ∧ w = w' := by
  have hl := Len32_any x hx w
  obtain ⟨x0, x1⟩ := hx
  obtain ⟨bl, hbl⟩ : ∃ bl, bitLen x.toNat = bl := ⟨_, rfl⟩
  have h32 : bl ≤ 32 := by rw [← hbl]; exact bitLen_lt (by omega)
  have hsp := bitLen_spec x.toNat
  rw [hbl] at hsp hl
  have hb1 : 1 ≤ bl := by
    apply Classical.byContradiction; intro h
    have : bl = 0 := by omega
    rw [this] at hsp; simp at hsp; omega
  have HS : Hid (x.toNat < 2 ^ bl ∧ 2 ^ (bl - 1) ≤ x.toNat) := ⟨hsp.1, hsp.2 (by omega)⟩
  clear hsp hbl
  go_enter Try.func67, Try.ntmps67
  go_wp2_with (go_at_call 50; refine hl.mono ?_; rintro e w' ⟨rfl, rfl⟩)
  go_ret
  obtain ⟨n, hn⟩ := Int.eq_ofNat_of_zero_le x0
  subst hn
  obtain ⟨h1, h2⟩ := HS.out
  simp only [Int.toNat_natCast] at h1 h2
  have e1 : n * 2 ^ (32 - bl) < 2 ^ 32 := by
    have := Nat.mul_lt_mul_of_pos_right h1 (Nat.two_pow_pos (32 - bl))
    rw [← Nat.pow_add, show bl + (32 - bl) = 32 by omega] at this; exact this
  have e2 : 2 ^ 31 ≤ n * 2 ^ (32 - bl) := by
    have := Nat.mul_le_mul_right (2 ^ (32 - bl)) h2
    rw [← Nat.pow_add, show bl - 1 + (32 - bl) = 31 by omega] at this; exact this
  refine ⟨32 - bl, ?_, by omega, ?_, ?_, rfl⟩
  · exact ret_int (by omega)
  · have e3 : ((n * 2 ^ (32 - bl) : Nat) : Int) = (n : Int) * 2 ^ (32 - bl) := by simp
    rw [← e3]; omega
  · have e3 : ((n * 2 ^ (32 - bl) : Nat) : Int) = (n : Int) * 2 ^ (32 - bl) := by simp
    rw [← e3]; omega

/-- What the shifted divisor is. -/
theorem norm_div {Y S : List Int} {m s : Nat} (uY : U32s Y) (lY : Y.length = m + 2) (uS : U32s S) (lS : S.length = m + 3) (hv : val S = val Y * 2 ^ s) (hp : (1 : Int) ≤ 2 ^ s) (h1 : 2147483648 ≤ Y.getD (m + 1) 0 * 2 ^ s) (h2 : Y.getD (m + 1) 0 * 2 ^ s < 4294967296) :
    sig S = m + 2 ∧ 2147483648 ≤ (trim S).getD (m + 1) 0 := by
  have sY := val_split Y (m + 1) (by omega)
  have dY : Y.drop (m + 1) = [Y.getD (m + 1) 0] := by
    rw [List.drop_eq_getElem_cons (by omega), List.drop_of_length_le (by omega)]; simp [show m + 1 < Y.length by omega]
  rw [dY] at sY
  simp only [val] at sY
  have y0 := val_nonneg (uY.take (m + 1)); have y1 := val_lt (uY.take (m + 1))
  rw [List.length_take, Nat.min_eq_left (by omega)] at y1
  obtain ⟨y, hy⟩ : ∃ y, Y.getD (m + 1) 0 = y := ⟨_, rfl⟩
  obtain ⟨p, hpp⟩ : ∃ p : Int, 2 ^ s = p := ⟨_, rfl⟩
  obtain ⟨P, hP⟩ : ∃ P : Int, 4294967296 ^ (m + 1) = P := ⟨_, rfl⟩
  have hP0 : 0 < P := by rw [← hP]; exact pow_pos32 _
  obtain ⟨a, ha⟩ : ∃ a, val (Y.take (m + 1)) = a := ⟨_, rfl⟩
  rw [hy, hpp] at h1 h2
  rw [hpp] at hv hp
  rw [hy, hP, ha] at sY
  rw [ha] at y0 y1
  rw [hP] at y1
  have hyp : y + 1 ≤ 4294967296 := by have := uY.at (m + 1); rw [hy] at this; have := this.2; omega
  -- val S = a p + P (y p), below P B
  have hvS : val S = a * p + P * (y * p) := by rw [hv, sY]; grind
  have hap : 0 ≤ a * p := Int.mul_nonneg y0 (by omega)
  have hlow : P * 2147483648 ≤ P * (y * p) := Int.mul_le_mul_of_nonneg_left h1 (by omega)
  -- (y+1) p ≤ B
  have hdv : (y + 1) * p ≤ 4294967296 := by
    -- p divides B
    have hs32 : s < 32 := by
      apply Classical.byContradiction; intro h
      have h3 : (2 : Int) ^ 32 ≤ 2 ^ s := by exact_mod_cast Nat.pow_le_pow_right (n := 2) (by decide) (show 32 ≤ s by omega)
      rw [hpp] at h3
      have hy1 : 1 ≤ y := by
        apply Classical.byContradiction; intro h4
        have h5 : y * p ≤ 0 * p := Int.mul_le_mul_of_nonneg_right (by omega) (by omega)
        rw [Int.zero_mul] at h5; omega
      have : 1 * p ≤ y * p := Int.mul_le_mul_of_nonneg_right hy1 (by omega)
      omega
    have hB : (4294967296 : Int) = 2 ^ (32 - s) * p := by
      rw [← hpp, ← Int.pow_add, show 32 - s + s = 32 by omega]; rfl
    rw [hB] at h2 ⊢
    have : y < 2 ^ (32 - s) := Int.lt_of_mul_lt_mul_right h2 (by omega)
    exact Int.mul_le_mul_of_nonneg_right (by omega) (by omega)
  have hup : val S < P * 4294967296 := by
    have h3 : a * p < P * p := Int.mul_lt_mul_of_pos_right y1 (by omega)
    have h4 : P * ((y + 1) * p) ≤ P * 4294967296 := Int.mul_le_mul_of_nonneg_left hdv (by omega)
    have h5 : P * ((y + 1) * p) = P * (y * p) + P * p := by grind
    omega
  have hPB : (4294967296 : Int) ^ (m + 2) = P * 4294967296 := by rw [pow_succ32, hP, Int.mul_comm]
  have g1 := getD_div S (m + 2) uS
  have g2 := getD_div S (m + 1) uS
  have hSn := val_nonneg uS
  obtain ⟨n, hn⟩ := Int.eq_ofNat_of_zero_le hSn
  have q2 : S.getD (m + 2) 0 = 0 := by
    have h3 := uS.at (m + 2)
    have : (val S).toNat / 2 ^ (32 * (m + 2)) = 0 := by
      apply Nat.div_eq_of_lt
      rw [← hPB, pow32, hn] at hup
      rw [hn, Int.toNat_natCast]; exact Int.ofNat_lt.1 hup
    rw [this, Nat.zero_mod] at g1
    have h4 := h3.1; omega
  have q1 : 2147483648 ≤ S.getD (m + 1) 0 := by
    have h3 := uS.at (m + 1)
    have h4 : 2147483648 ≤ (val S).toNat / 2 ^ (32 * (m + 1)) := by
      rw [Nat.le_div_iff_mul_le (Nat.two_pow_pos _)]
      have h5 : P * 2147483648 ≤ val S := by omega
      rw [← hP, pow32, hn] at h5
      have h7 : ((2 ^ (32 * (m + 1)) * 2147483648 : Nat) : Int) ≤ (n : Int) := by rw [Int.natCast_mul]; exact h5
      rw [hn, Int.toNat_natCast, Nat.mul_comm]; exact Int.ofNat_le.1 h7
    have h6 : (val S).toNat / 2 ^ (32 * (m + 1)) < 4294967296 := by
      rw [Nat.div_lt_iff_lt_mul (Nat.two_pow_pos _)]
      rw [← hP, pow32, hn] at hup
      have h7 : (n : Int) < ((2 ^ (32 * (m + 1)) * 4294967296 : Nat) : Int) := by rw [Int.natCast_mul]; exact hup
      rw [hn, Int.toNat_natCast, Nat.mul_comm]; exact Int.ofNat_lt.1 h7
    rw [Nat.mod_eq_of_lt h6] at g2
    omega
  have hsg : sig S = m + 2 := by
    refine sig_eq (by omega) (fun j h3 h4 => ?_) (.inr ?_)
    · have : j = m + 2 := by omega
      subst this; exact q2
    · simp only [show m + 2 - 1 = m + 1 from rfl]; omega
  refine ⟨hsg, ?_⟩
  unfold trim
  rw [hsg, List.getD_eq_getElem?_getD, List.getElem?_take, if_pos (by omega), ← List.getD_eq_getElem?_getD]; exact q1

/-- What stands between two rounds of the long division. -/
def LI (T V : Int) (n m : Nat) (A Q : List Int) (i : Nat) : Prop :=
  A.length = n + 1 ∧ U32s A ∧ U32s Q ∧ Q.length + (m + 1) = n ∧ T = V * (4294967296 ^ i * val (Q.drop i)) + val A ∧ val A < V * 4294967296 ^ i
theorem LI.seg {T V : Int} {n m i : Nat} {A Q : List Int} (h : LI T V n m A Q (i + 1)) (hi : i < Q.length) (hV : V < 4294967296 ^ (m + 2)) :
    val A = val (A.take i) + 4294967296 ^ i * val ((A.drop i).take (m + 3)) ∧ val ((A.drop i).take (m + 3)) < V * 4294967296 ∧ val (A.drop (i + (m + 3))) = 0 := by
  obtain ⟨lA, uA, uQ, lQ, hT, hlt⟩ := h
  have s1 := val_split A i (by omega)
  have s2 := val_split (A.drop i) (m + 3) (by simp; omega)
  rw [List.drop_drop] at s2
  have n1 := val_nonneg (uA.take i); have n2 := val_nonneg ((uA.drop i).take (m + 3)); have n3 := val_nonneg (uA.drop (i + (m + 3)))
  have hPi := pow_pos32 i; have hPm := pow_pos32 (m + 3)
  have hz : val (A.drop (i + (m + 3))) = 0 := by
    apply Classical.byContradiction; intro h
    have h1 : 4294967296 ^ (m + 3) * 1 ≤ 4294967296 ^ (m + 3) * val (A.drop (i + (m + 3))) := Int.mul_le_mul_of_nonneg_left (by omega) (by omega)
    have h2 : 4294967296 ^ i * 4294967296 ^ (m + 3) ≤ 4294967296 ^ i * val (A.drop i) := Int.mul_le_mul_of_nonneg_left (by omega) (by omega)
    have h3 : V * 4294967296 ^ (i + 1) ≤ 4294967296 ^ (m + 2) * 4294967296 ^ (i + 1) := Int.mul_le_mul_of_nonneg_right (by omega) (Int.le_of_lt (pow_pos32 _))
    have h4 : (4294967296 : Int) ^ (m + 2) * 4294967296 ^ (i + 1) = 4294967296 ^ i * 4294967296 ^ (m + 3) := by rw [← Int.pow_add, ← Int.pow_add]; congr 1; omega
    omega
  rw [hz, Int.mul_zero, Int.add_zero] at s2
  rw [s2] at s1
  refine ⟨s1, ?_, hz⟩
  apply Classical.byContradiction; intro h
  have h1 : 4294967296 ^ i * (V * 4294967296) ≤ 4294967296 ^ i * val ((A.drop i).take (m + 3)) := Int.mul_le_mul_of_nonneg_left (by omega) (by omega)
  have h2 : V * 4294967296 ^ (i + 1) = 4294967296 ^ i * (V * 4294967296) := by rw [pow_succ32]; grind
  omega
theorem LI.step {T V : Int} {n m i : Nat} {A Q Z : List Int} (h : LI T V n m A Q (i + 1)) (hi : i < Q.length) (hV0 : 0 < V) (hV : V < 4294967296 ^ (m + 2)) (lZ : Z.length = m + 3) (uZ : U32s Z) (hZ : val Z = val ((A.drop i).take (m + 3)) % V) :
    LI T V n m (A.take i ++ Z ++ A.drop (i + Z.length)) (Q.set i (val ((A.drop i).take (m + 3)) / V)) i := by
  obtain ⟨s1, s2, s3⟩ := h.seg hi hV
  obtain ⟨lA, uA, uQ, lQ, hT, hlt⟩ := h
  obtain ⟨U, hU⟩ : ∃ U, val ((A.drop i).take (m + 3)) = U := ⟨_, rfl⟩
  have hU0 : 0 ≤ U := by rw [← hU]; exact val_nonneg ((uA.drop i).take (m + 3))
  rw [hU] at s1 s2 hZ ⊢
  have hq0 : 0 ≤ U / V := Int.ediv_nonneg hU0 (by omega)
  have hq1 : U / V < 4294967296 := Int.ediv_lt_of_lt_mul hV0 (by rw [Int.mul_comm]; exact s2)
  have hr0 := Int.emod_nonneg U (b := V) (by omega); have hr1 := Int.emod_lt_of_pos U hV0
  have hdm := Int.mul_ediv_add_emod U V
  have hm := mid_val (S := A) (Z := Z) (i := i) (by omega)
  rw [lZ, hU, hZ] at hm
  have hPi := pow_pos32 i
  have n1 := val_lt (uA.take i)
  rw [List.length_take, Nat.min_eq_left (by omega)] at n1
  rw [lZ]
  refine ⟨by have := mid_len A Z i (by omega); rw [lZ] at this; omega, by have := mid_u32 (i := i) uA uZ; rw [lZ] at this; exact this, uQ.set _ ⟨hq0, hq1⟩, by simpa using lQ, ?_, ?_⟩
  · rw [drop_set_self hi, hm]
    simp only [val]
    rw [pow_succ32] at hT
    have e : 4294967296 ^ i * (U % V - U) = -(4294967296 ^ i * (V * (U / V))) := by
      have : U % V - U = -(V * (U / V)) := by omega
      rw [this, Int.mul_neg]
    rw [e, hT]; grind
  · rw [hm, s1]
    have e : 4294967296 ^ i * (U % V - U) = 4294967296 ^ i * (U % V) - 4294967296 ^ i * U := Int.mul_sub _ _ _
    have h2 : 4294967296 ^ i * (U % V) ≤ 4294967296 ^ i * (V - 1) := Int.mul_le_mul_of_nonneg_left (by omega) (by omega)
    have h3 : 4294967296 ^ i * (V - 1) = V * 4294967296 ^ i - 4294967296 ^ i := by rw [Int.mul_sub, Int.mul_one, Int.mul_comm]
    omega
end Go.Proofs.Yteagdgbcfbkfbab.Nt
/-
  The walk of divideLong.
-/
namespace Go.Proofs.Yteagdgbcfbkfbab.Nt
open Go.RowKit

theorem long_end {x y p q A : Int} (hy : 0 < y) (hp : 0 < p) (h : x * p = (y * p) * q + A) (h0 : 0 ≤ A) (h1 : A < y * p) : x / y = q ∧ x % y = A / p := by
  have hR : A = (x - y * q) * p := by grind
  have e : A / p = x - y * q := by rw [hR]; exact Int.mul_ediv_cancel _ (by omega)
  rw [hR] at h0 h1
  have r0 : 0 ≤ x - y * q := by
    apply Classical.byContradiction; intro h2
    have : (x - y * q) * p ≤ (-1) * p := Int.mul_le_mul_of_nonneg_right (by omega) (by omega)
    omega
  have r1 : x - y * q < y := Int.lt_of_mul_lt_mul_right h1 (by omega)
  rw [e]
  exact step_low (t := q) hy (by rw [Int.mul_comm]) r0 r1

set_option maxHeartbeats 8000000 in
theorem long_ok : LongOK := by
  intro X Y v u w hX hY uX uY sX sY l2 hle lX
  obtain ⟨m, lY⟩ : ∃ m, Y.length = m + 2 := ⟨Y.length - 2, by omega⟩
  have hlXY : m + 2 ≤ X.length := by have := sig_le_of_val uX uY hle; omega
  obtain ⟨aX, cX, rfl, hcX⟩ := hX.len
  obtain ⟨aY, cY, rfl, hcY, hYr⟩ := id hY
  rcases hYr with hYr | ⟨bY, oY, rfl, hbY, hrY⟩
  · rw [hYr] at lY; simp at lY
  obtain ⟨y, hy⟩ : ∃ y, Y.getD (m + 1) 0 = y := ⟨_, rfl⟩
  have uy : U32 y := hy ▸ uY.at _
  have hy0 : y ≠ 0 := by
    have := sig_last (xs := Y) (by omega)
    rw [sY, lY] at this; rw [← hy]; exact this
  have hcy : w.cell? ⟨bY, oY + (m + 1), none⟩ = some (.int .u32 y) := by rw [← hy]; exact hrY _ (by omega)
  have hVy : 0 < val Y := by have := sig_pos uY (by omega); have h2 := val_nonneg uY; apply Classical.byContradiction; intro h; have := sig0_of_val uY (by omega); omega
  obtain ⟨n, hn⟩ : ∃ n, X.length = n := ⟨_, rfl⟩
  obtain ⟨K, hK⟩ : ∃ K, n = K + (m + 1) := ⟨n - (m + 1), by omega⟩
  have hlead := Lead_any y uy hy0 w
  have hup1 := fun (s : Nat) (hs : s < 32) => shiftUp_any X s hs _ w hX uX (by omega)
  have hup2 : ∀ (w1 : World) (s : Nat), s < 32 → Below w.heap.size w w1 → 2147483648 ≤ y * 2 ^ s → y * 2 ^ s < 4294967296 →
      Calls Try.prog 68 #[.slice (some ⟨bY, oY, none⟩) Y.length cY, .int .i64 s] w1 fun e w' => ∃ S2, e = .returned (.slice (some ⟨w1.heap.size, 0, none⟩) (m + 3) (m + 3)) ∧ Below w1.heap.size w1 w' ∧
        (Calls Try.prog 36 #[.slice (some ⟨w1.heap.size, 0, none⟩) (m + 3) (m + 3)] w' fun e w'' => e = .returned (.slice (some ⟨w1.heap.size, 0, none⟩) (m + 2) (m + 3)) ∧ w'' = w') ∧
        Hid (Arr .u32 22 w' w1.heap.size S2 ∧ U32s S2 ∧ S2.length = m + 3 ∧ val S2 = val Y * 2 ^ s ∧ sig S2 = m + 2 ∧ 2147483648 ≤ (trim S2).getD (m + 1) 0) := by
    intro w1 s hs hB h1 h2
    refine (shiftUp_any Y s hs _ w1 (below_sl hB hY) uY (by omega)).mono ?_
    rintro e w' ⟨S2, rfl, hA2, uS2, lS2, vS2, hB2⟩
    rw [lY] at lS2 ⊢
    obtain ⟨hd1, hd2⟩ := norm_div uY lY uS2 lS2 vS2 (p2 s hs).1 (by rw [hy]; exact h1) (by rw [hy]; exact h2)
    have hcut := cut_any S2 (some ⟨w1.heap.size, 0, none⟩) S2.length w' hA2.sl (by omega)
    rw [hd1, lS2] at hcut
    exact ⟨S2, rfl, hB2, hcut, show _ ∧ _ from ⟨hA2, uS2, lS2, vS2, hd1, hd2⟩⟩
  rw [hn] at hX hup1 hcX lX hlXY ⊢
  rw [lY] at hY hup2 hcY ⊢
  have HX : Hid (X.length = n ∧ n = K + (m + 1) ∧ Y.getD (m + 1) 0 = y ∧ Y.length = m + 2) := ⟨hn, hK, hy, lY⟩
  have hK1 : 1 ≤ K := by omega
  have hnK : n - (m + 2) + 1 = K := by omega
  have hmK : (n : Int) - (m + 2) + 1 = K := by omega
  have hnle : n ≤ 1073741824 := lX
  clear hn hy hrY hy0 uy hK hnK sX sY hle l2 lX lY
  go_enter Try.func66, Try.ntmps66
  go_wp2_with (first
    | (go_at_call 67; refine hlead.mono ?_; rintro e w' ⟨s, rfl, hs, hs1, hs2, rfl⟩; have HS : Hid (2147483648 ≤ y * 2 ^ s ∧ y * 2 ^ s < 4294967296) := ⟨hs1, hs2⟩; clear hs1 hs2 hlead)
    | (go_at_call 68; replace H1 := H1; refine (hup2 _ s hs hB1 HS.out.1 HS.out.2).mono ?_; rintro e w2 ⟨S2, rfl, hB2, hcut, H2⟩; clear hup2)
    | (go_at_call 68; refine (hup1 s hs).mono ?_; rintro e w1 ⟨S1, rfl, hA1, uS1, lS1, vS1, hB1⟩; have H1 : Hid (Arr .u32 22 w1 w.heap.size S1 ∧ U32s S1 ∧ S1.length = n + 1 ∧ val S1 = val X * 2 ^ s) := ⟨hA1, uS1, lS1, vS1⟩; clear hA1 uS1 lS1 vS1 hup1)
    | (go_at_call 36; refine hcut.mono ?_; rintro e w3 ⟨rfl, rfl⟩)
    | (at_make; refine wpList_mk _ rfl _ _ 25 rfl .u32 22 4 Try.und32 Try.info32 _ K rfl rfl (by omega) (by omega) (by omega) ?_; intro w4 hA4 hB4))
  obtain ⟨b1, hb1⟩ : ∃ b, w.heap.size = b := ⟨_, rfl⟩
  obtain ⟨b2, hb2⟩ : ∃ b, w1.heap.size = b := ⟨_, rfl⟩
  obtain ⟨b3, hb3⟩ : ∃ b, w3.heap.size = b := ⟨_, rfl⟩
  obtain ⟨hA1, uS1, lS1, vS1⟩ := H1.out
  obtain ⟨hA2, uS2, lS2, vS2, sS2, tS2⟩ := H2.out
  have hA1' := below_arr hB4 (Nat.lt_of_lt_of_le hA1.lt hB2.size) (below_arr hB2 hA1.lt hA1)
  have hA2' := below_arr hB4 hA2.lt hA2
  have hBt2 := hB1.trans (hB2.mono hB1.size)
  have hBt := hBt2.trans (hB4.mono hBt2.size)
  have o12 : b1 < b2 := by rw [← hb1, ← hb2]; exact hA1.lt
  have o23 : b2 < b3 := by rw [← hb2, ← hb3]; exact hA2.lt
  obtain ⟨hnX, hnK, _, _⟩ := HX.out
  obtain ⟨pp, hpp⟩ : ∃ pp : Int, 2 ^ s = pp := ⟨_, rfl⟩
  obtain ⟨p1, p3⟩ := p2 s hs
  have hvD : val (trim S2) = val Y * pp := by rw [trim_val, vS2, hpp]
  have lD : (trim S2).length = m + 2 := by rw [trim_len]; exact sS2
  have uD := trim_u32 uS2
  have hVlt := val_lt uD
  rw [lD] at hVlt
  rw [hpp] at p1 p3
  have hV0 : 0 < val (trim S2) := by rw [hvD]; exact Int.mul_pos hVy (by omega)
  have hLI : LI (val S1) (val (trim S2)) n m S1 (List.replicate K 0) K := by
    refine ⟨lS1, uS1, U32s.zeros _, by simp; omega, by rw [List.drop_of_length_le (by simp)]; simp [val], ?_⟩
    rw [vS1, hpp]
    have h1 := val_lt uX
    rw [hnX] at h1
    have h2 : val X * pp < 4294967296 ^ n * pp := Int.mul_lt_mul_of_pos_right h1 (by omega)
    have h3 := val_split (trim S2) (m + 1) (by omega)
    have h4 : (trim S2).drop (m + 1) = [(trim S2).getD (m + 1) 0] := by
      rw [List.drop_eq_getElem_cons (by omega), List.drop_of_length_le (by omega)]; simp [show m + 1 < (trim S2).length by omega]
    rw [h4] at h3
    simp only [val] at h3
    have h5 := val_nonneg (uD.take (m + 1))
    have h6 : 4294967296 ^ (m + 1) * 2147483648 ≤ 4294967296 ^ (m + 1) * ((trim S2).getD (m + 1) 0 + 4294967296 * 0) := Int.mul_le_mul_of_nonneg_left (by omega) (Int.le_of_lt (pow_pos32 _))
    have h7 : 4294967296 ^ (m + 1) * 2147483648 * 4294967296 ^ K ≤ val (trim S2) * 4294967296 ^ K := Int.mul_le_mul_of_nonneg_right (by omega) (Int.le_of_lt (pow_pos32 _))
    have h8 : (4294967296 : Int) ^ n * 2147483648 = 4294967296 ^ (m + 1) * 2147483648 * 4294967296 ^ K := by rw [hnK, Int.pow_add]; grind
    have h9 : 4294967296 ^ n * pp ≤ 4294967296 ^ n * 2147483648 := Int.mul_le_mul_of_nonneg_left p3 (Int.le_of_lt (pow_pos32 _))
    omega
  rw [hb3] at hA4
  rw [hb1] at hA1'
  rw [hb2] at hA2'
  have HC : Hid (val S1 = val X * pp ∧ val (trim S2) = val Y * pp ∧ (trim S2).length = m + 2 ∧ U32s (trim S2) ∧ val (trim S2) < 4294967296 ^ (m + 2) ∧ 0 < val (trim S2) ∧ 2147483648 ≤ (trim S2).getD (m + 1) 0 ∧ 1 ≤ pp ∧ n = K + (m + 1) ∧ (2 : Int) ^ s = pp ∧ S2.length = m + 3 ∧ sig S2 = m + 2 ∧ w.heap.size = b1) := ⟨by rw [vS1, hpp], hvD, lD, uD, hVlt, hV0, tS2, p1, hnK, hpp, lS2, sS2, hb1⟩
  rw [hb1, hb2, hb3]
  have HW : Hid (w.heap.size = b1) := hb1
  have HR : Hid (∃ A Q, Arr .u32 22 w4 b1 A ∧ Arr .u32 22 w4 b3 Q ∧ Arr .u32 22 w4 b2 S2 ∧ LI (val S1) (val (trim S2)) n m A Q (K - 0) ∧ Below w.heap.size w w4) := show ∃ _, _ from ⟨S1, _, hA1', hA4, hA2', by simpa using hLI, hBt⟩
  clear hb1 hb2 hb3 hA1 uS1 lS1 vS1 hA2 uS2 lS2 vS2 sS2 tS2 hA1' hA2' hBt hBt2 hnX hnK hpp p1 p3 hvD lD uD hVlt hV0 hLI H1 H2 hA4 hB1 hB2 hB4 HX
  go_loopw [34] (fun iv wr => ∃ k : Nat, iv = .int .i64 k ∧ k ≤ K ∧ Hid (∃ A Q, Arr .u32 22 wr b1 A ∧ Arr .u32 22 wr b3 Q ∧ Arr .u32 22 wr b2 S2 ∧ LI (val S1) (val (trim S2)) n m A Q (K - k) ∧ Below w.heap.size w wr)) (fun iv _ => K - (intOf iv).toNat)
  case atStart => exact ⟨0, rfl, Nat.zero_le _, HR.out⟩
  case round =>
    clear HR
    obtain ⟨k, rfl, hk, HR⟩ := hrel
    by_cases hlt : k < K
    · obtain ⟨i, hi⟩ : ∃ i, K - 1 - k = i := ⟨_, rfl⟩
      have hii : (K : Int) - 1 - k = i := by omega
      have hni : ¬ n + 1 = i := by have := HC.out.2.2.2.2.2.2.2.2.1; omega
      have hiK : i < K := by omega
      have hin : i + (m + 3) ≤ n + 1 := by have := HC.out.2.2.2.2.2.2.2.2.1; omega
      have hcall : Calls Try.prog 69 #[.slice (some ⟨b1, i, none⟩) (m + 3) (n + 1 - i), .slice (some ⟨b2, 0, none⟩) (m + 2) (m + 3)] wr fun e w' =>
          ∃ q z, e = .returned (.int .u32 q) ∧ w'.cell? ⟨b3, i, none⟩ = some (.int .u32 z) ∧ w'.frozen? ⟨b3, i, none⟩ = false ∧
            Hid (∃ A Q, Arr .u32 22 w' b1 A ∧ Arr .u32 22 w' b3 Q ∧ Arr .u32 22 w' b2 S2 ∧ LI (val S1) (val (trim S2)) n m A (Q.set i q) (K - (k + 1)) ∧ Below w.heap.size w w' ∧ i < Q.length) := by
        obtain ⟨c1, c2, c3, c4, c5, c6, c7, c8, c9, c10, c11, c12, c13⟩ := HC.out
        obtain ⟨A, Q, rA, rQ, rS, rL, rB⟩ := HR.out
        have hKi : K - k = i + 1 := by omega
        rw [hKi] at rL
        obtain ⟨lA, uA, uQ, lQ, _, _⟩ := id rL
        have hiQ : i < Q.length := by omega
        obtain ⟨s1, s2, s3⟩ := rL.seg hiQ c5
        have hRd : Rd .u32 wr b2 0 (trim S2) := by
          have := rS.rd 0 (m + 2) (by omega)
          rw [List.drop_zero] at this
          unfold trim; rw [c12]; exact this
        refine (divideStep_any A (trim S2) b1 i b2 0 (n + 1 - i) (m + 3) m wr rA uA hRd rS.lt (by omega) c4 c3 (by omega) (by omega) (by omega) (by omega) c7 s2).mono ?_
        rintro e w' ⟨Z, rfl, lZ, uZ, vZ, hA', hU'⟩
        have hQ' := hU'.arr rQ (by omega)
        refine ⟨_, _, rfl, hQ'.cell i hiQ, hQ'.frozen i, show ∃ _, _ from ⟨_, Q, hA', hQ', hU'.arr rS (by omega), ?_, hU'.below rB (by have := rA.lt; omega) (by omega), hiQ⟩⟩
        rw [show K - (k + 1) = i by omega]
        exact rL.step hiQ c6 c5 lZ uZ vZ
      have HI : Hid (K - 1 - k = i) := hi
      have hlen : i + (m + 2) + 1 - i = m + 3 := by omega
      clear hi HR
      go_wp2_with (go_at_call 69; refine hcall.mono ?_; rintro e w5 ⟨q, z, rfl, hc5, hf5, H5⟩)
      go_roundw
      case rel =>
        obtain ⟨A, Q, rA, rQ, rS, rL, rB, hiQ⟩ := H5.out
        have hb1 := HW.out
        exact ⟨k + 1, by go_num, by omega, show ∃ _, _ from ⟨A, Q.set i q, (Upd.set _ b3 i _).arr rA (by omega), rQ.set _ _, (Upd.set _ b3 i _).arr rS (by omega), rL, rB.setCell (p := ⟨b3, i, none⟩) (show w.heap.size ≤ b3 by omega) _⟩⟩
      case measure => simp [intOf]; omega
    · have hkK : k = K := by omega
      have hdn : ∃ A Q, Arr .u32 22 wr b1 A ∧ Arr .u32 22 wr b3 Q ∧ A.length = n + 1 ∧ Q.length = K ∧ U32s A ∧ U32s Q ∧ Below w.heap.size w wr ∧ val X / val Y = val Q ∧ val X % val Y = val A / 2 ^ s := by
        obtain ⟨c1, c2, c3, c4, c5, c6, c7, c8, c9, c10, c11, c12, c13⟩ := HC.out
        obtain ⟨A, Q, rA, rQ, rS, rL, rB⟩ := HR.out
        rw [hkK, Nat.sub_self] at rL
        obtain ⟨lA, uA, uQ, lQ, hT, hlt2⟩ := rL
        simp only [Int.pow_zero, Int.one_mul, Int.mul_one, List.drop_zero] at hT hlt2
        rw [c1, c2] at hT
        rw [c2] at hlt2
        obtain ⟨q1, q2⟩ := long_end hVy (by omega : 0 < pp) hT (val_nonneg uA) hlt2
        exact ⟨A, Q, rA, rQ, lA, by omega, uA, uQ, rB, q1, by rw [c10]; exact q2⟩
      obtain ⟨A, Q, rA, rQ, lA, lQ, uA, uQ, rB, q1, q2⟩ := hdn
      have hdown : Calls Try.prog 70 #[.slice (some ⟨b1, 0, none⟩) (n + 1) (n + 1), .int .i64 s] wr fun e w' => e = .returned (.tuple #[]) ∧ ∃ sq sr, (Calls Try.prog 36 #[.slice (some ⟨b3, 0, none⟩) K K] w' fun e w'' => e = .returned (.slice (some ⟨b3, 0, none⟩) sq K) ∧ w' = w'') ∧
          (Calls Try.prog 36 #[.slice (some ⟨b1, 0, none⟩) (n + 1) (n + 1)] w' fun e w'' => e = .returned (.slice (some ⟨b1, 0, none⟩) sr (n + 1)) ∧ w' = w'') ∧
          Hid (Own w.heap.size w' (.slice (some ⟨b3, 0, none⟩) sq K) (lim (val X / val Y).toNat) ∧ Own w.heap.size w' (.slice (some ⟨b1, 0, none⟩) sr (n + 1)) (lim (val X % val Y).toNat) ∧ Below w.heap.size w w') := by
        have h := shiftDown_any A s hs b1 (n + 1) wr rA uA (by omega)
        rw [lA] at h
        refine h.mono ?_
        rintro e w' ⟨S, rfl, rS, uS, lS, vS, hU⟩
        have hb1 := HW.out
        have rQ' := hU.arr rQ (by omega)
        have h1 := cut_any Q (some ⟨b3, 0, none⟩) Q.length w' rQ'.sl (by omega)
        have h2 := cut_any S (some ⟨b1, 0, none⟩) S.length w' rS.sl (by omega)
        have o1 := Own.cut (B := w.heap.size) rQ' uQ (by omega) (by omega)
        have o2 := Own.cut (B := w.heap.size) rS uS (by omega) (by omega)
        rw [lQ] at h1 o1
        rw [lS] at h2 o2
        rw [← q1] at o1
        rw [vS, ← q2] at o2
        exact ⟨rfl, sig Q, sig S, h1.mono fun e w'' h => ⟨h.1, h.2.symm⟩, h2.mono fun e w'' h => ⟨h.1, h.2.symm⟩, show _ ∧ _ from ⟨o1, o2, hU.below rB (by have := rA.lt; omega) (by omega)⟩⟩
      clear HR rA rQ lA lQ uA uQ rB q1 q2 hkK hk
      go_wp2_with (first
        | (go_at_call 70; refine hdown.mono ?_; rintro e w6 ⟨rfl, sq, sr, hcq, hcr, H6⟩)
        | (go_at_call 36; replace hcr2 := hcr2; refine hcr.mono ?_; rintro e w7 ⟨rfl, rfl⟩)
        | (go_at_call 36; refine hcq.mono ?_; rintro e w7 ⟨rfl, rfl⟩; have hcr2 : True := trivial))
      go_ret2
      obtain ⟨o1, o2, hB⟩ := H6.out
      exact ⟨⟨_, _, rfl, o1, o2⟩, hB⟩
end Go.Proofs.Yteagdgbcfbkfbab.Nt
