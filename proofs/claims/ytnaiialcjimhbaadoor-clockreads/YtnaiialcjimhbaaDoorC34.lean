/-
  Clock: what the reference's General reads, against what General says.
-/
import Derived.Test.YtnaiialcjimhbaaDoorC32
namespace Go.Proofs.YtnaiialcjimhbaaDoor
open Go.RowKit
theorem nval_zeros (A : List Int) (k : Nat) : nval (A ++ zeros k) = nval A * 10 ^ k := by
  induction k with
  | zero => simp [zeros]
  | succ k ih =>
    have : A ++ zeros (k + 1) = (A ++ zeros k) ++ [48] := by
      unfold zeros; rw [List.replicate_succ', List.append_assoc]
    rw [this, nval_snoc, ih, Int.pow_succ]
    have e : nval A * 10 ^ k * 10 = nval A * (10 ^ k * 10) := Int.mul_assoc _ _ _
    omega
theorem list14 {A : List Int} (h : A.length = 14) : ∃ a b c d e f g i j k l m n o, A = [a, b, c, d, e, f, g, i, j, k, l, m, n, o] := by
  match A, h with
  | [a, b, c, d, e, f, g, i, j, k, l, m, n, o], _ => exact ⟨a, b, c, d, e, f, g, i, j, k, l, m, n, o, rfl⟩
theorem dgs4 {a b c d : Int} : Dgs [a, b, c, d] ↔ (48 ≤ a ∧ a ≤ 57) ∧ (48 ≤ b ∧ b ≤ 57) ∧ (48 ≤ c ∧ c ≤ 57) ∧ (48 ≤ d ∧ d ≤ 57) := by
  unfold Dgs Dg; simp
/-- fourteen digits say the moment that the reference reads -/
theorem gen14 {A R : List Int} (hl : A.length = 14) (hO : RestOk (restMo (A ++ R) 4 (numR (A ++ R) 0 4))) :
    Dgs A ∧ cutMo (nval A) = restMo (A ++ R) 4 (numR (A ++ R) 0 4) := by
  obtain ⟨o0, o1, o2, o3, o4, o5⟩ := hO
  simp only [restMo] at o0 o1 o2 o3 o4 o5
  have hL : 14 ≤ (A ++ R).length := by rw [List.length_append]; omega
  have d0 := (numR_ge.2 o0).2
  have d1 := (numR_ge.2 o1).2
  have d2 := (numR_ge.2 o2).2
  have d3 := (numR_ge.2 o3).2
  have d4 := (numR_ge.2 o4).2
  have d5 := (numR_ge.2 o5).2
  have e0 := numR_yes (X := A ++ R) (i := 0) (n := 4) (by omega) d0
  have e1 := numR_yes (X := A ++ R) (i := 4) (n := 2) (by omega) d1
  have e2 := numR_yes (X := A ++ R) (i := 4 + 2) (n := 2) (by omega) d2
  have e3 := numR_yes (X := A ++ R) (i := 4 + 4) (n := 2) (by omega) d3
  have e4 := numR_yes (X := A ++ R) (i := 4 + 6) (n := 2) (by omega) d4
  have e5 := numR_yes (X := A ++ R) (i := 4 + 8) (n := 2) (by omega) d5
  unfold restMo
  rw [e0, e1, e2, e3, e4, e5]
  clear o0 o1 o2 o3 o4 o5 e0 e1 e2 e3 e4 e5 hL
  obtain ⟨a, b, c, d, e, f, g, i, j, k, l, m, n, o, rfl⟩ := list14 hl
  have s0 : sub ([a, b, c, d, e, f, g, i, j, k, l, m, n, o] ++ R) 0 4 = [a, b, c, d] := rfl
  have s1 : sub ([a, b, c, d, e, f, g, i, j, k, l, m, n, o] ++ R) 4 2 = [e, f] := rfl
  have s2 : sub ([a, b, c, d, e, f, g, i, j, k, l, m, n, o] ++ R) (4 + 2) 2 = [g, i] := rfl
  have s3 : sub ([a, b, c, d, e, f, g, i, j, k, l, m, n, o] ++ R) (4 + 4) 2 = [j, k] := rfl
  have s4 : sub ([a, b, c, d, e, f, g, i, j, k, l, m, n, o] ++ R) (4 + 6) 2 = [l, m] := rfl
  have s5 : sub ([a, b, c, d, e, f, g, i, j, k, l, m, n, o] ++ R) (4 + 8) 2 = [n, o] := rfl
  rw [s0] at d0 ⊢; rw [s1] at d1 ⊢; rw [s2] at d2 ⊢; rw [s3] at d3 ⊢; rw [s4] at d4 ⊢; rw [s5] at d5 ⊢
  have q0 := dgs4.1 d0; have q1 := dgs2.1 d1; have q2 := dgs2.1 d2; have q3 := dgs2.1 d3; have q4 := dgs2.1 d4; have q5 := dgs2.1 d5
  refine ⟨?_, ?_⟩
  · have : ([a, b, c, d, e, f, g, i, j, k, l, m, n, o] : List Int) = [a, b, c, d] ++ ([e, f] ++ ([g, i] ++ ([j, k] ++ ([l, m] ++ [n, o])))) := rfl
    rw [this]
    exact dgs_app.2 ⟨d0, dgs_app.2 ⟨d1, dgs_app.2 ⟨d2, dgs_app.2 ⟨d3, dgs_app.2 ⟨d4, d5⟩⟩⟩⟩⟩
  · simp only [nval2]
    refine cut6 ?_ ?_ ?_ ?_ ?_ ?_
    · omega
    · omega
    · omega
    · omega
    · omega
    · simp [nval]; omega
theorem gen14_ok {A R : List Int} (hl : A.length = 14) (hD : Dgs A) : RestOk (restMo (A ++ R) 4 (numR (A ++ R) 0 4)) :=
  ⟨numR_nn _ hD _ _ (by omega), numR_nn _ hD _ _ (by omega), numR_nn _ hD _ _ (by omega), numR_nn _ hD _ _ (by omega), numR_nn _ hD _ _ (by omega), numR_nn _ hD _ _ (by omega)⟩
theorem split_last {X : List Int} {n : Nat} (hl : X.length = n + 1) (hz : X.getD n 0 = 90) : X = X.take n ++ [90] := by
  have h := take_snoc X n (by omega)
  rw [hz, List.take_of_length_le (by omega)] at h
  exact h
/-- fifteen bytes -/
theorem gen_yes15 {X : List Int} (hl : X.length = 15) (hz : X.getD 14 0 = 90) (hO : RestOk (restMo X 4 (numR X 0 4))) : GenSays X (restMo X 4 (numR X 0 4)) 0 := by
  have e := split_last (n := 14) hl hz
  obtain ⟨A, hA⟩ : ∃ A, X.take 14 = A := ⟨_, rfl⟩
  have lA : A.length = 14 := by rw [← hA, List.length_take]; omega
  rw [hA] at e
  subst e
  obtain ⟨hD, hc⟩ := gen14 lA hO
  exact Or.inl ⟨A, rfl, lA, hD, hc.symm, rfl⟩
/-- more bytes, with a point -/
theorem gen_yes {X : List Int} {n : Nat} (hl : X.length = 16 + n) (h1 : 1 ≤ n) (h6 : n ≤ 6) (hp : X.getD 14 0 = 46) (hz : X.getD (15 + n) 0 = 90) (hO : RestOk (restMo X 4 (numR X 0 4)))
    (hm : 0 ≤ numR X 15 n) (hr : ¬ numR X 15 n % 10 = 0) : GenSays X (restMo X 4 (numR X 0 4)) (numR X 15 n * 10 ^ (6 - n)) := by
  have dB := (numR_ge.2 hm).2
  have eB := numR_yes (X := X) (i := 15) (n := n) (by omega) dB
  have lB : (sub X 15 n).length = n := sub_len (by omega)
  obtain ⟨B, hB⟩ : ∃ B, sub X 15 n = B := ⟨_, rfl⟩
  have e : X = (X.take 14 ++ 46 :: B) ++ [90] := by
    have e1 := split_last (n := 15 + n) (by omega) hz
    have e2 : X.take (15 + n) = X.take 14 ++ 46 :: B := by
      have e3 : X.take (15 + n) = X.take 15 ++ sub X 15 n := by
        unfold sub; rw [List.take_add]
      rw [e3, hB, take_snoc X 14 (by omega), hp]; simp
    rw [← e2]; exact e1
  obtain ⟨A, hA⟩ : ∃ A, X.take 14 = A := ⟨_, rfl⟩
  have lA : A.length = 14 := by rw [← hA, List.length_take]; omega
  rw [hA] at e
  have e' : X = A ++ (46 :: B ++ [90]) := by rw [e]; simp
  have hO' : RestOk (restMo (A ++ (46 :: B ++ [90])) 4 (numR (A ++ (46 :: B ++ [90])) 0 4)) := by rw [← e']; exact hO
  obtain ⟨hD, hc⟩ := gen14 lA hO'
  rw [← e'] at hc
  rw [hB] at lB dB eB
  refine Or.inr ⟨A, B, e, lA, hD, ⟨by omega, by omega, fun Y hY => ?_, dB⟩, hc.symm, ?_⟩
  · apply hr
    rw [eB, hY, nval_snoc]; omega
  · rw [eB, nval_zeros, lB]
/-- what says a moment has one of these forms -/
theorem gen_no {X : List Int} {t : Mo} {mi : Int} (h : GenSays X t mi) :
    RestOk (restMo X 4 (numR X 0 4)) ∧ 15 ≤ X.length ∧ X.getD (X.length - 1) 0 = 90 ∧ (X.length = 15 ∨ ∃ n, X.length = 16 + n ∧ 1 ≤ n ∧ n ≤ 6 ∧ X.getD 14 0 = 46 ∧ 0 ≤ numR X 15 n ∧ ¬ numR X 15 n % 10 = 0) := by
  rcases h with ⟨A, rfl, lA, hD, _⟩ | ⟨A, B, rfl, lA, hD, hM, _⟩
  · refine ⟨gen14_ok lA hD, by simp; omega, ?_, Or.inl (by simp; omega)⟩
    rw [List.getD_eq_getElem?_getD, List.getElem?_append_right (by simp), List.length_append]; simp
  · have e' : (A ++ 46 :: B) ++ [90] = A ++ (46 :: B ++ [90]) := by simp
    have lX : ((A ++ 46 :: B) ++ [90]).length = 16 + B.length := by simp; omega
    refine ⟨?_, by omega, ?_, Or.inr ⟨B.length, lX, hM.1, hM.2.1, ?_, ?_⟩⟩
    · rw [e']; exact gen14_ok lA hD
    · rw [List.getD_eq_getElem?_getD, List.getElem?_append_right (by simp), List.length_append]; simp
    · rw [e', List.getD_eq_getElem?_getD, List.getElem?_append_right (by omega), lA]; rfl
    · have hs : sub ((A ++ 46 :: B) ++ [90]) 15 B.length = B := by
        have : (A ++ 46 :: B) ++ [90] = (A ++ [46]) ++ (B ++ [90]) := by simp
        unfold sub
        rw [this, List.drop_left' (by simp; omega), List.take_left' rfl]
      have hn := numR_yes (X := (A ++ 46 :: B) ++ [90]) (i := 15) (n := B.length) (by omega) (by rw [hs]; exact hM.2.2.2)
      rw [hn, hs]
      refine ⟨(nval_bound _ hM.2.2.2).1, fun hk => ?_⟩
      rcases List.eq_nil_or_concat B with hB | ⟨Y, z, hB⟩
      · rw [hB] at hM; have := hM.1; simp at this
      · rw [List.concat_eq_append] at hB
        have hz := hM.2.2.2 z (by rw [hB]; simp)
        unfold Dg at hz
        rw [hB, nval_snoc] at hk
        have : z = 48 := by omega
        exact hM.2.2.1 Y (by rw [hB, this])
end Go.Proofs.YtnaiialcjimhbaaDoor
