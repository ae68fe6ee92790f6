/-
  Clock: bytes there and back, without a walk.
-/
import Derived.Test.YtonfllajceppgaaDoorD6
namespace Go.Proofs.YtonfllajceppgaaDoor
open Go.RowKit
theorem nval_wd : ∀ (k n : Nat), n < 10 ^ k → nval (wd k n) = (n : Int)
  | 0, n, h => by simp at h; subst h; rfl
  | k + 1, n, h => by
    show nval (wd k (n / 10) ++ [48 + ((n % 10 : Nat) : Int)]) = _
    rw [nval_snoc, nval_wd k (n / 10) (by rw [Nat.pow_succ] at h; omega)]
    omega
theorem wd_nval : ∀ (k : Nat) (A : List Int), A.length = k → Dgs A → wd k (nval A).toNat = A
  | 0, A, h, _ => by
    have : A = [] := List.eq_nil_of_length_eq_zero h
    subst this; rfl
  | k + 1, A, h, hD => by
    have hne : A ≠ [] := by intro e; rw [e] at h; simp at h
    obtain ⟨Z, y, rfl, hl⟩ := split_last A hne
    have hZ : Dgs Z := fun x hx => hD x (by simp [hx])
    have hy : Dg y := hD y (by simp)
    have ih := wd_nval k Z (by omega) hZ
    have hn := (nval_bound Z hZ).1
    unfold Dg at hy
    rw [nval_snoc]
    show wd k ((10 * nval Z + (y - 48)).toNat / 10) ++ [48 + (((10 * nval Z + (y - 48)).toNat % 10 : Nat) : Int)] = Z ++ [y]
    have e1 : (10 * nval Z + (y - 48)).toNat / 10 = (nval Z).toNat := by omega
    have e2 : (((10 * nval Z + (y - 48)).toNat % 10 : Nat) : Int) = y - 48 := by omega
    rw [e1, ih, e2]
    congr 2
    omega
theorem cut_join (t : Mo) (h : t.Sm) : cutMo (joinN t) = t := by
  obtain ⟨Y, M, D, hh, m, s⟩ := t
  have y0 := h.y0; have y1 := h.y1; have m0 := h.m0; have m1 := h.m1; have d0 := h.d0; have d1 := h.d1
  have h0 := h.h0; have h1 := h.h1; have i0 := h.i0; have i1 := h.i1; have s0 := h.s0; have s1 := h.s1
  simp only at y0 y1 m0 m1 d0 d1 h0 h1 i0 i1 s0 s1
  unfold cutMo joinN
  simp only [Mo.mk.injEq]
  refine ⟨?_, ?_, ?_, ?_, ?_, ?_⟩ <;> omega
theorem join_cut (n : Int) : joinN (cutMo n) = n := by
  unfold cutMo joinN
  simp only
  omega
theorem cut_sm (n : Int) (h0 : 0 ≤ n) (h1 : n < 100000000000000) : (cutMo n).Sm := by
  unfold cutMo
  exact ⟨by simp only; omega, by simp only; omega, by simp only; omega, by simp only; omega, by simp only; omega, by simp only; omega, by simp only; omega, by simp only; omega, by simp only; omega, by simp only; omega, by simp only; omega, by simp only; omega⟩
theorem join_nonneg (t : Mo) (h : t.Sm) : 0 ≤ joinN t := by
  have y0 := h.y0; have m0 := h.m0; have d0 := h.d0; have h0 := h.h0; have i0 := h.i0; have s0 := h.s0
  unfold joinN; omega
/-! ### a fraction there and back -/
theorem trim_back : ∀ (k : Nat) (X : List Int), X.length = k → trimZ X ++ zeros (X.length - (trimZ X).length) = X
  | 0, X, h => by
    have : X = [] := List.eq_nil_of_length_eq_zero h
    subst this; rfl
  | k + 1, X, h => by
    have hne : X ≠ [] := by intro e; rw [e] at h; simp at h
    obtain ⟨Z, y, rfl, hl⟩ := split_last X hne
    by_cases hy : y = 48
    · subst hy
      rw [trim_cut]
      have ih := trim_back k Z (by omega)
      have hle := trim_len Z
      have e : (Z ++ [48]).length - (trimZ Z).length = Z.length - (trimZ Z).length + 1 := by rw [List.length_append]; simp; omega
      rw [e]
      unfold zeros at ih ⊢
      rw [List.replicate_succ', ← List.append_assoc, ih]
    · rw [trim_end _ _ hy]
      simp [zeros]
theorem trim_last : ∀ (k : Nat) (X : List Int), X.length = k → ∀ Y, trimZ X ≠ Y ++ [48]
  | 0, X, h, Y => by
    have : X = [] := List.eq_nil_of_length_eq_zero h
    subst this
    intro e
    have := congrArg List.length e
    simp [trimZ] at this
  | k + 1, X, h, Y => by
    have hne : X ≠ [] := by intro e; rw [e] at h; simp at h
    obtain ⟨Z, y, rfl, hl⟩ := split_last X hne
    by_cases hy : y = 48
    · subst hy
      rw [trim_cut]
      exact trim_last k Z (by omega) Y
    · rw [trim_end _ _ hy]
      intro e
      have := List.append_inj_right' e rfl
      simp at this
      exact hy this
theorem trim_dgs {X : List Int} (h : Dgs X) : Dgs (trimZ X) := fun x hx => by
  unfold trimZ at hx
  exact h x (List.mem_reverse.1 ((List.dropWhile_sublist _).subset (List.mem_reverse.1 hx)))
theorem trim_zeros (B : List Int) (h : ∀ Y, B ≠ Y ++ [48]) : ∀ k, trimZ (B ++ zeros k) = B
  | 0 => by
    simp only [zeros, List.replicate_zero, List.append_nil]
    by_cases hne : B = []
    · subst hne; rfl
    · obtain ⟨Z, y, rfl, _⟩ := split_last B hne
      exact trim_end _ _ (fun e => h Z (by rw [e]))
  | k + 1 => by
    have e : B ++ zeros (k + 1) = (B ++ zeros k) ++ [48] := by unfold zeros; rw [List.replicate_succ', List.append_assoc]
    rw [e, trim_cut]
    exact trim_zeros B h k
theorem mil_of (m : Nat) (h0 : m ≠ 0) (h1 : m < 1000000) : MilOk (trimZ (wd 6 m)) ∧ nval (trimZ (wd 6 m) ++ zeros (6 - (trimZ (wd 6 m)).length)) = (m : Int) := by
  have hb := trim_back 6 (wd 6 m) (wd_len 6 m)
  rw [wd_len] at hb
  have hl := trim_len (wd 6 m)
  rw [wd_len] at hl
  refine ⟨⟨?_, hl, trim_last 6 (wd 6 m) (wd_len 6 m), trim_dgs (wd_dgs 6 m)⟩, ?_⟩
  · rcases Nat.eq_zero_or_pos (trimZ (wd 6 m)).length with h | h
    · exact absurd (trim_none 6 m (by simpa using h1) (List.eq_nil_of_length_eq_zero h)) h0
    · exact h
  · rw [hb]
    exact nval_wd 6 m (by simpa using h1)
theorem fr_of {B : List Int} (h : MilOk B) : 0 ≤ nval (B ++ zeros (6 - B.length)) ∧ nval (B ++ zeros (6 - B.length)) < 1000000 ∧ fr (nval (B ++ zeros (6 - B.length))).toNat = 46 :: B := by
  obtain ⟨h1, h2, h3, h4⟩ := h
  have hC : Dgs (B ++ zeros (6 - B.length)) := dgs_app.2 ⟨h4, zeros_dg _⟩
  have hl : (B ++ zeros (6 - B.length)).length = 6 := by rw [List.length_append]; unfold zeros; simp; omega
  have hb := nval_bound _ hC
  rw [hl] at hb
  have hw := wd_nval 6 _ hl hC
  have ht := trim_zeros B h3 (6 - B.length)
  refine ⟨hb.1, by have := hb.2; simpa using this, ?_⟩
  unfold fr
  rw [hw, ht]
  rw [if_neg]
  intro h0
  rw [h0, wd_zero] at hw
  rw [← hw] at ht
  have : trimZ (zeros 6) = [] := by decide
  rw [this] at ht
  rw [← ht] at h1
  simp at h1
/-! ### what is read of what is put -/
theorem gen_says (t : Mo) (k : t.Ok) (m : Nat) (hm : m < 1000000) : GenSays (genX t m) t m := by
  have hs := k.sm
  have hj := wd_joined t hs 4
  have hn : nval (wd 4 t.Y.toNat ++ tailX t) = joinN t := by
    rw [← hj, nval_wd _ _ (by
      have y1 := hs.y1; have m1 := hs.m1; have d1 := hs.d1; have h1 := hs.h1; have i1 := hs.i1; have s1 := hs.s1
      have y0 := hs.y0; have m0 := hs.m0; have d0 := hs.d0; have h0 := hs.h0; have i0 := hs.i0; have s0 := hs.s0
      unfold joinN; omega)]
    have := join_nonneg t hs
    omega
  have hD : Dgs (wd 4 t.Y.toNat ++ tailX t) := by rw [← hj]; exact wd_dgs _ _
  have hl : (wd 4 t.Y.toNat ++ tailX t).length = 14 := by rw [← hj, wd_len]
  by_cases h0 : m = 0
  · subst h0
    refine .inl ⟨wd 4 t.Y.toNat ++ tailX t, ?_, hl, hD, by rw [hn, cut_join t hs], rfl⟩
    unfold genX fr
    simp
  · obtain ⟨h1, h2⟩ := mil_of m h0 hm
    refine .inr ⟨wd 4 t.Y.toNat ++ tailX t, trimZ (wd 6 m), ?_, hl, hD, h1, by rw [hn, cut_join t hs], h2.symm⟩
    unfold genX fr
    rw [if_neg h0]
theorem says_gen {X : List Int} {t : Mo} {mi : Int} (h : GenSays X t mi) : 0 ≤ mi ∧ mi < 1000000 ∧ (t.Ok → genX t mi.toNat = X) := by
  rcases h with ⟨A, rfl, hl, hD, rfl, rfl⟩ | ⟨A, B, rfl, hl, hD, hB, rfl, rfl⟩
  · refine ⟨by decide, by decide, fun k => ?_⟩
    have hb := nval_bound A hD
    rw [hl] at hb
    have hj := wd_joined _ k.sm 4
    rw [join_cut, wd_nval 14 A hl hD] at hj
    unfold genX
    rw [← hj]
    simp [fr]
  · obtain ⟨h1, h2, h3⟩ := fr_of hB
    refine ⟨h1, h2, fun k => ?_⟩
    have hb := nval_bound A hD
    rw [hl] at hb
    have hj := wd_joined _ k.sm 4
    rw [join_cut, wd_nval 14 A hl hD] at hj
    unfold genX
    rw [← hj, h3]
theorem says_uniq {X : List Int} {t t' : Mo} {mi mi' : Int} (h : GenSays X t mi) (h' : GenSays X t' mi') : t = t' ∧ mi = mi' := by
  rcases h with ⟨A, rfl, hl, hD, rfl, rfl⟩ | ⟨A, B, rfl, hl, hD, hB, rfl, rfl⟩
  · rcases h' with ⟨A', e, hl', hD', rfl, rfl⟩ | ⟨A', B', e, hl', hD', hB', rfl, rfl⟩
    · have := List.append_inj_left' e rfl
      subst this; exact ⟨rfl, rfl⟩
    · have := List.append_inj_left' e rfl
      exact absurd (by rw [this]; simp) (not46 hD)
  · rcases h' with ⟨A', e, hl', hD', rfl, rfl⟩ | ⟨A', B', e, hl', hD', hB', rfl, rfl⟩
    · have := List.append_inj_left' e rfl
      exact absurd (by rw [← this]; simp) (not46 hD')
    · have := List.append_inj_left' e rfl
      obtain ⟨rfl, rfl⟩ := app46 this (not46 hD) (not46 hD')
      exact ⟨rfl, rfl⟩
theorem utc_says (t : Mo) (k : t.Ok) (hy : 1950 ≤ t.Y ∧ t.Y ≤ 2049) : ∃ A, utcX t = A ++ [90] ∧ A.length = 12 ∧ Dgs A ∧ utcMo (nval A) = t := by
  have s := k.sm
  have hS : ({ t with Y := t.Y % 100 } : Mo).Sm := ⟨by simp only; omega, by simp only; omega, s.m0, s.m1, s.d0, s.d1, s.h0, s.h1, s.i0, s.i1, s.s0, s.s1⟩
  have hj := wd_joined _ hS 2
  have hy2 : wd 2 (t.Y % 100).toNat = wd 2 t.Y.toNat := by
    have e : t.Y.toNat = (t.Y.toNat / 100) * 10 ^ 2 + (t.Y % 100).toNat := by omega
    rw [e, wd_low]
  have ht : tailX { t with Y := t.Y % 100 } = tailX t := rfl
  simp only [hy2, ht] at hj
  have hn : nval (wd 2 t.Y.toNat ++ tailX t) = joinN { t with Y := t.Y % 100 } := by
    rw [← hj, nval_wd _ _ (by
      have m1 := s.m1; have d1 := s.d1; have h1 := s.h1; have i1 := s.i1; have s1 := s.s1
      have m0 := s.m0; have d0 := s.d0; have h0 := s.h0; have i0 := s.i0; have s0 := s.s0
      unfold joinN; simp only; omega)]
    have := join_nonneg _ hS
    omega
  refine ⟨wd 2 t.Y.toNat ++ tailX t, rfl, by rw [← hj, wd_len], by rw [← hj]; exact wd_dgs _ _, ?_⟩
  rw [hn]
  unfold utcMo
  rw [cut_join _ hS]
  obtain ⟨Y, M, D, h, m, s'⟩ := t
  simp only at hy ⊢
  split
  · simp only [Mo.mk.injEq, and_true]; omega
  · simp only [Mo.mk.injEq, and_true]; omega
theorem says_utc {A : List Int} (hl : A.length = 12) (hD : Dgs A) : (1950 ≤ (utcMo (nval A)).Y ∧ (utcMo (nval A)).Y ≤ 2049) ∧ utcX (utcMo (nval A)) = A ++ [90] := by
  have hb := nval_bound A hD
  rw [hl] at hb
  have b1 : nval A < 1000000000000 := by have := hb.2; simpa using this
  have hS := cut_sm (nval A) hb.1 (by omega)
  have hY : 0 ≤ (cutMo (nval A)).Y ∧ (cutMo (nval A)).Y ≤ 99 := by
    have := hb.1
    unfold cutMo; simp only; omega
  have hj := wd_joined _ hS 2
  rw [join_cut, wd_nval 12 A hl hD] at hj
  have hw : ∀ c : Int, wd 2 ((cutMo (nval A)).Y + 1900 + c * 100).toNat = wd 2 (cutMo (nval A)).Y.toNat ∨ c < 0 := by
    intro c
    by_cases hc : c < 0
    · exact .inr hc
    · left
      have e : ((cutMo (nval A)).Y + 1900 + c * 100).toNat = (19 + c.toNat) * 10 ^ 2 + (cutMo (nval A)).Y.toNat := by omega
      rw [e, wd_low]
  have w0 := (hw 0).resolve_right (by decide)
  have w1 := (hw 1).resolve_right (by decide)
  unfold utcMo
  split
  · refine ⟨by simp only; omega, ?_⟩
    unfold utcX
    show wd 2 ((cutMo (nval A)).Y + 1900 + 100).toNat ++ tailX (cutMo (nval A)) ++ [90] = _
    have e : (cutMo (nval A)).Y + 1900 + 100 = (cutMo (nval A)).Y + 1900 + 1 * 100 := by omega
    rw [e, w1, ← hj]
  · refine ⟨by simp only; omega, ?_⟩
    unfold utcX
    show wd 2 ((cutMo (nval A)).Y + 1900).toNat ++ tailX (cutMo (nval A)) ++ [90] = _
    have e : (cutMo (nval A)).Y + 1900 = (cutMo (nval A)).Y + 1900 + 0 * 100 := by omega
    rw [e, w0, ← hj]
end Go.Proofs.YtonfllajceppgaaDoor
