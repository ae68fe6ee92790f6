/-
  Der: the reference's numbers of a text.
-/
import Derived.Test.YtndcpjnfdgojkaaDoorE78
namespace Go.Proofs.YtndcpjnfdgojkaaDoor
open Go.RowKit
theorem Tryd.undInt : Tryd.prog.underlying 91 = some (.slice 3) := by kernel_rfl
theorem Tryd.infoInt : (Tryd.prog.info? 3).map (fun i => (i.zero, i.size, i.bytes)) = some (some (.int .i64 0), 1, 8) := by kernel_rfl
/-- The value of k digits from place f on. -/
def dv (Y : List Int) (f : Nat) : Nat → Nat
  | 0 => 0
  | k + 1 => 10 * dv Y f k + (Y.getD (f + k) 0 - 48).toNat
def Digs (Y : List Int) (f i : Nat) : Prop := ∀ j, f ≤ j → j < i → 48 ≤ Y.getD j 0 ∧ Y.getD j 0 ≤ 57
/-- The reference stands at i; the number that it reads begins at f. -/
def Good (Y : List Int) (f i : Nat) (A : List Nat) : Prop := f ≤ i ∧ Digs Y f i ∧ ast Y i = some (A, dv Y f (i - f), i - f)
def Doom (Y : List Int) (f i : Nat) : Prop := f + 1 < i ∧ Digs Y f i ∧ Y.getD f 0 = 48 ∧ ast Y i = none
theorem digs_snoc {Y : List Int} {f i : Nat} {x : Int} (h : Digs Y f i) (hx : Y.getD i 0 = x) (h0 : 48 ≤ x) (h1 : x ≤ 57) : Digs Y f (i + 1) := by
  intro j hf hj
  by_cases hji : j = i
  · subst hji; rw [hx]; exact ⟨h0, h1⟩
  · exact h j hf (by omega)
/-- A number that has begun with 0 and is 0 has that digit alone. -/
theorem dv_zero {Y : List Int} {f i : Nat} {A : List Nat} (hg : Good Y f i A) (hk : f < i) (hv : dv Y f (i - f) = 0) : i = f + 1 ∧ Y.getD f 0 = 48 := by
  obtain ⟨hfi, hd, ha⟩ := hg
  obtain ⟨m, hm⟩ : ∃ m, i = f + m + 1 := ⟨i - f - 1, by omega⟩
  subst hm
  have e : f + m + 1 - f = m + 1 := by omega
  rw [e] at hv ha
  have hv' : 10 * dv Y f m + (Y.getD (f + m) 0 - 48).toNat = 0 := hv
  by_cases hm0 : m = 0
  · subst hm0
    have := hd f (Nat.le_refl _) (by omega)
    simp only [Nat.add_zero] at hv'
    exact ⟨by omega, by omega⟩
  · exfalso
    cases hq : ast Y (f + m) with
    | none =>
      have := ast_none hq 1
      rw [ha] at this; cases this
    | some q =>
      obtain ⟨A', v', k'⟩ := q
      have hs := ast_step hq rfl
      have hdx := hd (f + m) (by omega) (by omega)
      rw [ha] at hs
      rw [if_neg (by omega)] at hs
      split at hs
      · cases hs
      · rename_i hn
        simp only [Option.some.injEq, Prod.mk.injEq] at hs
        obtain ⟨_, h1, h2⟩ := hs
        have h3 : v' ≠ 0 := by intro h; exact hn (.inr (.inr ⟨h, by omega⟩))
        rw [show dv Y f (m + 1) = 10 * dv Y f m + (Y.getD (f + m) 0 - 48).toNat from rfl] at h1
        omega
/-- A digit more. -/
theorem good_digit {Y : List Int} {f i : Nat} {A : List Nat} {x : Int} (hg : Good Y f i A) (hx : Y.getD i 0 = x) (h0 : 48 ≤ x) (h1 : x ≤ 57) : Good Y f (i + 1) A ∨ Doom Y f (i + 1) := by
  obtain ⟨hfi, hd, ha⟩ := hg
  have hs := ast_step ha hx
  rw [if_neg (by omega)] at hs
  by_cases hz : dv Y f (i - f) = 0 ∧ 0 < i - f
  · right
    have hz2 := dv_zero ⟨hfi, hd, ha⟩ (by omega) hz.1
    exact ⟨by omega, digs_snoc hd hx h0 h1, hz2.2, by rw [hs, if_pos (by omega)]⟩
  · left
    refine ⟨by omega, digs_snoc hd hx h0 h1, ?_⟩
    rw [hs, if_neg (by omega), show i + 1 - f = (i - f) + 1 by omega]
    show _ = some (A, 10 * dv Y f (i - f) + (Y.getD (f + (i - f)) 0 - 48).toNat, _)
    rw [show f + (i - f) = i by omega, hx]
theorem doom_digit {Y : List Int} {f i : Nat} {x : Int} (hg : Doom Y f i) (hx : Y.getD i 0 = x) (h0 : 48 ≤ x) (h1 : x ≤ 57) : Doom Y f (i + 1) := by
  obtain ⟨a, b, c, d⟩ := hg
  exact ⟨by omega, digs_snoc b hx h0 h1, c, ast_none d 1⟩
theorem good_prev {Y : List Int} {f i : Nat} {A : List Nat} (hg : Good Y f (i + 1) A) (hf : f ≤ i) : Good Y f i A ∧ ¬ (dv Y f (i - f) = 0 ∧ 0 < i - f) := by
  obtain ⟨_, hd, ha⟩ := hg
  rw [show i + 1 - f = (i - f) + 1 by omega] at ha
  cases hq : ast Y i with
  | none => rw [show ast Y (i + 1) = none from ast_none hq 1] at ha; cases ha
  | some q =>
    obtain ⟨A', v', k'⟩ := q
    have hs := ast_step hq rfl
    have hdx := hd i hf (by omega)
    rw [ha, if_neg (by omega)] at hs
    split at hs
    · cases hs
    · rename_i hn
      simp only [Option.some.injEq, Prod.mk.injEq] at hs
      obtain ⟨h0, h1, h2⟩ := hs
      rw [show dv Y f (i - f + 1) = 10 * dv Y f (i - f) + (Y.getD (f + (i - f)) 0 - 48).toNat from rfl, show f + (i - f) = i by omega] at h1
      have hv : v' = dv Y f (i - f) := by omega
      have hk : k' = i - f := by omega
      subst hv
      subst hk
      subst h0
      exact ⟨⟨hf, fun j h3 h4 => hd j h3 (by omega), hq⟩, fun h => hn (.inr (.inr h))⟩
theorem good_lead {Y : List Int} {f : Nat} {A : List Nat} : ∀ d, Good Y f (f + 2 + d) A → Y.getD f 0 ≠ 48
  | 0, hg => by
    have h1 := (good_prev (i := f + 1) hg (by omega)).2
    intro h
    refine h1 ⟨?_, by omega⟩
    rw [show f + 1 - f = 0 + 1 by omega]
    show 10 * 0 + (Y.getD (f + 0) 0 - 48).toNat = 0
    rw [Nat.add_zero, h]; rfl
  | d + 1, hg => good_lead d (good_prev (i := f + 2 + d) hg (by omega)).1
end Go.Proofs.YtndcpjnfdgojkaaDoor
