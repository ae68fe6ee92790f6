/-
  Curves: points of y^2 = x^3 + a x + b modulo a prime are a group (pure).
-/
import Derived.Test.YtkdclocjijmgpaaRows
import Derived.WalkKit
import Derived.WalkSpells
import Derived.WalkLawsBesides
import Derived.Laws.CopyOwn
import Derived.Laws.OwnMore
import Derived.Deep.QuietTactic
import Derived.BigQuiet
namespace Go.Proofs.Ytkdclocjijmgpaa.Gl
/-- What is asked of the numbers modulo p: no zero divisors, inverses, 2 is not 0. -/
structure Fd (p : Nat) [NeZero p] : Prop where
  dom : ∀ a b : Fin p, a * b = 0 → a = 0 ∨ b = 0
  inv : ∀ a : Fin p, a ≠ 0 → ∃ i, a * i = 1
  two : (2 : Fin p) ≠ 0
variable {p : Nat} [NeZero p]
theorem Fd.cancel (h : Fd p) {c a b : Fin p} (hc : c ≠ 0) (he : c * a = c * b) : a = b := by
  have : c * (a - b) = 0 := by grobner
  rcases h.dom _ _ this with h1 | h1
  · exact absurd h1 hc
  · grobner
theorem Fd.mulne (h : Fd p) {a b : Fin p} (ha : a ≠ 0) (hb : b ≠ 0) : a * b ≠ 0 := fun he => by
  rcases h.dom _ _ he with h1 | h1
  · exact ha h1
  · exact hb h1
theorem Fd.half (h : Fd p) {a : Fin p} (he : a + a = 0) : a = 0 := by
  have : 2 * a = 0 := by grobner
  rcases h.dom _ _ this with h1 | h1
  · exact absurd h1 h.two
  · exact h1
/-- An inverse, found by going through all. -/
def inv (a : Fin p) : Fin p := ((List.finRange p).find? fun i => a * i == 1).getD 0
theorem inv_mul (h : Fd p) {a : Fin p} (ha : a ≠ 0) : a * inv a = 1 := by
  unfold inv
  cases he : (List.finRange p).find? fun i => a * i == 1 with
  | none =>
    obtain ⟨i, hi⟩ := h.inv a ha
    have := List.find?_eq_none.1 he i (List.mem_finRange i)
    simp [hi] at this
  | some i =>
    have := List.find?_some he
    simpa using this
/-- A curve: a, b. -/
structure Ec (p : Nat) [NeZero p] where
  a : Fin p
  b : Fin p
def Ec.on (c : Ec p) (x y : Fin p) : Prop := y * y = x * x * x + c.a * x + c.b
structure Ec.Ok (c : Ec p) : Prop where
  fd : Fd p
  ns : ∀ x, c.on x 0 → 3 * x * x + c.a ≠ 0
abbrev Pt (p : Nat) := Option (Fin p × Fin p)
def Ec.On (c : Ec p) : Pt p → Prop
  | none => True
  | some (x, y) => c.on x y
def neg : Pt p → Pt p
  | none => none
  | some (x, y) => some (x, -y)
def Ec.slope (c : Ec p) (x1 y1 x2 y2 : Fin p) : Fin p :=
  if x1 = x2 then (3 * x1 * x1 + c.a) * inv (2 * y1) else (y2 - y1) * inv (x2 - x1)
def third (s x1 y1 x2 : Fin p) : Pt p := some (s * s - x1 - x2, s * (x1 - (s * s - x1 - x2)) - y1)
def Ec.add (c : Ec p) : Pt p → Pt p → Pt p
  | none, Q => Q
  | P, none => P
  | some (x1, y1), some (x2, y2) => if x1 = x2 ∧ y1 + y2 = 0 then none else third (c.slope x1 y1 x2 y2) x1 y1 x2
/-- A slope of two points: both ways to say it. -/
def Ec.Sl (c : Ec p) (s x1 y1 x2 y2 : Fin p) : Prop := s * (x2 - x1) = y2 - y1 ∧ s * (y1 + y2) = x1 * x1 + x1 * x2 + x2 * x2 + c.a
variable {c : Ec p}
theorem slope_ok (hc : c.Ok) {x1 y1 x2 y2 : Fin p} (h1 : c.on x1 y1) (h2 : c.on x2 y2) (hn : ¬ (x1 = x2 ∧ y1 + y2 = 0)) : c.Sl (c.slope x1 y1 x2 y2) x1 y1 x2 y2 := by
  unfold Ec.on at h1 h2
  unfold Ec.Sl Ec.slope
  split
  · rename_i he
    subst he
    have hs : y1 + y2 ≠ 0 := fun h => hn ⟨rfl, h⟩
    have hd : (y1 + y2) * (y1 - y2) = 0 := by grobner
    have hy : y1 = y2 := by
      rcases hc.fd.dom _ _ hd with h | h
      · exact absurd h hs
      · grobner
    subst hy
    have h2y : 2 * y1 ≠ 0 := by grobner
    have hi := inv_mul hc.fd h2y
    generalize inv (2 * y1) = i at hi ⊢
    constructor <;> grobner
  · rename_i he
    have hx : x2 - x1 ≠ 0 := by grobner
    have hi := inv_mul hc.fd hx
    generalize inv (x2 - x1) = i at hi ⊢
    refine ⟨by grobner, ?_⟩
    refine hc.fd.cancel hx ?_
    grobner
theorem slope_uniq (hc : c.Ok) {x1 y1 x2 y2 s t : Fin p} (hn : ¬ (x1 = x2 ∧ y1 + y2 = 0)) (hs : c.Sl s x1 y1 x2 y2) (ht : c.Sl t x1 y1 x2 y2) : s = t := by
  obtain ⟨s1, s2⟩ := hs
  obtain ⟨t1, t2⟩ := ht
  by_cases he : x1 = x2
  · have hy : y1 + y2 ≠ 0 := fun h => hn ⟨he, h⟩
    exact hc.fd.cancel hy (by grobner)
  · have hx : x2 - x1 ≠ 0 := by grobner
    exact hc.fd.cancel hx (by grobner)
/-- The sum by any slope. -/
theorem add_of (hc : c.Ok) {x1 y1 x2 y2 s : Fin p} (h1 : c.on x1 y1) (h2 : c.on x2 y2) (hn : ¬ (x1 = x2 ∧ y1 + y2 = 0)) (hs : c.Sl s x1 y1 x2 y2) : c.add (some (x1, y1)) (some (x2, y2)) = third s x1 y1 x2 := by
  show (if x1 = x2 ∧ y1 + y2 = 0 then none else third (c.slope x1 y1 x2 y2) x1 y1 x2) = _
  rw [if_neg hn, slope_uniq hc hn (slope_ok hc h1 h2 hn) hs]
theorem add_opp {x1 y1 x2 y2 : Fin p} (hn : x1 = x2 ∧ y1 + y2 = 0) : c.add (some (x1, y1)) (some (x2, y2)) = none := by
  show (if x1 = x2 ∧ y1 + y2 = 0 then none else _) = _
  rw [if_pos hn]
theorem third_on {x1 y1 x2 y2 s : Fin p} (h1 : c.on x1 y1) (hs : c.Sl s x1 y1 x2 y2) : c.On (third s x1 y1 x2) := by
  obtain ⟨s1, s2⟩ := hs
  show c.on _ _
  unfold Ec.on at *
  have : y2 = y1 + s * (x2 - x1) := by grobner
  subst this
  grobner
theorem add_zero (P : Pt p) : c.add P none = P := by cases P <;> rfl
theorem zero_add (P : Pt p) : c.add none P = P := rfl
theorem add_on (hc : c.Ok) {P Q : Pt p} (hP : c.On P) (hQ : c.On Q) : c.On (c.add P Q) := by
  match P, Q, hP, hQ with
  | none, Q, _, hQ => exact hQ
  | some (x1, y1), none, hP, _ => exact hP
  | some (x1, y1), some (x2, y2), hP, hQ =>
    by_cases hn : x1 = x2 ∧ y1 + y2 = 0
    · rw [add_opp hn]; trivial
    · rw [add_of hc hP hQ hn (slope_ok hc hP hQ hn)]
      exact third_on hP (slope_ok hc hP hQ hn)
theorem Sl.symm {s x1 y1 x2 y2 : Fin p} (h : c.Sl s x1 y1 x2 y2) : c.Sl s x2 y2 x1 y1 := by
  obtain ⟨h1, h2⟩ := h
  constructor <;> grobner
theorem third_symm {s x1 y1 x2 y2 : Fin p} (h : c.Sl s x1 y1 x2 y2) : third s x1 y1 x2 = third s x2 y2 x1 := by
  obtain ⟨h1, h2⟩ := h
  unfold third
  congr 2 <;> grobner
theorem add_comm (hc : c.Ok) {P Q : Pt p} (hP : c.On P) (hQ : c.On Q) : c.add P Q = c.add Q P := by
  match P, Q, hP, hQ with
  | none, Q, _, hQ => rw [add_zero]; rfl
  | some (x1, y1), none, hP, _ => rfl
  | some (x1, y1), some (x2, y2), hP, hQ =>
    by_cases hn : x1 = x2 ∧ y1 + y2 = 0
    · rw [add_opp hn, add_opp ⟨hn.1.symm, by grobner⟩]
    · have hs := slope_ok hc hP hQ hn
      rw [add_of hc hP hQ hn hs, add_of hc hQ hP (fun h => hn ⟨h.1.symm, by grobner⟩) (Sl.symm hs), third_symm hs]
theorem neg_on {P : Pt p} (hP : c.On P) : c.On (neg P) := by
  match P, hP with
  | none, _ => trivial
  | some (x, y), h =>
    show c.on x (-y)
    unfold Ec.On Ec.on at *
    grobner
theorem neg_neg (P : Pt p) : neg (neg P) = P := by
  match P with
  | none => rfl
  | some (x, y) => show some (x, - -y) = _; congr 2; grobner
theorem add_neg (P : Pt p) : c.add P (neg P) = none := by
  match P with
  | none => rfl
  | some (x, y) => exact add_opp ⟨rfl, by grobner⟩
theorem pt_eq {q : Nat} {x y x' y' : Fin q} (h : x = x') (g : y = y') : (some (x, y) : Pt q) = some (x', y') := by rw [h, g]
theorem third_neg (s x1 y1 x2 : Fin p) : neg (third s x1 y1 x2) = third (-s) x1 (-y1) x2 := pt_eq (by grobner) (by grobner)
theorem neg_add (hc : c.Ok) {P Q : Pt p} (hP : c.On P) (hQ : c.On Q) : neg (c.add P Q) = c.add (neg P) (neg Q) := by
  match P, Q, hP, hQ with
  | none, Q, _, hQ => rfl
  | some (x1, y1), none, hP, _ => rfl
  | some (x1, y1), some (x2, y2), hP, hQ =>
    by_cases hn : x1 = x2 ∧ y1 + y2 = 0
    · rw [add_opp hn]
      exact (add_opp ⟨hn.1, by grobner⟩).symm
    · have hs := slope_ok hc hP hQ hn
      generalize c.slope x1 y1 x2 y2 = s at hs
      rw [add_of hc hP hQ hn hs]
      have hm : c.Sl (-s) x1 (-y1) x2 (-y2) := by obtain ⟨h1, h2⟩ := hs; constructor <;> grobner
      show neg _ = c.add (some (x1, -y1)) (some (x2, -y2))
      rw [add_of hc (neg_on (P := some (x1, y1)) hP) (neg_on (P := some (x2, y2)) hQ) (fun h => hn ⟨h.1, by grobner⟩) hm]
      exact third_neg s x1 y1 x2
/-- -Q + (Q + R) = R. -/
theorem cancel (hc : c.Ok) {Q R : Pt p} (hQ : c.On Q) (hR : c.On R) : c.add (neg Q) (c.add Q R) = R := by
  match Q, R, hQ, hR with
  | none, R, _, hR => rfl
  | some (x1, y1), none, hQ, _ =>
    rw [add_zero, add_comm hc (neg_on hQ) hQ, add_neg]
  | some (x1, y1), some (x2, y2), hQ, hR =>
    by_cases hn : x1 = x2 ∧ y1 + y2 = 0
    · rw [add_opp hn, add_zero]
      obtain ⟨rfl, h2⟩ := hn
      show some (x1, -y1) = _
      congr 2; grobner
    · have hs := slope_ok hc hQ hR hn
      generalize c.slope x1 y1 x2 y2 = s at hs
      have hS := third_on hQ hs
      rw [add_of hc hQ hR hn hs]
      obtain ⟨s1, s2⟩ := hs
      unfold third at hS ⊢
      obtain ⟨xs, hxs⟩ : ∃ x, s * s - x1 - x2 = x := ⟨_, rfl⟩
      rw [hxs] at hS ⊢
      obtain ⟨ys, hys⟩ : ∃ y, s * (x1 - xs) - y1 = y := ⟨_, rfl⟩
      rw [hys] at hS ⊢
      have hne : ¬ (x1 = xs ∧ -y1 + ys = 0) := by
        rintro ⟨rfl, h2⟩
        have h0 : y1 + y1 = 0 := by grobner
        have h0 := hc.fd.half h0
        subst h0
        refine hc.ns x1 hQ ?_
        grobner
      have hm : c.Sl (-s) x1 (-y1) xs ys := by constructor <;> grobner
      show c.add (some (x1, -y1)) _ = _
      rw [add_of hc (neg_on (P := some (x1, y1)) hQ) hS hne hm]
      unfold third
      congr 2 <;> grobner
theorem comX (a x1 x2 x3 y2 u v t : Fin p) : (v * v - x2 - x3 - x1) * ((t + v) * (v - u)) - (v * v - x2 - x3 - x1) * (x3 - x1) = (v - u) * (t * (v * v - x2 - x3 - x1) - (v * (x2 - (v * v - x2 - x3)) - y2 - (y2 - u * (x2 - x1)))) + (u * (y2 - u * (x2 - x1) + y2) - (x1 * x1 + x1 * x2 + x2 * x2 + a)) - (v * (y2 + (y2 + v * (x3 - x2))) - (x2 * x2 + x2 * x3 + x3 * x3 + a)) := by grobner
theorem comY (a x1 x2 x3 y2 u v t : Fin p) (hx : x3 = v * v - x2 - x1) (U : u * (y2 - u * (x2 - x1) + y2) = x1 * x1 + x1 * x2 + x2 * x2 + a) (V : v * (y2 + (y2 + v * (x3 - x2))) = x2 * x2 + x2 * x3 + x3 * x3 + a) (T : t * (y2 - u * (x2 - x1) + (v * (x2 - x1) - y2)) = x1 * x1 + x1 * x1 + x1 * x1 + a) :
    (y2 - u * (x2 - x1) + (v * (x2 - x1) - y2)) * ((t + v) * (v - u)) = (y2 - u * (x2 - x1) + (v * (x2 - x1) - y2)) * (x3 - x1) := by
  subst hx
  have T' : t * ((v - u) * (x2 - x1)) = 3 * x1 * x1 + a := by grobner
  grobner
theorem Sl.fst {s x1 y1 x2 y2 : Fin p} (h : c.Sl s x1 y1 x2 y2) : y1 = y2 - s * (x2 - x1) := by
  have := h.1
  grobner
theorem Sl.snd {s x1 y1 x2 y2 : Fin p} (h : c.Sl s x1 y1 x2 y2) : y2 = y1 + s * (x2 - x1) := by
  have := h.1
  grobner
theorem subz {a b : Fin p} (h : a = b) : a - b = 0 := by grobner
/-- What both ways to bracket three points' sum have in common. -/
theorem common (hc : c.Ok) {x1 y1 x2 y2 x3 y3 u v t : Fin p} (hu : c.Sl u x1 y1 x2 y2) (hv : c.Sl v x2 y2 x3 y3)
    (hn : ¬ (x1 = v * v - x2 - x3 ∧ y1 + (v * (x2 - (v * v - x2 - x3)) - y2) = 0)) (ht : c.Sl t x1 y1 (v * v - x2 - x3) (v * (x2 - (v * v - x2 - x3)) - y2)) : (t + v) * (v - u) = x3 - x1 := by
  obtain rfl := Sl.fst hu
  obtain rfl := Sl.snd hv
  by_cases hx : x1 = v * v - x2 - x3
  · rw [← hx] at hn ht
    have hy : y2 - u * (x2 - x1) + (v * (x2 - x1) - y2) ≠ 0 := fun h => hn ⟨rfl, h⟩
    have h3 : x3 = v * v - x2 - x1 := by rw [hx]; grobner
    exact hc.fd.cancel hy (comY c.a x1 x2 x3 y2 u v t h3 hu.2 hv.2 ht.2)
  · have hd : v * v - x2 - x3 - x1 ≠ 0 := fun h => hx (by
      have e : v * v - x2 - x3 = (v * v - x2 - x3 - x1) + x1 := by grobner
      rw [e, h]; grobner)
    refine hc.fd.cancel hd ?_
    have h := comX c.a x1 x2 x3 y2 u v t
    rw [subz hu.2, subz hv.2, subz ht.1] at h
    have e : ∀ A B : Fin p, A - B = (v - u) * 0 + 0 - 0 → A = B := fun A B h => by grobner
    exact e _ _ h
theorem as1 (u x1 x2 : Fin p) : u * u - x1 - x2 = u * u - x2 - x1 := by grobner
theorem as2 (u x1 x2 y2 : Fin p) : u * (x1 - (u * u - x1 - x2)) - (y2 - u * (x2 - x1)) = u * (x2 - (u * u - x2 - x1)) - y2 := by grobner
theorem as3 (a b : Fin p) : a + b = b + a := by grobner
theorem as4 {t u x1 x3 : Fin p} (h : (t + u) * (u - u) = x3 - x1) : x3 = x1 := by grobner
theorem as5 (u x2 x3 y2 : Fin p) : y2 + u * (x3 - x2) = y2 - u * (x2 - x3) := by grobner
theorem as6 (u x2 x3 y2 : Fin p) : third u x2 y2 x3 = third u x3 (y2 - u * (x2 - x3)) x2 := pt_eq (by grobner) (by grobner)
theorem as7 {u v : Fin p} (h : v - u = 0) : u = v := by grobner
theorem as8 {s t u v x1 x3 : Fin p} (h : (t + v) * (v - u) = x3 - x1) (g : (s + u) * (u - v) = x1 - x3) : (v - u) * (s + u) = (v - u) * (t + v) := by grobner
theorem as9 {s t u v : Fin p} (h : s + u = t + v) : s = t + v - u := by grobner
theorem as10 {d x1 x3 : Fin p} (h : d = x3 - x1) : x3 = x1 + d := by grobner
theorem as11 (t u v x1 x2 y2 : Fin p) : third (t + v - u) (x1 + (t + v) * (v - u)) (y2 + v * (x1 + (t + v) * (v - u) - x2)) (u * u - x1 - x2) = third t x1 (y2 - u * (x2 - x1)) (v * v - x2 - (x1 + (t + v) * (v - u))) := pt_eq (by grobner) (by grobner)
theorem assoc (hc : c.Ok) {P Q R : Pt p} (hP : c.On P) (hQ : c.On Q) (hR : c.On R) : c.add (c.add P Q) R = c.add P (c.add Q R) := by
  match P, Q, R, hP, hQ, hR with
  | none, Q, R, _, _, _ => rfl
  | P, none, R, _, _, _ => rw [add_zero]; rfl
  | P, Q, none, _, _, _ => rw [add_zero, add_zero]
  | some (x1, y1), some (x2, y2), some (x3, y3), hP, hQ, hR =>
    by_cases h12 : x1 = x2 ∧ y1 + y2 = 0
    · rw [add_opp h12]
      obtain ⟨rfl, h⟩ := h12
      have e : (some (x1, y1) : Pt p) = neg (some (x1, y2)) := by show _ = some (x1, -y2); congr 2; grobner
      rw [e, cancel hc hQ hR]
      rfl
    by_cases h23 : x2 = x3 ∧ y2 + y3 = 0
    · rw [add_opp h23, add_zero]
      obtain ⟨rfl, h⟩ := h23
      have e : (some (x2, y3) : Pt p) = neg (some (x2, y2)) := by show _ = some (x2, -y2); congr 2; grobner
      rw [e, add_comm hc hP hQ, add_comm hc (add_on hc hQ hP) (neg_on hQ), cancel hc hQ hP]
    have hu := slope_ok hc hP hQ h12
    have hv := slope_ok hc hQ hR h23
    have a12 := add_of hc hP hQ h12 hu
    have a23 := add_of hc hQ hR h23 hv
    have o4 := third_on hP hu
    have o5 := third_on hQ hv
    generalize c.slope x1 y1 x2 y2 = u at *
    generalize c.slope x2 y2 x3 y3 = v at *
    by_cases h43 : u * u - x1 - x2 = x3 ∧ u * (x1 - (u * u - x1 - x2)) - y1 + y3 = 0
    · have e : (some (x3, y3) : Pt p) = neg (c.add (some (x1, y1)) (some (x2, y2))) := by
        rw [a12]; show _ = some (_, _); congr 2 <;> grobner
      rw [e, add_neg, neg_add hc hP hQ, add_comm hc (neg_on hP) (neg_on hQ)]
      have := cancel hc (neg_on hQ) (neg_on hP)
      rw [neg_neg] at this
      rw [this, add_neg]
    by_cases h15 : x1 = v * v - x2 - x3 ∧ y1 + (v * (x2 - (v * v - x2 - x3)) - y2) = 0
    · have e : (some (x1, y1) : Pt p) = neg (c.add (some (x2, y2)) (some (x3, y3))) := by
        rw [a23]; show _ = some (_, _); congr 2 <;> grobner
      rw [e, add_comm hc (neg_on (add_on hc hQ hR)) (add_on hc hQ hR), add_neg, neg_add hc hQ hR, add_comm hc (neg_on hQ) (neg_on hR), add_comm hc (add_on hc (neg_on hR) (neg_on hQ)) hQ, add_comm hc (neg_on hR) (neg_on hQ)]
      have := cancel hc (neg_on hQ) (neg_on hR)
      rw [neg_neg] at this
      rw [this, add_comm hc (neg_on hR) hR, add_neg]
    have hs := slope_ok hc o4 hR h43
    have ht := slope_ok hc hP o5 h15
    rw [a12, a23]
    show c.add (some (u * u - x1 - x2, u * (x1 - (u * u - x1 - x2)) - y1)) _ = c.add _ (some (v * v - x2 - x3, v * (x2 - (v * v - x2 - x3)) - y2))
    have a43 := add_of hc o4 hR h43 hs
    have a15 := add_of hc hP o5 h15 ht
    generalize c.slope (u * u - x1 - x2) (u * (x1 - (u * u - x1 - x2)) - y1) x3 y3 = s at *
    generalize c.slope x1 y1 (v * v - x2 - x3) (v * (x2 - (v * v - x2 - x3)) - y2) = t at *
    rw [a43, a15]
    have k1 := common hc hu hv h15 ht
    have k2 : (s + u) * (u - v) = x1 - x3 := by
      have g2 : u * (x1 - (u * u - x1 - x2)) - y1 = u * (x2 - (u * u - x2 - x1)) - y2 := by rw [Sl.fst hu]; exact as2 _ _ _ _
      rw [as1 u x1 x2, ← as1 u x1 x2, g2, as1 u x1 x2] at hs h43
      exact common hc (Sl.symm hv) (Sl.symm hu) (fun h => h43 ⟨h.1.symm, by rw [as3]; exact h.2⟩) (Sl.symm hs)
    by_cases huv : u = v
    · subst huv
      obtain rfl := as4 k1
      obtain rfl := Sl.fst hu
      obtain rfl := Sl.snd hv
      rw [← a43, ← a15, as5]
      show c.add (third u x3 (y2 - u * (x2 - x3)) x2) _ = c.add _ (third u x2 y2 x3)
      rw [as6 u x2 x3 y2]
      exact add_comm hc o4 hP
    · obtain rfl := as9 (hc.fd.cancel (fun h => huv (as7 h)) (as8 k1 k2))
      rw [third_symm hs]
      obtain rfl := Sl.fst hu
      obtain rfl := Sl.snd hv
      obtain rfl := as10 k1
      exact as11 _ _ _ _ _ _
end Go.Proofs.Ytkdclocjijmgpaa.Gl
/-
  Curves: multiples of points, all points, the order (pure).
-/
namespace Go.Proofs.Ytkdclocjijmgpaa.Gl
variable {p : Nat} [NeZero p] {c : Ec p}
/-- So many times a point. -/
def Ec.mul (c : Ec p) : Nat → Pt p → Pt p
  | 0, _ => none
  | k + 1, P => c.add (c.mul k P) P
theorem mul_on (hc : c.Ok) {P : Pt p} (hP : c.On P) (k : Nat) : c.On (c.mul k P) := by
  induction k with
  | zero => trivial
  | succ k ih => exact add_on hc ih hP
theorem mul_one (P : Pt p) : c.mul 1 P = P := rfl
theorem mul_add (hc : c.Ok) {P : Pt p} (hP : c.On P) (j k : Nat) : c.mul (j + k) P = c.add (c.mul j P) (c.mul k P) := by
  induction k with
  | zero => exact (add_zero _).symm
  | succ k ih =>
    show c.add (c.mul (j + k) P) P = c.add (c.mul j P) (c.add (c.mul k P) P)
    rw [ih, assoc hc (mul_on hc hP j) (mul_on hc hP k) hP]
theorem mul_mul (hc : c.Ok) {P : Pt p} (hP : c.On P) (j k : Nat) : c.mul (j * k) P = c.mul j (c.mul k P) := by
  induction j with
  | zero => rw [Nat.zero_mul]; rfl
  | succ j ih => rw [Nat.succ_mul, mul_add hc hP, ih]; rfl
theorem mul_none (k : Nat) : c.mul k none = none := by
  induction k with
  | zero => rfl
  | succ k ih => show c.add (c.mul k none) none = none; rw [ih]; rfl
theorem cancel_left (hc : c.Ok) {A B C : Pt p} (hA : c.On A) (hB : c.On B) (hC : c.On C) (h : c.add A B = c.add A C) : B = C := by
  rw [← cancel hc hA hB, h, cancel hc hA hC]
theorem mul_neg (hc : c.Ok) {P : Pt p} (hP : c.On P) (k : Nat) : neg (c.mul k P) = c.mul k (neg P) := by
  induction k with
  | zero => rfl
  | succ k ih => show neg (c.add _ _) = c.add _ _; rw [neg_add hc (mul_on hc hP k) hP, ih]
theorem mul_gcd (hc : c.Ok) {P : Pt p} (hP : c.On P) (m n : Nat) : c.mul m P = none → c.mul n P = none → c.mul (Nat.gcd m n) P = none := by
  induction m, n using Nat.gcd.induction with
  | H0 n => intro _ h; rw [Nat.gcd_zero_left]; exact h
  | H1 m n hm ih =>
    intro h1 h2
    rw [Nat.gcd_rec]
    refine ih ?_ h1
    have e : c.mul (n / m * m + n % m) P = none := by rw [Nat.mul_comm, Nat.div_add_mod]; exact h2
    rw [mul_add hc hP, mul_mul hc hP, h1, mul_none] at e
    exact e
/-- All points. -/
def Ec.rts (c : Ec p) (x : Fin p) : List (Fin p) := (List.finRange p).filter fun y => decide (y * y = x * x * x + c.a * x + c.b)
def Ec.pts (c : Ec p) : List (Pt p) := none :: (List.finRange p).flatMap fun x => (c.rts x).map fun y => some (x, y)
theorem mem_rts {x y : Fin p} : y ∈ c.rts x ↔ c.on x y := by
  unfold Ec.rts Ec.on
  simp [List.mem_filter, List.mem_finRange]
theorem mem_pts {P : Pt p} : P ∈ c.pts ↔ c.On P := by
  unfold Ec.pts
  match P with
  | none => simp [Ec.On]
  | some (x, y) =>
    show _ ↔ c.on x y
    rw [← mem_rts]
    simp [List.mem_flatMap, List.mem_finRange]
theorem nodup_pts : c.pts.Nodup := by
  unfold Ec.pts
  refine List.nodup_cons.2 ⟨by simp [List.mem_flatMap], ?_⟩
  unfold List.Nodup
  refine List.pairwise_flatMap.2 ⟨fun x _ => ?_, ?_⟩
  · refine List.pairwise_map.2 ?_
    refine List.Pairwise.imp ?_ ((List.nodup_finRange p).sublist List.filter_sublist)
    intro a b hab h
    apply hab
    simpa using h
  · refine List.Pairwise.imp ?_ (List.nodup_finRange p)
    intro a b hab P hP Q hQ h
    apply hab
    obtain ⟨y, _, rfl⟩ := List.mem_map.1 hP
    obtain ⟨z, _, rfl⟩ := List.mem_map.1 hQ
    simp at h
    exact h.1
def Ec.sum (c : Ec p) : List (Pt p) → Pt p
  | [] => none
  | P :: L => c.add P (c.sum L)
theorem sum_on (hc : c.Ok) {L : List (Pt p)} (h : ∀ P ∈ L, c.On P) : c.On (c.sum L) := by
  induction L with
  | nil => trivial
  | cons P L ih => exact add_on hc (h P (by simp)) (ih fun Q hQ => h Q (by simp [hQ]))
theorem sum_perm (hc : c.Ok) {L M : List (Pt p)} (h : L.Perm M) : (∀ P ∈ L, c.On P) → c.sum L = c.sum M := by
  induction h with
  | nil => intro _; rfl
  | cons P _ ih => intro hL; show c.add P _ = c.add P _; rw [ih fun Q hQ => hL Q (by simp [hQ])]
  | swap P Q L =>
    intro hL
    have h1 := hL P (by simp)
    have h2 := hL Q (by simp)
    have h3 := sum_on hc (L := L) fun R hR => hL R (by simp [hR])
    show c.add Q (c.add P _) = c.add P (c.add Q _)
    rw [← assoc hc h2 h1 h3, ← assoc hc h1 h2 h3, add_comm hc h1 h2]
  | trans a b ih1 ih2 => intro hL; rw [ih1 hL, ih2 fun Q hQ => hL Q (a.mem_iff.2 hQ)]
theorem sum_map (hc : c.Ok) {A : Pt p} (hA : c.On A) {L : List (Pt p)} (h : ∀ P ∈ L, c.On P) : c.sum (L.map (c.add A)) = c.add (c.mul L.length A) (c.sum L) := by
  induction L with
  | nil => rfl
  | cons P L ih =>
    have h1 := h P (by simp)
    have h2 : ∀ Q ∈ L, c.On Q := fun Q hQ => h Q (by simp [hQ])
    have h3 := sum_on hc h2
    have h4 := mul_on hc hA L.length
    show c.add (c.add A P) (c.sum (L.map (c.add A))) = c.add (c.add (c.mul L.length A) A) (c.add P (c.sum L))
    rw [ih h2, assoc hc hA h1 (add_on hc h4 h3), assoc hc h4 hA (add_on hc h1 h3), ← assoc hc h1 h4 h3, add_comm hc h1 h4, assoc hc h4 h1 h3, ← assoc hc hA h4 (add_on hc h1 h3), add_comm hc hA h4, assoc hc h4 hA (add_on hc h1 h3)]
/-- So many times any point as there are points: the far one. -/
theorem card_mul (hc : c.Ok) {A : Pt p} (hA : c.On A) : c.mul c.pts.length A = none := by
  have hL : ∀ P ∈ c.pts, c.On P := fun P hP => mem_pts.1 hP
  have hp : (c.pts.map (c.add A)).Perm c.pts := by
    refine (List.perm_ext_iff_of_nodup ?_ nodup_pts).2 ?_
    · refine List.pairwise_map.2 ?_
      have := nodup_pts (c := c)
      unfold List.Nodup at this
      refine (List.pairwise_iff_forall_sublist.2 ?_)
      intro P Q hs h
      have hm : P ∈ c.pts ∧ Q ∈ c.pts := ⟨hs.subset (by simp), hs.subset (by simp)⟩
      exact List.pairwise_iff_forall_sublist.1 this hs (cancel_left hc hA (hL _ hm.1) (hL _ hm.2) h)
    · intro P
      constructor
      · intro h
        obtain ⟨Q, hQ, rfl⟩ := List.mem_map.1 h
        exact mem_pts.2 (add_on hc hA (hL Q hQ))
      · intro h
        refine List.mem_map.2 ⟨c.add (neg A) P, mem_pts.2 (add_on hc (neg_on hA) (hL P h)), ?_⟩
        have := cancel hc (neg_on hA) (hL P h)
        rwa [neg_neg] at this
  have h1 := sum_perm hc hp fun P hP => hL P (hp.mem_iff.1 hP)
  rw [sum_map hc hA hL] at h1
  have hs := sum_on hc hL
  have h2 : c.add (c.sum c.pts) (c.mul c.pts.length A) = c.add (c.sum c.pts) none := by
    rw [add_comm hc hs (mul_on hc hA _), h1, add_zero]
  exact cancel_left hc hs (mul_on hc hA _) trivial h2
theorem rts_len (hc : c.Ok) (hno : ∀ x : Fin p, x * x * x + c.a * x + c.b ≠ 0) (x : Fin p) : (c.rts x).length = 0 ∨ (c.rts x).length = 2 := by
  cases h : c.rts x with
  | nil => exact .inl rfl
  | cons y l =>
    right
    have hy : c.on x y := mem_rts.1 (by rw [h]; simp)
    have hn : (c.rts x).Nodup := (List.nodup_finRange p).sublist List.filter_sublist
    have h0 : y ≠ 0 := fun e => by
      subst e
      unfold Ec.on at hy
      refine hno x ?_
      rw [← hy]; grobner
    have hne : y ≠ -y := fun e => h0 (hc.fd.half (by
      have e2 : y + y = y - -y := by grobner
      rw [e2, ← e]; grobner))
    have hp : (c.rts x).Perm [y, -y] := by
      refine (List.perm_ext_iff_of_nodup hn (by simp [hne])).2 fun z => ?_
      rw [mem_rts]
      simp only [List.mem_cons, List.not_mem_nil, or_false]
      unfold Ec.on at *
      constructor
      · intro hz
        have hd : (z - y) * (z + y) = 0 := by grobner
        rcases hc.fd.dom _ _ hd with h | h
        · left
          have e : z = (z - y) + y := by grobner
          rw [e, h]; grobner
        · right
          have e : z = (z + y) - y := by grobner
          rw [e, h]; grobner
      · rintro (rfl | rfl)
        · exact hy
        · rw [← hy]; grobner
    rw [← h, hp.length_eq]; rfl
theorem sum_even (l : List Nat) (h : ∀ x ∈ l, x = 0 ∨ x = 2) : l.sum % 2 = 0 ∧ l.sum ≤ 2 * l.length := by
  induction l with
  | nil => simp
  | cons a l ih =>
    have h1 := h a (by simp)
    have h2 := ih fun x hx => h x (by simp [hx])
    simp only [List.sum_cons, List.length_cons]
    omega
theorem pts_len (hc : c.Ok) (hno : ∀ x : Fin p, x * x * x + c.a * x + c.b ≠ 0) : c.pts.length % 2 = 1 ∧ c.pts.length ≤ 2 * p + 1 := by
  unfold Ec.pts
  rw [List.length_cons, List.length_flatMap]
  have h := sum_even ((List.finRange p).map fun x => ((c.rts x).map fun y => (some (x, y) : Pt p)).length) fun n hn => by
    obtain ⟨x, _, rfl⟩ := List.mem_map.1 hn
    rw [List.length_map]
    exact rts_len hc hno x
  rw [List.length_map, List.length_finRange] at h
  omega
/-- The order of one point that is a prime of a third of all that may be, times any point, is the far one. -/
theorem order_mul (hc : c.Ok) (hno : ∀ x : Fin p, x * x * x + c.a * x + c.b ≠ 0) {n : Nat} (hn : ∀ m, m ∣ n → m = 1 ∨ m = n) (hbig : 2 * p + 1 < 3 * n) {G : Pt p} (hG : c.On G) (hG0 : G ≠ none) (hnG : c.mul n G = none) {A : Pt p} (hA : c.On A) : c.mul n A = none := by
  have hN := card_mul hc hG
  obtain ⟨h1, h2⟩ := pts_len hc hno
  have hg := mul_gcd hc hG n c.pts.length hnG hN
  have hd : n ∣ c.pts.length := by
    rcases hn _ (Nat.gcd_dvd_left n c.pts.length) with h | h
    · rw [h] at hg; exact absurd hg hG0
    · rw [← h]; exact Nat.gcd_dvd_right _ _
  obtain ⟨k, hk⟩ := hd
  have hk1 : k = 1 := by
    have h3 : n * k < n * 3 := by omega
    have h4 : k < 3 := Nat.lt_of_mul_lt_mul_left h3
    match k, h4 with
    | 0, _ => omega
    | 1, _ => rfl
    | 2, _ => omega
  have := card_mul hc hA
  rw [hk, hk1, Nat.mul_one] at this
  exact this
end Go.Proofs.Ytkdclocjijmgpaa.Gl
/-
  Plain lists of limbs, and the words for memory that the walks use. No Go text in sight.
-/
namespace Go.Proofs.Ytkdclocjijmgpaa
open Go.RowKit

/-! ### numbers as lists of limbs -/
def U32 (x : Int) : Prop := 0 ≤ x ∧ x < 4294967296
def U32s (xs : List Int) : Prop := ∀ x ∈ xs, U32 x
def val : List Int → Int
  | [] => 0
  | x :: xs => x + 4294967296 * val xs
def sig : List Int → Nat
  | [] => 0
  | x :: xs => if sig xs = 0 then (if x = 0 then 0 else 1) else sig xs + 1
def limF : Nat → Nat → List Int
  | 0, _ => []
  | f + 1, n => if n = 0 then [] else ((n % 4294967296 : Nat) : Int) :: limF f (n / 4294967296)
/-- The limbs of a number, the lowest first. -/
def lim (n : Nat) : List Int := limF n n

theorem U32s.at {xs : List Int} (h : U32s xs) (i : Nat) : U32 (xs.getD i 0) := by
  by_cases hi : i < xs.length
  · simp [hi]; exact h _ (List.getElem_mem hi)
  · simp [List.getD, List.getElem?_eq_none (Nat.le_of_not_lt hi), U32]
theorem U32s.nil : U32s [] := by intro x hx; simp at hx
theorem U32s.cons {x : Int} {xs : List Int} (h : U32 x) (hs : U32s xs) : U32s (x :: xs) := by
  intro y hy; rcases List.mem_cons.1 hy with rfl | hy
  · exact h
  · exact hs y hy
theorem U32s.head {x : Int} {xs : List Int} (h : U32s (x :: xs)) : U32 x := h x (by simp)
theorem U32s.tail {x : Int} {xs : List Int} (h : U32s (x :: xs)) : U32s xs := fun y hy => h y (by simp [hy])
theorem U32s.take {xs : List Int} (h : U32s xs) (n : Nat) : U32s (xs.take n) := fun y hy => h y (List.mem_of_mem_take hy)
theorem U32s.drop {xs : List Int} (h : U32s xs) (n : Nat) : U32s (xs.drop n) := fun y hy => h y (List.mem_of_mem_drop hy)
theorem U32s.append {xs ys : List Int} (h : U32s xs) (k : U32s ys) : U32s (xs ++ ys) := by
  intro y hy; rcases List.mem_append.1 hy with hy | hy
  · exact h y hy
  · exact k y hy
theorem U32s.set {xs : List Int} (h : U32s xs) (i : Nat) {x : Int} (hx : U32 x) : U32s (xs.set i x) := by
  intro y hy; rcases List.mem_or_eq_of_mem_set hy with hy | rfl
  · exact h y hy
  · exact hx
theorem U32s.zeros (n : Nat) : U32s (List.replicate n 0) := by
  intro y hy; rw [(List.mem_replicate.1 hy).2]; exact ⟨by decide, by decide⟩

theorem val_nonneg {xs : List Int} (h : U32s xs) : 0 ≤ val xs := by
  induction xs with
  | nil => simp [val]
  | cons x xs ih => have := ih h.tail; have := h.head.1; simp only [val]; omega
theorem pow_succ32 (n : Nat) : (4294967296 : Int) ^ (n + 1) = 4294967296 * 4294967296 ^ n := by rw [Int.pow_succ, Int.mul_comm]
theorem pow_pos32 (n : Nat) : (0 : Int) < 4294967296 ^ n := Int.pow_pos (by decide)
theorem val_lt {xs : List Int} (h : U32s xs) : val xs < 4294967296 ^ xs.length := by
  induction xs with
  | nil => simp [val]
  | cons x xs ih => have := ih h.tail; have h1 := h.head; unfold U32 at h1; simp only [val, List.length_cons, pow_succ32]; omega
theorem val_append (xs ys : List Int) : val (xs ++ ys) = val xs + 4294967296 ^ xs.length * val ys := by
  induction xs with
  | nil => simp [val]
  | cons x xs ih => simp only [List.cons_append, val, ih, List.length_cons, pow_succ32, Int.mul_add, Int.mul_assoc]; omega
theorem val_zeros (n : Nat) : val (List.replicate n 0) = 0 := by
  induction n with
  | zero => rfl
  | succ n ih => simp [List.replicate_succ, val, ih]
theorem sig_le (xs : List Int) : sig xs ≤ xs.length := by
  induction xs with
  | nil => simp [sig]
  | cons x xs ih => simp only [sig, List.length_cons]; split <;> (try split) <;> omega
theorem val_of_sig0 {xs : List Int} (h : sig xs = 0) : val xs = 0 := by
  induction xs with
  | nil => rfl
  | cons x xs ih =>
    simp only [sig] at h
    split at h
    · split at h
      · rename_i h1 h2; simp [val, h2, ih h1]
      · omega
    · omega
theorem sig0_of_val {xs : List Int} (hu : U32s xs) (h : val xs = 0) : sig xs = 0 := by
  induction xs with
  | nil => rfl
  | cons x xs ih =>
    have h1 := val_nonneg hu.tail; have h2 := hu.head; unfold U32 at h2
    simp only [val] at h
    have hv : val xs = 0 := by omega
    have hx : x = 0 := by omega
    simp [sig, ih hu.tail hv, hx]
theorem val_take_sig (xs : List Int) : val (xs.take (sig xs)) = val xs := by
  induction xs with
  | nil => rfl
  | cons x xs ih =>
    simp only [sig]
    split
    · rename_i h
      split
      · rename_i hx; simp [val, hx, val_of_sig0 h]
      · simp [val, val_of_sig0 h]
    · simp [val, ih]
/-- What 'length' finds is 'sig'. -/
theorem sig_eq {xs : List Int} {k : Nat} (hk : k ≤ xs.length) (h0 : ∀ j, k ≤ j → j < xs.length → xs.getD j 0 = 0) (h1 : k = 0 ∨ xs.getD (k - 1) 0 ≠ 0) : sig xs = k := by
  induction xs generalizing k with
  | nil => simp at hk; simp [sig, hk]
  | cons x xs ih =>
    cases k with
    | zero =>
      have hs : sig xs = 0 := ih (k := 0) (Nat.zero_le _) (fun j _ hj => by simpa using h0 (j + 1) (Nat.zero_le _) (by simpa using hj)) (.inl rfl)
      have hx : x = 0 := by simpa using h0 0 (Nat.le_refl _) (by simp)
      simp [sig, hs, hx]
    | succ k =>
      have hkl : k ≤ xs.length := by simpa using hk
      have hz : ∀ j, k ≤ j → j < xs.length → xs.getD j 0 = 0 := fun j hj hl => by simpa using h0 (j + 1) (by omega) (by simpa using hl)
      cases k with
      | zero =>
        have hs : sig xs = 0 := ih (k := 0) (Nat.zero_le _) hz (.inl rfl)
        have hx : x ≠ 0 := by simpa using h1
        simp [sig, hs, hx]
      | succ k =>
        have hs : sig xs = k + 1 := ih hkl hz (.inr (by simpa using h1))
        simp [sig, hs]
theorem sig_last {xs : List Int} (h : 0 < sig xs) : xs.getD (sig xs - 1) 0 ≠ 0 := by
  induction xs with
  | nil => simp [sig] at h
  | cons x xs ih =>
    simp only [sig] at h ⊢
    split
    · rename_i h1
      split
      · rename_i h2; simp [h1, h2] at h
      · rename_i h2; simpa using h2
    · rename_i h1
      have := ih (by omega)
      obtain ⟨m, hm⟩ : ∃ m, sig xs = m + 1 := ⟨sig xs - 1, by omega⟩
      rw [hm] at this ⊢
      simpa using this
theorem sig_take {xs : List Int} : sig (xs.take (sig xs)) = sig xs := by
  have hl := sig_le xs
  refine sig_eq (by simp; omega) (fun j h1 h2 => by simp at h2; omega) ?_
  by_cases h : sig xs = 0
  · exact .inl h
  · refine .inr ?_
    have := sig_last (xs := xs) (by omega)
    rw [List.getD_eq_getElem?_getD, List.getElem?_take, if_pos (by omega), ← List.getD_eq_getElem?_getD]; exact this
theorem limF_fuel (f : Nat) : ∀ g n, n ≤ f → n ≤ g → limF f n = limF g n := by
  induction f with
  | zero =>
    intro g n h1 _
    have : n = 0 := by omega
    subst this
    cases g <;> simp [limF]
  | succ f ih =>
    intro g n h1 h2
    cases g with
    | zero =>
      have : n = 0 := by omega
      subst this; simp [limF]
    | succ g =>
      simp only [limF]
      split
      · rfl
      · rw [ih g (n / 4294967296) (by omega) (by omega)]
theorem lim_zero : lim 0 = [] := rfl
theorem lim_pos {n : Nat} (h : n ≠ 0) : lim n = ((n % 4294967296 : Nat) : Int) :: lim (n / 4294967296) := by
  obtain ⟨m, rfl⟩ : ∃ m, n = m + 1 := ⟨n - 1, by omega⟩
  unfold lim
  rw [limF, if_neg h, limF_fuel m ((m + 1) / 4294967296) ((m + 1) / 4294967296) (by omega) (Nat.le_refl _)]
theorem lim_u32 (n : Nat) : U32s (lim n) := by
  induction n using Nat.strongRecOn with
  | _ n ih =>
    by_cases h : n = 0
    · subst h; rw [lim_zero]; exact U32s.nil
    · rw [lim_pos h]; exact U32s.cons ⟨by omega, by omega⟩ (ih _ (by omega))
theorem val_lim (n : Nat) : val (lim n) = n := by
  induction n using Nat.strongRecOn with
  | _ n ih =>
    by_cases h : n = 0
    · subst h; rw [lim_zero]; rfl
    · rw [lim_pos h]; simp only [val]; rw [ih _ (by omega)]; omega
theorem sig_lim (n : Nat) : sig (lim n) = (lim n).length := by
  induction n using Nat.strongRecOn with
  | _ n ih =>
    by_cases h : n = 0
    · subst h; rw [lim_zero]; rfl
    · rw [lim_pos h]
      have h1 := ih (n / 4294967296) (by omega)
      simp only [sig, List.length_cons, h1]
      split
      · rename_i h0
        have h2 : lim (n / 4294967296) = [] := List.eq_nil_of_length_eq_zero h0
        have h3 := val_lim (n / 4294967296); rw [h2] at h3; simp [val] at h3
        split <;> simp [h2] <;> omega
      · rfl
/-- A list without a limb 0 at its end is told by its value. -/
theorem lim_val {xs : List Int} (hu : U32s xs) (h : sig xs = xs.length) : lim (val xs).toNat = xs := by
  induction xs with
  | nil => simp [val, lim_zero]
  | cons x xs ih =>
    have hx := hu.head; unfold U32 at hx
    have hv := val_nonneg hu.tail
    have h2 : sig xs = xs.length := by
      simp only [sig, List.length_cons] at h
      split at h
      · rename_i h0; split at h <;> omega
      · omega
    have hne : (val (x :: xs)).toNat ≠ 0 := by
      intro h0
      have : val (x :: xs) = 0 := by have := val_nonneg hu; omega
      have := sig0_of_val hu this
      simp at h; omega
    rw [lim_pos hne]
    have e1 : (val (x :: xs)).toNat % 4294967296 = x.toNat := by simp only [val]; omega
    have e2 : (val (x :: xs)).toNat / 4294967296 = (val xs).toNat := by simp only [val]; omega
    rw [e1, e2, ih hu.tail h2]; congr 1; omega
theorem take_sig_lim {xs : List Int} (hu : U32s xs) : xs.take (sig xs) = lim (val xs).toNat := by
  have := lim_val (hu.take (sig xs)) (by rw [sig_take]; simp; have := sig_le xs; omega)
  rw [val_take_sig] at this; exact this.symm
theorem lim_len_le {n : Nat} {k : Nat} (h : (n : Int) < 4294967296 ^ k) : (lim n).length ≤ k := by
  induction k generalizing n with
  | zero => have : n = 0 := by simp at h; omega
            subst this; simp [lim_zero]
  | succ k ih =>
    by_cases h0 : n = 0
    · subst h0; simp [lim_zero]
    · rw [lim_pos h0, List.length_cons]
      have : ((n / 4294967296 : Nat) : Int) < 4294967296 ^ k := by rw [pow_succ32] at h; omega
      have := ih this; omega

/-! ### memory -/
/-- The cells of block b from 'off' on read xs. -/
def Rd (k : IntKind) (w : World) (b off : Nat) (xs : List Int) : Prop := ∀ i, i < xs.length → w.cell? ⟨b, off + i, none⟩ = some (.int k (xs.getD i 0))
/-- The slice value v reads xs. -/
def Sl (k : IntKind) (w : World) (v : Value) (xs : List Int) : Prop :=
  ∃ a c, v = .slice a xs.length c ∧ xs.length ≤ c ∧ (xs = [] ∨ ∃ b off, a = some ⟨b, off, none⟩ ∧ b < w.heap.size ∧ Rd k w b off xs)
/-- Block b is a whole array of its own, not frozen, that holds xs. -/
def Arr (k : IntKind) (e : TypeId) (w : World) (b : Nat) (xs : List Int) : Prop := w.heap[b]? = some (.cells (xs.map (Value.int k)).toArray e (0, 0))
/-- Only block b has turned; new blocks may have come. -/
abbrev Upd (w w' : World) (b : Nat) : Prop := w.grownBy w' (some b)

theorem Arr.lt {k : IntKind} {e : TypeId} {w : World} {b : Nat} {xs : List Int} (h : Arr k e w b xs) : b < w.heap.size := (Array.getElem?_eq_some_iff.1 h).1
theorem Arr.cell {k : IntKind} {e : TypeId} {w : World} {b : Nat} {xs : List Int} (h : Arr k e w b xs) (i : Nat) (hi : i < xs.length) : w.cell? ⟨b, i, none⟩ = some (.int k (xs.getD i 0)) := by
  rw [cell_of_row w b i _ e (0, 0) h]; simp [hi]
theorem Arr.frozen {k : IntKind} {e : TypeId} {w : World} {b : Nat} {xs : List Int} (h : Arr k e w b xs) (i : Nat) : w.frozen? ⟨b, i, none⟩ = false := frozen_of_row w b i _ e h
theorem Arr.set {k : IntKind} {e : TypeId} {w : World} {b : Nat} {xs : List Int} (h : Arr k e w b xs) (i : Nat) (x : Int) : Arr k e (w.setCell ⟨b, i, none⟩ (.int k x)) b (xs.set i x) := by
  unfold Arr; rw [heap_setCell_same w b i _ e _ h]; congr 2; simp [List.map_set]
theorem Upd.set (w : World) (b i : Nat) (v : Value) : Upd w (w.setCell ⟨b, i, none⟩ v) b :=
  ⟨rfl, rfl, rfl, by simp, fun k _ hk => heap_setCell_other w ⟨b, i, none⟩ k v (fun e => hk (by simp [e]))⟩
theorem Upd.refl (w : World) (b : Nat) : Upd w w b := ⟨rfl, rfl, rfl, Nat.le_refl _, fun _ _ _ => rfl⟩
theorem Upd.trans {w w' w'' : World} {b : Nat} (h : Upd w w' b) (h' : Upd w' w'' b) : Upd w w'' b :=
  ⟨h'.os.trans h.os, h'.tape.trans h.tape, h'.output.trans h.output, Nat.le_trans h.size h'.size, fun k hk hn => (h'.block k (Nat.lt_of_lt_of_le hk h.size) hn).trans (h.block k hk hn)⟩
theorem Upd.below {B : Nat} {w0 w w' : World} {b : Nat} (h : Upd w w' b) (hb : Below B w0 w) (hB : B ≤ w.heap.size) (hBb : B ≤ b) : Below B w0 w' :=
  hb.grown h hB (fun k hk => by cases hk; exact hBb)
theorem Upd.arr {k : IntKind} {e : TypeId} {w w' : World} {b b' : Nat} {xs : List Int} (h : Upd w w' b) (ha : Arr k e w b' xs) (hne : b' ≠ b) : Arr k e w' b' xs := by
  unfold Arr; rw [h.block b' ha.lt (by simp [hne])]; exact ha
theorem Upd.rd {k : IntKind} {w w' : World} {b b' off : Nat} {xs : List Int} (h : Upd w w' b) (hlt : b' < w.heap.size) (ha : Rd k w b' off xs) (hne : b' ≠ b) : Rd k w' b' off xs :=
  fun i hi => (World.cell?_of_block (a := ⟨b', off + i, none⟩) (h.block b' hlt (by simp [hne]))).trans (ha i hi)
theorem below_arr {B : Nat} {k : IntKind} {e : TypeId} {w w' : World} {b : Nat} {xs : List Int} (h : Below B w w') (hb : b < B) (ha : Arr k e w b xs) : Arr k e w' b xs := by
  unfold Arr; rw [h.block b hb]; exact ha
theorem below_rd {B : Nat} {k : IntKind} {w w' : World} {b off : Nat} {xs : List Int} (h : Below B w w') (hb : b < B) (ha : Rd k w b off xs) : Rd k w' b off xs :=
  fun i hi => (h.cell (p := ⟨b, off + i, none⟩) hb).trans (ha i hi)
theorem below_sl {k : IntKind} {w w' : World} {v : Value} {xs : List Int} (h : Below w.heap.size w w') (ha : Sl k w v xs) : Sl k w' v xs := by
  obtain ⟨a, c, rfl, hc, h1⟩ := ha
  refine ⟨a, c, rfl, hc, ?_⟩
  rcases h1 with h1 | ⟨b, off, rfl, hb, hr⟩
  · exact .inl h1
  · exact .inr ⟨b, off, rfl, Nat.lt_of_lt_of_le hb h.size, below_rd h hb hr⟩
theorem Arr.rd {k : IntKind} {e : TypeId} {w : World} {b : Nat} {xs : List Int} (h : Arr k e w b xs) (off n : Nat) (hn : off + n ≤ xs.length) : Rd k w b off ((xs.drop off).take n) := by
  intro i hi
  simp at hi
  rw [h.cell (off + i) (by omega)]
  simp [List.getElem?_drop, show i < n by omega]
theorem Rd.take {k : IntKind} {w : World} {b off : Nat} {xs : List Int} (h : Rd k w b off xs) (n : Nat) : Rd k w b off (xs.take n) := by
  intro i hi
  simp at hi
  rw [h i (by omega)]; simp [show i < n by omega]
end Go.Proofs.Ytkdclocjijmgpaa
/-
  The walks of length, cut, tooLong: what each call answers, whatever the lists.
-/
namespace Go.Proofs.Ytkdclocjijmgpaa.Nt
open Go.RowKit

theorem ret_int {k : IntKind} {a b : Int} (h : a = b) : Ending.returned (.int k a) = .returned (.int k b) := by rw [h]

set_option maxHeartbeats 400000 in
theorem length_any (xs : List Int) (v : Value) (w : World) (h : Sl .u32 w v xs) (hl : xs.length ≤ 1152921504606846976) :
    Calls Try.prog 62 #[v] w fun e w' => e = .returned (.int .i64 (sig xs)) ∧ w' = w := by
  obtain ⟨a, c, rfl, hc, h1⟩ := h
  rcases h1 with rfl | ⟨b, off, rfl, hb, hr⟩
  · simp only [List.length_nil]
    go_enter Try.func62, Try.ntmps62
    go_wp2
    go_loop [3] (fun i => i = .int .i64 0) (fun _ => 0)
    case atStart => rfl
    case round =>
      subst hrel
      go_wp2
      go_ret
      exact ⟨by simp [sig], rfl⟩
  · go_enter Try.func62, Try.ntmps62
    go_wp2
    go_loop [3] (fun i => ∃ k : Nat, k ≤ xs.length ∧ i = .int .i64 k ∧ ∀ j, k ≤ j → j < xs.length → xs.getD j 0 = 0) (fun i => (intOf i).toNat)
    case atStart => exact ⟨xs.length, Nat.le_refl _, rfl, fun j h1 h2 => by omega⟩
    case round =>
      obtain ⟨k, hk, rfl, hz⟩ := hrel
      by_cases hk0 : k = 0
      · subst hk0
        have HS : Hid (sig xs = 0) := sig_eq (Nat.zero_le _) hz (.inl rfl)
        clear hz
        go_wp2
        go_ret
        exact ⟨ret_int (by rw [HS.out]; rfl), rfl⟩
      · obtain ⟨m, rfl⟩ : ∃ m, k = m + 1 := ⟨k - 1, by omega⟩
        obtain ⟨x, hx⟩ : ∃ x, xs.getD m 0 = x := ⟨_, rfl⟩
        have hcell := hr m (by omega)
        rw [hx] at hcell
        have HZ : Hid (∀ j, m + 1 ≤ j → j < xs.length → xs.getD j 0 = 0) := hz
        have HX : Hid (xs.getD m 0 = x) := hx
        clear hz hx hr
        by_cases hx0 : x = 0
        · go_wp2
          go_round
          case rel => exact ⟨m, by omega, by go_num, fun j h1 h2 => by
            by_cases h3 : j = m
            · subst h3; rw [HX.out]; exact hx0
            · exact HZ.out j (by omega) h2⟩
          case measure => simp [intOf]
        · go_wp2
          go_ret
          exact ⟨ret_int (by rw [sig_eq (k := m + 1) hk HZ.out (.inr (by intro h3; exact hx0 (HX.out.symm.trans h3)))]; rfl), rfl⟩

theorem _root_.Go.Proofs.Ytkdclocjijmgpaa.Sl.len {k : IntKind} {w : World} {v : Value} {xs : List Int} (h : Sl k w v xs) : ∃ a c, v = .slice a xs.length c ∧ xs.length ≤ c := by
  obtain ⟨a, c, rfl, hc, _⟩ := h; exact ⟨a, c, rfl, hc⟩

/-- cut: the same memory, without the limbs 0 at its end. -/
theorem cut_any (xs : List Int) (a : Option Addr) (c : Nat) (w : World) (h : Sl .u32 w (.slice a xs.length c) xs) (hl : xs.length ≤ 1152921504606846976) :
    Calls Try.prog 77 #[.slice a xs.length c] w fun e w' => e = .returned (.slice a (sig xs) c) ∧ w' = w := by
  have hc : xs.length ≤ c := by obtain ⟨_, _, h1, hc, _⟩ := h; cases h1; exact hc
  have hs := sig_le xs
  go_enter Try.func77, Try.ntmps77
  go_wp2_with (go_at_call 62; refine (length_any xs _ _ h hl).mono ?_; rintro e w' ⟨rfl, rfl⟩)
  go_ret
  exact ⟨rfl, rfl⟩

theorem tooLong_any (xs ys : List Int) (v u : Value) (w : World) (h : Sl .u32 w v xs) (h' : Sl .u32 w u ys) :
    Calls Try.prog 80 #[v, u] w fun e w' => e = .returned (.bool (decide (512 < xs.length) || decide (512 < ys.length))) ∧ w' = w := by
  obtain ⟨a, c, rfl, hc⟩ := h.len
  obtain ⟨a', c', rfl, hc'⟩ := h'.len
  by_cases h1 : 512 < xs.length
  · go_enter Try.func80, Try.ntmps80
    go_wp2
    go_ret
    exact ⟨by simp [h1], rfl⟩
  · by_cases h2 : 512 < ys.length
    · go_enter Try.func80, Try.ntmps80
      go_wp2
      go_ret
      exact ⟨by simp [h2], rfl⟩
    · go_enter Try.func80, Try.ntmps80
      go_wp2
      go_ret
      exact ⟨by simp [h1, h2], rfl⟩
end Go.Proofs.Ytkdclocjijmgpaa.Nt
