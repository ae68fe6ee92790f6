/-
  Curves: numbers modulo a prime, three coordinates that stand for a point, doubled, added (pure).
-/
import Derived.Test.YteagdgbcfbkfbabK16
namespace Go.Proofs.Yteagdgbcfbkfbab.Gl
variable {p : Nat} [NeZero p] {c : Ec p}
/-- A number modulo p. -/
def F (p : Nat) [NeZero p] (x : Nat) : Fin p := Fin.ofNat p x
theorem F_val (x : Nat) : (F p x).val = x % p := rfl
theorem F_lt {x : Nat} (h : x < p) : (F p x).val = x := Nat.mod_eq_of_lt h
theorem F_self (a : Fin p) : F p a.val = a := Fin.ext (Nat.mod_eq_of_lt a.isLt)
theorem F_mod (x : Nat) : F p (x % p) = F p x := Fin.ext (by rw [F_val, F_val, Nat.mod_mod])
theorem F_add (x y : Nat) : F p (x + y) = F p x + F p y := Fin.ext (by rw [Fin.val_add, F_val, F_val, F_val, ← Nat.add_mod])
theorem F_mul (x y : Nat) : F p (x * y) = F p x * F p y := Fin.ext (by rw [Fin.val_mul, F_val, F_val, F_val, ← Nat.mul_mod])
theorem F_p : F p p = 0 := Fin.ext (by rw [F_val, Nat.mod_self]; rfl)
theorem F_0 : F p 0 = 0 := Fin.ext (by rw [F_val]; rfl)
theorem F_1 : F p 1 = 1 := Fin.ext (by rw [F_val]; rfl)
theorem F_zero {x : Nat} (h : x < p) : F p x = 0 ↔ x = 0 := by
  constructor
  · intro e
    rw [← F_lt h, e]; rfl
  · rintro rfl; exact F_0
theorem F_inj {x y : Nat} (hx : x < p) (hy : y < p) (h : F p x = F p y) : x = y := by rw [← F_lt hx, ← F_lt hy, h]
theorem F_fad (x y : Nat) : F p (fad p x y) = F p x + F p y := by unfold fad; rw [F_mod, F_add]
theorem F_fml (x y : Nat) : F p (fml p x y) = F p x * F p y := by unfold fml; rw [F_mod, F_mul]
theorem F_fsb (x : Nat) {y : Nat} (hy : y < p) : F p (fsb p x y) = F p x - F p y := by
  unfold fsb
  rw [F_mod, F_add]
  have : F p (p - y) + F p y = 0 := by rw [← F_add, show p - y + y = p by omega, F_p]
  grobner
theorem p_pos : 0 < p := Nat.pos_of_ne_zero (NeZero.ne p)
/-- Three numbers that stand for a point. -/
def Rp (t : Nat × Nat × Nat) : Pt p → Prop
  | none => t.2.2 = 0
  | some (x, y) => t.2.2 ≠ 0 ∧ F p t.1 = x * (F p t.2.2 * F p t.2.2) ∧ F p t.2.1 = y * (F p t.2.2 * F p t.2.2 * F p t.2.2)
theorem dbl_ring {x y z a s : Fin p} (ha : a + 3 = 0) (hs : s * (y + y) = x * x + x * x + x * x + a) {X Y ZZ YY Q SL Q2 Q3 X4 Q4 Q5 Y8 SU Q6 : Fin p} (hX : X = x * (z * z)) (hY : Y = y * (z * z * z)) (hZZ : ZZ = z * z) (hYY : YY = Y * Y) (hQ : Q = (X - ZZ) * (X + ZZ)) (hSL : SL = Q + Q + Q) (hQ2 : Q2 = X * YY) (hQ3 : Q3 = Q2 + Q2) (hX4 : X4 = Q3 + Q3) (hQ4 : Q4 = YY + YY) (hQ5 : Q5 = Q4 * Q4) (hY8 : Y8 = Q5 + Q5) (hSU : SU = SL * SL - (X4 + X4)) (hQ6 : Q6 = Y * z) :
    SU = (s * s - x - x) * ((Q6 + Q6) * (Q6 + Q6)) ∧ SL * (X4 - SU) - Y8 = (s * (x - (s * s - x - x)) - y) * ((Q6 + Q6) * (Q6 + Q6) * (Q6 + Q6)) := by
  have hsl : SL = s * (y + y) * (z * z * z * z) := by
    subst hX hZZ hQ hSL
    have e : a = -3 := by grobner
    subst e
    rw [hs]
    grobner
  clear hs ha hSL hQ
  subst hsl hX hY hYY hQ2 hQ3 hX4 hQ4 hQ5 hY8 hSU hQ6
  constructor <;> grobner
theorem jdb_rp (hc : c.Ok) (ha : c.a + 3 = 0) {t : Nat × Nat × Nat} (ht : Lt3 p t) {P : Pt p} (hP : c.On P) (h : Rp t P) : Rp (jdb p t.1 t.2.1 t.2.2) (c.add P P) := by
  obtain ⟨X, Y, Z⟩ := t
  obtain ⟨l1, l2, l3⟩ := ht
  simp only [] at l1 l2 l3 ⊢
  have h0 := p_pos (p := p)
  match P, hP, h with
  | none, _, h =>
    have h : Z = 0 := h
    subst h
    show (jdb p X Y 0).2.2 = 0
    simp [jdb, fml, fad]
  | some (x, y), hP, h =>
    obtain ⟨hz, hX, hY⟩ := h
    simp only [] at hz hX hY
    have hzF : F p Z ≠ 0 := fun e => hz ((F_zero l3).1 e)
    have e3 : F p (jdb p X Y Z).2.2 = F p Y * F p Z + F p Y * F p Z := by show F p (fad p (fml p Y Z) (fml p Y Z)) = _; rw [F_fad, F_fml]
    have l3' : (jdb p X Y Z).2.2 < p := fad_lt h0
    by_cases hy : y + y = 0
    · rw [add_opp ⟨rfl, hy⟩]
      show (jdb p X Y Z).2.2 = 0
      refine (F_zero l3').1 ?_
      rw [e3, hY, hc.fd.half hy]
      grobner
    · have hn : ¬ (x = x ∧ y + y = 0) := fun h => hy h.2
      have hs := slope_ok hc hP hP hn
      rw [add_of hc hP hP hn hs]
      generalize c.slope x y x y = s at hs
      obtain ⟨_, hs⟩ := hs
      have e1 : F p (jdb p X Y Z).1 = F p (jdb p X Y Z).1 := rfl
      have key := dbl_ring (z := F p Z) (X := F p X) (Y := F p Y) (ZZ := F p (fml p Z Z)) (YY := F p (fml p Y Y)) (Q := F p (fml p (fsb p X (fml p Z Z)) (fad p X (fml p Z Z)))) (SL := _) (Q2 := F p (fml p X (fml p Y Y))) (Q3 := _) (X4 := _) (Q4 := _) (Q5 := _) (Y8 := _) (SU := _) (Q6 := F p (fml p Y Z)) ha hs hX hY (F_fml _ _) (F_fml _ _) (by rw [F_fml, F_fsb _ (fml_lt h0), F_fad]) rfl (F_fml _ _) rfl rfl rfl rfl rfl rfl (F_fml _ _)
      have hz' : (jdb p X Y Z).2.2 ≠ 0 := fun e => by
        have := (F_zero l3').2 e
        rw [e3] at this
        have h2 := hc.fd.half this
        rw [hY] at h2
        have hy0 : y ≠ 0 := fun e => hy (by rw [e]; grobner)
        exact hc.fd.mulne (hc.fd.mulne hy0 (hc.fd.mulne (hc.fd.mulne hzF hzF) hzF)) hzF h2
      refine ⟨hz', ?_, ?_⟩
      · have := key.1
        rw [e3, ← F_fml] 
        rw [← this]
        show F p (fsb p _ _) = _
        simp only [F_fsb _ (fad_lt h0), F_fsb _ (fml_lt h0), F_fml, F_fad]
      · have := key.2
        rw [e3, ← F_fml]
        rw [← this]
        show F p (fsb p _ _) = _
        simp only [F_fsb _ (fad_lt h0), F_fsb _ (fml_lt h0), F_fsb _ (fsb_lt h0), F_fml, F_fad]
theorem chord_ring {x1 y1 x2 y2 z1 z2 s : Fin p} (hs : s * (x2 - x1) = y2 - y1) {U V A B DX DY ZZ SQ CU WI SU : Fin p} (hU : U = x1 * (z1 * z1) * (z2 * z2)) (hV : V = x2 * (z2 * z2) * (z1 * z1)) (hA : A = y1 * (z1 * z1 * z1) * (z2 * (z2 * z2))) (hB : B = y2 * (z2 * z2 * z2) * (z1 * (z1 * z1))) (hDX : DX = V - U) (hDY : DY = B - A) (hZZ : ZZ = z1 * z2) (hSQ : SQ = DX * DX) (hCU : CU = SQ * DX) (hWI : WI = SQ * U) (hSU : SU = DY * DY - CU - (WI + WI)) :
    SU = (s * s - x1 - x2) * ((ZZ * DX) * (ZZ * DX)) ∧ DY * (WI - SU) - A * CU = (s * (x1 - (s * s - x1 - x2)) - y1) * ((ZZ * DX) * (ZZ * DX) * (ZZ * DX)) := by
  have hd : DX = (x2 - x1) * (z1 * z1) * (z2 * z2) := by subst hU hV hDX; grobner
  have hy : DY = s * DX * (z1 * z2) := by
    subst hA hB hDY
    have e : y2 = y1 + s * (x2 - x1) := by grobner
    subst e
    rw [hd]
    grobner
  have hu : U = x1 * (ZZ * ZZ) := by subst hZZ; rw [hU]; grobner
  have ha : A = y1 * (ZZ * ZZ * ZZ) := by subst hZZ; rw [hA]; grobner
  have hd2 : DX = (x2 - x1) * (ZZ * ZZ) := by subst hZZ; rw [hd]; grobner
  have hy2 : DY = s * DX * ZZ := by rw [hZZ]; exact hy
  clear hU hV hA hB hDX hDY hZZ hd hy hs
  subst hSQ hCU hWI hSU hy2 hu ha hd2
  constructor <;> grobner
theorem jsm_rp (hc : c.Ok) (ha : c.a + 3 = 0) {s t : Nat × Nat × Nat} (hs : Lt3 p s) (ht : Lt3 p t) {P Q : Pt p} (hP : c.On P) (hQ : c.On Q) (h : Rp s P) (g : Rp t Q) : Rp (jsm p s t) (c.add P Q) := by
  obtain ⟨X1, Y1, Z1⟩ := s
  obtain ⟨X2, Y2, Z2⟩ := t
  have h0 := p_pos (p := p)
  match P, Q, hP, hQ, h, g with
  | none, Q, _, _, h, g =>
    have h : Z1 = 0 := h
    unfold jsm
    rw [if_pos (by exact h)]
    exact g
  | some (x1, y1), none, _, _, h, g =>
    have g : Z2 = 0 := g
    have h1 : Z1 ≠ 0 := h.1
    unfold jsm
    rw [if_neg (by exact h1), if_pos (by exact g)]
    exact h
  | some (x1, y1), some (x2, y2), hP, hQ, h, g =>
    have hh := h
    obtain ⟨hz1, hX1, hY1⟩ := h
    obtain ⟨hz2, hX2, hY2⟩ := g
    simp only [] at hz1 hz2 hX1 hX2 hY1 hY2
    have n1 : F p Z1 ≠ 0 := fun e => hz1 ((F_zero hs.2.2).1 e)
    have n2 : F p Z2 ≠ 0 := fun e => hz2 ((F_zero ht.2.2).1 e)
    have hx := jsm.eq_def p (X1, Y1, Z1) (X2, Y2, Z2)
    rw [if_neg (by exact hz1), if_neg (by exact hz2)] at hx
    simp only [] at hx
    generalize hU : fml p X1 (fml p Z2 Z2) = U at hx
    generalize hV : fml p X2 (fml p Z1 Z1) = V at hx
    generalize hA : fml p Y1 (fml p Z2 (fml p Z2 Z2)) = A at hx
    generalize hB : fml p Y2 (fml p Z1 (fml p Z1 Z1)) = B at hx
    have lU : U < p := hU ▸ fml_lt h0
    have lA : A < p := hA ▸ fml_lt h0
    have eU : F p U = x1 * (F p Z1 * F p Z1) * (F p Z2 * F p Z2) := by rw [← hU, F_fml, F_fml, hX1]
    have eV : F p V = x2 * (F p Z2 * F p Z2) * (F p Z1 * F p Z1) := by rw [← hV, F_fml, F_fml, hX2]
    have eA : F p A = y1 * (F p Z1 * F p Z1 * F p Z1) * (F p Z2 * (F p Z2 * F p Z2)) := by rw [← hA, F_fml, F_fml, F_fml, hY1]
    have eB : F p B = y2 * (F p Z2 * F p Z2 * F p Z2) * (F p Z1 * (F p Z1 * F p Z1)) := by rw [← hB, F_fml, F_fml, F_fml, hY2]
    clear hU hV hA hB
    have eDX : F p (fsb p V U) = F p V - F p U := F_fsb _ lU
    have eDY : F p (fsb p B A) = F p B - F p A := F_fsb _ lA
    have lDX : fsb p V U < p := fsb_lt h0
    have lDY : fsb p B A < p := fsb_lt h0
    have dX : F p (fsb p V U) = (x2 - x1) * ((F p Z1 * F p Z1) * (F p Z2 * F p Z2)) := by
      rw [eDX, eU, eV]; clear eU eV eA eB eDX eDY hX1 hX2 hY1 hY2; grobner
    have dY : F p (fsb p B A) = (y2 - y1) * ((F p Z1 * F p Z1 * F p Z1) * (F p Z2 * F p Z2 * F p Z2)) := by
      rw [eDY, eA, eB]; clear eU eV eA eB eDX eDY hX1 hX2 hY1 hY2 dX; grobner
    have nZ : (F p Z1 * F p Z1) * (F p Z2 * F p Z2) ≠ 0 := hc.fd.mulne (hc.fd.mulne n1 n1) (hc.fd.mulne n2 n2)
    have nZ3 : (F p Z1 * F p Z1 * F p Z1) * (F p Z2 * F p Z2 * F p Z2) ≠ 0 := hc.fd.mulne (hc.fd.mulne (hc.fd.mulne n1 n1) n1) (hc.fd.mulne (hc.fd.mulne n2 n2) n2)
    by_cases hdx : fsb p V U = 0
    · have hxx : x1 = x2 := by
        have e := (F_zero lDX).2 hdx
        rw [dX] at e
        rcases hc.fd.dom _ _ e with e | e
        · exact as7 e
        · exact absurd e nZ
      by_cases hdy : fsb p B A = 0
      · have hyy : y1 = y2 := by
          have e := (F_zero lDY).2 hdy
          rw [dY] at e
          rcases hc.fd.dom _ _ e with e | e
          · exact as7 e
          · exact absurd e nZ3
        rw [hx, if_neg (by simpa using hdx), if_neg (by simpa using hdy)]
        subst hxx hyy
        exact jdb_rp (t := (X1, Y1, Z1)) hc ha hs hP hh
      · rw [hx, if_neg (by simpa using hdx), if_pos hdy]
        have hy : y1 + y2 = 0 := by
          have hne : y2 - y1 ≠ 0 := fun e => hdy ((F_zero lDY).1 (by rw [dY, e]; clear eU eV eA eB eDX eDY hX1 hX2 hY1 hY2 dX dY; grobner))
          have e : (y2 - y1) * (y1 + y2) = 0 := by
            have h1 : y1 * y1 = x1 * x1 * x1 + c.a * x1 + c.b := hP
            have h2 : y2 * y2 = x2 * x2 * x2 + c.a * x2 + c.b := hQ
            rw [← hxx] at h2
            clear eU eV eA eB eDX eDY hX1 hX2 hY1 hY2 dX dY
            grobner
          rcases hc.fd.dom _ _ e with e | e
          · exact absurd e hne
          · exact e
        rw [add_opp ⟨hxx, hy⟩]
        rfl
    · have hxx : x1 ≠ x2 := fun e => hdx ((F_zero lDX).1 (by rw [dX, e]; clear eU eV eA eB eDX eDY hX1 hX2 hY1 hY2 dX dY; grobner))
      have hn : ¬ (x1 = x2 ∧ y1 + y2 = 0) := fun h => hxx h.1
      have hsl := slope_ok hc hP hQ hn
      rw [add_of hc hP hQ hn hsl, hx, if_pos hdx]
      generalize c.slope x1 y1 x2 y2 = s at hsl
      have key := chord_ring (z1 := F p Z1) (z2 := F p Z2) (U := F p U) (V := F p V) (A := F p A) (B := F p B) (DX := F p (fsb p V U)) (DY := F p (fsb p B A)) (ZZ := F p (fml p Z1 Z2)) (SQ := _) (CU := _) (WI := _) (SU := _) hsl.1 eU eV eA eB eDX eDY (F_fml _ _) rfl rfl rfl rfl
      have nDX : F p (fsb p V U) ≠ 0 := fun e => hdx ((F_zero lDX).1 e)
      have nZZ : F p (fml p Z1 Z2) ≠ 0 := by rw [F_fml]; exact hc.fd.mulne n1 n2
      generalize fsb p V U = DX at *
      generalize fsb p B A = DY at *
      generalize fml p Z1 Z2 = ZZ at *
      clear hx eU eV eA eB eDX eDY dX dY hX1 hX2 hY1 hY2
      unfold jch
      refine ⟨?_, ?_, ?_⟩
      · intro e
        have := (F_zero (p := p) (x := fml p ZZ DX) (fml_lt h0)).2 e
        rw [F_fml] at this
        exact hc.fd.mulne nZZ nDX this
      · have := key.1
        simp only [F_fml]
        rw [← this]
        simp only [F_fsb _ (fad_lt h0), F_fsb _ (fml_lt h0), F_fml, F_fad]
      · have := key.2
        simp only [F_fml]
        rw [← this]
        simp only [F_fsb _ (fad_lt h0), F_fsb _ (fml_lt h0), F_fsb _ (fsb_lt h0), F_fml, F_fad]
end Go.Proofs.Yteagdgbcfbkfbab.Gl
/-
  Curves: two multiples together, points as numbers (pure).
-/
namespace Go.Proofs.Yteagdgbcfbkfbab.Gl
variable {p : Nat} [NeZero p] {c : Ec p}
theorem add4 (hc : c.Ok) {A B C D : Pt p} (hA : c.On A) (hB : c.On B) (hC : c.On C) (hD : c.On D) : c.add (c.add A B) (c.add C D) = c.add (c.add A C) (c.add B D) := by
  rw [assoc hc hA hB (add_on hc hC hD), assoc hc hA hC (add_on hc hB hD), ← assoc hc hB hC hD, ← assoc hc hC hB hD, add_comm hc hB hC]
theorem stepT_rp (hc : c.Ok) (ha : c.a + 3 = 0) {g q : Nat × Nat × Nat} (lg : Lt3 p g) (lq : Lt3 p q) {G Q : Pt p} (hG : c.On G) (hQ : c.On Q) (rg : Rp g G) (rq : Rp q Q) (d e : Nat) (hd : d < 2) (he : e < 2) : Rp (stepT p g q (d + 2 * e)) (c.add (c.mul d G) (c.mul e Q)) := by
  rcases (by omega : d = 0 ∨ d = 1) with rfl | rfl <;> rcases (by omega : e = 0 ∨ e = 1) with rfl | rfl
  · exact (rfl : (0 : Nat) = 0)
  · exact rq
  · show Rp g (c.add G none); rw [add_zero]; exact rg
  · exact jsm_rp hc ha lg lq hG hQ rg rq
theorem half_step (a n k : Nat) (h : k < n) : a / 2 ^ (n - (k + 1)) = a / 2 ^ (n - k) + a / 2 ^ (n - k) + a / 2 ^ (n - 1 - k) % 2 := by
  have e1 : n - (k + 1) = n - 1 - k := by omega
  have e2 : n - k = (n - 1 - k) + 1 := by omega
  rw [e1, e2, Nat.pow_succ, ← Nat.div_div_eq_div_mul]
  omega
theorem mixL_rp (hc : c.Ok) (ha : c.a + 3 = 0) {g q : Nat × Nat × Nat} (lg : Lt3 p g) (lq : Lt3 p q) {G Q : Pt p} (hG : c.On G) (hQ : c.On Q) (rg : Rp g G) (rq : Rp q Q) (a b n : Nat) (hna : a < 2 ^ n) (hnb : b < 2 ^ n) (k : Nat) (hk : k ≤ n) :
    Rp (mixL p g q a b n k) (c.add (c.mul (a / 2 ^ (n - k)) G) (c.mul (b / 2 ^ (n - k)) Q)) := by
  induction k with
  | zero =>
    rw [Nat.sub_zero, Nat.div_eq_of_lt hna, Nat.div_eq_of_lt hnb]
    exact (rfl : (0 : Nat) = 0)
  | succ k ih =>
    have ih := ih (by omega)
    have h0 := p_pos (p := p)
    have lm := mixL_lt (a := a) (b := b) (n := n) h0 lg lq k
    have oA := mul_on hc hG (a / 2 ^ (n - k))
    have oB := mul_on hc hQ (b / 2 ^ (n - k))
    have od := mul_on hc hG (a / 2 ^ (n - 1 - k) % 2)
    have oe := mul_on hc hQ (b / 2 ^ (n - 1 - k) % 2)
    have h1 := jdb_rp hc ha lm (add_on hc oA oB) ih
    have h2 := stepT_rp hc ha lg lq hG hQ rg rq (a / 2 ^ (n - 1 - k) % 2) (b / 2 ^ (n - 1 - k) % 2) (Nat.mod_lt _ (by decide)) (Nat.mod_lt _ (by decide))
    have h3 := jsm_rp hc ha (jdb_lt h0) (stepT_lt h0 lg lq _) (add_on hc (add_on hc oA oB) (add_on hc oA oB)) (add_on hc od oe) h1 h2
    rw [half_step a n k (by omega), half_step b n k (by omega), mul_add hc hG, mul_add hc hG, mul_add hc hQ, mul_add hc hQ]
    rw [add4 hc oA oB oA oB, add4 hc (add_on hc oA oA) (add_on hc oB oB) od oe] at h3
    exact h3
theorem mixT_rp (hc : c.Ok) (ha : c.a + 3 = 0) {g q : Nat × Nat × Nat} (lg : Lt3 p g) (lq : Lt3 p q) {G Q : Pt p} (hG : c.On G) (hQ : c.On Q) (rg : Rp g G) (rq : Rp q Q) (a b : Nat) : Rp (mixT p g q a b) (c.add (c.mul a G) (c.mul b Q)) := by
  have hna : a < 2 ^ mixN a b := by
    refine Nat.lt_of_lt_of_le (bitLen_spec a).1 (Nat.pow_le_pow_right (by decide) ?_)
    unfold mixN; split <;> omega
  have hnb : b < 2 ^ mixN a b := by
    refine Nat.lt_of_lt_of_le (bitLen_spec b).1 (Nat.pow_le_pow_right (by decide) ?_)
    unfold mixN; split <;> omega
  have := mixL_rp hc ha lg lq hG hQ rg rq a b (mixN a b) hna hnb (mixN a b) (Nat.le_refl _)
  rw [Nat.sub_self, Nat.pow_zero, Nat.div_one, Nat.div_one] at this
  exact this
/-- A point as two numbers; the far one: 0 and 0. -/
def enc : Pt p → Nat × Nat
  | none => (0, 0)
  | some (x, y) => (x.val, y.val)
theorem enc_lt (P : Pt p) : (enc P).1 < p ∧ (enc P).2 < p := by
  match P with
  | none => exact ⟨p_pos, p_pos⟩
  | some (x, y) => exact ⟨x.isLt, y.isLt⟩
theorem enc_inj (hb : c.b ≠ 0) {P Q : Pt p} (hP : c.On P) (hQ : c.On Q) (h : enc P = enc Q) : P = Q := by
  have key : ∀ x y : Fin p, c.on x y → ¬ (x.val = 0 ∧ y.val = 0) := by
    intro x y ho ⟨h1, h2⟩
    have e1 : x = 0 := Fin.ext h1
    have e2 : y = 0 := Fin.ext h2
    subst e1 e2
    unfold Ec.on at ho
    apply hb
    grobner
  match P, Q, hP, hQ, h with
  | none, none, _, _, _ => rfl
  | none, some (x, y), _, hQ, h =>
    have h1 : (0, 0) = (x.val, y.val) := h
    simp only [Prod.mk.injEq] at h1
    exact absurd ⟨h1.1.symm, h1.2.symm⟩ (key x y hQ)
  | some (x, y), none, hP, _, h =>
    have h1 : (x.val, y.val) = (0, 0) := h
    simp only [Prod.mk.injEq] at h1
    exact absurd ⟨h1.1, h1.2⟩ (key x y hP)
  | some (x, y), some (x', y'), _, _, h =>
    have h1 : (x.val, y.val) = (x'.val, y'.val) := h
    simp only [Prod.mk.injEq] at h1
    rw [Fin.ext h1.1, Fin.ext h1.2]
theorem enc_far (hb : c.b ≠ 0) {P : Pt p} (hP : c.On P) : (enc P).1 = 0 ∧ (enc P).2 = 0 ↔ P = none := by
  constructor
  · rintro ⟨h1, h2⟩
    exact enc_inj hb hP trivial (Prod.ext h1 h2)
  · rintro rfl; exact ⟨rfl, rfl⟩
/-- A point's three numbers. -/
def triN (X Y : Nat) : Nat × Nat × Nat := if X = 0 ∧ Y = 0 then (0, 0, 0) else (X, Y, 1)
theorem triN_rp (hb : c.b ≠ 0) (h1p : 1 < p) {P : Pt p} (hP : c.On P) : Rp (triN (enc P).1 (enc P).2) P ∧ Lt3 p (triN (enc P).1 (enc P).2) := by
  have hl := enc_lt P
  match P, hP, hl with
  | none, _, _ => exact ⟨rfl, p_pos, p_pos, p_pos⟩
  | some (x, y), hP, hl =>
    have hn : ¬ ((enc (some (x, y))).1 = 0 ∧ (enc (some (x, y))).2 = 0) := fun h => by
      have := (enc_far hb (P := some (x, y)) hP).1 h
      cases this
    unfold triN
    rw [if_neg hn]
    refine ⟨⟨Nat.one_ne_zero, ?_, ?_⟩, hl.1, hl.2, h1p⟩
    · show F p x.val = x * (F p 1 * F p 1)
      rw [F_self, F_1]; grobner
    · show F p y.val = y * (F p 1 * F p 1 * F p 1)
      rw [F_self, F_1]; grobner
theorem jpt_enc {t : Nat × Nat × Nat} (ht : Lt3 p t) {P : Pt p} (h : Rp t P) {X Y : Nat} (hj : jpt p t X Y) : enc P = (X, Y) := by
  obtain ⟨A, B, Z⟩ := t
  have h0 := p_pos (p := p)
  rcases hj with ⟨hz, rfl, rfl⟩ | ⟨hz, g, hg, hi, rfl, rfl⟩
  · match P, h with
    | none, _ => rfl
    | some (x, y), h => exact absurd hz h.1
  · match P, h with
    | none, h => exact absurd h hz
    | some (x, y), h =>
      obtain ⟨_, hA, hB⟩ := h
      simp only [] at hA hB hi ⊢
      have hi' : F p Z * F p g = 1 := by rw [← F_mul, ← F_mod, hi, F_mod, F_1]
      show (x.val, y.val) = _
      refine Prod.ext ?_ ?_
      · refine F_inj (p := p) x.isLt (fml_lt h0) ?_
        rw [F_self, F_fml, F_fml, hA]
        generalize F p Z = z at *
        generalize F p g = i at *
        have e : x * (z * z) * (i * i) = x * ((z * i) * (z * i)) := by clear hA hB hi'; grobner
        rw [e, hi']; clear hA hB hi' e; grobner
      · refine F_inj (p := p) y.isLt (fml_lt h0) ?_
        rw [F_self, F_fml, F_fml, F_fml, hB]
        generalize F p Z = z at *
        generalize F p g = i at *
        have e : y * (z * z * z) * (i * i * i) = y * ((z * i) * (z * i) * (z * i)) := by clear hA hB hi'; grobner
        rw [e, hi']; clear hA hB hi' e; grobner
end Go.Proofs.Yteagdgbcfbkfbab.Gl
/-
  Primes: Fermat, Pocklington (pure).
-/
namespace Go.Proofs.Yteagdgbcfbkfbab.Pm
/-- A prime number. -/
def Pr (p : Nat) : Prop := 2 ≤ p ∧ ∀ m, m ∣ p → m = 1 ∨ m = p
theorem Pr.cop {p k : Nat} (hp : Pr p) (h : ¬ p ∣ k) : Nat.Coprime p k := by
  rcases hp.2 _ (Nat.gcd_dvd_left p k) with h1 | h1
  · exact h1
  · exact absurd (h1 ▸ Nat.gcd_dvd_right p k) h
theorem Pr.mul {p a b : Nat} (hp : Pr p) (h : p ∣ a * b) : p ∣ a ∨ p ∣ b := by
  by_cases ha : p ∣ a
  · exact .inl ha
  · exact .inr ((hp.cop ha).dvd_of_dvd_mul_left h)
/-- Every number above 1 has a prime divisor. -/
theorem hasPr (n : Nat) (h : 2 ≤ n) : ∃ p, Pr p ∧ p ∣ n := by
  induction n using Nat.strongRecOn with
  | ind n ih =>
    by_cases hp : Pr n
    · exact ⟨n, hp, Nat.dvd_refl n⟩
    · have : ∃ m, m ∣ n ∧ m ≠ 1 ∧ m ≠ n := by
        refine Classical.byContradiction fun hc => hp ⟨h, fun m hm => ?_⟩
        by_cases h1 : m = 1
        · exact .inl h1
        · by_cases h2 : m = n
          · exact .inr h2
          · exact absurd ⟨m, hm, h1, h2⟩ hc
      obtain ⟨m, hm, h1, h2⟩ := this
      have hle := Nat.le_of_dvd (by omega) hm
      have h0 : m ≠ 0 := by rintro rfl; have := Nat.eq_zero_of_zero_dvd hm; omega
      obtain ⟨p, hp, hd⟩ := ih m (by omega) (by omega)
      exact ⟨p, hp, Nat.dvd_trans hd hm⟩
/-- Binomials. -/
def C : Nat → Nat → Nat
  | _, 0 => 1
  | 0, _ + 1 => 0
  | n + 1, k + 1 => C n k + C n (k + 1)
theorem C_zero (n : Nat) : C n 0 = 1 := by cases n <;> rfl
theorem C_succ (n k : Nat) : C (n + 1) (k + 1) = C n k + C n (k + 1) := rfl
theorem C_big (n k : Nat) (h : n < k) : C n k = 0 := by
  induction n generalizing k with
  | zero => obtain ⟨k, rfl⟩ : ∃ j, k = j + 1 := ⟨k - 1, by omega⟩; rfl
  | succ n ih => obtain ⟨k, rfl⟩ : ∃ j, k = j + 1 := ⟨k - 1, by omega⟩; rw [C_succ, ih k (by omega), ih (k + 1) (by omega)]
theorem C_self (n : Nat) : C n n = 1 := by
  induction n with
  | zero => rfl
  | succ n ih => rw [C_succ, ih, C_big n (n + 1) (by omega)]
theorem C_abs (n k : Nat) : (k + 1) * C (n + 1) (k + 1) = (n + 1) * C n k := by
  induction n generalizing k with
  | zero => cases k with
    | zero => rfl
    | succ k => rw [C_big _ _ (by omega), C_big _ _ (by omega)]; simp
  | succ n ih =>
    cases k with
    | zero =>
      have h := ih 0
      rw [C_zero] at h
      rw [C_succ, C_zero, Nat.mul_add, h]
      omega
    | succ k =>
      have h1 := ih k
      have h2 := ih (k + 1)
      rw [C_succ (n + 1) (k + 1), C_succ n k]
      rw [C_succ n k] at h1
      rw [Nat.mul_add, h2]
      have e : (k + 1 + 1) * (C n k + C n (k + 1)) = (k + 1) * (C n k + C n (k + 1)) + (C n k + C n (k + 1)) := by rw [Nat.succ_mul]
      rw [e, h1]
      simp only [Nat.mul_add, Nat.add_mul]
      omega
theorem C_prime {p k : Nat} (hp : Pr p) (h0 : 0 < k) (h1 : k < p) : p ∣ C p k := by
  obtain ⟨k, rfl⟩ : ∃ j, k = j + 1 := ⟨k - 1, by omega⟩
  obtain ⟨n, rfl⟩ : ∃ j, p = j + 1 := ⟨p - 1, by omega⟩
  have h := C_abs n k
  have hd : n + 1 ∣ (k + 1) * C (n + 1) (k + 1) := ⟨_, h⟩
  rcases hp.mul hd with h | h
  · exact absurd (Nat.le_of_dvd (by omega) h) (by omega)
  · exact h
/-- The terms below j of (a + 1) ^ n. -/
def Sm (n a : Nat) : Nat → Nat
  | 0 => 0
  | j + 1 => Sm n a j + C n j * a ^ j
theorem Sm_succ (n a j : Nat) : Sm (n + 1) a (j + 1) = a * Sm n a j + Sm n a (j + 1) := by
  induction j with
  | zero => simp [Sm, C_zero]
  | succ j ih =>
    have e : Sm (n + 1) a (j + 2) = Sm (n + 1) a (j + 1) + C (n + 1) (j + 1) * a ^ (j + 1) := rfl
    have e2 : Sm n a (j + 2) = Sm n a (j + 1) + C n (j + 1) * a ^ (j + 1) := rfl
    have e3 : Sm n a (j + 1) = Sm n a j + C n j * a ^ j := rfl
    have e4 : a * Sm n a (j + 1) = a * Sm n a j + a * (C n j * a ^ j) := by rw [e3, Nat.mul_add]
    have e5 : a * (C n j * a ^ j) = C n j * a ^ (j + 1) := by rw [Nat.pow_succ, Nat.mul_comm a, Nat.mul_assoc]
    rw [e, ih, e2, e4, e5, C_succ, Nat.add_mul]
    omega
theorem binom (n a : Nat) : (a + 1) ^ n = Sm n a (n + 1) := by
  induction n with
  | zero => simp [Sm, C]
  | succ n ih =>
    have e : Sm n a (n + 2) = Sm n a (n + 1) := by
      show Sm n a (n + 1) + C n (n + 1) * a ^ (n + 1) = _
      rw [C_big n (n + 1) (by omega)]; simp
    rw [Sm_succ, e, ← ih, Nat.pow_succ, Nat.mul_add, Nat.mul_one, Nat.mul_comm]
theorem Sm_mod {p : Nat} (hp : Pr p) (a j : Nat) (h0 : 0 < j) (h : j ≤ p) : Sm p a j % p = 1 % p := by
  induction j with
  | zero => omega
  | succ j ih =>
    by_cases hj : j = 0
    · subst hj; simp [Sm, C_zero]
    · show (Sm p a j + C p j * a ^ j) % p = _
      have hd : p ∣ C p j * a ^ j := Nat.dvd_trans (C_prime hp (by omega) (by omega)) (Nat.dvd_mul_right _ _)
      rw [Nat.add_mod, Nat.mod_eq_zero_of_dvd hd, Nat.add_zero, Nat.mod_mod, ih (by omega) (by omega)]
theorem dvd_of_mod {a b n : Nat} (h : a % n = b % n) : n ∣ a - b := Nat.dvd_of_mod_eq_zero (Nat.sub_mod_eq_zero_of_mod_eq h)
theorem mod_of_dvd {a b n : Nat} (hb : b ≤ a) (h : n ∣ a - b) : a % n = b % n := by
  obtain ⟨c, hc⟩ := h
  have : a = b + n * c := by omega
  rw [this, Nat.add_mul_mod_self_left]
/-- Fermat's little theorem. -/
theorem fermat {p : Nat} (hp : Pr p) (a : Nat) : a ^ p % p = a % p := by
  induction a with
  | zero => have := hp.1; rw [Nat.zero_pow (by omega)]
  | succ a ih =>
    rw [binom]
    show (Sm p a p + C p p * a ^ p) % p = _
    rw [C_self, Nat.one_mul, Nat.add_mod, Sm_mod hp a p (by have := hp.1; omega) (Nat.le_refl _), ih, ← Nat.add_mod, Nat.add_comm]
theorem fermat1 {p : Nat} (hp : Pr p) (a : Nat) (ha : ¬ p ∣ a) : a ^ (p - 1) % p = 1 % p := by
  have h := fermat hp a
  obtain ⟨n, rfl⟩ : ∃ j, p = j + 1 := ⟨p - 1, by have := hp.1; omega⟩
  show a ^ n % (n + 1) = _
  have hc := hp.cop ha
  by_cases h1 : 1 ≤ a ^ n
  · have hd : n + 1 ∣ a * (a ^ n - 1) := by
      have e : a * (a ^ n - 1) = a ^ (n + 1) - a := by rw [Nat.mul_sub, Nat.mul_one, Nat.pow_succ, Nat.mul_comm]
      rw [e]
      exact dvd_of_mod h
    have := hc.dvd_of_dvd_mul_left hd
    exact mod_of_dvd h1 this
  · have : a ^ n = 0 := by omega
    have ha0 : a = 0 := by
      by_cases h0 : a = 0
      · exact h0
      · have := Nat.pow_pos (n := n) (Nat.pos_of_ne_zero h0); omega
    subst ha0
    exact absurd (Nat.dvd_zero _) ha
/-- a ^ k leaves 1. -/
def U1 (r a k : Nat) : Prop := a ^ k % r = 1 % r
theorem U1.add {r a k l : Nat} (h : U1 r a k) (g : U1 r a l) : U1 r a (k + l) := by
  unfold U1 at *
  rw [Nat.pow_add, Nat.mul_mod, h, g, ← Nat.mul_mod]
theorem U1.mul {r a k : Nat} (h : U1 r a k) (m : Nat) : U1 r a (k * m) := by
  induction m with
  | zero => unfold U1; simp
  | succ m ih => rw [Nat.mul_succ]; exact ih.add h
theorem U1.sub {r a k l : Nat} (h : U1 r a (k + l)) (g : U1 r a k) : U1 r a l := by
  unfold U1 at *
  rw [Nat.pow_add, Nat.mul_mod, g, ← Nat.mul_mod, Nat.one_mul] at h
  exact h
/-- The least exponent divides every one. -/
theorem ord_dvd {r a t k : Nat} (h0 : 0 < t) (ht : U1 r a t) (hm : ∀ j, 0 < j → j < t → ¬ U1 r a j) (hk : U1 r a k) : t ∣ k := by
  have h := Nat.div_add_mod k t
  rw [← h] at hk
  have := hk.sub (ht.mul _)
  by_cases hz : k % t = 0
  · exact Nat.dvd_of_mod_eq_zero hz
  · exact absurd this (hm _ (by omega) (Nat.mod_lt _ h0))
theorem least {P : Nat → Prop} (n : Nat) (h : P n) : ∃ t, P t ∧ ∀ j, j < t → ¬ P j := by
  induction n using Nat.strongRecOn with
  | ind n ih =>
    by_cases hc : ∃ j, j < n ∧ P j
    · obtain ⟨j, hj, hp⟩ := hc; exact ih j hj hp
    · exact ⟨n, h, fun j hj hp => hc ⟨j, hj, hp⟩⟩
theorem Pr.copow {q s : Nat} (hq : Pr q) (h : ¬ q ∣ s) (e : Nat) : Nat.Coprime (q ^ e) s := Nat.Coprime.pow_left e (hq.cop h)
theorem pow_in {t n q e : Nat} (hq : Pr q) (htn : t ∣ n) (hne : ¬ t ∣ n / q) (he : q ^ e ∣ n) : q ^ e ∣ t := by
  obtain ⟨s, rfl⟩ := htn
  have hs : ¬ q ∣ s := by
    rintro ⟨c, rfl⟩
    apply hne
    refine ⟨c, ?_⟩
    rw [Nat.mul_left_comm, Nat.mul_div_cancel_left _ (by have := hq.1; omega)]
  exact (hq.copow hs e).dvd_of_dvd_mul_right he
/-- Pocklington: what a witness says of each prime divisor. -/
theorem pock1 {N r a q e : Nat} (hr : Pr r) (hrN : r ∣ N) (hN : 2 ≤ N) (hq : Pr q) (he : q ^ e ∣ N - 1) (h1 : a ^ (N - 1) % N = 1 % N) (h2 : Nat.gcd (a ^ ((N - 1) / q) - 1) N = 1) : q ^ e ∣ r - 1 := by
  have hmod : ∀ k, a ^ k % N = 1 % N → U1 r a k := by
    intro k hk
    unfold U1
    rw [← Nat.mod_mod_of_dvd _ hrN, hk, Nat.mod_mod_of_dvd _ hrN]
  have hu := hmod _ h1
  have hna : ¬ r ∣ a := by
    intro hd
    unfold U1 at hu
    have h0 : a ^ (N - 1) % r = 0 := Nat.mod_eq_zero_of_dvd (Nat.dvd_trans hd (by
      obtain ⟨k, hk⟩ : ∃ k, N - 1 = k + 1 := ⟨N - 2, by omega⟩
      rw [hk, Nat.pow_succ]; exact Nat.dvd_mul_left _ _))
    rw [h0, Nat.mod_eq_of_lt (by have := hr.1; omega)] at hu
    omega
  have hf : U1 r a (r - 1) := fermat1 hr a hna
  obtain ⟨t, ⟨ht0, ht⟩, hl⟩ := least (P := fun t => 0 < t ∧ U1 r a t) (r - 1) ⟨by have := hr.1; omega, hf⟩
  have hm : ∀ j, 0 < j → j < t → ¬ U1 r a j := fun j h0 hj hu => hl j hj ⟨h0, hu⟩
  have d1 := ord_dvd ht0 ht hm hu
  have d2 := ord_dvd ht0 ht hm hf
  have hne : ¬ t ∣ (N - 1) / q := by
    rintro ⟨c, hc⟩
    have hU : U1 r a ((N - 1) / q) := by rw [hc]; exact ht.mul c
    have hd : r ∣ a ^ ((N - 1) / q) - 1 := dvd_of_mod hU
    have := Nat.dvd_gcd hd hrN
    rw [h2] at this
    have := Nat.le_of_dvd (by omega) this
    have := hr.1
    omega
  exact Nat.dvd_trans (pow_in hq d1 hne he) d2
/-- Where each prime divisor leaves 1 by F, each divisor does. -/
theorem all_one {N F : Nat} (hF : ∀ r, Pr r → r ∣ N → F ∣ r - 1) (m : Nat) (hm : m ∣ N) : F ∣ m - 1 := by
  induction m using Nat.strongRecOn with
  | ind m ih =>
    by_cases h2 : 2 ≤ m
    · obtain ⟨p, hp, hd⟩ := hasPr m h2
      obtain ⟨c, rfl⟩ := hd
      have hp2 := hp.1
      have hc0 : 0 < c := by
        rcases Nat.eq_zero_or_pos c with h | h
        · subst h; simp at h2
        · exact h
      have hlt : c < p * c := by
        have : 2 * c ≤ p * c := Nat.mul_le_mul_right c hp2
        omega
      obtain ⟨x, hx⟩ := ih c hlt (Nat.dvd_trans (Nat.dvd_mul_left _ _) hm)
      obtain ⟨y, hy⟩ := hF p hp (Nat.dvd_trans (Nat.dvd_mul_right _ _) hm)
      have e1 : c = F * x + 1 := by omega
      have e2 : p = F * y + 1 := by omega
      refine ⟨y * c + x, ?_⟩
      rw [e2, Nat.add_mul, Nat.one_mul, Nat.mul_add, Nat.mul_assoc]
      omega
    · have : m - 1 = 0 := by omega
      rw [this]; exact Nat.dvd_zero _
theorem two_of_not {N : Nat} (hN : 2 ≤ N) (h : ¬ Pr N) : ∃ m k, N = m * k ∧ 2 ≤ m ∧ 2 ≤ k := by
  refine Classical.byContradiction fun hc => h ⟨hN, fun m hm => ?_⟩
  obtain ⟨k, rfl⟩ := hm
  by_cases h1 : m = 1
  · exact .inl h1
  · by_cases h2 : k = 1
    · right; rw [h2, Nat.mul_one]
    · exfalso
      apply hc
      refine ⟨m, k, rfl, ?_, ?_⟩
      · rcases Nat.eq_zero_or_pos m with h | h
        · subst h; simp at hN
        · omega
      · rcases Nat.eq_zero_or_pos k with h | h
        · subst h; simp at hN
        · omega
theorem pock2 {N F : Nat} (hN : 2 ≤ N) (hF : ∀ r, Pr r → r ∣ N → F ∣ r - 1) (h : N < (F + 1) * (F + 1)) : Pr N := by
  refine Classical.byContradiction fun hc => ?_
  obtain ⟨m, k, rfl, h1, h2⟩ := two_of_not hN hc
  have d1 := Nat.le_of_dvd (by omega) (all_one hF m (Nat.dvd_mul_right _ _))
  have d2 := Nat.le_of_dvd (by omega) (all_one hF k (Nat.dvd_mul_left _ _))
  exact absurd (Nat.mul_le_mul (show F + 1 ≤ m by omega) (show F + 1 ≤ k by omega)) (by omega)
/-- A third of the digits suffices. -/
theorem pock3 {N F c1 c2 s : Nat} (hN : 2 ≤ N) (hF : ∀ r, Pr r → r ∣ N → F ∣ r - 1) (h3 : N ≤ F * F * F) (hd : N = (c2 * F + c1) * F + 1) (hc : 0 < c1) (hcF : c1 < F) (hs : c1 * c1 < 4 * c2 ∨ (s * s + 4 * c2 < c1 * c1 ∧ c1 * c1 < (s + 1) * (s + 1) + 4 * c2)) : Pr N := by
  refine Classical.byContradiction fun hcn => ?_
  obtain ⟨m, k, hmk, h1, h2⟩ := two_of_not hN hcn
  obtain ⟨a, ha⟩ := all_one hF m (by rw [hmk]; exact Nat.dvd_mul_right _ _)
  obtain ⟨b, hb⟩ := all_one hF k (by rw [hmk]; exact Nat.dvd_mul_left _ _)
  have em : m = F * a + 1 := by omega
  have ek : k = F * b + 1 := by omega
  have a0 : 0 < a := by rcases Nat.eq_zero_or_pos a with h | h; (subst h; simp at em; omega); exact h
  have b0 : 0 < b := by rcases Nat.eq_zero_or_pos b with h | h; (subst h; simp at ek; omega); exact h
  have F0 : 0 < F := by omega
  have eN : N = (a * b * F + (a + b)) * F + 1 := by
    rw [hmk, em, ek]
    simp only [Nat.mul_add, Nat.add_mul, Nat.mul_one, Nat.one_mul]
    have : F * a * (F * b) = a * b * F * F := by simp only [Nat.mul_comm, Nat.mul_left_comm]
    rw [this, Nat.mul_comm a F, Nat.mul_comm b F]
    omega
  have e1 : c2 * F + c1 = a * b * F + (a + b) := by
    have : (c2 * F + c1) * F = (a * b * F + (a + b)) * F := by omega
    exact Nat.eq_of_mul_eq_mul_right F0 this
  have hab : a * b < F := by
    rcases Nat.lt_or_ge (a * b) F with h | h
    · exact h
    · have q1 : F * F * F ≤ a * b * F * F := by
        rw [Nat.mul_assoc (a * b), Nat.mul_assoc F]
        exact Nat.mul_le_mul_right _ h
      have q2 : (a * b * F + (a + b)) * F = a * b * F * F + (a + b) * F := Nat.add_mul _ _ _
      have q3 : 0 < (a + b) * F := Nat.mul_pos (by omega) F0
      omega
  have hle : a + b ≤ a * b + 1 := by
    obtain ⟨a', rfl⟩ : ∃ x, a = x + 1 := ⟨a - 1, by omega⟩
    obtain ⟨b', rfl⟩ : ∃ x, b = x + 1 := ⟨b - 1, by omega⟩
    have : (a' + 1) * (b' + 1) = a' * b' + a' + b' + 1 := by rw [Nat.add_mul, Nat.mul_add]; omega
    have := Nat.zero_le (a' * b')
    omega
  have hlt : a + b < F := by
    rcases Nat.lt_or_ge (a + b) F with h | h
    · exact h
    · exfalso
      have hE : a + b = F := by omega
      rw [hE] at e1
      have : (c2 * F + c1) % F = (a * b * F + F) % F := by rw [e1]
      rw [Nat.mul_comm c2, Nat.mul_add_mod, Nat.add_mod_right, Nat.mul_comm (a * b), Nat.mul_mod_right, Nat.mod_eq_of_lt hcF] at this
      omega
  have r1 : c1 = a + b := by
    have : (c2 * F + c1) % F = (a * b * F + (a + b)) % F := by rw [e1]
    rw [Nat.mul_comm c2, Nat.mul_comm (a * b), Nat.mul_add_mod, Nat.mul_add_mod, Nat.mod_eq_of_lt hcF, Nat.mod_eq_of_lt hlt] at this
    exact this
  have r2 : c2 = a * b := by
    rw [r1] at e1
    exact Nat.eq_of_mul_eq_mul_right F0 (by omega)
  rw [r1, r2] at hs
  have sq : ∀ x y : Nat, x ≤ y → (x + y) * (x + y) = (y - x) * (y - x) + 4 * (x * y) := by
    intro x y h
    obtain ⟨d, rfl⟩ : ∃ d, y = x + d := ⟨y - x, by omega⟩
    have : x + d - x = d := by omega
    rw [this]
    simp only [Nat.mul_add, Nat.add_mul, Nat.mul_comm d x]
    omega
  obtain ⟨d, hdd⟩ : ∃ d, (a + b) * (a + b) = d * d + 4 * (a * b) := by
    rcases Nat.le_total a b with h | h
    · exact ⟨_, sq a b h⟩
    · exact ⟨a - b, by rw [Nat.add_comm a b, Nat.mul_comm a b]; exact sq b a h⟩
  rw [hdd] at hs
  rcases hs with h | ⟨h, g⟩
  · omega
  · have u1 : s * s < d * d := by omega
    have u2 : d * d < (s + 1) * (s + 1) := by omega
    have v1 : s < d := by
      rcases Nat.lt_or_ge s d with h | h
      · exact h
      · exact absurd (Nat.mul_le_mul h h) (by omega)
    have v2 : d < s + 1 := by
      rcases Nat.lt_or_ge d (s + 1) with h | h
      · exact h
      · exact absurd (Nat.mul_le_mul h h) (by omega)
    omega
end Go.Proofs.Yteagdgbcfbkfbab.Pm
/-
  Primes: powers modulo a number, trial division, a witness (pure).
-/
namespace Go.Proofs.Yteagdgbcfbkfbab.Pm
def sqm (N x : Nat) : Nat := x * x % N
/-- a ^ k modulo N, k below 2 ^ f. -/
def pw (N a : Nat) : Nat → Nat → Nat
  | 0, _ => 1 % N
  | f + 1, k => if k % 2 = 0 then sqm N (pw N a f (k / 2)) else sqm N (pw N a f (k / 2)) * a % N
theorem pw_eq (N a f k : Nat) (h : k < 2 ^ f) : pw N a f k = a ^ k % N := by
  induction f generalizing k with
  | zero => have : k = 0 := by simpa using h
            subst this; simp [pw]
  | succ f ih =>
    have e := ih (k / 2) (by rw [Nat.pow_succ] at h; omega)
    unfold pw
    rw [e]
    unfold sqm
    split
    · rename_i h0
      have : k = k / 2 + k / 2 := by omega
      rw [← Nat.mul_mod, ← Nat.pow_add, ← this]
    · rename_i h0
      have : k = k / 2 + k / 2 + 1 := by omega
      rw [← Nat.mul_mod, Nat.mod_mul_mod, ← Nat.pow_add, ← Nat.pow_succ]
      show a ^ (k / 2 + k / 2 + 1) % N = _
      rw [← this]
/-- No divisor from d on, j of them tried. -/
def td (n : Nat) : Nat → Nat → Bool
  | 0, d => decide (n < d * d)
  | j + 1, d => if n < d * d then true else if n % d = 0 then false else td n j (d + 1)
theorem td_ok (n j d : Nat) (h : td n j d = true) (hd : ∀ m, 2 ≤ m → m < d → ¬ m ∣ n) : ∀ m, 2 ≤ m → m * m ≤ n → ¬ m ∣ n := by
  induction j generalizing d with
  | zero =>
    have h : n < d * d := by simpa [td] using h
    intro m h2 hm
    refine hd m h2 ?_
    rcases Nat.lt_or_ge m d with g | g
    · exact g
    · exact absurd (Nat.mul_le_mul g g) (by omega)
  | succ j ih =>
    unfold td at h
    split at h
    · rename_i h
      intro m h2 hm
      refine hd m h2 ?_
      rcases Nat.lt_or_ge m d with g | g
      · exact g
      · exact absurd (Nat.mul_le_mul g g) (by omega)
    · split at h
      · cases h
      · rename_i h0
        refine ih (d + 1) h fun m h2 hm => ?_
        by_cases e : m = d
        · subst e; intro hh; exact h0 (Nat.mod_eq_zero_of_dvd hh)
        · exact hd m h2 (by omega)
theorem pr_td (n j : Nat) (h2 : 2 ≤ n) (h : td n j 2 = true) : Pr n := by
  refine Classical.byContradiction fun hc => ?_
  obtain ⟨m, k, rfl, h1, h2⟩ := two_of_not h2 hc
  have := td_ok _ _ _ h (fun m a b => by omega)
  rcases Nat.le_total m k with g | g
  · exact this m h1 (Nat.mul_le_mul_left m g) (Nat.dvd_mul_right _ _)
  · exact this k h2 (Nat.mul_le_mul_right k g) (Nat.dvd_mul_left _ _)
def wg (N a f q : Nat) : Bool := Nat.gcd (pw N a f ((N - 1) / q) + (N - 1)) N == 1
theorem wg_gcd (N x : Nat) (hN : 2 ≤ N) (hx : 1 ≤ x) (h : Nat.gcd (x % N + (N - 1)) N = 1) : Nat.gcd (x - 1) N = 1 := by
  have e : x % N + (N - 1) + N * (x / N) = x - 1 + N := by have := Nat.mod_add_div x N; omega
  have h1 : Nat.gcd (x % N + (N - 1) + N * (x / N)) N = Nat.gcd (x % N + (N - 1)) N := by rw [Nat.mul_comm N, Nat.gcd_add_mul_right_left]
  have h2 : Nat.gcd (x - 1 + N) N = Nat.gcd (x - 1) N := by simp
  rw [← h2, ← e, h1, h]
theorem pock1' {N r a q e f : Nat} (hf : N < 2 ^ f) (ha : 1 ≤ a) (hr : Pr r) (hrN : r ∣ N) (hN : 2 ≤ N) (hq : Pr q) (he : (N - 1) % q ^ e = 0) (h1 : pw N a f (N - 1) = 1) (h2 : wg N a f q = true) : q ^ e ∣ r - 1 := by
  refine pock1 (a := a) hr hrN hN hq (Nat.dvd_of_mod_eq_zero he) ?_ ?_
  · rw [← pw_eq N a f (N - 1) (by omega), h1, Nat.mod_eq_of_lt (by omega)]
  · unfold wg at h2
    rw [pw_eq N a f _ (Nat.lt_of_le_of_lt (Nat.div_le_self _ _) (by omega))] at h2
    exact wg_gcd N _ hN (Nat.pow_pos ha) (by simpa using h2)
end Go.Proofs.Yteagdgbcfbkfbab.Pm
/-
  Curves: a prime makes a field; a cubic without a root (pure).
-/
namespace Go.Proofs.Yteagdgbcfbkfbab.Gl
open Pm
variable {p : Nat} [NeZero p]
theorem dvd_F {x : Nat} : F p x = 0 ↔ p ∣ x := by
  constructor
  · intro h
    have : (F p x).val = 0 := by rw [h]; rfl
    exact Nat.dvd_of_mod_eq_zero this
  · intro h
    exact Fin.ext (by rw [F_val, Nat.mod_eq_zero_of_dvd h]; rfl)
theorem F_pow (x k : Nat) : F p (x ^ (k + 1)) = F p (x ^ k) * F p x := by rw [Nat.pow_succ, F_mul]
/-- Modulo a prime. -/
theorem Fd.of (hp : Pr p) (h2 : 2 < p) : Fd p where
  dom a b h := by
    rw [← F_self a, ← F_self b, ← F_mul, dvd_F] at h
    rcases hp.mul h with h | h
    · left; rw [← F_self a]; exact dvd_F.2 h
    · right; rw [← F_self b]; exact dvd_F.2 h
  inv a h := by
    refine ⟨F p (a.val ^ (p - 2)), ?_⟩
    have hn : ¬ p ∣ a.val := fun hd => h (by rw [← F_self a]; exact dvd_F.2 hd)
    have hf := fermat1 hp a.val hn
    have e : a * F p (a.val ^ (p - 2)) = F p (a.val ^ (p - 1)) := by
      conv => lhs; lhs; rw [← F_self a]
      rw [← F_mul, ← Nat.pow_succ', show (p - 2).succ = p - 1 by omega]
    rw [e, ← F_mod, hf, F_mod, F_1]
  two h := by
    have e : (2 : Fin p) = F p 2 := rfl
    rw [e, dvd_F] at h
    exact absurd (Nat.le_of_dvd (by decide) h) (by omega)
/-- Polynomials modulo x^3 - 3 x + b, as three numbers; nb: p - b. -/
abbrev T3 := Nat × Nat × Nat
def m3 (p nb : Nat) : T3 → T3 → T3
  | (r0, r1, r2), (s0, s1, s2) =>
    ((r0 * s0 + nb * ((r1 * s2 + r2 * s1) % p)) % p, (r0 * s1 + r1 * s0 + 3 * (r1 * s2 + r2 * s1) + nb * (r2 * s2 % p)) % p, (r0 * s2 + r1 * s1 + r2 * s0 + 3 * (r2 * s2)) % p)
def sq3 (p nb : Nat) (r : T3) : T3 := m3 p nb r r
def pw3 (p nb : Nat) : Nat → Nat → T3
  | 0, _ => (1, 0, 0)
  | f + 1, k => if k % 2 = 0 then sq3 p nb (pw3 p nb f (k / 2)) else m3 p nb (sq3 p nb (pw3 p nb f (k / 2))) (0, 1, 0)
def ev (x : Fin p) (r : T3) : Fin p := F p r.1 + F p r.2.1 * x + F p r.2.2 * (x * x)
theorem F3 : F p 3 = 3 := rfl
theorem m3_ev {nb : Nat} {x : Fin p} (hx : x * x * x = 3 * x + F p nb) (r s : T3) : ev x (m3 p nb r s) = ev x r * ev x s := by
  obtain ⟨r0, r1, r2⟩ := r
  obtain ⟨s0, s1, s2⟩ := s
  unfold ev m3
  simp only [F_mod, F_add, F_mul, F3]
  generalize F p r0 = a0, F p r1 = a1, F p r2 = a2, F p s0 = b0, F p s1 = b1, F p s2 = b2, F p nb = n at *
  grobner
def fpw (x : Fin p) : Nat → Fin p
  | 0 => 1
  | k + 1 => fpw x k * x
theorem fpw_add (x : Fin p) (j k : Nat) : fpw x (j + k) = fpw x j * fpw x k := by
  induction k with
  | zero => show fpw x j = fpw x j * 1; grobner
  | succ k ih => show fpw x (j + k) * x = fpw x j * (fpw x k * x); rw [ih]; grobner
theorem fpw_F (x k : Nat) : fpw (F p x) k = F p (x ^ k) := by
  induction k with
  | zero => exact F_1.symm
  | succ k ih => rw [F_pow]; show fpw (F p x) k * _ = _; rw [ih]
theorem pw3_ev {nb : Nat} {x : Fin p} (hx : x * x * x = 3 * x + F p nb) (f k : Nat) (h : k < 2 ^ f) : ev x (pw3 p nb f k) = fpw x k := by
  induction f generalizing k with
  | zero =>
    have : k = 0 := by simpa using h
    subst this
    show F p 1 + F p 0 * x + F p 0 * (x * x) = 1
    rw [F_1, F_0]; grobner
  | succ f ih =>
    have e := ih (k / 2) (by rw [Nat.pow_succ] at h; omega)
    have eX : ev x (0, 1, 0) = x := by
      show F p 0 + F p 1 * x + F p 0 * (x * x) = x
      rw [F_1, F_0]; grobner
    unfold pw3 sq3
    split
    · rename_i h0
      rw [m3_ev hx, e, ← fpw_add]
      congr 1; omega
    · rename_i h0
      rw [m3_ev hx, m3_ev hx, e, eX, ← fpw_add]
      show fpw x (k / 2 + k / 2 + 1) = _
      congr 1; omega
/-- The cubic has no root where x^p - x has an inverse modulo it. -/
theorem no_root (hp : Pr p) {nb f : Nat} {R A : T3} (hf : p < 2 ^ f) (hR : pw3 p nb f p = R) (hA : m3 p nb A (R.1, R.2.1 + (p - 1), R.2.2) = (1, 0, 0)) (x : Fin p) : x * x * x ≠ 3 * x + F p nb := by
  intro hx
  have h1 := pw3_ev hx f p hf
  rw [hR] at h1
  have h2 : fpw x p = x := by
    conv => lhs; rw [← F_self x]
    rw [fpw_F, ← F_mod, fermat hp, F_mod, F_self]
  rw [h2] at h1
  have h3 := m3_ev hx A (R.1, R.2.1 + (p - 1), R.2.2)
  rw [hA] at h3
  have h4 : ev x (R.1, R.2.1 + (p - 1), R.2.2) = 0 := by
    unfold ev at h1 ⊢
    simp only [F_add] at *
    have e : F p (p - 1) + 1 = 0 := by rw [← F_1 (p := p), ← F_add, show p - 1 + 1 = p by have := hp.1; omega, F_p]
    grobner
  have h5 : ev x (1, 0, 0) = 1 := by
    show F p 1 + F p 0 * x + F p 0 * (x * x) = 1
    rw [F_1, F_0]; grobner
  rw [h4, h5] at h3
  have h6 : F p 1 = 0 := by rw [F_1]; grobner
  rw [dvd_F] at h6
  have := Nat.le_of_dvd (by decide) h6
  have := hp.1
  omega
end Go.Proofs.Yteagdgbcfbkfbab.Gl
