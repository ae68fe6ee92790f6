/-
  Curves: numbers modulo a prime, three coordinates that stand for a point, doubled, added (pure).
-/
import Derived.Test.YtkdclocjijmgpaaK14
namespace Go.Proofs.Ytkdclocjijmgpaa.Gl
variable {p : Nat} [NeZero p] {c : Ec p}
/-- A number modulo p. -/
def F (p : Nat) [NeZero p] (x : Nat) : Fin p := Fin.ofNat p x
theorem F_val (x : Nat) : (F p x).val = x % p := rfl
theorem F_lt {x : Nat} (h : x < p) : (F p x).val = x := Nat.mod_eq_of_lt h
theorem F_self (a : Fin p) : F p a.val = a := Fin.ext (Nat.mod_eq_of_lt a.isLt)
theorem F_mod (x : Nat) : F p (x % p) = F p x := Fin.ext (by rw [F_val, F_val, Nat.mod_mod])
theorem F_add (x y : Nat) : F p (x + y) = F p x + F p y := Fin.ext (by rw [Fin.val_add, F_val, F_val, F_val, ← Nat.add_mod])
theorem F_mul (x y : Nat) : F p (x * y) = F p x * F p y := Fin.ext (by rw [Fin.val_mul, F_val, F_val, F_val, ← Nat.mul_mod])
theorem F_p : F p p = 0 := Fin.ext (by rw [F_val, Nat.mod_self]; rfl)
theorem F_0 : F p 0 = 0 := Fin.ext (by rw [F_val]; rfl)
theorem F_1 : F p 1 = 1 := Fin.ext (by rw [F_val]; rfl)
theorem F_zero {x : Nat} (h : x < p) : F p x = 0 ↔ x = 0 := by
  constructor
  · intro e
    rw [← F_lt h, e]; rfl
  · rintro rfl; exact F_0
theorem F_inj {x y : Nat} (hx : x < p) (hy : y < p) (h : F p x = F p y) : x = y := by rw [← F_lt hx, ← F_lt hy, h]
theorem F_fad (x y : Nat) : F p (fad p x y) = F p x + F p y := by unfold fad; rw [F_mod, F_add]
theorem F_fml (x y : Nat) : F p (fml p x y) = F p x * F p y := by unfold fml; rw [F_mod, F_mul]
theorem F_fsb (x : Nat) {y : Nat} (hy : y < p) : F p (fsb p x y) = F p x - F p y := by
  unfold fsb
  rw [F_mod, F_add]
  have : F p (p - y) + F p y = 0 := by rw [← F_add, show p - y + y = p by omega, F_p]
  grobner
theorem p_pos : 0 < p := Nat.pos_of_ne_zero (NeZero.ne p)
/-- Three numbers that stand for a point. -/
def Rp (t : Nat × Nat × Nat) : Pt p → Prop
  | none => t.2.2 = 0
  | some (x, y) => t.2.2 ≠ 0 ∧ F p t.1 = x * (F p t.2.2 * F p t.2.2) ∧ F p t.2.1 = y * (F p t.2.2 * F p t.2.2 * F p t.2.2)
theorem dbl_ring {x y z a s : Fin p} (ha : a + 3 = 0) (hs : s * (y + y) = x * x + x * x + x * x + a) {X Y ZZ YY Q SL Q2 Q3 X4 Q4 Q5 Y8 SU Q6 : Fin p} (hX : X = x * (z * z)) (hY : Y = y * (z * z * z)) (hZZ : ZZ = z * z) (hYY : YY = Y * Y) (hQ : Q = (X - ZZ) * (X + ZZ)) (hSL : SL = Q + Q + Q) (hQ2 : Q2 = X * YY) (hQ3 : Q3 = Q2 + Q2) (hX4 : X4 = Q3 + Q3) (hQ4 : Q4 = YY + YY) (hQ5 : Q5 = Q4 * Q4) (hY8 : Y8 = Q5 + Q5) (hSU : SU = SL * SL - (X4 + X4)) (hQ6 : Q6 = Y * z) :
    SU = (s * s - x - x) * ((Q6 + Q6) * (Q6 + Q6)) ∧ SL * (X4 - SU) - Y8 = (s * (x - (s * s - x - x)) - y) * ((Q6 + Q6) * (Q6 + Q6) * (Q6 + Q6)) := by
  have hsl : SL = s * (y + y) * (z * z * z * z) := by
    subst hX hZZ hQ hSL
    have e : a = -3 := by grobner
    subst e
    rw [hs]
    grobner
  clear hs ha hSL hQ
  subst hsl hX hY hYY hQ2 hQ3 hX4 hQ4 hQ5 hY8 hSU hQ6
  constructor <;> grobner
theorem jdb_rp (hc : c.Ok) (ha : c.a + 3 = 0) {t : Nat × Nat × Nat} (ht : Lt3 p t) {P : Pt p} (hP : c.On P) (h : Rp t P) : Rp (jdb p t.1 t.2.1 t.2.2) (c.add P P) := by
  obtain ⟨X, Y, Z⟩ := t
  obtain ⟨l1, l2, l3⟩ := ht
  simp only [] at l1 l2 l3 ⊢
  have h0 := p_pos (p := p)
  match P, hP, h with
  | none, _, h =>
    have h : Z = 0 := h
    subst h
    show (jdb p X Y 0).2.2 = 0
    simp [jdb, fml, fad]
  | some (x, y), hP, h =>
    obtain ⟨hz, hX, hY⟩ := h
    simp only [] at hz hX hY
    have hzF : F p Z ≠ 0 := fun e => hz ((F_zero l3).1 e)
    have e3 : F p (jdb p X Y Z).2.2 = F p Y * F p Z + F p Y * F p Z := by show F p (fad p (fml p Y Z) (fml p Y Z)) = _; rw [F_fad, F_fml]
    have l3' : (jdb p X Y Z).2.2 < p := fad_lt h0
    by_cases hy : y + y = 0
    · rw [add_opp ⟨rfl, hy⟩]
      show (jdb p X Y Z).2.2 = 0
      refine (F_zero l3').1 ?_
      rw [e3, hY, hc.fd.half hy]
      grobner
    · have hn : ¬ (x = x ∧ y + y = 0) := fun h => hy h.2
      have hs := slope_ok hc hP hP hn
      rw [add_of hc hP hP hn hs]
      generalize c.slope x y x y = s at hs
      obtain ⟨_, hs⟩ := hs
      have e1 : F p (jdb p X Y Z).1 = F p (jdb p X Y Z).1 := rfl
      have key := dbl_ring (z := F p Z) (X := F p X) (Y := F p Y) (ZZ := F p (fml p Z Z)) (YY := F p (fml p Y Y)) (Q := F p (fml p (fsb p X (fml p Z Z)) (fad p X (fml p Z Z)))) (SL := _) (Q2 := F p (fml p X (fml p Y Y))) (Q3 := _) (X4 := _) (Q4 := _) (Q5 := _) (Y8 := _) (SU := _) (Q6 := F p (fml p Y Z)) ha hs hX hY (F_fml _ _) (F_fml _ _) (by rw [F_fml, F_fsb _ (fml_lt h0), F_fad]) rfl (F_fml _ _) rfl rfl rfl rfl rfl rfl (F_fml _ _)
      have hz' : (jdb p X Y Z).2.2 ≠ 0 := fun e => by
        have := (F_zero l3').2 e
        rw [e3] at this
        have h2 := hc.fd.half this
        rw [hY] at h2
        have hy0 : y ≠ 0 := fun e => hy (by rw [e]; grobner)
        exact hc.fd.mulne (hc.fd.mulne hy0 (hc.fd.mulne (hc.fd.mulne hzF hzF) hzF)) hzF h2
      refine ⟨hz', ?_, ?_⟩
      · have := key.1
        rw [e3, ← F_fml] 
        rw [← this]
        show F p (fsb p _ _) = _
        simp only [F_fsb _ (fad_lt h0), F_fsb _ (fml_lt h0), F_fml, F_fad]
      · have := key.2
        rw [e3, ← F_fml]
        rw [← this]
        show F p (fsb p _ _) = _
        simp only [F_fsb _ (fad_lt h0), F_fsb _ (fml_lt h0), F_fsb _ (fsb_lt h0), F_fml, F_fad]
theorem chord_ring {x1 y1 x2 y2 z1 z2 s : Fin p} (hs : s * (x2 - x1) = y2 - y1) {U V A B DX DY ZZ SQ CU WI SU : Fin p} (hU : U = x1 * (z1 * z1) * (z2 * z2)) (hV : V = x2 * (z2 * z2) * (z1 * z1)) (hA : A = y1 * (z1 * z1 * z1) * (z2 * (z2 * z2))) (hB : B = y2 * (z2 * z2 * z2) * (z1 * (z1 * z1))) (hDX : DX = V - U) (hDY : DY = B - A) (hZZ : ZZ = z1 * z2) (hSQ : SQ = DX * DX) (hCU : CU = SQ * DX) (hWI : WI = SQ * U) (hSU : SU = DY * DY - CU - (WI + WI)) :
    SU = (s * s - x1 - x2) * ((ZZ * DX) * (ZZ * DX)) ∧ DY * (WI - SU) - A * CU = (s * (x1 - (s * s - x1 - x2)) - y1) * ((ZZ * DX) * (ZZ * DX) * (ZZ * DX)) := by
  have hd : DX = (x2 - x1) * (z1 * z1) * (z2 * z2) := by subst hU hV hDX; grobner
  have hy : DY = s * DX * (z1 * z2) := by
    subst hA hB hDY
    have e : y2 = y1 + s * (x2 - x1) := by grobner
    subst e
    rw [hd]
    grobner
  have hu : U = x1 * (ZZ * ZZ) := by subst hZZ; rw [hU]; grobner
  have ha : A = y1 * (ZZ * ZZ * ZZ) := by subst hZZ; rw [hA]; grobner
  have hd2 : DX = (x2 - x1) * (ZZ * ZZ) := by subst hZZ; rw [hd]; grobner
  have hy2 : DY = s * DX * ZZ := by rw [hZZ]; exact hy
  clear hU hV hA hB hDX hDY hZZ hd hy hs
  subst hSQ hCU hWI hSU hy2 hu ha hd2
  constructor <;> grobner
theorem jsm_rp (hc : c.Ok) (ha : c.a + 3 = 0) {s t : Nat × Nat × Nat} (hs : Lt3 p s) (ht : Lt3 p t) {P Q : Pt p} (hP : c.On P) (hQ : c.On Q) (h : Rp s P) (g : Rp t Q) : Rp (jsm p s t) (c.add P Q) := by
  obtain ⟨X1, Y1, Z1⟩ := s
  obtain ⟨X2, Y2, Z2⟩ := t
  have h0 := p_pos (p := p)
  match P, Q, hP, hQ, h, g with
  | none, Q, _, _, h, g =>
    have h : Z1 = 0 := h
    unfold jsm
    rw [if_pos (by exact h)]
    exact g
  | some (x1, y1), none, _, _, h, g =>
    have g : Z2 = 0 := g
    have h1 : Z1 ≠ 0 := h.1
    unfold jsm
    rw [if_neg (by exact h1), if_pos (by exact g)]
    exact h
  | some (x1, y1), some (x2, y2), hP, hQ, h, g =>
    have hh := h
    obtain ⟨hz1, hX1, hY1⟩ := h
    obtain ⟨hz2, hX2, hY2⟩ := g
    simp only [] at hz1 hz2 hX1 hX2 hY1 hY2
    have n1 : F p Z1 ≠ 0 := fun e => hz1 ((F_zero hs.2.2).1 e)
    have n2 : F p Z2 ≠ 0 := fun e => hz2 ((F_zero ht.2.2).1 e)
    have hx := jsm.eq_def p (X1, Y1, Z1) (X2, Y2, Z2)
    rw [if_neg (by exact hz1), if_neg (by exact hz2)] at hx
    simp only [] at hx
    generalize hU : fml p X1 (fml p Z2 Z2) = U at hx
    generalize hV : fml p X2 (fml p Z1 Z1) = V at hx
    generalize hA : fml p Y1 (fml p Z2 (fml p Z2 Z2)) = A at hx
    generalize hB : fml p Y2 (fml p Z1 (fml p Z1 Z1)) = B at hx
    have lU : U < p := hU ▸ fml_lt h0
    have lA : A < p := hA ▸ fml_lt h0
    have eU : F p U = x1 * (F p Z1 * F p Z1) * (F p Z2 * F p Z2) := by rw [← hU, F_fml, F_fml, hX1]
    have eV : F p V = x2 * (F p Z2 * F p Z2) * (F p Z1 * F p Z1) := by rw [← hV, F_fml, F_fml, hX2]
    have eA : F p A = y1 * (F p Z1 * F p Z1 * F p Z1) * (F p Z2 * (F p Z2 * F p Z2)) := by rw [← hA, F_fml, F_fml, F_fml, hY1]
    have eB : F p B = y2 * (F p Z2 * F p Z2 * F p Z2) * (F p Z1 * (F p Z1 * F p Z1)) := by rw [← hB, F_fml, F_fml, F_fml, hY2]
    clear hU hV hA hB
    have eDX : F p (fsb p V U) = F p V - F p U := F_fsb _ lU
    have eDY : F p (fsb p B A) = F p B - F p A := F_fsb _ lA
    have lDX : fsb p V U < p := fsb_lt h0
    have lDY : fsb p B A < p := fsb_lt h0
    have dX : F p (fsb p V U) = (x2 - x1) * ((F p Z1 * F p Z1) * (F p Z2 * F p Z2)) := by
      rw [eDX, eU, eV]; clear eU eV eA eB eDX eDY hX1 hX2 hY1 hY2; grobner
    have dY : F p (fsb p B A) = (y2 - y1) * ((F p Z1 * F p Z1 * F p Z1) * (F p Z2 * F p Z2 * F p Z2)) := by
      rw [eDY, eA, eB]; clear eU eV eA eB eDX eDY hX1 hX2 hY1 hY2 dX; grobner
    have nZ : (F p Z1 * F p Z1) * (F p Z2 * F p Z2) ≠ 0 := hc.fd.mulne (hc.fd.mulne n1 n1) (hc.fd.mulne n2 n2)
    have nZ3 : (F p Z1 * F p Z1 * F p Z1) * (F p Z2 * F p Z2 * F p Z2) ≠ 0 := hc.fd.mulne (hc.fd.mulne (hc.fd.mulne n1 n1) n1) (hc.fd.mulne (hc.fd.mulne n2 n2) n2)
    by_cases hdx : fsb p V U = 0
    · have hxx : x1 = x2 := by
        have e := (F_zero lDX).2 hdx
        rw [dX] at e
        rcases hc.fd.dom _ _ e with e | e
        · exact as7 e
        · exact absurd e nZ
      by_cases hdy : fsb p B A = 0
      · have hyy : y1 = y2 := by
          have e := (F_zero lDY).2 hdy
          rw [dY] at e
          rcases hc.fd.dom _ _ e with e | e
          · exact as7 e
          · exact absurd e nZ3
        rw [hx, if_neg (by simpa using hdx), if_neg (by simpa using hdy)]
        subst hxx hyy
        exact jdb_rp (t := (X1, Y1, Z1)) hc ha hs hP hh
      · rw [hx, if_neg (by simpa using hdx), if_pos hdy]
        have hy : y1 + y2 = 0 := by
          have hne : y2 - y1 ≠ 0 := fun e => hdy ((F_zero lDY).1 (by rw [dY, e]; clear eU eV eA eB eDX eDY hX1 hX2 hY1 hY2 dX dY; grobner))
          have e : (y2 - y1) * (y1 + y2) = 0 := by
            have h1 : y1 * y1 = x1 * x1 * x1 + c.a * x1 + c.b := hP
            have h2 : y2 * y2 = x2 * x2 * x2 + c.a * x2 + c.b := hQ
            rw [← hxx] at h2
            clear eU eV eA eB eDX eDY hX1 hX2 hY1 hY2 dX dY
            grobner
          rcases hc.fd.dom _ _ e with e | e
          · exact absurd e hne
          · exact e
        rw [add_opp ⟨hxx, hy⟩]
        rfl
    · have hxx : x1 ≠ x2 := fun e => hdx ((F_zero lDX).1 (by rw [dX, e]; clear eU eV eA eB eDX eDY hX1 hX2 hY1 hY2 dX dY; grobner))
      have hn : ¬ (x1 = x2 ∧ y1 + y2 = 0) := fun h => hxx h.1
      have hsl := slope_ok hc hP hQ hn
      rw [add_of hc hP hQ hn hsl, hx, if_pos hdx]
      generalize c.slope x1 y1 x2 y2 = s at hsl
      have key := chord_ring (z1 := F p Z1) (z2 := F p Z2) (U := F p U) (V := F p V) (A := F p A) (B := F p B) (DX := F p (fsb p V U)) (DY := F p (fsb p B A)) (ZZ := F p (fml p Z1 Z2)) (SQ := _) (CU := _) (WI := _) (SU := _) hsl.1 eU eV eA eB eDX eDY (F_fml _ _) rfl rfl rfl rfl
      have nDX : F p (fsb p V U) ≠ 0 := fun e => hdx ((F_zero lDX).1 e)
      have nZZ : F p (fml p Z1 Z2) ≠ 0 := by rw [F_fml]; exact hc.fd.mulne n1 n2
      generalize fsb p V U = DX at *
      generalize fsb p B A = DY at *
      generalize fml p Z1 Z2 = ZZ at *
      clear hx eU eV eA eB eDX eDY dX dY hX1 hX2 hY1 hY2
      unfold jch
      refine ⟨?_, ?_, ?_⟩
      · intro e
        have := (F_zero (p := p) (x := fml p ZZ DX) (fml_lt h0)).2 e
        rw [F_fml] at this
        exact hc.fd.mulne nZZ nDX this
      · have := key.1
        simp only [F_fml]
        rw [← this]
        simp only [F_fsb _ (fad_lt h0), F_fsb _ (fml_lt h0), F_fml, F_fad]
      · have := key.2
        simp only [F_fml]
        rw [← this]
        simp only [F_fsb _ (fad_lt h0), F_fsb _ (fml_lt h0), F_fsb _ (fsb_lt h0), F_fml, F_fad]
end Go.Proofs.Ytkdclocjijmgpaa.Gl
/-
  The reference's digits: less.
-/
namespace Go.Proofs.Ytkdclocjijmgpaa
open Go.RowKit
set_option maxRecDepth 20000
/-- Thirteen digits of 32 bits, as a value. -/
def dgA (A : List Int) : Value := .agg (A.map (Value.int .u64)).toArray
theorem Try.sizeDg : (Try.prog.info? 64).map (·.size) = some 13 := by kernel_rfl
set_option maxHeartbeats 2000000 in
theorem less_any {w : World} (A B : List Int) (uA : U32s A) (uB : U32s B) (lA : A.length = 13) (lB : B.length = 13) :
    Calls Try.prog 89 #[dgA A, dgA B] w fun e w' => e = .returned (.bool (decide (val A < val B))) ∧ Below w.heap.size w w' := by
  have HA : Hid (U32s A ∧ U32s B) := ⟨uA, uB⟩
  unfold dgA
  go_enter Try.func89, Try.ntmps89
  go_upto_region 1 with (first
    | refine wpList_boxR rfl 64 (.tmp 0) rfl (A.map (Value.int .u64)).toArray rfl ?_
    | refine wpList_boxR rfl 64 (.tmp 1) rfl (B.map (Value.int .u64)).toArray rfl ?_)
  refine wp_gen (fun W => Blk 64 W w.heap.size (A.map (Value.int .u64)) ∧ Blk 64 W (w.heap.size + 1) (B.map (Value.int .u64)) ∧ Below w.heap.size w W) ⟨(Blk.new _ w _).alloc _, by have := Blk.new 64 (w.alloc (.cells (A.map (Value.int .u64)).toArray 64)) (B.map (Value.int .u64)); rw [World.size_alloc] at this; exact this, (al1 _).alloc (by simp) _⟩ ?_
  rintro W2 ⟨hA, hB, hBw⟩
  have H2 : Hid (Below w.heap.size w W2) := hBw
  have hA2 : Arr .u64 64 W2 w.heap.size A := hA.arr
  have hB2 : Arr .u64 64 W2 (w.heap.size + 1) B := hB.arr
  have HR : Hid (∀ W3, Below W2.heap.size W2 W3 → (Below w.heap.size w W3 ∧ ∀ k, k < 13 → W3.cell? ⟨w.heap.size, k, none⟩ = some (.int .u64 (A.getD k 0)) ∧ W3.cell? ⟨w.heap.size + 1, k, none⟩ = some (.int .u64 (B.getD k 0)))) := fun W3 h3 => ⟨below_via hBw h3 (Nat.le_refl _), fun k hk => ⟨(below_arr h3 hA2.lt hA2).cell k (by omega), (below_arr h3 hB2.lt hB2).cell k (by omega)⟩⟩
  clear hA hB hBw hA2 hB2 H2
  have HZ : Hid (∀ j, 13 ≤ j → A.getD j 0 = B.getD j 0) := fun j hj => by simp [List.getD_eq_getElem?_getD, List.getElem?_eq_none (show A.length ≤ j by omega), List.getElem?_eq_none (show B.length ≤ j by omega)]
  clear uA uB lA lB
  go_wp2
  go_loopw [5] (fun i wr => ∃ k : Nat, i = .int .i64 ((k : Int) - 1) ∧ k ≤ 13 ∧ Hid (∀ j, k ≤ j → A.getD j 0 = B.getD j 0) ∧ Hid (Below W2.heap.size W2 wr)) (fun i _ => ((intOf i) + 1).toNat)
  case atStart => exact ⟨13, by go_num, Nat.le_refl _, HZ.out, Below.refl _ _⟩
  case round =>
    clear HZ
    obtain ⟨k, rfl, hk, HK, H3⟩ := hrel
    cases k with
    | zero =>
      have HE : Hid (decide (val A < val B) = false) := by
        have h : val A = val B := Nt.val_ext _ _ (fun j => HK.out j (Nat.zero_le _))
        show _ = _; rw [h]; simp
      clear HK
      rw [show ((0 : Nat) : Int) - 1 = -1 from rfl]
      go_wp2
      go_ret
      exact ⟨by rw [HE.out]; rfl, (HR.out _ H3.out).1⟩
    | succ m =>
      obtain ⟨h1, h2⟩ := (HR.out _ H3.out).2 m (by omega)
      obtain ⟨x, hx⟩ : ∃ x, A.getD m 0 = x := ⟨_, rfl⟩
      obtain ⟨y, hy⟩ : ∃ y, B.getD m 0 = y := ⟨_, rfl⟩
      rw [hx] at h1; rw [hy] at h2
      have HX : Hid (A.getD m 0 = x ∧ B.getD m 0 = y) := ⟨hx, hy⟩
      have hi : ((m + 1 : Nat) : Int) - 1 = m := by omega
      rw [hi]
      have ux : U32 x := hx ▸ HA.out.1.at m
      have uy : U32 y := hy ▸ HA.out.2.at m
      obtain ⟨ux1, ux2⟩ := ux
      obtain ⟨uy1, uy2⟩ := uy
      clear hx hy hi
      rcases Int.lt_trichotomy x y with hlt | rfl | hlt
      · have HE : Hid (decide (val A < val B) = true) := by
          have h : val A < val B := Nt.val_lt_of m A B HA.out.1 HA.out.2 (fun j hj => HK.out j hj) (by rw [HX.out.1, HX.out.2]; exact hlt)
          show _ = _; simpa using h
        go_wp2
        go_quiet (fail)
        go_wp2
        go_quiet (fail)
        go_wp2
        go_ret
        exact ⟨by rw [HE.out]; simp, (HR.out _ H3.out).1.trans ⟨rfl, rfl, rfl, Nat.le_refl _, fun _ _ => rfl⟩⟩
      · go_wp2
        go_quiet (fail)
        go_wp2
        go_round
        case rel => exact ⟨m, by go_num, by omega, fun j hj => by
          rcases Nat.lt_or_ge m j with h | h
          · exact HK.out j h
          · rw [show j = m by omega, HX.out.1, HX.out.2], H3.out.trans ⟨rfl, rfl, rfl, Nat.le_refl _, fun _ _ => rfl⟩⟩
        case measure => simp [intOf]; try omega
      · have HE : Hid (decide (val A < val B) = false) := by
          have h : val B < val A := Nt.val_lt_of m B A HA.out.2 HA.out.1 (fun j hj => (HK.out j hj).symm) (by rw [HX.out.1, HX.out.2]; exact hlt)
          show _ = _; rw [decide_eq_false_iff_not]; omega
        have hn : ¬ x < y := by omega
        go_wp2
        go_quiet (fail)
        go_wp2
        go_quiet (fail)
        go_wp2
        go_ret
        exact ⟨by rw [HE.out]; simp [hn], (HR.out _ H3.out).1.trans ⟨rfl, rfl, rfl, Nat.le_refl _, fun _ _ => rfl⟩⟩
end Go.Proofs.Ytkdclocjijmgpaa
/-
  The reference's digits: plus.
-/
namespace Go.Proofs.Ytkdclocjijmgpaa
open Go.RowKit
set_option maxRecDepth 20000
theorem getD_app_drop (Z A : List Int) : (Z ++ A.drop Z.length).getD Z.length 0 = A.getD Z.length 0 := by
  simp [List.getD_eq_getElem?_getD, List.getElem?_append_right, List.getElem?_drop]
theorem set_app_drop (Z A : List Int) (x : Int) (h : Z.length < A.length) : (Z ++ A.drop Z.length).set Z.length x = (Z ++ [x]) ++ A.drop (Z ++ [x]).length := by
  rw [List.set_append_right _ _ (Nat.le_refl _), Nat.sub_self, List.drop_eq_getElem_cons h, List.set_cons_zero]
  simp
theorem set_set_app_drop (Z A : List Int) (y x : Int) (h : Z.length < A.length) : ((Z ++ A.drop Z.length).set Z.length y).set Z.length x = (Z ++ [x]) ++ A.drop (Z ++ [x]).length := by
  rw [List.set_set, set_app_drop _ _ _ h]
/-- A boxed triple of blocks: two numbers and the place of the answer. -/
theorem threeBlk {w : World} (A B : List Int) (o : Obj) (ho : o = .cells ((List.replicate 13 (0 : Int)).map (Value.int .u64)).toArray 64) :
    Arr .u64 64 (((w.alloc (.cells (A.map (Value.int .u64)).toArray 64)).alloc (.cells (B.map (Value.int .u64)).toArray 64)).alloc o) w.heap.size A ∧
    Arr .u64 64 (((w.alloc (.cells (A.map (Value.int .u64)).toArray 64)).alloc (.cells (B.map (Value.int .u64)).toArray 64)).alloc o) (w.heap.size + 1) B ∧
    Arr .u64 64 (((w.alloc (.cells (A.map (Value.int .u64)).toArray 64)).alloc (.cells (B.map (Value.int .u64)).toArray 64)).alloc o) (w.heap.size + 1 + 1) (List.replicate 13 0) ∧
    Below w.heap.size w (((w.alloc (.cells (A.map (Value.int .u64)).toArray 64)).alloc (.cells (B.map (Value.int .u64)).toArray 64)).alloc o) := by
  subst ho
  refine ⟨(((Blk.new _ w (A.map (Value.int .u64))).alloc _).alloc _).arr, ?_, ?_, ((al1 _).alloc (by simp) _).alloc (by simp; omega) _⟩
  · have h := Blk.new 64 (w.alloc (.cells (A.map (Value.int .u64)).toArray 64)) (B.map (Value.int .u64))
    rw [World.size_alloc] at h
    exact (h.alloc _).arr
  · have h := Blk.new 64 ((w.alloc (.cells (A.map (Value.int .u64)).toArray 64)).alloc (.cells (B.map (Value.int .u64)).toArray 64)) ((List.replicate 13 (0 : Int)).map (Value.int .u64))
    rw [World.size_alloc, World.size_alloc] at h
    exact h.arr
theorem plus_step (P cy a b z cn vZ vA vB : Int) (h : vZ + P * cy = vA + vB) (e : z + 4294967296 * cn = a + b + cy) : vZ + P * z + P * 4294967296 * cn = vA + P * a + (vB + P * b) := by
  have h2 : P * (z + 4294967296 * cn) = P * (a + b + cy) := by rw [e]
  rw [Int.mul_add, Int.mul_add, Int.mul_add, ← Int.mul_assoc] at h2
  omega
set_option maxHeartbeats 2000000 in
theorem plus_any {w : World} (A B : List Int) (uA : U32s A) (uB : U32s B) (lA : A.length = 13) (lB : B.length = 13) (hs : val A + val B < 4294967296 ^ 13) :
    Calls Try.prog 90 #[dgA A, dgA B] w fun e w' => ∃ Z, e = .returned (dgA Z) ∧ U32s Z ∧ Z.length = 13 ∧ val Z = val A + val B ∧ Below w.heap.size w w' := by
  have HA : Hid (U32s A ∧ U32s B ∧ val A + val B < 4294967296 ^ 13) := ⟨uA, uB, hs⟩
  unfold dgA
  go_enter Try.func90, Try.ntmps90
  go_upto_region 1 with (first
    | refine wpList_boxR rfl 64 (.tmp 0) rfl (A.map (Value.int .u64)).toArray rfl ?_
    | refine wpList_boxR rfl 64 (.tmp 1) rfl (B.map (Value.int .u64)).toArray rfl ?_)
  refine wp_gen (fun W => Arr .u64 64 W w.heap.size A ∧ Arr .u64 64 W (w.heap.size + 1) B ∧ Arr .u64 64 W (w.heap.size + 1 + 1) (List.replicate 13 0) ∧ Below w.heap.size w W) (threeBlk A B _ rfl) ?_
  rintro W2 ⟨hA, hB, hR, hBw⟩
  have H2 : Hid (Arr .u64 64 W2 w.heap.size A ∧ Arr .u64 64 W2 (w.heap.size + 1) B ∧ Arr .u64 64 W2 (w.heap.size + 1 + 1) (List.replicate 13 0) ∧ Below w.heap.size w W2) := ⟨hA, hB, hR, hBw⟩
  clear hA hB hR hBw uA uB hs
  go_wp2
  go_loopw [5, 6] (fun c i wr => ∃ (Z : List Int) (cy : Int), i = .int .i64 Z.length ∧ c = .int .u64 cy ∧ Z.length ≤ 13 ∧ 0 ≤ cy ∧ cy ≤ 1 ∧ Hid (U32s Z ∧ val Z + 4294967296 ^ Z.length * cy = val (A.take Z.length) + val (B.take Z.length)) ∧ Hid (Arr .u64 64 wr w.heap.size (Z ++ A.drop Z.length) ∧ Arr .u64 64 wr (w.heap.size + 1) B ∧ Arr .u64 64 wr (w.heap.size + 1 + 1) (List.replicate 13 0) ∧ Below w.heap.size w wr)) (fun _ i _ => 13 - (intOf i).toNat)
  case atStart => exact ⟨[], 0, rfl, rfl, by simp, by omega, by omega, ⟨U32s.nil, by simp [val]⟩, H2.out⟩
  case round =>
    clear H2
    obtain ⟨Z, cy, rfl, rfl, hZl, hc0, hc1, HZ, HW⟩ := hrel
    by_cases hlt : Z.length < 13
    · obtain ⟨t, ht⟩ : ∃ t, Z.length = t := ⟨_, rfl⟩
      have h1 := HW.out.1.cell Z.length (by simp; omega)
      have h2 := HW.out.2.1.cell Z.length (by omega)
      have g1 := HW.out.1.frozen Z.length
      rw [getD_app_drop] at h1
      obtain ⟨x, hx⟩ : ∃ x, A.getD Z.length 0 = x := ⟨_, rfl⟩
      obtain ⟨y, hy⟩ : ∃ y, B.getD Z.length 0 = y := ⟨_, rfl⟩
      rw [hx] at h1; rw [hy] at h2
      have HX : Hid (A.getD Z.length 0 = x ∧ B.getD Z.length 0 = y ∧ Z.length = t) := ⟨hx, hy, ht⟩
      have ux : U32 x := hx ▸ HA.out.1.at _
      have uy : U32 y := hy ▸ HA.out.2.1.at _
      obtain ⟨ux1, ux2⟩ := ux
      obtain ⟨uy1, uy2⟩ := uy
      rw [ht] at h1 h2 g1 hlt
      have hand := Nt.and32 (x + y + cy) (by omega) (by omega)
      rw [ht]
      clear hx hy ht hZl
      go_wp2
      go_quiet (fail)
      go_wp2
      go_roundw
      case rel =>
        obtain ⟨hx, hy, ht⟩ := HX.out
        obtain ⟨hA, hB, hR, hBw⟩ := HW.out
        refine ⟨Z ++ [(x + y + cy) % 4294967296], (x + y + cy) / 4294967296, by simp [ht], rfl, by simp; omega, by omega, by omega, ⟨HZ.out.1.append (U32s.cons ⟨by omega, by omega⟩ U32s.nil), ?_⟩, ?_, ?_, ?_, ?_⟩
        · rw [Nt.val_snoc, List.length_append, List.length_singleton, Nt.val_take_succ _ _ (by omega), Nt.val_take_succ _ _ (by omega), hx, hy, Int.pow_succ]
          exact plus_step _ cy x y _ _ _ _ _ HZ.out.2 (by omega)
        · have h := Arr.set (w := wr.drewN nq) hA Z.length ((x + y + cy) % 4294967296)
          rw [set_app_drop _ _ _ (by omega), ht] at h
          exact h
        · exact (Upd.set (wr.drewN nq) w.heap.size t _).arr (xs := B) hB (by omega)
        · exact (Upd.set (wr.drewN nq) w.heap.size t _).arr (xs := List.replicate 13 0) hR (by omega)
        · exact Below.setCell (w := wr.drewN nq) (p := ⟨w.heap.size, t, none⟩) (hBw.trans ⟨rfl, rfl, rfl, Nat.le_refl _, fun _ _ => rfl⟩) (Nat.le_refl _) _
      case measure => simp [intOf]; omega
    · have h13 : Z.length = 13 := by omega
      have HL : Hid (U32s Z ∧ Z.length = 13 ∧ val Z = val A + val B) := by
        refine ⟨HZ.out.1, h13, ?_⟩
        have h := HZ.out.2
        rw [h13, List.take_of_length_le (by omega), List.take_of_length_le (by omega)] at h
        have h0 := val_nonneg HZ.out.1
        have h3 := HA.out.2.2
        generalize (4294967296 : Int) ^ 13 = P at h h3
        rcases (show cy = 0 ∨ cy = 1 by omega) with rfl | rfl
        · omega
        · omega
      obtain ⟨hA, hB, hR, hBw⟩ := HW.out
      rw [h13, List.drop_eq_nil_of_le (by omega), List.append_nil] at hA
      have hA' := hA.blk
      have hlen : (Z.map (Value.int .u64)).length = 13 := by simp [h13]
      have hsz : (Try.prog.info? 64).map (·.size) = some (Z.map (Value.int .u64)).length := by rw [hlen]; exact Try.sizeDg
      have hone := ints_one .u64 Z
      obtain ⟨cs, hcs⟩ : ∃ cs, Z.map (Value.int .u64) = cs := ⟨_, rfl⟩
      rw [hcs] at hA' hlen hsz hone
      have HC : Hid (Z.map (Value.int .u64) = cs) := hcs
      have hZb := hR.blk
      have HF : Hid (Blk 64 (wr.setCells (w.heap.size + 1 + 1) 0 cs) (w.heap.size + 1 + 1) cs ∧ Below w.heap.size w (wr.setCells (w.heap.size + 1 + 1) 0 cs)) := ⟨hZb.fill cs (by simp [hlen]), (Upd.setCells cs 0 wr).below hBw hBw.size (by omega)⟩
      have hth : wr.there (w.heap.size + 1 + 1) 0 cs.toArray.size := hZb.there 0 _ (by simp [hlen])
      have HQ : Hid (wr.rangeAt w.heap.size 0 cs ∧ wr.there (w.heap.size + 1 + 1) 0 cs.toArray.size) := ⟨hA'.whole, hth⟩
      have HS : Hid ((Try.prog.info? 64).map (·.size) = some cs.length) := hsz
      have HO : Hid (cs.toArray.all (·.oneCell') = true) := hone
      clear hA hB hR hBw hA' hlen hsz hone hZb hth hcs HW HZ hZl hlt
      rw [h13]
      clear h13
      go_wp2_with (first
        | (refine wpList_load_mid rfl _ _ rfl w.heap.size 0 rfl cs _ HQ.out.1 Try.underlying64 rfl HS.out ?_)
        | (refine wpList_store_mid rfl _ _ _ rfl (w.heap.size + 1 + 1) 0 cs.toArray rfl rfl HQ.out.2 (by simpa using HS.out) HO.out ?_))
      exact bodyPost_ret (v := .agg cs.toArray) (results_blk (b := w.heap.size + 1 + 1) (cs := cs) rfl rfl HF.out.1 Try.underlying64 rfl HS.out) rfl ⟨Z, by rw [HC.out], HL.out.1, HL.out.2.1, HL.out.2.2, HF.out.2⟩
end Go.Proofs.Ytkdclocjijmgpaa
/-
  The reference's digits: minus.
-/
namespace Go.Proofs.Ytkdclocjijmgpaa
open Go.RowKit
set_option maxRecDepth 20000
theorem minus_step (P cy q x y z cn vZ vA vB : Int) (h : vZ + q * vB = vA + P * cy) (e : z + q * y + cy = x + 4294967296 * cn) : vZ + P * z + q * (vB + P * y) = vA + P * x + P * 4294967296 * cn := by
  have h2 : P * (z + q * y + cy) = P * (x + 4294967296 * cn) := by rw [e]
  rw [Int.mul_add, Int.mul_add, Int.mul_add, ← Int.mul_assoc P 4294967296 cn] at h2
  rw [Int.mul_add, show q * (P * y) = P * (q * y) by rw [← Int.mul_assoc, Int.mul_comm q P, Int.mul_assoc]]
  omega
theorem minus_end (P z a b cy : Int) (h : z + b = a + P * cy) (hz : z < P) (hb : b ≤ a) (hc : 0 ≤ cy) (hP : 0 ≤ P) : z = a - b := by
  have h0 : cy = 0 := by
    apply Decidable.byContradiction; intro hn
    have h1 : P * 1 ≤ P * cy := Int.mul_le_mul_of_nonneg_left (by omega) hP
    omega
  subst h0; omega
set_option maxHeartbeats 2000000 in
theorem minus_any {w : World} (A B : List Int) (uA : U32s A) (uB : U32s B) (lA : A.length = 13) (lB : B.length = 13) (q : Int) (uq : U32 q) (hs : q * val B ≤ val A) :
    Calls Try.prog 88 #[dgA A, dgA B, .int .u64 q] w fun e w' => ∃ Z, e = .returned (dgA Z) ∧ U32s Z ∧ Z.length = 13 ∧ val Z = val A - q * val B ∧ Below w.heap.size w w' := by
  have HA : Hid (U32s A ∧ U32s B ∧ q * val B ≤ val A) := ⟨uA, uB, hs⟩
  obtain ⟨uq1, uq2⟩ := uq
  unfold dgA
  go_enter Try.func88, Try.ntmps88
  go_upto_region 1 with (first
    | refine wpList_boxR rfl 64 (.tmp 0) rfl (A.map (Value.int .u64)).toArray rfl ?_
    | refine wpList_boxR rfl 64 (.tmp 1) rfl (B.map (Value.int .u64)).toArray rfl ?_)
  refine wp_gen (fun W => Arr .u64 64 W w.heap.size A ∧ Arr .u64 64 W (w.heap.size + 1) B ∧ Arr .u64 64 W (w.heap.size + 1 + 1) (List.replicate 13 0) ∧ Below w.heap.size w W) (threeBlk A B _ rfl) ?_
  rintro W2 ⟨hA, hB, hR, hBw⟩
  have H2 : Hid (Arr .u64 64 W2 w.heap.size A ∧ Arr .u64 64 W2 (w.heap.size + 1) B ∧ Arr .u64 64 W2 (w.heap.size + 1 + 1) (List.replicate 13 0) ∧ Below w.heap.size w W2) := ⟨hA, hB, hR, hBw⟩
  clear hA hB hR hBw uA uB hs
  go_wp2
  go_loopw [7, 8] (fun c i wr => ∃ (Z : List Int) (cy : Int), i = .int .i64 Z.length ∧ c = .int .u64 cy ∧ Z.length ≤ 13 ∧ 0 ≤ cy ∧ cy < 4294967296 ∧ Hid (U32s Z ∧ val Z + q * val (B.take Z.length) = val (A.take Z.length) + 4294967296 ^ Z.length * cy) ∧ Hid (Arr .u64 64 wr w.heap.size (Z ++ A.drop Z.length) ∧ Arr .u64 64 wr (w.heap.size + 1) B ∧ Arr .u64 64 wr (w.heap.size + 1 + 1) (List.replicate 13 0) ∧ Below w.heap.size w wr)) (fun _ i _ => 13 - (intOf i).toNat)
  case atStart => exact ⟨[], 0, rfl, rfl, by simp, by omega, by omega, ⟨U32s.nil, by simp [val]⟩, H2.out⟩
  case round =>
    clear H2
    obtain ⟨Z, cy, rfl, rfl, hZl, hc0, hc1, HZ, HW⟩ := hrel
    by_cases hlt : Z.length < 13
    · obtain ⟨t, ht⟩ : ∃ t, Z.length = t := ⟨_, rfl⟩
      have h1 := HW.out.1.cell Z.length (by simp; omega)
      have h2 := HW.out.2.1.cell Z.length (by omega)
      have g1 := HW.out.1.frozen Z.length
      rw [getD_app_drop] at h1
      obtain ⟨x, hx⟩ : ∃ x, A.getD Z.length 0 = x := ⟨_, rfl⟩
      obtain ⟨y, hy⟩ : ∃ y, B.getD Z.length 0 = y := ⟨_, rfl⟩
      rw [hx] at h1; rw [hy] at h2
      have HX : Hid (A.getD Z.length 0 = x ∧ B.getD Z.length 0 = y ∧ Z.length = t) := ⟨hx, hy, ht⟩
      have ux : U32 x := hx ▸ HA.out.1.at _
      have uy : U32 y := hy ▸ HA.out.2.1.at _
      obtain ⟨ux1, ux2⟩ := ux
      obtain ⟨uy1, uy2⟩ := uy
      rw [ht] at h1 h2 g1 hlt
      have hp0 : 0 ≤ q * y := Int.mul_nonneg uq1 uy1
      have hp1 : q * y ≤ 4294967295 * 4294967295 := Int.mul_le_mul (by omega) (by omega) uy1 (by decide)
      have hand := Nt.and32 (q * y + cy) (by omega) (by omega)
      rw [ht]
      clear hx hy ht hZl
      have HU : Hid (∀ v, Upd wr (wr.setCell ⟨w.heap.size, t, none⟩ v) w.heap.size) := fun v => Upd.set _ _ _ _
      by_cases hxt : x < (q * y + cy) % 4294967296
      · go_wp2
        go_roundw
        case rel =>
          obtain ⟨hx, hy, ht⟩ := HX.out
          obtain ⟨hA, hB, hR, hBw⟩ := HW.out
          refine ⟨Z ++ [x + 4294967296 - (q * y + cy) % 4294967296], (q * y + cy) / 4294967296 + 1, by simp [ht], rfl, by simp; omega, by omega, by omega, ⟨HZ.out.1.append (U32s.cons ⟨by omega, by omega⟩ U32s.nil), ?_⟩, ?_, ?_, ?_, ?_⟩
          · rw [Nt.val_snoc, List.length_append, List.length_singleton, Nt.val_take_succ _ _ (by omega), Nt.val_take_succ _ _ (by omega), hx, hy, Int.pow_succ]
            exact minus_step _ cy q x y _ _ _ _ _ HZ.out.2 (by omega)
          · have h := (Arr.set hA Z.length (x + 4294967296)).set Z.length (x + 4294967296 - (q * y + cy) % 4294967296)
            rw [set_set_app_drop _ _ _ _ (by omega), ht] at h
            exact h
          · exact ((HU.out _).trans (Upd.set _ w.heap.size t _)).arr hB (by omega)
          · exact ((HU.out _).trans (Upd.set _ w.heap.size t _)).arr hR (by omega)
          · exact ((HU.out _).trans (Upd.set _ w.heap.size t _)).below hBw hBw.size (Nat.le_refl _)
        case measure => simp [intOf]; omega
      · go_wp2
        go_roundw
        case rel =>
          obtain ⟨hx, hy, ht⟩ := HX.out
          obtain ⟨hA, hB, hR, hBw⟩ := HW.out
          refine ⟨Z ++ [x - (q * y + cy) % 4294967296], (q * y + cy) / 4294967296, by simp [ht], rfl, by simp; omega, by omega, by omega, ⟨HZ.out.1.append (U32s.cons ⟨by omega, by omega⟩ U32s.nil), ?_⟩, ?_, ?_, ?_, ?_⟩
          · rw [Nt.val_snoc, List.length_append, List.length_singleton, Nt.val_take_succ _ _ (by omega), Nt.val_take_succ _ _ (by omega), hx, hy, Int.pow_succ]
            exact minus_step _ cy q x y _ _ _ _ _ HZ.out.2 (by omega)
          · have h := Arr.set hA Z.length (x - (q * y + cy) % 4294967296)
            rw [set_app_drop _ _ _ (by omega), ht] at h
            exact h
          · exact (HU.out _).arr hB (by omega)
          · exact (HU.out _).arr hR (by omega)
          · exact (HU.out _).below hBw hBw.size (Nat.le_refl _)
        case measure => simp [intOf]; omega
    · have h13 : Z.length = 13 := by omega
      have HL : Hid (U32s Z ∧ Z.length = 13 ∧ val Z = val A - q * val B) := by
        refine ⟨HZ.out.1, h13, ?_⟩
        have h := HZ.out.2
        rw [h13, List.take_of_length_le (by omega), List.take_of_length_le (by omega)] at h
        have h4 := val_lt HZ.out.1
        rw [h13] at h4
        exact minus_end _ _ _ _ cy h h4 HA.out.2.2 hc0 (by decide)
      obtain ⟨hA, hB, hR, hBw⟩ := HW.out
      rw [h13, List.drop_eq_nil_of_le (by omega), List.append_nil] at hA
      have hA' := hA.blk
      have hlen : (Z.map (Value.int .u64)).length = 13 := by simp [h13]
      have hsz : (Try.prog.info? 64).map (·.size) = some (Z.map (Value.int .u64)).length := by rw [hlen]; exact Try.sizeDg
      have hone := ints_one .u64 Z
      obtain ⟨cs, hcs⟩ : ∃ cs, Z.map (Value.int .u64) = cs := ⟨_, rfl⟩
      rw [hcs] at hA' hlen hsz hone
      have HC : Hid (Z.map (Value.int .u64) = cs) := hcs
      have hZb := hR.blk
      have HF : Hid (Blk 64 (wr.setCells (w.heap.size + 1 + 1) 0 cs) (w.heap.size + 1 + 1) cs ∧ Below w.heap.size w (wr.setCells (w.heap.size + 1 + 1) 0 cs)) := ⟨hZb.fill cs (by simp [hlen]), (Upd.setCells cs 0 wr).below hBw hBw.size (by omega)⟩
      have hth : wr.there (w.heap.size + 1 + 1) 0 cs.toArray.size := hZb.there 0 _ (by simp [hlen])
      have HQ : Hid (wr.rangeAt w.heap.size 0 cs ∧ wr.there (w.heap.size + 1 + 1) 0 cs.toArray.size) := ⟨hA'.whole, hth⟩
      have HS : Hid ((Try.prog.info? 64).map (·.size) = some cs.length) := hsz
      have HO : Hid (cs.toArray.all (·.oneCell') = true) := hone
      clear hA hB hR hBw hA' hlen hsz hone hZb hth hcs HW HZ hZl hlt
      rw [h13]
      clear h13
      go_wp2_with (first
        | (refine wpList_load_mid rfl _ _ rfl w.heap.size 0 rfl cs _ HQ.out.1 Try.underlying64 rfl HS.out ?_)
        | (refine wpList_store_mid rfl _ _ _ rfl (w.heap.size + 1 + 1) 0 cs.toArray rfl rfl HQ.out.2 (by simpa using HS.out) HO.out ?_))
      exact bodyPost_ret (v := .agg cs.toArray) (results_blk (b := w.heap.size + 1 + 1) (cs := cs) rfl rfl HF.out.1 Try.underlying64 rfl HS.out) rfl ⟨Z, by rw [HC.out], HL.out.1, HL.out.2.1, HL.out.2.2, HF.out.2⟩
end Go.Proofs.Ytkdclocjijmgpaa
/-
  The reference's field: a call's own blocks one behind the other; add.
-/
namespace Go.Proofs.Ytkdclocjijmgpaa
open Go.RowKit
set_option maxRecDepth 20000
/-- The blocks that a call laid, one behind the other. -/
def Bks (w W : World) (L : List (TypeId × List Value)) : Prop := Below w.heap.size w W ∧ ∀ i T cs, L[i]? = some (T, cs) → Blk T W (w.heap.size + i) cs
theorem Bks.nil (w : World) : Bks w w [] := ⟨Below.refl _ _, fun i T cs h => by simp at h⟩
theorem Bks.below {w W W' : World} {L : List (TypeId × List Value)} (h : Bks w W L) (hb : Below W.heap.size W W') : Bks w W' L :=
  ⟨below_via h.1 hb (Nat.le_refl _), fun i T cs e => below_blk hb (h.2 i T cs e).lt (h.2 i T cs e)⟩
theorem Bks.store {w W : World} {L : List (TypeId × List Value)} (h : Bks w W L) (i : Nat) (T : TypeId) (cs vs : List Value) (e : L[i]? = some (T, cs)) (hl : vs.length = cs.length) : Bks w (W.setCells (w.heap.size + i) 0 vs) (L.set i (T, vs)) := by
  have hU := Upd.setCells (b := w.heap.size + i) vs 0 W
  refine ⟨hU.below h.1 h.1.size (by omega), fun j T' cs' e' => ?_⟩
  rw [List.getElem?_set] at e'
  split at e'
  · rename_i hij
    subst hij
    split at e'
    · cases e'
      exact (h.2 _ _ _ e).fill vs hl
    · cases e'
  · exact hU.blk (h.2 j T' cs' e') (by omega)
theorem Bks.push {w W : World} {L : List (TypeId × List Value)} (h : Bks w W L) (hs : W.heap.size = w.heap.size + L.length) (T : TypeId) (cs : List Value) : Bks w (W.alloc (.cells cs.toArray T)) (L ++ [(T, cs)]) ∧ (W.alloc (.cells cs.toArray T)).heap.size = w.heap.size + (L ++ [(T, cs)]).length := by
  refine ⟨⟨h.1.alloc (by omega) _, fun i T' cs' e => ?_⟩, by simp [hs]; omega⟩
  rcases Nat.lt_or_ge i L.length with hi | hi
  · rw [List.getElem?_append_left hi] at e
    exact (h.2 i T' cs' e).alloc _
  · rw [List.getElem?_append_right hi] at e
    rcases Nat.eq_zero_or_pos (i - L.length) with h0 | h0
    · rw [h0] at e
      simp at e
      obtain ⟨rfl, rfl⟩ := e
      have := Blk.new T W cs
      rw [hs, show L.length = i by omega] at this
      exact this
    · rw [List.getElem?_eq_none (by simp; omega)] at e
      cases e
/-- The reference's field of a prime, as cells: how many digits, and the digits. -/
def fdC (n : Nat) (P : List Int) : List Value := Value.int .i64 n :: P.map (Value.int .u64)
def dgC (A : List Int) : List Value := A.map (Value.int .u64)
theorem dgC_len (A : List Int) : (dgC A).length = A.length := by simp [dgC]
def z13 : List Value := [.int .u64 0, .int .u64 0, .int .u64 0, .int .u64 0, .int .u64 0, .int .u64 0, .int .u64 0, .int .u64 0, .int .u64 0, .int .u64 0, .int .u64 0, .int .u64 0, .int .u64 0]
theorem dgC_one (A : List Int) : (dgC A).toArray.all (·.oneCell') = true := ints_one .u64 A
theorem dgC_size {A : List Int} (h : A.length = 13) : (Try.prog.info? 64).map (·.size) = some (dgC A).length := by rw [dgC_len, h]; exact Try.sizeDg
theorem dgC_size2 {A : List Int} (h : A.length = 13) : (Try.prog.info? 64).map (·.size) = some (dgC A).toArray.size := by rw [List.size_toArray]; exact dgC_size h
/-- A number below 2^416, in thirteen digits. -/
def Dg (A : List Int) : Prop := U32s A ∧ A.length = 13
theorem Bks.all {w W : World} {L : List (TypeId × List Value)} (h : Bks w W L) (i : Nat) (T : TypeId) (cs : List Value) (e : L[i]? = some (T, cs)) : W.rangeAt (w.heap.size + i) 0 cs := (h.2 i T cs e).whole
theorem Bks.there {w W : World} {L : List (TypeId × List Value)} (h : Bks w W L) (i : Nat) (T : TypeId) (cs : List Value) (e : L[i]? = some (T, cs)) (n : Nat) (hn : n ≤ cs.length) : W.there (w.heap.size + i) 0 n := (h.2 i T cs e).there 0 n (by omega)
theorem Bks.pr {w W : World} {L : List (TypeId × List Value)} (h : Bks w W L) (n : Nat) (P : List Int) (e : L[0]? = some (66, fdC n P)) : W.rangeAt w.heap.size 1 (dgC P) := (h.2 0 _ _ e).range 1 (dgC P) (by simp only [fdC, dgC, List.drop_succ_cons, List.drop_zero]; exact List.take_of_length_le (Nat.le_refl _))
end Go.Proofs.Ytkdclocjijmgpaa
