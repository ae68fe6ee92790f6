/-
  Curves: two multiples together, points as numbers (pure).
-/
import Derived.Test.YtkdclocjijmgpaaK25
namespace Go.Proofs.Ytkdclocjijmgpaa.Gl
variable {p : Nat} [NeZero p] {c : Ec p}
theorem add4 (hc : c.Ok) {A B C D : Pt p} (hA : c.On A) (hB : c.On B) (hC : c.On C) (hD : c.On D) : c.add (c.add A B) (c.add C D) = c.add (c.add A C) (c.add B D) := by
  rw [assoc hc hA hB (add_on hc hC hD), assoc hc hA hC (add_on hc hB hD), ← assoc hc hB hC hD, ← assoc hc hC hB hD, add_comm hc hB hC]
theorem stepT_rp (hc : c.Ok) (ha : c.a + 3 = 0) {g q : Nat × Nat × Nat} (lg : Lt3 p g) (lq : Lt3 p q) {G Q : Pt p} (hG : c.On G) (hQ : c.On Q) (rg : Rp g G) (rq : Rp q Q) (d e : Nat) (hd : d < 2) (he : e < 2) : Rp (stepT p g q (d + 2 * e)) (c.add (c.mul d G) (c.mul e Q)) := by
  rcases (by omega : d = 0 ∨ d = 1) with rfl | rfl <;> rcases (by omega : e = 0 ∨ e = 1) with rfl | rfl
  · exact (rfl : (0 : Nat) = 0)
  · exact rq
  · show Rp g (c.add G none); rw [add_zero]; exact rg
  · exact jsm_rp hc ha lg lq hG hQ rg rq
theorem half_step (a n k : Nat) (h : k < n) : a / 2 ^ (n - (k + 1)) = a / 2 ^ (n - k) + a / 2 ^ (n - k) + a / 2 ^ (n - 1 - k) % 2 := by
  have e1 : n - (k + 1) = n - 1 - k := by omega
  have e2 : n - k = (n - 1 - k) + 1 := by omega
  rw [e1, e2, Nat.pow_succ, ← Nat.div_div_eq_div_mul]
  omega
theorem mixL_rp (hc : c.Ok) (ha : c.a + 3 = 0) {g q : Nat × Nat × Nat} (lg : Lt3 p g) (lq : Lt3 p q) {G Q : Pt p} (hG : c.On G) (hQ : c.On Q) (rg : Rp g G) (rq : Rp q Q) (a b n : Nat) (hna : a < 2 ^ n) (hnb : b < 2 ^ n) (k : Nat) (hk : k ≤ n) :
    Rp (mixL p g q a b n k) (c.add (c.mul (a / 2 ^ (n - k)) G) (c.mul (b / 2 ^ (n - k)) Q)) := by
  induction k with
  | zero =>
    rw [Nat.sub_zero, Nat.div_eq_of_lt hna, Nat.div_eq_of_lt hnb]
    exact (rfl : (0 : Nat) = 0)
  | succ k ih =>
    have ih := ih (by omega)
    have h0 := p_pos (p := p)
    have lm := mixL_lt (a := a) (b := b) (n := n) h0 lg lq k
    have oA := mul_on hc hG (a / 2 ^ (n - k))
    have oB := mul_on hc hQ (b / 2 ^ (n - k))
    have od := mul_on hc hG (a / 2 ^ (n - 1 - k) % 2)
    have oe := mul_on hc hQ (b / 2 ^ (n - 1 - k) % 2)
    have h1 := jdb_rp hc ha lm (add_on hc oA oB) ih
    have h2 := stepT_rp hc ha lg lq hG hQ rg rq (a / 2 ^ (n - 1 - k) % 2) (b / 2 ^ (n - 1 - k) % 2) (Nat.mod_lt _ (by decide)) (Nat.mod_lt _ (by decide))
    have h3 := jsm_rp hc ha (jdb_lt h0) (stepT_lt h0 lg lq _) (add_on hc (add_on hc oA oB) (add_on hc oA oB)) (add_on hc od oe) h1 h2
    rw [half_step a n k (by omega), half_step b n k (by omega), mul_add hc hG, mul_add hc hG, mul_add hc hQ, mul_add hc hQ]
    rw [add4 hc oA oB oA oB, add4 hc (add_on hc oA oA) (add_on hc oB oB) od oe] at h3
    exact h3
theorem mixT_rp (hc : c.Ok) (ha : c.a + 3 = 0) {g q : Nat × Nat × Nat} (lg : Lt3 p g) (lq : Lt3 p q) {G Q : Pt p} (hG : c.On G) (hQ : c.On Q) (rg : Rp g G) (rq : Rp q Q) (a b : Nat) : Rp (mixT p g q a b) (c.add (c.mul a G) (c.mul b Q)) := by
  have hna : a < 2 ^ mixN a b := by
    refine Nat.lt_of_lt_of_le (bitLen_spec a).1 (Nat.pow_le_pow_right (by decide) ?_)
    unfold mixN; split <;> omega
  have hnb : b < 2 ^ mixN a b := by
    refine Nat.lt_of_lt_of_le (bitLen_spec b).1 (Nat.pow_le_pow_right (by decide) ?_)
    unfold mixN; split <;> omega
  have := mixL_rp hc ha lg lq hG hQ rg rq a b (mixN a b) hna hnb (mixN a b) (Nat.le_refl _)
  rw [Nat.sub_self, Nat.pow_zero, Nat.div_one, Nat.div_one] at this
  exact this
/-- A point as two numbers; the far one: 0 and 0. -/
def enc : Pt p → Nat × Nat
  | none => (0, 0)
  | some (x, y) => (x.val, y.val)
theorem enc_lt (P : Pt p) : (enc P).1 < p ∧ (enc P).2 < p := by
  match P with
  | none => exact ⟨p_pos, p_pos⟩
  | some (x, y) => exact ⟨x.isLt, y.isLt⟩
theorem enc_inj (hb : c.b ≠ 0) {P Q : Pt p} (hP : c.On P) (hQ : c.On Q) (h : enc P = enc Q) : P = Q := by
  have key : ∀ x y : Fin p, c.on x y → ¬ (x.val = 0 ∧ y.val = 0) := by
    intro x y ho ⟨h1, h2⟩
    have e1 : x = 0 := Fin.ext h1
    have e2 : y = 0 := Fin.ext h2
    subst e1 e2
    unfold Ec.on at ho
    apply hb
    grobner
  match P, Q, hP, hQ, h with
  | none, none, _, _, _ => rfl
  | none, some (x, y), _, hQ, h =>
    have h1 : (0, 0) = (x.val, y.val) := h
    simp only [Prod.mk.injEq] at h1
    exact absurd ⟨h1.1.symm, h1.2.symm⟩ (key x y hQ)
  | some (x, y), none, hP, _, h =>
    have h1 : (x.val, y.val) = (0, 0) := h
    simp only [Prod.mk.injEq] at h1
    exact absurd ⟨h1.1, h1.2⟩ (key x y hP)
  | some (x, y), some (x', y'), _, _, h =>
    have h1 : (x.val, y.val) = (x'.val, y'.val) := h
    simp only [Prod.mk.injEq] at h1
    rw [Fin.ext h1.1, Fin.ext h1.2]
theorem enc_far (hb : c.b ≠ 0) {P : Pt p} (hP : c.On P) : (enc P).1 = 0 ∧ (enc P).2 = 0 ↔ P = none := by
  constructor
  · rintro ⟨h1, h2⟩
    exact enc_inj hb hP trivial (Prod.ext h1 h2)
  · rintro rfl; exact ⟨rfl, rfl⟩
/-- A point's three numbers. -/
def triN (X Y : Nat) : Nat × Nat × Nat := if X = 0 ∧ Y = 0 then (0, 0, 0) else (X, Y, 1)
theorem triN_rp (hb : c.b ≠ 0) (h1p : 1 < p) {P : Pt p} (hP : c.On P) : Rp (triN (enc P).1 (enc P).2) P ∧ Lt3 p (triN (enc P).1 (enc P).2) := by
  have hl := enc_lt P
  match P, hP, hl with
  | none, _, _ => exact ⟨rfl, p_pos, p_pos, p_pos⟩
  | some (x, y), hP, hl =>
    have hn : ¬ ((enc (some (x, y))).1 = 0 ∧ (enc (some (x, y))).2 = 0) := fun h => by
      have := (enc_far hb (P := some (x, y)) hP).1 h
      cases this
    unfold triN
    rw [if_neg hn]
    refine ⟨⟨Nat.one_ne_zero, ?_, ?_⟩, hl.1, hl.2, h1p⟩
    · show F p x.val = x * (F p 1 * F p 1)
      rw [F_self, F_1]; grobner
    · show F p y.val = y * (F p 1 * F p 1 * F p 1)
      rw [F_self, F_1]; grobner
theorem jpt_enc {t : Nat × Nat × Nat} (ht : Lt3 p t) {P : Pt p} (h : Rp t P) {X Y : Nat} (hj : jpt p t X Y) : enc P = (X, Y) := by
  obtain ⟨A, B, Z⟩ := t
  have h0 := p_pos (p := p)
  rcases hj with ⟨hz, rfl, rfl⟩ | ⟨hz, g, hg, hi, rfl, rfl⟩
  · match P, h with
    | none, _ => rfl
    | some (x, y), h => exact absurd hz h.1
  · match P, h with
    | none, h => exact absurd h hz
    | some (x, y), h =>
      obtain ⟨_, hA, hB⟩ := h
      simp only [] at hA hB hi ⊢
      have hi' : F p Z * F p g = 1 := by rw [← F_mul, ← F_mod, hi, F_mod, F_1]
      show (x.val, y.val) = _
      refine Prod.ext ?_ ?_
      · refine F_inj (p := p) x.isLt (fml_lt h0) ?_
        rw [F_self, F_fml, F_fml, hA]
        generalize F p Z = z at *
        generalize F p g = i at *
        have e : x * (z * z) * (i * i) = x * ((z * i) * (z * i)) := by clear hA hB hi'; grobner
        rw [e, hi']; clear hA hB hi' e; grobner
      · refine F_inj (p := p) y.isLt (fml_lt h0) ?_
        rw [F_self, F_fml, F_fml, F_fml, hB]
        generalize F p Z = z at *
        generalize F p g = i at *
        have e : y * (z * z * z) * (i * i * i) = y * ((z * i) * (z * i) * (z * i)) := by clear hA hB hi'; grobner
        rw [e, hi']; clear hA hB hi' e; grobner
end Go.Proofs.Ytkdclocjijmgpaa.Gl
/-
  Curves: the reference's triples and points: lifted, flattened (pure).
-/
namespace Go.Proofs.Ytkdclocjijmgpaa.Gl
variable {p : Nat} [NeZero p] {c : Ec p}
theorem triN_rq (hb : c.b ≠ 0) (h1p : 1 < p) {P : Pt p} (hP : c.On P) : Rq (triN (enc P).1 (enc P).2) P ∧ Lt3 p (triN (enc P).1 (enc P).2) := by
  have hl := enc_lt P
  match P, hP, hl with
  | none, _, _ => exact ⟨rfl, p_pos, p_pos, p_pos⟩
  | some (x, y), hP, hl =>
    have hn : ¬ ((enc (some (x, y))).1 = 0 ∧ (enc (some (x, y))).2 = 0) := fun h => by
      have := (enc_far hb (P := some (x, y)) hP).1 h
      cases this
    unfold triN
    rw [if_neg hn]
    refine ⟨⟨Nat.one_ne_zero, ?_, ?_⟩, hl.1, hl.2, h1p⟩
    · show F p x.val = x * F p 1
      rw [F_self, F_1]; grobner
    · show F p y.val = y * F p 1
      rw [F_self, F_1]; grobner
theorem qpt_enc {A B Z : Nat} {P : Pt p} (h : Rq (A, B, Z) P) {X Y : Nat} (hj : qpt p (A, B, Z) X Y) : enc P = (X, Y) := by
  have h0 := p_pos (p := p)
  rcases hj with ⟨hz, rfl, rfl⟩ | ⟨hz, g, hg, hi, rfl, rfl⟩
  · match P, h with
    | none, _ => rfl
    | some (x, y), h => exact absurd hz h.1
  · match P, h with
    | none, h => exact absurd h hz
    | some (x, y), h =>
      obtain ⟨_, hA, hB⟩ := h
      simp only [] at hA hB hi ⊢
      have hi' : F p Z * F p g = 1 := by rw [← F_mul, ← F_mod, hi, F_mod, F_1]
      show (x.val, y.val) = _
      refine Prod.ext ?_ ?_
      · refine F_inj (p := p) x.isLt (fml_lt h0) ?_
        rw [F_self, F_fml, hA]
        generalize F p Z = z at *
        generalize F p g = i at *
        have e : x * z * i = x * (z * i) := by clear hA hB hi'; grobner
        rw [e, hi']; clear hA hB hi' e; grobner
      · refine F_inj (p := p) y.isLt (fml_lt h0) ?_
        rw [F_self, F_fml, hB]
        generalize F p Z = z at *
        generalize F p g = i at *
        have e : y * z * i = y * (z * i) := by clear hA hB hi'; grobner
        rw [e, hi']; clear hA hB hi' e; grobner
theorem lft_triN {X Y : List Int} (uX : U32s X) (uY : U32s Y) : lft X Y = triN (val X).toNat (val Y).toNat := by
  have h1 := val_nonneg uX
  have h2 := val_nonneg uY
  unfold lft triN farB
  by_cases h : val X = 0 ∧ val Y = 0
  · rw [if_pos (by simp [h.1, h.2]), if_pos ⟨by rw [h.1]; rfl, by rw [h.2]; rfl⟩]
  · rw [if_neg (by simpa using h), if_neg (fun g => h ⟨by omega, by omega⟩)]
end Go.Proofs.Ytkdclocjijmgpaa.Gl
/-
  Curves: the reference's times. (wip/mkh29.py)
-/
namespace Go.Proofs.Ytkdclocjijmgpaa
open Go.RowKit
set_option maxRecDepth 20000
theorem rsm_lt {p x1 y1 z1 x2 y2 z2 : Nat} (h : 0 < p) (l1 : x1 < p) (l2 : y1 < p) (l3 : z1 < p) (m1 : x2 < p) (m2 : y2 < p) (m3 : z2 < p) : (rsm p x1 y1 z1 x2 y2 z2).1 < p ∧ (rsm p x1 y1 z1 x2 y2 z2).2.1 < p ∧ (rsm p x1 y1 z1 x2 y2 z2).2.2 < p := by
  unfold rsm
  split
  · exact ⟨m1, m2, m3⟩
  split
  · exact ⟨l1, l2, l3⟩
  dsimp only
  split
  · split
    · exact rtw_lt h
    · exact ⟨h, h, h⟩
  · exact ⟨fml_lt h, fsb_lt h, fml_lt h⟩
theorem sumF {w : World} {p x1 y1 z1 x2 y2 z2 : Nat} {F : List Value} (hF : fdC (lim p).length (dg p) = F) (h : Fp p) (hx1 : x1 < p) (hy1 : y1 < p) (hz1 : z1 < p) (hx2 : x2 < p) (hy2 : y2 < p) (hz2 : z2 < p) :
    Calls Try.prog 31 #[.agg F.toArray, .agg (tC x1 y1 z1).toArray, .agg (tC x2 y2 z2).toArray] w fun e w' => e = .returned (.agg (tC (rsm p x1 y1 z1 x2 y2 z2).1 (rsm p x1 y1 z1 x2 y2 z2).2.1 (rsm p x1 y1 z1 x2 y2 z2).2.2).toArray) ∧ Below w.heap.size w w' := by subst hF; exact rsum_any h hx1 hy1 hz1 hx2 hy2 hz2
theorem half_step (k i : Nat) : k / 2 ^ i = k / 2 ^ (i + 1) + k / 2 ^ (i + 1) + k / 2 ^ i % 2 := by
  rw [Nat.pow_succ, ← Nat.div_div_eq_div_mul]
  omega
set_option maxHeartbeats 4000000 in
theorem times_any {w : World} {p : Nat} [NeZero p] {C : Gl.Ec p} (hc : C.Ok) (ha : C.a + 3 = 0) (hp : Fp p) (v : Value) (K : List Int) (hK : Sl .u32 w v K) (uK : U32s K) (lK : K.length ≤ 64) {x y z : Nat} (hx : x < p) (hy : y < p) (hz : z < p) {P : Gl.Pt p} (hP : C.On P) (hr : Gl.Rq (x, y, z) P) :
    Calls Try.prog 40 #[fV p, v, .agg (tC x y z).toArray] w fun e w' => ∃ X Y Z : Nat, e = .returned (.agg (tC X Y Z).toArray) ∧ (X < p ∧ Y < p ∧ Z < p) ∧ Gl.Rq (X, Y, Z) (C.mul (val K).toNat P) ∧ Below w.heap.size w w' := by
  obtain ⟨F, hF⟩ : ∃ F, fdC (lim p).length (dg p) = F := ⟨_, rfl⟩
  obtain ⟨T, hT⟩ : ∃ T, tC x y z = T := ⟨_, rfl⟩
  unfold fV
  rw [hF, hT]
  have HA : Hid (Fp p ∧ x < p ∧ y < p ∧ z < p ∧ fdC (lim p).length (dg p) = F ∧ tC x y z = T ∧ (Try.prog.info? 66).map (·.size) = some F.length) := ⟨hp, hx, hy, hz, hF, hT, by
    rw [← hF, Try.sizeFd]
    have := (dg_ok hp.2).1.2
    simp [fdC, this]⟩
  have HP0 : Hid (0 < p) := by have := hp.1; show _ < _; omega
  obtain ⟨k, hk⟩ : ∃ k, (val K).toNat = k := ⟨_, rfl⟩
  have HC : Hid (C.Ok ∧ C.a + 3 = 0 ∧ C.On P ∧ Gl.Rq (x, y, z) P) := ⟨hc, ha, hP, hr⟩
  have HK : Hid (Sl .u32 w v K ∧ U32s K ∧ K.length ≤ 64 ∧ (val K).toNat = k) := ⟨hK, uK, lK, hk⟩
  obtain ⟨n, hn⟩ : ∃ n, bitLen k = n := ⟨_, rfl⟩
  have HB : Hid (∀ W, Below w.heap.size w W → Calls Try.prog 66 #[v] W fun e w' => e = .returned (.int .i64 n) ∧ Below W.heap.size W w') := fun W h => by
    have := Nt.RBits_any v K (below_sl h hK) uK (by omega) (val K) rfl
    rw [hk, hn] at this
    exact this
  have HN : Hid (k < 2 ^ n ∧ n ≤ 32 * K.length) := ⟨by rw [← hn]; exact (bitLen_spec k).1, by
    rw [← hn, ← hk]
    have h1 := val_lt uK
    have h0 := val_nonneg uK
    have h2 : ((val K).toNat : Int) < ((4294967296 ^ K.length : Nat) : Int) := by rw [Int.toNat_of_nonneg h0, Int.natCast_pow]; exact h1
    have := bitp (Int.ofNat_lt.1 h2)
    omega⟩
  have n2048 : n ≤ 2048 := by have := HN.out.2; omega
  rw [hk]
  obtain ⟨va, vc, hv, _⟩ := hK.len
  obtain ⟨vn, hvn⟩ : ∃ n, K.length = n := ⟨_, rfl⟩
  rw [hvn] at hv
  have HV : Hid (K.length = vn) := hvn
  subst hv
  clear hc ha hp hK uK lK hx hy hz hP hr hF hT hk hn hvn
  go_enter Try.func40, Try.ntmps40
  go_upto_region 2 with (first | (refine wpList_boxR rfl 66 (.tmp 0) rfl F.toArray rfl ?_) | (refine wpList_boxR rfl 70 (.tmp 2) rfl T.toArray rfl ?_))
  refine wp_gen (fun W => Below w.heap.size w W ∧ Blk 66 W w.heap.size F ∧ Blk 70 W (w.heap.size + 1) (tC x y z) ∧ Blk 70 W (w.heap.size + 1 + 1) (z13 ++ (z13 ++ z13)) ∧ Blk 70 W (w.heap.size + 1 + 1 + 1) (tC 0 0 0)) ?_ ?_
  · rw [tC0, HA.out.2.2.2.2.2.1]
    have x2 := Blk.new 70 (w.alloc (.cells F.toArray 66)) T
    have x3 := Blk.new 70 ((w.alloc (.cells F.toArray 66)).alloc (.cells T.toArray 70)) (z13 ++ (z13 ++ z13))
    have x4 := Blk.new 70 (((w.alloc (.cells F.toArray 66)).alloc (.cells T.toArray 70)).alloc (.cells ((z13 ++ (z13 ++ z13)) : List Value).toArray 70)) (z13 ++ (z13 ++ z13))
    rw [World.size_alloc] at x2
    rw [World.size_alloc, World.size_alloc] at x3
    rw [World.size_alloc, World.size_alloc, World.size_alloc] at x4
    exact ⟨below_via (below_via (below_via (al1 _) (al1 _) (Nat.le_refl _)) (al1 _) (Nat.le_refl _)) (al1 _) (Nat.le_refl _), below_blk (al1 _) (by simp only [World.size_alloc]; omega) (below_blk (al1 _) (by simp only [World.size_alloc]; omega) (below_blk (al1 _) (by simp only [World.size_alloc]; omega) (Blk.new _ _ _))), below_blk (al1 _) (by simp only [World.size_alloc]; omega) (below_blk (al1 _) (by simp only [World.size_alloc]; omega) x2), below_blk (al1 _) (by simp only [World.size_alloc]; omega) x3, x4⟩
  rintro W1 hW
  have M1 : Hid (Below w.heap.size w W1 ∧ Blk 66 W1 w.heap.size F ∧ Blk 70 W1 (w.heap.size + 1) (tC x y z) ∧ Blk 70 W1 (w.heap.size + 1 + 1) (z13 ++ (z13 ++ z13)) ∧ Blk 70 W1 (w.heap.size + 1 + 1 + 1) (tC 0 0 0)) := hW
  clear hW
  go_wp2_with fail
  refine (HB.out _ M1.out.1).mono ?_
  rintro e w2 ⟨rfl, hb⟩
  have M2 : Hid (Below w.heap.size w w2 ∧ Blk 66 w2 w.heap.size F ∧ Blk 70 w2 (w.heap.size + 1) (tC x y z) ∧ Blk 70 w2 (w.heap.size + 1 + 1) (z13 ++ (z13 ++ z13)) ∧ Blk 70 w2 (w.heap.size + 1 + 1 + 1) (tC 0 0 0)) := ⟨below_via M1.out.1 hb (Nat.le_refl _), below_blk hb M1.out.2.1.lt M1.out.2.1, below_blk hb M1.out.2.2.1.lt M1.out.2.2.1, below_blk hb M1.out.2.2.2.1.lt M1.out.2.2.2.1, below_blk hb M1.out.2.2.2.2.lt M1.out.2.2.2.2⟩
  clear hb M1 HB
  go_wp2
  go_loopw [8] (fun i wr => ∃ j X Y Z : Nat, i = .int .i64 ((j : Int) - 1) ∧ j ≤ n ∧ Hid ((X < p ∧ Y < p ∧ Z < p) ∧ Gl.Rq (X, Y, Z) (C.mul (k / 2 ^ j) P)) ∧ Hid (Below w.heap.size w wr ∧ Blk 66 wr w.heap.size F ∧ Blk 70 wr (w.heap.size + 1) (tC x y z) ∧ Blk 70 wr (w.heap.size + 1 + 1) (z13 ++ (z13 ++ z13)) ∧ Blk 70 wr (w.heap.size + 1 + 1 + 1) (tC X Y Z))) (fun i _ => (intOf i + 1).toNat)
  case atStart =>
    refine ⟨n, 0, 0, 0, by go_num, Nat.le_refl _, ⟨⟨HP0.out, HP0.out, HP0.out⟩, ?_⟩, M2⟩
    rw [Nat.div_eq_of_lt HN.out.1]
    rfl
  case round =>
    clear M2
    obtain ⟨j, X, Y, Z, rfl, hj, HX, HW⟩ := hrel
    match j, hj, HX with
    | 0, hj, HX =>
      have Hth : Hid (wr.there (w.heap.size + 1 + 1) 0 (tC X Y Z).toArray.size) := HW.out.2.2.2.1.there 0 _ (by rw [List.size_toArray, tC_len HA.out.1 HX.out.1.1 HX.out.1.2.1 HX.out.1.2.2]; decide)
      go_wp2_with (first | (refine wpList_load_mid rfl 66 (.tmp 3) rfl w.heap.size 0 rfl F _ HW.out.2.1.whole Try.underlying66 rfl HA.out.2.2.2.2.2.2 ?_) | (refine wpList_load_mid rfl 70 (.tmp 7) rfl (w.heap.size + 1 + 1 + 1) 0 rfl (tC X Y Z) _ HW.out.2.2.2.2.whole Try.underlying70 rfl (szTl HA.out.1 HX.out.1.1 HX.out.1.2.1 HX.out.1.2.2) ?_) | (refine wpList_load_mid rfl 70 (.tmp 5) rfl (w.heap.size + 1) 0 rfl (tC x y z) _ HW.out.2.2.1.whole Try.underlying70 rfl (szTl HA.out.1 HA.out.2.1 HA.out.2.2.1 HA.out.2.2.2.1) ?_) | (refine wpList_store_mid rfl _ _ _ rfl (w.heap.size + 1 + 1) 0 (tC X Y Z).toArray rfl rfl Hth.out (szT HA.out.1 HX.out.1.1 HX.out.1.2.1 HX.out.1.2.2) (tC_one _ _ _) ?_))
      have hU : Upd wr (wr.setCells (w.heap.size + 1 + 1) 0 (tC X Y Z)) (w.heap.size + 1 + 1) := Upd.setCells _ 0 wr
      have hF := HW.out.2.2.2.1.fill (tC X Y Z) (by rw [tC_len HA.out.1 HX.out.1.1 HX.out.1.2.1 HX.out.1.2.2]; rfl)
      refine bodyPost_ret (v := .agg (tC X Y Z).toArray) (results_blk (b := (w.heap.size + 1 + 1)) rfl rfl hF Try.underlying70 rfl (szT HA.out.1 HX.out.1.1 HX.out.1.2.1 HX.out.1.2.2)) rfl ⟨X, Y, Z, rfl, HX.out.1, ?_, hU.below HW.out.1 HW.out.1.size (by omega)⟩
      have := HX.out.2
      rw [Nat.pow_zero, Nat.div_one] at this
      exact this
    | i + 1, hj, HX =>
      have ei : ((i + 1 : Nat) : Int) - 1 = (i : Int) := by omega
      rw [ei]
      clear ei
      go_wp2_with (first | (refine wpList_load_mid rfl 66 (.tmp 3) rfl w.heap.size 0 rfl F _ HW.out.2.1.whole Try.underlying66 rfl HA.out.2.2.2.2.2.2 ?_) | (refine wpList_load_mid rfl 70 (.tmp 7) rfl (w.heap.size + 1 + 1 + 1) 0 rfl (tC X Y Z) _ HW.out.2.2.2.2.whole Try.underlying70 rfl (szTl HA.out.1 HX.out.1.1 HX.out.1.2.1 HX.out.1.2.2) ?_) | (refine wpList_load_mid rfl 70 (.tmp 5) rfl (w.heap.size + 1) 0 rfl (tC x y z) _ HW.out.2.2.1.whole Try.underlying70 rfl (szTl HA.out.1 HA.out.2.1 HA.out.2.2.1 HA.out.2.2.2.1) ?_))
      refine (twiceF HA.out.2.2.2.2.1 HA.out.1 HX.out.1.1 HX.out.1.2.1 HX.out.1.2.2).mono ?_
      rintro e w3 ⟨rfl, hb⟩
      have l3 := rtw_lt (p := p) (x := X) (y := Y) (z := Z) HP0.out
      have r3 := Gl.rtw_rq HC.out.1 HC.out.2.1 HX.out.1.2.1 HX.out.1.2.2 (Gl.mul_on HC.out.1 HC.out.2.2.1 (k / 2 ^ (i + 1))) HX.out.2
      rw [← Gl.mul_add HC.out.1 HC.out.2.2.1] at r3
      obtain ⟨⟨X3, Y3, Z3⟩, h3⟩ : ∃ t, rtw p X Y Z = t := ⟨_, rfl⟩
      rw [h3] at l3 r3
      rw [h3]
      have HX3 : Hid ((X3 < p ∧ Y3 < p ∧ Z3 < p) ∧ Gl.Rq (X3, Y3, Z3) (C.mul (k / 2 ^ (i + 1) + k / 2 ^ (i + 1)) P)) := ⟨l3, r3⟩
      have M3 : Hid (Below w.heap.size w w3 ∧ Blk 66 w3 w.heap.size F ∧ Blk 70 w3 (w.heap.size + 1) (tC x y z) ∧ Blk 70 w3 (w.heap.size + 1 + 1) (z13 ++ (z13 ++ z13)) ∧ Blk 70 w3 (w.heap.size + 1 + 1 + 1) (tC X Y Z)) := ⟨below_via HW.out.1 hb (Nat.le_refl _), below_blk hb HW.out.2.1.lt HW.out.2.1, below_blk hb HW.out.2.2.1.lt HW.out.2.2.1, below_blk hb HW.out.2.2.2.1.lt HW.out.2.2.2.1, below_blk hb HW.out.2.2.2.2.lt HW.out.2.2.2.2⟩
      have Hth : Hid (w3.there (w.heap.size + 1 + 1 + 1) 0 (tC X3 Y3 Z3).toArray.size) := M3.out.2.2.2.2.there 0 _ (by rw [List.size_toArray, tC_len HA.out.1 l3.1 l3.2.1 l3.2.2, tC_len HA.out.1 HX.out.1.1 HX.out.1.2.1 HX.out.1.2.2]; decide)
      clear hb l3 r3 h3
      go_upto_region 6 with (refine wpList_store_mid rfl _ _ _ rfl (w.heap.size + 1 + 1 + 1) 0 (tC X3 Y3 Z3).toArray rfl rfl Hth.out (szT HA.out.1 HX3.out.1.1 HX3.out.1.2.1 HX3.out.1.2.2) (tC_one _ _ _) ?_)
      refine wp_gen (fun W => Below w.heap.size w W ∧ Blk 66 W w.heap.size F ∧ Blk 70 W (w.heap.size + 1) (tC x y z) ∧ Blk 70 W (w.heap.size + 1 + 1) (z13 ++ (z13 ++ z13)) ∧ Blk 70 W (w.heap.size + 1 + 1 + 1) (tC X3 Y3 Z3)) ?_ ?_
      · have hU : Upd w3 (w3.setCells (w.heap.size + 1 + 1 + 1) 0 (tC X3 Y3 Z3)) (w.heap.size + 1 + 1 + 1) := Upd.setCells _ 0 w3
        exact ⟨hU.below M3.out.1 M3.out.1.size (by omega), hU.blk M3.out.2.1 (by omega), hU.blk M3.out.2.2.1 (by omega), hU.blk M3.out.2.2.2.1 (by omega), M3.out.2.2.2.2.fill (tC X3 Y3 Z3) (by rw [tC_len HA.out.1 HX3.out.1.1 HX3.out.1.2.1 HX3.out.1.2.2, tC_len HA.out.1 HX.out.1.1 HX.out.1.2.1 HX.out.1.2.2])⟩
      rintro W4 hW
      have M4 : Hid (Below w.heap.size w W4 ∧ Blk 66 W4 w.heap.size F ∧ Blk 70 W4 (w.heap.size + 1) (tC x y z) ∧ Blk 70 W4 (w.heap.size + 1 + 1) (z13 ++ (z13 ++ z13)) ∧ Blk 70 W4 (w.heap.size + 1 + 1 + 1) (tC X3 Y3 Z3)) := hW
      clear hW M3 Hth HW HX
      obtain ⟨u, hu⟩ : ∃ u, K.getD (i / 32) 0 = u := ⟨_, rfl⟩
      have uu : U32 u := hu ▸ HK.out.2.1.at _
      obtain ⟨u1, u2⟩ := uu
      obtain ⟨m, hm⟩ : ∃ m, i / 32 = m := ⟨_, rfl⟩
      obtain ⟨s, hs⟩ : ∃ s, i % 32 = s := ⟨_, rfl⟩
      obtain ⟨q, hq⟩ : ∃ q, u / 2 ^ s % 2 = q := ⟨_, rfl⟩
      have HE : Hid (((k / 2 ^ i % 2 : Nat) : Int) = q) := by
        show _ = _
        rw [← HK.out.2.2.2, ← Nt.bit_eq, Nt.getD_div K _ HK.out.2.1, hu, hs, ← hq]
        obtain ⟨nn, rfl⟩ := Int.eq_ofNat_of_zero_le u1
        simp
      have hmi : (i : Int) / 32 = m := by omega
      have hsi : (i : Int) % 32 = s := by omega
      have hs32 : s < 32 := by omega
      have hm0 : m < 1073741824 := by omega
      have hp2 : 0 < (2 : Int) ^ s := Int.pow_pos (by decide)
      have hd0 : 0 ≤ u / 2 ^ s := Int.ediv_nonneg u1 (Int.le_of_lt hp2)
      have hd1 : u / 2 ^ s < 4294967296 := Int.lt_of_le_of_lt (Int.ediv_le_self _ u1) u2
      have hand := Nt.and1 (u / 2 ^ s) hd0 hd1
      rw [hq] at hand
      have hq01 : q = 0 ∨ q = 1 := by omega
      have hmK : m < vn := by have h1 := HN.out.2; have h2 := HV.out; omega
      obtain ⟨b, off, hva, hcell⟩ : ∃ b off, va = some ⟨b, off, none⟩ ∧ W4.cell? ⟨b, off + m, none⟩ = some (.int .u32 u) := by
        obtain ⟨a', c', h1, _, h2⟩ := HK.out.1
        simp only [Value.slice.injEq] at h1
        obtain ⟨h1, _, _⟩ := h1
        rcases h2 with h2 | ⟨b, off, h2, hb, hr⟩
        · exfalso
          have := HV.out
          rw [h2] at this
          simp at this
          omega
        · have := (below_rd M4.out.1 hb hr) m (by have := HV.out; omega)
          rw [← hm, hu] at this
          rw [← hm]
          exact ⟨b, off, h1.trans h2, this⟩
      subst hva
      clear hu hm hs hq hd0 hd1 hp2
      rcases hq01 with rfl | rfl
      · go_wp2_with fail
        go_roundw
        case rel =>
          refine ⟨i, X3, Y3, Z3, by go_num, by omega, ⟨HX3.out.1, ?_⟩, M4⟩
          have e := half_step k i
          have e0 : k / 2 ^ i % 2 = 0 := by have := HE.out; omega
          rw [e, e0]
          exact HX3.out.2
        case measure => simp [intOf]
      · go_wp2_with (first | (refine wpList_load_mid rfl 66 (.tmp 3) rfl w.heap.size 0 rfl F _ M4.out.2.1.whole Try.underlying66 rfl HA.out.2.2.2.2.2.2 ?_) | (refine wpList_load_mid rfl 70 (.tmp 7) rfl (w.heap.size + 1 + 1 + 1) 0 rfl (tC X3 Y3 Z3) _ M4.out.2.2.2.2.whole Try.underlying70 rfl (szTl HA.out.1 HX3.out.1.1 HX3.out.1.2.1 HX3.out.1.2.2) ?_) | (refine wpList_load_mid rfl 70 (.tmp 5) rfl (w.heap.size + 1) 0 rfl (tC x y z) _ M4.out.2.2.1.whole Try.underlying70 rfl (szTl HA.out.1 HA.out.2.1 HA.out.2.2.1 HA.out.2.2.2.1) ?_))
        refine (sumF HA.out.2.2.2.2.1 HA.out.1 HX3.out.1.1 HX3.out.1.2.1 HX3.out.1.2.2 HA.out.2.1 HA.out.2.2.1 HA.out.2.2.2.1).mono ?_
        rintro e w5 ⟨rfl, hb⟩
        have l5 := rsm_lt (p := p) HP0.out HX3.out.1.1 HX3.out.1.2.1 HX3.out.1.2.2 HA.out.2.1 HA.out.2.2.1 HA.out.2.2.2.1
        have r5 := Gl.rsm_rq HC.out.1 HC.out.2.1 HX3.out.1.2.1 HX3.out.1.2.2 HA.out.2.2.2.1 (Gl.mul_on HC.out.1 HC.out.2.2.1 _) HC.out.2.2.1 HX3.out.2 HC.out.2.2.2
        have em : C.add (C.mul (k / 2 ^ (i + 1) + k / 2 ^ (i + 1)) P) P = C.mul (k / 2 ^ i) P := by
          have e := half_step k i
          have e0 : k / 2 ^ i % 2 = 1 := by have := HE.out; omega
          rw [e0] at e
          rw [e, Gl.mul_add HC.out.1 HC.out.2.2.1 _ 1]
          rfl
        rw [em] at r5
        obtain ⟨⟨X5, Y5, Z5⟩, h5⟩ : ∃ t, rsm p X3 Y3 Z3 x y z = t := ⟨_, rfl⟩
        rw [h5] at l5 r5
        rw [h5]
        have HX5 : Hid ((X5 < p ∧ Y5 < p ∧ Z5 < p) ∧ Gl.Rq (X5, Y5, Z5) (C.mul (k / 2 ^ i) P)) := ⟨l5, r5⟩
        have M5 : Hid (Below w.heap.size w w5 ∧ Blk 66 w5 w.heap.size F ∧ Blk 70 w5 (w.heap.size + 1) (tC x y z) ∧ Blk 70 w5 (w.heap.size + 1 + 1) (z13 ++ (z13 ++ z13)) ∧ Blk 70 w5 (w.heap.size + 1 + 1 + 1) (tC X3 Y3 Z3)) := ⟨below_via M4.out.1 hb (Nat.le_refl _), below_blk hb M4.out.2.1.lt M4.out.2.1, below_blk hb M4.out.2.2.1.lt M4.out.2.2.1, below_blk hb M4.out.2.2.2.1.lt M4.out.2.2.2.1, below_blk hb M4.out.2.2.2.2.lt M4.out.2.2.2.2⟩
        have Hth : Hid (w5.there (w.heap.size + 1 + 1 + 1) 0 (tC X5 Y5 Z5).toArray.size) := M5.out.2.2.2.2.there 0 _ (by rw [List.size_toArray, tC_len HA.out.1 l5.1 l5.2.1 l5.2.2, tC_len HA.out.1 HX3.out.1.1 HX3.out.1.2.1 HX3.out.1.2.2]; decide)
        clear hb l5 r5 h5 em hcell
        go_wp2_with (refine wpList_store_mid rfl _ _ _ rfl (w.heap.size + 1 + 1 + 1) 0 (tC X5 Y5 Z5).toArray rfl rfl Hth.out (szT HA.out.1 HX5.out.1.1 HX5.out.1.2.1 HX5.out.1.2.2) (tC_one _ _ _) ?_)
        go_roundw
        case rel =>
          have hU : Upd w5 (w5.setCells (w.heap.size + 1 + 1 + 1) 0 (tC X5 Y5 Z5)) (w.heap.size + 1 + 1 + 1) := Upd.setCells _ 0 w5
          exact ⟨i, X5, Y5, Z5, by go_num, by omega, HX5, hU.below M5.out.1 M5.out.1.size (by omega), hU.blk M5.out.2.1 (by omega), hU.blk M5.out.2.2.1 (by omega), hU.blk M5.out.2.2.2.1 (by omega), M5.out.2.2.2.2.fill (tC X5 Y5 Z5) (by rw [tC_len HA.out.1 HX5.out.1.1 HX5.out.1.2.1 HX5.out.1.2.2, tC_len HA.out.1 HX3.out.1.1 HX3.out.1.2.1 HX3.out.1.2.2])⟩
        case measure => simp [intOf]
end Go.Proofs.Ytkdclocjijmgpaa
/-
  Primes: Fermat, Pocklington (pure).
-/
namespace Go.Proofs.Ytkdclocjijmgpaa.Pm
/-- A prime number. -/
def Pr (p : Nat) : Prop := 2 ≤ p ∧ ∀ m, m ∣ p → m = 1 ∨ m = p
theorem Pr.cop {p k : Nat} (hp : Pr p) (h : ¬ p ∣ k) : Nat.Coprime p k := by
  rcases hp.2 _ (Nat.gcd_dvd_left p k) with h1 | h1
  · exact h1
  · exact absurd (h1 ▸ Nat.gcd_dvd_right p k) h
theorem Pr.mul {p a b : Nat} (hp : Pr p) (h : p ∣ a * b) : p ∣ a ∨ p ∣ b := by
  by_cases ha : p ∣ a
  · exact .inl ha
  · exact .inr ((hp.cop ha).dvd_of_dvd_mul_left h)
/-- Every number above 1 has a prime divisor. -/
theorem hasPr (n : Nat) (h : 2 ≤ n) : ∃ p, Pr p ∧ p ∣ n := by
  induction n using Nat.strongRecOn with
  | ind n ih =>
    by_cases hp : Pr n
    · exact ⟨n, hp, Nat.dvd_refl n⟩
    · have : ∃ m, m ∣ n ∧ m ≠ 1 ∧ m ≠ n := by
        refine Classical.byContradiction fun hc => hp ⟨h, fun m hm => ?_⟩
        by_cases h1 : m = 1
        · exact .inl h1
        · by_cases h2 : m = n
          · exact .inr h2
          · exact absurd ⟨m, hm, h1, h2⟩ hc
      obtain ⟨m, hm, h1, h2⟩ := this
      have hle := Nat.le_of_dvd (by omega) hm
      have h0 : m ≠ 0 := by rintro rfl; have := Nat.eq_zero_of_zero_dvd hm; omega
      obtain ⟨p, hp, hd⟩ := ih m (by omega) (by omega)
      exact ⟨p, hp, Nat.dvd_trans hd hm⟩
/-- Binomials. -/
def C : Nat → Nat → Nat
  | _, 0 => 1
  | 0, _ + 1 => 0
  | n + 1, k + 1 => C n k + C n (k + 1)
theorem C_zero (n : Nat) : C n 0 = 1 := by cases n <;> rfl
theorem C_succ (n k : Nat) : C (n + 1) (k + 1) = C n k + C n (k + 1) := rfl
theorem C_big (n k : Nat) (h : n < k) : C n k = 0 := by
  induction n generalizing k with
  | zero => obtain ⟨k, rfl⟩ : ∃ j, k = j + 1 := ⟨k - 1, by omega⟩; rfl
  | succ n ih => obtain ⟨k, rfl⟩ : ∃ j, k = j + 1 := ⟨k - 1, by omega⟩; rw [C_succ, ih k (by omega), ih (k + 1) (by omega)]
theorem C_self (n : Nat) : C n n = 1 := by
  induction n with
  | zero => rfl
  | succ n ih => rw [C_succ, ih, C_big n (n + 1) (by omega)]
theorem C_abs (n k : Nat) : (k + 1) * C (n + 1) (k + 1) = (n + 1) * C n k := by
  induction n generalizing k with
  | zero => cases k with
    | zero => rfl
    | succ k => rw [C_big _ _ (by omega), C_big _ _ (by omega)]; simp
  | succ n ih =>
    cases k with
    | zero =>
      have h := ih 0
      rw [C_zero] at h
      rw [C_succ, C_zero, Nat.mul_add, h]
      omega
    | succ k =>
      have h1 := ih k
      have h2 := ih (k + 1)
      rw [C_succ (n + 1) (k + 1), C_succ n k]
      rw [C_succ n k] at h1
      rw [Nat.mul_add, h2]
      have e : (k + 1 + 1) * (C n k + C n (k + 1)) = (k + 1) * (C n k + C n (k + 1)) + (C n k + C n (k + 1)) := by rw [Nat.succ_mul]
      rw [e, h1]
      simp only [Nat.mul_add, Nat.add_mul]
      omega
theorem C_prime {p k : Nat} (hp : Pr p) (h0 : 0 < k) (h1 : k < p) : p ∣ C p k := by
  obtain ⟨k, rfl⟩ : ∃ j, k = j + 1 := ⟨k - 1, by omega⟩
  obtain ⟨n, rfl⟩ : ∃ j, p = j + 1 := ⟨p - 1, by omega⟩
  have h := C_abs n k
  have hd : n + 1 ∣ (k + 1) * C (n + 1) (k + 1) := ⟨_, h⟩
  rcases hp.mul hd with h | h
  · exact absurd (Nat.le_of_dvd (by omega) h) (by omega)
  · exact h
/-- The terms below j of (a + 1) ^ n. -/
def Sm (n a : Nat) : Nat → Nat
  | 0 => 0
  | j + 1 => Sm n a j + C n j * a ^ j
theorem Sm_succ (n a j : Nat) : Sm (n + 1) a (j + 1) = a * Sm n a j + Sm n a (j + 1) := by
  induction j with
  | zero => simp [Sm, C_zero]
  | succ j ih =>
    have e : Sm (n + 1) a (j + 2) = Sm (n + 1) a (j + 1) + C (n + 1) (j + 1) * a ^ (j + 1) := rfl
    have e2 : Sm n a (j + 2) = Sm n a (j + 1) + C n (j + 1) * a ^ (j + 1) := rfl
    have e3 : Sm n a (j + 1) = Sm n a j + C n j * a ^ j := rfl
    have e4 : a * Sm n a (j + 1) = a * Sm n a j + a * (C n j * a ^ j) := by rw [e3, Nat.mul_add]
    have e5 : a * (C n j * a ^ j) = C n j * a ^ (j + 1) := by rw [Nat.pow_succ, Nat.mul_comm a, Nat.mul_assoc]
    rw [e, ih, e2, e4, e5, C_succ, Nat.add_mul]
    omega
theorem binom (n a : Nat) : (a + 1) ^ n = Sm n a (n + 1) := by
  induction n with
  | zero => simp [Sm, C]
  | succ n ih =>
    have e : Sm n a (n + 2) = Sm n a (n + 1) := by
      show Sm n a (n + 1) + C n (n + 1) * a ^ (n + 1) = _
      rw [C_big n (n + 1) (by omega)]; simp
    rw [Sm_succ, e, ← ih, Nat.pow_succ, Nat.mul_add, Nat.mul_one, Nat.mul_comm]
theorem Sm_mod {p : Nat} (hp : Pr p) (a j : Nat) (h0 : 0 < j) (h : j ≤ p) : Sm p a j % p = 1 % p := by
  induction j with
  | zero => omega
  | succ j ih =>
    by_cases hj : j = 0
    · subst hj; simp [Sm, C_zero]
    · show (Sm p a j + C p j * a ^ j) % p = _
      have hd : p ∣ C p j * a ^ j := Nat.dvd_trans (C_prime hp (by omega) (by omega)) (Nat.dvd_mul_right _ _)
      rw [Nat.add_mod, Nat.mod_eq_zero_of_dvd hd, Nat.add_zero, Nat.mod_mod, ih (by omega) (by omega)]
theorem dvd_of_mod {a b n : Nat} (h : a % n = b % n) : n ∣ a - b := Nat.dvd_of_mod_eq_zero (Nat.sub_mod_eq_zero_of_mod_eq h)
theorem mod_of_dvd {a b n : Nat} (hb : b ≤ a) (h : n ∣ a - b) : a % n = b % n := by
  obtain ⟨c, hc⟩ := h
  have : a = b + n * c := by omega
  rw [this, Nat.add_mul_mod_self_left]
/-- Fermat's little theorem. -/
theorem fermat {p : Nat} (hp : Pr p) (a : Nat) : a ^ p % p = a % p := by
  induction a with
  | zero => have := hp.1; rw [Nat.zero_pow (by omega)]
  | succ a ih =>
    rw [binom]
    show (Sm p a p + C p p * a ^ p) % p = _
    rw [C_self, Nat.one_mul, Nat.add_mod, Sm_mod hp a p (by have := hp.1; omega) (Nat.le_refl _), ih, ← Nat.add_mod, Nat.add_comm]
theorem fermat1 {p : Nat} (hp : Pr p) (a : Nat) (ha : ¬ p ∣ a) : a ^ (p - 1) % p = 1 % p := by
  have h := fermat hp a
  obtain ⟨n, rfl⟩ : ∃ j, p = j + 1 := ⟨p - 1, by have := hp.1; omega⟩
  show a ^ n % (n + 1) = _
  have hc := hp.cop ha
  by_cases h1 : 1 ≤ a ^ n
  · have hd : n + 1 ∣ a * (a ^ n - 1) := by
      have e : a * (a ^ n - 1) = a ^ (n + 1) - a := by rw [Nat.mul_sub, Nat.mul_one, Nat.pow_succ, Nat.mul_comm]
      rw [e]
      exact dvd_of_mod h
    have := hc.dvd_of_dvd_mul_left hd
    exact mod_of_dvd h1 this
  · have : a ^ n = 0 := by omega
    have ha0 : a = 0 := by
      by_cases h0 : a = 0
      · exact h0
      · have := Nat.pow_pos (n := n) (Nat.pos_of_ne_zero h0); omega
    subst ha0
    exact absurd (Nat.dvd_zero _) ha
/-- a ^ k leaves 1. -/
def U1 (r a k : Nat) : Prop := a ^ k % r = 1 % r
theorem U1.add {r a k l : Nat} (h : U1 r a k) (g : U1 r a l) : U1 r a (k + l) := by
  unfold U1 at *
  rw [Nat.pow_add, Nat.mul_mod, h, g, ← Nat.mul_mod]
theorem U1.mul {r a k : Nat} (h : U1 r a k) (m : Nat) : U1 r a (k * m) := by
  induction m with
  | zero => unfold U1; simp
  | succ m ih => rw [Nat.mul_succ]; exact ih.add h
theorem U1.sub {r a k l : Nat} (h : U1 r a (k + l)) (g : U1 r a k) : U1 r a l := by
  unfold U1 at *
  rw [Nat.pow_add, Nat.mul_mod, g, ← Nat.mul_mod, Nat.one_mul] at h
  exact h
/-- The least exponent divides every one. -/
theorem ord_dvd {r a t k : Nat} (h0 : 0 < t) (ht : U1 r a t) (hm : ∀ j, 0 < j → j < t → ¬ U1 r a j) (hk : U1 r a k) : t ∣ k := by
  have h := Nat.div_add_mod k t
  rw [← h] at hk
  have := hk.sub (ht.mul _)
  by_cases hz : k % t = 0
  · exact Nat.dvd_of_mod_eq_zero hz
  · exact absurd this (hm _ (by omega) (Nat.mod_lt _ h0))
theorem least {P : Nat → Prop} (n : Nat) (h : P n) : ∃ t, P t ∧ ∀ j, j < t → ¬ P j := by
  induction n using Nat.strongRecOn with
  | ind n ih =>
    by_cases hc : ∃ j, j < n ∧ P j
    · obtain ⟨j, hj, hp⟩ := hc; exact ih j hj hp
    · exact ⟨n, h, fun j hj hp => hc ⟨j, hj, hp⟩⟩
theorem Pr.copow {q s : Nat} (hq : Pr q) (h : ¬ q ∣ s) (e : Nat) : Nat.Coprime (q ^ e) s := Nat.Coprime.pow_left e (hq.cop h)
theorem pow_in {t n q e : Nat} (hq : Pr q) (htn : t ∣ n) (hne : ¬ t ∣ n / q) (he : q ^ e ∣ n) : q ^ e ∣ t := by
  obtain ⟨s, rfl⟩ := htn
  have hs : ¬ q ∣ s := by
    rintro ⟨c, rfl⟩
    apply hne
    refine ⟨c, ?_⟩
    rw [Nat.mul_left_comm, Nat.mul_div_cancel_left _ (by have := hq.1; omega)]
  exact (hq.copow hs e).dvd_of_dvd_mul_right he
/-- Pocklington: what a witness says of each prime divisor. -/
theorem pock1 {N r a q e : Nat} (hr : Pr r) (hrN : r ∣ N) (hN : 2 ≤ N) (hq : Pr q) (he : q ^ e ∣ N - 1) (h1 : a ^ (N - 1) % N = 1 % N) (h2 : Nat.gcd (a ^ ((N - 1) / q) - 1) N = 1) : q ^ e ∣ r - 1 := by
  have hmod : ∀ k, a ^ k % N = 1 % N → U1 r a k := by
    intro k hk
    unfold U1
    rw [← Nat.mod_mod_of_dvd _ hrN, hk, Nat.mod_mod_of_dvd _ hrN]
  have hu := hmod _ h1
  have hna : ¬ r ∣ a := by
    intro hd
    unfold U1 at hu
    have h0 : a ^ (N - 1) % r = 0 := Nat.mod_eq_zero_of_dvd (Nat.dvd_trans hd (by
      obtain ⟨k, hk⟩ : ∃ k, N - 1 = k + 1 := ⟨N - 2, by omega⟩
      rw [hk, Nat.pow_succ]; exact Nat.dvd_mul_left _ _))
    rw [h0, Nat.mod_eq_of_lt (by have := hr.1; omega)] at hu
    omega
  have hf : U1 r a (r - 1) := fermat1 hr a hna
  obtain ⟨t, ⟨ht0, ht⟩, hl⟩ := least (P := fun t => 0 < t ∧ U1 r a t) (r - 1) ⟨by have := hr.1; omega, hf⟩
  have hm : ∀ j, 0 < j → j < t → ¬ U1 r a j := fun j h0 hj hu => hl j hj ⟨h0, hu⟩
  have d1 := ord_dvd ht0 ht hm hu
  have d2 := ord_dvd ht0 ht hm hf
  have hne : ¬ t ∣ (N - 1) / q := by
    rintro ⟨c, hc⟩
    have hU : U1 r a ((N - 1) / q) := by rw [hc]; exact ht.mul c
    have hd : r ∣ a ^ ((N - 1) / q) - 1 := dvd_of_mod hU
    have := Nat.dvd_gcd hd hrN
    rw [h2] at this
    have := Nat.le_of_dvd (by omega) this
    have := hr.1
    omega
  exact Nat.dvd_trans (pow_in hq d1 hne he) d2
/-- Where each prime divisor leaves 1 by F, each divisor does. -/
theorem all_one {N F : Nat} (hF : ∀ r, Pr r → r ∣ N → F ∣ r - 1) (m : Nat) (hm : m ∣ N) : F ∣ m - 1 := by
  induction m using Nat.strongRecOn with
  | ind m ih =>
    by_cases h2 : 2 ≤ m
    · obtain ⟨p, hp, hd⟩ := hasPr m h2
      obtain ⟨c, rfl⟩ := hd
      have hp2 := hp.1
      have hc0 : 0 < c := by
        rcases Nat.eq_zero_or_pos c with h | h
        · subst h; simp at h2
        · exact h
      have hlt : c < p * c := by
        have : 2 * c ≤ p * c := Nat.mul_le_mul_right c hp2
        omega
      obtain ⟨x, hx⟩ := ih c hlt (Nat.dvd_trans (Nat.dvd_mul_left _ _) hm)
      obtain ⟨y, hy⟩ := hF p hp (Nat.dvd_trans (Nat.dvd_mul_right _ _) hm)
      have e1 : c = F * x + 1 := by omega
      have e2 : p = F * y + 1 := by omega
      refine ⟨y * c + x, ?_⟩
      rw [e2, Nat.add_mul, Nat.one_mul, Nat.mul_add, Nat.mul_assoc]
      omega
    · have : m - 1 = 0 := by omega
      rw [this]; exact Nat.dvd_zero _
theorem two_of_not {N : Nat} (hN : 2 ≤ N) (h : ¬ Pr N) : ∃ m k, N = m * k ∧ 2 ≤ m ∧ 2 ≤ k := by
  refine Classical.byContradiction fun hc => h ⟨hN, fun m hm => ?_⟩
  obtain ⟨k, rfl⟩ := hm
  by_cases h1 : m = 1
  · exact .inl h1
  · by_cases h2 : k = 1
    · right; rw [h2, Nat.mul_one]
    · exfalso
      apply hc
      refine ⟨m, k, rfl, ?_, ?_⟩
      · rcases Nat.eq_zero_or_pos m with h | h
        · subst h; simp at hN
        · omega
      · rcases Nat.eq_zero_or_pos k with h | h
        · subst h; simp at hN
        · omega
theorem pock2 {N F : Nat} (hN : 2 ≤ N) (hF : ∀ r, Pr r → r ∣ N → F ∣ r - 1) (h : N < (F + 1) * (F + 1)) : Pr N := by
  refine Classical.byContradiction fun hc => ?_
  obtain ⟨m, k, rfl, h1, h2⟩ := two_of_not hN hc
  have d1 := Nat.le_of_dvd (by omega) (all_one hF m (Nat.dvd_mul_right _ _))
  have d2 := Nat.le_of_dvd (by omega) (all_one hF k (Nat.dvd_mul_left _ _))
  exact absurd (Nat.mul_le_mul (show F + 1 ≤ m by omega) (show F + 1 ≤ k by omega)) (by omega)
/-- A third of the digits suffices. -/
theorem pock3 {N F c1 c2 s : Nat} (hN : 2 ≤ N) (hF : ∀ r, Pr r → r ∣ N → F ∣ r - 1) (h3 : N ≤ F * F * F) (hd : N = (c2 * F + c1) * F + 1) (hc : 0 < c1) (hcF : c1 < F) (hs : c1 * c1 < 4 * c2 ∨ (s * s + 4 * c2 < c1 * c1 ∧ c1 * c1 < (s + 1) * (s + 1) + 4 * c2)) : Pr N := by
  refine Classical.byContradiction fun hcn => ?_
  obtain ⟨m, k, hmk, h1, h2⟩ := two_of_not hN hcn
  obtain ⟨a, ha⟩ := all_one hF m (by rw [hmk]; exact Nat.dvd_mul_right _ _)
  obtain ⟨b, hb⟩ := all_one hF k (by rw [hmk]; exact Nat.dvd_mul_left _ _)
  have em : m = F * a + 1 := by omega
  have ek : k = F * b + 1 := by omega
  have a0 : 0 < a := by rcases Nat.eq_zero_or_pos a with h | h; (subst h; simp at em; omega); exact h
  have b0 : 0 < b := by rcases Nat.eq_zero_or_pos b with h | h; (subst h; simp at ek; omega); exact h
  have F0 : 0 < F := by omega
  have eN : N = (a * b * F + (a + b)) * F + 1 := by
    rw [hmk, em, ek]
    simp only [Nat.mul_add, Nat.add_mul, Nat.mul_one, Nat.one_mul]
    have : F * a * (F * b) = a * b * F * F := by simp only [Nat.mul_comm, Nat.mul_left_comm]
    rw [this, Nat.mul_comm a F, Nat.mul_comm b F]
    omega
  have e1 : c2 * F + c1 = a * b * F + (a + b) := by
    have : (c2 * F + c1) * F = (a * b * F + (a + b)) * F := by omega
    exact Nat.eq_of_mul_eq_mul_right F0 this
  have hab : a * b < F := by
    rcases Nat.lt_or_ge (a * b) F with h | h
    · exact h
    · have q1 : F * F * F ≤ a * b * F * F := by
        rw [Nat.mul_assoc (a * b), Nat.mul_assoc F]
        exact Nat.mul_le_mul_right _ h
      have q2 : (a * b * F + (a + b)) * F = a * b * F * F + (a + b) * F := Nat.add_mul _ _ _
      have q3 : 0 < (a + b) * F := Nat.mul_pos (by omega) F0
      omega
  have hle : a + b ≤ a * b + 1 := by
    obtain ⟨a', rfl⟩ : ∃ x, a = x + 1 := ⟨a - 1, by omega⟩
    obtain ⟨b', rfl⟩ : ∃ x, b = x + 1 := ⟨b - 1, by omega⟩
    have : (a' + 1) * (b' + 1) = a' * b' + a' + b' + 1 := by rw [Nat.add_mul, Nat.mul_add]; omega
    have := Nat.zero_le (a' * b')
    omega
  have hlt : a + b < F := by
    rcases Nat.lt_or_ge (a + b) F with h | h
    · exact h
    · exfalso
      have hE : a + b = F := by omega
      rw [hE] at e1
      have : (c2 * F + c1) % F = (a * b * F + F) % F := by rw [e1]
      rw [Nat.mul_comm c2, Nat.mul_add_mod, Nat.add_mod_right, Nat.mul_comm (a * b), Nat.mul_mod_right, Nat.mod_eq_of_lt hcF] at this
      omega
  have r1 : c1 = a + b := by
    have : (c2 * F + c1) % F = (a * b * F + (a + b)) % F := by rw [e1]
    rw [Nat.mul_comm c2, Nat.mul_comm (a * b), Nat.mul_add_mod, Nat.mul_add_mod, Nat.mod_eq_of_lt hcF, Nat.mod_eq_of_lt hlt] at this
    exact this
  have r2 : c2 = a * b := by
    rw [r1] at e1
    exact Nat.eq_of_mul_eq_mul_right F0 (by omega)
  rw [r1, r2] at hs
  have sq : ∀ x y : Nat, x ≤ y → (x + y) * (x + y) = (y - x) * (y - x) + 4 * (x * y) := by
    intro x y h
    obtain ⟨d, rfl⟩ : ∃ d, y = x + d := ⟨y - x, by omega⟩
    have : x + d - x = d := by omega
    rw [this]
    simp only [Nat.mul_add, Nat.add_mul, Nat.mul_comm d x]
    omega
  obtain ⟨d, hdd⟩ : ∃ d, (a + b) * (a + b) = d * d + 4 * (a * b) := by
    rcases Nat.le_total a b with h | h
    · exact ⟨_, sq a b h⟩
    · exact ⟨a - b, by rw [Nat.add_comm a b, Nat.mul_comm a b]; exact sq b a h⟩
  rw [hdd] at hs
  rcases hs with h | ⟨h, g⟩
  · omega
  · have u1 : s * s < d * d := by omega
    have u2 : d * d < (s + 1) * (s + 1) := by omega
    have v1 : s < d := by
      rcases Nat.lt_or_ge s d with h | h
      · exact h
      · exact absurd (Nat.mul_le_mul h h) (by omega)
    have v2 : d < s + 1 := by
      rcases Nat.lt_or_ge d (s + 1) with h | h
      · exact h
      · exact absurd (Nat.mul_le_mul h h) (by omega)
    omega
end Go.Proofs.Ytkdclocjijmgpaa.Pm
