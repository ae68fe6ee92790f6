/-
  Curve: the reference's On.
-/
import Derived.Deep.RegionHeld3
import Derived.Test.YtkdclocjijmgpaaK31
namespace Go.Proofs.Ytkdclocjijmgpaa
open Go.RowKit
theorem on_eq {p b : Nat} {X Y P D8 D9 B : List Int} {e7 e8 e14 e15 e16 e18 ey : Int} (hp : 0 < p) (hV : 0 ≤ val X ∧ 0 ≤ val Y ∧ val X < p ∧ val Y < p) (hP : val P = p) (h8 : val D8 = val X) (h9 : val D9 = val Y) (hB : val B = b)
    (hE : (val D8 * val D8) % val P = e7 ∧ (val D8 * e7) % val P = e8 ∧ (val D8 + val D8) % val P = e14 ∧ (val D8 + e14) % val P = e15 ∧ (e8 - e15) % val P = e16 ∧ (e16 + val B) % val P = e18) (hy : (val D9 * val D9) % val P = ey) :
    decide (ey = e18) = onE p b (val X).toNat (val Y).toNat := by
  rw [hP, h8, hB] at hE
  rw [hP, h9] at hy
  obtain ⟨x, hx⟩ : ∃ x : Nat, (x : Int) = val X := ⟨(val X).toNat, Int.toNat_of_nonneg hV.1⟩
  obtain ⟨y, hyy⟩ : ∃ y : Nat, (y : Int) = val Y := ⟨(val Y).toNat, Int.toNat_of_nonneg hV.2.1⟩
  rw [← hx] at hE hV
  rw [← hyy] at hy hV
  rw [← hx, ← hyy]
  simp only [Int.toNat_natCast]
  obtain ⟨r7, r8, r14, r15, r16, r18⟩ := hE
  have k7 : e7 = (fml p x x : Nat) := by rw [← r7]; unfold fml; simp
  have k8 : e8 = (fml p (fml p x x) x : Nat) := by
    rw [← r8, k7]
    generalize fml p x x = u
    unfold fml
    rw [Nat.mul_comm, Int.natCast_emod, Int.natCast_mul]
  have k14 : e14 = (fad p x x : Nat) := by rw [← r14]; unfold fad; simp
  have k15 : e15 = (fad p (fad p x x) x : Nat) := by rw [← r15, k14]; unfold fad; rw [Nat.add_comm ((x + x) % p) x]; simp
  have k16 : e16 = (fsb p (fml p (fml p x x) x) (fad p (fad p x x) x) : Nat) := by
    rw [← r16, k8, k15]
    have hlt : fad p (fad p x x) x < p := Nat.mod_lt _ hp
    generalize fml p (fml p x x) x = u at *
    generalize fad p (fad p x x) x = v at *
    unfold fsb
    rw [show ((u : Int) - v) = ((u + (p - v) : Nat) : Int) - p by omega, Int.sub_emod_right]
    rfl
  have k18 : e18 = (fad p (fsb p (fml p (fml p x x) x) (fad p (fad p x x) x)) b : Nat) := by rw [← r18, k16]; unfold fad; simp
  have ky : ey = (fml p y y : Nat) := by rw [← hy]; unfold fml; simp
  unfold onE
  rw [k18, ky]
  by_cases h : fml p y y = fad p (fsb p (fml p (fml p x x) x) (fad p (fad p x x) x)) b
  · simp [h]
  · rw [decide_eq_false h]
    exact decide_eq_false (fun hz => h (Int.ofNat_inj.1 hz))
theorem sl_slice {k : IntKind} {w : World} {v : Value} {L : List Int} (h : Sl k w v L) : ∃ a n c, v = .slice a n c := by
  obtain ⟨a, c, rfl, _⟩ := h; exact ⟨_, _, _, rfl⟩
structure Inv10 (wc : World) (bp : Nat) (a1 : Option Addr) (n1 c1 : Nat) (a2 : Option Addr) (n2 c2 : Nat) (X Y : List Int) (L : Array Bool) (s8 s9 s40 s41 s42 s43 s44 s45 s46 s47 : Value) (W : World) : Prop where
  bel : Below wc.heap.size wc W
  kc0 : Up L 0 → s40 = .pointer (some ⟨bp, 0, none⟩)
  kc1 : Up L 1 → s41 = .slice a1 n1 c1
  kc2 : Up L 2 → ¬ Up L 3 → ∃ a n c, s42 = .slice a n c ∧ Sl .u32 W (.slice a n c) (lim (val X).toNat)
  kc3 : Up L 3 → ∃ D, s43 = dgA D ∧ Dg D ∧ val D = val X
  kc4 : Up L 4 → s44 = .pointer (some ⟨bp, 1, none⟩)
  kc5 : Up L 5 → s45 = .slice a2 n2 c2
  kc6 : Up L 6 → ¬ Up L 7 → ∃ a n c, s46 = .slice a n c ∧ Sl .u32 W (.slice a n c) (lim (val Y).toNat)
  kc7 : Up L 7 → ∃ D, s47 = dgA D ∧ Dg D ∧ val D = val Y
  kc8 : Up L 8 → ∃ b D, s8 = .pointer (some ⟨b, 0, none⟩) ∧ wc.heap.size ≤ b ∧ D.length = 13 ∧ Blk 64 W b (dgC D) ∧ (Up L 10 → Dg D ∧ val D = val X)
  kc9 : Up L 9 → ∃ b D, s9 = .pointer (some ⟨b, 0, none⟩) ∧ wc.heap.size ≤ b ∧ D.length = 13 ∧ Blk 64 W b (dgC D) ∧ (Up L 11 → Dg D ∧ val D = val Y)
  kc89 : Up L 8 → Up L 9 → s8 ≠ s9
  kc10 : Up L 10 → Up L 8
  kc11 : Up L 11 → Up L 9
theorem up_mono {L : Array Bool} {i k : Nat} (h : Up L k) (hne : k ≠ i) : Up (L.setIfInBounds i true) k := by
  unfold Up at *; rwa [getD_set_ne false (Ne.symm hne)]
theorem Inv10.to {wc : World} {bp : Nat} {a1 : Option Addr} {n1 c1 : Nat} {a2 : Option Addr} {n2 c2 : Nat} {X Y : List Int} {L : Array Bool} {s8 s9 s40 s41 s42 s43 s44 s45 s46 s47 : Value} {W W' : World} (h : Inv10 wc bp a1 n1 c1 a2 n2 c2 X Y L s8 s9 s40 s41 s42 s43 s44 s45 s46 s47 W) (hb : Below W.heap.size W W') : Inv10 wc bp a1 n1 c1 a2 n2 c2 X Y L s8 s9 s40 s41 s42 s43 s44 s45 s46 s47 W' where
  bel := below_via h.bel hb (Nat.le_refl _)
  kc0 := h.kc0
  kc1 := h.kc1
  kc2 := fun u v => by obtain ⟨a, n, c, e, hs⟩ := h.kc2 u v; exact ⟨a, n, c, e, below_sl hb hs⟩
  kc3 := h.kc3
  kc4 := h.kc4
  kc5 := h.kc5
  kc6 := fun u v => by obtain ⟨a, n, c, e, hs⟩ := h.kc6 u v; exact ⟨a, n, c, e, below_sl hb hs⟩
  kc7 := h.kc7
  kc8 := fun u => by obtain ⟨b, D, e, hl, hd, hB, hu⟩ := h.kc8 u; exact ⟨b, D, e, hl, hd, below_blk hb hB.lt hB, hu⟩
  kc9 := fun u => by obtain ⟨b, D, e, hl, hd, hB, hu⟩ := h.kc9 u; exact ⟨b, D, e, hl, hd, below_blk hb hB.lt hB, hu⟩
  kc89 := h.kc89
  kc10 := h.kc10
  kc11 := h.kc11
structure Inv11 (wd : World) (F : Value) (XD BD : List Int) (e7 e8 e14 e15 e16 e18 : Int) (L : Array Bool) (s10 s48 s49 s50 s51 s52 s53 s54 s55 s56 s57 s58 s59 s60 s61 s62 s63 s64 s65 s66 : Value) (W : World) : Prop where
  bel : Below wd.heap.size wd W
  k0 : Up L 0 → s48 = F
  k1 : Up L 1 → s49 = F
  k2 : Up L 2 → s50 = F
  k3 : Up L 3 → s51 = dgA XD
  k4 : Up L 4 → s52 = F
  k5 : Up L 5 → s53 = dgA XD
  k6 : Up L 6 → s54 = dgA XD
  k7 : Up L 7 → ∃ D, s55 = dgA D ∧ Dg D ∧ val D = e7
  k8 : Up L 8 → ∃ D, s56 = dgA D ∧ Dg D ∧ val D = e8
  k9 : Up L 9 → s57 = F
  k10 : Up L 10 → s58 = dgA XD
  k11 : Up L 11 → s59 = F
  k12 : Up L 12 → s60 = dgA XD
  k13 : Up L 13 → s61 = dgA XD
  k14 : Up L 14 → ∃ D, s62 = dgA D ∧ Dg D ∧ val D = e14
  k15 : Up L 15 → ∃ D, s63 = dgA D ∧ Dg D ∧ val D = e15
  k16 : Up L 16 → ∃ D, s64 = dgA D ∧ Dg D ∧ val D = e16
  k17 : Up L 17 → s65 = dgA BD
  k18 : Up L 18 → ∃ D, s66 = dgA D ∧ Dg D ∧ val D = e18
  k19 : Up L 19 → ∃ b D, s10 = .pointer (some ⟨b, 0, none⟩) ∧ wd.heap.size ≤ b ∧ D.length = 13 ∧ Blk 64 W b (dgC D) ∧ (Up L 20 → Dg D ∧ val D = e18)
  k20 : Up L 20 → Up L 19
theorem Inv11.to {wd : World} {F : Value} {XD BD : List Int} {e7 e8 e14 e15 e16 e18 : Int} {L : Array Bool} {s10 s48 s49 s50 s51 s52 s53 s54 s55 s56 s57 s58 s59 s60 s61 s62 s63 s64 s65 s66 : Value} {W W' : World} (h : Inv11 wd F XD BD e7 e8 e14 e15 e16 e18 L s10 s48 s49 s50 s51 s52 s53 s54 s55 s56 s57 s58 s59 s60 s61 s62 s63 s64 s65 s66 W) (hb : Below W.heap.size W W') : Inv11 wd F XD BD e7 e8 e14 e15 e16 e18 L s10 s48 s49 s50 s51 s52 s53 s54 s55 s56 s57 s58 s59 s60 s61 s62 s63 s64 s65 s66 W' where
  bel := below_via h.bel hb (Nat.le_refl _)
  k0 := h.k0
  k1 := h.k1
  k2 := h.k2
  k3 := h.k3
  k4 := h.k4
  k5 := h.k5
  k6 := h.k6
  k7 := h.k7
  k8 := h.k8
  k9 := h.k9
  k10 := h.k10
  k11 := h.k11
  k12 := h.k12
  k13 := h.k13
  k14 := h.k14
  k15 := h.k15
  k16 := h.k16
  k17 := h.k17
  k18 := h.k18
  k19 := fun u => by obtain ⟨b, D, e, hl, hd, hB, hu⟩ := h.k19 u; exact ⟨b, D, e, hl, hd, below_blk hb hB.lt hB, hu⟩
  k20 := h.k20
structure Inv12 (we : World) (F : Value) (YD RD : List Int) (ey : Int) (r : Bool) (L : Array Bool) (s4 s67 s68 s69 s70 s71 s72 : Value) (W : World) : Prop where
  bel : Below we.heap.size we W
  k0 : Up L 0 → s67 = F
  k1 : Up L 1 → s68 = dgA YD
  k2 : Up L 2 → s69 = dgA YD
  k3 : Up L 3 → ∃ D, s70 = dgA D ∧ Dg D ∧ val D = ey
  k4 : Up L 4 → s71 = dgA RD
  k5 : Up L 5 → s72 = .bool r
  k6 : Up L 6 → s4 = .bool r
theorem Inv12.to {we : World} {F : Value} {YD RD : List Int} {ey : Int} {r : Bool} {L : Array Bool} {s4 s67 s68 s69 s70 s71 s72 : Value} {W W' : World} (h : Inv12 we F YD RD ey r L s4 s67 s68 s69 s70 s71 s72 W) (hb : Below W.heap.size W W') : Inv12 we F YD RD ey r L s4 s67 s68 s69 s70 s71 s72 W' where
  bel := below_via h.bel hb (Nat.le_refl _)
  k0 := h.k0
  k1 := h.k1
  k2 := h.k2
  k3 := h.k3
  k4 := h.k4
  k5 := h.k5
  k6 := h.k6
set_option maxRecDepth 20000 in
set_option maxHeartbeats 8000000 in
theorem ROn_any {w : World} (c : Int) (a1 : Option Addr) (n1 c1 : Nat) (a2 : Option Addr) (n2 c2 : Nat) (X Y : List Int) (hX : Sl .u32 w (.slice a1 n1 c1) X) (hY : Sl .u32 w (.slice a2 n2 c2) Y) (uX : U32s X) (uY : U32s Y) (lX : X.length ≤ 1000000) (lY : Y.length ≤ 1000000) :
    Calls Try.prog 54 #[.int .i64 c, .agg #[.slice a1 n1 c1, .slice a2 n2 c2]] w fun e w' => e = .returned (.bool (onC c X Y)) ∧ Below w.heap.size w w' := by
  have HX : Hid (Sl .u32 w (.slice a1 n1 c1) X ∧ Sl .u32 w (.slice a2 n2 c2) Y ∧ U32s X ∧ U32s Y ∧ X.length ≤ 1000000 ∧ Y.length ≤ 1000000) := ⟨hX, hY, uX, uY, lX, lY⟩
  clear hX hY uX uY lX lY
  obtain ⟨R, hR⟩ : ∃ R, onC c X Y = R := ⟨_, rfl⟩
  have HRc : Hid (onC c X Y = R) := hR
  rw [hR]
  clear hR
  go_enter Try.func54, Try.ntmps54
  go_wp2_with fail
  refine (RPrime_any c).mono ?_
  rintro e w1 ⟨q, rfl, hq, hb1⟩
  obtain ⟨qa, qc, rfl⟩ := hq.form
  have hB1 : Blk 24 w1 w.heap.size [.slice a1 n1 c1, .slice a2 n2 c2] := below_blk hb1 (by simp) (Blk.new _ w _)
  have H1 : Hid (Nb w1 (.slice qa (lim (crvN (·.p) (crv c))).length qc) (crvN (·.p) (crv c)) ∧ Blk 24 w1 w.heap.size [.slice a1 n1 c1, .slice a2 n2 c2] ∧ Below w.heap.size w w1) := ⟨hq, hB1, below_via (al1 _) hb1 (Nat.le_refl _)⟩
  have k0 : w1.cell? ⟨w.heap.size, 0, none⟩ = some (.slice a1 n1 c1) := hB1.cell 0
  clear hq hb1 hB1
  cases hc : crv c with
  | none =>
    obtain rfl : R = false := by rw [← HRc.out]; unfold onC; rw [hc]
    rw [hc] at H1
    simp only [crvN, lim_zero, List.length_nil] at H1 ⊢
    go_wp2
    go_ret
    exact ⟨rfl, H1.out.2.2⟩
  | some C =>
    have hR : onB C.p C.b X Y = R := by rw [← HRc.out]; unfold onC; rw [hc]
    have HC : Hid (crv c = some C) := hc
    have HP := crv_ok hc
    rw [hc] at H1
    simp only [crvN] at H1 ⊢
    obtain ⟨l, hl⟩ : ∃ l, (lim C.p).length = l := ⟨_, rfl⟩
    have hl0 : l ≠ 0 := by rw [← hl, lim_pos (n := C.p) (by have := HP.1; omega)]; simp
    have hl12 : l ≤ 12 := by have := (crv_sz c).2; rw [hc] at this; simp only [crvN] at this; omega
    have HL : Hid ((lim C.p).length = l ∧ l ≠ 0 ∧ l ≤ 12) := ⟨hl, hl0, hl12⟩
    have hli : ((l : Int) == 0) = false := by simp; exact hl0
    rw [hl] at H1 ⊢
    have HR : Hid ((if farB X Y then true else if val X < C.p ∧ val Y < C.p then onE C.p C.b (val X).toNat (val Y).toNat else false) = R) := by show _ = _; rw [← hR]; rfl
    have HPp : Hid (0 < C.p ∧ C.p < 4294967296 ^ 12 ∧ C.b < C.p) := ⟨HP.1, HP.2.1, HP.2.2.1⟩
    clear hl hl0 hl12 HP hc hR
    have HCx : Hid (∀ (W : World) (d : Int), Below w1.heap.size w1 W → Nt.cmpI (val X) C.p = d → Calls Try.prog 68 #[.slice a1 n1 c1, .slice qa l qc] W fun e w' => e = .returned (.int .i64 d) ∧ Below W.heap.size W w') := fun W d hW hd =>
      Nt.RCmp_any _ _ X (lim C.p) (below_sl (below_via H1.out.2.2 hW (Nat.le_refl _)) HX.out.1) (below_sl hW H1.out.1) HX.out.2.2.1 (lim_u32 _) (by have := HX.out.2.2.2.2.1; omega) (by have := HL.out; omega) d (by rw [val_lim]; exact hd)
    have HCy : Hid (∀ (W : World) (d : Int), Below w1.heap.size w1 W → Nt.cmpI (val Y) C.p = d → Calls Try.prog 68 #[.slice a2 n2 c2, .slice qa l qc] W fun e w' => e = .returned (.int .i64 d) ∧ Below W.heap.size W w') := fun W d hW hd =>
      Nt.RCmp_any _ _ Y (lim C.p) (below_sl (below_via H1.out.2.2 hW (Nat.le_refl _)) HX.out.2.1) (below_sl hW H1.out.1) HX.out.2.2.2.1 (lim_u32 _) (by have := HX.out.2.2.2.2.2; omega) (by have := HL.out; omega) d (by rw [val_lim]; exact hd)
    have HV : Hid (0 ≤ val X ∧ 0 ≤ val Y) := ⟨val_nonneg HX.out.2.2.1, val_nonneg HX.out.2.2.2.1⟩
    by_cases hx : ¬ val X < C.p
    · obtain ⟨d, hd, dg⟩ := cmp_ge (a := val X) (b := C.p) (by omega)
      have HD : Hid (Nt.cmpI (val X) C.p = d) := hd
      have HQ : Hid (false = R) := by
        show _ = _; rw [← HR.out, if_neg (by unfold farB; have := HPp.out.1; simp; intro h; omega)]; exact (if_neg (by omega)).symm
      clear hx hd HR
      go_wp2_with (go_at_call 68; refine (HCx.out _ d (Below.refl _ _) HD.out).mono ?_; rintro e w2 ⟨rfl, hb2⟩; have H2 : Hid (Below w1.heap.size w1 w2) := hb2; clear hb2)
      go_ret
      exact ⟨by rw [← HQ.out]; rfl, below_via H1.out.2.2 H2.out (Nat.le_refl _)⟩
    have hx := Decidable.not_not.1 hx
    have HDx : Hid (Nt.cmpI (val X) C.p = -1) := cmp_lt hx
    go_wp2_with fail
    refine (HCx.out _ (-1) (Below.refl _ _) HDx.out).mono ?_
    rintro e w2 ⟨rfl, hb2⟩
    have H2 : Hid (Below w1.heap.size w1 w2) := hb2
    have k1 : w2.cell? ⟨w.heap.size, 1, none⟩ = some (.slice a2 n2 c2) := (below_blk hb2 H1.out.2.1.lt H1.out.2.1).cell 1
    clear hb2 k0
    by_cases hy : ¬ val Y < C.p
    · obtain ⟨d, hd, dg⟩ := cmp_ge (a := val Y) (b := C.p) (by omega)
      have HD : Hid (Nt.cmpI (val Y) C.p = d) := hd
      have HQ : Hid (false = R) := by
        show _ = _; rw [← HR.out, if_neg (by unfold farB; have := HPp.out.1; simp; intro _; omega)]; exact (if_neg (by omega)).symm
      clear hx hy hd HR
      go_wp2_with (go_at_call 68; refine (HCy.out _ d H2.out HD.out).mono ?_; rintro e w3 ⟨rfl, hb3⟩; have H3 : Hid (Below w1.heap.size w1 w3) := below_via H2.out hb3 (Nat.le_refl _); clear hb3)
      go_ret
      exact ⟨by rw [← HQ.out]; rfl, below_via H1.out.2.2 H3.out (Nat.le_refl _)⟩
    have hy := Decidable.not_not.1 hy
    have HDy : Hid (Nt.cmpI (val Y) C.p = -1) := cmp_lt hy
    go_wp2_with fail
    refine (HCy.out _ (-1) H2.out HDy.out).mono ?_
    rintro e w3 ⟨rfl, hb3⟩
    have H3 : Hid (Below w1.heap.size w1 w3) := below_via H2.out hb3 (Nat.le_refl _)
    have hB3 := below_blk H3.out H1.out.2.1.lt H1.out.2.1
    have g0 : w3.cell? ⟨w.heap.size, 0, none⟩ = some (.slice a1 n1 c1) := hB3.cell 0
    have g1 : w3.cell? ⟨w.heap.size, 1, none⟩ = some (.slice a2 n2 c2) := hB3.cell 1
    clear hb3 k1 hB3
    go_wp2_with fail
    refine (RFar _ _ X Y (below_sl (below_via H1.out.2.2 H3.out (Nat.le_refl _)) HX.out.1) (below_sl (below_via H1.out.2.2 H3.out (Nat.le_refl _)) HX.out.2.1) HX.out.2.2.1 HX.out.2.2.2.1 HX.out.2.2.2.2.1 HX.out.2.2.2.2.2).mono ?_
    rintro e w4 ⟨rfl, hb4⟩
    have H4 : Hid (Below w1.heap.size w1 w4) := below_via H3.out hb4 (Nat.le_refl _)
    clear hb4 g0 g1
    cases hf : farB X Y with
    | true =>
      have HQ : Hid (true = R) := by show _ = _; rw [← HR.out, hf]; rfl
      clear hx hy HR
      go_wp2
      go_ret
      exact ⟨by rw [← HQ.out]; rfl, below_via H1.out.2.2 H4.out (Nat.le_refl _)⟩
    | false =>
      have HQ : Hid (onE C.p C.b (val X).toNat (val Y).toNat = R) := by show _ = _; rw [← HR.out, hf]; exact (if_pos ⟨hx, hy⟩).symm
      have HV2 : Hid (0 ≤ val X ∧ 0 ≤ val Y ∧ val X < C.p ∧ val Y < C.p) := ⟨HV.out.1, HV.out.2, hx, hy⟩
      clear hx hy HR hf HCx HCy HDx HDy
      go_wp2_with fail
      refine (RFieldOf c).mono ?_
      rw [HC.out]
      simp only [crvN]
      rw [HL.out.1]
      rintro e w5 ⟨P, rfl, dP, vP, hb5⟩
      have HPd : Hid (Dg P ∧ val P = (C.p : Nat)) := ⟨dP, vP⟩
      have H5 : Hid (Below w1.heap.size w1 w5) := below_via H4.out hb5 (Nat.le_refl _)
      have lP : P.length = 13 := dP.2
      clear dP vP hb5 hli
      have Hth : Hid ((w5.alloc (.cells f14.toArray 66)).there w5.heap.size 0 (fdC l P).toArray.size) := (newF w5).there 0 _ (by simp [fdC, f14, z13, lP])
      have hsz : (Try.prog.info? 66).map (·.size) = some (fdC l P).toArray.size := by rw [Try.sizeFd]; simp [fdC, lP]
      go_upto_region 7 with (refine wpList_store_mid rfl _ _ _ rfl w5.heap.size 0 (fdC l P).toArray rfl rfl Hth.out hsz (fdC_one _ _) ?_)
      refine wp_gen (fun W => Below w5.heap.size w5 W ∧ Blk 66 W w5.heap.size (fdC l P)) ⟨(Upd.setCells (b := w5.heap.size) (fdC l P) 0 (w5.alloc (.cells f14.toArray 66))).below (al1 _) (al1 _).size (Nat.le_refl _), (newF w5).fill (fdC l P) (by simp [fdC, f14, z13, lP])⟩ ?_
      rintro W6 ⟨hb6, hB6⟩
      have H6 : Hid (Below w1.heap.size w1 W6 ∧ Blk 66 W6 w5.heap.size (fdC l P)) := ⟨below_via H5.out hb6 (Nat.le_refl _), hB6⟩
      clear hb6 hB6 Hth
      go_wp2_with fail
      refine (rof_any _ [668098635, 1003371582, 3428036854, 1696401072, 1989707452, 3018571093, 2855965671, 1522939352] (Arr.sl (S := [668098635, 1003371582, 3428036854, 1696401072, 1989707452, 3018571093, 2855965671, 1522939352]) (arr_nw rfl rfl)) (by intro x hx; simp at hx; unfold U32; omega) (by decide)).mono ?_
      rintro e w7 ⟨B7, rfl, dB7, vB7, hb7⟩
      have H7 : Hid (Below w1.heap.size w1 w7 ∧ Blk 66 w7 w5.heap.size (fdC l P) ∧ Dg B7 ∧ val B7 = c256.b) := ⟨below_via (below_via H6.out.1 (al1 _) (Nat.le_refl _)) hb7 (Nat.le_refl _), below_blk hb7 (Nat.lt_of_lt_of_le H6.out.2.lt (al1 _).size) (H6.out.2.alloc _), dB7, by rw [vB7, ← lim256b, List.take_of_length_le (by rw [lim256b]; decide), val_lim]⟩
      have lB7 : B7.length = 13 := dB7.2
      clear hb7 dB7 vB7 H6
      have Hth : Hid ((w7.alloc (.cells z13.toArray 64)).there w7.heap.size 0 (dgC B7).toArray.size) := (Blk.new 64 w7 z13).there 0 _ (by simp [dgC_len, lB7, z13])
      go_upto_region 8 with (refine wpList_store_mid rfl _ _ _ rfl w7.heap.size 0 (dgC B7).toArray rfl rfl Hth.out (dgC_size2 lB7) (dgC_one B7) ?_)
      refine wp_gen (fun W => Below w7.heap.size w7 W ∧ Blk 64 W w7.heap.size (dgC B7)) ⟨(Upd.setCells (b := w7.heap.size) (dgC B7) 0 (w7.alloc (.cells z13.toArray 64))).below (al1 _) (al1 _).size (Nat.le_refl _), (Blk.new 64 w7 z13).fill (dgC B7) (by simp [dgC_len, lB7, z13])⟩ ?_
      rintro W8 ⟨hb8, hB8⟩
      have H8 : Hid (Below w1.heap.size w1 W8 ∧ Blk 66 W8 w5.heap.size (fdC l P) ∧ Blk 64 W8 w7.heap.size (dgC B7) ∧ w5.heap.size < w7.heap.size ∧ Dg B7 ∧ val B7 = c256.b) := ⟨below_via H7.out.1 hb8 (Nat.le_refl _), below_blk hb8 H7.out.2.1.lt H7.out.2.1, hB8, H7.out.2.1.lt, H7.out.2.2⟩
      clear hb8 hB8 Hth H7
      go_upto_if 37 with (fail)
      go_cut [] from 11 (fun wc => ∃ B, Hid (Below w1.heap.size w1 wc ∧ Blk 66 wc w5.heap.size (fdC l P) ∧ Blk 64 wc w7.heap.size (dgC B) ∧ w5.heap.size < w7.heap.size ∧ Dg B ∧ val B = C.b))
      case first =>
        have hcc : (c = 1 ∧ C = c256) ∨ (c = 2 ∧ C = c384) := by
          have h := HC.out
          unfold crv at h
          split at h
          · rename_i h1; cases h; exact .inl ⟨h1, rfl⟩
          · split at h
            · rename_i h1; cases h; exact .inr ⟨h1, rfl⟩
            · cases h
        rcases hcc with ⟨rfl, rfl⟩ | ⟨rfl, rfl⟩
        · go_wp2
          go_meet
          case rel => exact ⟨B7, H8.out⟩
        · go_wp2_with fail
          refine (rof_any _ [3555470063, 713410797, 2318324125, 3327539597, 1343457114, 51644559, 4269883666, 404593774, 3824692505, 2559444331, 3795773412, 3006345127] (Arr.sl (S := [3555470063, 713410797, 2318324125, 3327539597, 1343457114, 51644559, 4269883666, 404593774, 3824692505, 2559444331, 3795773412, 3006345127]) (arr_nw rfl rfl)) (by intro x hx; simp at hx; unfold U32; omega) (by decide)).mono ?_
          rintro e w9 ⟨B9, rfl, dB9, vB9, hb9⟩
          have hb9' := below_via (al1 (w := W8) _) hb9 (Nat.le_refl _)
          have H9 : Hid (Below w1.heap.size w1 w9 ∧ Blk 66 w9 w5.heap.size (fdC l P) ∧ Blk 64 w9 w7.heap.size (dgC B7) ∧ w5.heap.size < w7.heap.size ∧ Dg B9 ∧ val B9 = c384.b) := ⟨below_via H8.out.1 hb9' (Nat.le_refl _), below_blk hb9' H8.out.2.1.lt H8.out.2.1, below_blk hb9' H8.out.2.2.1.lt H8.out.2.2.1, H8.out.2.2.2.1, dB9, by rw [vB9, ← lim384b, List.take_of_length_le (by rw [lim384b]; decide), val_lim]⟩
          have lB9 : B9.length = 13 := dB9.2
          clear hb9 hb9' dB9 vB9 H8
          have Hth : Hid (w9.there w7.heap.size 0 (dgC B9).toArray.size) := H9.out.2.2.1.there 0 _ (by simp [dgC_len, lB9, lB7])
          go_wp2_with (refine wpList_store_mid rfl _ _ _ rfl w7.heap.size 0 (dgC B9).toArray rfl rfl Hth.out (dgC_size2 lB9) (dgC_one B9) ?_)
          have hU : Upd w9 (w9.setCells w7.heap.size 0 (dgC B9)) w7.heap.size := Upd.setCells (dgC B9) 0 w9
          have HZ : Hid (Below w1.heap.size w1 (w9.setCells w7.heap.size 0 (dgC B9)) ∧ Blk 66 (w9.setCells w7.heap.size 0 (dgC B9)) w5.heap.size (fdC l P) ∧ Blk 64 (w9.setCells w7.heap.size 0 (dgC B9)) w7.heap.size (dgC B9) ∧ w5.heap.size < w7.heap.size ∧ Dg B9 ∧ val B9 = c384.b) := ⟨hU.below H9.out.1 H9.out.1.size (by have := H5.out.size; have := H9.out.2.2.2.1; omega), hU.blk H9.out.2.1 (by have := H9.out.2.2.2.1; omega), H9.out.2.2.1.fill (dgC B9) (by simp [dgC_len, lB9, lB7]), H9.out.2.2.2.1, H9.out.2.2.2.2⟩
          clear hU
          go_meet
          case rel => exact ⟨B9, HZ.out⟩
      obtain ⟨B, HB⟩ := hcut
      clear H8
      go_wp2_with fail
      -- REGION10
      go_cut [8, 9] from 11 (fun s8 s9 wd => ∃ b8 b9 D8 D9, s8 = .pointer (some ⟨b8, 0, none⟩) ∧ s9 = .pointer (some ⟨b9, 0, none⟩) ∧ Hid (Below w1.heap.size w1 wd ∧ Blk 66 wd w5.heap.size (fdC l P) ∧ Blk 64 wd w7.heap.size (dgC B) ∧ Blk 64 wd b8 (dgC D8) ∧ Blk 64 wd b9 (dgC D9) ∧ Dg D8 ∧ val D8 = val X ∧ Dg D9 ∧ val D9 = val Y))
      case first =>
        have HTx : Hid (∀ W, Below wc.heap.size wc W → Calls Try.prog 38 #[.slice a1 n1 c1] W fun e w' => ∃ r, e = .returned r ∧ Sl .u32 w' r (lim (val X).toNat) ∧ Below W.heap.size W w') := fun W h => Nt.RTrim_any _ X (below_sl (below_via (below_via H1.out.2.2 HB.out.1 (Nat.le_refl _)) h (Nat.le_refl _)) HX.out.1) HX.out.2.2.1 (by have := HX.out.2.2.2.2.1; omega) (val X) rfl
        have HTy : Hid (∀ W, Below wc.heap.size wc W → Calls Try.prog 38 #[.slice a2 n2 c2] W fun e w' => ∃ r, e = .returned r ∧ Sl .u32 w' r (lim (val Y).toNat) ∧ Below W.heap.size W w') := fun W h => Nt.RTrim_any _ Y (below_sl (below_via (below_via H1.out.2.2 HB.out.1 (Nat.le_refl _)) h (Nat.le_refl _)) HX.out.2.1) HX.out.2.2.2.1 (by have := HX.out.2.2.2.2.2; omega) (val Y) rfl
        have HOf : Hid (∀ (Z : List Int) (W : World) (r : Value), 0 ≤ val Z → val Z < C.p → Sl .u32 W r (lim (val Z).toNat) → Calls Try.prog 55 #[r] W fun e w' => ∃ D, e = .returned (dgA D) ∧ Dg D ∧ val D = val Z ∧ Below W.heap.size W w') := fun Z W r h0 h1 hs => (rof_any r _ hs (lim_u32 _) (by have := lim_len_le (n := (val Z).toNat) (k := 12) (by rw [Int.toNat_of_nonneg h0]; have := HPp.out.2.1; omega); omega)).mono (by rintro e w' ⟨D, h2, h3, h4, h5⟩; exact ⟨D, h2, h3, by rw [h4, List.take_of_length_le (lim_len_le (by rw [Int.toNat_of_nonneg h0]; have := HPp.out.2.1; omega)), val_lim, Int.toNat_of_nonneg h0], h5⟩)
        have HPt : Hid (∀ W, Below wc.heap.size wc W → W.cell? ⟨w.heap.size, 0, none⟩ = some (.slice a1 n1 c1) ∧ W.cell? ⟨w.heap.size, 1, none⟩ = some (.slice a2 n2 c2)) := fun W h => by have hb := below_via HB.out.1 h (Nat.le_refl _); have hk := below_blk hb H1.out.2.1.lt H1.out.2.1; exact ⟨hk.cell 0, hk.cell 1⟩
        refine wp_region_inv (fun L a W => ∃ s8 s9 s40 s41 s42 s43 s44 s45 s46 s47, L.size = 12 ∧ a = { tmps := List.toArray (.int .i64 c :: .agg #[.slice a1 n1 c1, .slice a2 n2 c2] :: undef :: .pointer (some ⟨w.heap.size, 0, none⟩) :: .bool false :: .slice qa l qc :: .pointer (some ⟨w5.heap.size, 0, none⟩) :: .pointer (some ⟨w7.heap.size, 0, none⟩) :: s8 :: s9 :: undef :: u11 :: u12 :: u13 :: u14 :: u15 :: u16 :: u17 :: u18 :: u19 :: u20 :: u21 :: u22 :: u23 :: u24 :: u25 :: u26 :: u27 :: u28 :: u29 :: u30 :: u31 :: u32 :: u33 :: u34 :: u35 :: u36 :: u37 :: u38 :: u39 :: s40 :: s41 :: s42 :: s43 :: s44 :: s45 :: s46 :: s47 :: u48 :: u49 :: u50 :: u51 :: u52 :: u53 :: u54 :: u55 :: u56 :: u57 :: u58 :: u59 :: u60 :: u61 :: u62 :: u63 :: u64 :: u65 :: u66 :: u67 :: u68 :: u69 :: u70 :: u71 :: u72 :: []), defers := [] } ∧ Inv10 wc w.heap.size a1 n1 c1 a2 n2 c2 X Y L s8 s9 s40 s41 s42 s43 s44 s45 s46 s47 W) (by kernel_rfl) (by kernel_rfl) ?_ ?_ ?_
        · refine ⟨undef, undef, u40, u41, u42, u43, u44, u45, u46, u47, by simp, rfl, ?_⟩
          exact { bel := Below.drew (Below.refl _ _), kc0 := fun u => absurd u not_up_new, kc1 := fun u => absurd u not_up_new, kc2 := fun u => absurd u not_up_new, kc3 := fun u => absurd u not_up_new, kc4 := fun u => absurd u not_up_new, kc5 := fun u => absurd u not_up_new, kc6 := fun u => absurd u not_up_new, kc7 := fun u => absurd u not_up_new, kc8 := fun u => absurd u not_up_new, kc9 := fun u => absurd u not_up_new, kc89 := fun u => absurd u not_up_new, kc10 := fun u => absurd u not_up_new, kc11 := fun u => absurd u not_up_new }
        · rintro L a W hup ⟨s8, s9, s40, s41, s42, s43, s44, s45, s46, s47, hsz, rfl, hI⟩
          obtain ⟨b8, D8, rfl, g8, l8, B8, u8⟩ := hI.kc8 (hup 8 (by decide))
          obtain ⟨b9, D9, rfl, g9, l9, B9, u9⟩ := hI.kc9 (hup 9 (by decide))
          have v8 := u8 (hup 10 (by decide))
          have v9 := u9 (hup 11 (by decide))
          have HZ : Hid (Below w1.heap.size w1 W ∧ Blk 66 W w5.heap.size (fdC l P) ∧ Blk 64 W w7.heap.size (dgC B) ∧ Blk 64 W b8 (dgC D8) ∧ Blk 64 W b9 (dgC D9) ∧ Dg D8 ∧ val D8 = val X ∧ Dg D9 ∧ val D9 = val Y) := ⟨below_via HB.out.1 hI.bel (Nat.le_refl _), below_blk hI.bel HB.out.2.1.lt HB.out.2.1, below_blk hI.bel HB.out.2.2.1.lt HB.out.2.2.1, B8, B9, v8.1, v8.2, v9.1, v9.2⟩
          clear hI B8 B9 v8 v9 u8 u9
          go_wp2
          go_meet
          case rel => exact ⟨b8, b9, D8, D9, rfl, rfl, HZ.out⟩
        · rintro i L a W hi hno hdep ⟨s8, s9, s40, s41, s42, s43, s44, s45, s46, s47, hsz, rfl, hI⟩
          have hlt : ∀ k, k < 12 → k < L.size := fun k hk => by omega
          replace hi : i < 12 := hi
          obtain rfl | rfl | rfl | rfl | rfl | rfl | rfl | rfl | rfl | rfl | rfl | rfl : i = 0 ∨ i = 1 ∨ i = 2 ∨ i = 3 ∨ i = 4 ∨ i = 5 ∨ i = 6 ∨ i = 7 ∨ i = 8 ∨ i = 9 ∨ i = 10 ∨ i = 11 := by omega
          · have HI : Hid (Inv10 wc w.heap.size a1 n1 c1 a2 n2 c2 X Y L s8 s9 s40 s41 s42 s43 s44 s45 s46 s47 W) := hI; clear hI
            refine wpOp_step rfl (fun K hK => ?_)
            go_simp
            replace hI := HI.out
            exact hK _ _ ⟨s8, s9, .pointer (some ⟨w.heap.size, 0, none⟩), s41, s42, s43, s44, s45, s46, s47, by simp [hsz], rfl, { bel := hI.bel, kc0 := fun _ => rfl, kc1 := fun u => hI.kc1 (up_set u (by decide)), kc2 := fun u v => hI.kc2 (up_set u (by decide)) (fun z => v (up_mono z (by decide))), kc3 := fun u => hI.kc3 (up_set u (by decide)), kc4 := fun u => hI.kc4 (up_set u (by decide)), kc5 := fun u => hI.kc5 (up_set u (by decide)), kc6 := fun u v => hI.kc6 (up_set u (by decide)) (fun z => v (up_mono z (by decide))), kc7 := fun u => hI.kc7 (up_set u (by decide)), kc8 := fun u => by obtain ⟨b, D, e, hl, hd, hB, hu⟩ := hI.kc8 (up_set u (by decide)); exact ⟨b, D, e, hl, hd, hB, fun z => hu (up_set z (by decide))⟩, kc9 := fun u => by obtain ⟨b, D, e, hl, hd, hB, hu⟩ := hI.kc9 (up_set u (by decide)); exact ⟨b, D, e, hl, hd, hB, fun z => hu (up_set z (by decide))⟩, kc89 := fun u v => hI.kc89 (up_set u (by decide)) (up_set v (by decide)), kc10 := fun u => up_mono (hI.kc10 (up_set u (by decide))) (by decide), kc11 := fun u => up_mono (hI.kc11 (up_set u (by decide))) (by decide) }⟩
          · have HI : Hid (Inv10 wc w.heap.size a1 n1 c1 a2 n2 c2 X Y L s8 s9 s40 s41 s42 s43 s44 s45 s46 s47 W) := hI; clear hI
            obtain rfl := HI.out.kc0 (hdep 0 (by decide +kernel))
            have q0 := (HPt.out W HI.out.bel).1
            have q1 := (HPt.out W HI.out.bel).2
            refine wpOp_step rfl (fun K hK => ?_)
            go_simp
            replace hI := HI.out
            exact hK _ _ ⟨s8, s9, .pointer (some ⟨w.heap.size, 0, none⟩), .slice a1 n1 c1, s42, s43, s44, s45, s46, s47, by simp [hsz], rfl, { bel := hI.bel, kc0 := fun u => hI.kc0 (up_set u (by decide)), kc1 := fun _ => rfl, kc2 := fun u v => hI.kc2 (up_set u (by decide)) (fun z => v (up_mono z (by decide))), kc3 := fun u => hI.kc3 (up_set u (by decide)), kc4 := fun u => hI.kc4 (up_set u (by decide)), kc5 := fun u => hI.kc5 (up_set u (by decide)), kc6 := fun u v => hI.kc6 (up_set u (by decide)) (fun z => v (up_mono z (by decide))), kc7 := fun u => hI.kc7 (up_set u (by decide)), kc8 := fun u => by obtain ⟨b, D, e, hl, hd, hB, hu⟩ := hI.kc8 (up_set u (by decide)); exact ⟨b, D, e, hl, hd, hB, fun z => hu (up_set z (by decide))⟩, kc9 := fun u => by obtain ⟨b, D, e, hl, hd, hB, hu⟩ := hI.kc9 (up_set u (by decide)); exact ⟨b, D, e, hl, hd, hB, fun z => hu (up_set z (by decide))⟩, kc89 := fun u v => hI.kc89 (up_set u (by decide)) (up_set v (by decide)), kc10 := fun u => up_mono (hI.kc10 (up_set u (by decide))) (by decide), kc11 := fun u => up_mono (hI.kc11 (up_set u (by decide))) (by decide) }⟩
          · have HI : Hid (Inv10 wc w.heap.size a1 n1 c1 a2 n2 c2 X Y L s8 s9 s40 s41 s42 s43 s44 s45 s46 s47 W) := hI; clear hI
            obtain rfl := HI.out.kc1 (hdep 1 (by decide +kernel))
            refine wpOp_step rfl (fun K hK => ?_)
            go_simp
            refine (HTx.out W HI.out.bel).mono ?_
            rintro e W' ⟨r, rfl, hr, hb⟩
            obtain ⟨ra, rn, rc, rfl⟩ := sl_slice hr
            replace hI := HI.out.to hb
            clear HTy
            simp only []
            go_simp
            exact hK _ _ ⟨s8, s9, s40, .slice a1 n1 c1, .slice ra rn rc, s43, s44, s45, s46, s47, by simp [hsz], rfl, { bel := hI.bel, kc0 := fun u => hI.kc0 (up_set u (by decide)), kc1 := fun u => hI.kc1 (up_set u (by decide)), kc2 := fun _ _ => ⟨ra, rn, rc, rfl, hr⟩, kc3 := fun u => hI.kc3 (up_set u (by decide)), kc4 := fun u => hI.kc4 (up_set u (by decide)), kc5 := fun u => hI.kc5 (up_set u (by decide)), kc6 := fun u v => hI.kc6 (up_set u (by decide)) (fun z => v (up_mono z (by decide))), kc7 := fun u => hI.kc7 (up_set u (by decide)), kc8 := fun u => by obtain ⟨b, D, e, hl, hd, hB, hu⟩ := hI.kc8 (up_set u (by decide)); exact ⟨b, D, e, hl, hd, hB, fun z => hu (up_set z (by decide))⟩, kc9 := fun u => by obtain ⟨b, D, e, hl, hd, hB, hu⟩ := hI.kc9 (up_set u (by decide)); exact ⟨b, D, e, hl, hd, hB, fun z => hu (up_set z (by decide))⟩, kc89 := fun u v => hI.kc89 (up_set u (by decide)) (up_set v (by decide)), kc10 := fun u => up_mono (hI.kc10 (up_set u (by decide))) (by decide), kc11 := fun u => up_mono (hI.kc11 (up_set u (by decide))) (by decide) }⟩
          · have HI : Hid (Inv10 wc w.heap.size a1 n1 c1 a2 n2 c2 X Y L s8 s9 s40 s41 s42 s43 s44 s45 s46 s47 W) := hI; clear hI
            obtain ⟨ra, rn, rc, rfl, hr⟩ := HI.out.kc2 (hdep 2 (by decide +kernel)) hno
            have HV3 : Hid (0 ≤ val X ∧ val X < C.p ∧ Sl .u32 W (.slice ra rn rc) (lim (val X).toNat)) := ⟨HV2.out.1, HV2.out.2.2.1, hr⟩
            clear hr
            refine wpOp_step rfl (fun K hK => ?_)
            go_simp
            refine (HOf.out X W _ HV3.out.1 HV3.out.2.1 HV3.out.2.2).mono ?_
            rintro e W' ⟨D, rfl, dD, vD, hb⟩
            replace hI := HI.out.to hb
            simp only []
            go_simp
            exact hK _ _ ⟨s8, s9, s40, s41, .slice ra rn rc, dgA D, s44, s45, s46, s47, by simp [hsz], rfl, { bel := hI.bel, kc0 := fun u => hI.kc0 (up_set u (by decide)), kc1 := fun u => hI.kc1 (up_set u (by decide)), kc2 := fun _ v => absurd (by unfold Up; simp [hlt]) v, kc3 := fun _ => ⟨D, rfl, dD, vD⟩, kc4 := fun u => hI.kc4 (up_set u (by decide)), kc5 := fun u => hI.kc5 (up_set u (by decide)), kc6 := fun u v => hI.kc6 (up_set u (by decide)) (fun z => v (up_mono z (by decide))), kc7 := fun u => hI.kc7 (up_set u (by decide)), kc8 := fun u => by obtain ⟨b, D, e, hl, hd, hB, hu⟩ := hI.kc8 (up_set u (by decide)); exact ⟨b, D, e, hl, hd, hB, fun z => hu (up_set z (by decide))⟩, kc9 := fun u => by obtain ⟨b, D, e, hl, hd, hB, hu⟩ := hI.kc9 (up_set u (by decide)); exact ⟨b, D, e, hl, hd, hB, fun z => hu (up_set z (by decide))⟩, kc89 := fun u v => hI.kc89 (up_set u (by decide)) (up_set v (by decide)), kc10 := fun u => up_mono (hI.kc10 (up_set u (by decide))) (by decide), kc11 := fun u => up_mono (hI.kc11 (up_set u (by decide))) (by decide) }⟩
          · have HI : Hid (Inv10 wc w.heap.size a1 n1 c1 a2 n2 c2 X Y L s8 s9 s40 s41 s42 s43 s44 s45 s46 s47 W) := hI; clear hI
            refine wpOp_step rfl (fun K hK => ?_)
            go_simp
            replace hI := HI.out
            exact hK _ _ ⟨s8, s9, s40, s41, s42, s43, .pointer (some ⟨w.heap.size, 1, none⟩), s45, s46, s47, by simp [hsz], rfl, { bel := hI.bel, kc0 := fun u => hI.kc0 (up_set u (by decide)), kc1 := fun u => hI.kc1 (up_set u (by decide)), kc2 := fun u v => hI.kc2 (up_set u (by decide)) (fun z => v (up_mono z (by decide))), kc3 := fun u => hI.kc3 (up_set u (by decide)), kc4 := fun _ => rfl, kc5 := fun u => hI.kc5 (up_set u (by decide)), kc6 := fun u v => hI.kc6 (up_set u (by decide)) (fun z => v (up_mono z (by decide))), kc7 := fun u => hI.kc7 (up_set u (by decide)), kc8 := fun u => by obtain ⟨b, D, e, hl, hd, hB, hu⟩ := hI.kc8 (up_set u (by decide)); exact ⟨b, D, e, hl, hd, hB, fun z => hu (up_set z (by decide))⟩, kc9 := fun u => by obtain ⟨b, D, e, hl, hd, hB, hu⟩ := hI.kc9 (up_set u (by decide)); exact ⟨b, D, e, hl, hd, hB, fun z => hu (up_set z (by decide))⟩, kc89 := fun u v => hI.kc89 (up_set u (by decide)) (up_set v (by decide)), kc10 := fun u => up_mono (hI.kc10 (up_set u (by decide))) (by decide), kc11 := fun u => up_mono (hI.kc11 (up_set u (by decide))) (by decide) }⟩
          · have HI : Hid (Inv10 wc w.heap.size a1 n1 c1 a2 n2 c2 X Y L s8 s9 s40 s41 s42 s43 s44 s45 s46 s47 W) := hI; clear hI
            obtain rfl := HI.out.kc4 (hdep 4 (by decide +kernel))
            have q0 := (HPt.out W HI.out.bel).1
            have q1 := (HPt.out W HI.out.bel).2
            refine wpOp_step rfl (fun K hK => ?_)
            go_simp
            replace hI := HI.out
            exact hK _ _ ⟨s8, s9, s40, s41, s42, s43, .pointer (some ⟨w.heap.size, 1, none⟩), .slice a2 n2 c2, s46, s47, by simp [hsz], rfl, { bel := hI.bel, kc0 := fun u => hI.kc0 (up_set u (by decide)), kc1 := fun u => hI.kc1 (up_set u (by decide)), kc2 := fun u v => hI.kc2 (up_set u (by decide)) (fun z => v (up_mono z (by decide))), kc3 := fun u => hI.kc3 (up_set u (by decide)), kc4 := fun u => hI.kc4 (up_set u (by decide)), kc5 := fun _ => rfl, kc6 := fun u v => hI.kc6 (up_set u (by decide)) (fun z => v (up_mono z (by decide))), kc7 := fun u => hI.kc7 (up_set u (by decide)), kc8 := fun u => by obtain ⟨b, D, e, hl, hd, hB, hu⟩ := hI.kc8 (up_set u (by decide)); exact ⟨b, D, e, hl, hd, hB, fun z => hu (up_set z (by decide))⟩, kc9 := fun u => by obtain ⟨b, D, e, hl, hd, hB, hu⟩ := hI.kc9 (up_set u (by decide)); exact ⟨b, D, e, hl, hd, hB, fun z => hu (up_set z (by decide))⟩, kc89 := fun u v => hI.kc89 (up_set u (by decide)) (up_set v (by decide)), kc10 := fun u => up_mono (hI.kc10 (up_set u (by decide))) (by decide), kc11 := fun u => up_mono (hI.kc11 (up_set u (by decide))) (by decide) }⟩
          · have HI : Hid (Inv10 wc w.heap.size a1 n1 c1 a2 n2 c2 X Y L s8 s9 s40 s41 s42 s43 s44 s45 s46 s47 W) := hI; clear hI
            obtain rfl := HI.out.kc5 (hdep 5 (by decide +kernel))
            refine wpOp_step rfl (fun K hK => ?_)
            go_simp
            refine (HTy.out W HI.out.bel).mono ?_
            rintro e W' ⟨r, rfl, hr, hb⟩
            obtain ⟨ra, rn, rc, rfl⟩ := sl_slice hr
            replace hI := HI.out.to hb
            clear HTx
            simp only []
            go_simp
            exact hK _ _ ⟨s8, s9, s40, s41, s42, s43, s44, .slice a2 n2 c2, .slice ra rn rc, s47, by simp [hsz], rfl, { bel := hI.bel, kc0 := fun u => hI.kc0 (up_set u (by decide)), kc1 := fun u => hI.kc1 (up_set u (by decide)), kc2 := fun u v => hI.kc2 (up_set u (by decide)) (fun z => v (up_mono z (by decide))), kc3 := fun u => hI.kc3 (up_set u (by decide)), kc4 := fun u => hI.kc4 (up_set u (by decide)), kc5 := fun u => hI.kc5 (up_set u (by decide)), kc6 := fun _ _ => ⟨ra, rn, rc, rfl, hr⟩, kc7 := fun u => hI.kc7 (up_set u (by decide)), kc8 := fun u => by obtain ⟨b, D, e, hl, hd, hB, hu⟩ := hI.kc8 (up_set u (by decide)); exact ⟨b, D, e, hl, hd, hB, fun z => hu (up_set z (by decide))⟩, kc9 := fun u => by obtain ⟨b, D, e, hl, hd, hB, hu⟩ := hI.kc9 (up_set u (by decide)); exact ⟨b, D, e, hl, hd, hB, fun z => hu (up_set z (by decide))⟩, kc89 := fun u v => hI.kc89 (up_set u (by decide)) (up_set v (by decide)), kc10 := fun u => up_mono (hI.kc10 (up_set u (by decide))) (by decide), kc11 := fun u => up_mono (hI.kc11 (up_set u (by decide))) (by decide) }⟩
          · have HI : Hid (Inv10 wc w.heap.size a1 n1 c1 a2 n2 c2 X Y L s8 s9 s40 s41 s42 s43 s44 s45 s46 s47 W) := hI; clear hI
            obtain ⟨ra, rn, rc, rfl, hr⟩ := HI.out.kc6 (hdep 6 (by decide +kernel)) hno
            have HV3 : Hid (0 ≤ val Y ∧ val Y < C.p ∧ Sl .u32 W (.slice ra rn rc) (lim (val Y).toNat)) := ⟨HV2.out.2.1, HV2.out.2.2.2, hr⟩
            clear hr
            refine wpOp_step rfl (fun K hK => ?_)
            go_simp
            refine (HOf.out Y W _ HV3.out.1 HV3.out.2.1 HV3.out.2.2).mono ?_
            rintro e W' ⟨D, rfl, dD, vD, hb⟩
            replace hI := HI.out.to hb
            simp only []
            go_simp
            exact hK _ _ ⟨s8, s9, s40, s41, s42, s43, s44, s45, .slice ra rn rc, dgA D, by simp [hsz], rfl, { bel := hI.bel, kc0 := fun u => hI.kc0 (up_set u (by decide)), kc1 := fun u => hI.kc1 (up_set u (by decide)), kc2 := fun u v => hI.kc2 (up_set u (by decide)) (fun z => v (up_mono z (by decide))), kc3 := fun u => hI.kc3 (up_set u (by decide)), kc4 := fun u => hI.kc4 (up_set u (by decide)), kc5 := fun u => hI.kc5 (up_set u (by decide)), kc6 := fun _ v => absurd (by unfold Up; simp [hlt]) v, kc7 := fun _ => ⟨D, rfl, dD, vD⟩, kc8 := fun u => by obtain ⟨b, D, e, hl, hd, hB, hu⟩ := hI.kc8 (up_set u (by decide)); exact ⟨b, D, e, hl, hd, hB, fun z => hu (up_set z (by decide))⟩, kc9 := fun u => by obtain ⟨b, D, e, hl, hd, hB, hu⟩ := hI.kc9 (up_set u (by decide)); exact ⟨b, D, e, hl, hd, hB, fun z => hu (up_set z (by decide))⟩, kc89 := fun u v => hI.kc89 (up_set u (by decide)) (up_set v (by decide)), kc10 := fun u => up_mono (hI.kc10 (up_set u (by decide))) (by decide), kc11 := fun u => up_mono (hI.kc11 (up_set u (by decide))) (by decide) }⟩
          · have HI : Hid (Inv10 wc w.heap.size a1 n1 c1 a2 n2 c2 X Y L s8 s9 s40 s41 s42 s43 s44 s45 s46 s47 W) := hI; clear hI
            refine wpOp_step rfl (fun K hK => ?_)
            go_simp
            replace hI := HI.out.to (al1 (w := W) (.cells z13.toArray 64))
            have hne : ∀ b, (Up L 9 → ∃ b2 D2, s9 = .pointer (some ⟨b2, 0, none⟩) ∧ wc.heap.size ≤ b2 ∧ D2.length = 13 ∧ Blk 64 W b2 (dgC D2) ∧ (Up L 11 → Dg D2 ∧ val D2 = val Y)) → b = W.heap.size → Up L 9 → .pointer (some ⟨b, 0, none⟩) ≠ s9 := fun b h hbe u he => by obtain ⟨b2, D2, e2, _, _, B2, _⟩ := h u; rw [e2] at he; simp at he; have := B2.lt; omega
            exact hK _ _ ⟨.pointer (some ⟨W.heap.size, 0, none⟩), s9, s40, s41, s42, s43, s44, s45, s46, s47, by simp [hsz], rfl, { bel := hI.bel, kc0 := fun u => hI.kc0 (up_set u (by decide)), kc1 := fun u => hI.kc1 (up_set u (by decide)), kc2 := fun u v => hI.kc2 (up_set u (by decide)) (fun z => v (up_mono z (by decide))), kc3 := fun u => hI.kc3 (up_set u (by decide)), kc4 := fun u => hI.kc4 (up_set u (by decide)), kc5 := fun u => hI.kc5 (up_set u (by decide)), kc6 := fun u v => hI.kc6 (up_set u (by decide)) (fun z => v (up_mono z (by decide))), kc7 := fun u => hI.kc7 (up_set u (by decide)), kc8 := fun _ => ⟨W.heap.size, List.replicate 13 0, rfl, HI.out.bel.size, by simp, Blk.new _ W z13, fun u => absurd (HI.out.kc10 (up_set u (by decide))) hno⟩, kc9 := fun u => by obtain ⟨b, D, e, hl, hd, hB, hu⟩ := hI.kc9 (up_set u (by decide)); exact ⟨b, D, e, hl, hd, hB, fun z => hu (up_set z (by decide))⟩, kc89 := fun _ v => hne _ HI.out.kc9 rfl (up_set v (by decide)), kc10 := fun _ => by unfold Up; simp [hlt], kc11 := fun u => up_mono (hI.kc11 (up_set u (by decide))) (by decide) }⟩
          · have HI : Hid (Inv10 wc w.heap.size a1 n1 c1 a2 n2 c2 X Y L s8 s9 s40 s41 s42 s43 s44 s45 s46 s47 W) := hI; clear hI
            refine wpOp_step rfl (fun K hK => ?_)
            go_simp
            replace hI := HI.out.to (al1 (w := W) (.cells z13.toArray 64))
            have hne : ∀ b, (Up L 8 → ∃ b2 D2, s8 = .pointer (some ⟨b2, 0, none⟩) ∧ wc.heap.size ≤ b2 ∧ D2.length = 13 ∧ Blk 64 W b2 (dgC D2) ∧ (Up L 10 → Dg D2 ∧ val D2 = val X)) → b = W.heap.size → Up L 8 → .pointer (some ⟨b, 0, none⟩) ≠ s8 := fun b h hbe u he => by obtain ⟨b2, D2, e2, _, _, B2, _⟩ := h u; rw [e2] at he; simp at he; have := B2.lt; omega
            exact hK _ _ ⟨s8, .pointer (some ⟨W.heap.size, 0, none⟩), s40, s41, s42, s43, s44, s45, s46, s47, by simp [hsz], rfl, { bel := hI.bel, kc0 := fun u => hI.kc0 (up_set u (by decide)), kc1 := fun u => hI.kc1 (up_set u (by decide)), kc2 := fun u v => hI.kc2 (up_set u (by decide)) (fun z => v (up_mono z (by decide))), kc3 := fun u => hI.kc3 (up_set u (by decide)), kc4 := fun u => hI.kc4 (up_set u (by decide)), kc5 := fun u => hI.kc5 (up_set u (by decide)), kc6 := fun u v => hI.kc6 (up_set u (by decide)) (fun z => v (up_mono z (by decide))), kc7 := fun u => hI.kc7 (up_set u (by decide)), kc8 := fun u => by obtain ⟨b, D, e, hl, hd, hB, hu⟩ := hI.kc8 (up_set u (by decide)); exact ⟨b, D, e, hl, hd, hB, fun z => hu (up_set z (by decide))⟩, kc9 := fun _ => ⟨W.heap.size, List.replicate 13 0, rfl, HI.out.bel.size, by simp, Blk.new _ W z13, fun u => absurd (HI.out.kc11 (up_set u (by decide))) hno⟩, kc89 := fun u _ => (hne _ HI.out.kc8 rfl (up_set u (by decide))).symm, kc10 := fun u => up_mono (hI.kc10 (up_set u (by decide))) (by decide), kc11 := fun _ => by unfold Up; simp [hlt] }⟩
          · have HI : Hid (Inv10 wc w.heap.size a1 n1 c1 a2 n2 c2 X Y L s8 s9 s40 s41 s42 s43 s44 s45 s46 s47 W) := hI; clear hI
            obtain ⟨b, D0, rfl, gb, l0, B0, _⟩ := HI.out.kc8 (hdep 8 (by decide +kernel))
            obtain ⟨D, rfl, dD, vD⟩ := HI.out.kc3 (hdep 3 (by decide +kernel))
            have HB0 : Hid (Blk 64 W b (dgC D0) ∧ wc.heap.size ≤ b ∧ D0.length = 13 ∧ Dg D ∧ val D = val X) := ⟨B0, gb, l0, dD, vD⟩
            clear B0 gb l0 dD vD
            refine wpOp_step rfl (fun K hK => ?_)
            rw [if_pos (by rfl)]
            refine wp_store_mid _ _ _ rfl b 0 (dgC D).toArray rfl rfl (HB0.out.1.there 0 _ (by simp [dgC_len, HB0.out.2.2.1, HB0.out.2.2.2.1.2])) (dgC_size2 HB0.out.2.2.2.1.2) (dgC_one D) ?_
            obtain ⟨hB0, gb, l0, dD, vD⟩ := HB0.out
            have hU : Upd W (W.setCells b 0 (dgC D)) b := Upd.setCells (dgC D) 0 W
            have hF : Blk 64 (W.setCells b 0 (dgC D)) b (dgC D) := hB0.fill (dgC D) (by simp [dgC_len, l0, dD.2])
            have hI := HI.out
            simp only [Act.put, List.setIfInBounds_toArray]
            exact hK _ _ ⟨.pointer (some ⟨b, 0, none⟩), s9, s40, s41, s42, dgA D, s44, s45, s46, s47, by simp [hsz], rfl, { bel := hU.below hI.bel hI.bel.size gb, kc0 := fun u => hI.kc0 (up_set u (by decide)), kc1 := fun u => hI.kc1 (up_set u (by decide)), kc2 := fun u v => absurd (up_mono (hdep 3 (by decide +kernel)) (by decide)) v, kc3 := fun u => hI.kc3 (up_set u (by decide)), kc4 := fun u => hI.kc4 (up_set u (by decide)), kc5 := fun u => hI.kc5 (up_set u (by decide)), kc6 := fun u v => absurd (up_mono (hdep 7 (by decide +kernel)) (by decide)) v, kc7 := fun u => hI.kc7 (up_set u (by decide)), kc8 := fun _ => ⟨b, D, rfl, gb, dD.2, hF, fun _ => ⟨dD, vD⟩⟩, kc9 := fun u => by obtain ⟨b2, D2, e2, g2, l2, B2, u2⟩ := hI.kc9 (up_set u (by decide)); exact ⟨b2, D2, e2, g2, l2, hU.blk B2 (fun hx => by subst hx; first | exact hI.kc89 (hdep 8 (by decide +kernel)) (hdep 9 (by decide +kernel)) e2.symm | exact hI.kc89 (hdep 8 (by decide +kernel)) (hdep 9 (by decide +kernel)) e2), fun z => u2 (up_set z (by decide))⟩, kc89 := fun u v => hI.kc89 (up_set u (by decide)) (up_set v (by decide)), kc10 := fun _ => up_mono (hdep 8 (by decide +kernel)) (by decide), kc11 := fun u => up_mono (hI.kc11 (up_set u (by decide))) (by decide) }⟩
          · have HI : Hid (Inv10 wc w.heap.size a1 n1 c1 a2 n2 c2 X Y L s8 s9 s40 s41 s42 s43 s44 s45 s46 s47 W) := hI; clear hI
            obtain ⟨b, D0, rfl, gb, l0, B0, _⟩ := HI.out.kc9 (hdep 9 (by decide +kernel))
            obtain ⟨D, rfl, dD, vD⟩ := HI.out.kc7 (hdep 7 (by decide +kernel))
            have HB0 : Hid (Blk 64 W b (dgC D0) ∧ wc.heap.size ≤ b ∧ D0.length = 13 ∧ Dg D ∧ val D = val Y) := ⟨B0, gb, l0, dD, vD⟩
            clear B0 gb l0 dD vD
            refine wpOp_step rfl (fun K hK => ?_)
            rw [if_pos (by rfl)]
            refine wp_store_mid _ _ _ rfl b 0 (dgC D).toArray rfl rfl (HB0.out.1.there 0 _ (by simp [dgC_len, HB0.out.2.2.1, HB0.out.2.2.2.1.2])) (dgC_size2 HB0.out.2.2.2.1.2) (dgC_one D) ?_
            obtain ⟨hB0, gb, l0, dD, vD⟩ := HB0.out
            have hU : Upd W (W.setCells b 0 (dgC D)) b := Upd.setCells (dgC D) 0 W
            have hF : Blk 64 (W.setCells b 0 (dgC D)) b (dgC D) := hB0.fill (dgC D) (by simp [dgC_len, l0, dD.2])
            have hI := HI.out
            simp only [Act.put, List.setIfInBounds_toArray]
            exact hK _ _ ⟨s8, .pointer (some ⟨b, 0, none⟩), s40, s41, s42, s43, s44, s45, s46, dgA D, by simp [hsz], rfl, { bel := hU.below hI.bel hI.bel.size gb, kc0 := fun u => hI.kc0 (up_set u (by decide)), kc1 := fun u => hI.kc1 (up_set u (by decide)), kc2 := fun u v => absurd (up_mono (hdep 3 (by decide +kernel)) (by decide)) v, kc3 := fun u => hI.kc3 (up_set u (by decide)), kc4 := fun u => hI.kc4 (up_set u (by decide)), kc5 := fun u => hI.kc5 (up_set u (by decide)), kc6 := fun u v => absurd (up_mono (hdep 7 (by decide +kernel)) (by decide)) v, kc7 := fun u => hI.kc7 (up_set u (by decide)), kc8 := fun u => by obtain ⟨b2, D2, e2, g2, l2, B2, u2⟩ := hI.kc8 (up_set u (by decide)); exact ⟨b2, D2, e2, g2, l2, hU.blk B2 (fun hx => by subst hx; first | exact hI.kc89 (hdep 8 (by decide +kernel)) (hdep 9 (by decide +kernel)) e2.symm | exact hI.kc89 (hdep 8 (by decide +kernel)) (hdep 9 (by decide +kernel)) e2), fun z => u2 (up_set z (by decide))⟩, kc9 := fun _ => ⟨b, D, rfl, gb, dD.2, hF, fun _ => ⟨dD, vD⟩⟩, kc89 := fun u v => hI.kc89 (up_set u (by decide)) (up_set v (by decide)), kc10 := fun u => up_mono (hI.kc10 (up_set u (by decide))) (by decide), kc11 := fun _ => up_mono (hdep 9 (by decide +kernel)) (by decide) }⟩
      -- END10
      have HBv : Hid (Dg B ∧ val B = C.b) := ⟨HB.out.2.2.2.2.1, HB.out.2.2.2.2.2⟩
      -- REGION11
      obtain ⟨b8, b9, D8, D9, rfl, rfl, HD⟩ := hcut
      obtain ⟨wd, hwd⟩ : ∃ x, x = wc := ⟨_, rfl⟩
      subst hwd
      clear HB
      have lP13 : Dg P := HPd.out.1
      have HM : Hid (∀ (A Z : List Int) (W : World), Dg A → Dg Z → val A < val P → val Z < val P → Calls Try.prog 58 #[(.agg (fdC l P).toArray), dgA A, dgA Z] W fun e w' => ∃ D, e = .returned (dgA D) ∧ Dg D ∧ val D = (val A * val Z) % val P ∧ Below W.heap.size W w') := fun A Z W hA hZ vA vZ => rmul_any l P A Z lP13 hA hZ (by have := HL.out; omega) HL.out.2.2 (by have h1 := val_lt (lim_u32 C.p); rw [val_lim, HL.out.1] at h1; rw [HPd.out.2]; exact h1) vA vZ
      have HA : Hid (∀ (A Z : List Int) (W : World), Dg A → Dg Z → val A < val P → val Z < val P → Calls Try.prog 61 #[(.agg (fdC l P).toArray), dgA A, dgA Z] W fun e w' => ∃ D, e = .returned (dgA D) ∧ Dg D ∧ val D = (val A + val Z) % val P ∧ Below W.heap.size W w') := fun A Z W hA hZ vA vZ => radd_any l P A Z lP13 hA hZ (by rw [HPd.out.2]; have := HPp.out.2.1; omega) vA vZ
      have HS : Hid (∀ (A Z : List Int) (W : World), Dg A → Dg Z → val A < val P → val Z < val P → Calls Try.prog 59 #[(.agg (fdC l P).toArray), dgA A, dgA Z] W fun e w' => ∃ D, e = .returned (dgA D) ∧ Dg D ∧ val D = (val A - val Z) % val P ∧ Below W.heap.size W w') := fun A Z W hA hZ vA vZ => rsub_any l P A Z lP13 hA hZ (by rw [HPd.out.2]; have := HPp.out.2.1; omega) vA vZ
      have HPpos : Hid (0 < val P ∧ ∀ z : Int, z % val P < val P) := ⟨by rw [HPd.out.2]; have := HPp.out.1; omega, fun z => Int.emod_lt_of_pos z (by rw [HPd.out.2]; have := HPp.out.1; omega)⟩
      have HVs : Hid (val D8 < val P ∧ val D9 < val P ∧ val B < val P) := ⟨by rw [HD.out.2.2.2.2.2.2.1, HPd.out.2]; exact HV2.out.2.2.1, by rw [HD.out.2.2.2.2.2.2.2.2, HPd.out.2]; exact HV2.out.2.2.2, by rw [HBv.out.2, HPd.out.2]; have := HPp.out.2.2; omega⟩
      clear lP13
      obtain ⟨e7, he7⟩ : ∃ e, (val D8 * val D8) % val P = e := ⟨_, rfl⟩
      obtain ⟨e8, he8⟩ : ∃ e, (val D8 * e7) % val P = e := ⟨_, rfl⟩
      obtain ⟨e14, he14⟩ : ∃ e, (val D8 + val D8) % val P = e := ⟨_, rfl⟩
      obtain ⟨e15, he15⟩ : ∃ e, (val D8 + e14) % val P = e := ⟨_, rfl⟩
      obtain ⟨e16, he16⟩ : ∃ e, (e8 - e15) % val P = e := ⟨_, rfl⟩
      obtain ⟨e18, he18⟩ : ∃ e, (e16 + val B) % val P = e := ⟨_, rfl⟩
      have HE : Hid ((val D8 * val D8) % val P = e7 ∧ (val D8 * e7) % val P = e8 ∧ (val D8 + val D8) % val P = e14 ∧ (val D8 + e14) % val P = e15 ∧ (e8 - e15) % val P = e16 ∧ (e16 + val B) % val P = e18) := ⟨he7, he8, he14, he15, he16, he18⟩
      have HEl : Hid (e7 < val P ∧ e8 < val P ∧ e14 < val P ∧ e15 < val P ∧ e16 < val P ∧ e18 < val P) := ⟨he7 ▸ HPpos.out.2 _, he8 ▸ HPpos.out.2 _, he14 ▸ HPpos.out.2 _, he15 ▸ HPpos.out.2 _, he16 ▸ HPpos.out.2 _, he18 ▸ HPpos.out.2 _⟩
      clear he7 he8 he14 he15 he16 he18
      go_wp2_with fail
      go_cut [10] from 11 (fun s10 we => ∃ b10 D10, s10 = .pointer (some ⟨b10, 0, none⟩) ∧ Hid (Below wd.heap.size wd we ∧ Blk 64 we b10 (dgC D10) ∧ Dg D10 ∧ val D10 = e18))
      case first =>
        refine wp_region_inv (fun L a W => ∃ s10 s48 s49 s50 s51 s52 s53 s54 s55 s56 s57 s58 s59 s60 s61 s62 s63 s64 s65 s66, L.size = 21 ∧ a = { tmps := List.toArray (.int .i64 c :: .agg #[.slice a1 n1 c1, .slice a2 n2 c2] :: undef :: .pointer (some ⟨w.heap.size, 0, none⟩) :: .bool false :: .slice qa l qc :: .pointer (some ⟨w5.heap.size, 0, none⟩) :: .pointer (some ⟨w7.heap.size, 0, none⟩) :: .pointer (some ⟨b8, 0, none⟩) :: .pointer (some ⟨b9, 0, none⟩) :: s10 :: u11 :: u12 :: u13 :: u14 :: u15 :: u16 :: u17 :: u18 :: u19 :: u20 :: u21 :: u22 :: u23 :: u24 :: u25 :: u26 :: u27 :: u28 :: u29 :: u30 :: u31 :: u32 :: u33 :: u34 :: u35 :: u36 :: u37 :: u38 :: u39 :: u40 :: u41 :: u42 :: u43 :: u44 :: u45 :: u46 :: u47 :: s48 :: s49 :: s50 :: s51 :: s52 :: s53 :: s54 :: s55 :: s56 :: s57 :: s58 :: s59 :: s60 :: s61 :: s62 :: s63 :: s64 :: s65 :: s66 :: u67 :: u68 :: u69 :: u70 :: u71 :: u72 :: []), defers := [] } ∧ Inv11 wd (.agg (fdC l P).toArray) D8 B e7 e8 e14 e15 e16 e18 L s10 s48 s49 s50 s51 s52 s53 s54 s55 s56 s57 s58 s59 s60 s61 s62 s63 s64 s65 s66 W) (by kernel_rfl) (by kernel_rfl) ?_ ?_ ?_
        · refine ⟨undef, u48, u49, u50, u51, u52, u53, u54, u55, u56, u57, u58, u59, u60, u61, u62, u63, u64, u65, u66, by simp, rfl, ?_⟩
          exact { bel := Below.drew (Below.refl _ _), k0 := fun u => absurd u not_up_new, k1 := fun u => absurd u not_up_new, k2 := fun u => absurd u not_up_new, k3 := fun u => absurd u not_up_new, k4 := fun u => absurd u not_up_new, k5 := fun u => absurd u not_up_new, k6 := fun u => absurd u not_up_new, k7 := fun u => absurd u not_up_new, k8 := fun u => absurd u not_up_new, k9 := fun u => absurd u not_up_new, k10 := fun u => absurd u not_up_new, k11 := fun u => absurd u not_up_new, k12 := fun u => absurd u not_up_new, k13 := fun u => absurd u not_up_new, k14 := fun u => absurd u not_up_new, k15 := fun u => absurd u not_up_new, k16 := fun u => absurd u not_up_new, k17 := fun u => absurd u not_up_new, k18 := fun u => absurd u not_up_new, k19 := fun u => absurd u not_up_new, k20 := fun u => absurd u not_up_new }
        · rintro L a W hup ⟨s10, s48, s49, s50, s51, s52, s53, s54, s55, s56, s57, s58, s59, s60, s61, s62, s63, s64, s65, s66, hsz, rfl, hI⟩
          obtain ⟨b10, D10, rfl, g10, l10, B10, u10⟩ := hI.k19 (hup 19 (by decide))
          have v10 := u10 (hup 20 (by decide))
          have HZ : Hid (Below wd.heap.size wd W ∧ Blk 64 W b10 (dgC D10) ∧ Dg D10 ∧ val D10 = e18) := ⟨hI.bel, B10, v10.1, v10.2⟩
          clear hI B10 v10 u10
          go_wp2
          go_meet
          case rel => exact ⟨b10, D10, rfl, HZ.out⟩
        · rintro i L a W hi hno hdep ⟨s10, s48, s49, s50, s51, s52, s53, s54, s55, s56, s57, s58, s59, s60, s61, s62, s63, s64, s65, s66, hsz, rfl, hI⟩
          have hlt : ∀ k, k < 21 → k < L.size := fun k hk => by omega
          replace hi : i < 21 := hi
          obtain rfl | rfl | rfl | rfl | rfl | rfl | rfl | rfl | rfl | rfl | rfl | rfl | rfl | rfl | rfl | rfl | rfl | rfl | rfl | rfl | rfl : i = 0 ∨ i = 1 ∨ i = 2 ∨ i = 3 ∨ i = 4 ∨ i = 5 ∨ i = 6 ∨ i = 7 ∨ i = 8 ∨ i = 9 ∨ i = 10 ∨ i = 11 ∨ i = 12 ∨ i = 13 ∨ i = 14 ∨ i = 15 ∨ i = 16 ∨ i = 17 ∨ i = 18 ∨ i = 19 ∨ i = 20 := by omega
          · have HI : Hid (Inv11 wd (.agg (fdC l P).toArray) D8 B e7 e8 e14 e15 e16 e18 L s10 s48 s49 s50 s51 s52 s53 s54 s55 s56 s57 s58 s59 s60 s61 s62 s63 s64 s65 s66 W) := hI
            clear hI
            refine wpOp_step rfl (fun K hK => ?_)
            rw [if_pos (by rfl)]
            refine wp_load_mid _ _ rfl w5.heap.size 0 rfl (fdC l P) _ (below_blk HI.out.bel HD.out.2.1.lt HD.out.2.1).whole Try.underlying66 rfl (by rw [Try.sizeFd]; simp [fdC, HPd.out.1.2]) ?_
            replace hI := HI.out
            simp only [Act.put, List.setIfInBounds_toArray]
            exact hK _ _ ⟨s10, (.agg (fdC l P).toArray), s49, s50, s51, s52, s53, s54, s55, s56, s57, s58, s59, s60, s61, s62, s63, s64, s65, s66, by simp [hsz], rfl, { bel := hI.bel, k0 := fun _ => rfl, k1 := fun u => hI.k1 (up_set u (by decide)), k2 := fun u => hI.k2 (up_set u (by decide)), k3 := fun u => hI.k3 (up_set u (by decide)), k4 := fun u => hI.k4 (up_set u (by decide)), k5 := fun u => hI.k5 (up_set u (by decide)), k6 := fun u => hI.k6 (up_set u (by decide)), k7 := fun u => hI.k7 (up_set u (by decide)), k8 := fun u => hI.k8 (up_set u (by decide)), k9 := fun u => hI.k9 (up_set u (by decide)), k10 := fun u => hI.k10 (up_set u (by decide)), k11 := fun u => hI.k11 (up_set u (by decide)), k12 := fun u => hI.k12 (up_set u (by decide)), k13 := fun u => hI.k13 (up_set u (by decide)), k14 := fun u => hI.k14 (up_set u (by decide)), k15 := fun u => hI.k15 (up_set u (by decide)), k16 := fun u => hI.k16 (up_set u (by decide)), k17 := fun u => hI.k17 (up_set u (by decide)), k18 := fun u => hI.k18 (up_set u (by decide)), k19 := fun u => by obtain ⟨b, D, e, hl, hd, hB, hu⟩ := hI.k19 (up_set u (by decide)); exact ⟨b, D, e, hl, hd, hB, fun z => hu (up_set z (by decide))⟩, k20 := fun u => up_mono (hI.k20 (up_set u (by decide))) (by decide) }⟩
          · have HI : Hid (Inv11 wd (.agg (fdC l P).toArray) D8 B e7 e8 e14 e15 e16 e18 L s10 s48 s49 s50 s51 s52 s53 s54 s55 s56 s57 s58 s59 s60 s61 s62 s63 s64 s65 s66 W) := hI
            clear hI
            refine wpOp_step rfl (fun K hK => ?_)
            rw [if_pos (by rfl)]
            refine wp_load_mid _ _ rfl w5.heap.size 0 rfl (fdC l P) _ (below_blk HI.out.bel HD.out.2.1.lt HD.out.2.1).whole Try.underlying66 rfl (by rw [Try.sizeFd]; simp [fdC, HPd.out.1.2]) ?_
            replace hI := HI.out
            simp only [Act.put, List.setIfInBounds_toArray]
            exact hK _ _ ⟨s10, s48, (.agg (fdC l P).toArray), s50, s51, s52, s53, s54, s55, s56, s57, s58, s59, s60, s61, s62, s63, s64, s65, s66, by simp [hsz], rfl, { bel := hI.bel, k0 := fun u => hI.k0 (up_set u (by decide)), k1 := fun _ => rfl, k2 := fun u => hI.k2 (up_set u (by decide)), k3 := fun u => hI.k3 (up_set u (by decide)), k4 := fun u => hI.k4 (up_set u (by decide)), k5 := fun u => hI.k5 (up_set u (by decide)), k6 := fun u => hI.k6 (up_set u (by decide)), k7 := fun u => hI.k7 (up_set u (by decide)), k8 := fun u => hI.k8 (up_set u (by decide)), k9 := fun u => hI.k9 (up_set u (by decide)), k10 := fun u => hI.k10 (up_set u (by decide)), k11 := fun u => hI.k11 (up_set u (by decide)), k12 := fun u => hI.k12 (up_set u (by decide)), k13 := fun u => hI.k13 (up_set u (by decide)), k14 := fun u => hI.k14 (up_set u (by decide)), k15 := fun u => hI.k15 (up_set u (by decide)), k16 := fun u => hI.k16 (up_set u (by decide)), k17 := fun u => hI.k17 (up_set u (by decide)), k18 := fun u => hI.k18 (up_set u (by decide)), k19 := fun u => by obtain ⟨b, D, e, hl, hd, hB, hu⟩ := hI.k19 (up_set u (by decide)); exact ⟨b, D, e, hl, hd, hB, fun z => hu (up_set z (by decide))⟩, k20 := fun u => up_mono (hI.k20 (up_set u (by decide))) (by decide) }⟩
          · have HI : Hid (Inv11 wd (.agg (fdC l P).toArray) D8 B e7 e8 e14 e15 e16 e18 L s10 s48 s49 s50 s51 s52 s53 s54 s55 s56 s57 s58 s59 s60 s61 s62 s63 s64 s65 s66 W) := hI
            clear hI
            refine wpOp_step rfl (fun K hK => ?_)
            rw [if_pos (by rfl)]
            refine wp_load_mid _ _ rfl w5.heap.size 0 rfl (fdC l P) _ (below_blk HI.out.bel HD.out.2.1.lt HD.out.2.1).whole Try.underlying66 rfl (by rw [Try.sizeFd]; simp [fdC, HPd.out.1.2]) ?_
            replace hI := HI.out
            simp only [Act.put, List.setIfInBounds_toArray]
            exact hK _ _ ⟨s10, s48, s49, (.agg (fdC l P).toArray), s51, s52, s53, s54, s55, s56, s57, s58, s59, s60, s61, s62, s63, s64, s65, s66, by simp [hsz], rfl, { bel := hI.bel, k0 := fun u => hI.k0 (up_set u (by decide)), k1 := fun u => hI.k1 (up_set u (by decide)), k2 := fun _ => rfl, k3 := fun u => hI.k3 (up_set u (by decide)), k4 := fun u => hI.k4 (up_set u (by decide)), k5 := fun u => hI.k5 (up_set u (by decide)), k6 := fun u => hI.k6 (up_set u (by decide)), k7 := fun u => hI.k7 (up_set u (by decide)), k8 := fun u => hI.k8 (up_set u (by decide)), k9 := fun u => hI.k9 (up_set u (by decide)), k10 := fun u => hI.k10 (up_set u (by decide)), k11 := fun u => hI.k11 (up_set u (by decide)), k12 := fun u => hI.k12 (up_set u (by decide)), k13 := fun u => hI.k13 (up_set u (by decide)), k14 := fun u => hI.k14 (up_set u (by decide)), k15 := fun u => hI.k15 (up_set u (by decide)), k16 := fun u => hI.k16 (up_set u (by decide)), k17 := fun u => hI.k17 (up_set u (by decide)), k18 := fun u => hI.k18 (up_set u (by decide)), k19 := fun u => by obtain ⟨b, D, e, hl, hd, hB, hu⟩ := hI.k19 (up_set u (by decide)); exact ⟨b, D, e, hl, hd, hB, fun z => hu (up_set z (by decide))⟩, k20 := fun u => up_mono (hI.k20 (up_set u (by decide))) (by decide) }⟩
          · have HI : Hid (Inv11 wd (.agg (fdC l P).toArray) D8 B e7 e8 e14 e15 e16 e18 L s10 s48 s49 s50 s51 s52 s53 s54 s55 s56 s57 s58 s59 s60 s61 s62 s63 s64 s65 s66 W) := hI
            clear hI
            refine wpOp_step rfl (fun K hK => ?_)
            rw [if_pos (by rfl)]
            refine wp_load_mid _ _ rfl b8 0 rfl (dgC D8) _ (below_blk HI.out.bel HD.out.2.2.2.1.lt HD.out.2.2.2.1).whole Try.underlying64 rfl (dgC_size HD.out.2.2.2.2.2.1.2) ?_
            replace hI := HI.out
            simp only [Act.put, List.setIfInBounds_toArray]
            exact hK _ _ ⟨s10, s48, s49, s50, dgA D8, s52, s53, s54, s55, s56, s57, s58, s59, s60, s61, s62, s63, s64, s65, s66, by simp [hsz], rfl, { bel := hI.bel, k0 := fun u => hI.k0 (up_set u (by decide)), k1 := fun u => hI.k1 (up_set u (by decide)), k2 := fun u => hI.k2 (up_set u (by decide)), k3 := fun _ => rfl, k4 := fun u => hI.k4 (up_set u (by decide)), k5 := fun u => hI.k5 (up_set u (by decide)), k6 := fun u => hI.k6 (up_set u (by decide)), k7 := fun u => hI.k7 (up_set u (by decide)), k8 := fun u => hI.k8 (up_set u (by decide)), k9 := fun u => hI.k9 (up_set u (by decide)), k10 := fun u => hI.k10 (up_set u (by decide)), k11 := fun u => hI.k11 (up_set u (by decide)), k12 := fun u => hI.k12 (up_set u (by decide)), k13 := fun u => hI.k13 (up_set u (by decide)), k14 := fun u => hI.k14 (up_set u (by decide)), k15 := fun u => hI.k15 (up_set u (by decide)), k16 := fun u => hI.k16 (up_set u (by decide)), k17 := fun u => hI.k17 (up_set u (by decide)), k18 := fun u => hI.k18 (up_set u (by decide)), k19 := fun u => by obtain ⟨b, D, e, hl, hd, hB, hu⟩ := hI.k19 (up_set u (by decide)); exact ⟨b, D, e, hl, hd, hB, fun z => hu (up_set z (by decide))⟩, k20 := fun u => up_mono (hI.k20 (up_set u (by decide))) (by decide) }⟩
          · have HI : Hid (Inv11 wd (.agg (fdC l P).toArray) D8 B e7 e8 e14 e15 e16 e18 L s10 s48 s49 s50 s51 s52 s53 s54 s55 s56 s57 s58 s59 s60 s61 s62 s63 s64 s65 s66 W) := hI
            clear hI
            refine wpOp_step rfl (fun K hK => ?_)
            rw [if_pos (by rfl)]
            refine wp_load_mid _ _ rfl w5.heap.size 0 rfl (fdC l P) _ (below_blk HI.out.bel HD.out.2.1.lt HD.out.2.1).whole Try.underlying66 rfl (by rw [Try.sizeFd]; simp [fdC, HPd.out.1.2]) ?_
            replace hI := HI.out
            simp only [Act.put, List.setIfInBounds_toArray]
            exact hK _ _ ⟨s10, s48, s49, s50, s51, (.agg (fdC l P).toArray), s53, s54, s55, s56, s57, s58, s59, s60, s61, s62, s63, s64, s65, s66, by simp [hsz], rfl, { bel := hI.bel, k0 := fun u => hI.k0 (up_set u (by decide)), k1 := fun u => hI.k1 (up_set u (by decide)), k2 := fun u => hI.k2 (up_set u (by decide)), k3 := fun u => hI.k3 (up_set u (by decide)), k4 := fun _ => rfl, k5 := fun u => hI.k5 (up_set u (by decide)), k6 := fun u => hI.k6 (up_set u (by decide)), k7 := fun u => hI.k7 (up_set u (by decide)), k8 := fun u => hI.k8 (up_set u (by decide)), k9 := fun u => hI.k9 (up_set u (by decide)), k10 := fun u => hI.k10 (up_set u (by decide)), k11 := fun u => hI.k11 (up_set u (by decide)), k12 := fun u => hI.k12 (up_set u (by decide)), k13 := fun u => hI.k13 (up_set u (by decide)), k14 := fun u => hI.k14 (up_set u (by decide)), k15 := fun u => hI.k15 (up_set u (by decide)), k16 := fun u => hI.k16 (up_set u (by decide)), k17 := fun u => hI.k17 (up_set u (by decide)), k18 := fun u => hI.k18 (up_set u (by decide)), k19 := fun u => by obtain ⟨b, D, e, hl, hd, hB, hu⟩ := hI.k19 (up_set u (by decide)); exact ⟨b, D, e, hl, hd, hB, fun z => hu (up_set z (by decide))⟩, k20 := fun u => up_mono (hI.k20 (up_set u (by decide))) (by decide) }⟩
          · have HI : Hid (Inv11 wd (.agg (fdC l P).toArray) D8 B e7 e8 e14 e15 e16 e18 L s10 s48 s49 s50 s51 s52 s53 s54 s55 s56 s57 s58 s59 s60 s61 s62 s63 s64 s65 s66 W) := hI
            clear hI
            refine wpOp_step rfl (fun K hK => ?_)
            rw [if_pos (by rfl)]
            refine wp_load_mid _ _ rfl b8 0 rfl (dgC D8) _ (below_blk HI.out.bel HD.out.2.2.2.1.lt HD.out.2.2.2.1).whole Try.underlying64 rfl (dgC_size HD.out.2.2.2.2.2.1.2) ?_
            replace hI := HI.out
            simp only [Act.put, List.setIfInBounds_toArray]
            exact hK _ _ ⟨s10, s48, s49, s50, s51, s52, dgA D8, s54, s55, s56, s57, s58, s59, s60, s61, s62, s63, s64, s65, s66, by simp [hsz], rfl, { bel := hI.bel, k0 := fun u => hI.k0 (up_set u (by decide)), k1 := fun u => hI.k1 (up_set u (by decide)), k2 := fun u => hI.k2 (up_set u (by decide)), k3 := fun u => hI.k3 (up_set u (by decide)), k4 := fun u => hI.k4 (up_set u (by decide)), k5 := fun _ => rfl, k6 := fun u => hI.k6 (up_set u (by decide)), k7 := fun u => hI.k7 (up_set u (by decide)), k8 := fun u => hI.k8 (up_set u (by decide)), k9 := fun u => hI.k9 (up_set u (by decide)), k10 := fun u => hI.k10 (up_set u (by decide)), k11 := fun u => hI.k11 (up_set u (by decide)), k12 := fun u => hI.k12 (up_set u (by decide)), k13 := fun u => hI.k13 (up_set u (by decide)), k14 := fun u => hI.k14 (up_set u (by decide)), k15 := fun u => hI.k15 (up_set u (by decide)), k16 := fun u => hI.k16 (up_set u (by decide)), k17 := fun u => hI.k17 (up_set u (by decide)), k18 := fun u => hI.k18 (up_set u (by decide)), k19 := fun u => by obtain ⟨b, D, e, hl, hd, hB, hu⟩ := hI.k19 (up_set u (by decide)); exact ⟨b, D, e, hl, hd, hB, fun z => hu (up_set z (by decide))⟩, k20 := fun u => up_mono (hI.k20 (up_set u (by decide))) (by decide) }⟩
          · have HI : Hid (Inv11 wd (.agg (fdC l P).toArray) D8 B e7 e8 e14 e15 e16 e18 L s10 s48 s49 s50 s51 s52 s53 s54 s55 s56 s57 s58 s59 s60 s61 s62 s63 s64 s65 s66 W) := hI
            clear hI
            refine wpOp_step rfl (fun K hK => ?_)
            rw [if_pos (by rfl)]
            refine wp_load_mid _ _ rfl b8 0 rfl (dgC D8) _ (below_blk HI.out.bel HD.out.2.2.2.1.lt HD.out.2.2.2.1).whole Try.underlying64 rfl (dgC_size HD.out.2.2.2.2.2.1.2) ?_
            replace hI := HI.out
            simp only [Act.put, List.setIfInBounds_toArray]
            exact hK _ _ ⟨s10, s48, s49, s50, s51, s52, s53, dgA D8, s55, s56, s57, s58, s59, s60, s61, s62, s63, s64, s65, s66, by simp [hsz], rfl, { bel := hI.bel, k0 := fun u => hI.k0 (up_set u (by decide)), k1 := fun u => hI.k1 (up_set u (by decide)), k2 := fun u => hI.k2 (up_set u (by decide)), k3 := fun u => hI.k3 (up_set u (by decide)), k4 := fun u => hI.k4 (up_set u (by decide)), k5 := fun u => hI.k5 (up_set u (by decide)), k6 := fun _ => rfl, k7 := fun u => hI.k7 (up_set u (by decide)), k8 := fun u => hI.k8 (up_set u (by decide)), k9 := fun u => hI.k9 (up_set u (by decide)), k10 := fun u => hI.k10 (up_set u (by decide)), k11 := fun u => hI.k11 (up_set u (by decide)), k12 := fun u => hI.k12 (up_set u (by decide)), k13 := fun u => hI.k13 (up_set u (by decide)), k14 := fun u => hI.k14 (up_set u (by decide)), k15 := fun u => hI.k15 (up_set u (by decide)), k16 := fun u => hI.k16 (up_set u (by decide)), k17 := fun u => hI.k17 (up_set u (by decide)), k18 := fun u => hI.k18 (up_set u (by decide)), k19 := fun u => by obtain ⟨b, D, e, hl, hd, hB, hu⟩ := hI.k19 (up_set u (by decide)); exact ⟨b, D, e, hl, hd, hB, fun z => hu (up_set z (by decide))⟩, k20 := fun u => up_mono (hI.k20 (up_set u (by decide))) (by decide) }⟩
          · have HI : Hid (Inv11 wd (.agg (fdC l P).toArray) D8 B e7 e8 e14 e15 e16 e18 L s10 s48 s49 s50 s51 s52 s53 s54 s55 s56 s57 s58 s59 s60 s61 s62 s63 s64 s65 s66 W) := hI
            clear hI
            obtain rfl := HI.out.k4 (hdep 4 (by decide +kernel))
            obtain rfl := HI.out.k5 (hdep 5 (by decide +kernel))
            obtain rfl := HI.out.k6 (hdep 6 (by decide +kernel))
            refine wpOp_step rfl (fun K hK => ?_)
            go_simp
            refine (HM.out D8 D8 W HD.out.2.2.2.2.2.1 HD.out.2.2.2.2.2.1 HVs.out.1 HVs.out.1).mono ?_
            rintro e W' ⟨D, rfl, dD, vD, hb⟩
            replace vD : val D = e7 := by rw [vD]; exact HE.out.1
            replace hI := HI.out.to hb
            simp only []
            go_simp
            exact hK _ _ ⟨s10, s48, s49, s50, s51, (.agg (fdC l P).toArray), dgA D8, dgA D8, dgA D, s56, s57, s58, s59, s60, s61, s62, s63, s64, s65, s66, by simp [hsz], rfl, { bel := hI.bel, k0 := fun u => hI.k0 (up_set u (by decide)), k1 := fun u => hI.k1 (up_set u (by decide)), k2 := fun u => hI.k2 (up_set u (by decide)), k3 := fun u => hI.k3 (up_set u (by decide)), k4 := fun u => hI.k4 (up_set u (by decide)), k5 := fun u => hI.k5 (up_set u (by decide)), k6 := fun u => hI.k6 (up_set u (by decide)), k7 := fun _ => ⟨D, rfl, dD, vD⟩, k8 := fun u => hI.k8 (up_set u (by decide)), k9 := fun u => hI.k9 (up_set u (by decide)), k10 := fun u => hI.k10 (up_set u (by decide)), k11 := fun u => hI.k11 (up_set u (by decide)), k12 := fun u => hI.k12 (up_set u (by decide)), k13 := fun u => hI.k13 (up_set u (by decide)), k14 := fun u => hI.k14 (up_set u (by decide)), k15 := fun u => hI.k15 (up_set u (by decide)), k16 := fun u => hI.k16 (up_set u (by decide)), k17 := fun u => hI.k17 (up_set u (by decide)), k18 := fun u => hI.k18 (up_set u (by decide)), k19 := fun u => by obtain ⟨b, D, e, hl, hd, hB, hu⟩ := hI.k19 (up_set u (by decide)); exact ⟨b, D, e, hl, hd, hB, fun z => hu (up_set z (by decide))⟩, k20 := fun u => up_mono (hI.k20 (up_set u (by decide))) (by decide) }⟩
          · have HI : Hid (Inv11 wd (.agg (fdC l P).toArray) D8 B e7 e8 e14 e15 e16 e18 L s10 s48 s49 s50 s51 s52 s53 s54 s55 s56 s57 s58 s59 s60 s61 s62 s63 s64 s65 s66 W) := hI
            clear hI
            obtain rfl := HI.out.k2 (hdep 2 (by decide +kernel))
            obtain rfl := HI.out.k3 (hdep 3 (by decide +kernel))
            obtain ⟨DZ, rfl, dZ, vZ⟩ := HI.out.k7 (hdep 7 (by decide +kernel))
            have HZD : Hid (Dg DZ ∧ val DZ = e7) := ⟨dZ, vZ⟩
            clear dZ vZ
            refine wpOp_step rfl (fun K hK => ?_)
            go_simp
            refine (HM.out D8 DZ W HD.out.2.2.2.2.2.1 HZD.out.1 HVs.out.1 (by rw [HZD.out.2]; exact HEl.out.1)).mono ?_
            rintro e W' ⟨D, rfl, dD, vD, hb⟩
            replace vD : val D = e8 := by rw [vD, HZD.out.2]; exact HE.out.2.1
            replace hI := HI.out.to hb
            simp only []
            go_simp
            exact hK _ _ ⟨s10, s48, s49, (.agg (fdC l P).toArray), dgA D8, s52, s53, s54, dgA DZ, dgA D, s57, s58, s59, s60, s61, s62, s63, s64, s65, s66, by simp [hsz], rfl, { bel := hI.bel, k0 := fun u => hI.k0 (up_set u (by decide)), k1 := fun u => hI.k1 (up_set u (by decide)), k2 := fun u => hI.k2 (up_set u (by decide)), k3 := fun u => hI.k3 (up_set u (by decide)), k4 := fun u => hI.k4 (up_set u (by decide)), k5 := fun u => hI.k5 (up_set u (by decide)), k6 := fun u => hI.k6 (up_set u (by decide)), k7 := fun u => hI.k7 (up_set u (by decide)), k8 := fun _ => ⟨D, rfl, dD, vD⟩, k9 := fun u => hI.k9 (up_set u (by decide)), k10 := fun u => hI.k10 (up_set u (by decide)), k11 := fun u => hI.k11 (up_set u (by decide)), k12 := fun u => hI.k12 (up_set u (by decide)), k13 := fun u => hI.k13 (up_set u (by decide)), k14 := fun u => hI.k14 (up_set u (by decide)), k15 := fun u => hI.k15 (up_set u (by decide)), k16 := fun u => hI.k16 (up_set u (by decide)), k17 := fun u => hI.k17 (up_set u (by decide)), k18 := fun u => hI.k18 (up_set u (by decide)), k19 := fun u => by obtain ⟨b, D, e, hl, hd, hB, hu⟩ := hI.k19 (up_set u (by decide)); exact ⟨b, D, e, hl, hd, hB, fun z => hu (up_set z (by decide))⟩, k20 := fun u => up_mono (hI.k20 (up_set u (by decide))) (by decide) }⟩
          · have HI : Hid (Inv11 wd (.agg (fdC l P).toArray) D8 B e7 e8 e14 e15 e16 e18 L s10 s48 s49 s50 s51 s52 s53 s54 s55 s56 s57 s58 s59 s60 s61 s62 s63 s64 s65 s66 W) := hI
            clear hI
            refine wpOp_step rfl (fun K hK => ?_)
            rw [if_pos (by rfl)]
            refine wp_load_mid _ _ rfl w5.heap.size 0 rfl (fdC l P) _ (below_blk HI.out.bel HD.out.2.1.lt HD.out.2.1).whole Try.underlying66 rfl (by rw [Try.sizeFd]; simp [fdC, HPd.out.1.2]) ?_
            replace hI := HI.out
            simp only [Act.put, List.setIfInBounds_toArray]
            exact hK _ _ ⟨s10, s48, s49, s50, s51, s52, s53, s54, s55, s56, (.agg (fdC l P).toArray), s58, s59, s60, s61, s62, s63, s64, s65, s66, by simp [hsz], rfl, { bel := hI.bel, k0 := fun u => hI.k0 (up_set u (by decide)), k1 := fun u => hI.k1 (up_set u (by decide)), k2 := fun u => hI.k2 (up_set u (by decide)), k3 := fun u => hI.k3 (up_set u (by decide)), k4 := fun u => hI.k4 (up_set u (by decide)), k5 := fun u => hI.k5 (up_set u (by decide)), k6 := fun u => hI.k6 (up_set u (by decide)), k7 := fun u => hI.k7 (up_set u (by decide)), k8 := fun u => hI.k8 (up_set u (by decide)), k9 := fun _ => rfl, k10 := fun u => hI.k10 (up_set u (by decide)), k11 := fun u => hI.k11 (up_set u (by decide)), k12 := fun u => hI.k12 (up_set u (by decide)), k13 := fun u => hI.k13 (up_set u (by decide)), k14 := fun u => hI.k14 (up_set u (by decide)), k15 := fun u => hI.k15 (up_set u (by decide)), k16 := fun u => hI.k16 (up_set u (by decide)), k17 := fun u => hI.k17 (up_set u (by decide)), k18 := fun u => hI.k18 (up_set u (by decide)), k19 := fun u => by obtain ⟨b, D, e, hl, hd, hB, hu⟩ := hI.k19 (up_set u (by decide)); exact ⟨b, D, e, hl, hd, hB, fun z => hu (up_set z (by decide))⟩, k20 := fun u => up_mono (hI.k20 (up_set u (by decide))) (by decide) }⟩
          · have HI : Hid (Inv11 wd (.agg (fdC l P).toArray) D8 B e7 e8 e14 e15 e16 e18 L s10 s48 s49 s50 s51 s52 s53 s54 s55 s56 s57 s58 s59 s60 s61 s62 s63 s64 s65 s66 W) := hI
            clear hI
            refine wpOp_step rfl (fun K hK => ?_)
            rw [if_pos (by rfl)]
            refine wp_load_mid _ _ rfl b8 0 rfl (dgC D8) _ (below_blk HI.out.bel HD.out.2.2.2.1.lt HD.out.2.2.2.1).whole Try.underlying64 rfl (dgC_size HD.out.2.2.2.2.2.1.2) ?_
            replace hI := HI.out
            simp only [Act.put, List.setIfInBounds_toArray]
            exact hK _ _ ⟨s10, s48, s49, s50, s51, s52, s53, s54, s55, s56, s57, dgA D8, s59, s60, s61, s62, s63, s64, s65, s66, by simp [hsz], rfl, { bel := hI.bel, k0 := fun u => hI.k0 (up_set u (by decide)), k1 := fun u => hI.k1 (up_set u (by decide)), k2 := fun u => hI.k2 (up_set u (by decide)), k3 := fun u => hI.k3 (up_set u (by decide)), k4 := fun u => hI.k4 (up_set u (by decide)), k5 := fun u => hI.k5 (up_set u (by decide)), k6 := fun u => hI.k6 (up_set u (by decide)), k7 := fun u => hI.k7 (up_set u (by decide)), k8 := fun u => hI.k8 (up_set u (by decide)), k9 := fun u => hI.k9 (up_set u (by decide)), k10 := fun _ => rfl, k11 := fun u => hI.k11 (up_set u (by decide)), k12 := fun u => hI.k12 (up_set u (by decide)), k13 := fun u => hI.k13 (up_set u (by decide)), k14 := fun u => hI.k14 (up_set u (by decide)), k15 := fun u => hI.k15 (up_set u (by decide)), k16 := fun u => hI.k16 (up_set u (by decide)), k17 := fun u => hI.k17 (up_set u (by decide)), k18 := fun u => hI.k18 (up_set u (by decide)), k19 := fun u => by obtain ⟨b, D, e, hl, hd, hB, hu⟩ := hI.k19 (up_set u (by decide)); exact ⟨b, D, e, hl, hd, hB, fun z => hu (up_set z (by decide))⟩, k20 := fun u => up_mono (hI.k20 (up_set u (by decide))) (by decide) }⟩
          · have HI : Hid (Inv11 wd (.agg (fdC l P).toArray) D8 B e7 e8 e14 e15 e16 e18 L s10 s48 s49 s50 s51 s52 s53 s54 s55 s56 s57 s58 s59 s60 s61 s62 s63 s64 s65 s66 W) := hI
            clear hI
            refine wpOp_step rfl (fun K hK => ?_)
            rw [if_pos (by rfl)]
            refine wp_load_mid _ _ rfl w5.heap.size 0 rfl (fdC l P) _ (below_blk HI.out.bel HD.out.2.1.lt HD.out.2.1).whole Try.underlying66 rfl (by rw [Try.sizeFd]; simp [fdC, HPd.out.1.2]) ?_
            replace hI := HI.out
            simp only [Act.put, List.setIfInBounds_toArray]
            exact hK _ _ ⟨s10, s48, s49, s50, s51, s52, s53, s54, s55, s56, s57, s58, (.agg (fdC l P).toArray), s60, s61, s62, s63, s64, s65, s66, by simp [hsz], rfl, { bel := hI.bel, k0 := fun u => hI.k0 (up_set u (by decide)), k1 := fun u => hI.k1 (up_set u (by decide)), k2 := fun u => hI.k2 (up_set u (by decide)), k3 := fun u => hI.k3 (up_set u (by decide)), k4 := fun u => hI.k4 (up_set u (by decide)), k5 := fun u => hI.k5 (up_set u (by decide)), k6 := fun u => hI.k6 (up_set u (by decide)), k7 := fun u => hI.k7 (up_set u (by decide)), k8 := fun u => hI.k8 (up_set u (by decide)), k9 := fun u => hI.k9 (up_set u (by decide)), k10 := fun u => hI.k10 (up_set u (by decide)), k11 := fun _ => rfl, k12 := fun u => hI.k12 (up_set u (by decide)), k13 := fun u => hI.k13 (up_set u (by decide)), k14 := fun u => hI.k14 (up_set u (by decide)), k15 := fun u => hI.k15 (up_set u (by decide)), k16 := fun u => hI.k16 (up_set u (by decide)), k17 := fun u => hI.k17 (up_set u (by decide)), k18 := fun u => hI.k18 (up_set u (by decide)), k19 := fun u => by obtain ⟨b, D, e, hl, hd, hB, hu⟩ := hI.k19 (up_set u (by decide)); exact ⟨b, D, e, hl, hd, hB, fun z => hu (up_set z (by decide))⟩, k20 := fun u => up_mono (hI.k20 (up_set u (by decide))) (by decide) }⟩
          · have HI : Hid (Inv11 wd (.agg (fdC l P).toArray) D8 B e7 e8 e14 e15 e16 e18 L s10 s48 s49 s50 s51 s52 s53 s54 s55 s56 s57 s58 s59 s60 s61 s62 s63 s64 s65 s66 W) := hI
            clear hI
            refine wpOp_step rfl (fun K hK => ?_)
            rw [if_pos (by rfl)]
            refine wp_load_mid _ _ rfl b8 0 rfl (dgC D8) _ (below_blk HI.out.bel HD.out.2.2.2.1.lt HD.out.2.2.2.1).whole Try.underlying64 rfl (dgC_size HD.out.2.2.2.2.2.1.2) ?_
            replace hI := HI.out
            simp only [Act.put, List.setIfInBounds_toArray]
            exact hK _ _ ⟨s10, s48, s49, s50, s51, s52, s53, s54, s55, s56, s57, s58, s59, dgA D8, s61, s62, s63, s64, s65, s66, by simp [hsz], rfl, { bel := hI.bel, k0 := fun u => hI.k0 (up_set u (by decide)), k1 := fun u => hI.k1 (up_set u (by decide)), k2 := fun u => hI.k2 (up_set u (by decide)), k3 := fun u => hI.k3 (up_set u (by decide)), k4 := fun u => hI.k4 (up_set u (by decide)), k5 := fun u => hI.k5 (up_set u (by decide)), k6 := fun u => hI.k6 (up_set u (by decide)), k7 := fun u => hI.k7 (up_set u (by decide)), k8 := fun u => hI.k8 (up_set u (by decide)), k9 := fun u => hI.k9 (up_set u (by decide)), k10 := fun u => hI.k10 (up_set u (by decide)), k11 := fun u => hI.k11 (up_set u (by decide)), k12 := fun _ => rfl, k13 := fun u => hI.k13 (up_set u (by decide)), k14 := fun u => hI.k14 (up_set u (by decide)), k15 := fun u => hI.k15 (up_set u (by decide)), k16 := fun u => hI.k16 (up_set u (by decide)), k17 := fun u => hI.k17 (up_set u (by decide)), k18 := fun u => hI.k18 (up_set u (by decide)), k19 := fun u => by obtain ⟨b, D, e, hl, hd, hB, hu⟩ := hI.k19 (up_set u (by decide)); exact ⟨b, D, e, hl, hd, hB, fun z => hu (up_set z (by decide))⟩, k20 := fun u => up_mono (hI.k20 (up_set u (by decide))) (by decide) }⟩
          · have HI : Hid (Inv11 wd (.agg (fdC l P).toArray) D8 B e7 e8 e14 e15 e16 e18 L s10 s48 s49 s50 s51 s52 s53 s54 s55 s56 s57 s58 s59 s60 s61 s62 s63 s64 s65 s66 W) := hI
            clear hI
            refine wpOp_step rfl (fun K hK => ?_)
            rw [if_pos (by rfl)]
            refine wp_load_mid _ _ rfl b8 0 rfl (dgC D8) _ (below_blk HI.out.bel HD.out.2.2.2.1.lt HD.out.2.2.2.1).whole Try.underlying64 rfl (dgC_size HD.out.2.2.2.2.2.1.2) ?_
            replace hI := HI.out
            simp only [Act.put, List.setIfInBounds_toArray]
            exact hK _ _ ⟨s10, s48, s49, s50, s51, s52, s53, s54, s55, s56, s57, s58, s59, s60, dgA D8, s62, s63, s64, s65, s66, by simp [hsz], rfl, { bel := hI.bel, k0 := fun u => hI.k0 (up_set u (by decide)), k1 := fun u => hI.k1 (up_set u (by decide)), k2 := fun u => hI.k2 (up_set u (by decide)), k3 := fun u => hI.k3 (up_set u (by decide)), k4 := fun u => hI.k4 (up_set u (by decide)), k5 := fun u => hI.k5 (up_set u (by decide)), k6 := fun u => hI.k6 (up_set u (by decide)), k7 := fun u => hI.k7 (up_set u (by decide)), k8 := fun u => hI.k8 (up_set u (by decide)), k9 := fun u => hI.k9 (up_set u (by decide)), k10 := fun u => hI.k10 (up_set u (by decide)), k11 := fun u => hI.k11 (up_set u (by decide)), k12 := fun u => hI.k12 (up_set u (by decide)), k13 := fun _ => rfl, k14 := fun u => hI.k14 (up_set u (by decide)), k15 := fun u => hI.k15 (up_set u (by decide)), k16 := fun u => hI.k16 (up_set u (by decide)), k17 := fun u => hI.k17 (up_set u (by decide)), k18 := fun u => hI.k18 (up_set u (by decide)), k19 := fun u => by obtain ⟨b, D, e, hl, hd, hB, hu⟩ := hI.k19 (up_set u (by decide)); exact ⟨b, D, e, hl, hd, hB, fun z => hu (up_set z (by decide))⟩, k20 := fun u => up_mono (hI.k20 (up_set u (by decide))) (by decide) }⟩
          · have HI : Hid (Inv11 wd (.agg (fdC l P).toArray) D8 B e7 e8 e14 e15 e16 e18 L s10 s48 s49 s50 s51 s52 s53 s54 s55 s56 s57 s58 s59 s60 s61 s62 s63 s64 s65 s66 W) := hI
            clear hI
            obtain rfl := HI.out.k11 (hdep 11 (by decide +kernel))
            obtain rfl := HI.out.k12 (hdep 12 (by decide +kernel))
            obtain rfl := HI.out.k13 (hdep 13 (by decide +kernel))
            refine wpOp_step rfl (fun K hK => ?_)
            go_simp
            refine (HA.out D8 D8 W HD.out.2.2.2.2.2.1 HD.out.2.2.2.2.2.1 HVs.out.1 HVs.out.1).mono ?_
            rintro e W' ⟨D, rfl, dD, vD, hb⟩
            replace vD : val D = e14 := by rw [vD]; exact HE.out.2.2.1
            replace hI := HI.out.to hb
            simp only []
            go_simp
            exact hK _ _ ⟨s10, s48, s49, s50, s51, s52, s53, s54, s55, s56, s57, s58, (.agg (fdC l P).toArray), dgA D8, dgA D8, dgA D, s63, s64, s65, s66, by simp [hsz], rfl, { bel := hI.bel, k0 := fun u => hI.k0 (up_set u (by decide)), k1 := fun u => hI.k1 (up_set u (by decide)), k2 := fun u => hI.k2 (up_set u (by decide)), k3 := fun u => hI.k3 (up_set u (by decide)), k4 := fun u => hI.k4 (up_set u (by decide)), k5 := fun u => hI.k5 (up_set u (by decide)), k6 := fun u => hI.k6 (up_set u (by decide)), k7 := fun u => hI.k7 (up_set u (by decide)), k8 := fun u => hI.k8 (up_set u (by decide)), k9 := fun u => hI.k9 (up_set u (by decide)), k10 := fun u => hI.k10 (up_set u (by decide)), k11 := fun u => hI.k11 (up_set u (by decide)), k12 := fun u => hI.k12 (up_set u (by decide)), k13 := fun u => hI.k13 (up_set u (by decide)), k14 := fun _ => ⟨D, rfl, dD, vD⟩, k15 := fun u => hI.k15 (up_set u (by decide)), k16 := fun u => hI.k16 (up_set u (by decide)), k17 := fun u => hI.k17 (up_set u (by decide)), k18 := fun u => hI.k18 (up_set u (by decide)), k19 := fun u => by obtain ⟨b, D, e, hl, hd, hB, hu⟩ := hI.k19 (up_set u (by decide)); exact ⟨b, D, e, hl, hd, hB, fun z => hu (up_set z (by decide))⟩, k20 := fun u => up_mono (hI.k20 (up_set u (by decide))) (by decide) }⟩
          · have HI : Hid (Inv11 wd (.agg (fdC l P).toArray) D8 B e7 e8 e14 e15 e16 e18 L s10 s48 s49 s50 s51 s52 s53 s54 s55 s56 s57 s58 s59 s60 s61 s62 s63 s64 s65 s66 W) := hI
            clear hI
            obtain rfl := HI.out.k9 (hdep 9 (by decide +kernel))
            obtain rfl := HI.out.k10 (hdep 10 (by decide +kernel))
            obtain ⟨DZ, rfl, dZ, vZ⟩ := HI.out.k14 (hdep 14 (by decide +kernel))
            have HZD : Hid (Dg DZ ∧ val DZ = e14) := ⟨dZ, vZ⟩
            clear dZ vZ
            refine wpOp_step rfl (fun K hK => ?_)
            go_simp
            refine (HA.out D8 DZ W HD.out.2.2.2.2.2.1 HZD.out.1 HVs.out.1 (by rw [HZD.out.2]; exact HEl.out.2.2.1)).mono ?_
            rintro e W' ⟨D, rfl, dD, vD, hb⟩
            replace vD : val D = e15 := by rw [vD, HZD.out.2]; exact HE.out.2.2.2.1
            replace hI := HI.out.to hb
            simp only []
            go_simp
            exact hK _ _ ⟨s10, s48, s49, s50, s51, s52, s53, s54, s55, s56, (.agg (fdC l P).toArray), dgA D8, s59, s60, s61, dgA DZ, dgA D, s64, s65, s66, by simp [hsz], rfl, { bel := hI.bel, k0 := fun u => hI.k0 (up_set u (by decide)), k1 := fun u => hI.k1 (up_set u (by decide)), k2 := fun u => hI.k2 (up_set u (by decide)), k3 := fun u => hI.k3 (up_set u (by decide)), k4 := fun u => hI.k4 (up_set u (by decide)), k5 := fun u => hI.k5 (up_set u (by decide)), k6 := fun u => hI.k6 (up_set u (by decide)), k7 := fun u => hI.k7 (up_set u (by decide)), k8 := fun u => hI.k8 (up_set u (by decide)), k9 := fun u => hI.k9 (up_set u (by decide)), k10 := fun u => hI.k10 (up_set u (by decide)), k11 := fun u => hI.k11 (up_set u (by decide)), k12 := fun u => hI.k12 (up_set u (by decide)), k13 := fun u => hI.k13 (up_set u (by decide)), k14 := fun u => hI.k14 (up_set u (by decide)), k15 := fun _ => ⟨D, rfl, dD, vD⟩, k16 := fun u => hI.k16 (up_set u (by decide)), k17 := fun u => hI.k17 (up_set u (by decide)), k18 := fun u => hI.k18 (up_set u (by decide)), k19 := fun u => by obtain ⟨b, D, e, hl, hd, hB, hu⟩ := hI.k19 (up_set u (by decide)); exact ⟨b, D, e, hl, hd, hB, fun z => hu (up_set z (by decide))⟩, k20 := fun u => up_mono (hI.k20 (up_set u (by decide))) (by decide) }⟩
          · have HI : Hid (Inv11 wd (.agg (fdC l P).toArray) D8 B e7 e8 e14 e15 e16 e18 L s10 s48 s49 s50 s51 s52 s53 s54 s55 s56 s57 s58 s59 s60 s61 s62 s63 s64 s65 s66 W) := hI
            clear hI
            obtain rfl := HI.out.k1 (hdep 1 (by decide +kernel))
            obtain ⟨DA, rfl, dA, vA⟩ := HI.out.k8 (hdep 8 (by decide +kernel))
            have HAD : Hid (Dg DA ∧ val DA = e8) := ⟨dA, vA⟩
            clear dA vA
            obtain ⟨DZ, rfl, dZ, vZ⟩ := HI.out.k15 (hdep 15 (by decide +kernel))
            have HZD : Hid (Dg DZ ∧ val DZ = e15) := ⟨dZ, vZ⟩
            clear dZ vZ
            refine wpOp_step rfl (fun K hK => ?_)
            go_simp
            refine (HS.out DA DZ W HAD.out.1 HZD.out.1 (by rw [HAD.out.2]; exact HEl.out.2.1) (by rw [HZD.out.2]; exact HEl.out.2.2.2.1)).mono ?_
            rintro e W' ⟨D, rfl, dD, vD, hb⟩
            replace vD : val D = e16 := by rw [vD, HAD.out.2, HZD.out.2]; exact HE.out.2.2.2.2.1
            replace hI := HI.out.to hb
            simp only []
            go_simp
            exact hK _ _ ⟨s10, s48, (.agg (fdC l P).toArray), s50, s51, s52, s53, s54, s55, dgA DA, s57, s58, s59, s60, s61, s62, dgA DZ, dgA D, s65, s66, by simp [hsz], rfl, { bel := hI.bel, k0 := fun u => hI.k0 (up_set u (by decide)), k1 := fun u => hI.k1 (up_set u (by decide)), k2 := fun u => hI.k2 (up_set u (by decide)), k3 := fun u => hI.k3 (up_set u (by decide)), k4 := fun u => hI.k4 (up_set u (by decide)), k5 := fun u => hI.k5 (up_set u (by decide)), k6 := fun u => hI.k6 (up_set u (by decide)), k7 := fun u => hI.k7 (up_set u (by decide)), k8 := fun u => hI.k8 (up_set u (by decide)), k9 := fun u => hI.k9 (up_set u (by decide)), k10 := fun u => hI.k10 (up_set u (by decide)), k11 := fun u => hI.k11 (up_set u (by decide)), k12 := fun u => hI.k12 (up_set u (by decide)), k13 := fun u => hI.k13 (up_set u (by decide)), k14 := fun u => hI.k14 (up_set u (by decide)), k15 := fun u => hI.k15 (up_set u (by decide)), k16 := fun _ => ⟨D, rfl, dD, vD⟩, k17 := fun u => hI.k17 (up_set u (by decide)), k18 := fun u => hI.k18 (up_set u (by decide)), k19 := fun u => by obtain ⟨b, D, e, hl, hd, hB, hu⟩ := hI.k19 (up_set u (by decide)); exact ⟨b, D, e, hl, hd, hB, fun z => hu (up_set z (by decide))⟩, k20 := fun u => up_mono (hI.k20 (up_set u (by decide))) (by decide) }⟩
          · have HI : Hid (Inv11 wd (.agg (fdC l P).toArray) D8 B e7 e8 e14 e15 e16 e18 L s10 s48 s49 s50 s51 s52 s53 s54 s55 s56 s57 s58 s59 s60 s61 s62 s63 s64 s65 s66 W) := hI
            clear hI
            refine wpOp_step rfl (fun K hK => ?_)
            rw [if_pos (by rfl)]
            refine wp_load_mid _ _ rfl w7.heap.size 0 rfl (dgC B) _ (below_blk HI.out.bel HD.out.2.2.1.lt HD.out.2.2.1).whole Try.underlying64 rfl (dgC_size HBv.out.1.2) ?_
            replace hI := HI.out
            simp only [Act.put, List.setIfInBounds_toArray]
            exact hK _ _ ⟨s10, s48, s49, s50, s51, s52, s53, s54, s55, s56, s57, s58, s59, s60, s61, s62, s63, s64, dgA B, s66, by simp [hsz], rfl, { bel := hI.bel, k0 := fun u => hI.k0 (up_set u (by decide)), k1 := fun u => hI.k1 (up_set u (by decide)), k2 := fun u => hI.k2 (up_set u (by decide)), k3 := fun u => hI.k3 (up_set u (by decide)), k4 := fun u => hI.k4 (up_set u (by decide)), k5 := fun u => hI.k5 (up_set u (by decide)), k6 := fun u => hI.k6 (up_set u (by decide)), k7 := fun u => hI.k7 (up_set u (by decide)), k8 := fun u => hI.k8 (up_set u (by decide)), k9 := fun u => hI.k9 (up_set u (by decide)), k10 := fun u => hI.k10 (up_set u (by decide)), k11 := fun u => hI.k11 (up_set u (by decide)), k12 := fun u => hI.k12 (up_set u (by decide)), k13 := fun u => hI.k13 (up_set u (by decide)), k14 := fun u => hI.k14 (up_set u (by decide)), k15 := fun u => hI.k15 (up_set u (by decide)), k16 := fun u => hI.k16 (up_set u (by decide)), k17 := fun _ => rfl, k18 := fun u => hI.k18 (up_set u (by decide)), k19 := fun u => by obtain ⟨b, D, e, hl, hd, hB, hu⟩ := hI.k19 (up_set u (by decide)); exact ⟨b, D, e, hl, hd, hB, fun z => hu (up_set z (by decide))⟩, k20 := fun u => up_mono (hI.k20 (up_set u (by decide))) (by decide) }⟩
          · have HI : Hid (Inv11 wd (.agg (fdC l P).toArray) D8 B e7 e8 e14 e15 e16 e18 L s10 s48 s49 s50 s51 s52 s53 s54 s55 s56 s57 s58 s59 s60 s61 s62 s63 s64 s65 s66 W) := hI
            clear hI
            obtain rfl := HI.out.k0 (hdep 0 (by decide +kernel))
            obtain ⟨DA, rfl, dA, vA⟩ := HI.out.k16 (hdep 16 (by decide +kernel))
            have HAD : Hid (Dg DA ∧ val DA = e16) := ⟨dA, vA⟩
            clear dA vA
            obtain rfl := HI.out.k17 (hdep 17 (by decide +kernel))
            refine wpOp_step rfl (fun K hK => ?_)
            go_simp
            refine (HA.out DA B W HAD.out.1 HBv.out.1 (by rw [HAD.out.2]; exact HEl.out.2.2.2.2.1) HVs.out.2.2).mono ?_
            rintro e W' ⟨D, rfl, dD, vD, hb⟩
            replace vD : val D = e18 := by rw [vD, HAD.out.2]; exact HE.out.2.2.2.2.2
            replace hI := HI.out.to hb
            simp only []
            go_simp
            exact hK _ _ ⟨s10, (.agg (fdC l P).toArray), s49, s50, s51, s52, s53, s54, s55, s56, s57, s58, s59, s60, s61, s62, s63, dgA DA, dgA B, dgA D, by simp [hsz], rfl, { bel := hI.bel, k0 := fun u => hI.k0 (up_set u (by decide)), k1 := fun u => hI.k1 (up_set u (by decide)), k2 := fun u => hI.k2 (up_set u (by decide)), k3 := fun u => hI.k3 (up_set u (by decide)), k4 := fun u => hI.k4 (up_set u (by decide)), k5 := fun u => hI.k5 (up_set u (by decide)), k6 := fun u => hI.k6 (up_set u (by decide)), k7 := fun u => hI.k7 (up_set u (by decide)), k8 := fun u => hI.k8 (up_set u (by decide)), k9 := fun u => hI.k9 (up_set u (by decide)), k10 := fun u => hI.k10 (up_set u (by decide)), k11 := fun u => hI.k11 (up_set u (by decide)), k12 := fun u => hI.k12 (up_set u (by decide)), k13 := fun u => hI.k13 (up_set u (by decide)), k14 := fun u => hI.k14 (up_set u (by decide)), k15 := fun u => hI.k15 (up_set u (by decide)), k16 := fun u => hI.k16 (up_set u (by decide)), k17 := fun u => hI.k17 (up_set u (by decide)), k18 := fun _ => ⟨D, rfl, dD, vD⟩, k19 := fun u => by obtain ⟨b, D, e, hl, hd, hB, hu⟩ := hI.k19 (up_set u (by decide)); exact ⟨b, D, e, hl, hd, hB, fun z => hu (up_set z (by decide))⟩, k20 := fun u => up_mono (hI.k20 (up_set u (by decide))) (by decide) }⟩
          · have HI : Hid (Inv11 wd (.agg (fdC l P).toArray) D8 B e7 e8 e14 e15 e16 e18 L s10 s48 s49 s50 s51 s52 s53 s54 s55 s56 s57 s58 s59 s60 s61 s62 s63 s64 s65 s66 W) := hI
            clear hI
            refine wpOp_step rfl (fun K hK => ?_)
            go_simp
            replace hI := HI.out.to (al1 (w := W) (.cells z13.toArray 64))
            exact hK _ _ ⟨.pointer (some ⟨W.heap.size, 0, none⟩), s48, s49, s50, s51, s52, s53, s54, s55, s56, s57, s58, s59, s60, s61, s62, s63, s64, s65, s66, by simp [hsz], rfl, { bel := hI.bel, k0 := fun u => hI.k0 (up_set u (by decide)), k1 := fun u => hI.k1 (up_set u (by decide)), k2 := fun u => hI.k2 (up_set u (by decide)), k3 := fun u => hI.k3 (up_set u (by decide)), k4 := fun u => hI.k4 (up_set u (by decide)), k5 := fun u => hI.k5 (up_set u (by decide)), k6 := fun u => hI.k6 (up_set u (by decide)), k7 := fun u => hI.k7 (up_set u (by decide)), k8 := fun u => hI.k8 (up_set u (by decide)), k9 := fun u => hI.k9 (up_set u (by decide)), k10 := fun u => hI.k10 (up_set u (by decide)), k11 := fun u => hI.k11 (up_set u (by decide)), k12 := fun u => hI.k12 (up_set u (by decide)), k13 := fun u => hI.k13 (up_set u (by decide)), k14 := fun u => hI.k14 (up_set u (by decide)), k15 := fun u => hI.k15 (up_set u (by decide)), k16 := fun u => hI.k16 (up_set u (by decide)), k17 := fun u => hI.k17 (up_set u (by decide)), k18 := fun u => hI.k18 (up_set u (by decide)), k19 := fun _ => ⟨W.heap.size, List.replicate 13 0, rfl, HI.out.bel.size, by simp, Blk.new _ W z13, fun u => absurd (HI.out.k20 (up_set u (by decide))) hno⟩, k20 := fun _ => by unfold Up; simp [hlt] }⟩
          · have HI : Hid (Inv11 wd (.agg (fdC l P).toArray) D8 B e7 e8 e14 e15 e16 e18 L s10 s48 s49 s50 s51 s52 s53 s54 s55 s56 s57 s58 s59 s60 s61 s62 s63 s64 s65 s66 W) := hI
            clear hI
            obtain ⟨b, D0, rfl, gb, l0, B0, _⟩ := HI.out.k19 (hdep 19 (by decide +kernel))
            obtain ⟨D, rfl, dD, vD⟩ := HI.out.k18 (hdep 18 (by decide +kernel))
            have HB0 : Hid (Blk 64 W b (dgC D0) ∧ wd.heap.size ≤ b ∧ D0.length = 13 ∧ Dg D ∧ val D = e18) := ⟨B0, gb, l0, dD, vD⟩
            clear B0 gb l0 dD vD
            refine wpOp_step rfl (fun K hK => ?_)
            rw [if_pos (by rfl)]
            refine wp_store_mid _ _ _ rfl b 0 (dgC D).toArray rfl rfl (HB0.out.1.there 0 _ (by simp [dgC_len, HB0.out.2.2.1, HB0.out.2.2.2.1.2])) (dgC_size2 HB0.out.2.2.2.1.2) (dgC_one D) ?_
            obtain ⟨hB0, gb, l0, dD, vD⟩ := HB0.out
            have hU : Upd W (W.setCells b 0 (dgC D)) b := Upd.setCells (dgC D) 0 W
            have hF : Blk 64 (W.setCells b 0 (dgC D)) b (dgC D) := hB0.fill (dgC D) (by simp [dgC_len, l0, dD.2])
            have hI := HI.out
            simp only [Act.put, List.setIfInBounds_toArray]
            exact hK _ _ ⟨.pointer (some ⟨b, 0, none⟩), s48, s49, s50, s51, s52, s53, s54, s55, s56, s57, s58, s59, s60, s61, s62, s63, s64, s65, dgA D, by simp [hsz], rfl, { bel := hU.below hI.bel hI.bel.size gb, k0 := fun u => hI.k0 (up_set u (by decide)), k1 := fun u => hI.k1 (up_set u (by decide)), k2 := fun u => hI.k2 (up_set u (by decide)), k3 := fun u => hI.k3 (up_set u (by decide)), k4 := fun u => hI.k4 (up_set u (by decide)), k5 := fun u => hI.k5 (up_set u (by decide)), k6 := fun u => hI.k6 (up_set u (by decide)), k7 := fun u => hI.k7 (up_set u (by decide)), k8 := fun u => hI.k8 (up_set u (by decide)), k9 := fun u => hI.k9 (up_set u (by decide)), k10 := fun u => hI.k10 (up_set u (by decide)), k11 := fun u => hI.k11 (up_set u (by decide)), k12 := fun u => hI.k12 (up_set u (by decide)), k13 := fun u => hI.k13 (up_set u (by decide)), k14 := fun u => hI.k14 (up_set u (by decide)), k15 := fun u => hI.k15 (up_set u (by decide)), k16 := fun u => hI.k16 (up_set u (by decide)), k17 := fun u => hI.k17 (up_set u (by decide)), k18 := fun u => hI.k18 (up_set u (by decide)), k19 := fun _ => ⟨b, D, rfl, gb, dD.2, hF, fun _ => ⟨dD, vD⟩⟩, k20 := fun _ => up_mono (hdep 19 (by decide +kernel)) (by decide) }⟩
      obtain ⟨b10, D10, rfl, HT⟩ := hcut
      obtain ⟨we, hwe⟩ : ∃ x, x = wc := ⟨_, rfl⟩
      subst hwe
      go_wp2_with fail
      -- END11
      -- REGION12
      obtain ⟨ey, hey⟩ : ∃ e, (val D9 * val D9) % val P = e := ⟨_, rfl⟩
      obtain ⟨r, hr⟩ : ∃ r, decide (ey = e18) = r := ⟨_, rfl⟩
      have HEy : Hid ((val D9 * val D9) % val P = ey ∧ decide (ey = e18) = r) := ⟨hey, hr⟩
      clear hey hr
      go_cut [4] from 11 (fun s4 wz => s4 = .bool r ∧ Hid (Below we.heap.size we wz))
      case first =>
        refine wp_region_inv (fun L a W => ∃ s4 s67 s68 s69 s70 s71 s72, L.size = 7 ∧ a = { tmps := List.toArray (.int .i64 c :: .agg #[.slice a1 n1 c1, .slice a2 n2 c2] :: undef :: .pointer (some ⟨w.heap.size, 0, none⟩) :: s4 :: .slice qa l qc :: .pointer (some ⟨w5.heap.size, 0, none⟩) :: .pointer (some ⟨w7.heap.size, 0, none⟩) :: .pointer (some ⟨b8, 0, none⟩) :: .pointer (some ⟨b9, 0, none⟩) :: .pointer (some ⟨b10, 0, none⟩) :: u11 :: u12 :: u13 :: u14 :: u15 :: u16 :: u17 :: u18 :: u19 :: u20 :: u21 :: u22 :: u23 :: u24 :: u25 :: u26 :: u27 :: u28 :: u29 :: u30 :: u31 :: u32 :: u33 :: u34 :: u35 :: u36 :: u37 :: u38 :: u39 :: u40 :: u41 :: u42 :: u43 :: u44 :: u45 :: u46 :: u47 :: u48 :: u49 :: u50 :: u51 :: u52 :: u53 :: u54 :: u55 :: u56 :: u57 :: u58 :: u59 :: u60 :: u61 :: u62 :: u63 :: u64 :: u65 :: u66 :: s67 :: s68 :: s69 :: s70 :: s71 :: s72 :: []), defers := [] } ∧ Inv12 we (.agg (fdC l P).toArray) D9 D10 ey r L s4 s67 s68 s69 s70 s71 s72 W) (by kernel_rfl) (by kernel_rfl) ?_ ?_ ?_
        · refine ⟨.bool false, u67, u68, u69, u70, u71, u72, by simp, rfl, ?_⟩
          exact { bel := Below.drew (Below.refl _ _), k0 := fun u => absurd u not_up_new, k1 := fun u => absurd u not_up_new, k2 := fun u => absurd u not_up_new, k3 := fun u => absurd u not_up_new, k4 := fun u => absurd u not_up_new, k5 := fun u => absurd u not_up_new, k6 := fun u => absurd u not_up_new }
        · rintro L a W hup ⟨s4, s67, s68, s69, s70, s71, s72, hsz, rfl, hI⟩
          obtain rfl := hI.k6 (hup 6 (by decide))
          have HZ : Hid (Below we.heap.size we W) := hI.bel
          clear hI
          go_wp2
          go_meet
          case rel => exact ⟨rfl, HZ.out⟩
        · rintro i L a W hi hno hdep ⟨s4, s67, s68, s69, s70, s71, s72, hsz, rfl, hI⟩
          replace hi : i < 7 := hi
          obtain rfl | rfl | rfl | rfl | rfl | rfl | rfl : i = 0 ∨ i = 1 ∨ i = 2 ∨ i = 3 ∨ i = 4 ∨ i = 5 ∨ i = 6 := by omega
          · have HI : Hid (Inv12 we (.agg (fdC l P).toArray) D9 D10 ey r L s4 s67 s68 s69 s70 s71 s72 W) := hI
            clear hI
            refine wpOp_step rfl (fun K hK => ?_)
            rw [if_pos (by rfl)]
            refine wp_load_mid _ _ rfl w5.heap.size 0 rfl (fdC l P) _ (below_blk (below_via HT.out.1 HI.out.bel (Nat.le_refl _)) HD.out.2.1.lt HD.out.2.1).whole Try.underlying66 rfl (by rw [Try.sizeFd]; simp [fdC, HPd.out.1.2]) ?_
            replace hI := HI.out
            simp only [Act.put, List.setIfInBounds_toArray]
            exact hK _ _ ⟨s4, (.agg (fdC l P).toArray), s68, s69, s70, s71, s72, by simp [hsz], rfl, { bel := hI.bel, k0 := fun _ => rfl, k1 := fun u => hI.k1 (up_set u (by decide)), k2 := fun u => hI.k2 (up_set u (by decide)), k3 := fun u => hI.k3 (up_set u (by decide)), k4 := fun u => hI.k4 (up_set u (by decide)), k5 := fun u => hI.k5 (up_set u (by decide)), k6 := fun u => hI.k6 (up_set u (by decide)) }⟩
          · have HI : Hid (Inv12 we (.agg (fdC l P).toArray) D9 D10 ey r L s4 s67 s68 s69 s70 s71 s72 W) := hI
            clear hI
            refine wpOp_step rfl (fun K hK => ?_)
            rw [if_pos (by rfl)]
            refine wp_load_mid _ _ rfl b9 0 rfl (dgC D9) _ (below_blk (below_via HT.out.1 HI.out.bel (Nat.le_refl _)) HD.out.2.2.2.2.1.lt HD.out.2.2.2.2.1).whole Try.underlying64 rfl (dgC_size HD.out.2.2.2.2.2.2.2.1.2) ?_
            replace hI := HI.out
            simp only [Act.put, List.setIfInBounds_toArray]
            exact hK _ _ ⟨s4, s67, dgA D9, s69, s70, s71, s72, by simp [hsz], rfl, { bel := hI.bel, k0 := fun u => hI.k0 (up_set u (by decide)), k1 := fun _ => rfl, k2 := fun u => hI.k2 (up_set u (by decide)), k3 := fun u => hI.k3 (up_set u (by decide)), k4 := fun u => hI.k4 (up_set u (by decide)), k5 := fun u => hI.k5 (up_set u (by decide)), k6 := fun u => hI.k6 (up_set u (by decide)) }⟩
          · have HI : Hid (Inv12 we (.agg (fdC l P).toArray) D9 D10 ey r L s4 s67 s68 s69 s70 s71 s72 W) := hI
            clear hI
            refine wpOp_step rfl (fun K hK => ?_)
            rw [if_pos (by rfl)]
            refine wp_load_mid _ _ rfl b9 0 rfl (dgC D9) _ (below_blk (below_via HT.out.1 HI.out.bel (Nat.le_refl _)) HD.out.2.2.2.2.1.lt HD.out.2.2.2.2.1).whole Try.underlying64 rfl (dgC_size HD.out.2.2.2.2.2.2.2.1.2) ?_
            replace hI := HI.out
            simp only [Act.put, List.setIfInBounds_toArray]
            exact hK _ _ ⟨s4, s67, s68, dgA D9, s70, s71, s72, by simp [hsz], rfl, { bel := hI.bel, k0 := fun u => hI.k0 (up_set u (by decide)), k1 := fun u => hI.k1 (up_set u (by decide)), k2 := fun _ => rfl, k3 := fun u => hI.k3 (up_set u (by decide)), k4 := fun u => hI.k4 (up_set u (by decide)), k5 := fun u => hI.k5 (up_set u (by decide)), k6 := fun u => hI.k6 (up_set u (by decide)) }⟩
          · have HI : Hid (Inv12 we (.agg (fdC l P).toArray) D9 D10 ey r L s4 s67 s68 s69 s70 s71 s72 W) := hI
            clear hI
            obtain rfl := HI.out.k0 (hdep 0 (by decide +kernel))
            obtain rfl := HI.out.k1 (hdep 1 (by decide +kernel))
            obtain rfl := HI.out.k2 (hdep 2 (by decide +kernel))
            refine wpOp_step rfl (fun K hK => ?_)
            go_simp
            refine (HM.out D9 D9 W HD.out.2.2.2.2.2.2.2.1 HD.out.2.2.2.2.2.2.2.1 HVs.out.2.1 HVs.out.2.1).mono ?_
            rintro e W' ⟨D, rfl, dD, vD, hb⟩
            replace vD : val D = ey := by rw [vD]; exact HEy.out.1
            replace hI := HI.out.to hb
            simp only []
            go_simp
            exact hK _ _ ⟨s4, (.agg (fdC l P).toArray), dgA D9, dgA D9, dgA D, s71, s72, by simp [hsz], rfl, { bel := hI.bel, k0 := fun u => hI.k0 (up_set u (by decide)), k1 := fun u => hI.k1 (up_set u (by decide)), k2 := fun u => hI.k2 (up_set u (by decide)), k3 := fun _ => ⟨D, rfl, dD, vD⟩, k4 := fun u => hI.k4 (up_set u (by decide)), k5 := fun u => hI.k5 (up_set u (by decide)), k6 := fun u => hI.k6 (up_set u (by decide)) }⟩
          · have HI : Hid (Inv12 we (.agg (fdC l P).toArray) D9 D10 ey r L s4 s67 s68 s69 s70 s71 s72 W) := hI
            clear hI
            refine wpOp_step rfl (fun K hK => ?_)
            rw [if_pos (by rfl)]
            refine wp_load_mid _ _ rfl b10 0 rfl (dgC D10) _ (below_blk HI.out.bel HT.out.2.1.lt HT.out.2.1).whole Try.underlying64 rfl (dgC_size HT.out.2.2.1.2) ?_
            replace hI := HI.out
            simp only [Act.put, List.setIfInBounds_toArray]
            exact hK _ _ ⟨s4, s67, s68, s69, s70, dgA D10, s72, by simp [hsz], rfl, { bel := hI.bel, k0 := fun u => hI.k0 (up_set u (by decide)), k1 := fun u => hI.k1 (up_set u (by decide)), k2 := fun u => hI.k2 (up_set u (by decide)), k3 := fun u => hI.k3 (up_set u (by decide)), k4 := fun _ => rfl, k5 := fun u => hI.k5 (up_set u (by decide)), k6 := fun u => hI.k6 (up_set u (by decide)) }⟩
          · have HI : Hid (Inv12 we (.agg (fdC l P).toArray) D9 D10 ey r L s4 s67 s68 s69 s70 s71 s72 W) := hI
            clear hI
            obtain ⟨D, rfl, dD, vD⟩ := HI.out.k3 (hdep 3 (by decide +kernel))
            obtain rfl := HI.out.k4 (hdep 4 (by decide +kernel))
            have hq := eql_dg W D D10 dD HT.out.2.2.1
            rw [vD, HT.out.2.2.2, HEy.out.2] at hq
            have hg := eqg_dg W D D10 (.tmp 70) (.tmp 71)
            refine wpOp_step rfl (fun K hK => ?_)
            go_simp
            replace hI := HI.out
            exact hK _ _ ⟨s4, s67, s68, s69, dgA D, dgA D10, .bool r, by simp [hsz], rfl, { bel := hI.bel, k0 := fun u => hI.k0 (up_set u (by decide)), k1 := fun u => hI.k1 (up_set u (by decide)), k2 := fun u => hI.k2 (up_set u (by decide)), k3 := fun u => hI.k3 (up_set u (by decide)), k4 := fun u => hI.k4 (up_set u (by decide)), k5 := fun _ => rfl, k6 := fun u => hI.k6 (up_set u (by decide)) }⟩
          · have HI : Hid (Inv12 we (.agg (fdC l P).toArray) D9 D10 ey r L s4 s67 s68 s69 s70 s71 s72 W) := hI
            clear hI
            obtain rfl := HI.out.k5 (hdep 5 (by decide +kernel))
            refine wpOp_step rfl (fun K hK => ?_)
            go_simp
            replace hI := HI.out
            exact hK _ _ ⟨.bool r, s67, s68, s69, s70, s71, .bool r, by simp [hsz], rfl, { bel := hI.bel, k0 := fun u => hI.k0 (up_set u (by decide)), k1 := fun u => hI.k1 (up_set u (by decide)), k2 := fun u => hI.k2 (up_set u (by decide)), k3 := fun u => hI.k3 (up_set u (by decide)), k4 := fun u => hI.k4 (up_set u (by decide)), k5 := fun u => hI.k5 (up_set u (by decide)), k6 := fun _ => rfl }⟩
      obtain ⟨rfl, HW⟩ := hcut
      have HFin : Hid (r = R ∧ Below w.heap.size w wc) := ⟨by rw [← HQ.out, ← HEy.out.2]; exact on_eq HPp.out.1 HV2.out HPd.out.2 HD.out.2.2.2.2.2.2.1 HD.out.2.2.2.2.2.2.2.2 HBv.out.2 HE.out HEy.out.1, below_via (below_via (below_via H1.out.2.2 HD.out.1 (Nat.le_refl _)) HT.out.1 (Nat.le_refl _)) HW.out (Nat.le_refl _)⟩
      go_wp2
      go_ret
      exact ⟨by rw [← HFin.out.1]; rfl, HFin.out.2⟩
      -- END12
end Go.Proofs.Ytkdclocjijmgpaa
