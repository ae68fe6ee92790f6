/-
  Curve: inverses; a triple's point.
-/
import Derived.Test.YteagdgbcfbkfbabK11
namespace Go.Proofs.Yteagdgbcfbkfbab
open Go.RowKit
set_option maxRecDepth 20000
theorem NInverse {w : World} (a b : Value) (x p : Nat) (ha : Nb w a x) (hb : Nb w b p) (hx : (lim x).length ≤ 512) (hp : (lim p).length ≤ 512) (h0 : 0 < p) (hg : Nat.gcd x p = 1) :
    Calls Try.prog 46 #[a, b] w fun e w' => ∃ r g, e = .returned (.tuple #[r, .int .i64 0]) ∧ Nb w' r g ∧ g < p ∧ x * g % p = 1 % p ∧ Below w.heap.size w w' := by
  refine (Nt.Inverse_any (lim x) (lim p) a b w ha hb (lim_u32 _) (lim_u32 _) (.inr Nt.long_ok)).mono ?_
  rintro e w' ⟨s, hs, ⟨r, rfl, ho⟩, hB⟩
  unfold Nt.InvS at hs
  rw [if_neg (by omega), val_lim, val_lim, if_neg (by omega)] at hs
  rcases hs with ⟨G, g0, g1, ⟨t, ht⟩, rfl⟩ | ⟨D, d1, dx, dp, _⟩
  · refine ⟨r, G.toNat, rfl, ho.sl, by omega, ?_, hB⟩
    have h1 : ((x * G.toNat : Nat) : Int) = 1 + (p : Int) * t := by rw [Int.natCast_mul, Int.toNat_of_nonneg g0]; exact ht
    have h2 : (((x * G.toNat) % p : Nat) : Int) = ((1 % p : Nat) : Int) := by
      rw [Int.natCast_emod, h1, Int.natCast_emod, Int.add_mul_emod_self_left]; rfl
    exact Int.ofNat.inj h2
  · exfalso
    obtain ⟨d, rfl⟩ : ∃ d : Nat, D = d := ⟨D.toNat, by omega⟩
    have e1 : d ∣ x := Int.natCast_dvd_natCast.1 dx
    have e2 : d ∣ p := Int.natCast_dvd_natCast.1 dp
    have e3 := Nat.dvd_gcd e1 e2
    rw [hg] at e3
    have := Nat.le_of_dvd (by decide) e3
    omega
/-- The point of a triple. -/
def jpt (p : Nat) (t : Nat × Nat × Nat) (X Y : Nat) : Prop :=
  (t.2.2 = 0 ∧ X = 0 ∧ Y = 0) ∨ (t.2.2 ≠ 0 ∧ ∃ g, g < p ∧ t.2.2 * g % p = 1 % p ∧ X = fml p t.1 (fml p g g) ∧ Y = fml p t.2.1 (fml p (fml p g g) g))
theorem jpt_lt {p : Nat} {t : Nat × Nat × Nat} {X Y : Nat} (h : jpt p t X Y) (h0 : 0 < p) : X < p ∧ Y < p := by
  rcases h with ⟨_, rfl, rfl⟩ | ⟨_, g, _, _, rfl, rfl⟩
  · exact ⟨h0, h0⟩
  · exact ⟨fml_lt h0, fml_lt h0⟩
theorem Try.sizePt : (Try.prog.info? 27).map (·.size) = some 2 := by kernel_rfl
theorem Blk.put2 {T : TypeId} {w : World} {b : Nat} {u0 u1 : Value} (h : Blk T w b [u0, u1]) (v0 v1 : Value) :
    Blk T ((w.setCell ⟨b, 0, none⟩ v0).setCell ⟨b, 1, none⟩ v1) b [v0, v1] ∧ Upd w ((w.setCell ⟨b, 0, none⟩ v0).setCell ⟨b, 1, none⟩ v1) b :=
  ⟨(h.set 0 v0).set 1 v1, (Upd.set w b 0 _).trans (Upd.set _ b 1 _)⟩
set_option maxHeartbeats 4000000 in
theorem Tpoint {w : World} (f rx ry rz : Value) (p x y z : Nat) (hf : Fld w f p) (hx : Nb w rx x) (hy : Nb w ry y) (hz : Nb w rz z) (lx : x < p) (ly : y < p) (lz : z < p) (hg : z ≠ 0 → Nat.gcd z p = 1) :
    Calls Try.prog 28 #[f, .agg #[rx, ry, rz]] w fun e w' => ∃ r0 r1 X Y, e = .returned (.agg #[r0, r1]) ∧ jpt p (x, y, z) X Y ∧ Nb w' r0 X ∧ Nb w' r1 Y ∧ Below w.heap.size w w' := by
  have HL : Hid (x < p ∧ y < p ∧ z < p) := ⟨lx, ly, lz⟩
  have HA : Hid (Fld w f p ∧ Nb w rx x ∧ Nb w ry y ∧ Nb w rz z) := ⟨hf, hx, hy, hz⟩
  have HG : Hid (z ≠ 0 → Nat.gcd z p = 1) := hg
  have HSm : Hid (Sm z ∧ Sm p) := ⟨sm_of hf.2.2 lz, by have := sm_two (x := 0) (y := p) hf.2.2 hf.2.1 (Nat.le_refl _); simpa using this⟩
  clear hf hx hy hz lx ly lz hg
  go_enter Try.func28, Try.ntmps28
  go_upto_region 1 with (refine wpList_boxR rfl 62 (.tmp 1) rfl #[rx, ry, rz] rfl ?_)
  refine wp_gen (fun W => Blk 62 W w.heap.size [rx, ry, rz] ∧ Blk 27 W (w.heap.size + 1) [.slice none 0 0, .slice none 0 0] ∧ Below w.heap.size w W) ⟨(Blk.new _ w [rx, ry, rz]).alloc _, by have := Blk.new 27 (w.alloc (.cells [rx, ry, rz].toArray 62)) [.slice none 0 0, .slice none 0 0]; rw [World.size_alloc] at this; exact this, (al1 _).alloc (by simp) _⟩ ?_
  rintro W2 ⟨hC, hB, hBw⟩
  have H2 : Hid (Below w.heap.size w W2 ∧ W2.rangeAt w.heap.size 0 [rx, ry, rz] ∧ ∀ W3, Below W2.heap.size W2 W3 → Blk 62 W3 w.heap.size [rx, ry, rz] ∧ Blk 27 W3 (w.heap.size + 1) [.slice none 0 0, .slice none 0 0] ∧ Below w.heap.size w W3) := ⟨hBw, hC.whole, fun W3 h3 => ⟨below_blk h3 hC.lt hC, below_blk h3 hB.lt hB, below_via hBw h3 (Nat.le_refl _)⟩⟩
  have HN : Hid (∀ c ∈ [Value.slice none 0 0, Value.slice none 0 0], ∀ n, c ≠ .int .u32 n) := by intro c hc; simp at hc; subst hc; intro n h; cases h
  clear hB hC hBw
  go_wp2_with (refine wpList_load_mid rfl 62 (.tmp 3) rfl w.heap.size 0 rfl [rx, ry, rz] _ H2.out.2.1 Try.underlying62 rfl (by kernel_rfl) ?_)
  refine (TisFar rx ry rz z (HA.out.2.2.2.below H2.out.1)).mono ?_
  rintro e w3 ⟨rfl, hb3⟩
  have H3 : Hid (Below W2.heap.size W2 w3) := hb3
  clear hb3
  by_cases h0 : z = 0
  · have dz : decide (z = 0) = true := by simpa using h0
    rw [dz]
    have hB3 := (H2.out.2.2 _ H3.out).2.1
    have d0 : w3.cell? ⟨w.heap.size + 1, 0, none⟩ = some (.slice none 0 0) := hB3.cell 0
    have d1 : w3.cell? ⟨w.heap.size + 1, 1, none⟩ = some (.slice none 0 0) := hB3.cell 1
    have g0 := hB3.frozen 0; have g1 := hB3.frozen 1
    have HZ : Hid (z = 0) := h0
    clear hB3 h0 dz
    go_wp2
    obtain ⟨hF, hU⟩ := Blk.put2 (H2.out.2.2 _ H3.out).2.1 (.slice none 0 0) (.slice none 0 0)
    have hbl := hU.below (H2.out.2.2 _ H3.out).2.2 (H2.out.2.2 _ H3.out).2.2.size (Nat.le_succ _)
    exact bodyPost_ret (v := .agg [.slice none 0 0, .slice none 0 0].toArray) (results_blk (b := w.heap.size + 1) (cs := [.slice none 0 0, .slice none 0 0]) rfl rfl hF Try.underlying27 rfl Try.sizePt) rfl ⟨_, _, 0, 0, rfl, .inl ⟨HZ.out, rfl, rfl⟩, nil_nb _, nil_nb _, hbl⟩
  · have dz : decide (z = 0) = false := by simpa using h0
    rw [dz]
    have hk2 : w3.cell? ⟨w.heap.size, 2, none⟩ = some rz := (H2.out.2.2 _ H3.out).1.cell 2
    have HZ : Hid (z ≠ 0) := h0
    clear h0 dz
    go_wp2_with fail
    refine (NInverse rz f z p ((HA.out.2.2.2.below (H2.out.2.2 _ H3.out).2.2)) (HA.out.1.1.below (H2.out.2.2 _ H3.out).2.2) (lim512 HSm.out.1) (lim512 HSm.out.2) HA.out.1.2.1 (HG.out HZ.out)).mono ?_
    rintro e w4 ⟨r4, g, rfl, hr4, hg, hzg, hb4⟩
    have H4 : Hid (Below W2.heap.size W2 w4 ∧ Nb w4 r4 g) := ⟨below_via H3.out hb4 (Nat.le_refl _), hr4⟩
    have Hg : Hid (g < p ∧ z * g % p = 1 % p) := ⟨hg, hzg⟩
    clear hr4 hg hzg hb4 hk2
    go_wp2_with fail
    refine (Fsquare f r4 p g (HA.out.1.below (H2.out.2.2 _ H4.out.1).2.2) H4.out.2 Hg.out.1).mono ?_
    rintro e w5 ⟨r5, rfl, hr5, hb5⟩
    have H5 : Hid (Below W2.heap.size W2 w5 ∧ Nb w5 r4 g ∧ Nb w5 r5 (fml p g g) ∧ Fld w5 f p ∧ Nb w5 rx x ∧ Nb w5 ry y) := ⟨below_via H4.out.1 hb5 (Nat.le_refl _), H4.out.2.below hb5, hr5, HA.out.1.below (H2.out.2.2 _ (below_via H4.out.1 hb5 (Nat.le_refl _))).2.2, HA.out.2.1.below (H2.out.2.2 _ (below_via H4.out.1 hb5 (Nat.le_refl _))).2.2, HA.out.2.2.1.below (H2.out.2.2 _ (below_via H4.out.1 hb5 (Nat.le_refl _))).2.2⟩
    clear hr5 hb5 H4
    have HB3 : Hid (Blk 27 w5.drew (w.heap.size + 1) [.slice none 0 0, .slice none 0 0]) := (H2.out.2.2 _ H5.out.1).2.1
    have HS0 : Hid (Below w.heap.size w w5.drew ∧ w5.drew.cell? ⟨w.heap.size, 0, none⟩ = some rx ∧ w5.drew.cell? ⟨w.heap.size, 1, none⟩ = some ry ∧ w.heap.size < w5.drew.heap.size) := ⟨Below.drew (H2.out.2.2 _ H5.out.1).2.2, (H2.out.2.2 _ H5.out.1).1.cell 0, (H2.out.2.2 _ H5.out.1).1.cell 1, by have h := HB3.out.lt; omega⟩
    have HSc : Hid (∀ W W', (Below w.heap.size w W ∧ W.cell? ⟨w.heap.size, 0, none⟩ = some rx ∧ W.cell? ⟨w.heap.size, 1, none⟩ = some ry ∧ w.heap.size < W.heap.size) → Below W.heap.size W W' → (Below w.heap.size w W' ∧ W'.cell? ⟨w.heap.size, 0, none⟩ = some rx ∧ W'.cell? ⟨w.heap.size, 1, none⟩ = some ry ∧ w.heap.size < W'.heap.size)) := fun W W' h hb => ⟨below_via h.1 hb (Nat.le_refl _), by rw [hb.cell (p := ⟨w.heap.size, 0, none⟩) h.2.2.2]; exact h.2.1, by rw [hb.cell (p := ⟨w.heap.size, 1, none⟩) h.2.2.2]; exact h.2.2.1, Nat.lt_of_lt_of_le h.2.2.2 hb.size⟩
    have HSs : Hid (∀ W i v, (Below w.heap.size w W ∧ W.cell? ⟨w.heap.size, 0, none⟩ = some rx ∧ W.cell? ⟨w.heap.size, 1, none⟩ = some ry ∧ w.heap.size < W.heap.size) → (Below w.heap.size w (W.setCell ⟨w.heap.size + 1, i, none⟩ v) ∧ (W.setCell ⟨w.heap.size + 1, i, none⟩ v).cell? ⟨w.heap.size, 0, none⟩ = some rx ∧ (W.setCell ⟨w.heap.size + 1, i, none⟩ v).cell? ⟨w.heap.size, 1, none⟩ = some ry ∧ w.heap.size < (W.setCell ⟨w.heap.size + 1, i, none⟩ v).heap.size)) := fun W i v h => by
      have hU := Upd.set W (w.heap.size + 1) i v
      exact ⟨hU.below h.1 h.1.size (Nat.le_succ _), (World.cell?_of_block (a := ⟨w.heap.size, 0, none⟩) (hU.block w.heap.size h.2.2.2 (by simp))).trans h.2.1, (World.cell?_of_block (a := ⟨w.heap.size, 1, none⟩) (hU.block w.heap.size h.2.2.2 (by simp))).trans h.2.2.1, Nat.lt_of_lt_of_le h.2.2.2 hU.size⟩
    have HD : Hid (Nb w5.drew r4 g ∧ Nb w5.drew r5 (fml p g g) ∧ Fld w5.drew f p ∧ Nb w5.drew rx x ∧ Nb w5.drew ry y) := ⟨H5.out.2.1, H5.out.2.2.1, H5.out.2.2.2.1, H5.out.2.2.2.2.1, H5.out.2.2.2.2.2⟩
    go_wp2_with fail
    go_region_held3 (fun W => Below w.heap.size w W ∧ W.cell? ⟨w.heap.size, 0, none⟩ = some rx ∧ W.cell? ⟨w.heap.size, 1, none⟩ = some ry ∧ w.heap.size < W.heap.size)
      (first | assumption | exact HS0.out | exact HSc.out _ _ (by assumption) (by assumption) | exact HSs.out _ _ _ (HSs.out _ _ _ (by assumption)))
      (first
      | (replace K7 := K7; go_at_call 39; refine (Ftimes f _ _ p y (fml p (fml p g g) g) K7.out.2.2.2.1 K7.out.2.2.2.2 K7.out.2.2.1 HL.out.2.1 (fml_lt HA.out.1.2.1)).mono ?_; rintro e w8 ⟨r8, rfl, hr8, hb8⟩; obtain ⟨a8, c8, hf8⟩ := hr8.form; subst hf8; have K8 : Hid (Blk 27 w8 (w.heap.size + 1) [.slice none 0 0, .slice none 0 0] ∧ Nb w8 (.slice a6 (lim (fml p x (fml p g g))).length c6) (fml p x (fml p g g)) ∧ Nb w8 (.slice a8 (lim (fml p y (fml p (fml p g g) g))).length c8) (fml p y (fml p (fml p g g) g))) := ⟨below_blk hb8 K7.out.1.lt K7.out.1, K7.out.2.1.below hb8, hr8⟩; have d0 : w8.cell? ⟨w.heap.size + 1, 0, none⟩ = some (.slice none 0 0) := K8.out.1.cell 0; have d1 : w8.cell? ⟨w.heap.size + 1, 1, none⟩ = some (.slice none 0 0) := K8.out.1.cell 1; have g0 := K8.out.1.frozen 0; have g1 := K8.out.1.frozen 1)
      | (replace K6 := K6; go_at_call 39; refine (Ftimes f _ _ p (fml p g g) g K6.out.2.2.1 K6.out.2.2.2.2.1 K6.out.2.2.2.1 (fml_lt HA.out.1.2.1) Hg.out.1).mono ?_; rintro e w7 ⟨r7, rfl, hr7, hb7⟩; have K7 : Hid (Blk 27 w7 (w.heap.size + 1) [.slice none 0 0, .slice none 0 0] ∧ Nb w7 (.slice a6 (lim (fml p x (fml p g g))).length c6) (fml p x (fml p g g)) ∧ Nb w7 r7 (fml p (fml p g g) g) ∧ Fld w7 f p ∧ Nb w7 ry y) := ⟨below_blk hb7 K6.out.1.lt K6.out.1, K6.out.2.1.below hb7, hr7, K6.out.2.2.1.below hb7, K6.out.2.2.2.2.2.below hb7⟩; clear hr7)
      | (go_at_call 39; refine (Ftimes f _ _ p x (fml p g g) HD.out.2.2.1 HD.out.2.2.2.1 HD.out.2.1 HL.out.1 (fml_lt HA.out.1.2.1)).mono ?_; rintro e w6 ⟨r6, rfl, hr6, hb6⟩; obtain ⟨a6, c6, hf6⟩ := hr6.form; subst hf6; have K6 : Hid (Blk 27 w6 (w.heap.size + 1) [.slice none 0 0, .slice none 0 0] ∧ Nb w6 (.slice a6 (lim (fml p x (fml p g g))).length c6) (fml p x (fml p g g)) ∧ Fld w6 f p ∧ Nb w6 r4 g ∧ Nb w6 r5 (fml p g g) ∧ Nb w6 ry y) := ⟨below_blk hb6 HB3.out.lt HB3.out, hr6, HD.out.2.2.1.below hb6, HD.out.1.below hb6, HD.out.2.1.below hb6, HD.out.2.2.2.2.below hb6⟩; clear hr6))
    have HE : Hid (Below w.heap.size w w8) := below_via (below_via (below_via HS0.out.1 hb6 (Nat.le_refl _)) hb7 (Nat.le_refl _)) hb8 (Nat.le_refl _)
    clear hb6 hb7 hb8
    go_wp2
    obtain ⟨hF, hU⟩ := Blk.put2 K8.out.1 (.slice a6 (lim (fml p x (fml p g g))).length c6) (.slice a8 (lim (fml p y (fml p (fml p g g) g))).length c8)
    have hbl := hU.below HE.out HE.out.size (Nat.le_succ _)
    exact bodyPost_ret (v := .agg [.slice a6 (lim (fml p x (fml p g g))).length c6, .slice a8 (lim (fml p y (fml p (fml p g g) g))).length c8].toArray) (results_blk (b := w.heap.size + 1) (cs := [.slice a6 (lim (fml p x (fml p g g))).length c6, .slice a8 (lim (fml p y (fml p (fml p g g) g))).length c8]) rfl rfl hF Try.underlying27 rfl Try.sizePt) rfl ⟨_, _, _, _, rfl, .inr ⟨HZ.out, g, Hg.out.1, Hg.out.2, rfl, rfl⟩, K8.out.2.1.upd K8.out.1 HN.out hU, K8.out.2.2.upd K8.out.1 HN.out hU, hbl⟩
end Go.Proofs.Yteagdgbcfbkfbab
