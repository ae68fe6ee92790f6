/-
  Curve: inverses; a triple's point.
-/
import Derived.Test.YtkdclocjijmgpaaK10
namespace Go.Proofs.Ytkdclocjijmgpaa
open Go.RowKit
set_option maxRecDepth 20000
theorem NInverse {w : World} (a b : Value) (x p : Nat) (ha : Nb w a x) (hb : Nb w b p) (hx : (lim x).length ≤ 512) (hp : (lim p).length ≤ 512) (h0 : 0 < p) (hg : Nat.gcd x p = 1) :
    Calls Try.prog 48 #[a, b] w fun e w' => ∃ r g, e = .returned (.tuple #[r, .int .i64 0]) ∧ Nb w' r g ∧ g < p ∧ x * g % p = 1 % p ∧ Below w.heap.size w w' := by
  refine (Nt.Inverse_any (lim x) (lim p) a b w ha hb (lim_u32 _) (lim_u32 _) (.inr Nt.long_ok)).mono ?_
  rintro e w' ⟨s, hs, ⟨r, rfl, ho⟩, hB⟩
  unfold Nt.InvS at hs
  rw [if_neg (by omega), val_lim, val_lim, if_neg (by omega)] at hs
  rcases hs with ⟨G, g0, g1, ⟨t, ht⟩, rfl⟩ | ⟨D, d1, dx, dp, _⟩
  · refine ⟨r, G.toNat, rfl, ho.sl, by omega, ?_, hB⟩
    have h1 : ((x * G.toNat : Nat) : Int) = 1 + (p : Int) * t := by rw [Int.natCast_mul, Int.toNat_of_nonneg g0]; exact ht
    have h2 : (((x * G.toNat) % p : Nat) : Int) = ((1 % p : Nat) : Int) := by
      rw [Int.natCast_emod, h1, Int.natCast_emod, Int.add_mul_emod_self_left]; rfl
    exact Int.ofNat.inj h2
  · exfalso
    obtain ⟨d, rfl⟩ : ∃ d : Nat, D = d := ⟨D.toNat, by omega⟩
    have e1 : d ∣ x := Int.natCast_dvd_natCast.1 dx
    have e2 : d ∣ p := Int.natCast_dvd_natCast.1 dp
    have e3 := Nat.dvd_gcd e1 e2
    rw [hg] at e3
    have := Nat.le_of_dvd (by decide) e3
    omega
/-- The point of a triple. -/
def jpt (p : Nat) (t : Nat × Nat × Nat) (X Y : Nat) : Prop :=
  (t.2.2 = 0 ∧ X = 0 ∧ Y = 0) ∨ (t.2.2 ≠ 0 ∧ ∃ g, g < p ∧ t.2.2 * g % p = 1 % p ∧ X = fml p t.1 (fml p g g) ∧ Y = fml p t.2.1 (fml p (fml p g g) g))
theorem Try.sizePt : (Try.prog.info? 24).map (·.size) = some 2 := by kernel_rfl
theorem Blk.put2 {T : TypeId} {w : World} {b : Nat} {u0 u1 : Value} (h : Blk T w b [u0, u1]) (v0 v1 : Value) :
    Blk T ((w.setCell ⟨b, 0, none⟩ v0).setCell ⟨b, 1, none⟩ v1) b [v0, v1] ∧ Upd w ((w.setCell ⟨b, 0, none⟩ v0).setCell ⟨b, 1, none⟩ v1) b :=
  ⟨(h.set 0 v0).set 1 v1, (Upd.set w b 0 _).trans (Upd.set _ b 1 _)⟩
set_option maxHeartbeats 4000000 in
theorem Tpoint {w : World} (f rx ry rz : Value) (p x y z : Nat) (hf : Fld w f p) (hx : Nb w rx x) (hy : Nb w ry y) (hz : Nb w rz z) (lx : x < p) (ly : y < p) (lz : z < p) (hg : z ≠ 0 → Nat.gcd z p = 1) :
    Calls Try.prog 25 #[f, .agg #[rx, ry, rz]] w fun e w' => ∃ r0 r1 X Y, e = .returned (.agg #[r0, r1]) ∧ jpt p (x, y, z) X Y ∧ Nb w' r0 X ∧ Nb w' r1 Y ∧ Below w.heap.size w w' := by
  have HL : Hid (x < p ∧ y < p ∧ z < p) := ⟨lx, ly, lz⟩
  have HA : Hid (Fld w f p ∧ Nb w rx x ∧ Nb w ry y ∧ Nb w rz z) := ⟨hf, hx, hy, hz⟩
  have HG : Hid (z ≠ 0 → Nat.gcd z p = 1) := hg
  have HSm : Hid (Sm z ∧ Sm p) := ⟨sm_of hf.2.2 lz, by have := sm_two (x := 0) (y := p) hf.2.2 hf.2.1 (Nat.le_refl _); simpa using this⟩
  clear hf hx hy hz lx ly lz hg
  go_enter Try.func25, Try.ntmps25
  go_upto_region 1 with (refine wpList_boxR rfl 58 (.tmp 1) rfl #[rx, ry, rz] rfl ?_)
  refine wp_gen (fun W => Blk 58 W w.heap.size [rx, ry, rz] ∧ Blk 24 W (w.heap.size + 1) [.slice none 0 0, .slice none 0 0] ∧ Below w.heap.size w W) ⟨(Blk.new _ w [rx, ry, rz]).alloc _, by have := Blk.new 24 (w.alloc (.cells [rx, ry, rz].toArray 58)) [.slice none 0 0, .slice none 0 0]; rw [World.size_alloc] at this; exact this, (al1 _).alloc (by simp) _⟩ ?_
  rintro W2 ⟨hC, hB, hBw⟩
  have H2 : Hid (Below w.heap.size w W2 ∧ W2.rangeAt w.heap.size 0 [rx, ry, rz] ∧ ∀ W3, Below W2.heap.size W2 W3 → Blk 58 W3 w.heap.size [rx, ry, rz] ∧ Blk 24 W3 (w.heap.size + 1) [.slice none 0 0, .slice none 0 0] ∧ Below w.heap.size w W3) := ⟨hBw, hC.whole, fun W3 h3 => ⟨below_blk h3 hC.lt hC, below_blk h3 hB.lt hB, below_via hBw h3 (Nat.le_refl _)⟩⟩
  have HN : Hid (∀ c ∈ [Value.slice none 0 0, Value.slice none 0 0], ∀ n, c ≠ .int .u32 n) := by intro c hc; simp at hc; subst hc; intro n h; cases h
  clear hB hC hBw
  go_wp2_with (refine wpList_load_mid rfl 58 (.tmp 3) rfl w.heap.size 0 rfl [rx, ry, rz] _ H2.out.2.1 Try.underlying58 rfl (by kernel_rfl) ?_)
  refine (TisFar rx ry rz z (HA.out.2.2.2.below H2.out.1)).mono ?_
  rintro e w3 ⟨rfl, hb3⟩
  have H3 : Hid (Below W2.heap.size W2 w3) := hb3
  clear hb3
  by_cases h0 : z = 0
  · have dz : decide (z = 0) = true := by simpa using h0
    rw [dz]
    have hB3 := (H2.out.2.2 _ H3.out).2.1
    have d0 : w3.cell? ⟨w.heap.size + 1, 0, none⟩ = some (.slice none 0 0) := hB3.cell 0
    have d1 : w3.cell? ⟨w.heap.size + 1, 1, none⟩ = some (.slice none 0 0) := hB3.cell 1
    have g0 := hB3.frozen 0; have g1 := hB3.frozen 1
    have HZ : Hid (z = 0) := h0
    clear hB3 h0 dz
    go_wp2
    obtain ⟨hF, hU⟩ := Blk.put2 (H2.out.2.2 _ H3.out).2.1 (.slice none 0 0) (.slice none 0 0)
    have hbl := hU.below (H2.out.2.2 _ H3.out).2.2 (H2.out.2.2 _ H3.out).2.2.size (Nat.le_succ _)
    exact bodyPost_ret (v := .agg [.slice none 0 0, .slice none 0 0].toArray) (results_blk (b := w.heap.size + 1) (cs := [.slice none 0 0, .slice none 0 0]) rfl rfl hF Try.underlying24 rfl Try.sizePt) rfl ⟨_, _, 0, 0, rfl, .inl ⟨HZ.out, rfl, rfl⟩, nil_nb _, nil_nb _, hbl⟩
  · have dz : decide (z = 0) = false := by simpa using h0
    rw [dz]
    have hk2 : w3.cell? ⟨w.heap.size, 2, none⟩ = some rz := (H2.out.2.2 _ H3.out).1.cell 2
    have HZ : Hid (z ≠ 0) := h0
    clear h0 dz
    go_wp2_with fail
    refine (NInverse rz f z p ((HA.out.2.2.2.below (H2.out.2.2 _ H3.out).2.2)) (HA.out.1.1.below (H2.out.2.2 _ H3.out).2.2) (lim512 HSm.out.1) (lim512 HSm.out.2) HA.out.1.2.1 (HG.out HZ.out)).mono ?_
    rintro e w4 ⟨r4, g, rfl, hr4, hg, hzg, hb4⟩
    have H4 : Hid (Below W2.heap.size W2 w4 ∧ Nb w4 r4 g) := ⟨below_via H3.out hb4 (Nat.le_refl _), hr4⟩
    have Hg : Hid (g < p ∧ z * g % p = 1 % p) := ⟨hg, hzg⟩
    clear hr4 hg hzg hb4 hk2
    go_wp2_with fail
    refine (Fsquare f r4 p g (HA.out.1.below (H2.out.2.2 _ H4.out.1).2.2) H4.out.2 Hg.out.1).mono ?_
    rintro e w5 ⟨r5, rfl, hr5, hb5⟩
    have H5 : Hid (Below W2.heap.size W2 w5 ∧ Nb w5 r4 g ∧ Nb w5 r5 (fml p g g) ∧ Fld w5 f p ∧ Nb w5 rx x ∧ Nb w5 ry y) := ⟨below_via H4.out.1 hb5 (Nat.le_refl _), H4.out.2.below hb5, hr5, HA.out.1.below (H2.out.2.2 _ (below_via H4.out.1 hb5 (Nat.le_refl _))).2.2, HA.out.2.1.below (H2.out.2.2 _ (below_via H4.out.1 hb5 (Nat.le_refl _))).2.2, HA.out.2.2.1.below (H2.out.2.2 _ (below_via H4.out.1 hb5 (Nat.le_refl _))).2.2⟩
    clear hr5 hb5 H4
    have HB3 : Hid (Blk 24 w5.drew (w.heap.size + 1) [.slice none 0 0, .slice none 0 0]) := (H2.out.2.2 _ H5.out.1).2.1
    have HS0 : Hid (Below w.heap.size w w5.drew ∧ w5.drew.cell? ⟨w.heap.size, 0, none⟩ = some rx ∧ w5.drew.cell? ⟨w.heap.size, 1, none⟩ = some ry ∧ w.heap.size < w5.drew.heap.size) := ⟨Below.drew (H2.out.2.2 _ H5.out.1).2.2, (H2.out.2.2 _ H5.out.1).1.cell 0, (H2.out.2.2 _ H5.out.1).1.cell 1, by have h := HB3.out.lt; omega⟩
    have HSc : Hid (∀ W W', (Below w.heap.size w W ∧ W.cell? ⟨w.heap.size, 0, none⟩ = some rx ∧ W.cell? ⟨w.heap.size, 1, none⟩ = some ry ∧ w.heap.size < W.heap.size) → Below W.heap.size W W' → (Below w.heap.size w W' ∧ W'.cell? ⟨w.heap.size, 0, none⟩ = some rx ∧ W'.cell? ⟨w.heap.size, 1, none⟩ = some ry ∧ w.heap.size < W'.heap.size)) := fun W W' h hb => ⟨below_via h.1 hb (Nat.le_refl _), by rw [hb.cell (p := ⟨w.heap.size, 0, none⟩) h.2.2.2]; exact h.2.1, by rw [hb.cell (p := ⟨w.heap.size, 1, none⟩) h.2.2.2]; exact h.2.2.1, Nat.lt_of_lt_of_le h.2.2.2 hb.size⟩
    have HSs : Hid (∀ W i v, (Below w.heap.size w W ∧ W.cell? ⟨w.heap.size, 0, none⟩ = some rx ∧ W.cell? ⟨w.heap.size, 1, none⟩ = some ry ∧ w.heap.size < W.heap.size) → (Below w.heap.size w (W.setCell ⟨w.heap.size + 1, i, none⟩ v) ∧ (W.setCell ⟨w.heap.size + 1, i, none⟩ v).cell? ⟨w.heap.size, 0, none⟩ = some rx ∧ (W.setCell ⟨w.heap.size + 1, i, none⟩ v).cell? ⟨w.heap.size, 1, none⟩ = some ry ∧ w.heap.size < (W.setCell ⟨w.heap.size + 1, i, none⟩ v).heap.size)) := fun W i v h => by
      have hU := Upd.set W (w.heap.size + 1) i v
      exact ⟨hU.below h.1 h.1.size (Nat.le_succ _), (World.cell?_of_block (a := ⟨w.heap.size, 0, none⟩) (hU.block w.heap.size h.2.2.2 (by simp))).trans h.2.1, (World.cell?_of_block (a := ⟨w.heap.size, 1, none⟩) (hU.block w.heap.size h.2.2.2 (by simp))).trans h.2.2.1, Nat.lt_of_lt_of_le h.2.2.2 hU.size⟩
    have HD : Hid (Nb w5.drew r4 g ∧ Nb w5.drew r5 (fml p g g) ∧ Fld w5.drew f p ∧ Nb w5.drew rx x ∧ Nb w5.drew ry y) := ⟨H5.out.2.1, H5.out.2.2.1, H5.out.2.2.2.1, H5.out.2.2.2.2.1, H5.out.2.2.2.2.2⟩
    go_wp2_with fail
    go_region_held3 (fun W => Below w.heap.size w W ∧ W.cell? ⟨w.heap.size, 0, none⟩ = some rx ∧ W.cell? ⟨w.heap.size, 1, none⟩ = some ry ∧ w.heap.size < W.heap.size)
      (first | assumption | exact HS0.out | exact HSc.out _ _ (by assumption) (by assumption) | exact HSs.out _ _ _ (HSs.out _ _ _ (by assumption)))
      (first
      | (replace K7 := K7; go_at_call 50; refine (Ftimes f _ _ p y (fml p (fml p g g) g) K7.out.2.2.2.1 K7.out.2.2.2.2 K7.out.2.2.1 HL.out.2.1 (fml_lt HA.out.1.2.1)).mono ?_; rintro e w8 ⟨r8, rfl, hr8, hb8⟩; obtain ⟨a8, c8, hf8⟩ := hr8.form; subst hf8; have K8 : Hid (Blk 24 w8 (w.heap.size + 1) [.slice none 0 0, .slice none 0 0] ∧ Nb w8 (.slice a6 (lim (fml p x (fml p g g))).length c6) (fml p x (fml p g g)) ∧ Nb w8 (.slice a8 (lim (fml p y (fml p (fml p g g) g))).length c8) (fml p y (fml p (fml p g g) g))) := ⟨below_blk hb8 K7.out.1.lt K7.out.1, K7.out.2.1.below hb8, hr8⟩; have d0 : w8.cell? ⟨w.heap.size + 1, 0, none⟩ = some (.slice none 0 0) := K8.out.1.cell 0; have d1 : w8.cell? ⟨w.heap.size + 1, 1, none⟩ = some (.slice none 0 0) := K8.out.1.cell 1; have g0 := K8.out.1.frozen 0; have g1 := K8.out.1.frozen 1)
      | (replace K6 := K6; go_at_call 50; refine (Ftimes f _ _ p (fml p g g) g K6.out.2.2.1 K6.out.2.2.2.2.1 K6.out.2.2.2.1 (fml_lt HA.out.1.2.1) Hg.out.1).mono ?_; rintro e w7 ⟨r7, rfl, hr7, hb7⟩; have K7 : Hid (Blk 24 w7 (w.heap.size + 1) [.slice none 0 0, .slice none 0 0] ∧ Nb w7 (.slice a6 (lim (fml p x (fml p g g))).length c6) (fml p x (fml p g g)) ∧ Nb w7 r7 (fml p (fml p g g) g) ∧ Fld w7 f p ∧ Nb w7 ry y) := ⟨below_blk hb7 K6.out.1.lt K6.out.1, K6.out.2.1.below hb7, hr7, K6.out.2.2.1.below hb7, K6.out.2.2.2.2.2.below hb7⟩; clear hr7)
      | (go_at_call 50; refine (Ftimes f _ _ p x (fml p g g) HD.out.2.2.1 HD.out.2.2.2.1 HD.out.2.1 HL.out.1 (fml_lt HA.out.1.2.1)).mono ?_; rintro e w6 ⟨r6, rfl, hr6, hb6⟩; obtain ⟨a6, c6, hf6⟩ := hr6.form; subst hf6; have K6 : Hid (Blk 24 w6 (w.heap.size + 1) [.slice none 0 0, .slice none 0 0] ∧ Nb w6 (.slice a6 (lim (fml p x (fml p g g))).length c6) (fml p x (fml p g g)) ∧ Fld w6 f p ∧ Nb w6 r4 g ∧ Nb w6 r5 (fml p g g) ∧ Nb w6 ry y) := ⟨below_blk hb6 HB3.out.lt HB3.out, hr6, HD.out.2.2.1.below hb6, HD.out.1.below hb6, HD.out.2.1.below hb6, HD.out.2.2.2.2.below hb6⟩; clear hr6))
    have HE : Hid (Below w.heap.size w w8) := below_via (below_via (below_via HS0.out.1 hb6 (Nat.le_refl _)) hb7 (Nat.le_refl _)) hb8 (Nat.le_refl _)
    clear hb6 hb7 hb8
    go_wp2
    obtain ⟨hF, hU⟩ := Blk.put2 K8.out.1 (.slice a6 (lim (fml p x (fml p g g))).length c6) (.slice a8 (lim (fml p y (fml p (fml p g g) g))).length c8)
    have hbl := hU.below HE.out HE.out.size (Nat.le_succ _)
    exact bodyPost_ret (v := .agg [.slice a6 (lim (fml p x (fml p g g))).length c6, .slice a8 (lim (fml p y (fml p (fml p g g) g))).length c8].toArray) (results_blk (b := w.heap.size + 1) (cs := [.slice a6 (lim (fml p x (fml p g g))).length c6, .slice a8 (lim (fml p y (fml p (fml p g g) g))).length c8]) rfl rfl hF Try.underlying24 rfl Try.sizePt) rfl ⟨_, _, _, _, rfl, .inr ⟨HZ.out, g, Hg.out.1, Hg.out.2, rfl, rfl⟩, K8.out.2.1.upd K8.out.1 HN.out hU, K8.out.2.2.upd K8.out.1 HN.out hU, hbl⟩
end Go.Proofs.Ytkdclocjijmgpaa
/-
  Curve: the numbers of the two curves.
-/
namespace Go.Proofs.Ytkdclocjijmgpaa
open Go.RowKit
set_option maxRecDepth 20000
/-- A curve's numbers. -/
structure Cv where
  p : Nat
  n : Nat
  b : Nat
  gx : Nat
  gy : Nat
  sz : Nat
def c256 : Cv := ⟨115792089210356248762697446949407573530086143415290314195533631308867097853951, 115792089210356248762697446949407573529996955224135760342422259061068512044369, 41058363725152142129326129780047268409114441015993725554835256314039467401291, 48439561293906451759052585252797914202762949526041747995844080717082404635286, 36134250956749795798585127919587881956611106672985015071877198253568414405109, 32⟩
def c384 : Cv := ⟨39402006196394479212279040100143613805079739270465446667948293404245721771496870329047266088258938001861606973112319, 39402006196394479212279040100143613805079739270465446667946905279627659399113263569398956308152294913554433653942643, 27580193559959705877849011840389048093056905856361568521428707301988689241309860865136260764883745107765439761230575, 26247035095799689268623156744566981891852923491109213387815615900925518854738050089022388053975719786650872476732087, 8325710961489029985546751289520108179287853048861315594709205902480503199884419224438643760392947333078086511627871, 48⟩
/-- A kind in cells. -/
def KindV (w : World) (cs : List Value) (c : Cv) : Prop := ∃ v1 v2 v3 v4 v5, cs = [.int .i64 c.sz, v1, v2, v3, v4, v5] ∧ Nb w v1 c.p ∧ Nb w v2 c.n ∧ Nb w v3 c.b ∧ Nb w v4 c.gx ∧ Nb w v5 c.gy
theorem KindV.below {w w' : World} {cs : List Value} {c : Cv} (h : KindV w cs c) (hb : Below w.heap.size w w') : KindV w' cs c := by
  obtain ⟨v1, v2, v3, v4, v5, e, h1, h2, h3, h4, h5⟩ := h
  exact ⟨v1, v2, v3, v4, v5, e, h1.below hb, h2.below hb, h3.below hb, h4.below hb, h5.below hb⟩
def kz : List Value := [.int .i64 0, .slice none 0 0, .slice none 0 0, .slice none 0 0, .slice none 0 0, .slice none 0 0]
theorem Try.sizeKd : (Try.prog.info? 53).map (·.size) = some 6 := by kernel_rfl
theorem Blk.put6 {T : TypeId} {w : World} {b : Nat} {u0 u1 u2 u3 u4 u5 : Value} (h : Blk T w b [u0, u1, u2, u3, u4, u5]) (v0 v1 v2 v3 v4 v5 : Value) :
    Blk T ((((((w.setCell ⟨b, 0, none⟩ v0).setCell ⟨b, 1, none⟩ v1).setCell ⟨b, 2, none⟩ v2).setCell ⟨b, 3, none⟩ v3).setCell ⟨b, 4, none⟩ v4).setCell ⟨b, 5, none⟩ v5) b [v0, v1, v2, v3, v4, v5] ∧
    Upd w ((((((w.setCell ⟨b, 0, none⟩ v0).setCell ⟨b, 1, none⟩ v1).setCell ⟨b, 2, none⟩ v2).setCell ⟨b, 3, none⟩ v3).setCell ⟨b, 4, none⟩ v4).setCell ⟨b, 5, none⟩ v5) b :=
  ⟨(((((h.set 0 v0).set 1 v1).set 2 v2).set 3 v3).set 4 v4).set 5 v5,
   (((((Upd.set w b 0 _).trans (Upd.set _ b 1 _)).trans (Upd.set _ b 2 _)).trans (Upd.set _ b 3 _)).trans (Upd.set _ b 4 _)).trans (Upd.set _ b 5 _)⟩
/-- A new row of limbs without a limb 0 at its end: its number. -/
theorem nb_new {e : TypeId} {w : World} (S : List Int) (x : Nat) (h : lim x = S) : Nb (w.alloc (.cells (S.map (Value.int .u32)).toArray e)) (.slice (some ⟨w.heap.size, 0, none⟩) S.length S.length) x := by
  unfold Nb; rw [h]; exact new_sl S (0, 0)
theorem Nb.al {w : World} {v : Value} {x : Nat} (h : Nb w v x) (o : Obj) : Nb (w.alloc o) v x := h.below (al1 o)
theorem lim_of_val {x : Nat} (S : List Int) (h1 : (S.all fun y => decide (0 ≤ y ∧ y < 4294967296)) = true) (h2 : sig S = S.length) (h3 : val S = x) : lim x = S := by
  have hu : U32s S := fun y hy => by have := List.all_eq_true.1 h1 y hy; unfold U32; simpa using this
  have := lim_val hu h2
  rw [h3] at this
  simpa using this
theorem lim256p : lim c256.p = [4294967295, 4294967295, 4294967295, 0, 0, 0, 1, 4294967295] := lim_of_val _ (by decide +kernel) (by decide +kernel) (by decide +kernel)
theorem lim256n : lim c256.n = [4234356049, 4089039554, 2803342980, 3169254061, 4294967295, 4294967295, 0, 4294967295] := lim_of_val _ (by decide +kernel) (by decide +kernel) (by decide +kernel)
theorem lim256b : lim c256.b = [668098635, 1003371582, 3428036854, 1696401072, 1989707452, 3018571093, 2855965671, 1522939352] := lim_of_val _ (by decide +kernel) (by decide +kernel) (by decide +kernel)
theorem lim256gx : lim c256.gx = [3633889942, 4104206661, 770388896, 1996717441, 1671708914, 4173129445, 3777774151, 1796723186] := lim_of_val _ (by decide +kernel) (by decide +kernel) (by decide +kernel)
theorem lim256gy : lim c256.gy = [935285237, 3417718888, 1798397646, 734933847, 2081398294, 2397563722, 4263149467, 1340293858] := lim_of_val _ (by decide +kernel) (by decide +kernel) (by decide +kernel)
abbrev lt256a : Array Value := #[Value.int IntKind.u32 4294967295, Value.int IntKind.u32 4294967295, Value.int IntKind.u32 4294967295, Value.int IntKind.u32 0, Value.int IntKind.u32 0, Value.int IntKind.u32 0, Value.int IntKind.u32 1, Value.int IntKind.u32 4294967295]
abbrev lt256b : Array Value := #[Value.int IntKind.u32 4234356049, Value.int IntKind.u32 4089039554, Value.int IntKind.u32 2803342980, Value.int IntKind.u32 3169254061, Value.int IntKind.u32 4294967295, Value.int IntKind.u32 4294967295, Value.int IntKind.u32 0, Value.int IntKind.u32 4294967295]
abbrev lt256c : Array Value := #[Value.int IntKind.u32 668098635, Value.int IntKind.u32 1003371582, Value.int IntKind.u32 3428036854, Value.int IntKind.u32 1696401072, Value.int IntKind.u32 1989707452, Value.int IntKind.u32 3018571093, Value.int IntKind.u32 2855965671, Value.int IntKind.u32 1522939352]
abbrev lt256d : Array Value := #[Value.int IntKind.u32 3633889942, Value.int IntKind.u32 4104206661, Value.int IntKind.u32 770388896, Value.int IntKind.u32 1996717441, Value.int IntKind.u32 1671708914, Value.int IntKind.u32 4173129445, Value.int IntKind.u32 3777774151, Value.int IntKind.u32 1796723186]
abbrev lt256e : Array Value := #[Value.int IntKind.u32 935285237, Value.int IntKind.u32 3417718888, Value.int IntKind.u32 1798397646, Value.int IntKind.u32 734933847, Value.int IntKind.u32 2081398294, Value.int IntKind.u32 2397563722, Value.int IntKind.u32 4263149467, Value.int IntKind.u32 1340293858]
abbrev wd256 (W2 : World) : World := (World.alloc (World.alloc (World.alloc (World.alloc (World.alloc W2 (Obj.cells lt256a 45)) (Obj.cells lt256b 45)) (Obj.cells lt256c 45)) (Obj.cells lt256d 45)) (Obj.cells lt256e 45))
set_option maxHeartbeats 4000000 in
theorem p256_any {w : World} : Calls Try.prog 75 #[] w fun e w' => ∃ cs, e = .returned (.agg cs.toArray) ∧ KindV w' cs c256 ∧ Below w.heap.size w w' := by
  go_enter Try.func75, Try.ntmps75
  go_upto_region 1 with (fail)
  refine wp_gen (fun W => Blk 53 W w.heap.size kz ∧ Below w.heap.size w W) ⟨Blk.new _ w _, al1 _⟩ ?_
  rintro W2 ⟨hB, hBw⟩
  have hA : Blk 53 (wd256 W2) w.heap.size kz := ((((hB.alloc _).alloc _).alloc _).alloc _).alloc _
  have d0 : World.cell? (wd256 W2) ⟨w.heap.size, 0, none⟩ = some (.int .i64 0) := hA.cell 0
  have d1 : World.cell? (wd256 W2) ⟨w.heap.size, 1, none⟩ = some (.slice none 0 0) := hA.cell 1
  have d2 : World.cell? (wd256 W2) ⟨w.heap.size, 2, none⟩ = some (.slice none 0 0) := hA.cell 2
  have d3 : World.cell? (wd256 W2) ⟨w.heap.size, 3, none⟩ = some (.slice none 0 0) := hA.cell 3
  have d4 : World.cell? (wd256 W2) ⟨w.heap.size, 4, none⟩ = some (.slice none 0 0) := hA.cell 4
  have d5 : World.cell? (wd256 W2) ⟨w.heap.size, 5, none⟩ = some (.slice none 0 0) := hA.cell 5
  have g0 : World.frozen? (wd256 W2) ⟨w.heap.size, 0, none⟩ = false := hA.frozen 0
  have g1 : World.frozen? (wd256 W2) ⟨w.heap.size, 1, none⟩ = false := hA.frozen 1
  have g2 : World.frozen? (wd256 W2) ⟨w.heap.size, 2, none⟩ = false := hA.frozen 2
  have g3 : World.frozen? (wd256 W2) ⟨w.heap.size, 3, none⟩ = false := hA.frozen 3
  have g4 : World.frozen? (wd256 W2) ⟨w.heap.size, 4, none⟩ = false := hA.frozen 4
  have g5 : World.frozen? (wd256 W2) ⟨w.heap.size, 5, none⟩ = false := hA.frozen 5
  have n0 : Nb (World.alloc W2 (Obj.cells lt256a 45)) (.slice (some ⟨W2.heap.size, 0, none⟩) 8 8) c256.p := by have h := nb_new (e := 45) (w := W2) [4294967295, 4294967295, 4294967295, 0, 0, 0, 1, 4294967295] c256.p lim256p; exact h
  have n1 : Nb (World.alloc (World.alloc W2 (Obj.cells lt256a 45)) (Obj.cells lt256b 45)) (.slice (some ⟨W2.heap.size + 1, 0, none⟩) 8 8) c256.n := by have h := nb_new (e := 45) (w := (World.alloc W2 (Obj.cells lt256a 45))) [4234356049, 4089039554, 2803342980, 3169254061, 4294967295, 4294967295, 0, 4294967295] c256.n lim256n; rw [World.size_alloc] at h; exact h
  have n2 : Nb (World.alloc (World.alloc (World.alloc W2 (Obj.cells lt256a 45)) (Obj.cells lt256b 45)) (Obj.cells lt256c 45)) (.slice (some ⟨W2.heap.size + 1 + 1, 0, none⟩) 8 8) c256.b := by have h := nb_new (e := 45) (w := (World.alloc (World.alloc W2 (Obj.cells lt256a 45)) (Obj.cells lt256b 45))) [668098635, 1003371582, 3428036854, 1696401072, 1989707452, 3018571093, 2855965671, 1522939352] c256.b lim256b; rw [World.size_alloc, World.size_alloc] at h; exact h
  have n3 : Nb (World.alloc (World.alloc (World.alloc (World.alloc W2 (Obj.cells lt256a 45)) (Obj.cells lt256b 45)) (Obj.cells lt256c 45)) (Obj.cells lt256d 45)) (.slice (some ⟨W2.heap.size + 1 + 1 + 1, 0, none⟩) 8 8) c256.gx := by have h := nb_new (e := 45) (w := (World.alloc (World.alloc (World.alloc W2 (Obj.cells lt256a 45)) (Obj.cells lt256b 45)) (Obj.cells lt256c 45))) [3633889942, 4104206661, 770388896, 1996717441, 1671708914, 4173129445, 3777774151, 1796723186] c256.gx lim256gx; rw [World.size_alloc, World.size_alloc, World.size_alloc] at h; exact h
  have n4 : Nb (wd256 W2) (.slice (some ⟨W2.heap.size + 1 + 1 + 1 + 1, 0, none⟩) 8 8) c256.gy := by have h := nb_new (e := 45) (w := (World.alloc (World.alloc (World.alloc (World.alloc W2 (Obj.cells lt256a 45)) (Obj.cells lt256b 45)) (Obj.cells lt256c 45)) (Obj.cells lt256d 45))) [935285237, 3417718888, 1798397646, 734933847, 2081398294, 2397563722, 4263149467, 1340293858] c256.gy lim256gy; rw [World.size_alloc, World.size_alloc, World.size_alloc, World.size_alloc] at h; exact h
  have H2 : Hid (Blk 53 (wd256 W2) w.heap.size kz ∧ Below w.heap.size w (wd256 W2) ∧ Nb (wd256 W2) (.slice (some ⟨W2.heap.size, 0, none⟩) 8 8) c256.p ∧ Nb (wd256 W2) (.slice (some ⟨W2.heap.size + 1, 0, none⟩) 8 8) c256.n ∧ Nb (wd256 W2) (.slice (some ⟨W2.heap.size + 1 + 1, 0, none⟩) 8 8) c256.b ∧ Nb (wd256 W2) (.slice (some ⟨W2.heap.size + 1 + 1 + 1, 0, none⟩) 8 8) c256.gx ∧ Nb (wd256 W2) (.slice (some ⟨W2.heap.size + 1 + 1 + 1 + 1, 0, none⟩) 8 8) c256.gy) := ⟨hA, below_via hBw (((((al1 _).alloc (by simp) _).alloc (by simp; omega) _).alloc (by simp; omega) _).alloc (by simp; omega) _) (Nat.le_refl _), ((((n0.al _).al _).al _).al _), (((n1.al _).al _).al _), ((n2.al _).al _), (n3.al _), n4⟩
  have hnn : ∀ c ∈ kz, ∀ n, c ≠ .int .u32 n := by intro c hc; unfold kz at hc; simp at hc; rcases hc with h | h <;> (subst h; intro n h; cases h)
  have HN : Hid (∀ c ∈ kz, ∀ n, c ≠ .int .u32 n) := hnn
  clear hA hB hBw hnn n0 n1 n2 n3 n4
  go_wp2
  obtain ⟨Wn, hWn⟩ : ∃ Wn, (wd256 W2) = Wn := ⟨_, rfl⟩
  rw [hWn] at H2
  unfold wd256 lt256a lt256b lt256c lt256d lt256e at hWn
  rw [hWn]
  clear d0 d1 d2 d3 d4 d5 g0 g1 g2 g3 g4 g5 hWn
  obtain ⟨hF, hU⟩ := Blk.put6 H2.out.1 (.int .i64 32) (.slice (some ⟨W2.heap.size, 0, none⟩) 8 8) (.slice (some ⟨W2.heap.size + 1, 0, none⟩) 8 8) (.slice (some ⟨W2.heap.size + 1 + 1, 0, none⟩) 8 8) (.slice (some ⟨W2.heap.size + 1 + 1 + 1, 0, none⟩) 8 8) (.slice (some ⟨W2.heap.size + 1 + 1 + 1 + 1, 0, none⟩) 8 8)
  have hbl := hU.below H2.out.2.1 H2.out.2.1.size (Nat.le_refl _)
  exact bodyPost_ret (v := .agg [.int .i64 32, (.slice (some ⟨W2.heap.size, 0, none⟩) 8 8), (.slice (some ⟨W2.heap.size + 1, 0, none⟩) 8 8), (.slice (some ⟨W2.heap.size + 1 + 1, 0, none⟩) 8 8), (.slice (some ⟨W2.heap.size + 1 + 1 + 1, 0, none⟩) 8 8), (.slice (some ⟨W2.heap.size + 1 + 1 + 1 + 1, 0, none⟩) 8 8)].toArray) (results_blk (b := w.heap.size) (cs := [.int .i64 32, (.slice (some ⟨W2.heap.size, 0, none⟩) 8 8), (.slice (some ⟨W2.heap.size + 1, 0, none⟩) 8 8), (.slice (some ⟨W2.heap.size + 1 + 1, 0, none⟩) 8 8), (.slice (some ⟨W2.heap.size + 1 + 1 + 1, 0, none⟩) 8 8), (.slice (some ⟨W2.heap.size + 1 + 1 + 1 + 1, 0, none⟩) 8 8)]) rfl rfl hF Try.underlying53 rfl Try.sizeKd) rfl ⟨_, rfl, ⟨_, _, _, _, _, rfl, Nb.upd H2.out.2.2.1 H2.out.1 HN.out hU, Nb.upd H2.out.2.2.2.1 H2.out.1 HN.out hU, Nb.upd H2.out.2.2.2.2.1 H2.out.1 HN.out hU, Nb.upd H2.out.2.2.2.2.2.1 H2.out.1 HN.out hU, Nb.upd H2.out.2.2.2.2.2.2 H2.out.1 HN.out hU⟩, hbl⟩
theorem lim384p : lim c384.p = [4294967295, 0, 0, 4294967295, 4294967294, 4294967295, 4294967295, 4294967295, 4294967295, 4294967295, 4294967295, 4294967295] := lim_of_val _ (by decide +kernel) (by decide +kernel) (by decide +kernel)
theorem lim384n : lim c384.n = [3435473267, 3974895978, 1219536762, 1478102450, 4097256927, 3345173889, 4294967295, 4294967295, 4294967295, 4294967295, 4294967295, 4294967295] := lim_of_val _ (by decide +kernel) (by decide +kernel) (by decide +kernel)
theorem lim384b : lim c384.b = [3555470063, 713410797, 2318324125, 3327539597, 1343457114, 51644559, 4269883666, 404593774, 3824692505, 2559444331, 3795773412, 3006345127] := lim_of_val _ (by decide +kernel) (by decide +kernel) (by decide +kernel)
theorem lim384gx : lim c384.gx = [1920338615, 978607672, 3210029420, 1426256477, 2186553912, 1509376480, 2343017368, 1847409506, 4079005044, 2394015518, 3196781879, 2861025826] := lim_of_val _ (by decide +kernel) (by decide +kernel) (by decide +kernel)
theorem lim384gy : lim c384.gy = [2431258207, 2051218812, 494829981, 174109134, 3052452032, 3923390739, 681186428, 4176747965, 2459098153, 1570674879, 2519084143, 907533898] := lim_of_val _ (by decide +kernel) (by decide +kernel) (by decide +kernel)
abbrev lt384a : Array Value := #[Value.int IntKind.u32 4294967295, Value.int IntKind.u32 0, Value.int IntKind.u32 0, Value.int IntKind.u32 4294967295, Value.int IntKind.u32 4294967294, Value.int IntKind.u32 4294967295, Value.int IntKind.u32 4294967295, Value.int IntKind.u32 4294967295, Value.int IntKind.u32 4294967295, Value.int IntKind.u32 4294967295, Value.int IntKind.u32 4294967295, Value.int IntKind.u32 4294967295]
abbrev lt384b : Array Value := #[Value.int IntKind.u32 3435473267, Value.int IntKind.u32 3974895978, Value.int IntKind.u32 1219536762, Value.int IntKind.u32 1478102450, Value.int IntKind.u32 4097256927, Value.int IntKind.u32 3345173889, Value.int IntKind.u32 4294967295, Value.int IntKind.u32 4294967295, Value.int IntKind.u32 4294967295, Value.int IntKind.u32 4294967295, Value.int IntKind.u32 4294967295, Value.int IntKind.u32 4294967295]
abbrev lt384c : Array Value := #[Value.int IntKind.u32 3555470063, Value.int IntKind.u32 713410797, Value.int IntKind.u32 2318324125, Value.int IntKind.u32 3327539597, Value.int IntKind.u32 1343457114, Value.int IntKind.u32 51644559, Value.int IntKind.u32 4269883666, Value.int IntKind.u32 404593774, Value.int IntKind.u32 3824692505, Value.int IntKind.u32 2559444331, Value.int IntKind.u32 3795773412, Value.int IntKind.u32 3006345127]
abbrev lt384d : Array Value := #[Value.int IntKind.u32 1920338615, Value.int IntKind.u32 978607672, Value.int IntKind.u32 3210029420, Value.int IntKind.u32 1426256477, Value.int IntKind.u32 2186553912, Value.int IntKind.u32 1509376480, Value.int IntKind.u32 2343017368, Value.int IntKind.u32 1847409506, Value.int IntKind.u32 4079005044, Value.int IntKind.u32 2394015518, Value.int IntKind.u32 3196781879, Value.int IntKind.u32 2861025826]
abbrev lt384e : Array Value := #[Value.int IntKind.u32 2431258207, Value.int IntKind.u32 2051218812, Value.int IntKind.u32 494829981, Value.int IntKind.u32 174109134, Value.int IntKind.u32 3052452032, Value.int IntKind.u32 3923390739, Value.int IntKind.u32 681186428, Value.int IntKind.u32 4176747965, Value.int IntKind.u32 2459098153, Value.int IntKind.u32 1570674879, Value.int IntKind.u32 2519084143, Value.int IntKind.u32 907533898]
abbrev wd384 (W2 : World) : World := (World.alloc (World.alloc (World.alloc (World.alloc (World.alloc W2 (Obj.cells lt384a 45)) (Obj.cells lt384b 45)) (Obj.cells lt384c 45)) (Obj.cells lt384d 45)) (Obj.cells lt384e 45))
set_option maxHeartbeats 4000000 in
theorem p384_any {w : World} : Calls Try.prog 76 #[] w fun e w' => ∃ cs, e = .returned (.agg cs.toArray) ∧ KindV w' cs c384 ∧ Below w.heap.size w w' := by
  go_enter Try.func76, Try.ntmps76
  go_upto_region 1 with (fail)
  refine wp_gen (fun W => Blk 53 W w.heap.size kz ∧ Below w.heap.size w W) ⟨Blk.new _ w _, al1 _⟩ ?_
  rintro W2 ⟨hB, hBw⟩
  have hA : Blk 53 (wd384 W2) w.heap.size kz := ((((hB.alloc _).alloc _).alloc _).alloc _).alloc _
  have d0 : World.cell? (wd384 W2) ⟨w.heap.size, 0, none⟩ = some (.int .i64 0) := hA.cell 0
  have d1 : World.cell? (wd384 W2) ⟨w.heap.size, 1, none⟩ = some (.slice none 0 0) := hA.cell 1
  have d2 : World.cell? (wd384 W2) ⟨w.heap.size, 2, none⟩ = some (.slice none 0 0) := hA.cell 2
  have d3 : World.cell? (wd384 W2) ⟨w.heap.size, 3, none⟩ = some (.slice none 0 0) := hA.cell 3
  have d4 : World.cell? (wd384 W2) ⟨w.heap.size, 4, none⟩ = some (.slice none 0 0) := hA.cell 4
  have d5 : World.cell? (wd384 W2) ⟨w.heap.size, 5, none⟩ = some (.slice none 0 0) := hA.cell 5
  have g0 : World.frozen? (wd384 W2) ⟨w.heap.size, 0, none⟩ = false := hA.frozen 0
  have g1 : World.frozen? (wd384 W2) ⟨w.heap.size, 1, none⟩ = false := hA.frozen 1
  have g2 : World.frozen? (wd384 W2) ⟨w.heap.size, 2, none⟩ = false := hA.frozen 2
  have g3 : World.frozen? (wd384 W2) ⟨w.heap.size, 3, none⟩ = false := hA.frozen 3
  have g4 : World.frozen? (wd384 W2) ⟨w.heap.size, 4, none⟩ = false := hA.frozen 4
  have g5 : World.frozen? (wd384 W2) ⟨w.heap.size, 5, none⟩ = false := hA.frozen 5
  have n0 : Nb (World.alloc W2 (Obj.cells lt384a 45)) (.slice (some ⟨W2.heap.size, 0, none⟩) 12 12) c384.p := by have h := nb_new (e := 45) (w := W2) [4294967295, 0, 0, 4294967295, 4294967294, 4294967295, 4294967295, 4294967295, 4294967295, 4294967295, 4294967295, 4294967295] c384.p lim384p; exact h
  have n1 : Nb (World.alloc (World.alloc W2 (Obj.cells lt384a 45)) (Obj.cells lt384b 45)) (.slice (some ⟨W2.heap.size + 1, 0, none⟩) 12 12) c384.n := by have h := nb_new (e := 45) (w := (World.alloc W2 (Obj.cells lt384a 45))) [3435473267, 3974895978, 1219536762, 1478102450, 4097256927, 3345173889, 4294967295, 4294967295, 4294967295, 4294967295, 4294967295, 4294967295] c384.n lim384n; rw [World.size_alloc] at h; exact h
  have n2 : Nb (World.alloc (World.alloc (World.alloc W2 (Obj.cells lt384a 45)) (Obj.cells lt384b 45)) (Obj.cells lt384c 45)) (.slice (some ⟨W2.heap.size + 1 + 1, 0, none⟩) 12 12) c384.b := by have h := nb_new (e := 45) (w := (World.alloc (World.alloc W2 (Obj.cells lt384a 45)) (Obj.cells lt384b 45))) [3555470063, 713410797, 2318324125, 3327539597, 1343457114, 51644559, 4269883666, 404593774, 3824692505, 2559444331, 3795773412, 3006345127] c384.b lim384b; rw [World.size_alloc, World.size_alloc] at h; exact h
  have n3 : Nb (World.alloc (World.alloc (World.alloc (World.alloc W2 (Obj.cells lt384a 45)) (Obj.cells lt384b 45)) (Obj.cells lt384c 45)) (Obj.cells lt384d 45)) (.slice (some ⟨W2.heap.size + 1 + 1 + 1, 0, none⟩) 12 12) c384.gx := by have h := nb_new (e := 45) (w := (World.alloc (World.alloc (World.alloc W2 (Obj.cells lt384a 45)) (Obj.cells lt384b 45)) (Obj.cells lt384c 45))) [1920338615, 978607672, 3210029420, 1426256477, 2186553912, 1509376480, 2343017368, 1847409506, 4079005044, 2394015518, 3196781879, 2861025826] c384.gx lim384gx; rw [World.size_alloc, World.size_alloc, World.size_alloc] at h; exact h
  have n4 : Nb (wd384 W2) (.slice (some ⟨W2.heap.size + 1 + 1 + 1 + 1, 0, none⟩) 12 12) c384.gy := by have h := nb_new (e := 45) (w := (World.alloc (World.alloc (World.alloc (World.alloc W2 (Obj.cells lt384a 45)) (Obj.cells lt384b 45)) (Obj.cells lt384c 45)) (Obj.cells lt384d 45))) [2431258207, 2051218812, 494829981, 174109134, 3052452032, 3923390739, 681186428, 4176747965, 2459098153, 1570674879, 2519084143, 907533898] c384.gy lim384gy; rw [World.size_alloc, World.size_alloc, World.size_alloc, World.size_alloc] at h; exact h
  have H2 : Hid (Blk 53 (wd384 W2) w.heap.size kz ∧ Below w.heap.size w (wd384 W2) ∧ Nb (wd384 W2) (.slice (some ⟨W2.heap.size, 0, none⟩) 12 12) c384.p ∧ Nb (wd384 W2) (.slice (some ⟨W2.heap.size + 1, 0, none⟩) 12 12) c384.n ∧ Nb (wd384 W2) (.slice (some ⟨W2.heap.size + 1 + 1, 0, none⟩) 12 12) c384.b ∧ Nb (wd384 W2) (.slice (some ⟨W2.heap.size + 1 + 1 + 1, 0, none⟩) 12 12) c384.gx ∧ Nb (wd384 W2) (.slice (some ⟨W2.heap.size + 1 + 1 + 1 + 1, 0, none⟩) 12 12) c384.gy) := ⟨hA, below_via hBw (((((al1 _).alloc (by simp) _).alloc (by simp; omega) _).alloc (by simp; omega) _).alloc (by simp; omega) _) (Nat.le_refl _), ((((n0.al _).al _).al _).al _), (((n1.al _).al _).al _), ((n2.al _).al _), (n3.al _), n4⟩
  have hnn : ∀ c ∈ kz, ∀ n, c ≠ .int .u32 n := by intro c hc; unfold kz at hc; simp at hc; rcases hc with h | h <;> (subst h; intro n h; cases h)
  have HN : Hid (∀ c ∈ kz, ∀ n, c ≠ .int .u32 n) := hnn
  clear hA hB hBw hnn n0 n1 n2 n3 n4
  go_wp2
  obtain ⟨Wn, hWn⟩ : ∃ Wn, (wd384 W2) = Wn := ⟨_, rfl⟩
  rw [hWn] at H2
  unfold wd384 lt384a lt384b lt384c lt384d lt384e at hWn
  rw [hWn]
  clear d0 d1 d2 d3 d4 d5 g0 g1 g2 g3 g4 g5 hWn
  obtain ⟨hF, hU⟩ := Blk.put6 H2.out.1 (.int .i64 48) (.slice (some ⟨W2.heap.size, 0, none⟩) 12 12) (.slice (some ⟨W2.heap.size + 1, 0, none⟩) 12 12) (.slice (some ⟨W2.heap.size + 1 + 1, 0, none⟩) 12 12) (.slice (some ⟨W2.heap.size + 1 + 1 + 1, 0, none⟩) 12 12) (.slice (some ⟨W2.heap.size + 1 + 1 + 1 + 1, 0, none⟩) 12 12)
  have hbl := hU.below H2.out.2.1 H2.out.2.1.size (Nat.le_refl _)
  exact bodyPost_ret (v := .agg [.int .i64 48, (.slice (some ⟨W2.heap.size, 0, none⟩) 12 12), (.slice (some ⟨W2.heap.size + 1, 0, none⟩) 12 12), (.slice (some ⟨W2.heap.size + 1 + 1, 0, none⟩) 12 12), (.slice (some ⟨W2.heap.size + 1 + 1 + 1, 0, none⟩) 12 12), (.slice (some ⟨W2.heap.size + 1 + 1 + 1 + 1, 0, none⟩) 12 12)].toArray) (results_blk (b := w.heap.size) (cs := [.int .i64 48, (.slice (some ⟨W2.heap.size, 0, none⟩) 12 12), (.slice (some ⟨W2.heap.size + 1, 0, none⟩) 12 12), (.slice (some ⟨W2.heap.size + 1 + 1, 0, none⟩) 12 12), (.slice (some ⟨W2.heap.size + 1 + 1 + 1, 0, none⟩) 12 12), (.slice (some ⟨W2.heap.size + 1 + 1 + 1 + 1, 0, none⟩) 12 12)]) rfl rfl hF Try.underlying53 rfl Try.sizeKd) rfl ⟨_, rfl, ⟨_, _, _, _, _, rfl, Nb.upd H2.out.2.2.1 H2.out.1 HN.out hU, Nb.upd H2.out.2.2.2.1 H2.out.1 HN.out hU, Nb.upd H2.out.2.2.2.2.1 H2.out.1 HN.out hU, Nb.upd H2.out.2.2.2.2.2.1 H2.out.1 HN.out hU, Nb.upd H2.out.2.2.2.2.2.2 H2.out.1 HN.out hU⟩, hbl⟩
end Go.Proofs.Ytkdclocjijmgpaa
