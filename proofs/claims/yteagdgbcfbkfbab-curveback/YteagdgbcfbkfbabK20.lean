/-
  Curve: Neg, Add, where nothing is at fault.
-/
import Derived.Test.YteagdgbcfbkfbabK19
namespace Go.Proofs.Yteagdgbcfbkfbab
open Go.RowKit
set_option maxRecDepth 20000

set_option maxHeartbeats 4000000 in
theorem Neg_ok {w : World} (c : Int) (C : Cv) (hc : crv c = some C) (vx vy : Value) (X Y : List Int) (hX : Sl .u32 w vx X) (hY : Sl .u32 w vy Y) (uX : U32s X) (uY : U32s Y) (lX : X.length ≤ 1000000) (lY : Y.length ≤ 1000000) (ho : onB C.p C.b X Y = true) :
    Calls Try.prog 14 #[.int .i64 c, .agg #[vx, vy]] w fun e w' => ∃ r0 r1, e = .returned (.tuple #[.agg [r0, r1].toArray, .int .i64 0]) ∧ Nb w' r0 (val X).toNat ∧ Nb w' r1 (fsb C.p 0 (val Y).toNat) ∧ Below w.heap.size w w' := by
  obtain ⟨xa, xn, xc, rfl, hxn⟩ := sl_cut hX
  obtain ⟨ya, yn, yc, rfl, hyn⟩ := sl_cut hY
  have HS : Hid (∀ W b2 T2, Below w.heap.size w W → Blk T2 W b2 [.slice xa xn xc, .slice ya yn yc] → Calls Try.prog 17 #[.int .i64 c, .slice none 0 0, .slice (some ⟨b2, 0, none⟩) 1 1] W fun e w' => ∃ s a1 n1 c1 a2 n2 c2 a3 n3 c3 a4 n4 c4 a5 n5 c5, e = .returned (.tuple #[.agg [.int .i64 (s : Nat), .slice a1 n1 c1, .slice a2 n2 c2, .slice a3 n3 c3, .slice a4 n4 c4, .slice a5 n5 c5].toArray, .int .i64 0]) ∧ KindS w' s a1 n1 c1 a2 n2 c2 a3 n3 c3 a4 n4 c4 a5 n5 c5 C ∧ Below W.heap.size W w') := fun W b2 T2 hW hb2 =>
    asked_01 c C hc b2 T2 (.slice xa xn xc) (.slice ya yn yc) X Y hb2 (below_sl hW hX) (below_sl hW hY) uX uY lX lY ho
  have HTx : Hid (∀ W, Below w.heap.size w W → Calls Try.prog 20 #[.slice xa xn xc] W fun e w' => ∃ a n c, e = .returned (.slice a n c) ∧ Nb w' (.slice a n c) (val X).toNat ∧ Below W.heap.size W w') := fun W hW => (LTrim _ X (below_sl hW hX) uX lX).mono fun e w' ⟨r, he, hn, hb⟩ => by obtain ⟨a, c, rfl⟩ := hn.form; exact ⟨a, _, c, he, hn, hb⟩
  have HTy : Hid (∀ W, Below w.heap.size w W → Calls Try.prog 20 #[.slice ya yn yc] W fun e w' => ∃ a n c, e = .returned (.slice a n c) ∧ Nb w' (.slice a n c) (val Y).toNat ∧ Below W.heap.size W w') := fun W hW => (LTrim _ Y (below_sl hW hY) uY lY).mono fun e w' ⟨r, he, hn, hb⟩ => by obtain ⟨a, c, rfl⟩ := hn.form; exact ⟨a, _, c, he, hn, hb⟩
  have hYl : (val Y).toNat < C.p := by have h := (onB_lt (crv_ok hc).1 ho).2; have := (crv_ok hc).1; omega
  obtain ⟨x, hx⟩ : ∃ x, (val X).toNat = x := ⟨_, rfl⟩
  obtain ⟨y, hy⟩ : ∃ y, (val Y).toNat = y := ⟨_, rfl⟩
  rw [hx] at HTx; rw [hy] at HTy hYl; rw [hx, hy]
  have HK : Hid (0 < C.p ∧ C.p < 4294967296 ^ 12 ∧ y < C.p) := ⟨(crv_ok hc).1, (crv_ok hc).2.1, hYl⟩
  have HFm : Hid (∀ W f r, Fld W f C.p → Nb W r y → Calls Try.prog 27 #[f, .slice none 0 0, r] W fun e w' => ∃ a n c, e = .returned (.slice a n c) ∧ Nb w' (.slice a n c) (fsb C.p 0 y) ∧ Below W.heap.size W w') := fun W f r hf hr => (Fminus f (.slice none 0 0) r C.p 0 y hf (nil_nb W) hr HK.out.1 HK.out.2.2).mono fun e w' ⟨r, he, hn, hb⟩ => by obtain ⟨a, c, rfl⟩ := hn.form; exact ⟨a, _, c, he, hn, hb⟩
  clear hc hX hY uX uY lX lY ho hxn hyn hYl hx hy
  go_enter Try.func14, Try.ntmps14
  go_upto_region 1 with (refine wpList_boxR rfl 27 (.tmp 1) rfl #[.slice xa xn xc, .slice ya yn yc] rfl ?_)
  refine wp_gen (fun W => Blk 27 W w.heap.size [.slice xa xn xc, .slice ya yn yc] ∧ Blk 27 W (w.heap.size + 1) [.slice none 0 0, .slice none 0 0] ∧ Below w.heap.size w W) ⟨(Blk.new _ w _).alloc _, by have := Blk.new 27 (w.alloc (.cells [.slice xa xn xc, .slice ya yn yc].toArray 27)) [.slice none 0 0, .slice none 0 0]; rw [World.size_alloc] at this; exact this, (al1 _).alloc (by simp) _⟩ ?_
  rintro W2 ⟨hB, hR, hBw⟩
  have H2 : Hid (Below w.heap.size w W2 ∧ Blk 27 W2 w.heap.size [.slice xa xn xc, .slice ya yn yc] ∧ Blk 27 W2 (w.heap.size + 1) [.slice none 0 0, .slice none 0 0]) := ⟨hBw, hB, hR⟩
  have p0 : W2.cell? ⟨w.heap.size, 0, none⟩ = some (.slice xa xn xc) := hB.cell 0
  have p1 : W2.cell? ⟨w.heap.size, 1, none⟩ = some (.slice ya yn yc) := hB.cell 1
  clear hB hR hBw
  go_wp2_with fail
  refine (HS.out _ W2.heap.size 27 (below_via H2.out.1 (al1 _) (Nat.le_refl _)) (Blk.new _ W2 _)).mono ?_
  rintro e w3 ⟨s, a1, n1, c1, a2, n2, c2, a3, n3, c3, a4, n4, c4, a5, n5, c5, rfl, hk, hb3⟩
  have hb23 : Below W2.heap.size W2 w3 := below_via (al1 _) hb3 (Nat.le_refl _)
  have H3 : Hid (Below w.heap.size w w3 ∧ KindS w3 s a1 n1 c1 a2 n2 c2 a3 n3 c3 a4 n4 c4 a5 n5 c5 C ∧ Blk 27 w3 w.heap.size [.slice xa xn xc, .slice ya yn yc] ∧ Blk 27 w3 (w.heap.size + 1) [.slice none 0 0, .slice none 0 0]) := ⟨below_via H2.out.1 hb23 (Nat.le_refl _), hk, below_blk hb23 H2.out.2.1.lt H2.out.2.1, below_blk hb23 H2.out.2.2.lt H2.out.2.2⟩
  have hlt : w.heap.size + 1 < w3.heap.size := H3.out.2.2.2.lt
  clear hb3 hb23 hk HS p0 p1
  go_upto_region 2 with (fail)
  refine wp_gen (fun W => Blk 46 W w3.heap.size [.int .i64 s, .slice a1 n1 c1, .slice a2 n2 c2, .slice a3 n3 c3, .slice a4 n4 c4, .slice a5 n5 c5] ∧ Below w3.heap.size w3 W) ⟨Blk.new _ _ _, al1 _⟩ ?_
  rintro W4 ⟨hB4, hb4⟩
  have H4 : Hid (Below w.heap.size w W4 ∧ KindS W4 s a1 n1 c1 a2 n2 c2 a3 n3 c3 a4 n4 c4 a5 n5 c5 C ∧ Blk 27 W4 w.heap.size [.slice xa xn xc, .slice ya yn yc] ∧ Blk 27 W4 (w.heap.size + 1) [.slice none 0 0, .slice none 0 0] ∧ Blk 46 W4 w3.heap.size [.int .i64 s, .slice a1 n1 c1, .slice a2 n2 c2, .slice a3 n3 c3, .slice a4 n4 c4, .slice a5 n5 c5]) := ⟨below_via H3.out.1 hb4 (Nat.le_refl _), H3.out.2.1.below hb4, below_blk hb4 H3.out.2.2.1.lt H3.out.2.2.1, below_blk hb4 H3.out.2.2.2.lt H3.out.2.2.2, hB4⟩
  clear hB4 hb4
  have HSc : Hid (∀ W W', (Below w.heap.size w W ∧ W.cell? ⟨w.heap.size, 0, none⟩ = some (.slice xa xn xc) ∧ W.cell? ⟨w.heap.size, 1, none⟩ = some (.slice ya yn yc) ∧ W.cell? ⟨w3.heap.size, 1, none⟩ = some (.slice a1 n1 c1) ∧ w.heap.size < W.heap.size ∧ w3.heap.size < W.heap.size) → Below W.heap.size W W' → (Below w.heap.size w W' ∧ W'.cell? ⟨w.heap.size, 0, none⟩ = some (.slice xa xn xc) ∧ W'.cell? ⟨w.heap.size, 1, none⟩ = some (.slice ya yn yc) ∧ W'.cell? ⟨w3.heap.size, 1, none⟩ = some (.slice a1 n1 c1) ∧ w.heap.size < W'.heap.size ∧ w3.heap.size < W'.heap.size)) := fun W W' h hb => ⟨below_via h.1 hb (Nat.le_refl _), by rw [hb.cell (p := ⟨w.heap.size, 0, none⟩) h.2.2.2.2.1]; exact h.2.1, by rw [hb.cell (p := ⟨w.heap.size, 1, none⟩) h.2.2.2.2.1]; exact h.2.2.1, by rw [hb.cell (p := ⟨w3.heap.size, 1, none⟩) h.2.2.2.2.2]; exact h.2.2.2.1, Nat.lt_of_lt_of_le h.2.2.2.2.1 hb.size, Nat.lt_of_lt_of_le h.2.2.2.2.2 hb.size⟩
  have HSs : Hid (∀ W i v, (Below w.heap.size w W ∧ W.cell? ⟨w.heap.size, 0, none⟩ = some (.slice xa xn xc) ∧ W.cell? ⟨w.heap.size, 1, none⟩ = some (.slice ya yn yc) ∧ W.cell? ⟨w3.heap.size, 1, none⟩ = some (.slice a1 n1 c1) ∧ w.heap.size < W.heap.size ∧ w3.heap.size < W.heap.size) → (Below w.heap.size w (W.setCell ⟨w.heap.size + 1, i, none⟩ v) ∧ (W.setCell ⟨w.heap.size + 1, i, none⟩ v).cell? ⟨w.heap.size, 0, none⟩ = some (.slice xa xn xc) ∧ (W.setCell ⟨w.heap.size + 1, i, none⟩ v).cell? ⟨w.heap.size, 1, none⟩ = some (.slice ya yn yc) ∧ (W.setCell ⟨w.heap.size + 1, i, none⟩ v).cell? ⟨w3.heap.size, 1, none⟩ = some (.slice a1 n1 c1) ∧ w.heap.size < (W.setCell ⟨w.heap.size + 1, i, none⟩ v).heap.size ∧ w3.heap.size < (W.setCell ⟨w.heap.size + 1, i, none⟩ v).heap.size)) := fun W i v h => by
    have hU := Upd.set W (w.heap.size + 1) i v
    exact ⟨hU.below h.1 h.1.size (by omega), (World.cell?_of_block (a := ⟨w.heap.size, 0, none⟩) (hU.block (w.heap.size) h.2.2.2.2.1 (by first | (dsimp only; omega) | (simp; done) | (simp; omega)))).trans h.2.1, (World.cell?_of_block (a := ⟨w.heap.size, 1, none⟩) (hU.block (w.heap.size) h.2.2.2.2.1 (by first | (dsimp only; omega) | (simp; done) | (simp; omega)))).trans h.2.2.1, (World.cell?_of_block (a := ⟨w3.heap.size, 1, none⟩) (hU.block (w3.heap.size) h.2.2.2.2.2 (by first | (dsimp only; omega) | (simp; done) | (simp; omega)))).trans h.2.2.2.1, Nat.lt_of_lt_of_le h.2.2.2.2.1 hU.size, Nat.lt_of_lt_of_le h.2.2.2.2.2 hU.size⟩
  have HS0 : Hid (Below w.heap.size w W4.drew ∧ W4.drew.cell? ⟨w.heap.size, 0, none⟩ = some (.slice xa xn xc) ∧ W4.drew.cell? ⟨w.heap.size, 1, none⟩ = some (.slice ya yn yc) ∧ W4.drew.cell? ⟨w3.heap.size, 1, none⟩ = some (.slice a1 n1 c1) ∧ w.heap.size < W4.drew.heap.size ∧ w3.heap.size < W4.drew.heap.size) := ⟨Below.drew H4.out.1, H4.out.2.2.1.cell 0, H4.out.2.2.1.cell 1, H4.out.2.2.2.2.cell 1, H4.out.2.2.1.lt, H4.out.2.2.2.2.lt⟩
  have HD : Hid (Below w.heap.size w W4.drew ∧ Fld W4.drew (.slice a1 n1 c1) C.p ∧ Blk 27 W4.drew (w.heap.size + 1) [.slice none 0 0, .slice none 0 0]) := ⟨Below.drew H4.out.1, ⟨H4.out.2.1.2.1, HK.out.1, HK.out.2.1⟩, H4.out.2.2.2.1⟩
  go_wp2_with fail
  go_region_held3 (fun W => Below w.heap.size w W ∧ W.cell? ⟨w.heap.size, 0, none⟩ = some (.slice xa xn xc) ∧ W.cell? ⟨w.heap.size, 1, none⟩ = some (.slice ya yn yc) ∧ W.cell? ⟨w3.heap.size, 1, none⟩ = some (.slice a1 n1 c1) ∧ w.heap.size < W.heap.size ∧ w3.heap.size < W.heap.size)
      (first | assumption | exact HS0.out | exact HSc.out _ _ (by assumption) (by assumption) | exact HSs.out _ _ _ (HSs.out _ _ _ (by assumption)))
      (first
      | (replace K6 := K6; go_at_call 27; refine (HFm.out _ (.slice a1 n1 c1) _ K6.out.2.2.1 K6.out.2.2.2.2).mono ?_; rintro e w7 ⟨ra7, rn7, rc7, rfl, hr7, hb7⟩; have K7 : Hid (Below w.heap.size w w7 ∧ Blk 27 w7 (w.heap.size + 1) [.slice none 0 0, .slice none 0 0] ∧ Nb w7 (.slice ra5 rn5 rc5) x ∧ Nb w7 (.slice ra7 rn7 rc7) (fsb C.p 0 y)) := ⟨below_via K6.out.1 hb7 (Nat.le_refl _), below_blk hb7 K6.out.2.1.lt K6.out.2.1, K6.out.2.2.2.1.below hb7, hr7⟩; have d0 : w7.cell? ⟨w.heap.size + 1, 0, none⟩ = some (.slice none 0 0) := K7.out.2.1.cell 0; have d1 : w7.cell? ⟨w.heap.size + 1, 1, none⟩ = some (.slice none 0 0) := K7.out.2.1.cell 1; have g0 := K7.out.2.1.frozen 0; have g1 := K7.out.2.1.frozen 1; clear hr7)
      | (replace K5 := K5; go_at_call 20; refine (HTy.out _ K5.out.1).mono ?_; rintro e w6 ⟨ra6, rn6, rc6, rfl, hr6, hb6⟩; have K6 : Hid (Below w.heap.size w w6 ∧ Blk 27 w6 (w.heap.size + 1) [.slice none 0 0, .slice none 0 0] ∧ Fld w6 (.slice a1 n1 c1) C.p ∧ Nb w6 (.slice ra5 rn5 rc5) x ∧ Nb w6 (.slice ra6 rn6 rc6) y) := ⟨below_via K5.out.1 hb6 (Nat.le_refl _), below_blk hb6 K5.out.2.1.lt K5.out.2.1, K5.out.2.2.1.below hb6, K5.out.2.2.2.below hb6, hr6⟩; clear hr6)
      | (go_at_call 20; refine (HTx.out _ HD.out.1).mono ?_; rintro e w5 ⟨ra5, rn5, rc5, rfl, hr5, hb5⟩; have K5 : Hid (Below w.heap.size w w5 ∧ Blk 27 w5 (w.heap.size + 1) [.slice none 0 0, .slice none 0 0] ∧ Fld w5 (.slice a1 n1 c1) C.p ∧ Nb w5 (.slice ra5 rn5 rc5) x) := ⟨below_via HD.out.1 hb5 (Nat.le_refl _), below_blk hb5 HD.out.2.2.lt HD.out.2.2, HD.out.2.1.below hb5, hr5⟩; clear hr5))
  clear hb5 hb6 hb7
  go_wp2
  obtain ⟨hF, hU⟩ := Blk.put2 K7.out.2.1 (.slice ra5 rn5 rc5) (.slice ra7 rn7 rc7)
  have hbl := hU.below K7.out.1 K7.out.1.size (Nat.le_succ _)
  exact bodyPost_ret (results_blk2 rfl rfl hF Try.underlying27 rfl Try.sizePt rfl) rfl ⟨_, _, rfl, K7.out.2.2.1.upd K7.out.2.1 noInts hU, K7.out.2.2.2.upd K7.out.2.1 noInts hU, hbl⟩

set_option maxHeartbeats 4000000 in
theorem Add_ok {w : World} (c : Int) (C : Cv) (hc : crv c = some C) (vx0 vy0 vx1 vy1 : Value) (X0 Y0 X1 Y1 : List Int) (hX0 : Sl .u32 w vx0 X0) (hY0 : Sl .u32 w vy0 Y0) (uX0 : U32s X0) (uY0 : U32s Y0) (lX0 : X0.length ≤ 1000000) (lY0 : Y0.length ≤ 1000000) (ho0 : onB C.p C.b X0 Y0 = true) (hX1 : Sl .u32 w vx1 X1) (hY1 : Sl .u32 w vy1 Y1) (uX1 : U32s X1) (uY1 : U32s Y1) (lX1 : X1.length ≤ 1000000) (lY1 : Y1.length ≤ 1000000) (ho1 : onB C.p C.b X1 Y1 = true)
    (hg : (jsm C.p (triB X0 Y0) (triB X1 Y1)).2.2 ≠ 0 → Nat.gcd (jsm C.p (triB X0 Y0) (triB X1 Y1)).2.2 C.p = 1) :
    Calls Try.prog 15 #[.int .i64 c, .agg #[vx0, vy0], .agg #[vx1, vy1]] w fun e w' => ∃ r0 r1 RX RY, e = .returned (.tuple #[.agg [r0, r1].toArray, .int .i64 0]) ∧ jpt C.p (jsm C.p (triB X0 Y0) (triB X1 Y1)) RX RY ∧ Nb w' r0 RX ∧ Nb w' r1 RY ∧ Below w.heap.size w w' := by
  obtain ⟨xa0, xn0, xc0, rfl, hxn0⟩ := sl_cut hX0
  obtain ⟨ya0, yn0, yc0, rfl, hyn0⟩ := sl_cut hY0
  obtain ⟨xa1, xn1, xc1, rfl, hxn1⟩ := sl_cut hX1
  obtain ⟨ya1, yn1, yc1, rfl, hyn1⟩ := sl_cut hY1
  have HS : Hid (∀ W b2 T2, Below w.heap.size w W → Blk T2 W b2 ([.slice xa0 xn0 xc0, .slice ya0 yn0 yc0] ++ [.slice xa1 xn1 xc1, .slice ya1 yn1 yc1]) → Calls Try.prog 17 #[.int .i64 c, .slice none 0 0, .slice (some ⟨b2, 0, none⟩) 2 2] W fun e w' => ∃ s a1 n1 c1 a2 n2 c2 a3 n3 c3 a4 n4 c4 a5 n5 c5, e = .returned (.tuple #[.agg [.int .i64 (s : Nat), .slice a1 n1 c1, .slice a2 n2 c2, .slice a3 n3 c3, .slice a4 n4 c4, .slice a5 n5 c5].toArray, .int .i64 0]) ∧ KindS w' s a1 n1 c1 a2 n2 c2 a3 n3 c3 a4 n4 c4 a5 n5 c5 C ∧ Below W.heap.size W w') := fun W b2 T2 hW hb2 =>
    asked_02 c C hc b2 T2 _ _ X0 Y0 _ _ X1 Y1 hb2 (below_sl hW hX0) (below_sl hW hY0) uX0 uY0 lX0 lY0 ho0 (below_sl hW hX1) (below_sl hW hY1) uX1 uY1 lX1 lY1 ho1
  have HT0 : Hid (∀ W, Below w.heap.size w W → Calls Try.prog 30 #[.agg #[.slice xa0 xn0 xc0, .slice ya0 yn0 yc0]] W fun e w' => ∃ a b c, e = .returned (.agg #[a, b, c]) ∧ Nb w' a (triB X0 Y0).1 ∧ Nb w' b (triB X0 Y0).2.1 ∧ Nb w' c (triB X0 Y0).2.2 ∧ Below W.heap.size W w') := fun W hW => TripleOf _ _ X0 Y0 (below_sl hW hX0) (below_sl hW hY0) uX0 uY0 lX0 lY0
  have hl0 : Lt3 C.p (triB X0 Y0) := triB_lt (crv_ok hc).1 (crv_p1 hc) (onB_lt (crv_ok hc).1 ho0).1 (onB_lt (crv_ok hc).1 ho0).2 (val_nonneg uX0) (val_nonneg uY0)
  have HT1 : Hid (∀ W, Below w.heap.size w W → Calls Try.prog 30 #[.agg #[.slice xa1 xn1 xc1, .slice ya1 yn1 yc1]] W fun e w' => ∃ a b c, e = .returned (.agg #[a, b, c]) ∧ Nb w' a (triB X1 Y1).1 ∧ Nb w' b (triB X1 Y1).2.1 ∧ Nb w' c (triB X1 Y1).2.2 ∧ Below W.heap.size W w') := fun W hW => TripleOf _ _ X1 Y1 (below_sl hW hX1) (below_sl hW hY1) uX1 uY1 lX1 lY1
  have hl1 : Lt3 C.p (triB X1 Y1) := triB_lt (crv_ok hc).1 (crv_p1 hc) (onB_lt (crv_ok hc).1 ho1).1 (onB_lt (crv_ok hc).1 ho1).2 (val_nonneg uX1) (val_nonneg uY1)
  obtain ⟨t0, ht0⟩ : ∃ t, triB X0 Y0 = t := ⟨_, rfl⟩
  obtain ⟨t1, ht1⟩ : ∃ t, triB X1 Y1 = t := ⟨_, rfl⟩
  rw [ht0] at HT0 hl0 hg; rw [ht1] at HT1 hl1 hg; rw [ht0, ht1]
  have hl2 : Lt3 C.p (jsm C.p t0 t1) := jsm_lt (crv_ok hc).1 hl0 hl1
  have HSu : Hid (∀ W f a0 b0 c0 a1 b1 c1, Fld W f C.p → Nb W a0 t0.1 → Nb W b0 t0.2.1 → Nb W c0 t0.2.2 → Nb W a1 t1.1 → Nb W b1 t1.2.1 → Nb W c1 t1.2.2 → Calls Try.prog 29 #[f, .agg #[a0, b0, c0], .agg #[a1, b1, c1]] W fun e w' => ∃ a b c, e = .returned (.agg #[a, b, c]) ∧ Nb w' a (jsm C.p t0 t1).1 ∧ Nb w' b (jsm C.p t0 t1).2.1 ∧ Nb w' c (jsm C.p t0 t1).2.2 ∧ Below W.heap.size W w') := fun W f a0 b0 c0 a1 b1 c1 hf h1 h2 h3 h4 h5 h6 => Tsum f a0 b0 c0 a1 b1 c1 C.p t0.1 t0.2.1 t0.2.2 t1.1 t1.2.1 t1.2.2 hf h1 h2 h3 h4 h5 h6 hl0.1 hl0.2.1 hl0.2.2 hl1.1 hl1.2.1 hl1.2.2
  obtain ⟨t2, ht2⟩ : ∃ t, jsm C.p t0 t1 = t := ⟨_, rfl⟩
  rw [ht2] at HSu hl2 hg; rw [ht2]
  have HPt : Hid (∀ W f a b c, Fld W f C.p → Nb W a t2.1 → Nb W b t2.2.1 → Nb W c t2.2.2 → Calls Try.prog 28 #[f, .agg #[a, b, c]] W fun e w' => ∃ ra rn rc qa qn qc RX RY, e = .returned (.agg #[.slice ra rn rc, .slice qa qn qc]) ∧ jpt C.p t2 RX RY ∧ Nb w' (.slice ra rn rc) RX ∧ Nb w' (.slice qa qn qc) RY ∧ Below W.heap.size W w') := fun W f a b c hf h1 h2 h3 => (Tpoint f a b c C.p t2.1 t2.2.1 t2.2.2 hf h1 h2 h3 hl2.1 hl2.2.1 hl2.2.2 hg).mono fun e w' ⟨r0, r1, RX, RY, he, hj, n0, n1, hb⟩ => by
    obtain ⟨ra, rc, rfl⟩ := n0.form
    obtain ⟨qa, qc, rfl⟩ := n1.form
    exact ⟨ra, _, rc, qa, _, qc, RX, RY, he, hj, n0, n1, hb⟩
  have HK : Hid (0 < C.p ∧ C.p < 4294967296 ^ 12) := ⟨(crv_ok hc).1, (crv_ok hc).2.1⟩
  clear hc hX0 hY0 uX0 uY0 lX0 lY0 ho0 hX1 hY1 uX1 uY1 lX1 lY1 ho1 hxn0 hyn0 hxn1 hyn1 hl0 hl1 hl2 hg ht0 ht1 ht2
  go_enter Try.func15, Try.ntmps15
  go_upto_region 1 with (first | (refine wpList_boxR rfl 27 (.tmp 1) rfl #[.slice xa0 xn0 xc0, .slice ya0 yn0 yc0] rfl ?_) | (refine wpList_boxR rfl 27 (.tmp 2) rfl #[.slice xa1 xn1 xc1, .slice ya1 yn1 yc1] rfl ?_))
  refine wp_gen (fun W => Blk 27 W w.heap.size [.slice xa0 xn0 xc0, .slice ya0 yn0 yc0] ∧ Blk 27 W (w.heap.size + 1) [.slice xa1 xn1 xc1, .slice ya1 yn1 yc1] ∧ Blk 27 W (w.heap.size + 1 + 1) [.slice none 0 0, .slice none 0 0] ∧ Below w.heap.size w W) ⟨((Blk.new _ w _).alloc _).alloc _, by have := (Blk.new 27 (w.alloc (.cells [.slice xa0 xn0 xc0, .slice ya0 yn0 yc0].toArray 27)) [.slice xa1 xn1 xc1, .slice ya1 yn1 yc1]).alloc (.cells [.slice none 0 0, .slice none 0 0].toArray 27); rw [World.size_alloc] at this; exact this, by have := Blk.new 27 ((w.alloc (.cells [.slice xa0 xn0 xc0, .slice ya0 yn0 yc0].toArray 27)).alloc (.cells [.slice xa1 xn1 xc1, .slice ya1 yn1 yc1].toArray 27)) [.slice none 0 0, .slice none 0 0]; rw [World.size_alloc, World.size_alloc] at this; exact this, ((al1 _).alloc (by simp) _).alloc (by simp; omega) _⟩ ?_
  rintro W2 ⟨hB, hB2, hR, hBw⟩
  have H2 : Hid (Below w.heap.size w W2 ∧ Blk 27 W2 w.heap.size [.slice xa0 xn0 xc0, .slice ya0 yn0 yc0] ∧ Blk 27 W2 (w.heap.size + 1) [.slice xa1 xn1 xc1, .slice ya1 yn1 yc1] ∧ Blk 27 W2 (w.heap.size + 1 + 1) [.slice none 0 0, .slice none 0 0]) := ⟨hBw, hB, hB2, hR⟩
  have p0 : W2.cell? ⟨w.heap.size, 0, none⟩ = some (.slice xa0 xn0 xc0) := hB.cell 0
  have p1 : W2.cell? ⟨w.heap.size, 1, none⟩ = some (.slice ya0 yn0 yc0) := hB.cell 1
  have p2 : W2.cell? ⟨w.heap.size + 1, 0, none⟩ = some (.slice xa1 xn1 xc1) := hB2.cell 0
  have p3 : W2.cell? ⟨w.heap.size + 1, 1, none⟩ = some (.slice ya1 yn1 yc1) := hB2.cell 1
  clear hB hB2 hR hBw
  go_wp2_with fail
  refine (HS.out _ W2.heap.size 27 (below_via H2.out.1 (al1 _) (Nat.le_refl _)) (Blk.new _ W2 _)).mono ?_
  rintro e w3 ⟨s, a1, n1, c1, a2, n2, c2, a3, n3, c3, a4, n4, c4, a5, n5, c5, rfl, hk, hb3⟩
  have hb23 : Below W2.heap.size W2 w3 := below_via (al1 _) hb3 (Nat.le_refl _)
  have H3 : Hid (Below w.heap.size w w3 ∧ KindS w3 s a1 n1 c1 a2 n2 c2 a3 n3 c3 a4 n4 c4 a5 n5 c5 C ∧ Blk 27 w3 w.heap.size [.slice xa0 xn0 xc0, .slice ya0 yn0 yc0] ∧ Blk 27 w3 (w.heap.size + 1) [.slice xa1 xn1 xc1, .slice ya1 yn1 yc1] ∧ Blk 27 w3 (w.heap.size + 1 + 1) [.slice none 0 0, .slice none 0 0]) := ⟨below_via H2.out.1 hb23 (Nat.le_refl _), hk, below_blk hb23 H2.out.2.1.lt H2.out.2.1, below_blk hb23 H2.out.2.2.1.lt H2.out.2.2.1, below_blk hb23 H2.out.2.2.2.lt H2.out.2.2.2⟩
  have hlt : w.heap.size + 1 + 1 < w3.heap.size := H3.out.2.2.2.2.lt
  clear hb3 hb23 hk HS p0 p1 p2 p3
  go_upto_region 2 with (fail)
  refine wp_gen (fun W => Blk 46 W w3.heap.size [.int .i64 s, .slice a1 n1 c1, .slice a2 n2 c2, .slice a3 n3 c3, .slice a4 n4 c4, .slice a5 n5 c5] ∧ Below w3.heap.size w3 W) ⟨Blk.new _ _ _, al1 _⟩ ?_
  rintro W4 ⟨hB4, hb4⟩
  have H4 : Hid (Below w.heap.size w W4 ∧ KindS W4 s a1 n1 c1 a2 n2 c2 a3 n3 c3 a4 n4 c4 a5 n5 c5 C ∧ Blk 27 W4 w.heap.size [.slice xa0 xn0 xc0, .slice ya0 yn0 yc0] ∧ Blk 27 W4 (w.heap.size + 1) [.slice xa1 xn1 xc1, .slice ya1 yn1 yc1] ∧ Blk 27 W4 (w.heap.size + 1 + 1) [.slice none 0 0, .slice none 0 0] ∧ Blk 46 W4 w3.heap.size [.int .i64 s, .slice a1 n1 c1, .slice a2 n2 c2, .slice a3 n3 c3, .slice a4 n4 c4, .slice a5 n5 c5]) := ⟨below_via H3.out.1 hb4 (Nat.le_refl _), H3.out.2.1.below hb4, below_blk hb4 H3.out.2.2.1.lt H3.out.2.2.1, below_blk hb4 H3.out.2.2.2.1.lt H3.out.2.2.2.1, below_blk hb4 H3.out.2.2.2.2.lt H3.out.2.2.2.2, hB4⟩
  clear hB4 hb4
  have HSc : Hid (∀ W W', (Below w.heap.size w W ∧ W.cell? ⟨w.heap.size, 0, none⟩ = some (.slice xa0 xn0 xc0) ∧ W.cell? ⟨w.heap.size, 1, none⟩ = some (.slice ya0 yn0 yc0) ∧ W.cell? ⟨w.heap.size + 1, 0, none⟩ = some (.slice xa1 xn1 xc1) ∧ W.cell? ⟨w.heap.size + 1, 1, none⟩ = some (.slice ya1 yn1 yc1) ∧ W.cell? ⟨w3.heap.size, 1, none⟩ = some (.slice a1 n1 c1) ∧ w.heap.size < W.heap.size ∧ w.heap.size + 1 < W.heap.size ∧ w3.heap.size < W.heap.size) → Below W.heap.size W W' → (Below w.heap.size w W' ∧ W'.cell? ⟨w.heap.size, 0, none⟩ = some (.slice xa0 xn0 xc0) ∧ W'.cell? ⟨w.heap.size, 1, none⟩ = some (.slice ya0 yn0 yc0) ∧ W'.cell? ⟨w.heap.size + 1, 0, none⟩ = some (.slice xa1 xn1 xc1) ∧ W'.cell? ⟨w.heap.size + 1, 1, none⟩ = some (.slice ya1 yn1 yc1) ∧ W'.cell? ⟨w3.heap.size, 1, none⟩ = some (.slice a1 n1 c1) ∧ w.heap.size < W'.heap.size ∧ w.heap.size + 1 < W'.heap.size ∧ w3.heap.size < W'.heap.size)) := fun W W' h hb => ⟨below_via h.1 hb (Nat.le_refl _), by rw [hb.cell (p := ⟨w.heap.size, 0, none⟩) h.2.2.2.2.2.2.1]; exact h.2.1, by rw [hb.cell (p := ⟨w.heap.size, 1, none⟩) h.2.2.2.2.2.2.1]; exact h.2.2.1, by rw [hb.cell (p := ⟨w.heap.size + 1, 0, none⟩) h.2.2.2.2.2.2.2.1]; exact h.2.2.2.1, by rw [hb.cell (p := ⟨w.heap.size + 1, 1, none⟩) h.2.2.2.2.2.2.2.1]; exact h.2.2.2.2.1, by rw [hb.cell (p := ⟨w3.heap.size, 1, none⟩) h.2.2.2.2.2.2.2.2]; exact h.2.2.2.2.2.1, Nat.lt_of_lt_of_le h.2.2.2.2.2.2.1 hb.size, Nat.lt_of_lt_of_le h.2.2.2.2.2.2.2.1 hb.size, Nat.lt_of_lt_of_le h.2.2.2.2.2.2.2.2 hb.size⟩
  have HSs : Hid (∀ W i v, (Below w.heap.size w W ∧ W.cell? ⟨w.heap.size, 0, none⟩ = some (.slice xa0 xn0 xc0) ∧ W.cell? ⟨w.heap.size, 1, none⟩ = some (.slice ya0 yn0 yc0) ∧ W.cell? ⟨w.heap.size + 1, 0, none⟩ = some (.slice xa1 xn1 xc1) ∧ W.cell? ⟨w.heap.size + 1, 1, none⟩ = some (.slice ya1 yn1 yc1) ∧ W.cell? ⟨w3.heap.size, 1, none⟩ = some (.slice a1 n1 c1) ∧ w.heap.size < W.heap.size ∧ w.heap.size + 1 < W.heap.size ∧ w3.heap.size < W.heap.size) → (Below w.heap.size w (W.setCell ⟨w.heap.size + 1 + 1, i, none⟩ v) ∧ (W.setCell ⟨w.heap.size + 1 + 1, i, none⟩ v).cell? ⟨w.heap.size, 0, none⟩ = some (.slice xa0 xn0 xc0) ∧ (W.setCell ⟨w.heap.size + 1 + 1, i, none⟩ v).cell? ⟨w.heap.size, 1, none⟩ = some (.slice ya0 yn0 yc0) ∧ (W.setCell ⟨w.heap.size + 1 + 1, i, none⟩ v).cell? ⟨w.heap.size + 1, 0, none⟩ = some (.slice xa1 xn1 xc1) ∧ (W.setCell ⟨w.heap.size + 1 + 1, i, none⟩ v).cell? ⟨w.heap.size + 1, 1, none⟩ = some (.slice ya1 yn1 yc1) ∧ (W.setCell ⟨w.heap.size + 1 + 1, i, none⟩ v).cell? ⟨w3.heap.size, 1, none⟩ = some (.slice a1 n1 c1) ∧ w.heap.size < (W.setCell ⟨w.heap.size + 1 + 1, i, none⟩ v).heap.size ∧ w.heap.size + 1 < (W.setCell ⟨w.heap.size + 1 + 1, i, none⟩ v).heap.size ∧ w3.heap.size < (W.setCell ⟨w.heap.size + 1 + 1, i, none⟩ v).heap.size)) := fun W i v h => by
    have hU := Upd.set W (w.heap.size + 1 + 1) i v
    exact ⟨hU.below h.1 h.1.size (by omega), (World.cell?_of_block (a := ⟨w.heap.size, 0, none⟩) (hU.block (w.heap.size) h.2.2.2.2.2.2.1 (by first | (dsimp only; omega) | (simp; done) | (simp; omega)))).trans h.2.1, (World.cell?_of_block (a := ⟨w.heap.size, 1, none⟩) (hU.block (w.heap.size) h.2.2.2.2.2.2.1 (by first | (dsimp only; omega) | (simp; done) | (simp; omega)))).trans h.2.2.1, (World.cell?_of_block (a := ⟨w.heap.size + 1, 0, none⟩) (hU.block (w.heap.size + 1) h.2.2.2.2.2.2.2.1 (by first | (dsimp only; omega) | (simp; done) | (simp; omega)))).trans h.2.2.2.1, (World.cell?_of_block (a := ⟨w.heap.size + 1, 1, none⟩) (hU.block (w.heap.size + 1) h.2.2.2.2.2.2.2.1 (by first | (dsimp only; omega) | (simp; done) | (simp; omega)))).trans h.2.2.2.2.1, (World.cell?_of_block (a := ⟨w3.heap.size, 1, none⟩) (hU.block (w3.heap.size) h.2.2.2.2.2.2.2.2 (by first | (dsimp only; omega) | (simp; done) | (simp; omega)))).trans h.2.2.2.2.2.1, Nat.lt_of_lt_of_le h.2.2.2.2.2.2.1 hU.size, Nat.lt_of_lt_of_le h.2.2.2.2.2.2.2.1 hU.size, Nat.lt_of_lt_of_le h.2.2.2.2.2.2.2.2 hU.size⟩
  have HS0 : Hid (Below w.heap.size w W4.drew ∧ W4.drew.cell? ⟨w.heap.size, 0, none⟩ = some (.slice xa0 xn0 xc0) ∧ W4.drew.cell? ⟨w.heap.size, 1, none⟩ = some (.slice ya0 yn0 yc0) ∧ W4.drew.cell? ⟨w.heap.size + 1, 0, none⟩ = some (.slice xa1 xn1 xc1) ∧ W4.drew.cell? ⟨w.heap.size + 1, 1, none⟩ = some (.slice ya1 yn1 yc1) ∧ W4.drew.cell? ⟨w3.heap.size, 1, none⟩ = some (.slice a1 n1 c1) ∧ w.heap.size < W4.drew.heap.size ∧ w.heap.size + 1 < W4.drew.heap.size ∧ w3.heap.size < W4.drew.heap.size) := ⟨Below.drew H4.out.1, H4.out.2.2.1.cell 0, H4.out.2.2.1.cell 1, H4.out.2.2.2.1.cell 0, H4.out.2.2.2.1.cell 1, H4.out.2.2.2.2.2.cell 1, H4.out.2.2.1.lt, H4.out.2.2.2.1.lt, H4.out.2.2.2.2.2.lt⟩
  have HD : Hid (Below w.heap.size w W4.drew ∧ Fld W4.drew (.slice a1 n1 c1) C.p ∧ Blk 27 W4.drew (w.heap.size + 1 + 1) [.slice none 0 0, .slice none 0 0]) := ⟨Below.drew H4.out.1, ⟨H4.out.2.1.2.1, HK.out.1, HK.out.2⟩, H4.out.2.2.2.2.1⟩
  go_wp2_with fail
  go_region_held3 (fun W => Below w.heap.size w W ∧ W.cell? ⟨w.heap.size, 0, none⟩ = some (.slice xa0 xn0 xc0) ∧ W.cell? ⟨w.heap.size, 1, none⟩ = some (.slice ya0 yn0 yc0) ∧ W.cell? ⟨w.heap.size + 1, 0, none⟩ = some (.slice xa1 xn1 xc1) ∧ W.cell? ⟨w.heap.size + 1, 1, none⟩ = some (.slice ya1 yn1 yc1) ∧ W.cell? ⟨w3.heap.size, 1, none⟩ = some (.slice a1 n1 c1) ∧ w.heap.size < W.heap.size ∧ w.heap.size + 1 < W.heap.size ∧ w3.heap.size < W.heap.size)
      (first | assumption | exact HS0.out | exact HSc.out _ _ (by assumption) (by assumption) | exact HSs.out _ _ _ (HSs.out _ _ _ (by assumption)))
      (first
      | (replace K7 := K7; go_at_call 28; refine (HPt.out _ (.slice a1 n1 c1) _ _ _ K7.out.2.2.1 K7.out.2.2.2.1 K7.out.2.2.2.2.1 K7.out.2.2.2.2.2).mono ?_; rintro e w8 ⟨ra, rn, rc, qa, qn, qc, RX, RY, rfl, hj, hr0, hr1, hb8⟩; have K8 : Hid (Below w.heap.size w w8 ∧ Blk 27 w8 (w.heap.size + 1 + 1) [.slice none 0 0, .slice none 0 0] ∧ jpt C.p t2 RX RY ∧ Nb w8 (.slice ra rn rc) RX ∧ Nb w8 (.slice qa qn qc) RY) := ⟨below_via K7.out.1 hb8 (Nat.le_refl _), below_blk hb8 K7.out.2.1.lt K7.out.2.1, hj, hr0, hr1⟩; have d0 : w8.cell? ⟨w.heap.size + 1 + 1, 0, none⟩ = some (.slice none 0 0) := K8.out.2.1.cell 0; have d1 : w8.cell? ⟨w.heap.size + 1 + 1, 1, none⟩ = some (.slice none 0 0) := K8.out.2.1.cell 1; have g0 := K8.out.2.1.frozen 0; have g1 := K8.out.2.1.frozen 1; clear hj hr0 hr1)
      | (replace K6 := K6; go_at_call 29; refine (HSu.out _ (.slice a1 n1 c1) _ _ _ _ _ _ K6.out.2.2.1 K6.out.2.2.2.1 K6.out.2.2.2.2.1 K6.out.2.2.2.2.2.1 K6.out.2.2.2.2.2.2.1 K6.out.2.2.2.2.2.2.2.1 K6.out.2.2.2.2.2.2.2.2).mono ?_; rintro e w7 ⟨a7, b7, c7, rfl, hr7, hs7, ht7, hb7⟩; have K7 : Hid (Below w.heap.size w w7 ∧ Blk 27 w7 (w.heap.size + 1 + 1) [.slice none 0 0, .slice none 0 0] ∧ Fld w7 (.slice a1 n1 c1) C.p ∧ Nb w7 a7 t2.1 ∧ Nb w7 b7 t2.2.1 ∧ Nb w7 c7 t2.2.2) := ⟨below_via K6.out.1 hb7 (Nat.le_refl _), below_blk hb7 K6.out.2.1.lt K6.out.2.1, K6.out.2.2.1.below hb7, hr7, hs7, ht7⟩; clear hr7 hs7 ht7)
      | (replace K5 := K5; go_at_call 30; refine (HT1.out _ K5.out.1).mono ?_; rintro e w6 ⟨a6, b6, c6, rfl, hr6, hs6, ht6, hb6⟩; have K6 : Hid (Below w.heap.size w w6 ∧ Blk 27 w6 (w.heap.size + 1 + 1) [.slice none 0 0, .slice none 0 0] ∧ Fld w6 (.slice a1 n1 c1) C.p ∧ Nb w6 a5 t0.1 ∧ Nb w6 b5 t0.2.1 ∧ Nb w6 c5 t0.2.2 ∧ Nb w6 a6 t1.1 ∧ Nb w6 b6 t1.2.1 ∧ Nb w6 c6 t1.2.2) := ⟨below_via K5.out.1 hb6 (Nat.le_refl _), below_blk hb6 K5.out.2.1.lt K5.out.2.1, K5.out.2.2.1.below hb6, K5.out.2.2.2.1.below hb6, K5.out.2.2.2.2.1.below hb6, K5.out.2.2.2.2.2.below hb6, hr6, hs6, ht6⟩; clear hr6 hs6 ht6)
      | (go_at_call 30; refine (HT0.out _ HD.out.1).mono ?_; rintro e w5 ⟨a5, b5, c5, rfl, hr5, hs5, ht5, hb5⟩; have K5 : Hid (Below w.heap.size w w5 ∧ Blk 27 w5 (w.heap.size + 1 + 1) [.slice none 0 0, .slice none 0 0] ∧ Fld w5 (.slice a1 n1 c1) C.p ∧ Nb w5 a5 t0.1 ∧ Nb w5 b5 t0.2.1 ∧ Nb w5 c5 t0.2.2) := ⟨below_via HD.out.1 hb5 (Nat.le_refl _), below_blk hb5 HD.out.2.2.lt HD.out.2.2, HD.out.2.1.below hb5, hr5, hs5, ht5⟩; clear hr5 hs5 ht5))
  clear hb5 hb6 hb7 hb8
  go_wp2
  obtain ⟨hF, hU⟩ := Blk.put2 K8.out.2.1 (.slice ra rn rc) (.slice qa qn qc)
  have hbl := hU.below K8.out.1 K8.out.1.size (by omega)
  exact bodyPost_ret (results_blk2 rfl rfl hF Try.underlying27 rfl Try.sizePt rfl) rfl ⟨_, _, RX, RY, rfl, K8.out.2.2.1, K8.out.2.2.2.1.upd K8.out.2.1 noInts hU, K8.out.2.2.2.2.upd K8.out.2.1 noInts hU, hbl⟩

end Go.Proofs.Yteagdgbcfbkfbab
/-
  The walk of Bytes.
-/
namespace Go.Proofs.Yteagdgbcfbkfbab.Nt
open Go.RowKit

/-- n bytes of a number, the highest first. -/
def beb (v : Int) (n : Nat) : List Int := (List.range n).map fun k => v / 256 ^ (n - 1 - k) % 256
theorem beb_len (v : Int) (n : Nat) : (beb v n).length = n := by simp [beb]
theorem beb_get (v : Int) (n k : Nat) (h : k < n) : (beb v n).getD k 0 = v / 256 ^ (n - 1 - k) % 256 := by simp [beb, h]
theorem getD_ext {xs ys : List Int} (hl : xs.length = ys.length) (h : ∀ k, k < xs.length → xs.getD k 0 = ys.getD k 0) : xs = ys := by
  apply List.ext_getElem hl
  intro k h1 h2
  have := h k h1
  simpa [h1, h2] using this
theorem beb_u8 (v : Int) (n : Nat) : U8s (beb v n) := by
  intro x hx
  simp only [beb, List.mem_map] at hx
  obtain ⟨k, _, rfl⟩ := hx
  exact ⟨by omega, by omega⟩
theorem byte_of {X : List Int} (hu : U32s X) (i : Nat) : X.getD (i / 4) 0 / 2 ^ (i % 4 * 8) % 256 = val X / 256 ^ i % 256 := by
  have h := getD_div X (i / 4) hu
  obtain ⟨n, hn⟩ := Int.eq_ofNat_of_zero_le (val_nonneg hu)
  obtain ⟨z, hz⟩ := Int.eq_ofNat_of_zero_le (hu.at (i / 4)).1
  rw [hn, hz] at h
  simp only [Int.toNat_natCast] at h
  rw [hn, hz, pow256, pow32, ← h]
  have e0 : ((2 : Int) ^ (i % 4 * 8)) = ((2 ^ (i % 4 * 8) : Nat) : Int) := by simp
  rw [e0]
  have key : n / 2 ^ (32 * (i / 4)) % 4294967296 / 2 ^ (i % 4 * 8) % 256 = n / (2 ^ (32 * (i / 4)) * 2 ^ (i % 4 * 8)) % 256 := by
    obtain ⟨s, hs⟩ : ∃ s, i % 4 * 8 = s := ⟨_, rfl⟩
    rw [hs]
    have hs24 : s ≤ 24 := by omega
    have e : (4294967296 : Nat) = 2 ^ s * 2 ^ (32 - s) := by rw [← Nat.pow_add, show s + (32 - s) = 32 by omega]
    rw [e, Nat.mod_mul_right_div_self, Nat.div_div_eq_div_mul]
    have e3 : 2 ^ (32 - s) = 256 * 2 ^ (24 - s) := by rw [show (256 : Nat) = 2 ^ 8 from rfl, ← Nat.pow_add]; congr 1; omega
    rw [e3, Nat.mod_mul_right_mod]
  have k2 := congrArg (fun t : Nat => (t : Int)) key
  simp only [Int.natCast_emod, Int.natCast_ediv, Int.natCast_mul] at k2 ⊢
  exact k2
theorem high_zero {X : List Int} (hu : U32s X) {j : Nat} (h : 4 * sig X ≤ j) : val X / 256 ^ j % 256 = 0 := by
  have h1 : val X < 256 ^ j := by
    have h2 := val_lt (hu.take (sig X))
    rw [val_take_sig, List.length_take, Nat.min_eq_left (sig_le X)] at h2
    have h3 : (4294967296 : Int) ^ sig X = 256 ^ (4 * sig X) := by rw [Int.pow_mul]; rfl
    obtain ⟨d, rfl⟩ := Nat.le.dest h
    rw [Int.pow_add, ← h3]
    have h4 : (0 : Int) < 256 ^ d := Int.pow_pos (by decide)
    calc val X < 4294967296 ^ sig X * 1 := by omega
      _ ≤ 4294967296 ^ sig X * 256 ^ d := Int.mul_le_mul_of_nonneg_left (by omega) (Int.le_of_lt (pow_pos32 _))
  rw [Int.ediv_eq_zero_of_lt (val_nonneg hu) h1]; rfl

def bytS (X : List Int) (n : Int) : List Int × Int := if 512 < X.length then ([], 3) else if n < 0 ∨ 2048 < n then ([], 1) else if 8 * n < bitLen (val X).toNat then ([], 3) else (beb (val X) n.toNat, 0)
/-- Bytes and an error, as two results. -/
def Own8 (B : Nat) (w : World) (v : Value) (bs : List Int) : Prop := (v = .slice none 0 0 ∧ bs = []) ∨ ∃ b, v = .slice (some ⟨b, 0, none⟩) bs.length bs.length ∧ B ≤ b ∧ Arr .u8 5 w b bs
def Two8 (B : Nat) (w : World) (e : Ending) (s : List Int × Int) : Prop := ∃ r, e = .returned (.tuple #[r, .int .i64 s.2]) ∧ Own8 B w r s.1 ∧ (s.2 = 0 → r ≠ .slice none 0 0)
theorem Two8.nil' {B : Nat} {w : World} {n : Int} {s : List Int × Int} (hs : s = ([], n)) (hn : n ≠ 0) : Two8 B w (.returned (.tuple #[.slice none 0 0, .int .i64 n])) s := by
  subst hs; exact ⟨_, rfl, .inl ⟨rfl, rfl⟩, fun h => absurd h hn⟩
theorem Two8.mk' {B : Nat} {w : World} {r : Value} {n : Int} {bs : List Int} {s : List Int × Int} (h : Own8 B w r bs) (hs : s = (bs, n)) (hr : r ≠ .slice none 0 0) : Two8 B w (.returned (.tuple #[r, .int .i64 n])) s := by
  subst hs; exact ⟨r, rfl, h, fun _ => hr⟩
theorem Own8.sl {B : Nat} {w : World} {v : Value} {bs : List Int} (h : Own8 B w v bs) : Sl .u8 w v bs := by
  rcases h with ⟨rfl, rfl⟩ | ⟨b, rfl, _, hA⟩
  · exact ⟨none, 0, rfl, Nat.le_refl _, .inl rfl⟩
  · exact ⟨_, _, rfl, Nat.le_refl _, .inr ⟨b, 0, rfl, hA.lt, by have := hA.rd 0 bs.length (by omega); rw [List.drop_zero, List.take_length] at this; exact this⟩⟩

set_option maxHeartbeats 2000000 in
theorem Bytes_any (X : List Int) (n : Int) (v : Value) (w : World) (hX : Sl .u32 w v X) (uX : U32s X) (hn0 : -9223372036854775808 ≤ n) (hn1 : n ≤ 9223372036854775807) :
    Calls Try.prog 19 #[v, .int .i64 n] w fun e w' => Two8 w.heap.size w' e (bytS X n) ∧ Below w.heap.size w w' := by
  obtain ⟨a, c, rfl, hc, hXr⟩ := id hX
  by_cases h1 : 512 < X.length
  · have HL : Hid (bytS X n = ([], 3)) := by unfold bytS; rw [if_pos h1]; rfl
    go_enter Try.func19, Try.ntmps19
    go_wp2
    go_ret2
    exact ⟨Two8.nil' HL.out (by decide), Below.refl _ _⟩
  by_cases h2 : n < 0
  · have HL : Hid (bytS X n = ([], 1)) := by unfold bytS; rw [if_neg h1, if_pos (.inl h2)]; rfl
    go_enter Try.func19, Try.ntmps19
    go_wp2
    go_ret2
    exact ⟨Two8.nil' HL.out (by decide), Below.refl _ _⟩
  by_cases h3 : 2048 < n
  · have HL : Hid (bytS X n = ([], 1)) := by unfold bytS; rw [if_neg h1, if_pos (.inr h3)]; rfl
    go_enter Try.func19, Try.ntmps19
    go_wp2
    go_ret2
    exact ⟨Two8.nil' HL.out (by decide), Below.refl _ _⟩
  obtain ⟨N, rfl⟩ := Int.eq_ofNat_of_zero_le (show 0 ≤ n by omega)
  have hbits := Bits_any X _ w hX uX (by omega)
  obtain ⟨bl, hbl⟩ : ∃ bl, bitLen (val X).toNat = bl := ⟨_, rfl⟩
  rw [hbl] at hbits
  by_cases h4 : 8 * N < bl
  · have HL : Hid (bytS X N = ([], 3)) := by unfold bytS; rw [if_neg h1, if_neg (by omega), hbl, if_pos (by omega)]; rfl
    clear hbl
    go_enter Try.func19, Try.ntmps19
    go_wp2_with (go_at_call 31; refine hbits.mono ?_; rintro e w' ⟨rfl, hB⟩)
    go_ret2
    exact ⟨Two8.nil' HL.out (by decide), hB⟩
  have HL : Hid (bytS X N = (beb (val X) N, 0)) := by unfold bytS; rw [if_neg h1, if_neg (by omega), hbl, if_neg (by omega)]; rfl
  have hsX := sig_le X
  have hlen := fun (w' : World) (hB : Below w.heap.size w w') => length_len (w := w') _ _ ⟨X, below_sl hB hX, by omega, rfl⟩
  obtain ⟨sg, hsg⟩ : ∃ sg, sig X = sg := ⟨_, rfl⟩
  rw [hsg] at hsX hlen
  obtain ⟨mn, hmn, hmn2⟩ : ∃ mn : Nat, mn ≤ N ∧ mn ≤ 4 * sg := ⟨min N (4 * sg), by omega, by omega⟩
  have HB : Hid (bitLen (val X).toNat = bl ∧ sig X = sg) := ⟨hbl, hsg⟩
  clear hbl hsg mn hmn hmn2
  by_cases hle : N ≤ 4 * sg
  · have hle' : (N : Int) ≤ 4 * (sg : Int) := by omega
    go_enter Try.func19, Try.ntmps19
    go_wp2_with (first
      | (go_at_call 31; refine hbits.mono ?_; rintro e w' ⟨rfl, hB⟩)
      | (at_make; refine wpList_mk _ rfl _ _ 23 rfl .u8 5 1 Try.und8 Try.info8 _ N rfl rfl (by omega) (by omega) (by omega) ?_; intro w1 hA1 hB1; have hBt := hB.trans (hB1.mono hB.size))
      | (go_at_call 32; refine (hlen _ hBt).mono ?_; rintro e w1 ⟨rfl, rfl⟩))
    have hblk : w.heap.size ≤ w'.heap.size := hB.size
    go_loopw [30] (fun iv wr => ∃ (i : Nat) (S : List Int), iv = .int .i64 i ∧ i ≤ N ∧ Arr .u8 5 wr w'.heap.size S ∧ S.length = N ∧ Below w.heap.size w wr ∧ ∀ k, k < N → S.getD k 0 = if N - 1 - k < i then val X / 256 ^ (N - 1 - k) % 256 else 0)
      (fun iv _ => N - (intOf iv).toNat)
    case atStart => exact ⟨0, _, rfl, Nat.zero_le _, hA1, by simp, hBt, fun k hk => by simp [hk]⟩
    case round =>
      clear hA1 hB1 hBt hlen hbits
      obtain ⟨i, S, rfl, hi, hA, hlS, hBt, hv⟩ := hrel
      by_cases hlt : i < N
      · rcases hXr with rfl | ⟨b, o, rfl, hb, hr⟩
        · simp at hsX; omega
        obtain ⟨m, hm⟩ : ∃ m, N - 1 - i = m := ⟨_, rfl⟩
        obtain ⟨q, hq⟩ : ∃ q, i / 4 = q := ⟨_, rfl⟩
        obtain ⟨s, hs⟩ : ∃ s, i % 4 * 8 = s := ⟨_, rfl⟩
        obtain ⟨z, hz⟩ : ∃ z, X.getD q 0 = z := ⟨_, rfl⟩
        have uz : U32 z := hz ▸ uX.at q
        have hcz : wr.cell? ⟨b, o + q, none⟩ = some (.int .u32 z) := by rw [← hz]; exact (below_rd hBt hb hr) q (by omega)
        obtain ⟨y, hcy⟩ : ∃ y, wr.cell? ⟨w'.heap.size, m, none⟩ = some (.int .u8 y) := ⟨_, hA.cell m (by omega)⟩
        have hfz : wr.frozen? ⟨w'.heap.size, m, none⟩ = false := hA.frozen m
        obtain ⟨z0, z1⟩ := uz
        have hs24 : s ≤ 24 := by omega
        have hp0 : (0 : Int) < 2 ^ s := Int.pow_pos (by decide)
        have hd0 : 0 ≤ z / 2 ^ s := Int.ediv_nonneg z0 (Int.le_of_lt hp0)
        have hd1 : z / 2 ^ s < 4294967296 := Int.lt_of_le_of_lt (Int.ediv_le_self _ z0) z1
        have hqi : (i : Int) / 4 = q := by omega
        have hsi : (i : Int) % 4 * 8 = s := by omega
        have hmi : (N : Int) - 1 - i = m := by omega
        have hqs : q < X.length := by omega
        have hmn : m < N := by omega
        have HH : Hid (X.getD q 0 = z ∧ Arr .u8 5 wr w'.heap.size S ∧ S.length = N ∧ Below w.heap.size w wr ∧ (∀ k, k < N → S.getD k 0 = if N - 1 - k < i then val X / 256 ^ (N - 1 - k) % 256 else 0) ∧ N - 1 - i = m ∧ i / 4 = q ∧ i % 4 * 8 = s) := ⟨hz, hA, hlS, hBt, hv, hm, hq, hs⟩
        clear hz hA hlS hBt hv hm hq hs hr
        go_wp2
        go_roundw
        case rel =>
          obtain ⟨hz, hA, hlS, hBt, hv, hm, hq, hs⟩ := HH.out
          refine ⟨i + 1, S.set m (z / 2 ^ s % 256), by go_num, by omega, hA.set _ _, by simpa using hlS, hBt.setCell hblk _, fun k hk => ?_⟩
          by_cases hkm : k = m
          · subst hkm
            rw [if_pos (by omega), List.getD_eq_getElem?_getD, List.getElem?_set_self (by omega)]
            have e : N - 1 - k = i := by omega
            rw [e, ← byte_of uX, hq, hs, hz]; rfl
          · rw [List.getD_eq_getElem?_getD, List.getElem?_set_ne (Ne.symm hkm), ← List.getD_eq_getElem?_getD, hv k hk]
            have e : (N - 1 - k < i) = (N - 1 - k < i + 1) := by apply propext; omega
            simp only [e]
        case measure => simp [intOf]; omega
      · have HH : Hid (Arr .u8 5 wr w'.heap.size S ∧ S.length = N ∧ Below w.heap.size w wr ∧ (∀ k, k < N → S.getD k 0 = if N - 1 - k < i then val X / 256 ^ (N - 1 - k) % 256 else 0) ∧ i = N) := ⟨hA, hlS, hBt, hv, by omega⟩
        clear hA hlS hBt hv
        go_wp2
        go_ret2
        obtain ⟨hA, hlS, hBt, hv, hiT⟩ := HH.out
        refine ⟨Two8.mk' (bs := beb (val X) N) (.inr ⟨_, ?_, hblk, ?_⟩) HL.out (by simp), hBt⟩
        · rw [beb_len]; rfl
        · have : beb (val X) N = S := by
            refine getD_ext (by rw [beb_len, hlS]) fun k hk => ?_
            rw [beb_len] at hk
            rw [beb_get _ _ _ hk, hv k hk]
            rw [if_pos (by omega)]
          rw [this]; exact hA
  · have hle' : 4 * (sg : Int) < (N : Int) := by omega
    go_enter Try.func19, Try.ntmps19
    go_wp2_with (first
      | (go_at_call 31; refine hbits.mono ?_; rintro e w' ⟨rfl, hB⟩)
      | (at_make; refine wpList_mk _ rfl _ _ 23 rfl .u8 5 1 Try.und8 Try.info8 _ N rfl rfl (by omega) (by omega) (by omega) ?_; intro w1 hA1 hB1; have hBt := hB.trans (hB1.mono hB.size))
      | (go_at_call 32; refine (hlen _ hBt).mono ?_; rintro e w1 ⟨rfl, rfl⟩))
    have hblk : w.heap.size ≤ w'.heap.size := hB.size
    go_loopw [30] (fun iv wr => ∃ (i : Nat) (S : List Int), iv = .int .i64 i ∧ i ≤ (4 * sg) ∧ Arr .u8 5 wr w'.heap.size S ∧ S.length = N ∧ Below w.heap.size w wr ∧ ∀ k, k < N → S.getD k 0 = if N - 1 - k < i then val X / 256 ^ (N - 1 - k) % 256 else 0)
      (fun iv _ => (4 * sg) - (intOf iv).toNat)
    case atStart => exact ⟨0, _, rfl, Nat.zero_le _, hA1, by simp, hBt, fun k hk => by simp [hk]⟩
    case round =>
      clear hA1 hB1 hBt hlen hbits
      obtain ⟨i, S, rfl, hi, hA, hlS, hBt, hv⟩ := hrel
      by_cases hlt : i < (4 * sg)
      · rcases hXr with rfl | ⟨b, o, rfl, hb, hr⟩
        · simp at hsX; omega
        obtain ⟨m, hm⟩ : ∃ m, N - 1 - i = m := ⟨_, rfl⟩
        obtain ⟨q, hq⟩ : ∃ q, i / 4 = q := ⟨_, rfl⟩
        obtain ⟨s, hs⟩ : ∃ s, i % 4 * 8 = s := ⟨_, rfl⟩
        obtain ⟨z, hz⟩ : ∃ z, X.getD q 0 = z := ⟨_, rfl⟩
        have uz : U32 z := hz ▸ uX.at q
        have hcz : wr.cell? ⟨b, o + q, none⟩ = some (.int .u32 z) := by rw [← hz]; exact (below_rd hBt hb hr) q (by omega)
        obtain ⟨y, hcy⟩ : ∃ y, wr.cell? ⟨w'.heap.size, m, none⟩ = some (.int .u8 y) := ⟨_, hA.cell m (by omega)⟩
        have hfz : wr.frozen? ⟨w'.heap.size, m, none⟩ = false := hA.frozen m
        obtain ⟨z0, z1⟩ := uz
        have hs24 : s ≤ 24 := by omega
        have hp0 : (0 : Int) < 2 ^ s := Int.pow_pos (by decide)
        have hd0 : 0 ≤ z / 2 ^ s := Int.ediv_nonneg z0 (Int.le_of_lt hp0)
        have hd1 : z / 2 ^ s < 4294967296 := Int.lt_of_le_of_lt (Int.ediv_le_self _ z0) z1
        have hqi : (i : Int) / 4 = q := by omega
        have hsi : (i : Int) % 4 * 8 = s := by omega
        have hmi : (N : Int) - 1 - i = m := by omega
        have hqs : q < X.length := by omega
        have hmn : m < N := by omega
        have HH : Hid (X.getD q 0 = z ∧ Arr .u8 5 wr w'.heap.size S ∧ S.length = N ∧ Below w.heap.size w wr ∧ (∀ k, k < N → S.getD k 0 = if N - 1 - k < i then val X / 256 ^ (N - 1 - k) % 256 else 0) ∧ N - 1 - i = m ∧ i / 4 = q ∧ i % 4 * 8 = s) := ⟨hz, hA, hlS, hBt, hv, hm, hq, hs⟩
        clear hz hA hlS hBt hv hm hq hs hr
        go_wp2
        go_roundw
        case rel =>
          obtain ⟨hz, hA, hlS, hBt, hv, hm, hq, hs⟩ := HH.out
          refine ⟨i + 1, S.set m (z / 2 ^ s % 256), by go_num, by omega, hA.set _ _, by simpa using hlS, hBt.setCell hblk _, fun k hk => ?_⟩
          by_cases hkm : k = m
          · subst hkm
            rw [if_pos (by omega), List.getD_eq_getElem?_getD, List.getElem?_set_self (by omega)]
            have e : N - 1 - k = i := by omega
            rw [e, ← byte_of uX, hq, hs, hz]; rfl
          · rw [List.getD_eq_getElem?_getD, List.getElem?_set_ne (Ne.symm hkm), ← List.getD_eq_getElem?_getD, hv k hk]
            have e : (N - 1 - k < i) = (N - 1 - k < i + 1) := by apply propext; omega
            simp only [e]
        case measure => simp [intOf]; omega
      · have HH : Hid (Arr .u8 5 wr w'.heap.size S ∧ S.length = N ∧ Below w.heap.size w wr ∧ (∀ k, k < N → S.getD k 0 = if N - 1 - k < i then val X / 256 ^ (N - 1 - k) % 256 else 0) ∧ i = (4 * sg)) := ⟨hA, hlS, hBt, hv, by omega⟩
        clear hA hlS hBt hv
        go_wp2
        go_ret2
        obtain ⟨hA, hlS, hBt, hv, hiT⟩ := HH.out
        refine ⟨Two8.mk' (bs := beb (val X) N) (.inr ⟨_, ?_, hblk, ?_⟩) HL.out (by simp), hBt⟩
        · rw [beb_len]; rfl
        · have : beb (val X) N = S := by
            refine getD_ext (by rw [beb_len, hlS]) fun k hk => ?_
            rw [beb_len] at hk
            rw [beb_get _ _ _ hk, hv k hk]
            split
            · rfl
            · exact high_zero uX (by have := HB.out.2; omega)
          rw [this]; exact hA
end Go.Proofs.Yteagdgbcfbkfbab.Nt
