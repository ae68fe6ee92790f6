/-
  Curve: Neg, Add, where nothing is at fault.
-/
import Derived.Test.YteagdgbcfbkfbaaK19
namespace Go.Proofs.Yteagdgbcfbkfbaa
open Go.RowKit
set_option maxRecDepth 20000

set_option maxHeartbeats 4000000 in
theorem Neg_ok {w : World} (c : Int) (C : Cv) (hc : crv c = some C) (vx vy : Value) (X Y : List Int) (hX : Sl .u32 w vx X) (hY : Sl .u32 w vy Y) (uX : U32s X) (uY : U32s Y) (lX : X.length ≤ 1000000) (lY : Y.length ≤ 1000000) (ho : onB C.p C.b X Y = true) :
    Calls Try.prog 13 #[.int .i64 c, .agg #[vx, vy]] w fun e w' => ∃ r0 r1, e = .returned (.tuple #[.agg [r0, r1].toArray, .int .i64 0]) ∧ Nb w' r0 (val X).toNat ∧ Nb w' r1 (fsb C.p 0 (val Y).toNat) ∧ Below w.heap.size w w' := by
  obtain ⟨xa, xn, xc, rfl, hxn⟩ := sl_cut hX
  obtain ⟨ya, yn, yc, rfl, hyn⟩ := sl_cut hY
  have HS : Hid (∀ W b2 T2, Below w.heap.size w W → Blk T2 W b2 [.slice xa xn xc, .slice ya yn yc] → Calls Try.prog 35 #[.int .i64 c, .slice none 0 0, .slice (some ⟨b2, 0, none⟩) 1 1] W fun e w' => ∃ s a1 n1 c1 a2 n2 c2 a3 n3 c3 a4 n4 c4 a5 n5 c5, e = .returned (.tuple #[.agg [.int .i64 (s : Nat), .slice a1 n1 c1, .slice a2 n2 c2, .slice a3 n3 c3, .slice a4 n4 c4, .slice a5 n5 c5].toArray, .int .i64 0]) ∧ KindS w' s a1 n1 c1 a2 n2 c2 a3 n3 c3 a4 n4 c4 a5 n5 c5 C ∧ Below W.heap.size W w') := fun W b2 T2 hW hb2 =>
    asked_01 c C hc b2 T2 (.slice xa xn xc) (.slice ya yn yc) X Y hb2 (below_sl hW hX) (below_sl hW hY) uX uY lX lY ho
  have HTx : Hid (∀ W, Below w.heap.size w W → Calls Try.prog 44 #[.slice xa xn xc] W fun e w' => ∃ a n c, e = .returned (.slice a n c) ∧ Nb w' (.slice a n c) (val X).toNat ∧ Below W.heap.size W w') := fun W hW => (LTrim _ X (below_sl hW hX) uX lX).mono fun e w' ⟨r, he, hn, hb⟩ => by obtain ⟨a, c, rfl⟩ := hn.form; exact ⟨a, _, c, he, hn, hb⟩
  have HTy : Hid (∀ W, Below w.heap.size w W → Calls Try.prog 44 #[.slice ya yn yc] W fun e w' => ∃ a n c, e = .returned (.slice a n c) ∧ Nb w' (.slice a n c) (val Y).toNat ∧ Below W.heap.size W w') := fun W hW => (LTrim _ Y (below_sl hW hY) uY lY).mono fun e w' ⟨r, he, hn, hb⟩ => by obtain ⟨a, c, rfl⟩ := hn.form; exact ⟨a, _, c, he, hn, hb⟩
  have hYl : (val Y).toNat < C.p := by have h := (onB_lt (crv_ok hc).1 ho).2; have := (crv_ok hc).1; omega
  obtain ⟨x, hx⟩ : ∃ x, (val X).toNat = x := ⟨_, rfl⟩
  obtain ⟨y, hy⟩ : ∃ y, (val Y).toNat = y := ⟨_, rfl⟩
  rw [hx] at HTx; rw [hy] at HTy hYl; rw [hx, hy]
  have HK : Hid (0 < C.p ∧ C.p < 4294967296 ^ 12 ∧ y < C.p) := ⟨(crv_ok hc).1, (crv_ok hc).2.1, hYl⟩
  have HFm : Hid (∀ W f r, Fld W f C.p → Nb W r y → Calls Try.prog 45 #[f, .slice none 0 0, r] W fun e w' => ∃ a n c, e = .returned (.slice a n c) ∧ Nb w' (.slice a n c) (fsb C.p 0 y) ∧ Below W.heap.size W w') := fun W f r hf hr => (Fminus f (.slice none 0 0) r C.p 0 y hf (nil_nb W) hr HK.out.1 HK.out.2.2).mono fun e w' ⟨r, he, hn, hb⟩ => by obtain ⟨a, c, rfl⟩ := hn.form; exact ⟨a, _, c, he, hn, hb⟩
  clear hc hX hY uX uY lX lY ho hxn hyn hYl hx hy
  go_enter Try.func13, Try.ntmps13
  go_upto_region 1 with (refine wpList_boxR rfl 24 (.tmp 1) rfl #[.slice xa xn xc, .slice ya yn yc] rfl ?_)
  refine wp_gen (fun W => Blk 24 W w.heap.size [.slice xa xn xc, .slice ya yn yc] ∧ Blk 24 W (w.heap.size + 1) [.slice none 0 0, .slice none 0 0] ∧ Below w.heap.size w W) ⟨(Blk.new _ w _).alloc _, by have := Blk.new 24 (w.alloc (.cells [.slice xa xn xc, .slice ya yn yc].toArray 24)) [.slice none 0 0, .slice none 0 0]; rw [World.size_alloc] at this; exact this, (al1 _).alloc (by simp) _⟩ ?_
  rintro W2 ⟨hB, hR, hBw⟩
  have H2 : Hid (Below w.heap.size w W2 ∧ Blk 24 W2 w.heap.size [.slice xa xn xc, .slice ya yn yc] ∧ Blk 24 W2 (w.heap.size + 1) [.slice none 0 0, .slice none 0 0]) := ⟨hBw, hB, hR⟩
  have p0 : W2.cell? ⟨w.heap.size, 0, none⟩ = some (.slice xa xn xc) := hB.cell 0
  have p1 : W2.cell? ⟨w.heap.size, 1, none⟩ = some (.slice ya yn yc) := hB.cell 1
  clear hB hR hBw
  go_wp2_with fail
  refine (HS.out _ W2.heap.size 24 (below_via H2.out.1 (al1 _) (Nat.le_refl _)) (Blk.new _ W2 _)).mono ?_
  rintro e w3 ⟨s, a1, n1, c1, a2, n2, c2, a3, n3, c3, a4, n4, c4, a5, n5, c5, rfl, hk, hb3⟩
  have hb23 : Below W2.heap.size W2 w3 := below_via (al1 _) hb3 (Nat.le_refl _)
  have H3 : Hid (Below w.heap.size w w3 ∧ KindS w3 s a1 n1 c1 a2 n2 c2 a3 n3 c3 a4 n4 c4 a5 n5 c5 C ∧ Blk 24 w3 w.heap.size [.slice xa xn xc, .slice ya yn yc] ∧ Blk 24 w3 (w.heap.size + 1) [.slice none 0 0, .slice none 0 0]) := ⟨below_via H2.out.1 hb23 (Nat.le_refl _), hk, below_blk hb23 H2.out.2.1.lt H2.out.2.1, below_blk hb23 H2.out.2.2.lt H2.out.2.2⟩
  have hlt : w.heap.size + 1 < w3.heap.size := H3.out.2.2.2.lt
  clear hb3 hb23 hk HS p0 p1
  go_upto_region 2 with (fail)
  refine wp_gen (fun W => Blk 66 W w3.heap.size [.int .i64 s, .slice a1 n1 c1, .slice a2 n2 c2, .slice a3 n3 c3, .slice a4 n4 c4, .slice a5 n5 c5] ∧ Below w3.heap.size w3 W) ⟨Blk.new _ _ _, al1 _⟩ ?_
  rintro W4 ⟨hB4, hb4⟩
  have H4 : Hid (Below w.heap.size w W4 ∧ KindS W4 s a1 n1 c1 a2 n2 c2 a3 n3 c3 a4 n4 c4 a5 n5 c5 C ∧ Blk 24 W4 w.heap.size [.slice xa xn xc, .slice ya yn yc] ∧ Blk 24 W4 (w.heap.size + 1) [.slice none 0 0, .slice none 0 0] ∧ Blk 66 W4 w3.heap.size [.int .i64 s, .slice a1 n1 c1, .slice a2 n2 c2, .slice a3 n3 c3, .slice a4 n4 c4, .slice a5 n5 c5]) := ⟨below_via H3.out.1 hb4 (Nat.le_refl _), H3.out.2.1.below hb4, below_blk hb4 H3.out.2.2.1.lt H3.out.2.2.1, below_blk hb4 H3.out.2.2.2.lt H3.out.2.2.2, hB4⟩
  clear hB4 hb4
  have HSc : Hid (∀ W W', (Below w.heap.size w W ∧ W.cell? ⟨w.heap.size, 0, none⟩ = some (.slice xa xn xc) ∧ W.cell? ⟨w.heap.size, 1, none⟩ = some (.slice ya yn yc) ∧ W.cell? ⟨w3.heap.size, 1, none⟩ = some (.slice a1 n1 c1) ∧ w.heap.size < W.heap.size ∧ w3.heap.size < W.heap.size) → Below W.heap.size W W' → (Below w.heap.size w W' ∧ W'.cell? ⟨w.heap.size, 0, none⟩ = some (.slice xa xn xc) ∧ W'.cell? ⟨w.heap.size, 1, none⟩ = some (.slice ya yn yc) ∧ W'.cell? ⟨w3.heap.size, 1, none⟩ = some (.slice a1 n1 c1) ∧ w.heap.size < W'.heap.size ∧ w3.heap.size < W'.heap.size)) := fun W W' h hb => ⟨below_via h.1 hb (Nat.le_refl _), by rw [hb.cell (p := ⟨w.heap.size, 0, none⟩) h.2.2.2.2.1]; exact h.2.1, by rw [hb.cell (p := ⟨w.heap.size, 1, none⟩) h.2.2.2.2.1]; exact h.2.2.1, by rw [hb.cell (p := ⟨w3.heap.size, 1, none⟩) h.2.2.2.2.2]; exact h.2.2.2.1, Nat.lt_of_lt_of_le h.2.2.2.2.1 hb.size, Nat.lt_of_lt_of_le h.2.2.2.2.2 hb.size⟩
  have HSs : Hid (∀ W i v, (Below w.heap.size w W ∧ W.cell? ⟨w.heap.size, 0, none⟩ = some (.slice xa xn xc) ∧ W.cell? ⟨w.heap.size, 1, none⟩ = some (.slice ya yn yc) ∧ W.cell? ⟨w3.heap.size, 1, none⟩ = some (.slice a1 n1 c1) ∧ w.heap.size < W.heap.size ∧ w3.heap.size < W.heap.size) → (Below w.heap.size w (W.setCell ⟨w.heap.size + 1, i, none⟩ v) ∧ (W.setCell ⟨w.heap.size + 1, i, none⟩ v).cell? ⟨w.heap.size, 0, none⟩ = some (.slice xa xn xc) ∧ (W.setCell ⟨w.heap.size + 1, i, none⟩ v).cell? ⟨w.heap.size, 1, none⟩ = some (.slice ya yn yc) ∧ (W.setCell ⟨w.heap.size + 1, i, none⟩ v).cell? ⟨w3.heap.size, 1, none⟩ = some (.slice a1 n1 c1) ∧ w.heap.size < (W.setCell ⟨w.heap.size + 1, i, none⟩ v).heap.size ∧ w3.heap.size < (W.setCell ⟨w.heap.size + 1, i, none⟩ v).heap.size)) := fun W i v h => by
    have hU := Upd.set W (w.heap.size + 1) i v
    exact ⟨hU.below h.1 h.1.size (by omega), (World.cell?_of_block (a := ⟨w.heap.size, 0, none⟩) (hU.block (w.heap.size) h.2.2.2.2.1 (by first | (dsimp only; omega) | (simp; done) | (simp; omega)))).trans h.2.1, (World.cell?_of_block (a := ⟨w.heap.size, 1, none⟩) (hU.block (w.heap.size) h.2.2.2.2.1 (by first | (dsimp only; omega) | (simp; done) | (simp; omega)))).trans h.2.2.1, (World.cell?_of_block (a := ⟨w3.heap.size, 1, none⟩) (hU.block (w3.heap.size) h.2.2.2.2.2 (by first | (dsimp only; omega) | (simp; done) | (simp; omega)))).trans h.2.2.2.1, Nat.lt_of_lt_of_le h.2.2.2.2.1 hU.size, Nat.lt_of_lt_of_le h.2.2.2.2.2 hU.size⟩
  have HS0 : Hid (Below w.heap.size w W4.drew ∧ W4.drew.cell? ⟨w.heap.size, 0, none⟩ = some (.slice xa xn xc) ∧ W4.drew.cell? ⟨w.heap.size, 1, none⟩ = some (.slice ya yn yc) ∧ W4.drew.cell? ⟨w3.heap.size, 1, none⟩ = some (.slice a1 n1 c1) ∧ w.heap.size < W4.drew.heap.size ∧ w3.heap.size < W4.drew.heap.size) := ⟨Below.drew H4.out.1, H4.out.2.2.1.cell 0, H4.out.2.2.1.cell 1, H4.out.2.2.2.2.cell 1, H4.out.2.2.1.lt, H4.out.2.2.2.2.lt⟩
  have HD : Hid (Below w.heap.size w W4.drew ∧ Fld W4.drew (.slice a1 n1 c1) C.p ∧ Blk 24 W4.drew (w.heap.size + 1) [.slice none 0 0, .slice none 0 0]) := ⟨Below.drew H4.out.1, ⟨H4.out.2.1.2.1, HK.out.1, HK.out.2.1⟩, H4.out.2.2.2.1⟩
  go_wp2_with fail
  go_region_held3 (fun W => Below w.heap.size w W ∧ W.cell? ⟨w.heap.size, 0, none⟩ = some (.slice xa xn xc) ∧ W.cell? ⟨w.heap.size, 1, none⟩ = some (.slice ya yn yc) ∧ W.cell? ⟨w3.heap.size, 1, none⟩ = some (.slice a1 n1 c1) ∧ w.heap.size < W.heap.size ∧ w3.heap.size < W.heap.size)
      (first | assumption | exact HS0.out | exact HSc.out _ _ (by assumption) (by assumption) | exact HSs.out _ _ _ (HSs.out _ _ _ (by assumption)))
      (first
      | (replace K6 := K6; go_at_call 45; refine (HFm.out _ (.slice a1 n1 c1) _ K6.out.2.2.1 K6.out.2.2.2.2).mono ?_; rintro e w7 ⟨ra7, rn7, rc7, rfl, hr7, hb7⟩; have K7 : Hid (Below w.heap.size w w7 ∧ Blk 24 w7 (w.heap.size + 1) [.slice none 0 0, .slice none 0 0] ∧ Nb w7 (.slice ra5 rn5 rc5) x ∧ Nb w7 (.slice ra7 rn7 rc7) (fsb C.p 0 y)) := ⟨below_via K6.out.1 hb7 (Nat.le_refl _), below_blk hb7 K6.out.2.1.lt K6.out.2.1, K6.out.2.2.2.1.below hb7, hr7⟩; have d0 : w7.cell? ⟨w.heap.size + 1, 0, none⟩ = some (.slice none 0 0) := K7.out.2.1.cell 0; have d1 : w7.cell? ⟨w.heap.size + 1, 1, none⟩ = some (.slice none 0 0) := K7.out.2.1.cell 1; have g0 := K7.out.2.1.frozen 0; have g1 := K7.out.2.1.frozen 1; clear hr7)
      | (replace K5 := K5; go_at_call 44; refine (HTy.out _ K5.out.1).mono ?_; rintro e w6 ⟨ra6, rn6, rc6, rfl, hr6, hb6⟩; have K6 : Hid (Below w.heap.size w w6 ∧ Blk 24 w6 (w.heap.size + 1) [.slice none 0 0, .slice none 0 0] ∧ Fld w6 (.slice a1 n1 c1) C.p ∧ Nb w6 (.slice ra5 rn5 rc5) x ∧ Nb w6 (.slice ra6 rn6 rc6) y) := ⟨below_via K5.out.1 hb6 (Nat.le_refl _), below_blk hb6 K5.out.2.1.lt K5.out.2.1, K5.out.2.2.1.below hb6, K5.out.2.2.2.below hb6, hr6⟩; clear hr6)
      | (go_at_call 44; refine (HTx.out _ HD.out.1).mono ?_; rintro e w5 ⟨ra5, rn5, rc5, rfl, hr5, hb5⟩; have K5 : Hid (Below w.heap.size w w5 ∧ Blk 24 w5 (w.heap.size + 1) [.slice none 0 0, .slice none 0 0] ∧ Fld w5 (.slice a1 n1 c1) C.p ∧ Nb w5 (.slice ra5 rn5 rc5) x) := ⟨below_via HD.out.1 hb5 (Nat.le_refl _), below_blk hb5 HD.out.2.2.lt HD.out.2.2, HD.out.2.1.below hb5, hr5⟩; clear hr5))
  clear hb5 hb6 hb7
  go_wp2
  obtain ⟨hF, hU⟩ := Blk.put2 K7.out.2.1 (.slice ra5 rn5 rc5) (.slice ra7 rn7 rc7)
  have hbl := hU.below K7.out.1 K7.out.1.size (Nat.le_succ _)
  exact bodyPost_ret (results_blk2 rfl rfl hF Try.underlying24 rfl Try.sizePt rfl) rfl ⟨_, _, rfl, K7.out.2.2.1.upd K7.out.2.1 noInts hU, K7.out.2.2.2.upd K7.out.2.1 noInts hU, hbl⟩

set_option maxHeartbeats 4000000 in
theorem Add_ok {w : World} (c : Int) (C : Cv) (hc : crv c = some C) (vx0 vy0 vx1 vy1 : Value) (X0 Y0 X1 Y1 : List Int) (hX0 : Sl .u32 w vx0 X0) (hY0 : Sl .u32 w vy0 Y0) (uX0 : U32s X0) (uY0 : U32s Y0) (lX0 : X0.length ≤ 1000000) (lY0 : Y0.length ≤ 1000000) (ho0 : onB C.p C.b X0 Y0 = true) (hX1 : Sl .u32 w vx1 X1) (hY1 : Sl .u32 w vy1 Y1) (uX1 : U32s X1) (uY1 : U32s Y1) (lX1 : X1.length ≤ 1000000) (lY1 : Y1.length ≤ 1000000) (ho1 : onB C.p C.b X1 Y1 = true)
    (hg : (jsm C.p (triB X0 Y0) (triB X1 Y1)).2.2 ≠ 0 → Nat.gcd (jsm C.p (triB X0 Y0) (triB X1 Y1)).2.2 C.p = 1) :
    Calls Try.prog 11 #[.int .i64 c, .agg #[vx0, vy0], .agg #[vx1, vy1]] w fun e w' => ∃ r0 r1 RX RY, e = .returned (.tuple #[.agg [r0, r1].toArray, .int .i64 0]) ∧ jpt C.p (jsm C.p (triB X0 Y0) (triB X1 Y1)) RX RY ∧ Nb w' r0 RX ∧ Nb w' r1 RY ∧ Below w.heap.size w w' := by
  obtain ⟨xa0, xn0, xc0, rfl, hxn0⟩ := sl_cut hX0
  obtain ⟨ya0, yn0, yc0, rfl, hyn0⟩ := sl_cut hY0
  obtain ⟨xa1, xn1, xc1, rfl, hxn1⟩ := sl_cut hX1
  obtain ⟨ya1, yn1, yc1, rfl, hyn1⟩ := sl_cut hY1
  have HS : Hid (∀ W b2 T2, Below w.heap.size w W → Blk T2 W b2 ([.slice xa0 xn0 xc0, .slice ya0 yn0 yc0] ++ [.slice xa1 xn1 xc1, .slice ya1 yn1 yc1]) → Calls Try.prog 35 #[.int .i64 c, .slice none 0 0, .slice (some ⟨b2, 0, none⟩) 2 2] W fun e w' => ∃ s a1 n1 c1 a2 n2 c2 a3 n3 c3 a4 n4 c4 a5 n5 c5, e = .returned (.tuple #[.agg [.int .i64 (s : Nat), .slice a1 n1 c1, .slice a2 n2 c2, .slice a3 n3 c3, .slice a4 n4 c4, .slice a5 n5 c5].toArray, .int .i64 0]) ∧ KindS w' s a1 n1 c1 a2 n2 c2 a3 n3 c3 a4 n4 c4 a5 n5 c5 C ∧ Below W.heap.size W w') := fun W b2 T2 hW hb2 =>
    asked_02 c C hc b2 T2 _ _ X0 Y0 _ _ X1 Y1 hb2 (below_sl hW hX0) (below_sl hW hY0) uX0 uY0 lX0 lY0 ho0 (below_sl hW hX1) (below_sl hW hY1) uX1 uY1 lX1 lY1 ho1
  have HT0 : Hid (∀ W, Below w.heap.size w W → Calls Try.prog 38 #[.agg #[.slice xa0 xn0 xc0, .slice ya0 yn0 yc0]] W fun e w' => ∃ a b c, e = .returned (.agg #[a, b, c]) ∧ Nb w' a (triB X0 Y0).1 ∧ Nb w' b (triB X0 Y0).2.1 ∧ Nb w' c (triB X0 Y0).2.2 ∧ Below W.heap.size W w') := fun W hW => TripleOf _ _ X0 Y0 (below_sl hW hX0) (below_sl hW hY0) uX0 uY0 lX0 lY0
  have hl0 : Lt3 C.p (triB X0 Y0) := triB_lt (crv_ok hc).1 (crv_p1 hc) (onB_lt (crv_ok hc).1 ho0).1 (onB_lt (crv_ok hc).1 ho0).2 (val_nonneg uX0) (val_nonneg uY0)
  have HT1 : Hid (∀ W, Below w.heap.size w W → Calls Try.prog 38 #[.agg #[.slice xa1 xn1 xc1, .slice ya1 yn1 yc1]] W fun e w' => ∃ a b c, e = .returned (.agg #[a, b, c]) ∧ Nb w' a (triB X1 Y1).1 ∧ Nb w' b (triB X1 Y1).2.1 ∧ Nb w' c (triB X1 Y1).2.2 ∧ Below W.heap.size W w') := fun W hW => TripleOf _ _ X1 Y1 (below_sl hW hX1) (below_sl hW hY1) uX1 uY1 lX1 lY1
  have hl1 : Lt3 C.p (triB X1 Y1) := triB_lt (crv_ok hc).1 (crv_p1 hc) (onB_lt (crv_ok hc).1 ho1).1 (onB_lt (crv_ok hc).1 ho1).2 (val_nonneg uX1) (val_nonneg uY1)
  obtain ⟨t0, ht0⟩ : ∃ t, triB X0 Y0 = t := ⟨_, rfl⟩
  obtain ⟨t1, ht1⟩ : ∃ t, triB X1 Y1 = t := ⟨_, rfl⟩
  rw [ht0] at HT0 hl0 hg; rw [ht1] at HT1 hl1 hg; rw [ht0, ht1]
  have hl2 : Lt3 C.p (jsm C.p t0 t1) := jsm_lt (crv_ok hc).1 hl0 hl1
  have HSu : Hid (∀ W f a0 b0 c0 a1 b1 c1, Fld W f C.p → Nb W a0 t0.1 → Nb W b0 t0.2.1 → Nb W c0 t0.2.2 → Nb W a1 t1.1 → Nb W b1 t1.2.1 → Nb W c1 t1.2.2 → Calls Try.prog 37 #[f, .agg #[a0, b0, c0], .agg #[a1, b1, c1]] W fun e w' => ∃ a b c, e = .returned (.agg #[a, b, c]) ∧ Nb w' a (jsm C.p t0 t1).1 ∧ Nb w' b (jsm C.p t0 t1).2.1 ∧ Nb w' c (jsm C.p t0 t1).2.2 ∧ Below W.heap.size W w') := fun W f a0 b0 c0 a1 b1 c1 hf h1 h2 h3 h4 h5 h6 => Tsum f a0 b0 c0 a1 b1 c1 C.p t0.1 t0.2.1 t0.2.2 t1.1 t1.2.1 t1.2.2 hf h1 h2 h3 h4 h5 h6 hl0.1 hl0.2.1 hl0.2.2 hl1.1 hl1.2.1 hl1.2.2
  obtain ⟨t2, ht2⟩ : ∃ t, jsm C.p t0 t1 = t := ⟨_, rfl⟩
  rw [ht2] at HSu hl2 hg; rw [ht2]
  have HPt : Hid (∀ W f a b c, Fld W f C.p → Nb W a t2.1 → Nb W b t2.2.1 → Nb W c t2.2.2 → Calls Try.prog 36 #[f, .agg #[a, b, c]] W fun e w' => ∃ ra rn rc qa qn qc RX RY, e = .returned (.agg #[.slice ra rn rc, .slice qa qn qc]) ∧ jpt C.p t2 RX RY ∧ Nb w' (.slice ra rn rc) RX ∧ Nb w' (.slice qa qn qc) RY ∧ Below W.heap.size W w') := fun W f a b c hf h1 h2 h3 => (Tpoint f a b c C.p t2.1 t2.2.1 t2.2.2 hf h1 h2 h3 hl2.1 hl2.2.1 hl2.2.2 hg).mono fun e w' ⟨r0, r1, RX, RY, he, hj, n0, n1, hb⟩ => by
    obtain ⟨ra, rc, rfl⟩ := n0.form
    obtain ⟨qa, qc, rfl⟩ := n1.form
    exact ⟨ra, _, rc, qa, _, qc, RX, RY, he, hj, n0, n1, hb⟩
  have HK : Hid (0 < C.p ∧ C.p < 4294967296 ^ 12) := ⟨(crv_ok hc).1, (crv_ok hc).2.1⟩
  clear hc hX0 hY0 uX0 uY0 lX0 lY0 ho0 hX1 hY1 uX1 uY1 lX1 lY1 ho1 hxn0 hyn0 hxn1 hyn1 hl0 hl1 hl2 hg ht0 ht1 ht2
  go_enter Try.func11, Try.ntmps11
  go_upto_region 1 with (first | (refine wpList_boxR rfl 24 (.tmp 1) rfl #[.slice xa0 xn0 xc0, .slice ya0 yn0 yc0] rfl ?_) | (refine wpList_boxR rfl 24 (.tmp 2) rfl #[.slice xa1 xn1 xc1, .slice ya1 yn1 yc1] rfl ?_))
  refine wp_gen (fun W => Blk 24 W w.heap.size [.slice xa0 xn0 xc0, .slice ya0 yn0 yc0] ∧ Blk 24 W (w.heap.size + 1) [.slice xa1 xn1 xc1, .slice ya1 yn1 yc1] ∧ Blk 24 W (w.heap.size + 1 + 1) [.slice none 0 0, .slice none 0 0] ∧ Below w.heap.size w W) ⟨((Blk.new _ w _).alloc _).alloc _, by have := (Blk.new 24 (w.alloc (.cells [.slice xa0 xn0 xc0, .slice ya0 yn0 yc0].toArray 24)) [.slice xa1 xn1 xc1, .slice ya1 yn1 yc1]).alloc (.cells [.slice none 0 0, .slice none 0 0].toArray 24); rw [World.size_alloc] at this; exact this, by have := Blk.new 24 ((w.alloc (.cells [.slice xa0 xn0 xc0, .slice ya0 yn0 yc0].toArray 24)).alloc (.cells [.slice xa1 xn1 xc1, .slice ya1 yn1 yc1].toArray 24)) [.slice none 0 0, .slice none 0 0]; rw [World.size_alloc, World.size_alloc] at this; exact this, ((al1 _).alloc (by simp) _).alloc (by simp; omega) _⟩ ?_
  rintro W2 ⟨hB, hB2, hR, hBw⟩
  have H2 : Hid (Below w.heap.size w W2 ∧ Blk 24 W2 w.heap.size [.slice xa0 xn0 xc0, .slice ya0 yn0 yc0] ∧ Blk 24 W2 (w.heap.size + 1) [.slice xa1 xn1 xc1, .slice ya1 yn1 yc1] ∧ Blk 24 W2 (w.heap.size + 1 + 1) [.slice none 0 0, .slice none 0 0]) := ⟨hBw, hB, hB2, hR⟩
  have p0 : W2.cell? ⟨w.heap.size, 0, none⟩ = some (.slice xa0 xn0 xc0) := hB.cell 0
  have p1 : W2.cell? ⟨w.heap.size, 1, none⟩ = some (.slice ya0 yn0 yc0) := hB.cell 1
  have p2 : W2.cell? ⟨w.heap.size + 1, 0, none⟩ = some (.slice xa1 xn1 xc1) := hB2.cell 0
  have p3 : W2.cell? ⟨w.heap.size + 1, 1, none⟩ = some (.slice ya1 yn1 yc1) := hB2.cell 1
  clear hB hB2 hR hBw
  go_wp2_with fail
  refine (HS.out _ W2.heap.size 24 (below_via H2.out.1 (al1 _) (Nat.le_refl _)) (Blk.new _ W2 _)).mono ?_
  rintro e w3 ⟨s, a1, n1, c1, a2, n2, c2, a3, n3, c3, a4, n4, c4, a5, n5, c5, rfl, hk, hb3⟩
  have hb23 : Below W2.heap.size W2 w3 := below_via (al1 _) hb3 (Nat.le_refl _)
  have H3 : Hid (Below w.heap.size w w3 ∧ KindS w3 s a1 n1 c1 a2 n2 c2 a3 n3 c3 a4 n4 c4 a5 n5 c5 C ∧ Blk 24 w3 w.heap.size [.slice xa0 xn0 xc0, .slice ya0 yn0 yc0] ∧ Blk 24 w3 (w.heap.size + 1) [.slice xa1 xn1 xc1, .slice ya1 yn1 yc1] ∧ Blk 24 w3 (w.heap.size + 1 + 1) [.slice none 0 0, .slice none 0 0]) := ⟨below_via H2.out.1 hb23 (Nat.le_refl _), hk, below_blk hb23 H2.out.2.1.lt H2.out.2.1, below_blk hb23 H2.out.2.2.1.lt H2.out.2.2.1, below_blk hb23 H2.out.2.2.2.lt H2.out.2.2.2⟩
  have hlt : w.heap.size + 1 + 1 < w3.heap.size := H3.out.2.2.2.2.lt
  clear hb3 hb23 hk HS p0 p1 p2 p3
  go_upto_region 2 with (fail)
  refine wp_gen (fun W => Blk 66 W w3.heap.size [.int .i64 s, .slice a1 n1 c1, .slice a2 n2 c2, .slice a3 n3 c3, .slice a4 n4 c4, .slice a5 n5 c5] ∧ Below w3.heap.size w3 W) ⟨Blk.new _ _ _, al1 _⟩ ?_
  rintro W4 ⟨hB4, hb4⟩
  have H4 : Hid (Below w.heap.size w W4 ∧ KindS W4 s a1 n1 c1 a2 n2 c2 a3 n3 c3 a4 n4 c4 a5 n5 c5 C ∧ Blk 24 W4 w.heap.size [.slice xa0 xn0 xc0, .slice ya0 yn0 yc0] ∧ Blk 24 W4 (w.heap.size + 1) [.slice xa1 xn1 xc1, .slice ya1 yn1 yc1] ∧ Blk 24 W4 (w.heap.size + 1 + 1) [.slice none 0 0, .slice none 0 0] ∧ Blk 66 W4 w3.heap.size [.int .i64 s, .slice a1 n1 c1, .slice a2 n2 c2, .slice a3 n3 c3, .slice a4 n4 c4, .slice a5 n5 c5]) := ⟨below_via H3.out.1 hb4 (Nat.le_refl _), H3.out.2.1.below hb4, below_blk hb4 H3.out.2.2.1.lt H3.out.2.2.1, below_blk hb4 H3.out.2.2.2.1.lt H3.out.2.2.2.1, below_blk hb4 H3.out.2.2.2.2.lt H3.out.2.2.2.2, hB4⟩
  clear hB4 hb4
  have HSc : Hid (∀ W W', (Below w.heap.size w W ∧ W.cell? ⟨w.heap.size, 0, none⟩ = some (.slice xa0 xn0 xc0) ∧ W.cell? ⟨w.heap.size, 1, none⟩ = some (.slice ya0 yn0 yc0) ∧ W.cell? ⟨w.heap.size + 1, 0, none⟩ = some (.slice xa1 xn1 xc1) ∧ W.cell? ⟨w.heap.size + 1, 1, none⟩ = some (.slice ya1 yn1 yc1) ∧ W.cell? ⟨w3.heap.size, 1, none⟩ = some (.slice a1 n1 c1) ∧ w.heap.size < W.heap.size ∧ w.heap.size + 1 < W.heap.size ∧ w3.heap.size < W.heap.size) → Below W.heap.size W W' → (Below w.heap.size w W' ∧ W'.cell? ⟨w.heap.size, 0, none⟩ = some (.slice xa0 xn0 xc0) ∧ W'.cell? ⟨w.heap.size, 1, none⟩ = some (.slice ya0 yn0 yc0) ∧ W'.cell? ⟨w.heap.size + 1, 0, none⟩ = some (.slice xa1 xn1 xc1) ∧ W'.cell? ⟨w.heap.size + 1, 1, none⟩ = some (.slice ya1 yn1 yc1) ∧ W'.cell? ⟨w3.heap.size, 1, none⟩ = some (.slice a1 n1 c1) ∧ w.heap.size < W'.heap.size ∧ w.heap.size + 1 < W'.heap.size ∧ w3.heap.size < W'.heap.size)) := fun W W' h hb => ⟨below_via h.1 hb (Nat.le_refl _), by rw [hb.cell (p := ⟨w.heap.size, 0, none⟩) h.2.2.2.2.2.2.1]; exact h.2.1, by rw [hb.cell (p := ⟨w.heap.size, 1, none⟩) h.2.2.2.2.2.2.1]; exact h.2.2.1, by rw [hb.cell (p := ⟨w.heap.size + 1, 0, none⟩) h.2.2.2.2.2.2.2.1]; exact h.2.2.2.1, by rw [hb.cell (p := ⟨w.heap.size + 1, 1, none⟩) h.2.2.2.2.2.2.2.1]; exact h.2.2.2.2.1, by rw [hb.cell (p := ⟨w3.heap.size, 1, none⟩) h.2.2.2.2.2.2.2.2]; exact h.2.2.2.2.2.1, Nat.lt_of_lt_of_le h.2.2.2.2.2.2.1 hb.size, Nat.lt_of_lt_of_le h.2.2.2.2.2.2.2.1 hb.size, Nat.lt_of_lt_of_le h.2.2.2.2.2.2.2.2 hb.size⟩
  have HSs : Hid (∀ W i v, (Below w.heap.size w W ∧ W.cell? ⟨w.heap.size, 0, none⟩ = some (.slice xa0 xn0 xc0) ∧ W.cell? ⟨w.heap.size, 1, none⟩ = some (.slice ya0 yn0 yc0) ∧ W.cell? ⟨w.heap.size + 1, 0, none⟩ = some (.slice xa1 xn1 xc1) ∧ W.cell? ⟨w.heap.size + 1, 1, none⟩ = some (.slice ya1 yn1 yc1) ∧ W.cell? ⟨w3.heap.size, 1, none⟩ = some (.slice a1 n1 c1) ∧ w.heap.size < W.heap.size ∧ w.heap.size + 1 < W.heap.size ∧ w3.heap.size < W.heap.size) → (Below w.heap.size w (W.setCell ⟨w.heap.size + 1 + 1, i, none⟩ v) ∧ (W.setCell ⟨w.heap.size + 1 + 1, i, none⟩ v).cell? ⟨w.heap.size, 0, none⟩ = some (.slice xa0 xn0 xc0) ∧ (W.setCell ⟨w.heap.size + 1 + 1, i, none⟩ v).cell? ⟨w.heap.size, 1, none⟩ = some (.slice ya0 yn0 yc0) ∧ (W.setCell ⟨w.heap.size + 1 + 1, i, none⟩ v).cell? ⟨w.heap.size + 1, 0, none⟩ = some (.slice xa1 xn1 xc1) ∧ (W.setCell ⟨w.heap.size + 1 + 1, i, none⟩ v).cell? ⟨w.heap.size + 1, 1, none⟩ = some (.slice ya1 yn1 yc1) ∧ (W.setCell ⟨w.heap.size + 1 + 1, i, none⟩ v).cell? ⟨w3.heap.size, 1, none⟩ = some (.slice a1 n1 c1) ∧ w.heap.size < (W.setCell ⟨w.heap.size + 1 + 1, i, none⟩ v).heap.size ∧ w.heap.size + 1 < (W.setCell ⟨w.heap.size + 1 + 1, i, none⟩ v).heap.size ∧ w3.heap.size < (W.setCell ⟨w.heap.size + 1 + 1, i, none⟩ v).heap.size)) := fun W i v h => by
    have hU := Upd.set W (w.heap.size + 1 + 1) i v
    exact ⟨hU.below h.1 h.1.size (by omega), (World.cell?_of_block (a := ⟨w.heap.size, 0, none⟩) (hU.block (w.heap.size) h.2.2.2.2.2.2.1 (by first | (dsimp only; omega) | (simp; done) | (simp; omega)))).trans h.2.1, (World.cell?_of_block (a := ⟨w.heap.size, 1, none⟩) (hU.block (w.heap.size) h.2.2.2.2.2.2.1 (by first | (dsimp only; omega) | (simp; done) | (simp; omega)))).trans h.2.2.1, (World.cell?_of_block (a := ⟨w.heap.size + 1, 0, none⟩) (hU.block (w.heap.size + 1) h.2.2.2.2.2.2.2.1 (by first | (dsimp only; omega) | (simp; done) | (simp; omega)))).trans h.2.2.2.1, (World.cell?_of_block (a := ⟨w.heap.size + 1, 1, none⟩) (hU.block (w.heap.size + 1) h.2.2.2.2.2.2.2.1 (by first | (dsimp only; omega) | (simp; done) | (simp; omega)))).trans h.2.2.2.2.1, (World.cell?_of_block (a := ⟨w3.heap.size, 1, none⟩) (hU.block (w3.heap.size) h.2.2.2.2.2.2.2.2 (by first | (dsimp only; omega) | (simp; done) | (simp; omega)))).trans h.2.2.2.2.2.1, Nat.lt_of_lt_of_le h.2.2.2.2.2.2.1 hU.size, Nat.lt_of_lt_of_le h.2.2.2.2.2.2.2.1 hU.size, Nat.lt_of_lt_of_le h.2.2.2.2.2.2.2.2 hU.size⟩
  have HS0 : Hid (Below w.heap.size w W4.drew ∧ W4.drew.cell? ⟨w.heap.size, 0, none⟩ = some (.slice xa0 xn0 xc0) ∧ W4.drew.cell? ⟨w.heap.size, 1, none⟩ = some (.slice ya0 yn0 yc0) ∧ W4.drew.cell? ⟨w.heap.size + 1, 0, none⟩ = some (.slice xa1 xn1 xc1) ∧ W4.drew.cell? ⟨w.heap.size + 1, 1, none⟩ = some (.slice ya1 yn1 yc1) ∧ W4.drew.cell? ⟨w3.heap.size, 1, none⟩ = some (.slice a1 n1 c1) ∧ w.heap.size < W4.drew.heap.size ∧ w.heap.size + 1 < W4.drew.heap.size ∧ w3.heap.size < W4.drew.heap.size) := ⟨Below.drew H4.out.1, H4.out.2.2.1.cell 0, H4.out.2.2.1.cell 1, H4.out.2.2.2.1.cell 0, H4.out.2.2.2.1.cell 1, H4.out.2.2.2.2.2.cell 1, H4.out.2.2.1.lt, H4.out.2.2.2.1.lt, H4.out.2.2.2.2.2.lt⟩
  have HD : Hid (Below w.heap.size w W4.drew ∧ Fld W4.drew (.slice a1 n1 c1) C.p ∧ Blk 24 W4.drew (w.heap.size + 1 + 1) [.slice none 0 0, .slice none 0 0]) := ⟨Below.drew H4.out.1, ⟨H4.out.2.1.2.1, HK.out.1, HK.out.2⟩, H4.out.2.2.2.2.1⟩
  go_wp2_with fail
  go_region_held3 (fun W => Below w.heap.size w W ∧ W.cell? ⟨w.heap.size, 0, none⟩ = some (.slice xa0 xn0 xc0) ∧ W.cell? ⟨w.heap.size, 1, none⟩ = some (.slice ya0 yn0 yc0) ∧ W.cell? ⟨w.heap.size + 1, 0, none⟩ = some (.slice xa1 xn1 xc1) ∧ W.cell? ⟨w.heap.size + 1, 1, none⟩ = some (.slice ya1 yn1 yc1) ∧ W.cell? ⟨w3.heap.size, 1, none⟩ = some (.slice a1 n1 c1) ∧ w.heap.size < W.heap.size ∧ w.heap.size + 1 < W.heap.size ∧ w3.heap.size < W.heap.size)
      (first | assumption | exact HS0.out | exact HSc.out _ _ (by assumption) (by assumption) | exact HSs.out _ _ _ (HSs.out _ _ _ (by assumption)))
      (first
      | (replace K7 := K7; go_at_call 36; refine (HPt.out _ (.slice a1 n1 c1) _ _ _ K7.out.2.2.1 K7.out.2.2.2.1 K7.out.2.2.2.2.1 K7.out.2.2.2.2.2).mono ?_; rintro e w8 ⟨ra, rn, rc, qa, qn, qc, RX, RY, rfl, hj, hr0, hr1, hb8⟩; have K8 : Hid (Below w.heap.size w w8 ∧ Blk 24 w8 (w.heap.size + 1 + 1) [.slice none 0 0, .slice none 0 0] ∧ jpt C.p t2 RX RY ∧ Nb w8 (.slice ra rn rc) RX ∧ Nb w8 (.slice qa qn qc) RY) := ⟨below_via K7.out.1 hb8 (Nat.le_refl _), below_blk hb8 K7.out.2.1.lt K7.out.2.1, hj, hr0, hr1⟩; have d0 : w8.cell? ⟨w.heap.size + 1 + 1, 0, none⟩ = some (.slice none 0 0) := K8.out.2.1.cell 0; have d1 : w8.cell? ⟨w.heap.size + 1 + 1, 1, none⟩ = some (.slice none 0 0) := K8.out.2.1.cell 1; have g0 := K8.out.2.1.frozen 0; have g1 := K8.out.2.1.frozen 1; clear hj hr0 hr1)
      | (replace K6 := K6; go_at_call 37; refine (HSu.out _ (.slice a1 n1 c1) _ _ _ _ _ _ K6.out.2.2.1 K6.out.2.2.2.1 K6.out.2.2.2.2.1 K6.out.2.2.2.2.2.1 K6.out.2.2.2.2.2.2.1 K6.out.2.2.2.2.2.2.2.1 K6.out.2.2.2.2.2.2.2.2).mono ?_; rintro e w7 ⟨a7, b7, c7, rfl, hr7, hs7, ht7, hb7⟩; have K7 : Hid (Below w.heap.size w w7 ∧ Blk 24 w7 (w.heap.size + 1 + 1) [.slice none 0 0, .slice none 0 0] ∧ Fld w7 (.slice a1 n1 c1) C.p ∧ Nb w7 a7 t2.1 ∧ Nb w7 b7 t2.2.1 ∧ Nb w7 c7 t2.2.2) := ⟨below_via K6.out.1 hb7 (Nat.le_refl _), below_blk hb7 K6.out.2.1.lt K6.out.2.1, K6.out.2.2.1.below hb7, hr7, hs7, ht7⟩; clear hr7 hs7 ht7)
      | (replace K5 := K5; go_at_call 38; refine (HT1.out _ K5.out.1).mono ?_; rintro e w6 ⟨a6, b6, c6, rfl, hr6, hs6, ht6, hb6⟩; have K6 : Hid (Below w.heap.size w w6 ∧ Blk 24 w6 (w.heap.size + 1 + 1) [.slice none 0 0, .slice none 0 0] ∧ Fld w6 (.slice a1 n1 c1) C.p ∧ Nb w6 a5 t0.1 ∧ Nb w6 b5 t0.2.1 ∧ Nb w6 c5 t0.2.2 ∧ Nb w6 a6 t1.1 ∧ Nb w6 b6 t1.2.1 ∧ Nb w6 c6 t1.2.2) := ⟨below_via K5.out.1 hb6 (Nat.le_refl _), below_blk hb6 K5.out.2.1.lt K5.out.2.1, K5.out.2.2.1.below hb6, K5.out.2.2.2.1.below hb6, K5.out.2.2.2.2.1.below hb6, K5.out.2.2.2.2.2.below hb6, hr6, hs6, ht6⟩; clear hr6 hs6 ht6)
      | (go_at_call 38; refine (HT0.out _ HD.out.1).mono ?_; rintro e w5 ⟨a5, b5, c5, rfl, hr5, hs5, ht5, hb5⟩; have K5 : Hid (Below w.heap.size w w5 ∧ Blk 24 w5 (w.heap.size + 1 + 1) [.slice none 0 0, .slice none 0 0] ∧ Fld w5 (.slice a1 n1 c1) C.p ∧ Nb w5 a5 t0.1 ∧ Nb w5 b5 t0.2.1 ∧ Nb w5 c5 t0.2.2) := ⟨below_via HD.out.1 hb5 (Nat.le_refl _), below_blk hb5 HD.out.2.2.lt HD.out.2.2, HD.out.2.1.below hb5, hr5, hs5, ht5⟩; clear hr5 hs5 ht5))
  clear hb5 hb6 hb7 hb8
  go_wp2
  obtain ⟨hF, hU⟩ := Blk.put2 K8.out.2.1 (.slice ra rn rc) (.slice qa qn qc)
  have hbl := hU.below K8.out.1 K8.out.1.size (by omega)
  exact bodyPost_ret (results_blk2 rfl rfl hF Try.underlying24 rfl Try.sizePt rfl) rfl ⟨_, _, RX, RY, rfl, K8.out.2.2.1, K8.out.2.2.2.1.upd K8.out.2.1 noInts hU, K8.out.2.2.2.2.upd K8.out.2.1 noInts hU, hbl⟩

end Go.Proofs.Yteagdgbcfbkfbaa
/-
  The reference's digits: less.
-/
namespace Go.Proofs.Yteagdgbcfbkfbaa
open Go.RowKit
set_option maxRecDepth 20000
/-- Thirteen digits of 32 bits, as a value. -/
def dgA (A : List Int) : Value := .agg (A.map (Value.int .u64)).toArray
theorem Try.sizeDg : (Try.prog.info? 76).map (·.size) = some 13 := by kernel_rfl
set_option maxHeartbeats 2000000 in
theorem less_any {w : World} (A B : List Int) (uA : U32s A) (uB : U32s B) (lA : A.length = 13) (lB : B.length = 13) :
    Calls Try.prog 107 #[dgA A, dgA B] w fun e w' => e = .returned (.bool (decide (val A < val B))) ∧ Below w.heap.size w w' := by
  have HA : Hid (U32s A ∧ U32s B) := ⟨uA, uB⟩
  unfold dgA
  go_enter Try.func107, Try.ntmps107
  go_upto_region 1 with (first
    | refine wpList_boxR rfl 76 (.tmp 0) rfl (A.map (Value.int .u64)).toArray rfl ?_
    | refine wpList_boxR rfl 76 (.tmp 1) rfl (B.map (Value.int .u64)).toArray rfl ?_)
  refine wp_gen (fun W => Blk 76 W w.heap.size (A.map (Value.int .u64)) ∧ Blk 76 W (w.heap.size + 1) (B.map (Value.int .u64)) ∧ Below w.heap.size w W) ⟨(Blk.new _ w _).alloc _, by have := Blk.new 76 (w.alloc (.cells (A.map (Value.int .u64)).toArray 76)) (B.map (Value.int .u64)); rw [World.size_alloc] at this; exact this, (al1 _).alloc (by simp) _⟩ ?_
  rintro W2 ⟨hA, hB, hBw⟩
  have H2 : Hid (Below w.heap.size w W2) := hBw
  have hA2 : Arr .u64 76 W2 w.heap.size A := hA.arr
  have hB2 : Arr .u64 76 W2 (w.heap.size + 1) B := hB.arr
  have HR : Hid (∀ W3, Below W2.heap.size W2 W3 → (Below w.heap.size w W3 ∧ ∀ k, k < 13 → W3.cell? ⟨w.heap.size, k, none⟩ = some (.int .u64 (A.getD k 0)) ∧ W3.cell? ⟨w.heap.size + 1, k, none⟩ = some (.int .u64 (B.getD k 0)))) := fun W3 h3 => ⟨below_via hBw h3 (Nat.le_refl _), fun k hk => ⟨(below_arr h3 hA2.lt hA2).cell k (by omega), (below_arr h3 hB2.lt hB2).cell k (by omega)⟩⟩
  clear hA hB hBw hA2 hB2 H2
  have HZ : Hid (∀ j, 13 ≤ j → A.getD j 0 = B.getD j 0) := fun j hj => by simp [List.getD_eq_getElem?_getD, List.getElem?_eq_none (show A.length ≤ j by omega), List.getElem?_eq_none (show B.length ≤ j by omega)]
  clear uA uB lA lB
  go_wp2
  go_loopw [5] (fun i wr => ∃ k : Nat, i = .int .i64 ((k : Int) - 1) ∧ k ≤ 13 ∧ Hid (∀ j, k ≤ j → A.getD j 0 = B.getD j 0) ∧ Hid (Below W2.heap.size W2 wr)) (fun i _ => ((intOf i) + 1).toNat)
  case atStart => exact ⟨13, by go_num, Nat.le_refl _, HZ.out, Below.refl _ _⟩
  case round =>
    clear HZ
    obtain ⟨k, rfl, hk, HK, H3⟩ := hrel
    cases k with
    | zero =>
      have HE : Hid (decide (val A < val B) = false) := by
        have h : val A = val B := Nt.val_ext _ _ (fun j => HK.out j (Nat.zero_le _))
        show _ = _; rw [h]; simp
      clear HK
      rw [show ((0 : Nat) : Int) - 1 = -1 from rfl]
      go_wp2
      go_ret
      exact ⟨by rw [HE.out]; rfl, (HR.out _ H3.out).1⟩
    | succ m =>
      obtain ⟨h1, h2⟩ := (HR.out _ H3.out).2 m (by omega)
      obtain ⟨x, hx⟩ : ∃ x, A.getD m 0 = x := ⟨_, rfl⟩
      obtain ⟨y, hy⟩ : ∃ y, B.getD m 0 = y := ⟨_, rfl⟩
      rw [hx] at h1; rw [hy] at h2
      have HX : Hid (A.getD m 0 = x ∧ B.getD m 0 = y) := ⟨hx, hy⟩
      have hi : ((m + 1 : Nat) : Int) - 1 = m := by omega
      rw [hi]
      have ux : U32 x := hx ▸ HA.out.1.at m
      have uy : U32 y := hy ▸ HA.out.2.at m
      obtain ⟨ux1, ux2⟩ := ux
      obtain ⟨uy1, uy2⟩ := uy
      clear hx hy hi
      rcases Int.lt_trichotomy x y with hlt | rfl | hlt
      · have HE : Hid (decide (val A < val B) = true) := by
          have h : val A < val B := Nt.val_lt_of m A B HA.out.1 HA.out.2 (fun j hj => HK.out j hj) (by rw [HX.out.1, HX.out.2]; exact hlt)
          show _ = _; simpa using h
        go_wp2
        go_quiet (fail)
        go_wp2
        go_quiet (fail)
        go_wp2
        go_ret
        exact ⟨by rw [HE.out]; simp, (HR.out _ H3.out).1.trans ⟨rfl, rfl, rfl, Nat.le_refl _, fun _ _ => rfl⟩⟩
      · go_wp2
        go_quiet (fail)
        go_wp2
        go_round
        case rel => exact ⟨m, by go_num, by omega, fun j hj => by
          rcases Nat.lt_or_ge m j with h | h
          · exact HK.out j h
          · rw [show j = m by omega, HX.out.1, HX.out.2], H3.out.trans ⟨rfl, rfl, rfl, Nat.le_refl _, fun _ _ => rfl⟩⟩
        case measure => simp [intOf]; try omega
      · have HE : Hid (decide (val A < val B) = false) := by
          have h : val B < val A := Nt.val_lt_of m B A HA.out.2 HA.out.1 (fun j hj => (HK.out j hj).symm) (by rw [HX.out.1, HX.out.2]; exact hlt)
          show _ = _; rw [decide_eq_false_iff_not]; omega
        have hn : ¬ x < y := by omega
        go_wp2
        go_quiet (fail)
        go_wp2
        go_quiet (fail)
        go_wp2
        go_ret
        exact ⟨by rw [HE.out]; simp [hn], (HR.out _ H3.out).1.trans ⟨rfl, rfl, rfl, Nat.le_refl _, fun _ _ => rfl⟩⟩
end Go.Proofs.Yteagdgbcfbkfbaa
/-
  The reference's digits: plus.
-/
namespace Go.Proofs.Yteagdgbcfbkfbaa
open Go.RowKit
set_option maxRecDepth 20000
theorem getD_app_drop (Z A : List Int) : (Z ++ A.drop Z.length).getD Z.length 0 = A.getD Z.length 0 := by
  simp [List.getD_eq_getElem?_getD, List.getElem?_append_right, List.getElem?_drop]
theorem set_app_drop (Z A : List Int) (x : Int) (h : Z.length < A.length) : (Z ++ A.drop Z.length).set Z.length x = (Z ++ [x]) ++ A.drop (Z ++ [x]).length := by
  rw [List.set_append_right _ _ (Nat.le_refl _), Nat.sub_self, List.drop_eq_getElem_cons h, List.set_cons_zero]
  simp
theorem set_set_app_drop (Z A : List Int) (y x : Int) (h : Z.length < A.length) : ((Z ++ A.drop Z.length).set Z.length y).set Z.length x = (Z ++ [x]) ++ A.drop (Z ++ [x]).length := by
  rw [List.set_set, set_app_drop _ _ _ h]
/-- A boxed triple of blocks: two numbers and the place of the answer. -/
theorem threeBlk {w : World} (A B : List Int) (o : Obj) (ho : o = .cells ((List.replicate 13 (0 : Int)).map (Value.int .u64)).toArray 76) :
    Arr .u64 76 (((w.alloc (.cells (A.map (Value.int .u64)).toArray 76)).alloc (.cells (B.map (Value.int .u64)).toArray 76)).alloc o) w.heap.size A ∧
    Arr .u64 76 (((w.alloc (.cells (A.map (Value.int .u64)).toArray 76)).alloc (.cells (B.map (Value.int .u64)).toArray 76)).alloc o) (w.heap.size + 1) B ∧
    Arr .u64 76 (((w.alloc (.cells (A.map (Value.int .u64)).toArray 76)).alloc (.cells (B.map (Value.int .u64)).toArray 76)).alloc o) (w.heap.size + 1 + 1) (List.replicate 13 0) ∧
    Below w.heap.size w (((w.alloc (.cells (A.map (Value.int .u64)).toArray 76)).alloc (.cells (B.map (Value.int .u64)).toArray 76)).alloc o) := by
  subst ho
  refine ⟨(((Blk.new _ w (A.map (Value.int .u64))).alloc _).alloc _).arr, ?_, ?_, ((al1 _).alloc (by simp) _).alloc (by simp; omega) _⟩
  · have h := Blk.new 76 (w.alloc (.cells (A.map (Value.int .u64)).toArray 76)) (B.map (Value.int .u64))
    rw [World.size_alloc] at h
    exact (h.alloc _).arr
  · have h := Blk.new 76 ((w.alloc (.cells (A.map (Value.int .u64)).toArray 76)).alloc (.cells (B.map (Value.int .u64)).toArray 76)) ((List.replicate 13 (0 : Int)).map (Value.int .u64))
    rw [World.size_alloc, World.size_alloc] at h
    exact h.arr
theorem plus_step (P cy a b z cn vZ vA vB : Int) (h : vZ + P * cy = vA + vB) (e : z + 4294967296 * cn = a + b + cy) : vZ + P * z + P * 4294967296 * cn = vA + P * a + (vB + P * b) := by
  have h2 : P * (z + 4294967296 * cn) = P * (a + b + cy) := by rw [e]
  rw [Int.mul_add, Int.mul_add, Int.mul_add, ← Int.mul_assoc] at h2
  omega
set_option maxHeartbeats 2000000 in
theorem plus_any {w : World} (A B : List Int) (uA : U32s A) (uB : U32s B) (lA : A.length = 13) (lB : B.length = 13) (hs : val A + val B < 4294967296 ^ 13) :
    Calls Try.prog 108 #[dgA A, dgA B] w fun e w' => ∃ Z, e = .returned (dgA Z) ∧ U32s Z ∧ Z.length = 13 ∧ val Z = val A + val B ∧ Below w.heap.size w w' := by
  have HA : Hid (U32s A ∧ U32s B ∧ val A + val B < 4294967296 ^ 13) := ⟨uA, uB, hs⟩
  unfold dgA
  go_enter Try.func108, Try.ntmps108
  go_upto_region 1 with (first
    | refine wpList_boxR rfl 76 (.tmp 0) rfl (A.map (Value.int .u64)).toArray rfl ?_
    | refine wpList_boxR rfl 76 (.tmp 1) rfl (B.map (Value.int .u64)).toArray rfl ?_)
  refine wp_gen (fun W => Arr .u64 76 W w.heap.size A ∧ Arr .u64 76 W (w.heap.size + 1) B ∧ Arr .u64 76 W (w.heap.size + 1 + 1) (List.replicate 13 0) ∧ Below w.heap.size w W) (threeBlk A B _ rfl) ?_
  rintro W2 ⟨hA, hB, hR, hBw⟩
  have H2 : Hid (Arr .u64 76 W2 w.heap.size A ∧ Arr .u64 76 W2 (w.heap.size + 1) B ∧ Arr .u64 76 W2 (w.heap.size + 1 + 1) (List.replicate 13 0) ∧ Below w.heap.size w W2) := ⟨hA, hB, hR, hBw⟩
  clear hA hB hR hBw uA uB hs
  go_wp2
  go_loopw [5, 6] (fun c i wr => ∃ (Z : List Int) (cy : Int), i = .int .i64 Z.length ∧ c = .int .u64 cy ∧ Z.length ≤ 13 ∧ 0 ≤ cy ∧ cy ≤ 1 ∧ Hid (U32s Z ∧ val Z + 4294967296 ^ Z.length * cy = val (A.take Z.length) + val (B.take Z.length)) ∧ Hid (Arr .u64 76 wr w.heap.size (Z ++ A.drop Z.length) ∧ Arr .u64 76 wr (w.heap.size + 1) B ∧ Arr .u64 76 wr (w.heap.size + 1 + 1) (List.replicate 13 0) ∧ Below w.heap.size w wr)) (fun _ i _ => 13 - (intOf i).toNat)
  case atStart => exact ⟨[], 0, rfl, rfl, by simp, by omega, by omega, ⟨U32s.nil, by simp [val]⟩, H2.out⟩
  case round =>
    clear H2
    obtain ⟨Z, cy, rfl, rfl, hZl, hc0, hc1, HZ, HW⟩ := hrel
    by_cases hlt : Z.length < 13
    · obtain ⟨t, ht⟩ : ∃ t, Z.length = t := ⟨_, rfl⟩
      have h1 := HW.out.1.cell Z.length (by simp; omega)
      have h2 := HW.out.2.1.cell Z.length (by omega)
      have g1 := HW.out.1.frozen Z.length
      rw [getD_app_drop] at h1
      obtain ⟨x, hx⟩ : ∃ x, A.getD Z.length 0 = x := ⟨_, rfl⟩
      obtain ⟨y, hy⟩ : ∃ y, B.getD Z.length 0 = y := ⟨_, rfl⟩
      rw [hx] at h1; rw [hy] at h2
      have HX : Hid (A.getD Z.length 0 = x ∧ B.getD Z.length 0 = y ∧ Z.length = t) := ⟨hx, hy, ht⟩
      have ux : U32 x := hx ▸ HA.out.1.at _
      have uy : U32 y := hy ▸ HA.out.2.1.at _
      obtain ⟨ux1, ux2⟩ := ux
      obtain ⟨uy1, uy2⟩ := uy
      rw [ht] at h1 h2 g1 hlt
      have hand := Nt.and32 (x + y + cy) (by omega) (by omega)
      rw [ht]
      clear hx hy ht hZl
      go_wp2
      go_quiet (fail)
      go_wp2
      go_roundw
      case rel =>
        obtain ⟨hx, hy, ht⟩ := HX.out
        obtain ⟨hA, hB, hR, hBw⟩ := HW.out
        refine ⟨Z ++ [(x + y + cy) % 4294967296], (x + y + cy) / 4294967296, by simp [ht], rfl, by simp; omega, by omega, by omega, ⟨HZ.out.1.append (U32s.cons ⟨by omega, by omega⟩ U32s.nil), ?_⟩, ?_, ?_, ?_, ?_⟩
        · rw [Nt.val_snoc, List.length_append, List.length_singleton, Nt.val_take_succ _ _ (by omega), Nt.val_take_succ _ _ (by omega), hx, hy, Int.pow_succ]
          exact plus_step _ cy x y _ _ _ _ _ HZ.out.2 (by omega)
        · have h := Arr.set (w := wr.drewN nq) hA Z.length ((x + y + cy) % 4294967296)
          rw [set_app_drop _ _ _ (by omega), ht] at h
          exact h
        · exact (Upd.set (wr.drewN nq) w.heap.size t _).arr (xs := B) hB (by omega)
        · exact (Upd.set (wr.drewN nq) w.heap.size t _).arr (xs := List.replicate 13 0) hR (by omega)
        · exact Below.setCell (w := wr.drewN nq) (p := ⟨w.heap.size, t, none⟩) (hBw.trans ⟨rfl, rfl, rfl, Nat.le_refl _, fun _ _ => rfl⟩) (Nat.le_refl _) _
      case measure => simp [intOf]; omega
    · have h13 : Z.length = 13 := by omega
      have HL : Hid (U32s Z ∧ Z.length = 13 ∧ val Z = val A + val B) := by
        refine ⟨HZ.out.1, h13, ?_⟩
        have h := HZ.out.2
        rw [h13, List.take_of_length_le (by omega), List.take_of_length_le (by omega)] at h
        have h0 := val_nonneg HZ.out.1
        have h3 := HA.out.2.2
        generalize (4294967296 : Int) ^ 13 = P at h h3
        rcases (show cy = 0 ∨ cy = 1 by omega) with rfl | rfl
        · omega
        · omega
      obtain ⟨hA, hB, hR, hBw⟩ := HW.out
      rw [h13, List.drop_eq_nil_of_le (by omega), List.append_nil] at hA
      have hA' := hA.blk
      have hlen : (Z.map (Value.int .u64)).length = 13 := by simp [h13]
      have hsz : (Try.prog.info? 76).map (·.size) = some (Z.map (Value.int .u64)).length := by rw [hlen]; exact Try.sizeDg
      have hone := ints_one .u64 Z
      obtain ⟨cs, hcs⟩ : ∃ cs, Z.map (Value.int .u64) = cs := ⟨_, rfl⟩
      rw [hcs] at hA' hlen hsz hone
      have HC : Hid (Z.map (Value.int .u64) = cs) := hcs
      have hZb := hR.blk
      have HF : Hid (Blk 76 (wr.setCells (w.heap.size + 1 + 1) 0 cs) (w.heap.size + 1 + 1) cs ∧ Below w.heap.size w (wr.setCells (w.heap.size + 1 + 1) 0 cs)) := ⟨hZb.fill cs (by simp [hlen]), (Upd.setCells cs 0 wr).below hBw hBw.size (by omega)⟩
      have hth : wr.there (w.heap.size + 1 + 1) 0 cs.toArray.size := hZb.there 0 _ (by simp [hlen])
      have HQ : Hid (wr.rangeAt w.heap.size 0 cs ∧ wr.there (w.heap.size + 1 + 1) 0 cs.toArray.size) := ⟨hA'.whole, hth⟩
      have HS : Hid ((Try.prog.info? 76).map (·.size) = some cs.length) := hsz
      have HO : Hid (cs.toArray.all (·.oneCell') = true) := hone
      clear hA hB hR hBw hA' hlen hsz hone hZb hth hcs HW HZ hZl hlt
      rw [h13]
      clear h13
      go_wp2_with (first
        | (refine wpList_load_mid rfl _ _ rfl w.heap.size 0 rfl cs _ HQ.out.1 Try.underlying76 rfl HS.out ?_)
        | (refine wpList_store_mid rfl _ _ _ rfl (w.heap.size + 1 + 1) 0 cs.toArray rfl rfl HQ.out.2 (by simpa using HS.out) HO.out ?_))
      exact bodyPost_ret (v := .agg cs.toArray) (results_blk (b := w.heap.size + 1 + 1) (cs := cs) rfl rfl HF.out.1 Try.underlying76 rfl HS.out) rfl ⟨Z, by rw [HC.out], HL.out.1, HL.out.2.1, HL.out.2.2, HF.out.2⟩
end Go.Proofs.Yteagdgbcfbkfbaa
