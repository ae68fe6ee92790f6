/-
  Curve: Neg, Add, where nothing is at fault.
-/
import Derived.Test.YtkdclocjijmgpaaK29
namespace Go.Proofs.Ytkdclocjijmgpaa
open Go.RowKit
set_option maxRecDepth 20000

set_option maxHeartbeats 4000000 in
theorem Neg_ok {w : World} (c : Int) (C : Cv) (hc : crv c = some C) (vx vy : Value) (X Y : List Int) (hX : Sl .u32 w vx X) (hY : Sl .u32 w vy Y) (uX : U32s X) (uY : U32s Y) (lX : X.length ≤ 1000000) (lY : Y.length ≤ 1000000) (ho : onB C.p C.b X Y = true) :
    Calls Try.prog 10 #[.int .i64 c, .agg #[vx, vy]] w fun e w' => ∃ r0 r1, e = .returned (.tuple #[.agg [r0, r1].toArray, .int .i64 0]) ∧ Nb w' r0 (val X).toNat ∧ Nb w' r1 (fsb C.p 0 (val Y).toNat) ∧ Below w.heap.size w w' := by
  obtain ⟨xa, xn, xc, rfl, hxn⟩ := sl_cut hX
  obtain ⟨ya, yn, yc, rfl, hyn⟩ := sl_cut hY
  have HS : Hid (∀ W b2 T2, Below w.heap.size w W → Blk T2 W b2 [.slice xa xn xc, .slice ya yn yc] → Calls Try.prog 24 #[.int .i64 c, .slice none 0 0, .slice (some ⟨b2, 0, none⟩) 1 1] W fun e w' => ∃ s a1 n1 c1 a2 n2 c2 a3 n3 c3 a4 n4 c4 a5 n5 c5, e = .returned (.tuple #[.agg [.int .i64 (s : Nat), .slice a1 n1 c1, .slice a2 n2 c2, .slice a3 n3 c3, .slice a4 n4 c4, .slice a5 n5 c5].toArray, .int .i64 0]) ∧ KindS w' s a1 n1 c1 a2 n2 c2 a3 n3 c3 a4 n4 c4 a5 n5 c5 C ∧ Below W.heap.size W w') := fun W b2 T2 hW hb2 =>
    asked_01 c C hc b2 T2 (.slice xa xn xc) (.slice ya yn yc) X Y hb2 (below_sl hW hX) (below_sl hW hY) uX uY lX lY ho
  have HTx : Hid (∀ W, Below w.heap.size w W → Calls Try.prog 33 #[.slice xa xn xc] W fun e w' => ∃ a n c, e = .returned (.slice a n c) ∧ Nb w' (.slice a n c) (val X).toNat ∧ Below W.heap.size W w') := fun W hW => (LTrim _ X (below_sl hW hX) uX lX).mono fun e w' ⟨r, he, hn, hb⟩ => by obtain ⟨a, c, rfl⟩ := hn.form; exact ⟨a, _, c, he, hn, hb⟩
  have HTy : Hid (∀ W, Below w.heap.size w W → Calls Try.prog 33 #[.slice ya yn yc] W fun e w' => ∃ a n c, e = .returned (.slice a n c) ∧ Nb w' (.slice a n c) (val Y).toNat ∧ Below W.heap.size W w') := fun W hW => (LTrim _ Y (below_sl hW hY) uY lY).mono fun e w' ⟨r, he, hn, hb⟩ => by obtain ⟨a, c, rfl⟩ := hn.form; exact ⟨a, _, c, he, hn, hb⟩
  have hYl : (val Y).toNat < C.p := by have h := (onB_lt (crv_ok hc).1 ho).2; have := (crv_ok hc).1; omega
  obtain ⟨x, hx⟩ : ∃ x, (val X).toNat = x := ⟨_, rfl⟩
  obtain ⟨y, hy⟩ : ∃ y, (val Y).toNat = y := ⟨_, rfl⟩
  rw [hx] at HTx; rw [hy] at HTy hYl; rw [hx, hy]
  have HK : Hid (0 < C.p ∧ C.p < 4294967296 ^ 12 ∧ y < C.p) := ⟨(crv_ok hc).1, (crv_ok hc).2.1, hYl⟩
  have HFm : Hid (∀ W f r, Fld W f C.p → Nb W r y → Calls Try.prog 34 #[f, .slice none 0 0, r] W fun e w' => ∃ a n c, e = .returned (.slice a n c) ∧ Nb w' (.slice a n c) (fsb C.p 0 y) ∧ Below W.heap.size W w') := fun W f r hf hr => (Fminus f (.slice none 0 0) r C.p 0 y hf (nil_nb W) hr HK.out.1 HK.out.2.2).mono fun e w' ⟨r, he, hn, hb⟩ => by obtain ⟨a, c, rfl⟩ := hn.form; exact ⟨a, _, c, he, hn, hb⟩
  clear hc hX hY uX uY lX lY ho hxn hyn hYl hx hy
  go_enter Try.func10, Try.ntmps10
  go_upto_region 1 with (refine wpList_boxR rfl 24 (.tmp 1) rfl #[.slice xa xn xc, .slice ya yn yc] rfl ?_)
  refine wp_gen (fun W => Blk 24 W w.heap.size [.slice xa xn xc, .slice ya yn yc] ∧ Blk 24 W (w.heap.size + 1) [.slice none 0 0, .slice none 0 0] ∧ Below w.heap.size w W) ⟨(Blk.new _ w _).alloc _, by have := Blk.new 24 (w.alloc (.cells [.slice xa xn xc, .slice ya yn yc].toArray 24)) [.slice none 0 0, .slice none 0 0]; rw [World.size_alloc] at this; exact this, (al1 _).alloc (by simp) _⟩ ?_
  rintro W2 ⟨hB, hR, hBw⟩
  have H2 : Hid (Below w.heap.size w W2 ∧ Blk 24 W2 w.heap.size [.slice xa xn xc, .slice ya yn yc] ∧ Blk 24 W2 (w.heap.size + 1) [.slice none 0 0, .slice none 0 0]) := ⟨hBw, hB, hR⟩
  have p0 : W2.cell? ⟨w.heap.size, 0, none⟩ = some (.slice xa xn xc) := hB.cell 0
  have p1 : W2.cell? ⟨w.heap.size, 1, none⟩ = some (.slice ya yn yc) := hB.cell 1
  clear hB hR hBw
  go_wp2_with fail
  refine (HS.out _ W2.heap.size 24 (below_via H2.out.1 (al1 _) (Nat.le_refl _)) (Blk.new _ W2 _)).mono ?_
  rintro e w3 ⟨s, a1, n1, c1, a2, n2, c2, a3, n3, c3, a4, n4, c4, a5, n5, c5, rfl, hk, hb3⟩
  have hb23 : Below W2.heap.size W2 w3 := below_via (al1 _) hb3 (Nat.le_refl _)
  have H3 : Hid (Below w.heap.size w w3 ∧ KindS w3 s a1 n1 c1 a2 n2 c2 a3 n3 c3 a4 n4 c4 a5 n5 c5 C ∧ Blk 24 w3 w.heap.size [.slice xa xn xc, .slice ya yn yc] ∧ Blk 24 w3 (w.heap.size + 1) [.slice none 0 0, .slice none 0 0]) := ⟨below_via H2.out.1 hb23 (Nat.le_refl _), hk, below_blk hb23 H2.out.2.1.lt H2.out.2.1, below_blk hb23 H2.out.2.2.lt H2.out.2.2⟩
  have hlt : w.heap.size + 1 < w3.heap.size := H3.out.2.2.2.lt
  clear hb3 hb23 hk HS p0 p1
  go_upto_region 2 with (fail)
  refine wp_gen (fun W => Blk 53 W w3.heap.size [.int .i64 s, .slice a1 n1 c1, .slice a2 n2 c2, .slice a3 n3 c3, .slice a4 n4 c4, .slice a5 n5 c5] ∧ Below w3.heap.size w3 W) ⟨Blk.new _ _ _, al1 _⟩ ?_
  rintro W4 ⟨hB4, hb4⟩
  have H4 : Hid (Below w.heap.size w W4 ∧ KindS W4 s a1 n1 c1 a2 n2 c2 a3 n3 c3 a4 n4 c4 a5 n5 c5 C ∧ Blk 24 W4 w.heap.size [.slice xa xn xc, .slice ya yn yc] ∧ Blk 24 W4 (w.heap.size + 1) [.slice none 0 0, .slice none 0 0] ∧ Blk 53 W4 w3.heap.size [.int .i64 s, .slice a1 n1 c1, .slice a2 n2 c2, .slice a3 n3 c3, .slice a4 n4 c4, .slice a5 n5 c5]) := ⟨below_via H3.out.1 hb4 (Nat.le_refl _), H3.out.2.1.below hb4, below_blk hb4 H3.out.2.2.1.lt H3.out.2.2.1, below_blk hb4 H3.out.2.2.2.lt H3.out.2.2.2, hB4⟩
  clear hB4 hb4
  have HSc : Hid (∀ W W', (Below w.heap.size w W ∧ W.cell? ⟨w.heap.size, 0, none⟩ = some (.slice xa xn xc) ∧ W.cell? ⟨w.heap.size, 1, none⟩ = some (.slice ya yn yc) ∧ W.cell? ⟨w3.heap.size, 1, none⟩ = some (.slice a1 n1 c1) ∧ w.heap.size < W.heap.size ∧ w3.heap.size < W.heap.size) → Below W.heap.size W W' → (Below w.heap.size w W' ∧ W'.cell? ⟨w.heap.size, 0, none⟩ = some (.slice xa xn xc) ∧ W'.cell? ⟨w.heap.size, 1, none⟩ = some (.slice ya yn yc) ∧ W'.cell? ⟨w3.heap.size, 1, none⟩ = some (.slice a1 n1 c1) ∧ w.heap.size < W'.heap.size ∧ w3.heap.size < W'.heap.size)) := fun W W' h hb => ⟨below_via h.1 hb (Nat.le_refl _), by rw [hb.cell (p := ⟨w.heap.size, 0, none⟩) h.2.2.2.2.1]; exact h.2.1, by rw [hb.cell (p := ⟨w.heap.size, 1, none⟩) h.2.2.2.2.1]; exact h.2.2.1, by rw [hb.cell (p := ⟨w3.heap.size, 1, none⟩) h.2.2.2.2.2]; exact h.2.2.2.1, Nat.lt_of_lt_of_le h.2.2.2.2.1 hb.size, Nat.lt_of_lt_of_le h.2.2.2.2.2 hb.size⟩
  have HSs : Hid (∀ W i v, (Below w.heap.size w W ∧ W.cell? ⟨w.heap.size, 0, none⟩ = some (.slice xa xn xc) ∧ W.cell? ⟨w.heap.size, 1, none⟩ = some (.slice ya yn yc) ∧ W.cell? ⟨w3.heap.size, 1, none⟩ = some (.slice a1 n1 c1) ∧ w.heap.size < W.heap.size ∧ w3.heap.size < W.heap.size) → (Below w.heap.size w (W.setCell ⟨w.heap.size + 1, i, none⟩ v) ∧ (W.setCell ⟨w.heap.size + 1, i, none⟩ v).cell? ⟨w.heap.size, 0, none⟩ = some (.slice xa xn xc) ∧ (W.setCell ⟨w.heap.size + 1, i, none⟩ v).cell? ⟨w.heap.size, 1, none⟩ = some (.slice ya yn yc) ∧ (W.setCell ⟨w.heap.size + 1, i, none⟩ v).cell? ⟨w3.heap.size, 1, none⟩ = some (.slice a1 n1 c1) ∧ w.heap.size < (W.setCell ⟨w.heap.size + 1, i, none⟩ v).heap.size ∧ w3.heap.size < (W.setCell ⟨w.heap.size + 1, i, none⟩ v).heap.size)) := fun W i v h => by
    have hU := Upd.set W (w.heap.size + 1) i v
    exact ⟨hU.below h.1 h.1.size (by omega), (World.cell?_of_block (a := ⟨w.heap.size, 0, none⟩) (hU.block (w.heap.size) h.2.2.2.2.1 (by first | (dsimp only; omega) | (simp; done) | (simp; omega)))).trans h.2.1, (World.cell?_of_block (a := ⟨w.heap.size, 1, none⟩) (hU.block (w.heap.size) h.2.2.2.2.1 (by first | (dsimp only; omega) | (simp; done) | (simp; omega)))).trans h.2.2.1, (World.cell?_of_block (a := ⟨w3.heap.size, 1, none⟩) (hU.block (w3.heap.size) h.2.2.2.2.2 (by first | (dsimp only; omega) | (simp; done) | (simp; omega)))).trans h.2.2.2.1, Nat.lt_of_lt_of_le h.2.2.2.2.1 hU.size, Nat.lt_of_lt_of_le h.2.2.2.2.2 hU.size⟩
  have HS0 : Hid (Below w.heap.size w W4.drew ∧ W4.drew.cell? ⟨w.heap.size, 0, none⟩ = some (.slice xa xn xc) ∧ W4.drew.cell? ⟨w.heap.size, 1, none⟩ = some (.slice ya yn yc) ∧ W4.drew.cell? ⟨w3.heap.size, 1, none⟩ = some (.slice a1 n1 c1) ∧ w.heap.size < W4.drew.heap.size ∧ w3.heap.size < W4.drew.heap.size) := ⟨Below.drew H4.out.1, H4.out.2.2.1.cell 0, H4.out.2.2.1.cell 1, H4.out.2.2.2.2.cell 1, H4.out.2.2.1.lt, H4.out.2.2.2.2.lt⟩
  have HD : Hid (Below w.heap.size w W4.drew ∧ Fld W4.drew (.slice a1 n1 c1) C.p ∧ Blk 24 W4.drew (w.heap.size + 1) [.slice none 0 0, .slice none 0 0]) := ⟨Below.drew H4.out.1, ⟨H4.out.2.1.2.1, HK.out.1, HK.out.2.1⟩, H4.out.2.2.2.1⟩
  go_wp2_with fail
  go_region_held3 (fun W => Below w.heap.size w W ∧ W.cell? ⟨w.heap.size, 0, none⟩ = some (.slice xa xn xc) ∧ W.cell? ⟨w.heap.size, 1, none⟩ = some (.slice ya yn yc) ∧ W.cell? ⟨w3.heap.size, 1, none⟩ = some (.slice a1 n1 c1) ∧ w.heap.size < W.heap.size ∧ w3.heap.size < W.heap.size)
      (first | assumption | exact HS0.out | exact HSc.out _ _ (by assumption) (by assumption) | exact HSs.out _ _ _ (HSs.out _ _ _ (by assumption)))
      (first
      | (replace K6 := K6; go_at_call 34; refine (HFm.out _ (.slice a1 n1 c1) _ K6.out.2.2.1 K6.out.2.2.2.2).mono ?_; rintro e w7 ⟨ra7, rn7, rc7, rfl, hr7, hb7⟩; have K7 : Hid (Below w.heap.size w w7 ∧ Blk 24 w7 (w.heap.size + 1) [.slice none 0 0, .slice none 0 0] ∧ Nb w7 (.slice ra5 rn5 rc5) x ∧ Nb w7 (.slice ra7 rn7 rc7) (fsb C.p 0 y)) := ⟨below_via K6.out.1 hb7 (Nat.le_refl _), below_blk hb7 K6.out.2.1.lt K6.out.2.1, K6.out.2.2.2.1.below hb7, hr7⟩; have d0 : w7.cell? ⟨w.heap.size + 1, 0, none⟩ = some (.slice none 0 0) := K7.out.2.1.cell 0; have d1 : w7.cell? ⟨w.heap.size + 1, 1, none⟩ = some (.slice none 0 0) := K7.out.2.1.cell 1; have g0 := K7.out.2.1.frozen 0; have g1 := K7.out.2.1.frozen 1; clear hr7)
      | (replace K5 := K5; go_at_call 33; refine (HTy.out _ K5.out.1).mono ?_; rintro e w6 ⟨ra6, rn6, rc6, rfl, hr6, hb6⟩; have K6 : Hid (Below w.heap.size w w6 ∧ Blk 24 w6 (w.heap.size + 1) [.slice none 0 0, .slice none 0 0] ∧ Fld w6 (.slice a1 n1 c1) C.p ∧ Nb w6 (.slice ra5 rn5 rc5) x ∧ Nb w6 (.slice ra6 rn6 rc6) y) := ⟨below_via K5.out.1 hb6 (Nat.le_refl _), below_blk hb6 K5.out.2.1.lt K5.out.2.1, K5.out.2.2.1.below hb6, K5.out.2.2.2.below hb6, hr6⟩; clear hr6)
      | (go_at_call 33; refine (HTx.out _ HD.out.1).mono ?_; rintro e w5 ⟨ra5, rn5, rc5, rfl, hr5, hb5⟩; have K5 : Hid (Below w.heap.size w w5 ∧ Blk 24 w5 (w.heap.size + 1) [.slice none 0 0, .slice none 0 0] ∧ Fld w5 (.slice a1 n1 c1) C.p ∧ Nb w5 (.slice ra5 rn5 rc5) x) := ⟨below_via HD.out.1 hb5 (Nat.le_refl _), below_blk hb5 HD.out.2.2.lt HD.out.2.2, HD.out.2.1.below hb5, hr5⟩; clear hr5))
  clear hb5 hb6 hb7
  go_wp2
  obtain ⟨hF, hU⟩ := Blk.put2 K7.out.2.1 (.slice ra5 rn5 rc5) (.slice ra7 rn7 rc7)
  have hbl := hU.below K7.out.1 K7.out.1.size (Nat.le_succ _)
  exact bodyPost_ret (results_blk2 rfl rfl hF Try.underlying24 rfl Try.sizePt rfl) rfl ⟨_, _, rfl, K7.out.2.2.1.upd K7.out.2.1 noInts hU, K7.out.2.2.2.upd K7.out.2.1 noInts hU, hbl⟩

set_option maxHeartbeats 4000000 in
theorem Add_ok {w : World} (c : Int) (C : Cv) (hc : crv c = some C) (vx0 vy0 vx1 vy1 : Value) (X0 Y0 X1 Y1 : List Int) (hX0 : Sl .u32 w vx0 X0) (hY0 : Sl .u32 w vy0 Y0) (uX0 : U32s X0) (uY0 : U32s Y0) (lX0 : X0.length ≤ 1000000) (lY0 : Y0.length ≤ 1000000) (ho0 : onB C.p C.b X0 Y0 = true) (hX1 : Sl .u32 w vx1 X1) (hY1 : Sl .u32 w vy1 Y1) (uX1 : U32s X1) (uY1 : U32s Y1) (lX1 : X1.length ≤ 1000000) (lY1 : Y1.length ≤ 1000000) (ho1 : onB C.p C.b X1 Y1 = true)
    (hg : (jsm C.p (triB X0 Y0) (triB X1 Y1)).2.2 ≠ 0 → Nat.gcd (jsm C.p (triB X0 Y0) (triB X1 Y1)).2.2 C.p = 1) :
    Calls Try.prog 8 #[.int .i64 c, .agg #[vx0, vy0], .agg #[vx1, vy1]] w fun e w' => ∃ r0 r1 RX RY, e = .returned (.tuple #[.agg [r0, r1].toArray, .int .i64 0]) ∧ jpt C.p (jsm C.p (triB X0 Y0) (triB X1 Y1)) RX RY ∧ Nb w' r0 RX ∧ Nb w' r1 RY ∧ Below w.heap.size w w' := by
  obtain ⟨xa0, xn0, xc0, rfl, hxn0⟩ := sl_cut hX0
  obtain ⟨ya0, yn0, yc0, rfl, hyn0⟩ := sl_cut hY0
  obtain ⟨xa1, xn1, xc1, rfl, hxn1⟩ := sl_cut hX1
  obtain ⟨ya1, yn1, yc1, rfl, hyn1⟩ := sl_cut hY1
  have HS : Hid (∀ W b2 T2, Below w.heap.size w W → Blk T2 W b2 ([.slice xa0 xn0 xc0, .slice ya0 yn0 yc0] ++ [.slice xa1 xn1 xc1, .slice ya1 yn1 yc1]) → Calls Try.prog 24 #[.int .i64 c, .slice none 0 0, .slice (some ⟨b2, 0, none⟩) 2 2] W fun e w' => ∃ s a1 n1 c1 a2 n2 c2 a3 n3 c3 a4 n4 c4 a5 n5 c5, e = .returned (.tuple #[.agg [.int .i64 (s : Nat), .slice a1 n1 c1, .slice a2 n2 c2, .slice a3 n3 c3, .slice a4 n4 c4, .slice a5 n5 c5].toArray, .int .i64 0]) ∧ KindS w' s a1 n1 c1 a2 n2 c2 a3 n3 c3 a4 n4 c4 a5 n5 c5 C ∧ Below W.heap.size W w') := fun W b2 T2 hW hb2 =>
    asked_02 c C hc b2 T2 _ _ X0 Y0 _ _ X1 Y1 hb2 (below_sl hW hX0) (below_sl hW hY0) uX0 uY0 lX0 lY0 ho0 (below_sl hW hX1) (below_sl hW hY1) uX1 uY1 lX1 lY1 ho1
  have HT0 : Hid (∀ W, Below w.heap.size w W → Calls Try.prog 27 #[.agg #[.slice xa0 xn0 xc0, .slice ya0 yn0 yc0]] W fun e w' => ∃ a b c, e = .returned (.agg #[a, b, c]) ∧ Nb w' a (triB X0 Y0).1 ∧ Nb w' b (triB X0 Y0).2.1 ∧ Nb w' c (triB X0 Y0).2.2 ∧ Below W.heap.size W w') := fun W hW => TripleOf _ _ X0 Y0 (below_sl hW hX0) (below_sl hW hY0) uX0 uY0 lX0 lY0
  have hl0 : Lt3 C.p (triB X0 Y0) := triB_lt (crv_ok hc).1 (crv_p1 hc) (onB_lt (crv_ok hc).1 ho0).1 (onB_lt (crv_ok hc).1 ho0).2 (val_nonneg uX0) (val_nonneg uY0)
  have HT1 : Hid (∀ W, Below w.heap.size w W → Calls Try.prog 27 #[.agg #[.slice xa1 xn1 xc1, .slice ya1 yn1 yc1]] W fun e w' => ∃ a b c, e = .returned (.agg #[a, b, c]) ∧ Nb w' a (triB X1 Y1).1 ∧ Nb w' b (triB X1 Y1).2.1 ∧ Nb w' c (triB X1 Y1).2.2 ∧ Below W.heap.size W w') := fun W hW => TripleOf _ _ X1 Y1 (below_sl hW hX1) (below_sl hW hY1) uX1 uY1 lX1 lY1
  have hl1 : Lt3 C.p (triB X1 Y1) := triB_lt (crv_ok hc).1 (crv_p1 hc) (onB_lt (crv_ok hc).1 ho1).1 (onB_lt (crv_ok hc).1 ho1).2 (val_nonneg uX1) (val_nonneg uY1)
  obtain ⟨t0, ht0⟩ : ∃ t, triB X0 Y0 = t := ⟨_, rfl⟩
  obtain ⟨t1, ht1⟩ : ∃ t, triB X1 Y1 = t := ⟨_, rfl⟩
  rw [ht0] at HT0 hl0 hg; rw [ht1] at HT1 hl1 hg; rw [ht0, ht1]
  have hl2 : Lt3 C.p (jsm C.p t0 t1) := jsm_lt (crv_ok hc).1 hl0 hl1
  have HSu : Hid (∀ W f a0 b0 c0 a1 b1 c1, Fld W f C.p → Nb W a0 t0.1 → Nb W b0 t0.2.1 → Nb W c0 t0.2.2 → Nb W a1 t1.1 → Nb W b1 t1.2.1 → Nb W c1 t1.2.2 → Calls Try.prog 26 #[f, .agg #[a0, b0, c0], .agg #[a1, b1, c1]] W fun e w' => ∃ a b c, e = .returned (.agg #[a, b, c]) ∧ Nb w' a (jsm C.p t0 t1).1 ∧ Nb w' b (jsm C.p t0 t1).2.1 ∧ Nb w' c (jsm C.p t0 t1).2.2 ∧ Below W.heap.size W w') := fun W f a0 b0 c0 a1 b1 c1 hf h1 h2 h3 h4 h5 h6 => Tsum f a0 b0 c0 a1 b1 c1 C.p t0.1 t0.2.1 t0.2.2 t1.1 t1.2.1 t1.2.2 hf h1 h2 h3 h4 h5 h6 hl0.1 hl0.2.1 hl0.2.2 hl1.1 hl1.2.1 hl1.2.2
  obtain ⟨t2, ht2⟩ : ∃ t, jsm C.p t0 t1 = t := ⟨_, rfl⟩
  rw [ht2] at HSu hl2 hg; rw [ht2]
  have HPt : Hid (∀ W f a b c, Fld W f C.p → Nb W a t2.1 → Nb W b t2.2.1 → Nb W c t2.2.2 → Calls Try.prog 25 #[f, .agg #[a, b, c]] W fun e w' => ∃ ra rn rc qa qn qc RX RY, e = .returned (.agg #[.slice ra rn rc, .slice qa qn qc]) ∧ jpt C.p t2 RX RY ∧ Nb w' (.slice ra rn rc) RX ∧ Nb w' (.slice qa qn qc) RY ∧ Below W.heap.size W w') := fun W f a b c hf h1 h2 h3 => (Tpoint f a b c C.p t2.1 t2.2.1 t2.2.2 hf h1 h2 h3 hl2.1 hl2.2.1 hl2.2.2 hg).mono fun e w' ⟨r0, r1, RX, RY, he, hj, n0, n1, hb⟩ => by
    obtain ⟨ra, rc, rfl⟩ := n0.form
    obtain ⟨qa, qc, rfl⟩ := n1.form
    exact ⟨ra, _, rc, qa, _, qc, RX, RY, he, hj, n0, n1, hb⟩
  have HK : Hid (0 < C.p ∧ C.p < 4294967296 ^ 12) := ⟨(crv_ok hc).1, (crv_ok hc).2.1⟩
  clear hc hX0 hY0 uX0 uY0 lX0 lY0 ho0 hX1 hY1 uX1 uY1 lX1 lY1 ho1 hxn0 hyn0 hxn1 hyn1 hl0 hl1 hl2 hg ht0 ht1 ht2
  go_enter Try.func8, Try.ntmps8
  go_upto_region 1 with (first | (refine wpList_boxR rfl 24 (.tmp 1) rfl #[.slice xa0 xn0 xc0, .slice ya0 yn0 yc0] rfl ?_) | (refine wpList_boxR rfl 24 (.tmp 2) rfl #[.slice xa1 xn1 xc1, .slice ya1 yn1 yc1] rfl ?_))
  refine wp_gen (fun W => Blk 24 W w.heap.size [.slice xa0 xn0 xc0, .slice ya0 yn0 yc0] ∧ Blk 24 W (w.heap.size + 1) [.slice xa1 xn1 xc1, .slice ya1 yn1 yc1] ∧ Blk 24 W (w.heap.size + 1 + 1) [.slice none 0 0, .slice none 0 0] ∧ Below w.heap.size w W) ⟨((Blk.new _ w _).alloc _).alloc _, by have := (Blk.new 24 (w.alloc (.cells [.slice xa0 xn0 xc0, .slice ya0 yn0 yc0].toArray 24)) [.slice xa1 xn1 xc1, .slice ya1 yn1 yc1]).alloc (.cells [.slice none 0 0, .slice none 0 0].toArray 24); rw [World.size_alloc] at this; exact this, by have := Blk.new 24 ((w.alloc (.cells [.slice xa0 xn0 xc0, .slice ya0 yn0 yc0].toArray 24)).alloc (.cells [.slice xa1 xn1 xc1, .slice ya1 yn1 yc1].toArray 24)) [.slice none 0 0, .slice none 0 0]; rw [World.size_alloc, World.size_alloc] at this; exact this, ((al1 _).alloc (by simp) _).alloc (by simp; omega) _⟩ ?_
  rintro W2 ⟨hB, hB2, hR, hBw⟩
  have H2 : Hid (Below w.heap.size w W2 ∧ Blk 24 W2 w.heap.size [.slice xa0 xn0 xc0, .slice ya0 yn0 yc0] ∧ Blk 24 W2 (w.heap.size + 1) [.slice xa1 xn1 xc1, .slice ya1 yn1 yc1] ∧ Blk 24 W2 (w.heap.size + 1 + 1) [.slice none 0 0, .slice none 0 0]) := ⟨hBw, hB, hB2, hR⟩
  have p0 : W2.cell? ⟨w.heap.size, 0, none⟩ = some (.slice xa0 xn0 xc0) := hB.cell 0
  have p1 : W2.cell? ⟨w.heap.size, 1, none⟩ = some (.slice ya0 yn0 yc0) := hB.cell 1
  have p2 : W2.cell? ⟨w.heap.size + 1, 0, none⟩ = some (.slice xa1 xn1 xc1) := hB2.cell 0
  have p3 : W2.cell? ⟨w.heap.size + 1, 1, none⟩ = some (.slice ya1 yn1 yc1) := hB2.cell 1
  clear hB hB2 hR hBw
  go_wp2_with fail
  refine (HS.out _ W2.heap.size 24 (below_via H2.out.1 (al1 _) (Nat.le_refl _)) (Blk.new _ W2 _)).mono ?_
  rintro e w3 ⟨s, a1, n1, c1, a2, n2, c2, a3, n3, c3, a4, n4, c4, a5, n5, c5, rfl, hk, hb3⟩
  have hb23 : Below W2.heap.size W2 w3 := below_via (al1 _) hb3 (Nat.le_refl _)
  have H3 : Hid (Below w.heap.size w w3 ∧ KindS w3 s a1 n1 c1 a2 n2 c2 a3 n3 c3 a4 n4 c4 a5 n5 c5 C ∧ Blk 24 w3 w.heap.size [.slice xa0 xn0 xc0, .slice ya0 yn0 yc0] ∧ Blk 24 w3 (w.heap.size + 1) [.slice xa1 xn1 xc1, .slice ya1 yn1 yc1] ∧ Blk 24 w3 (w.heap.size + 1 + 1) [.slice none 0 0, .slice none 0 0]) := ⟨below_via H2.out.1 hb23 (Nat.le_refl _), hk, below_blk hb23 H2.out.2.1.lt H2.out.2.1, below_blk hb23 H2.out.2.2.1.lt H2.out.2.2.1, below_blk hb23 H2.out.2.2.2.lt H2.out.2.2.2⟩
  have hlt : w.heap.size + 1 + 1 < w3.heap.size := H3.out.2.2.2.2.lt
  clear hb3 hb23 hk HS p0 p1 p2 p3
  go_upto_region 2 with (fail)
  refine wp_gen (fun W => Blk 53 W w3.heap.size [.int .i64 s, .slice a1 n1 c1, .slice a2 n2 c2, .slice a3 n3 c3, .slice a4 n4 c4, .slice a5 n5 c5] ∧ Below w3.heap.size w3 W) ⟨Blk.new _ _ _, al1 _⟩ ?_
  rintro W4 ⟨hB4, hb4⟩
  have H4 : Hid (Below w.heap.size w W4 ∧ KindS W4 s a1 n1 c1 a2 n2 c2 a3 n3 c3 a4 n4 c4 a5 n5 c5 C ∧ Blk 24 W4 w.heap.size [.slice xa0 xn0 xc0, .slice ya0 yn0 yc0] ∧ Blk 24 W4 (w.heap.size + 1) [.slice xa1 xn1 xc1, .slice ya1 yn1 yc1] ∧ Blk 24 W4 (w.heap.size + 1 + 1) [.slice none 0 0, .slice none 0 0] ∧ Blk 53 W4 w3.heap.size [.int .i64 s, .slice a1 n1 c1, .slice a2 n2 c2, .slice a3 n3 c3, .slice a4 n4 c4, .slice a5 n5 c5]) := ⟨below_via H3.out.1 hb4 (Nat.le_refl _), H3.out.2.1.below hb4, below_blk hb4 H3.out.2.2.1.lt H3.out.2.2.1, below_blk hb4 H3.out.2.2.2.1.lt H3.out.2.2.2.1, below_blk hb4 H3.out.2.2.2.2.lt H3.out.2.2.2.2, hB4⟩
  clear hB4 hb4
  have HSc : Hid (∀ W W', (Below w.heap.size w W ∧ W.cell? ⟨w.heap.size, 0, none⟩ = some (.slice xa0 xn0 xc0) ∧ W.cell? ⟨w.heap.size, 1, none⟩ = some (.slice ya0 yn0 yc0) ∧ W.cell? ⟨w.heap.size + 1, 0, none⟩ = some (.slice xa1 xn1 xc1) ∧ W.cell? ⟨w.heap.size + 1, 1, none⟩ = some (.slice ya1 yn1 yc1) ∧ W.cell? ⟨w3.heap.size, 1, none⟩ = some (.slice a1 n1 c1) ∧ w.heap.size < W.heap.size ∧ w.heap.size + 1 < W.heap.size ∧ w3.heap.size < W.heap.size) → Below W.heap.size W W' → (Below w.heap.size w W' ∧ W'.cell? ⟨w.heap.size, 0, none⟩ = some (.slice xa0 xn0 xc0) ∧ W'.cell? ⟨w.heap.size, 1, none⟩ = some (.slice ya0 yn0 yc0) ∧ W'.cell? ⟨w.heap.size + 1, 0, none⟩ = some (.slice xa1 xn1 xc1) ∧ W'.cell? ⟨w.heap.size + 1, 1, none⟩ = some (.slice ya1 yn1 yc1) ∧ W'.cell? ⟨w3.heap.size, 1, none⟩ = some (.slice a1 n1 c1) ∧ w.heap.size < W'.heap.size ∧ w.heap.size + 1 < W'.heap.size ∧ w3.heap.size < W'.heap.size)) := fun W W' h hb => ⟨below_via h.1 hb (Nat.le_refl _), by rw [hb.cell (p := ⟨w.heap.size, 0, none⟩) h.2.2.2.2.2.2.1]; exact h.2.1, by rw [hb.cell (p := ⟨w.heap.size, 1, none⟩) h.2.2.2.2.2.2.1]; exact h.2.2.1, by rw [hb.cell (p := ⟨w.heap.size + 1, 0, none⟩) h.2.2.2.2.2.2.2.1]; exact h.2.2.2.1, by rw [hb.cell (p := ⟨w.heap.size + 1, 1, none⟩) h.2.2.2.2.2.2.2.1]; exact h.2.2.2.2.1, by rw [hb.cell (p := ⟨w3.heap.size, 1, none⟩) h.2.2.2.2.2.2.2.2]; exact h.2.2.2.2.2.1, Nat.lt_of_lt_of_le h.2.2.2.2.2.2.1 hb.size, Nat.lt_of_lt_of_le h.2.2.2.2.2.2.2.1 hb.size, Nat.lt_of_lt_of_le h.2.2.2.2.2.2.2.2 hb.size⟩
  have HSs : Hid (∀ W i v, (Below w.heap.size w W ∧ W.cell? ⟨w.heap.size, 0, none⟩ = some (.slice xa0 xn0 xc0) ∧ W.cell? ⟨w.heap.size, 1, none⟩ = some (.slice ya0 yn0 yc0) ∧ W.cell? ⟨w.heap.size + 1, 0, none⟩ = some (.slice xa1 xn1 xc1) ∧ W.cell? ⟨w.heap.size + 1, 1, none⟩ = some (.slice ya1 yn1 yc1) ∧ W.cell? ⟨w3.heap.size, 1, none⟩ = some (.slice a1 n1 c1) ∧ w.heap.size < W.heap.size ∧ w.heap.size + 1 < W.heap.size ∧ w3.heap.size < W.heap.size) → (Below w.heap.size w (W.setCell ⟨w.heap.size + 1 + 1, i, none⟩ v) ∧ (W.setCell ⟨w.heap.size + 1 + 1, i, none⟩ v).cell? ⟨w.heap.size, 0, none⟩ = some (.slice xa0 xn0 xc0) ∧ (W.setCell ⟨w.heap.size + 1 + 1, i, none⟩ v).cell? ⟨w.heap.size, 1, none⟩ = some (.slice ya0 yn0 yc0) ∧ (W.setCell ⟨w.heap.size + 1 + 1, i, none⟩ v).cell? ⟨w.heap.size + 1, 0, none⟩ = some (.slice xa1 xn1 xc1) ∧ (W.setCell ⟨w.heap.size + 1 + 1, i, none⟩ v).cell? ⟨w.heap.size + 1, 1, none⟩ = some (.slice ya1 yn1 yc1) ∧ (W.setCell ⟨w.heap.size + 1 + 1, i, none⟩ v).cell? ⟨w3.heap.size, 1, none⟩ = some (.slice a1 n1 c1) ∧ w.heap.size < (W.setCell ⟨w.heap.size + 1 + 1, i, none⟩ v).heap.size ∧ w.heap.size + 1 < (W.setCell ⟨w.heap.size + 1 + 1, i, none⟩ v).heap.size ∧ w3.heap.size < (W.setCell ⟨w.heap.size + 1 + 1, i, none⟩ v).heap.size)) := fun W i v h => by
    have hU := Upd.set W (w.heap.size + 1 + 1) i v
    exact ⟨hU.below h.1 h.1.size (by omega), (World.cell?_of_block (a := ⟨w.heap.size, 0, none⟩) (hU.block (w.heap.size) h.2.2.2.2.2.2.1 (by first | (dsimp only; omega) | (simp; done) | (simp; omega)))).trans h.2.1, (World.cell?_of_block (a := ⟨w.heap.size, 1, none⟩) (hU.block (w.heap.size) h.2.2.2.2.2.2.1 (by first | (dsimp only; omega) | (simp; done) | (simp; omega)))).trans h.2.2.1, (World.cell?_of_block (a := ⟨w.heap.size + 1, 0, none⟩) (hU.block (w.heap.size + 1) h.2.2.2.2.2.2.2.1 (by first | (dsimp only; omega) | (simp; done) | (simp; omega)))).trans h.2.2.2.1, (World.cell?_of_block (a := ⟨w.heap.size + 1, 1, none⟩) (hU.block (w.heap.size + 1) h.2.2.2.2.2.2.2.1 (by first | (dsimp only; omega) | (simp; done) | (simp; omega)))).trans h.2.2.2.2.1, (World.cell?_of_block (a := ⟨w3.heap.size, 1, none⟩) (hU.block (w3.heap.size) h.2.2.2.2.2.2.2.2 (by first | (dsimp only; omega) | (simp; done) | (simp; omega)))).trans h.2.2.2.2.2.1, Nat.lt_of_lt_of_le h.2.2.2.2.2.2.1 hU.size, Nat.lt_of_lt_of_le h.2.2.2.2.2.2.2.1 hU.size, Nat.lt_of_lt_of_le h.2.2.2.2.2.2.2.2 hU.size⟩
  have HS0 : Hid (Below w.heap.size w W4.drew ∧ W4.drew.cell? ⟨w.heap.size, 0, none⟩ = some (.slice xa0 xn0 xc0) ∧ W4.drew.cell? ⟨w.heap.size, 1, none⟩ = some (.slice ya0 yn0 yc0) ∧ W4.drew.cell? ⟨w.heap.size + 1, 0, none⟩ = some (.slice xa1 xn1 xc1) ∧ W4.drew.cell? ⟨w.heap.size + 1, 1, none⟩ = some (.slice ya1 yn1 yc1) ∧ W4.drew.cell? ⟨w3.heap.size, 1, none⟩ = some (.slice a1 n1 c1) ∧ w.heap.size < W4.drew.heap.size ∧ w.heap.size + 1 < W4.drew.heap.size ∧ w3.heap.size < W4.drew.heap.size) := ⟨Below.drew H4.out.1, H4.out.2.2.1.cell 0, H4.out.2.2.1.cell 1, H4.out.2.2.2.1.cell 0, H4.out.2.2.2.1.cell 1, H4.out.2.2.2.2.2.cell 1, H4.out.2.2.1.lt, H4.out.2.2.2.1.lt, H4.out.2.2.2.2.2.lt⟩
  have HD : Hid (Below w.heap.size w W4.drew ∧ Fld W4.drew (.slice a1 n1 c1) C.p ∧ Blk 24 W4.drew (w.heap.size + 1 + 1) [.slice none 0 0, .slice none 0 0]) := ⟨Below.drew H4.out.1, ⟨H4.out.2.1.2.1, HK.out.1, HK.out.2⟩, H4.out.2.2.2.2.1⟩
  go_wp2_with fail
  go_region_held3 (fun W => Below w.heap.size w W ∧ W.cell? ⟨w.heap.size, 0, none⟩ = some (.slice xa0 xn0 xc0) ∧ W.cell? ⟨w.heap.size, 1, none⟩ = some (.slice ya0 yn0 yc0) ∧ W.cell? ⟨w.heap.size + 1, 0, none⟩ = some (.slice xa1 xn1 xc1) ∧ W.cell? ⟨w.heap.size + 1, 1, none⟩ = some (.slice ya1 yn1 yc1) ∧ W.cell? ⟨w3.heap.size, 1, none⟩ = some (.slice a1 n1 c1) ∧ w.heap.size < W.heap.size ∧ w.heap.size + 1 < W.heap.size ∧ w3.heap.size < W.heap.size)
      (first | assumption | exact HS0.out | exact HSc.out _ _ (by assumption) (by assumption) | exact HSs.out _ _ _ (HSs.out _ _ _ (by assumption)))
      (first
      | (replace K7 := K7; go_at_call 25; refine (HPt.out _ (.slice a1 n1 c1) _ _ _ K7.out.2.2.1 K7.out.2.2.2.1 K7.out.2.2.2.2.1 K7.out.2.2.2.2.2).mono ?_; rintro e w8 ⟨ra, rn, rc, qa, qn, qc, RX, RY, rfl, hj, hr0, hr1, hb8⟩; have K8 : Hid (Below w.heap.size w w8 ∧ Blk 24 w8 (w.heap.size + 1 + 1) [.slice none 0 0, .slice none 0 0] ∧ jpt C.p t2 RX RY ∧ Nb w8 (.slice ra rn rc) RX ∧ Nb w8 (.slice qa qn qc) RY) := ⟨below_via K7.out.1 hb8 (Nat.le_refl _), below_blk hb8 K7.out.2.1.lt K7.out.2.1, hj, hr0, hr1⟩; have d0 : w8.cell? ⟨w.heap.size + 1 + 1, 0, none⟩ = some (.slice none 0 0) := K8.out.2.1.cell 0; have d1 : w8.cell? ⟨w.heap.size + 1 + 1, 1, none⟩ = some (.slice none 0 0) := K8.out.2.1.cell 1; have g0 := K8.out.2.1.frozen 0; have g1 := K8.out.2.1.frozen 1; clear hj hr0 hr1)
      | (replace K6 := K6; go_at_call 26; refine (HSu.out _ (.slice a1 n1 c1) _ _ _ _ _ _ K6.out.2.2.1 K6.out.2.2.2.1 K6.out.2.2.2.2.1 K6.out.2.2.2.2.2.1 K6.out.2.2.2.2.2.2.1 K6.out.2.2.2.2.2.2.2.1 K6.out.2.2.2.2.2.2.2.2).mono ?_; rintro e w7 ⟨a7, b7, c7, rfl, hr7, hs7, ht7, hb7⟩; have K7 : Hid (Below w.heap.size w w7 ∧ Blk 24 w7 (w.heap.size + 1 + 1) [.slice none 0 0, .slice none 0 0] ∧ Fld w7 (.slice a1 n1 c1) C.p ∧ Nb w7 a7 t2.1 ∧ Nb w7 b7 t2.2.1 ∧ Nb w7 c7 t2.2.2) := ⟨below_via K6.out.1 hb7 (Nat.le_refl _), below_blk hb7 K6.out.2.1.lt K6.out.2.1, K6.out.2.2.1.below hb7, hr7, hs7, ht7⟩; clear hr7 hs7 ht7)
      | (replace K5 := K5; go_at_call 27; refine (HT1.out _ K5.out.1).mono ?_; rintro e w6 ⟨a6, b6, c6, rfl, hr6, hs6, ht6, hb6⟩; have K6 : Hid (Below w.heap.size w w6 ∧ Blk 24 w6 (w.heap.size + 1 + 1) [.slice none 0 0, .slice none 0 0] ∧ Fld w6 (.slice a1 n1 c1) C.p ∧ Nb w6 a5 t0.1 ∧ Nb w6 b5 t0.2.1 ∧ Nb w6 c5 t0.2.2 ∧ Nb w6 a6 t1.1 ∧ Nb w6 b6 t1.2.1 ∧ Nb w6 c6 t1.2.2) := ⟨below_via K5.out.1 hb6 (Nat.le_refl _), below_blk hb6 K5.out.2.1.lt K5.out.2.1, K5.out.2.2.1.below hb6, K5.out.2.2.2.1.below hb6, K5.out.2.2.2.2.1.below hb6, K5.out.2.2.2.2.2.below hb6, hr6, hs6, ht6⟩; clear hr6 hs6 ht6)
      | (go_at_call 27; refine (HT0.out _ HD.out.1).mono ?_; rintro e w5 ⟨a5, b5, c5, rfl, hr5, hs5, ht5, hb5⟩; have K5 : Hid (Below w.heap.size w w5 ∧ Blk 24 w5 (w.heap.size + 1 + 1) [.slice none 0 0, .slice none 0 0] ∧ Fld w5 (.slice a1 n1 c1) C.p ∧ Nb w5 a5 t0.1 ∧ Nb w5 b5 t0.2.1 ∧ Nb w5 c5 t0.2.2) := ⟨below_via HD.out.1 hb5 (Nat.le_refl _), below_blk hb5 HD.out.2.2.lt HD.out.2.2, HD.out.2.1.below hb5, hr5, hs5, ht5⟩; clear hr5 hs5 ht5))
  clear hb5 hb6 hb7 hb8
  go_wp2
  obtain ⟨hF, hU⟩ := Blk.put2 K8.out.2.1 (.slice ra rn rc) (.slice qa qn qc)
  have hbl := hU.below K8.out.1 K8.out.1.size (by omega)
  exact bodyPost_ret (results_blk2 rfl rfl hF Try.underlying24 rfl Try.sizePt rfl) rfl ⟨_, _, RX, RY, rfl, K8.out.2.2.1, K8.out.2.2.2.1.upd K8.out.2.1 noInts hU, K8.out.2.2.2.2.upd K8.out.2.1 noInts hU, hbl⟩

end Go.Proofs.Ytkdclocjijmgpaa
/-
  The reference's Base, Same; the page's helpers; Parse of bytes that begin with 2. (wip/mku31.py)
-/
namespace Go.Proofs.Ytkdclocjijmgpaa
open Go.RowKit
set_option maxRecDepth 20000
theorem num09_any (x : Int) (w : World) : Calls Try.prog 13 #[.int .i64 x] w fun e w' => e = .returned (.int .i64 x) ∧ w = w' := by
  go_enter Try.func13, Try.ntmps13
  go_wp2
  go_ret
  exact ⟨rfl, rfl⟩
set_option maxHeartbeats 2000000 in
theorem SameP_any {w : World} (a b c d : Value) (x y : Nat) (ha : Nb w a x) (hb : Nb w b y) (hc : Nb w c x) (hd : Nb w d y) (lx : (lim x).length ≤ 1000) (ly : (lim y).length ≤ 1000) :
    Calls Try.prog 12 #[.agg #[a, b], .agg #[c, d]] w fun e w' => e = .returned (.bool true) ∧ Below w.heap.size w w' := by
  have HX : Hid (∀ W, Below w.heap.size w W → Calls Try.prog 39 #[a, c] W fun e w' => e = .returned (.bool true) ∧ Below W.heap.size W w') := fun W hW => Nt.Same_any a c (lim x) (ha.below hW) (hc.below hW) (by omega)
  have HY : Hid (∀ W, Below w.heap.size w W → Calls Try.prog 39 #[b, d] W fun e w' => e = .returned (.bool true) ∧ Below W.heap.size W w') := fun W hW => Nt.Same_any b d (lim y) (hb.below hW) (hd.below hW) (by omega)
  clear ha hb hc hd lx ly
  go_enter Try.func12, Try.ntmps12
  go_upto_region 1 with (first | (refine wpList_boxR rfl 24 (.tmp 0) rfl #[a, b] rfl ?_) | (refine wpList_boxR rfl 24 (.tmp 1) rfl #[c, d] rfl ?_))
  refine wp_gen (fun W => Blk 24 W w.heap.size [a, b] ∧ Blk 24 W (w.heap.size + 1) [c, d] ∧ Below w.heap.size w W) ⟨(Blk.new _ w _).alloc _, by have := Blk.new 24 (w.alloc (.cells [a, b].toArray 24)) [c, d]; rw [World.size_alloc] at this; exact this, (al1 _).alloc (by simp) _⟩ ?_
  rintro W2 ⟨hB, hB2, hBw⟩
  have H2 : Hid (Below w.heap.size w W2 ∧ ∀ W3, Below W2.heap.size W2 W3 → W3.cell? ⟨w.heap.size, 1, none⟩ = some b ∧ W3.cell? ⟨w.heap.size + 1, 1, none⟩ = some d ∧ Below w.heap.size w W3) := ⟨hBw, fun W3 h3 => ⟨(below_blk h3 hB.lt hB).cell 1, (below_blk h3 hB2.lt hB2).cell 1, below_via hBw h3 (Nat.le_refl _)⟩⟩
  have p0 : W2.cell? ⟨w.heap.size, 0, none⟩ = some a := hB.cell 0
  have p1 : W2.cell? ⟨w.heap.size + 1, 0, none⟩ = some c := hB2.cell 0
  clear hB hB2 hBw
  go_wp2_with fail
  refine (HX.out _ H2.out.1).mono ?_
  rintro e w3 ⟨rfl, hb3⟩
  obtain ⟨q0, q1, hb⟩ := H2.out.2 _ hb3
  have H3 : Hid (Below w.heap.size w w3) := hb
  clear hb hb3 p0 p1
  go_wp2_with fail
  refine (HY.out _ H3.out).mono ?_
  rintro e w4 ⟨rfl, hb4⟩
  have H4 : Hid (Below w.heap.size w w4) := below_via H3.out hb4 (Nat.le_refl _)
  clear hb4 q0 q1
  go_wp2
  go_ret
  exact ⟨rfl, H4.out⟩
set_option maxHeartbeats 2000000 in
theorem Parse_two {w : World} (ba : Nat) (cp : Nat) (h0 : w.cell? ⟨ba, 0, none⟩ = some (.int .u8 2)) (hl : ba < w.heap.size) :
    Calls Try.prog 21 #[.int .i64 1, .slice (some ⟨ba, 0, none⟩) 65 cp] w fun e w' => e = .returned (.tuple #[.agg [.slice none 0 0, .slice none 0 0].toArray, .int .i64 6]) ∧ Below w.heap.size w w' := by
  go_enter Try.func21, Try.ntmps21
  go_upto_region 1 with (fail)
  refine wp_gen (fun W => Blk 24 W w.heap.size [.slice none 0 0, .slice none 0 0] ∧ Below w.heap.size w W) ⟨Blk.new _ w _, al1 _⟩ ?_
  rintro W2 ⟨hB, hBw⟩
  have H2 : Hid (Below w.heap.size w W2 ∧ Blk 24 W2 w.heap.size [.slice none 0 0, .slice none 0 0] ∧ W2.cell? ⟨ba, 0, none⟩ = some (.int .u8 2) ∧ ba < W2.heap.size) := ⟨hBw, hB, (hBw.cell (p := ⟨ba, 0, none⟩) hl).trans h0, Nat.lt_of_lt_of_le hl hBw.size⟩
  clear hB hBw h0 hl
  go_wp2_with fail
  refine (pick_yes 1 c256 rfl).mono ?_
  rintro e w3 ⟨s, a1, n1, c1, a2, n2, c2, a3, n3, c3, a4, n4, c4, a5, n5, c5, rfl, hk, hb3⟩
  have hs : s = 32 := hk.1
  subst hs
  have H3 : Hid (Below w.heap.size w w3 ∧ Blk 24 w3 w.heap.size [.slice none 0 0, .slice none 0 0] ∧ w3.cell? ⟨ba, 0, none⟩ = some (.int .u8 2) ∧ ba < w3.heap.size) := ⟨below_via H2.out.1 hb3 (Nat.le_refl _), below_blk hb3 H2.out.2.1.lt H2.out.2.1, (hb3.cell (p := ⟨ba, 0, none⟩) H2.out.2.2.2).trans H2.out.2.2.1, Nat.lt_of_lt_of_le H2.out.2.2.2 hb3.size⟩
  clear hk hb3
  go_upto_region 2 with (fail)
  refine wp_gen (fun W => Blk 53 W w3.heap.size [.int .i64 32, .slice a1 n1 c1, .slice a2 n2 c2, .slice a3 n3 c3, .slice a4 n4 c4, .slice a5 n5 c5] ∧ Below w3.heap.size w3 W) ⟨Blk.new _ _ _, al1 _⟩ ?_
  rintro W4 ⟨hB4, hb4⟩
  have k0 : W4.cell? ⟨w3.heap.size, 0, none⟩ = some (.int .i64 32) := hB4.cell 0
  have q0 : W4.cell? ⟨ba, 0, none⟩ = some (.int .u8 2) := (hb4.cell (p := ⟨ba, 0, none⟩) H3.out.2.2.2).trans H3.out.2.2.1
  have hB := below_blk hb4 H3.out.2.1.lt H3.out.2.1
  have H4 : Hid (Below w.heap.size w W4 ∧ Blk 24 W4 w.heap.size [.slice none 0 0, .slice none 0 0]) := ⟨below_via H3.out.1 hb4 (Nat.le_refl _), hB⟩
  have d0 : W4.cell? ⟨w.heap.size, 0, none⟩ = some (.slice none 0 0) := hB.cell 0
  have d1 : W4.cell? ⟨w.heap.size, 1, none⟩ = some (.slice none 0 0) := hB.cell 1
  have g0 := hB.frozen 0; have g1 := hB.frozen 1
  clear hB hB4 hb4
  go_wp2
  obtain ⟨hF, hU⟩ := Blk.put2 H4.out.2 (.slice none 0 0) (.slice none 0 0)
  have hbl := hU.below H4.out.1 H4.out.1.size (Nat.le_refl _)
  exact bodyPost_ret (results_blk2 rfl rfl hF Try.underlying24 rfl Try.sizePt rfl) rfl ⟨rfl, hbl⟩
end Go.Proofs.Ytkdclocjijmgpaa
/-
  The numbers of the page's examples. (wip/mku32.py)
-/
namespace Go.Proofs.Ytkdclocjijmgpaa
open Go.RowKit
set_option maxRecDepth 100000
theorem inv_one {p z g h : Nat} (hg : g < p) (hh : h < p) (eg : z * g % p = 1 % p) (eh : z * h % p = 1 % p) : g = h := by
  have e1 : z * g * h % p = h := by rw [Nat.mul_mod, eg, ← Nat.mul_mod, Nat.one_mul, Nat.mod_eq_of_lt hh]
  have e2 : z * h * g % p = g := by rw [Nat.mul_mod, eh, ← Nat.mul_mod, Nat.one_mul, Nat.mod_eq_of_lt hg]
  rw [Nat.mul_right_comm] at e1
  exact e2.symm.trans e1
def exT : Nat × Nat × Nat := (69923961955967387994258645329874512676251231789611885617885350872868369909519, 29468416531536242154810423193772930342200868632530199947817229236472112149969, 72268501913499591597170255839175763913222213345970030143754396507136828810218)
def exG : Nat := 56574125023949875979384902335110527424677819735484098786822054576870411640858
def exX : Nat := 56515219790691171413109057904011688695424810155802929973526481321309856242040
def exY : Nat := 3377031843712258259223711451491452598088675519751548567112458094635497583569
theorem exT_eq : mixA c256 [] [2] (lim c256.gx) (lim c256.gy) = exT := by
  unfold mixA
  rw [lim256gx, lim256gy]
  decide +kernel
theorem exT_gcd : Nat.gcd exT.2.2 c256.p = 1 := by decide +kernel
theorem ex_on : onB c256.p c256.b (lim c256.gx) (lim c256.gy) = true := by rw [lim256gx, lim256gy]; decide +kernel
theorem ex_on2 : onB c384.p c384.b (lim c384.gx) (lim c384.gy) = true := by rw [lim384gx, lim384gy]; decide +kernel
theorem exj {X Y : Nat} (h : jpt c256.p exT X Y) : X = exX ∧ Y = exY := by
  rcases h with ⟨h0, _⟩ | ⟨_, g, hg, hz, rfl, rfl⟩
  · exact absurd h0 (by decide +kernel)
  · have e : g = exG := inv_one (z := exT.2.2) hg (by decide +kernel) hz (by decide +kernel)
    subst e
    exact ⟨by decide +kernel, by decide +kernel⟩
theorem exX_lim : lim exX = [1197906296, 2785757436, 2012355381, 3230231010, 78977731, 2320644099, 2365804414, 2096266008] := lim_of_val _ (by decide +kernel) (by decide +kernel) (by decide +kernel)
theorem exY_lim : lim exY = [578319313, 2651109277, 1021936169, 3128798694, 2675192027, 691903174, 3683569728, 125261072] := lim_of_val _ (by decide +kernel) (by decide +kernel) (by decide +kernel)
theorem ex_on3 : onC 1 (lim exX) (lim exY) = true := by
  rw [exX_lim, exY_lim]; decide +kernel
def exN : Nat := 31076295234905449226732288810623505625791886221604131073239087501765218571612451104608622327865990668783520461484448
theorem exN_eq : fsb c384.p 0 c384.gy = exN := by decide +kernel
theorem exN_lim : lim exN = [1863709088, 2243748484, 3800137314, 4120858160, 1242515262, 371576556, 3613780867, 118219330, 1835869142, 2724292416, 1775883152, 3387433397] := lim_of_val _ (by decide +kernel) (by decide +kernel) (by decide +kernel)
theorem ex_on4 : onB c384.p c384.b (lim c384.gx) (lim exN) = true := by rw [lim384gx, exN_lim]; decide +kernel
theorem exS : jsm c384.p (triB (lim c384.gx) (lim exN)) (triB (lim c384.gx) (lim c384.gy)) = (0, 0, 0) := by rw [lim384gx, exN_lim, lim384gy]; decide +kernel
theorem exj0 {p X Y : Nat} (h : jpt p (0, 0, 0) X Y) : X = 0 ∧ Y = 0 := by
  rcases h with ⟨_, h1, h2⟩ | ⟨h0, _⟩
  · exact ⟨h1, h2⟩
  · exact absurd rfl h0
end Go.Proofs.Ytkdclocjijmgpaa
