/-
  Curve: asked, where one of its points is not on the curve. (wip/mkh36.py)
-/
import Derived.OpenShut
import Derived.Test.YtkdclocjijmgpaaK34
namespace Go.Proofs.Ytkdclocjijmgpaa
open Go.RowKit
set_option maxRecDepth 20000
set_option maxHeartbeats 4000000 in
theorem asked_off2a {w : World} (c : Int) (C : Cv) (hc : crv c = some C)  (bp : Nat) (Tp : TypeId) (vx0 vy0 : Value) (X0 Y0 : List Int) (vx1 vy1 : Value) (X1 Y1 : List Int) (hP : Blk Tp w bp [vx0, vy0, vx1, vy1]) (hX0 : Sl .u32 w vx0 X0) (hY0 : Sl .u32 w vy0 Y0) (uX0 : U32s X0) (uY0 : U32s Y0) (lX0 : X0.length ≤ 1000000) (lY0 : Y0.length ≤ 1000000) (ho0 : onB C.p C.b X0 Y0 = false) (hX1 : Sl .u32 w vx1 X1) (hY1 : Sl .u32 w vy1 Y1) :
    Calls Try.prog 24 #[.int .i64 c, .slice none 0 0, .slice (some ⟨bp, 0, none⟩) 2 2] w fun e w' => e = .returned (.tuple #[.agg kz.toArray, .int .i64 90]) ∧ Below w.heap.size w w' := by
  obtain ⟨xa0, xc0, rfl⟩ : ∃ a c, vx0 = .slice a X0.length c := by obtain ⟨a, c, h1, _⟩ := hX0; exact ⟨a, c, h1⟩
  obtain ⟨ya0, yc0, rfl⟩ : ∃ a c, vy0 = .slice a Y0.length c := by obtain ⟨a, c, h1, _⟩ := hY0; exact ⟨a, c, h1⟩
  obtain ⟨xn0, hxn0⟩ : ∃ n, X0.length = n := ⟨_, rfl⟩
  obtain ⟨yn0, hyn0⟩ : ∃ n, Y0.length = n := ⟨_, rfl⟩
  rw [hxn0, hyn0] at hP; rw [hxn0] at hX0; rw [hyn0] at hY0
  obtain ⟨xa1, xc1, rfl⟩ : ∃ a c, vx1 = .slice a X1.length c := by obtain ⟨a, c, h1, _⟩ := hX1; exact ⟨a, c, h1⟩
  obtain ⟨ya1, yc1, rfl⟩ : ∃ a c, vy1 = .slice a Y1.length c := by obtain ⟨a, c, h1, _⟩ := hY1; exact ⟨a, c, h1⟩
  obtain ⟨xn1, hxn1⟩ : ∃ n, X1.length = n := ⟨_, rfl⟩
  obtain ⟨yn1, hyn1⟩ : ∃ n, Y1.length = n := ⟨_, rfl⟩
  rw [hxn1, hyn1] at hP; rw [hxn1] at hX1; rw [hyn1] at hY1
  have HX0 : Hid (∀ W f rb v0 v2 v4 v5, Below w.heap.size w W → Fld W f C.p → Nb W rb C.b → Calls Try.prog 46 #[.agg #[v0, f, v2, rb, v4, v5], .agg #[(.slice xa0 xn0 xc0), (.slice ya0 yn0 yc0)]] W fun e w' => e = .returned (.bool false) ∧ Below W.heap.size W w') := fun W f rb v0 v2 v4 v5 hW hf hb => ho0 ▸ Kon v0 f v2 rb v4 v5 (.slice xa0 xn0 xc0) (.slice ya0 yn0 yc0) C.p C.b X0 Y0 hf hb (crv_ok hc).2.2.1 (below_sl hW hX0) (below_sl hW hY0) uX0 uY0 lX0 lY0
  have HP : Hid (∀ W, Below w.heap.size w W → Blk Tp W bp [(.slice xa0 xn0 xc0), (.slice ya0 yn0 yc0), (.slice xa1 xn1 xc1), (.slice ya1 yn1 yc1)]) := fun W hW => below_blk hW hP.lt hP
  have HK : Hid (0 < C.p ∧ C.p < 4294967296 ^ 12) := ⟨(crv_ok hc).1, (crv_ok hc).2.1⟩
  clear hxn0 hyn0 hX0 hY0 uX0 uY0 lX0 lY0 ho0 hxn1 hyn1 hX1 hY1 hP
  go_enter Try.func24, Try.ntmps24
  go_wp2_with fail
  refine (pick_yes c C hc).mono ?_
  rintro e w3 ⟨s, a1, n1, c1, a2, n2, c2, a3, n3, c3, a4, n4, c4, a5, n5, c5, rfl, hk, hb3⟩
  have H3 : Hid (Below w.heap.size w w3 ∧ KindS w3 s a1 n1 c1 a2 n2 c2 a3 n3 c3 a4 n4 c4 a5 n5 c5 C ∧ Blk 53 w3 w.heap.size kz) := ⟨below_via (al1 _) hb3 (Nat.le_refl _), hk, below_blk hb3 (newKd w).lt (newKd w)⟩
  clear hb3 hc hk
  go_upto_region 2 with (fail)
  refine wp_gen (fun W => Blk 53 W w3.heap.size [.int .i64 s, .slice a1 n1 c1, .slice a2 n2 c2, .slice a3 n3 c3, .slice a4 n4 c4, .slice a5 n5 c5] ∧ Below w3.heap.size w3 W) ⟨Blk.new _ _ _, al1 _⟩ ?_
  rintro W4 ⟨hB4, hb4⟩
  have H4 : Hid (Below w.heap.size w W4 ∧ KindS W4 s a1 n1 c1 a2 n2 c2 a3 n3 c3 a4 n4 c4 a5 n5 c5 C ∧ Blk 53 W4 w.heap.size kz ∧ Blk 53 W4 w3.heap.size [.int .i64 s, .slice a1 n1 c1, .slice a2 n2 c2, .slice a3 n3 c3, .slice a4 n4 c4, .slice a5 n5 c5]) := ⟨below_via H3.out.1 hb4 (Nat.le_refl _), H3.out.2.1.below hb4, below_blk hb4 H3.out.2.2.lt H3.out.2.2, hB4⟩
  clear hb4 hB4
  go_wp2
  refine wp_loop_rounds 1 ?_
  rw [rounds_succ]
  go_wp2
  refine wp_loop_rounds 3 ?_
  rw [rounds_succ]
  have p0 : W4.cell? ⟨bp, 0, none⟩ = some (.slice xa0 xn0 xc0) := (HP.out _ H4.out.1).cell 0
  have p1 : W4.cell? ⟨bp, 1, none⟩ = some (.slice ya0 yn0 yc0) := (HP.out _ H4.out.1).cell 1
  go_upto_region 13 with (fail)
  refine wp_gen (fun W => Blk 24 W W4.heap.size [(.slice xa0 xn0 xc0), (.slice ya0 yn0 yc0)] ∧ Below W4.heap.size W4 W) ⟨Blk.new _ _ _, al1 _⟩ ?_
  rintro V0 ⟨hB, hb⟩
  have J0 : Hid (Below w.heap.size w V0 ∧ KindS V0 s a1 n1 c1 a2 n2 c2 a3 n3 c3 a4 n4 c4 a5 n5 c5 C ∧ Blk 53 V0 w.heap.size kz ∧ Blk 53 V0 w3.heap.size [.int .i64 s, .slice a1 n1 c1, .slice a2 n2 c2, .slice a3 n3 c3, .slice a4 n4 c4, .slice a5 n5 c5] ∧ Below W4.heap.size W4 V0) := ⟨below_via H4.out.1 hb (Nat.le_refl _), H4.out.2.1.below hb, below_blk hb H4.out.2.2.1.lt H4.out.2.2.1, below_blk hb H4.out.2.2.2.lt H4.out.2.2.2, hb⟩
  have k0 : V0.cell? ⟨w3.heap.size, 0, none⟩ = some (.int .i64 s) := J0.out.2.2.2.1.cell 0
  have k1 : V0.cell? ⟨w3.heap.size, 1, none⟩ = some (.slice a1 n1 c1) := J0.out.2.2.2.1.cell 1
  have k2 : V0.cell? ⟨w3.heap.size, 2, none⟩ = some (.slice a2 n2 c2) := J0.out.2.2.2.1.cell 2
  have k3 : V0.cell? ⟨w3.heap.size, 3, none⟩ = some (.slice a3 n3 c3) := J0.out.2.2.2.1.cell 3
  have k4 : V0.cell? ⟨w3.heap.size, 4, none⟩ = some (.slice a4 n4 c4) := J0.out.2.2.2.1.cell 4
  have k5 : V0.cell? ⟨w3.heap.size, 5, none⟩ = some (.slice a5 n5 c5) := J0.out.2.2.2.1.cell 5
  have q0 : V0.cell? ⟨W4.heap.size, 0, none⟩ = some (.slice xa0 xn0 xc0) := hB.cell 0
  have q1 : V0.cell? ⟨W4.heap.size, 1, none⟩ = some (.slice ya0 yn0 yc0) := hB.cell 1
  clear p0 p1 hB hb
  go_wp2_with fail
  refine (HX0.out _ _ _ _ _ _ _ J0.out.1 ⟨J0.out.2.1.2.1, HK.out.1, HK.out.2⟩ J0.out.2.1.2.2.2.1).mono ?_
  rintro e y0 ⟨rfl, hb⟩
  have L0 : Hid (Below w.heap.size w y0 ∧ KindS y0 s a1 n1 c1 a2 n2 c2 a3 n3 c3 a4 n4 c4 a5 n5 c5 C ∧ Blk 53 y0 w.heap.size kz ∧ Blk 53 y0 w3.heap.size [.int .i64 s, .slice a1 n1 c1, .slice a2 n2 c2, .slice a3 n3 c3, .slice a4 n4 c4, .slice a5 n5 c5] ∧ True) := ⟨below_via J0.out.1 hb (Nat.le_refl _), J0.out.2.1.below hb, below_blk hb J0.out.2.2.1.lt J0.out.2.2.1, below_blk hb J0.out.2.2.2.1.lt J0.out.2.2.2.1, trivial⟩
  clear hb q0 q1 k0 k1 k2 k3 k4 k5
  have d0 : y0.cell? ⟨w.heap.size, 0, none⟩ = some (.int .i64 0) := L0.out.2.2.1.cell 0
  have g0 : y0.frozen? ⟨w.heap.size, 0, none⟩ = false := L0.out.2.2.1.frozen 0
  have d1 : y0.cell? ⟨w.heap.size, 1, none⟩ = some (.slice none 0 0) := L0.out.2.2.1.cell 1
  have g1 : y0.frozen? ⟨w.heap.size, 1, none⟩ = false := L0.out.2.2.1.frozen 1
  have d2 : y0.cell? ⟨w.heap.size, 2, none⟩ = some (.slice none 0 0) := L0.out.2.2.1.cell 2
  have g2 : y0.frozen? ⟨w.heap.size, 2, none⟩ = false := L0.out.2.2.1.frozen 2
  have d3 : y0.cell? ⟨w.heap.size, 3, none⟩ = some (.slice none 0 0) := L0.out.2.2.1.cell 3
  have g3 : y0.frozen? ⟨w.heap.size, 3, none⟩ = false := L0.out.2.2.1.frozen 3
  have d4 : y0.cell? ⟨w.heap.size, 4, none⟩ = some (.slice none 0 0) := L0.out.2.2.1.cell 4
  have g4 : y0.frozen? ⟨w.heap.size, 4, none⟩ = false := L0.out.2.2.1.frozen 4
  have d5 : y0.cell? ⟨w.heap.size, 5, none⟩ = some (.slice none 0 0) := L0.out.2.2.1.cell 5
  have g5 : y0.frozen? ⟨w.heap.size, 5, none⟩ = false := L0.out.2.2.1.frozen 5
  go_wp2
  obtain ⟨hF, hU⟩ := Blk.put6 L0.out.2.2.1 (.int .i64 0) (.slice none 0 0) (.slice none 0 0) (.slice none 0 0) (.slice none 0 0) (.slice none 0 0)
  exact bodyPost_ret (results_blk2 rfl rfl hF Try.underlying53 rfl Try.sizeKd rfl) rfl ⟨rfl, hU.below L0.out.1 L0.out.1.size (Nat.le_refl _)⟩
set_option maxHeartbeats 4000000 in
theorem asked_off2b {w : World} (c : Int) (C : Cv) (hc : crv c = some C)  (bp : Nat) (Tp : TypeId) (vx0 vy0 : Value) (X0 Y0 : List Int) (vx1 vy1 : Value) (X1 Y1 : List Int) (hP : Blk Tp w bp [vx0, vy0, vx1, vy1]) (hX0 : Sl .u32 w vx0 X0) (hY0 : Sl .u32 w vy0 Y0) (uX0 : U32s X0) (uY0 : U32s Y0) (lX0 : X0.length ≤ 1000000) (lY0 : Y0.length ≤ 1000000) (ho0 : onB C.p C.b X0 Y0 = true) (hX1 : Sl .u32 w vx1 X1) (hY1 : Sl .u32 w vy1 Y1) (uX1 : U32s X1) (uY1 : U32s Y1) (lX1 : X1.length ≤ 1000000) (lY1 : Y1.length ≤ 1000000) (ho1 : onB C.p C.b X1 Y1 = false) :
    Calls Try.prog 24 #[.int .i64 c, .slice none 0 0, .slice (some ⟨bp, 0, none⟩) 2 2] w fun e w' => e = .returned (.tuple #[.agg kz.toArray, .int .i64 90]) ∧ Below w.heap.size w w' := by
  obtain ⟨xa0, xc0, rfl⟩ : ∃ a c, vx0 = .slice a X0.length c := by obtain ⟨a, c, h1, _⟩ := hX0; exact ⟨a, c, h1⟩
  obtain ⟨ya0, yc0, rfl⟩ : ∃ a c, vy0 = .slice a Y0.length c := by obtain ⟨a, c, h1, _⟩ := hY0; exact ⟨a, c, h1⟩
  obtain ⟨xn0, hxn0⟩ : ∃ n, X0.length = n := ⟨_, rfl⟩
  obtain ⟨yn0, hyn0⟩ : ∃ n, Y0.length = n := ⟨_, rfl⟩
  rw [hxn0, hyn0] at hP; rw [hxn0] at hX0; rw [hyn0] at hY0
  obtain ⟨xa1, xc1, rfl⟩ : ∃ a c, vx1 = .slice a X1.length c := by obtain ⟨a, c, h1, _⟩ := hX1; exact ⟨a, c, h1⟩
  obtain ⟨ya1, yc1, rfl⟩ : ∃ a c, vy1 = .slice a Y1.length c := by obtain ⟨a, c, h1, _⟩ := hY1; exact ⟨a, c, h1⟩
  obtain ⟨xn1, hxn1⟩ : ∃ n, X1.length = n := ⟨_, rfl⟩
  obtain ⟨yn1, hyn1⟩ : ∃ n, Y1.length = n := ⟨_, rfl⟩
  rw [hxn1, hyn1] at hP; rw [hxn1] at hX1; rw [hyn1] at hY1
  have HX0 : Hid (∀ W f rb v0 v2 v4 v5, Below w.heap.size w W → Fld W f C.p → Nb W rb C.b → Calls Try.prog 46 #[.agg #[v0, f, v2, rb, v4, v5], .agg #[(.slice xa0 xn0 xc0), (.slice ya0 yn0 yc0)]] W fun e w' => e = .returned (.bool true) ∧ Below W.heap.size W w') := fun W f rb v0 v2 v4 v5 hW hf hb => ho0 ▸ Kon v0 f v2 rb v4 v5 (.slice xa0 xn0 xc0) (.slice ya0 yn0 yc0) C.p C.b X0 Y0 hf hb (crv_ok hc).2.2.1 (below_sl hW hX0) (below_sl hW hY0) uX0 uY0 lX0 lY0
  have HX1 : Hid (∀ W f rb v0 v2 v4 v5, Below w.heap.size w W → Fld W f C.p → Nb W rb C.b → Calls Try.prog 46 #[.agg #[v0, f, v2, rb, v4, v5], .agg #[(.slice xa1 xn1 xc1), (.slice ya1 yn1 yc1)]] W fun e w' => e = .returned (.bool false) ∧ Below W.heap.size W w') := fun W f rb v0 v2 v4 v5 hW hf hb => ho1 ▸ Kon v0 f v2 rb v4 v5 (.slice xa1 xn1 xc1) (.slice ya1 yn1 yc1) C.p C.b X1 Y1 hf hb (crv_ok hc).2.2.1 (below_sl hW hX1) (below_sl hW hY1) uX1 uY1 lX1 lY1
  have HP : Hid (∀ W, Below w.heap.size w W → Blk Tp W bp [(.slice xa0 xn0 xc0), (.slice ya0 yn0 yc0), (.slice xa1 xn1 xc1), (.slice ya1 yn1 yc1)]) := fun W hW => below_blk hW hP.lt hP
  have HK : Hid (0 < C.p ∧ C.p < 4294967296 ^ 12) := ⟨(crv_ok hc).1, (crv_ok hc).2.1⟩
  clear hxn0 hyn0 hX0 hY0 uX0 uY0 lX0 lY0 ho0 hxn1 hyn1 hX1 hY1 uX1 uY1 lX1 lY1 ho1 hP
  go_enter Try.func24, Try.ntmps24
  go_wp2_with fail
  refine (pick_yes c C hc).mono ?_
  rintro e w3 ⟨s, a1, n1, c1, a2, n2, c2, a3, n3, c3, a4, n4, c4, a5, n5, c5, rfl, hk, hb3⟩
  have H3 : Hid (Below w.heap.size w w3 ∧ KindS w3 s a1 n1 c1 a2 n2 c2 a3 n3 c3 a4 n4 c4 a5 n5 c5 C ∧ Blk 53 w3 w.heap.size kz) := ⟨below_via (al1 _) hb3 (Nat.le_refl _), hk, below_blk hb3 (newKd w).lt (newKd w)⟩
  clear hb3 hc hk
  go_upto_region 2 with (fail)
  refine wp_gen (fun W => Blk 53 W w3.heap.size [.int .i64 s, .slice a1 n1 c1, .slice a2 n2 c2, .slice a3 n3 c3, .slice a4 n4 c4, .slice a5 n5 c5] ∧ Below w3.heap.size w3 W) ⟨Blk.new _ _ _, al1 _⟩ ?_
  rintro W4 ⟨hB4, hb4⟩
  have H4 : Hid (Below w.heap.size w W4 ∧ KindS W4 s a1 n1 c1 a2 n2 c2 a3 n3 c3 a4 n4 c4 a5 n5 c5 C ∧ Blk 53 W4 w.heap.size kz ∧ Blk 53 W4 w3.heap.size [.int .i64 s, .slice a1 n1 c1, .slice a2 n2 c2, .slice a3 n3 c3, .slice a4 n4 c4, .slice a5 n5 c5]) := ⟨below_via H3.out.1 hb4 (Nat.le_refl _), H3.out.2.1.below hb4, below_blk hb4 H3.out.2.2.lt H3.out.2.2, hB4⟩
  clear hb4 hB4
  go_wp2
  refine wp_loop_rounds 1 ?_
  rw [rounds_succ]
  go_wp2
  refine wp_loop_rounds 3 ?_
  rw [rounds_succ]
  have p0 : W4.cell? ⟨bp, 0, none⟩ = some (.slice xa0 xn0 xc0) := (HP.out _ H4.out.1).cell 0
  have p1 : W4.cell? ⟨bp, 1, none⟩ = some (.slice ya0 yn0 yc0) := (HP.out _ H4.out.1).cell 1
  go_upto_region 13 with (fail)
  refine wp_gen (fun W => Blk 24 W W4.heap.size [(.slice xa0 xn0 xc0), (.slice ya0 yn0 yc0)] ∧ Below W4.heap.size W4 W) ⟨Blk.new _ _ _, al1 _⟩ ?_
  rintro V0 ⟨hB, hb⟩
  have J0 : Hid (Below w.heap.size w V0 ∧ KindS V0 s a1 n1 c1 a2 n2 c2 a3 n3 c3 a4 n4 c4 a5 n5 c5 C ∧ Blk 53 V0 w.heap.size kz ∧ Blk 53 V0 w3.heap.size [.int .i64 s, .slice a1 n1 c1, .slice a2 n2 c2, .slice a3 n3 c3, .slice a4 n4 c4, .slice a5 n5 c5] ∧ Below W4.heap.size W4 V0) := ⟨below_via H4.out.1 hb (Nat.le_refl _), H4.out.2.1.below hb, below_blk hb H4.out.2.2.1.lt H4.out.2.2.1, below_blk hb H4.out.2.2.2.lt H4.out.2.2.2, hb⟩
  have k0 : V0.cell? ⟨w3.heap.size, 0, none⟩ = some (.int .i64 s) := J0.out.2.2.2.1.cell 0
  have k1 : V0.cell? ⟨w3.heap.size, 1, none⟩ = some (.slice a1 n1 c1) := J0.out.2.2.2.1.cell 1
  have k2 : V0.cell? ⟨w3.heap.size, 2, none⟩ = some (.slice a2 n2 c2) := J0.out.2.2.2.1.cell 2
  have k3 : V0.cell? ⟨w3.heap.size, 3, none⟩ = some (.slice a3 n3 c3) := J0.out.2.2.2.1.cell 3
  have k4 : V0.cell? ⟨w3.heap.size, 4, none⟩ = some (.slice a4 n4 c4) := J0.out.2.2.2.1.cell 4
  have k5 : V0.cell? ⟨w3.heap.size, 5, none⟩ = some (.slice a5 n5 c5) := J0.out.2.2.2.1.cell 5
  have q0 : V0.cell? ⟨W4.heap.size, 0, none⟩ = some (.slice xa0 xn0 xc0) := hB.cell 0
  have q1 : V0.cell? ⟨W4.heap.size, 1, none⟩ = some (.slice ya0 yn0 yc0) := hB.cell 1
  clear p0 p1 hB hb
  go_wp2_with fail
  refine (HX0.out _ _ _ _ _ _ _ J0.out.1 ⟨J0.out.2.1.2.1, HK.out.1, HK.out.2⟩ J0.out.2.1.2.2.2.1).mono ?_
  rintro e y0 ⟨rfl, hb⟩
  have L0 : Hid (Below w.heap.size w y0 ∧ KindS y0 s a1 n1 c1 a2 n2 c2 a3 n3 c3 a4 n4 c4 a5 n5 c5 C ∧ Blk 53 y0 w.heap.size kz ∧ Blk 53 y0 w3.heap.size [.int .i64 s, .slice a1 n1 c1, .slice a2 n2 c2, .slice a3 n3 c3, .slice a4 n4 c4, .slice a5 n5 c5] ∧ True) := ⟨below_via J0.out.1 hb (Nat.le_refl _), J0.out.2.1.below hb, below_blk hb J0.out.2.2.1.lt J0.out.2.2.1, below_blk hb J0.out.2.2.2.1.lt J0.out.2.2.2.1, trivial⟩
  clear hb q0 q1 k0 k1 k2 k3 k4 k5
  go_wp2
  rw [rounds_succ]
  have p0 : y0.cell? ⟨bp, 2, none⟩ = some (.slice xa1 xn1 xc1) := (HP.out _ L0.out.1).cell 2
  have p1 : y0.cell? ⟨bp, 3, none⟩ = some (.slice ya1 yn1 yc1) := (HP.out _ L0.out.1).cell 3
  go_upto_region 13 with (fail)
  refine wp_gen (fun W => Blk 24 W y0.heap.size [(.slice xa1 xn1 xc1), (.slice ya1 yn1 yc1)] ∧ Below y0.heap.size y0 W) ⟨Blk.new _ _ _, al1 _⟩ ?_
  rintro V1 ⟨hB, hb⟩
  have J1 : Hid (Below w.heap.size w V1 ∧ KindS V1 s a1 n1 c1 a2 n2 c2 a3 n3 c3 a4 n4 c4 a5 n5 c5 C ∧ Blk 53 V1 w.heap.size kz ∧ Blk 53 V1 w3.heap.size [.int .i64 s, .slice a1 n1 c1, .slice a2 n2 c2, .slice a3 n3 c3, .slice a4 n4 c4, .slice a5 n5 c5]) := ⟨below_via L0.out.1 hb (Nat.le_refl _), L0.out.2.1.below hb, below_blk hb L0.out.2.2.1.lt L0.out.2.2.1, below_blk hb L0.out.2.2.2.1.lt L0.out.2.2.2.1⟩
  have k0 : V1.cell? ⟨w3.heap.size, 0, none⟩ = some (.int .i64 s) := J1.out.2.2.2.cell 0
  have k1 : V1.cell? ⟨w3.heap.size, 1, none⟩ = some (.slice a1 n1 c1) := J1.out.2.2.2.cell 1
  have k2 : V1.cell? ⟨w3.heap.size, 2, none⟩ = some (.slice a2 n2 c2) := J1.out.2.2.2.cell 2
  have k3 : V1.cell? ⟨w3.heap.size, 3, none⟩ = some (.slice a3 n3 c3) := J1.out.2.2.2.cell 3
  have k4 : V1.cell? ⟨w3.heap.size, 4, none⟩ = some (.slice a4 n4 c4) := J1.out.2.2.2.cell 4
  have k5 : V1.cell? ⟨w3.heap.size, 5, none⟩ = some (.slice a5 n5 c5) := J1.out.2.2.2.cell 5
  have q0 : V1.cell? ⟨y0.heap.size, 0, none⟩ = some (.slice xa1 xn1 xc1) := hB.cell 0
  have q1 : V1.cell? ⟨y0.heap.size, 1, none⟩ = some (.slice ya1 yn1 yc1) := hB.cell 1
  clear p0 p1 hB hb
  go_wp2_with fail
  refine (HX1.out _ _ _ _ _ _ _ J1.out.1 ⟨J1.out.2.1.2.1, HK.out.1, HK.out.2⟩ J1.out.2.1.2.2.2.1).mono ?_
  rintro e y1 ⟨rfl, hb⟩
  have L1 : Hid (Below w.heap.size w y1 ∧ KindS y1 s a1 n1 c1 a2 n2 c2 a3 n3 c3 a4 n4 c4 a5 n5 c5 C ∧ Blk 53 y1 w.heap.size kz ∧ Blk 53 y1 w3.heap.size [.int .i64 s, .slice a1 n1 c1, .slice a2 n2 c2, .slice a3 n3 c3, .slice a4 n4 c4, .slice a5 n5 c5] ∧ True) := ⟨below_via J1.out.1 hb (Nat.le_refl _), J1.out.2.1.below hb, below_blk hb J1.out.2.2.1.lt J1.out.2.2.1, below_blk hb J1.out.2.2.2.lt J1.out.2.2.2, trivial⟩
  clear hb q0 q1 k0 k1 k2 k3 k4 k5
  have d0 : y1.cell? ⟨w.heap.size, 0, none⟩ = some (.int .i64 0) := L1.out.2.2.1.cell 0
  have g0 : y1.frozen? ⟨w.heap.size, 0, none⟩ = false := L1.out.2.2.1.frozen 0
  have d1 : y1.cell? ⟨w.heap.size, 1, none⟩ = some (.slice none 0 0) := L1.out.2.2.1.cell 1
  have g1 : y1.frozen? ⟨w.heap.size, 1, none⟩ = false := L1.out.2.2.1.frozen 1
  have d2 : y1.cell? ⟨w.heap.size, 2, none⟩ = some (.slice none 0 0) := L1.out.2.2.1.cell 2
  have g2 : y1.frozen? ⟨w.heap.size, 2, none⟩ = false := L1.out.2.2.1.frozen 2
  have d3 : y1.cell? ⟨w.heap.size, 3, none⟩ = some (.slice none 0 0) := L1.out.2.2.1.cell 3
  have g3 : y1.frozen? ⟨w.heap.size, 3, none⟩ = false := L1.out.2.2.1.frozen 3
  have d4 : y1.cell? ⟨w.heap.size, 4, none⟩ = some (.slice none 0 0) := L1.out.2.2.1.cell 4
  have g4 : y1.frozen? ⟨w.heap.size, 4, none⟩ = false := L1.out.2.2.1.frozen 4
  have d5 : y1.cell? ⟨w.heap.size, 5, none⟩ = some (.slice none 0 0) := L1.out.2.2.1.cell 5
  have g5 : y1.frozen? ⟨w.heap.size, 5, none⟩ = false := L1.out.2.2.1.frozen 5
  go_wp2
  obtain ⟨hF, hU⟩ := Blk.put6 L1.out.2.2.1 (.int .i64 0) (.slice none 0 0) (.slice none 0 0) (.slice none 0 0) (.slice none 0 0) (.slice none 0 0)
  exact bodyPost_ret (results_blk2 rfl rfl hF Try.underlying53 rfl Try.sizeKd rfl) rfl ⟨rfl, hU.below L1.out.1 L1.out.1.size (Nat.le_refl _)⟩
end Go.Proofs.Ytkdclocjijmgpaa
/-
  Curves: the program's Add, Neg where asked tells a fault.
-/
namespace Go.Proofs.Ytkdclocjijmgpaa
open Go.RowKit
set_option maxRecDepth 20000
set_option maxHeartbeats 4000000 in
theorem Add_bad {w : World} (c : Int) (xa : Option Addr) (xn xc : Nat) (ya : Option Addr) (yn yc : Nat) (ua : Option Addr) (un uc : Nat) (va : Option Addr) (vn vc : Nat) (n : Int) (hn : n = 1 ∨ n = 90)
    (hA : ∀ (W : World) b2 T2, Below w.heap.size w W → Blk T2 W b2 [.slice xa xn xc, .slice ya yn yc, .slice ua un uc, .slice va vn vc] → Calls Try.prog 24 #[.int .i64 c, .slice none 0 0, .slice (some ⟨b2, 0, none⟩) 2 2] W fun e w' => e = .returned (.tuple #[.agg kz.toArray, .int .i64 n]) ∧ Below W.heap.size W w') :
    Calls Try.prog 8 #[.int .i64 c, .agg #[.slice xa xn xc, .slice ya yn yc], .agg #[.slice ua un uc, .slice va vn vc]] w fun e w' => e = .returned (.tuple #[.agg #[.slice none 0 0, .slice none 0 0], .int .i64 n]) ∧ Below w.heap.size w w' := by
  have HS : Hid (∀ (W : World) b2 T2, Below w.heap.size w W → Blk T2 W b2 [.slice xa xn xc, .slice ya yn yc, .slice ua un uc, .slice va vn vc] → Calls Try.prog 24 #[.int .i64 c, .slice none 0 0, .slice (some ⟨b2, 0, none⟩) 2 2] W fun e w' => e = .returned (.tuple #[.agg kz.toArray, .int .i64 n]) ∧ Below W.heap.size W w') := hA
  have hn0 : (n != 0) = true := by rcases hn with rfl | rfl <;> rfl
  clear hA hn
  go_enter Try.func8, Try.ntmps8
  go_upto_region 1 with (first | (refine wpList_boxR rfl 24 (.tmp 1) rfl #[.slice xa xn xc, .slice ya yn yc] rfl ?_) | (refine wpList_boxR rfl 24 (.tmp 2) rfl #[.slice ua un uc, .slice va vn vc] rfl ?_))
  refine wp_gen (fun W => Blk 24 W w.heap.size [.slice xa xn xc, .slice ya yn yc] ∧ Blk 24 W (w.heap.size + 1) [.slice ua un uc, .slice va vn vc] ∧ Blk 24 W (w.heap.size + 1 + 1) [.slice none 0 0, .slice none 0 0] ∧ Below w.heap.size w W) ?_ ?_
  · have x2 := Blk.new 24 (w.alloc (.cells #[.slice xa xn xc, .slice ya yn yc] 24)) [.slice ua un uc, .slice va vn vc]
    have x3 := Blk.new 24 ((w.alloc (.cells #[.slice xa xn xc, .slice ya yn yc] 24)).alloc (.cells #[.slice ua un uc, .slice va vn vc] 24)) [.slice none 0 0, .slice none 0 0]
    rw [World.size_alloc] at x2
    rw [World.size_alloc, World.size_alloc] at x3
    exact ⟨below_blk (al1 _) (by simp only [World.size_alloc]; omega) (below_blk (al1 _) (by simp only [World.size_alloc]; omega) (Blk.new _ _ _)), below_blk (al1 _) (by simp only [World.size_alloc]; omega) x2, x3, below_via (below_via (al1 _) (al1 _) (Nat.le_refl _)) (al1 _) (Nat.le_refl _)⟩
  rintro W2 ⟨hB, hB2, hR, hBw⟩
  have H2 : Hid (Below w.heap.size w W2 ∧ Blk 24 W2 (w.heap.size + 1 + 1) [.slice none 0 0, .slice none 0 0]) := ⟨hBw, hR⟩
  have p0 : W2.cell? ⟨w.heap.size, 0, none⟩ = some (.slice xa xn xc) := hB.cell 0
  have p1 : W2.cell? ⟨w.heap.size, 1, none⟩ = some (.slice ya yn yc) := hB.cell 1
  have p2 : W2.cell? ⟨w.heap.size + 1, 0, none⟩ = some (.slice ua un uc) := hB2.cell 0
  have p3 : W2.cell? ⟨w.heap.size + 1, 1, none⟩ = some (.slice va vn vc) := hB2.cell 1
  clear hB hB2 hR hBw
  go_wp2_with fail
  refine (HS.out _ W2.heap.size 24 (below_via H2.out.1 (al1 _) (Nat.le_refl _)) (Blk.new _ W2 _)).mono ?_
  rintro e w3 ⟨rfl, hb3⟩
  have hb23 : Below W2.heap.size W2 w3 := below_via (al1 _) hb3 (Nat.le_refl _)
  have H3 : Hid (Below w.heap.size w w3 ∧ Blk 24 w3 (w.heap.size + 1 + 1) [.slice none 0 0, .slice none 0 0]) := ⟨below_via H2.out.1 hb23 (Nat.le_refl _), below_blk hb23 H2.out.2.lt H2.out.2⟩
  clear hb3 hb23 p0 p1 p2 p3 HS
  unfold kz
  go_upto_region 2 with (fail)
  refine wp_gen (fun W => Below w3.heap.size w3 W) (al1 _) ?_
  rintro W4 hb4
  have H4 : Hid (Below w.heap.size w W4 ∧ Blk 24 W4 (w.heap.size + 1 + 1) [.slice none 0 0, .slice none 0 0]) := ⟨below_via H3.out.1 hb4 (Nat.le_refl _), below_blk hb4 H3.out.2.lt H3.out.2⟩
  clear hb4
  have q0 : W4.cell? ⟨w.heap.size + 1 + 1, 0, none⟩ = some (.slice none 0 0) := H4.out.2.cell 0
  have q1 : W4.cell? ⟨w.heap.size + 1 + 1, 1, none⟩ = some (.slice none 0 0) := H4.out.2.cell 1
  have g0 : W4.frozen? ⟨w.heap.size + 1 + 1, 0, none⟩ = false := H4.out.2.frozen 0
  have g1 : W4.frozen? ⟨w.heap.size + 1 + 1, 1, none⟩ = false := H4.out.2.frozen 1
  go_wp2
  obtain ⟨hF, hU⟩ := Blk.put2 H4.out.2 (.slice none 0 0) (.slice none 0 0)
  exact bodyPost_ret (results_blk2 rfl rfl hF Try.underlying24 rfl Try.sizePt rfl) rfl ⟨rfl, hU.below H4.out.1 H4.out.1.size (by omega)⟩
set_option maxHeartbeats 4000000 in
theorem Neg_bad {w : World} (c : Int) (xa : Option Addr) (xn xc : Nat) (ya : Option Addr) (yn yc : Nat) (n : Int) (hn : n = 1 ∨ n = 90)
    (hA : ∀ (W : World) b2 T2, Below w.heap.size w W → Blk T2 W b2 [.slice xa xn xc, .slice ya yn yc] → Calls Try.prog 24 #[.int .i64 c, .slice none 0 0, .slice (some ⟨b2, 0, none⟩) 1 1] W fun e w' => e = .returned (.tuple #[.agg kz.toArray, .int .i64 n]) ∧ Below W.heap.size W w') :
    Calls Try.prog 10 #[.int .i64 c, .agg #[.slice xa xn xc, .slice ya yn yc]] w fun e w' => e = .returned (.tuple #[.agg #[.slice none 0 0, .slice none 0 0], .int .i64 n]) ∧ Below w.heap.size w w' := by
  have HS : Hid (∀ (W : World) b2 T2, Below w.heap.size w W → Blk T2 W b2 [.slice xa xn xc, .slice ya yn yc] → Calls Try.prog 24 #[.int .i64 c, .slice none 0 0, .slice (some ⟨b2, 0, none⟩) 1 1] W fun e w' => e = .returned (.tuple #[.agg kz.toArray, .int .i64 n]) ∧ Below W.heap.size W w') := hA
  have hn0 : (n != 0) = true := by rcases hn with rfl | rfl <;> rfl
  clear hA hn
  go_enter Try.func10, Try.ntmps10
  go_upto_region 1 with (refine wpList_boxR rfl 24 (.tmp 1) rfl #[.slice xa xn xc, .slice ya yn yc] rfl ?_)
  refine wp_gen (fun W => Blk 24 W w.heap.size [.slice xa xn xc, .slice ya yn yc] ∧ Blk 24 W (w.heap.size + 1) [.slice none 0 0, .slice none 0 0] ∧ Below w.heap.size w W) ?_ ?_
  · have x2 := Blk.new 24 (w.alloc (.cells #[.slice xa xn xc, .slice ya yn yc] 24)) [.slice none 0 0, .slice none 0 0]
    rw [World.size_alloc] at x2
    exact ⟨below_blk (al1 _) (by simp only [World.size_alloc]; omega) (Blk.new _ _ _), x2, below_via (al1 _) (al1 _) (Nat.le_refl _)⟩
  rintro W2 ⟨hB, hR, hBw⟩
  have H2 : Hid (Below w.heap.size w W2 ∧ Blk 24 W2 (w.heap.size + 1) [.slice none 0 0, .slice none 0 0]) := ⟨hBw, hR⟩
  have p0 : W2.cell? ⟨w.heap.size, 0, none⟩ = some (.slice xa xn xc) := hB.cell 0
  have p1 : W2.cell? ⟨w.heap.size, 1, none⟩ = some (.slice ya yn yc) := hB.cell 1
  clear hB hR hBw
  go_wp2_with fail
  refine (HS.out _ W2.heap.size 24 (below_via H2.out.1 (al1 _) (Nat.le_refl _)) (Blk.new _ W2 _)).mono ?_
  rintro e w3 ⟨rfl, hb3⟩
  have hb23 : Below W2.heap.size W2 w3 := below_via (al1 _) hb3 (Nat.le_refl _)
  have H3 : Hid (Below w.heap.size w w3 ∧ Blk 24 w3 (w.heap.size + 1) [.slice none 0 0, .slice none 0 0]) := ⟨below_via H2.out.1 hb23 (Nat.le_refl _), below_blk hb23 H2.out.2.lt H2.out.2⟩
  clear hb3 hb23 p0 p1 HS
  unfold kz
  go_upto_region 2 with (fail)
  refine wp_gen (fun W => Below w3.heap.size w3 W) (al1 _) ?_
  rintro W4 hb4
  have H4 : Hid (Below w.heap.size w W4 ∧ Blk 24 W4 (w.heap.size + 1) [.slice none 0 0, .slice none 0 0]) := ⟨below_via H3.out.1 hb4 (Nat.le_refl _), below_blk hb4 H3.out.2.lt H3.out.2⟩
  clear hb4
  have q0 : W4.cell? ⟨w.heap.size + 1, 0, none⟩ = some (.slice none 0 0) := H4.out.2.cell 0
  have q1 : W4.cell? ⟨w.heap.size + 1, 1, none⟩ = some (.slice none 0 0) := H4.out.2.cell 1
  have g0 : W4.frozen? ⟨w.heap.size + 1, 0, none⟩ = false := H4.out.2.frozen 0
  have g1 : W4.frozen? ⟨w.heap.size + 1, 1, none⟩ = false := H4.out.2.frozen 1
  go_wp2
  obtain ⟨hF, hU⟩ := Blk.put2 H4.out.2 (.slice none 0 0) (.slice none 0 0)
  exact bodyPost_ret (results_blk2 rfl rfl hF Try.underlying24 rfl Try.sizePt rfl) rfl ⟨rfl, hU.below H4.out.1 H4.out.1.size (by omega)⟩
end Go.Proofs.Ytkdclocjijmgpaa
/-
  Curves: a point and an error are told.
-/
namespace Go.Proofs.Ytkdclocjijmgpaa
open Go.RowKit
/-- A point and an error are told. -/
def PtE (w : World) (x y : Nat) (er : Int) (e : Ending) (w' : World) : Prop := ∃ a n k b m l, e = .returned (.tuple #[.agg #[.slice a n k, .slice b m l], .int .i64 er]) ∧ Nb w' (.slice a n k) x ∧ Nb w' (.slice b m l) y ∧ Below w.heap.size w w'
theorem nb_nil (w : World) : Nb w (.slice none 0 0) 0 := by
  have h0 : lim 0 = [] := List.eq_nil_of_length_eq_zero (lim0.2 rfl)
  unfold Nb
  rw [h0]
  exact ⟨none, 0, rfl, Nat.le_refl _, .inl rfl⟩
theorem PtE.bad {w w' : World} {er : Int} {e : Ending} (h : e = .returned (.tuple #[.agg #[.slice none 0 0, .slice none 0 0], .int .i64 er]) ∧ Below w.heap.size w w') : PtE w 0 0 er e w' := ⟨_, _, _, _, _, _, h.1, nb_nil _, nb_nil _, h.2⟩
theorem PtE.sv {w w' : World} {er : Int} {e : Ending} {x y : Nat} (h : ∃ b : SV × SV, e = .returned (.tuple #[.agg #[sv b.1, sv b.2], .int .i64 er]) ∧ (Nb w' (sv b.1) x ∧ Nb w' (sv b.2) y) ∧ Below w.heap.size w w') : PtE w x y er e w' := by
  obtain ⟨b, h1, h2, h3⟩ := h
  exact ⟨_, _, _, _, _, _, h1, h2.1, h2.2, h3⟩
end Go.Proofs.Ytkdclocjijmgpaa
/-
  Curves: Add, Neg of both sides, whatever they are asked.
-/
namespace Go.Proofs.Ytkdclocjijmgpaa
open Go.RowKit Gl
set_option maxRecDepth 20000
theorem Adds_ans {w : World} (c : Int) (xa : Option Addr) (xn xc : Nat) (ya : Option Addr) (yn yc : Nat) (ua : Option Addr) (un uc : Nat) (va : Option Addr) (vn vc : Nat) (X Y U V : List Int) (hX : Sl .u32 w (.slice xa xn xc) X) (hY : Sl .u32 w (.slice ya yn yc) Y) (uX : U32s X) (uY : U32s Y) (lX : X.length ≤ 1000000) (lY : Y.length ≤ 1000000) (hU : Sl .u32 w (.slice ua un uc) U) (hV : Sl .u32 w (.slice va vn vc) V) (uU : U32s U) (uV : U32s V) (lU : U.length ≤ 1000000) (lV : V.length ≤ 1000000) :
    ∃ (x y : Nat) (er : Int), x < 4294967296 ^ 12 ∧ y < 4294967296 ^ 12 ∧ (∀ W, Below w.heap.size w W → Calls Try.prog 8 #[.int .i64 c, .agg #[.slice xa xn xc, .slice ya yn yc], .agg #[.slice ua un uc, .slice va vn vc]] W (PtE W x y er)) ∧ (∀ W, Below w.heap.size w W → Calls Try.prog 9 #[.int .i64 c, .agg #[.slice xa xn xc, .slice ya yn yc], .agg #[.slice ua un uc, .slice va vn vc]] W (PtE W x y er)) := by
  cases hc : crv c with
  | none =>
    refine ⟨0, 0, 1, by decide, by decide, fun W hW => ?_, fun W hW => ?_⟩
    · exact (Add_bad c xa xn xc ya yn yc ua un uc va vn vc 1 (.inl rfl) fun W' b2 T2 _ _ => asked_no c hc _ _).mono fun e w' h => PtE.bad h
    · exact (RAdd_bad c xa xn xc ya yn yc X Y (below_sl hW hX) (below_sl hW hY) uX uY lX lY ua un uc va vn vc U V (below_sl hW hU) (below_sl hW hV) uU uV lU lV 1 (by unfold askR; rw [hc]) (by decide)).mono fun e w' h => PtE.bad h
  | some C =>
    obtain ⟨hz, g⟩ := crv_cok hc
    have eo1 : onC c X Y = onB C.p C.b X Y := by unfold onC; rw [hc]
    have eo2 : onC c U V = onB C.p C.b U V := by unfold onC; rw [hc]
    cases h1 : onC c X Y with
    | false =>
      refine ⟨0, 0, 90, by decide, by decide, fun W hW => ?_, fun W hW => ?_⟩
      · exact (Add_bad c xa xn xc ya yn yc ua un uc va vn vc 90 (.inr rfl) fun W' b2 T2 hW' hB => asked_off2a c C hc b2 T2 _ _ X Y _ _ U V hB (below_sl hW' (below_sl hW hX)) (below_sl hW' (below_sl hW hY)) uX uY lX lY (eo1 ▸ h1) (below_sl hW' (below_sl hW hU)) (below_sl hW' (below_sl hW hV))).mono fun e w' h => PtE.bad h
      · exact (RAdd_bad c xa xn xc ya yn yc X Y (below_sl hW hX) (below_sl hW hY) uX uY lX lY ua un uc va vn vc U V (below_sl hW hU) (below_sl hW hV) uU uV lU lV 90 (by unfold askR; rw [hc, h1]; simp) (by decide)).mono fun e w' h => PtE.bad h
    | true =>
      cases h2 : onC c U V with
      | false =>
        refine ⟨0, 0, 90, by decide, by decide, fun W hW => ?_, fun W hW => ?_⟩
        · exact (Add_bad c xa xn xc ya yn yc ua un uc va vn vc 90 (.inr rfl) fun W' b2 T2 hW' hB => asked_off2b c C hc b2 T2 _ _ X Y _ _ U V hB (below_sl hW' (below_sl hW hX)) (below_sl hW' (below_sl hW hY)) uX uY lX lY (eo1 ▸ h1) (below_sl hW' (below_sl hW hU)) (below_sl hW' (below_sl hW hV)) uU uV lU lV (eo2 ▸ h2)).mono fun e w' h => PtE.bad h
        · exact (RAdd_bad c xa xn xc ya yn yc X Y (below_sl hW hX) (below_sl hW hY) uX uY lX lY ua un uc va vn vc U V (below_sl hW hU) (below_sl hW hV) uU uV lU lV 90 (by unfold askR; rw [hc, h1, h2]; simp) (by decide)).mono fun e w' h => PtE.bad h
      | true =>
        obtain ⟨P, hP, eP⟩ := on_pt hc g uX uY h1
        obtain ⟨Q, hQ, eQ⟩ := on_pt hc g uU uV h2
        have hl := enc_lt ((ec C).add P Q)
        have hp := crv_p12 hc
        refine ⟨_, _, 0, Nat.lt_trans hl.1 hp, Nat.lt_trans hl.2 hp, fun W hW => ?_, fun W hW => ?_⟩
        · exact (AddL hc g _ _ _ _ X Y U V (below_sl hW hX) (below_sl hW hY) uX uY lX lY h1 (below_sl hW hU) (below_sl hW hV) uU uV lU lV h2 hP hQ eP eQ).mono fun e w' ⟨a, n, k, b, m, l, h3, h4, h5⟩ => ⟨a, n, k, b, m, l, h3, h4.1, h4.2, h5⟩
        · exact (RAdd_ok hc g xa xn xc ya yn yc X Y (below_sl hW hX) (below_sl hW hY) uX uY lX lY h1 ua un uc va vn vc U V (below_sl hW hU) (below_sl hW hV) uU uV lU lV h2 hP hQ (by rw [eP]) (by rw [eP]) (by rw [eQ]) (by rw [eQ])).mono fun e w' h => PtE.sv h
theorem Negs_ans {w : World} (c : Int) (xa : Option Addr) (xn xc : Nat) (ya : Option Addr) (yn yc : Nat) (X Y : List Int) (hX : Sl .u32 w (.slice xa xn xc) X) (hY : Sl .u32 w (.slice ya yn yc) Y) (uX : U32s X) (uY : U32s Y) (lX : X.length ≤ 1000000) (lY : Y.length ≤ 1000000) :
    ∃ (x y : Nat) (er : Int), x < 4294967296 ^ 12 ∧ y < 4294967296 ^ 12 ∧ (∀ W, Below w.heap.size w W → Calls Try.prog 10 #[.int .i64 c, .agg #[.slice xa xn xc, .slice ya yn yc]] W (PtE W x y er)) ∧ (∀ W, Below w.heap.size w W → Calls Try.prog 11 #[.int .i64 c, .agg #[.slice xa xn xc, .slice ya yn yc]] W (PtE W x y er)) := by
  cases hc : crv c with
  | none =>
    refine ⟨0, 0, 1, by decide, by decide, fun W hW => ?_, fun W hW => ?_⟩
    · exact (Neg_bad c xa xn xc ya yn yc 1 (.inl rfl) fun W' b2 T2 _ _ => asked_no c hc _ _).mono fun e w' h => PtE.bad h
    · exact (RNeg_bad c xa xn xc ya yn yc X Y (below_sl hW hX) (below_sl hW hY) uX uY lX lY 1 (by unfold askR; rw [hc]) (by decide)).mono fun e w' h => PtE.bad h
  | some C =>
    obtain ⟨hz, g⟩ := crv_cok hc
    have eo1 : onC c X Y = onB C.p C.b X Y := by unfold onC; rw [hc]
    cases h1 : onC c X Y with
    | false =>
      refine ⟨0, 0, 90, by decide, by decide, fun W hW => ?_, fun W hW => ?_⟩
      · exact (Neg_bad c xa xn xc ya yn yc 90 (.inr rfl) fun W' b2 T2 hW' hB => asked_off c C hc b2 T2 _ _ X Y hB (below_sl hW' (below_sl hW hX)) (below_sl hW' (below_sl hW hY)) uX uY lX lY (eo1 ▸ h1)).mono fun e w' h => PtE.bad h
      · exact (RNeg_bad c xa xn xc ya yn yc X Y (below_sl hW hX) (below_sl hW hY) uX uY lX lY 90 (by unfold askR; rw [hc, h1]; simp) (by decide)).mono fun e w' h => PtE.bad h
    | true =>
      obtain ⟨P, hP, eP⟩ := on_pt hc g uX uY h1
      have hl := enc_lt (neg P)
      have hp := crv_p12 hc
      refine ⟨_, _, 0, Nat.lt_trans hl.1 hp, Nat.lt_trans hl.2 hp, fun W hW => ?_, fun W hW => ?_⟩
      · exact (NegL hc _ _ X Y (below_sl hW hX) (below_sl hW hY) uX uY lX lY h1 eP).mono fun e w' ⟨a, n, k, b, m, l, h3, h4, h5⟩ => ⟨a, n, k, b, m, l, h3, h4.1, h4.2, h5⟩
      · exact (RNeg_ok hc g xa xn xc ya yn yc X Y (below_sl hW hX) (below_sl hW hY) uX uY lX lY h1 hP (by rw [eP]) (by rw [eP])).mono fun e w' h => PtE.sv h
end Go.Proofs.Ytkdclocjijmgpaa
/-
  How the laws' arguments read (a plain seat).
-/
namespace Go.Proofs.Ytkdclocjijmgpaa
open Go.RowKit
/-! ### how an argument reads -/
def IsRow (k : IntKind) (w : World) (a : Option Addr) (len cap : Nat) (zs : List Int) : Prop :=
  (a = none ∧ len = 0 ∧ cap = 0 ∧ zs = []) ∨
  ∃ x, a = some x ∧ len ≤ cap ∧ cap ≤ maxLen ∧ zs.length = cap ∧ (∀ i, i < zs.length → w.cell? (x.add i) = some (.int k (zs.getD i 0))) ∧ ∀ n ∈ zs, (Lit.int k n).wf = true
theorem cell_spot {w : World} {x : Addr} {v : Value} (h : w.cell? x = some v) : x.spot = none ∧ x.block < w.heap.size := by
  unfold World.cell? at h
  split at h
  · rename_i c t f hh
    refine ⟨?_, (Array.getElem?_eq_some_iff.1 hh).1⟩
    by_cases hs : x.spot.isSome
    · simp [hs] at h
    · simpa using hs
  · cases h
theorem IsRow.sl {k : IntKind} {w : World} {a : Option Addr} {len cap : Nat} {zs : List Int} (h : IsRow k w a len cap zs) :
    ∃ X, X.length = len ∧ Sl k w (.slice a len cap) X ∧ ∀ n ∈ X, (Lit.int k n).wf = true := by
  rcases h with ⟨rfl, rfl, rfl, rfl⟩ | ⟨x, rfl, hl, hm, hz, hc, hw⟩
  · exact ⟨[], rfl, ⟨none, 0, rfl, Nat.le_refl _, .inl rfl⟩, by simp⟩
  · refine ⟨zs.take len, by simp; omega, ⟨some x, cap, by simp; omega, by simp; omega, ?_⟩, fun n hn => hw n (List.mem_of_mem_take hn)⟩
    by_cases h0 : len = 0
    · subst h0; exact .inl (by simp)
    · right
      obtain ⟨b, off, sp⟩ := x
      have h1 := cell_spot (hc 0 (by omega))
      have hsp : sp = none := by
        have := h1.1
        cases sp with
        | none => rfl
        | some s => simp [Addr.add] at this
      subst hsp
      have hb : b < w.heap.size := by have := h1.2; simpa [Addr.add] using this
      refine ⟨b, off, rfl, hb, fun i hi => ?_⟩
      simp at hi
      have := hc i (by omega)
      have hadd : (⟨b, off, none⟩ : Addr).add i = ⟨b, off + i, none⟩ := by simp [Addr.add]
      rw [hadd] at this
      rw [this]
      simp [show i < len by omega]
theorem IsRow.sl32 {w : World} {a : Option Addr} {len cap : Nat} {zs : List Int} (h : IsRow .u32 w a len cap zs) : ∃ X, X.length = len ∧ Sl .u32 w (.slice a len cap) X ∧ U32s X := by
  obtain ⟨X, h1, h2, h3⟩ := h.sl
  exact ⟨X, h1, h2, fun n hn => by have := bounds_u32 (h3 n hn); exact ⟨this.1, by omega⟩⟩
end Go.Proofs.Ytkdclocjijmgpaa
/-
  Curve: the law CurveOns.
-/
namespace Go.Proofs.Ytkdclocjijmgpaa
open Go.RowKit
set_option maxRecDepth 20000
set_option maxHeartbeats 2000000 in
theorem long09_any {w : World} (a1 : Option Addr) (n1 c1 : Nat) (a2 : Option Addr) (n2 c2 : Nat) (r : Bool) (hr : (decide (600 < (n1 : Int)) || decide (600 < (n2 : Int))) = r) :
    Calls Try.prog 6 #[.agg #[.slice a1 n1 c1, .slice a2 n2 c2]] w fun e w' => e = .returned (.bool r) ∧ Below w.heap.size w w' := by
  have HR : Hid ((decide (600 < (n1 : Int)) || decide (600 < (n2 : Int))) = r) := hr
  clear hr
  by_cases h1 : n1 ≤ 600
  · have g1 : decide ((600 : Int) < (n1 : Int)) = false := by simp; omega
    have HR2 : Hid (decide ((600 : Int) < (n2 : Int)) = r) := by show _ = _; rw [← HR.out, g1]; rfl
    clear h1 HR
    go_enter Try.func6, Try.ntmps6
    go_upto_region 1 with (refine wpList_boxR rfl 24 (.tmp 0) rfl #[.slice a1 n1 c1, .slice a2 n2 c2] rfl ?_)
    refine wp_gen (fun W => Blk 24 W w.heap.size [.slice a1 n1 c1, .slice a2 n2 c2] ∧ Below w.heap.size w W) ⟨Blk.new _ w _, al1 _⟩ ?_
    rintro W2 ⟨hB, hBw⟩
    have p0 : W2.cell? ⟨w.heap.size, 0, none⟩ = some (.slice a1 n1 c1) := hB.cell 0
    have p1 : W2.cell? ⟨w.heap.size, 1, none⟩ = some (.slice a2 n2 c2) := hB.cell 1
    have H2 : Hid (Below w.heap.size w W2) := hBw
    clear hB hBw
    go_wp2
    go_ret
    exact ⟨by rw [← HR2.out]; rfl, H2.out⟩
  · have g1 : decide ((600 : Int) < (n1 : Int)) = true := by simp; omega
    have HR2 : Hid (true = r) := by show _ = _; rw [← HR.out, g1]; rfl
    clear h1 HR
    go_enter Try.func6, Try.ntmps6
    go_upto_region 1 with (refine wpList_boxR rfl 24 (.tmp 0) rfl #[.slice a1 n1 c1, .slice a2 n2 c2] rfl ?_)
    refine wp_gen (fun W => Blk 24 W w.heap.size [.slice a1 n1 c1, .slice a2 n2 c2] ∧ Below w.heap.size w W) ⟨Blk.new _ w _, al1 _⟩ ?_
    rintro W2 ⟨hB, hBw⟩
    have p0 : W2.cell? ⟨w.heap.size, 0, none⟩ = some (.slice a1 n1 c1) := hB.cell 0
    have p1 : W2.cell? ⟨w.heap.size, 1, none⟩ = some (.slice a2 n2 c2) := hB.cell 1
    have H2 : Hid (Below w.heap.size w W2) := hBw
    clear hB hBw
    go_wp2
    go_ret
    exact ⟨by rw [← HR2.out]; rfl, H2.out⟩
end Go.Proofs.Ytkdclocjijmgpaa
