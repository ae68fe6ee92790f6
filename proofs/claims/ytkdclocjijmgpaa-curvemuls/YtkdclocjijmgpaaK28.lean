/-
  Curve: asked, where nothing is at fault.
-/
import Derived.Test.YtkdclocjijmgpaaK27
namespace Go.Proofs.Ytkdclocjijmgpaa
open Go.RowKit
set_option maxRecDepth 20000
theorem newKd (w : World) : Blk 53 (w.alloc (Obj.cells #[Value.int IntKind.i64 0, Value.slice none 0 0, Value.slice none 0 0, Value.slice none 0 0, Value.slice none 0 0, Value.slice none 0 0] 53)) w.heap.size kz := Blk.new _ w kz

set_option maxHeartbeats 4000000 in
theorem asked_01 {w : World} (c : Int) (C : Cv) (hc : crv c = some C)  (bp : Nat) (Tp : TypeId) (vx0 vy0 : Value) (X0 Y0 : List Int) (hP : Blk Tp w bp [vx0, vy0]) (hX0 : Sl .u32 w vx0 X0) (hY0 : Sl .u32 w vy0 Y0) (uX0 : U32s X0) (uY0 : U32s Y0) (lX0 : X0.length ≤ 1000000) (lY0 : Y0.length ≤ 1000000) (ho0 : onB C.p C.b X0 Y0 = true) :
    Calls Try.prog 24 #[.int .i64 c, .slice none 0 0, .slice (some ⟨bp, 0, none⟩) 1 1] w fun e w' => ∃ s a1 n1 c1 a2 n2 c2 a3 n3 c3 a4 n4 c4 a5 n5 c5, e = .returned (.tuple #[.agg [.int .i64 (s : Nat), .slice a1 n1 c1, .slice a2 n2 c2, .slice a3 n3 c3, .slice a4 n4 c4, .slice a5 n5 c5].toArray, .int .i64 0]) ∧ KindS w' s a1 n1 c1 a2 n2 c2 a3 n3 c3 a4 n4 c4 a5 n5 c5 C ∧ Below w.heap.size w w' := by
  obtain ⟨xa0, xc0, rfl⟩ : ∃ a c, vx0 = .slice a X0.length c := by obtain ⟨a, c, h1, _⟩ := hX0; exact ⟨a, c, h1⟩
  obtain ⟨ya0, yc0, rfl⟩ : ∃ a c, vy0 = .slice a Y0.length c := by obtain ⟨a, c, h1, _⟩ := hY0; exact ⟨a, c, h1⟩
  obtain ⟨xn0, hxn0⟩ : ∃ n, X0.length = n := ⟨_, rfl⟩
  obtain ⟨yn0, hyn0⟩ : ∃ n, Y0.length = n := ⟨_, rfl⟩
  rw [hxn0, hyn0] at hP; rw [hxn0] at hX0; rw [hyn0] at hY0
  have HX0 : Hid (∀ W f rb v0 v2 v4 v5, Below w.heap.size w W → Fld W f C.p → Nb W rb C.b → Calls Try.prog 46 #[.agg #[v0, f, v2, rb, v4, v5], .agg #[(.slice xa0 xn0 xc0), (.slice ya0 yn0 yc0)]] W fun e w' => e = .returned (.bool true) ∧ Below W.heap.size W w') := fun W f rb v0 v2 v4 v5 hW hf hb => ho0 ▸ Kon v0 f v2 rb v4 v5 (.slice xa0 xn0 xc0) (.slice ya0 yn0 yc0) C.p C.b X0 Y0 hf hb (crv_ok hc).2.2.1 (below_sl hW hX0) (below_sl hW hY0) uX0 uY0 lX0 lY0
  have HP : Hid (∀ W, Below w.heap.size w W → Blk Tp W bp [(.slice xa0 xn0 xc0), (.slice ya0 yn0 yc0)]) := fun W hW => below_blk hW hP.lt hP
  have HK : Hid (0 < C.p ∧ C.p < 4294967296 ^ 12) := ⟨(crv_ok hc).1, (crv_ok hc).2.1⟩
  clear hxn0 hyn0 hX0 hY0 uX0 uY0 lX0 lY0 ho0 hP
  go_enter Try.func24, Try.ntmps24
  go_wp2_with fail
  refine (pick_yes c C hc).mono ?_
  rintro e w3 ⟨s, a1, n1, c1, a2, n2, c2, a3, n3, c3, a4, n4, c4, a5, n5, c5, rfl, hk, hb3⟩
  have H3 : Hid (Below w.heap.size w w3 ∧ KindS w3 s a1 n1 c1 a2 n2 c2 a3 n3 c3 a4 n4 c4 a5 n5 c5 C ∧ Blk 53 w3 w.heap.size kz) := ⟨below_via (al1 _) hb3 (Nat.le_refl _), hk, below_blk hb3 (newKd w).lt (newKd w)⟩
  clear hb3 hc hk
  go_upto_region 2 with (fail)
  refine wp_gen (fun W => Blk 53 W w3.heap.size [.int .i64 s, .slice a1 n1 c1, .slice a2 n2 c2, .slice a3 n3 c3, .slice a4 n4 c4, .slice a5 n5 c5] ∧ Below w3.heap.size w3 W) ⟨Blk.new _ _ _, al1 _⟩ ?_
  rintro W4 ⟨hB4, hb4⟩
  have H4 : Hid (Below w.heap.size w W4 ∧ KindS W4 s a1 n1 c1 a2 n2 c2 a3 n3 c3 a4 n4 c4 a5 n5 c5 C ∧ Blk 53 W4 w.heap.size kz ∧ Blk 53 W4 w3.heap.size [.int .i64 s, .slice a1 n1 c1, .slice a2 n2 c2, .slice a3 n3 c3, .slice a4 n4 c4, .slice a5 n5 c5]) := ⟨below_via H3.out.1 hb4 (Nat.le_refl _), H3.out.2.1.below hb4, below_blk hb4 H3.out.2.2.lt H3.out.2.2, hB4⟩
  clear hb4 hB4
  go_wp2
  refine wp_loop_rounds 1 ?_
  rw [rounds_succ]
  go_wp2
  refine wp_loop_rounds 2 ?_
  rw [rounds_succ]
  have p0 : W4.cell? ⟨bp, 0, none⟩ = some (.slice xa0 xn0 xc0) := (HP.out _ H4.out.1).cell 0
  have p1 : W4.cell? ⟨bp, 1, none⟩ = some (.slice ya0 yn0 yc0) := (HP.out _ H4.out.1).cell 1
  go_upto_region 13 with (fail)
  refine wp_gen (fun W => Blk 24 W W4.heap.size [(.slice xa0 xn0 xc0), (.slice ya0 yn0 yc0)] ∧ Below W4.heap.size W4 W) ⟨Blk.new _ _ _, al1 _⟩ ?_
  rintro V0 ⟨hB, hb⟩
  have J0 : Hid (Below w.heap.size w V0 ∧ KindS V0 s a1 n1 c1 a2 n2 c2 a3 n3 c3 a4 n4 c4 a5 n5 c5 C ∧ Blk 53 V0 w.heap.size kz ∧ Blk 53 V0 w3.heap.size [.int .i64 s, .slice a1 n1 c1, .slice a2 n2 c2, .slice a3 n3 c3, .slice a4 n4 c4, .slice a5 n5 c5] ∧ Below W4.heap.size W4 V0) := ⟨below_via H4.out.1 hb (Nat.le_refl _), H4.out.2.1.below hb, below_blk hb H4.out.2.2.1.lt H4.out.2.2.1, below_blk hb H4.out.2.2.2.lt H4.out.2.2.2, hb⟩
  have k0 : V0.cell? ⟨w3.heap.size, 0, none⟩ = some (.int .i64 s) := J0.out.2.2.2.1.cell 0
  have k1 : V0.cell? ⟨w3.heap.size, 1, none⟩ = some (.slice a1 n1 c1) := J0.out.2.2.2.1.cell 1
  have k2 : V0.cell? ⟨w3.heap.size, 2, none⟩ = some (.slice a2 n2 c2) := J0.out.2.2.2.1.cell 2
  have k3 : V0.cell? ⟨w3.heap.size, 3, none⟩ = some (.slice a3 n3 c3) := J0.out.2.2.2.1.cell 3
  have k4 : V0.cell? ⟨w3.heap.size, 4, none⟩ = some (.slice a4 n4 c4) := J0.out.2.2.2.1.cell 4
  have k5 : V0.cell? ⟨w3.heap.size, 5, none⟩ = some (.slice a5 n5 c5) := J0.out.2.2.2.1.cell 5
  have q0 : V0.cell? ⟨W4.heap.size, 0, none⟩ = some (.slice xa0 xn0 xc0) := hB.cell 0
  have q1 : V0.cell? ⟨W4.heap.size, 1, none⟩ = some (.slice ya0 yn0 yc0) := hB.cell 1
  clear p0 p1 hB hb
  go_wp2_with fail
  refine (HX0.out _ _ _ _ _ _ _ J0.out.1 ⟨J0.out.2.1.2.1, HK.out.1, HK.out.2⟩ J0.out.2.1.2.2.2.1).mono ?_
  rintro e y0 ⟨rfl, hb⟩
  have L0 : Hid (Below w.heap.size w y0 ∧ KindS y0 s a1 n1 c1 a2 n2 c2 a3 n3 c3 a4 n4 c4 a5 n5 c5 C ∧ Blk 53 y0 w.heap.size kz ∧ Blk 53 y0 w3.heap.size [.int .i64 s, .slice a1 n1 c1, .slice a2 n2 c2, .slice a3 n3 c3, .slice a4 n4 c4, .slice a5 n5 c5] ∧ True) := ⟨below_via J0.out.1 hb (Nat.le_refl _), J0.out.2.1.below hb, below_blk hb J0.out.2.2.1.lt J0.out.2.2.1, below_blk hb J0.out.2.2.2.1.lt J0.out.2.2.2.1, trivial⟩
  clear hb q0 q1 k0 k1 k2 k3 k4 k5
  go_wp2
  rw [rounds_succ]
  have k0 : y0.cell? ⟨w3.heap.size, 0, none⟩ = some (.int .i64 s) := L0.out.2.2.2.1.cell 0
  have k1 : y0.cell? ⟨w3.heap.size, 1, none⟩ = some (.slice a1 n1 c1) := L0.out.2.2.2.1.cell 1
  have k2 : y0.cell? ⟨w3.heap.size, 2, none⟩ = some (.slice a2 n2 c2) := L0.out.2.2.2.1.cell 2
  have k3 : y0.cell? ⟨w3.heap.size, 3, none⟩ = some (.slice a3 n3 c3) := L0.out.2.2.2.1.cell 3
  have k4 : y0.cell? ⟨w3.heap.size, 4, none⟩ = some (.slice a4 n4 c4) := L0.out.2.2.2.1.cell 4
  have k5 : y0.cell? ⟨w3.heap.size, 5, none⟩ = some (.slice a5 n5 c5) := L0.out.2.2.2.1.cell 5
  have d0 : y0.cell? ⟨w.heap.size, 0, none⟩ = some (.int .i64 0) := L0.out.2.2.1.cell 0
  have g0 : y0.frozen? ⟨w.heap.size, 0, none⟩ = false := L0.out.2.2.1.frozen 0
  have d1 : y0.cell? ⟨w.heap.size, 1, none⟩ = some (.slice none 0 0) := L0.out.2.2.1.cell 1
  have g1 : y0.frozen? ⟨w.heap.size, 1, none⟩ = false := L0.out.2.2.1.frozen 1
  have d2 : y0.cell? ⟨w.heap.size, 2, none⟩ = some (.slice none 0 0) := L0.out.2.2.1.cell 2
  have g2 : y0.frozen? ⟨w.heap.size, 2, none⟩ = false := L0.out.2.2.1.frozen 2
  have d3 : y0.cell? ⟨w.heap.size, 3, none⟩ = some (.slice none 0 0) := L0.out.2.2.1.cell 3
  have g3 : y0.frozen? ⟨w.heap.size, 3, none⟩ = false := L0.out.2.2.1.frozen 3
  have d4 : y0.cell? ⟨w.heap.size, 4, none⟩ = some (.slice none 0 0) := L0.out.2.2.1.cell 4
  have g4 : y0.frozen? ⟨w.heap.size, 4, none⟩ = false := L0.out.2.2.1.frozen 4
  have d5 : y0.cell? ⟨w.heap.size, 5, none⟩ = some (.slice none 0 0) := L0.out.2.2.1.cell 5
  have g5 : y0.frozen? ⟨w.heap.size, 5, none⟩ = false := L0.out.2.2.1.frozen 5
  go_wp2
  obtain ⟨hF, hU⟩ := Blk.put6 L0.out.2.2.1 (.int .i64 s) (.slice a1 n1 c1) (.slice a2 n2 c2) (.slice a3 n3 c3) (.slice a4 n4 c4) (.slice a5 n5 c5)
  exact bodyPost_ret (results_blk2 rfl rfl hF Try.underlying53 rfl Try.sizeKd rfl) rfl ⟨s, a1, n1, c1, a2, n2, c2, a3, n3, c3, a4, n4, c4, a5, n5, c5, rfl, L0.out.2.1.upd L0.out.2.2.1 hU, hU.below L0.out.1 L0.out.1.size (Nat.le_refl _)⟩
set_option maxHeartbeats 4000000 in
theorem asked_21 {w : World} (c : Int) (C : Cv) (hc : crv c = some C) (fa0 : Option Addr) (fn0 fc0 : Nat) (lf0 : fn0 ≤ 64) (fa1 : Option Addr) (fn1 fc1 : Nat) (lf1 : fn1 ≤ 64) (bf : Nat) (Tf : TypeId) (hF : Blk Tf w bf [.slice fa0 fn0 fc0, .slice fa1 fn1 fc1]) (bp : Nat) (Tp : TypeId) (vx0 vy0 : Value) (X0 Y0 : List Int) (hP : Blk Tp w bp [vx0, vy0]) (hX0 : Sl .u32 w vx0 X0) (hY0 : Sl .u32 w vy0 Y0) (uX0 : U32s X0) (uY0 : U32s Y0) (lX0 : X0.length ≤ 1000000) (lY0 : Y0.length ≤ 1000000) (ho0 : onB C.p C.b X0 Y0 = true) :
    Calls Try.prog 24 #[.int .i64 c, .slice (some ⟨bf, 0, none⟩) 2 2, .slice (some ⟨bp, 0, none⟩) 1 1] w fun e w' => ∃ s a1 n1 c1 a2 n2 c2 a3 n3 c3 a4 n4 c4 a5 n5 c5, e = .returned (.tuple #[.agg [.int .i64 (s : Nat), .slice a1 n1 c1, .slice a2 n2 c2, .slice a3 n3 c3, .slice a4 n4 c4, .slice a5 n5 c5].toArray, .int .i64 0]) ∧ KindS w' s a1 n1 c1 a2 n2 c2 a3 n3 c3 a4 n4 c4 a5 n5 c5 C ∧ Below w.heap.size w w' := by
  obtain ⟨xa0, xc0, rfl⟩ : ∃ a c, vx0 = .slice a X0.length c := by obtain ⟨a, c, h1, _⟩ := hX0; exact ⟨a, c, h1⟩
  obtain ⟨ya0, yc0, rfl⟩ : ∃ a c, vy0 = .slice a Y0.length c := by obtain ⟨a, c, h1, _⟩ := hY0; exact ⟨a, c, h1⟩
  obtain ⟨xn0, hxn0⟩ : ∃ n, X0.length = n := ⟨_, rfl⟩
  obtain ⟨yn0, hyn0⟩ : ∃ n, Y0.length = n := ⟨_, rfl⟩
  rw [hxn0, hyn0] at hP; rw [hxn0] at hX0; rw [hyn0] at hY0
  have HX0 : Hid (∀ W f rb v0 v2 v4 v5, Below w.heap.size w W → Fld W f C.p → Nb W rb C.b → Calls Try.prog 46 #[.agg #[v0, f, v2, rb, v4, v5], .agg #[(.slice xa0 xn0 xc0), (.slice ya0 yn0 yc0)]] W fun e w' => e = .returned (.bool true) ∧ Below W.heap.size W w') := fun W f rb v0 v2 v4 v5 hW hf hb => ho0 ▸ Kon v0 f v2 rb v4 v5 (.slice xa0 xn0 xc0) (.slice ya0 yn0 yc0) C.p C.b X0 Y0 hf hb (crv_ok hc).2.2.1 (below_sl hW hX0) (below_sl hW hY0) uX0 uY0 lX0 lY0
  have HP : Hid (∀ W, Below w.heap.size w W → Blk Tp W bp [(.slice xa0 xn0 xc0), (.slice ya0 yn0 yc0)]) := fun W hW => below_blk hW hP.lt hP
  have HF : Hid (∀ W, Below w.heap.size w W → Blk Tf W bf [.slice fa0 fn0 fc0, .slice fa1 fn1 fc1]) := fun W hW => below_blk hW hF.lt hF
  have HK : Hid (0 < C.p ∧ C.p < 4294967296 ^ 12) := ⟨(crv_ok hc).1, (crv_ok hc).2.1⟩
  clear hxn0 hyn0 hX0 hY0 uX0 uY0 lX0 lY0 ho0 hP hF
  go_enter Try.func24, Try.ntmps24
  go_wp2_with fail
  refine (pick_yes c C hc).mono ?_
  rintro e w3 ⟨s, a1, n1, c1, a2, n2, c2, a3, n3, c3, a4, n4, c4, a5, n5, c5, rfl, hk, hb3⟩
  have H3 : Hid (Below w.heap.size w w3 ∧ KindS w3 s a1 n1 c1 a2 n2 c2 a3 n3 c3 a4 n4 c4 a5 n5 c5 C ∧ Blk 53 w3 w.heap.size kz) := ⟨below_via (al1 _) hb3 (Nat.le_refl _), hk, below_blk hb3 (newKd w).lt (newKd w)⟩
  clear hb3 hc hk
  go_upto_region 2 with (fail)
  refine wp_gen (fun W => Blk 53 W w3.heap.size [.int .i64 s, .slice a1 n1 c1, .slice a2 n2 c2, .slice a3 n3 c3, .slice a4 n4 c4, .slice a5 n5 c5] ∧ Below w3.heap.size w3 W) ⟨Blk.new _ _ _, al1 _⟩ ?_
  rintro W4 ⟨hB4, hb4⟩
  have H4 : Hid (Below w.heap.size w W4 ∧ KindS W4 s a1 n1 c1 a2 n2 c2 a3 n3 c3 a4 n4 c4 a5 n5 c5 C ∧ Blk 53 W4 w.heap.size kz ∧ Blk 53 W4 w3.heap.size [.int .i64 s, .slice a1 n1 c1, .slice a2 n2 c2, .slice a3 n3 c3, .slice a4 n4 c4, .slice a5 n5 c5]) := ⟨below_via H3.out.1 hb4 (Nat.le_refl _), H3.out.2.1.below hb4, below_blk hb4 H3.out.2.2.lt H3.out.2.2, hB4⟩
  clear hb4 hB4
  have f0 : W4.cell? ⟨bf, 0, none⟩ = some (.slice fa0 fn0 fc0) := (HF.out _ H4.out.1).cell 0
  have fe0 : decide (64 < (fn0 : Int)) = false := by simp; omega
  have f1 : W4.cell? ⟨bf, 1, none⟩ = some (.slice fa1 fn1 fc1) := (HF.out _ H4.out.1).cell 1
  have fe1 : decide (64 < (fn1 : Int)) = false := by simp; omega
  go_wp2
  refine wp_loop_rounds 3 ?_
  rw [rounds_succ]
  go_wp2
  rw [rounds_succ]
  go_wp2
  rw [rounds_succ]
  go_wp2
  refine wp_loop_rounds 2 ?_
  rw [rounds_succ]
  have p0 : W4.cell? ⟨bp, 0, none⟩ = some (.slice xa0 xn0 xc0) := (HP.out _ H4.out.1).cell 0
  have p1 : W4.cell? ⟨bp, 1, none⟩ = some (.slice ya0 yn0 yc0) := (HP.out _ H4.out.1).cell 1
  go_upto_region 13 with (fail)
  refine wp_gen (fun W => Blk 24 W W4.heap.size [(.slice xa0 xn0 xc0), (.slice ya0 yn0 yc0)] ∧ Below W4.heap.size W4 W) ⟨Blk.new _ _ _, al1 _⟩ ?_
  rintro V0 ⟨hB, hb⟩
  have J0 : Hid (Below w.heap.size w V0 ∧ KindS V0 s a1 n1 c1 a2 n2 c2 a3 n3 c3 a4 n4 c4 a5 n5 c5 C ∧ Blk 53 V0 w.heap.size kz ∧ Blk 53 V0 w3.heap.size [.int .i64 s, .slice a1 n1 c1, .slice a2 n2 c2, .slice a3 n3 c3, .slice a4 n4 c4, .slice a5 n5 c5] ∧ Below W4.heap.size W4 V0) := ⟨below_via H4.out.1 hb (Nat.le_refl _), H4.out.2.1.below hb, below_blk hb H4.out.2.2.1.lt H4.out.2.2.1, below_blk hb H4.out.2.2.2.lt H4.out.2.2.2, hb⟩
  have k0 : V0.cell? ⟨w3.heap.size, 0, none⟩ = some (.int .i64 s) := J0.out.2.2.2.1.cell 0
  have k1 : V0.cell? ⟨w3.heap.size, 1, none⟩ = some (.slice a1 n1 c1) := J0.out.2.2.2.1.cell 1
  have k2 : V0.cell? ⟨w3.heap.size, 2, none⟩ = some (.slice a2 n2 c2) := J0.out.2.2.2.1.cell 2
  have k3 : V0.cell? ⟨w3.heap.size, 3, none⟩ = some (.slice a3 n3 c3) := J0.out.2.2.2.1.cell 3
  have k4 : V0.cell? ⟨w3.heap.size, 4, none⟩ = some (.slice a4 n4 c4) := J0.out.2.2.2.1.cell 4
  have k5 : V0.cell? ⟨w3.heap.size, 5, none⟩ = some (.slice a5 n5 c5) := J0.out.2.2.2.1.cell 5
  have q0 : V0.cell? ⟨W4.heap.size, 0, none⟩ = some (.slice xa0 xn0 xc0) := hB.cell 0
  have q1 : V0.cell? ⟨W4.heap.size, 1, none⟩ = some (.slice ya0 yn0 yc0) := hB.cell 1
  clear p0 p1 hB hb
  go_wp2_with fail
  refine (HX0.out _ _ _ _ _ _ _ J0.out.1 ⟨J0.out.2.1.2.1, HK.out.1, HK.out.2⟩ J0.out.2.1.2.2.2.1).mono ?_
  rintro e y0 ⟨rfl, hb⟩
  have L0 : Hid (Below w.heap.size w y0 ∧ KindS y0 s a1 n1 c1 a2 n2 c2 a3 n3 c3 a4 n4 c4 a5 n5 c5 C ∧ Blk 53 y0 w.heap.size kz ∧ Blk 53 y0 w3.heap.size [.int .i64 s, .slice a1 n1 c1, .slice a2 n2 c2, .slice a3 n3 c3, .slice a4 n4 c4, .slice a5 n5 c5] ∧ True) := ⟨below_via J0.out.1 hb (Nat.le_refl _), J0.out.2.1.below hb, below_blk hb J0.out.2.2.1.lt J0.out.2.2.1, below_blk hb J0.out.2.2.2.1.lt J0.out.2.2.2.1, trivial⟩
  clear hb q0 q1 k0 k1 k2 k3 k4 k5
  go_wp2
  rw [rounds_succ]
  have k0 : y0.cell? ⟨w3.heap.size, 0, none⟩ = some (.int .i64 s) := L0.out.2.2.2.1.cell 0
  have k1 : y0.cell? ⟨w3.heap.size, 1, none⟩ = some (.slice a1 n1 c1) := L0.out.2.2.2.1.cell 1
  have k2 : y0.cell? ⟨w3.heap.size, 2, none⟩ = some (.slice a2 n2 c2) := L0.out.2.2.2.1.cell 2
  have k3 : y0.cell? ⟨w3.heap.size, 3, none⟩ = some (.slice a3 n3 c3) := L0.out.2.2.2.1.cell 3
  have k4 : y0.cell? ⟨w3.heap.size, 4, none⟩ = some (.slice a4 n4 c4) := L0.out.2.2.2.1.cell 4
  have k5 : y0.cell? ⟨w3.heap.size, 5, none⟩ = some (.slice a5 n5 c5) := L0.out.2.2.2.1.cell 5
  have d0 : y0.cell? ⟨w.heap.size, 0, none⟩ = some (.int .i64 0) := L0.out.2.2.1.cell 0
  have g0 : y0.frozen? ⟨w.heap.size, 0, none⟩ = false := L0.out.2.2.1.frozen 0
  have d1 : y0.cell? ⟨w.heap.size, 1, none⟩ = some (.slice none 0 0) := L0.out.2.2.1.cell 1
  have g1 : y0.frozen? ⟨w.heap.size, 1, none⟩ = false := L0.out.2.2.1.frozen 1
  have d2 : y0.cell? ⟨w.heap.size, 2, none⟩ = some (.slice none 0 0) := L0.out.2.2.1.cell 2
  have g2 : y0.frozen? ⟨w.heap.size, 2, none⟩ = false := L0.out.2.2.1.frozen 2
  have d3 : y0.cell? ⟨w.heap.size, 3, none⟩ = some (.slice none 0 0) := L0.out.2.2.1.cell 3
  have g3 : y0.frozen? ⟨w.heap.size, 3, none⟩ = false := L0.out.2.2.1.frozen 3
  have d4 : y0.cell? ⟨w.heap.size, 4, none⟩ = some (.slice none 0 0) := L0.out.2.2.1.cell 4
  have g4 : y0.frozen? ⟨w.heap.size, 4, none⟩ = false := L0.out.2.2.1.frozen 4
  have d5 : y0.cell? ⟨w.heap.size, 5, none⟩ = some (.slice none 0 0) := L0.out.2.2.1.cell 5
  have g5 : y0.frozen? ⟨w.heap.size, 5, none⟩ = false := L0.out.2.2.1.frozen 5
  go_wp2
  obtain ⟨hF, hU⟩ := Blk.put6 L0.out.2.2.1 (.int .i64 s) (.slice a1 n1 c1) (.slice a2 n2 c2) (.slice a3 n3 c3) (.slice a4 n4 c4) (.slice a5 n5 c5)
  exact bodyPost_ret (results_blk2 rfl rfl hF Try.underlying53 rfl Try.sizeKd rfl) rfl ⟨s, a1, n1, c1, a2, n2, c2, a3, n3, c3, a4, n4, c4, a5, n5, c5, rfl, L0.out.2.1.upd L0.out.2.2.1 hU, hU.below L0.out.1 L0.out.1.size (Nat.le_refl _)⟩
set_option maxHeartbeats 4000000 in
theorem asked_02 {w : World} (c : Int) (C : Cv) (hc : crv c = some C)  (bp : Nat) (Tp : TypeId) (vx0 vy0 : Value) (X0 Y0 : List Int) (vx1 vy1 : Value) (X1 Y1 : List Int) (hP : Blk Tp w bp [vx0, vy0, vx1, vy1]) (hX0 : Sl .u32 w vx0 X0) (hY0 : Sl .u32 w vy0 Y0) (uX0 : U32s X0) (uY0 : U32s Y0) (lX0 : X0.length ≤ 1000000) (lY0 : Y0.length ≤ 1000000) (ho0 : onB C.p C.b X0 Y0 = true) (hX1 : Sl .u32 w vx1 X1) (hY1 : Sl .u32 w vy1 Y1) (uX1 : U32s X1) (uY1 : U32s Y1) (lX1 : X1.length ≤ 1000000) (lY1 : Y1.length ≤ 1000000) (ho1 : onB C.p C.b X1 Y1 = true) :
    Calls Try.prog 24 #[.int .i64 c, .slice none 0 0, .slice (some ⟨bp, 0, none⟩) 2 2] w fun e w' => ∃ s a1 n1 c1 a2 n2 c2 a3 n3 c3 a4 n4 c4 a5 n5 c5, e = .returned (.tuple #[.agg [.int .i64 (s : Nat), .slice a1 n1 c1, .slice a2 n2 c2, .slice a3 n3 c3, .slice a4 n4 c4, .slice a5 n5 c5].toArray, .int .i64 0]) ∧ KindS w' s a1 n1 c1 a2 n2 c2 a3 n3 c3 a4 n4 c4 a5 n5 c5 C ∧ Below w.heap.size w w' := by
  obtain ⟨xa0, xc0, rfl⟩ : ∃ a c, vx0 = .slice a X0.length c := by obtain ⟨a, c, h1, _⟩ := hX0; exact ⟨a, c, h1⟩
  obtain ⟨ya0, yc0, rfl⟩ : ∃ a c, vy0 = .slice a Y0.length c := by obtain ⟨a, c, h1, _⟩ := hY0; exact ⟨a, c, h1⟩
  obtain ⟨xn0, hxn0⟩ : ∃ n, X0.length = n := ⟨_, rfl⟩
  obtain ⟨yn0, hyn0⟩ : ∃ n, Y0.length = n := ⟨_, rfl⟩
  rw [hxn0, hyn0] at hP; rw [hxn0] at hX0; rw [hyn0] at hY0
  obtain ⟨xa1, xc1, rfl⟩ : ∃ a c, vx1 = .slice a X1.length c := by obtain ⟨a, c, h1, _⟩ := hX1; exact ⟨a, c, h1⟩
  obtain ⟨ya1, yc1, rfl⟩ : ∃ a c, vy1 = .slice a Y1.length c := by obtain ⟨a, c, h1, _⟩ := hY1; exact ⟨a, c, h1⟩
  obtain ⟨xn1, hxn1⟩ : ∃ n, X1.length = n := ⟨_, rfl⟩
  obtain ⟨yn1, hyn1⟩ : ∃ n, Y1.length = n := ⟨_, rfl⟩
  rw [hxn1, hyn1] at hP; rw [hxn1] at hX1; rw [hyn1] at hY1
  have HX0 : Hid (∀ W f rb v0 v2 v4 v5, Below w.heap.size w W → Fld W f C.p → Nb W rb C.b → Calls Try.prog 46 #[.agg #[v0, f, v2, rb, v4, v5], .agg #[(.slice xa0 xn0 xc0), (.slice ya0 yn0 yc0)]] W fun e w' => e = .returned (.bool true) ∧ Below W.heap.size W w') := fun W f rb v0 v2 v4 v5 hW hf hb => ho0 ▸ Kon v0 f v2 rb v4 v5 (.slice xa0 xn0 xc0) (.slice ya0 yn0 yc0) C.p C.b X0 Y0 hf hb (crv_ok hc).2.2.1 (below_sl hW hX0) (below_sl hW hY0) uX0 uY0 lX0 lY0
  have HX1 : Hid (∀ W f rb v0 v2 v4 v5, Below w.heap.size w W → Fld W f C.p → Nb W rb C.b → Calls Try.prog 46 #[.agg #[v0, f, v2, rb, v4, v5], .agg #[(.slice xa1 xn1 xc1), (.slice ya1 yn1 yc1)]] W fun e w' => e = .returned (.bool true) ∧ Below W.heap.size W w') := fun W f rb v0 v2 v4 v5 hW hf hb => ho1 ▸ Kon v0 f v2 rb v4 v5 (.slice xa1 xn1 xc1) (.slice ya1 yn1 yc1) C.p C.b X1 Y1 hf hb (crv_ok hc).2.2.1 (below_sl hW hX1) (below_sl hW hY1) uX1 uY1 lX1 lY1
  have HP : Hid (∀ W, Below w.heap.size w W → Blk Tp W bp [(.slice xa0 xn0 xc0), (.slice ya0 yn0 yc0), (.slice xa1 xn1 xc1), (.slice ya1 yn1 yc1)]) := fun W hW => below_blk hW hP.lt hP
  have HK : Hid (0 < C.p ∧ C.p < 4294967296 ^ 12) := ⟨(crv_ok hc).1, (crv_ok hc).2.1⟩
  clear hxn0 hyn0 hX0 hY0 uX0 uY0 lX0 lY0 ho0 hxn1 hyn1 hX1 hY1 uX1 uY1 lX1 lY1 ho1 hP
  go_enter Try.func24, Try.ntmps24
  go_wp2_with fail
  refine (pick_yes c C hc).mono ?_
  rintro e w3 ⟨s, a1, n1, c1, a2, n2, c2, a3, n3, c3, a4, n4, c4, a5, n5, c5, rfl, hk, hb3⟩
  have H3 : Hid (Below w.heap.size w w3 ∧ KindS w3 s a1 n1 c1 a2 n2 c2 a3 n3 c3 a4 n4 c4 a5 n5 c5 C ∧ Blk 53 w3 w.heap.size kz) := ⟨below_via (al1 _) hb3 (Nat.le_refl _), hk, below_blk hb3 (newKd w).lt (newKd w)⟩
  clear hb3 hc hk
  go_upto_region 2 with (fail)
  refine wp_gen (fun W => Blk 53 W w3.heap.size [.int .i64 s, .slice a1 n1 c1, .slice a2 n2 c2, .slice a3 n3 c3, .slice a4 n4 c4, .slice a5 n5 c5] ∧ Below w3.heap.size w3 W) ⟨Blk.new _ _ _, al1 _⟩ ?_
  rintro W4 ⟨hB4, hb4⟩
  have H4 : Hid (Below w.heap.size w W4 ∧ KindS W4 s a1 n1 c1 a2 n2 c2 a3 n3 c3 a4 n4 c4 a5 n5 c5 C ∧ Blk 53 W4 w.heap.size kz ∧ Blk 53 W4 w3.heap.size [.int .i64 s, .slice a1 n1 c1, .slice a2 n2 c2, .slice a3 n3 c3, .slice a4 n4 c4, .slice a5 n5 c5]) := ⟨below_via H3.out.1 hb4 (Nat.le_refl _), H3.out.2.1.below hb4, below_blk hb4 H3.out.2.2.lt H3.out.2.2, hB4⟩
  clear hb4 hB4
  go_wp2
  refine wp_loop_rounds 1 ?_
  rw [rounds_succ]
  go_wp2
  refine wp_loop_rounds 3 ?_
  rw [rounds_succ]
  have p0 : W4.cell? ⟨bp, 0, none⟩ = some (.slice xa0 xn0 xc0) := (HP.out _ H4.out.1).cell 0
  have p1 : W4.cell? ⟨bp, 1, none⟩ = some (.slice ya0 yn0 yc0) := (HP.out _ H4.out.1).cell 1
  go_upto_region 13 with (fail)
  refine wp_gen (fun W => Blk 24 W W4.heap.size [(.slice xa0 xn0 xc0), (.slice ya0 yn0 yc0)] ∧ Below W4.heap.size W4 W) ⟨Blk.new _ _ _, al1 _⟩ ?_
  rintro V0 ⟨hB, hb⟩
  have J0 : Hid (Below w.heap.size w V0 ∧ KindS V0 s a1 n1 c1 a2 n2 c2 a3 n3 c3 a4 n4 c4 a5 n5 c5 C ∧ Blk 53 V0 w.heap.size kz ∧ Blk 53 V0 w3.heap.size [.int .i64 s, .slice a1 n1 c1, .slice a2 n2 c2, .slice a3 n3 c3, .slice a4 n4 c4, .slice a5 n5 c5] ∧ Below W4.heap.size W4 V0) := ⟨below_via H4.out.1 hb (Nat.le_refl _), H4.out.2.1.below hb, below_blk hb H4.out.2.2.1.lt H4.out.2.2.1, below_blk hb H4.out.2.2.2.lt H4.out.2.2.2, hb⟩
  have k0 : V0.cell? ⟨w3.heap.size, 0, none⟩ = some (.int .i64 s) := J0.out.2.2.2.1.cell 0
  have k1 : V0.cell? ⟨w3.heap.size, 1, none⟩ = some (.slice a1 n1 c1) := J0.out.2.2.2.1.cell 1
  have k2 : V0.cell? ⟨w3.heap.size, 2, none⟩ = some (.slice a2 n2 c2) := J0.out.2.2.2.1.cell 2
  have k3 : V0.cell? ⟨w3.heap.size, 3, none⟩ = some (.slice a3 n3 c3) := J0.out.2.2.2.1.cell 3
  have k4 : V0.cell? ⟨w3.heap.size, 4, none⟩ = some (.slice a4 n4 c4) := J0.out.2.2.2.1.cell 4
  have k5 : V0.cell? ⟨w3.heap.size, 5, none⟩ = some (.slice a5 n5 c5) := J0.out.2.2.2.1.cell 5
  have q0 : V0.cell? ⟨W4.heap.size, 0, none⟩ = some (.slice xa0 xn0 xc0) := hB.cell 0
  have q1 : V0.cell? ⟨W4.heap.size, 1, none⟩ = some (.slice ya0 yn0 yc0) := hB.cell 1
  clear p0 p1 hB hb
  go_wp2_with fail
  refine (HX0.out _ _ _ _ _ _ _ J0.out.1 ⟨J0.out.2.1.2.1, HK.out.1, HK.out.2⟩ J0.out.2.1.2.2.2.1).mono ?_
  rintro e y0 ⟨rfl, hb⟩
  have L0 : Hid (Below w.heap.size w y0 ∧ KindS y0 s a1 n1 c1 a2 n2 c2 a3 n3 c3 a4 n4 c4 a5 n5 c5 C ∧ Blk 53 y0 w.heap.size kz ∧ Blk 53 y0 w3.heap.size [.int .i64 s, .slice a1 n1 c1, .slice a2 n2 c2, .slice a3 n3 c3, .slice a4 n4 c4, .slice a5 n5 c5] ∧ True) := ⟨below_via J0.out.1 hb (Nat.le_refl _), J0.out.2.1.below hb, below_blk hb J0.out.2.2.1.lt J0.out.2.2.1, below_blk hb J0.out.2.2.2.1.lt J0.out.2.2.2.1, trivial⟩
  clear hb q0 q1 k0 k1 k2 k3 k4 k5
  go_wp2
  rw [rounds_succ]
  have p0 : y0.cell? ⟨bp, 2, none⟩ = some (.slice xa1 xn1 xc1) := (HP.out _ L0.out.1).cell 2
  have p1 : y0.cell? ⟨bp, 3, none⟩ = some (.slice ya1 yn1 yc1) := (HP.out _ L0.out.1).cell 3
  go_upto_region 13 with (fail)
  refine wp_gen (fun W => Blk 24 W y0.heap.size [(.slice xa1 xn1 xc1), (.slice ya1 yn1 yc1)] ∧ Below y0.heap.size y0 W) ⟨Blk.new _ _ _, al1 _⟩ ?_
  rintro V1 ⟨hB, hb⟩
  have J1 : Hid (Below w.heap.size w V1 ∧ KindS V1 s a1 n1 c1 a2 n2 c2 a3 n3 c3 a4 n4 c4 a5 n5 c5 C ∧ Blk 53 V1 w.heap.size kz ∧ Blk 53 V1 w3.heap.size [.int .i64 s, .slice a1 n1 c1, .slice a2 n2 c2, .slice a3 n3 c3, .slice a4 n4 c4, .slice a5 n5 c5]) := ⟨below_via L0.out.1 hb (Nat.le_refl _), L0.out.2.1.below hb, below_blk hb L0.out.2.2.1.lt L0.out.2.2.1, below_blk hb L0.out.2.2.2.1.lt L0.out.2.2.2.1⟩
  have k0 : V1.cell? ⟨w3.heap.size, 0, none⟩ = some (.int .i64 s) := J1.out.2.2.2.cell 0
  have k1 : V1.cell? ⟨w3.heap.size, 1, none⟩ = some (.slice a1 n1 c1) := J1.out.2.2.2.cell 1
  have k2 : V1.cell? ⟨w3.heap.size, 2, none⟩ = some (.slice a2 n2 c2) := J1.out.2.2.2.cell 2
  have k3 : V1.cell? ⟨w3.heap.size, 3, none⟩ = some (.slice a3 n3 c3) := J1.out.2.2.2.cell 3
  have k4 : V1.cell? ⟨w3.heap.size, 4, none⟩ = some (.slice a4 n4 c4) := J1.out.2.2.2.cell 4
  have k5 : V1.cell? ⟨w3.heap.size, 5, none⟩ = some (.slice a5 n5 c5) := J1.out.2.2.2.cell 5
  have q0 : V1.cell? ⟨y0.heap.size, 0, none⟩ = some (.slice xa1 xn1 xc1) := hB.cell 0
  have q1 : V1.cell? ⟨y0.heap.size, 1, none⟩ = some (.slice ya1 yn1 yc1) := hB.cell 1
  clear p0 p1 hB hb
  go_wp2_with fail
  refine (HX1.out _ _ _ _ _ _ _ J1.out.1 ⟨J1.out.2.1.2.1, HK.out.1, HK.out.2⟩ J1.out.2.1.2.2.2.1).mono ?_
  rintro e y1 ⟨rfl, hb⟩
  have L1 : Hid (Below w.heap.size w y1 ∧ KindS y1 s a1 n1 c1 a2 n2 c2 a3 n3 c3 a4 n4 c4 a5 n5 c5 C ∧ Blk 53 y1 w.heap.size kz ∧ Blk 53 y1 w3.heap.size [.int .i64 s, .slice a1 n1 c1, .slice a2 n2 c2, .slice a3 n3 c3, .slice a4 n4 c4, .slice a5 n5 c5] ∧ True) := ⟨below_via J1.out.1 hb (Nat.le_refl _), J1.out.2.1.below hb, below_blk hb J1.out.2.2.1.lt J1.out.2.2.1, below_blk hb J1.out.2.2.2.lt J1.out.2.2.2, trivial⟩
  clear hb q0 q1 k0 k1 k2 k3 k4 k5
  go_wp2
  rw [rounds_succ]
  have k0 : y1.cell? ⟨w3.heap.size, 0, none⟩ = some (.int .i64 s) := L1.out.2.2.2.1.cell 0
  have k1 : y1.cell? ⟨w3.heap.size, 1, none⟩ = some (.slice a1 n1 c1) := L1.out.2.2.2.1.cell 1
  have k2 : y1.cell? ⟨w3.heap.size, 2, none⟩ = some (.slice a2 n2 c2) := L1.out.2.2.2.1.cell 2
  have k3 : y1.cell? ⟨w3.heap.size, 3, none⟩ = some (.slice a3 n3 c3) := L1.out.2.2.2.1.cell 3
  have k4 : y1.cell? ⟨w3.heap.size, 4, none⟩ = some (.slice a4 n4 c4) := L1.out.2.2.2.1.cell 4
  have k5 : y1.cell? ⟨w3.heap.size, 5, none⟩ = some (.slice a5 n5 c5) := L1.out.2.2.2.1.cell 5
  have d0 : y1.cell? ⟨w.heap.size, 0, none⟩ = some (.int .i64 0) := L1.out.2.2.1.cell 0
  have g0 : y1.frozen? ⟨w.heap.size, 0, none⟩ = false := L1.out.2.2.1.frozen 0
  have d1 : y1.cell? ⟨w.heap.size, 1, none⟩ = some (.slice none 0 0) := L1.out.2.2.1.cell 1
  have g1 : y1.frozen? ⟨w.heap.size, 1, none⟩ = false := L1.out.2.2.1.frozen 1
  have d2 : y1.cell? ⟨w.heap.size, 2, none⟩ = some (.slice none 0 0) := L1.out.2.2.1.cell 2
  have g2 : y1.frozen? ⟨w.heap.size, 2, none⟩ = false := L1.out.2.2.1.frozen 2
  have d3 : y1.cell? ⟨w.heap.size, 3, none⟩ = some (.slice none 0 0) := L1.out.2.2.1.cell 3
  have g3 : y1.frozen? ⟨w.heap.size, 3, none⟩ = false := L1.out.2.2.1.frozen 3
  have d4 : y1.cell? ⟨w.heap.size, 4, none⟩ = some (.slice none 0 0) := L1.out.2.2.1.cell 4
  have g4 : y1.frozen? ⟨w.heap.size, 4, none⟩ = false := L1.out.2.2.1.frozen 4
  have d5 : y1.cell? ⟨w.heap.size, 5, none⟩ = some (.slice none 0 0) := L1.out.2.2.1.cell 5
  have g5 : y1.frozen? ⟨w.heap.size, 5, none⟩ = false := L1.out.2.2.1.frozen 5
  go_wp2
  obtain ⟨hF, hU⟩ := Blk.put6 L1.out.2.2.1 (.int .i64 s) (.slice a1 n1 c1) (.slice a2 n2 c2) (.slice a3 n3 c3) (.slice a4 n4 c4) (.slice a5 n5 c5)
  exact bodyPost_ret (results_blk2 rfl rfl hF Try.underlying53 rfl Try.sizeKd rfl) rfl ⟨s, a1, n1, c1, a2, n2, c2, a3, n3, c3, a4, n4, c4, a5, n5, c5, rfl, L1.out.2.1.upd L1.out.2.2.1 hU, hU.below L1.out.1 L1.out.1.size (Nat.le_refl _)⟩
end Go.Proofs.Ytkdclocjijmgpaa
/-
  Curve: Mix, Mul, where nothing is at fault.
-/
namespace Go.Proofs.Ytkdclocjijmgpaa
open Go.RowKit
set_option maxRecDepth 20000
theorem sl_cut {k : IntKind} {w : World} {v : Value} {X : List Int} (h : Sl k w v X) : ∃ a n c, v = .slice a n c ∧ n = X.length := by obtain ⟨a, c, h1, _⟩ := h; exact ⟨a, _, c, h1, rfl⟩
def mixA (C : Cv) (A B X Y : List Int) : Nat × Nat × Nat := mixT C.p (triB (lim C.gx) (lim C.gy)) (triB X Y) ((val A).toNat % C.n) ((val B).toNat % C.n)
theorem crv_p1 {c : Int} {C : Cv} (h : crv c = some C) : 1 < C.p := by
  unfold crv at h
  split at h
  · cases h; decide +kernel
  · split at h
    · cases h; decide +kernel
    · cases h
theorem onB_lt {p b : Nat} {X Y : List Int} (h0 : 0 < p) (h : onB p b X Y = true) : val X < p ∧ val Y < p := by
  unfold onB at h
  split at h
  · rename_i hf; unfold farB at hf; simp at hf; omega
  · split at h
    · assumption
    · cases h

set_option maxHeartbeats 4000000 in
theorem Mix_ok {w : World} (c : Int) (C : Cv) (hc : crv c = some C) (va vb vx vy : Value) (A B X Y : List Int) (hA : Sl .u32 w va A) (hB : Sl .u32 w vb B) (hX : Sl .u32 w vx X) (hY : Sl .u32 w vy Y) (uA : U32s A) (uB : U32s B) (uX : U32s X) (uY : U32s Y) (lA : A.length ≤ 64) (lB : B.length ≤ 64) (lX : X.length ≤ 1000000) (lY : Y.length ≤ 1000000) (ho : onB C.p C.b X Y = true)
    (hg : (mixA C A B X Y).2.2 ≠ 0 → Nat.gcd (mixA C A B X Y).2.2 C.p = 1) :
    Calls Try.prog 18 #[.int .i64 c, va, vb, .agg #[vx, vy]] w fun e w' => ∃ r0 r1 RX RY, e = .returned (.tuple #[.agg [r0, r1].toArray, .int .i64 0]) ∧ jpt C.p (mixA C A B X Y) RX RY ∧ Nb w' r0 RX ∧ Nb w' r1 RY ∧ Below w.heap.size w w' := by
  obtain ⟨ea, en, ec, rfl, rfl⟩ := sl_cut hA
  obtain ⟨fa, fn, fc, rfl, rfl⟩ := sl_cut hB
  obtain ⟨xa, xn, xc, rfl, hxn⟩ := sl_cut hX
  obtain ⟨ya, yn, yc, rfl, hyn⟩ := sl_cut hY
  obtain ⟨en, hen⟩ : ∃ n, A.length = n := ⟨_, rfl⟩
  obtain ⟨fn, hfn⟩ : ∃ n, B.length = n := ⟨_, rfl⟩
  have HM : Hid (∀ W s a1 n1 c1 a2 n2 c2 a3 n3 c3 a4 n4 c4 a5 n5 c5, Below w.heap.size w W → KindS W s a1 n1 c1 a2 n2 c2 a3 n3 c3 a4 n4 c4 a5 n5 c5 C → Calls Try.prog 41 #[.agg #[.int .i64 (s : Nat), .slice a1 n1 c1, .slice a2 n2 c2, .slice a3 n3 c3, .slice a4 n4 c4, .slice a5 n5 c5], .slice ea en ec, .slice fa fn fc, .agg #[.slice xa xn xc, .slice ya yn yc]] W fun e w' => ∃ ra rn rc qa qn qc RX RY, e = .returned (.agg #[.slice ra rn rc, .slice qa qn qc]) ∧ jpt C.p (mixA C A B X Y) RX RY ∧ Nb w' (.slice ra rn rc) RX ∧ Nb w' (.slice qa qn qc) RY ∧ Below W.heap.size W w') := fun W s a1 n1 c1 a2 n2 c2 a3 n3 c3 a4 n4 c4 a5 n5 c5 hW hk => by
    obtain ⟨h1, h2, h3, h4, h5, h6, h7⟩ := crv_ok hc
    refine (Kmix s a1 n1 c1 a2 n2 c2 a3 n3 c3 a4 n4 c4 a5 n5 c5 C ea en ec fa fn fc A B xa xn xc ya yn yc X Y hk ⟨h1, h2, h4, h5, h6, h7, crv_p1 hc⟩ (hen ▸ below_sl hW hA) uA (by omega) (hfn ▸ below_sl hW hB) uB (by omega) (below_sl hW hX) (below_sl hW hY) uX uY lX lY (onB_lt h1 ho).1 (onB_lt h1 ho).2 hg).mono ?_
    rintro e w' ⟨r0, r1, RX, RY, rfl, hj, n0, n1, hb⟩
    obtain ⟨ra, rc, rfl⟩ := n0.form
    obtain ⟨qa, qc, rfl⟩ := n1.form
    exact ⟨ra, _, rc, qa, _, qc, RX, RY, rfl, hj, n0, n1, hb⟩
  have HS : Hid (∀ W b1 T1 b2 T2, Below w.heap.size w W → Blk T1 W b1 [.slice ea en ec, .slice fa fn fc] → Blk T2 W b2 [.slice xa xn xc, .slice ya yn yc] → Calls Try.prog 24 #[.int .i64 c, .slice (some ⟨b1, 0, none⟩) 2 2, .slice (some ⟨b2, 0, none⟩) 1 1] W fun e w' => ∃ s a1 n1 c1 a2 n2 c2 a3 n3 c3 a4 n4 c4 a5 n5 c5, e = .returned (.tuple #[.agg [.int .i64 (s : Nat), .slice a1 n1 c1, .slice a2 n2 c2, .slice a3 n3 c3, .slice a4 n4 c4, .slice a5 n5 c5].toArray, .int .i64 0]) ∧ KindS w' s a1 n1 c1 a2 n2 c2 a3 n3 c3 a4 n4 c4 a5 n5 c5 C ∧ Below W.heap.size W w') := fun W b1 T1 b2 T2 hW hb1 hb2 =>
    asked_21 c C hc ea en ec (by omega) fa fn fc (by omega) b1 T1 hb1 b2 T2 (.slice xa xn xc) (.slice ya yn yc) X Y hb2 (below_sl hW hX) (below_sl hW hY) uX uY lX lY ho
  rw [hen, hfn]
  generalize mixA C A B X Y = M at HM hg ⊢
  clear hc hA hB hX hY uA uB uX uY lA lB lX lY ho hg hxn hyn hen hfn
  go_enter Try.func18, Try.ntmps18
  go_upto_region 1 with (refine wpList_boxR rfl 24 (.tmp 3) rfl #[.slice xa xn xc, .slice ya yn yc] rfl ?_)
  refine wp_gen (fun W => Blk 24 W w.heap.size [.slice xa xn xc, .slice ya yn yc] ∧ Blk 24 W (w.heap.size + 1) [.slice none 0 0, .slice none 0 0] ∧ Below w.heap.size w W) ⟨(Blk.new _ w _).alloc _, by have := Blk.new 24 (w.alloc (.cells [.slice xa xn xc, .slice ya yn yc].toArray 24)) [.slice none 0 0, .slice none 0 0]; rw [World.size_alloc] at this; exact this, (al1 _).alloc (by simp) _⟩ ?_
  rintro W2 ⟨hB, hR, hBw⟩
  have H2 : Hid (Below w.heap.size w W2 ∧ Blk 24 W2 w.heap.size [.slice xa xn xc, .slice ya yn yc] ∧ Blk 24 W2 (w.heap.size + 1) [.slice none 0 0, .slice none 0 0]) := ⟨hBw, hB, hR⟩
  clear hB hR hBw
  go_wp2_with (refine wpList_load_mid rfl 24 (.tmp 7) rfl w.heap.size 0 rfl [.slice xa xn xc, .slice ya yn yc] _ (H2.out.2.1.alloc _).whole Try.underlying24 rfl (by kernel_rfl) ?_)
  refine (HS.out _ W2.heap.size 22 (W2.heap.size + 1) 24 (below_via H2.out.1 ((al1 _).alloc (by simp) _) (Nat.le_refl _)) ((Blk.new _ W2 _).alloc _) (by have := Blk.new 24 (W2.alloc (.cells [.slice ea en ec, .slice fa fn fc].toArray 22)) [.slice xa xn xc, .slice ya yn yc]; rw [World.size_alloc] at this; exact this)).mono ?_
  rintro e w3 ⟨s, a1, n1, c1, a2, n2, c2, a3, n3, c3, a4, n4, c4, a5, n5, c5, rfl, hk, hb3⟩
  have hb23 : Below W2.heap.size W2 w3 := below_via ((al1 _).alloc (by simp) _) hb3 (Nat.le_refl _)
  have H3 : Hid (Below w.heap.size w w3 ∧ KindS w3 s a1 n1 c1 a2 n2 c2 a3 n3 c3 a4 n4 c4 a5 n5 c5 C ∧ Blk 24 w3 w.heap.size [.slice xa xn xc, .slice ya yn yc] ∧ Blk 24 w3 (w.heap.size + 1) [.slice none 0 0, .slice none 0 0]) := ⟨below_via H2.out.1 hb23 (Nat.le_refl _), hk, below_blk hb23 H2.out.2.1.lt H2.out.2.1, below_blk hb23 H2.out.2.2.lt H2.out.2.2⟩
  clear hb3 hb23 hk HS
  go_upto_region 2 with (fail)
  refine wp_gen (fun W => Blk 53 W w3.heap.size [.int .i64 s, .slice a1 n1 c1, .slice a2 n2 c2, .slice a3 n3 c3, .slice a4 n4 c4, .slice a5 n5 c5] ∧ Below w3.heap.size w3 W) ⟨Blk.new _ _ _, al1 _⟩ ?_
  rintro W4 ⟨hB4, hb4⟩
  have H4 : Hid (Below w.heap.size w W4 ∧ KindS W4 s a1 n1 c1 a2 n2 c2 a3 n3 c3 a4 n4 c4 a5 n5 c5 C ∧ Blk 24 W4 w.heap.size [.slice xa xn xc, .slice ya yn yc] ∧ Blk 24 W4 (w.heap.size + 1) [.slice none 0 0, .slice none 0 0]) := ⟨below_via H3.out.1 hb4 (Nat.le_refl _), H3.out.2.1.below hb4, below_blk hb4 H3.out.2.2.1.lt H3.out.2.2.1, below_blk hb4 H3.out.2.2.2.lt H3.out.2.2.2⟩
  have k0 : W4.cell? ⟨w3.heap.size, 0, none⟩ = some (.int .i64 s) := hB4.cell 0
  have k1 : W4.cell? ⟨w3.heap.size, 1, none⟩ = some (.slice a1 n1 c1) := hB4.cell 1
  have k2 : W4.cell? ⟨w3.heap.size, 2, none⟩ = some (.slice a2 n2 c2) := hB4.cell 2
  have k3 : W4.cell? ⟨w3.heap.size, 3, none⟩ = some (.slice a3 n3 c3) := hB4.cell 3
  have k4 : W4.cell? ⟨w3.heap.size, 4, none⟩ = some (.slice a4 n4 c4) := hB4.cell 4
  have k5 : W4.cell? ⟨w3.heap.size, 5, none⟩ = some (.slice a5 n5 c5) := hB4.cell 5
  have p0 : W4.cell? ⟨w.heap.size, 0, none⟩ = some (.slice xa xn xc) := H4.out.2.2.1.cell 0
  have p1 : W4.cell? ⟨w.heap.size, 1, none⟩ = some (.slice ya yn yc) := H4.out.2.2.1.cell 1
  clear hB4 hb4
  go_wp2_with fail
  refine (HM.out _ _ _ _ _ _ _ _ _ _ _ _ _ _ _ _ _ H4.out.1 H4.out.2.1).mono ?_
  rintro e w5 ⟨ra, rn, rc, qa, qn, qc, RX, RY, rfl, hj, n0, n1, hb5⟩
  have H5 : Hid (Below w.heap.size w w5 ∧ jpt C.p M RX RY ∧ Nb w5 (.slice ra rn rc) RX ∧ Nb w5 (.slice qa qn qc) RY ∧ Blk 24 w5 (w.heap.size + 1) [.slice none 0 0, .slice none 0 0]) := ⟨below_via H4.out.1 hb5 (Nat.le_refl _), hj, n0, n1, below_blk hb5 H4.out.2.2.2.lt H4.out.2.2.2⟩
  have d0 : w5.cell? ⟨w.heap.size + 1, 0, none⟩ = some (.slice none 0 0) := H5.out.2.2.2.2.cell 0
  have d1 : w5.cell? ⟨w.heap.size + 1, 1, none⟩ = some (.slice none 0 0) := H5.out.2.2.2.2.cell 1
  have g0 := H5.out.2.2.2.2.frozen 0; have g1 := H5.out.2.2.2.2.frozen 1
  clear k0 k1 k2 k3 k4 k5 p0 p1 hj n0 n1 hb5
  go_wp2
  obtain ⟨hF, hU⟩ := Blk.put2 H5.out.2.2.2.2 (.slice ra rn rc) (.slice qa qn qc)
  have hbl := hU.below H5.out.1 H5.out.1.size (Nat.le_succ _)
  exact bodyPost_ret (results_blk2 rfl rfl hF Try.underlying24 rfl Try.sizePt rfl) rfl ⟨_, _, RX, RY, rfl, H5.out.2.1, H5.out.2.2.1.upd H5.out.2.2.2.2 noInts hU, H5.out.2.2.2.1.upd H5.out.2.2.2.2 noInts hU, hbl⟩
set_option maxHeartbeats 4000000 in
theorem Mul_ok {w : World} (c : Int) (C : Cv) (hc : crv c = some C) (vb vx vy : Value) (B X Y : List Int) (hB : Sl .u32 w vb B) (hX : Sl .u32 w vx X) (hY : Sl .u32 w vy Y) (uB : U32s B) (uX : U32s X) (uY : U32s Y) (lB : B.length ≤ 64) (lX : X.length ≤ 1000000) (lY : Y.length ≤ 1000000) (ho : onB C.p C.b X Y = true)
    (hg : (mixA C [] B X Y).2.2 ≠ 0 → Nat.gcd (mixA C [] B X Y).2.2 C.p = 1) :
    Calls Try.prog 15 #[.int .i64 c, vb, .agg #[vx, vy]] w fun e w' => ∃ r0 r1 RX RY, e = .returned (.tuple #[.agg [r0, r1].toArray, .int .i64 0]) ∧ jpt C.p (mixA C [] B X Y) RX RY ∧ Nb w' r0 RX ∧ Nb w' r1 RY ∧ Below w.heap.size w w' := by
  obtain ⟨fa, fn, fc, rfl, hfn⟩ := sl_cut hB
  obtain ⟨xa, xn, xc, rfl, hxn⟩ := sl_cut hX
  obtain ⟨ya, yn, yc, rfl, hyn⟩ := sl_cut hY
  have HM : Hid (∀ W, Below w.heap.size w W → Calls Try.prog 18 #[.int .i64 c, .slice none 0 0, .slice fa fn fc, .agg #[.slice xa xn xc, .slice ya yn yc]] W fun e w' => ∃ ra rn rc qa qn qc RX RY, e = .returned (.tuple #[.agg #[.slice ra rn rc, .slice qa qn qc], .int .i64 0]) ∧ jpt C.p (mixA C [] B X Y) RX RY ∧ Nb w' (.slice ra rn rc) RX ∧ Nb w' (.slice qa qn qc) RY ∧ Below W.heap.size W w') := fun W hW => by
    refine (Mix_ok c C hc (.slice none 0 0) (.slice fa fn fc) _ _ [] B X Y (nil_nb W) (below_sl hW hB) (below_sl hW hX) (below_sl hW hY) (fun _ h => by cases h) uB uX uY (by decide) lB lX lY ho hg).mono ?_
    rintro e w' ⟨r0, r1, RX, RY, rfl, hj, n0, n1, hb⟩
    obtain ⟨ra, rc, rfl⟩ := n0.form
    obtain ⟨qa, qc, rfl⟩ := n1.form
    exact ⟨ra, _, rc, qa, _, qc, RX, RY, rfl, hj, n0, n1, hb⟩
  generalize mixA C [] B X Y = M at HM hg ⊢
  clear hc hB hX hY uB uX uY lB lX lY ho hg hxn hyn hfn
  go_enter Try.func15, Try.ntmps15
  go_upto_region 1 with (refine wpList_boxR rfl 24 (.tmp 2) rfl #[.slice xa xn xc, .slice ya yn yc] rfl ?_)
  refine wp_gen (fun W => Blk 24 W w.heap.size [.slice xa xn xc, .slice ya yn yc] ∧ Blk 24 W (w.heap.size + 1) [.slice none 0 0, .slice none 0 0] ∧ Below w.heap.size w W) ⟨(Blk.new _ w _).alloc _, by have := Blk.new 24 (w.alloc (.cells [.slice xa xn xc, .slice ya yn yc].toArray 24)) [.slice none 0 0, .slice none 0 0]; rw [World.size_alloc] at this; exact this, (al1 _).alloc (by simp) _⟩ ?_
  rintro W2 ⟨hB, hR, hBw⟩
  have H2 : Hid (Below w.heap.size w W2 ∧ Blk 24 W2 (w.heap.size + 1) [.slice none 0 0, .slice none 0 0]) := ⟨hBw, hR⟩
  have p0 : W2.cell? ⟨w.heap.size, 0, none⟩ = some (.slice xa xn xc) := hB.cell 0
  have p1 : W2.cell? ⟨w.heap.size, 1, none⟩ = some (.slice ya yn yc) := hB.cell 1
  clear hB hR hBw
  go_wp2_with fail
  refine (HM.out _ H2.out.1).mono ?_
  rintro e w5 ⟨ra, rn, rc, qa, qn, qc, RX, RY, rfl, hj, n0, n1, hb5⟩
  have H5 : Hid (Below w.heap.size w w5 ∧ jpt C.p M RX RY ∧ Nb w5 (.slice ra rn rc) RX ∧ Nb w5 (.slice qa qn qc) RY ∧ Blk 24 w5 (w.heap.size + 1) [.slice none 0 0, .slice none 0 0]) := ⟨below_via H2.out.1 hb5 (Nat.le_refl _), hj, n0, n1, below_blk hb5 H2.out.2.lt H2.out.2⟩
  have d0 : w5.cell? ⟨w.heap.size + 1, 0, none⟩ = some (.slice none 0 0) := H5.out.2.2.2.2.cell 0
  have d1 : w5.cell? ⟨w.heap.size + 1, 1, none⟩ = some (.slice none 0 0) := H5.out.2.2.2.2.cell 1
  have g0 := H5.out.2.2.2.2.frozen 0; have g1 := H5.out.2.2.2.2.frozen 1
  clear p0 p1 hj n0 n1 hb5
  go_wp2
  obtain ⟨hF, hU⟩ := Blk.put2 H5.out.2.2.2.2 (.slice ra rn rc) (.slice qa qn qc)
  have hbl := hU.below H5.out.1 H5.out.1.size (Nat.le_succ _)
  exact bodyPost_ret (results_blk2 rfl rfl hF Try.underlying24 rfl Try.sizePt rfl) rfl ⟨_, _, RX, RY, rfl, H5.out.2.1, H5.out.2.2.1.upd H5.out.2.2.2.2 noInts hU, H5.out.2.2.2.1.upd H5.out.2.2.2.2 noInts hU, hbl⟩

end Go.Proofs.Ytkdclocjijmgpaa
