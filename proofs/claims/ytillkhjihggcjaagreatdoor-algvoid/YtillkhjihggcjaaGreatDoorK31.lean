/-
  Alg: the law AlgReads.
-/
import Derived.Test.YtillkhjihggcjaaGreatDoorK30
namespace Go.Proofs.YtillkhjihggcjaaGreatDoor
open Go.RowKit
set_option maxRecDepth 20000
set_option maxHeartbeats 4000000 in
theorem AlgReads_any {w : World} {an ak : Addr} (hG : Glb w an ak) (hT : P10 w) (x : El) (a1 : Option Addr) (n1 c1 : Nat) (a2 : Option Addr) (n2 c2 : Nat) (hD : Sl .u8 w (.slice a1 n1 c1) x.d) (uD : U8s x.d) (lD : x.d.length = n1) :
    Calls Tryz.prog 3 #[.agg #[.int .i64 x.cl, .int .i64 x.tg, .bool x.co, .slice a1 n1 c1, .slice a2 n2 c2]] w fun e w' => e = .returned (.bool true) ∧ Below w.heap.size w w' := by
  have HL : Hid (∀ W, Below w.heap.size w W → Calls Tryz.prog 6 #[] W fun e w' => e = .returned (.bool true) ∧ Below W.heap.size W w') := fun W h => live11_any (hG.below h) (hT.below h)
  by_cases hn : n1 ≤ 5000
  · have HA : Hid (∀ W, Below w.heap.size w W → Calls Tryz.prog 7 #[.agg #[.int .i64 x.cl, .int .i64 x.tg, .bool x.co, .slice a1 n1 c1, .slice a2 n2 c2]] W fun e w' => e = .returned (.tuple #[.int .i64 (digS x), .int .i64 (errD (digS x))]) ∧ Below W.heap.size W w') := fun W h => Digest_any (hG.below h) (hT.below h) x a1 n1 c1 a2 n2 c2 (below_sl h hD) uD (by omega)
    have HB : Hid (∀ W, Below w.heap.size w W → Calls Tryz.prog 8 #[.agg #[.int .i64 x.cl, .int .i64 x.tg, .bool x.co, .slice a1 n1 c1, .slice a2 n2 c2]] W fun e w' => e = .returned (.tuple #[.int .i64 (digS x), .int .i64 (errD (digS x))]) ∧ Below W.heap.size W w') := fun W h => RDigest_any x a1 n1 c1 a2 n2 c2 (below_sl h hD) uD (by omega)
    have HC : Hid (∀ W, Below w.heap.size w W → Calls Tryz.prog 9 #[.agg #[.int .i64 x.cl, .int .i64 x.tg, .bool x.co, .slice a1 n1 c1, .slice a2 n2 c2]] W fun e w' => e = .returned (.tuple #[.agg #[.int .i64 (sgV (sgnS x)).k, .int .i64 (sgV (sgnS x)).d, .int .i64 (sgV (sgnS x)).m, .int .i64 (sgV (sgnS x)).s], .int .i64 (sgE (sgnS x))]) ∧ Below W.heap.size W w') := fun W h => Sign_any (hG.below h) (hT.below h) x a1 n1 c1 a2 n2 c2 (below_sl h hD) uD (by omega)
    have HD : Hid (∀ W, Below w.heap.size w W → Calls Tryz.prog 10 #[.agg #[.int .i64 x.cl, .int .i64 x.tg, .bool x.co, .slice a1 n1 c1, .slice a2 n2 c2]] W fun e w' => e = .returned (.tuple #[.agg #[.int .i64 (sgV (sgnS x)).k, .int .i64 (sgV (sgnS x)).d, .int .i64 (sgV (sgnS x)).m, .int .i64 (sgV (sgnS x)).s], .int .i64 (sgE (sgnS x))]) ∧ Below W.heap.size W w') := fun W h => RSign_any x a1 n1 c1 a2 n2 c2 (below_sl h hD) uD (by omega)
    obtain ⟨dg, hdg⟩ : ∃ d, digS x = d := ⟨_, rfl⟩
    obtain ⟨de, hde⟩ : ∃ d, errD dg = d := ⟨_, rfl⟩
    obtain ⟨⟨A0, A1, A2, A3⟩, hA⟩ : ∃ A, sgV (sgnS x) = A := ⟨_, rfl⟩
    obtain ⟨er, her⟩ : ∃ er, sgE (sgnS x) = er := ⟨_, rfl⟩
    rw [hdg, hde] at HA HB
    rw [hA, her] at HC HD
    obtain ⟨cl, tg, co, D, R⟩ := x
    simp only [] at HA HB HC HD ⊢
    have hn' : decide ((5000 : Int) < (n1 : Int)) = false := by simp; omega
    clear hG hT hD uD lD hdg hde hA her hn
    go_enter Tryz.func3, Tryz.ntmps3
    go_upto_region 1 with (fail)
    refine wp_gen (fun W => Blk 24 W w.heap.size [.int .i64 cl, .int .i64 tg, .bool co, .slice a1 n1 c1, .slice a2 n2 c2] ∧ Below w.heap.size w W) ⟨Blk.new _ w _, al1 _⟩ ?_
    rintro W1 ⟨hB, hBw⟩
    have H1 : Hid (Below w.heap.size w W1 ∧ ∀ W, Below W1.heap.size W1 W → W.cell? ⟨w.heap.size, 0, none⟩ = some (.int .i64 cl) ∧ W.cell? ⟨w.heap.size, 1, none⟩ = some (.int .i64 tg) ∧ W.cell? ⟨w.heap.size, 2, none⟩ = some (.bool co) ∧ W.cell? ⟨w.heap.size, 3, none⟩ = some (.slice a1 n1 c1) ∧ W.cell? ⟨w.heap.size, 4, none⟩ = some (.slice a2 n2 c2)) := ⟨hBw, fun W h => by
      have q := below_blk h hB.lt hB
      exact ⟨q.cell 0, q.cell 1, q.cell 2, q.cell 3, q.cell 4⟩⟩
    clear hB hBw
    obtain ⟨x0, x1, x2, x3, x4⟩ := H1.out.2 W1 (Below.refl _ _)
    go_wp2_with fail
    refine (HA.out _ H1.out.1).mono ?_
    rintro e w2 ⟨rfl, hb2⟩
    have H2 : Hid (Below W1.heap.size W1 w2 ∧ Below w.heap.size w w2) := ⟨hb2, below_via H1.out.1 hb2 (Nat.le_refl _)⟩
    clear hb2 x0 x1 x2 x3 x4
    obtain ⟨x0, x1, x2, x3, x4⟩ := H1.out.2 w2 H2.out.1
    go_wp2_with fail
    refine (HB.out _ H2.out.2).mono ?_
    rintro e w3 ⟨rfl, hb3⟩
    have H3 : Hid (Below W1.heap.size W1 w3 ∧ Below w.heap.size w w3) := ⟨below_via H2.out.1 hb3 (Nat.le_refl _), below_via H2.out.2 hb3 (Nat.le_refl _)⟩
    clear hb3 x0 x1 x2 x3 x4
    obtain ⟨x0, x1, x2, x3, x4⟩ := H1.out.2 w3 H3.out.1
    go_wp2_with fail
    refine (HC.out _ H3.out.2).mono ?_
    rintro e w4 ⟨rfl, hb4⟩
    have H4 : Hid (Below W1.heap.size W1 w4 ∧ Below w.heap.size w w4) := ⟨below_via H3.out.1 hb4 (Nat.le_refl _), below_via H3.out.2 hb4 (Nat.le_refl _)⟩
    clear hb4 x0 x1 x2 x3 x4
    go_upto_region 6 with (fail)
    refine wp_gen (fun W => Blk 32 W w4.heap.size [.int .i64 A0, .int .i64 A1, .int .i64 A2, .int .i64 A3] ∧ Below w4.heap.size w4 W) ⟨Blk.new _ w4 _, al1 _⟩ ?_
    rintro W5 ⟨hB, hBw⟩
    have H5 : Hid (Below W1.heap.size W1 W5 ∧ Below w.heap.size w W5 ∧ ∀ W, Below W5.heap.size W5 W → W.cell? ⟨w4.heap.size, 0, none⟩ = some (.int .i64 A0) ∧ W.cell? ⟨w4.heap.size, 1, none⟩ = some (.int .i64 A1) ∧ W.cell? ⟨w4.heap.size, 2, none⟩ = some (.int .i64 A2) ∧ W.cell? ⟨w4.heap.size, 3, none⟩ = some (.int .i64 A3)) := ⟨below_via H4.out.1 hBw (Nat.le_refl _), below_via H4.out.2 hBw (Nat.le_refl _), fun W h => by
      have q := below_blk h hB.lt hB
      exact ⟨q.cell 0, q.cell 1, q.cell 2, q.cell 3⟩⟩
    clear hB hBw
    obtain ⟨x0, x1, x2, x3, x4⟩ := H1.out.2 W5 H5.out.1
    go_wp2_with fail
    refine (HD.out _ H5.out.2.1).mono ?_
    rintro e w6 ⟨rfl, hb6⟩
    have H6 : Hid (Below W5.heap.size W5 w6 ∧ Below w.heap.size w w6) := ⟨hb6, below_via H5.out.2.1 hb6 (Nat.le_refl _)⟩
    clear hb6 x0 x1 x2 x3 x4
    go_upto_region 7 with (fail)
    refine wp_gen (fun W => Blk 32 W w6.heap.size [.int .i64 A0, .int .i64 A1, .int .i64 A2, .int .i64 A3] ∧ Below w6.heap.size w6 W) ⟨Blk.new _ w6 _, al1 _⟩ ?_
    rintro W7 ⟨hB, hBw⟩
    have y0 : W7.cell? ⟨w6.heap.size, 0, none⟩ = some (.int .i64 A0) := hB.cell 0
    have y1 : W7.cell? ⟨w6.heap.size, 1, none⟩ = some (.int .i64 A1) := hB.cell 1
    have y2 : W7.cell? ⟨w6.heap.size, 2, none⟩ = some (.int .i64 A2) := hB.cell 2
    have y3 : W7.cell? ⟨w6.heap.size, 3, none⟩ = some (.int .i64 A3) := hB.cell 3
    obtain ⟨z0, z1, z2, z3⟩ := H5.out.2.2 W7 (below_via H6.out.1 hBw (Nat.le_refl _))
    have H7 : Hid (Below w.heap.size w W7) := below_via H6.out.2 hBw (Nat.le_refl _)
    clear hB hBw
    go_wp2_with (first | (go_at_call 11; refine (num11_any _).mono ?_; rintro e w' ⟨rfl, rfl⟩) | (go_at_call 6; refine (HL.out _ H7.out).mono ?_; rintro e w8 ⟨rfl, hb8⟩; have H8 : Hid (Below w.heap.size w w8) := below_via H7.out hb8 (Nat.le_refl _); clear hb8))
    go_ret
    exact ⟨by simp, H8.out⟩
  · have hn' : decide ((5000 : Int) < (n1 : Int)) = true := by simp; omega
    obtain ⟨cl, tg, co, D, R⟩ := x
    simp only []
    clear hG hT hD uD lD hn
    go_enter Tryz.func3, Tryz.ntmps3
    go_wp2_with fail
    refine (HL.out _ (al1 _)).mono ?_
    rintro e w1 ⟨rfl, hb1⟩
    have H1 : Hid (Below w.heap.size w w1) := below_via (al1 _) hb1 (Nat.le_refl _)
    clear hb1
    go_wp2
    go_ret
    exact ⟨rfl, H1.out⟩
end Go.Proofs.YtillkhjihggcjaaGreatDoor
/-
  Der: the table of powers, whole, off the tied list.
-/
namespace Go.Proofs.YtillkhjihggcjaaGreatDoor
open Go.ChangeShapes Go.WideShapes Go.ChangeAt Go.RowKit
theorem Tryz.lf_pow2 : Rows.algReadsRow.laid.filter (fun x => x.1 == "internal/strconv.uint64pow10") = [("internal/strconv.uint64pow10", Lib.tabData .u64 Lib.pow10Tab)] := by kernel_rfl
theorem p10_of_laid {W : World} (h : laidMetH Tryz.prog Rows.algReadsRow.laid W) : P10 W := by
  have h1 := laidMetH.filter (fun x => x.1 == "internal/strconv.uint64pow10") h
  rw [Tryz.lf_pow2] at h1
  exact Lib.tabIs_of_head (rest := []) Tryz.g_pow Tryz.gt_pow Tryz.underlying224 Tryz.u64 Tryz.c64 Tryz.gc_pow (laid_one rfl h1)
structure TabO (w : World) : Prop where
  tab : Tab w
  p10 : P10 w
end Go.Proofs.YtillkhjihggcjaaGreatDoor
