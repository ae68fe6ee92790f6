/-
  Clock: of two moments the later one has more seconds.
-/
import Derived.Test.YtnaiialcjimhbaaDoorC17
namespace Go.Proofs.YtnaiialcjimhbaaDoor
open Go.RowKit
theorem Tryd.sizeA6 : (Tryd.prog.info? 73).map (·.size) = some 6 := by kernel_rfl
/-- behind, by places -/
def bhd : List Int → List Int → Bool
  | x :: l, y :: k => if x = y then bhd l k else decide (y < x)
  | _, _ => false
def Mo.ns (t : Mo) : List Int := [t.Y, t.M, t.D, t.h, t.m, t.s]
theorem Mo.bhd_lt (a b : Mo) : bhd a.ns b.ns = true ↔ Mo.Lt b a := by
  obtain ⟨aY, aM, aD, ah, am, az⟩ := a
  obtain ⟨bY, bM, bD, bh, bm, bz⟩ := b
  simp only [Mo.ns, bhd, Mo.Lt]
  by_cases h1 : aY = bY
  · by_cases h2 : aM = bM
    · by_cases h3 : aD = bD
      · by_cases h4 : ah = bh
        · by_cases h5 : am = bm
          · by_cases h6 : az = bz
            · simp [h1, h2, h3, h4, h5, h6]
            · simp [h1, h2, h3, h4, h5, h6]
          · simp [h1, h2, h3, h4, h5]; omega
        · simp [h1, h2, h3, h4]; omega
      · simp [h1, h2, h3]; omega
    · simp [h1, h2]; omega
  · simp [h1]; omega
theorem arr6 {w : World} {b : Nat} {xs : List Int} (h : Arr .i64 73 w b xs) (hl : xs.length = 6) (i : Nat) (hi : i < 6) : w.cell? ⟨b, i, none⟩ = some (.int .i64 (xs.getD i 0)) := h.cell i (by omega)
theorem bhd_step (xs ys : List Int) (hx : xs.length = 6) (hy : ys.length = 6) (i : Nat) (hi : i < 6) (h : xs.getD i 0 = ys.getD i 0) : bhd (xs.drop i) (ys.drop i) = bhd (xs.drop (i + 1)) (ys.drop (i + 1)) := by
  rw [List.drop_eq_getElem_cons (show i < xs.length by omega), List.drop_eq_getElem_cons (show i < ys.length by omega)]
  simp [show i < xs.length by omega, show i < ys.length by omega] at h
  rw [bhd, if_pos h]
theorem bhd_last (xs ys : List Int) (hx : xs.length = 6) (hy : ys.length = 6) (i : Nat) (hi : i < 6) (h : ¬ xs.getD i 0 = ys.getD i 0) : bhd (xs.drop i) (ys.drop i) = decide (ys.getD i 0 < xs.getD i 0) := by
  rw [List.drop_eq_getElem_cons (show i < xs.length by omega), List.drop_eq_getElem_cons (show i < ys.length by omega)]
  simp only [List.getD_eq_getElem?_getD, List.getElem?_eq_getElem (show i < xs.length by omega), List.getElem?_eq_getElem (show i < ys.length by omega), Option.getD_some] at h ⊢
  rw [bhd, if_neg h]
set_option maxRecDepth 100000 in
set_option maxHeartbeats 4000000 in
theorem behind_any {w : World} (a b : Mo) : Calls Tryd.prog 28 #[.agg a.cells.toArray, .agg b.cells.toArray] w fun e w' => e = .returned (.bool (bhd a.ns b.ns)) ∧ Below w.heap.size w w' := by
  obtain ⟨xs, hxs⟩ : ∃ xs, a.ns = xs := ⟨_, rfl⟩
  obtain ⟨ys, hys⟩ : ∃ ys, b.ns = ys := ⟨_, rfl⟩
  have HX : Hid (xs.length = 6 ∧ ys.length = 6 ∧ a.ns = xs ∧ b.ns = ys) := ⟨by rw [← hxs]; rfl, by rw [← hys]; rfl, hxs, hys⟩
  rw [hxs, hys]
  clear hxs hys
  obtain ⟨aY, aM, aD, ah, am, az⟩ := a
  obtain ⟨bY, bM, bD, bh, bm, bz⟩ := b
  unfold Mo.cells
  go_enter Tryd.func28, Tryd.ntmps28
  go_wp2_with fail
  refine wp_gen (fun W => Below w.heap.size w W ∧ Arr .i64 73 W (w.heap.size + 1 + 1) xs ∧ Arr .i64 73 W (w.heap.size + 1 + 1 + 1) ys) ?_ ?_
  · refine ⟨al2' (al2' (al2' (al1 _))), ?_, arr_nw (by simp) (by rw [← HX.out.2.2.2]; rfl)⟩
    exact Blk.alloc (arr_nw (by simp) (by rw [← HX.out.2.2.1]; rfl)) _
  rintro w1 ⟨hb1, hA1, hA2⟩
  have H1 : Hid (Below w.heap.size w w1 ∧ Arr .i64 73 w1 (w.heap.size + 1 + 1) xs ∧ Arr .i64 73 w1 (w.heap.size + 1 + 1 + 1) ys) := ⟨hb1, hA1, hA2⟩
  clear hb1 hA1 hA2
  obtain ⟨p, hp⟩ : ∃ p, w.heap.size + 1 + 1 = p := ⟨_, rfl⟩
  obtain ⟨q, hq⟩ : ∃ q, w.heap.size + 1 + 1 + 1 = q := ⟨_, rfl⟩
  rw [hq] at H1 ⊢
  rw [hp] at H1 ⊢
  clear hp hq
  go_loopw [7] (fun iv wr => ∃ i : Nat, i ≤ 6 ∧ iv = .int .i64 i ∧ bhd xs ys = bhd (xs.drop i) (ys.drop i) ∧ Below w.heap.size w wr ∧ Arr .i64 73 wr p xs ∧ Arr .i64 73 wr q ys) (fun iv _ => 6 - (intOf iv).toNat)
  case atStart => exact ⟨0, by omega, rfl, rfl, H1.out⟩
  case round =>
    obtain ⟨i, hi, rfl, hbh, hW⟩ := hrel
    have HW : Hid (bhd xs ys = bhd (xs.drop i) (ys.drop i) ∧ Below w.heap.size w wr ∧ Arr .i64 73 wr p xs ∧ Arr .i64 73 wr q ys) := ⟨hbh, hW⟩
    clear hbh hW
    by_cases hlt : i < 6
    · obtain ⟨x, hx⟩ : ∃ x, xs.getD i 0 = x := ⟨_, rfl⟩
      obtain ⟨y, hy⟩ : ∃ y, ys.getD i 0 = y := ⟨_, rfl⟩
      have cx : wr.cell? ⟨p, i, none⟩ = some (.int .i64 x) := by rw [← hx]; exact arr6 HW.out.2.2.1 HX.out.1 i hlt
      have cy : wr.cell? ⟨q, i, none⟩ = some (.int .i64 y) := by rw [← hy]; exact arr6 HW.out.2.2.2 HX.out.2.1 i hlt
      have hiI : (i : Int) < 6 := by omega
      by_cases hxy : x = y
      · have HS : Hid (bhd (xs.drop i) (ys.drop i) = bhd (xs.drop (i + 1)) (ys.drop (i + 1))) := bhd_step xs ys HX.out.1 HX.out.2.1 i hlt (by rw [hx, hy, hxy])
        clear hx hy
        go_upto_region 6 with (fail)
        go_quiet (fail)
        go_wp2
        exact ⟨⟨i + 1, by omega, by go_num, HW.out.1.trans HS.out, below_drewN _ HW.out.2.1, HW.out.2.2.1, HW.out.2.2.2⟩, by simp [intOf]; omega⟩
      · have HS : Hid (bhd (xs.drop i) (ys.drop i) = decide (y < x)) := by
          have := bhd_last xs ys HX.out.1 HX.out.2.1 i hlt (by rw [hx, hy]; exact hxy)
          rw [hx, hy] at this; exact this
        clear hx hy
        go_upto_region 6 with (fail)
        go_quiet (fail)
        go_upto_region 7 with (fail)
        refine wp_gen (fun W => Below w.heap.size w W ∧ W.cell? ⟨p, i, none⟩ = some (.int .i64 x) ∧ W.cell? ⟨q, i, none⟩ = some (.int .i64 y)) ⟨below_drewN _ HW.out.2.1, cx, cy⟩ ?_
        clear cx cy
        rintro w2 ⟨hb2, cx, cy⟩
        go_quiet (fail)
        go_wp2
        go_ret
        exact ⟨by rw [HW.out.1, HS.out]; rfl, below_drewN _ hb2⟩
    · obtain rfl : i = 6 := by omega
      go_wp2
      go_ret
      refine ⟨?_, HW.out.2.1⟩
      rw [HW.out.1, List.drop_of_length_le (by have := HX.out.1; omega)]; rfl
set_option maxRecDepth 100000 in
set_option maxHeartbeats 4000000 in
theorem ClockOrder_any {w : World} (t u : Mo) (hT : Tab w) : Calls Tryd.prog 8 #[.agg t.cells.toArray, .agg u.cells.toArray] w fun e w' => e = .returned (.bool true) ∧ Below w.heap.size w w' := by
  have HT : Hid (Tab w) := hT
  clear hT
  have HS : Hid (∀ w : World, Calls Tryd.prog 9 #[.agg t.cells.toArray] w fun e w' => SecondsIs t e ∧ Below w.heap.size w w') := fun w => Seconds_any t
  have HS' : Hid (∀ w : World, Calls Tryd.prog 9 #[.agg u.cells.toArray] w fun e w' => SecondsIs u e ∧ Below w.heap.size w w') := fun w => Seconds_any u
  obtain ⟨bb, hbb⟩ : ∃ bb, bhd t.ns u.ns = bb := ⟨_, rfl⟩
  have HB : Hid (∀ w : World, Calls Tryd.prog 28 #[.agg t.cells.toArray, .agg u.cells.toArray] w fun e w' => e = .returned (.bool bb) ∧ Below w.heap.size w w') := fun w => by rw [← hbb]; exact behind_any t u
  have HL : Hid (t.Ok → u.Ok → (decide (u.sec < t.sec) = bb) ∧ (t.sec = u.sec → t = u)) := fun h k => by
    refine ⟨?_, Mo.inj h k⟩
    rw [← hbb, Bool.eq_iff_iff, Mo.bhd_lt, decide_eq_true_eq]
    exact Mo.lt_iff k h
  clear hbb
  obtain ⟨aY, aM, aD, ah, am, az⟩ := t
  obtain ⟨bY, bM, bD, bh, bm, bz⟩ := u
  unfold Mo.cells at HS HS' HB ⊢
  go_enter Tryd.func8, Tryd.ntmps8
  go_wp2_with fail
  refine (HS.out _).mono ?_
  rintro e w1 ⟨hS, hb⟩
  have hB1 : Blk 23 w1 w.heap.size (Mo.cells ⟨aY, aM, aD, ah, am, az⟩) := below_blk hb (by simp; omega) ((Blk.new _ w _).alloc _)
  have hC1 : Blk 23 w1 (w.heap.size + 1) (Mo.cells ⟨bY, bM, bD, bh, bm, bz⟩) := below_blk hb (by simp) (by have := Blk.new 23 (w.alloc (.cells (Mo.cells ⟨aY, aM, aD, ah, am, az⟩).toArray 23)) (Mo.cells ⟨bY, bM, bD, bh, bm, bz⟩); rw [show (w.alloc (.cells (Mo.cells ⟨aY, aM, aD, ah, am, az⟩).toArray 23)).heap.size = w.heap.size + 1 by simp] at this; exact this)
  have hb1 : Below w.heap.size w w1 := (al2' (al1 _)).trans (hb.mono (by simp; omega))
  obtain ⟨q, hq⟩ : ∃ q, w.heap.size + 1 = q := ⟨_, rfl⟩
  rw [hq] at hC1 ⊢
  have H1 : Hid (Below w.heap.size w w1 ∧ Blk 23 w1 w.heap.size (Mo.cells ⟨aY, aM, aD, ah, am, az⟩) ∧ Blk 23 w1 q (Mo.cells ⟨bY, bM, bD, bh, bm, bz⟩)) := ⟨hb1, hB1, hC1⟩
  obtain ⟨c0, c1, c2, c3, c4, c5, g0, g1, g2, g3, g4, g5⟩ := Mo.facts hC1
  clear hb hb1 hB1 hC1 g0 g1 g2 g3 g4 g5 hq
  obtain ⟨a, e1, rfl, h0⟩ : ∃ a e1, e = .returned (.tuple #[.int .i64 a, .int .i64 e1]) ∧ (e1 = 0 ∧ Mo.Ok ⟨aY, aM, aD, ah, am, az⟩ ∧ a = Mo.sec ⟨aY, aM, aD, ah, am, az⟩ ∨ e1 = 50) := by
    rcases hS with ⟨hO, h⟩ | ⟨_, h⟩
    · exact ⟨_, _, h, Or.inl ⟨rfl, hO, rfl⟩⟩
    · exact ⟨_, _, h, Or.inr rfl⟩
  clear hS
  go_wp2_with fail
  refine (HS'.out _).mono ?_
  rintro e w2 ⟨hS, hb⟩
  have hB2 : Blk 23 w2 w.heap.size (Mo.cells ⟨aY, aM, aD, ah, am, az⟩) := below_blk hb H1.out.2.1.lt H1.out.2.1
  have hC2 : Blk 23 w2 q (Mo.cells ⟨bY, bM, bD, bh, bm, bz⟩) := below_blk hb H1.out.2.2.lt H1.out.2.2
  have hb2 : Below w.heap.size w w2 := below_via H1.out.1 hb (Nat.le_refl _)
  clear c0 c1 c2 c3 c4 c5
  obtain ⟨c0, c1, c2, c3, c4, c5, g0, g1, g2, g3, g4, g5⟩ := Mo.facts hC2
  obtain ⟨d0, d1, d2, d3, d4, d5, f0, f1, f2, f3, f4, f5⟩ := Mo.facts hB2
  have H2 : Hid (Below w.heap.size w w2 ∧ Blk 23 w2 w.heap.size (Mo.cells ⟨aY, aM, aD, ah, am, az⟩) ∧ Blk 23 w2 q (Mo.cells ⟨bY, bM, bD, bh, bm, bz⟩)) := ⟨hb2, hB2, hC2⟩
  clear hb hb2 hB2 hC2 g0 g1 g2 g3 g4 g5 f0 f1 f2 f3 f4 f5
  obtain ⟨b, e2, rfl, k0⟩ : ∃ a e1, e = .returned (.tuple #[.int .i64 a, .int .i64 e1]) ∧ (e1 = 0 ∧ Mo.Ok ⟨bY, bM, bD, bh, bm, bz⟩ ∧ a = Mo.sec ⟨bY, bM, bD, bh, bm, bz⟩ ∨ e1 = 50) := by
    rcases hS with ⟨hO, h⟩ | ⟨_, h⟩
    · exact ⟨_, _, h, Or.inl ⟨rfl, hO, rfl⟩⟩
    · exact ⟨_, _, h, Or.inr rfl⟩
  clear hS
  rcases h0 with ⟨rfl, o1, s1⟩ | rfl
  · rcases k0 with ⟨rfl, o2, s2⟩ | rfl
    · have hL := HL.out o1 o2
      rw [← s1, ← s2] at hL
      have HL2 : Hid (decide (b < a) = bb ∧ (a = b → (⟨aY, aM, aD, ah, am, az⟩ : Mo) = ⟨bY, bM, bD, bh, bm, bz⟩) ∧ ((⟨aY, aM, aD, ah, am, az⟩ : Mo) = ⟨bY, bM, bD, bh, bm, bz⟩ → a = b)) := ⟨hL.1, hL.2, fun h => by rw [s1, s2, h]⟩
      clear hL s1 s2 o1 o2
      go_wp2_with (go_at_call 11; refine (num_any _).mono ?_; rintro e w' ⟨rfl, rfl⟩)
      refine (HB.out _).mono ?_
      rintro e w3 ⟨rfl, hb⟩
      have hB3 : Blk 23 w3 w.heap.size (Mo.cells ⟨aY, aM, aD, ah, am, az⟩) := below_blk hb H2.out.2.1.lt H2.out.2.1
      have hC3 : Blk 23 w3 q (Mo.cells ⟨bY, bM, bD, bh, bm, bz⟩) := below_blk hb H2.out.2.2.lt H2.out.2.2
      have H3 : Hid (Below w.heap.size w w3) := below_via H2.out.1 hb (Nat.le_refl _)
      clear c0 c1 c2 c3 c4 c5 d0 d1 d2 d3 d4 d5
      obtain ⟨c0, c1, c2, c3, c4, c5, g0, g1, g2, g3, g4, g5⟩ := Mo.facts hC3
      obtain ⟨d0, d1, d2, d3, d4, d5, f0, f1, f2, f3, f4, f5⟩ := Mo.facts hB3
      clear hb hB3 hC3 g0 g1 g2 g3 g4 g5 f0 f1 f2 f3 f4 f5
      have hbb := HL2.out.1
      subst hbb
      by_cases hab : a = b
      · have e := HL2.out.2.1 hab
        simp only [Mo.mk.injEq] at e
        obtain ⟨rfl, rfl, rfl, rfl, rfl, rfl⟩ := e
        subst hab
        go_wp2_with (go_at_call 12; refine (live_any (HT.out.below H3.out)).mono ?_; rintro e w4 ⟨rfl, hb⟩)
        go_ret
        exact ⟨rfl, below_via H3.out hb (Nat.le_refl _)⟩
      · have hab2 : (a == b) = false := by simp [hab]
        have hne := fun h => hab (HL2.out.2.2 h)
        simp only [Mo.mk.injEq] at hne
        go_wp2_with (go_at_call 12; refine (live_any (HT.out.below H3.out)).mono ?_; rintro e w4 ⟨rfl, hb⟩)
        all_goals first
          | (go_ret; exact ⟨rfl, below_via H3.out hb (Nat.le_refl _)⟩)
          | (exfalso; apply hne; omega)
    · go_wp2_with (first
        | (go_at_call 11; refine (num_any _).mono ?_; rintro e w' ⟨rfl, rfl⟩)
        | (go_at_call 12; refine (live_any (HT.out.below H2.out.1)).mono ?_; rintro e w4 ⟨rfl, hb⟩))
      go_ret
      exact ⟨rfl, below_via H2.out.1 hb (Nat.le_refl _)⟩
  · go_wp2_with (first
      | (go_at_call 11; refine (num_any _).mono ?_; rintro e w' ⟨rfl, rfl⟩)
      | (go_at_call 12; refine (live_any (HT.out.below H2.out.1)).mono ?_; rintro e w4 ⟨rfl, hb⟩))
    go_ret
    exact ⟨rfl, below_via H2.out.1 hb (Nat.le_refl _)⟩
end Go.Proofs.YtnaiialcjimhbaaDoor
