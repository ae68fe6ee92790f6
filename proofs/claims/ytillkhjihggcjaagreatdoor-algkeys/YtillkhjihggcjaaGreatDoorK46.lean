/-
  Alg: the page's examples, walked.
-/
import Derived.Test.YtillkhjihggcjaaGreatDoorK45
namespace Go.Proofs.YtillkhjihggcjaaGreatDoor
open Go.RowKit
set_option maxRecDepth 20000
set_option maxHeartbeats 4000000 in
theorem live11_any {w : World} {an ak : Addr} (hG : Glb w an ak) (hT : P10 w) : Calls Tryz.prog 6 #[] w fun e w' => e = .returned (.bool true) ∧ Below w.heap.size w w' := by
  have HG : Hid (Glb w an ak ∧ P10 w) := ⟨hG, hT⟩
  clear hG hT
  go_enter Tryz.func6, Tryz.ntmps6
  go_wp2_with fail
  refine (ROne_any (.slice (some ⟨w.heap.size, 0, none⟩) 11 11) exX (Arr.sl (S := exX) (arr_nw rfl rfl)) ex7.1 (by decide)).mono ?_
  rintro e w1 ⟨ho, hb1⟩
  rw [ex1] at ho
  obtain ⟨b1, m1, d1, b2, m2, d2, rfl, hd, hr⟩ := ho
  have H1 : Hid (Below w.heap.size w w1 ∧ Sl .u8 w1 (.slice b1 m1 d1) exXe.d) := ⟨below_via (al1 _) hb1 (Nat.le_refl _), hd.sl⟩
  clear hb1 hd hr
  simp only [exXe]
  go_upto_region 2 with (fail)
  refine wp_gen (fun W => Blk 24 W w1.heap.size [.int .i64 0, .int .i64 16, .bool true, .slice b1 m1 d1, .slice b2 m2 d2] ∧ Below w1.heap.size w1 W) ⟨Blk.new _ w1 _, al1 _⟩ ?_
  rintro W2 ⟨hB, hBw⟩
  have H2 : Hid (Below w1.heap.size w1 W2 ∧ Below w.heap.size w W2 ∧ ∀ W, Below W2.heap.size W2 W → W.cell? ⟨w1.heap.size, 0, none⟩ = some (.int .i64 0) ∧ W.cell? ⟨w1.heap.size, 1, none⟩ = some (.int .i64 16) ∧ W.cell? ⟨w1.heap.size, 2, none⟩ = some (.bool true) ∧ W.cell? ⟨w1.heap.size, 3, none⟩ = some (.slice b1 m1 d1) ∧ W.cell? ⟨w1.heap.size, 4, none⟩ = some (.slice b2 m2 d2)) := ⟨hBw, below_via H1.out.1 hBw (Nat.le_refl _), fun W h => by
    have q := below_blk h hB.lt hB
    exact ⟨q.cell 0, q.cell 1, q.cell 2, q.cell 3, q.cell 4⟩⟩
  clear hB hBw
  obtain ⟨x0, x1, x2, x3, x4⟩ := H2.out.2.2 W2 (Below.refl _ _)
  have HD : Hid (Calls Tryz.prog 7 #[.agg #[.int .i64 0, .int .i64 16, .bool true, .slice b1 m1 d1, .slice b2 m2 d2]] W2 fun e w' => e = .returned (.tuple #[.int .i64 1, .int .i64 0]) ∧ Below W2.heap.size W2 w') := by
    have h := Digest_any (w := W2) (HG.out.1.below H2.out.2.1) (HG.out.2.below H2.out.2.1) exXe b1 m1 d1 b2 m2 d2 (below_sl H2.out.1 H1.out.2) ex7.2.2.1 (by decide)
    rw [ex5] at h
    exact h
  go_wp2_with fail
  refine HD.out.mono ?_
  rintro e w3 ⟨rfl, hb3⟩
  have H3 : Hid (Below W2.heap.size W2 w3 ∧ Below w1.heap.size w1 w3 ∧ Below w.heap.size w w3) := ⟨hb3, below_via H2.out.1 hb3 (Nat.le_refl _), below_via H2.out.2.1 hb3 (Nat.le_refl _)⟩
  clear hb3 x0 x1 x2 x3 x4 HD
  go_wp2_with fail
  refine (ROne_any (.slice (some ⟨w3.heap.size, 0, none⟩) 15 15) exY (Arr.sl (S := exY) (arr_nw rfl rfl)) ex7.2.1 (by decide)).mono ?_
  rintro e w4 ⟨ho, hb4⟩
  rw [ex2] at ho
  obtain ⟨b3, m3, d3, b4, m4, d4, rfl, hd, hr⟩ := ho
  have hb34 := below_via (al1 _) hb4 (Nat.le_refl _)
  have H4 : Hid (Below W2.heap.size W2 w4 ∧ Below w1.heap.size w1 w4 ∧ Below w.heap.size w w4 ∧ Sl .u8 w4 (.slice b3 m3 d3) exYe.d) := ⟨below_via H3.out.1 hb34 (Nat.le_refl _), below_via H3.out.2.1 hb34 (Nat.le_refl _), below_via H3.out.2.2 hb34 (Nat.le_refl _), hd.sl⟩
  clear hb4 hd hr hb34
  simp only [exYe]
  go_upto_region 4 with (fail)
  refine wp_gen (fun W => Blk 24 W w4.heap.size [.int .i64 0, .int .i64 16, .bool true, .slice b3 m3 d3, .slice b4 m4 d4] ∧ Below w4.heap.size w4 W) ⟨Blk.new _ w4 _, al1 _⟩ ?_
  rintro W5 ⟨hB, hBw⟩
  have H5 : Hid (Below W2.heap.size W2 W5 ∧ Below w1.heap.size w1 W5 ∧ Below w.heap.size w W5 ∧ Sl .u8 W5 (.slice b3 m3 d3) exYe.d) := ⟨below_via H4.out.1 hBw (Nat.le_refl _), below_via H4.out.2.1 hBw (Nat.le_refl _), below_via H4.out.2.2.1 hBw (Nat.le_refl _), below_sl hBw H4.out.2.2.2⟩
  have x0 : W5.cell? ⟨w4.heap.size, 0, none⟩ = some (.int .i64 0) := hB.cell 0
  have x1 : W5.cell? ⟨w4.heap.size, 1, none⟩ = some (.int .i64 16) := hB.cell 1
  have x2 : W5.cell? ⟨w4.heap.size, 2, none⟩ = some (.bool true) := hB.cell 2
  have x3 : W5.cell? ⟨w4.heap.size, 3, none⟩ = some (.slice b3 m3 d3) := hB.cell 3
  have x4 : W5.cell? ⟨w4.heap.size, 4, none⟩ = some (.slice b4 m4 d4) := hB.cell 4
  clear hB hBw
  have HS : Hid (Calls Tryz.prog 9 #[.agg #[.int .i64 0, .int .i64 16, .bool true, .slice b3 m3 d3, .slice b4 m4 d4]] W5 fun e w' => e = .returned (.tuple #[.agg #[.int .i64 1, .int .i64 2, .int .i64 0, .int .i64 0], .int .i64 0]) ∧ Below W5.heap.size W5 w') := by
    have h := Sign_any (w := W5) (HG.out.1.below H5.out.2.2.1) (HG.out.2.below H5.out.2.2.1) exYe b3 m3 d3 b4 m4 d4 H5.out.2.2.2 ex7.2.2.2 (by decide)
    rw [ex6.1, ex6.2.1, ex6.2.2.1, ex6.2.2.2.1, ex6.2.2.2.2] at h
    exact h
  go_wp2_with fail
  refine HS.out.mono ?_
  rintro e w6 ⟨rfl, hb6⟩
  have H6 : Hid (Below W2.heap.size W2 w6 ∧ Below w1.heap.size w1 w6 ∧ Below w.heap.size w w6) := ⟨below_via H5.out.1 hb6 (Nat.le_refl _), below_via H5.out.2.1 hb6 (Nat.le_refl _), below_via H5.out.2.2.1 hb6 (Nat.le_refl _)⟩
  clear hb6 x0 x1 x2 x3 x4 HS
  go_upto_region 5 with (fail)
  refine wp_gen (fun W => Blk 32 W w6.heap.size [.int .i64 1, .int .i64 2, .int .i64 0, .int .i64 0] ∧ Below w6.heap.size w6 W) ⟨Blk.new _ w6 _, al1 _⟩ ?_
  rintro W7 ⟨hB, hBw⟩
  have H7 : Hid (Below W2.heap.size W2 W7 ∧ Below w1.heap.size w1 W7 ∧ Below w.heap.size w W7 ∧ ∀ W, Below W7.heap.size W7 W → W.cell? ⟨w6.heap.size, 0, none⟩ = some (.int .i64 1) ∧ W.cell? ⟨w6.heap.size, 1, none⟩ = some (.int .i64 2) ∧ W.cell? ⟨w6.heap.size, 2, none⟩ = some (.int .i64 0) ∧ W.cell? ⟨w6.heap.size, 3, none⟩ = some (.int .i64 0)) := ⟨below_via H6.out.1 hBw (Nat.le_refl _), below_via H6.out.2.1 hBw (Nat.le_refl _), below_via H6.out.2.2 hBw (Nat.le_refl _), fun W h => by
    have q := below_blk h hB.lt hB
    exact ⟨q.cell 0, q.cell 1, q.cell 2, q.cell 3⟩⟩
  clear hB hBw
  obtain ⟨x0, x1, x2, x3, x4⟩ := H2.out.2.2 W7 H7.out.1
  have HK : Hid (Calls Tryz.prog 13 #[.agg #[.int .i64 0, .int .i64 16, .bool true, .slice b1 m1 d1, .slice b2 m2 d2]] W7 fun e w' => e = .returned (.tuple #[.agg keyZ.toArray, .int .i64 110]) ∧ Below W7.heap.size W7 w') :=
    Key_no (w := W7) (HG.out.1.below H7.out.2.2.1) (HG.out.2.below H7.out.2.2.1) exXe b1 m1 d1 b2 m2 d2 (below_sl H7.out.2.1 H1.out.2) ex7.2.2.1 (by decide) exA exB ex3 ex4
  go_wp2_with fail
  refine HK.out.mono ?_
  rintro e w8 ⟨rfl, hb8⟩
  have H8 : Hid (Below w.heap.size w w8 ∧ Below W7.heap.size W7 w8) := ⟨below_via H7.out.2.2.1 hb8 (Nat.le_refl _), hb8⟩
  clear hb8 x0 x1 x2 x3 x4 HK
  simp only [keyZ, List.toArray]
  go_upto_region 6 with (fail)
  refine wp_gen (fun W => Below w8.heap.size w8 W) (al1 _) ?_
  intro W9 hB9
  have H9 : Hid (Below w.heap.size w W9) := below_via H8.out.1 hB9 (Nat.le_refl _)
  obtain ⟨y0, y1, y2, y3⟩ := H7.out.2.2.2 W9 (below_via H8.out.2 hB9 (Nat.le_refl _))
  clear hB9
  go_wp2_with (go_at_call 11; refine (num11_any _).mono ?_; rintro e w' ⟨rfl, rfl⟩)
  go_ret
  exact ⟨rfl, H9.out⟩
end Go.Proofs.YtillkhjihggcjaaGreatDoor
/-
  Alg: the reference's Same; the law AlgKeys.
-/
namespace Go.Proofs.YtillkhjihggcjaaGreatDoor
open Go.RowKit
set_option maxRecDepth 20000
theorem lim0_len : (lim 0).length ≤ 1000 := by rw [show lim 0 = [] from rfl]; exact Nat.zero_le _
theorem prs_len {S : List Int} (hu : U8s S) (c : Int) : (lim (prsS c S).1).length ≤ 1000 ∧ (lim (prsS c S).2.1).length ≤ 1000 := by
  have hC : ∀ C : Cv, C.sz ≤ 48 → (lim (prsC C S).1).length ≤ 1000 ∧ (lim (prsC C S).2.1).length ≤ 1000 := by
    intro C hs
    unfold prsC
    split
    · rename_i hl
      split
      · refine ⟨Nat.le_trans (bnum_len ((hu.drop 1).take _)) ?_, Nat.le_trans (bnum_len (hu.drop _)) ?_⟩
        · rw [List.length_take]; omega
        · rw [List.length_drop, hl.1]; omega
      · exact ⟨lim0_len, lim0_len⟩
    · exact ⟨lim0_len, lim0_len⟩
  unfold prsS crv
  split
  · exact ⟨lim0_len, lim0_len⟩
  · rename_i C hc
    split at hc
    · obtain rfl := Option.some.inj hc; exact hC _ (by decide)
    · split at hc
      · obtain rfl := Option.some.inj hc; exact hC _ (by decide)
      · cases hc
def KyB (k : Ky) : Prop := k.n.length ≤ 512 ∧ k.e.length ≤ 512 ∧ (lim k.x).length ≤ 1000 ∧ (lim k.y).length ≤ 1000
theorem KyB.zero : KyB ky0 := ⟨by decide, by decide, lim0_len, lim0_len⟩
theorem ptK_B {B : List Int} (uB : U8s B) (c : Int) : KyB (ptK c B).1 := by
  unfold ptK
  split
  · have := prs_len uB c
    exact ⟨by simp, by simp, this.1, this.2⟩
  · exact KyB.zero
theorem num_len {x : El} {N : List Int} (hu : U8s x.d) (h : numO x = some N) : N.length ≤ 512 := by obtain ⟨_, _, rfl⟩ := num_of h; exact uintS_len hu
theorem rsaK_B {B : List Int} (uB : U8s B) (lB : B.length ≤ 6000) : KyB (rsaK B).1 := by
  unfold rsaK
  split
  · have hg := oneS_good uB lB
    cases hr : rowS (oneS (splitS B)).1 with
    | none => exact KyB.zero
    | some L =>
      have hL := rowS_good hg.2 hg.1 hr
      rcases L with _ | ⟨a, _ | ⟨b, _ | ⟨c, L⟩⟩⟩
      · exact KyB.zero
      · exact KyB.zero
      · show KyB (rsa2 (numO a) (numO b)).1
        cases ha : numO a with
        | none => exact KyB.zero
        | some N =>
          cases hb : numO b with
          | none => exact KyB.zero
          | some E =>
            show KyB (if keyOk N E = true then ((⟨0, N, E, 0, 0⟩ : Ky), (0 : Int)) else (ky0, 80)).1
            split
            · exact ⟨num_len (hL a (by simp)).2.1 ha, num_len (hL b (by simp)).2.1 hb, KyB.zero.2.2.1, KyB.zero.2.2.1⟩
            · exact KyB.zero
      · exact KyB.zero
  · exact KyB.zero
theorem keyK_B {x : El} (uD : U8s x.d) (lD : x.d.length ≤ 6000) : KyB (keyK x).1 := by
  unfold keyK
  cases hr : rowS x with
  | none => exact KyB.zero
  | some L =>
    have hL := rowS_good uD lD hr
    rcases L with _ | ⟨a, _ | ⟨b, _ | ⟨c, L⟩⟩⟩
    · exact KyB.zero
    · exact KyB.zero
    · show KyB (keyI (idS a) (bytO b)).1
      cases hi : idS a with
      | none => exact KyB.zero
      | some p =>
        obtain ⟨S, rest⟩ := p
        cases hb : bytO b with
        | none => exact KyB.zero
        | some B =>
          have e := byt_of hb
          have hB := hL b (by simp)
          have uB : U8s B := by rw [e]; exact hB.2.1.drop 1
          have lB : B.length ≤ 6000 := by rw [e, List.length_drop]; omega
          show KyB (keyB S rest B).1
          unfold keyB
          split
          · split
            · exact rsaK_B uB lB
            · exact KyB.zero
          · split
            · split
              · exact KyB.zero
              · exact ptK_B uB _
            · exact KyB.zero
    · exact KyB.zero
theorem two_blks {w : World} (T : TypeId) (cs ds : List Value) : Blk T ((w.alloc (.cells cs.toArray T)).alloc (.cells ds.toArray T)) w.heap.size cs ∧ Blk T ((w.alloc (.cells cs.toArray T)).alloc (.cells ds.toArray T)) (w.heap.size + 1) ds ∧ Below w.heap.size w ((w.alloc (.cells cs.toArray T)).alloc (.cells ds.toArray T)) :=
  ⟨(Blk.new _ w _).alloc _, (two_blk T _ _ ds rfl).1, (two_blk T _ _ ds rfl).2⟩
set_option maxHeartbeats 4000000 in
theorem SameK_any {w : World} (k : Ky) (hk : KyB k) (a1 : Option Addr) (n1 c1 : Nat) (a2 : Option Addr) (n2 c2 : Nat) (a3 : Option Addr) (n3 c3 : Nat) (a4 : Option Addr) (n4 c4 : Nat) (b1 : Option Addr) (o1 d1 : Nat) (b2 : Option Addr) (o2 d2 : Nat) (b3 : Option Addr) (o3 d3 : Nat) (b4 : Option Addr) (o4 d4 : Nat)
    (hv : KyV w k (.slice a1 n1 c1) (.slice a2 n2 c2) (.slice a3 n3 c3) (.slice a4 n4 c4)) (hu : KyV w k (.slice b1 o1 d1) (.slice b2 o2 d2) (.slice b3 o3 d3) (.slice b4 o4 d4)) :
    Calls Tryz.prog 15 #[.agg #[.int .i64 k.cv, .slice a1 n1 c1, .slice a2 n2 c2, .slice a3 n3 c3, .slice a4 n4 c4], .agg #[.int .i64 k.cv, .slice b1 o1 d1, .slice b2 o2 d2, .slice b3 o3 d3, .slice b4 o4 d4]] w fun e w' => e = .returned (.bool true) ∧ Below w.heap.size w w' := by
  have HN : Hid (∀ W, Below w.heap.size w W → Calls Tryz.prog 38 #[.slice a1 n1 c1, .slice b1 o1 d1] W fun e w' => e = .returned (.bool true) ∧ Below W.heap.size W w') := fun W h => NSame_any _ _ k.n (below_sl h hv.1) (below_sl h hu.1) (by have := hk.1; omega)
  have HE : Hid (∀ W, Below w.heap.size w W → Calls Tryz.prog 38 #[.slice a2 n2 c2, .slice b2 o2 d2] W fun e w' => e = .returned (.bool true) ∧ Below W.heap.size W w') := fun W h => NSame_any _ _ k.e (below_sl h hv.2.1) (below_sl h hu.2.1) (by have := hk.2.1; omega)
  have HP : Hid (∀ W, Below w.heap.size w W → Calls Tryz.prog 39 #[.agg #[.slice a3 n3 c3, .slice a4 n4 c4], .agg #[.slice b3 o3 d3, .slice b4 o4 d4]] W fun e w' => e = .returned (.bool true) ∧ Below W.heap.size W w') := fun W h => SameP_any _ _ _ _ k.x k.y (hv.2.2.1.below h) (hv.2.2.2.below h) (hu.2.2.1.below h) (hu.2.2.2.below h) hk.2.2.1 hk.2.2.2
  obtain ⟨cv, hcv⟩ : ∃ c, k.cv = c := ⟨_, rfl⟩
  rw [hcv]
  clear hv hu hk hcv
  go_enter Tryz.func15, Tryz.ntmps15
  go_upto_region 1 with (fail)
  refine wp_gen (fun W => Blk 46 W w.heap.size [.int .i64 cv, .slice a1 n1 c1, .slice a2 n2 c2, .slice a3 n3 c3, .slice a4 n4 c4] ∧ Blk 46 W (w.heap.size + 1) [.int .i64 cv, .slice b1 o1 d1, .slice b2 o2 d2, .slice b3 o3 d3, .slice b4 o4 d4] ∧ Below w.heap.size w W) (two_blks _ _ _) ?_
  rintro W1 ⟨hA, hB, hBw⟩
  have H1 : Hid (∀ W, Below W1.heap.size W1 W → Below w.heap.size w W ∧ (W.cell? ⟨w.heap.size, 0, none⟩ = some (.int .i64 cv) ∧ W.cell? ⟨w.heap.size, 1, none⟩ = some (.slice a1 n1 c1) ∧ W.cell? ⟨w.heap.size, 2, none⟩ = some (.slice a2 n2 c2) ∧ W.cell? ⟨w.heap.size, 3, none⟩ = some (.slice a3 n3 c3) ∧ W.cell? ⟨w.heap.size, 4, none⟩ = some (.slice a4 n4 c4)) ∧ W.cell? ⟨w.heap.size + 1, 0, none⟩ = some (.int .i64 cv) ∧ W.cell? ⟨w.heap.size + 1, 1, none⟩ = some (.slice b1 o1 d1) ∧ W.cell? ⟨w.heap.size + 1, 2, none⟩ = some (.slice b2 o2 d2) ∧ W.cell? ⟨w.heap.size + 1, 3, none⟩ = some (.slice b3 o3 d3) ∧ W.cell? ⟨w.heap.size + 1, 4, none⟩ = some (.slice b4 o4 d4)) := fun W h => by
    have q := below_blk h hA.lt hA
    have r := below_blk h hB.lt hB
    exact ⟨below_via hBw h (Nat.le_refl _), ⟨q.cell 0, q.cell 1, q.cell 2, q.cell 3, q.cell 4⟩, r.cell 0, r.cell 1, r.cell 2, r.cell 3, r.cell 4⟩
  clear hA hB hBw
  obtain ⟨hw1, ⟨x0, x1, x2, x3, x4⟩, y0, y1, y2, y3, y4⟩ := H1.out W1 (Below.refl _ _)
  have G1 : Hid (Below w.heap.size w W1) := hw1
  clear hw1
  go_wp2_with fail
  refine (HN.out _ G1.out).mono ?_
  rintro e w2 ⟨rfl, hb2⟩
  have H2 : Hid (Below W1.heap.size W1 w2) := hb2
  clear hb2 x0 x1 x2 x3 x4 y0 y1 y2 y3 y4
  obtain ⟨hw2, ⟨x0, x1, x2, x3, x4⟩, y0, y1, y2, y3, y4⟩ := H1.out w2 H2.out
  have G2 : Hid (Below w.heap.size w w2) := hw2
  clear hw2
  go_wp2_with fail
  refine (HE.out _ G2.out).mono ?_
  rintro e w3 ⟨rfl, hb3⟩
  have H3 : Hid (Below W1.heap.size W1 w3) := below_via H2.out hb3 (Nat.le_refl _)
  clear hb3 x0 x1 x2 x3 x4 y0 y1 y2 y3 y4
  obtain ⟨hw3, ⟨x0, x1, x2, x3, x4⟩, y0, y1, y2, y3, y4⟩ := H1.out w3 H3.out
  have G3 : Hid (Below w.heap.size w w3) := hw3
  clear hw3
  go_wp2_with fail
  refine (HP.out _ G3.out).mono ?_
  rintro e w4 ⟨rfl, hb4⟩
  have H4 : Hid (Below w.heap.size w w4) := below_via G3.out hb4 (Nat.le_refl _)
  clear hb4 x0 x1 x2 x3 x4 y0 y1 y2 y3 y4
  go_wp2
  go_ret
  exact ⟨rfl, H4.out⟩
end Go.Proofs.YtillkhjihggcjaaGreatDoor
/-
  Alg: the law AlgKeys.
-/
namespace Go.Proofs.YtillkhjihggcjaaGreatDoor
open Go.RowKit
set_option maxRecDepth 20000
theorem KeyOut.uni {w : World} {e : Ending} {r : Ky × Int} (h : KeyOut w e r) : ∃ a1 n1 c1 a2 n2 c2 a3 n3 c3 a4 n4 c4, e = .returned (.tuple #[.agg #[.int .i64 r.1.cv, .slice a1 n1 c1, .slice a2 n2 c2, .slice a3 n3 c3, .slice a4 n4 c4], .int .i64 r.2]) ∧ KyV w r.1 (.slice a1 n1 c1) (.slice a2 n2 c2) (.slice a3 n3 c3) (.slice a4 n4 c4) := by
  obtain ⟨v1, v2, v3, v4, rfl, hk⟩ := h
  have hk' := hk
  obtain ⟨⟨a1, c1, rfl, _⟩, ⟨a2, c2, rfl, _⟩, ⟨a3, c3, h3, _⟩, ⟨a4, c4, h4, _⟩⟩ := hk'
  subst h3 h4
  exact ⟨_, _, _, _, _, _, _, _, _, _, _, _, rfl, hk⟩
theorem LentR8.upd {B : Nat} {w w' : World} {v : Value} {X : List Int} {g : Nat} (h : LentR8 B w v X) (hU : Upd w w' g) (hg : g < B) : LentR8 B w' v X := by
  obtain ⟨b, S, rfl, h1, hA, h2⟩ := h
  exact ⟨b, S, rfl, h1, hU.blk hA (by omega), h2⟩
/-- The lent bytes are laid into the copy. -/
theorem lent_put {w W : World} {X : List Int} {cl tg : Int} {co : Bool} {a1 : Option Addr} {n1 c1 : Nat} {v r : Value} {B : Nat} (hB1 : Blk 24 W w.heap.size [.int .i64 cl, .int .i64 tg, .bool co, .slice a1 n1 c1, r]) (hB2 : Blk 24 W (w.heap.size + 1) [.int .i64 cl, .int .i64 tg, .bool co, .slice a1 n1 c1, r]) (hW : Below w.heap.size w W) (hL : LentR8 B W v X) (hb : w.heap.size + 2 ≤ B) :
    Blk 24 (W.setCell ⟨w.heap.size + 1, 3, none⟩ v) w.heap.size [.int .i64 cl, .int .i64 tg, .bool co, .slice a1 n1 c1, r] ∧ Blk 24 (W.setCell ⟨w.heap.size + 1, 3, none⟩ v) (w.heap.size + 1) [.int .i64 cl, .int .i64 tg, .bool co, v, r] ∧ Below w.heap.size w (W.setCell ⟨w.heap.size + 1, 3, none⟩ v) ∧ LentR8 B (W.setCell ⟨w.heap.size + 1, 3, none⟩ v) v X := by
  have hU := Upd.set W (w.heap.size + 1) 3 v
  exact ⟨hU.blk hB1 (by omega), hB2.set 3 v, hU.below hW hW.size (by omega), hL.upd hU (by omega)⟩
set_option maxHeartbeats 8000000 in
theorem AlgKeys_any {w : World} {an ak : Addr} (hG : Glb w an ak) (hT : P10 w) (x : El) (a1 : Option Addr) (n1 c1 : Nat) (a2 : Option Addr) (n2 c2 : Nat) (hD : Sl .u8 w (.slice a1 n1 c1) x.d) (uD : U8s x.d) (lD : x.d.length = n1) :
    Calls Tryz.prog 4 #[.agg #[.int .i64 x.cl, .int .i64 x.tg, .bool x.co, .slice a1 n1 c1, .slice a2 n2 c2]] w fun e w' => e = .returned (.bool true) ∧ Below w.heap.size w w' := by
  have HL : Hid (∀ W, Below w.heap.size w W → Calls Tryz.prog 6 #[] W fun e w' => e = .returned (.bool true) ∧ Below W.heap.size W w') := fun W h => live11_any (hG.below h) (hT.below h)
  by_cases hn : n1 ≤ 5000
  · have HX : Hid (∀ W, Below w.heap.size w W → Sl .u8 W (.slice a1 n1 c1) x.d) := fun W h => below_sl h hD
    have HLe : Hid (∀ W, Below w.heap.size w W → Calls Tryz.prog 12 #[.slice a1 n1 c1] W fun e w' => ∃ b S c, e = .returned (.slice (some ⟨b, 0, none⟩) n1 c) ∧ LentR8 W.heap.size w' (.slice (some ⟨b, 0, none⟩) n1 c) x.d ∧ W.heap.size ≤ b ∧ Arr .u8 5 w' b S ∧ n1 ≤ S.length ∧ Below W.heap.size W w') := fun W h => Lent8_n x.d _ W n1 lD (below_sl h hD) (by omega)
    have HA : Hid (∀ W a n c, Below w.heap.size w W → Sl .u8 W (.slice a n c) x.d → Calls Tryz.prog 13 #[.agg #[.int .i64 x.cl, .int .i64 x.tg, .bool x.co, .slice a n c, .slice a2 n2 c2]] W fun e w' => KeyOut w' e (keyK x) ∧ Below W.heap.size W w') := fun W a n c h hs => Key_any (hG.below h) (hT.below h) x a n c a2 n2 c2 hs uD (by omega)
    have HB : Hid (∀ W, Below w.heap.size w W → Calls Tryz.prog 14 #[.agg #[.int .i64 x.cl, .int .i64 x.tg, .bool x.co, .slice a1 n1 c1, .slice a2 n2 c2]] W fun e w' => KeyOut w' e (keyK x) ∧ Below W.heap.size W w') := fun W h => RKey_any x a1 n1 c1 a2 n2 c2 (below_sl h hD) uD (by omega)
    have HKe : Hid (∀ W B v, Below w.heap.size w W → LentR8 B W v x.d → Calls Tryz.prog 16 #[v, .slice a1 n1 c1] W fun e w' => e = .returned (.bool true) ∧ Below W.heap.size W w') := fun W B v h hv => Kept8_any v _ x.d hv (below_sl h hD) (by omega)
    have HKB : Hid (KyB (keyK x).1) := keyK_B uD (by omega)
    obtain ⟨⟨K, er⟩, hK⟩ : ∃ O, keyK x = O := ⟨_, rfl⟩
    rw [hK] at HA HB HKB
    obtain ⟨cl, tg, co, D, R⟩ := x
    simp only [] at HX HLe HA HB HKe HKB ⊢
    have hn' : decide ((5000 : Int) < (n1 : Int)) = false := by simp; omega
    clear hG hT hD uD lD hK hn
    go_enter Tryz.func4, Tryz.ntmps4
    go_upto_region 4 with (fail)
    refine wp_gen (fun W => Blk 24 W w.heap.size [.int .i64 cl, .int .i64 tg, .bool co, .slice a1 n1 c1, .slice a2 n2 c2] ∧ Blk 24 W (w.heap.size + 1) [.int .i64 cl, .int .i64 tg, .bool co, .slice a1 n1 c1, .slice a2 n2 c2] ∧ Below w.heap.size w W) (two_blks _ _ _) ?_
    rintro W1 ⟨hB1, hB2, hBw⟩
    have H1 : Hid (Below w.heap.size w W1 ∧ Blk 24 W1 w.heap.size [.int .i64 cl, .int .i64 tg, .bool co, .slice a1 n1 c1, .slice a2 n2 c2] ∧ Blk 24 W1 (w.heap.size + 1) [.int .i64 cl, .int .i64 tg, .bool co, .slice a1 n1 c1, .slice a2 n2 c2]) := ⟨hBw, hB1, hB2⟩
    have x3 : W1.cell? ⟨w.heap.size, 3, none⟩ = some (.slice a1 n1 c1) := hB1.cell 3
    clear hB1 hB2 hBw
    go_wp2_with fail
    refine (HLe.out _ H1.out.1).mono ?_
    rintro e w2 ⟨lb, S, lc, rfl, hl, hlb, _, _, hb2⟩
    have H2 : Hid (Below w.heap.size w w2 ∧ Blk 24 w2 w.heap.size [.int .i64 cl, .int .i64 tg, .bool co, .slice a1 n1 c1, .slice a2 n2 c2] ∧ Blk 24 w2 (w.heap.size + 1) [.int .i64 cl, .int .i64 tg, .bool co, .slice a1 n1 c1, .slice a2 n2 c2] ∧ LentR8 W1.heap.size w2 (.slice (some ⟨lb, 0, none⟩) n1 lc) D) := ⟨below_via H1.out.1 hb2 (Nat.le_refl _), below_blk hb2 H1.out.2.1.lt H1.out.2.1, below_blk hb2 H1.out.2.2.lt H1.out.2.2, hl⟩
    have y3 : w2.cell? ⟨w.heap.size + 1, 3, none⟩ = some (.slice a1 n1 c1) := H2.out.2.2.1.cell 3
    have f3 := H2.out.2.2.1.frozen 3
    clear hb2 hl hlb x3 HLe
    go_upto_region 5 with (fail)
    refine wp_gen (fun W => Blk 24 W w.heap.size [.int .i64 cl, .int .i64 tg, .bool co, .slice a1 n1 c1, .slice a2 n2 c2] ∧ Blk 24 W (w.heap.size + 1) [.int .i64 cl, .int .i64 tg, .bool co, .slice (some ⟨lb, 0, none⟩) n1 lc, .slice a2 n2 c2] ∧ Below w.heap.size w W ∧ LentR8 W1.heap.size W (.slice (some ⟨lb, 0, none⟩) n1 lc) D) (lent_put H2.out.2.1 H2.out.2.2.1 H2.out.1 H2.out.2.2.2 (by have := H1.out.2.2.lt; omega)) ?_
    rintro W3 ⟨hB1, hB2, hBw, hl⟩
    have H3 : Hid (∀ W, Below W3.heap.size W3 W → Below w.heap.size w W ∧ LentR8 W1.heap.size W (.slice (some ⟨lb, 0, none⟩) n1 lc) D ∧ (W.cell? ⟨w.heap.size, 0, none⟩ = some (.int .i64 cl) ∧ W.cell? ⟨w.heap.size, 1, none⟩ = some (.int .i64 tg) ∧ W.cell? ⟨w.heap.size, 2, none⟩ = some (.bool co) ∧ W.cell? ⟨w.heap.size, 3, none⟩ = some (.slice a1 n1 c1) ∧ W.cell? ⟨w.heap.size, 4, none⟩ = some (.slice a2 n2 c2)) ∧ W.cell? ⟨w.heap.size + 1, 0, none⟩ = some (.int .i64 cl) ∧ W.cell? ⟨w.heap.size + 1, 1, none⟩ = some (.int .i64 tg) ∧ W.cell? ⟨w.heap.size + 1, 2, none⟩ = some (.bool co) ∧ W.cell? ⟨w.heap.size + 1, 3, none⟩ = some (.slice (some ⟨lb, 0, none⟩) n1 lc) ∧ W.cell? ⟨w.heap.size + 1, 4, none⟩ = some (.slice a2 n2 c2)) := fun W h => by
      have q := below_blk h hB1.lt hB1
      have r := below_blk h hB2.lt hB2
      exact ⟨below_via hBw h (Nat.le_refl _), hl.below h, ⟨q.cell 0, q.cell 1, q.cell 2, q.cell 3, q.cell 4⟩, r.cell 0, r.cell 1, r.cell 2, r.cell 3, r.cell 4⟩
    clear hB1 hB2 hBw hl y3 f3 H2 H1
    obtain ⟨hw3, hl3, _, y0, y1, y2, y3, y4⟩ := H3.out W3 (Below.refl _ _)
    have HAc : Hid (Calls Tryz.prog 13 #[.agg #[.int .i64 cl, .int .i64 tg, .bool co, .slice (some ⟨lb, 0, none⟩) n1 lc, .slice a2 n2 c2]] W3 fun e w' => KeyOut w' e (K, er) ∧ Below W3.heap.size W3 w') := HA.out W3 _ _ _ hw3 hl3.sl
    clear hw3 hl3 HA
    go_wp2_with fail
    refine HAc.out.mono ?_
    rintro e w4 ⟨hko, hb4⟩
    obtain ⟨b1, o1, d1, b2, o2, d2, b3, o3, d3, b4, o4, d4, rfl, hk⟩ := hko.uni
    have H4 : Hid (Below W3.heap.size W3 w4 ∧ KyV w4 K (.slice b1 o1 d1) (.slice b2 o2 d2) (.slice b3 o3 d3) (.slice b4 o4 d4)) := ⟨hb4, hk⟩
    clear hb4 hk hko y0 y1 y2 y3 y4 HAc
    simp only []
    go_upto_region 6 with (fail)
    refine wp_gen (fun W => Blk 46 W w4.heap.size [.int .i64 K.cv, .slice b1 o1 d1, .slice b2 o2 d2, .slice b3 o3 d3, .slice b4 o4 d4] ∧ Below w4.heap.size w4 W) ⟨Blk.new _ w4 _, al1 _⟩ ?_
    rintro W5 ⟨hB, hBw⟩
    have H5 : Hid (Below W3.heap.size W3 W5 ∧ KyV W5 K (.slice b1 o1 d1) (.slice b2 o2 d2) (.slice b3 o3 d3) (.slice b4 o4 d4) ∧ Blk 46 W5 w4.heap.size [.int .i64 K.cv, .slice b1 o1 d1, .slice b2 o2 d2, .slice b3 o3 d3, .slice b4 o4 d4]) := ⟨below_via H4.out.1 hBw (Nat.le_refl _), H4.out.2.below hBw, hB⟩
    clear hB hBw H4
    obtain ⟨hw5, _, ⟨x0, x1, x2, x3, x4⟩, _⟩ := H3.out W5 H5.out.1
    have HBc : Hid (Calls Tryz.prog 14 #[.agg #[.int .i64 cl, .int .i64 tg, .bool co, .slice a1 n1 c1, .slice a2 n2 c2]] W5 fun e w' => KeyOut w' e (K, er) ∧ Below W5.heap.size W5 w') := HB.out W5 hw5
    clear hw5 HB
    go_wp2_with fail
    refine HBc.out.mono ?_
    rintro e w6 ⟨hko, hb6⟩
    obtain ⟨p1, q1, r1, p2, q2, r2, p3, q3, r3, p4, q4, r4, rfl, hk⟩ := hko.uni
    have H6 : Hid (Below W3.heap.size W3 w6 ∧ KyV w6 K (.slice b1 o1 d1) (.slice b2 o2 d2) (.slice b3 o3 d3) (.slice b4 o4 d4) ∧ Blk 46 w6 w4.heap.size [.int .i64 K.cv, .slice b1 o1 d1, .slice b2 o2 d2, .slice b3 o3 d3, .slice b4 o4 d4] ∧ KyV w6 K (.slice p1 q1 r1) (.slice p2 q2 r2) (.slice p3 q3 r3) (.slice p4 q4 r4)) := ⟨below_via H5.out.1 hb6 (Nat.le_refl _), H5.out.2.1.below hb6, below_blk hb6 H5.out.2.2.lt H5.out.2.2, hk⟩
    clear hb6 hk hko x0 x1 x2 x3 x4 HBc H5
    simp only []
    go_upto_region 7 with (fail)
    refine wp_gen (fun W => Blk 46 W w6.heap.size [.int .i64 K.cv, .slice p1 q1 r1, .slice p2 q2 r2, .slice p3 q3 r3, .slice p4 q4 r4] ∧ Below w6.heap.size w6 W) ⟨Blk.new _ w6 _, al1 _⟩ ?_
    rintro W7 ⟨hB, hBw⟩
    have s0 : W7.cell? ⟨w6.heap.size, 0, none⟩ = some (.int .i64 K.cv) := hB.cell 0
    have s1 : W7.cell? ⟨w6.heap.size, 1, none⟩ = some (.slice p1 q1 r1) := hB.cell 1
    have s2 : W7.cell? ⟨w6.heap.size, 2, none⟩ = some (.slice p2 q2 r2) := hB.cell 2
    have s3 : W7.cell? ⟨w6.heap.size, 3, none⟩ = some (.slice p3 q3 r3) := hB.cell 3
    have s4 : W7.cell? ⟨w6.heap.size, 4, none⟩ = some (.slice p4 q4 r4) := hB.cell 4
    have hT7 := below_blk hBw H6.out.2.2.1.lt H6.out.2.2.1
    have t0 : W7.cell? ⟨w4.heap.size, 0, none⟩ = some (.int .i64 K.cv) := hT7.cell 0
    have t1 : W7.cell? ⟨w4.heap.size, 1, none⟩ = some (.slice b1 o1 d1) := hT7.cell 1
    have t2 : W7.cell? ⟨w4.heap.size, 2, none⟩ = some (.slice b2 o2 d2) := hT7.cell 2
    have t3 : W7.cell? ⟨w4.heap.size, 3, none⟩ = some (.slice b3 o3 d3) := hT7.cell 3
    have t4 : W7.cell? ⟨w4.heap.size, 4, none⟩ = some (.slice b4 o4 d4) := hT7.cell 4
    have H7 : Hid (Below W3.heap.size W3 W7) := below_via H6.out.1 hBw (Nat.le_refl _)
    have HSc : Hid (Calls Tryz.prog 15 #[.agg #[.int .i64 K.cv, .slice b1 o1 d1, .slice b2 o2 d2, .slice b3 o3 d3, .slice b4 o4 d4], .agg #[.int .i64 K.cv, .slice p1 q1 r1, .slice p2 q2 r2, .slice p3 q3 r3, .slice p4 q4 r4]] W7 fun e w' => e = .returned (.bool true) ∧ Below W7.heap.size W7 w') := SameK_any K HKB.out b1 o1 d1 b2 o2 d2 b3 o3 d3 b4 o4 d4 p1 q1 r1 p2 q2 r2 p3 q3 r3 p4 q4 r4 (H6.out.2.1.below hBw) (H6.out.2.2.2.below hBw)
    clear hB hBw hT7 H6 HKB
    go_wp2_with fail
    refine HSc.out.mono ?_
    rintro e w8 ⟨rfl, hb8⟩
    have H8 : Hid (Below W3.heap.size W3 w8) := below_via H7.out hb8 (Nat.le_refl _)
    clear hb8 s0 s1 s2 s3 s4 t0 t1 t2 t3 t4 HSc H7
    obtain ⟨hw8, hl8, ⟨x0, x1, x2, x3, x4⟩, y0, y1, y2, y3, y4⟩ := H3.out w8 H8.out
    have HKc : Hid (Calls Tryz.prog 16 #[.slice (some ⟨lb, 0, none⟩) n1 lc, .slice a1 n1 c1] w8 fun e w' => e = .returned (.bool true) ∧ Below w8.heap.size w8 w') := HKe.out w8 _ _ hw8 hl8
    have H9 : Hid (Below w.heap.size w w8) := hw8
    clear hw8 hl8 HKe
    go_wp2_with (first | (go_at_call 11; refine (num11_any _).mono ?_; rintro e w' ⟨rfl, rfl⟩) | (go_at_call 16; refine HKc.out.mono ?_; rintro e w9 ⟨rfl, hb9⟩; have H10 : Hid (Below w.heap.size w w9) := below_via H9.out hb9 (Nat.le_refl _); clear hb9 x0 x1 x2 x3 x4 y0 y1 y2 y3 y4) | (go_at_call 6; refine (HL.out _ H10.out).mono ?_; rintro e w10 ⟨rfl, hb10⟩; have H11 : Hid (Below w.heap.size w w10) := below_via H10.out hb10 (Nat.le_refl _); clear hb10))
    go_ret
    exact ⟨by simp, H11.out⟩
  · have hn' : decide ((5000 : Int) < (n1 : Int)) = true := by simp; omega
    obtain ⟨cl, tg, co, D, R⟩ := x
    simp only []
    clear hG hT hD uD lD hn
    go_enter Tryz.func4, Tryz.ntmps4
    go_wp2_with fail
    refine (HL.out _ (al1 _)).mono ?_
    rintro e w1 ⟨rfl, hb1⟩
    have H1 : Hid (Below w.heap.size w w1) := below_via (al1 _) hb1 (Nat.le_refl _)
    clear hb1
    go_wp2
    go_ret
    exact ⟨rfl, H1.out⟩
end Go.Proofs.YtillkhjihggcjaaGreatDoor
/-
  Der: the table of powers, whole, off the tied list.
-/
namespace Go.Proofs.YtillkhjihggcjaaGreatDoor
open Go.ChangeShapes Go.WideShapes Go.ChangeAt Go.RowKit
theorem Tryz.lf_pow2 : Rows.algReadsRow.laid.filter (fun x => x.1 == "internal/strconv.uint64pow10") = [("internal/strconv.uint64pow10", Lib.tabData .u64 Lib.pow10Tab)] := by kernel_rfl
theorem p10_of_laid {W : World} (h : laidMetH Tryz.prog Rows.algReadsRow.laid W) : P10 W := by
  have h1 := laidMetH.filter (fun x => x.1 == "internal/strconv.uint64pow10") h
  rw [Tryz.lf_pow2] at h1
  exact Lib.tabIs_of_head (rest := []) Tryz.g_pow Tryz.gt_pow Tryz.underlying224 Tryz.u64 Tryz.c64 Tryz.gc_pow (laid_one rfl h1)
structure TabO (w : World) : Prop where
  tab : Tab w
  p10 : P10 w
end Go.Proofs.YtillkhjihggcjaaGreatDoor
