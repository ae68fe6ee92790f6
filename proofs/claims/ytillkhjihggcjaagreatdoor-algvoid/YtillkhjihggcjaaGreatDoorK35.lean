/-
  Alg: the law AlgVoid, walked.
-/
import Derived.Test.YtillkhjihggcjaaGreatDoorK34
namespace Go.Proofs.YtillkhjihggcjaaGreatDoor
open Go.RowKit
set_option maxRecDepth 20000
theorem flat1 (X : List Int) : [X].flatten = X := by simp
set_option maxHeartbeats 8000000 in
theorem AlgVoid_any {w : World} {an ak : Addr} (hG : Glb w an ak) (hT : P10 w) (alg : Int) (a : Option Addr) (n c : Nat) (X : List Int) (hX : Sl .u8 w (.slice a n c) X) (uX : U8s X) (lX : X.length = n) :
    Calls Tryz.prog 5 #[.int .i64 alg, .slice a n c] w fun e w' => e = .returned (.bool true) ∧ Below w.heap.size w w' := by
  have HL : Hid (∀ W, Below w.heap.size w W → Calls Tryz.prog 6 #[] W fun e w' => e = .returned (.bool true) ∧ Below W.heap.size W w') := fun W h => live11_any (hG.below h) (hT.below h)
  have HZ : Hid (∀ W : World, Calls Tryz.prog 17 #[.int .i64 alg] W fun e w' => e = .returned (.int .i64 (sizA alg)) ∧ W = w') := fun W => RSizeA alg
  by_cases ha : Alg4 alg
  · have hz : ((sizA alg : Int) == 0) = false := by rcases ha with rfl | rfl | rfl | rfl <;> rfl
    obtain ⟨sz, hsz⟩ : ∃ z, sizA alg = z := ⟨_, rfl⟩
    rw [hsz] at HZ hz
    clear hsz
    by_cases hn : n ≤ 5000
    · have hn' : decide ((5000 : Int) < (n : Int)) = false := by simp; omega
      obtain ⟨l, hl7, hl0, hl1⟩ := ex_len n (by omega)
      obtain ⟨Z, hZ⟩ : ∃ Z, encB 0 false 4 0 l X = Z := ⟨_, rfl⟩
      have hZu : U8s Z := by rw [← hZ]; exact encB_u8 0 false 4 0 l X (by decide) hl7 uX
      have hZl : Z.length ≤ 5100 := by rw [← hZ]; have := encB_le 0 false 4 0 l X (by decide) hl7; omega
      have hzl : Laid ⟨0, 4, false, X, Z⟩ := ⟨4, 0, l, rfl, hZ.symm, (show headOk 0 4 = true by decide), by decide, fun j hj => by omega, by rw [lX]; exact hl0, by rw [lX]; exact hl1, hl7, by show X.length ≤ 16777216; omega⟩
      obtain ⟨D, hDd⟩ : ∃ D, elB 6 (oidB alg) ++ Z = D := ⟨_, rfl⟩
      have hoB := oidB_u8 ha
      have hDl : D.length ≤ 6000 := by rw [← hDd, List.length_append, elB_len]; omega
      have hDu : U8s D := by rw [← hDd]; exact (elB_u8 (by decide) hoB.1 (by omega)).append hZu
      obtain ⟨l2, h27, h20, h21⟩ := ex_len D.length (by omega)
      obtain ⟨V, hV⟩ : ∃ V, encB 0 true 16 0 l2 D = V := ⟨_, rfl⟩
      have hVu : U8s V := by rw [← hV]; exact encB_u8 0 true 16 0 l2 D (by decide) h27 hDu
      have hVl : V.length ≤ 6100 := by rw [← hV]; have := encB_le 0 true 16 0 l2 D (by decide) h27; omega
      have hvl : Laid ⟨0, 16, true, D, V⟩ := ⟨16, 0, l2, rfl, hV.symm, (show headOk 0 16 = true by decide), by decide, fun j hj => by omega, h20, h21, h27, by show D.length ≤ 16777216; omega⟩
      have hone : oneS (splitS V) = (⟨0, 16, true, D, V⟩, 0) := by
        rw [split_laid hVu [⟨0, 16, true, D, V⟩] (fun x hx => by rw [List.mem_singleton] at hx; subst hx; exact hvl) (by simp [rawOf]) (by simp) (by omega)]
        rfl
      have hdig : digS ⟨0, 16, true, D, V⟩ = 0 := by
        have := (dig_other ha ⟨0, 4, false, X, Z⟩ hzl hZu rfl hZl V).2
        rw [← hDd]; exact this
      have HX : Hid (Sl .u8 w (.slice a n c) X ∧ U8s X ∧ X.length = n) := ⟨hX, uX, lX⟩
      have HG : Hid (Glb w an ak ∧ P10 w) := ⟨hG, hT⟩
      have HC : Hid (Alg4 alg ∧ U8s (oidB alg) ∧ (oidB alg).length ≤ 9) := ⟨ha, hoB⟩
      have HP : Hid (encB 0 false 4 0 l X = Z ∧ encB 0 true 16 0 l2 D = V ∧ elB 6 (oidB alg) ++ Z = D ∧ U8s Z ∧ U8s D ∧ U8s V ∧ D.length ≤ 6000 ∧ V.length ≤ 6100 ∧ Z.length ≤ 5100) := ⟨hZ, hV, hDd, hZu, hDu, hVu, hDl, hVl, hZl⟩
      have HQ : Hid ((l ≤ 7 ∧ n / 256 ^ l = 0 ∧ ∀ j, j < l → 0 < n / 256 ^ j) ∧ (l2 ≤ 7 ∧ D.length / 256 ^ l2 = 0 ∧ ∀ j, j < l2 → 0 < D.length / 256 ^ j) ∧ oneS (splitS V) = (⟨0, 16, true, D, V⟩, 0) ∧ digS ⟨0, 16, true, D, V⟩ = 0) := ⟨⟨hl7, hl0, hl1⟩, ⟨h27, h20, h21⟩, hone, hdig⟩
      have HE : Hid (∀ W, Calls Tryz.prog 19 #[.int .i64 alg, .bool true] W fun e w' => ∃ r, e = .returned r ∧ Row .u8 5 W.heap.size w' r (layX alg) ∧ Below W.heap.size W w') := fun W => LayDigest_any alg ha true
      have HF : Hid (∀ W, Calls Tryz.prog 19 #[.int .i64 alg, .bool false] W fun e w' => ∃ r, e = .returned r ∧ Row .u8 5 W.heap.size w' r (layY alg) ∧ Below W.heap.size W w') := fun W => LayDigest_any alg ha false
      have hxy : U8s (layX alg) ∧ U8s (layY alg) ∧ (layX alg).length ≤ 100 ∧ (layY alg).length ≤ 100 := by
        rcases ha with rfl | rfl | rfl | rfl <;> refine ⟨?_, ?_, by decide, by decide⟩ <;> (intro x hx; unfold U8; simp [layX, layY, elB, oidB] at hx; omega)
      have hxd : U8s (elXo alg).d ∧ U8s (elYo alg).d ∧ (elXo alg).d.length ≤ 6000 ∧ (elYo alg).d.length ≤ 6000 := by
        rcases ha with rfl | rfl | rfl | rfl <;> refine ⟨?_, ?_, by decide, by decide⟩ <;> (intro x hx; unfold U8; simp [elXo, elYo, elB, oidB] at hx; omega)
      have HY : Hid ((U8s (layX alg) ∧ U8s (layY alg) ∧ (layX alg).length ≤ 100 ∧ (layY alg).length ≤ 100) ∧ U8s (elXo alg).d ∧ U8s (elYo alg).d ∧ (elXo alg).d.length ≤ 6000 ∧ (elYo alg).d.length ≤ 6000) := ⟨hxy, hxd⟩
      have HN5 : Hid (n ≤ 5000) := hn
      clear hG hT ha hX uX lX hn hl7 hl0 hl1 hZ hZu hZl hzl hDd hoB hDl hDu h27 h20 h21 hV hVu hVl hvl hone hdig hxy hxd
      go_enter Tryz.func5, Tryz.ntmps5
      go_wp2_with fail
      refine (HZ.out _).mono ?_
      rintro e w0 ⟨rfl, rfl⟩
      clear HZ
      go_wp2_with fail
      refine (HE.out _).mono ?_
      rintro e w1 ⟨r1, rfl, hr1, hb1⟩
      have H1 : Hid (Sl .u8 w1 r1 (layX alg) ∧ Below w.heap.size w w1) := ⟨hr1.sl, hb1⟩
      clear hr1 hb1
      go_wp2_with fail
      refine (ROne_any r1 (layX alg) H1.out.1 HY.out.1.1 (by have := HY.out.1.2.2.1; omega)).mono ?_
      rintro e w2 ⟨ho, hb2⟩
      rw [(one_X HC.out.1).1] at ho
      obtain ⟨x1, m1, d1, x2, m2, d2, rfl, hd, hr⟩ := ho
      have H2 : Hid (Sl .u8 w2 (.slice x1 m1 d1) (elXo alg).d ∧ Below w.heap.size w w2) := ⟨hd.sl, below_via H1.out.2 hb2 (Nat.le_refl _)⟩
      clear hd hr hb2
      simp only [elXo]
      go_upto_region 4 with (fail)
      refine wp_gen (fun W => Blk 24 W w2.heap.size [.int .i64 0, .int .i64 16, .bool true, .slice x1 m1 d1, .slice x2 m2 d2] ∧ Below w2.heap.size w2 W) ⟨Blk.new _ w2 _, al1 _⟩ ?_
      rintro W3 ⟨hB, hBw⟩
      have H3 : Hid (Below w2.heap.size w2 W3 ∧ Below w.heap.size w W3 ∧ ∀ W, Below W3.heap.size W3 W → W.cell? ⟨w2.heap.size, 0, none⟩ = some (.int .i64 0) ∧ W.cell? ⟨w2.heap.size, 1, none⟩ = some (.int .i64 16) ∧ W.cell? ⟨w2.heap.size, 2, none⟩ = some (.bool true) ∧ W.cell? ⟨w2.heap.size, 3, none⟩ = some (.slice x1 m1 d1) ∧ W.cell? ⟨w2.heap.size, 4, none⟩ = some (.slice x2 m2 d2)) := ⟨hBw, below_via H2.out.2 hBw (Nat.le_refl _), fun W h => by
        have q := below_blk h hB.lt hB
        exact ⟨q.cell 0, q.cell 1, q.cell 2, q.cell 3, q.cell 4⟩⟩
      clear hB hBw
      go_wp2_with fail
      refine (HF.out _).mono ?_
      rintro e w4 ⟨r4, rfl, hr4, hb4⟩
      have H4 : Hid (Sl .u8 w4 r4 (layY alg) ∧ Below W3.heap.size W3 w4) := ⟨hr4.sl, hb4⟩
      clear hr4 hb4
      go_wp2_with fail
      refine (ROne_any r4 (layY alg) H4.out.1 HY.out.1.2.1 (by have := HY.out.1.2.2.2; omega)).mono ?_
      rintro e w5 ⟨ho, hb5⟩
      rw [(one_X HC.out.1).2] at ho
      obtain ⟨y1, p1, q1, y2, p2, q2, rfl, hd, hr⟩ := ho
      have H5 : Hid (Sl .u8 w5 (.slice y1 p1 q1) (elYo alg).d ∧ Below W3.heap.size W3 w5) := ⟨hd.sl, below_via H4.out.2 hb5 (Nat.le_refl _)⟩
      clear hd hr hb5
      simp only [elYo]
      go_upto_region 5 with (fail)
      refine wp_gen (fun W => Blk 24 W w5.heap.size [.int .i64 0, .int .i64 16, .bool true, .slice y1 p1 q1, .slice y2 p2 q2] ∧ Below w5.heap.size w5 W) ⟨Blk.new _ w5 _, al1 _⟩ ?_
      rintro W6 ⟨hB, hBw⟩
      have H6 : Hid (Below W3.heap.size W3 W6 ∧ Below w.heap.size w W6 ∧ (∀ W, Below W6.heap.size W6 W → W.cell? ⟨w5.heap.size, 0, none⟩ = some (.int .i64 0) ∧ W.cell? ⟨w5.heap.size, 1, none⟩ = some (.int .i64 16) ∧ W.cell? ⟨w5.heap.size, 2, none⟩ = some (.bool true) ∧ W.cell? ⟨w5.heap.size, 3, none⟩ = some (.slice y1 p1 q1) ∧ W.cell? ⟨w5.heap.size, 4, none⟩ = some (.slice y2 p2 q2)) ∧ Sl .u8 W6 (.slice x1 m1 d1) (elXo alg).d ∧ Sl .u8 W6 (.slice y1 p1 q1) (elYo alg).d) := by
        have h36 := below_via H5.out.2 hBw (Nat.le_refl _)
        exact ⟨h36, below_via H3.out.2.1 h36 (Nat.le_refl _), fun W h => by
          have q := below_blk h hB.lt hB
          exact ⟨q.cell 0, q.cell 1, q.cell 2, q.cell 3, q.cell 4⟩, below_sl (below_via H3.out.1 h36 (Nat.le_refl _)) H2.out.1, below_sl hBw H5.out.1⟩
      clear hB hBw
      obtain ⟨i0, i1, i2, i3, i4⟩ := H3.out.2.2 W6 H6.out.1
      have HD1 : Hid (Calls Tryz.prog 7 #[.agg #[.int .i64 0, .int .i64 16, .bool true, .slice x1 m1 d1, .slice x2 m2 d2]] W6 fun e w' => e = .returned (.tuple #[.int .i64 alg, .int .i64 0]) ∧ Below W6.heap.size W6 w') := by
        have h := Digest_any (w := W6) (HG.out.1.below H6.out.2.1) (HG.out.2.below H6.out.2.1) (elXo alg) x1 m1 d1 x2 m2 d2 H6.out.2.2.2.1 HY.out.2.1 HY.out.2.2.2.1
        rw [(dig_X HC.out.1).1, (dig_X HC.out.1).2.2] at h
        exact h
      go_wp2_with fail
      refine HD1.out.mono ?_
      rintro e w7 ⟨rfl, hb7⟩
      have H7 : Hid (Below W6.heap.size W6 w7) := hb7
      clear hb7 i0 i1 i2 i3 i4 HD1
      obtain ⟨i0, i1, i2, i3, i4⟩ := H6.out.2.2.1 w7 H7.out
      have HD2 : Hid (Calls Tryz.prog 7 #[.agg #[.int .i64 0, .int .i64 16, .bool true, .slice y1 p1 q1, .slice y2 p2 q2]] w7 fun e w' => e = .returned (.tuple #[.int .i64 alg, .int .i64 0]) ∧ Below w7.heap.size w7 w') := by
        have hw7 := below_via H6.out.2.1 H7.out (Nat.le_refl _)
        have h := Digest_any (w := w7) (HG.out.1.below hw7) (HG.out.2.below hw7) (elYo alg) y1 p1 q1 y2 p2 q2 (below_sl H7.out H6.out.2.2.2.2) HY.out.2.2.1 HY.out.2.2.2.2
        rw [(dig_X HC.out.1).2.1, (dig_X HC.out.1).2.2] at h
        exact h
      go_wp2_with fail
      refine HD2.out.mono ?_
      rintro e w8 ⟨rfl, hb8⟩
      have H8 : Hid (Below W6.heap.size W6 w8 ∧ Below w.heap.size w w8) := ⟨below_via H7.out hb8 (Nat.le_refl _), below_via H6.out.2.1 (below_via H7.out hb8 (Nat.le_refl _)) (Nat.le_refl _)⟩
      clear hb8 i0 i1 i2 i3 i4 HD2
      go_wp2_with fail
      refine (RPut_any 0 4 0 l false _ 1 1 n _ [X] (lsA1 (below_sl H8.out.2 HX.out.1) HX.out.2.1) (by rw [flat1]; exact HX.out.2.2) (by have := HN5.out; omega) (by decide) (by decide) (by decide) (fun j hj => by omega) (by decide) HQ.out.1.2.1 HQ.out.1.2.2 HQ.out.1.1).mono ?_
      rintro e w9 ⟨r9, rfl, hr9, hb9⟩
      obtain ⟨z1, z2, rfl⟩ := hr9.ne
      obtain ⟨zn, hzn⟩ : ∃ k, (headB 0 false 4 0 ++ lenB n l ++ [X].flatten).length = k := ⟨_, rfl⟩
      rw [hzn] at hr9 ⊢
      have hE : headB 0 false 4 0 ++ lenB n l ++ [X].flatten = Z := by rw [flat1, ← HP.out.1]; unfold encB; rw [HX.out.2.2]
      rw [hE] at hr9
      have hb89 : Below w8.heap.size w8 w9 := below_via (al1 _) hb9 (Nat.le_refl _)
      have H9 : Hid (Sl .u8 w9 (.slice z1 zn z2) Z ∧ Below W6.heap.size W6 w9 ∧ Below w.heap.size w w9 ∧ Sl .u8 w9 (.slice y1 p1 q1) (elYo alg).d) := ⟨hr9.sl, below_via H8.out.1 hb89 (Nat.le_refl _), below_via H8.out.2 hb89 (Nat.le_refl _), below_sl (below_via H8.out.1 hb89 (Nat.le_refl _)) H6.out.2.2.2.2⟩
      clear hr9 hb9 hb89 hzn hE
      obtain ⟨i0, i1, i2, i3, i4⟩ := H6.out.2.2.1 w9 H9.out.2.1
      go_wp2_with fail
      refine (RPut_any 0 16 0 l2 true _ 2 2 D.length _ [elB 6 (oidB alg), Z] (lsA2 H9.out.2.2.2 (elB_u8 (by decide) HC.out.2.1 (by have := HC.out.2.2; omega)) H9.out.1 HP.out.2.2.2.1) (by rw [← HP.out.2.2.1]; simp) (by have := HP.out.2.2.2.2.2.2.1; omega) (by decide) (by decide) (by decide) (fun j hj => by omega) (by decide) HQ.out.2.1.2.1 HQ.out.2.1.2.2 HQ.out.2.1.1).mono ?_
      rintro e w10 ⟨r10, rfl, hr10, hb10⟩
      have hE : headB 0 true 16 0 ++ lenB D.length l2 ++ [elB 6 (oidB alg), Z].flatten = V := by rw [← HP.out.2.1]; unfold encB; rw [← HP.out.2.2.1]; simp
      rw [hE] at hr10
      have hb910 : Below w9.heap.size w9 w10 := below_via (al1 _) hb10 (Nat.le_refl _)
      have H10 : Hid (Sl .u8 w10 r10 V ∧ Below w.heap.size w w10) := ⟨hr10.sl, below_via H9.out.2.2.1 hb910 (Nat.le_refl _)⟩
      clear hr10 hb10 hb910 hE i0 i1 i2 i3 i4
      go_wp2_with fail
      refine (ROne_any r10 V H10.out.1 HP.out.2.2.2.2.2.1 (by have := HP.out.2.2.2.2.2.2.2.1; omega)).mono ?_
      rintro e w11 ⟨ho, hb11⟩
      rw [HQ.out.2.2.1] at ho
      obtain ⟨v1, s1, t1, v2, s2, t2, rfl, hd, hr⟩ := ho
      have H11 : Hid (Sl .u8 w11 (.slice v1 s1 t1) D ∧ Below w.heap.size w w11) := ⟨hd.sl, below_via H10.out.2 hb11 (Nat.le_refl _)⟩
      clear hd hr hb11
      simp only []
      go_upto_region 10 with (fail)
      refine wp_gen (fun W => Blk 24 W w11.heap.size [.int .i64 0, .int .i64 16, .bool true, .slice v1 s1 t1, .slice v2 s2 t2] ∧ Below w11.heap.size w11 W) ⟨Blk.new _ w11 _, al1 _⟩ ?_
      rintro W12 ⟨hB, hBw⟩
      have H12 : Hid (Sl .u8 W12 (.slice v1 s1 t1) D ∧ Below w.heap.size w W12) := ⟨below_sl hBw H11.out.1, below_via H11.out.2 hBw (Nat.le_refl _)⟩
      have i0 : W12.cell? ⟨w11.heap.size, 0, none⟩ = some (.int .i64 0) := hB.cell 0
      have i1 : W12.cell? ⟨w11.heap.size, 1, none⟩ = some (.int .i64 16) := hB.cell 1
      have i2 : W12.cell? ⟨w11.heap.size, 2, none⟩ = some (.bool true) := hB.cell 2
      have i3 : W12.cell? ⟨w11.heap.size, 3, none⟩ = some (.slice v1 s1 t1) := hB.cell 3
      have i4 : W12.cell? ⟨w11.heap.size, 4, none⟩ = some (.slice v2 s2 t2) := hB.cell 4
      clear hB hBw
      have HD3 : Hid (Calls Tryz.prog 7 #[.agg #[.int .i64 0, .int .i64 16, .bool true, .slice v1 s1 t1, .slice v2 s2 t2]] W12 fun e w' => e = .returned (.tuple #[.int .i64 0, .int .i64 110]) ∧ Below W12.heap.size W12 w') := by
        have h := Digest_any (w := W12) (HG.out.1.below H12.out.2) (HG.out.2.below H12.out.2) ⟨0, 16, true, D, V⟩ v1 s1 t1 v2 s2 t2 H12.out.1 HP.out.2.2.2.2.1 HP.out.2.2.2.2.2.2.1
        rw [HQ.out.2.2.2] at h
        exact h
      go_wp2_with fail
      refine HD3.out.mono ?_
      rintro e w13 ⟨rfl, hb13⟩
      have H13 : Hid (Below w.heap.size w w13) := below_via H12.out.2 hb13 (Nat.le_refl _)
      clear hb13 i0 i1 i2 i3 i4 HD3
      go_wp2_with (first | (go_at_call 11; refine (num11_any _).mono ?_; rintro e w' ⟨rfl, rfl⟩) | (go_at_call 6; refine (HL.out _ H13.out).mono ?_; rintro e w14 ⟨rfl, hb14⟩; have H14 : Hid (Below w.heap.size w w14) := below_via H13.out hb14 (Nat.le_refl _); clear hb14))
      go_ret
      exact ⟨by simp, H14.out⟩
    · have hn' : decide ((5000 : Int) < (n : Int)) = true := by simp; omega
      clear hG hT ha hX uX lX hn
      go_enter Tryz.func5, Tryz.ntmps5
      go_wp2_with fail
      refine (HZ.out _).mono ?_
      rintro e w0 ⟨rfl, rfl⟩
      go_wp2_with fail
      refine (HL.out _ (Below.refl _ _)).mono ?_
      rintro e w1 ⟨rfl, hb1⟩
      have H1 : Hid (Below w.heap.size w w1) := hb1
      clear hb1
      go_wp2
      go_ret
      exact ⟨rfl, H1.out⟩
  · have hz : sizA alg = 0 := by
      unfold sizA
      rw [if_neg (fun h => ha (.inl h)), if_neg (fun h => ha (.inr (.inl h))), if_neg (fun h => ha (.inr (.inr (.inl h)))), if_neg (fun h => ha (.inr (.inr (.inr h))))]
    rw [hz] at HZ
    clear hG hT ha hX uX lX hz
    go_enter Tryz.func5, Tryz.ntmps5
    go_wp2_with fail
    refine (HZ.out _).mono ?_
    rintro e w0 ⟨rfl, rfl⟩
    go_wp2_with fail
    refine (HL.out _ (Below.refl _ _)).mono ?_
    rintro e w1 ⟨rfl, hb1⟩
    have H1 : Hid (Below w.heap.size w w1) := hb1
    clear hb1
    go_wp2
    go_ret
    exact ⟨rfl, H1.out⟩
end Go.Proofs.YtillkhjihggcjaaGreatDoor
