/-
  Curves: the law CurveBytes.
-/
import Derived.Test.YteagdgbcfbkfbaaK29
namespace Go.Proofs.Yteagdgbcfbkfbaa
open Go.RowKit
set_option maxRecDepth 20000
theorem prs_lt (c : Int) (S : List Int) : (lim (prsS c S).1).length ≤ 12 ∧ (lim (prsS c S).2.1).length ≤ 12 := by
  have z : (lim 0).length ≤ 12 := by rw [lim0.2 rfl]; decide
  unfold prsS
  cases hc : crv c with
  | none => exact ⟨z, z⟩
  | some C =>
    show (lim (prsC C S).1).length ≤ 12 ∧ (lim (prsC C S).2.1).length ≤ 12
    unfold prsC
    split
    · split
      · rename_i h
        have h2 := onB_lt (by have := crv_p1 hc; omega) h.2
        rw [val_lim, val_lim] at h2
        have h12 : C.p < 4294967296 ^ 12 := by
          unfold crv at hc
          split at hc
          · cases hc; decide
          · split at hc
            · cases hc; decide
            · cases hc
        exact ⟨lim12 (Nat.lt_trans (Int.ofNat_lt.1 h2.1) h12), lim12 (Nat.lt_trans (Int.ofNat_lt.1 h2.2) h12)⟩
      · exact ⟨z, z⟩
    · exact ⟨z, z⟩
theorem pbS_len (c : Int) (X Y : List Int) : (pbS c X Y).1.length ≤ 200 := by
  unfold pbS
  cases hc : crv c with
  | none => simp
  | some C =>
    show (pbC C X Y).1.length ≤ 200
    unfold pbC
    have h := crv_szle hc
    split
    · have h1 := bytS_len (val X).toNat C.sz
      have h2 := bytS_len (val Y).toNat C.sz
      simp only [List.length_append, List.length_cons, List.length_nil]
      omega
    · simp
set_option maxHeartbeats 8000000 in
theorem CurveBytes_any {w : World} (c : Int) (a0 : Option Addr) (n0 c0 : Nat) (S : List Int) (hS : Sl .u8 w (.slice a0 n0 c0) S) (uS : U8s S) (lS : S.length = n0) (a1 : Option Addr) (n1 c1 : Nat) (a2 : Option Addr) (n2 c2 : Nat) (X Y : List Int) (hX : Sl .u32 w (.slice a1 n1 c1) X) (hY : Sl .u32 w (.slice a2 n2 c2) Y) (uX : U32s X) (uY : U32s Y) (lX : X.length = n1) (lY : Y.length = n2) :
    Calls Try.prog 6 #[.int .i64 c, .slice a0 n0 c0, .agg #[.slice a1 n1 c1, .slice a2 n2 c2]] w fun e w' => e = .returned (.bool true) ∧ Below w.heap.size w w' := by
  obtain ⟨lg, hlg⟩ : ∃ z, (decide (600 < (n1 : Int)) || decide (600 < (n2 : Int))) = z := ⟨_, rfl⟩
  have HG : Hid (∀ W : World, Calls Try.prog 9 #[.agg #[.slice a1 n1 c1, .slice a2 n2 c2]] W fun e w' => e = .returned (.bool lg) ∧ Below W.heap.size W w') := fun W => long09_any a1 n1 c1 a2 n2 c2 lg hlg
  have HA : Hid (Sl .u8 w (.slice a0 n0 c0) S ∧ U8s S ∧ S.length = n0 ∧ Sl .u32 w (.slice a1 n1 c1) X ∧ Sl .u32 w (.slice a2 n2 c2) Y ∧ U32s X ∧ U32s Y ∧ X.length = n1 ∧ Y.length = n2) := ⟨hS, uS, lS, hX, hY, uX, uY, lX, lY⟩
  have HN : Hid (lg = false → n1 ≤ 600 ∧ n2 ≤ 600) := by
    intro h
    rw [h] at hlg
    simp at hlg
    omega
  clear hS uS lS hX hY uX uY lX lY hlg
  go_enter Try.func6, Try.ntmps6
  go_upto_region 1 with (refine wpList_boxR rfl 24 (.tmp 2) rfl #[.slice a1 n1 c1, .slice a2 n2 c2] rfl ?_)
  refine wp_gen (fun W => Blk 24 W w.heap.size [.slice a1 n1 c1, .slice a2 n2 c2] ∧ Below w.heap.size w W) ⟨Blk.new _ w _, al1 _⟩ ?_
  rintro W1 ⟨hB, hb⟩
  have H1 : Hid (Below w.heap.size w W1 ∧ ∀ W, Below W1.heap.size W1 W → W.cell? ⟨w.heap.size, 0, none⟩ = some (.slice a1 n1 c1) ∧ W.cell? ⟨w.heap.size, 1, none⟩ = some (.slice a2 n2 c2)) := ⟨hb, fun W h => ⟨(below_blk h hB.lt hB).cell 0, (below_blk h hB.lt hB).cell 1⟩⟩
  have p0 : W1.cell? ⟨w.heap.size, 0, none⟩ = some (.slice a1 n1 c1) := hB.cell 0
  have p1 : W1.cell? ⟨w.heap.size, 1, none⟩ = some (.slice a2 n2 c2) := hB.cell 1
  clear hB hb
  go_wp2_with fail
  refine (HG.out _).mono ?_
  rintro e w2 ⟨rfl, hb⟩
  have H2 : Hid (Below W1.heap.size W1 w2 ∧ Below w.heap.size w w2) := ⟨hb, below_via H1.out.1 hb (Nat.le_refl _)⟩
  clear hb p0 p1 HG
  cases lg with
  | true =>
    go_wp2_with fail
    refine (live09_any (w := _)).mono ?_
    rintro e w3 ⟨rfl, hb⟩
    have HZ : Hid (Below w.heap.size w w3) := below_via H2.out.2 hb (Nat.le_refl _)
    clear hb
    go_wp2
    go_ret
    exact ⟨rfl, HZ.out⟩
  | false =>
    by_cases hl : 5000 < n0
    · have hl' : (5000 : Int) < (n0 : Int) := by omega
      go_wp2_with fail
      refine (live09_any (w := _)).mono ?_
      rintro e w3 ⟨rfl, hb⟩
      have HZ : Hid (Below w.heap.size w w3) := below_via H2.out.2 hb (Nat.le_refl _)
      clear hb
      go_wp2
      go_ret
      exact ⟨rfl, HZ.out⟩
    have hl' : ¬ (5000 : Int) < (n0 : Int) := by omega
    have HM : Hid (n1 ≤ 600 ∧ n2 ≤ 600 ∧ n0 ≤ 5000) := ⟨(HN.out rfl).1, (HN.out rfl).2, by omega⟩
    clear hl HN
    go_wp2_with fail
    refine (Lent8_any S _ w2 (below_sl H2.out.2 HA.out.1) (by have := HA.out; have := HM.out; omega)).mono ?_
    rintro e w3 ⟨r3, rfl, hr3, hb⟩
    obtain ⟨a3, n3, c3, rfl, hn3⟩ := sl_cut hr3.sl
    have H3 : Hid (Below W1.heap.size W1 w3 ∧ Below w.heap.size w w3 ∧ LentR8 w2.heap.size w3 (.slice a3 n3 c3) S) := ⟨below_via H2.out.1 hb (Nat.le_refl _), below_via H2.out.2 hb (Nat.le_refl _), hr3⟩
    clear hb hr3 hn3 H2
    go_wp2_with fail
    refine (Parse_any c a3 n3 c3 S H3.out.2.2.sl HA.out.2.1).mono ?_
    rintro e w4 ⟨r0, r1, rfl, hr0, hr1, hb⟩
    obtain ⟨er, her⟩ : ∃ er, (prsS c S).2.2 = er := ⟨_, rfl⟩
    have HL : Hid ((lim (prsS c S).1).length ≤ 1000 ∧ (lim (prsS c S).2.1).length ≤ 1000 ∧ (pbS c X Y).1.length ≤ 200) := by
      have := prs_lt c S
      exact ⟨by omega, by omega, pbS_len c X Y⟩
    obtain ⟨x, hx⟩ : ∃ x, (prsS c S).1 = x := ⟨_, rfl⟩
    obtain ⟨y, hy⟩ : ∃ y, (prsS c S).2.1 = y := ⟨_, rfl⟩
    rw [hx] at hr0
    rw [hy] at hr1
    rw [hx, hy] at HL
    rw [her]
    have HE : Hid ((prsS c S).2.2 = er ∧ (prsS c S).1 = x ∧ (prsS c S).2.1 = y) := ⟨her, hx, hy⟩
    obtain ⟨xa, xn, xc, rfl, -⟩ := sl_cut hr0.sl
    obtain ⟨ya, yn, yc, rfl, -⟩ := sl_cut hr1.sl
    have V4 : Hid (Below W1.heap.size W1 w4 ∧ Below w.heap.size w w4 ∧ LentR8 w2.heap.size w4 (.slice a3 n3 c3) S ∧ Nb w4 (.slice xa xn xc) x ∧ Nb w4 (.slice ya yn yc) y) := ⟨below_via H3.out.1 hb (Nat.le_refl _), below_via H3.out.2.1 hb (Nat.le_refl _), H3.out.2.2.below hb, hr0, hr1⟩
    clear hb hr0 hr1 H3 her hx hy
    go_upto_region 5 with (fail)
    refine wp_gen (fun W => Blk 24 W w4.heap.size [.slice xa xn xc, .slice ya yn yc] ∧ Below w4.heap.size w4 W) ⟨Blk.new _ _ _, al1 _⟩ ?_
    rintro W4 ⟨hB, hb⟩
    have H4 : Hid (Below W1.heap.size W1 W4 ∧ Below w.heap.size w W4 ∧ LentR8 w2.heap.size W4 (.slice a3 n3 c3) S ∧ Nb W4 (.slice xa xn xc) x ∧ Nb W4 (.slice ya yn yc) y ∧ Blk 24 W4 w4.heap.size [.slice xa xn xc, .slice ya yn yc]) := ⟨below_via V4.out.1 hb (Nat.le_refl _), below_via V4.out.2.1 hb (Nat.le_refl _), V4.out.2.2.1.below hb, V4.out.2.2.2.1.below hb, V4.out.2.2.2.2.below hb, hB⟩
    clear hB hb V4
    go_wp2_with fail
    refine (RParse_any c a0 n0 c0 S (below_sl H4.out.2.1 HA.out.1) HA.out.2.1).mono ?_
    rintro e w5 ⟨r0, r1, rfl, hr0, hr1, hb⟩
    rw [HE.out.2.1] at hr0
    rw [HE.out.2.2] at hr1
    rw [HE.out.1]
    obtain ⟨ua, un, uc, rfl, -⟩ := sl_cut hr0.sl
    obtain ⟨va, vn, vc, rfl, -⟩ := sl_cut hr1.sl
    have V5 : Hid (Below W1.heap.size W1 w5 ∧ Below w.heap.size w w5 ∧ LentR8 w2.heap.size w5 (.slice a3 n3 c3) S ∧ Nb w5 (.slice xa xn xc) x ∧ Nb w5 (.slice ya yn yc) y ∧ Blk 24 w5 w4.heap.size [.slice xa xn xc, .slice ya yn yc] ∧ Nb w5 (.slice ua un uc) x ∧ Nb w5 (.slice va vn vc) y) := ⟨below_via H4.out.1 hb (Nat.le_refl _), below_via H4.out.2.1 hb (Nat.le_refl _), H4.out.2.2.1.below hb, H4.out.2.2.2.1.below hb, H4.out.2.2.2.2.1.below hb, below_blk hb H4.out.2.2.2.2.2.lt H4.out.2.2.2.2.2, hr0, hr1⟩
    clear hb hr0 hr1 H4 HE
    go_upto_region 6 with (fail)
    refine wp_gen (fun W => Blk 24 W w5.heap.size [.slice ua un uc, .slice va vn vc] ∧ Below w5.heap.size w5 W) ⟨Blk.new _ _ _, al1 _⟩ ?_
    rintro W5 ⟨hB, hb⟩
    have H5 : Hid (Below W1.heap.size W1 W5 ∧ Below w.heap.size w W5 ∧ LentR8 w2.heap.size W5 (.slice a3 n3 c3) S ∧ Nb W5 (.slice xa xn xc) x ∧ Nb W5 (.slice ya yn yc) y ∧ Blk 24 W5 w4.heap.size [.slice xa xn xc, .slice ya yn yc] ∧ Nb W5 (.slice ua un uc) x ∧ Nb W5 (.slice va vn vc) y ∧ Blk 24 W5 w5.heap.size [.slice ua un uc, .slice va vn vc]) := ⟨below_via V5.out.1 hb (Nat.le_refl _), below_via V5.out.2.1 hb (Nat.le_refl _), V5.out.2.2.1.below hb, V5.out.2.2.2.1.below hb, V5.out.2.2.2.2.1.below hb, below_blk hb V5.out.2.2.2.2.2.1.lt V5.out.2.2.2.2.2.1, V5.out.2.2.2.2.2.2.1.below hb, V5.out.2.2.2.2.2.2.2.below hb, hB⟩
    clear hB hb V5
    have p0 := (H1.out.2 W5 H5.out.1).1
    have p1 := (H1.out.2 W5 H5.out.1).2
    go_wp2_with fail
    refine (Bytes_any c _ _ X Y (below_sl H5.out.2.1 HA.out.2.2.2.1) (below_sl H5.out.2.1 HA.out.2.2.2.2.1) HA.out.2.2.2.2.2.1 HA.out.2.2.2.2.2.2.1 (by have := HA.out; have := HM.out; omega) (by have := HA.out; have := HM.out; omega)).mono ?_
    rintro e w6 ⟨v6, rfl, hv, hb⟩
    obtain ⟨sa, sn, sc, rfl, -⟩ := sl_cut hv
    obtain ⟨R, hR⟩ : ∃ R, pbS c X Y = R := ⟨_, rfl⟩
    rw [hR] at hv HL ⊢
    have H6 : Hid (Below W1.heap.size W1 w6 ∧ Below w.heap.size w w6 ∧ LentR8 w2.heap.size w6 (.slice a3 n3 c3) S ∧ (Nb w6 (.slice xa xn xc) x ∧ Nb w6 (.slice ya yn yc) y ∧ Blk 24 w6 w4.heap.size [.slice xa xn xc, .slice ya yn yc] ∧ Nb w6 (.slice ua un uc) x ∧ Nb w6 (.slice va vn vc) y ∧ Blk 24 w6 w5.heap.size [.slice ua un uc, .slice va vn vc]) ∧ Sl .u8 w6 (.slice sa sn sc) R.1) := ⟨below_via H5.out.1 hb (Nat.le_refl _), below_via H5.out.2.1 hb (Nat.le_refl _), H5.out.2.2.1.below hb, ⟨H5.out.2.2.2.1.below hb, H5.out.2.2.2.2.1.below hb, below_blk hb H5.out.2.2.2.2.2.1.lt H5.out.2.2.2.2.2.1, H5.out.2.2.2.2.2.2.1.below hb, H5.out.2.2.2.2.2.2.2.1.below hb, below_blk hb H5.out.2.2.2.2.2.2.2.2.lt H5.out.2.2.2.2.2.2.2.2⟩, hv⟩
    clear hb hv p0 p1 H5
    have p0 := (H1.out.2 w6 H6.out.1).1
    have p1 := (H1.out.2 w6 H6.out.1).2
    have HR : Hid (pbS c X Y = R) := hR
    clear hR
    go_wp2_with fail
    refine (RBytes09_any c a1 n1 c1 a2 n2 c2 X Y (below_sl H6.out.2.1 HA.out.2.2.2.1) (below_sl H6.out.2.1 HA.out.2.2.2.2.1) HA.out.2.2.2.2.2.1 HA.out.2.2.2.2.2.2.1 (by have := HA.out; have := HM.out; omega) (by have := HA.out; have := HM.out; omega)).mono ?_
    rintro e w7 ⟨v7, rfl, hv, hb⟩
    obtain ⟨ta, tn, tc, rfl, -⟩ := sl_cut hv
    rw [HR.out] at hv ⊢
    obtain ⟨R1, R2⟩ := R
    have H7 : Hid (Below w.heap.size w w7 ∧ LentR8 w2.heap.size w7 (.slice a3 n3 c3) S ∧ (Nb w7 (.slice xa xn xc) x ∧ Nb w7 (.slice ya yn yc) y ∧ Blk 24 w7 w4.heap.size [.slice xa xn xc, .slice ya yn yc] ∧ Nb w7 (.slice ua un uc) x ∧ Nb w7 (.slice va vn vc) y ∧ Blk 24 w7 w5.heap.size [.slice ua un uc, .slice va vn vc]) ∧ Sl .u8 w7 (.slice sa sn sc) R1 ∧ Sl .u8 w7 (.slice ta tn tc) R1) := ⟨below_via H6.out.2.1 hb (Nat.le_refl _), H6.out.2.2.1.below hb, ⟨H6.out.2.2.2.1.1.below hb, H6.out.2.2.2.1.2.1.below hb, below_blk hb H6.out.2.2.2.1.2.2.1.lt H6.out.2.2.2.1.2.2.1, H6.out.2.2.2.1.2.2.2.1.below hb, H6.out.2.2.2.1.2.2.2.2.1.below hb, below_blk hb H6.out.2.2.2.1.2.2.2.2.2.lt H6.out.2.2.2.1.2.2.2.2.2⟩, below_sl hb H6.out.2.2.2.2, hv⟩
    clear hb hv p0 p1 H6 H1 HR
    have p0 : w7.cell? ⟨w4.heap.size, 0, none⟩ = some (.slice xa xn xc) := H7.out.2.2.1.2.2.1.cell 0
    have p1 : w7.cell? ⟨w4.heap.size, 1, none⟩ = some (.slice ya yn yc) := H7.out.2.2.1.2.2.1.cell 1
    have q0 : w7.cell? ⟨w5.heap.size, 0, none⟩ = some (.slice ua un uc) := H7.out.2.2.1.2.2.2.2.2.cell 0
    have q1 : w7.cell? ⟨w5.heap.size, 1, none⟩ = some (.slice va vn vc) := H7.out.2.2.1.2.2.2.2.2.cell 1
    go_wp2_with fail
    refine (SameP_any _ _ _ _ x y H7.out.2.2.1.1 H7.out.2.2.1.2.1 H7.out.2.2.1.2.2.2.1 H7.out.2.2.1.2.2.2.2.1 HL.out.1 HL.out.2.1).mono ?_
    rintro e w8 ⟨rfl, hb⟩
    have H8 : Hid (Below w.heap.size w w8 ∧ LentR8 w2.heap.size w8 (.slice a3 n3 c3) S ∧ Sl .u8 w8 (.slice sa sn sc) R1 ∧ Sl .u8 w8 (.slice ta tn tc) R1) := ⟨below_via H7.out.1 hb (Nat.le_refl _), H7.out.2.1.below hb, below_sl hb H7.out.2.2.2.1, below_sl hb H7.out.2.2.2.2⟩
    clear hb p0 p1 q0 q1 H7
    go_wp2_with (go_at_call 16; refine (num09_any _ _).mono ?_; rintro e w' ⟨rfl, rfl⟩)
    refine (SameBytes_any _ _ R1 H8.out.2.2.1 H8.out.2.2.2 (by have : R1.length ≤ 200 := HL.out.2.2; omega)).mono ?_
    rintro e w9 ⟨rfl, hb⟩
    have H9 : Hid (Below w.heap.size w w9 ∧ LentR8 w2.heap.size w9 (.slice a3 n3 c3) S) := ⟨below_via H8.out.1 hb (Nat.le_refl _), H8.out.2.1.below hb⟩
    clear hb H8
    go_wp2_with (go_at_call 16; refine (num09_any _ _).mono ?_; rintro e w' ⟨rfl, rfl⟩)
    refine (Kept8_any _ _ S H9.out.2 (below_sl H9.out.1 HA.out.1) (by have := HA.out; have := HM.out; omega)).mono ?_
    rintro e w10 ⟨rfl, hb⟩
    have H10 : Hid (Below w.heap.size w w10) := below_via H9.out.1 hb (Nat.le_refl _)
    clear hb H9
    go_wp2_with fail
    refine (live09_any (w := _)).mono ?_
    rintro e w11 ⟨rfl, hb⟩
    have HZ : Hid (Below w.heap.size w w11) := below_via H10.out hb (Nat.le_refl _)
    clear hb
    go_wp2
    go_ret
    exact ⟨rfl, HZ.out⟩
end Go.Proofs.Yteagdgbcfbkfbaa
