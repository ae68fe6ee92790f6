/-
  slices.Concat of three slices of bytes.
-/
import Derived.LoopN
import Derived.Test.YteagdgbcfbkfbaaK27
namespace Go.Proofs.Yteagdgbcfbkfbaa
open Go.RowKit
set_option maxRecDepth 20000
set_option maxHeartbeats 4000000 in
theorem SConcat3 {w : World} (bk : Nat) (T : TypeId) (a0 : Option Addr) (n0 c0 : Nat) (a1 : Option Addr) (n1 c1 : Nat) (a2 : Option Addr) (n2 c2 : Nat) (A B C : List Int) (hk : Blk T w bk [.slice a0 n0 c0, .slice a1 n1 c1, .slice a2 n2 c2]) (hA : Sl .u8 w (.slice a0 n0 c0) A) (hB : Sl .u8 w (.slice a1 n1 c1) B) (hC : Sl .u8 w (.slice a2 n2 c2) C) (h0 : 0 < n0) (l0 : n0 ≤ 5000) (l1 : n1 ≤ 5000) (l2 : n2 ≤ 5000) :
    Calls Try.prog 62 #[.slice (some ⟨bk, 0, none⟩) 3 3] w fun e w' => ∃ v, e = .returned v ∧ Sl .u8 w' v (A ++ B ++ C) ∧ Below w.heap.size w w' := by
  have hlA : A.length = n0 := by obtain ⟨a, c, hv, _⟩ := hA; simp only [Value.slice.injEq] at hv; exact hv.2.1.symm
  have hlB : B.length = n1 := by obtain ⟨a, c, hv, _⟩ := hB; simp only [Value.slice.injEq] at hv; exact hv.2.1.symm
  have hlC : C.length = n2 := by obtain ⟨a, c, hv, _⟩ := hC; simp only [Value.slice.injEq] at hv; exact hv.2.1.symm
  have HS : Hid (∀ W, Below w.heap.size w W → Sl .u8 W (.slice a0 n0 c0) A ∧ Sl .u8 W (.slice a1 n1 c1) B ∧ Sl .u8 W (.slice a2 n2 c2) C ∧ Blk T W bk [.slice a0 n0 c0, .slice a1 n1 c1, .slice a2 n2 c2]) := fun W h => ⟨below_sl h hA, below_sl h hB, below_sl h hC, below_blk h hk.lt hk⟩
  have HL : Hid (A.length ≤ 5000 ∧ B.length ≤ 5000 ∧ C.length ≤ 5000) := ⟨by omega, by omega, by omega⟩
  have HG : Hid (∀ m : Int, m = ((n0 + n1 + n2 : Nat) : Int) → Calls Try.prog 96 #[.slice none 0 0, .int .i64 m] w fun e w' => ∃ v, e = .returned v ∧ Row .u8 5 w.heap.size w' v [] ∧ Below w.heap.size w w') := fun m hm => by rw [hm]; exact SGrow (n0 + n1 + n2) (by omega) (by omega)
  have k0 : w.cell? ⟨bk, 0, none⟩ = some (.slice a0 n0 c0) := hk.cell 0
  have k1 : w.cell? ⟨bk, 1, none⟩ = some (.slice a1 n1 c1) := hk.cell 1
  have k2 : w.cell? ⟨bk, 2, none⟩ = some (.slice a2 n2 c2) := hk.cell 2
  have e0 : decide ((n0 : Int) < 0) = false := by simp
  have e1 : decide ((n0 : Int) + (n1 : Int) < 0) = false := by simp; omega
  have e2 : decide ((n0 : Int) + (n1 : Int) + (n2 : Int) < 0) = false := by simp; omega
  clear hA hB hC hk hlA hlB hlC
  go_enter Try.func62, Try.ntmps62
  go_wp2
  refine wp_loop_rounds 4 ?_
  rw [rounds_succ]
  go_wp2
  rw [rounds_succ]
  go_wp2
  rw [rounds_succ]
  go_wp2
  rw [rounds_succ]
  go_wp2_with fail
  refine (HG.out _ (by omega)).mono ?_
  rintro e w1 ⟨v1, rfl, hr1, hb1⟩
  have H1 : Hid (Row .u8 5 w.heap.size w1 v1 [] ∧ Below w.heap.size w w1) := ⟨hr1, hb1⟩
  have hB := (HS.out _ hb1).2.2.2
  have p0 : w1.cell? ⟨bk, 0, none⟩ = some (.slice a0 n0 c0) := hB.cell 0
  clear hr1 hb1 hB k0 k1 k2 e0 e1 e2
  go_wp2_with fail
  refine wp_loop_rounds 4 ?_
  rw [rounds_succ]
  go_wp2_with (at_builtin; refine wpList_ap rfl (.tmp 31) (.tmp 32) 45 45 rfl .u8 5 1 Try.und8 Try.info8 (by decide) w.heap.size _ [] rfl H1.out.1 _ A rfl (src_sl Try.und8 (HS.out _ H1.out.2).1) (by have := HL.out; simp; omega) H1.out.2.size ?_; intro v2 w2 hr hg)
  have H2 : Hid (Row .u8 5 w.heap.size w2 v2 A ∧ Below w.heap.size w w2) := ⟨hr, H1.out.2.trans (hg.below H1.out.1 H1.out.2.size)⟩
  have hB := (HS.out _ H2.out.2).2.2.2
  have q0 : w2.cell? ⟨bk, 1, none⟩ = some (.slice a1 n1 c1) := hB.cell 1
  clear hr hg hB p0 H1
  rw [rounds_succ]
  go_wp2_with (at_builtin; refine wpList_ap rfl (.tmp 31) (.tmp 32) 45 45 rfl .u8 5 1 Try.und8 Try.info8 (by decide) w.heap.size _ A rfl H2.out.1 _ B rfl (src_sl Try.und8 (HS.out _ H2.out.2).2.1) (by have := HL.out; simp; omega) H2.out.2.size ?_; intro v3 w3 hr hg)
  have H3 : Hid (Row .u8 5 w.heap.size w3 v3 (A ++ B) ∧ Below w.heap.size w w3) := ⟨hr, H2.out.2.trans (hg.below H2.out.1 H2.out.2.size)⟩
  have hB := (HS.out _ H3.out.2).2.2.2
  have q1 : w3.cell? ⟨bk, 2, none⟩ = some (.slice a2 n2 c2) := hB.cell 2
  clear hr hg hB q0 H2
  rw [rounds_succ]
  go_wp2_with (at_builtin; refine wpList_ap rfl (.tmp 31) (.tmp 32) 45 45 rfl .u8 5 1 Try.und8 Try.info8 (by decide) w.heap.size _ (A ++ B) rfl H3.out.1 _ C rfl (src_sl Try.und8 (HS.out _ H3.out.2).2.2.1) (by have := HL.out; simp; omega) H3.out.2.size ?_; intro v4 w4 hr hg)
  have H4 : Hid (Row .u8 5 w.heap.size w4 v4 (A ++ B ++ C) ∧ Below w.heap.size w w4) := ⟨hr, H3.out.2.trans (hg.below H3.out.1 H3.out.2.size)⟩
  clear hr hg q1 H3
  rw [rounds_succ]
  go_wp2
  go_ret
  exact ⟨_, rfl, H4.out.1.sl, H4.out.2⟩
end Go.Proofs.Yteagdgbcfbkfbaa
/-
  Curve: Bytes. (wip/mku41.py)
-/
namespace Go.Proofs.Yteagdgbcfbkfbaa
open Go.RowKit
set_option maxRecDepth 20000
/-- A point's bytes, or the fault. -/
def pbC (C : Cv) (X Y : List Int) : List Int × Int := if onB C.p C.b X Y = true ∧ farB X Y = false then ([4] ++ (Nt.bytS (lim (val X).toNat) (C.sz : Nat)).1 ++ (Nt.bytS (lim (val Y).toNat) (C.sz : Nat)).1, 0) else ([], 90)
def pbS (c : Int) (X Y : List Int) : List Int × Int := match crv c with
  | none => ([], 1)
  | some C => pbC C X Y
theorem crv_szle {c : Int} {C : Cv} (h : crv c = some C) : C.sz ≤ 48 := by
  unfold crv at h
  split at h
  · cases h; decide
  · split at h
    · cases h; decide
    · cases h
theorem bytS_len (x : Nat) (n : Nat) : (Nt.bytS (lim x) (n : Int)).1.length ≤ n := by
  unfold Nt.bytS
  split
  · simp
  · split
    · simp
    · split
      · simp
      · simp [Nt.beb]
theorem NBytes {w : World} (r : Value) (x n : Nat) (h : Nb w r x) (hn : n ≤ 48) : Calls Try.prog 61 #[r, .int .i64 n] w fun e w' => ∃ a m c d, e = .returned (.tuple #[.slice a m c, .int .i64 d]) ∧ m ≤ 48 ∧ Sl .u8 w' (.slice a m c) (Nt.bytS (lim x) n).1 ∧ Below w.heap.size w w' := by
  refine (Nt.Bytes_any (lim x) n r w h (lim_u32 _) (by omega) (by omega)).mono ?_
  rintro e w' ⟨⟨v, rfl, hv, _⟩, hb⟩
  have hs := hv.sl
  obtain ⟨a, m, c, rfl, hm⟩ := sl_cut hs
  exact ⟨a, m, c, _, rfl, by rw [hm]; exact Nat.le_trans (bytS_len x n) hn, hs, hb⟩

set_option maxHeartbeats 4000000 in
theorem Bytes_bad {w : World} (c : Int) (vx vy : Value) (X Y : List Int) (hX : Sl .u32 w vx X) (hY : Sl .u32 w vy Y) (n : Int) (hn : n = 1 ∨ n = 90)
    (hA : ∀ (W : World) b2 T2, Below w.heap.size w W → Blk T2 W b2 [vx, vy] → Calls Try.prog 35 #[.int .i64 c, .slice none 0 0, .slice (some ⟨b2, 0, none⟩) 1 1] W fun e w' => e = .returned (.tuple #[.agg kz.toArray, .int .i64 n]) ∧ Below W.heap.size W w') :
    Calls Try.prog 26 #[.int .i64 c, .agg #[vx, vy]] w fun e w' => e = .returned (.tuple #[.slice none 0 0, .int .i64 n]) ∧ Below w.heap.size w w' := by
  obtain ⟨xa, xn, xc, rfl, hxn⟩ := sl_cut hX
  obtain ⟨ya, yn, yc, rfl, hyn⟩ := sl_cut hY
  have HS : Hid (∀ (W : World) b2 T2, Below w.heap.size w W → Blk T2 W b2 [.slice xa xn xc, .slice ya yn yc] → Calls Try.prog 35 #[.int .i64 c, .slice none 0 0, .slice (some ⟨b2, 0, none⟩) 1 1] W fun e w' => e = .returned (.tuple #[.agg kz.toArray, .int .i64 n]) ∧ Below W.heap.size W w') := hA
  have hn0 : (n != 0) = true := by rcases hn with rfl | rfl <;> rfl
  clear hA hX hY hxn hyn hn
  go_enter Try.func26, Try.ntmps26
  go_upto_region 1 with (refine wpList_boxR rfl 24 (.tmp 1) rfl #[.slice xa xn xc, .slice ya yn yc] rfl ?_)
  refine wp_gen (fun W => Blk 24 W w.heap.size [.slice xa xn xc, .slice ya yn yc] ∧ Below w.heap.size w W) ⟨Blk.new _ w _, al1 _⟩ ?_
  rintro W2 ⟨hB, hBw⟩
  have H2 : Hid (Below w.heap.size w W2 ∧ Blk 24 W2 w.heap.size [.slice xa xn xc, .slice ya yn yc]) := ⟨hBw, hB⟩
  have p0 : W2.cell? ⟨w.heap.size, 0, none⟩ = some (.slice xa xn xc) := hB.cell 0
  have p1 : W2.cell? ⟨w.heap.size, 1, none⟩ = some (.slice ya yn yc) := hB.cell 1
  clear hB hBw
  go_wp2_with fail
  refine (HS.out _ W2.heap.size 24 (below_via H2.out.1 (al1 _) (Nat.le_refl _)) (Blk.new _ W2 _)).mono ?_
  rintro e w3 ⟨rfl, hb3⟩
  have H3 : Hid (Below w.heap.size w w3) := below_via (below_via H2.out.1 (al1 _) (Nat.le_refl _)) hb3 (Nat.le_refl _)
  clear hb3 p0 p1 HS
  unfold kz
  go_upto_region 2 with (fail)
  refine wp_gen (fun W => Below w3.heap.size w3 W) (al1 _) ?_
  rintro W4 hb4
  have H4 : Hid (Below w.heap.size w W4) := below_via H3.out hb4 (Nat.le_refl _)
  clear hb4
  go_wp2
  go_ret2
  exact ⟨rfl, H4.out⟩

set_option maxHeartbeats 8000000 in
theorem Bytes_good {w : World} (c : Int) (C : Cv) (hc : crv c = some C) (vx vy : Value) (X Y : List Int) (hX : Sl .u32 w vx X) (hY : Sl .u32 w vy Y) (uX : U32s X) (uY : U32s Y) (lX : X.length ≤ 1000000) (lY : Y.length ≤ 1000000) (ho : onB C.p C.b X Y = true) :
    Calls Try.prog 26 #[.int .i64 c, .agg #[vx, vy]] w fun e w' => ∃ v, e = .returned (.tuple #[v, .int .i64 (pbC C X Y).2]) ∧ Sl .u8 w' v (pbC C X Y).1 ∧ Below w.heap.size w w' := by
  obtain ⟨xa, xn, xc, rfl, hxn⟩ := sl_cut hX
  obtain ⟨ya, yn, yc, rfl, hyn⟩ := sl_cut hY
  have HS : Hid (∀ W b2 T2, Below w.heap.size w W → Blk T2 W b2 [.slice xa xn xc, .slice ya yn yc] → Calls Try.prog 35 #[.int .i64 c, .slice none 0 0, .slice (some ⟨b2, 0, none⟩) 1 1] W fun e w' => ∃ s a1 n1 c1 a2 n2 c2 a3 n3 c3 a4 n4 c4 a5 n5 c5, e = .returned (.tuple #[.agg [.int .i64 (s : Nat), .slice a1 n1 c1, .slice a2 n2 c2, .slice a3 n3 c3, .slice a4 n4 c4, .slice a5 n5 c5].toArray, .int .i64 0]) ∧ KindS w' s a1 n1 c1 a2 n2 c2 a3 n3 c3 a4 n4 c4 a5 n5 c5 C ∧ Below W.heap.size W w') := fun W b2 T2 hW hb2 =>
    asked_01 c C hc b2 T2 (.slice xa xn xc) (.slice ya yn yc) X Y hb2 (below_sl hW hX) (below_sl hW hY) uX uY lX lY ho
  have HFr : Hid (∀ W, Below w.heap.size w W → Calls Try.prog 56 #[.agg #[.slice xa xn xc, .slice ya yn yc]] W fun e w' => e = .returned (.bool (farB X Y)) ∧ Below W.heap.size W w') := fun W hW => PisFar _ _ X Y (below_sl hW hX) (below_sl hW hY) uX uY lX lY
  have HTx : Hid (∀ W, Below w.heap.size w W → Calls Try.prog 44 #[.slice xa xn xc] W fun e w' => ∃ r, e = .returned r ∧ Nb w' r (val X).toNat ∧ Below W.heap.size W w') := fun W hW => LTrim _ X (below_sl hW hX) uX lX
  have HTy : Hid (∀ W, Below w.heap.size w W → Calls Try.prog 44 #[.slice ya yn yc] W fun e w' => ∃ r, e = .returned r ∧ Nb w' r (val Y).toNat ∧ Below W.heap.size W w') := fun W hW => LTrim _ Y (below_sl hW hY) uY lY
  have HSz : Hid (C.sz ≤ 48) := crv_szle hc
  have HE : Hid ((if farB X Y = false then ([4] ++ (Nt.bytS (lim (val X).toNat) (C.sz : Nat)).1 ++ (Nt.bytS (lim (val Y).toNat) (C.sz : Nat)).1, 0) else ([], 90)) = pbC C X Y) := by show _ = _; unfold pbC; rw [ho]; simp only [true_and]
  obtain ⟨x, hx⟩ : ∃ x, (val X).toNat = x := ⟨_, rfl⟩
  obtain ⟨y, hy⟩ : ∃ y, (val Y).toNat = y := ⟨_, rfl⟩
  obtain ⟨R, hR⟩ : ∃ R, pbC C X Y = R := ⟨_, rfl⟩
  obtain ⟨f, hf⟩ : ∃ f, farB X Y = f := ⟨_, rfl⟩
  rw [hx] at HTx HE; rw [hy] at HTy HE; rw [hR] at HE; rw [hR]; rw [hf] at HE HFr
  clear hc hX hY uX uY lX lY ho hxn hyn hx hy hR hf
  go_enter Try.func26, Try.ntmps26
  go_upto_region 1 with (refine wpList_boxR rfl 24 (.tmp 1) rfl #[.slice xa xn xc, .slice ya yn yc] rfl ?_)
  refine wp_gen (fun W => Blk 24 W w.heap.size [.slice xa xn xc, .slice ya yn yc] ∧ Below w.heap.size w W) ⟨Blk.new _ w _, al1 _⟩ ?_
  rintro W2 ⟨hB, hBw⟩
  have H2 : Hid (Below w.heap.size w W2 ∧ Blk 24 W2 w.heap.size [.slice xa xn xc, .slice ya yn yc]) := ⟨hBw, hB⟩
  have p0 : W2.cell? ⟨w.heap.size, 0, none⟩ = some (.slice xa xn xc) := hB.cell 0
  have p1 : W2.cell? ⟨w.heap.size, 1, none⟩ = some (.slice ya yn yc) := hB.cell 1
  clear hB hBw
  go_wp2_with fail
  refine (HS.out _ W2.heap.size 24 (below_via H2.out.1 (al1 _) (Nat.le_refl _)) (Blk.new _ W2 _)).mono ?_
  rintro e w3 ⟨s, a1, n1, c1, a2, n2, c2, a3, n3, c3, a4, n4, c4, a5, n5, c5, rfl, hk, hb3⟩
  have hb23 : Below W2.heap.size W2 w3 := below_via (al1 _) hb3 (Nat.le_refl _)
  have hs : s = C.sz := hk.1
  have H3 : Hid (Below w.heap.size w w3 ∧ Blk 24 w3 w.heap.size [.slice xa xn xc, .slice ya yn yc] ∧ s = C.sz ∧ s ≤ 48) := ⟨below_via H2.out.1 hb23 (Nat.le_refl _), below_blk hb23 H2.out.2.lt H2.out.2, hs, by rw [hs]; exact HSz.out⟩
  clear hb3 hb23 hk HS p0 p1 H2 hs
  go_upto_region 2 with (fail)
  refine wp_gen (fun W => Blk 66 W w3.heap.size [.int .i64 s, .slice a1 n1 c1, .slice a2 n2 c2, .slice a3 n3 c3, .slice a4 n4 c4, .slice a5 n5 c5] ∧ Below w3.heap.size w3 W) ⟨Blk.new _ _ _, al1 _⟩ ?_
  rintro W4 ⟨hB4, hb4⟩
  have hB := below_blk hb4 H3.out.2.1.lt H3.out.2.1
  have H4 : Hid (Below w.heap.size w W4 ∧ Blk 24 W4 w.heap.size [.slice xa xn xc, .slice ya yn yc] ∧ Blk 66 W4 w3.heap.size [.int .i64 s, .slice a1 n1 c1, .slice a2 n2 c2, .slice a3 n3 c3, .slice a4 n4 c4, .slice a5 n5 c5]) := ⟨below_via H3.out.1 hb4 (Nat.le_refl _), hB, hB4⟩
  have p0 : W4.cell? ⟨w.heap.size, 0, none⟩ = some (.slice xa xn xc) := hB.cell 0
  have p1 : W4.cell? ⟨w.heap.size, 1, none⟩ = some (.slice ya yn yc) := hB.cell 1
  clear hB4 hb4 hB
  go_wp2_with fail
  refine (HFr.out _ H4.out.1).mono ?_
  rintro e W5 ⟨rfl, hb5⟩
  have H5 : Hid (Below w.heap.size w W5 ∧ ∀ W, Below W5.heap.size W5 W → W.cell? ⟨w.heap.size, 0, none⟩ = some (.slice xa xn xc) ∧ W.cell? ⟨w.heap.size, 1, none⟩ = some (.slice ya yn yc) ∧ W.cell? ⟨w3.heap.size, 0, none⟩ = some (.int .i64 (s : Nat))) := ⟨below_via H4.out.1 hb5 (Nat.le_refl _), fun W h => by have h2 := below_via hb5 h (Nat.le_refl _); exact ⟨(below_blk h2 H4.out.2.1.lt H4.out.2.1).cell 0, (below_blk h2 H4.out.2.1.lt H4.out.2.1).cell 1, (below_blk h2 H4.out.2.2.lt H4.out.2.2).cell 0⟩⟩
  clear hb5 p0 p1 H4
  cases f with
  | true =>
    have HE2 : Hid (([], 90) = R) := HE.out
    clear HE
    go_wp2
    go_ret2
    exact ⟨_, by rw [← HE2.out]; rfl, by rw [← HE2.out]; exact ⟨none, 0, rfl, Nat.le_refl _, .inl rfl⟩, H5.out.1⟩
  | false =>
    have HE2 : Hid (([4] ++ (Nt.bytS (lim x) (C.sz : Nat)).1 ++ (Nt.bytS (lim y) (C.sz : Nat)).1, 0) = R) := HE.out
    clear HE
    go_wp2_with fail
    go_region_held3 (fun W => Below W5.heap.size W5 W ∧ W.cell? ⟨w.heap.size, 0, none⟩ = some (.slice xa xn xc) ∧ W.cell? ⟨w.heap.size, 1, none⟩ = some (.slice ya yn yc) ∧ W.cell? ⟨w3.heap.size, 0, none⟩ = some (.int .i64 (s : Nat)))
      (first | assumption | exact (fun h => ⟨h, H5.out.2 _ h⟩) (Below.drew (Below.refl _ _)) | exact (fun h => ⟨h, H5.out.2 _ h⟩) (below_via (And.left (by assumption)) (by assumption) (Nat.le_refl _)))
      (first
      | (go_at_call 61; refine (NBytes _ x s K6.out H3.out.2.2.2).mono ?_; rintro e v6 ⟨ea, em, ec, ed, rfl, hm6, hs6, hbb6⟩; have M6 : Hid (em ≤ 48 ∧ Sl .u8 v6 (.slice ea em ec) (Nt.bytS (lim x) (s : Nat)).1) := ⟨hm6, hs6⟩; clear hm6 hs6)
      | (go_at_call 44; refine (HTx.out _ (below_via H5.out.1 (And.left (by assumption)) (Nat.le_refl _))).mono ?_; rintro e u6 ⟨r6, rfl, hr6, hb6⟩; have K6 : Hid (Nb u6 r6 x) := hr6; clear hr6))
    have B6 : Hid (Below W5.heap.size W5 v6) := And.left (by assumption)
    have HI7 : Hid (Below W5.heap.size W5 v6.drew ∧ v6.drew.cell? ⟨w.heap.size, 0, none⟩ = some (.slice xa xn xc) ∧ v6.drew.cell? ⟨w.heap.size, 1, none⟩ = some (.slice ya yn yc) ∧ v6.drew.cell? ⟨w3.heap.size, 0, none⟩ = some (.int .i64 (s : Nat))) := ⟨Below.drew B6.out, H5.out.2 _ (Below.drew B6.out)⟩
    clear hb6 hbb6
    go_wp2_with fail
    go_region_held3 (fun W => Below W5.heap.size W5 W ∧ W.cell? ⟨w.heap.size, 0, none⟩ = some (.slice xa xn xc) ∧ W.cell? ⟨w.heap.size, 1, none⟩ = some (.slice ya yn yc) ∧ W.cell? ⟨w3.heap.size, 0, none⟩ = some (.int .i64 (s : Nat)))
      (first | assumption | exact HI7.out | exact (fun h => ⟨h, H5.out.2 _ h⟩) (below_via (And.left (by assumption)) (by assumption) (Nat.le_refl _)))
      (first
      | (go_at_call 61; refine (NBytes _ y s K7.out H3.out.2.2.2).mono ?_; rintro e v7 ⟨ga, gm, gc, gd, rfl, hm7, hs7, hbb7⟩; have M7 : Hid (gm ≤ 48 ∧ Sl .u8 v7 (.slice ga gm gc) (Nt.bytS (lim y) (s : Nat)).1) := ⟨hm7, hs7⟩; clear hm7 hs7)
      | (go_at_call 44; refine (HTy.out _ (below_via H5.out.1 (And.left (by assumption)) (Nat.le_refl _))).mono ?_; rintro e u7 ⟨r7, rfl, hr7, hb7⟩; have K7 : Hid (Nb u7 r7 y) := hr7; clear hr7))
    have hb67 : Below v6.heap.size v6 v7 := below_via (below_via (Below.drew (Below.refl _ _)) hb7 (Nat.le_refl _)) hbb7 (Nat.le_refl _)
    have H7 : Hid (em ≤ 48 ∧ gm ≤ 48 ∧ Sl .u8 v7 (.slice ea em ec) (Nt.bytS (lim x) (s : Nat)).1 ∧ Sl .u8 v7 (.slice ga gm gc) (Nt.bytS (lim y) (s : Nat)).1 ∧ Below w.heap.size w v7) := ⟨M6.out.1, M7.out.1, below_sl hb67 M6.out.2, M7.out.2, below_via H5.out.1 (below_via B6.out hb67 (Nat.le_refl _)) (Nat.le_refl _)⟩
    clear hb67 hb7 hbb7
    go_wp2_with fail
    have hbb : Below v7.heap.size v7 ((v7.alloc (.cells #[.int .u8 4] 5)).alloc (.cells #[.slice (some ⟨v7.heap.size, 0, none⟩) 1 1, .slice ea em ec, .slice ga gm gc] 45)) := (al1 _).alloc (by simp) _
    refine (SConcat3 (v7.heap.size + 1) 45 _ 1 1 ea em ec ga gm gc [4] _ _ (by have := Blk.new 45 (v7.alloc (.cells #[.int .u8 4] 5)) [.slice (some ⟨v7.heap.size, 0, none⟩) 1 1, .slice ea em ec, .slice ga gm gc]; rw [World.size_alloc] at this; exact this) (sl_alloc (Arr.sl (S := [4]) (arr_nw rfl rfl)) _) (below_sl hbb H7.out.2.2.1) (below_sl hbb H7.out.2.2.2.1) (by decide) (by decide) (by have := H7.out.1; omega) (by have := H7.out.2.1; omega)).mono ?_
    rintro e w9 ⟨v, rfl, hv, hb9⟩
    have H9 : Hid (Sl .u8 w9 v ([4] ++ (Nt.bytS (lim x) (s : Nat)).1 ++ (Nt.bytS (lim y) (s : Nat)).1) ∧ Below w.heap.size w w9) := ⟨hv, below_via (below_via H7.out.2.2.2.2 hbb (Nat.le_refl _)) hb9 (Nat.le_refl _)⟩
    clear hv hb9 hbb
    go_wp2
    go_ret2
    exact ⟨_, by rw [← HE2.out]; rfl, by rw [← HE2.out, ← H3.out.2.2.1]; exact H9.out.1, H9.out.2⟩

end Go.Proofs.Yteagdgbcfbkfbaa
/-
  The walk of the reference's Bytes.
-/
namespace Go.Proofs.Yteagdgbcfbkfbaa.Nt
open Go.RowKit

def RTwo8 (w : World) (e : Ending) (s : List Int × Int) : Prop := ∃ r, e = .returned (.tuple #[r, .int .i64 s.2]) ∧ Sl .u8 w r s.1
theorem RTwo8.nil' {w : World} {n : Int} {s : List Int × Int} (hs : s = ([], n)) : RTwo8 w (.returned (.tuple #[.slice none 0 0, .int .i64 n])) s := by
  subst hs; exact ⟨_, rfl, ⟨none, 0, rfl, Nat.le_refl _, .inl rfl⟩⟩
theorem RTwo8.mk' {w : World} {r : Value} {n : Int} {L : List Int} {s : List Int × Int} (h : Sl .u8 w r L) (hs : s = (L, n)) : RTwo8 w (.returned (.tuple #[r, .int .i64 n])) s := by
  subst hs; exact ⟨r, rfl, h⟩
theorem digit_of {xs : List Int} (hu : D.U16s xs) (i : Nat) : D.val xs / 65536 ^ i % 65536 = xs.getD i 0 := by
  have h := D.getD_div xs i hu
  have h0 := D.val_nonneg hu
  have h1 := hu.at i; unfold D.U16 at h1
  obtain ⟨n, hn⟩ := Int.eq_ofNat_of_zero_le h0
  rw [hn] at h ⊢
  have e : ((n / 2 ^ (16 * i) % 65536 : Nat) : Int) = (n : Int) / 65536 ^ i % 65536 := by
    rw [Int.natCast_emod, Int.natCast_ediv, Int.natCast_pow, Int.pow_mul]; rfl
  rw [← e]
  simp only [Int.toNat_natCast] at h
  rw [h]; omega
theorem byte_even (N : Int) (i q : Nat) (h : i = 2 * q) : N / 65536 ^ q % 65536 % 256 = N / 256 ^ i % 256 := by
  subst h
  rw [Int.pow_mul, show ((256 : Int) ^ 2) = 65536 by decide]
  omega
theorem byte_odd (N : Int) (i q : Nat) (h : i = 2 * q + 1) : N / 65536 ^ q % 65536 / 256 % 256 = N / 256 ^ i % 256 := by
  subst h
  have e : (256 : Int) ^ (2 * q + 1) = 65536 ^ q * 256 := by rw [Int.pow_succ, Int.pow_mul, show ((256 : Int) ^ 2) = 65536 by decide]
  rw [e, ← Int.ediv_ediv_of_nonneg (Int.pow_nonneg (by decide))]
  omega

theorem bitLen_val {X : List Int} (uX : U32s X) : bitLen (val X).toNat ≤ 32 * X.length := by
  refine bitLen_lt ?_
  have h4 := val_lt uX
  have h6 : (((val X).toNat : Nat) : Int) < ((2 ^ (32 * X.length) : Nat) : Int) := by
    rw [Int.toNat_of_nonneg (val_nonneg uX), Int.natCast_pow, Int.pow_mul]; exact h4
  exact Int.ofNat_lt.1 h6

set_option maxHeartbeats 2000000 in
theorem RBytes_any (X : List Int) (n : Int) (v : Value) (w : World) (hX : Sl .u32 w v X) (uX : U32s X) (hn0 : -9223372036854775808 ≤ n) (hn1 : n ≤ 9223372036854775807) :
    Calls Try.prog 63 #[v, .int .i64 n] w fun e w' => RTwo8 w' e (bytS X n) ∧ Below w.heap.size w w' := by
  have hX0 := hX
  obtain ⟨a, c, hv, _⟩ := hX.len
  subst hv
  have hBt : Below w.heap.size w w := Below.refl _ _
  by_cases h1 : 512 < X.length
  · have HL : Hid (bytS X n = ([], 3)) := by unfold bytS; rw [if_pos h1]; rfl
    go_enter Try.func63, Try.ntmps63
    go_wp2
    go_ret2
    exact ⟨RTwo8.nil' HL.out, hBt⟩
  by_cases h2 : n < 0
  · have HL : Hid (bytS X n = ([], 1)) := by unfold bytS; rw [if_neg h1, if_pos (.inl h2)]; rfl
    go_enter Try.func63, Try.ntmps63
    go_wp2
    go_ret2
    exact ⟨RTwo8.nil' HL.out, hBt⟩
  by_cases h3 : 2048 < n
  · have HL : Hid (bytS X n = ([], 1)) := by unfold bytS; rw [if_neg h1, if_pos (.inr h3)]; rfl
    go_enter Try.func63, Try.ntmps63
    go_wp2
    go_ret2
    exact ⟨RTwo8.nil' HL.out, hBt⟩
  obtain ⟨m, rfl⟩ : ∃ m : Nat, n = m := ⟨n.toNat, by omega⟩
  have hm : m ≤ 2048 := by omega
  obtain ⟨N, hN⟩ : ∃ N, val X = N := ⟨_, rfl⟩
  have nN : 0 ≤ N := hN ▸ val_nonneg uX
  have HN : Hid (val X = N) := hN
  have hls : X.length ≤ 512 := by omega
  obtain ⟨bl, hbl⟩ : ∃ bl, bitLen N.toNat = bl := ⟨_, rfl⟩
  have HBL : Hid (bitLen N.toNat = bl) := hbl
  have hbl2 : bl ≤ 16384 := by
    have := bitLen_val uX
    rw [hN, hbl] at this; omega
  have bX := val_lt uX
  rw [hN] at bX
  have dN : (D.lim N.toNat).length ≤ 1024 := by
    have := D.lim_fits (k := 2 * X.length) nN (by rw [pow16_32]; exact bX)
    omega
  by_cases h4 : 8 * m < bl
  · have HL : Hid (bytS X m = ([], 3)) := by unfold bytS; rw [if_neg h1, if_neg (by omega), hN, hbl, if_pos (by omega)]; rfl
    clear hN hbl bX
    go_enter Try.func63, Try.ntmps63
    go_wp2_with (first
      | (go_at_call 87; refine (Digits_any _ X hX uX (by omega) N HN.out).mono ?_; rintro e w' ⟨d, rfl, hd, hB⟩; replace hX := below_sl hB hX; replace hBt := grow0 hBt hB)
      | (go_at_call 82; refine (RBits_any _ X hX uX (by omega) N HN.out).mono ?_; rintro e w' ⟨rfl, hB⟩; rw [HBL.out]; replace hBt := grow0 hBt hB))
    go_ret2
    exact ⟨RTwo8.nil' HL.out, hBt⟩
  have HL : Hid (bytS X m = (beb N m, 0)) := by unfold bytS; rw [if_neg h1, if_neg (by omega), hN, hbl, if_neg (by omega)]; rfl
  clear hN hbl bX
  go_enter Try.func63, Try.ntmps63
  go_wp2_with (first
    | (go_at_call 87; refine (Digits_any _ X hX uX (by omega) N HN.out).mono ?_; rintro e w' ⟨d, rfl, hd, hB⟩; replace hX := below_sl hB hX; replace hBt := grow0 hBt hB)
    | (go_at_call 82; refine (RBits_any _ X hX uX (by omega) N HN.out).mono ?_; rintro e w3 ⟨rfl, hB⟩; rw [HBL.out]; replace hd := below_sl hB hd; replace hBt := grow0 hBt hB)
    | (at_make; refine wpList_mk _ rfl _ _ 45 rfl .u8 5 1 Try.und8 Try.info8 _ m rfl rfl rfl (by omega) (by omega) ?_; intro w4 hA4 hB4))
  obtain ⟨b4, hb4⟩ : ∃ b4, w3.heap.size = b4 := ⟨_, rfl⟩
  rw [hb4] at hA4
  rw [hb4]
  have HB3 : Hid (Below w.heap.size w w3 ∧ w3.heap.size = b4) := ⟨hBt, hb4⟩
  clear hBt
  go_loopw [8] (fun iv wr => ∃ (i : Nat) (S : List Int), iv = .int .i64 i ∧ i ≤ m ∧ Arr .u8 5 wr b4 S ∧ S.length = m ∧ (∀ j, j < i → S.getD (m - 1 - j) 0 = N / 256 ^ j % 256) ∧ Below w3.heap.size w3 wr) (fun iv _ => m - (intOf iv).toNat)
  case atStart => exact ⟨0, _, rfl, Nat.zero_le _, hA4, by simp, fun j hj => by omega, hB4⟩
  case round =>
    clear hA4 hB4
    obtain ⟨i, S, rfl, hi, hS, lS, hg, hBr⟩ := hrel
    by_cases hlt : i < m
    · obtain ⟨q, hq⟩ : ∃ q, i / 2 = q := ⟨_, rfl⟩
      obtain ⟨p, hp⟩ : ∃ p, m - 1 - i = p := ⟨_, rfl⟩
      obtain ⟨y, hy⟩ : ∃ y, (D.lim N.toNat).getD q 0 = y := ⟨_, rfl⟩
      have uy : D.U16 y := hy ▸ (D.lim_u16 _).at q
      obtain ⟨uy1, uy2⟩ := uy
      have hyv : N / 65536 ^ q % 65536 = y := by rw [← hy, ← digit_of (D.lim_u16 _) q, D.val_limI nN]
      have hqi : (i : Int) / 2 = q := by omega
      have hpi : (m : Int) - 1 - i = p := by omega
      have hd1 := digit_nat _ (D.lim N.toNat) (below_sl hBr hd) (by omega) q (by omega) y hy
      obtain ⟨s, hs⟩ : ∃ s, S.getD p 0 = s := ⟨_, rfl⟩
      have hcs := hS.cell p (by omega)
      rw [hs] at hcs
      have hfs := hS.frozen p
      have HH : Hid (Arr .u8 5 wr b4 S ∧ S.length = m ∧ (∀ j, j < i → S.getD (m - 1 - j) 0 = N / 256 ^ j % 256) ∧ Below w3.heap.size w3 wr ∧ m - 1 - i = p) := ⟨hS, lS, hg, hBr, hp⟩
      have hpm : p < m := by omega
      have done : ∀ x : Int, x = N / 256 ^ i % 256 → ∀ j, j < i + 1 → (S.set p x).getD (m - 1 - j) 0 = N / 256 ^ j % 256 := fun x hx j hj => by
        by_cases hji : j = i
        · subst hji
          rw [hp, List.getD_eq_getElem?_getD, List.getElem?_set_self (by omega)]; simpa using hx
        · rw [List.getD_eq_getElem?_getD, List.getElem?_set_ne (by omega), ← List.getD_eq_getElem?_getD]; exact hg j (by omega)
      have HDn : Hid (∀ x : Int, x = N / 256 ^ i % 256 → ∀ j, j < i + 1 → (S.set p x).getD (m - 1 - j) 0 = N / 256 ^ j % 256) := done
      rcases Nat.mod_two_eq_zero_or_one i with he | ho
      · have hri : (i : Int) % 2 = 0 := by omega
        have HV : Hid (y % 256 = N / 256 ^ i % 256) := by rw [← hyv]; exact byte_even N i q (by omega)
        clear hS lS hg hBr hp hy hyv hs done hq he
        go_wp2_with (go_at_call 97; refine hd1.mono ?_; rintro e w' ⟨rfl, rfl⟩)
        go_roundw
        case rel =>
          obtain ⟨hS, lS, hg, hBr, hp⟩ := HH.out
          exact ⟨i + 1, S.set p (y % 256), by go_num, by omega, hS.set _ _, by simpa using lS, HDn.out _ HV.out, hBr.setCell (show w3.heap.size ≤ b4 by have := HB3.out.2; omega) _⟩
        case measure => simp [intOf]; omega
      · have hri : (i : Int) % 2 = 1 := by omega
        have HV : Hid (y / 256 = N / 256 ^ i % 256) := by
          have h7 := byte_odd N i q (by omega)
          rw [hyv] at h7
          show y / 256 = N / 256 ^ i % 256
          rw [← h7]; omega
        clear hS lS hg hBr hp hy hyv hs done hq ho
        go_wp2_with (go_at_call 97; refine hd1.mono ?_; rintro e w' ⟨rfl, rfl⟩)
        go_roundw
        case rel =>
          obtain ⟨hS, lS, hg, hBr, hp⟩ := HH.out
          exact ⟨i + 1, S.set p (y / 256), by go_num, by omega, hS.set _ _, by simpa using lS, HDn.out _ HV.out, hBr.setCell (show w3.heap.size ≤ b4 by have := HB3.out.2; omega) _⟩
        case measure => simp [intOf]; omega
    · have him : i = m := by omega
      have hS' : S = beb N m := getD_ext (by rw [beb_len]; exact lS) (fun k hk => by
        rw [beb_get N m k (by omega)]
        have := hg (m - 1 - k) (by omega)
        rw [show m - 1 - (m - 1 - k) = k by omega] at this; exact this)
      have hs := hS.sl8
      rw [lS] at hs
      have hs' : Sl .u8 wr (.slice (some ⟨b4, 0, none⟩) m m) (beb N m) := by rw [← hS']; exact hs
      clear hS hg hs hS' lS him
      go_wp2
      go_ret2
      exact ⟨RTwo8.mk' hs' HL.out, HB3.out.1.trans (hBr.mono HB3.out.1.size)⟩
end Go.Proofs.Yteagdgbcfbkfbaa.Nt
/-
  Curves: Bytes of both sides.
-/
namespace Go.Proofs.Yteagdgbcfbkfbaa
open Go.RowKit
set_option maxRecDepth 20000
theorem Bytes_any {w : World} (c : Int) (vx vy : Value) (X Y : List Int) (hX : Sl .u32 w vx X) (hY : Sl .u32 w vy Y) (uX : U32s X) (uY : U32s Y) (lX : X.length ≤ 1000000) (lY : Y.length ≤ 1000000) :
    Calls Try.prog 26 #[.int .i64 c, .agg #[vx, vy]] w fun e w' => ∃ v, e = .returned (.tuple #[v, .int .i64 (pbS c X Y).2]) ∧ Sl .u8 w' v (pbS c X Y).1 ∧ Below w.heap.size w w' := by
  have nil : ∀ W : World, Sl .u8 W (.slice none 0 0) [] := fun W => ⟨none, 0, rfl, Nat.le_refl _, .inl rfl⟩
  cases hc : crv c with
  | none =>
    have e : pbS c X Y = ([], 1) := by unfold pbS; rw [hc]
    rw [e]
    exact (Bytes_bad c vx vy X Y hX hY 1 (.inl rfl) (fun W b2 T2 hW hB => asked_no c hc _ _)).mono fun e w' h => ⟨_, h.1, nil w', h.2⟩
  | some C =>
    have e : pbS c X Y = pbC C X Y := by unfold pbS; rw [hc]
    rw [e]
    cases ho : onB C.p C.b X Y with
    | true => exact Bytes_good c C hc vx vy X Y hX hY uX uY lX lY ho
    | false =>
      have e : pbC C X Y = ([], 90) := by unfold pbC; rw [if_neg]; intro h; rw [ho] at h; exact Bool.noConfusion h.1
      rw [e]
      exact (Bytes_bad c vx vy X Y hX hY 90 (.inr rfl) (fun W b2 T2 hW hB => asked_off c C hc b2 T2 vx vy X Y hB (below_sl hW hX) (below_sl hW hY) uX uY lX lY ho)).mono fun e w' h => ⟨_, h.1, nil w', h.2⟩
theorem RTrimN {w : World} (v : Value) (X : List Int) (hX : Sl .u32 w v X) (uX : U32s X) (hl : X.length ≤ 1000000) : Calls Try.prog 49 #[v] w fun e w' => ∃ a n c, e = .returned (.slice a n c) ∧ Nb w' (.slice a n c) (val X).toNat ∧ Below w.heap.size w w' :=
  (Nt.RTrim_any v X hX uX (by omega) _ rfl).mono fun e w' ⟨r, he, hr, hb⟩ => by
    have hr : Nb w' r (val X).toNat := hr
    obtain ⟨a, c, hf⟩ := hr.form
    subst hf
    exact ⟨_, _, _, he, hr, hb⟩
theorem RBytesN {w : World} (v : Value) (x n : Nat) (hX : Nb w v x) (hn : n ≤ 48) : Calls Try.prog 63 #[v, .int .i64 n] w fun e w' => ∃ a m c d, e = .returned (.tuple #[.slice a m c, .int .i64 d]) ∧ m ≤ 48 ∧ Sl .u8 w' (.slice a m c) (Nt.bytS (lim x) n).1 ∧ Below w.heap.size w w' := by
  refine (Nt.RBytes_any (lim x) n v w hX.sl (lim_u32 _) (by omega) (by omega)).mono ?_
  rintro e w' ⟨h, hb⟩
  obtain ⟨u, he, hu⟩ := h
  obtain ⟨a, m, c, hf, hm⟩ := sl_cut hu
  subst hf
  exact ⟨a, m, c, _, he, by rw [hm]; exact Nat.le_trans (bytS_len x n) hn, hu, hb⟩
set_option maxHeartbeats 4000000 in
theorem RBytes09_any {w : World} (c : Int) (a1 : Option Addr) (n1 c1 : Nat) (a2 : Option Addr) (n2 c2 : Nat) (X Y : List Int) (hX : Sl .u32 w (.slice a1 n1 c1) X) (hY : Sl .u32 w (.slice a2 n2 c2) Y) (uX : U32s X) (uY : U32s Y) (lX : X.length ≤ 1000000) (lY : Y.length ≤ 1000000) :
    Calls Try.prog 27 #[.int .i64 c, .agg #[.slice a1 n1 c1, .slice a2 n2 c2]] w fun e w' => ∃ v, e = .returned (.tuple #[v, .int .i64 (pbS c X Y).2]) ∧ Sl .u8 w' v (pbS c X Y).1 ∧ Below w.heap.size w w' := by
  have nil : Hid (∀ W : World, Sl .u8 W (.slice none 0 0) []) := fun W => ⟨none, 0, rfl, Nat.le_refl _, .inl rfl⟩
  have HA : Hid (∀ W, Below w.heap.size w W → Calls Try.prog 39 #[.int .i64 c, .slice none 0 0, .slice none 0 0, .agg #[.slice a1 n1 c1, .slice a2 n2 c2], .agg #[.slice a1 n1 c1, .slice a2 n2 c2]] W fun e w' => e = .returned (.int .i64 (askR c 0 0 (onC c X Y) (onC c X Y))) ∧ Below W.heap.size W w') := fun W h => RAsked_any c none 0 0 none 0 0 a1 n1 c1 a2 n2 c2 X Y a1 n1 c1 a2 n2 c2 X Y (below_sl h hX) (below_sl h hY) uX uY lX lY (below_sl h hX) (below_sl h hY) uX uY lX lY
  have HF : Hid (∀ W, Below w.heap.size w W → Calls Try.prog 46 #[.agg #[.slice a1 n1 c1, .slice a2 n2 c2]] W fun e w' => e = .returned (.bool (farB X Y)) ∧ Below W.heap.size W w') := fun W h => RFar _ _ X Y (below_sl h hX) (below_sl h hY) uX uY lX lY
  have HX : Hid (∀ W, Below w.heap.size w W → Calls Try.prog 49 #[.slice a1 n1 c1] W fun e w' => ∃ a n c, e = .returned (.slice a n c) ∧ Nb w' (.slice a n c) (val X).toNat ∧ Below W.heap.size W w') := fun W h => RTrimN _ X (below_sl h hX) uX lX
  have HY : Hid (∀ W, Below w.heap.size w W → Calls Try.prog 49 #[.slice a2 n2 c2] W fun e w' => ∃ a n c, e = .returned (.slice a n c) ∧ Nb w' (.slice a n c) (val Y).toNat ∧ Below W.heap.size W w') := fun W h => RTrimN _ Y (below_sl h hY) uY lY
  obtain ⟨er, her⟩ : ∃ er, askR c 0 0 (onC c X Y) (onC c X Y) = er := ⟨_, rfl⟩
  rw [her] at HA
  have HE : Hid ((er ≠ 0 → pbS c X Y = ([], er)) ∧ (er = 0 → ∃ C, crv c = some C ∧ pbS c X Y = if farB X Y = true then ([], 90) else ([4] ++ (Nt.bytS (lim (val X).toNat) (C.sz : Nat)).1 ++ (Nt.bytS (lim (val Y).toNat) (C.sz : Nat)).1, 0))) := by
    unfold askR at her
    cases hc : crv c with
    | none =>
      rw [hc] at her
      have her : 1 = er := her
      subst her
      exact ⟨fun _ => by unfold pbS; rw [hc], fun h => absurd h (by decide)⟩
    | some C =>
      rw [hc] at her
      have her : (if 64 < 0 ∨ 64 < 0 then 3 else if onC c X Y = true ∧ onC c X Y = true then 0 else 90) = er := her
      rw [if_neg (by decide)] at her
      have e1 : onC c X Y = onB C.p C.b X Y := by unfold onC; rw [hc]
      rw [e1] at her
      have e2 : pbS c X Y = pbC C X Y := by unfold pbS; rw [hc]
      rw [e2]
      unfold pbC
      cases ho : onB C.p C.b X Y with
      | true =>
        rw [ho, if_pos ⟨rfl, rfl⟩] at her
        subst her
        refine ⟨fun h => absurd rfl h, fun _ => ⟨C, rfl, ?_⟩⟩
        cases farB X Y <;> simp
      | false =>
        rw [ho, if_neg (by decide)] at her
        subst her
        refine ⟨fun _ => ?_, fun h => absurd h (by decide)⟩
        rw [if_neg (fun h => Bool.noConfusion h.1)]
  obtain ⟨R, hR⟩ : ∃ R, pbS c X Y = R := ⟨_, rfl⟩
  rw [hR] at HE ⊢
  clear hX hY uX uY lX lY her hR
  go_enter Try.func27, Try.ntmps27
  go_upto_region 1 with (refine wpList_boxR rfl 24 (.tmp 1) rfl #[.slice a1 n1 c1, .slice a2 n2 c2] rfl ?_)
  refine wp_gen (fun W => Blk 24 W w.heap.size [.slice a1 n1 c1, .slice a2 n2 c2] ∧ Below w.heap.size w W) ⟨Blk.new _ w _, al1 _⟩ ?_
  rintro W1 ⟨hB, hb⟩
  have H1 : Hid (Below w.heap.size w W1 ∧ ∀ W, Below W1.heap.size W1 W → W.cell? ⟨w.heap.size, 0, none⟩ = some (.slice a1 n1 c1) ∧ W.cell? ⟨w.heap.size, 1, none⟩ = some (.slice a2 n2 c2)) := ⟨hb, fun W h => ⟨(below_blk h hB.lt hB).cell 0, (below_blk h hB.lt hB).cell 1⟩⟩
  have p0 : W1.cell? ⟨w.heap.size, 0, none⟩ = some (.slice a1 n1 c1) := hB.cell 0
  have p1 : W1.cell? ⟨w.heap.size, 1, none⟩ = some (.slice a2 n2 c2) := hB.cell 1
  clear hB hb
  go_wp2_with fail
  refine (HA.out _ H1.out.1).mono ?_
  rintro e w2 ⟨rfl, hb⟩
  have H2 : Hid (Below W1.heap.size W1 w2 ∧ Below w.heap.size w w2) := ⟨hb, below_via H1.out.1 hb (Nat.le_refl _)⟩
  clear hb p0 p1 HA
  by_cases h0 : er = 0
  · obtain ⟨C, hc, hR⟩ := HE.out.2 h0
    subst h0
    have q0 := (H1.out.2 w2 H2.out.1).1
    have q1 := (H1.out.2 w2 H2.out.1).2
    go_wp2_with fail
    refine (HF.out _ H2.out.2).mono ?_
    rintro e w3 ⟨rfl, hb⟩
    have H3 : Hid (Below W1.heap.size W1 w3 ∧ Below w.heap.size w w3) := ⟨below_via H2.out.1 hb (Nat.le_refl _), below_via H2.out.2 hb (Nat.le_refl _)⟩
    have HR : Hid (R = if farB X Y = true then ([], 90) else ([4] ++ (Nt.bytS (lim (val X).toNat) (C.sz : Nat)).1 ++ (Nt.bytS (lim (val Y).toNat) (C.sz : Nat)).1, 0)) := hR
    have HC : Hid (crv c = some C) := hc
    clear hb q0 q1 hc hR HE H2 HF
    cases hf : farB X Y with
    | true =>
      have HR2 : Hid (R = ([], 90)) := by show _ = _; rw [HR.out, hf]; rfl
      clear hf HR
      go_wp2
      go_ret2
      rw [HR2.out]
      exact ⟨_, rfl, nil.out _, H3.out.2⟩
    | false =>
      have HR2 : Hid (R = ([4] ++ (Nt.bytS (lim (val X).toNat) (C.sz : Nat)).1 ++ (Nt.bytS (lim (val Y).toNat) (C.sz : Nat)).1, 0)) := by show _ = _; rw [HR.out, hf]; rfl
      clear hf HR
      have q0 := (H1.out.2 w3 H3.out.1).1
      go_wp2_with fail
      refine (HX.out _ H3.out.2).mono ?_
      rintro e w4 ⟨xa, xn, xc, rfl, hx, hb⟩
      have H4 : Hid (Below W1.heap.size W1 w4 ∧ Below w.heap.size w w4 ∧ Nb w4 (.slice xa xn xc) (val X).toNat) := ⟨below_via H3.out.1 hb (Nat.le_refl _), below_via H3.out.2 hb (Nat.le_refl _), hx⟩
      clear hb hx q0 H3
      go_wp2_with fail
      refine (RSize_any c).mono ?_
      rintro e w5 ⟨rfl, hb⟩
      have hz : crvN (·.sz) (crv c) = C.sz := by rw [HC.out]; rfl
      rw [hz]
      have H5 : Hid (Below W1.heap.size W1 w5 ∧ Below w.heap.size w w5 ∧ Nb w5 (.slice xa xn xc) (val X).toNat) := ⟨below_via H4.out.1 hb (Nat.le_refl _), below_via H4.out.2.1 hb (Nat.le_refl _), H4.out.2.2.below hb⟩
      clear hb H4 hz
      go_wp2_with fail
      refine (RBytesN _ _ C.sz H5.out.2.2 (crv_szle HC.out)).mono ?_
      rintro e w6 ⟨ya, yn, yc, d6, rfl, hy48, hy, hb⟩
      have H6 : Hid (Below W1.heap.size W1 w6 ∧ Below w.heap.size w w6 ∧ Sl .u8 w6 (.slice ya yn yc) (Nt.bytS (lim (val X).toNat) (C.sz : Nat)).1 ∧ yn ≤ 48) := ⟨below_via H5.out.1 hb (Nat.le_refl _), below_via H5.out.2.1 hb (Nat.le_refl _), hy, hy48⟩
      clear hb hy H5 hy48
      have q1 := (H1.out.2 w6 H6.out.1).2
      go_wp2_with fail
      refine (HY.out _ H6.out.2.1).mono ?_
      rintro e w7 ⟨za, zn, zc, rfl, hx, hb⟩
      have H7 : Hid (Below w.heap.size w w7 ∧ Nb w7 (.slice za zn zc) (val Y).toNat ∧ Sl .u8 w7 (.slice ya yn yc) (Nt.bytS (lim (val X).toNat) (C.sz : Nat)).1 ∧ yn ≤ 48) := ⟨below_via H6.out.2.1 hb (Nat.le_refl _), hx, below_sl hb H6.out.2.2.1, H6.out.2.2.2⟩
      clear hb hx q1 H6 H1
      go_wp2_with fail
      refine (RSize_any c).mono ?_
      rintro e w8 ⟨rfl, hb⟩
      have hz : crvN (·.sz) (crv c) = C.sz := by rw [HC.out]; rfl
      rw [hz]
      have H8 : Hid (Below w.heap.size w w8 ∧ Nb w8 (.slice za zn zc) (val Y).toNat ∧ Sl .u8 w8 (.slice ya yn yc) (Nt.bytS (lim (val X).toNat) (C.sz : Nat)).1 ∧ yn ≤ 48) := ⟨below_via H7.out.1 hb (Nat.le_refl _), H7.out.2.1.below hb, below_sl hb H7.out.2.2.1, H7.out.2.2.2⟩
      clear hb H7 hz
      go_wp2_with fail
      refine (RBytesN _ _ C.sz H8.out.2.1 (crv_szle HC.out)).mono ?_
      rintro e w9 ⟨ua, un, uc, d9, rfl, hu48, hu, hb⟩
      obtain ⟨M1, hM1⟩ : ∃ M, (Nt.bytS (lim (val X).toNat) (C.sz : Nat)).1 = M := ⟨_, rfl⟩
      obtain ⟨M2, hM2⟩ : ∃ M, (Nt.bytS (lim (val Y).toNat) (C.sz : Nat)).1 = M := ⟨_, rfl⟩
      have l1 : M1.length ≤ 48 := by rw [← hM1]; exact Nat.le_trans (bytS_len _ _) (crv_szle HC.out)
      have l2 : M2.length ≤ 48 := by rw [← hM2]; exact Nat.le_trans (bytS_len _ _) (crv_szle HC.out)
      have H9 : Hid (Below w.heap.size w w9 ∧ Sl .u8 w9 (.slice ya yn yc) M1 ∧ Sl .u8 w9 (.slice ua un uc) M2 ∧ R = ([4] ++ M1 ++ M2, 0)) := ⟨below_via H8.out.1 hb (Nat.le_refl _), by rw [← hM1]; exact below_sl hb H8.out.2.2.1, by rw [← hM2]; exact hu, by rw [← hM1, ← hM2]; exact HR2.out⟩
      have HLL : Hid (M1.length ≤ 48 ∧ M2.length ≤ 48) := ⟨l1, l2⟩
      clear hb hu H8 hu48 hM1 hM2 HR2 l1 l2 HX HY
      go_upto_region 8 with (fail)
      have hX := H9.out.2.1
      have hY := H9.out.2.2.1
      have l1 := HLL.out.1
      have l2 := HLL.out.2
      go_wp2_with (first
        | (at_builtin; replace hr1 := hr1; refine wpList_ap rfl (.tmp 40) (.tmp 41) 45 45 rfl .u8 5 1 Try.und8 Try.info8 (by decide) w9.heap.size _ ([4] ++ M1) rfl hr1 _ M2 rfl (src_sl Try.und8 (below_sl hb1 hY)) (by simp; omega) hb1.size ?_; intro v2 wz hr2 hg2; have hB2 := hg2.below hr1 hb1.size)
        | (at_builtin; refine wpList_ap rfl (.tmp 38) (.tmp 39) 45 45 rfl .u8 5 1 Try.und8 Try.info8 (by decide) w9.heap.size _ [4] rfl (Row.arr (S := [4]) (arr_nw rfl rfl) (Nat.le_refl _) (by decide)) _ M1 rfl (src_sl Try.und8 (below_sl (al1 _) hX)) (by simp; omega) (by simp) ?_; intro v1 wy hr1 hg1; have hB1 := hg1.below (Row.arr (B := w9.heap.size) (S := [4]) (arr_nw rfl rfl) (Nat.le_refl _) (by decide)) (by simp); have hb1 : Below w9.heap.size w9 wy := (al2' (Below.refl _ _)).trans hB1))
      go_ret2
      rw [H9.out.2.2.2]
      exact ⟨_, rfl, hr2.sl, below_via H9.out.1 (hb1.trans hB2) (Nat.le_refl _)⟩
  · have HR : Hid (R = ([], er)) := HE.out.1 h0
    have h0' : (er != 0) = true := by simpa using h0
    clear h0 HE
    go_wp2
    go_ret2
    rw [HR.out]
    exact ⟨_, rfl, nil.out _, H2.out.2⟩
end Go.Proofs.Yteagdgbcfbkfbaa
/-
  The numbers of the page's examples. (wip/mku32.py)
-/
namespace Go.Proofs.Yteagdgbcfbkfbaa
open Go.RowKit
set_option maxRecDepth 100000
theorem inv_one {p z g h : Nat} (hg : g < p) (hh : h < p) (eg : z * g % p = 1 % p) (eh : z * h % p = 1 % p) : g = h := by
  have e1 : z * g * h % p = h := by rw [Nat.mul_mod, eg, ← Nat.mul_mod, Nat.one_mul, Nat.mod_eq_of_lt hh]
  have e2 : z * h * g % p = g := by rw [Nat.mul_mod, eh, ← Nat.mul_mod, Nat.one_mul, Nat.mod_eq_of_lt hg]
  rw [Nat.mul_right_comm] at e1
  exact e2.symm.trans e1
def exT : Nat × Nat × Nat := (69923961955967387994258645329874512676251231789611885617885350872868369909519, 29468416531536242154810423193772930342200868632530199947817229236472112149969, 72268501913499591597170255839175763913222213345970030143754396507136828810218)
def exG : Nat := 56574125023949875979384902335110527424677819735484098786822054576870411640858
def exX : Nat := 56515219790691171413109057904011688695424810155802929973526481321309856242040
def exY : Nat := 3377031843712258259223711451491452598088675519751548567112458094635497583569
theorem exT_eq : mixA c256 [] [2] (lim c256.gx) (lim c256.gy) = exT := by
  unfold mixA
  rw [lim256gx, lim256gy]
  decide +kernel
theorem exT_gcd : Nat.gcd exT.2.2 c256.p = 1 := by decide +kernel
theorem ex_on : onB c256.p c256.b (lim c256.gx) (lim c256.gy) = true := by rw [lim256gx, lim256gy]; decide +kernel
theorem ex_on2 : onB c384.p c384.b (lim c384.gx) (lim c384.gy) = true := by rw [lim384gx, lim384gy]; decide +kernel
theorem exj {X Y : Nat} (h : jpt c256.p exT X Y) : X = exX ∧ Y = exY := by
  rcases h with ⟨h0, _⟩ | ⟨_, g, hg, hz, rfl, rfl⟩
  · exact absurd h0 (by decide +kernel)
  · have e : g = exG := inv_one (z := exT.2.2) hg (by decide +kernel) hz (by decide +kernel)
    subst e
    exact ⟨by decide +kernel, by decide +kernel⟩
theorem exX_lim : lim exX = [1197906296, 2785757436, 2012355381, 3230231010, 78977731, 2320644099, 2365804414, 2096266008] := lim_of_val _ (by decide +kernel) (by decide +kernel) (by decide +kernel)
theorem exY_lim : lim exY = [578319313, 2651109277, 1021936169, 3128798694, 2675192027, 691903174, 3683569728, 125261072] := lim_of_val _ (by decide +kernel) (by decide +kernel) (by decide +kernel)
theorem ex_on3 : onC 1 (lim exX) (lim exY) = true := by
  rw [exX_lim, exY_lim]; decide +kernel
def exN : Nat := 31076295234905449226732288810623505625791886221604131073239087501765218571612451104608622327865990668783520461484448
theorem exN_eq : fsb c384.p 0 c384.gy = exN := by decide +kernel
theorem exN_lim : lim exN = [1863709088, 2243748484, 3800137314, 4120858160, 1242515262, 371576556, 3613780867, 118219330, 1835869142, 2724292416, 1775883152, 3387433397] := lim_of_val _ (by decide +kernel) (by decide +kernel) (by decide +kernel)
theorem ex_on4 : onB c384.p c384.b (lim c384.gx) (lim exN) = true := by rw [lim384gx, exN_lim]; decide +kernel
theorem exS : jsm c384.p (triB (lim c384.gx) (lim exN)) (triB (lim c384.gx) (lim c384.gy)) = (0, 0, 0) := by rw [lim384gx, exN_lim, lim384gy]; decide +kernel
theorem exj0 {p X Y : Nat} (h : jpt p (0, 0, 0) X Y) : X = 0 ∧ Y = 0 := by
  rcases h with ⟨_, h1, h2⟩ | ⟨h0, _⟩
  · exact ⟨h1, h2⟩
  · exact absurd rfl h0
end Go.Proofs.Yteagdgbcfbkfbaa
