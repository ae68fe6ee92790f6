/-
  slices.Grow of nothing, for bytes.
-/
import Derived.Lib.AppendZeros
import Derived.LoopN
import Derived.OpenShut
import Derived.Test.YteagdgbcfbkfbabK23
namespace Go.Proofs.Yteagdgbcfbkfbab
open Go.RowKit
set_option maxRecDepth 20000
theorem zero_cells (k : IntKind) (C : Nat) : Builtin.zeroCells (Value.cells (.int k 0)) C = (List.replicate C (.int k 0)).toArray := by
  apply Array.ext'
  simp only [Builtin.zeroCells, Value.cells]
  simp
  rw [List.eq_replicate_iff]
  exact ⟨by simp, fun y hy => by obtain ⟨j, _, rfl⟩ := List.mem_map.1 hy; simp [Nat.mod_one]⟩
theorem grow_run (w : World) (n : Nat) (h0 : 0 < n) (hn : n ≤ 100000) (ty : TypeId) : ∃ S w', (Builtin.append_ #[23, 3] ty #[.slice none 0 0, .int .i64 n]).run Try.prog w = .ok (.slice (some ⟨w.heap.size, 0, none⟩) n (List.length S)) w' ∧ Arr .u8 5 w' w.heap.size S ∧ n ≤ S.length ∧ S.length ≤ maxLen ∧ Below w.heap.size w w' := by
  obtain ⟨i, hi, he⟩ := Option.map_eq_some_iff.1 Try.info8
  simp only [Prod.mk.injEq] at he
  obtain ⟨hz, hs, hby⟩ := he
  have h := Lib.run_append_nil_zeros (P := Try.prog) w 23 3 ty 5 i (.int .u8 0) .i64 .i64 Try.und8 (by kernel_rfl) hi hz n h0 (by omega) (by omega) (by rw [hby]; omega)
  have hge := grownCap_ge w n 0 5
  have hcm : grownCap w n 0 5 ≤ maxLen := grownCap_le_maxLen w _ 0 5 (by unfold maxLen; omega)
  obtain ⟨C, hC⟩ : ∃ C, grownCap w n 0 5 = n + C := ⟨_, (Nat.add_sub_of_le hge).symm⟩
  rw [hC, Nat.add_sub_cancel_left, zero_cells, zero_cells] at h
  rw [hC] at hcm
  refine ⟨List.replicate (n + C) 0, _, by rw [List.length_replicate]; exact h, ?_, by simp, by simpa using hcm, (Below.refl _ _).drew.alloc (Nat.le_refl _) _⟩
  unfold Arr
  have := heap_alloc_new w.drew (.cells ((List.replicate n (Value.int .u8 0)).toArray ++ (List.replicate C (Value.int .u8 0)).toArray) 5)
  rw [show (w.drew.heap.size) = w.heap.size from rfl] at this
  rw [this]; simp
set_option maxHeartbeats 2000000 in
theorem SGrow {w : World} (n : Nat) (h0 : 0 < n) (hn : n ≤ 100000) : Calls Try.prog 33 #[.slice none 0 0, .int .i64 n] w fun e w' => ∃ v, e = .returned v ∧ Row .u8 5 w.heap.size w' v [] ∧ Below w.heap.size w w' := by
  obtain ⟨S, w1, hap, hA, hnS, hm, hb⟩ := grow_run w n h0 hn 23
  have H1 : Hid (Arr .u8 5 w1 w.heap.size S ∧ S.length ≤ maxLen ∧ Below w.heap.size w w1) := ⟨hA, hm, hb⟩
  obtain ⟨cp, hcp⟩ : ∃ c, S.length = c := ⟨_, rfl⟩
  rw [hcp] at hap hnS
  have HC : Hid (S.length = cp) := hcp
  have g0 : decide (0 < (n : Int)) = true := by simp; omega
  have g1 : decide ((n : Int) < 0) = false := by simp
  clear hA hm hb hcp
  go_enter Try.func33, Try.ntmps33
  go_wp2_with (at_builtin; refine Lib.wpList_append_run _ rfl (.tmp 20) (.tmp 21) 23 3 rfl _ _ rfl rfl _ _ hap ?_)
  go_ret
  exact ⟨_, rfl, .inr ⟨w.heap.size, S, by rw [HC.out]; rfl, Nat.le_refl _, H1.out.1, Nat.zero_le _, rfl, H1.out.2.1⟩, H1.out.2.2⟩
end Go.Proofs.Yteagdgbcfbkfbab
/-
  slices.Concat of three slices of bytes.
-/
namespace Go.Proofs.Yteagdgbcfbkfbab
open Go.RowKit
set_option maxRecDepth 20000
set_option maxHeartbeats 4000000 in
theorem SConcat3 {w : World} (bk : Nat) (T : TypeId) (a0 : Option Addr) (n0 c0 : Nat) (a1 : Option Addr) (n1 c1 : Nat) (a2 : Option Addr) (n2 c2 : Nat) (A B C : List Int) (hk : Blk T w bk [.slice a0 n0 c0, .slice a1 n1 c1, .slice a2 n2 c2]) (hA : Sl .u8 w (.slice a0 n0 c0) A) (hB : Sl .u8 w (.slice a1 n1 c1) B) (hC : Sl .u8 w (.slice a2 n2 c2) C) (h0 : 0 < n0) (l0 : n0 ≤ 5000) (l1 : n1 ≤ 5000) (l2 : n2 ≤ 5000) :
    Calls Try.prog 21 #[.slice (some ⟨bk, 0, none⟩) 3 3] w fun e w' => ∃ v, e = .returned v ∧ Sl .u8 w' v (A ++ B ++ C) ∧ Below w.heap.size w w' := by
  have hlA : A.length = n0 := by obtain ⟨a, c, hv, _⟩ := hA; simp only [Value.slice.injEq] at hv; exact hv.2.1.symm
  have hlB : B.length = n1 := by obtain ⟨a, c, hv, _⟩ := hB; simp only [Value.slice.injEq] at hv; exact hv.2.1.symm
  have hlC : C.length = n2 := by obtain ⟨a, c, hv, _⟩ := hC; simp only [Value.slice.injEq] at hv; exact hv.2.1.symm
  have HS : Hid (∀ W, Below w.heap.size w W → Sl .u8 W (.slice a0 n0 c0) A ∧ Sl .u8 W (.slice a1 n1 c1) B ∧ Sl .u8 W (.slice a2 n2 c2) C ∧ Blk T W bk [.slice a0 n0 c0, .slice a1 n1 c1, .slice a2 n2 c2]) := fun W h => ⟨below_sl h hA, below_sl h hB, below_sl h hC, below_blk h hk.lt hk⟩
  have HL : Hid (A.length ≤ 5000 ∧ B.length ≤ 5000 ∧ C.length ≤ 5000) := ⟨by omega, by omega, by omega⟩
  have HG : Hid (∀ m : Int, m = ((n0 + n1 + n2 : Nat) : Int) → Calls Try.prog 33 #[.slice none 0 0, .int .i64 m] w fun e w' => ∃ v, e = .returned v ∧ Row .u8 5 w.heap.size w' v [] ∧ Below w.heap.size w w') := fun m hm => by rw [hm]; exact SGrow (n0 + n1 + n2) (by omega) (by omega)
  have k0 : w.cell? ⟨bk, 0, none⟩ = some (.slice a0 n0 c0) := hk.cell 0
  have k1 : w.cell? ⟨bk, 1, none⟩ = some (.slice a1 n1 c1) := hk.cell 1
  have k2 : w.cell? ⟨bk, 2, none⟩ = some (.slice a2 n2 c2) := hk.cell 2
  have e0 : decide ((n0 : Int) < 0) = false := by simp
  have e1 : decide ((n0 : Int) + (n1 : Int) < 0) = false := by simp; omega
  have e2 : decide ((n0 : Int) + (n1 : Int) + (n2 : Int) < 0) = false := by simp; omega
  clear hA hB hC hk hlA hlB hlC
  go_enter Try.func21, Try.ntmps21
  go_wp2
  refine wp_loop_rounds 4 ?_
  rw [rounds_succ]
  go_wp2
  rw [rounds_succ]
  go_wp2
  rw [rounds_succ]
  go_wp2
  rw [rounds_succ]
  go_wp2_with fail
  refine (HG.out _ (by omega)).mono ?_
  rintro e w1 ⟨v1, rfl, hr1, hb1⟩
  have H1 : Hid (Row .u8 5 w.heap.size w1 v1 [] ∧ Below w.heap.size w w1) := ⟨hr1, hb1⟩
  have hB := (HS.out _ hb1).2.2.2
  have p0 : w1.cell? ⟨bk, 0, none⟩ = some (.slice a0 n0 c0) := hB.cell 0
  clear hr1 hb1 hB k0 k1 k2 e0 e1 e2
  go_wp2_with fail
  refine wp_loop_rounds 4 ?_
  rw [rounds_succ]
  go_wp2_with (at_builtin; refine wpList_ap rfl (.tmp 31) (.tmp 32) 23 23 rfl .u8 5 1 Try.und8 Try.info8 (by decide) w.heap.size _ [] rfl H1.out.1 _ A rfl (src_sl Try.und8 (HS.out _ H1.out.2).1) (by have := HL.out; simp; omega) H1.out.2.size ?_; intro v2 w2 hr hg)
  have H2 : Hid (Row .u8 5 w.heap.size w2 v2 A ∧ Below w.heap.size w w2) := ⟨hr, H1.out.2.trans (hg.below H1.out.1 H1.out.2.size)⟩
  have hB := (HS.out _ H2.out.2).2.2.2
  have q0 : w2.cell? ⟨bk, 1, none⟩ = some (.slice a1 n1 c1) := hB.cell 1
  clear hr hg hB p0 H1
  rw [rounds_succ]
  go_wp2_with (at_builtin; refine wpList_ap rfl (.tmp 31) (.tmp 32) 23 23 rfl .u8 5 1 Try.und8 Try.info8 (by decide) w.heap.size _ A rfl H2.out.1 _ B rfl (src_sl Try.und8 (HS.out _ H2.out.2).2.1) (by have := HL.out; simp; omega) H2.out.2.size ?_; intro v3 w3 hr hg)
  have H3 : Hid (Row .u8 5 w.heap.size w3 v3 (A ++ B) ∧ Below w.heap.size w w3) := ⟨hr, H2.out.2.trans (hg.below H2.out.1 H2.out.2.size)⟩
  have hB := (HS.out _ H3.out.2).2.2.2
  have q1 : w3.cell? ⟨bk, 2, none⟩ = some (.slice a2 n2 c2) := hB.cell 2
  clear hr hg hB q0 H2
  rw [rounds_succ]
  go_wp2_with (at_builtin; refine wpList_ap rfl (.tmp 31) (.tmp 32) 23 23 rfl .u8 5 1 Try.und8 Try.info8 (by decide) w.heap.size _ (A ++ B) rfl H3.out.1 _ C rfl (src_sl Try.und8 (HS.out _ H3.out.2).2.2.1) (by have := HL.out; simp; omega) H3.out.2.size ?_; intro v4 w4 hr hg)
  have H4 : Hid (Row .u8 5 w.heap.size w4 v4 (A ++ B ++ C) ∧ Below w.heap.size w w4) := ⟨hr, H3.out.2.trans (hg.below H3.out.1 H3.out.2.size)⟩
  clear hr hg q1 H3
  rw [rounds_succ]
  go_wp2
  go_ret
  exact ⟨_, rfl, H4.out.1.sl, H4.out.2⟩
end Go.Proofs.Yteagdgbcfbkfbab
/-
  Curve: Bytes. (wip/mku41.py)
-/
namespace Go.Proofs.Yteagdgbcfbkfbab
open Go.RowKit
set_option maxRecDepth 20000
/-- A point's bytes, or the fault. -/
def pbC (C : Cv) (X Y : List Int) : List Int × Int := if onB C.p C.b X Y = true ∧ farB X Y = false then ([4] ++ (Nt.bytS (lim (val X).toNat) (C.sz : Nat)).1 ++ (Nt.bytS (lim (val Y).toNat) (C.sz : Nat)).1, 0) else ([], 90)
def pbS (c : Int) (X Y : List Int) : List Int × Int := match crv c with
  | none => ([], 1)
  | some C => pbC C X Y
theorem crv_szle {c : Int} {C : Cv} (h : crv c = some C) : C.sz ≤ 48 := by
  unfold crv at h
  split at h
  · cases h; decide
  · split at h
    · cases h; decide
    · cases h
theorem bytS_len (x : Nat) (n : Nat) : (Nt.bytS (lim x) (n : Int)).1.length ≤ n := by
  unfold Nt.bytS
  split
  · simp
  · split
    · simp
    · split
      · simp
      · simp [Nt.beb]
theorem NBytes {w : World} (r : Value) (x n : Nat) (h : Nb w r x) (hn : n ≤ 48) : Calls Try.prog 19 #[r, .int .i64 n] w fun e w' => ∃ a m c d, e = .returned (.tuple #[.slice a m c, .int .i64 d]) ∧ m ≤ 48 ∧ Sl .u8 w' (.slice a m c) (Nt.bytS (lim x) n).1 ∧ Below w.heap.size w w' := by
  refine (Nt.Bytes_any (lim x) n r w h (lim_u32 _) (by omega) (by omega)).mono ?_
  rintro e w' ⟨⟨v, rfl, hv, _⟩, hb⟩
  have hs := hv.sl
  obtain ⟨a, m, c, rfl, hm⟩ := sl_cut hs
  exact ⟨a, m, c, _, rfl, by rw [hm]; exact Nat.le_trans (bytS_len x n) hn, hs, hb⟩

set_option maxHeartbeats 4000000 in
theorem Bytes_bad {w : World} (c : Int) (vx vy : Value) (X Y : List Int) (hX : Sl .u32 w vx X) (hY : Sl .u32 w vy Y) (n : Int) (hn : n = 1 ∨ n = 90)
    (hA : ∀ (W : World) b2 T2, Below w.heap.size w W → Blk T2 W b2 [vx, vy] → Calls Try.prog 17 #[.int .i64 c, .slice none 0 0, .slice (some ⟨b2, 0, none⟩) 1 1] W fun e w' => e = .returned (.tuple #[.agg kz.toArray, .int .i64 n]) ∧ Below W.heap.size W w') :
    Calls Try.prog 6 #[.int .i64 c, .agg #[vx, vy]] w fun e w' => e = .returned (.tuple #[.slice none 0 0, .int .i64 n]) ∧ Below w.heap.size w w' := by
  obtain ⟨xa, xn, xc, rfl, hxn⟩ := sl_cut hX
  obtain ⟨ya, yn, yc, rfl, hyn⟩ := sl_cut hY
  have HS : Hid (∀ (W : World) b2 T2, Below w.heap.size w W → Blk T2 W b2 [.slice xa xn xc, .slice ya yn yc] → Calls Try.prog 17 #[.int .i64 c, .slice none 0 0, .slice (some ⟨b2, 0, none⟩) 1 1] W fun e w' => e = .returned (.tuple #[.agg kz.toArray, .int .i64 n]) ∧ Below W.heap.size W w') := hA
  have hn0 : (n != 0) = true := by rcases hn with rfl | rfl <;> rfl
  clear hA hX hY hxn hyn hn
  go_enter Try.func6, Try.ntmps6
  go_upto_region 1 with (refine wpList_boxR rfl 27 (.tmp 1) rfl #[.slice xa xn xc, .slice ya yn yc] rfl ?_)
  refine wp_gen (fun W => Blk 27 W w.heap.size [.slice xa xn xc, .slice ya yn yc] ∧ Below w.heap.size w W) ⟨Blk.new _ w _, al1 _⟩ ?_
  rintro W2 ⟨hB, hBw⟩
  have H2 : Hid (Below w.heap.size w W2 ∧ Blk 27 W2 w.heap.size [.slice xa xn xc, .slice ya yn yc]) := ⟨hBw, hB⟩
  have p0 : W2.cell? ⟨w.heap.size, 0, none⟩ = some (.slice xa xn xc) := hB.cell 0
  have p1 : W2.cell? ⟨w.heap.size, 1, none⟩ = some (.slice ya yn yc) := hB.cell 1
  clear hB hBw
  go_wp2_with fail
  refine (HS.out _ W2.heap.size 27 (below_via H2.out.1 (al1 _) (Nat.le_refl _)) (Blk.new _ W2 _)).mono ?_
  rintro e w3 ⟨rfl, hb3⟩
  have H3 : Hid (Below w.heap.size w w3) := below_via (below_via H2.out.1 (al1 _) (Nat.le_refl _)) hb3 (Nat.le_refl _)
  clear hb3 p0 p1 HS
  unfold kz
  go_upto_region 2 with (fail)
  refine wp_gen (fun W => Below w3.heap.size w3 W) (al1 _) ?_
  rintro W4 hb4
  have H4 : Hid (Below w.heap.size w W4) := below_via H3.out hb4 (Nat.le_refl _)
  clear hb4
  go_wp2
  go_ret2
  exact ⟨rfl, H4.out⟩

set_option maxHeartbeats 8000000 in
theorem Bytes_good {w : World} (c : Int) (C : Cv) (hc : crv c = some C) (vx vy : Value) (X Y : List Int) (hX : Sl .u32 w vx X) (hY : Sl .u32 w vy Y) (uX : U32s X) (uY : U32s Y) (lX : X.length ≤ 1000000) (lY : Y.length ≤ 1000000) (ho : onB C.p C.b X Y = true) :
    Calls Try.prog 6 #[.int .i64 c, .agg #[vx, vy]] w fun e w' => ∃ v, e = .returned (.tuple #[v, .int .i64 (pbC C X Y).2]) ∧ Sl .u8 w' v (pbC C X Y).1 ∧ Below w.heap.size w w' := by
  obtain ⟨xa, xn, xc, rfl, hxn⟩ := sl_cut hX
  obtain ⟨ya, yn, yc, rfl, hyn⟩ := sl_cut hY
  have HS : Hid (∀ W b2 T2, Below w.heap.size w W → Blk T2 W b2 [.slice xa xn xc, .slice ya yn yc] → Calls Try.prog 17 #[.int .i64 c, .slice none 0 0, .slice (some ⟨b2, 0, none⟩) 1 1] W fun e w' => ∃ s a1 n1 c1 a2 n2 c2 a3 n3 c3 a4 n4 c4 a5 n5 c5, e = .returned (.tuple #[.agg [.int .i64 (s : Nat), .slice a1 n1 c1, .slice a2 n2 c2, .slice a3 n3 c3, .slice a4 n4 c4, .slice a5 n5 c5].toArray, .int .i64 0]) ∧ KindS w' s a1 n1 c1 a2 n2 c2 a3 n3 c3 a4 n4 c4 a5 n5 c5 C ∧ Below W.heap.size W w') := fun W b2 T2 hW hb2 =>
    asked_01 c C hc b2 T2 (.slice xa xn xc) (.slice ya yn yc) X Y hb2 (below_sl hW hX) (below_sl hW hY) uX uY lX lY ho
  have HFr : Hid (∀ W, Below w.heap.size w W → Calls Try.prog 18 #[.agg #[.slice xa xn xc, .slice ya yn yc]] W fun e w' => e = .returned (.bool (farB X Y)) ∧ Below W.heap.size W w') := fun W hW => PisFar _ _ X Y (below_sl hW hX) (below_sl hW hY) uX uY lX lY
  have HTx : Hid (∀ W, Below w.heap.size w W → Calls Try.prog 20 #[.slice xa xn xc] W fun e w' => ∃ r, e = .returned r ∧ Nb w' r (val X).toNat ∧ Below W.heap.size W w') := fun W hW => LTrim _ X (below_sl hW hX) uX lX
  have HTy : Hid (∀ W, Below w.heap.size w W → Calls Try.prog 20 #[.slice ya yn yc] W fun e w' => ∃ r, e = .returned r ∧ Nb w' r (val Y).toNat ∧ Below W.heap.size W w') := fun W hW => LTrim _ Y (below_sl hW hY) uY lY
  have HSz : Hid (C.sz ≤ 48) := crv_szle hc
  have HE : Hid ((if farB X Y = false then ([4] ++ (Nt.bytS (lim (val X).toNat) (C.sz : Nat)).1 ++ (Nt.bytS (lim (val Y).toNat) (C.sz : Nat)).1, 0) else ([], 90)) = pbC C X Y) := by show _ = _; unfold pbC; rw [ho]; simp only [true_and]
  obtain ⟨x, hx⟩ : ∃ x, (val X).toNat = x := ⟨_, rfl⟩
  obtain ⟨y, hy⟩ : ∃ y, (val Y).toNat = y := ⟨_, rfl⟩
  obtain ⟨R, hR⟩ : ∃ R, pbC C X Y = R := ⟨_, rfl⟩
  obtain ⟨f, hf⟩ : ∃ f, farB X Y = f := ⟨_, rfl⟩
  rw [hx] at HTx HE; rw [hy] at HTy HE; rw [hR] at HE; rw [hR]; rw [hf] at HE HFr
  clear hc hX hY uX uY lX lY ho hxn hyn hx hy hR hf
  go_enter Try.func6, Try.ntmps6
  go_upto_region 1 with (refine wpList_boxR rfl 27 (.tmp 1) rfl #[.slice xa xn xc, .slice ya yn yc] rfl ?_)
  refine wp_gen (fun W => Blk 27 W w.heap.size [.slice xa xn xc, .slice ya yn yc] ∧ Below w.heap.size w W) ⟨Blk.new _ w _, al1 _⟩ ?_
  rintro W2 ⟨hB, hBw⟩
  have H2 : Hid (Below w.heap.size w W2 ∧ Blk 27 W2 w.heap.size [.slice xa xn xc, .slice ya yn yc]) := ⟨hBw, hB⟩
  have p0 : W2.cell? ⟨w.heap.size, 0, none⟩ = some (.slice xa xn xc) := hB.cell 0
  have p1 : W2.cell? ⟨w.heap.size, 1, none⟩ = some (.slice ya yn yc) := hB.cell 1
  clear hB hBw
  go_wp2_with fail
  refine (HS.out _ W2.heap.size 27 (below_via H2.out.1 (al1 _) (Nat.le_refl _)) (Blk.new _ W2 _)).mono ?_
  rintro e w3 ⟨s, a1, n1, c1, a2, n2, c2, a3, n3, c3, a4, n4, c4, a5, n5, c5, rfl, hk, hb3⟩
  have hb23 : Below W2.heap.size W2 w3 := below_via (al1 _) hb3 (Nat.le_refl _)
  have hs : s = C.sz := hk.1
  have H3 : Hid (Below w.heap.size w w3 ∧ Blk 27 w3 w.heap.size [.slice xa xn xc, .slice ya yn yc] ∧ s = C.sz ∧ s ≤ 48) := ⟨below_via H2.out.1 hb23 (Nat.le_refl _), below_blk hb23 H2.out.2.lt H2.out.2, hs, by rw [hs]; exact HSz.out⟩
  clear hb3 hb23 hk HS p0 p1 H2 hs
  go_upto_region 2 with (fail)
  refine wp_gen (fun W => Blk 46 W w3.heap.size [.int .i64 s, .slice a1 n1 c1, .slice a2 n2 c2, .slice a3 n3 c3, .slice a4 n4 c4, .slice a5 n5 c5] ∧ Below w3.heap.size w3 W) ⟨Blk.new _ _ _, al1 _⟩ ?_
  rintro W4 ⟨hB4, hb4⟩
  have hB := below_blk hb4 H3.out.2.1.lt H3.out.2.1
  have H4 : Hid (Below w.heap.size w W4 ∧ Blk 27 W4 w.heap.size [.slice xa xn xc, .slice ya yn yc] ∧ Blk 46 W4 w3.heap.size [.int .i64 s, .slice a1 n1 c1, .slice a2 n2 c2, .slice a3 n3 c3, .slice a4 n4 c4, .slice a5 n5 c5]) := ⟨below_via H3.out.1 hb4 (Nat.le_refl _), hB, hB4⟩
  have p0 : W4.cell? ⟨w.heap.size, 0, none⟩ = some (.slice xa xn xc) := hB.cell 0
  have p1 : W4.cell? ⟨w.heap.size, 1, none⟩ = some (.slice ya yn yc) := hB.cell 1
  clear hB4 hb4 hB
  go_wp2_with fail
  refine (HFr.out _ H4.out.1).mono ?_
  rintro e W5 ⟨rfl, hb5⟩
  have H5 : Hid (Below w.heap.size w W5 ∧ ∀ W, Below W5.heap.size W5 W → W.cell? ⟨w.heap.size, 0, none⟩ = some (.slice xa xn xc) ∧ W.cell? ⟨w.heap.size, 1, none⟩ = some (.slice ya yn yc) ∧ W.cell? ⟨w3.heap.size, 0, none⟩ = some (.int .i64 (s : Nat))) := ⟨below_via H4.out.1 hb5 (Nat.le_refl _), fun W h => by have h2 := below_via hb5 h (Nat.le_refl _); exact ⟨(below_blk h2 H4.out.2.1.lt H4.out.2.1).cell 0, (below_blk h2 H4.out.2.1.lt H4.out.2.1).cell 1, (below_blk h2 H4.out.2.2.lt H4.out.2.2).cell 0⟩⟩
  clear hb5 p0 p1 H4
  cases f with
  | true =>
    have HE2 : Hid (([], 90) = R) := HE.out
    clear HE
    go_wp2
    go_ret2
    exact ⟨_, by rw [← HE2.out]; rfl, by rw [← HE2.out]; exact ⟨none, 0, rfl, Nat.le_refl _, .inl rfl⟩, H5.out.1⟩
  | false =>
    have HE2 : Hid (([4] ++ (Nt.bytS (lim x) (C.sz : Nat)).1 ++ (Nt.bytS (lim y) (C.sz : Nat)).1, 0) = R) := HE.out
    clear HE
    go_wp2_with fail
    go_region_held3 (fun W => Below W5.heap.size W5 W ∧ W.cell? ⟨w.heap.size, 0, none⟩ = some (.slice xa xn xc) ∧ W.cell? ⟨w.heap.size, 1, none⟩ = some (.slice ya yn yc) ∧ W.cell? ⟨w3.heap.size, 0, none⟩ = some (.int .i64 (s : Nat)))
      (first | assumption | exact (fun h => ⟨h, H5.out.2 _ h⟩) (Below.drew (Below.refl _ _)) | exact (fun h => ⟨h, H5.out.2 _ h⟩) (below_via (And.left (by assumption)) (by assumption) (Nat.le_refl _)))
      (first
      | (go_at_call 19; refine (NBytes _ x s K6.out H3.out.2.2.2).mono ?_; rintro e v6 ⟨ea, em, ec, ed, rfl, hm6, hs6, hbb6⟩; have M6 : Hid (em ≤ 48 ∧ Sl .u8 v6 (.slice ea em ec) (Nt.bytS (lim x) (s : Nat)).1) := ⟨hm6, hs6⟩; clear hm6 hs6)
      | (go_at_call 20; refine (HTx.out _ (below_via H5.out.1 (And.left (by assumption)) (Nat.le_refl _))).mono ?_; rintro e u6 ⟨r6, rfl, hr6, hb6⟩; have K6 : Hid (Nb u6 r6 x) := hr6; clear hr6))
    have B6 : Hid (Below W5.heap.size W5 v6) := And.left (by assumption)
    have HI7 : Hid (Below W5.heap.size W5 v6.drew ∧ v6.drew.cell? ⟨w.heap.size, 0, none⟩ = some (.slice xa xn xc) ∧ v6.drew.cell? ⟨w.heap.size, 1, none⟩ = some (.slice ya yn yc) ∧ v6.drew.cell? ⟨w3.heap.size, 0, none⟩ = some (.int .i64 (s : Nat))) := ⟨Below.drew B6.out, H5.out.2 _ (Below.drew B6.out)⟩
    clear hb6 hbb6
    go_wp2_with fail
    go_region_held3 (fun W => Below W5.heap.size W5 W ∧ W.cell? ⟨w.heap.size, 0, none⟩ = some (.slice xa xn xc) ∧ W.cell? ⟨w.heap.size, 1, none⟩ = some (.slice ya yn yc) ∧ W.cell? ⟨w3.heap.size, 0, none⟩ = some (.int .i64 (s : Nat)))
      (first | assumption | exact HI7.out | exact (fun h => ⟨h, H5.out.2 _ h⟩) (below_via (And.left (by assumption)) (by assumption) (Nat.le_refl _)))
      (first
      | (go_at_call 19; refine (NBytes _ y s K7.out H3.out.2.2.2).mono ?_; rintro e v7 ⟨ga, gm, gc, gd, rfl, hm7, hs7, hbb7⟩; have M7 : Hid (gm ≤ 48 ∧ Sl .u8 v7 (.slice ga gm gc) (Nt.bytS (lim y) (s : Nat)).1) := ⟨hm7, hs7⟩; clear hm7 hs7)
      | (go_at_call 20; refine (HTy.out _ (below_via H5.out.1 (And.left (by assumption)) (Nat.le_refl _))).mono ?_; rintro e u7 ⟨r7, rfl, hr7, hb7⟩; have K7 : Hid (Nb u7 r7 y) := hr7; clear hr7))
    have hb67 : Below v6.heap.size v6 v7 := below_via (below_via (Below.drew (Below.refl _ _)) hb7 (Nat.le_refl _)) hbb7 (Nat.le_refl _)
    have H7 : Hid (em ≤ 48 ∧ gm ≤ 48 ∧ Sl .u8 v7 (.slice ea em ec) (Nt.bytS (lim x) (s : Nat)).1 ∧ Sl .u8 v7 (.slice ga gm gc) (Nt.bytS (lim y) (s : Nat)).1 ∧ Below w.heap.size w v7) := ⟨M6.out.1, M7.out.1, below_sl hb67 M6.out.2, M7.out.2, below_via H5.out.1 (below_via B6.out hb67 (Nat.le_refl _)) (Nat.le_refl _)⟩
    clear hb67 hb7 hbb7
    go_wp2_with fail
    have hbb : Below v7.heap.size v7 ((v7.alloc (.cells #[.int .u8 4] 5)).alloc (.cells #[.slice (some ⟨v7.heap.size, 0, none⟩) 1 1, .slice ea em ec, .slice ga gm gc] 23)) := (al1 _).alloc (by simp) _
    refine (SConcat3 (v7.heap.size + 1) 23 _ 1 1 ea em ec ga gm gc [4] _ _ (by have := Blk.new 23 (v7.alloc (.cells #[.int .u8 4] 5)) [.slice (some ⟨v7.heap.size, 0, none⟩) 1 1, .slice ea em ec, .slice ga gm gc]; rw [World.size_alloc] at this; exact this) (sl_alloc (Arr.sl (S := [4]) (arr_nw rfl rfl)) _) (below_sl hbb H7.out.2.2.1) (below_sl hbb H7.out.2.2.2.1) (by decide) (by decide) (by have := H7.out.1; omega) (by have := H7.out.2.1; omega)).mono ?_
    rintro e w9 ⟨v, rfl, hv, hb9⟩
    have H9 : Hid (Sl .u8 w9 v ([4] ++ (Nt.bytS (lim x) (s : Nat)).1 ++ (Nt.bytS (lim y) (s : Nat)).1) ∧ Below w.heap.size w w9) := ⟨hv, below_via (below_via H7.out.2.2.2.2 hbb (Nat.le_refl _)) hb9 (Nat.le_refl _)⟩
    clear hv hb9 hbb
    go_wp2
    go_ret2
    exact ⟨_, by rw [← HE2.out]; rfl, by rw [← HE2.out, ← H3.out.2.2.1]; exact H9.out.1, H9.out.2⟩

end Go.Proofs.Yteagdgbcfbkfbab
/-
  Curves: the law CurveBack.
-/
namespace Go.Proofs.Yteagdgbcfbkfbab
open Go.RowKit
set_option maxRecDepth 20000
open Gl (Pt Cok ec gen enc)
theorem beb_succ (v : Int) (n : Nat) : Nt.beb v (n + 1) = (v / 256 ^ n % 256) :: Nt.beb v n := by
  unfold Nt.beb
  rw [List.range_succ_eq_map, List.map_cons, List.map_map]
  congr 1
  apply List.map_congr_left
  intro k hk
  have := List.mem_range.1 hk
  show v / 256 ^ (n + 1 - 1 - (k + 1)) % 256 = _
  congr 3
  omega
theorem bv_beb (v : Int) (n : Nat) : Nt.bv (Nt.beb v n).reverse = v % 256 ^ n := by
  induction n with
  | zero => show (0 : Int) = v % 256 ^ 0; simp
  | succ n ih =>
    rw [beb_succ, List.reverse_cons, Nt.bv_append, ih, List.length_reverse, Nt.beb_len]
    have e : Nt.bv [v / 256 ^ n % 256] = v / 256 ^ n % 256 := by simp [Nt.bv]
    rw [e, Int.pow_succ]
    have hp : (0 : Int) < 256 ^ n := Int.pow_pos (by decide)
    generalize (256 : Int) ^ n = p at *
    have h1 := Int.emod_add_mul_ediv v p
    have h2 := Int.emod_add_mul_ediv (v / p) 256
    have h3 := Int.emod_add_mul_ediv v (p * 256)
    have h4 : v / p / 256 = v / (p * 256) := Int.ediv_ediv_of_nonneg (by omega)
    rw [h4] at h2
    have h5 : p * (v / p) = p * (v / p % 256) + p * 256 * (v / (p * 256)) := by rw [← h2, Int.mul_add, Int.mul_assoc, h2]
    omega
theorem bnum_beb {x n : Nat} (h : x < 256 ^ n) : bnum (Nt.beb (x : Int) n) = x := by
  unfold bnum
  rw [bv_beb]
  have h2 : (x : Int) < 256 ^ n := by
    have := Int.ofNat_lt.2 h
    rw [Int.natCast_pow] at this
    exact this
  rw [Int.emod_eq_of_lt (by omega) h2]
  rfl
theorem bv_get {xs : List Int} (h : Nt.U8s xs) (k : Nat) : Nt.bv xs / 256 ^ k % 256 = xs.getD k 0 := by
  induction xs generalizing k with
  | nil => simp [Nt.bv]
  | cons x xs ih =>
    have hx := h x (by simp)
    unfold Nt.U8 at hx
    have hb := (Nt.bv_bound h.tail).1
    cases k with
    | zero => simp [Nt.bv]; omega
    | succ k =>
      have e : (256 : Int) ^ (k + 1) = 256 * 256 ^ k := by rw [Int.pow_succ, Int.mul_comm]
      rw [List.getD_cons_succ, ← ih h.tail k, e]
      have hp : (0 : Int) < 256 ^ k := Int.pow_pos (by decide)
      rw [← Int.ediv_ediv_of_nonneg (by decide)]
      have e2 : Nt.bv (x :: xs) / 256 = Nt.bv xs := by simp only [Nt.bv]; omega
      rw [e2]
theorem beb_bnum {S : List Int} (hu : U8s S) : Nt.beb (bnum S : Int) S.length = S := by
  have hv : Nt.U8s S := fun x hx => hu x hx
  have hb := Nt.bv_bound hv.rev
  unfold bnum
  rw [Int.toNat_of_nonneg hb.1]
  apply List.ext_getElem
  · rw [Nt.beb_len]
  · intro k h1 h2
    have g := Nt.beb_get (Nt.bv S.reverse) S.length k h2
    rw [bv_get hv.rev] at g
    rw [List.getD_eq_getElem?_getD, List.getElem?_eq_getElem h1, Option.getD_some] at g
    rw [g, List.getD_eq_getElem?_getD, List.getElem?_reverse (by omega), List.getElem?_eq_getElem (by omega), Option.getD_some]
    congr 1
    omega
theorem crv_pz {c : Int} {C : Cv} (h : crv c = some C) : C.p < 256 ^ C.sz ∧ 1 ≤ C.sz := by
  unfold crv at h
  split at h
  · cases h; decide
  · split at h
    · cases h; decide
    · cases h
theorem bytS_beb {x n : Nat} (hn : n ≤ 48) (h : x < 256 ^ n) (hl : (lim x).length ≤ 12) : Nt.bytS (lim x) (n : Int) = (Nt.beb (x : Int) n, 0) := by
  unfold Nt.bytS
  have hb : bitLen x ≤ 8 * n := Nt.bitLen_lt (by rw [Nat.pow_mul]; exact h)
  rw [if_neg (by omega), if_neg (by omega), val_lim]
  rw [if_neg (by rw [show ((x : Int)).toNat = x from rfl]; omega)]
  rfl
/-- The bytes of a point. -/
def pbytes (C : Cv) (x y : Nat) : List Int := [4] ++ Nt.beb (x : Int) C.sz ++ Nt.beb (y : Int) C.sz
theorem pbytes_len (C : Cv) (x y : Nat) : (pbytes C x y).length = 1 + 2 * C.sz := by
  unfold pbytes
  simp [Nt.beb_len]; omega
theorem pbytes_u8 (C : Cv) (x y : Nat) : U8s (pbytes C x y) := by
  unfold pbytes
  intro z hz
  simp only [List.mem_append, List.mem_singleton] at hz
  rcases hz with (rfl | hz) | hz
  · unfold U8; omega
  · exact Nt.beb_u8 _ _ z hz
  · exact Nt.beb_u8 _ _ z hz
theorem pbC_good {c : Int} {C : Cv} (hc : crv c = some C) {x y : Nat} (hx : x < C.p) (hy : y < C.p) (ho : onB C.p C.b (lim x) (lim y) = true) (hf : ¬ (x = 0 ∧ y = 0)) : pbC C (lim x) (lim y) = (pbytes C x y, 0) := by
  have hs := crv_pz hc
  have h48 := crv_szle hc
  have h12 := crv_p12 hc
  unfold pbC
  rw [if_pos ⟨ho, by rw [farB_lim]; exact decide_eq_false hf⟩, val_toNat, val_toNat, bytS_beb h48 (Nat.lt_trans hx hs.1) (lim_1000 h12 hx), bytS_beb h48 (Nat.lt_trans hy hs.1) (lim_1000 h12 hy)]
  rfl
theorem prsC_good {c : Int} {C : Cv} (hc : crv c = some C) {x y : Nat} (hx : x < C.p) (hy : y < C.p) (ho : onB C.p C.b (lim x) (lim y) = true) (hf : ¬ (x = 0 ∧ y = 0)) : prsS c (pbytes C x y) = (x, y, 0) := by
  have hs := crv_pz hc
  unfold prsS
  rw [hc]
  show prsC C (pbytes C x y) = _
  unfold prsC
  rw [if_pos ⟨by rw [pbytes_len]; omega, rfl⟩]
  have e1 : ((pbytes C x y).drop 1).take C.sz = Nt.beb (x : Int) C.sz := by
    unfold pbytes
    rw [List.append_assoc]
    show (Nt.beb (x : Int) C.sz ++ Nt.beb (y : Int) C.sz).take C.sz = _
    rw [List.take_append_of_le_length (by rw [Nt.beb_len]; exact Nat.le_refl _), List.take_of_length_le (by rw [Nt.beb_len]; exact Nat.le_refl _)]
  have e2 : (pbytes C x y).drop (1 + C.sz) = Nt.beb (y : Int) C.sz := by
    unfold pbytes
    rw [List.drop_append_of_le_length (by simp [Nt.beb_len]; omega)]
    rw [List.drop_of_length_le (by simp [Nt.beb_len]; omega), List.nil_append]
  rw [e1, e2, bnum_beb (Nat.lt_trans hx hs.1), bnum_beb (Nat.lt_trans hy hs.1), if_pos ⟨by rw [farB_lim]; exact decide_eq_false hf, ho⟩]
theorem prs_back {c : Int} {C : Cv} (hc : crv c = some C) {S : List Int} (uS : U8s S) (h : (prsS c S).2.2 = 0) : onB C.p C.b (lim (prsS c S).1) (lim (prsS c S).2.1) = true ∧ pbC C (lim (prsS c S).1) (lim (prsS c S).2.1) = (S, 0) := by
  have hs := crv_pz hc
  unfold prsS at *
  rw [hc] at h ⊢
  change (prsC C S).2.2 = 0 at h
  show onB C.p C.b (lim (prsC C S).1) (lim (prsC C S).2.1) = true ∧ pbC C (lim (prsC C S).1) (lim (prsC C S).2.1) = (S, 0)
  unfold prsC at *
  split at h
  · rename_i h1
    rw [if_pos h1]
    split at h
    · rename_i h2
      rw [if_pos h2]
      refine ⟨h2.2, ?_⟩
      have hlt := onB_lt (by have := crv_p1 hc; omega) h2.2
      rw [val_lim, val_lim] at hlt
      rw [pbC_good hc (by have := hlt.1; omega) (by have := hlt.2; omega) h2.2 (by rw [farB_lim] at h2; exact of_decide_eq_false h2.1)]
      have u1 : U8s ((S.drop 1).take C.sz) := fun x hx => uS x (List.mem_of_mem_drop (List.mem_of_mem_take hx))
      have u2 : U8s (S.drop (1 + C.sz)) := fun x hx => uS x (List.mem_of_mem_drop hx)
      have g1 := beb_bnum u1
      have g2 := beb_bnum u2
      have l1 : ((S.drop 1).take C.sz).length = C.sz := by simp; omega
      have l2 : (S.drop (1 + C.sz)).length = C.sz := by simp; omega
      rw [l1] at g1
      rw [l2] at g2
      unfold pbytes
      rw [g1, g2]
      congr 1
      match S, h1 with
      | [], h1 => simp at h1
      | s :: S, h1 =>
        obtain rfl : s = 4 := h1.2
        rw [List.append_assoc, show 1 + C.sz = C.sz + 1 by omega, List.drop_succ_cons, List.drop_succ_cons, List.drop_zero, List.take_append_drop]
        rfl
    · exact absurd h (by decide)
  · exact absurd h (by decide)
end Go.Proofs.Yteagdgbcfbkfbab
/-
  Curves: the law CurveBack, walked.
-/
namespace Go.Proofs.Yteagdgbcfbkfbab
open Go.RowKit
set_option maxRecDepth 20000
open Gl (Pt Cok ec gen enc)
theorem n_big {c : Int} {C : Cv} (h : crv c = some C) : 4294967296 < C.n := by
  unfold crv at h
  split at h
  · cases h; decide
  · split at h
    · cases h; decide
    · cases h
set_option maxHeartbeats 8000000 in
theorem CurveBack_any {w : World} (o : Bool) (k : Int) (hk : 0 ≤ k ∧ k < 4294967296) (a0 : Option Addr) (n0 c0 : Nat) (S : List Int) (hS : Sl .u8 w (.slice a0 n0 c0) S) (uS : U8s S) (lS : S.length = n0) :
    Calls Try.prog 3 #[.bool o, .int .u32 k, .slice a0 n0 c0] w fun e w' => e = .returned (.bool true) ∧ Below w.heap.size w w' := by
  by_cases hl : 5000 < n0
  · have hl' : (5000 : Int) < (n0 : Int) := by omega
    clear hl hS uS lS hk
    go_enter Try.func3, Try.ntmps3
    go_wp2_with fail
    refine (live09_any (w := _)).mono ?_
    rintro e w1 ⟨rfl, hb⟩
    have HZ : Hid (Below w.heap.size w w1) := hb
    clear hb
    go_wp2
    go_ret
    exact ⟨rfl, HZ.out⟩
  have hl' : ¬ (5000 : Int) < (n0 : Int) := by omega
  have HB : Hid ((0 ≤ k ∧ k < 4294967296) ∧ Sl .u8 w (.slice a0 n0 c0) S ∧ U8s S ∧ S.length = n0 ∧ n0 ≤ 5000) := ⟨hk, hS, uS, lS, by omega⟩
  clear hl hS uS lS hk
  go_enter Try.func3, Try.ntmps3
  go_upto_if 21 with (fail)
  go_cut [7] from 21 (fun s7 wc => ∃ (c : Int) (C : Cv) (_ : NeZero C.p), s7 = .int .i64 c ∧ Hid (crv c = some C ∧ Cok C) ∧ w = wc)
  case first =>
    cases o
    · go_wp2
      go_meet
      case rel => exact ⟨1, c256, ⟨by decide⟩, rfl, ⟨rfl, @Gl.cok256 ⟨by decide⟩⟩, rfl⟩
    · go_wp2
      go_meet
      case rel => exact ⟨2, c384, ⟨by decide⟩, rfl, ⟨rfl, @Gl.cok384 ⟨by decide⟩⟩, rfl⟩
  obtain ⟨c, C, inst, rfl, HC, rfl⟩ := hcut
  obtain ⟨P, hP⟩ : ∃ P, (ec C).mul k.toNat (gen C) = P := ⟨_, rfl⟩
  have Ho : Hid ((ec C).On P ∧ (k = 0 → P = none) ∧ (k ≠ 0 → P ≠ none)) := by
    have h := Gl.mul_on HC.out.2.ok HC.out.2.onG k.toNat
    rw [hP] at h
    refine ⟨h, ?_, ?_⟩
    · rintro rfl; rw [← hP]; rfl
    · intro h0
      rw [← hP]
      have := HB.out.1
      have := n_big HC.out.1
      exact HC.out.2.ne HC.out.2.onG (by unfold gen; simp) (by omega) (by omega)
  have HA : Hid ((∀ W, Calls Try.prog 5 #[.int .i64 c, .int .u32 k] W fun e w' => ∃ a' n' k' b' m' l', e = .returned (.agg #[.slice a' n' k', .slice b' m' l']) ∧ PtV w' a' n' k' b' m' l' P ∧ Below W.heap.size W w')) :=
    fun W => hP ▸ at_any HC.out.1 HC.out.2 k HB.out.1
  have HE : Hid ((enc P).1 < C.p ∧ (enc P).2 < C.p ∧ onB C.p C.b (lim (enc P).1) (lim (enc P).2) = true ∧ (P ≠ none → ¬ ((enc P).1 = 0 ∧ (enc P).2 = 0)) ∧ (lim (enc P).1).length ≤ 12 ∧ (lim (enc P).2).length ≤ 12) := by
    have he := Gl.enc_lt P
    exact ⟨he.1, he.2, onB_enc HC.out.2 Ho.out.1, fun h h2 => h ((Gl.enc_far HC.out.2.b0 Ho.out.1).1 h2), lim_1000 (crv_p12 HC.out.1) he.1, lim_1000 (crv_p12 HC.out.1) he.2⟩
  clear hP
  go_wp2_with fail
  refine (HA.out _).mono ?_
  rintro e w1 ⟨a1, n1, k1, b1, m1, l1, rfl, hv, hb⟩
  have V1 : Hid (PtV w1 a1 n1 k1 b1 m1 l1 P ∧ Below w.heap.size w w1) := ⟨hv, hb⟩
  clear hv hb HA
  go_upto_region 7 with (fail)
  refine wp_gen (fun W => PB W w1.heap.size a1 n1 k1 b1 m1 l1 P ∧ Below w1.heap.size w1 W) ⟨PB.new V1.out.1, al1 _⟩ ?_
  rintro W1 ⟨hB, hb⟩
  have K1 : Hid (Below w.heap.size w W1 ∧ PB W1 w1.heap.size a1 n1 k1 b1 m1 l1 P) := ⟨below_via V1.out.2 hb (Nat.le_refl _), hB⟩
  clear hB hb V1
  have p0 : W1.cell? ⟨w1.heap.size, 0, none⟩ = some (.slice a1 n1 k1) := K1.out.2.1.cell 0
  have p1 : W1.cell? ⟨w1.heap.size, 1, none⟩ = some (.slice b1 m1 l1) := K1.out.2.1.cell 1
  go_wp2_with fail
  refine (Bytes_good c C HC.out.1 _ _ (lim (enc P).1) (lim (enc P).2) K1.out.2.2.1.sl K1.out.2.2.2.sl (lim_u32 _) (lim_u32 _) (by have := HE.out; omega) (by have := HE.out; omega) HE.out.2.2.1).mono ?_
  rintro e w2 ⟨v, rfl, hv, hb⟩
  by_cases h0 : k = 0
  · obtain rfl := Ho.out.2.1 h0
    subst h0
    have hp : pbC C (lim (enc (none : Pt C.p)).1) (lim (enc (none : Pt C.p)).2) = ([], 90) := by
      unfold pbC
      rw [if_neg]
      rintro ⟨_, h⟩
      rw [farB_lim] at h
      exact absurd h (by simp [enc])
    rw [hp] at hv ⊢
    obtain ⟨a2, n2, c2, rfl, hn2⟩ := sl_cut hv
    obtain rfl : n2 = 0 := hn2
    have K2 : Hid (Below w.heap.size w w2) := below_via K1.out.1 hb (Nat.le_refl _)
    clear hv hb hp p0 p1 K1
    go_wp2_with (go_at_call 7; refine (num09_any _ _).mono ?_; rintro e w' ⟨rfl, rfl⟩)
    refine (live09_any (w := _)).mono ?_
    rintro e w3 ⟨rfl, hb⟩
    have HZ : Hid (Below w.heap.size w w3) := below_via K2.out hb (Nat.le_refl _)
    clear hb
    go_wp2
    go_ret
    exact ⟨rfl, HZ.out⟩
  have hne := Ho.out.2.2 h0
  rw [pbC_good HC.out.1 HE.out.1 HE.out.2.1 HE.out.2.2.1 (HE.out.2.2.2.1 hne)] at hv ⊢
  obtain ⟨a2, n2, c2, rfl, hn2⟩ := sl_cut hv
  have K2 : Hid (Below w.heap.size w w2 ∧ PB w2 w1.heap.size a1 n1 k1 b1 m1 l1 P ∧ Sl .u8 w2 (.slice a2 n2 c2) (pbytes C (enc P).1 (enc P).2) ∧ P ≠ none ∧ n2 = 1 + 2 * C.sz) := ⟨below_via K1.out.1 hb (Nat.le_refl _), K1.out.2.below hb, hv, hne, by rw [hn2, pbytes_len]⟩
  clear hv hb hn2 p0 p1 K1 hne
  have h0' : (k == 0) = false := by simpa using h0
  clear h0
  go_wp2_with fail
  refine (Parse_any c a2 n2 c2 (pbytes C (enc P).1 (enc P).2) K2.out.2.2.1 (pbytes_u8 _ _ _)).mono ?_
  rintro e w3 ⟨r0, r1, rfl, hr0, hr1, hb⟩
  rw [prsC_good HC.out.1 HE.out.1 HE.out.2.1 HE.out.2.2.1 (HE.out.2.2.2.1 K2.out.2.2.2.1)] at hr0 hr1 ⊢
  have hr0 : Nb w3 r0 (enc P).1 := hr0
  have hr1 : Nb w3 r1 (enc P).2 := hr1
  obtain ⟨a3, k3, hf3⟩ := hr0.form
  obtain ⟨b3, l3, hf4⟩ := hr1.form
  obtain ⟨n3, hn3⟩ : ∃ n, (lim (enc P).1).length = n := ⟨_, rfl⟩
  obtain ⟨m3, hm3⟩ : ∃ n, (lim (enc P).2).length = n := ⟨_, rfl⟩
  rw [hn3] at hf3
  rw [hm3] at hf4
  subst hf3 hf4
  have V3 : Hid (PtV w3 a3 n3 k3 b3 m3 l3 P ∧ Below w2.heap.size w2 w3) := ⟨⟨hr0, hr1⟩, hb⟩
  clear hr0 hr1 hb hn3 hm3
  go_upto_region 11 with (fail)
  refine wp_gen (fun W => PB W w3.heap.size a3 n3 k3 b3 m3 l3 P ∧ Below w3.heap.size w3 W) ⟨PB.new V3.out.1, al1 _⟩ ?_
  rintro W3 ⟨hB, hb⟩
  have K3 : Hid (Below w.heap.size w W3 ∧ PB W3 w1.heap.size a1 n1 k1 b1 m1 l1 P ∧ PB W3 w3.heap.size a3 n3 k3 b3 m3 l3 P ∧ n2 = 1 + 2 * C.sz) := ⟨below_via (below_via K2.out.1 V3.out.2 (Nat.le_refl _)) hb (Nat.le_refl _), (K2.out.2.1.below V3.out.2).below hb, hB, K2.out.2.2.2.2⟩
  clear hB hb V3 K2
  have p0 : W3.cell? ⟨w1.heap.size, 0, none⟩ = some (.slice a1 n1 k1) := K3.out.2.1.1.cell 0
  have p1 : W3.cell? ⟨w1.heap.size, 1, none⟩ = some (.slice b1 m1 l1) := K3.out.2.1.1.cell 1
  have q0 : W3.cell? ⟨w3.heap.size, 0, none⟩ = some (.slice a3 n3 k3) := K3.out.2.2.1.1.cell 0
  have q1 : W3.cell? ⟨w3.heap.size, 1, none⟩ = some (.slice b3 m3 l3) := K3.out.2.2.1.1.cell 1
  go_wp2_with (go_at_call 7; refine (num09_any _ _).mono ?_; rintro e w' ⟨rfl, rfl⟩)
  refine (SameP_any _ _ _ _ _ _ K3.out.2.1.2.1 K3.out.2.1.2.2 K3.out.2.2.1.2.1 K3.out.2.2.1.2.2 (by have := HE.out; omega) (by have := HE.out; omega)).mono ?_
  rintro e w4 ⟨rfl, hb⟩
  have K4 : Hid (Below w.heap.size w w4 ∧ n2 = 1 + 2 * C.sz) := ⟨below_via K3.out.1 hb (Nat.le_refl _), K3.out.2.2.2⟩
  clear hb p0 p1 q0 q1 K3
  go_wp2_with fail
  refine (Size_any c).mono ?_
  rintro e w5 ⟨rfl, hb⟩
  obtain ⟨z, hz⟩ : ∃ z, crvN (·.sz) (crv c) = z := ⟨_, rfl⟩
  rw [hz]
  have hz2 : z = C.sz := by rw [← hz, HC.out.1]; rfl
  have hz3 : z ≤ 48 := by rw [hz2]; exact crv_szle HC.out.1
  have e1 : IntKind.i64.wrap (2 * (z : Int)) = 2 * (z : Int) := by rw [IntKind.wrap_i64]; omega
  have e2 : IntKind.i64.wrap (1 + 2 * (z : Int)) = 1 + 2 * (z : Int) := by rw [IntKind.wrap_i64]; omega
  have e3 : ((n2 : Int) != 1 + 2 * (z : Int)) = false := by
    have := K4.out.2
    rw [← hz2] at this
    simp
    omega
  have K5 : Hid (Below w.heap.size w w5) := below_via K4.out.1 hb (Nat.le_refl _)
  clear hb hz hz2 hz3 K4
  go_upto_region 13 with (fail)
  go_wp2_with fail
  refine (Parse_any c a0 n0 c0 S (below_sl K5.out HB.out.2.1) HB.out.2.2.1).mono ?_
  rintro e w6 ⟨r0, r1, rfl, hr0, hr1, hb⟩
  obtain ⟨er, her⟩ : ∃ er, (prsS c S).2.2 = er := ⟨_, rfl⟩
  obtain ⟨x, hx⟩ : ∃ x, (prsS c S).1 = x := ⟨_, rfl⟩
  obtain ⟨y, hy⟩ : ∃ y, (prsS c S).2.1 = y := ⟨_, rfl⟩
  have HQ : Hid (er = 0 → onB C.p C.b (lim x) (lim y) = true ∧ pbC C (lim x) (lim y) = (S, 0) ∧ (lim x).length ≤ 1000000 ∧ (lim y).length ≤ 1000000) := by
    intro h
    have h1 := prs_back HC.out.1 HB.out.2.2.1 (her.trans h)
    rw [hx, hy] at h1
    have h2 := onB_lt (by have := crv_p1 HC.out.1; omega) h1.1
    rw [val_lim, val_lim] at h2
    have h3 := lim_1000 (crv_p12 HC.out.1) (show x < C.p by have := h2.1; omega)
    have h4 := lim_1000 (crv_p12 HC.out.1) (show y < C.p by have := h2.2; omega)
    exact ⟨h1.1, h1.2, by omega, by omega⟩
  rw [her]
  rw [hx] at hr0
  rw [hy] at hr1
  obtain ⟨a6, n6, k6, rfl, -⟩ := sl_cut hr0.sl
  obtain ⟨b6, m6, l6, rfl, -⟩ := sl_cut hr1.sl
  have V6 : Hid (Nb w6 (.slice a6 n6 k6) x ∧ Nb w6 (.slice b6 m6 l6) y ∧ Below w.heap.size w w6) := ⟨hr0, hr1, below_via K5.out hb (Nat.le_refl _)⟩
  clear hr0 hr1 hb her hx hy K5 e1 e2 e3
  go_upto_region 14 with (fail)
  refine wp_gen (fun W => Blk 27 W w6.heap.size [.slice a6 n6 k6, .slice b6 m6 l6] ∧ Below w6.heap.size w6 W) ⟨Blk.new _ _ _, al1 _⟩ ?_
  rintro W6 ⟨hB, hb⟩
  have K6 : Hid (Nb W6 (.slice a6 n6 k6) x ∧ Nb W6 (.slice b6 m6 l6) y ∧ Below w.heap.size w W6 ∧ Blk 27 W6 w6.heap.size [.slice a6 n6 k6, .slice b6 m6 l6]) := ⟨V6.out.1.below hb, V6.out.2.1.below hb, below_via V6.out.2.2 hb (Nat.le_refl _), hB⟩
  clear hB hb V6
  by_cases h0 : er = 0
  · subst h0
    have HQ2 : Hid (onB C.p C.b (lim x) (lim y) = true ∧ pbC C (lim x) (lim y) = (S, 0) ∧ (lim x).length ≤ 1000000 ∧ (lim y).length ≤ 1000000) := HQ.out rfl
    clear HQ
    have p0 : W6.cell? ⟨w6.heap.size, 0, none⟩ = some (.slice a6 n6 k6) := K6.out.2.2.2.cell 0
    have p1 : W6.cell? ⟨w6.heap.size, 1, none⟩ = some (.slice b6 m6 l6) := K6.out.2.2.2.cell 1
    go_wp2_with (go_at_call 7; refine (num09_any _ _).mono ?_; rintro e w' ⟨rfl, rfl⟩)
    refine (Bytes_good c C HC.out.1 _ _ (lim x) (lim y) K6.out.1.sl K6.out.2.1.sl (lim_u32 _) (lim_u32 _) HQ2.out.2.2.1 HQ2.out.2.2.2 HQ2.out.1).mono ?_
    rintro e w7 ⟨v, rfl, hv, hb⟩
    rw [HQ2.out.2.1] at hv ⊢
    obtain ⟨a7, n7, c7, rfl, hn7⟩ := sl_cut hv
    have K7 : Hid (Sl .u8 w7 (.slice a7 n7 c7) S ∧ Sl .u8 w7 (.slice a0 n0 c0) S ∧ Below w.heap.size w w7) := ⟨hv, below_sl (below_via K6.out.2.2.1 hb (Nat.le_refl _)) HB.out.2.1, below_via K6.out.2.2.1 hb (Nat.le_refl _)⟩
    clear hv hb hn7 p0 p1 K6 HQ2
    go_wp2_with (go_at_call 7; refine (num09_any _ _).mono ?_; rintro e w' ⟨rfl, rfl⟩)
    refine (SameBytes_any _ _ S K7.out.1 K7.out.2.1 (by have := HB.out; omega)).mono ?_
    rintro e w8 ⟨rfl, hb⟩
    have K8 : Hid (Below w.heap.size w w8) := below_via K7.out.2.2 hb (Nat.le_refl _)
    clear hb K7
    go_wp2_with fail
    refine (live09_any (w := _)).mono ?_
    rintro e w9 ⟨rfl, hb⟩
    have HZ : Hid (Below w.heap.size w w9) := below_via K8.out hb (Nat.le_refl _)
    clear hb
    go_wp2
    go_ret
    exact ⟨rfl, HZ.out⟩
  · have h0' : (er != 0) = true := by simpa using h0
    clear h0 HQ
    go_wp2_with (go_at_call 7; refine (num09_any _ _).mono ?_; rintro e w' ⟨rfl, rfl⟩)
    refine (live09_any (w := _)).mono ?_
    rintro e w7 ⟨rfl, hb⟩
    have HZ : Hid (Below w.heap.size w w7) := below_via K6.out.2.2.1 hb (Nat.le_refl _)
    clear hb
    go_wp2
    go_ret
    exact ⟨rfl, HZ.out⟩
end Go.Proofs.Yteagdgbcfbkfbab
/-
  How the laws' arguments read (a plain seat).
-/
namespace Go.Proofs.Yteagdgbcfbkfbab
open Go.RowKit
/-! ### how an argument reads -/
def IsRow (k : IntKind) (w : World) (a : Option Addr) (len cap : Nat) (zs : List Int) : Prop :=
  (a = none ∧ len = 0 ∧ cap = 0 ∧ zs = []) ∨
  ∃ x, a = some x ∧ len ≤ cap ∧ cap ≤ maxLen ∧ zs.length = cap ∧ (∀ i, i < zs.length → w.cell? (x.add i) = some (.int k (zs.getD i 0))) ∧ ∀ n ∈ zs, (Lit.int k n).wf = true
theorem cell_spot {w : World} {x : Addr} {v : Value} (h : w.cell? x = some v) : x.spot = none ∧ x.block < w.heap.size := by
  unfold World.cell? at h
  split at h
  · rename_i c t f hh
    refine ⟨?_, (Array.getElem?_eq_some_iff.1 hh).1⟩
    by_cases hs : x.spot.isSome
    · simp [hs] at h
    · simpa using hs
  · cases h
theorem IsRow.sl {k : IntKind} {w : World} {a : Option Addr} {len cap : Nat} {zs : List Int} (h : IsRow k w a len cap zs) :
    ∃ X, X.length = len ∧ Sl k w (.slice a len cap) X ∧ ∀ n ∈ X, (Lit.int k n).wf = true := by
  rcases h with ⟨rfl, rfl, rfl, rfl⟩ | ⟨x, rfl, hl, hm, hz, hc, hw⟩
  · exact ⟨[], rfl, ⟨none, 0, rfl, Nat.le_refl _, .inl rfl⟩, by simp⟩
  · refine ⟨zs.take len, by simp; omega, ⟨some x, cap, by simp; omega, by simp; omega, ?_⟩, fun n hn => hw n (List.mem_of_mem_take hn)⟩
    by_cases h0 : len = 0
    · subst h0; exact .inl (by simp)
    · right
      obtain ⟨b, off, sp⟩ := x
      have h1 := cell_spot (hc 0 (by omega))
      have hsp : sp = none := by
        have := h1.1
        cases sp with
        | none => rfl
        | some s => simp [Addr.add] at this
      subst hsp
      have hb : b < w.heap.size := by have := h1.2; simpa [Addr.add] using this
      refine ⟨b, off, rfl, hb, fun i hi => ?_⟩
      simp at hi
      have := hc i (by omega)
      have hadd : (⟨b, off, none⟩ : Addr).add i = ⟨b, off + i, none⟩ := by simp [Addr.add]
      rw [hadd] at this
      rw [this]
      simp [show i < len by omega]
theorem IsRow.sl32 {w : World} {a : Option Addr} {len cap : Nat} {zs : List Int} (h : IsRow .u32 w a len cap zs) : ∃ X, X.length = len ∧ Sl .u32 w (.slice a len cap) X ∧ U32s X := by
  obtain ⟨X, h1, h2, h3⟩ := h.sl
  exact ⟨X, h1, h2, fun n hn => by have := bounds_u32 (h3 n hn); exact ⟨this.1, by omega⟩⟩
theorem IsRow.sl8 {w : World} {a : Option Addr} {len cap : Nat} {zs : List Int} (h : IsRow .u8 w a len cap zs) : ∃ X, X.length = len ∧ Sl .u8 w (.slice a len cap) X ∧ U8s X := by
  obtain ⟨X, h1, h2, h3⟩ := h.sl
  exact ⟨X, h1, h2, fun n hn => by have := bounds_u8 (h3 n hn); exact ⟨this.1, by omega⟩⟩
end Go.Proofs.Yteagdgbcfbkfbab
