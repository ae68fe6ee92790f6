/-
  Curves: the reference's twice. (wip/mkh22.py)
-/
import Derived.Test.YtkdclocjijmgpaaK20
namespace Go.Proofs.Ytkdclocjijmgpaa
open Go.RowKit
set_option maxRecDepth 20000
def rtw (p x y z : Nat) : Nat × Nat × Nat :=
  if z = 0 ∨ y = 0 then (0, 0, 0) else
  let w0 := fml p (fsb p x z) (fad p x z)
  let w := fad p w0 (fad p w0 w0)
  let s := fml p y z
  let ys := fml p y s
  let b := fml p x ys
  let b2 := fad p b b
  let b4 := fad p b2 b2
  let h := fsb p (fml p w w) (fad p b4 b4)
  let hs := fml p h s
  let y2 := fml p ys ys
  let y4 := fad p (fad p y2 y2) (fad p y2 y2)
  let s3 := fml p s (fml p s s)
  let s6 := fad p (fad p s3 s3) (fad p s3 s3)
  (fad p hs hs, fsb p (fml p w (fsb p b4 h)) (fad p y4 y4), fad p s6 s6)
theorem dg0 : dg 0 = List.replicate 13 0 := by
  have : lim 0 = [] := List.eq_nil_of_length_eq_zero (lim0.2 rfl)
  unfold dg
  rw [this]
  rfl
theorem eqZ {p x : Nat} (h : Fp p) (hx : x < p) (q : Bool) (hq : decide (x = 0) = q) (W : World) : Sem.run Try.prog (binOp .eql 64 (.agg (dgC (dg x)).toArray) (.agg #[.int .u64 0, .int .u64 0, .int .u64 0, .int .u64 0, .int .u64 0, .int .u64 0, .int .u64 0, .int .u64 0, .int .u64 0, .int .u64 0, .int .u64 0, .int .u64 0, .int .u64 0])) W = .ok (.bool q) W := by
  have d := dg_ok (h.lt hx)
  have d0 := dg_ok (x := 0) (by decide)
  have e := eql_dg W (dg x) (dg 0) d.1 d0.1
  rw [d.2, d0.2] at e
  have e1 : (.agg #[.int .u64 0, .int .u64 0, .int .u64 0, .int .u64 0, .int .u64 0, .int .u64 0, .int .u64 0, .int .u64 0, .int .u64 0, .int .u64 0, .int .u64 0, .int .u64 0, .int .u64 0] : Value) = dgA (dg 0) := by rw [dg0]; rfl
  rw [e1, ← hq]
  refine e.trans ?_
  congr 2
  simp
set_option maxHeartbeats 4000000 in
theorem rtwice_any {w : World} {p x y z : Nat} (h : Fp p) (hx : x < p) (hy : y < p) (hz : z < p) :
    Calls Try.prog 60 #[fV p, .agg (tC x y z).toArray] w fun e w' => e = .returned (.agg (tC (rtw p x y z).1 (rtw p x y z).2.1 (rtw p x y z).2.2).toArray) ∧ Below w.heap.size w w' := by
  obtain ⟨F, hF⟩ : ∃ F, fdC (lim p).length (dg p) = F := ⟨_, rfl⟩
  obtain ⟨T, hT⟩ : ∃ T, tC x y z = T := ⟨_, rfl⟩
  unfold fV
  rw [hF, hT]
  have HA : Hid (Fp p ∧ x < p ∧ y < p ∧ z < p ∧ fdC (lim p).length (dg p) = F ∧ tC x y z = T ∧ (Try.prog.info? 66).map (·.size) = some F.length) := ⟨h, hx, hy, hz, hF, hT, by
    rw [← hF, Try.sizeFd]
    have := (dg_ok h.2).1.2
    simp [fdC, this]⟩
  have HP0 : Hid (0 < p) := by have := h.1; show _ < _; omega
  obtain ⟨R, hR⟩ : ∃ R, rtw p x y z = R := ⟨_, rfl⟩
  rw [hR]
  have HR : Hid (rtw p x y z = R) := hR
  clear hR
  obtain ⟨bz, hbz⟩ : ∃ q, decide (z = 0) = q := ⟨_, rfl⟩
  obtain ⟨by', hby⟩ : ∃ q, decide (y = 0) = q := ⟨_, rfl⟩
  have ez := eqZ h hz bz hbz
  have ey := eqZ h hy by' hby
  have HQ : Hid (decide (z = 0) = bz ∧ decide (y = 0) = by') := ⟨hbz, hby⟩
  have gz : ∀ W xo yo, Sem.run Try.prog (eqGuard BinOp.eql 64 xo yo (.agg (dgC (dg z)).toArray) (.agg #[.int .u64 0, .int .u64 0, .int .u64 0, .int .u64 0, .int .u64 0, .int .u64 0, .int .u64 0, .int .u64 0, .int .u64 0, .int .u64 0, .int .u64 0, .int .u64 0, .int .u64 0])) W = .ok () W := fun W xo yo => by kernel_rfl
  have gy : ∀ W xo yo, Sem.run Try.prog (eqGuard BinOp.eql 64 xo yo (.agg (dgC (dg y)).toArray) (.agg #[.int .u64 0, .int .u64 0, .int .u64 0, .int .u64 0, .int .u64 0, .int .u64 0, .int .u64 0, .int .u64 0, .int .u64 0, .int .u64 0, .int .u64 0, .int .u64 0, .int .u64 0])) W = .ok () W := fun W xo yo => by kernel_rfl
  clear h hx hy hz hF hT hbz hby
  go_enter Try.func60, Try.ntmps60
  go_upto_region 1 with (first | (refine wpList_boxR rfl 66 (.tmp 0) rfl F.toArray rfl ?_) | (refine wpList_boxR rfl 70 (.tmp 1) rfl T.toArray rfl ?_))
  refine wp_gen (fun W => Below w.heap.size w W ∧ Blk 66 W w.heap.size F ∧ Blk 70 W (w.heap.size + 1) T ∧ Blk 70 W (w.heap.size + 1 + 1) (z13 ++ (z13 ++ z13))) ?_ ?_
  · have x2 := Blk.new 70 (w.alloc (.cells F.toArray 66)) T
    have x3 := Blk.new 70 ((w.alloc (.cells F.toArray 66)).alloc (.cells T.toArray 70)) (z13 ++ (z13 ++ z13))
    rw [World.size_alloc] at x2
    rw [World.size_alloc, World.size_alloc] at x3
    exact ⟨below_via (below_via (al1 _) (al1 _) (Nat.le_refl _)) (al1 _) (Nat.le_refl _), below_blk (al1 _) (by simp only [World.size_alloc]; omega) (below_blk (al1 _) (by simp only [World.size_alloc]; omega) (Blk.new _ _ _)), below_blk (al1 _) (by simp only [World.size_alloc]; omega) x2, x3⟩
  rintro W1 hW
  have M1 : Hid (Below w.heap.size w W1 ∧ Blk 66 W1 w.heap.size F ∧ Blk 70 W1 (w.heap.size + 1) (tC x y z) ∧ Blk 70 W1 (w.heap.size + 1 + 1) (z13 ++ (z13 ++ z13))) := ⟨hW.1, hW.2.1, HA.out.2.2.2.2.2.1 ▸ hW.2.2.1, hW.2.2.2⟩
  clear hW
  have Hr := tC_at HA.out.1 HA.out.2.1 HA.out.2.2.1 HA.out.2.2.2.1 M1.out.2.2.1
  have HrH : Hid (W1.rangeAt (w.heap.size + 1) 0 (dgC (dg x)) ∧ W1.rangeAt (w.heap.size + 1) 13 (dgC (dg y)) ∧ W1.rangeAt (w.heap.size + 1) 26 (dgC (dg z))) := Hr
  clear Hr
  cases bz with
  | true =>
    have hz0 : z = 0 := of_decide_eq_true HQ.out.1
    have HR0 : Hid (R = (0, 0, 0)) := by show _ = _; rw [← HR.out]; unfold rtw; rw [if_pos (.inl hz0)]
    clear hz0
    have Hth : Hid (W1.there (w.heap.size + 1 + 1) 0 (tC 0 0 0).toArray.size) := M1.out.2.2.2.there 0 _ (by rw [List.size_toArray, tC_len HA.out.1 HP0.out HP0.out HP0.out]; decide)
    go_wp2_with (first | (refine wpList_load_mid rfl _ _ rfl (w.heap.size + 1) 26 rfl (dgC (dg z)) _ HrH.out.2.2 Try.underlying64 rfl (szD HA.out.1 HA.out.2.2.2.1) ?_) | (refine wpList_load_midG rfl _ _ rfl (w.heap.size + 1) 13 rfl (dgC (dg y)) _ HrH.out.2.1 Try.underlying64 rfl (szD HA.out.1 HA.out.2.2.1) ?_) | (refine wpList_store_mid rfl _ _ _ rfl (w.heap.size + 1 + 1) 0 (tC 0 0 0).toArray rfl (by rw [tC0]; rfl) Hth.out (szT HA.out.1 HP0.out HP0.out HP0.out) (tC_one _ _ _) ?_))
    have hU : Upd W1 (W1.setCells (w.heap.size + 1 + 1) 0 (tC 0 0 0)) (w.heap.size + 1 + 1) := Upd.setCells _ 0 W1
    have hF := M1.out.2.2.2.fill (tC 0 0 0) (by rw [tC_len HA.out.1 HP0.out HP0.out HP0.out]; rfl)
    refine bodyPost_ret (v := .agg (tC 0 0 0).toArray) (results_blk (b := w.heap.size + 1 + 1) rfl rfl hF Try.underlying70 rfl (szT HA.out.1 HP0.out HP0.out HP0.out)) rfl ⟨?_, hU.below M1.out.1 M1.out.1.size (by omega)⟩
    rw [HR0.out]
  | false =>
  cases by' with
  | true =>
    have hz0 : y = 0 := of_decide_eq_true HQ.out.2
    have HR0 : Hid (R = (0, 0, 0)) := by show _ = _; rw [← HR.out]; unfold rtw; rw [if_pos (.inr hz0)]
    clear hz0
    have Hth : Hid (W1.there (w.heap.size + 1 + 1) 0 (tC 0 0 0).toArray.size) := M1.out.2.2.2.there 0 _ (by rw [List.size_toArray, tC_len HA.out.1 HP0.out HP0.out HP0.out]; decide)
    go_wp2_with (first | (refine wpList_load_mid rfl _ _ rfl (w.heap.size + 1) 26 rfl (dgC (dg z)) _ HrH.out.2.2 Try.underlying64 rfl (szD HA.out.1 HA.out.2.2.2.1) ?_) | (refine wpList_load_midG rfl _ _ rfl (w.heap.size + 1) 13 rfl (dgC (dg y)) _ HrH.out.2.1 Try.underlying64 rfl (szD HA.out.1 HA.out.2.2.1) ?_) | (refine wpList_store_mid rfl _ _ _ rfl (w.heap.size + 1 + 1) 0 (tC 0 0 0).toArray rfl (by rw [tC0]; rfl) Hth.out (szT HA.out.1 HP0.out HP0.out HP0.out) (tC_one _ _ _) ?_))
    have hU : Upd W1 (W1.setCells (w.heap.size + 1 + 1) 0 (tC 0 0 0)) (w.heap.size + 1 + 1) := Upd.setCells _ 0 W1
    have hF := M1.out.2.2.2.fill (tC 0 0 0) (by rw [tC_len HA.out.1 HP0.out HP0.out HP0.out]; rfl)
    refine bodyPost_ret (v := .agg (tC 0 0 0).toArray) (results_blk (b := w.heap.size + 1 + 1) rfl rfl hF Try.underlying70 rfl (szT HA.out.1 HP0.out HP0.out HP0.out)) rfl ⟨?_, hU.below M1.out.1 M1.out.1.size (by omega)⟩
    rw [HR0.out]
  | false =>
  have HR2 : Hid (¬ (z = 0 ∨ y = 0)) := by
    rintro (h | h)
    · exact absurd h (of_decide_eq_false HQ.out.1)
    · exact absurd h (of_decide_eq_false HQ.out.2)
  go_upto_region 3 with (first | (refine wpList_load_mid rfl _ _ rfl (w.heap.size + 1) 26 rfl (dgC (dg z)) _ HrH.out.2.2 Try.underlying64 rfl (szD HA.out.1 HA.out.2.2.2.1) ?_) | (refine wpList_load_midG rfl _ _ rfl (w.heap.size + 1) 13 rfl (dgC (dg y)) _ HrH.out.2.1 Try.underlying64 rfl (szD HA.out.1 HA.out.2.2.1) ?_))
  clear ez ey gz gy HQ HrH
  refine wp_gen (fun W => W = W1) rfl ?_
  rintro W0 hW0
  subst hW0
  refine wp_frame (fun A0 => A0.tmps.size = 140 ∧ A0.defers = [] ∧ A0.eval (.tmp 2) = .pointer (some ⟨w.heap.size, 0, none⟩) ∧ A0.eval (.tmp 3) = .pointer (some ⟨w.heap.size + 1, 0, none⟩) ∧ A0.eval (.tmp 4) = .pointer (some ⟨w.heap.size + 1 + 1, 0, none⟩)) ⟨by kernel_rfl, rfl, rfl, rfl, rfl⟩ ?_
  rintro A0 hA0
  have AF0 : Hid (A0.tmps.size = 140 ∧ A0.defers = [] ∧ A0.eval (.tmp 2) = .pointer (some ⟨w.heap.size, 0, none⟩) ∧ A0.eval (.tmp 3) = .pointer (some ⟨w.heap.size + 1, 0, none⟩) ∧ A0.eval (.tmp 4) = .pointer (some ⟨w.heap.size + 1 + 1, 0, none⟩)) := hA0
  clear hA0
  go_upto_region 3 with (fail)
  refine wp_region_o (β := Nat) (fun b k => if k = 14 then .pointer (some ⟨b, 0, none⟩) else ([.agg F.toArray, .agg F.toArray, PV (w.heap.size + 1) 0, DV (x), PV (w.heap.size + 1) 26, DV (z), DV (fsb p x z), .agg F.toArray, PV (w.heap.size + 1) 0, DV (x), PV (w.heap.size + 1) 26, DV (z), DV (fad p x z), DV (fml p (fsb p x z) (fad p x z)), undef, undef] : List Value).getD k undef) (SA W0 64 z13 (dgC (dg (fml p (fsb p x z) (fad p x z)))) 14 15) 0 true (m := 140) AF0.out.1 rfl (by decide +kernel) (by decide +kernel) ⟨Below.drew (Below.refl _ _), fun u => absurd u not_up_new, fun u => absurd u not_up_new⟩ (fun i b L W a hi hno hlt hdep hv h0 hS => ?_) (fun b L W a hup hS hsz hdf hv h0 => ?_)
  · replace hi : i < 16 := hi
    obtain rfl | rfl | rfl | rfl | rfl | rfl | rfl | rfl | rfl | rfl | rfl | rfl | rfl | rfl | rfl | rfl : i = 0 ∨ i = 1 ∨ i = 2 ∨ i = 3 ∨ i = 4 ∨ i = 5 ∨ i = 6 ∨ i = 7 ∨ i = 8 ∨ i = 9 ∨ i = 10 ∨ i = 11 ∨ i = 12 ∨ i = 13 ∨ i = 14 ∨ i = 15 := by omega
    · exact ldF rfl rfl rfl (e0 h0 AF0.out.2.2.1) (bb hS.1 M1.out.2.1) HA.out.2.2.2.2.2.2 rfl hS.kp
    · exact ldF rfl rfl rfl (e0 h0 AF0.out.2.2.1) (bb hS.1 M1.out.2.1) HA.out.2.2.2.2.2.2 rfl hS.kp
    · exact det_val rfl rfl (rf 0 rfl (e0 h0 AF0.out.2.2.2.1)) hS.kp
    · exact ldR rfl rfl rfl (dv hv hdep 2 30) (tC_at HA.out.1 HA.out.2.1 HA.out.2.2.1 HA.out.2.2.2.1 (bb hS.1 M1.out.2.2.1)).1 HA.out.1 HA.out.2.1 rfl hS.kp
    · exact det_val rfl rfl (rf 2 rfl (e0 h0 AF0.out.2.2.2.1)) hS.kp
    · exact ldR rfl rfl rfl (dv hv hdep 4 32) (tC_at HA.out.1 HA.out.2.1 HA.out.2.2.1 HA.out.2.2.2.1 (bb hS.1 M1.out.2.2.1)).2.2 HA.out.1 HA.out.2.2.2.1 rfl hS.kp
    · exact cS rfl rfl rfl (dv hv hdep 1 29) (dv hv hdep 3 31) (dv hv hdep 5 33) HA.out.2.2.2.2.1 HA.out.1 HA.out.2.1 HA.out.2.2.2.1 hS.kc
    · exact ldF rfl rfl rfl (e0 h0 AF0.out.2.2.1) (bb hS.1 M1.out.2.1) HA.out.2.2.2.2.2.2 rfl hS.kp
    · exact det_val rfl rfl (rf 0 rfl (e0 h0 AF0.out.2.2.2.1)) hS.kp
    · exact ldR rfl rfl rfl (dv hv hdep 8 36) (tC_at HA.out.1 HA.out.2.1 HA.out.2.2.1 HA.out.2.2.2.1 (bb hS.1 M1.out.2.2.1)).1 HA.out.1 HA.out.2.1 rfl hS.kp
    · exact det_val rfl rfl (rf 2 rfl (e0 h0 AF0.out.2.2.2.1)) hS.kp
    · exact ldR rfl rfl rfl (dv hv hdep 10 38) (tC_at HA.out.1 HA.out.2.1 HA.out.2.2.1 HA.out.2.2.2.1 (bb hS.1 M1.out.2.2.1)).2.2 HA.out.1 HA.out.2.2.2.1 rfl hS.kp
    · exact cA rfl rfl rfl (dv hv hdep 7 35) (dv hv hdep 9 37) (dv hv hdep 11 39) HA.out.2.2.2.2.1 HA.out.1 HA.out.2.1 HA.out.2.2.2.1 hS.kc
    · exact cM rfl rfl rfl (dv hv hdep 0 28) (dv hv hdep 6 34) (dv hv hdep 12 40) HA.out.2.2.2.2.1 HA.out.1 (fsb_lt HP0.out) (fad_lt HP0.out) hS.kc
    · exact alA rfl rfl rfl (fun k hk => by simp only [if_neg hk]) rfl hS hno
    · exact stA rfl rfl rfl rfl (dv hv hdep 14 5) (dv hv hdep 13 41) HA.out.1 (fml_lt HP0.out) hS hno hdep hlt
  obtain ⟨W3, hWn⟩ : ∃ x, x = W := ⟨_, rfl⟩
  subst hWn
  obtain ⟨A3, hAn⟩ : ∃ x, x = a := ⟨_, rfl⟩
  subst hAn
  have hbl := hS.1
  obtain ⟨b5, hbn5⟩ : ∃ x, b = x := ⟨_, rfl⟩
  obtain ⟨v5, q5⟩ : ∃ vv, fml p (fsb p x z) (fad p x z) = vv := ⟨_, rfl⟩
  have Q5 : Hid (fml p (fsb p x z) (fad p x z) = v5 ∧ v5 < p) := ⟨q5, q5 ▸ (fml_lt HP0.out)⟩
  have hB5 := (hS.2.1 (hup 14 (by decide))).2.2 (hup 15 (by decide))
  have hG5 := (hS.2.1 (hup 14 (by decide))).1
  have hE5 := hv 14 5 (by decide) rfl
  rw [q5, hbn5] at hB5
  rw [hbn5] at hG5
  replace hE5 : A3.eval (.tmp 5) = .pointer (some ⟨b5, 0, none⟩) := by rw [← hbn5]; exact hE5
  have M3 : Hid (Below w.heap.size w W3 ∧ Blk 66 W3 w.heap.size F ∧ Blk 70 W3 (w.heap.size + 1) (tC x y z) ∧ Blk 70 W3 (w.heap.size + 1 + 1) (z13 ++ (z13 ++ z13)) ∧ BD w W3 2 b5 v5) := ⟨below_via M1.out.1 hbl (Nat.le_refl _), bb hbl M1.out.2.1, bb hbl M1.out.2.2.1, bb hbl M1.out.2.2.2, ⟨hB5, by have h1 := M1.out.2.2.2.lt; omega⟩⟩
  have AF3 : Hid (A3.tmps.size = 140 ∧ A3.defers = [] ∧ At A3 2 w.heap.size ∧ At A3 3 (w.heap.size + 1) ∧ At A3 4 (w.heap.size + 1 + 1) ∧ At A3 5 b5) := ⟨hsz, hdf.trans AF0.out.2.1, e0 h0 AF0.out.2.2.1, e0 h0 AF0.out.2.2.2.1, e0 h0 AF0.out.2.2.2.2, hE5⟩
  clear hup hS hsz hdf hv h0 hbl hbn5 q5 hB5 hG5 hE5 M1 AF0
  go_upto_region 4 with (fail)
  refine wp_region_o (β := Unit) (fun _ k => ([.agg F.toArray, DV (v5), .agg F.toArray, DV (v5), DV (v5), DV (fad p v5 v5), DV (fad p v5 (fad p v5 v5)), undef] : List Value).getD k undef) (SB W3 64 b5 (dgC (dg v5)) (dgC (dg (fad p v5 (fad p v5 v5)))) 7 8) () true (m := 140) AF3.out.1 rfl (by decide +kernel) (by decide +kernel) ⟨updDrew _ _, M3.out.2.2.2.2.1.lt, fun _ => ⟨Below.drew (Below.refl _ _), below_blk (Below.drew (Below.refl _ _)) M3.out.2.2.2.2.1.lt M3.out.2.2.2.2.1⟩, fun u => absurd u not_up_new⟩ (fun i b L W a hi hno hlt hdep hv h0 hS => ?_) (fun b L W a hup hS hsz hdf hv h0 => ?_)
  · replace hi : i < 8 := hi
    obtain rfl | rfl | rfl | rfl | rfl | rfl | rfl | rfl : i = 0 ∨ i = 1 ∨ i = 2 ∨ i = 3 ∨ i = 4 ∨ i = 5 ∨ i = 6 ∨ i = 7 := by omega
    · exact ldF rfl rfl rfl (e0 h0 AF3.out.2.2.1) (bb (hS.bl hno) M3.out.2.1) HA.out.2.2.2.2.2.2 rfl (hS.kp hno)
    · exact ldD rfl rfl rfl (e0 h0 AF3.out.2.2.2.2.2) (bb (hS.bl hno) M3.out.2.2.2.2.1) HA.out.1 Q5.out.2 rfl (hS.kp hno)
    · exact ldF rfl rfl rfl (e0 h0 AF3.out.2.2.1) (bb (hS.bl hno) M3.out.2.1) HA.out.2.2.2.2.2.2 rfl (hS.kp hno)
    · exact ldD rfl rfl rfl (e0 h0 AF3.out.2.2.2.2.2) (bb (hS.bl hno) M3.out.2.2.2.2.1) HA.out.1 Q5.out.2 rfl (hS.kp hno)
    · exact ldD rfl rfl rfl (e0 h0 AF3.out.2.2.2.2.2) (bb (hS.bl hno) M3.out.2.2.2.2.1) HA.out.1 Q5.out.2 rfl (hS.kp hno)
    · exact cA rfl rfl rfl (dv hv hdep 2 44) (dv hv hdep 3 45) (dv hv hdep 4 46) HA.out.2.2.2.2.1 HA.out.1 Q5.out.2 Q5.out.2 (hS.kc hno)
    · exact cA rfl rfl rfl (dv hv hdep 0 42) (dv hv hdep 1 43) (dv hv hdep 5 47) HA.out.2.2.2.2.1 HA.out.1 Q5.out.2 (fad_lt HP0.out) (hS.kc hno)
    · exact det_store rfl rfl rfl rfl (e0 h0 AF3.out.2.2.2.2.2) (dv hv hdep 6 48) ((hS.2.2.1 hno).2.there 0 _ (by simp [dgC_l HA.out.1 (fad_lt HP0.out), dgC_l HA.out.1 Q5.out.2])) (szD HA.out.1 (fad_lt HP0.out)) (dgC_one _) (hS.store hno (hlt 7 (by decide)) (fun k hk hne => hdep k (allDep hk hne (by decide +kernel))) (by rw [dgC_l HA.out.1 (fad_lt HP0.out), dgC_l HA.out.1 Q5.out.2]))
  obtain ⟨W4, hWn⟩ : ∃ x, x = W := ⟨_, rfl⟩
  subst hWn
  obtain ⟨A4, hAn⟩ : ∃ x, x = a := ⟨_, rfl⟩
  subst hAn
  obtain ⟨v5_4, q5⟩ : ∃ vv, fad p v5 (fad p v5 v5) = vv := ⟨_, rfl⟩
  have Q5_4 : Hid (fad p v5 (fad p v5 v5) = v5_4 ∧ v5_4 < p) := ⟨q5, q5 ▸ (fad_lt HP0.out)⟩
  have hB := (hS.2.2.2 (hup 7 (by decide))).1
  rw [q5] at hB
  have hU := hS.1
  have M4 : Hid (Below w.heap.size w W4 ∧ Blk 66 W4 w.heap.size F ∧ Blk 70 W4 (w.heap.size + 1) (tC x y z) ∧ Blk 70 W4 (w.heap.size + 1 + 1) (z13 ++ (z13 ++ z13)) ∧ BD w W4 2 b5 v5_4) := ⟨hU.below M3.out.1 M3.out.1.size (by have := M3.out.2.2.2.2.2; omega), hU.blk M3.out.2.1 (by have := M3.out.2.2.2.2.2; omega), hU.blk M3.out.2.2.1 (by have := M3.out.2.2.2.2.2; omega), hU.blk M3.out.2.2.2.1 (by have := M3.out.2.2.2.2.2; omega), ⟨hB, M3.out.2.2.2.2.2⟩⟩
  have AF4 : Hid (A4.tmps.size = 140 ∧ A4.defers = [] ∧ At A4 2 w.heap.size ∧ At A4 3 (w.heap.size + 1) ∧ At A4 4 (w.heap.size + 1 + 1) ∧ At A4 5 b5) := ⟨hsz, hdf.trans AF3.out.2.1, e0 h0 AF3.out.2.2.1, e0 h0 AF3.out.2.2.2.1, e0 h0 AF3.out.2.2.2.2.1, e0 h0 AF3.out.2.2.2.2.2⟩
  clear hup hS hsz hdf hv h0 hB hU q5 M3 AF3
  go_upto_region 5 with (fail)
  refine wp_region_o (β := Nat) (fun b k => if k = 6 then .pointer (some ⟨b, 0, none⟩) else ([.agg F.toArray, PV (w.heap.size + 1) 13, DV (y), PV (w.heap.size + 1) 26, DV (z), DV (fml p y z), undef, undef] : List Value).getD k undef) (SA W4 64 z13 (dgC (dg (fml p y z))) 6 7) 0 false (m := 140) AF4.out.1 rfl (by decide +kernel) (by decide +kernel) ⟨Below.refl _ _, fun u => absurd u not_up_new, fun u => absurd u not_up_new⟩ (fun i b L W a hi hno hlt hdep hv h0 hS => ?_) (fun b L W a hup hS hsz hdf hv h0 => ?_)
  · replace hi : i < 8 := hi
    obtain rfl | rfl | rfl | rfl | rfl | rfl | rfl | rfl : i = 0 ∨ i = 1 ∨ i = 2 ∨ i = 3 ∨ i = 4 ∨ i = 5 ∨ i = 6 ∨ i = 7 := by omega
    · exact ldF rfl rfl rfl (e0 h0 AF4.out.2.2.1) (bb hS.1 M4.out.2.1) HA.out.2.2.2.2.2.2 rfl hS.kp
    · exact det_val rfl rfl (rf 1 rfl (e0 h0 AF4.out.2.2.2.1)) hS.kp
    · exact ldR rfl rfl rfl (dv hv hdep 1 50) (tC_at HA.out.1 HA.out.2.1 HA.out.2.2.1 HA.out.2.2.2.1 (bb hS.1 M4.out.2.2.1)).2.1 HA.out.1 HA.out.2.2.1 rfl hS.kp
    · exact det_val rfl rfl (rf 2 rfl (e0 h0 AF4.out.2.2.2.1)) hS.kp
    · exact ldR rfl rfl rfl (dv hv hdep 3 52) (tC_at HA.out.1 HA.out.2.1 HA.out.2.2.1 HA.out.2.2.2.1 (bb hS.1 M4.out.2.2.1)).2.2 HA.out.1 HA.out.2.2.2.1 rfl hS.kp
    · exact cM rfl rfl rfl (dv hv hdep 0 49) (dv hv hdep 2 51) (dv hv hdep 4 53) HA.out.2.2.2.2.1 HA.out.1 HA.out.2.2.1 HA.out.2.2.2.1 hS.kc
    · exact alA rfl rfl rfl (fun k hk => by simp only [if_neg hk]) rfl hS hno
    · exact stA rfl rfl rfl rfl (dv hv hdep 6 6) (dv hv hdep 5 54) HA.out.1 (fml_lt HP0.out) hS hno hdep hlt
  obtain ⟨W5, hWn⟩ : ∃ x, x = W := ⟨_, rfl⟩
  subst hWn
  obtain ⟨A5, hAn⟩ : ∃ x, x = a := ⟨_, rfl⟩
  subst hAn
  have hbl := hS.1
  obtain ⟨b6, hbn6⟩ : ∃ x, b = x := ⟨_, rfl⟩
  obtain ⟨v6, q6⟩ : ∃ vv, fml p y z = vv := ⟨_, rfl⟩
  have Q6 : Hid (fml p y z = v6 ∧ v6 < p) := ⟨q6, q6 ▸ (fml_lt HP0.out)⟩
  have hB6 := (hS.2.1 (hup 6 (by decide))).2.2 (hup 7 (by decide))
  have hG6 := (hS.2.1 (hup 6 (by decide))).1
  have hE6 := hv 6 6 (by decide) rfl
  rw [q6, hbn6] at hB6
  rw [hbn6] at hG6
  replace hE6 : A5.eval (.tmp 6) = .pointer (some ⟨b6, 0, none⟩) := by rw [← hbn6]; exact hE6
  have M5 : Hid (Below w.heap.size w W5 ∧ Blk 66 W5 w.heap.size F ∧ Blk 70 W5 (w.heap.size + 1) (tC x y z) ∧ Blk 70 W5 (w.heap.size + 1 + 1) (z13 ++ (z13 ++ z13)) ∧ BD w W5 2 b5 v5_4 ∧ BD w W5 2 b6 v6) := ⟨below_via M4.out.1 hbl (Nat.le_refl _), bb hbl M4.out.2.1, bb hbl M4.out.2.2.1, bb hbl M4.out.2.2.2.1, ⟨bb hbl M4.out.2.2.2.2.1, M4.out.2.2.2.2.2⟩, ⟨hB6, by have h1 := M4.out.2.2.2.1.lt; omega⟩⟩
  have AF5 : Hid (A5.tmps.size = 140 ∧ A5.defers = [] ∧ At A5 2 w.heap.size ∧ At A5 3 (w.heap.size + 1) ∧ At A5 4 (w.heap.size + 1 + 1) ∧ At A5 5 b5 ∧ At A5 6 b6) := ⟨hsz, hdf.trans AF4.out.2.1, e0 h0 AF4.out.2.2.1, e0 h0 AF4.out.2.2.2.1, e0 h0 AF4.out.2.2.2.2.1, e0 h0 AF4.out.2.2.2.2.2, hE6⟩
  clear hup hS hsz hdf hv h0 hbl hbn6 q6 hB6 hG6 hE6 M4 AF4
  go_upto_region 6 with (fail)
  refine wp_region_o (β := Nat) (fun b k => if k = 5 then .pointer (some ⟨b, 0, none⟩) else ([.agg F.toArray, PV (w.heap.size + 1) 13, DV (y), DV (v6), DV (fml p y v6), undef, undef] : List Value).getD k undef) (SA W5 64 z13 (dgC (dg (fml p y v6))) 5 6) 0 false (m := 140) AF5.out.1 rfl (by decide +kernel) (by decide +kernel) ⟨Below.refl _ _, fun u => absurd u not_up_new, fun u => absurd u not_up_new⟩ (fun i b L W a hi hno hlt hdep hv h0 hS => ?_) (fun b L W a hup hS hsz hdf hv h0 => ?_)
  · replace hi : i < 7 := hi
    obtain rfl | rfl | rfl | rfl | rfl | rfl | rfl : i = 0 ∨ i = 1 ∨ i = 2 ∨ i = 3 ∨ i = 4 ∨ i = 5 ∨ i = 6 := by omega
    · exact ldF rfl rfl rfl (e0 h0 AF5.out.2.2.1) (bb hS.1 M5.out.2.1) HA.out.2.2.2.2.2.2 rfl hS.kp
    · exact det_val rfl rfl (rf 1 rfl (e0 h0 AF5.out.2.2.2.1)) hS.kp
    · exact ldR rfl rfl rfl (dv hv hdep 1 56) (tC_at HA.out.1 HA.out.2.1 HA.out.2.2.1 HA.out.2.2.2.1 (bb hS.1 M5.out.2.2.1)).2.1 HA.out.1 HA.out.2.2.1 rfl hS.kp
    · exact ldD rfl rfl rfl (e0 h0 AF5.out.2.2.2.2.2.2) (bb hS.1 M5.out.2.2.2.2.2.1) HA.out.1 Q6.out.2 rfl hS.kp
    · exact cM rfl rfl rfl (dv hv hdep 0 55) (dv hv hdep 2 57) (dv hv hdep 3 58) HA.out.2.2.2.2.1 HA.out.1 HA.out.2.2.1 Q6.out.2 hS.kc
    · exact alA rfl rfl rfl (fun k hk => by simp only [if_neg hk]) rfl hS hno
    · exact stA rfl rfl rfl rfl (dv hv hdep 5 7) (dv hv hdep 4 59) HA.out.1 (fml_lt HP0.out) hS hno hdep hlt
  obtain ⟨W6, hWn⟩ : ∃ x, x = W := ⟨_, rfl⟩
  subst hWn
  obtain ⟨A6, hAn⟩ : ∃ x, x = a := ⟨_, rfl⟩
  subst hAn
  have hbl := hS.1
  obtain ⟨b7, hbn7⟩ : ∃ x, b = x := ⟨_, rfl⟩
  obtain ⟨v7, q7⟩ : ∃ vv, fml p y v6 = vv := ⟨_, rfl⟩
  have Q7 : Hid (fml p y v6 = v7 ∧ v7 < p) := ⟨q7, q7 ▸ (fml_lt HP0.out)⟩
  have hB7 := (hS.2.1 (hup 5 (by decide))).2.2 (hup 6 (by decide))
  have hG7 := (hS.2.1 (hup 5 (by decide))).1
  have hE7 := hv 5 7 (by decide) rfl
  rw [q7, hbn7] at hB7
  rw [hbn7] at hG7
  replace hE7 : A6.eval (.tmp 7) = .pointer (some ⟨b7, 0, none⟩) := by rw [← hbn7]; exact hE7
  have M6 : Hid (Below w.heap.size w W6 ∧ Blk 66 W6 w.heap.size F ∧ Blk 70 W6 (w.heap.size + 1) (tC x y z) ∧ Blk 70 W6 (w.heap.size + 1 + 1) (z13 ++ (z13 ++ z13)) ∧ BD w W6 2 b5 v5_4 ∧ BD w W6 2 b6 v6 ∧ BD w W6 2 b7 v7) := ⟨below_via M5.out.1 hbl (Nat.le_refl _), bb hbl M5.out.2.1, bb hbl M5.out.2.2.1, bb hbl M5.out.2.2.2.1, ⟨bb hbl M5.out.2.2.2.2.1.1, M5.out.2.2.2.2.1.2⟩, ⟨bb hbl M5.out.2.2.2.2.2.1, M5.out.2.2.2.2.2.2⟩, ⟨hB7, by have h1 := M5.out.2.2.2.1.lt; omega⟩⟩
  have AF6 : Hid (A6.tmps.size = 140 ∧ A6.defers = [] ∧ At A6 2 w.heap.size ∧ At A6 3 (w.heap.size + 1) ∧ At A6 4 (w.heap.size + 1 + 1) ∧ At A6 5 b5 ∧ At A6 6 b6 ∧ At A6 7 b7) := ⟨hsz, hdf.trans AF5.out.2.1, e0 h0 AF5.out.2.2.1, e0 h0 AF5.out.2.2.2.1, e0 h0 AF5.out.2.2.2.2.1, e0 h0 AF5.out.2.2.2.2.2.1, e0 h0 AF5.out.2.2.2.2.2.2, hE7⟩
  clear hup hS hsz hdf hv h0 hbl hbn7 q7 hB7 hG7 hE7 M5 AF5
  go_upto_region 7 with (fail)
  refine wp_region_o (β := Nat) (fun b k => if k = 5 then .pointer (some ⟨b, 0, none⟩) else ([.agg F.toArray, PV (w.heap.size + 1) 0, DV (x), DV (v7), DV (fml p x v7), undef, undef] : List Value).getD k undef) (SA W6 64 z13 (dgC (dg (fml p x v7))) 5 6) 0 false (m := 140) AF6.out.1 rfl (by decide +kernel) (by decide +kernel) ⟨Below.refl _ _, fun u => absurd u not_up_new, fun u => absurd u not_up_new⟩ (fun i b L W a hi hno hlt hdep hv h0 hS => ?_) (fun b L W a hup hS hsz hdf hv h0 => ?_)
  · replace hi : i < 7 := hi
    obtain rfl | rfl | rfl | rfl | rfl | rfl | rfl : i = 0 ∨ i = 1 ∨ i = 2 ∨ i = 3 ∨ i = 4 ∨ i = 5 ∨ i = 6 := by omega
    · exact ldF rfl rfl rfl (e0 h0 AF6.out.2.2.1) (bb hS.1 M6.out.2.1) HA.out.2.2.2.2.2.2 rfl hS.kp
    · exact det_val rfl rfl (rf 0 rfl (e0 h0 AF6.out.2.2.2.1)) hS.kp
    · exact ldR rfl rfl rfl (dv hv hdep 1 61) (tC_at HA.out.1 HA.out.2.1 HA.out.2.2.1 HA.out.2.2.2.1 (bb hS.1 M6.out.2.2.1)).1 HA.out.1 HA.out.2.1 rfl hS.kp
    · exact ldD rfl rfl rfl (e0 h0 AF6.out.2.2.2.2.2.2.2) (bb hS.1 M6.out.2.2.2.2.2.2.1) HA.out.1 Q7.out.2 rfl hS.kp
    · exact cM rfl rfl rfl (dv hv hdep 0 60) (dv hv hdep 2 62) (dv hv hdep 3 63) HA.out.2.2.2.2.1 HA.out.1 HA.out.2.1 Q7.out.2 hS.kc
    · exact alA rfl rfl rfl (fun k hk => by simp only [if_neg hk]) rfl hS hno
    · exact stA rfl rfl rfl rfl (dv hv hdep 5 8) (dv hv hdep 4 64) HA.out.1 (fml_lt HP0.out) hS hno hdep hlt
  obtain ⟨W7, hWn⟩ : ∃ x, x = W := ⟨_, rfl⟩
  subst hWn
  obtain ⟨A7, hAn⟩ : ∃ x, x = a := ⟨_, rfl⟩
  subst hAn
  have hbl := hS.1
  obtain ⟨b8, hbn8⟩ : ∃ x, b = x := ⟨_, rfl⟩
  obtain ⟨v8, q8⟩ : ∃ vv, fml p x v7 = vv := ⟨_, rfl⟩
  have Q8 : Hid (fml p x v7 = v8 ∧ v8 < p) := ⟨q8, q8 ▸ (fml_lt HP0.out)⟩
  have hB8 := (hS.2.1 (hup 5 (by decide))).2.2 (hup 6 (by decide))
  have hG8 := (hS.2.1 (hup 5 (by decide))).1
  have hE8 := hv 5 8 (by decide) rfl
  rw [q8, hbn8] at hB8
  rw [hbn8] at hG8
  replace hE8 : A7.eval (.tmp 8) = .pointer (some ⟨b8, 0, none⟩) := by rw [← hbn8]; exact hE8
  have M7 : Hid (Below w.heap.size w W7 ∧ Blk 66 W7 w.heap.size F ∧ Blk 70 W7 (w.heap.size + 1) (tC x y z) ∧ Blk 70 W7 (w.heap.size + 1 + 1) (z13 ++ (z13 ++ z13)) ∧ BD w W7 2 b5 v5_4 ∧ BD w W7 2 b6 v6 ∧ BD w W7 2 b7 v7 ∧ BD w W7 2 b8 v8) := ⟨below_via M6.out.1 hbl (Nat.le_refl _), bb hbl M6.out.2.1, bb hbl M6.out.2.2.1, bb hbl M6.out.2.2.2.1, ⟨bb hbl M6.out.2.2.2.2.1.1, M6.out.2.2.2.2.1.2⟩, ⟨bb hbl M6.out.2.2.2.2.2.1.1, M6.out.2.2.2.2.2.1.2⟩, ⟨bb hbl M6.out.2.2.2.2.2.2.1, M6.out.2.2.2.2.2.2.2⟩, ⟨hB8, by have h1 := M6.out.2.2.2.1.lt; omega⟩⟩
  have AF7 : Hid (A7.tmps.size = 140 ∧ A7.defers = [] ∧ At A7 2 w.heap.size ∧ At A7 3 (w.heap.size + 1) ∧ At A7 4 (w.heap.size + 1 + 1) ∧ At A7 5 b5 ∧ At A7 6 b6 ∧ At A7 7 b7 ∧ At A7 8 b8) := ⟨hsz, hdf.trans AF6.out.2.1, e0 h0 AF6.out.2.2.1, e0 h0 AF6.out.2.2.2.1, e0 h0 AF6.out.2.2.2.2.1, e0 h0 AF6.out.2.2.2.2.2.1, e0 h0 AF6.out.2.2.2.2.2.2.1, e0 h0 AF6.out.2.2.2.2.2.2.2, hE8⟩
  clear hup hS hsz hdf hv h0 hbl hbn8 q8 hB8 hG8 hE8 M6 AF6
  go_upto_region 8 with (fail)
  refine wp_region_o (β := Nat) (fun b k => if k = 4 then .pointer (some ⟨b, 0, none⟩) else ([.agg F.toArray, DV (v8), DV (v8), DV (fad p v8 v8), undef, undef] : List Value).getD k undef) (SA W7 64 z13 (dgC (dg (fad p v8 v8))) 4 5) 0 false (m := 140) AF7.out.1 rfl (by decide +kernel) (by decide +kernel) ⟨Below.refl _ _, fun u => absurd u not_up_new, fun u => absurd u not_up_new⟩ (fun i b L W a hi hno hlt hdep hv h0 hS => ?_) (fun b L W a hup hS hsz hdf hv h0 => ?_)
  · replace hi : i < 6 := hi
    obtain rfl | rfl | rfl | rfl | rfl | rfl : i = 0 ∨ i = 1 ∨ i = 2 ∨ i = 3 ∨ i = 4 ∨ i = 5 := by omega
    · exact ldF rfl rfl rfl (e0 h0 AF7.out.2.2.1) (bb hS.1 M7.out.2.1) HA.out.2.2.2.2.2.2 rfl hS.kp
    · exact ldD rfl rfl rfl (e0 h0 AF7.out.2.2.2.2.2.2.2.2) (bb hS.1 M7.out.2.2.2.2.2.2.2.1) HA.out.1 Q8.out.2 rfl hS.kp
    · exact ldD rfl rfl rfl (e0 h0 AF7.out.2.2.2.2.2.2.2.2) (bb hS.1 M7.out.2.2.2.2.2.2.2.1) HA.out.1 Q8.out.2 rfl hS.kp
    · exact cA rfl rfl rfl (dv hv hdep 0 65) (dv hv hdep 1 66) (dv hv hdep 2 67) HA.out.2.2.2.2.1 HA.out.1 Q8.out.2 Q8.out.2 hS.kc
    · exact alA rfl rfl rfl (fun k hk => by simp only [if_neg hk]) rfl hS hno
    · exact stA rfl rfl rfl rfl (dv hv hdep 4 9) (dv hv hdep 3 68) HA.out.1 (fad_lt HP0.out) hS hno hdep hlt
  obtain ⟨W8, hWn⟩ : ∃ x, x = W := ⟨_, rfl⟩
  subst hWn
  obtain ⟨A8, hAn⟩ : ∃ x, x = a := ⟨_, rfl⟩
  subst hAn
  have hbl := hS.1
  obtain ⟨b9, hbn9⟩ : ∃ x, b = x := ⟨_, rfl⟩
  obtain ⟨v9, q9⟩ : ∃ vv, fad p v8 v8 = vv := ⟨_, rfl⟩
  have Q9 : Hid (fad p v8 v8 = v9 ∧ v9 < p) := ⟨q9, q9 ▸ (fad_lt HP0.out)⟩
  have hB9 := (hS.2.1 (hup 4 (by decide))).2.2 (hup 5 (by decide))
  have hG9 := (hS.2.1 (hup 4 (by decide))).1
  have hE9 := hv 4 9 (by decide) rfl
  rw [q9, hbn9] at hB9
  rw [hbn9] at hG9
  replace hE9 : A8.eval (.tmp 9) = .pointer (some ⟨b9, 0, none⟩) := by rw [← hbn9]; exact hE9
  have M8 : Hid (Below w.heap.size w W8 ∧ Blk 66 W8 w.heap.size F ∧ Blk 70 W8 (w.heap.size + 1) (tC x y z) ∧ Blk 70 W8 (w.heap.size + 1 + 1) (z13 ++ (z13 ++ z13)) ∧ BD w W8 2 b5 v5_4 ∧ BD w W8 2 b6 v6 ∧ BD w W8 2 b7 v7 ∧ BD w W8 2 b9 v9) := ⟨below_via M7.out.1 hbl (Nat.le_refl _), bb hbl M7.out.2.1, bb hbl M7.out.2.2.1, bb hbl M7.out.2.2.2.1, ⟨bb hbl M7.out.2.2.2.2.1.1, M7.out.2.2.2.2.1.2⟩, ⟨bb hbl M7.out.2.2.2.2.2.1.1, M7.out.2.2.2.2.2.1.2⟩, ⟨bb hbl M7.out.2.2.2.2.2.2.1.1, M7.out.2.2.2.2.2.2.1.2⟩, ⟨hB9, by have h1 := M7.out.2.2.2.1.lt; omega⟩⟩
  have AF8 : Hid (A8.tmps.size = 140 ∧ A8.defers = [] ∧ At A8 2 w.heap.size ∧ At A8 3 (w.heap.size + 1) ∧ At A8 4 (w.heap.size + 1 + 1) ∧ At A8 5 b5 ∧ At A8 6 b6 ∧ At A8 7 b7 ∧ At A8 9 b9) := ⟨hsz, hdf.trans AF7.out.2.1, e0 h0 AF7.out.2.2.1, e0 h0 AF7.out.2.2.2.1, e0 h0 AF7.out.2.2.2.2.1, e0 h0 AF7.out.2.2.2.2.2.1, e0 h0 AF7.out.2.2.2.2.2.2.1, e0 h0 AF7.out.2.2.2.2.2.2.2.1, hE9⟩
  clear hup hS hsz hdf hv h0 hbl hbn9 q9 hB9 hG9 hE9 M7 AF7
  go_upto_region 9 with (fail)
  refine wp_region_o (β := Nat) (fun b k => if k = 4 then .pointer (some ⟨b, 0, none⟩) else ([.agg F.toArray, DV (v9), DV (v9), DV (fad p v9 v9), undef, undef] : List Value).getD k undef) (SA W8 64 z13 (dgC (dg (fad p v9 v9))) 4 5) 0 false (m := 140) AF8.out.1 rfl (by decide +kernel) (by decide +kernel) ⟨Below.refl _ _, fun u => absurd u not_up_new, fun u => absurd u not_up_new⟩ (fun i b L W a hi hno hlt hdep hv h0 hS => ?_) (fun b L W a hup hS hsz hdf hv h0 => ?_)
  · replace hi : i < 6 := hi
    obtain rfl | rfl | rfl | rfl | rfl | rfl : i = 0 ∨ i = 1 ∨ i = 2 ∨ i = 3 ∨ i = 4 ∨ i = 5 := by omega
    · exact ldF rfl rfl rfl (e0 h0 AF8.out.2.2.1) (bb hS.1 M8.out.2.1) HA.out.2.2.2.2.2.2 rfl hS.kp
    · exact ldD rfl rfl rfl (e0 h0 AF8.out.2.2.2.2.2.2.2.2) (bb hS.1 M8.out.2.2.2.2.2.2.2.1) HA.out.1 Q9.out.2 rfl hS.kp
    · exact ldD rfl rfl rfl (e0 h0 AF8.out.2.2.2.2.2.2.2.2) (bb hS.1 M8.out.2.2.2.2.2.2.2.1) HA.out.1 Q9.out.2 rfl hS.kp
    · exact cA rfl rfl rfl (dv hv hdep 0 69) (dv hv hdep 1 70) (dv hv hdep 2 71) HA.out.2.2.2.2.1 HA.out.1 Q9.out.2 Q9.out.2 hS.kc
    · exact alA rfl rfl rfl (fun k hk => by simp only [if_neg hk]) rfl hS hno
    · exact stA rfl rfl rfl rfl (dv hv hdep 4 10) (dv hv hdep 3 72) HA.out.1 (fad_lt HP0.out) hS hno hdep hlt
  obtain ⟨W9, hWn⟩ : ∃ x, x = W := ⟨_, rfl⟩
  subst hWn
  obtain ⟨A9, hAn⟩ : ∃ x, x = a := ⟨_, rfl⟩
  subst hAn
  have hbl := hS.1
  obtain ⟨b10, hbn10⟩ : ∃ x, b = x := ⟨_, rfl⟩
  obtain ⟨v10, q10⟩ : ∃ vv, fad p v9 v9 = vv := ⟨_, rfl⟩
  have Q10 : Hid (fad p v9 v9 = v10 ∧ v10 < p) := ⟨q10, q10 ▸ (fad_lt HP0.out)⟩
  have hB10 := (hS.2.1 (hup 4 (by decide))).2.2 (hup 5 (by decide))
  have hG10 := (hS.2.1 (hup 4 (by decide))).1
  have hE10 := hv 4 10 (by decide) rfl
  rw [q10, hbn10] at hB10
  rw [hbn10] at hG10
  replace hE10 : A9.eval (.tmp 10) = .pointer (some ⟨b10, 0, none⟩) := by rw [← hbn10]; exact hE10
  have M9 : Hid (Below w.heap.size w W9 ∧ Blk 66 W9 w.heap.size F ∧ Blk 70 W9 (w.heap.size + 1) (tC x y z) ∧ Blk 70 W9 (w.heap.size + 1 + 1) (z13 ++ (z13 ++ z13)) ∧ BD w W9 2 b5 v5_4 ∧ BD w W9 2 b6 v6 ∧ BD w W9 2 b7 v7 ∧ BD w W9 2 b10 v10) := ⟨below_via M8.out.1 hbl (Nat.le_refl _), bb hbl M8.out.2.1, bb hbl M8.out.2.2.1, bb hbl M8.out.2.2.2.1, ⟨bb hbl M8.out.2.2.2.2.1.1, M8.out.2.2.2.2.1.2⟩, ⟨bb hbl M8.out.2.2.2.2.2.1.1, M8.out.2.2.2.2.2.1.2⟩, ⟨bb hbl M8.out.2.2.2.2.2.2.1.1, M8.out.2.2.2.2.2.2.1.2⟩, ⟨hB10, by have h1 := M8.out.2.2.2.1.lt; omega⟩⟩
  have AF9 : Hid (A9.tmps.size = 140 ∧ A9.defers = [] ∧ At A9 2 w.heap.size ∧ At A9 3 (w.heap.size + 1) ∧ At A9 4 (w.heap.size + 1 + 1) ∧ At A9 5 b5 ∧ At A9 6 b6 ∧ At A9 7 b7 ∧ At A9 10 b10) := ⟨hsz, hdf.trans AF8.out.2.1, e0 h0 AF8.out.2.2.1, e0 h0 AF8.out.2.2.2.1, e0 h0 AF8.out.2.2.2.2.1, e0 h0 AF8.out.2.2.2.2.2.1, e0 h0 AF8.out.2.2.2.2.2.2.1, e0 h0 AF8.out.2.2.2.2.2.2.2.1, hE10⟩
  clear hup hS hsz hdf hv h0 hbl hbn10 q10 hB10 hG10 hE10 M8 AF8
  go_upto_region 10 with (fail)
  refine wp_region_o (β := Nat) (fun b k => if k = 10 then .pointer (some ⟨b, 0, none⟩) else ([.agg F.toArray, .agg F.toArray, DV (v5_4), DV (v5_4), DV (fml p v5_4 v5_4), .agg F.toArray, DV (v10), DV (v10), DV (fad p v10 v10), DV (fsb p (fml p v5_4 v5_4) (fad p v10 v10)), undef, undef] : List Value).getD k undef) (SA W9 64 z13 (dgC (dg (fsb p (fml p v5_4 v5_4) (fad p v10 v10)))) 10 11) 0 true (m := 140) AF9.out.1 rfl (by decide +kernel) (by decide +kernel) ⟨Below.drew (Below.refl _ _), fun u => absurd u not_up_new, fun u => absurd u not_up_new⟩ (fun i b L W a hi hno hlt hdep hv h0 hS => ?_) (fun b L W a hup hS hsz hdf hv h0 => ?_)
  · replace hi : i < 12 := hi
    obtain rfl | rfl | rfl | rfl | rfl | rfl | rfl | rfl | rfl | rfl | rfl | rfl : i = 0 ∨ i = 1 ∨ i = 2 ∨ i = 3 ∨ i = 4 ∨ i = 5 ∨ i = 6 ∨ i = 7 ∨ i = 8 ∨ i = 9 ∨ i = 10 ∨ i = 11 := by omega
    · exact ldF rfl rfl rfl (e0 h0 AF9.out.2.2.1) (bb hS.1 M9.out.2.1) HA.out.2.2.2.2.2.2 rfl hS.kp
    · exact ldF rfl rfl rfl (e0 h0 AF9.out.2.2.1) (bb hS.1 M9.out.2.1) HA.out.2.2.2.2.2.2 rfl hS.kp
    · exact ldD rfl rfl rfl (e0 h0 AF9.out.2.2.2.2.2.1) (bb hS.1 M9.out.2.2.2.2.1.1) HA.out.1 Q5_4.out.2 rfl hS.kp
    · exact ldD rfl rfl rfl (e0 h0 AF9.out.2.2.2.2.2.1) (bb hS.1 M9.out.2.2.2.2.1.1) HA.out.1 Q5_4.out.2 rfl hS.kp
    · exact cM rfl rfl rfl (dv hv hdep 1 74) (dv hv hdep 2 75) (dv hv hdep 3 76) HA.out.2.2.2.2.1 HA.out.1 Q5_4.out.2 Q5_4.out.2 hS.kc
    · exact ldF rfl rfl rfl (e0 h0 AF9.out.2.2.1) (bb hS.1 M9.out.2.1) HA.out.2.2.2.2.2.2 rfl hS.kp
    · exact ldD rfl rfl rfl (e0 h0 AF9.out.2.2.2.2.2.2.2.2) (bb hS.1 M9.out.2.2.2.2.2.2.2.1) HA.out.1 Q10.out.2 rfl hS.kp
    · exact ldD rfl rfl rfl (e0 h0 AF9.out.2.2.2.2.2.2.2.2) (bb hS.1 M9.out.2.2.2.2.2.2.2.1) HA.out.1 Q10.out.2 rfl hS.kp
    · exact cA rfl rfl rfl (dv hv hdep 5 78) (dv hv hdep 6 79) (dv hv hdep 7 80) HA.out.2.2.2.2.1 HA.out.1 Q10.out.2 Q10.out.2 hS.kc
    · exact cS rfl rfl rfl (dv hv hdep 0 73) (dv hv hdep 4 77) (dv hv hdep 8 81) HA.out.2.2.2.2.1 HA.out.1 (fml_lt HP0.out) (fad_lt HP0.out) hS.kc
    · exact alA rfl rfl rfl (fun k hk => by simp only [if_neg hk]) rfl hS hno
    · exact stA rfl rfl rfl rfl (dv hv hdep 10 11) (dv hv hdep 9 82) HA.out.1 (fsb_lt HP0.out) hS hno hdep hlt
  obtain ⟨W10, hWn⟩ : ∃ x, x = W := ⟨_, rfl⟩
  subst hWn
  obtain ⟨A10, hAn⟩ : ∃ x, x = a := ⟨_, rfl⟩
  subst hAn
  have hbl := hS.1
  obtain ⟨b11, hbn11⟩ : ∃ x, b = x := ⟨_, rfl⟩
  obtain ⟨v11, q11⟩ : ∃ vv, fsb p (fml p v5_4 v5_4) (fad p v10 v10) = vv := ⟨_, rfl⟩
  have Q11 : Hid (fsb p (fml p v5_4 v5_4) (fad p v10 v10) = v11 ∧ v11 < p) := ⟨q11, q11 ▸ (fsb_lt HP0.out)⟩
  have hB11 := (hS.2.1 (hup 10 (by decide))).2.2 (hup 11 (by decide))
  have hG11 := (hS.2.1 (hup 10 (by decide))).1
  have hE11 := hv 10 11 (by decide) rfl
  rw [q11, hbn11] at hB11
  rw [hbn11] at hG11
  replace hE11 : A10.eval (.tmp 11) = .pointer (some ⟨b11, 0, none⟩) := by rw [← hbn11]; exact hE11
  have M10 : Hid (Below w.heap.size w W10 ∧ Blk 66 W10 w.heap.size F ∧ Blk 70 W10 (w.heap.size + 1) (tC x y z) ∧ Blk 70 W10 (w.heap.size + 1 + 1) (z13 ++ (z13 ++ z13)) ∧ BD w W10 2 b5 v5_4 ∧ BD w W10 2 b6 v6 ∧ BD w W10 2 b7 v7 ∧ BD w W10 2 b10 v10 ∧ BD w W10 2 b11 v11) := ⟨below_via M9.out.1 hbl (Nat.le_refl _), bb hbl M9.out.2.1, bb hbl M9.out.2.2.1, bb hbl M9.out.2.2.2.1, ⟨bb hbl M9.out.2.2.2.2.1.1, M9.out.2.2.2.2.1.2⟩, ⟨bb hbl M9.out.2.2.2.2.2.1.1, M9.out.2.2.2.2.2.1.2⟩, ⟨bb hbl M9.out.2.2.2.2.2.2.1.1, M9.out.2.2.2.2.2.2.1.2⟩, ⟨bb hbl M9.out.2.2.2.2.2.2.2.1, M9.out.2.2.2.2.2.2.2.2⟩, ⟨hB11, by have h1 := M9.out.2.2.2.1.lt; omega⟩⟩
  have AF10 : Hid (A10.tmps.size = 140 ∧ A10.defers = [] ∧ At A10 2 w.heap.size ∧ At A10 3 (w.heap.size + 1) ∧ At A10 4 (w.heap.size + 1 + 1) ∧ At A10 5 b5 ∧ At A10 6 b6 ∧ At A10 7 b7 ∧ At A10 10 b10 ∧ At A10 11 b11) := ⟨hsz, hdf.trans AF9.out.2.1, e0 h0 AF9.out.2.2.1, e0 h0 AF9.out.2.2.2.1, e0 h0 AF9.out.2.2.2.2.1, e0 h0 AF9.out.2.2.2.2.2.1, e0 h0 AF9.out.2.2.2.2.2.2.1, e0 h0 AF9.out.2.2.2.2.2.2.2.1, e0 h0 AF9.out.2.2.2.2.2.2.2.2, hE11⟩
  clear hup hS hsz hdf hv h0 hbl hbn11 q11 hB11 hG11 hE11 M9 AF9
  go_upto_region 11 with (fail)
  refine wp_region_o (β := Nat) (fun b k => if k = 4 then .pointer (some ⟨b, 0, none⟩) else ([.agg F.toArray, DV (v11), DV (v6), DV (fml p v11 v6), undef, undef] : List Value).getD k undef) (SA W10 64 z13 (dgC (dg (fml p v11 v6))) 4 5) 0 false (m := 140) AF10.out.1 rfl (by decide +kernel) (by decide +kernel) ⟨Below.refl _ _, fun u => absurd u not_up_new, fun u => absurd u not_up_new⟩ (fun i b L W a hi hno hlt hdep hv h0 hS => ?_) (fun b L W a hup hS hsz hdf hv h0 => ?_)
  · replace hi : i < 6 := hi
    obtain rfl | rfl | rfl | rfl | rfl | rfl : i = 0 ∨ i = 1 ∨ i = 2 ∨ i = 3 ∨ i = 4 ∨ i = 5 := by omega
    · exact ldF rfl rfl rfl (e0 h0 AF10.out.2.2.1) (bb hS.1 M10.out.2.1) HA.out.2.2.2.2.2.2 rfl hS.kp
    · exact ldD rfl rfl rfl (e0 h0 AF10.out.2.2.2.2.2.2.2.2.2) (bb hS.1 M10.out.2.2.2.2.2.2.2.2.1) HA.out.1 Q11.out.2 rfl hS.kp
    · exact ldD rfl rfl rfl (e0 h0 AF10.out.2.2.2.2.2.2.1) (bb hS.1 M10.out.2.2.2.2.2.1.1) HA.out.1 Q6.out.2 rfl hS.kp
    · exact cM rfl rfl rfl (dv hv hdep 0 83) (dv hv hdep 1 84) (dv hv hdep 2 85) HA.out.2.2.2.2.1 HA.out.1 Q11.out.2 Q6.out.2 hS.kc
    · exact alA rfl rfl rfl (fun k hk => by simp only [if_neg hk]) rfl hS hno
    · exact stA rfl rfl rfl rfl (dv hv hdep 4 12) (dv hv hdep 3 86) HA.out.1 (fml_lt HP0.out) hS hno hdep hlt
  obtain ⟨W11, hWn⟩ : ∃ x, x = W := ⟨_, rfl⟩
  subst hWn
  obtain ⟨A11, hAn⟩ : ∃ x, x = a := ⟨_, rfl⟩
  subst hAn
  have hbl := hS.1
  obtain ⟨b12, hbn12⟩ : ∃ x, b = x := ⟨_, rfl⟩
  obtain ⟨v12, q12⟩ : ∃ vv, fml p v11 v6 = vv := ⟨_, rfl⟩
  have Q12 : Hid (fml p v11 v6 = v12 ∧ v12 < p) := ⟨q12, q12 ▸ (fml_lt HP0.out)⟩
  have hB12 := (hS.2.1 (hup 4 (by decide))).2.2 (hup 5 (by decide))
  have hG12 := (hS.2.1 (hup 4 (by decide))).1
  have hE12 := hv 4 12 (by decide) rfl
  rw [q12, hbn12] at hB12
  rw [hbn12] at hG12
  replace hE12 : A11.eval (.tmp 12) = .pointer (some ⟨b12, 0, none⟩) := by rw [← hbn12]; exact hE12
  have M11 : Hid (Below w.heap.size w W11 ∧ Blk 66 W11 w.heap.size F ∧ Blk 70 W11 (w.heap.size + 1) (tC x y z) ∧ Blk 70 W11 (w.heap.size + 1 + 1) (z13 ++ (z13 ++ z13)) ∧ BD w W11 2 b5 v5_4 ∧ BD w W11 2 b6 v6 ∧ BD w W11 2 b7 v7 ∧ BD w W11 2 b10 v10 ∧ BD w W11 2 b11 v11 ∧ BD w W11 2 b12 v12) := ⟨below_via M10.out.1 hbl (Nat.le_refl _), bb hbl M10.out.2.1, bb hbl M10.out.2.2.1, bb hbl M10.out.2.2.2.1, ⟨bb hbl M10.out.2.2.2.2.1.1, M10.out.2.2.2.2.1.2⟩, ⟨bb hbl M10.out.2.2.2.2.2.1.1, M10.out.2.2.2.2.2.1.2⟩, ⟨bb hbl M10.out.2.2.2.2.2.2.1.1, M10.out.2.2.2.2.2.2.1.2⟩, ⟨bb hbl M10.out.2.2.2.2.2.2.2.1.1, M10.out.2.2.2.2.2.2.2.1.2⟩, ⟨bb hbl M10.out.2.2.2.2.2.2.2.2.1, M10.out.2.2.2.2.2.2.2.2.2⟩, ⟨hB12, by have h1 := M10.out.2.2.2.1.lt; omega⟩⟩
  have AF11 : Hid (A11.tmps.size = 140 ∧ A11.defers = [] ∧ At A11 2 w.heap.size ∧ At A11 3 (w.heap.size + 1) ∧ At A11 4 (w.heap.size + 1 + 1) ∧ At A11 5 b5 ∧ At A11 6 b6 ∧ At A11 7 b7 ∧ At A11 10 b10 ∧ At A11 11 b11 ∧ At A11 12 b12) := ⟨hsz, hdf.trans AF10.out.2.1, e0 h0 AF10.out.2.2.1, e0 h0 AF10.out.2.2.2.1, e0 h0 AF10.out.2.2.2.2.1, e0 h0 AF10.out.2.2.2.2.2.1, e0 h0 AF10.out.2.2.2.2.2.2.1, e0 h0 AF10.out.2.2.2.2.2.2.2.1, e0 h0 AF10.out.2.2.2.2.2.2.2.2.1, e0 h0 AF10.out.2.2.2.2.2.2.2.2.2, hE12⟩
  clear hup hS hsz hdf hv h0 hbl hbn12 q12 hB12 hG12 hE12 M10 AF10
  go_upto_region 12 with (fail)
  refine wp_region_o (β := Nat) (fun b k => if k = 4 then .pointer (some ⟨b, 0, none⟩) else ([.agg F.toArray, DV (v7), DV (v7), DV (fml p v7 v7), undef, undef] : List Value).getD k undef) (SA W11 64 z13 (dgC (dg (fml p v7 v7))) 4 5) 0 false (m := 140) AF11.out.1 rfl (by decide +kernel) (by decide +kernel) ⟨Below.refl _ _, fun u => absurd u not_up_new, fun u => absurd u not_up_new⟩ (fun i b L W a hi hno hlt hdep hv h0 hS => ?_) (fun b L W a hup hS hsz hdf hv h0 => ?_)
  · replace hi : i < 6 := hi
    obtain rfl | rfl | rfl | rfl | rfl | rfl : i = 0 ∨ i = 1 ∨ i = 2 ∨ i = 3 ∨ i = 4 ∨ i = 5 := by omega
    · exact ldF rfl rfl rfl (e0 h0 AF11.out.2.2.1) (bb hS.1 M11.out.2.1) HA.out.2.2.2.2.2.2 rfl hS.kp
    · exact ldD rfl rfl rfl (e0 h0 AF11.out.2.2.2.2.2.2.2.1) (bb hS.1 M11.out.2.2.2.2.2.2.1.1) HA.out.1 Q7.out.2 rfl hS.kp
    · exact ldD rfl rfl rfl (e0 h0 AF11.out.2.2.2.2.2.2.2.1) (bb hS.1 M11.out.2.2.2.2.2.2.1.1) HA.out.1 Q7.out.2 rfl hS.kp
    · exact cM rfl rfl rfl (dv hv hdep 0 87) (dv hv hdep 1 88) (dv hv hdep 2 89) HA.out.2.2.2.2.1 HA.out.1 Q7.out.2 Q7.out.2 hS.kc
    · exact alA rfl rfl rfl (fun k hk => by simp only [if_neg hk]) rfl hS hno
    · exact stA rfl rfl rfl rfl (dv hv hdep 4 13) (dv hv hdep 3 90) HA.out.1 (fml_lt HP0.out) hS hno hdep hlt
  obtain ⟨W12, hWn⟩ : ∃ x, x = W := ⟨_, rfl⟩
  subst hWn
  obtain ⟨A12, hAn⟩ : ∃ x, x = a := ⟨_, rfl⟩
  subst hAn
  have hbl := hS.1
  obtain ⟨b13, hbn13⟩ : ∃ x, b = x := ⟨_, rfl⟩
  obtain ⟨v13, q13⟩ : ∃ vv, fml p v7 v7 = vv := ⟨_, rfl⟩
  have Q13 : Hid (fml p v7 v7 = v13 ∧ v13 < p) := ⟨q13, q13 ▸ (fml_lt HP0.out)⟩
  have hB13 := (hS.2.1 (hup 4 (by decide))).2.2 (hup 5 (by decide))
  have hG13 := (hS.2.1 (hup 4 (by decide))).1
  have hE13 := hv 4 13 (by decide) rfl
  rw [q13, hbn13] at hB13
  rw [hbn13] at hG13
  replace hE13 : A12.eval (.tmp 13) = .pointer (some ⟨b13, 0, none⟩) := by rw [← hbn13]; exact hE13
  have M12 : Hid (Below w.heap.size w W12 ∧ Blk 66 W12 w.heap.size F ∧ Blk 70 W12 (w.heap.size + 1) (tC x y z) ∧ Blk 70 W12 (w.heap.size + 1 + 1) (z13 ++ (z13 ++ z13)) ∧ BD w W12 2 b5 v5_4 ∧ BD w W12 2 b6 v6 ∧ BD w W12 2 b10 v10 ∧ BD w W12 2 b11 v11 ∧ BD w W12 2 b12 v12 ∧ BD w W12 2 b13 v13) := ⟨below_via M11.out.1 hbl (Nat.le_refl _), bb hbl M11.out.2.1, bb hbl M11.out.2.2.1, bb hbl M11.out.2.2.2.1, ⟨bb hbl M11.out.2.2.2.2.1.1, M11.out.2.2.2.2.1.2⟩, ⟨bb hbl M11.out.2.2.2.2.2.1.1, M11.out.2.2.2.2.2.1.2⟩, ⟨bb hbl M11.out.2.2.2.2.2.2.2.1.1, M11.out.2.2.2.2.2.2.2.1.2⟩, ⟨bb hbl M11.out.2.2.2.2.2.2.2.2.1.1, M11.out.2.2.2.2.2.2.2.2.1.2⟩, ⟨bb hbl M11.out.2.2.2.2.2.2.2.2.2.1, M11.out.2.2.2.2.2.2.2.2.2.2⟩, ⟨hB13, by have h1 := M11.out.2.2.2.1.lt; omega⟩⟩
  have AF12 : Hid (A12.tmps.size = 140 ∧ A12.defers = [] ∧ At A12 2 w.heap.size ∧ At A12 3 (w.heap.size + 1) ∧ At A12 4 (w.heap.size + 1 + 1) ∧ At A12 5 b5 ∧ At A12 6 b6 ∧ At A12 10 b10 ∧ At A12 11 b11 ∧ At A12 12 b12 ∧ At A12 13 b13) := ⟨hsz, hdf.trans AF11.out.2.1, e0 h0 AF11.out.2.2.1, e0 h0 AF11.out.2.2.2.1, e0 h0 AF11.out.2.2.2.2.1, e0 h0 AF11.out.2.2.2.2.2.1, e0 h0 AF11.out.2.2.2.2.2.2.1, e0 h0 AF11.out.2.2.2.2.2.2.2.2.1, e0 h0 AF11.out.2.2.2.2.2.2.2.2.2.1, e0 h0 AF11.out.2.2.2.2.2.2.2.2.2.2, hE13⟩
  clear hup hS hsz hdf hv h0 hbl hbn13 q13 hB13 hG13 hE13 M11 AF11
  go_upto_region 13 with (fail)
  refine wp_region_o (β := Nat) (fun b k => if k = 10 then .pointer (some ⟨b, 0, none⟩) else ([.agg F.toArray, .agg F.toArray, DV (v13), DV (v13), DV (fad p v13 v13), .agg F.toArray, DV (v13), DV (v13), DV (fad p v13 v13), DV (fad p (fad p v13 v13) (fad p v13 v13)), undef, undef] : List Value).getD k undef) (SA W12 64 z13 (dgC (dg (fad p (fad p v13 v13) (fad p v13 v13)))) 10 11) 0 true (m := 140) AF12.out.1 rfl (by decide +kernel) (by decide +kernel) ⟨Below.drew (Below.refl _ _), fun u => absurd u not_up_new, fun u => absurd u not_up_new⟩ (fun i b L W a hi hno hlt hdep hv h0 hS => ?_) (fun b L W a hup hS hsz hdf hv h0 => ?_)
  · replace hi : i < 12 := hi
    obtain rfl | rfl | rfl | rfl | rfl | rfl | rfl | rfl | rfl | rfl | rfl | rfl : i = 0 ∨ i = 1 ∨ i = 2 ∨ i = 3 ∨ i = 4 ∨ i = 5 ∨ i = 6 ∨ i = 7 ∨ i = 8 ∨ i = 9 ∨ i = 10 ∨ i = 11 := by omega
    · exact ldF rfl rfl rfl (e0 h0 AF12.out.2.2.1) (bb hS.1 M12.out.2.1) HA.out.2.2.2.2.2.2 rfl hS.kp
    · exact ldF rfl rfl rfl (e0 h0 AF12.out.2.2.1) (bb hS.1 M12.out.2.1) HA.out.2.2.2.2.2.2 rfl hS.kp
    · exact ldD rfl rfl rfl (e0 h0 AF12.out.2.2.2.2.2.2.2.2.2.2) (bb hS.1 M12.out.2.2.2.2.2.2.2.2.2.1) HA.out.1 Q13.out.2 rfl hS.kp
    · exact ldD rfl rfl rfl (e0 h0 AF12.out.2.2.2.2.2.2.2.2.2.2) (bb hS.1 M12.out.2.2.2.2.2.2.2.2.2.1) HA.out.1 Q13.out.2 rfl hS.kp
    · exact cA rfl rfl rfl (dv hv hdep 1 92) (dv hv hdep 2 93) (dv hv hdep 3 94) HA.out.2.2.2.2.1 HA.out.1 Q13.out.2 Q13.out.2 hS.kc
    · exact ldF rfl rfl rfl (e0 h0 AF12.out.2.2.1) (bb hS.1 M12.out.2.1) HA.out.2.2.2.2.2.2 rfl hS.kp
    · exact ldD rfl rfl rfl (e0 h0 AF12.out.2.2.2.2.2.2.2.2.2.2) (bb hS.1 M12.out.2.2.2.2.2.2.2.2.2.1) HA.out.1 Q13.out.2 rfl hS.kp
    · exact ldD rfl rfl rfl (e0 h0 AF12.out.2.2.2.2.2.2.2.2.2.2) (bb hS.1 M12.out.2.2.2.2.2.2.2.2.2.1) HA.out.1 Q13.out.2 rfl hS.kp
    · exact cA rfl rfl rfl (dv hv hdep 5 96) (dv hv hdep 6 97) (dv hv hdep 7 98) HA.out.2.2.2.2.1 HA.out.1 Q13.out.2 Q13.out.2 hS.kc
    · exact cA rfl rfl rfl (dv hv hdep 0 91) (dv hv hdep 4 95) (dv hv hdep 8 99) HA.out.2.2.2.2.1 HA.out.1 (fad_lt HP0.out) (fad_lt HP0.out) hS.kc
    · exact alA rfl rfl rfl (fun k hk => by simp only [if_neg hk]) rfl hS hno
    · exact stA rfl rfl rfl rfl (dv hv hdep 10 14) (dv hv hdep 9 100) HA.out.1 (fad_lt HP0.out) hS hno hdep hlt
  obtain ⟨W13, hWn⟩ : ∃ x, x = W := ⟨_, rfl⟩
  subst hWn
  obtain ⟨A13, hAn⟩ : ∃ x, x = a := ⟨_, rfl⟩
  subst hAn
  have hbl := hS.1
  obtain ⟨b14, hbn14⟩ : ∃ x, b = x := ⟨_, rfl⟩
  obtain ⟨v14, q14⟩ : ∃ vv, fad p (fad p v13 v13) (fad p v13 v13) = vv := ⟨_, rfl⟩
  have Q14 : Hid (fad p (fad p v13 v13) (fad p v13 v13) = v14 ∧ v14 < p) := ⟨q14, q14 ▸ (fad_lt HP0.out)⟩
  have hB14 := (hS.2.1 (hup 10 (by decide))).2.2 (hup 11 (by decide))
  have hG14 := (hS.2.1 (hup 10 (by decide))).1
  have hE14 := hv 10 14 (by decide) rfl
  rw [q14, hbn14] at hB14
  rw [hbn14] at hG14
  replace hE14 : A13.eval (.tmp 14) = .pointer (some ⟨b14, 0, none⟩) := by rw [← hbn14]; exact hE14
  have M13 : Hid (Below w.heap.size w W13 ∧ Blk 66 W13 w.heap.size F ∧ Blk 70 W13 (w.heap.size + 1) (tC x y z) ∧ Blk 70 W13 (w.heap.size + 1 + 1) (z13 ++ (z13 ++ z13)) ∧ BD w W13 2 b5 v5_4 ∧ BD w W13 2 b6 v6 ∧ BD w W13 2 b10 v10 ∧ BD w W13 2 b11 v11 ∧ BD w W13 2 b12 v12 ∧ BD w W13 2 b14 v14) := ⟨below_via M12.out.1 hbl (Nat.le_refl _), bb hbl M12.out.2.1, bb hbl M12.out.2.2.1, bb hbl M12.out.2.2.2.1, ⟨bb hbl M12.out.2.2.2.2.1.1, M12.out.2.2.2.2.1.2⟩, ⟨bb hbl M12.out.2.2.2.2.2.1.1, M12.out.2.2.2.2.2.1.2⟩, ⟨bb hbl M12.out.2.2.2.2.2.2.1.1, M12.out.2.2.2.2.2.2.1.2⟩, ⟨bb hbl M12.out.2.2.2.2.2.2.2.1.1, M12.out.2.2.2.2.2.2.2.1.2⟩, ⟨bb hbl M12.out.2.2.2.2.2.2.2.2.1.1, M12.out.2.2.2.2.2.2.2.2.1.2⟩, ⟨hB14, by have h1 := M12.out.2.2.2.1.lt; omega⟩⟩
  have AF13 : Hid (A13.tmps.size = 140 ∧ A13.defers = [] ∧ At A13 2 w.heap.size ∧ At A13 3 (w.heap.size + 1) ∧ At A13 4 (w.heap.size + 1 + 1) ∧ At A13 5 b5 ∧ At A13 6 b6 ∧ At A13 10 b10 ∧ At A13 11 b11 ∧ At A13 12 b12 ∧ At A13 14 b14) := ⟨hsz, hdf.trans AF12.out.2.1, e0 h0 AF12.out.2.2.1, e0 h0 AF12.out.2.2.2.1, e0 h0 AF12.out.2.2.2.2.1, e0 h0 AF12.out.2.2.2.2.2.1, e0 h0 AF12.out.2.2.2.2.2.2.1, e0 h0 AF12.out.2.2.2.2.2.2.2.1, e0 h0 AF12.out.2.2.2.2.2.2.2.2.1, e0 h0 AF12.out.2.2.2.2.2.2.2.2.2.1, hE14⟩
  clear hup hS hsz hdf hv h0 hbl hbn14 q14 hB14 hG14 hE14 M12 AF12
  go_upto_region 14 with (fail)
  refine wp_region_o (β := Nat) (fun b k => if k = 7 then .pointer (some ⟨b, 0, none⟩) else ([.agg F.toArray, DV (v6), .agg F.toArray, DV (v6), DV (v6), DV (fml p v6 v6), DV (fml p v6 (fml p v6 v6)), undef, undef] : List Value).getD k undef) (SA W13 64 z13 (dgC (dg (fml p v6 (fml p v6 v6)))) 7 8) 0 true (m := 140) AF13.out.1 rfl (by decide +kernel) (by decide +kernel) ⟨Below.drew (Below.refl _ _), fun u => absurd u not_up_new, fun u => absurd u not_up_new⟩ (fun i b L W a hi hno hlt hdep hv h0 hS => ?_) (fun b L W a hup hS hsz hdf hv h0 => ?_)
  · replace hi : i < 9 := hi
    obtain rfl | rfl | rfl | rfl | rfl | rfl | rfl | rfl | rfl : i = 0 ∨ i = 1 ∨ i = 2 ∨ i = 3 ∨ i = 4 ∨ i = 5 ∨ i = 6 ∨ i = 7 ∨ i = 8 := by omega
    · exact ldF rfl rfl rfl (e0 h0 AF13.out.2.2.1) (bb hS.1 M13.out.2.1) HA.out.2.2.2.2.2.2 rfl hS.kp
    · exact ldD rfl rfl rfl (e0 h0 AF13.out.2.2.2.2.2.2.1) (bb hS.1 M13.out.2.2.2.2.2.1.1) HA.out.1 Q6.out.2 rfl hS.kp
    · exact ldF rfl rfl rfl (e0 h0 AF13.out.2.2.1) (bb hS.1 M13.out.2.1) HA.out.2.2.2.2.2.2 rfl hS.kp
    · exact ldD rfl rfl rfl (e0 h0 AF13.out.2.2.2.2.2.2.1) (bb hS.1 M13.out.2.2.2.2.2.1.1) HA.out.1 Q6.out.2 rfl hS.kp
    · exact ldD rfl rfl rfl (e0 h0 AF13.out.2.2.2.2.2.2.1) (bb hS.1 M13.out.2.2.2.2.2.1.1) HA.out.1 Q6.out.2 rfl hS.kp
    · exact cM rfl rfl rfl (dv hv hdep 2 103) (dv hv hdep 3 104) (dv hv hdep 4 105) HA.out.2.2.2.2.1 HA.out.1 Q6.out.2 Q6.out.2 hS.kc
    · exact cM rfl rfl rfl (dv hv hdep 0 101) (dv hv hdep 1 102) (dv hv hdep 5 106) HA.out.2.2.2.2.1 HA.out.1 Q6.out.2 (fml_lt HP0.out) hS.kc
    · exact alA rfl rfl rfl (fun k hk => by simp only [if_neg hk]) rfl hS hno
    · exact stA rfl rfl rfl rfl (dv hv hdep 7 15) (dv hv hdep 6 107) HA.out.1 (fml_lt HP0.out) hS hno hdep hlt
  obtain ⟨W14, hWn⟩ : ∃ x, x = W := ⟨_, rfl⟩
  subst hWn
  obtain ⟨A14, hAn⟩ : ∃ x, x = a := ⟨_, rfl⟩
  subst hAn
  have hbl := hS.1
  obtain ⟨b15, hbn15⟩ : ∃ x, b = x := ⟨_, rfl⟩
  obtain ⟨v15, q15⟩ : ∃ vv, fml p v6 (fml p v6 v6) = vv := ⟨_, rfl⟩
  have Q15 : Hid (fml p v6 (fml p v6 v6) = v15 ∧ v15 < p) := ⟨q15, q15 ▸ (fml_lt HP0.out)⟩
  have hB15 := (hS.2.1 (hup 7 (by decide))).2.2 (hup 8 (by decide))
  have hG15 := (hS.2.1 (hup 7 (by decide))).1
  have hE15 := hv 7 15 (by decide) rfl
  rw [q15, hbn15] at hB15
  rw [hbn15] at hG15
  replace hE15 : A14.eval (.tmp 15) = .pointer (some ⟨b15, 0, none⟩) := by rw [← hbn15]; exact hE15
  have M14 : Hid (Below w.heap.size w W14 ∧ Blk 66 W14 w.heap.size F ∧ Blk 70 W14 (w.heap.size + 1) (tC x y z) ∧ Blk 70 W14 (w.heap.size + 1 + 1) (z13 ++ (z13 ++ z13)) ∧ BD w W14 2 b5 v5_4 ∧ BD w W14 2 b10 v10 ∧ BD w W14 2 b11 v11 ∧ BD w W14 2 b12 v12 ∧ BD w W14 2 b14 v14 ∧ BD w W14 2 b15 v15) := ⟨below_via M13.out.1 hbl (Nat.le_refl _), bb hbl M13.out.2.1, bb hbl M13.out.2.2.1, bb hbl M13.out.2.2.2.1, ⟨bb hbl M13.out.2.2.2.2.1.1, M13.out.2.2.2.2.1.2⟩, ⟨bb hbl M13.out.2.2.2.2.2.2.1.1, M13.out.2.2.2.2.2.2.1.2⟩, ⟨bb hbl M13.out.2.2.2.2.2.2.2.1.1, M13.out.2.2.2.2.2.2.2.1.2⟩, ⟨bb hbl M13.out.2.2.2.2.2.2.2.2.1.1, M13.out.2.2.2.2.2.2.2.2.1.2⟩, ⟨bb hbl M13.out.2.2.2.2.2.2.2.2.2.1, M13.out.2.2.2.2.2.2.2.2.2.2⟩, ⟨hB15, by have h1 := M13.out.2.2.2.1.lt; omega⟩⟩
  have AF14 : Hid (A14.tmps.size = 140 ∧ A14.defers = [] ∧ At A14 2 w.heap.size ∧ At A14 3 (w.heap.size + 1) ∧ At A14 4 (w.heap.size + 1 + 1) ∧ At A14 5 b5 ∧ At A14 10 b10 ∧ At A14 11 b11 ∧ At A14 12 b12 ∧ At A14 14 b14 ∧ At A14 15 b15) := ⟨hsz, hdf.trans AF13.out.2.1, e0 h0 AF13.out.2.2.1, e0 h0 AF13.out.2.2.2.1, e0 h0 AF13.out.2.2.2.2.1, e0 h0 AF13.out.2.2.2.2.2.1, e0 h0 AF13.out.2.2.2.2.2.2.2.1, e0 h0 AF13.out.2.2.2.2.2.2.2.2.1, e0 h0 AF13.out.2.2.2.2.2.2.2.2.2.1, e0 h0 AF13.out.2.2.2.2.2.2.2.2.2.2, hE15⟩
  clear hup hS hsz hdf hv h0 hbl hbn15 q15 hB15 hG15 hE15 M13 AF13
  go_upto_region 15 with (fail)
  refine wp_region_o (β := Nat) (fun b k => if k = 10 then .pointer (some ⟨b, 0, none⟩) else ([.agg F.toArray, .agg F.toArray, DV (v15), DV (v15), DV (fad p v15 v15), .agg F.toArray, DV (v15), DV (v15), DV (fad p v15 v15), DV (fad p (fad p v15 v15) (fad p v15 v15)), undef, undef] : List Value).getD k undef) (SA W14 64 z13 (dgC (dg (fad p (fad p v15 v15) (fad p v15 v15)))) 10 11) 0 true (m := 140) AF14.out.1 rfl (by decide +kernel) (by decide +kernel) ⟨Below.drew (Below.refl _ _), fun u => absurd u not_up_new, fun u => absurd u not_up_new⟩ (fun i b L W a hi hno hlt hdep hv h0 hS => ?_) (fun b L W a hup hS hsz hdf hv h0 => ?_)
  · replace hi : i < 12 := hi
    obtain rfl | rfl | rfl | rfl | rfl | rfl | rfl | rfl | rfl | rfl | rfl | rfl : i = 0 ∨ i = 1 ∨ i = 2 ∨ i = 3 ∨ i = 4 ∨ i = 5 ∨ i = 6 ∨ i = 7 ∨ i = 8 ∨ i = 9 ∨ i = 10 ∨ i = 11 := by omega
    · exact ldF rfl rfl rfl (e0 h0 AF14.out.2.2.1) (bb hS.1 M14.out.2.1) HA.out.2.2.2.2.2.2 rfl hS.kp
    · exact ldF rfl rfl rfl (e0 h0 AF14.out.2.2.1) (bb hS.1 M14.out.2.1) HA.out.2.2.2.2.2.2 rfl hS.kp
    · exact ldD rfl rfl rfl (e0 h0 AF14.out.2.2.2.2.2.2.2.2.2.2) (bb hS.1 M14.out.2.2.2.2.2.2.2.2.2.1) HA.out.1 Q15.out.2 rfl hS.kp
    · exact ldD rfl rfl rfl (e0 h0 AF14.out.2.2.2.2.2.2.2.2.2.2) (bb hS.1 M14.out.2.2.2.2.2.2.2.2.2.1) HA.out.1 Q15.out.2 rfl hS.kp
    · exact cA rfl rfl rfl (dv hv hdep 1 109) (dv hv hdep 2 110) (dv hv hdep 3 111) HA.out.2.2.2.2.1 HA.out.1 Q15.out.2 Q15.out.2 hS.kc
    · exact ldF rfl rfl rfl (e0 h0 AF14.out.2.2.1) (bb hS.1 M14.out.2.1) HA.out.2.2.2.2.2.2 rfl hS.kp
    · exact ldD rfl rfl rfl (e0 h0 AF14.out.2.2.2.2.2.2.2.2.2.2) (bb hS.1 M14.out.2.2.2.2.2.2.2.2.2.1) HA.out.1 Q15.out.2 rfl hS.kp
    · exact ldD rfl rfl rfl (e0 h0 AF14.out.2.2.2.2.2.2.2.2.2.2) (bb hS.1 M14.out.2.2.2.2.2.2.2.2.2.1) HA.out.1 Q15.out.2 rfl hS.kp
    · exact cA rfl rfl rfl (dv hv hdep 5 113) (dv hv hdep 6 114) (dv hv hdep 7 115) HA.out.2.2.2.2.1 HA.out.1 Q15.out.2 Q15.out.2 hS.kc
    · exact cA rfl rfl rfl (dv hv hdep 0 108) (dv hv hdep 4 112) (dv hv hdep 8 116) HA.out.2.2.2.2.1 HA.out.1 (fad_lt HP0.out) (fad_lt HP0.out) hS.kc
    · exact alA rfl rfl rfl (fun k hk => by simp only [if_neg hk]) rfl hS hno
    · exact stA rfl rfl rfl rfl (dv hv hdep 10 16) (dv hv hdep 9 117) HA.out.1 (fad_lt HP0.out) hS hno hdep hlt
  obtain ⟨W15, hWn⟩ : ∃ x, x = W := ⟨_, rfl⟩
  subst hWn
  obtain ⟨A15, hAn⟩ : ∃ x, x = a := ⟨_, rfl⟩
  subst hAn
  have hbl := hS.1
  obtain ⟨b16, hbn16⟩ : ∃ x, b = x := ⟨_, rfl⟩
  obtain ⟨v16, q16⟩ : ∃ vv, fad p (fad p v15 v15) (fad p v15 v15) = vv := ⟨_, rfl⟩
  have Q16 : Hid (fad p (fad p v15 v15) (fad p v15 v15) = v16 ∧ v16 < p) := ⟨q16, q16 ▸ (fad_lt HP0.out)⟩
  have hB16 := (hS.2.1 (hup 10 (by decide))).2.2 (hup 11 (by decide))
  have hG16 := (hS.2.1 (hup 10 (by decide))).1
  have hE16 := hv 10 16 (by decide) rfl
  rw [q16, hbn16] at hB16
  rw [hbn16] at hG16
  replace hE16 : A15.eval (.tmp 16) = .pointer (some ⟨b16, 0, none⟩) := by rw [← hbn16]; exact hE16
  have M15 : Hid (Below w.heap.size w W15 ∧ Blk 66 W15 w.heap.size F ∧ Blk 70 W15 (w.heap.size + 1) (tC x y z) ∧ Blk 70 W15 (w.heap.size + 1 + 1) (z13 ++ (z13 ++ z13)) ∧ BD w W15 2 b5 v5_4 ∧ BD w W15 2 b10 v10 ∧ BD w W15 2 b11 v11 ∧ BD w W15 2 b12 v12 ∧ BD w W15 2 b14 v14 ∧ BD w W15 2 b16 v16) := ⟨below_via M14.out.1 hbl (Nat.le_refl _), bb hbl M14.out.2.1, bb hbl M14.out.2.2.1, bb hbl M14.out.2.2.2.1, ⟨bb hbl M14.out.2.2.2.2.1.1, M14.out.2.2.2.2.1.2⟩, ⟨bb hbl M14.out.2.2.2.2.2.1.1, M14.out.2.2.2.2.2.1.2⟩, ⟨bb hbl M14.out.2.2.2.2.2.2.1.1, M14.out.2.2.2.2.2.2.1.2⟩, ⟨bb hbl M14.out.2.2.2.2.2.2.2.1.1, M14.out.2.2.2.2.2.2.2.1.2⟩, ⟨bb hbl M14.out.2.2.2.2.2.2.2.2.1.1, M14.out.2.2.2.2.2.2.2.2.1.2⟩, ⟨hB16, by have h1 := M14.out.2.2.2.1.lt; omega⟩⟩
  have AF15 : Hid (A15.tmps.size = 140 ∧ A15.defers = [] ∧ At A15 2 w.heap.size ∧ At A15 3 (w.heap.size + 1) ∧ At A15 4 (w.heap.size + 1 + 1) ∧ At A15 5 b5 ∧ At A15 10 b10 ∧ At A15 11 b11 ∧ At A15 12 b12 ∧ At A15 14 b14 ∧ At A15 16 b16) := ⟨hsz, hdf.trans AF14.out.2.1, e0 h0 AF14.out.2.2.1, e0 h0 AF14.out.2.2.2.1, e0 h0 AF14.out.2.2.2.2.1, e0 h0 AF14.out.2.2.2.2.2.1, e0 h0 AF14.out.2.2.2.2.2.2.1, e0 h0 AF14.out.2.2.2.2.2.2.2.1, e0 h0 AF14.out.2.2.2.2.2.2.2.2.1, e0 h0 AF14.out.2.2.2.2.2.2.2.2.2.1, hE16⟩
  clear hup hS hsz hdf hv h0 hbl hbn16 q16 hB16 hG16 hE16 M14 AF14
  go_upto_region 16 with (fail)
  refine wp_region_o (β := Unit) (fun _ k => ([.agg F.toArray, DV (v12), DV (v12), DV (fad p v12 v12), .agg F.toArray, .agg F.toArray, DV (v5_4), .agg F.toArray, DV (v10), DV (v11), DV (fsb p v10 v11), DV (fml p v5_4 (fsb p v10 v11)), .agg F.toArray, DV (v14), DV (v14), DV (fad p v14 v14), DV (fsb p (fml p v5_4 (fsb p v10 v11)) (fad p v14 v14)), .agg F.toArray, DV (v16), DV (v16), DV (fad p v16 v16), .agg (tC (fad p v12 v12) (fsb p (fml p v5_4 (fsb p v10 v11)) (fad p v14 v14)) (fad p v16 v16)).toArray, undef] : List Value).getD k undef) (SB W15 70 (w.heap.size + 1 + 1) (z13 ++ (z13 ++ z13)) (tC (fad p v12 v12) (fsb p (fml p v5_4 (fsb p v10 v11)) (fad p v14 v14)) (fad p v16 v16)) 22 23) () true (m := 140) AF15.out.1 rfl (by decide +kernel) (by decide +kernel) ⟨updDrew _ _, M15.out.2.2.2.1.lt, fun _ => ⟨Below.drew (Below.refl _ _), below_blk (Below.drew (Below.refl _ _)) M15.out.2.2.2.1.lt M15.out.2.2.2.1⟩, fun u => absurd u not_up_new⟩ (fun i b L W a hi hno hlt hdep hv h0 hS => ?_) (fun b L W a hup hS hsz hdf hv h0 => ?_)
  · replace hi : i < 23 := hi
    obtain rfl | rfl | rfl | rfl | rfl | rfl | rfl | rfl | rfl | rfl | rfl | rfl | rfl | rfl | rfl | rfl | rfl | rfl | rfl | rfl | rfl | rfl | rfl : i = 0 ∨ i = 1 ∨ i = 2 ∨ i = 3 ∨ i = 4 ∨ i = 5 ∨ i = 6 ∨ i = 7 ∨ i = 8 ∨ i = 9 ∨ i = 10 ∨ i = 11 ∨ i = 12 ∨ i = 13 ∨ i = 14 ∨ i = 15 ∨ i = 16 ∨ i = 17 ∨ i = 18 ∨ i = 19 ∨ i = 20 ∨ i = 21 ∨ i = 22 := by omega
    · exact ldF rfl rfl rfl (e0 h0 AF15.out.2.2.1) (bb (hS.bl hno) M15.out.2.1) HA.out.2.2.2.2.2.2 rfl (hS.kp hno)
    · exact ldD rfl rfl rfl (e0 h0 AF15.out.2.2.2.2.2.2.2.2.1) (bb (hS.bl hno) M15.out.2.2.2.2.2.2.2.1.1) HA.out.1 Q12.out.2 rfl (hS.kp hno)
    · exact ldD rfl rfl rfl (e0 h0 AF15.out.2.2.2.2.2.2.2.2.1) (bb (hS.bl hno) M15.out.2.2.2.2.2.2.2.1.1) HA.out.1 Q12.out.2 rfl (hS.kp hno)
    · exact cA rfl rfl rfl (dv hv hdep 0 118) (dv hv hdep 1 119) (dv hv hdep 2 120) HA.out.2.2.2.2.1 HA.out.1 Q12.out.2 Q12.out.2 (hS.kc hno)
    · exact ldF rfl rfl rfl (e0 h0 AF15.out.2.2.1) (bb (hS.bl hno) M15.out.2.1) HA.out.2.2.2.2.2.2 rfl (hS.kp hno)
    · exact ldF rfl rfl rfl (e0 h0 AF15.out.2.2.1) (bb (hS.bl hno) M15.out.2.1) HA.out.2.2.2.2.2.2 rfl (hS.kp hno)
    · exact ldD rfl rfl rfl (e0 h0 AF15.out.2.2.2.2.2.1) (bb (hS.bl hno) M15.out.2.2.2.2.1.1) HA.out.1 Q5_4.out.2 rfl (hS.kp hno)
    · exact ldF rfl rfl rfl (e0 h0 AF15.out.2.2.1) (bb (hS.bl hno) M15.out.2.1) HA.out.2.2.2.2.2.2 rfl (hS.kp hno)
    · exact ldD rfl rfl rfl (e0 h0 AF15.out.2.2.2.2.2.2.1) (bb (hS.bl hno) M15.out.2.2.2.2.2.1.1) HA.out.1 Q10.out.2 rfl (hS.kp hno)
    · exact ldD rfl rfl rfl (e0 h0 AF15.out.2.2.2.2.2.2.2.1) (bb (hS.bl hno) M15.out.2.2.2.2.2.2.1.1) HA.out.1 Q11.out.2 rfl (hS.kp hno)
    · exact cS rfl rfl rfl (dv hv hdep 7 125) (dv hv hdep 8 126) (dv hv hdep 9 127) HA.out.2.2.2.2.1 HA.out.1 Q10.out.2 Q11.out.2 (hS.kc hno)
    · exact cM rfl rfl rfl (dv hv hdep 5 123) (dv hv hdep 6 124) (dv hv hdep 10 128) HA.out.2.2.2.2.1 HA.out.1 Q5_4.out.2 (fsb_lt HP0.out) (hS.kc hno)
    · exact ldF rfl rfl rfl (e0 h0 AF15.out.2.2.1) (bb (hS.bl hno) M15.out.2.1) HA.out.2.2.2.2.2.2 rfl (hS.kp hno)
    · exact ldD rfl rfl rfl (e0 h0 AF15.out.2.2.2.2.2.2.2.2.2.1) (bb (hS.bl hno) M15.out.2.2.2.2.2.2.2.2.1.1) HA.out.1 Q14.out.2 rfl (hS.kp hno)
    · exact ldD rfl rfl rfl (e0 h0 AF15.out.2.2.2.2.2.2.2.2.2.1) (bb (hS.bl hno) M15.out.2.2.2.2.2.2.2.2.1.1) HA.out.1 Q14.out.2 rfl (hS.kp hno)
    · exact cA rfl rfl rfl (dv hv hdep 12 130) (dv hv hdep 13 131) (dv hv hdep 14 132) HA.out.2.2.2.2.1 HA.out.1 Q14.out.2 Q14.out.2 (hS.kc hno)
    · exact cS rfl rfl rfl (dv hv hdep 4 122) (dv hv hdep 11 129) (dv hv hdep 15 133) HA.out.2.2.2.2.1 HA.out.1 (fml_lt HP0.out) (fad_lt HP0.out) (hS.kc hno)
    · exact ldF rfl rfl rfl (e0 h0 AF15.out.2.2.1) (bb (hS.bl hno) M15.out.2.1) HA.out.2.2.2.2.2.2 rfl (hS.kp hno)
    · exact ldD rfl rfl rfl (e0 h0 AF15.out.2.2.2.2.2.2.2.2.2.2) (bb (hS.bl hno) M15.out.2.2.2.2.2.2.2.2.2.1) HA.out.1 Q16.out.2 rfl (hS.kp hno)
    · exact ldD rfl rfl rfl (e0 h0 AF15.out.2.2.2.2.2.2.2.2.2.2) (bb (hS.bl hno) M15.out.2.2.2.2.2.2.2.2.2.1) HA.out.1 Q16.out.2 rfl (hS.kp hno)
    · exact cA rfl rfl rfl (dv hv hdep 17 135) (dv hv hdep 18 136) (dv hv hdep 19 137) HA.out.2.2.2.2.1 HA.out.1 Q16.out.2 Q16.out.2 (hS.kc hno)
    · exact det_val rfl rfl (run_build rfl (dv hv hdep 3 121) (dv hv hdep 16 134) (dv hv hdep 20 138) (dg_ok (Fp.lt HA.out.1 (fad_lt HP0.out))).1.2 (dg_ok (Fp.lt HA.out.1 (fsb_lt HP0.out))).1.2 (dg_ok (Fp.lt HA.out.1 (fad_lt HP0.out))).1.2) (hS.kp hno)
    · exact det_store rfl rfl rfl rfl (e0 h0 AF15.out.2.2.2.2.1) (dv hv hdep 21 139) ((hS.2.2.1 hno).2.there 0 _ (by rw [List.size_toArray, tC_len HA.out.1 (fad_lt HP0.out) (fsb_lt HP0.out) (fad_lt HP0.out)]; decide)) (szT HA.out.1 (fad_lt HP0.out) (fsb_lt HP0.out) (fad_lt HP0.out)) (tC_one _ _ _) (hS.store hno (hlt 22 (by decide)) (fun k hk hne => hdep k (allDep hk hne (by decide +kernel))) (by rw [tC_len HA.out.1 (fad_lt HP0.out) (fsb_lt HP0.out) (fad_lt HP0.out), z39_len]))
  obtain ⟨W16, hWn⟩ : ∃ x, x = W := ⟨_, rfl⟩
  subst hWn
  obtain ⟨A16, hAn⟩ : ∃ x, x = a := ⟨_, rfl⟩
  subst hAn
  have hB := (hS.2.2.2 (hup 22 (by decide))).1
  have hU := hS.1
  have MZ : Hid (Below w.heap.size w W16 ∧ Blk 70 W16 ((w.heap.size + 1 + 1)) (tC (fad p v12 v12) (fsb p (fml p v5_4 (fsb p v10 v11)) (fad p v14 v14)) (fad p v16 v16)) ∧ A16.eval (.tmp 4) = .pointer (some ⟨(w.heap.size + 1 + 1), 0, none⟩) ∧ A16.defers = []) := ⟨hU.below M15.out.1 M15.out.1.size (by omega), hB, (h0 4 (by decide +kernel)).trans AF15.out.2.2.2.2.1, hdf.trans AF15.out.2.1⟩
  clear hup hS hsz hdf hv h0 hB hU M15 AF15
  have HE : Hid (R = (fad p v12 v12, fsb p (fml p v5_4 (fsb p v10 v11)) (fad p v14 v14), fad p v16 v16)) := by
    show _ = _
    rw [← HR.out]
    unfold rtw
    rw [if_neg HR2.out]
    simp only [Q5.out.1, Q5_4.out.1, Q6.out.1, Q7.out.1, Q8.out.1, Q9.out.1, Q10.out.1, Q11.out.1, Q12.out.1, Q13.out.1, Q14.out.1, Q15.out.1, Q16.out.1]
  go_wp2
  refine bodyPost_ret (v := .agg (tC (fad p v12 v12) (fsb p (fml p v5_4 (fsb p v10 v11)) (fad p v14 v14)) (fad p v16 v16)).toArray) (results_blk (b := w.heap.size + 1 + 1) rfl MZ.out.2.2.1 MZ.out.2.1 Try.underlying70 rfl (szTl HA.out.1 (fad_lt HP0.out) (fsb_lt HP0.out) (fad_lt HP0.out))) MZ.out.2.2.2 ⟨?_, MZ.out.1⟩
  rw [HE.out]
end Go.Proofs.Ytkdclocjijmgpaa
