/-
  Curve: the sum of two triples.
-/
import Derived.Test.YtkdclocjijmgpaaK9
namespace Go.Proofs.Ytkdclocjijmgpaa
open Go.RowKit
set_option maxRecDepth 20000
def jsm (p : Nat) (s t : Nat × Nat × Nat) : Nat × Nat × Nat :=
  if s.2.2 = 0 then t else if t.2.2 = 0 then s else
  let szz := fml p s.2.2 s.2.2
  let tzz := fml p t.2.2 t.2.2
  let u := fml p s.1 tzz
  let v := fml p t.1 szz
  let a := fml p s.2.1 (fml p t.2.2 tzz)
  let b := fml p t.2.1 (fml p s.2.2 szz)
  let dx := fsb p v u
  let dy := fsb p b a
  if dx ≠ 0 then jch p u a dx dy (fml p s.2.2 t.2.2) else if dy ≠ 0 then (0, 0, 0) else jdb p s.1 s.2.1 s.2.2
set_option maxHeartbeats 8000000 in
theorem Tsum {w : World} (f rsx rsy rsz rtx rty rtz : Value) (p xsx xsy xsz xtx xty xtz : Nat) (hf : Fld w f p) (hsx : Nb w rsx xsx) (hsy : Nb w rsy xsy) (hsz : Nb w rsz xsz) (htx : Nb w rtx xtx) (hty : Nb w rty xty) (htz : Nb w rtz xtz) (lsx : xsx < p) (lsy : xsy < p) (lsz : xsz < p) (ltx : xtx < p) (lty : xty < p) (ltz : xtz < p) :
    Calls Try.prog 26 #[f, .agg #[rsx, rsy, rsz], .agg #[rtx, rty, rtz]] w fun e w' => ∃ r0 r1 r2, e = .returned (.agg #[r0, r1, r2]) ∧ Nb w' r0 (jsm p (xsx, xsy, xsz) (xtx, xty, xtz)).1 ∧ Nb w' r1 (jsm p (xsx, xsy, xsz) (xtx, xty, xtz)).2.1 ∧ Nb w' r2 (jsm p (xsx, xsy, xsz) (xtx, xty, xtz)).2.2 ∧ Below w.heap.size w w' := by
  have Lsx : Hid (xsx < p) := lsx
  have Lsy : Hid (xsy < p) := lsy
  have Lsz : Hid (xsz < p) := lsz
  have Ltx : Hid (xtx < p) := ltx
  have Lty : Hid (xty < p) := lty
  have Ltz : Hid (xtz < p) := ltz
  obtain ⟨asx, csx, hqsx⟩ := hsx.form
  obtain ⟨asy, csy, hqsy⟩ := hsy.form
  obtain ⟨asz, csz, hqsz⟩ := hsz.form
  obtain ⟨atx, ctx, hqtx⟩ := htx.form
  obtain ⟨aty, cty, hqty⟩ := hty.form
  obtain ⟨atz, ctz, hqtz⟩ := htz.form
  have HA : Hid (Fld w f p ∧ Nb w rsx xsx ∧ Nb w rsy xsy ∧ Nb w rsz xsz ∧ Nb w rtx xtx ∧ Nb w rty xty ∧ Nb w rtz xtz) := ⟨hf, hsx, hsy, hsz, htx, hty, htz⟩
  have HV : Hid (rsx = .slice asx (lim xsx).length csx ∧ rsy = .slice asy (lim xsy).length csy ∧ rsz = .slice asz (lim xsz).length csz ∧ rtx = .slice atx (lim xtx).length ctx ∧ rty = .slice aty (lim xty).length cty ∧ rtz = .slice atz (lim xtz).length ctz) := ⟨hqsx, hqsy, hqsz, hqtx, hqty, hqtz⟩
  obtain ⟨J, hJ⟩ : ∃ J, jsm p (xsx, xsy, xsz) (xtx, xty, xtz) = J := ⟨_, rfl⟩
  rw [hJ]
  have HJ : Hid (jsm p (xsx, xsy, xsz) (xtx, xty, xtz) = J) := hJ
  clear hf hsx hsy hsz htx hty htz lsx lsy lsz ltx lty ltz hqsx hqsy hqsz hqtx hqty hqtz hJ
  go_enter Try.func26, Try.ntmps26
  go_upto_region 1 with (first | (refine wpList_boxR rfl 58 (.tmp 1) rfl #[rsx, rsy, rsz] rfl ?_) | (refine wpList_boxR rfl 58 (.tmp 2) rfl #[rtx, rty, rtz] rfl ?_))
  refine wp_gen (fun W => Blk 58 W w.heap.size [rsx, rsy, rsz] ∧ Blk 58 W (w.heap.size + 1) [rtx, rty, rtz] ∧ Blk 58 W (w.heap.size + 2) [.slice none 0 0, .slice none 0 0, .slice none 0 0] ∧ Below w.heap.size w W) ⟨((Blk.new 58 w [rsx, rsy, rsz]).alloc _).alloc _, Blk.alloc (by have := Blk.new 58 (w.alloc (.cells [rsx, rsy, rsz].toArray 58)) [rtx, rty, rtz]; rw [World.size_alloc] at this; exact this) _, by have := Blk.new 58 ((w.alloc (.cells [rsx, rsy, rsz].toArray 58)).alloc (.cells [rtx, rty, rtz].toArray 58)) [.slice none 0 0, .slice none 0 0, .slice none 0 0]; rw [World.size_alloc, World.size_alloc] at this; exact this, ((al1 _).alloc (by simp) _).alloc (by simp; omega) _⟩ ?_
  rintro W2 ⟨hS, hT, hB, hBw⟩
  have H2 : Hid (Below w.heap.size w W2 ∧ ∀ W3, Below W2.heap.size W2 W3 → Blk 58 W3 w.heap.size [rsx, rsy, rsz] ∧ Blk 58 W3 (w.heap.size + 1) [rtx, rty, rtz] ∧ Blk 58 W3 (w.heap.size + 2) [.slice none 0 0, .slice none 0 0, .slice none 0 0] ∧ Below w.heap.size w W3) := ⟨hBw, fun W3 h3 => ⟨below_blk h3 hS.lt hS, below_blk h3 hT.lt hT, below_blk h3 hB.lt hB, below_via hBw h3 (Nat.le_refl _)⟩⟩
  have HRs : Hid (∀ W3, Below W2.heap.size W2 W3 → W3.rangeAt w.heap.size 0 [rsx, rsy, rsz] ∧ W3.rangeAt (w.heap.size + 1) 0 [rtx, rty, rtz]) := fun W3 h3 => ⟨(H2.out.2 W3 h3).1.whole, (H2.out.2 W3 h3).2.1.whole⟩
  have HCs : Hid (∀ W3, Below W2.heap.size W2 W3 → W3.cell? ⟨w.heap.size, 0, none⟩ = some rsx ∧ W3.cell? ⟨w.heap.size, 1, none⟩ = some rsy ∧ W3.cell? ⟨w.heap.size, 2, none⟩ = some rsz ∧ W3.cell? ⟨w.heap.size + 1, 0, none⟩ = some rtx ∧ W3.cell? ⟨w.heap.size + 1, 1, none⟩ = some rty ∧ W3.cell? ⟨w.heap.size + 1, 2, none⟩ = some rtz) := fun W3 h3 => ⟨(H2.out.2 W3 h3).1.cell 0, (H2.out.2 W3 h3).1.cell 1, (H2.out.2 W3 h3).1.cell 2, (H2.out.2 W3 h3).2.1.cell 0, (H2.out.2 W3 h3).2.1.cell 1, (H2.out.2 W3 h3).2.1.cell 2⟩
  have HN : Hid (∀ c ∈ [Value.slice none 0 0, Value.slice none 0 0, Value.slice none 0 0], ∀ n, c ≠ .int .u32 n) := by intro c hc; simp at hc; subst hc; intro n h; cases h
  have H0 : Hid (Below W2.heap.size W2 W2 ∧ Fld W2 f p ∧ Nb W2 rsx xsx ∧ Nb W2 rsy xsy ∧ Nb W2 rsz xsz ∧ Nb W2 rtx xtx ∧ Nb W2 rty xty ∧ Nb W2 rtz xtz ∧ True) := ⟨Below.refl _ _, HA.out.1.below hBw, HA.out.2.1.below hBw, HA.out.2.2.1.below hBw, HA.out.2.2.2.1.below hBw, HA.out.2.2.2.2.1.below hBw, HA.out.2.2.2.2.2.1.below hBw, HA.out.2.2.2.2.2.2.below hBw, trivial⟩
  clear hS hT hB hBw HA
  go_wp2_with (refine wpList_load_mid rfl 58 (.tmp 4) rfl w.heap.size 0 rfl [rsx, rsy, rsz] _ (HRs.out _ H0.out.1).1 Try.underlying58 rfl (by kernel_rfl) ?_)
  refine (TisFar rsx rsy rsz xsz H0.out.2.2.2.2.1).mono ?_
  rintro e w1 ⟨rfl, hb⟩
  have H1 : Hid (Below W2.heap.size W2 w1 ∧ Fld w1 f p ∧ Nb w1 rsx xsx ∧ Nb w1 rsy xsy ∧ Nb w1 rsz xsz ∧ Nb w1 rtx xtx ∧ Nb w1 rty xty ∧ Nb w1 rtz xtz ∧ True) := ⟨below_via H0.out.1 hb (Nat.le_refl _), H0.out.2.1.below hb, (H0.out.2.2.1).below hb, (H0.out.2.2.2.1).below hb, (H0.out.2.2.2.2.1).below hb, (H0.out.2.2.2.2.2.1).below hb, (H0.out.2.2.2.2.2.2.1).below hb, (H0.out.2.2.2.2.2.2.2.1).below hb, trivial⟩
  clear hb H0
  by_cases hz0 : xsz = 0
  · have dz : decide (xsz = 0) = true := by simpa using hz0
    rw [dz]
    have HT2 : Hid (J = (xtx, xty, xtz)) := by show _ = _; rw [← HJ.out]; unfold jsm; rw [if_pos hz0]
    have hB3 := (H2.out.2 _ H1.out.1).2.2.1
    have d0 : w1.cell? ⟨w.heap.size + 2, 0, none⟩ = some (.slice none 0 0) := hB3.cell 0
    have d1 : w1.cell? ⟨w.heap.size + 2, 1, none⟩ = some (.slice none 0 0) := hB3.cell 1
    have d2 : w1.cell? ⟨w.heap.size + 2, 2, none⟩ = some (.slice none 0 0) := hB3.cell 2
    have g0 := hB3.frozen 0; have g1 := hB3.frozen 1; have g2 := hB3.frozen 2
    have HF : Hid (Blk 58 w1 (w.heap.size + 2) [.slice none 0 0, .slice none 0 0, .slice none 0 0] ∧ Below w.heap.size w w1) := ⟨hB3, (H2.out.2 _ H1.out.1).2.2.2⟩
    clear hB3 HJ
    clear hz0 dz
    obtain ⟨ksx, ksy, ksz, ktx, kty, ktz⟩ := HV.out
    subst ksx ksy ksz ktx kty ktz
    go_wp2_with (refine wpList_load_mid rfl 58 (.tmp 5) rfl (w.heap.size + 1) 0 rfl [.slice atx (lim xtx).length ctx, .slice aty (lim xty).length cty, .slice atz (lim xtz).length ctz] _ (HRs.out _ H1.out.1).2 Try.underlying58 rfl (by kernel_rfl) ?_)
    obtain ⟨hF, hU⟩ := Blk.put3 HF.out.1 (.slice atx (lim xtx).length ctx) (.slice aty (lim xty).length cty) (.slice atz (lim xtz).length ctz)
    have hbl := hU.below HF.out.2 HF.out.2.size (by omega)
    refine bodyPost_ret (v := .agg [.slice atx (lim xtx).length ctx, .slice aty (lim xty).length cty, .slice atz (lim xtz).length ctz].toArray) (results_blk (b := w.heap.size + 2) (cs := [.slice atx (lim xtx).length ctx, .slice aty (lim xty).length cty, .slice atz (lim xtz).length ctz]) rfl rfl hF Try.underlying58 rfl Try.sizeTr) rfl ⟨_, _, _, rfl, ?_, ?_, ?_, hbl⟩
    · rw [HT2.out]; exact Nb.upd (x := xtx) H1.out.2.2.2.2.2.1 HF.out.1 HN.out hU
    · rw [HT2.out]; exact Nb.upd (x := xty) H1.out.2.2.2.2.2.2.1 HF.out.1 HN.out hU
    · rw [HT2.out]; exact Nb.upd (x := xtz) H1.out.2.2.2.2.2.2.2.1 HF.out.1 HN.out hU
  have dz : decide (xsz = 0) = false := by simpa using hz0
  rw [dz]
  go_wp2_with (refine wpList_load_mid rfl 58 (.tmp 5) rfl (w.heap.size + 1) 0 rfl [rtx, rty, rtz] _ (HRs.out _ H1.out.1).2 Try.underlying58 rfl (by kernel_rfl) ?_)
  refine (TisFar rtx rty rtz xtz H1.out.2.2.2.2.2.2.2.1).mono ?_
  rintro e w2 ⟨rfl, hb⟩
  have HA2 : Hid (Below W2.heap.size W2 w2 ∧ Fld w2 f p ∧ Nb w2 rsx xsx ∧ Nb w2 rsy xsy ∧ Nb w2 rsz xsz ∧ Nb w2 rtx xtx ∧ Nb w2 rty xty ∧ Nb w2 rtz xtz ∧ True) := ⟨below_via H1.out.1 hb (Nat.le_refl _), H1.out.2.1.below hb, (H1.out.2.2.1).below hb, (H1.out.2.2.2.1).below hb, (H1.out.2.2.2.2.1).below hb, (H1.out.2.2.2.2.2.1).below hb, (H1.out.2.2.2.2.2.2.1).below hb, (H1.out.2.2.2.2.2.2.2.1).below hb, trivial⟩
  clear hb H1
  clear dz
  by_cases ht0 : xtz = 0
  · have dz : decide (xtz = 0) = true := by simpa using ht0
    rw [dz]
    have HT2 : Hid (J = (xsx, xsy, xsz)) := by show _ = _; rw [← HJ.out]; unfold jsm; rw [if_neg hz0, if_pos ht0]
    have hB3 := (H2.out.2 _ HA2.out.1).2.2.1
    have d0 : w2.cell? ⟨w.heap.size + 2, 0, none⟩ = some (.slice none 0 0) := hB3.cell 0
    have d1 : w2.cell? ⟨w.heap.size + 2, 1, none⟩ = some (.slice none 0 0) := hB3.cell 1
    have d2 : w2.cell? ⟨w.heap.size + 2, 2, none⟩ = some (.slice none 0 0) := hB3.cell 2
    have g0 := hB3.frozen 0; have g1 := hB3.frozen 1; have g2 := hB3.frozen 2
    have HF : Hid (Blk 58 w2 (w.heap.size + 2) [.slice none 0 0, .slice none 0 0, .slice none 0 0] ∧ Below w.heap.size w w2) := ⟨hB3, (H2.out.2 _ HA2.out.1).2.2.2⟩
    clear hB3 HJ
    clear hz0 ht0 dz
    obtain ⟨ksx, ksy, ksz, ktx, kty, ktz⟩ := HV.out
    subst ksx ksy ksz ktx kty ktz
    go_wp2_with (refine wpList_load_mid rfl 58 (.tmp 4) rfl w.heap.size 0 rfl [.slice asx (lim xsx).length csx, .slice asy (lim xsy).length csy, .slice asz (lim xsz).length csz] _ (HRs.out _ HA2.out.1).1 Try.underlying58 rfl (by kernel_rfl) ?_)
    obtain ⟨hF, hU⟩ := Blk.put3 HF.out.1 (.slice asx (lim xsx).length csx) (.slice asy (lim xsy).length csy) (.slice asz (lim xsz).length csz)
    have hbl := hU.below HF.out.2 HF.out.2.size (by omega)
    refine bodyPost_ret (v := .agg [.slice asx (lim xsx).length csx, .slice asy (lim xsy).length csy, .slice asz (lim xsz).length csz].toArray) (results_blk (b := w.heap.size + 2) (cs := [.slice asx (lim xsx).length csx, .slice asy (lim xsy).length csy, .slice asz (lim xsz).length csz]) rfl rfl hF Try.underlying58 rfl Try.sizeTr) rfl ⟨_, _, _, rfl, ?_, ?_, ?_, hbl⟩
    · rw [HT2.out]; exact Nb.upd (x := xsx) HA2.out.2.2.1 HF.out.1 HN.out hU
    · rw [HT2.out]; exact Nb.upd (x := xsy) HA2.out.2.2.2.1 HF.out.1 HN.out hU
    · rw [HT2.out]; exact Nb.upd (x := xsz) HA2.out.2.2.2.2.1 HF.out.1 HN.out hU
  have dz : decide (xtz = 0) = false := by simpa using ht0
  rw [dz]
  clear dz
  have HJ2 : Hid (jsm p (xsx, xsy, xsz) (xtx, xty, xtz) = (if fsb p (fml p xtx (fml p xsz xsz)) (fml p xsx (fml p xtz xtz)) ≠ 0 then jch p (fml p xsx (fml p xtz xtz)) (fml p xsy (fml p xtz (fml p xtz xtz))) (fsb p (fml p xtx (fml p xsz xsz)) (fml p xsx (fml p xtz xtz))) (fsb p (fml p xty (fml p xsz (fml p xsz xsz))) (fml p xsy (fml p xtz (fml p xtz xtz)))) (fml p xsz xtz) else if fsb p (fml p xty (fml p xsz (fml p xsz xsz))) (fml p xsy (fml p xtz (fml p xtz xtz))) ≠ 0 then (0, 0, 0) else jdb p xsx xsy xsz)) := by show _ = _; unfold jsm; rw [if_neg hz0, if_neg ht0]
  clear hz0 ht0
  have HQw2 : Hid (∀ W3, Below w2.heap.size w2 W3 → W3.cell? ⟨w.heap.size, 0, none⟩ = some rsx ∧ W3.cell? ⟨w.heap.size, 1, none⟩ = some rsy ∧ W3.cell? ⟨w.heap.size, 2, none⟩ = some rsz ∧ W3.cell? ⟨w.heap.size + 1, 0, none⟩ = some rtx ∧ W3.cell? ⟨w.heap.size + 1, 1, none⟩ = some rty ∧ W3.cell? ⟨w.heap.size + 1, 2, none⟩ = some rtz) := fun W3 h3 => HCs.out _ (below_via HA2.out.1 h3 (Nat.le_refl _))
  go_wp2_with fail
  have HDg0 : Hid (Below W2.heap.size W2 w2.drew ∧ Fld w2.drew f p ∧ Nb w2.drew rsx xsx ∧ Nb w2.drew rsy xsy ∧ Nb w2.drew rsz xsz ∧ Nb w2.drew rtx xtx ∧ Nb w2.drew rty xty ∧ Nb w2.drew rtz xtz ∧ True) := ⟨Below.drew HA2.out.1, HA2.out.2.1.below (Below.drew (Below.refl _ _)), (HA2.out.2.2.1).below (Below.drew (Below.refl _ _)), (HA2.out.2.2.2.1).below (Below.drew (Below.refl _ _)), (HA2.out.2.2.2.2.1).below (Below.drew (Below.refl _ _)), (HA2.out.2.2.2.2.2.1).below (Below.drew (Below.refl _ _)), (HA2.out.2.2.2.2.2.2.1).below (Below.drew (Below.refl _ _)), (HA2.out.2.2.2.2.2.2.2.1).below (Below.drew (Below.refl _ _)), trivial⟩
  clear HA2
  go_region_held3 (fun W => Below w2.heap.size w2 W ∧ W.cell? ⟨w.heap.size, 0, none⟩ = some rsx ∧ W.cell? ⟨w.heap.size, 1, none⟩ = some rsy ∧ W.cell? ⟨w.heap.size, 2, none⟩ = some rsz ∧ W.cell? ⟨w.heap.size + 1, 0, none⟩ = some rtx ∧ W.cell? ⟨w.heap.size + 1, 1, none⟩ = some rty ∧ W.cell? ⟨w.heap.size + 1, 2, none⟩ = some rtz)
    (first | assumption | exact (fun h => ⟨h, HQw2.out _ h⟩) (Below.drew (Below.refl _ _)) | exact (fun h => ⟨h, HQw2.out _ h⟩) (below_via (And.left (by assumption)) (by assumption) (Nat.le_refl _)))
    (first
    | (replace H1s := H1s; go_at_call 49; refine (Fsquare f _ p xtz H1s.out.2.1 H1s.out.2.2.2.2.2.2.2.1 Ltz.out).mono ?_; rintro e w2s ⟨rtzz, rfl, hrtzz, hbtzz⟩; obtain ⟨xtzz, hxtzz⟩ : ∃ x, fml p xtz xtz = x := ⟨_, rfl⟩; rw [hxtzz] at hrtzz; have Etzz : Hid (fml p xtz xtz = xtzz) := hxtzz; have Ltzz : Hid (xtzz < p) := (by show _ < _; rw [← hxtzz]; exact fml_lt H1s.out.2.1.2.1); have H2s : Hid (Below W2.heap.size W2 w2s ∧ Fld w2s f p ∧ Nb w2s rsx xsx ∧ Nb w2s rsy xsy ∧ Nb w2s rsz xsz ∧ Nb w2s rtx xtx ∧ Nb w2s rty xty ∧ Nb w2s rtz xtz ∧ Nb w2s rszz xszz ∧ Nb w2s rtzz xtzz ∧ True) := ⟨below_via H1s.out.1 hbtzz (Nat.le_refl _), H1s.out.2.1.below hbtzz, (H1s.out.2.2.1).below hbtzz, (H1s.out.2.2.2.1).below hbtzz, (H1s.out.2.2.2.2.1).below hbtzz, (H1s.out.2.2.2.2.2.1).below hbtzz, (H1s.out.2.2.2.2.2.2.1).below hbtzz, (H1s.out.2.2.2.2.2.2.2.1).below hbtzz, (H1s.out.2.2.2.2.2.2.2.2.1).below hbtzz, hrtzz, trivial⟩; clear hrtzz hxtzz)
    | (go_at_call 49; refine (Fsquare f _ p xsz HDg0.out.2.1 HDg0.out.2.2.2.2.1 Lsz.out).mono ?_; rintro e w1s ⟨rszz, rfl, hrszz, hbszz⟩; obtain ⟨xszz, hxszz⟩ : ∃ x, fml p xsz xsz = x := ⟨_, rfl⟩; rw [hxszz] at hrszz; have Eszz : Hid (fml p xsz xsz = xszz) := hxszz; have Lszz : Hid (xszz < p) := (by show _ < _; rw [← hxszz]; exact fml_lt HDg0.out.2.1.2.1); have H1s : Hid (Below W2.heap.size W2 w1s ∧ Fld w1s f p ∧ Nb w1s rsx xsx ∧ Nb w1s rsy xsy ∧ Nb w1s rsz xsz ∧ Nb w1s rtx xtx ∧ Nb w1s rty xty ∧ Nb w1s rtz xtz ∧ Nb w1s rszz xszz ∧ True) := ⟨below_via HDg0.out.1 hbszz (Nat.le_refl _), HDg0.out.2.1.below hbszz, (HDg0.out.2.2.1).below hbszz, (HDg0.out.2.2.2.1).below hbszz, (HDg0.out.2.2.2.2.1).below hbszz, (HDg0.out.2.2.2.2.2.1).below hbszz, (HDg0.out.2.2.2.2.2.2.1).below hbszz, (HDg0.out.2.2.2.2.2.2.2.1).below hbszz, hrszz, trivial⟩; clear hrszz hxszz))
  clear hbszz hbtzz
  have HQw2s : Hid (∀ W3, Below w2s.heap.size w2s W3 → W3.cell? ⟨w.heap.size, 0, none⟩ = some rsx ∧ W3.cell? ⟨w.heap.size, 1, none⟩ = some rsy ∧ W3.cell? ⟨w.heap.size, 2, none⟩ = some rsz ∧ W3.cell? ⟨w.heap.size + 1, 0, none⟩ = some rtx ∧ W3.cell? ⟨w.heap.size + 1, 1, none⟩ = some rty ∧ W3.cell? ⟨w.heap.size + 1, 2, none⟩ = some rtz) := fun W3 h3 => HCs.out _ (below_via H2s.out.1 h3 (Nat.le_refl _))
  go_wp2_with fail
  have HDg2 : Hid (Below W2.heap.size W2 w2s.drew ∧ Fld w2s.drew f p ∧ Nb w2s.drew rsx xsx ∧ Nb w2s.drew rsy xsy ∧ Nb w2s.drew rsz xsz ∧ Nb w2s.drew rtx xtx ∧ Nb w2s.drew rty xty ∧ Nb w2s.drew rtz xtz ∧ Nb w2s.drew rszz xszz ∧ Nb w2s.drew rtzz xtzz ∧ True) := ⟨Below.drew H2s.out.1, H2s.out.2.1.below (Below.drew (Below.refl _ _)), (H2s.out.2.2.1).below (Below.drew (Below.refl _ _)), (H2s.out.2.2.2.1).below (Below.drew (Below.refl _ _)), (H2s.out.2.2.2.2.1).below (Below.drew (Below.refl _ _)), (H2s.out.2.2.2.2.2.1).below (Below.drew (Below.refl _ _)), (H2s.out.2.2.2.2.2.2.1).below (Below.drew (Below.refl _ _)), (H2s.out.2.2.2.2.2.2.2.1).below (Below.drew (Below.refl _ _)), (H2s.out.2.2.2.2.2.2.2.2.1).below (Below.drew (Below.refl _ _)), (H2s.out.2.2.2.2.2.2.2.2.2.1).below (Below.drew (Below.refl _ _)), trivial⟩
  clear H2s
  go_region_held3 (fun W => Below w2s.heap.size w2s W ∧ W.cell? ⟨w.heap.size, 0, none⟩ = some rsx ∧ W.cell? ⟨w.heap.size, 1, none⟩ = some rsy ∧ W.cell? ⟨w.heap.size, 2, none⟩ = some rsz ∧ W.cell? ⟨w.heap.size + 1, 0, none⟩ = some rtx ∧ W.cell? ⟨w.heap.size + 1, 1, none⟩ = some rty ∧ W.cell? ⟨w.heap.size + 1, 2, none⟩ = some rtz)
    (first | assumption | exact (fun h => ⟨h, HQw2s.out _ h⟩) (Below.drew (Below.refl _ _)) | exact (fun h => ⟨h, HQw2s.out _ h⟩) (below_via (And.left (by assumption)) (by assumption) (Nat.le_refl _)))
    (first
    | (replace H3s := H3s; go_at_call 50; refine (Ftimes f _ _ p xtx xszz H3s.out.2.1 H3s.out.2.2.2.2.2.1 H3s.out.2.2.2.2.2.2.2.2.1 Ltx.out Lszz.out).mono ?_; rintro e w4s ⟨rv, rfl, hrv, hbv⟩; obtain ⟨xv, hxv⟩ : ∃ x, fml p xtx xszz = x := ⟨_, rfl⟩; rw [hxv] at hrv; have Ev : Hid (fml p xtx xszz = xv) := hxv; have Lv : Hid (xv < p) := (by show _ < _; rw [← hxv]; exact fml_lt H3s.out.2.1.2.1); have H4s : Hid (Below W2.heap.size W2 w4s ∧ Fld w4s f p ∧ Nb w4s rsx xsx ∧ Nb w4s rsy xsy ∧ Nb w4s rsz xsz ∧ Nb w4s rtx xtx ∧ Nb w4s rty xty ∧ Nb w4s rtz xtz ∧ Nb w4s rszz xszz ∧ Nb w4s rtzz xtzz ∧ Nb w4s ru xu ∧ Nb w4s rv xv ∧ True) := ⟨below_via H3s.out.1 hbv (Nat.le_refl _), H3s.out.2.1.below hbv, (H3s.out.2.2.1).below hbv, (H3s.out.2.2.2.1).below hbv, (H3s.out.2.2.2.2.1).below hbv, (H3s.out.2.2.2.2.2.1).below hbv, (H3s.out.2.2.2.2.2.2.1).below hbv, (H3s.out.2.2.2.2.2.2.2.1).below hbv, (H3s.out.2.2.2.2.2.2.2.2.1).below hbv, (H3s.out.2.2.2.2.2.2.2.2.2.1).below hbv, (H3s.out.2.2.2.2.2.2.2.2.2.2.1).below hbv, hrv, trivial⟩; clear hrv hxv)
    | (go_at_call 50; refine (Ftimes f _ _ p xsx xtzz HDg2.out.2.1 HDg2.out.2.2.1 HDg2.out.2.2.2.2.2.2.2.2.2.1 Lsx.out Ltzz.out).mono ?_; rintro e w3s ⟨ru, rfl, hru, hbu⟩; obtain ⟨xu, hxu⟩ : ∃ x, fml p xsx xtzz = x := ⟨_, rfl⟩; rw [hxu] at hru; have Eu : Hid (fml p xsx xtzz = xu) := hxu; have Lu : Hid (xu < p) := (by show _ < _; rw [← hxu]; exact fml_lt HDg2.out.2.1.2.1); have H3s : Hid (Below W2.heap.size W2 w3s ∧ Fld w3s f p ∧ Nb w3s rsx xsx ∧ Nb w3s rsy xsy ∧ Nb w3s rsz xsz ∧ Nb w3s rtx xtx ∧ Nb w3s rty xty ∧ Nb w3s rtz xtz ∧ Nb w3s rszz xszz ∧ Nb w3s rtzz xtzz ∧ Nb w3s ru xu ∧ True) := ⟨below_via HDg2.out.1 hbu (Nat.le_refl _), HDg2.out.2.1.below hbu, (HDg2.out.2.2.1).below hbu, (HDg2.out.2.2.2.1).below hbu, (HDg2.out.2.2.2.2.1).below hbu, (HDg2.out.2.2.2.2.2.1).below hbu, (HDg2.out.2.2.2.2.2.2.1).below hbu, (HDg2.out.2.2.2.2.2.2.2.1).below hbu, (HDg2.out.2.2.2.2.2.2.2.2.1).below hbu, (HDg2.out.2.2.2.2.2.2.2.2.2.1).below hbu, hru, trivial⟩; clear hru hxu))
  clear hbu hbv
  have HQw4s : Hid (∀ W3, Below w4s.heap.size w4s W3 → W3.cell? ⟨w.heap.size, 0, none⟩ = some rsx ∧ W3.cell? ⟨w.heap.size, 1, none⟩ = some rsy ∧ W3.cell? ⟨w.heap.size, 2, none⟩ = some rsz ∧ W3.cell? ⟨w.heap.size + 1, 0, none⟩ = some rtx ∧ W3.cell? ⟨w.heap.size + 1, 1, none⟩ = some rty ∧ W3.cell? ⟨w.heap.size + 1, 2, none⟩ = some rtz) := fun W3 h3 => HCs.out _ (below_via H4s.out.1 h3 (Nat.le_refl _))
  go_wp2_with fail
  have HDg4 : Hid (Below W2.heap.size W2 w4s.drew ∧ Fld w4s.drew f p ∧ Nb w4s.drew rsx xsx ∧ Nb w4s.drew rsy xsy ∧ Nb w4s.drew rsz xsz ∧ Nb w4s.drew rtx xtx ∧ Nb w4s.drew rty xty ∧ Nb w4s.drew rtz xtz ∧ Nb w4s.drew rszz xszz ∧ Nb w4s.drew rtzz xtzz ∧ Nb w4s.drew ru xu ∧ Nb w4s.drew rv xv ∧ True) := ⟨Below.drew H4s.out.1, H4s.out.2.1.below (Below.drew (Below.refl _ _)), (H4s.out.2.2.1).below (Below.drew (Below.refl _ _)), (H4s.out.2.2.2.1).below (Below.drew (Below.refl _ _)), (H4s.out.2.2.2.2.1).below (Below.drew (Below.refl _ _)), (H4s.out.2.2.2.2.2.1).below (Below.drew (Below.refl _ _)), (H4s.out.2.2.2.2.2.2.1).below (Below.drew (Below.refl _ _)), (H4s.out.2.2.2.2.2.2.2.1).below (Below.drew (Below.refl _ _)), (H4s.out.2.2.2.2.2.2.2.2.1).below (Below.drew (Below.refl _ _)), (H4s.out.2.2.2.2.2.2.2.2.2.1).below (Below.drew (Below.refl _ _)), (H4s.out.2.2.2.2.2.2.2.2.2.2.1).below (Below.drew (Below.refl _ _)), (H4s.out.2.2.2.2.2.2.2.2.2.2.2.1).below (Below.drew (Below.refl _ _)), trivial⟩
  clear H4s
  go_region_held3 (fun W => Below w4s.heap.size w4s W ∧ W.cell? ⟨w.heap.size, 0, none⟩ = some rsx ∧ W.cell? ⟨w.heap.size, 1, none⟩ = some rsy ∧ W.cell? ⟨w.heap.size, 2, none⟩ = some rsz ∧ W.cell? ⟨w.heap.size + 1, 0, none⟩ = some rtx ∧ W.cell? ⟨w.heap.size + 1, 1, none⟩ = some rty ∧ W.cell? ⟨w.heap.size + 1, 2, none⟩ = some rtz)
    (first | assumption | exact (fun h => ⟨h, HQw4s.out _ h⟩) (Below.drew (Below.refl _ _)) | exact (fun h => ⟨h, HQw4s.out _ h⟩) (below_via (And.left (by assumption)) (by assumption) (Nat.le_refl _)))
    (first
    | (replace H7s := H7s; go_at_call 50; refine (Ftimes f _ _ p xty xq2 H7s.out.2.1 H7s.out.2.2.2.2.2.1 H7s.out.2.2.2.2.2.2.2.2.2.2.1 Lty.out Lq2.out).mono ?_; rintro e w8s ⟨rb, rfl, hrb, hbb⟩; obtain ⟨xb, hxb⟩ : ∃ x, fml p xty xq2 = x := ⟨_, rfl⟩; rw [hxb] at hrb; have Eb : Hid (fml p xty xq2 = xb) := hxb; have Lb : Hid (xb < p) := (by show _ < _; rw [← hxb]; exact fml_lt H7s.out.2.1.2.1); have H8s : Hid (Below W2.heap.size W2 w8s ∧ Fld w8s f p ∧ Nb w8s rsx xsx ∧ Nb w8s rsy xsy ∧ Nb w8s rsz xsz ∧ Nb w8s rtz xtz ∧ Nb w8s ru xu ∧ Nb w8s rv xv ∧ Nb w8s ra xa ∧ Nb w8s rb xb ∧ True) := ⟨below_via H7s.out.1 hbb (Nat.le_refl _), H7s.out.2.1.below hbb, (H7s.out.2.2.1).below hbb, (H7s.out.2.2.2.1).below hbb, (H7s.out.2.2.2.2.1).below hbb, (H7s.out.2.2.2.2.2.2.1).below hbb, (H7s.out.2.2.2.2.2.2.2.1).below hbb, (H7s.out.2.2.2.2.2.2.2.2.1).below hbb, (H7s.out.2.2.2.2.2.2.2.2.2.1).below hbb, hrb, trivial⟩; clear hrb hxb)
    | (replace H6s := H6s; go_at_call 50; refine (Ftimes f _ _ p xsz xszz H6s.out.2.1 H6s.out.2.2.2.2.1 H6s.out.2.2.2.2.2.2.2.1 Lsz.out Lszz.out).mono ?_; rintro e w7s ⟨rq2, rfl, hrq2, hbq2⟩; obtain ⟨xq2, hxq2⟩ : ∃ x, fml p xsz xszz = x := ⟨_, rfl⟩; rw [hxq2] at hrq2; have Eq2 : Hid (fml p xsz xszz = xq2) := hxq2; have Lq2 : Hid (xq2 < p) := (by show _ < _; rw [← hxq2]; exact fml_lt H6s.out.2.1.2.1); have H7s : Hid (Below W2.heap.size W2 w7s ∧ Fld w7s f p ∧ Nb w7s rsx xsx ∧ Nb w7s rsy xsy ∧ Nb w7s rsz xsz ∧ Nb w7s rty xty ∧ Nb w7s rtz xtz ∧ Nb w7s ru xu ∧ Nb w7s rv xv ∧ Nb w7s ra xa ∧ Nb w7s rq2 xq2 ∧ True) := ⟨below_via H6s.out.1 hbq2 (Nat.le_refl _), H6s.out.2.1.below hbq2, (H6s.out.2.2.1).below hbq2, (H6s.out.2.2.2.1).below hbq2, (H6s.out.2.2.2.2.1).below hbq2, (H6s.out.2.2.2.2.2.1).below hbq2, (H6s.out.2.2.2.2.2.2.1).below hbq2, (H6s.out.2.2.2.2.2.2.2.2.1).below hbq2, (H6s.out.2.2.2.2.2.2.2.2.2.1).below hbq2, (H6s.out.2.2.2.2.2.2.2.2.2.2.1).below hbq2, hrq2, trivial⟩; clear hrq2 hxq2)
    | (replace H5s := H5s; go_at_call 50; refine (Ftimes f _ _ p xsy xq1 H5s.out.2.1 H5s.out.2.2.2.1 H5s.out.2.2.2.2.2.2.2.2.2.2.1 Lsy.out Lq1.out).mono ?_; rintro e w6s ⟨ra, rfl, hra, hba⟩; obtain ⟨xa, hxa⟩ : ∃ x, fml p xsy xq1 = x := ⟨_, rfl⟩; rw [hxa] at hra; have Ea : Hid (fml p xsy xq1 = xa) := hxa; have La : Hid (xa < p) := (by show _ < _; rw [← hxa]; exact fml_lt H5s.out.2.1.2.1); have H6s : Hid (Below W2.heap.size W2 w6s ∧ Fld w6s f p ∧ Nb w6s rsx xsx ∧ Nb w6s rsy xsy ∧ Nb w6s rsz xsz ∧ Nb w6s rty xty ∧ Nb w6s rtz xtz ∧ Nb w6s rszz xszz ∧ Nb w6s ru xu ∧ Nb w6s rv xv ∧ Nb w6s ra xa ∧ True) := ⟨below_via H5s.out.1 hba (Nat.le_refl _), H5s.out.2.1.below hba, (H5s.out.2.2.1).below hba, (H5s.out.2.2.2.1).below hba, (H5s.out.2.2.2.2.1).below hba, (H5s.out.2.2.2.2.2.1).below hba, (H5s.out.2.2.2.2.2.2.1).below hba, (H5s.out.2.2.2.2.2.2.2.1).below hba, (H5s.out.2.2.2.2.2.2.2.2.1).below hba, (H5s.out.2.2.2.2.2.2.2.2.2.1).below hba, hra, trivial⟩; clear hra hxa)
    | (go_at_call 50; refine (Ftimes f _ _ p xtz xtzz HDg4.out.2.1 HDg4.out.2.2.2.2.2.2.2.1 HDg4.out.2.2.2.2.2.2.2.2.2.1 Ltz.out Ltzz.out).mono ?_; rintro e w5s ⟨rq1, rfl, hrq1, hbq1⟩; obtain ⟨xq1, hxq1⟩ : ∃ x, fml p xtz xtzz = x := ⟨_, rfl⟩; rw [hxq1] at hrq1; have Eq1 : Hid (fml p xtz xtzz = xq1) := hxq1; have Lq1 : Hid (xq1 < p) := (by show _ < _; rw [← hxq1]; exact fml_lt HDg4.out.2.1.2.1); have H5s : Hid (Below W2.heap.size W2 w5s ∧ Fld w5s f p ∧ Nb w5s rsx xsx ∧ Nb w5s rsy xsy ∧ Nb w5s rsz xsz ∧ Nb w5s rty xty ∧ Nb w5s rtz xtz ∧ Nb w5s rszz xszz ∧ Nb w5s ru xu ∧ Nb w5s rv xv ∧ Nb w5s rq1 xq1 ∧ True) := ⟨below_via HDg4.out.1 hbq1 (Nat.le_refl _), HDg4.out.2.1.below hbq1, (HDg4.out.2.2.1).below hbq1, (HDg4.out.2.2.2.1).below hbq1, (HDg4.out.2.2.2.2.1).below hbq1, (HDg4.out.2.2.2.2.2.2.1).below hbq1, (HDg4.out.2.2.2.2.2.2.2.1).below hbq1, (HDg4.out.2.2.2.2.2.2.2.2.1).below hbq1, (HDg4.out.2.2.2.2.2.2.2.2.2.2.1).below hbq1, (HDg4.out.2.2.2.2.2.2.2.2.2.2.2.1).below hbq1, hrq1, trivial⟩; clear hrq1 hxq1))
  clear hbq1 hba hbq2 hbb
  go_wp2_with fail
  refine (Fminus f _ _ p xv xu H8s.out.2.1 H8s.out.2.2.2.2.2.2.2.1 H8s.out.2.2.2.2.2.2.1 Lv.out Lu.out).mono ?_
  rintro e w9s ⟨rdx, rfl, hr, hb⟩
  obtain ⟨xdx, hx⟩ : ∃ x, fsb p xv xu = x := ⟨_, rfl⟩
  rw [hx] at hr
  have Edx : Hid (fsb p xv xu = xdx) := hx
  have Ldx : Hid (xdx < p) := by show _ < _; rw [← hx]; exact fsb_lt H8s.out.2.1.2.1
  have H9s : Hid (Below W2.heap.size W2 w9s ∧ Fld w9s f p ∧ Nb w9s rsx xsx ∧ Nb w9s rsy xsy ∧ Nb w9s rsz xsz ∧ Nb w9s rtz xtz ∧ Nb w9s ru xu ∧ Nb w9s ra xa ∧ Nb w9s rb xb ∧ Nb w9s rdx xdx ∧ True) := ⟨below_via H8s.out.1 hb (Nat.le_refl _), H8s.out.2.1.below hb, (H8s.out.2.2.1).below hb, (H8s.out.2.2.2.1).below hb, (H8s.out.2.2.2.2.1).below hb, (H8s.out.2.2.2.2.2.1).below hb, (H8s.out.2.2.2.2.2.2.1).below hb, (H8s.out.2.2.2.2.2.2.2.2.1).below hb, (H8s.out.2.2.2.2.2.2.2.2.2.1).below hb, hr, trivial⟩
  clear hr hb hx H8s
  go_wp2_with fail
  refine (Fminus f _ _ p xb xa H9s.out.2.1 H9s.out.2.2.2.2.2.2.2.2.1 H9s.out.2.2.2.2.2.2.2.1 Lb.out La.out).mono ?_
  rintro e w10s ⟨rdy, rfl, hr, hb⟩
  obtain ⟨xdy, hx⟩ : ∃ x, fsb p xb xa = x := ⟨_, rfl⟩
  rw [hx] at hr
  have Edy : Hid (fsb p xb xa = xdy) := hx
  have Ldy : Hid (xdy < p) := by show _ < _; rw [← hx]; exact fsb_lt H9s.out.2.1.2.1
  have H10s : Hid (Below W2.heap.size W2 w10s ∧ Fld w10s f p ∧ Nb w10s rsx xsx ∧ Nb w10s rsy xsy ∧ Nb w10s rsz xsz ∧ Nb w10s rtz xtz ∧ Nb w10s ru xu ∧ Nb w10s ra xa ∧ Nb w10s rdx xdx ∧ Nb w10s rdy xdy ∧ True) := ⟨below_via H9s.out.1 hb (Nat.le_refl _), H9s.out.2.1.below hb, (H9s.out.2.2.1).below hb, (H9s.out.2.2.2.1).below hb, (H9s.out.2.2.2.2.1).below hb, (H9s.out.2.2.2.2.2.1).below hb, (H9s.out.2.2.2.2.2.2.1).below hb, (H9s.out.2.2.2.2.2.2.2.1).below hb, (H9s.out.2.2.2.2.2.2.2.2.2.1).below hb, hr, trivial⟩
  clear hr hb hx H9s
  have HJ3 : Hid (J = (if xdx ≠ 0 then jch p xu xa xdx xdy (fml p xsz xtz) else if xdy ≠ 0 then (0, 0, 0) else jdb p xsx xsy xsz)) := by show _ = _; rw [← HJ.out, HJ2.out]; simp only [Eszz.out, Etzz.out, Eu.out, Ev.out, Eq1.out, Ea.out, Eq2.out, Eb.out, Edx.out, Edy.out]
  clear HJ HJ2
  obtain ⟨adx, cdx, kdx⟩ := (H10s.out.2.2.2.2.2.2.2.2.1).form
  obtain ⟨ady, cdy, kdy⟩ := (H10s.out.2.2.2.2.2.2.2.2.2.1).form
  subst kdx kdy
  by_cases hdx : xdx = 0
  · have hl0 : (lim xdx).length = 0 := lim0.2 hdx
    by_cases hdy : xdy = 0
    · have hl1 : (lim xdy).length = 0 := lim0.2 hdy
      have HT2 : Hid (J = jdb p xsx xsy xsz) := by show _ = _; rw [HJ3.out, if_neg (by simpa using hdx), if_neg (by simpa using hdy)]
      clear HJ3
      obtain ⟨m0, hm0⟩ : ∃ m, (lim xdx).length = m := ⟨_, rfl⟩
      obtain ⟨m1, hm1⟩ : ∃ m, (lim xdy).length = m := ⟨_, rfl⟩
      rw [hm0, hm1]
      rw [hm0] at hl0
      rw [hm1] at hl1
      clear hdx hdy hm0 hm1
      subst hl0 hl1
      go_wp2_with (refine wpList_load_mid rfl 58 (.tmp 4) rfl w.heap.size 0 rfl [rsx, rsy, rsz] _ (HRs.out _ H10s.out.1).1 Try.underlying58 rfl (by kernel_rfl) ?_)
      refine (Tdouble f rsx rsy rsz p xsx xsy xsz H10s.out.2.1 H10s.out.2.2.1 H10s.out.2.2.2.1 H10s.out.2.2.2.2.1 Lsx.out Lsy.out Lsz.out).mono ?_
      rintro e w9 ⟨r0, r1, r2, rfl, hr0, hr1, hr2, hb⟩
      obtain ⟨a0, c0, k0⟩ := hr0.form
      obtain ⟨a1, c1, k1⟩ := hr1.form
      obtain ⟨a2, c2, k2⟩ := hr2.form
      subst k0 k1 k2
      rw [← HT2.out] at hr0 hr1 hr2 ⊢
      have hb9 := below_via H10s.out.1 hb (Nat.le_refl _)
      have hB3 := (H2.out.2 _ hb9).2.2.1
      have d0 : w9.cell? ⟨w.heap.size + 2, 0, none⟩ = some (.slice none 0 0) := hB3.cell 0
      have d1 : w9.cell? ⟨w.heap.size + 2, 1, none⟩ = some (.slice none 0 0) := hB3.cell 1
      have d2 : w9.cell? ⟨w.heap.size + 2, 2, none⟩ = some (.slice none 0 0) := hB3.cell 2
      have g0 := hB3.frozen 0; have g1 := hB3.frozen 1; have g2 := hB3.frozen 2
      obtain ⟨n0, hn0⟩ : ∃ n, (lim J.1).length = n := ⟨_, rfl⟩
      obtain ⟨n1, hn1⟩ : ∃ n, (lim J.2.1).length = n := ⟨_, rfl⟩
      obtain ⟨n2, hn2⟩ : ∃ n, (lim J.2.2).length = n := ⟨_, rfl⟩
      rw [hn0] at hr0 ⊢
      rw [hn1] at hr1 ⊢
      rw [hn2] at hr2 ⊢
      have HF : Hid (Blk 58 w9 (w.heap.size + 2) [.slice none 0 0, .slice none 0 0, .slice none 0 0] ∧ Below w.heap.size w w9 ∧ Nb w9 (.slice a0 n0 c0) J.1 ∧ Nb w9 (.slice a1 n1 c1) J.2.1 ∧ Nb w9 (.slice a2 n2 c2) J.2.2) := ⟨hB3, (H2.out.2 _ hb9).2.2.2, hr0, hr1, hr2⟩
      clear hB3 hb hb9 hr0 hr1 hr2 hn0 hn1 hn2
      go_wp2
      obtain ⟨hF, hU⟩ := Blk.put3 HF.out.1 (.slice a0 n0 c0) (.slice a1 n1 c1) (.slice a2 n2 c2)
      have hbl := hU.below HF.out.2.1 HF.out.2.1.size (by omega)
      exact bodyPost_ret (v := .agg [.slice a0 n0 c0, .slice a1 n1 c1, .slice a2 n2 c2].toArray) (results_blk (b := w.heap.size + 2) (cs := [.slice a0 n0 c0, .slice a1 n1 c1, .slice a2 n2 c2]) rfl rfl hF Try.underlying58 rfl Try.sizeTr) rfl ⟨_, _, _, rfl, HF.out.2.2.1.upd HF.out.1 HN.out hU, HF.out.2.2.2.1.upd HF.out.1 HN.out hU, HF.out.2.2.2.2.upd HF.out.1 HN.out hU, hbl⟩
    · have hl1 : (lim xdy).length ≠ 0 := fun h => hdy (lim0.1 h)
      have HT2 : Hid (J = (0, 0, 0)) := by show _ = _; rw [HJ3.out, if_neg (by simpa using hdx), if_pos hdy]
      clear HJ3
      obtain ⟨m0, hm0⟩ : ∃ m, (lim xdx).length = m := ⟨_, rfl⟩
      obtain ⟨m1, hm1⟩ : ∃ m, (lim xdy).length = m := ⟨_, rfl⟩
      rw [hm0, hm1]
      rw [hm0] at hl0
      rw [hm1] at hl1
      obtain ⟨k1, rfl⟩ : ∃ k, m1 = k + 1 := ⟨m1 - 1, by omega⟩
      have e1 : decide ((0 : Int) < (k1 : Int) + 1) = true := by simp <;> omega
      clear hm0
      subst hl0
      have hB3 := (H2.out.2 _ H10s.out.1).2.2.1
      have d0 : w10s.cell? ⟨w.heap.size + 2, 0, none⟩ = some (.slice none 0 0) := hB3.cell 0
      have d1 : w10s.cell? ⟨w.heap.size + 2, 1, none⟩ = some (.slice none 0 0) := hB3.cell 1
      have d2 : w10s.cell? ⟨w.heap.size + 2, 2, none⟩ = some (.slice none 0 0) := hB3.cell 2
      have g0 := hB3.frozen 0; have g1 := hB3.frozen 1; have g2 := hB3.frozen 2
      have HF : Hid (Blk 58 w10s (w.heap.size + 2) [.slice none 0 0, .slice none 0 0, .slice none 0 0] ∧ Below w.heap.size w w10s) := ⟨hB3, (H2.out.2 _ H10s.out.1).2.2.2⟩
      clear hdx hdy hm1 hl1 hB3
      go_wp2
      obtain ⟨hF, hU⟩ := Blk.put3 HF.out.1 (.slice none 0 0) (.slice none 0 0) (.slice none 0 0)
      have hbl := hU.below HF.out.2 HF.out.2.size (by omega)
      refine bodyPost_ret (v := .agg [.slice none 0 0, .slice none 0 0, .slice none 0 0].toArray) (results_blk (b := w.heap.size + 2) (cs := [.slice none 0 0, .slice none 0 0, .slice none 0 0]) rfl rfl hF Try.underlying58 rfl Try.sizeTr) rfl ⟨_, _, _, rfl, ?_, ?_, ?_, hbl⟩
      all_goals (rw [HT2.out]; exact nil_nb _)
  · have hl0 : (lim xdx).length ≠ 0 := fun h => hdx (lim0.1 h)
    have HT2 : Hid (J = jch p xu xa xdx xdy (fml p xsz xtz)) := by show _ = _; rw [HJ3.out, if_pos hdx]
    clear HJ3
    obtain ⟨m0, hm0⟩ : ∃ m, (lim xdx).length = m := ⟨_, rfl⟩
    have HM : Hid ((lim xdx).length = m0) := hm0
    rw [hm0]
    rw [hm0] at hl0
    clear hm0
    obtain ⟨k0, rfl⟩ : ∃ k, m0 = k + 1 := ⟨m0 - 1, by omega⟩
    have e0 : decide ((0 : Int) < (k0 : Int) + 1) = true := by simp <;> omega
    have k2 := (HCs.out _ H10s.out.1).2.2.1
    have k3 := (HCs.out _ H10s.out.1).2.2.2.2.2
    clear hdx hl0
    go_wp2_with fail
    refine (Ftimes f rsz rtz p xsz xtz H10s.out.2.1 H10s.out.2.2.2.2.1 H10s.out.2.2.2.2.2.1 Lsz.out Ltz.out).mono ?_
    rintro e w8 ⟨rz, rfl, hrz, hb⟩
    have H8 : Hid (Below W2.heap.size W2 w8 ∧ Fld w8 f p ∧ Nb w8 ru xu ∧ Nb w8 ra xa ∧ Nb w8 (.slice adx (k0 + 1) cdx) xdx ∧ Nb w8 (.slice ady (lim xdy).length cdy) xdy ∧ Nb w8 rz (fml p xsz xtz)) := ⟨below_via H10s.out.1 hb (Nat.le_refl _), H10s.out.2.1.below hb, (H10s.out.2.2.2.2.2.2.1).below hb, (H10s.out.2.2.2.2.2.2.2.1).below hb, by rw [← HM.out]; exact (H10s.out.2.2.2.2.2.2.2.2.1).below hb, (H10s.out.2.2.2.2.2.2.2.2.2.1).below hb, hrz⟩
    clear hrz hb k2 k3
    go_wp2_with fail
    refine (Tchord f _ _ _ _ _ p xu xa xdx xdy (fml p xsz xtz) H8.out.2.1 H8.out.2.2.1 H8.out.2.2.2.1 H8.out.2.2.2.2.1 H8.out.2.2.2.2.2.1 H8.out.2.2.2.2.2.2 Lu.out La.out Ldx.out Ldy.out (fml_lt H8.out.2.1.2.1)).mono ?_
    rintro e w9 ⟨r0, r1, r2, rfl, hr0, hr1, hr2, hb⟩
    obtain ⟨a0, c0, k0⟩ := hr0.form
    obtain ⟨a1, c1, k1⟩ := hr1.form
    obtain ⟨a2, c2, k2⟩ := hr2.form
    subst k0 k1 k2
    rw [← HT2.out] at hr0 hr1 hr2 ⊢
    have hb9 := below_via H8.out.1 hb (Nat.le_refl _)
    have hB3 := (H2.out.2 _ hb9).2.2.1
    have d0 : w9.cell? ⟨w.heap.size + 2, 0, none⟩ = some (.slice none 0 0) := hB3.cell 0
    have d1 : w9.cell? ⟨w.heap.size + 2, 1, none⟩ = some (.slice none 0 0) := hB3.cell 1
    have d2 : w9.cell? ⟨w.heap.size + 2, 2, none⟩ = some (.slice none 0 0) := hB3.cell 2
    have g0 := hB3.frozen 0; have g1 := hB3.frozen 1; have g2 := hB3.frozen 2
    obtain ⟨n0, hn0⟩ : ∃ n, (lim J.1).length = n := ⟨_, rfl⟩
    obtain ⟨n1, hn1⟩ : ∃ n, (lim J.2.1).length = n := ⟨_, rfl⟩
    obtain ⟨n2, hn2⟩ : ∃ n, (lim J.2.2).length = n := ⟨_, rfl⟩
    rw [hn0] at hr0 ⊢
    rw [hn1] at hr1 ⊢
    rw [hn2] at hr2 ⊢
    have HF : Hid (Blk 58 w9 (w.heap.size + 2) [.slice none 0 0, .slice none 0 0, .slice none 0 0] ∧ Below w.heap.size w w9 ∧ Nb w9 (.slice a0 n0 c0) J.1 ∧ Nb w9 (.slice a1 n1 c1) J.2.1 ∧ Nb w9 (.slice a2 n2 c2) J.2.2) := ⟨hB3, (H2.out.2 _ hb9).2.2.2, hr0, hr1, hr2⟩
    clear hB3 hb hb9 hr0 hr1 hr2 hn0 hn1 hn2
    go_wp2
    obtain ⟨hF, hU⟩ := Blk.put3 HF.out.1 (.slice a0 n0 c0) (.slice a1 n1 c1) (.slice a2 n2 c2)
    have hbl := hU.below HF.out.2.1 HF.out.2.1.size (by omega)
    exact bodyPost_ret (v := .agg [.slice a0 n0 c0, .slice a1 n1 c1, .slice a2 n2 c2].toArray) (results_blk (b := w.heap.size + 2) (cs := [.slice a0 n0 c0, .slice a1 n1 c1, .slice a2 n2 c2]) rfl rfl hF Try.underlying58 rfl Try.sizeTr) rfl ⟨_, _, _, rfl, HF.out.2.2.1.upd HF.out.1 HN.out hU, HF.out.2.2.2.1.upd HF.out.1 HN.out hU, HF.out.2.2.2.2.upd HF.out.1 HN.out hU, hbl⟩
end Go.Proofs.Ytkdclocjijmgpaa
