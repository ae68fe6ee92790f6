/-
  Ber: check walked.
-/
import Derived.Test.YtefebamomdcaaaaGreatDoorK24
namespace Go.Proofs.YtefebamomdcaaaaGreatDoor
open Go.RowKit
theorem eg_flaw (args : Array Value) (w : World) : (callFunc 96 args).run Tryz.prog w = .ok (.enter 96 args) w := by
  have g1 : ¬ Tryz.f96.name = "runtime.NumGoroutine" := by decide +kernel
  have g2 : Tryz.f96.body.isNone = false := by kernel_rfl
  have g3 : ¬ Tryz.f96.body = none := fun h => by rw [h] at g2; cases g2
  simp [go_sem, callFunc, Tryz.func96, g1, g3]
theorem frG7_7f {ops : Array Oper} {V : Nat → Value} {t : Array Value} {d0 d1 d2 d3 d4 d5 d6 : Nat} (hs : ops.size = 7) (h0 : dstOf ops 0 = some d0) (h1 : dstOf ops 1 = some d1) (h2 : dstOf ops 2 = some d2) (h3 : dstOf ops 3 = some d3) (h4 : dstOf ops 4 = some d4) (h5 : dstOf ops 5 = some d5) (h6 : dstOf ops 6 = some d6) : frF ops V t ops.size = (((((((t.setIfInBounds d0 (V 0)).setIfInBounds d1 (V 1)).setIfInBounds d2 (V 2)).setIfInBounds d3 (V 3)).setIfInBounds d4 (V 4)).setIfInBounds d5 (V 5)).setIfInBounds d6 (V 6)) := by
  rw [hs]
  simp only [frF, h0, h1, h2, h3, h4, h5, h6]
theorem Tryz.sizeQ : (Tryz.prog.info? 167).map (·.size) = some 3 := by kernel_rfl
theorem sea_range {W : World} {T : TypeId} {b : Nat} {Q : List Sea} (h : Blk T W b (seaCells Q)) {i : Nat} (hi : i < Q.length) : W.rangeAt b (i * 3) (cellQ (Q.getD i noSea)) := by
  intro j v hj
  have hl : j < 3 := by
    rcases Nat.lt_or_ge j 3 with h' | h'
    · exact h'
    · rw [List.getElem?_eq_none (by simp [cellQ]; omega)] at hj; cases hj
  rw [h.cell, seaCells_at hi j hl, hj]
def ckE : Option (Int × Nat) → Value
  | none => .nilIface
  | some (er, i) => erV er i
theorem chk_step {L : List Te} {Q : List Sea} {n i : Nat} (h : i < n) {F : Int} (hF : flB (L.getD i noTe) (Q.getD i noSea).1 (Q.getD i noSea).2.2 = F) : chkF L Q (n - i) i = if F ≠ 0 then some (F, i) else chkF L Q (n - (i + 1)) (i + 1) := by
  rw [show n - i = (n - (i + 1)) + 1 by omega, chkF, hF]
set_option maxRecDepth 20000 in
set_option maxHeartbeats 4000000 in
theorem check_any {w : World} (v : Value) (L : List Te) (hv : ElS w v L) (hT : treeB L = true) (hU : ∀ x ∈ L, U8s x.d ∧ x.d.length ≤ 9223372036854775807) :
    Calls Tryz.prog 68 #[v] w fun e w' => e = .returned (ckE (chkB L)) ∧ Below w.heap.size w w' := by
  obtain ⟨O, hO⟩ : ∃ O, chkB L = O := ⟨_, rfl⟩
  rw [hO]
  obtain ⟨n, hn⟩ : ∃ n, L.length = n := ⟨_, rfl⟩
  have hn2 : 0 < n ∧ n ≤ 65536 := by
    have := hT
    cases hL : L with
    | nil => rw [hL] at this; cases this
    | cons x r =>
      rw [hL] at this
      simp only [treeB, Bool.and_eq_true, decide_eq_true_eq] at this
      have h1 := this.1.1.1
      rw [← hL] at h1
      refine ⟨?_, by omega⟩
      rw [← hn, hL]; simp
  obtain ⟨Q, hQ⟩ : ∃ Q, seatsB L = Q := ⟨_, rfl⟩
  have HO : Hid (chkF L Q (n - 0) 0 = O) := by show _ = _; rw [← hO]; unfold chkB; rw [hQ, hn]; rfl
  obtain ⟨a, c, rfl⟩ : ∃ a c, v = .slice a n c := by obtain ⟨a, c, Y, h, _⟩ := hv; exact ⟨a, c, by rw [h, hn]⟩
  have HX : Hid (ElS w (.slice a n c) L ∧ treeB L = true ∧ L.length = n ∧ ∀ x ∈ L, U8s x.d ∧ x.d.length ≤ 9223372036854775807) := ⟨hv, hT, hn, hU⟩
  have hnI : (n : Int) ≤ 65536 := by omega
  have hS := seats_any (.slice a n c) L hv hT
  rw [hQ, hn] at hS
  have HS : Hid (Calls Tryz.prog 95 #[.slice a n c] w fun e w' => e = .returned (.slice (some ⟨w.heap.size, 0, none⟩) n n) ∧ Blk 167 w' w.heap.size (seaCells Q) ∧ Q.length = n ∧ Below w.heap.size w w') := hS
  have hl0 : 0 < L.length := by omega
  obtain ⟨b, o, _, _, _, rfl, hb, _⟩ := hv.at hl0
  clear hO hv hT hn hU hQ hS
  go_enter Tryz.func68, Tryz.ntmps68
  go_wp2_with fail
  refine HS.out.mono ?_
  rintro ev w1 ⟨rfl, hB1, hql, hb1⟩
  obtain ⟨g, hg⟩ : ∃ g, w.heap.size = g := ⟨_, rfl⟩
  have H1 : Hid (Blk 167 w1 g (seaCells Q) ∧ Q.length = n ∧ Below w.heap.size w w1 ∧ w.heap.size = g) := ⟨by rw [← hg]; exact hB1, hql, hb1, hg⟩
  have hgl : g < w1.heap.size := by rw [← hg]; exact hB1.lt
  rw [hg]
  clear hB1 hql hb1 hg
  go_wp2_with fail
  go_loopw [11] (fun iv wr => ∃ i : Nat, iv = .int .i64 (i : Int) ∧ i ≤ n ∧ Below w1.heap.size w1 wr ∧ chkF L Q (n - i) i = O) (fun iv _ => n - (intOf iv).toNat)
  case atStart => exact ⟨0, rfl, Nat.zero_le _, Below.refl _ _, HO.out⟩
  case round =>
    obtain ⟨i, rfl, hi, hB, hC⟩ := hrel
    have H2 : Hid (Below w1.heap.size w1 wr ∧ chkF L Q (n - i) i = O) := ⟨hB, hC⟩
    have hbw : b < wr.heap.size := Nat.lt_of_lt_of_le hb (Nat.le_trans H1.out.2.2.1.size hB.size)
    by_cases hlt : i < n
    · have hltI : (i : Int) < (n : Int) := by omega
      have hltn : i < n := hlt
      have hlL : i < L.length := by have := HX.out.2.2.1; omega
      have hbA : Below w.heap.size w wr := H1.out.2.2.1.trans (hB.mono H1.out.2.2.1.size)
      obtain ⟨b', o', xd, xm, xk, hbo, _, p0, p1, p2, p3, p4, hxs⟩ := (HX.out.1.below hbA).at hlL
      cases hbo
      obtain ⟨x, hx⟩ : ∃ x, L[i] = x := ⟨_, rfl⟩
      have hxg : L.getD i noTe = x := by rw [getD_at hlL, hx]
      have hux := HX.out.2.2.2 L[i] (List.getElem_mem _)
      rw [hx] at p0 p1 p2 p3 hxs hux
      obtain ⟨F, hF⟩ : ∃ F, flB x (Q.getD i noSea).1 (Q.getD i noSea).2.2 = F := ⟨_, rfl⟩
      have hC2 := H2.out.2
      rw [chk_step (F := F) hlt (by rw [hxg]; exact hF)] at hC2
      have HC2 : Hid ((if F ≠ 0 then some (F, i) else chkF L Q (n - (i + 1)) (i + 1)) = O) := hC2
      obtain ⟨q, hq⟩ : ∃ q, Q.getD i noSea = q := ⟨_, rfl⟩
      have hsr := sea_range H1.out.1 (i := i) (by rw [H1.out.2.1]; exact hlt)
      rw [hq] at hF hsr
      have HFW : Hid (∀ W : World, Below wr.heap.size wr W → Calls Tryz.prog 96 #[elV x (.slice xd xm xk), .agg #[.int .i64 q.1, .int .i64 (q.2.1 : Int), .bool q.2.2]] W fun e w' => e = .returned (flE F) ∧ Below W.heap.size W w') := fun W hW => by
        have := flawOf_any x (.slice xd xm xk) q.1 (q.2.1 : Int) q.2.2 (below_sl hW hxs) hux.1 hux.2
        rwa [hF] at this
      obtain ⟨st, wh, mo⟩ := q
      obtain ⟨dp, cl, tg, co, dd⟩ := x
      simp only [] at p0 p1 p2 p3
      have hgr : g < wr.heap.size := Nat.lt_of_lt_of_le hgl hB.size
      have HSR0 : Hid (wr.rangeAt g (i * 3) [.int .i64 st, .int .i64 (wh : Int), .bool mo]) := rng_below hsr hgl hB
      clear hx hxg hux hF hC2 hq hsr hxs hbA hC hB
      go_upto_region 5 with (fail)
      refine wp_gen (fun W => Below wr.heap.size wr W ∧ Blk 59 W wr.heap.size [.int .i64 dp, .int .i64 cl, .int .i64 tg, .bool co, .slice xd xm xk]) ⟨al1 _, Blk.new _ wr _⟩ ?_
      rintro w3 ⟨hb3, hB3⟩
      have HB3 : Hid (Below wr.heap.size wr w3) := hb3
      have HBX : Hid (Blk 59 w3 wr.heap.size [.int .i64 dp, .int .i64 cl, .int .i64 tg, .bool co, .slice xd xm xk]) := hB3
      have hlt3 : wr.heap.size < w3.heap.size := hB3.lt
      have hg3 : g < w3.heap.size := Nat.lt_of_lt_of_le hgr hb3.size
      have HSR : Hid (w3.rangeAt g (i * 3) [.int .i64 st, .int .i64 (wh : Int), .bool mo]) := rng_below HSR0.out hgr hb3
      clear hb3 hB3 p0 p1 p2 p3 p4
      by_cases hF0 : F = 0
      · have HFL : Hid (∀ W : World, Below w3.heap.size w3 W → Calls Tryz.prog 96 #[.agg #[.int .i64 dp, .int .i64 cl, .int .i64 tg, .bool co, .slice xd xm xk], .agg #[.int .i64 st, .int .i64 (wh : Int), .bool mo]] W fun e w' => e = .returned .nilIface ∧ Below W.heap.size W w') := fun W hW => by
          have h1 := HFW.out W (HB3.out.trans (hW.mono HB3.out.size))
          rw [hF0] at h1; exact h1
        have HE : Hid (chkF L Q (n - (i + 1)) (i + 1) = O) := by show _ = _; rw [← HC2.out, if_neg (by simpa using hF0)]
        clear HFW HC2 hF0
        refine wp_region_still (fun k => ([.agg #[.int .i64 dp, .int .i64 cl, .int .i64 tg, .bool co, .slice xd xm xk], .slice (some ⟨g, 0, none⟩) n n, .int .i64 (i : Int), .pointer (some ⟨g, i * 3, none⟩), .agg #[.int .i64 st, .int .i64 (wh : Int), .bool mo], .nilIface, .nilIface] : List Value).getD k undef) (fun W => Below w3.heap.size w3 W) rfl (by decide +kernel) (show dstB _ 29 = true by decide +kernel) (Below.refl _ _).drew (fun W hS => ?_) (fun i L W a hi hno hdep hv hn h0 hS => ?_)
        rotate_left
        · replace hi : i < 7 := hi
          obtain rfl | rfl | rfl | rfl | rfl | rfl | rfl : i = 0 ∨ i = 1 ∨ i = 2 ∨ i = 3 ∨ i = 4 ∨ i = 5 ∨ i = 6 := by omega
          · have x5 : a.eval (.tmp 5) = .pointer (some ⟨wr.heap.size, 0, none⟩) := (h0 5 (by decide +kernel)).trans rfl
            exact rg_load rfl (wn_any rfl) rfl x5 (below_blk hS hlt3 HBX.out).whole Tryz.underlying59 rfl Tryz.sizeE rfl hS
          · have x3 : a.eval (.tmp 3) = .slice (some ⟨g, 0, none⟩) n n := (h0 3 (by decide +kernel)).trans rfl
            exact rg_val rfl (wn_any rfl) (run_mv rfl x3) hS
          · have x4 : a.eval (.tmp 4) = .int .i64 (i : Int) := (h0 4 (by decide +kernel)).trans rfl
            exact rg_val rfl (wn_any rfl) (run_mv rfl x4) hS
          · have e17 : a.eval (.tmp 17) = .slice (some ⟨g, 0, none⟩) n n := hv 1 _ (show 1 < 7 by decide) (hdep 1 (by decide +kernel)) rfl
            have e18 : a.eval (.tmp 18) = .int .i64 (i : Int) := hv 2 _ (show 2 < 7 by decide) (hdep 2 (by decide +kernel)) rfl
            exact rg_val rfl (wn_any rfl) (run_ia (v := .pointer (some ⟨g, i * 3, none⟩)) rfl e17 e18 (by simp [go_sem, Instr.indexAt, hltn])) hS
          · have e19 : a.eval (.tmp 19) = .pointer (some ⟨g, i * 3, none⟩) := hv 3 _ (show 3 < 7 by decide) (hdep 3 (by decide +kernel)) rfl
            exact rg_load rfl (wn_any rfl) rfl e19 (rng_below HSR.out hg3 hS) Tryz.underlying167 rfl Tryz.sizeQ rfl hS
          · have e16 : a.eval (.tmp 16) = .agg #[.int .i64 dp, .int .i64 cl, .int .i64 tg, .bool co, .slice xd xm xk] := hv 0 _ (show 0 < 7 by decide) (hdep 0 (by decide +kernel)) rfl
            have e20 : a.eval (.tmp 20) = .agg #[.int .i64 st, .int .i64 (wh : Int), .bool mo] := hv 4 _ (show 4 < 7 by decide) (hdep 4 (by decide +kernel)) rfl
            exact rg_call rfl (wn_any rfl) (run_cl2 rfl e16 e20 eg_flaw) (R := fun w' => Below W.heap.size W w') (HFL.out W hS) (fun w' h => below_via hS h (Nat.le_refl _))
          · have e21 : a.eval (.tmp 21) = .nilIface := hv 5 _ (show 5 < 7 by decide) (hdep 5 (by decide +kernel)) rfl
            exact rg_val rfl (wn_any rfl) (run_asg rfl e21) hS
        rw [frG7_7f rfl rfl rfl rfl rfl rfl rfl rfl]
        simp only [List.setIfInBounds_toArray, List.set_cons_succ, List.set_cons_zero, List.getD_cons_zero, List.getD_cons_succ]
        have H5 : Hid (Below w3.heap.size w3 W) := hS
        clear hS
        go_wp2
        go_roundw
        case rel => exact ⟨i + 1, by go_num, by omega, (H2.out.1.trans (HB3.out.mono H2.out.1.size)).trans (H5.out.mono (by have := H2.out.1.size; omega)), HE.out⟩
        case measure => simp [intOf]; omega
      · have HFL : Hid (∀ W : World, Below w3.heap.size w3 W → Calls Tryz.prog 96 #[.agg #[.int .i64 dp, .int .i64 cl, .int .i64 tg, .bool co, .slice xd xm xk], .agg #[.int .i64 st, .int .i64 (wh : Int), .bool mo]] W fun e w' => e = .returned (.iface 109 (.agg #[.int .i64 F])) ∧ Below W.heap.size W w') := fun W hW => by
          have h1 := HFW.out W (HB3.out.trans (hW.mono HB3.out.size))
          unfold flE at h1
          rw [if_neg hF0] at h1; exact h1
        have HE : Hid (some (F, i) = O) := by show _ = _; rw [← HC2.out, if_pos hF0]
        clear HFW HC2 hF0
        refine wp_region_still (fun k => ([.agg #[.int .i64 dp, .int .i64 cl, .int .i64 tg, .bool co, .slice xd xm xk], .slice (some ⟨g, 0, none⟩) n n, .int .i64 (i : Int), .pointer (some ⟨g, i * 3, none⟩), .agg #[.int .i64 st, .int .i64 (wh : Int), .bool mo], .iface 109 (.agg #[.int .i64 F]), .iface 109 (.agg #[.int .i64 F])] : List Value).getD k undef) (fun W => Below w3.heap.size w3 W) rfl (by decide +kernel) (show dstB _ 29 = true by decide +kernel) (Below.refl _ _).drew (fun W hS => ?_) (fun i L W a hi hno hdep hv hn h0 hS => ?_)
        rotate_left
        · replace hi : i < 7 := hi
          obtain rfl | rfl | rfl | rfl | rfl | rfl | rfl : i = 0 ∨ i = 1 ∨ i = 2 ∨ i = 3 ∨ i = 4 ∨ i = 5 ∨ i = 6 := by omega
          · have x5 : a.eval (.tmp 5) = .pointer (some ⟨wr.heap.size, 0, none⟩) := (h0 5 (by decide +kernel)).trans rfl
            exact rg_load rfl (wn_any rfl) rfl x5 (below_blk hS hlt3 HBX.out).whole Tryz.underlying59 rfl Tryz.sizeE rfl hS
          · have x3 : a.eval (.tmp 3) = .slice (some ⟨g, 0, none⟩) n n := (h0 3 (by decide +kernel)).trans rfl
            exact rg_val rfl (wn_any rfl) (run_mv rfl x3) hS
          · have x4 : a.eval (.tmp 4) = .int .i64 (i : Int) := (h0 4 (by decide +kernel)).trans rfl
            exact rg_val rfl (wn_any rfl) (run_mv rfl x4) hS
          · have e17 : a.eval (.tmp 17) = .slice (some ⟨g, 0, none⟩) n n := hv 1 _ (show 1 < 7 by decide) (hdep 1 (by decide +kernel)) rfl
            have e18 : a.eval (.tmp 18) = .int .i64 (i : Int) := hv 2 _ (show 2 < 7 by decide) (hdep 2 (by decide +kernel)) rfl
            exact rg_val rfl (wn_any rfl) (run_ia (v := .pointer (some ⟨g, i * 3, none⟩)) rfl e17 e18 (by simp [go_sem, Instr.indexAt, hltn])) hS
          · have e19 : a.eval (.tmp 19) = .pointer (some ⟨g, i * 3, none⟩) := hv 3 _ (show 3 < 7 by decide) (hdep 3 (by decide +kernel)) rfl
            exact rg_load rfl (wn_any rfl) rfl e19 (rng_below HSR.out hg3 hS) Tryz.underlying167 rfl Tryz.sizeQ rfl hS
          · have e16 : a.eval (.tmp 16) = .agg #[.int .i64 dp, .int .i64 cl, .int .i64 tg, .bool co, .slice xd xm xk] := hv 0 _ (show 0 < 7 by decide) (hdep 0 (by decide +kernel)) rfl
            have e20 : a.eval (.tmp 20) = .agg #[.int .i64 st, .int .i64 (wh : Int), .bool mo] := hv 4 _ (show 4 < 7 by decide) (hdep 4 (by decide +kernel)) rfl
            exact rg_call rfl (wn_any rfl) (run_cl2 rfl e16 e20 eg_flaw) (R := fun w' => Below W.heap.size W w') (HFL.out W hS) (fun w' h => below_via hS h (Nat.le_refl _))
          · have e21 : a.eval (.tmp 21) = .iface 109 (.agg #[.int .i64 F]) := hv 5 _ (show 5 < 7 by decide) (hdep 5 (by decide +kernel)) rfl
            exact rg_val rfl (wn_any rfl) (run_asg rfl e21) hS
        rw [frG7_7f rfl rfl rfl rfl rfl rfl rfl rfl]
        simp only [List.setIfInBounds_toArray, List.set_cons_succ, List.set_cons_zero, List.getD_cons_zero, List.getD_cons_succ]
        have H5 : Hid (Below w3.heap.size w3 W) := hS
        clear hS
        go_wp2
        go_ret
        refine ⟨by rw [← HE.out]; rfl, H1.out.2.2.1.trans (((H2.out.1.trans (HB3.out.mono H2.out.1.size)).trans (H5.out.mono (by have := H2.out.1.size; omega))).mono H1.out.2.2.1.size)⟩
    · obtain rfl : i = n := by omega
      have hltI : ¬ (i : Int) < (i : Int) := by omega
      have HE : Hid (none = O) := by show _ = _; rw [← H2.out.2, Nat.sub_self]; rfl
      clear hC hB
      go_wp2
      go_ret
      exact ⟨by rw [← HE.out]; rfl, H1.out.2.2.1.trans (H2.out.1.mono H1.out.2.2.1.size)⟩
end Go.Proofs.YtefebamomdcaaaaGreatDoor
/-
  Ber: the tree with whole strings, element by element; parts of a slice of elements; a call in a region that draws, told by what holds of its answer.
-/
namespace Go.Proofs.YtefebamomdcaaaaGreatDoor
open Go.RowKit
theorem setF_more : ∀ (f : Nat) (R : List Te), R.length ≤ f → setF f R = setF R.length R
  | 0, R, h => by rw [List.eq_nil_of_length_eq_zero (show R.length = 0 by omega)]; rfl
  | f + 1, [], _ => rfl
  | f + 1, x :: r, h => by
    simp only [List.length_cons] at h ⊢
    have hl := (List.dropWhile_sublist (l := r) fun y => decide (x.dp < y.dp)).length_le
    rw [setF, setF]
    split
    · rw [setF_more f (r.dropWhile fun y => decide (x.dp < y.dp)) (by omega), setF_more r.length (r.dropWhile fun y => decide (x.dp < y.dp)) (by omega)]
    · rw [setF_more f r (by omega)]
theorem setL_nil : setL [] = [] := rfl
theorem setL_str {x : Te} {r : List Te} (h : cstr x = true) : setL (x :: r) = ⟨x.dp, x.cl, x.tg, false, setD ⟨x.dp, x.cl, x.tg, false, joinB x.tg (dpr x.dp r)⟩⟩ :: setL (r.dropWhile fun y => decide (x.dp < y.dp)) := by
  have hl := (List.dropWhile_sublist (l := r) fun y => decide (x.dp < y.dp)).length_le
  unfold setL dpr
  rw [List.length_cons, setF, if_pos h, setF_more r.length _ hl]
theorem setL_one {x : Te} {r : List Te} (h : cstr x = false) : setL (x :: r) = ⟨x.dp, x.cl, x.tg, x.co, setD x⟩ :: setL r := by
  unfold setL
  rw [List.length_cons, setF, if_neg (by simp [h])]
/-- How far what is deeper goes. -/
theorem deep_end {d : Int} : ∀ {R : List Te} {k : Nat}, (∀ j, j < k → d < (R.getD j noTe).dp) → k ≤ R.length → (k = R.length ∨ ¬ d < (R.getD k noTe).dp) → dpr d R = R.take k ∧ R.dropWhile (fun y => decide (d < y.dp)) = R.drop k
  | [], k, _, h, _ => by
    obtain rfl : k = 0 := by simpa using h
    exact ⟨rfl, rfl⟩
  | x :: r, 0, _, _, h => by
    have : ¬ d < x.dp := by
      rcases h with h | h
      · simp at h
      · simpa using h
    unfold dpr
    rw [List.takeWhile_cons, if_neg (by simpa using this), List.dropWhile_cons, if_neg (by simpa using this)]
    exact ⟨rfl, rfl⟩
  | x :: r, k + 1, h, hl, he => by
    have h0 : d < x.dp := by simpa using h 0 (by omega)
    have ih := deep_end (d := d) (R := r) (k := k) (fun j hj => by simpa using h (j + 1) (by omega)) (by simpa using hl) (by
      rcases he with he | he
      · left; simpa using he
      · right; simpa using he)
    unfold dpr at ih ⊢
    rw [List.takeWhile_cons, if_pos (by simpa using h0), List.dropWhile_cons, if_pos (by simpa using h0), ih.1, ih.2]
    exact ⟨rfl, rfl⟩
/-- Some of the elements of a slice. -/
theorem ElS.cut {w : World} {b off n c : Nat} {L : List Te} (h : ElS w (.slice (some ⟨b, off, none⟩) n c) L) {i j : Nat} (hij : i ≤ j) (hj : j ≤ L.length) : ElS w (.slice (if c = i then some ⟨b, off, none⟩ else some ⟨b, off + i * 5, none⟩) (j - i) (c - i)) ((L.drop i).take (j - i)) := by
  obtain ⟨a', c', Y, h1, h2, h3, h4, h5⟩ := h
  simp only [Value.slice.injEq] at h1
  obtain ⟨rfl, rfl, rfl⟩ := h1
  have hl : Y.length = L.length := by rw [← h3, List.length_map]
  have hlen : ((L.drop i).take (j - i)).length = j - i := by rw [List.length_take, List.length_drop]; omega
  refine ⟨_, _, (Y.drop i).take (j - i), by rw [hlen], by rw [hlen]; omega, by rw [List.map_take, List.map_drop, h3], ?_, fun y hy => h5 y (List.mem_of_mem_drop (List.mem_of_mem_take hy))⟩
  by_cases h0 : j - i = 0
  · left
    exact List.eq_nil_of_length_eq_zero (by rw [hlen, h0])
  · right
    rcases h4 with h4 | ⟨b', off', h6, h7, h8⟩
    · subst h4; simp at hj; omega
    · simp only [Option.some.injEq, Addr.mk.injEq, and_true] at h6
      obtain ⟨rfl, rfl⟩ := h6
      refine ⟨b, off + i * 5, by rw [if_neg (by omega)], h7, fun k hk => ?_⟩
      rw [hlen] at hk
      have h9 := h8 (i * 5 + k) (by omega)
      rw [Nat.add_assoc, h9]
      have hk5 : k / 5 < j - i := by omega
      have e : k = k / 5 * 5 + k % 5 := by omega
      have e2 : i * 5 + k = (i + k / 5) * 5 + k % 5 := by omega
      rw [e2, elCells_at (by omega) _ (by omega)]
      conv => rhs; rw [e]
      rw [elCells_at (by rw [List.length_take, List.length_drop]; omega) _ (by omega)]
      simp
section
variable {P : Program} {ops : Array Oper} {Q : Exit → Act → World → Prop} {β : Type} {V : β → Nat → Value} {S : β → Array Bool → World → Prop} {i : Nat} {b : β} {L : Array Bool} {a : Act} {W : World}
theorem rg_callx {o : Oper} (ho : ops[i]? = some o) (hw : Region.wanted o (yielded ops a.tmps) = true) {f : FuncId} {vs : Array Value} (hr : (execOp a.eval o).run P W = .ok (.enter f vs) W) {R : Value → World → Prop} (hc : Calls P f vs W fun e w' => ∃ v, e = .returned v ∧ R v w') (bb : Value → β) (hV : ∀ v, V (bb v) i = v) (hk : ∀ v k, k ≠ i → V (bb v) k = V b k) (hS : ∀ v w', R v w' → S (bb v) (L.setIfInBounds i true) w') : DetOp P ops Q V S i b L a W :=
  rg_op ho hw (by
    unfold Oper.wp
    rw [hr]
    refine hc.mono ?_
    rintro e w' ⟨v, rfl, h⟩
    exact ⟨bb v, fun k h1 _ => hk v k h1, by rw [hV]; exact put_dst ho, hS v w' h⟩)
end
section
variable {P : Program} {a : Act} {W : World} {o : Oper} {x y z : Operand}
theorem run_slc {t : TypeId} (hop : o.op = .slice t x (some y) (some z) none) (hk : P.underlying t = some (.slice (P.elem t))) {m : Nat} (hsz : (P.info? (P.elem t)).map (·.size) = some m) {b off n c i j : Nat} (hx : a.eval x = .slice (some ⟨b, off, none⟩) n c) (hy : a.eval y = .int .i64 i) (hz : a.eval z = .int .i64 j) (hij : i ≤ j) (hj : j ≤ c) : (execOp a.eval o).run P W = .ok (.value (.slice (if c = i then some ⟨b, off, none⟩ else some ⟨b, off + i * m, none⟩) (j - i) (c - i))) W := by
  obtain ⟨i0, hi0, hs0⟩ : ∃ i0, P.info? (P.elem t) = some i0 ∧ i0.size = m := by
    cases h : P.info? (P.elem t) with
    | none => rw [h] at hsz; cases hsz
    | some i0 => rw [h] at hsz; exact ⟨i0, rfl, by simpa using hsz⟩
  unfold execOp
  simp only [hop, Option.map_some, Option.map_none, hx, hy, hz, Sem.run_bind]
  rw [run_sliceAt_slice _ _ _ _ _ _ hk, run_slice_lh _ _ _ _ _ hk _ _ _ _ (by omega) (by omega) (by omega)]
  have hso : (sizeOf (P.elem t)).run P W = .ok m W := by
    generalize P.elem t = E at hi0
    simp [sizeOf, typeInfo, hi0, hs0]
  rw [hso]
  have ha : (if i * m = 0 then (⟨b, off, none⟩ : Addr) else ⟨b, off + i * m, none⟩) = ⟨b, off + i * m, none⟩ := by
    split
    · rename_i h; rw [h]; rfl
    · rfl
  simp [sliced, Addr.add, go_sem, ha]
end
end Go.Proofs.YtefebamomdcaaaaGreatDoor
