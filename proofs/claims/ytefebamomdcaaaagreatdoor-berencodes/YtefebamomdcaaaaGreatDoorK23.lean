/-
  Ber: what is wrong with an element, walked.
-/
import Derived.Test.YtefebamomdcaaaaGreatDoorK22
namespace Go.Proofs.YtefebamomdcaaaaGreatDoor
open Go.RowKit
theorem eg_seg (args : Array Value) (w : World) : (callFunc 115 args).run Tryz.prog w = .ok (.enter 115 args) w := by
  have g1 : ¬ Tryz.f115.name = "runtime.NumGoroutine" := by decide +kernel
  have g2 : Tryz.f115.body.isNone = false := by kernel_rfl
  have g3 : ¬ Tryz.f115.body = none := fun h => by rw [h] at g2; cases g2
  simp [go_sem, callFunc, Tryz.func115, g1, g3]
theorem eg_is (args : Array Value) (w : World) : (callFunc 100 args).run Tryz.prog w = .ok (.enter 100 args) w := by
  have g1 : ¬ Tryz.f100.name = "runtime.NumGoroutine" := by decide +kernel
  have g2 : Tryz.f100.body.isNone = false := by kernel_rfl
  have g3 : ¬ Tryz.f100.body = none := fun h => by rw [h] at g2; cases g2
  simp [go_sem, callFunc, Tryz.func100, g1, g3]
theorem frG12_fff {ops : Array Oper} {V : Nat → Value} {t : Array Value} {d0 d1 d2 d3 d4 d5 d6 d7 d8 d9 d10 d11 : Nat} (hs : ops.size = 12) (h0 : dstOf ops 0 = some d0) (h1 : dstOf ops 1 = some d1) (h2 : dstOf ops 2 = some d2) (h3 : dstOf ops 3 = some d3) (h4 : dstOf ops 4 = some d4) (h5 : dstOf ops 5 = some d5) (h6 : dstOf ops 6 = some d6) (h7 : dstOf ops 7 = some d7) (h8 : dstOf ops 8 = some d8) (h9 : dstOf ops 9 = some d9) (h10 : dstOf ops 10 = some d10) (h11 : dstOf ops 11 = some d11) : frF ops V t ops.size = ((((((((((((t.setIfInBounds d0 (V 0)).setIfInBounds d1 (V 1)).setIfInBounds d2 (V 2)).setIfInBounds d3 (V 3)).setIfInBounds d4 (V 4)).setIfInBounds d5 (V 5)).setIfInBounds d6 (V 6)).setIfInBounds d7 (V 7)).setIfInBounds d8 (V 8)).setIfInBounds d9 (V 9)).setIfInBounds d10 (V 10)).setIfInBounds d11 (V 11)) := by
  rw [hs]
  simp only [frF, h0, h1, h2, h3, h4, h5, h6, h7, h8, h9, h10, h11]
def flE (n : Int) : Value := if n = 0 then .nilIface else flV n
/-- Behind the first test: the element is no segment, or one as it must be. -/
theorem flB_on {x : Te} {st : Int} {mo : Bool} (h : ¬ (st ≠ 0 ∧ isB x (sgT st) = false)) : flB x st mo = if x.cl ≠ 0 then 0 else if kdB x.tg = 0 then 30
  else if (kdB x.tg = 2 ∧ x.co = false) ∨ (kdB x.tg = 1 ∧ x.co = true) then 34 else if x.co = true then 0
  else if formB x.tg x.d = false ∨ (mo = true ∧ spareB x = true) then 6 else 0 := by unfold flB; rw [if_neg h]
theorem kdB_cases (t : Int) : kdB t = 0 ∨ kdB t = 1 ∨ kdB t = 2 ∨ kdB t = 3 := by
  unfold kdB
  split
  · omega
  split
  · omega
  split <;> omega
theorem retV {a b : Value} (h : a = b) : Ending.returned a = .returned b := by rw [h]
set_option maxRecDepth 20000 in
set_option maxHeartbeats 4000000 in
theorem flawOf_any {w : World} (x : Te) (s : Value) (st wh : Int) (mo : Bool) (hv : Sl .u8 w s x.d) (uD : U8s x.d) (hl : x.d.length ≤ 9223372036854775807) :
    Calls Tryz.prog 96 #[elV x s, .agg #[.int .i64 st, .int .i64 wh, .bool mo]] w fun e w' => e = .returned (flE (flB x st mo)) ∧ Below w.heap.size w w' := by
  obtain ⟨F, hF⟩ : ∃ F, flB x st mo = F := ⟨_, rfl⟩
  have HFF : Hid (flB x st mo = F) := hF
  rw [hF]
  clear hF
  obtain ⟨dp, cl, tg, co, d⟩ := x
  obtain ⟨sa, sn, sc, rfl⟩ : ∃ a n c, s = .slice a n c := by obtain ⟨a, c, h, _⟩ := hv; exact ⟨a, _, c, h⟩
  simp only [] at hv uD hl
  have HX : Hid (Sl .u8 w (.slice sa sn sc) d ∧ U8s d ∧ d.length ≤ 9223372036854775807) := ⟨hv, uD, hl⟩
  clear hv uD hl
  by_cases hbad : st ≠ 0 ∧ isB ⟨dp, cl, tg, co, d⟩ (sgT st) = false
  · have HE : Hid (flE 30 = flE F) := by show _ = _; rw [← HFF.out]; unfold flB; rw [if_pos hbad]
    obtain ⟨hst, hi⟩ := hbad
    have HI : Hid (∀ W : World, Calls Tryz.prog 100 #[.agg #[.int .i64 dp, .int .i64 cl, .int .i64 tg, .bool co, .slice sa sn sc], .int .i64 (sgT st)] W fun e w' => e = .returned (.bool false) ∧ Below W.heap.size W w') := fun W => by have := is_any (w := W) ⟨dp, cl, tg, co, d⟩ (.slice sa sn sc) (sgT st); rwa [hi] at this
    clear hi
    go_enter Tryz.func96, Tryz.ntmps96
    go_upto_region 1 with (fail)
    refine wp_gen (fun W => Blk 59 W w.heap.size [.int .i64 dp, .int .i64 cl, .int .i64 tg, .bool co, .slice sa sn sc] ∧ Blk 167 W (w.heap.size + 1) [.int .i64 st, .int .i64 wh, .bool mo] ∧ Below w.heap.size w W) ⟨(Blk.new _ w _).alloc _, blk_nw (by simp) rfl, al2' (al1 _)⟩ ?_
    rintro w3 ⟨hB1, hB2, hb3⟩
    have HB1 : Hid (Blk 59 w3 w.heap.size [.int .i64 dp, .int .i64 cl, .int .i64 tg, .bool co, .slice sa sn sc]) := hB1
    have HB2 : Hid (Blk 167 w3 (w.heap.size + 1) [.int .i64 st, .int .i64 wh, .bool mo]) := hB2
    have HB3 : Hid (Below w.heap.size w w3) := hb3
    have hl1 := hB1.lt
    have hl2 := hB2.lt
    clear hB1 hB2 hb3
    refine wp_region_still (fun k => ([.pointer (some ⟨w.heap.size + 1, 0, none⟩), .int .i64 st, .bool true, .bool true, .agg #[.int .i64 dp, .int .i64 cl, .int .i64 tg, .bool co, .slice sa sn sc], .pointer (some ⟨w.heap.size + 1, 0, none⟩), .int .i64 st, .int .i64 (sgT st), .bool false, .bool true, .bool true, .bool true] : List Value).getD k undef) (fun W => Below w3.heap.size w3 W) rfl (by decide +kernel) (show dstB _ 66 = true by decide +kernel) (Below.refl _ _).drew (fun W hS => ?_) (fun i L W a hi hno hdep hv hn h0 hS => ?_)
    rotate_left
    · replace hi : i < 12 := hi
      obtain rfl | rfl | rfl | rfl | rfl | rfl | rfl | rfl | rfl | rfl | rfl | rfl : i = 0 ∨ i = 1 ∨ i = 2 ∨ i = 3 ∨ i = 4 ∨ i = 5 ∨ i = 6 ∨ i = 7 ∨ i = 8 ∨ i = 9 ∨ i = 10 ∨ i = 11 := by omega
      · have x3 : a.eval (.tmp 3) = .pointer (some ⟨w.heap.size + 1, 0, none⟩) := (h0 3 (by decide +kernel)).trans rfl
        exact rg_val rfl (wn_any rfl) (run_fa (v := .pointer (some ⟨w.heap.size + 1, 0, none⟩)) rfl x3 (by simp [go_sem, Instr.fieldAt])) hS
      · have cs : W.cell? ⟨w.heap.size + 1, 0, none⟩ = some (.int .i64 st) := (hS.cell (p := ⟨w.heap.size + 1, 0, none⟩) hl2).trans (HB2.out.cell 0)
        have e7 : a.eval (.tmp 7) = .pointer (some ⟨w.heap.size + 1, 0, none⟩) := hv 0 _ (show 0 < 12 by decide) (hdep 0 (by decide +kernel)) rfl
        exact rg_val rfl (wn_any rfl) (run_ld (v := .int .i64 st) rfl e7 (by simp [go_sem, Instr.loadAt, cs])) hS
      · have e8 : a.eval (.tmp 8) = .int .i64 st := hv 1 _ (show 1 < 12 by decide) (hdep 1 (by decide +kernel)) rfl
        exact rg_val rfl (wn_any rfl) (run_bin (v := .bool true) rfl e8 rfl (by simp [go_sem, hst])) hS
      · have e9 : a.eval (.tmp 9) = .bool true := hv 2 _ (show 2 < 12 by decide) (hdep 2 (by decide +kernel)) rfl
        exact rg_val rfl (wn_any rfl) (run_mv rfl e9) hS
      · have g4 : a.eval (.tmp 10) = .bool true := hv 3 _ (show 3 < 12 by decide) (hdep 3 (by decide +kernel)) rfl
        have x2 : a.eval (.tmp 2) = .pointer (some ⟨w.heap.size, 0, none⟩) := (h0 2 (by decide +kernel)).trans rfl
        exact rg_load rfl (wn_yes rfl rfl g4) rfl x2 (below_blk hS hl1 HB1.out).whole Tryz.underlying59 rfl Tryz.sizeE rfl hS
      · have g5 : a.eval (.tmp 10) = .bool true := hv 3 _ (show 3 < 12 by decide) (hdep 3 (by decide +kernel)) rfl
        have x3 : a.eval (.tmp 3) = .pointer (some ⟨w.heap.size + 1, 0, none⟩) := (h0 3 (by decide +kernel)).trans rfl
        exact rg_val rfl (wn_yes rfl rfl g5) (run_fa (v := .pointer (some ⟨w.heap.size + 1, 0, none⟩)) rfl x3 (by simp [go_sem, Instr.fieldAt])) hS
      · have cs : W.cell? ⟨w.heap.size + 1, 0, none⟩ = some (.int .i64 st) := (hS.cell (p := ⟨w.heap.size + 1, 0, none⟩) hl2).trans (HB2.out.cell 0)
        have g6 : a.eval (.tmp 10) = .bool true := hv 3 _ (show 3 < 12 by decide) (hdep 3 (by decide +kernel)) rfl
        have e12 : a.eval (.tmp 12) = .pointer (some ⟨w.heap.size + 1, 0, none⟩) := hv 5 _ (show 5 < 12 by decide) (hdep 5 (by decide +kernel)) rfl
        exact rg_val rfl (wn_yes rfl rfl g6) (run_ld (v := .int .i64 st) rfl e12 (by simp [go_sem, Instr.loadAt, cs])) hS
      · have g7 : a.eval (.tmp 10) = .bool true := hv 3 _ (show 3 < 12 by decide) (hdep 3 (by decide +kernel)) rfl
        have e13 : a.eval (.tmp 13) = .int .i64 st := hv 6 _ (show 6 < 12 by decide) (hdep 6 (by decide +kernel)) rfl
        exact rg_call rfl (wn_yes rfl rfl g7) (run_cl1 rfl e13 eg_seg) (R := fun w' => W = w') (sgT_any st) (fun w' h => by subst h; exact hS)
      · have g8 : a.eval (.tmp 10) = .bool true := hv 3 _ (show 3 < 12 by decide) (hdep 3 (by decide +kernel)) rfl
        have e11 : a.eval (.tmp 11) = .agg #[.int .i64 dp, .int .i64 cl, .int .i64 tg, .bool co, .slice sa sn sc] := hv 4 _ (show 4 < 12 by decide) (hdep 4 (by decide +kernel)) rfl
        have e14 : a.eval (.tmp 14) = .int .i64 (sgT st) := hv 7 _ (show 7 < 12 by decide) (hdep 7 (by decide +kernel)) rfl
        exact rg_call rfl (wn_yes rfl rfl g8) (run_cl2 rfl e11 e14 eg_is) (R := fun w' => Below W.heap.size W w') (HI.out W) (fun w' h => below_via hS h (Nat.le_refl _))
      · have g9 : a.eval (.tmp 10) = .bool true := hv 3 _ (show 3 < 12 by decide) (hdep 3 (by decide +kernel)) rfl
        have e15 : a.eval (.tmp 15) = .bool false := hv 8 _ (show 8 < 12 by decide) (hdep 8 (by decide +kernel)) rfl
        exact rg_val rfl (wn_yes rfl rfl g9) (run_un (v := .bool true) rfl e15 (by simp [go_sem])) hS
      · have e10 : a.eval (.tmp 10) = .bool true := hv 3 _ (show 3 < 12 by decide) (hdep 3 (by decide +kernel)) rfl
        have e16 : a.eval (.tmp 16) = .bool true := hv 9 _ (show 9 < 12 by decide) (hdep 9 (by decide +kernel)) rfl
        exact rg_val rfl (wn_any rfl) (run_pk rfl e10 e16 rfl rfl) hS
      · have e17 : a.eval (.tmp 17) = .bool true := hv 10 _ (show 10 < 12 by decide) (hdep 10 (by decide +kernel)) rfl
        exact rg_val rfl (wn_any rfl) (run_asg rfl e17) hS
    rw [frG12_fff rfl rfl rfl rfl rfl rfl rfl rfl rfl rfl rfl rfl rfl]
    simp only [List.setIfInBounds_toArray, List.set_cons_succ, List.set_cons_zero, List.getD_cons_zero, List.getD_cons_succ]
    have HW : Hid (Below w3.heap.size w3 W) := hS
    clear hS
    go_wp2
    go_ret
    exact ⟨retV HE.out, HB3.out.trans (HW.out.mono HB3.out.size)⟩
  · have HON := flB_on (mo := mo) hbad
    rw [HFF.out] at HON
    simp only [] at HON
    have HON2 : Hid (F = if cl ≠ 0 then 0 else if kdB tg = 0 then 30 else if (kdB tg = 2 ∧ co = false) ∨ (kdB tg = 1 ∧ co = true) then 34 else if co = true then 0 else if formB tg d = false ∨ (mo = true ∧ spareB ⟨dp, cl, tg, co, d⟩ = true) then 6 else 0) := HON
    clear HON
    by_cases hst : st = 0
    · have HS0 : Hid (st = 0) := hst
      clear hbad hst
      go_enter Tryz.func96, Tryz.ntmps96
      go_upto_region 1 with (fail)
      refine wp_gen (fun W => Blk 59 W w.heap.size [.int .i64 dp, .int .i64 cl, .int .i64 tg, .bool co, .slice sa sn sc] ∧ Blk 167 W (w.heap.size + 1) [.int .i64 st, .int .i64 wh, .bool mo] ∧ Below w.heap.size w W) ⟨(Blk.new _ w _).alloc _, blk_nw (by simp) rfl, al2' (al1 _)⟩ ?_
      rintro w3 ⟨hB1, hB2, hb3⟩
      have HB1 : Hid (Blk 59 w3 w.heap.size [.int .i64 dp, .int .i64 cl, .int .i64 tg, .bool co, .slice sa sn sc]) := hB1
      have HB2 : Hid (Blk 167 w3 (w.heap.size + 1) [.int .i64 st, .int .i64 wh, .bool mo]) := hB2
      have HB3 : Hid (Below w.heap.size w w3) := hb3
      have hl1 := hB1.lt
      have hl2 := hB2.lt
      clear hB1 hB2 hb3
      refine wp_region_still (fun k => ([.pointer (some ⟨w.heap.size + 1, 0, none⟩), .int .i64 st, .bool false, .bool false, undef, undef, undef, undef, undef, undef, .bool false, .bool false] : List Value).getD k undef) (fun W => Below w3.heap.size w3 W) rfl (by decide +kernel) (show dstB _ 66 = true by decide +kernel) (Below.refl _ _).drew (fun W hS => ?_) (fun i L W a hi hno hdep hv hn h0 hS => ?_)
      rotate_left
      · replace hi : i < 12 := hi
        obtain rfl | rfl | rfl | rfl | rfl | rfl | rfl | rfl | rfl | rfl | rfl | rfl : i = 0 ∨ i = 1 ∨ i = 2 ∨ i = 3 ∨ i = 4 ∨ i = 5 ∨ i = 6 ∨ i = 7 ∨ i = 8 ∨ i = 9 ∨ i = 10 ∨ i = 11 := by omega
        · have x3 : a.eval (.tmp 3) = .pointer (some ⟨w.heap.size + 1, 0, none⟩) := (h0 3 (by decide +kernel)).trans rfl
          exact rg_val rfl (wn_any rfl) (run_fa (v := .pointer (some ⟨w.heap.size + 1, 0, none⟩)) rfl x3 (by simp [go_sem, Instr.fieldAt])) hS
        · have cs : W.cell? ⟨w.heap.size + 1, 0, none⟩ = some (.int .i64 st) := (hS.cell (p := ⟨w.heap.size + 1, 0, none⟩) hl2).trans (HB2.out.cell 0)
          have e7 : a.eval (.tmp 7) = .pointer (some ⟨w.heap.size + 1, 0, none⟩) := hv 0 _ (show 0 < 12 by decide) (hdep 0 (by decide +kernel)) rfl
          exact rg_val rfl (wn_any rfl) (run_ld (v := .int .i64 st) rfl e7 (by simp [go_sem, Instr.loadAt, cs])) hS
        · have e8 : a.eval (.tmp 8) = .int .i64 st := hv 1 _ (show 1 < 12 by decide) (hdep 1 (by decide +kernel)) rfl
          exact rg_val rfl (wn_any rfl) (run_bin (v := .bool false) rfl e8 rfl (by simp [go_sem, HS0.out])) hS
        · have e9 : a.eval (.tmp 9) = .bool false := hv 2 _ (show 2 < 12 by decide) (hdep 2 (by decide +kernel)) rfl
          exact rg_val rfl (wn_any rfl) (run_mv rfl e9) hS
        · have g4 : a.eval (.tmp 10) = .bool false := hv 3 _ (show 3 < 12 by decide) (hdep 3 (by decide +kernel)) rfl
          exact rg_skip rfl (wn_no rfl rfl g4) rfl hS
        · have g5 : a.eval (.tmp 10) = .bool false := hv 3 _ (show 3 < 12 by decide) (hdep 3 (by decide +kernel)) rfl
          exact rg_skip rfl (wn_no rfl rfl g5) rfl hS
        · have g6 : a.eval (.tmp 10) = .bool false := hv 3 _ (show 3 < 12 by decide) (hdep 3 (by decide +kernel)) rfl
          exact rg_skip rfl (wn_no rfl rfl g6) rfl hS
        · have g7 : a.eval (.tmp 10) = .bool false := hv 3 _ (show 3 < 12 by decide) (hdep 3 (by decide +kernel)) rfl
          exact rg_skip rfl (wn_no rfl rfl g7) rfl hS
        · have g8 : a.eval (.tmp 10) = .bool false := hv 3 _ (show 3 < 12 by decide) (hdep 3 (by decide +kernel)) rfl
          exact rg_skip rfl (wn_no rfl rfl g8) rfl hS
        · have g9 : a.eval (.tmp 10) = .bool false := hv 3 _ (show 3 < 12 by decide) (hdep 3 (by decide +kernel)) rfl
          exact rg_skip rfl (wn_no rfl rfl g9) rfl hS
        · have e10 : a.eval (.tmp 10) = .bool false := hv 3 _ (show 3 < 12 by decide) (hdep 3 (by decide +kernel)) rfl
          have e16 : a.eval (.tmp 16) = undef := hv 9 _ (show 9 < 12 by decide) (hdep 9 (by decide +kernel)) rfl
          exact rg_val rfl (wn_any rfl) (run_pk rfl e10 e16 rfl rfl) hS
        · have e17 : a.eval (.tmp 17) = .bool false := hv 10 _ (show 10 < 12 by decide) (hdep 10 (by decide +kernel)) rfl
          exact rg_val rfl (wn_any rfl) (run_asg rfl e17) hS
      rw [frG12_fff rfl rfl rfl rfl rfl rfl rfl rfl rfl rfl rfl rfl rfl]
      simp only [List.setIfInBounds_toArray, List.set_cons_succ, List.set_cons_zero, List.getD_cons_zero, List.getD_cons_succ]
      have HW : Hid (Below w3.heap.size w3 W) := hS
      clear hS
      have d0 : W.cell? ⟨w.heap.size, 0, none⟩ = some (.int .i64 dp) := (HW.out.cell (p := ⟨w.heap.size, 0, none⟩) hl1).trans (HB1.out.cell 0)
      have d1 : W.cell? ⟨w.heap.size, 1, none⟩ = some (.int .i64 cl) := (HW.out.cell (p := ⟨w.heap.size, 1, none⟩) hl1).trans (HB1.out.cell 1)
      have d2 : W.cell? ⟨w.heap.size, 2, none⟩ = some (.int .i64 tg) := (HW.out.cell (p := ⟨w.heap.size, 2, none⟩) hl1).trans (HB1.out.cell 2)
      have d3 : W.cell? ⟨w.heap.size, 3, none⟩ = some (.bool co) := (HW.out.cell (p := ⟨w.heap.size, 3, none⟩) hl1).trans (HB1.out.cell 3)
      have d4 : W.cell? ⟨w.heap.size, 4, none⟩ = some (.slice sa sn sc) := (HW.out.cell (p := ⟨w.heap.size, 4, none⟩) hl1).trans (HB1.out.cell 4)
      have m2 : W.cell? ⟨w.heap.size + 1, 2, none⟩ = some (.bool mo) := (HW.out.cell (p := ⟨w.heap.size + 1, 2, none⟩) hl2).trans (HB2.out.cell 2)
      have HBW : Hid (Below w.heap.size w W) := HB3.out.trans (HW.out.mono HB3.out.size)
      have hs := below_sl HBW.out HX.out.1
      have HF : Hid (∀ q, formB tg d = q → Calls Tryz.prog 117 #[.int .i64 tg, .slice sa sn sc] W fun e w' => e = .returned (.bool q) ∧ W = w') := fun q hq => by have := formed_any tg _ d hs HX.out.2.1 HX.out.2.2; rwa [hq] at this
      have HP : Hid (∀ q, spareB ⟨dp, cl, tg, co, d⟩ = q → (tg = 3 → 0 < d.length) → Calls Tryz.prog 118 #[.agg #[.int .i64 dp, .int .i64 cl, .int .i64 tg, .bool co, .slice sa sn sc]] W fun e w' => e = .returned (.bool q) ∧ Below W.heap.size W w') := fun q hq h3 => by have := spare_any ⟨dp, cl, tg, co, d⟩ (.slice sa sn sc) hs HX.out.2.1 HX.out.2.2 h3; rwa [hq] at this
      have HKD : Hid (∀ q, kdB tg = q → Calls Tryz.prog 116 #[.int .i64 tg] W fun e w' => e = .returned (.int .i64 q) ∧ W = w') := fun q hq => by have := kind_any (w := W) tg; rwa [hq] at this
      clear hs
      by_cases hc : cl ≠ 0
      · have hcb : (cl != 0) = true := by simpa using hc
        have HV : Hid ((0 : Int) = F) := by
          show _ = _
          rw [HON2.out, if_pos hc]
        clear hc
        go_wp2
        go_ret
        exact ⟨retV (congrArg flE HV.out), HBW.out⟩
      obtain rfl : cl = 0 := Classical.not_not.1 hc
      clear hc
      rcases kdB_cases tg with hk | hk | hk | hk
      · have HK : Hid (Calls Tryz.prog 116 #[.int .i64 tg] W fun e w' => e = .returned (.int .i64 0) ∧ W = w') := HKD.out 0 hk
        rw [hk] at HON2
        have HV : Hid ((30 : Int) = F) := by
          show _ = _
          rw [HON2.out, if_neg (by simp), if_pos rfl]
        clear hk
        go_wp2_with (go_at_call 116; refine HK.out.mono ?_; rintro e w4 ⟨rfl, rfl⟩)
        go_ret
        exact ⟨retV (congrArg flE HV.out), HBW.out⟩
      · have HK : Hid (Calls Tryz.prog 116 #[.int .i64 tg] W fun e w' => e = .returned (.int .i64 1) ∧ W = w') := HKD.out 1 hk
        rw [hk] at HON2
        clear hk
        cases co with
        | true =>
          have HV : Hid ((34 : Int) = F) := by
            show _ = _
            rw [HON2.out, if_neg (by simp), if_neg (by omega), if_pos (by simp)]
          go_wp2_with (go_at_call 116; refine HK.out.mono ?_; rintro e w4 ⟨rfl, rfl⟩)
          go_ret
          exact ⟨retV (congrArg flE HV.out), HBW.out⟩
        | false =>
          cases hf : formB tg d with
          | false =>
            have HFm : Hid (Calls Tryz.prog 117 #[.int .i64 tg, .slice sa sn sc] W fun e w' => e = .returned (.bool false) ∧ W = w') := HF.out false hf
            have HV : Hid ((6 : Int) = F) := by
              show _ = _
              rw [HON2.out, if_neg (by simp), if_neg (by omega), if_neg (by simp), if_neg (by simp), if_pos (.inl hf)]
            clear hf
            go_wp2_with (first | (go_at_call 116; refine HK.out.mono ?_; rintro e w4 ⟨rfl, rfl⟩) | (go_at_call 117; refine HFm.out.mono ?_; rintro e w4 ⟨rfl, rfl⟩))
            go_ret
            exact ⟨retV (congrArg flE HV.out), HBW.out⟩
          | true =>
            have HFm : Hid (Calls Tryz.prog 117 #[.int .i64 tg, .slice sa sn sc] W fun e w' => e = .returned (.bool true) ∧ W = w') := HF.out true hf
            cases mo with
            | false =>
              have HV : Hid ((0 : Int) = F) := by
                show _ = _
                rw [HON2.out, if_neg (by simp), if_neg (by omega), if_neg (by simp), if_neg (by simp), if_neg (by simp [hf])]
              clear hf
              go_wp2_with (first | (go_at_call 116; refine HK.out.mono ?_; rintro e w4 ⟨rfl, rfl⟩) | (go_at_call 117; refine HFm.out.mono ?_; rintro e w4 ⟨rfl, rfl⟩))
              go_ret
              exact ⟨retV (congrArg flE HV.out), HBW.out⟩
            | true =>
              have h3 : tg = 3 → 0 < d.length := fun h => by
                subst h
                simp only [formB, bitF] at hf
                simp at hf
                omega
              cases hsp : spareB ⟨dp, 0, tg, false, d⟩ with
              | true =>
                have HSp : Hid (Calls Tryz.prog 118 #[.agg #[.int .i64 dp, .int .i64 0, .int .i64 tg, .bool false, .slice sa sn sc]] W fun e w' => e = .returned (.bool true) ∧ Below W.heap.size W w') := HP.out true hsp h3
                have HV : Hid ((6 : Int) = F) := by
                  show _ = _
                  rw [HON2.out, if_neg (by simp), if_neg (by omega), if_neg (by simp), if_neg (by simp), if_pos (.inr ⟨rfl, hsp⟩)]
                clear hf hsp h3
                go_wp2_with (first | (go_at_call 116; refine HK.out.mono ?_; rintro e w4 ⟨rfl, rfl⟩) | (go_at_call 117; refine HFm.out.mono ?_; rintro e w4 ⟨rfl, rfl⟩) | (go_at_call 118; refine HSp.out.mono ?_; rintro e w5 ⟨rfl, hb5⟩; have H5 : Hid (Below W.heap.size W w5) := hb5; clear hb5))
                go_ret
                exact ⟨retV (congrArg flE HV.out), HBW.out.trans (H5.out.mono HBW.out.size)⟩
              | false =>
                have HSp : Hid (Calls Tryz.prog 118 #[.agg #[.int .i64 dp, .int .i64 0, .int .i64 tg, .bool false, .slice sa sn sc]] W fun e w' => e = .returned (.bool false) ∧ Below W.heap.size W w') := HP.out false hsp h3
                have HV : Hid ((0 : Int) = F) := by
                  show _ = _
                  rw [HON2.out, if_neg (by simp), if_neg (by omega), if_neg (by simp), if_neg (by simp), if_neg (by simp [hf, hsp])]
                clear hf hsp h3
                go_wp2_with (first | (go_at_call 116; refine HK.out.mono ?_; rintro e w4 ⟨rfl, rfl⟩) | (go_at_call 117; refine HFm.out.mono ?_; rintro e w4 ⟨rfl, rfl⟩) | (go_at_call 118; refine HSp.out.mono ?_; rintro e w5 ⟨rfl, hb5⟩; have H5 : Hid (Below W.heap.size W w5) := hb5; clear hb5))
                go_ret
                exact ⟨retV (congrArg flE HV.out), HBW.out.trans (H5.out.mono HBW.out.size)⟩
      · have HK : Hid (Calls Tryz.prog 116 #[.int .i64 tg] W fun e w' => e = .returned (.int .i64 2) ∧ W = w') := HKD.out 2 hk
        rw [hk] at HON2
        clear hk
        cases co with
        | false =>
          have HV : Hid ((34 : Int) = F) := by
            show _ = _
            rw [HON2.out, if_neg (by simp), if_neg (by omega), if_pos (by simp)]
          go_wp2_with (go_at_call 116; refine HK.out.mono ?_; rintro e w4 ⟨rfl, rfl⟩)
          go_ret
          exact ⟨retV (congrArg flE HV.out), HBW.out⟩
        | true =>
          have HV : Hid ((0 : Int) = F) := by
            show _ = _
            rw [HON2.out, if_neg (by simp), if_neg (by omega), if_neg (by simp), if_pos rfl]
          go_wp2_with (go_at_call 116; refine HK.out.mono ?_; rintro e w4 ⟨rfl, rfl⟩)
          go_ret
          exact ⟨retV (congrArg flE HV.out), HBW.out⟩
      · have HK : Hid (Calls Tryz.prog 116 #[.int .i64 tg] W fun e w' => e = .returned (.int .i64 3) ∧ W = w') := HKD.out 3 hk
        rw [hk] at HON2
        clear hk
        cases co with
        | true =>
          have HV : Hid ((0 : Int) = F) := by
            show _ = _
            rw [HON2.out, if_neg (by simp), if_neg (by omega), if_neg (by simp), if_pos rfl]
          go_wp2_with (go_at_call 116; refine HK.out.mono ?_; rintro e w4 ⟨rfl, rfl⟩)
          go_ret
          exact ⟨retV (congrArg flE HV.out), HBW.out⟩
        | false =>
          cases hf : formB tg d with
          | false =>
            have HFm : Hid (Calls Tryz.prog 117 #[.int .i64 tg, .slice sa sn sc] W fun e w' => e = .returned (.bool false) ∧ W = w') := HF.out false hf
            have HV : Hid ((6 : Int) = F) := by
              show _ = _
              rw [HON2.out, if_neg (by simp), if_neg (by omega), if_neg (by simp), if_neg (by simp), if_pos (.inl hf)]
            clear hf
            go_wp2_with (first | (go_at_call 116; refine HK.out.mono ?_; rintro e w4 ⟨rfl, rfl⟩) | (go_at_call 117; refine HFm.out.mono ?_; rintro e w4 ⟨rfl, rfl⟩))
            go_ret
            exact ⟨retV (congrArg flE HV.out), HBW.out⟩
          | true =>
            have HFm : Hid (Calls Tryz.prog 117 #[.int .i64 tg, .slice sa sn sc] W fun e w' => e = .returned (.bool true) ∧ W = w') := HF.out true hf
            cases mo with
            | false =>
              have HV : Hid ((0 : Int) = F) := by
                show _ = _
                rw [HON2.out, if_neg (by simp), if_neg (by omega), if_neg (by simp), if_neg (by simp), if_neg (by simp [hf])]
              clear hf
              go_wp2_with (first | (go_at_call 116; refine HK.out.mono ?_; rintro e w4 ⟨rfl, rfl⟩) | (go_at_call 117; refine HFm.out.mono ?_; rintro e w4 ⟨rfl, rfl⟩))
              go_ret
              exact ⟨retV (congrArg flE HV.out), HBW.out⟩
            | true =>
              have h3 : tg = 3 → 0 < d.length := fun h => by
                subst h
                simp only [formB, bitF] at hf
                simp at hf
                omega
              cases hsp : spareB ⟨dp, 0, tg, false, d⟩ with
              | true =>
                have HSp : Hid (Calls Tryz.prog 118 #[.agg #[.int .i64 dp, .int .i64 0, .int .i64 tg, .bool false, .slice sa sn sc]] W fun e w' => e = .returned (.bool true) ∧ Below W.heap.size W w') := HP.out true hsp h3
                have HV : Hid ((6 : Int) = F) := by
                  show _ = _
                  rw [HON2.out, if_neg (by simp), if_neg (by omega), if_neg (by simp), if_neg (by simp), if_pos (.inr ⟨rfl, hsp⟩)]
                clear hf hsp h3
                go_wp2_with (first | (go_at_call 116; refine HK.out.mono ?_; rintro e w4 ⟨rfl, rfl⟩) | (go_at_call 117; refine HFm.out.mono ?_; rintro e w4 ⟨rfl, rfl⟩) | (go_at_call 118; refine HSp.out.mono ?_; rintro e w5 ⟨rfl, hb5⟩; have H5 : Hid (Below W.heap.size W w5) := hb5; clear hb5))
                go_ret
                exact ⟨retV (congrArg flE HV.out), HBW.out.trans (H5.out.mono HBW.out.size)⟩
              | false =>
                have HSp : Hid (Calls Tryz.prog 118 #[.agg #[.int .i64 dp, .int .i64 0, .int .i64 tg, .bool false, .slice sa sn sc]] W fun e w' => e = .returned (.bool false) ∧ Below W.heap.size W w') := HP.out false hsp h3
                have HV : Hid ((0 : Int) = F) := by
                  show _ = _
                  rw [HON2.out, if_neg (by simp), if_neg (by omega), if_neg (by simp), if_neg (by simp), if_neg (by simp [hf, hsp])]
                clear hf hsp h3
                go_wp2_with (first | (go_at_call 116; refine HK.out.mono ?_; rintro e w4 ⟨rfl, rfl⟩) | (go_at_call 117; refine HFm.out.mono ?_; rintro e w4 ⟨rfl, rfl⟩) | (go_at_call 118; refine HSp.out.mono ?_; rintro e w5 ⟨rfl, hb5⟩; have H5 : Hid (Below W.heap.size W w5) := hb5; clear hb5))
                go_ret
                exact ⟨retV (congrArg flE HV.out), HBW.out.trans (H5.out.mono HBW.out.size)⟩
    · have hi : isB ⟨dp, cl, tg, co, d⟩ (sgT st) = true := by
        cases h : isB ⟨dp, cl, tg, co, d⟩ (sgT st) with
        | true => rfl
        | false => exact absurd ⟨hst, h⟩ hbad
      have HI : Hid (∀ W : World, Calls Tryz.prog 100 #[.agg #[.int .i64 dp, .int .i64 cl, .int .i64 tg, .bool co, .slice sa sn sc], .int .i64 (sgT st)] W fun e w' => e = .returned (.bool true) ∧ Below W.heap.size W w') := fun W => by have := is_any (w := W) ⟨dp, cl, tg, co, d⟩ (.slice sa sn sc) (sgT st); rwa [hi] at this
      clear hi hbad
      go_enter Tryz.func96, Tryz.ntmps96
      go_upto_region 1 with (fail)
      refine wp_gen (fun W => Blk 59 W w.heap.size [.int .i64 dp, .int .i64 cl, .int .i64 tg, .bool co, .slice sa sn sc] ∧ Blk 167 W (w.heap.size + 1) [.int .i64 st, .int .i64 wh, .bool mo] ∧ Below w.heap.size w W) ⟨(Blk.new _ w _).alloc _, blk_nw (by simp) rfl, al2' (al1 _)⟩ ?_
      rintro w3 ⟨hB1, hB2, hb3⟩
      have HB1 : Hid (Blk 59 w3 w.heap.size [.int .i64 dp, .int .i64 cl, .int .i64 tg, .bool co, .slice sa sn sc]) := hB1
      have HB2 : Hid (Blk 167 w3 (w.heap.size + 1) [.int .i64 st, .int .i64 wh, .bool mo]) := hB2
      have HB3 : Hid (Below w.heap.size w w3) := hb3
      have hl1 := hB1.lt
      have hl2 := hB2.lt
      clear hB1 hB2 hb3
      refine wp_region_still (fun k => ([.pointer (some ⟨w.heap.size + 1, 0, none⟩), .int .i64 st, .bool true, .bool true, .agg #[.int .i64 dp, .int .i64 cl, .int .i64 tg, .bool co, .slice sa sn sc], .pointer (some ⟨w.heap.size + 1, 0, none⟩), .int .i64 st, .int .i64 (sgT st), .bool true, .bool false, .bool false, .bool false] : List Value).getD k undef) (fun W => Below w3.heap.size w3 W) rfl (by decide +kernel) (show dstB _ 66 = true by decide +kernel) (Below.refl _ _).drew (fun W hS => ?_) (fun i L W a hi hno hdep hv hn h0 hS => ?_)
      rotate_left
      · replace hi : i < 12 := hi
        obtain rfl | rfl | rfl | rfl | rfl | rfl | rfl | rfl | rfl | rfl | rfl | rfl : i = 0 ∨ i = 1 ∨ i = 2 ∨ i = 3 ∨ i = 4 ∨ i = 5 ∨ i = 6 ∨ i = 7 ∨ i = 8 ∨ i = 9 ∨ i = 10 ∨ i = 11 := by omega
        · have x3 : a.eval (.tmp 3) = .pointer (some ⟨w.heap.size + 1, 0, none⟩) := (h0 3 (by decide +kernel)).trans rfl
          exact rg_val rfl (wn_any rfl) (run_fa (v := .pointer (some ⟨w.heap.size + 1, 0, none⟩)) rfl x3 (by simp [go_sem, Instr.fieldAt])) hS
        · have cs : W.cell? ⟨w.heap.size + 1, 0, none⟩ = some (.int .i64 st) := (hS.cell (p := ⟨w.heap.size + 1, 0, none⟩) hl2).trans (HB2.out.cell 0)
          have e7 : a.eval (.tmp 7) = .pointer (some ⟨w.heap.size + 1, 0, none⟩) := hv 0 _ (show 0 < 12 by decide) (hdep 0 (by decide +kernel)) rfl
          exact rg_val rfl (wn_any rfl) (run_ld (v := .int .i64 st) rfl e7 (by simp [go_sem, Instr.loadAt, cs])) hS
        · have e8 : a.eval (.tmp 8) = .int .i64 st := hv 1 _ (show 1 < 12 by decide) (hdep 1 (by decide +kernel)) rfl
          exact rg_val rfl (wn_any rfl) (run_bin (v := .bool true) rfl e8 rfl (by simp [go_sem, hst])) hS
        · have e9 : a.eval (.tmp 9) = .bool true := hv 2 _ (show 2 < 12 by decide) (hdep 2 (by decide +kernel)) rfl
          exact rg_val rfl (wn_any rfl) (run_mv rfl e9) hS
        · have g4 : a.eval (.tmp 10) = .bool true := hv 3 _ (show 3 < 12 by decide) (hdep 3 (by decide +kernel)) rfl
          have x2 : a.eval (.tmp 2) = .pointer (some ⟨w.heap.size, 0, none⟩) := (h0 2 (by decide +kernel)).trans rfl
          exact rg_load rfl (wn_yes rfl rfl g4) rfl x2 (below_blk hS hl1 HB1.out).whole Tryz.underlying59 rfl Tryz.sizeE rfl hS
        · have g5 : a.eval (.tmp 10) = .bool true := hv 3 _ (show 3 < 12 by decide) (hdep 3 (by decide +kernel)) rfl
          have x3 : a.eval (.tmp 3) = .pointer (some ⟨w.heap.size + 1, 0, none⟩) := (h0 3 (by decide +kernel)).trans rfl
          exact rg_val rfl (wn_yes rfl rfl g5) (run_fa (v := .pointer (some ⟨w.heap.size + 1, 0, none⟩)) rfl x3 (by simp [go_sem, Instr.fieldAt])) hS
        · have cs : W.cell? ⟨w.heap.size + 1, 0, none⟩ = some (.int .i64 st) := (hS.cell (p := ⟨w.heap.size + 1, 0, none⟩) hl2).trans (HB2.out.cell 0)
          have g6 : a.eval (.tmp 10) = .bool true := hv 3 _ (show 3 < 12 by decide) (hdep 3 (by decide +kernel)) rfl
          have e12 : a.eval (.tmp 12) = .pointer (some ⟨w.heap.size + 1, 0, none⟩) := hv 5 _ (show 5 < 12 by decide) (hdep 5 (by decide +kernel)) rfl
          exact rg_val rfl (wn_yes rfl rfl g6) (run_ld (v := .int .i64 st) rfl e12 (by simp [go_sem, Instr.loadAt, cs])) hS
        · have g7 : a.eval (.tmp 10) = .bool true := hv 3 _ (show 3 < 12 by decide) (hdep 3 (by decide +kernel)) rfl
          have e13 : a.eval (.tmp 13) = .int .i64 st := hv 6 _ (show 6 < 12 by decide) (hdep 6 (by decide +kernel)) rfl
          exact rg_call rfl (wn_yes rfl rfl g7) (run_cl1 rfl e13 eg_seg) (R := fun w' => W = w') (sgT_any st) (fun w' h => by subst h; exact hS)
        · have g8 : a.eval (.tmp 10) = .bool true := hv 3 _ (show 3 < 12 by decide) (hdep 3 (by decide +kernel)) rfl
          have e11 : a.eval (.tmp 11) = .agg #[.int .i64 dp, .int .i64 cl, .int .i64 tg, .bool co, .slice sa sn sc] := hv 4 _ (show 4 < 12 by decide) (hdep 4 (by decide +kernel)) rfl
          have e14 : a.eval (.tmp 14) = .int .i64 (sgT st) := hv 7 _ (show 7 < 12 by decide) (hdep 7 (by decide +kernel)) rfl
          exact rg_call rfl (wn_yes rfl rfl g8) (run_cl2 rfl e11 e14 eg_is) (R := fun w' => Below W.heap.size W w') (HI.out W) (fun w' h => below_via hS h (Nat.le_refl _))
        · have g9 : a.eval (.tmp 10) = .bool true := hv 3 _ (show 3 < 12 by decide) (hdep 3 (by decide +kernel)) rfl
          have e15 : a.eval (.tmp 15) = .bool true := hv 8 _ (show 8 < 12 by decide) (hdep 8 (by decide +kernel)) rfl
          exact rg_val rfl (wn_yes rfl rfl g9) (run_un (v := .bool false) rfl e15 (by simp [go_sem])) hS
        · have e10 : a.eval (.tmp 10) = .bool true := hv 3 _ (show 3 < 12 by decide) (hdep 3 (by decide +kernel)) rfl
          have e16 : a.eval (.tmp 16) = .bool false := hv 9 _ (show 9 < 12 by decide) (hdep 9 (by decide +kernel)) rfl
          exact rg_val rfl (wn_any rfl) (run_pk rfl e10 e16 rfl rfl) hS
        · have e17 : a.eval (.tmp 17) = .bool false := hv 10 _ (show 10 < 12 by decide) (hdep 10 (by decide +kernel)) rfl
          exact rg_val rfl (wn_any rfl) (run_asg rfl e17) hS
      rw [frG12_fff rfl rfl rfl rfl rfl rfl rfl rfl rfl rfl rfl rfl rfl]
      simp only [List.setIfInBounds_toArray, List.set_cons_succ, List.set_cons_zero, List.getD_cons_zero, List.getD_cons_succ]
      have HW : Hid (Below w3.heap.size w3 W) := hS
      clear hS
      have d0 : W.cell? ⟨w.heap.size, 0, none⟩ = some (.int .i64 dp) := (HW.out.cell (p := ⟨w.heap.size, 0, none⟩) hl1).trans (HB1.out.cell 0)
      have d1 : W.cell? ⟨w.heap.size, 1, none⟩ = some (.int .i64 cl) := (HW.out.cell (p := ⟨w.heap.size, 1, none⟩) hl1).trans (HB1.out.cell 1)
      have d2 : W.cell? ⟨w.heap.size, 2, none⟩ = some (.int .i64 tg) := (HW.out.cell (p := ⟨w.heap.size, 2, none⟩) hl1).trans (HB1.out.cell 2)
      have d3 : W.cell? ⟨w.heap.size, 3, none⟩ = some (.bool co) := (HW.out.cell (p := ⟨w.heap.size, 3, none⟩) hl1).trans (HB1.out.cell 3)
      have d4 : W.cell? ⟨w.heap.size, 4, none⟩ = some (.slice sa sn sc) := (HW.out.cell (p := ⟨w.heap.size, 4, none⟩) hl1).trans (HB1.out.cell 4)
      have m2 : W.cell? ⟨w.heap.size + 1, 2, none⟩ = some (.bool mo) := (HW.out.cell (p := ⟨w.heap.size + 1, 2, none⟩) hl2).trans (HB2.out.cell 2)
      have HBW : Hid (Below w.heap.size w W) := HB3.out.trans (HW.out.mono HB3.out.size)
      have hs := below_sl HBW.out HX.out.1
      have HF : Hid (∀ q, formB tg d = q → Calls Tryz.prog 117 #[.int .i64 tg, .slice sa sn sc] W fun e w' => e = .returned (.bool q) ∧ W = w') := fun q hq => by have := formed_any tg _ d hs HX.out.2.1 HX.out.2.2; rwa [hq] at this
      have HP : Hid (∀ q, spareB ⟨dp, cl, tg, co, d⟩ = q → (tg = 3 → 0 < d.length) → Calls Tryz.prog 118 #[.agg #[.int .i64 dp, .int .i64 cl, .int .i64 tg, .bool co, .slice sa sn sc]] W fun e w' => e = .returned (.bool q) ∧ Below W.heap.size W w') := fun q hq h3 => by have := spare_any ⟨dp, cl, tg, co, d⟩ (.slice sa sn sc) hs HX.out.2.1 HX.out.2.2 h3; rwa [hq] at this
      have HKD : Hid (∀ q, kdB tg = q → Calls Tryz.prog 116 #[.int .i64 tg] W fun e w' => e = .returned (.int .i64 q) ∧ W = w') := fun q hq => by have := kind_any (w := W) tg; rwa [hq] at this
      clear hs
      by_cases hc : cl ≠ 0
      · have hcb : (cl != 0) = true := by simpa using hc
        have HV : Hid ((0 : Int) = F) := by
          show _ = _
          rw [HON2.out, if_pos hc]
        clear hc
        go_wp2
        go_ret
        exact ⟨retV (congrArg flE HV.out), HBW.out⟩
      obtain rfl : cl = 0 := Classical.not_not.1 hc
      clear hc
      rcases kdB_cases tg with hk | hk | hk | hk
      · have HK : Hid (Calls Tryz.prog 116 #[.int .i64 tg] W fun e w' => e = .returned (.int .i64 0) ∧ W = w') := HKD.out 0 hk
        rw [hk] at HON2
        have HV : Hid ((30 : Int) = F) := by
          show _ = _
          rw [HON2.out, if_neg (by simp), if_pos rfl]
        clear hk
        go_wp2_with (go_at_call 116; refine HK.out.mono ?_; rintro e w4 ⟨rfl, rfl⟩)
        go_ret
        exact ⟨retV (congrArg flE HV.out), HBW.out⟩
      · have HK : Hid (Calls Tryz.prog 116 #[.int .i64 tg] W fun e w' => e = .returned (.int .i64 1) ∧ W = w') := HKD.out 1 hk
        rw [hk] at HON2
        clear hk
        cases co with
        | true =>
          have HV : Hid ((34 : Int) = F) := by
            show _ = _
            rw [HON2.out, if_neg (by simp), if_neg (by omega), if_pos (by simp)]
          go_wp2_with (go_at_call 116; refine HK.out.mono ?_; rintro e w4 ⟨rfl, rfl⟩)
          go_ret
          exact ⟨retV (congrArg flE HV.out), HBW.out⟩
        | false =>
          cases hf : formB tg d with
          | false =>
            have HFm : Hid (Calls Tryz.prog 117 #[.int .i64 tg, .slice sa sn sc] W fun e w' => e = .returned (.bool false) ∧ W = w') := HF.out false hf
            have HV : Hid ((6 : Int) = F) := by
              show _ = _
              rw [HON2.out, if_neg (by simp), if_neg (by omega), if_neg (by simp), if_neg (by simp), if_pos (.inl hf)]
            clear hf
            go_wp2_with (first | (go_at_call 116; refine HK.out.mono ?_; rintro e w4 ⟨rfl, rfl⟩) | (go_at_call 117; refine HFm.out.mono ?_; rintro e w4 ⟨rfl, rfl⟩))
            go_ret
            exact ⟨retV (congrArg flE HV.out), HBW.out⟩
          | true =>
            have HFm : Hid (Calls Tryz.prog 117 #[.int .i64 tg, .slice sa sn sc] W fun e w' => e = .returned (.bool true) ∧ W = w') := HF.out true hf
            cases mo with
            | false =>
              have HV : Hid ((0 : Int) = F) := by
                show _ = _
                rw [HON2.out, if_neg (by simp), if_neg (by omega), if_neg (by simp), if_neg (by simp), if_neg (by simp [hf])]
              clear hf
              go_wp2_with (first | (go_at_call 116; refine HK.out.mono ?_; rintro e w4 ⟨rfl, rfl⟩) | (go_at_call 117; refine HFm.out.mono ?_; rintro e w4 ⟨rfl, rfl⟩))
              go_ret
              exact ⟨retV (congrArg flE HV.out), HBW.out⟩
            | true =>
              have h3 : tg = 3 → 0 < d.length := fun h => by
                subst h
                simp only [formB, bitF] at hf
                simp at hf
                omega
              cases hsp : spareB ⟨dp, 0, tg, false, d⟩ with
              | true =>
                have HSp : Hid (Calls Tryz.prog 118 #[.agg #[.int .i64 dp, .int .i64 0, .int .i64 tg, .bool false, .slice sa sn sc]] W fun e w' => e = .returned (.bool true) ∧ Below W.heap.size W w') := HP.out true hsp h3
                have HV : Hid ((6 : Int) = F) := by
                  show _ = _
                  rw [HON2.out, if_neg (by simp), if_neg (by omega), if_neg (by simp), if_neg (by simp), if_pos (.inr ⟨rfl, hsp⟩)]
                clear hf hsp h3
                go_wp2_with (first | (go_at_call 116; refine HK.out.mono ?_; rintro e w4 ⟨rfl, rfl⟩) | (go_at_call 117; refine HFm.out.mono ?_; rintro e w4 ⟨rfl, rfl⟩) | (go_at_call 118; refine HSp.out.mono ?_; rintro e w5 ⟨rfl, hb5⟩; have H5 : Hid (Below W.heap.size W w5) := hb5; clear hb5))
                go_ret
                exact ⟨retV (congrArg flE HV.out), HBW.out.trans (H5.out.mono HBW.out.size)⟩
              | false =>
                have HSp : Hid (Calls Tryz.prog 118 #[.agg #[.int .i64 dp, .int .i64 0, .int .i64 tg, .bool false, .slice sa sn sc]] W fun e w' => e = .returned (.bool false) ∧ Below W.heap.size W w') := HP.out false hsp h3
                have HV : Hid ((0 : Int) = F) := by
                  show _ = _
                  rw [HON2.out, if_neg (by simp), if_neg (by omega), if_neg (by simp), if_neg (by simp), if_neg (by simp [hf, hsp])]
                clear hf hsp h3
                go_wp2_with (first | (go_at_call 116; refine HK.out.mono ?_; rintro e w4 ⟨rfl, rfl⟩) | (go_at_call 117; refine HFm.out.mono ?_; rintro e w4 ⟨rfl, rfl⟩) | (go_at_call 118; refine HSp.out.mono ?_; rintro e w5 ⟨rfl, hb5⟩; have H5 : Hid (Below W.heap.size W w5) := hb5; clear hb5))
                go_ret
                exact ⟨retV (congrArg flE HV.out), HBW.out.trans (H5.out.mono HBW.out.size)⟩
      · have HK : Hid (Calls Tryz.prog 116 #[.int .i64 tg] W fun e w' => e = .returned (.int .i64 2) ∧ W = w') := HKD.out 2 hk
        rw [hk] at HON2
        clear hk
        cases co with
        | false =>
          have HV : Hid ((34 : Int) = F) := by
            show _ = _
            rw [HON2.out, if_neg (by simp), if_neg (by omega), if_pos (by simp)]
          go_wp2_with (go_at_call 116; refine HK.out.mono ?_; rintro e w4 ⟨rfl, rfl⟩)
          go_ret
          exact ⟨retV (congrArg flE HV.out), HBW.out⟩
        | true =>
          have HV : Hid ((0 : Int) = F) := by
            show _ = _
            rw [HON2.out, if_neg (by simp), if_neg (by omega), if_neg (by simp), if_pos rfl]
          go_wp2_with (go_at_call 116; refine HK.out.mono ?_; rintro e w4 ⟨rfl, rfl⟩)
          go_ret
          exact ⟨retV (congrArg flE HV.out), HBW.out⟩
      · have HK : Hid (Calls Tryz.prog 116 #[.int .i64 tg] W fun e w' => e = .returned (.int .i64 3) ∧ W = w') := HKD.out 3 hk
        rw [hk] at HON2
        clear hk
        cases co with
        | true =>
          have HV : Hid ((0 : Int) = F) := by
            show _ = _
            rw [HON2.out, if_neg (by simp), if_neg (by omega), if_neg (by simp), if_pos rfl]
          go_wp2_with (go_at_call 116; refine HK.out.mono ?_; rintro e w4 ⟨rfl, rfl⟩)
          go_ret
          exact ⟨retV (congrArg flE HV.out), HBW.out⟩
        | false =>
          cases hf : formB tg d with
          | false =>
            have HFm : Hid (Calls Tryz.prog 117 #[.int .i64 tg, .slice sa sn sc] W fun e w' => e = .returned (.bool false) ∧ W = w') := HF.out false hf
            have HV : Hid ((6 : Int) = F) := by
              show _ = _
              rw [HON2.out, if_neg (by simp), if_neg (by omega), if_neg (by simp), if_neg (by simp), if_pos (.inl hf)]
            clear hf
            go_wp2_with (first | (go_at_call 116; refine HK.out.mono ?_; rintro e w4 ⟨rfl, rfl⟩) | (go_at_call 117; refine HFm.out.mono ?_; rintro e w4 ⟨rfl, rfl⟩))
            go_ret
            exact ⟨retV (congrArg flE HV.out), HBW.out⟩
          | true =>
            have HFm : Hid (Calls Tryz.prog 117 #[.int .i64 tg, .slice sa sn sc] W fun e w' => e = .returned (.bool true) ∧ W = w') := HF.out true hf
            cases mo with
            | false =>
              have HV : Hid ((0 : Int) = F) := by
                show _ = _
                rw [HON2.out, if_neg (by simp), if_neg (by omega), if_neg (by simp), if_neg (by simp), if_neg (by simp [hf])]
              clear hf
              go_wp2_with (first | (go_at_call 116; refine HK.out.mono ?_; rintro e w4 ⟨rfl, rfl⟩) | (go_at_call 117; refine HFm.out.mono ?_; rintro e w4 ⟨rfl, rfl⟩))
              go_ret
              exact ⟨retV (congrArg flE HV.out), HBW.out⟩
            | true =>
              have h3 : tg = 3 → 0 < d.length := fun h => by
                subst h
                simp only [formB, bitF] at hf
                simp at hf
                omega
              cases hsp : spareB ⟨dp, 0, tg, false, d⟩ with
              | true =>
                have HSp : Hid (Calls Tryz.prog 118 #[.agg #[.int .i64 dp, .int .i64 0, .int .i64 tg, .bool false, .slice sa sn sc]] W fun e w' => e = .returned (.bool true) ∧ Below W.heap.size W w') := HP.out true hsp h3
                have HV : Hid ((6 : Int) = F) := by
                  show _ = _
                  rw [HON2.out, if_neg (by simp), if_neg (by omega), if_neg (by simp), if_neg (by simp), if_pos (.inr ⟨rfl, hsp⟩)]
                clear hf hsp h3
                go_wp2_with (first | (go_at_call 116; refine HK.out.mono ?_; rintro e w4 ⟨rfl, rfl⟩) | (go_at_call 117; refine HFm.out.mono ?_; rintro e w4 ⟨rfl, rfl⟩) | (go_at_call 118; refine HSp.out.mono ?_; rintro e w5 ⟨rfl, hb5⟩; have H5 : Hid (Below W.heap.size W w5) := hb5; clear hb5))
                go_ret
                exact ⟨retV (congrArg flE HV.out), HBW.out.trans (H5.out.mono HBW.out.size)⟩
              | false =>
                have HSp : Hid (Calls Tryz.prog 118 #[.agg #[.int .i64 dp, .int .i64 0, .int .i64 tg, .bool false, .slice sa sn sc]] W fun e w' => e = .returned (.bool false) ∧ Below W.heap.size W w') := HP.out false hsp h3
                have HV : Hid ((0 : Int) = F) := by
                  show _ = _
                  rw [HON2.out, if_neg (by simp), if_neg (by omega), if_neg (by simp), if_neg (by simp), if_neg (by simp [hf, hsp])]
                clear hf hsp h3
                go_wp2_with (first | (go_at_call 116; refine HK.out.mono ?_; rintro e w4 ⟨rfl, rfl⟩) | (go_at_call 117; refine HFm.out.mono ?_; rintro e w4 ⟨rfl, rfl⟩) | (go_at_call 118; refine HSp.out.mono ?_; rintro e w5 ⟨rfl, hb5⟩; have H5 : Hid (Below W.heap.size W w5) := hb5; clear hb5))
                go_ret
                exact ⟨retV (congrArg flE HV.out), HBW.out.trans (H5.out.mono HBW.out.size)⟩
end Go.Proofs.YtefebamomdcaaaaGreatDoor
