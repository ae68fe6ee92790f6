/-
  Policy: the law PolicyEnds.
-/
import Derived.Test.YtkjdihikcgpabaaDoorK15
namespace Go.Proofs.YtkjdihikcgpabaaDoor
open Go.RowKit Go.Sort Go.Lib
theorem eg_of (args : Array Value) (w : World) : (callFunc 13 args).run Tryd.prog w = .ok (.enter 13 args) w := enters_of Tryd.func13 (by kernel_rfl) rfl args w
theorem eg_REnd (args : Array Value) (w : World) : (callFunc 14 args).run Tryd.prog w = .ok (.enter 14 args) w := enters_of Tryd.func14 (by kernel_rfl) rfl args w
theorem frL10 {ops : Array Oper} {V : Nat → Value} {t : Array Value} {d0 d1 d2 d3 d4 d5 d6 d7 d8 d9 : Nat} (hs : ops.size = 10) (h0 : dstOf ops 0 = some d0) (h1 : dstOf ops 1 = some d1) (h2 : dstOf ops 2 = some d2) (h3 : dstOf ops 3 = some d3) (h4 : dstOf ops 4 = some d4) (h5 : dstOf ops 5 = some d5) (h6 : dstOf ops 6 = some d6) (h7 : dstOf ops 7 = some d7) (h8 : dstOf ops 8 = some d8) (h9 : dstOf ops 9 = some d9) : frF ops V t ops.size = ((((((((((t.setIfInBounds d0 (V 0)).setIfInBounds d1 (V 1)).setIfInBounds d2 (V 2)).setIfInBounds d3 (V 3)).setIfInBounds d4 (V 4)).setIfInBounds d5 (V 5)).setIfInBounds d6 (V 6)).setIfInBounds d7 (V 7)).setIfInBounds d8 (V 8)).setIfInBounds d9 (V 9)) := by
  rw [hs]
  simp only [frF, h0, h1, h2, h3, h4, h5, h6, h7, h8, h9]
theorem part0 (a b : Value) : part 0 (.tuple #[a, b]) = a := rfl
theorem part1 (a b : Value) : part 1 (.tuple #[a, b]) = b := rfl
theorem endP_len (S P U : List Tx) (e a r i : Int) (o : Bool) : (endP ⟨S, e, a⟩ ⟨P, r, i, o⟩ U).1.length ≤ S.length + U.length := by
  have h1 : (grant S U).length ≤ S.length + U.length := by
    unfold grant
    split
    · have := srt_le S; omega
    · have h1 := srt_le (adm S U)
      have h2 := adm_len S U
      omega
  show (if grant S U = [] ∧ (if r = 0 then (0 : Int) else less e) ≤ 0 then (([] : List Tx), false) else (grant S U, true)).1.length ≤ _
  by_cases h : grant S U = [] ∧ (if r = 0 then (0 : Int) else less e) ≤ 0
  · rw [if_pos h]; simp
  · rw [if_neg h]; exact h1
set_option maxRecDepth 20000 in
set_option maxHeartbeats 4000000 in
theorem PolicyEnds_any {w : World} (u : Value) (pe pa : Int) (S : List Tx) (z : Bt) (v : Value) (U : List Tx) (hu : TxS w u S) (hz : TxS w z.v z.P) (hv : TxS w v U) (h0 : -9223372036854775808 ≤ pe) (h1 : pe ≤ 9223372036854775807) (hr : (Lit.int .i64 z.r).wf = true) (hi : (Lit.int .i64 z.i).wf = true) :
    Calls Tryd.prog 4 #[.agg #[u, .int .i64 pe, .int .i64 pa], .agg #[z.v, .int .i64 z.r, .int .i64 z.i, .bool z.own], v] w fun e w' => e = .returned (.bool true) ∧ Below w.heap.size w w' := by
  obtain ⟨zv, hzv⟩ : ∃ x, z.v = x := ⟨_, rfl⟩
  rw [hzv] at hz ⊢
  obtain ⟨F, hF⟩ : ∃ F, endP ⟨S, pe, pa⟩ ⟨z.P, z.r, z.i, z.own⟩ U = F := ⟨_, rfl⟩
  have HL : Hid (∀ w1 : World, Calls Tryd.prog 10 #[] w1 fun e w' => e = .returned (.bool true) ∧ Below w1.heap.size w1 w') := fun w1 => live_any
  have HOf : Hid (∀ W : World, Calls Tryd.prog 13 #[.agg #[zv, .int .i64 z.r, .int .i64 z.i, .bool z.own]] W fun e w' => ∃ nv sb, e = .returned (.agg (certL ⟨nv, sb, zv, z.r, z.i⟩).toArray) ∧ Below W.heap.size W w') := fun W => by
    obtain ⟨a, n, c, hs⟩ := hz.slice
    rw [hs]
    refine (of_any (w := W) a n c z.r z.i z.own).mono ?_
    rintro e w' ⟨nv, rfl, _, h2⟩
    exact ⟨nv, _, rfl, h2⟩
  obtain ⟨W0, hW0⟩ : ∃ W0 : World, (w.alloc (.cells #[u, .int .i64 pe, .int .i64 pa] 25)).alloc (.cells #[zv, .int .i64 z.r, .int .i64 z.i, .bool z.own] 30) = W0 := ⟨_, rfl⟩
  have HW : Hid (Below w.heap.size w W0 ∧ Blk 25 W0 w.heap.size [u, .int .i64 pe, .int .i64 pa] ∧ Blk 30 W0 (w.heap.size + 1) [zv, .int .i64 z.r, .int .i64 z.i, .bool z.own]) := by
    rw [← hW0]
    have h1 := Blk.new 30 (w.alloc (.cells #[u, .int .i64 pe, .int .i64 pa] 25)) [zv, .int .i64 z.r, .int .i64 z.i, .bool z.own]
    rw [show (w.alloc (.cells #[u, .int .i64 pe, .int .i64 pa] 25)).heap.size = w.heap.size + 1 by simp] at h1
    exact ⟨((Below.refl _ _).alloc (Nat.le_refl _) _).alloc ((Below.refl _ _).alloc (Nat.le_refl _) _).size _, (Blk.new 25 w [u, .int .i64 pe, .int .i64 pa]).alloc _, h1⟩
  have HAt : Hid (∀ W : World, Below W0.heap.size W0 W → Below w.heap.size w W ∧ Blk 25 W w.heap.size [u, .int .i64 pe, .int .i64 pa] ∧ Blk 30 W (w.heap.size + 1) [zv, .int .i64 z.r, .int .i64 z.i, .bool z.own]) := fun W h => ⟨HW.out.1.trans (h.mono HW.out.1.size), below_blk h HW.out.2.1.lt HW.out.2.1, below_blk h HW.out.2.2.lt HW.out.2.2⟩
  have HG : Hid (Calls Tryd.prog 11 #[.slice (some ⟨W0.heap.size, 0, none⟩) 1 1, v] (W0.alloc (.cells #[zv, .int .i64 z.r, .int .i64 z.i, .bool z.own] 30)) fun e w' => e = .returned (.bool (hugeB [z] U)) ∧ Below W0.heap.size W0 w') := by
    have hb := (Below.refl W0.heap.size W0).alloc (Nat.le_refl _) (.cells #[zv, .int .i64 z.r, .int .i64 z.i, .bool z.own] 30)
    have hA := Blk.new 30 W0 (bitC z)
    have hA2 : Blk 30 (W0.alloc (.cells #[zv, .int .i64 z.r, .int .i64 z.i, .bool z.own] 30)) W0.heap.size (bitC z) := by
      unfold bitC at hA ⊢
      rw [hzv] at hA ⊢
      exact hA
    have hB : BitS (W0.alloc (.cells #[zv, .int .i64 z.r, .int .i64 z.i, .bool z.own] 30)) (.slice (some ⟨W0.heap.size, 0, none⟩) 1 1) [z] := by
      refine ⟨⟨_, 1, rfl, Nat.le_refl _, .inr ⟨W0.heap.size, 0, rfl, hA2.lt, fun i z' hz' j u hj => ?_⟩⟩, fun z' hz' => by simp at hz'; subst hz'; exact ⟨by rw [hzv]; exact (hz.below HW.out.1).below hb, hr, hi⟩⟩
      have hl := (List.getElem?_eq_some_iff.1 hz').1
      obtain rfl : i = 0 := by simp at hl; exact hl
      simp at hz'
      subst hz'
      rw [show 0 + 0 * 4 + j = j by omega, hA2.cell, hj]
    refine (huge_any _ v [z] U hB ((hv.below HW.out.1).below hb)).mono ?_
    rintro e w' ⟨rfl, h2⟩
    exact ⟨rfl, hb.trans (h2.mono hb.size)⟩
  obtain ⟨ua, uc, rfl, _⟩ := hu.form
  obtain ⟨us, hus⟩ : ∃ us, us = S.length := ⟨_, rfl⟩
  rw [← hus] at hu hW0 HW HAt ⊢
  have c0 : W0.cell? ⟨w.heap.size, 0, none⟩ = some (.slice ua us uc) := HW.out.2.1.cell 0
  have d0 : W0.cell? ⟨w.heap.size + 1, 0, none⟩ = some zv := HW.out.2.2.cell 0
  have d1 : W0.cell? ⟨w.heap.size + 1, 1, none⟩ = some (.int .i64 z.r) := HW.out.2.2.cell 1
  have d2 : W0.cell? ⟨w.heap.size + 1, 2, none⟩ = some (.int .i64 z.i) := HW.out.2.2.cell 2
  have d3 : W0.cell? ⟨w.heap.size + 1, 3, none⟩ = some (.bool z.own) := HW.out.2.2.cell 3
  have HX : Hid (TxS w (.slice ua us uc) S ∧ TxS w v U ∧ us = S.length ∧ endP ⟨S, pe, pa⟩ ⟨z.P, z.r, z.i, z.own⟩ U = F) := ⟨hu, hv, hus, hF⟩
  clear hu hv hz hF hus hr hi
  by_cases h2 : 200 < us
  · have h2I : (200 : Int) < (us : Int) := by omega
    go_enter Tryd.func4, Tryd.ntmps4
    go_wp2_with (first
      | (go_at_call 10; refine (HL.out _).mono ?_; rintro e w4 ⟨rfl, hb4⟩)
      | go_in)
    go_ret
    exact ⟨rfl, HW.out.1.trans (hb4.mono HW.out.1.size)⟩
  · have h2I : ¬ (200 : Int) < (us : Int) := by omega
    cases hg : hugeB [z] U with
    | true =>
      rw [hg] at HG
      go_enter Tryd.func4, Tryd.ntmps4
      go_wp2_with (first
        | (go_at_call 11; refine HG.out.mono ?_; rintro e w1 ⟨rfl, hb1⟩)
        | (go_at_call 10; refine (HL.out _).mono ?_; rintro e w4 ⟨rfl, hb4⟩)
        | go_in)
      go_ret
      have k1 := (HAt.out _ hb1).1
      exact ⟨rfl, k1.trans (hb4.mono k1.size)⟩
    | false =>
      rw [hg] at HG
      have hsm : U.length ≤ 200 ∧ z.P.length ≤ 200 := by
        unfold hugeB at hg
        simp at hg
        omega
      have HE1 : Hid (∀ (W : World) (nv sb : Value), Below w.heap.size w W → Calls Tryd.prog 12 #[.agg #[.slice ua us uc, .int .i64 pe, .int .i64 pa], .agg (certL ⟨nv, sb, zv, z.r, z.i⟩).toArray, v] W fun e w' => EndOut w' e F ∧ Below W.heap.size W w') := fun W nv sb h => by
        rw [← HX.out.2.2.2]
        exact End_any (w := W) _ pe pa nv sb zv z.r z.i v S U z.P z.own (HX.out.1.below h) (HX.out.2.1.below h) (by have := HX.out.2.2.1; omega) (by omega) h0 h1
      have HE2 : Hid (∀ (W : World) (nv sb : Value), Below w.heap.size w W → Calls Tryd.prog 14 #[.agg #[.slice ua us uc, .int .i64 pe, .int .i64 pa], .agg (certL ⟨nv, sb, zv, z.r, z.i⟩).toArray, v] W fun e w' => EndOut w' e F ∧ Below W.heap.size W w') := fun W nv sb h => by
        rw [← HX.out.2.2.2]
        exact REnd_any (w := W) _ pe pa nv sb zv z.r z.i v S U z.P z.own (HX.out.1.below h) (HX.out.2.1.below h) (by have := HX.out.2.2.1; omega) (by omega) h0 h1
      have HFl : Hid (F.1.length ≤ 1048576) := by
        have := endP_len S z.P U pe pa z.r z.i z.own
        rw [HX.out.2.2.2] at this
        have h9 := HX.out.2.2.1
        show _ ≤ _
        omega
      clear hg hsm h0 h1
      go_enter Tryd.func4, Tryd.ntmps4
      go_upto_region 3 with (first
        | (go_at_call 11; refine HG.out.mono ?_; rintro e w1 ⟨rfl, hb1⟩)
        | go_in)
      clear hW0 c0 d0 d1 d2 d3
      go_upto_region 3 with (fail)
      refine wp_region_cl (β := Value × Value) (fun bv kk => ([.agg #[.slice ua us uc, .int .i64 pe, .int .i64 pa], .agg #[zv, .int .i64 z.r, .int .i64 z.i, .bool z.own], bv.1, v, bv.2, bv.2, part 0 bv.2, part 1 bv.2, part 0 bv.2, part 1 bv.2] : List Value).getD kk undef) (fun bv LB W => Below W0.heap.size W0 W ∧ (Up LB 2 → ∃ nv sb, bv.1 = .agg (certL ⟨nv, sb, zv, z.r, z.i⟩).toArray) ∧ (Up LB 4 → ∃ r, bv.2 = .tuple #[r, .bool F.2] ∧ TxS W r F.1)) (undef, undef) rfl (by decide +kernel) (show dstB _ 49 = true by decide +kernel) ⟨hb1.drew, fun u => absurd u not_up_new, fun u => absurd u not_up_new⟩ (fun bv LB W hup hS => ?_) (fun k9 bv LB W a hk hno hsz hdep hv h0 hcl hS => ?_)
      rotate_left
      · replace hk : k9 < 10 := hk
        have x3 : a.eval (.tmp 3) = .pointer (some ⟨w.heap.size, 0, none⟩) := (h0 3 (by decide +kernel)).trans rfl
        have x4 : a.eval (.tmp 4) = .pointer (some ⟨w.heap.size + 1, 0, none⟩) := (h0 4 (by decide +kernel)).trans rfl
        have x2 : a.eval (.tmp 2) = v := (h0 2 (by decide +kernel)).trans rfl
        have eU : ∀ j q, q ≠ j → Up (LB.setIfInBounds j true) q → Up LB q := fun j q hq u => by unfold Up at u ⊢; rwa [getD_setB hq] at u
        have st : ∀ j : Nat, j ≠ 2 → j ≠ 4 → Below W0.heap.size W0 W ∧ (Up (LB.setIfInBounds j true) 2 → ∃ nv sb, bv.1 = .agg (certL ⟨nv, sb, zv, z.r, z.i⟩).toArray) ∧ (Up (LB.setIfInBounds j true) 4 → ∃ r, bv.2 = .tuple #[r, .bool F.2] ∧ TxS W r F.1) := fun j n2 n4 => ⟨hS.1, fun u => hS.2.1 (eU j 2 (fun h => n2 h.symm) u), fun u => hS.2.2 (eU j 4 (fun h => n4 h.symm) u)⟩
        have hat := HAt.out W hS.1
        obtain rfl | rfl | rfl | rfl | rfl | rfl | rfl | rfl | rfl | rfl : k9 = 0 ∨ k9 = 1 ∨ k9 = 2 ∨ k9 = 3 ∨ k9 = 4 ∨ k9 = 5 ∨ k9 = 6 ∨ k9 = 7 ∨ k9 = 8 ∨ k9 = 9 := by omega
        · exact rg_load rfl (wn_any rfl) rfl x3 hat.2.1.whole Tryd.underlying25 rfl szPo rfl (st 0 (by decide) (by decide))
        · exact rg_load rfl (wn_any rfl) rfl x4 hat.2.2.whole Tryd.underlying30 rfl szB4 rfl (st 1 (by decide) (by decide))
        · have e1 : a.eval (.tmp 24) = .agg #[zv, .int .i64 z.r, .int .i64 z.i, .bool z.own] := hv 1 _ (show 1 < 10 by decide) (hdep 1 (by decide +kernel)) rfl
          refine rg_callu rfl (wn_any rfl) (run_cl1 rfl e1 eg_of) (R := fun v w' => (∃ nv sb, v = .agg (certL ⟨nv, sb, zv, z.r, z.i⟩).toArray) ∧ Below W.heap.size W w') ((HOf.out W).mono ?_) (fun v => (v, bv.2)) (fun v => rfl) (fun v k2 hk hup => ?_) (fun v w' h => ⟨below_via hS.1 h.2 (Nat.le_refl _), fun _ => h.1, fun u => ?_⟩)
          · rintro e w' ⟨nv, sb, rfl, h2⟩; exact ⟨_, rfl, ⟨nv, sb, rfl⟩, h2⟩
          · rcases k2 with _ | _ | _ | _ | _ | _ | _ | _ | _ | _ | k2
            all_goals first | rfl | exact absurd rfl hk
          · obtain ⟨r, h1, h3⟩ := hS.2.2 (eU 2 4 (by decide) u)
            exact ⟨r, h1, h3.below h.2⟩
        · exact rg_val rfl (wn_any rfl) (run_mv rfl x2) (st 3 (by decide) (by decide))
        · have e0 : a.eval (.tmp 23) = .agg #[.slice ua us uc, .int .i64 pe, .int .i64 pa] := hv 0 _ (show 0 < 10 by decide) (hdep 0 (by decide +kernel)) rfl
          obtain ⟨nv, sb, hcv⟩ := hS.2.1 (hdep 2 (by decide +kernel))
          have e2 : a.eval (.tmp 25) = .agg (certL ⟨nv, sb, zv, z.r, z.i⟩).toArray := (hv 2 _ (show 2 < 10 by decide) (hdep 2 (by decide +kernel)) rfl).trans hcv
          have e3 : a.eval (.tmp 26) = v := hv 3 _ (show 3 < 10 by decide) (hdep 3 (by decide +kernel)) rfl
          refine rg_callu rfl (wn_any rfl) (run_cl3 rfl e0 e2 e3 eg_End) (R := fun v w' => (∃ r, v = .tuple #[r, .bool F.2] ∧ TxS w' r F.1) ∧ Below W.heap.size W w') ((HE1.out W nv sb hat.1).mono ?_) (fun v => (bv.1, v)) (fun v => rfl) (fun v k2 hk hup => ?_) (fun v w' h => ⟨below_via hS.1 h.2 (Nat.le_refl _), fun _ => ⟨nv, sb, hcv⟩, fun _ => h.1⟩)
          · rintro e w' ⟨⟨r, rfl, h1⟩, h2⟩; exact ⟨_, rfl, ⟨r, rfl, h1⟩, h2⟩
          · rcases k2 with _ | _ | _ | _ | _ | _ | _ | _ | _ | _ | k2
            all_goals first | rfl | exact absurd rfl hk | exact absurd (hcl 5 hup 4 (by decide +kernel)) hno | exact absurd (hcl 5 (hcl 6 hup 5 (by decide +kernel)) 4 (by decide +kernel)) hno | exact absurd (hcl 5 (hcl 7 hup 5 (by decide +kernel)) 4 (by decide +kernel)) hno | exact absurd (hcl 8 hup 4 (by decide +kernel)) hno | exact absurd (hcl 9 hup 4 (by decide +kernel)) hno
        · have e4 : a.eval (.tmp 27) = bv.2 := hv 4 _ (show 4 < 10 by decide) (hdep 4 (by decide +kernel)) rfl
          exact rg_val rfl (wn_any rfl) (run_mv rfl e4) (st 5 (by decide) (by decide))
        · obtain ⟨r, hr, _⟩ := hS.2.2 (hcl 5 (hdep 5 (by decide +kernel)) 4 (by decide +kernel))
          have e5 : a.eval (.tmp 22) = bv.2 := hv 5 _ (show 5 < 10 by decide) (hdep 5 (by decide +kernel)) rfl
          exact rg_val rfl (wn_any rfl) (run_ex rfl (e5.trans hr) (by rw [hr]; rfl)) (st 6 (by decide) (by decide))
        · obtain ⟨r, hr, _⟩ := hS.2.2 (hcl 5 (hdep 5 (by decide +kernel)) 4 (by decide +kernel))
          have e5 : a.eval (.tmp 22) = bv.2 := hv 5 _ (show 5 < 10 by decide) (hdep 5 (by decide +kernel)) rfl
          exact rg_val rfl (wn_any rfl) (run_ex rfl (e5.trans hr) (by rw [hr]; rfl)) (st 7 (by decide) (by decide))
        · have e6 : a.eval (.tmp 28) = part 0 bv.2 := hv 6 _ (show 6 < 10 by decide) (hdep 6 (by decide +kernel)) rfl
          exact rg_val rfl (wn_any rfl) (run_asg rfl e6) (st 8 (by decide) (by decide))
        · have e7 : a.eval (.tmp 29) = part 1 bv.2 := hv 7 _ (show 7 < 10 by decide) (hdep 7 (by decide +kernel)) rfl
          exact rg_val rfl (wn_any rfl) (run_asg rfl e7) (st 9 (by decide) (by decide))
      rw [frL10 rfl rfl rfl rfl rfl rfl rfl rfl rfl rfl rfl]
      simp only [List.setIfInBounds_toArray, List.set_cons_succ, List.set_cons_zero, List.getD_cons_zero, List.getD_cons_succ]
      obtain ⟨q3, F3, hr3⟩ := hS.2.2 (hup 4 (by decide))
      obtain ⟨b3, b3'⟩ := bv
      simp only [] at F3
      subst F3
      obtain ⟨W3, hW3⟩ : ∃ x, x = W := ⟨_, rfl⟩
      subst hW3
      have H3 : Hid (Below W0.heap.size W0 W3 ∧ TxS W3 q3 F.1) := ⟨hS.1, hr3⟩
      clear hS hup hr3
      go_upto_region 4 with (fail)
      refine wp_region_cl (β := Value × Value) (fun bv kk => ([.agg #[.slice ua us uc, .int .i64 pe, .int .i64 pa], .agg #[zv, .int .i64 z.r, .int .i64 z.i, .bool z.own], bv.1, v, bv.2, bv.2, part 0 bv.2, part 1 bv.2, part 0 bv.2, part 1 bv.2] : List Value).getD kk undef) (fun bv LB W => Below W3.heap.size W3 W ∧ (Up LB 2 → ∃ nv sb, bv.1 = .agg (certL ⟨nv, sb, zv, z.r, z.i⟩).toArray) ∧ (Up LB 4 → ∃ r, bv.2 = .tuple #[r, .bool F.2] ∧ TxS W r F.1)) (undef, undef) rfl (by decide +kernel) (show dstB _ 49 = true by decide +kernel) ⟨(Below.refl _ _).drew, fun u => absurd u not_up_new, fun u => absurd u not_up_new⟩ (fun bv LB W hup hS => ?_) (fun k9 bv LB W a hk hno hsz hdep hv h0 hcl hS => ?_)
      rotate_left
      · replace hk : k9 < 10 := hk
        have x3 : a.eval (.tmp 3) = .pointer (some ⟨w.heap.size, 0, none⟩) := (h0 3 (by decide +kernel)).trans rfl
        have x4 : a.eval (.tmp 4) = .pointer (some ⟨w.heap.size + 1, 0, none⟩) := (h0 4 (by decide +kernel)).trans rfl
        have x2 : a.eval (.tmp 2) = v := (h0 2 (by decide +kernel)).trans rfl
        have eU : ∀ j q, q ≠ j → Up (LB.setIfInBounds j true) q → Up LB q := fun j q hq u => by unfold Up at u ⊢; rwa [getD_setB hq] at u
        have st : ∀ j : Nat, j ≠ 2 → j ≠ 4 → Below W3.heap.size W3 W ∧ (Up (LB.setIfInBounds j true) 2 → ∃ nv sb, bv.1 = .agg (certL ⟨nv, sb, zv, z.r, z.i⟩).toArray) ∧ (Up (LB.setIfInBounds j true) 4 → ∃ r, bv.2 = .tuple #[r, .bool F.2] ∧ TxS W r F.1) := fun j n2 n4 => ⟨hS.1, fun u => hS.2.1 (eU j 2 (fun h => n2 h.symm) u), fun u => hS.2.2 (eU j 4 (fun h => n4 h.symm) u)⟩
        have hat := HAt.out W (below_via H3.out.1 hS.1 (Nat.le_refl _))
        obtain rfl | rfl | rfl | rfl | rfl | rfl | rfl | rfl | rfl | rfl : k9 = 0 ∨ k9 = 1 ∨ k9 = 2 ∨ k9 = 3 ∨ k9 = 4 ∨ k9 = 5 ∨ k9 = 6 ∨ k9 = 7 ∨ k9 = 8 ∨ k9 = 9 := by omega
        · exact rg_load rfl (wn_any rfl) rfl x3 hat.2.1.whole Tryd.underlying25 rfl szPo rfl (st 0 (by decide) (by decide))
        · exact rg_load rfl (wn_any rfl) rfl x4 hat.2.2.whole Tryd.underlying30 rfl szB4 rfl (st 1 (by decide) (by decide))
        · have e1 : a.eval (.tmp 32) = .agg #[zv, .int .i64 z.r, .int .i64 z.i, .bool z.own] := hv 1 _ (show 1 < 10 by decide) (hdep 1 (by decide +kernel)) rfl
          refine rg_callu rfl (wn_any rfl) (run_cl1 rfl e1 eg_of) (R := fun v w' => (∃ nv sb, v = .agg (certL ⟨nv, sb, zv, z.r, z.i⟩).toArray) ∧ Below W.heap.size W w') ((HOf.out W).mono ?_) (fun v => (v, bv.2)) (fun v => rfl) (fun v k2 hk hup => ?_) (fun v w' h => ⟨below_via hS.1 h.2 (Nat.le_refl _), fun _ => h.1, fun u => ?_⟩)
          · rintro e w' ⟨nv, sb, rfl, h2⟩; exact ⟨_, rfl, ⟨nv, sb, rfl⟩, h2⟩
          · rcases k2 with _ | _ | _ | _ | _ | _ | _ | _ | _ | _ | k2
            all_goals first | rfl | exact absurd rfl hk
          · obtain ⟨r, h1, h3⟩ := hS.2.2 (eU 2 4 (by decide) u)
            exact ⟨r, h1, h3.below h.2⟩
        · exact rg_val rfl (wn_any rfl) (run_mv rfl x2) (st 3 (by decide) (by decide))
        · have e0 : a.eval (.tmp 31) = .agg #[.slice ua us uc, .int .i64 pe, .int .i64 pa] := hv 0 _ (show 0 < 10 by decide) (hdep 0 (by decide +kernel)) rfl
          obtain ⟨nv, sb, hcv⟩ := hS.2.1 (hdep 2 (by decide +kernel))
          have e2 : a.eval (.tmp 33) = .agg (certL ⟨nv, sb, zv, z.r, z.i⟩).toArray := (hv 2 _ (show 2 < 10 by decide) (hdep 2 (by decide +kernel)) rfl).trans hcv
          have e3 : a.eval (.tmp 34) = v := hv 3 _ (show 3 < 10 by decide) (hdep 3 (by decide +kernel)) rfl
          refine rg_callu rfl (wn_any rfl) (run_cl3 rfl e0 e2 e3 eg_REnd) (R := fun v w' => (∃ r, v = .tuple #[r, .bool F.2] ∧ TxS w' r F.1) ∧ Below W.heap.size W w') ((HE2.out W nv sb hat.1).mono ?_) (fun v => (bv.1, v)) (fun v => rfl) (fun v k2 hk hup => ?_) (fun v w' h => ⟨below_via hS.1 h.2 (Nat.le_refl _), fun _ => ⟨nv, sb, hcv⟩, fun _ => h.1⟩)
          · rintro e w' ⟨⟨r, rfl, h1⟩, h2⟩; exact ⟨_, rfl, ⟨r, rfl, h1⟩, h2⟩
          · rcases k2 with _ | _ | _ | _ | _ | _ | _ | _ | _ | _ | k2
            all_goals first | rfl | exact absurd rfl hk | exact absurd (hcl 5 hup 4 (by decide +kernel)) hno | exact absurd (hcl 5 (hcl 6 hup 5 (by decide +kernel)) 4 (by decide +kernel)) hno | exact absurd (hcl 5 (hcl 7 hup 5 (by decide +kernel)) 4 (by decide +kernel)) hno | exact absurd (hcl 8 hup 4 (by decide +kernel)) hno | exact absurd (hcl 9 hup 4 (by decide +kernel)) hno
        · have e4 : a.eval (.tmp 35) = bv.2 := hv 4 _ (show 4 < 10 by decide) (hdep 4 (by decide +kernel)) rfl
          exact rg_val rfl (wn_any rfl) (run_mv rfl e4) (st 5 (by decide) (by decide))
        · obtain ⟨r, hr, _⟩ := hS.2.2 (hcl 5 (hdep 5 (by decide +kernel)) 4 (by decide +kernel))
          have e5 : a.eval (.tmp 30) = bv.2 := hv 5 _ (show 5 < 10 by decide) (hdep 5 (by decide +kernel)) rfl
          exact rg_val rfl (wn_any rfl) (run_ex rfl (e5.trans hr) (by rw [hr]; rfl)) (st 6 (by decide) (by decide))
        · obtain ⟨r, hr, _⟩ := hS.2.2 (hcl 5 (hdep 5 (by decide +kernel)) 4 (by decide +kernel))
          have e5 : a.eval (.tmp 30) = bv.2 := hv 5 _ (show 5 < 10 by decide) (hdep 5 (by decide +kernel)) rfl
          exact rg_val rfl (wn_any rfl) (run_ex rfl (e5.trans hr) (by rw [hr]; rfl)) (st 7 (by decide) (by decide))
        · have e6 : a.eval (.tmp 36) = part 0 bv.2 := hv 6 _ (show 6 < 10 by decide) (hdep 6 (by decide +kernel)) rfl
          exact rg_val rfl (wn_any rfl) (run_asg rfl e6) (st 8 (by decide) (by decide))
        · have e7 : a.eval (.tmp 37) = part 1 bv.2 := hv 7 _ (show 7 < 10 by decide) (hdep 7 (by decide +kernel)) rfl
          exact rg_val rfl (wn_any rfl) (run_asg rfl e7) (st 9 (by decide) (by decide))
      rw [frL10 rfl rfl rfl rfl rfl rfl rfl rfl rfl rfl rfl]
      simp only [List.setIfInBounds_toArray, List.set_cons_succ, List.set_cons_zero, List.getD_cons_zero, List.getD_cons_succ]
      obtain ⟨q4, F4, hr4⟩ := hS.2.2 (hup 4 (by decide))
      obtain ⟨b4, b4'⟩ := bv
      simp only [] at F4
      subst F4
      have H4 : Hid (Below W0.heap.size W0 W ∧ TxS W q4 F.1 ∧ TxS W q3 F.1) := ⟨below_via H3.out.1 hS.1 (Nat.le_refl _), hr4, H3.out.2.below hS.1⟩
      have HTx : Hid (Calls Tryd.prog 15 #[q3, q4] W fun e w' => e = .returned (.bool true) ∧ Below W.heap.size W w') := by
        have := Texts_any (w := W) q3 q4 F.1 F.1 H4.out.2.2 H4.out.2.1 HFl.out HFl.out
        rw [decide_eq_true rfl] at this
        exact this
      obtain ⟨F1, F2⟩ := F
      have hbb : (F2 == F2) = true := by simp
      simp only [part0, part1]
      clear hS hup hr4
      go_wp2_with (first
        | (go_at_call 15; refine HTx.out.mono ?_; rintro e w5 ⟨rfl, hb5⟩)
        | (go_at_call 10; refine (HL.out _).mono ?_; rintro e w6 ⟨rfl, hb6⟩)
        | go_in)
      go_ret
      have k4 := (HAt.out _ H4.out.1).1
      have k5 := k4.trans (hb5.mono k4.size)
      exact ⟨by simp, k5.trans (hb6.mono k5.size)⟩
end Go.Proofs.YtkjdihikcgpabaaDoor
