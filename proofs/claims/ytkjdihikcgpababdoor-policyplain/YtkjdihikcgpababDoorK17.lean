/-
  Policy: one more certificate that is not the last one.
-/
import Derived.Deep.CutBlock
import Derived.Test.YtkjdihikcgpababDoorK16
namespace Go.Proofs.YtkjdihikcgpababDoor
open Go.RowKit Go.Sort Go.Lib
theorem eg_oneLess (args : Array Value) (w : World) : (callFunc 17 args).run Tryd.prog w = .ok (.enter 17 args) w := enters_of Tryd.func17 (by kernel_rfl) rfl args w
theorem eg_bounded (args : Array Value) (w : World) : (callFunc 18 args).run Tryd.prog w = .ok (.enter 18 args) w := enters_of Tryd.func18 (by kernel_rfl) rfl args w
theorem St2.get {s t : Nat} {A B C : World → Prop} {L : Array Bool} {W : World} {X : Prop} (h : St2 s t A B C L W) (hA : A W → X) (hB : B W → X) (hC : C W → X) : X := by
  by_cases ht : Up L t
  · exact hC (h.2.2 ht)
  · by_cases hs : Up L s
    · exact hB (h.2.1 hs ht)
    · exact hA (h.1 hs)
theorem frG14_3ffa {ops : Array Oper} {V : Nat → Value} {t : Array Value} {d0 d1 d2 d3 d4 d5 d6 d7 d8 d9 d10 d12 : Nat} (hs : ops.size = 14) (h0 : dstOf ops 0 = some d0) (h1 : dstOf ops 1 = some d1) (h2 : dstOf ops 2 = some d2) (h3 : dstOf ops 3 = some d3) (h4 : dstOf ops 4 = some d4) (h5 : dstOf ops 5 = some d5) (h6 : dstOf ops 6 = some d6) (h7 : dstOf ops 7 = some d7) (h8 : dstOf ops 8 = some d8) (h9 : dstOf ops 9 = some d9) (h10 : dstOf ops 10 = some d10) (h11 : dstOf ops 11 = none) (h12 : dstOf ops 12 = some d12) (h13 : dstOf ops 13 = none) : frF ops V t ops.size = ((((((((((((t.setIfInBounds d0 (V 0)).setIfInBounds d1 (V 1)).setIfInBounds d2 (V 2)).setIfInBounds d3 (V 3)).setIfInBounds d4 (V 4)).setIfInBounds d5 (V 5)).setIfInBounds d6 (V 6)).setIfInBounds d7 (V 7)).setIfInBounds d8 (V 8)).setIfInBounds d9 (V 9)).setIfInBounds d10 (V 10)).setIfInBounds d12 (V 12)) := by
  rw [hs]
  simp only [frF, h0, h1, h2, h3, h4, h5, h6, h7, h8, h9, h10, h11, h12, h13]
theorem frG10_3fa {ops : Array Oper} {V : Nat → Value} {t : Array Value} {d0 d1 d2 d3 d4 d5 d6 d8 : Nat} (hs : ops.size = 10) (h0 : dstOf ops 0 = some d0) (h1 : dstOf ops 1 = some d1) (h2 : dstOf ops 2 = some d2) (h3 : dstOf ops 3 = some d3) (h4 : dstOf ops 4 = some d4) (h5 : dstOf ops 5 = some d5) (h6 : dstOf ops 6 = some d6) (h7 : dstOf ops 7 = none) (h8 : dstOf ops 8 = some d8) (h9 : dstOf ops 9 = none) : frF ops V t ops.size = ((((((((t.setIfInBounds d0 (V 0)).setIfInBounds d1 (V 1)).setIfInBounds d2 (V 2)).setIfInBounds d3 (V 3)).setIfInBounds d4 (V 4)).setIfInBounds d5 (V 5)).setIfInBounds d6 (V 6)).setIfInBounds d8 (V 8)) := by
  rw [hs]
  simp only [frF, h0, h1, h2, h3, h4, h5, h6, h7, h8, h9]
set_option maxRecDepth 20000 in
set_option maxHeartbeats 4000000 in
theorem Step_more {w : World} (u : Value) (pe pa : Int) (ci cs cp : Value) (cr ch : Int) (S L : List Tx) (o : Bool) (hu : TxS w u S) (hc : TxS w cp L) (hS : S.length ≤ 524288) (hL : L.length ≤ 524288) (hOw : OwnC w (.agg #[.slice none 0 0, .slice none 0 0, .slice none 0 0, ci, cs, .int .i64 0, .int .i64 0, .int .i64 0, .slice none 0 0, .slice none 0 0, .slice none 0 0, .slice none 0 0, .int .i64 0, .int .i64 0, .int .i64 0, .int .i64 0, .slice none 0 0, .bool false, .int .i64 0, .int .i64 0, .slice none 0 0, .bool false, .slice none 0 0, .slice none 0 0, .slice none 0 0, cp, .int .i64 cr, .int .i64 ch, .slice none 0 0, .slice none 0 0, .bool false]) o) (hpe : -9223372036854775808 ≤ pe ∧ pe ≤ 9223372036854775807) (hpa : -9223372036854775808 ≤ pa ∧ pa ≤ 9223372036854775807) :
    Calls Tryd.prog 11 #[.agg #[u, .int .i64 pe, .int .i64 pa], .agg #[.slice none 0 0, .slice none 0 0, .slice none 0 0, ci, cs, .int .i64 0, .int .i64 0, .int .i64 0, .slice none 0 0, .slice none 0 0, .slice none 0 0, .slice none 0 0, .int .i64 0, .int .i64 0, .int .i64 0, .int .i64 0, .slice none 0 0, .bool false, .int .i64 0, .int .i64 0, .slice none 0 0, .bool false, .slice none 0 0, .slice none 0 0, .slice none 0 0, cp, .int .i64 cr, .int .i64 ch, .slice none 0 0, .slice none 0 0, .bool false], .bool false] w fun e w' => StepOut w' e (stepP ⟨S, pe, pa⟩ ⟨L, cr, ch, o⟩ false) ∧ Below w.heap.size w w' := by
  obtain ⟨ua, un, uc, rfl⟩ := hu.slice
  obtain ⟨s, hs⟩ : ∃ s, heldS S L (decide (0 < pa) || o) = s := ⟨_, rfl⟩
  obtain ⟨O, hO⟩ : ∃ O, stepP ⟨S, pe, pa⟩ ⟨L, cr, ch, o⟩ false = O := ⟨_, rfl⟩
  rw [hO]
  have HE : Hid ((if s = [] ∧ pe ≤ 0 then (⟨[], 0, 0⟩, false) else (⟨s, bnd (if o = true then pe else less pe) cr, bnd (if o = true then pa else less pa) ch⟩, true) : Po × Bool) = O) := by
    show _ = _
    rw [← hO]
    unfold stepP
    simp only [Bool.not_false, Bool.true_and, hs, Bool.false_eq_true, if_false]
  clear hO
  have HO : Hid (OwnC w (.agg #[.slice none 0 0, .slice none 0 0, .slice none 0 0, ci, cs, .int .i64 0, .int .i64 0, .int .i64 0, .slice none 0 0, .slice none 0 0, .slice none 0 0, .slice none 0 0, .int .i64 0, .int .i64 0, .int .i64 0, .int .i64 0, .slice none 0 0, .bool false, .int .i64 0, .int .i64 0, .slice none 0 0, .bool false, .slice none 0 0, .slice none 0 0, .slice none 0 0, cp, .int .i64 cr, .int .i64 ch, .slice none 0 0, .slice none 0 0, .bool false]) o) := hOw
  have HL1 : Hid (∀ W : World, Calls Tryd.prog 17 #[.int .i64 pe] W fun e w' => e = .returned (.int .i64 (less pe)) ∧ W = w') := fun W => oneLess_any pe hpe.1 hpe.2
  have HL2 : Hid (∀ W : World, Calls Tryd.prog 17 #[.int .i64 pa] W fun e w' => e = .returned (.int .i64 (less pa)) ∧ W = w') := fun W => oneLess_any pa hpa.1 hpa.2
  have HH : Hid (∀ w1 : World, Below w.heap.size w w1 → Calls Tryd.prog 15 #[.agg #[.slice ua un uc, .int .i64 pe, .int .i64 pa], .agg #[.slice none 0 0, .slice none 0 0, .slice none 0 0, ci, cs, .int .i64 0, .int .i64 0, .int .i64 0, .slice none 0 0, .slice none 0 0, .slice none 0 0, .slice none 0 0, .int .i64 0, .int .i64 0, .int .i64 0, .int .i64 0, .slice none 0 0, .bool false, .int .i64 0, .int .i64 0, .slice none 0 0, .bool false, .slice none 0 0, .slice none 0 0, .slice none 0 0, cp, .int .i64 cr, .int .i64 ch, .slice none 0 0, .slice none 0 0, .bool false], .bool false] w1 fun e w' => ∃ r, e = .returned r ∧ TxS w' r s ∧ Below w1.heap.size w1 w') := fun w1 h => by
    have := held_any (w := w1) (.slice ua un uc) pe pa ci cs cp cr ch false o S L (hu.below h) (hc.below h) hS hL (fun _ => hOw.below h)
    rw [show (decide (0 < pa) || (!false && o)) = (decide (0 < pa) || o) by simp, hs] at this
    exact this
  obtain ⟨g, hg⟩ : ∃ g, s.length = g := ⟨_, rfl⟩
  have HF : Hid (∀ (w1 : World) (r : Value), TxS w1 r s → ∃ a c, r = .slice a g c) := fun w1 r h => by obtain ⟨a, c, h1, _⟩ := h.form; exact ⟨a, c, by rw [h1, hg]⟩
  have HX : Hid (s.length = g) := hg
  clear hu hc hS hL hs hg hOw hpe hpa
  obtain ⟨W0, hW0⟩ : ∃ W0 : World, ((w.alloc (.cells #[.slice ua un uc, .int .i64 pe, .int .i64 pa] 36)).alloc (.cells #[.slice none 0 0, .slice none 0 0, .slice none 0 0, ci, cs, .int .i64 0, .int .i64 0, .int .i64 0, .slice none 0 0, .slice none 0 0, .slice none 0 0, .slice none 0 0, .int .i64 0, .int .i64 0, .int .i64 0, .int .i64 0, .slice none 0 0, .bool false, .int .i64 0, .int .i64 0, .slice none 0 0, .bool false, .slice none 0 0, .slice none 0 0, .slice none 0 0, cp, .int .i64 cr, .int .i64 ch, .slice none 0 0, .slice none 0 0, .bool false] 51)).alloc (.cells #[.slice none 0 0, .int .i64 0, .int .i64 0] 36) = W0 := ⟨_, rfl⟩
  have HW : Hid (Below w.heap.size w W0 ∧ Blk 36 W0 w.heap.size [.slice ua un uc, .int .i64 pe, .int .i64 pa] ∧ Blk 51 W0 (w.heap.size + 1) [.slice none 0 0, .slice none 0 0, .slice none 0 0, ci, cs, .int .i64 0, .int .i64 0, .int .i64 0, .slice none 0 0, .slice none 0 0, .slice none 0 0, .slice none 0 0, .int .i64 0, .int .i64 0, .int .i64 0, .int .i64 0, .slice none 0 0, .bool false, .int .i64 0, .int .i64 0, .slice none 0 0, .bool false, .slice none 0 0, .slice none 0 0, .slice none 0 0, cp, .int .i64 cr, .int .i64 ch, .slice none 0 0, .slice none 0 0, .bool false] ∧ Blk 36 W0 (w.heap.size + 2) [.slice none 0 0, .int .i64 0, .int .i64 0] ∧ w.heap.size + 3 ≤ W0.heap.size) := by
    rw [← hW0]
    have h1 := Blk.new 51 (w.alloc (.cells #[.slice ua un uc, .int .i64 pe, .int .i64 pa] 36)) [.slice none 0 0, .slice none 0 0, .slice none 0 0, ci, cs, .int .i64 0, .int .i64 0, .int .i64 0, .slice none 0 0, .slice none 0 0, .slice none 0 0, .slice none 0 0, .int .i64 0, .int .i64 0, .int .i64 0, .int .i64 0, .slice none 0 0, .bool false, .int .i64 0, .int .i64 0, .slice none 0 0, .bool false, .slice none 0 0, .slice none 0 0, .slice none 0 0, cp, .int .i64 cr, .int .i64 ch, .slice none 0 0, .slice none 0 0, .bool false]
    rw [show (w.alloc (.cells #[.slice ua un uc, .int .i64 pe, .int .i64 pa] 36)).heap.size = w.heap.size + 1 by simp] at h1
    have h2 := Blk.new 36 ((w.alloc (.cells #[.slice ua un uc, .int .i64 pe, .int .i64 pa] 36)).alloc (.cells #[.slice none 0 0, .slice none 0 0, .slice none 0 0, ci, cs, .int .i64 0, .int .i64 0, .int .i64 0, .slice none 0 0, .slice none 0 0, .slice none 0 0, .slice none 0 0, .int .i64 0, .int .i64 0, .int .i64 0, .int .i64 0, .slice none 0 0, .bool false, .int .i64 0, .int .i64 0, .slice none 0 0, .bool false, .slice none 0 0, .slice none 0 0, .slice none 0 0, cp, .int .i64 cr, .int .i64 ch, .slice none 0 0, .slice none 0 0, .bool false] 51)) [.slice none 0 0, .int .i64 0, .int .i64 0]
    rw [show ((w.alloc (.cells #[.slice ua un uc, .int .i64 pe, .int .i64 pa] 36)).alloc (.cells #[.slice none 0 0, .slice none 0 0, .slice none 0 0, ci, cs, .int .i64 0, .int .i64 0, .int .i64 0, .slice none 0 0, .slice none 0 0, .slice none 0 0, .slice none 0 0, .int .i64 0, .int .i64 0, .int .i64 0, .int .i64 0, .slice none 0 0, .bool false, .int .i64 0, .int .i64 0, .slice none 0 0, .bool false, .slice none 0 0, .slice none 0 0, .slice none 0 0, cp, .int .i64 cr, .int .i64 ch, .slice none 0 0, .slice none 0 0, .bool false] 51)).heap.size = w.heap.size + 2 by simp] at h2
    exact ⟨al3 w _ _ _, ((Blk.new 36 w [.slice ua un uc, .int .i64 pe, .int .i64 pa]).alloc _).alloc _, h1.alloc _, h2, by simp⟩
  go_enter Tryd.func11, Tryd.ntmps11
  go_upto_region 2 with (first
    | (refine wpList_load_mid rfl 36 (.tmp 3) rfl w.heap.size 0 rfl [.slice ua un uc, .int .i64 pe, .int .i64 pa] _ HW.out.2.1.whole Tryd.underlying36 rfl szPo ?_)
    | (refine wpList_load_mid rfl 51 (.tmp 4) rfl (w.heap.size + 1) 0 rfl [.slice none 0 0, .slice none 0 0, .slice none 0 0, ci, cs, .int .i64 0, .int .i64 0, .int .i64 0, .slice none 0 0, .slice none 0 0, .slice none 0 0, .slice none 0 0, .int .i64 0, .int .i64 0, .int .i64 0, .int .i64 0, .slice none 0 0, .bool false, .int .i64 0, .int .i64 0, .slice none 0 0, .bool false, .slice none 0 0, .slice none 0 0, .slice none 0 0, cp, .int .i64 cr, .int .i64 ch, .slice none 0 0, .slice none 0 0, .bool false] _ HW.out.2.2.1.whole Tryd.underlying51 rfl szC ?_)
    | (go_at_call 15; refine (HH.out _ HW.out.1).mono ?_; rintro e w2 ⟨r, rfl, hr, hb2⟩; obtain ⟨ra, rc, rfl⟩ := HF.out _ _ hr; have HA : Hid (Blk 36 w2 w.heap.size [.slice ua un uc, .int .i64 pe, .int .i64 pa] ∧ Blk 36 w2 (w.heap.size + 2) [.slice none 0 0, .int .i64 0, .int .i64 0] ∧ Below w.heap.size w w2 ∧ Blk 51 w2 (w.heap.size + 1) [.slice none 0 0, .slice none 0 0, .slice none 0 0, ci, cs, .int .i64 0, .int .i64 0, .int .i64 0, .slice none 0 0, .slice none 0 0, .slice none 0 0, .slice none 0 0, .int .i64 0, .int .i64 0, .int .i64 0, .int .i64 0, .slice none 0 0, .bool false, .int .i64 0, .int .i64 0, .slice none 0 0, .bool false, .slice none 0 0, .slice none 0 0, .slice none 0 0, cp, .int .i64 cr, .int .i64 ch, .slice none 0 0, .slice none 0 0, .bool false]) := ⟨below_blk hb2 HW.out.2.1.lt HW.out.2.1, below_blk hb2 HW.out.2.2.2.1.lt HW.out.2.2.2.1, HW.out.1.trans (hb2.mono HW.out.1.size), below_blk hb2 HW.out.2.2.1.lt HW.out.2.2.1⟩; have c0 : w2.cell? ⟨w.heap.size, 0, none⟩ = some (.slice ua un uc) := HA.out.1.cell 0; have f0 := HA.out.1.frozen 0)
    | go_in)
  refine wp_genP (fun W => Blk 36 W w.heap.size [.slice ra g rc, .int .i64 pe, .int .i64 pa] ∧ Blk 36 W (w.heap.size + 2) [.slice none 0 0, .int .i64 0, .int .i64 0] ∧ TxS W (.slice ra g rc) s ∧ Below w.heap.size w W ∧ Blk 51 W (w.heap.size + 1) [.slice none 0 0, .slice none 0 0, .slice none 0 0, ci, cs, .int .i64 0, .int .i64 0, .int .i64 0, .slice none 0 0, .slice none 0 0, .slice none 0 0, .slice none 0 0, .int .i64 0, .int .i64 0, .int .i64 0, .int .i64 0, .slice none 0 0, .bool false, .int .i64 0, .int .i64 0, .slice none 0 0, .bool false, .slice none 0 0, .slice none 0 0, .slice none 0 0, cp, .int .i64 cr, .int .i64 ch, .slice none 0 0, .slice none 0 0, .bool false]) ⟨HA.out.1.set 0 _, (Upd.set w2 w.heap.size 0 _).blk HA.out.2.1 (by omega), hr.upd HA.out.1 (box_no _ _ _ _ _) (Upd.set w2 w.heap.size 0 _), (Upd.set w2 w.heap.size 0 _).below HA.out.2.2.1 HA.out.2.2.1.size (Nat.le_refl _), (Upd.set w2 w.heap.size 0 _).blk HA.out.2.2.2 (by omega)⟩ ?_
  clear HA hr hb2 c0 f0 w2
  rintro W ⟨g1, g2, g3, g4, g5⟩
  have HQ : Hid (Blk 36 W w.heap.size [.slice ra g rc, .int .i64 pe, .int .i64 pa] ∧ Blk 36 W (w.heap.size + 2) [.slice none 0 0, .int .i64 0, .int .i64 0] ∧ TxS W (.slice ra g rc) s ∧ Below w.heap.size w W ∧ Blk 51 W (w.heap.size + 1) [.slice none 0 0, .slice none 0 0, .slice none 0 0, ci, cs, .int .i64 0, .int .i64 0, .int .i64 0, .slice none 0 0, .slice none 0 0, .slice none 0 0, .slice none 0 0, .int .i64 0, .int .i64 0, .int .i64 0, .int .i64 0, .slice none 0 0, .bool false, .int .i64 0, .int .i64 0, .slice none 0 0, .bool false, .slice none 0 0, .slice none 0 0, .slice none 0 0, cp, .int .i64 cr, .int .i64 ch, .slice none 0 0, .slice none 0 0, .bool false]) := ⟨g1, g2, g3, g4, g5⟩
  have c1 : W.cell? ⟨w.heap.size, 0, none⟩ = some (.slice ra g rc) := g1.cell 0
  have c2 : W.cell? ⟨w.heap.size, 1, none⟩ = some (.int .i64 pe) := g1.cell 1
  have HT : Hid (∀ c0 : List Value, c0.length = 3 → Blk 36 (W.setCells (w.heap.size + 2) 0 c0) (w.heap.size + 2) c0 ∧ Below w.heap.size w (W.setCells (w.heap.size + 2) 0 c0)) := fun c0 h0 => by
    have hU := Upd.setCells (b := w.heap.size + 2) c0 0 W
    exact ⟨g2.fill c0 (by simpa using h0), hU.below g4 g4.size (by omega)⟩
  clear g1 g2 g3 g4 g5 hW0
  have hO := HE.out
  clear HE
  by_cases hz : g = 0 ∧ pe ≤ 0
  · obtain ⟨rfl, hl⟩ := hz
    have HN : Hid (s = []) := List.eq_nil_of_length_eq_zero HX.out
    rw [if_pos ⟨HN.out, hl⟩] at hO
    subst hO
    go_wp2_with (first
      | (refine wpList_store_mid rfl 36 (.tmp 6) (.tmp 22) rfl (w.heap.size + 2) 0 #[.slice none 0 0, .int .i64 0, .int .i64 0] rfl rfl (HQ.out.2.1.there 0 3 (by simp)) szPo (one3 _ _ _ _ _) ?_)
      | go_in)
    have hT := HT.out [.slice none 0 0, .int .i64 0, .int .i64 0] rfl
    refine bodyPost_ret (results_blk2P rfl rfl hT.1 Tryd.underlying36 rfl szPo rfl) rfl ⟨⟨_, rfl, TxS.nil _⟩, hT.2⟩
  · rw [if_neg (fun h => hz ⟨by rw [← HX.out, h.1]; rfl, h.2⟩)] at hO
    subst hO
    clear HT
    go_cut [21] from 13 to 21 (fun s21 wc => s21 = .bool false ∧ W = wc)
    case first =>
      by_cases hg0 : g = 0
      · subst hg0
        have hl : ¬ pe ≤ 0 := fun h => hz ⟨rfl, h⟩
        go_wp2
        go_meet
        case rel => exact ⟨rfl, rfl⟩
      · have hgz : ((g : Int) == 0) = false := by simpa using hg0
        have hgn : ¬ (g : Int) = 0 := by omega
        go_wp2
        go_meet
        case rel => exact ⟨rfl, rfl⟩
    case rest =>
      obtain ⟨rfl, rfl⟩ := hcut
      clear c1 c2
      cases o with
      | true =>
        go_upto_region 8 with (first
          | (refine wpList_load_mid rfl 51 (.tmp 4) rfl (w.heap.size + 1) 0 rfl [.slice none 0 0, .slice none 0 0, .slice none 0 0, ci, cs, .int .i64 0, .int .i64 0, .int .i64 0, .slice none 0 0, .slice none 0 0, .slice none 0 0, .slice none 0 0, .int .i64 0, .int .i64 0, .int .i64 0, .int .i64 0, .slice none 0 0, .bool false, .int .i64 0, .int .i64 0, .slice none 0 0, .bool false, .slice none 0 0, .slice none 0 0, .slice none 0 0, cp, .int .i64 cr, .int .i64 ch, .slice none 0 0, .slice none 0 0, .bool false] _ HQ.out.2.2.2.2.whole Tryd.underlying51 rfl szC ?_)
          | (go_at_call 16; refine (HO.out W HQ.out.2.2.2.1).mono ?_; rintro e w2 ⟨rfl, hb2⟩)
          | go_in)
        have H2 : Hid (Blk 36 w2 w.heap.size [.slice ra g rc, .int .i64 pe, .int .i64 pa] ∧ Blk 51 w2 (w.heap.size + 1) [.slice none 0 0, .slice none 0 0, .slice none 0 0, ci, cs, .int .i64 0, .int .i64 0, .int .i64 0, .slice none 0 0, .slice none 0 0, .slice none 0 0, .slice none 0 0, .int .i64 0, .int .i64 0, .int .i64 0, .int .i64 0, .slice none 0 0, .bool false, .int .i64 0, .int .i64 0, .slice none 0 0, .bool false, .slice none 0 0, .slice none 0 0, .slice none 0 0, cp, .int .i64 cr, .int .i64 ch, .slice none 0 0, .slice none 0 0, .bool false] ∧ Blk 36 w2 (w.heap.size + 2) [.slice none 0 0, .int .i64 0, .int .i64 0] ∧ TxS w2 (.slice ra g rc) s ∧ Below w.heap.size w w2) := ⟨below_blk hb2 HQ.out.1.lt HQ.out.1, below_blk hb2 HQ.out.2.2.2.2.lt HQ.out.2.2.2.2, below_blk hb2 HQ.out.2.1.lt HQ.out.2.1, HQ.out.2.2.1.below hb2, HQ.out.2.2.2.1.trans (hb2.mono HQ.out.2.2.2.1.size)⟩
        clear hb2
        refine wp_region_cl (β := Unit) (fun _ k => ([.pointer (some ⟨w.heap.size, 1, none⟩), .int .i64 pe, .pointer (some ⟨w.heap.size + 1, 26, none⟩), .int .i64 cr, .int .i64 (bnd pe cr), .pointer (some ⟨w.heap.size, 2, none⟩), .int .i64 pa, .pointer (some ⟨w.heap.size + 1, 27, none⟩), .int .i64 ch, .int .i64 (bnd pa ch), .pointer (some ⟨w.heap.size, 1, none⟩), undef, .pointer (some ⟨w.heap.size, 2, none⟩), undef] : List Value).getD k undef) (fun _ L W => St2 11 13 (fun W => Blk 36 W w.heap.size [.slice ra g rc, .int .i64 pe, .int .i64 pa] ∧ Blk 51 W (w.heap.size + 1) [.slice none 0 0, .slice none 0 0, .slice none 0 0, ci, cs, .int .i64 0, .int .i64 0, .int .i64 0, .slice none 0 0, .slice none 0 0, .slice none 0 0, .slice none 0 0, .int .i64 0, .int .i64 0, .int .i64 0, .int .i64 0, .slice none 0 0, .bool false, .int .i64 0, .int .i64 0, .slice none 0 0, .bool false, .slice none 0 0, .slice none 0 0, .slice none 0 0, cp, .int .i64 cr, .int .i64 ch, .slice none 0 0, .slice none 0 0, .bool false] ∧ Upd w2 W w.heap.size) (fun W => Blk 36 W w.heap.size [.slice ra g rc, .int .i64 (bnd pe cr), .int .i64 pa] ∧ Blk 51 W (w.heap.size + 1) [.slice none 0 0, .slice none 0 0, .slice none 0 0, ci, cs, .int .i64 0, .int .i64 0, .int .i64 0, .slice none 0 0, .slice none 0 0, .slice none 0 0, .slice none 0 0, .int .i64 0, .int .i64 0, .int .i64 0, .int .i64 0, .slice none 0 0, .bool false, .int .i64 0, .int .i64 0, .slice none 0 0, .bool false, .slice none 0 0, .slice none 0 0, .slice none 0 0, cp, .int .i64 cr, .int .i64 ch, .slice none 0 0, .slice none 0 0, .bool false] ∧ Upd w2 W w.heap.size) (fun W => Blk 36 W w.heap.size [.slice ra g rc, .int .i64 (bnd pe cr), .int .i64 (bnd pa ch)] ∧ Blk 51 W (w.heap.size + 1) [.slice none 0 0, .slice none 0 0, .slice none 0 0, ci, cs, .int .i64 0, .int .i64 0, .int .i64 0, .slice none 0 0, .slice none 0 0, .slice none 0 0, .slice none 0 0, .int .i64 0, .int .i64 0, .int .i64 0, .int .i64 0, .slice none 0 0, .bool false, .int .i64 0, .int .i64 0, .slice none 0 0, .bool false, .slice none 0 0, .slice none 0 0, .slice none 0 0, cp, .int .i64 cr, .int .i64 ch, .slice none 0 0, .slice none 0 0, .bool false] ∧ Upd w2 W w.heap.size) L W) () rfl (by decide +kernel) (show dstB _ 49 = true by decide +kernel) (St2.start ⟨H2.out.1, H2.out.2.1, ⟨rfl, rfl, rfl, Nat.le_refl _, fun _ _ _ => rfl⟩⟩) (fun _ L W hup hS => ?_) (fun i _ L W a hi hno hsz hdep hv h0 hcl hS => ?_)
        rotate_left
        · replace hi : i < 14 := hi
          obtain rfl | rfl | rfl | rfl | rfl | rfl | rfl | rfl | rfl | rfl | rfl | rfl | rfl | rfl : i = 0 ∨ i = 1 ∨ i = 2 ∨ i = 3 ∨ i = 4 ∨ i = 5 ∨ i = 6 ∨ i = 7 ∨ i = 8 ∨ i = 9 ∨ i = 10 ∨ i = 11 ∨ i = 12 ∨ i = 13 := by omega
          · have x3 : a.eval (.tmp 3) = .pointer (some ⟨w.heap.size, 0, none⟩) := (h0 3 (by decide +kernel)).trans rfl
            exact rg_val rfl (wn_any rfl) (run_fa (v := .pointer (some ⟨w.heap.size, 1, none⟩)) rfl x3 (by simp [go_sem, Instr.fieldAt])) (hS.other (by decide) (by decide))
          · have a1 := hS.1 (fun u => hno (hcl 11 u 1 (by decide +kernel)))
            have q1 : W.cell? ⟨w.heap.size, 1, none⟩ = some (.int .i64 pe) := a1.1.cell 1
            have e36 : a.eval (.tmp 36) = .pointer (some ⟨w.heap.size, 1, none⟩) := hv 0 _ (show 0 < 14 by decide) (hdep 0 (by decide +kernel)) rfl
            exact rg_val rfl (wn_any rfl) (run_ld (v := .int .i64 pe) rfl e36 (by simp [go_sem, Instr.loadAt, q1])) (hS.other (by decide) (by decide))
          · have x4 : a.eval (.tmp 4) = .pointer (some ⟨w.heap.size + 1, 0, none⟩) := (h0 4 (by decide +kernel)).trans rfl
            exact rg_val rfl (wn_any rfl) (run_fa (v := .pointer (some ⟨w.heap.size + 1, 26, none⟩)) rfl x4 (by simp [go_sem, Instr.fieldAt])) (hS.other (by decide) (by decide))
          · have a3 := hS.get (fun x => x.2.1) (fun x => x.2.1) (fun x => x.2.1)
            have q3 : W.cell? ⟨w.heap.size + 1, 26, none⟩ = some (.int .i64 cr) := a3.cell 26
            have e38 : a.eval (.tmp 38) = .pointer (some ⟨w.heap.size + 1, 26, none⟩) := hv 2 _ (show 2 < 14 by decide) (hdep 2 (by decide +kernel)) rfl
            exact rg_val rfl (wn_any rfl) (run_ld (v := .int .i64 cr) rfl e38 (by simp [go_sem, Instr.loadAt, q3])) (hS.other (by decide) (by decide))
          · have e37 : a.eval (.tmp 37) = .int .i64 pe := hv 1 _ (show 1 < 14 by decide) (hdep 1 (by decide +kernel)) rfl
            have e39 : a.eval (.tmp 39) = .int .i64 cr := hv 3 _ (show 3 < 14 by decide) (hdep 3 (by decide +kernel)) rfl
            exact rg_call rfl (wn_any rfl) (run_cl2 rfl e37 e39 eg_bounded) (R := fun w' => W = w') (bounded_any _ _) (fun w' h => by subst h; exact hS.other (by decide) (by decide))
          · have x3 : a.eval (.tmp 3) = .pointer (some ⟨w.heap.size, 0, none⟩) := (h0 3 (by decide +kernel)).trans rfl
            exact rg_val rfl (wn_any rfl) (run_fa (v := .pointer (some ⟨w.heap.size, 2, none⟩)) rfl x3 (by simp [go_sem, Instr.fieldAt])) (hS.other (by decide) (by decide))
          · have a6 := hS.1 (fun u => hno (hcl 11 u 6 (by decide +kernel)))
            have q6 : W.cell? ⟨w.heap.size, 2, none⟩ = some (.int .i64 pa) := a6.1.cell 2
            have e41 : a.eval (.tmp 41) = .pointer (some ⟨w.heap.size, 2, none⟩) := hv 5 _ (show 5 < 14 by decide) (hdep 5 (by decide +kernel)) rfl
            exact rg_val rfl (wn_any rfl) (run_ld (v := .int .i64 pa) rfl e41 (by simp [go_sem, Instr.loadAt, q6])) (hS.other (by decide) (by decide))
          · have x4 : a.eval (.tmp 4) = .pointer (some ⟨w.heap.size + 1, 0, none⟩) := (h0 4 (by decide +kernel)).trans rfl
            exact rg_val rfl (wn_any rfl) (run_fa (v := .pointer (some ⟨w.heap.size + 1, 27, none⟩)) rfl x4 (by simp [go_sem, Instr.fieldAt])) (hS.other (by decide) (by decide))
          · have a8 := hS.get (fun x => x.2.1) (fun x => x.2.1) (fun x => x.2.1)
            have q8 : W.cell? ⟨w.heap.size + 1, 27, none⟩ = some (.int .i64 ch) := a8.cell 27
            have e43 : a.eval (.tmp 43) = .pointer (some ⟨w.heap.size + 1, 27, none⟩) := hv 7 _ (show 7 < 14 by decide) (hdep 7 (by decide +kernel)) rfl
            exact rg_val rfl (wn_any rfl) (run_ld (v := .int .i64 ch) rfl e43 (by simp [go_sem, Instr.loadAt, q8])) (hS.other (by decide) (by decide))
          · have e42 : a.eval (.tmp 42) = .int .i64 pa := hv 6 _ (show 6 < 14 by decide) (hdep 6 (by decide +kernel)) rfl
            have e44 : a.eval (.tmp 44) = .int .i64 ch := hv 8 _ (show 8 < 14 by decide) (hdep 8 (by decide +kernel)) rfl
            exact rg_call rfl (wn_any rfl) (run_cl2 rfl e42 e44 eg_bounded) (R := fun w' => W = w') (bounded_any _ _) (fun w' h => by subst h; exact hS.other (by decide) (by decide))
          · have x3 : a.eval (.tmp 3) = .pointer (some ⟨w.heap.size, 0, none⟩) := (h0 3 (by decide +kernel)).trans rfl
            exact rg_val rfl (wn_any rfl) (run_fa (v := .pointer (some ⟨w.heap.size, 1, none⟩)) rfl x3 (by simp [go_sem, Instr.fieldAt])) (hS.other (by decide) (by decide))
          · have a11 := hS.1 hno
            have q11 : W.cell? ⟨w.heap.size, 1, none⟩ = some (.int .i64 pe) := a11.1.cell 1
            have f11 := a11.1.frozen 1
            have e46 : a.eval (.tmp 46) = .pointer (some ⟨w.heap.size, 1, none⟩) := hv 10 _ (show 10 < 14 by decide) (hdep 10 (by decide +kernel)) rfl
            have e40 : a.eval (.tmp 40) = .int .i64 (bnd pe cr) := hv 4 _ (show 4 < 14 by decide) (hdep 4 (by decide +kernel)) rfl
            exact rg_st1 rfl (wn_any rfl) rfl (run_s1 rfl e46 e40 (by simp [go_sem, Instr.storeAt, q11, f11])) (hS.first hno (fun u => hno (hcl 13 u 11 (by decide +kernel))) (hsz 11 (by decide)) (by decide) ⟨a11.1.set 1 _, (Upd.set W w.heap.size 1 _).blk a11.2.1 (by omega), a11.2.2.trans (Upd.set W w.heap.size 1 _)⟩)
          · have x3 : a.eval (.tmp 3) = .pointer (some ⟨w.heap.size, 0, none⟩) := (h0 3 (by decide +kernel)).trans rfl
            exact rg_val rfl (wn_any rfl) (run_fa (v := .pointer (some ⟨w.heap.size, 2, none⟩)) rfl x3 (by simp [go_sem, Instr.fieldAt])) (hS.other (by decide) (by decide))
          · have a13 := hS.2.1 (hdep 11 (by decide +kernel)) hno
            have q13 : W.cell? ⟨w.heap.size, 2, none⟩ = some (.int .i64 pa) := a13.1.cell 2
            have f13 := a13.1.frozen 2
            have e47 : a.eval (.tmp 47) = .pointer (some ⟨w.heap.size, 2, none⟩) := hv 12 _ (show 12 < 14 by decide) (hdep 12 (by decide +kernel)) rfl
            have e45 : a.eval (.tmp 45) = .int .i64 (bnd pa ch) := hv 9 _ (show 9 < 14 by decide) (hdep 9 (by decide +kernel)) rfl
            exact rg_st1 rfl (wn_any rfl) rfl (run_s1 rfl e47 e45 (by simp [go_sem, Instr.storeAt, q13, f13])) (hS.second hno (hsz 13 (by decide)) (by decide) ⟨a13.1.set 2 _, (Upd.set W w.heap.size 2 _).blk a13.2.1 (by omega), a13.2.2.trans (Upd.set W w.heap.size 2 _)⟩ (hdep 11 (by decide +kernel)))
        rw [frG14_3ffa rfl rfl rfl rfl rfl rfl rfl rfl rfl rfl rfl rfl rfl rfl rfl]
        simp only [List.setIfInBounds_toArray, List.set_cons_succ, List.set_cons_zero, List.getD_cons_zero, List.getD_cons_succ]
        have H4 : Hid (Blk 36 W w.heap.size [.slice ra g rc, .int .i64 (bnd pe cr), .int .i64 (bnd pa ch)] ∧ Upd w2 W w.heap.size) := ⟨(hS.2.2 (hup 13 (by decide))).1, (hS.2.2 (hup 13 (by decide))).2.2⟩
        have HZ2 : Hid (Blk 36 W (w.heap.size + 2) [.slice none 0 0, .int .i64 0, .int .i64 0] ∧ TxS W (.slice ra g rc) s ∧ Below w.heap.size w W) := ⟨H4.out.2.blk H2.out.2.2.1 (by omega), H2.out.2.2.2.1.upd H2.out.1 (box_no _ _ _ _ _) H4.out.2, H4.out.2.below H2.out.2.2.2.2 H2.out.2.2.2.2.size (Nat.le_refl _)⟩
        clear hS hup
        go_wp2_with (first
          | (refine wpList_load_mid rfl 36 (.tmp 3) rfl w.heap.size 0 rfl [.slice ra g rc, .int .i64 (bnd pe cr), .int .i64 (bnd pa ch)] _ H4.out.1.whole Tryd.underlying36 rfl szPo ?_)
          | (refine wpList_store_mid rfl 36 (.tmp 6) (.tmp 48) rfl (w.heap.size + 2) 0 #[.slice ra g rc, .int .i64 (bnd pe cr), .int .i64 (bnd pa ch)] rfl rfl (HZ2.out.1.there 0 3 (by simp)) szPo (one3 _ _ _ _ _) ?_)
          | go_in)
        have hU := Upd.setCells (b := w.heap.size + 2) [.slice ra g rc, .int .i64 (bnd pe cr), .int .i64 (bnd pa ch)] 0 W
        refine bodyPost_ret (results_blk2P rfl rfl (HZ2.out.1.fill _ rfl) Tryd.underlying36 rfl szPo rfl) rfl ⟨⟨_, rfl, HZ2.out.2.1.upd HZ2.out.1 (box_no _ _ _ _ _) hU⟩, hU.below HZ2.out.2.2 HZ2.out.2.2.size (by omega)⟩
      | false =>
        go_upto_region 7 with (first
          | (refine wpList_load_mid rfl 51 (.tmp 4) rfl (w.heap.size + 1) 0 rfl [.slice none 0 0, .slice none 0 0, .slice none 0 0, ci, cs, .int .i64 0, .int .i64 0, .int .i64 0, .slice none 0 0, .slice none 0 0, .slice none 0 0, .slice none 0 0, .int .i64 0, .int .i64 0, .int .i64 0, .int .i64 0, .slice none 0 0, .bool false, .int .i64 0, .int .i64 0, .slice none 0 0, .bool false, .slice none 0 0, .slice none 0 0, .slice none 0 0, cp, .int .i64 cr, .int .i64 ch, .slice none 0 0, .slice none 0 0, .bool false] _ HQ.out.2.2.2.2.whole Tryd.underlying51 rfl szC ?_)
          | (go_at_call 16; refine (HO.out W HQ.out.2.2.2.1).mono ?_; rintro e w2 ⟨rfl, hb2⟩)
          | go_in)
        have H2 : Hid (Blk 36 w2 w.heap.size [.slice ra g rc, .int .i64 pe, .int .i64 pa] ∧ Blk 51 w2 (w.heap.size + 1) [.slice none 0 0, .slice none 0 0, .slice none 0 0, ci, cs, .int .i64 0, .int .i64 0, .int .i64 0, .slice none 0 0, .slice none 0 0, .slice none 0 0, .slice none 0 0, .int .i64 0, .int .i64 0, .int .i64 0, .int .i64 0, .slice none 0 0, .bool false, .int .i64 0, .int .i64 0, .slice none 0 0, .bool false, .slice none 0 0, .slice none 0 0, .slice none 0 0, cp, .int .i64 cr, .int .i64 ch, .slice none 0 0, .slice none 0 0, .bool false] ∧ Blk 36 w2 (w.heap.size + 2) [.slice none 0 0, .int .i64 0, .int .i64 0] ∧ TxS w2 (.slice ra g rc) s ∧ Below w.heap.size w w2) := ⟨below_blk hb2 HQ.out.1.lt HQ.out.1, below_blk hb2 HQ.out.2.2.2.2.lt HQ.out.2.2.2.2, below_blk hb2 HQ.out.2.1.lt HQ.out.2.1, HQ.out.2.2.1.below hb2, HQ.out.2.2.2.1.trans (hb2.mono HQ.out.2.2.2.1.size)⟩
        clear hb2
        refine wp_region_cl (β := Unit) (fun _ k => ([.pointer (some ⟨w.heap.size, 1, none⟩), .int .i64 pe, .int .i64 (less pe), .pointer (some ⟨w.heap.size, 2, none⟩), .int .i64 pa, .int .i64 (less pa), .pointer (some ⟨w.heap.size, 1, none⟩), undef, .pointer (some ⟨w.heap.size, 2, none⟩), undef] : List Value).getD k undef) (fun _ L W => St2 7 9 (fun W => Blk 36 W w.heap.size [.slice ra g rc, .int .i64 pe, .int .i64 pa] ∧ Blk 51 W (w.heap.size + 1) [.slice none 0 0, .slice none 0 0, .slice none 0 0, ci, cs, .int .i64 0, .int .i64 0, .int .i64 0, .slice none 0 0, .slice none 0 0, .slice none 0 0, .slice none 0 0, .int .i64 0, .int .i64 0, .int .i64 0, .int .i64 0, .slice none 0 0, .bool false, .int .i64 0, .int .i64 0, .slice none 0 0, .bool false, .slice none 0 0, .slice none 0 0, .slice none 0 0, cp, .int .i64 cr, .int .i64 ch, .slice none 0 0, .slice none 0 0, .bool false] ∧ Upd w2 W w.heap.size) (fun W => Blk 36 W w.heap.size [.slice ra g rc, .int .i64 (less pe), .int .i64 pa] ∧ Blk 51 W (w.heap.size + 1) [.slice none 0 0, .slice none 0 0, .slice none 0 0, ci, cs, .int .i64 0, .int .i64 0, .int .i64 0, .slice none 0 0, .slice none 0 0, .slice none 0 0, .slice none 0 0, .int .i64 0, .int .i64 0, .int .i64 0, .int .i64 0, .slice none 0 0, .bool false, .int .i64 0, .int .i64 0, .slice none 0 0, .bool false, .slice none 0 0, .slice none 0 0, .slice none 0 0, cp, .int .i64 cr, .int .i64 ch, .slice none 0 0, .slice none 0 0, .bool false] ∧ Upd w2 W w.heap.size) (fun W => Blk 36 W w.heap.size [.slice ra g rc, .int .i64 (less pe), .int .i64 (less pa)] ∧ Blk 51 W (w.heap.size + 1) [.slice none 0 0, .slice none 0 0, .slice none 0 0, ci, cs, .int .i64 0, .int .i64 0, .int .i64 0, .slice none 0 0, .slice none 0 0, .slice none 0 0, .slice none 0 0, .int .i64 0, .int .i64 0, .int .i64 0, .int .i64 0, .slice none 0 0, .bool false, .int .i64 0, .int .i64 0, .slice none 0 0, .bool false, .slice none 0 0, .slice none 0 0, .slice none 0 0, cp, .int .i64 cr, .int .i64 ch, .slice none 0 0, .slice none 0 0, .bool false] ∧ Upd w2 W w.heap.size) L W) () rfl (by decide +kernel) (show dstB _ 49 = true by decide +kernel) (St2.start ⟨H2.out.1, H2.out.2.1, ⟨rfl, rfl, rfl, Nat.le_refl _, fun _ _ _ => rfl⟩⟩) (fun _ L W hup hS => ?_) (fun i _ L W a hi hno hsz hdep hv h0 hcl hS => ?_)
        rotate_left
        · replace hi : i < 10 := hi
          obtain rfl | rfl | rfl | rfl | rfl | rfl | rfl | rfl | rfl | rfl : i = 0 ∨ i = 1 ∨ i = 2 ∨ i = 3 ∨ i = 4 ∨ i = 5 ∨ i = 6 ∨ i = 7 ∨ i = 8 ∨ i = 9 := by omega
          · have x3 : a.eval (.tmp 3) = .pointer (some ⟨w.heap.size, 0, none⟩) := (h0 3 (by decide +kernel)).trans rfl
            exact rg_val rfl (wn_any rfl) (run_fa (v := .pointer (some ⟨w.heap.size, 1, none⟩)) rfl x3 (by simp [go_sem, Instr.fieldAt])) (hS.other (by decide) (by decide))
          · have a1 := hS.1 (fun u => hno (hcl 7 u 1 (by decide +kernel)))
            have q1 : W.cell? ⟨w.heap.size, 1, none⟩ = some (.int .i64 pe) := a1.1.cell 1
            have e28 : a.eval (.tmp 28) = .pointer (some ⟨w.heap.size, 1, none⟩) := hv 0 _ (show 0 < 10 by decide) (hdep 0 (by decide +kernel)) rfl
            exact rg_val rfl (wn_any rfl) (run_ld (v := .int .i64 pe) rfl e28 (by simp [go_sem, Instr.loadAt, q1])) (hS.other (by decide) (by decide))
          · have e29 : a.eval (.tmp 29) = .int .i64 pe := hv 1 _ (show 1 < 10 by decide) (hdep 1 (by decide +kernel)) rfl
            exact rg_call rfl (wn_any rfl) (run_cl1 rfl e29 eg_oneLess) (R := fun w' => W = w') (HL1.out W) (fun w' h => by subst h; exact hS.other (by decide) (by decide))
          · have x3 : a.eval (.tmp 3) = .pointer (some ⟨w.heap.size, 0, none⟩) := (h0 3 (by decide +kernel)).trans rfl
            exact rg_val rfl (wn_any rfl) (run_fa (v := .pointer (some ⟨w.heap.size, 2, none⟩)) rfl x3 (by simp [go_sem, Instr.fieldAt])) (hS.other (by decide) (by decide))
          · have a4 := hS.1 (fun u => hno (hcl 7 u 4 (by decide +kernel)))
            have q4 : W.cell? ⟨w.heap.size, 2, none⟩ = some (.int .i64 pa) := a4.1.cell 2
            have e31 : a.eval (.tmp 31) = .pointer (some ⟨w.heap.size, 2, none⟩) := hv 3 _ (show 3 < 10 by decide) (hdep 3 (by decide +kernel)) rfl
            exact rg_val rfl (wn_any rfl) (run_ld (v := .int .i64 pa) rfl e31 (by simp [go_sem, Instr.loadAt, q4])) (hS.other (by decide) (by decide))
          · have e32 : a.eval (.tmp 32) = .int .i64 pa := hv 4 _ (show 4 < 10 by decide) (hdep 4 (by decide +kernel)) rfl
            exact rg_call rfl (wn_any rfl) (run_cl1 rfl e32 eg_oneLess) (R := fun w' => W = w') (HL2.out W) (fun w' h => by subst h; exact hS.other (by decide) (by decide))
          · have x3 : a.eval (.tmp 3) = .pointer (some ⟨w.heap.size, 0, none⟩) := (h0 3 (by decide +kernel)).trans rfl
            exact rg_val rfl (wn_any rfl) (run_fa (v := .pointer (some ⟨w.heap.size, 1, none⟩)) rfl x3 (by simp [go_sem, Instr.fieldAt])) (hS.other (by decide) (by decide))
          · have a7 := hS.1 hno
            have q7 : W.cell? ⟨w.heap.size, 1, none⟩ = some (.int .i64 pe) := a7.1.cell 1
            have f7 := a7.1.frozen 1
            have e34 : a.eval (.tmp 34) = .pointer (some ⟨w.heap.size, 1, none⟩) := hv 6 _ (show 6 < 10 by decide) (hdep 6 (by decide +kernel)) rfl
            have e30 : a.eval (.tmp 30) = .int .i64 (less pe) := hv 2 _ (show 2 < 10 by decide) (hdep 2 (by decide +kernel)) rfl
            exact rg_st1 rfl (wn_any rfl) rfl (run_s1 rfl e34 e30 (by simp [go_sem, Instr.storeAt, q7, f7])) (hS.first hno (fun u => hno (hcl 9 u 7 (by decide +kernel))) (hsz 7 (by decide)) (by decide) ⟨a7.1.set 1 _, (Upd.set W w.heap.size 1 _).blk a7.2.1 (by omega), a7.2.2.trans (Upd.set W w.heap.size 1 _)⟩)
          · have x3 : a.eval (.tmp 3) = .pointer (some ⟨w.heap.size, 0, none⟩) := (h0 3 (by decide +kernel)).trans rfl
            exact rg_val rfl (wn_any rfl) (run_fa (v := .pointer (some ⟨w.heap.size, 2, none⟩)) rfl x3 (by simp [go_sem, Instr.fieldAt])) (hS.other (by decide) (by decide))
          · have a9 := hS.2.1 (hdep 7 (by decide +kernel)) hno
            have q9 : W.cell? ⟨w.heap.size, 2, none⟩ = some (.int .i64 pa) := a9.1.cell 2
            have f9 := a9.1.frozen 2
            have e35 : a.eval (.tmp 35) = .pointer (some ⟨w.heap.size, 2, none⟩) := hv 8 _ (show 8 < 10 by decide) (hdep 8 (by decide +kernel)) rfl
            have e33 : a.eval (.tmp 33) = .int .i64 (less pa) := hv 5 _ (show 5 < 10 by decide) (hdep 5 (by decide +kernel)) rfl
            exact rg_st1 rfl (wn_any rfl) rfl (run_s1 rfl e35 e33 (by simp [go_sem, Instr.storeAt, q9, f9])) (hS.second hno (hsz 9 (by decide)) (by decide) ⟨a9.1.set 2 _, (Upd.set W w.heap.size 2 _).blk a9.2.1 (by omega), a9.2.2.trans (Upd.set W w.heap.size 2 _)⟩ (hdep 7 (by decide +kernel)))
        rw [frG10_3fa rfl rfl rfl rfl rfl rfl rfl rfl rfl rfl rfl]
        simp only [List.setIfInBounds_toArray, List.set_cons_succ, List.set_cons_zero, List.getD_cons_zero, List.getD_cons_succ]
        have H3 : Hid (Blk 36 W w.heap.size [.slice ra g rc, .int .i64 (less pe), .int .i64 (less pa)] ∧ Blk 51 W (w.heap.size + 1) [.slice none 0 0, .slice none 0 0, .slice none 0 0, ci, cs, .int .i64 0, .int .i64 0, .int .i64 0, .slice none 0 0, .slice none 0 0, .slice none 0 0, .slice none 0 0, .int .i64 0, .int .i64 0, .int .i64 0, .int .i64 0, .slice none 0 0, .bool false, .int .i64 0, .int .i64 0, .slice none 0 0, .bool false, .slice none 0 0, .slice none 0 0, .slice none 0 0, cp, .int .i64 cr, .int .i64 ch, .slice none 0 0, .slice none 0 0, .bool false] ∧ Upd w2 W w.heap.size) := hS.2.2 (hup 9 (by decide))
        clear hS hup
        go_upto_region 8 with (fail)
        refine wp_region_cl (β := Unit) (fun _ k => ([.pointer (some ⟨w.heap.size, 1, none⟩), .int .i64 (less pe), .pointer (some ⟨w.heap.size + 1, 26, none⟩), .int .i64 cr, .int .i64 (bnd (less pe) cr), .pointer (some ⟨w.heap.size, 2, none⟩), .int .i64 (less pa), .pointer (some ⟨w.heap.size + 1, 27, none⟩), .int .i64 ch, .int .i64 (bnd (less pa) ch), .pointer (some ⟨w.heap.size, 1, none⟩), undef, .pointer (some ⟨w.heap.size, 2, none⟩), undef] : List Value).getD k undef) (fun _ L W => St2 11 13 (fun W => Blk 36 W w.heap.size [.slice ra g rc, .int .i64 (less pe), .int .i64 (less pa)] ∧ Blk 51 W (w.heap.size + 1) [.slice none 0 0, .slice none 0 0, .slice none 0 0, ci, cs, .int .i64 0, .int .i64 0, .int .i64 0, .slice none 0 0, .slice none 0 0, .slice none 0 0, .slice none 0 0, .int .i64 0, .int .i64 0, .int .i64 0, .int .i64 0, .slice none 0 0, .bool false, .int .i64 0, .int .i64 0, .slice none 0 0, .bool false, .slice none 0 0, .slice none 0 0, .slice none 0 0, cp, .int .i64 cr, .int .i64 ch, .slice none 0 0, .slice none 0 0, .bool false] ∧ Upd w2 W w.heap.size) (fun W => Blk 36 W w.heap.size [.slice ra g rc, .int .i64 (bnd (less pe) cr), .int .i64 (less pa)] ∧ Blk 51 W (w.heap.size + 1) [.slice none 0 0, .slice none 0 0, .slice none 0 0, ci, cs, .int .i64 0, .int .i64 0, .int .i64 0, .slice none 0 0, .slice none 0 0, .slice none 0 0, .slice none 0 0, .int .i64 0, .int .i64 0, .int .i64 0, .int .i64 0, .slice none 0 0, .bool false, .int .i64 0, .int .i64 0, .slice none 0 0, .bool false, .slice none 0 0, .slice none 0 0, .slice none 0 0, cp, .int .i64 cr, .int .i64 ch, .slice none 0 0, .slice none 0 0, .bool false] ∧ Upd w2 W w.heap.size) (fun W => Blk 36 W w.heap.size [.slice ra g rc, .int .i64 (bnd (less pe) cr), .int .i64 (bnd (less pa) ch)] ∧ Blk 51 W (w.heap.size + 1) [.slice none 0 0, .slice none 0 0, .slice none 0 0, ci, cs, .int .i64 0, .int .i64 0, .int .i64 0, .slice none 0 0, .slice none 0 0, .slice none 0 0, .slice none 0 0, .int .i64 0, .int .i64 0, .int .i64 0, .int .i64 0, .slice none 0 0, .bool false, .int .i64 0, .int .i64 0, .slice none 0 0, .bool false, .slice none 0 0, .slice none 0 0, .slice none 0 0, cp, .int .i64 cr, .int .i64 ch, .slice none 0 0, .slice none 0 0, .bool false] ∧ Upd w2 W w.heap.size) L W) () rfl (by decide +kernel) (show dstB _ 49 = true by decide +kernel) (St2.start ⟨H3.out.1, H3.out.2.1, H3.out.2.2.trans ⟨rfl, rfl, rfl, Nat.le_refl _, fun _ _ _ => rfl⟩⟩) (fun _ L W hup hS => ?_) (fun i _ L W a hi hno hsz hdep hv h0 hcl hS => ?_)
        rotate_left
        · replace hi : i < 14 := hi
          obtain rfl | rfl | rfl | rfl | rfl | rfl | rfl | rfl | rfl | rfl | rfl | rfl | rfl | rfl : i = 0 ∨ i = 1 ∨ i = 2 ∨ i = 3 ∨ i = 4 ∨ i = 5 ∨ i = 6 ∨ i = 7 ∨ i = 8 ∨ i = 9 ∨ i = 10 ∨ i = 11 ∨ i = 12 ∨ i = 13 := by omega
          · have x3 : a.eval (.tmp 3) = .pointer (some ⟨w.heap.size, 0, none⟩) := (h0 3 (by decide +kernel)).trans rfl
            exact rg_val rfl (wn_any rfl) (run_fa (v := .pointer (some ⟨w.heap.size, 1, none⟩)) rfl x3 (by simp [go_sem, Instr.fieldAt])) (hS.other (by decide) (by decide))
          · have a1 := hS.1 (fun u => hno (hcl 11 u 1 (by decide +kernel)))
            have q1 : W.cell? ⟨w.heap.size, 1, none⟩ = some (.int .i64 (less pe)) := a1.1.cell 1
            have e36 : a.eval (.tmp 36) = .pointer (some ⟨w.heap.size, 1, none⟩) := hv 0 _ (show 0 < 14 by decide) (hdep 0 (by decide +kernel)) rfl
            exact rg_val rfl (wn_any rfl) (run_ld (v := .int .i64 (less pe)) rfl e36 (by simp [go_sem, Instr.loadAt, q1])) (hS.other (by decide) (by decide))
          · have x4 : a.eval (.tmp 4) = .pointer (some ⟨w.heap.size + 1, 0, none⟩) := (h0 4 (by decide +kernel)).trans rfl
            exact rg_val rfl (wn_any rfl) (run_fa (v := .pointer (some ⟨w.heap.size + 1, 26, none⟩)) rfl x4 (by simp [go_sem, Instr.fieldAt])) (hS.other (by decide) (by decide))
          · have a3 := hS.get (fun x => x.2.1) (fun x => x.2.1) (fun x => x.2.1)
            have q3 : W.cell? ⟨w.heap.size + 1, 26, none⟩ = some (.int .i64 cr) := a3.cell 26
            have e38 : a.eval (.tmp 38) = .pointer (some ⟨w.heap.size + 1, 26, none⟩) := hv 2 _ (show 2 < 14 by decide) (hdep 2 (by decide +kernel)) rfl
            exact rg_val rfl (wn_any rfl) (run_ld (v := .int .i64 cr) rfl e38 (by simp [go_sem, Instr.loadAt, q3])) (hS.other (by decide) (by decide))
          · have e37 : a.eval (.tmp 37) = .int .i64 (less pe) := hv 1 _ (show 1 < 14 by decide) (hdep 1 (by decide +kernel)) rfl
            have e39 : a.eval (.tmp 39) = .int .i64 cr := hv 3 _ (show 3 < 14 by decide) (hdep 3 (by decide +kernel)) rfl
            exact rg_call rfl (wn_any rfl) (run_cl2 rfl e37 e39 eg_bounded) (R := fun w' => W = w') (bounded_any _ _) (fun w' h => by subst h; exact hS.other (by decide) (by decide))
          · have x3 : a.eval (.tmp 3) = .pointer (some ⟨w.heap.size, 0, none⟩) := (h0 3 (by decide +kernel)).trans rfl
            exact rg_val rfl (wn_any rfl) (run_fa (v := .pointer (some ⟨w.heap.size, 2, none⟩)) rfl x3 (by simp [go_sem, Instr.fieldAt])) (hS.other (by decide) (by decide))
          · have a6 := hS.1 (fun u => hno (hcl 11 u 6 (by decide +kernel)))
            have q6 : W.cell? ⟨w.heap.size, 2, none⟩ = some (.int .i64 (less pa)) := a6.1.cell 2
            have e41 : a.eval (.tmp 41) = .pointer (some ⟨w.heap.size, 2, none⟩) := hv 5 _ (show 5 < 14 by decide) (hdep 5 (by decide +kernel)) rfl
            exact rg_val rfl (wn_any rfl) (run_ld (v := .int .i64 (less pa)) rfl e41 (by simp [go_sem, Instr.loadAt, q6])) (hS.other (by decide) (by decide))
          · have x4 : a.eval (.tmp 4) = .pointer (some ⟨w.heap.size + 1, 0, none⟩) := (h0 4 (by decide +kernel)).trans rfl
            exact rg_val rfl (wn_any rfl) (run_fa (v := .pointer (some ⟨w.heap.size + 1, 27, none⟩)) rfl x4 (by simp [go_sem, Instr.fieldAt])) (hS.other (by decide) (by decide))
          · have a8 := hS.get (fun x => x.2.1) (fun x => x.2.1) (fun x => x.2.1)
            have q8 : W.cell? ⟨w.heap.size + 1, 27, none⟩ = some (.int .i64 ch) := a8.cell 27
            have e43 : a.eval (.tmp 43) = .pointer (some ⟨w.heap.size + 1, 27, none⟩) := hv 7 _ (show 7 < 14 by decide) (hdep 7 (by decide +kernel)) rfl
            exact rg_val rfl (wn_any rfl) (run_ld (v := .int .i64 ch) rfl e43 (by simp [go_sem, Instr.loadAt, q8])) (hS.other (by decide) (by decide))
          · have e42 : a.eval (.tmp 42) = .int .i64 (less pa) := hv 6 _ (show 6 < 14 by decide) (hdep 6 (by decide +kernel)) rfl
            have e44 : a.eval (.tmp 44) = .int .i64 ch := hv 8 _ (show 8 < 14 by decide) (hdep 8 (by decide +kernel)) rfl
            exact rg_call rfl (wn_any rfl) (run_cl2 rfl e42 e44 eg_bounded) (R := fun w' => W = w') (bounded_any _ _) (fun w' h => by subst h; exact hS.other (by decide) (by decide))
          · have x3 : a.eval (.tmp 3) = .pointer (some ⟨w.heap.size, 0, none⟩) := (h0 3 (by decide +kernel)).trans rfl
            exact rg_val rfl (wn_any rfl) (run_fa (v := .pointer (some ⟨w.heap.size, 1, none⟩)) rfl x3 (by simp [go_sem, Instr.fieldAt])) (hS.other (by decide) (by decide))
          · have a11 := hS.1 hno
            have q11 : W.cell? ⟨w.heap.size, 1, none⟩ = some (.int .i64 (less pe)) := a11.1.cell 1
            have f11 := a11.1.frozen 1
            have e46 : a.eval (.tmp 46) = .pointer (some ⟨w.heap.size, 1, none⟩) := hv 10 _ (show 10 < 14 by decide) (hdep 10 (by decide +kernel)) rfl
            have e40 : a.eval (.tmp 40) = .int .i64 (bnd (less pe) cr) := hv 4 _ (show 4 < 14 by decide) (hdep 4 (by decide +kernel)) rfl
            exact rg_st1 rfl (wn_any rfl) rfl (run_s1 rfl e46 e40 (by simp [go_sem, Instr.storeAt, q11, f11])) (hS.first hno (fun u => hno (hcl 13 u 11 (by decide +kernel))) (hsz 11 (by decide)) (by decide) ⟨a11.1.set 1 _, (Upd.set W w.heap.size 1 _).blk a11.2.1 (by omega), a11.2.2.trans (Upd.set W w.heap.size 1 _)⟩)
          · have x3 : a.eval (.tmp 3) = .pointer (some ⟨w.heap.size, 0, none⟩) := (h0 3 (by decide +kernel)).trans rfl
            exact rg_val rfl (wn_any rfl) (run_fa (v := .pointer (some ⟨w.heap.size, 2, none⟩)) rfl x3 (by simp [go_sem, Instr.fieldAt])) (hS.other (by decide) (by decide))
          · have a13 := hS.2.1 (hdep 11 (by decide +kernel)) hno
            have q13 : W.cell? ⟨w.heap.size, 2, none⟩ = some (.int .i64 (less pa)) := a13.1.cell 2
            have f13 := a13.1.frozen 2
            have e47 : a.eval (.tmp 47) = .pointer (some ⟨w.heap.size, 2, none⟩) := hv 12 _ (show 12 < 14 by decide) (hdep 12 (by decide +kernel)) rfl
            have e45 : a.eval (.tmp 45) = .int .i64 (bnd (less pa) ch) := hv 9 _ (show 9 < 14 by decide) (hdep 9 (by decide +kernel)) rfl
            exact rg_st1 rfl (wn_any rfl) rfl (run_s1 rfl e47 e45 (by simp [go_sem, Instr.storeAt, q13, f13])) (hS.second hno (hsz 13 (by decide)) (by decide) ⟨a13.1.set 2 _, (Upd.set W w.heap.size 2 _).blk a13.2.1 (by omega), a13.2.2.trans (Upd.set W w.heap.size 2 _)⟩ (hdep 11 (by decide +kernel)))
        rw [frG14_3ffa rfl rfl rfl rfl rfl rfl rfl rfl rfl rfl rfl rfl rfl rfl rfl]
        simp only [List.setIfInBounds_toArray, List.set_cons_succ, List.set_cons_zero, List.getD_cons_zero, List.getD_cons_succ]
        have H4 : Hid (Blk 36 W w.heap.size [.slice ra g rc, .int .i64 (bnd (less pe) cr), .int .i64 (bnd (less pa) ch)] ∧ Upd w2 W w.heap.size) := ⟨(hS.2.2 (hup 13 (by decide))).1, (hS.2.2 (hup 13 (by decide))).2.2⟩
        have HZ2 : Hid (Blk 36 W (w.heap.size + 2) [.slice none 0 0, .int .i64 0, .int .i64 0] ∧ TxS W (.slice ra g rc) s ∧ Below w.heap.size w W) := ⟨H4.out.2.blk H2.out.2.2.1 (by omega), H2.out.2.2.2.1.upd H2.out.1 (box_no _ _ _ _ _) H4.out.2, H4.out.2.below H2.out.2.2.2.2 H2.out.2.2.2.2.size (Nat.le_refl _)⟩
        clear hS hup
        go_wp2_with (first
          | (refine wpList_load_mid rfl 36 (.tmp 3) rfl w.heap.size 0 rfl [.slice ra g rc, .int .i64 (bnd (less pe) cr), .int .i64 (bnd (less pa) ch)] _ H4.out.1.whole Tryd.underlying36 rfl szPo ?_)
          | (refine wpList_store_mid rfl 36 (.tmp 6) (.tmp 48) rfl (w.heap.size + 2) 0 #[.slice ra g rc, .int .i64 (bnd (less pe) cr), .int .i64 (bnd (less pa) ch)] rfl rfl (HZ2.out.1.there 0 3 (by simp)) szPo (one3 _ _ _ _ _) ?_)
          | go_in)
        have hU := Upd.setCells (b := w.heap.size + 2) [.slice ra g rc, .int .i64 (bnd (less pe) cr), .int .i64 (bnd (less pa) ch)] 0 W
        refine bodyPost_ret (results_blk2P rfl rfl (HZ2.out.1.fill _ rfl) Tryd.underlying36 rfl szPo rfl) rfl ⟨⟨_, rfl, HZ2.out.2.1.upd HZ2.out.1 (box_no _ _ _ _ _) hU⟩, hU.below HZ2.out.2.2 HZ2.out.2.2.size (by omega)⟩
end Go.Proofs.YtkjdihikcgpababDoor
