/-
  Policy: which policies hold below a certificate.
-/
import Derived.Test.YtkjdihikcgpabaaDoorK10
namespace Go.Proofs.YtkjdihikcgpabaaDoor
open Go.RowKit Go.Sort Go.Lib
theorem eg_setOf (args : Array Value) (w : World) : (callFunc 26 args).run Tryd.prog w = .ok (.enter 26 args) w := enters_of Tryd.func26 (by kernel_rfl) rfl args w
theorem eg_admitted (args : Array Value) (w : World) : (callFunc 29 args).run Tryd.prog w = .ok (.enter 29 args) w := enters_of Tryd.func29 (by kernel_rfl) rfl args w
theorem szPo : (Tryd.prog.info? 25).map (·.size) = some 3 := by kernel_rfl
theorem frH7 {ops : Array Oper} {V : Nat → Value} {t : Array Value} {d0 d1 d2 d3 d4 d5 d6 : Nat} (hs : ops.size = 7) (h0 : dstOf ops 0 = some d0) (h1 : dstOf ops 1 = some d1) (h2 : dstOf ops 2 = some d2) (h3 : dstOf ops 3 = some d3) (h4 : dstOf ops 4 = some d4) (h5 : dstOf ops 5 = some d5) (h6 : dstOf ops 6 = some d6) : frF ops V t ops.size = (((((((t.setIfInBounds d0 (V 0)).setIfInBounds d1 (V 1)).setIfInBounds d2 (V 2)).setIfInBounds d3 (V 3)).setIfInBounds d4 (V 4)).setIfInBounds d5 (V 5)).setIfInBounds d6 (V 6)) := by
  rw [hs]
  simp only [frF, h0, h1, h2, h3, h4, h5, h6]
set_option maxRecDepth 20000 in
set_option maxHeartbeats 4000000 in
theorem held_any {w : World} (u : Value) (pe pa : Int) (ci cs cp : Value) (cr ch : Int) (last o : Bool) (S L : List Tx) (hu : TxS w u S) (hc : TxS w cp L) (hS : S.length ≤ 524288) (hL : L.length ≤ 524288) (hO : last = false → OwnC w (.agg #[.slice none 0 0, .slice none 0 0, .slice none 0 0, ci, cs, .int .i64 0, .int .i64 0, .int .i64 0, .slice none 0 0, .slice none 0 0, .slice none 0 0, .slice none 0 0, .int .i64 0, .int .i64 0, .int .i64 0, .int .i64 0, .slice none 0 0, .bool false, .int .i64 0, .int .i64 0, .slice none 0 0, .bool false, .slice none 0 0, .slice none 0 0, .slice none 0 0, cp, .int .i64 cr, .int .i64 ch, .slice none 0 0, .slice none 0 0, .bool false]) o) :
    Calls Tryd.prog 30 #[.agg #[u, .int .i64 pe, .int .i64 pa], .agg #[.slice none 0 0, .slice none 0 0, .slice none 0 0, ci, cs, .int .i64 0, .int .i64 0, .int .i64 0, .slice none 0 0, .slice none 0 0, .slice none 0 0, .slice none 0 0, .int .i64 0, .int .i64 0, .int .i64 0, .int .i64 0, .slice none 0 0, .bool false, .int .i64 0, .int .i64 0, .slice none 0 0, .bool false, .slice none 0 0, .slice none 0 0, .slice none 0 0, cp, .int .i64 cr, .int .i64 ch, .slice none 0 0, .slice none 0 0, .bool false], .bool last] w fun e w' => ∃ r, e = .returned r ∧ TxS w' r (heldS S L (decide (0 < pa) || (!last && o))) ∧ Below w.heap.size w w' := by
  obtain ⟨ok, hok⟩ : ∃ ok, (decide (0 < pa) || (!last && o)) = ok := ⟨_, rfl⟩
  rw [hok]
  have HSetS : Hid (∀ w1 : World, Below w.heap.size w w1 → Calls Tryd.prog 26 #[u] w1 fun e w' => e = .returned (.map (some w1.heap.size)) ∧ SetM w' w1.heap.size S.length S ∧ Below w1.heap.size w1 w') := fun w1 h => setOf_any u S (hu.below h) (by omega)
  have HSetL : Hid (∀ w1 : World, Below w.heap.size w w1 → Calls Tryd.prog 26 #[cp] w1 fun e w' => e = .returned (.map (some w1.heap.size)) ∧ SetM w' w1.heap.size L.length L ∧ Below w1.heap.size w1 w') := fun w1 h => setOf_any cp L (hc.below h) (by omega)
  have HHas : Hid (∀ (w1 : World) (b m : Nat), SetM w1 b m L → Calls Tryd.prog 27 #[.map (some b), encStr anyP] w1 fun e w' => e = .returned (.bool (decide (anyP ∈ L))) ∧ Below w1.heap.size w1 w') := fun w1 b m h => has_any b m L anyP h (by unfold anyP maxLen; decide)
  have HAdm : Hid (∀ (w1 : World) (b m : Nat), Below w.heap.size w w1 → SetM w1 b m S → Calls Tryd.prog 29 #[.map (some b), cp] w1 fun e w' => ∃ r, e = .returned r ∧ VRow 9 w1.heap.size w' r ((adm S L).map encStr) ∧ Below w1.heap.size w1 w') := fun w1 b m h hs => admitted_any b m S L cp hs (hc.below h) (by omega)
  have HAny : Hid (∀ w1 : World, Below w.heap.size w w1 → Calls Tryd.prog 35 #[.agg #[u, .int .i64 pe, .int .i64 pa], .agg #[.slice none 0 0, .slice none 0 0, .slice none 0 0, ci, cs, .int .i64 0, .int .i64 0, .int .i64 0, .slice none 0 0, .slice none 0 0, .slice none 0 0, .slice none 0 0, .int .i64 0, .int .i64 0, .int .i64 0, .int .i64 0, .slice none 0 0, .bool false, .int .i64 0, .int .i64 0, .slice none 0 0, .bool false, .slice none 0 0, .slice none 0 0, .slice none 0 0, cp, .int .i64 cr, .int .i64 ch, .slice none 0 0, .slice none 0 0, .bool false], .bool last] w1 fun e w' => e = .returned (.bool ok) ∧ Below w1.heap.size w1 w') := fun w1 h => by
    have := anyCounts_any (w := w1) u pe pa ci cs cp cr ch last o (fun hl => (hO hl).below h)
    rw [hok] at this
    exact this
  have HSort : Hid (∀ (w1 : World) (r : Value) (B : Nat) (l : List Tx), l.length ≤ 1048576 → (∀ s ∈ l, s.length ≤ maxLen) → VRow 9 B w1 r (l.map encStr) → Calls Tryd.prog 28 #[r] w1 fun e w' => ∃ r', e = .returned r' ∧ TxS w' r' (srt l) ∧ Below w1.heap.size w1 w') := fun w1 r B l h1 h2 h => sorted_any r l (h.tx h2) h1
  have HSz : Hid ((adm S L).length ≤ 524288 ∧ (∀ s ∈ adm S L, s.length ≤ maxLen) ∧ S.length ≤ 524288 ∧ ∀ s ∈ S, s.length ≤ maxLen) := ⟨Nat.le_trans (adm_len S L) hL, fun s hs => hc.2 s ((mem_adm S L s).1 hs).1, hS, hu.2⟩
  have HU : Hid (TxS w u S) := hu
  clear hu hc hO hok hS hL
  obtain ⟨W0, hW0⟩ : ∃ W0 : World, (w.alloc (.cells #[u, .int .i64 pe, .int .i64 pa] 25)).alloc (.cells #[.slice none 0 0, .slice none 0 0, .slice none 0 0, ci, cs, .int .i64 0, .int .i64 0, .int .i64 0, .slice none 0 0, .slice none 0 0, .slice none 0 0, .slice none 0 0, .int .i64 0, .int .i64 0, .int .i64 0, .int .i64 0, .slice none 0 0, .bool false, .int .i64 0, .int .i64 0, .slice none 0 0, .bool false, .slice none 0 0, .slice none 0 0, .slice none 0 0, cp, .int .i64 cr, .int .i64 ch, .slice none 0 0, .slice none 0 0, .bool false] 48) = W0 := ⟨_, rfl⟩
  have HW : Hid (Below w.heap.size w W0 ∧ Blk 25 W0 w.heap.size [u, .int .i64 pe, .int .i64 pa] ∧ Blk 48 W0 (w.heap.size + 1) [.slice none 0 0, .slice none 0 0, .slice none 0 0, ci, cs, .int .i64 0, .int .i64 0, .int .i64 0, .slice none 0 0, .slice none 0 0, .slice none 0 0, .slice none 0 0, .int .i64 0, .int .i64 0, .int .i64 0, .int .i64 0, .slice none 0 0, .bool false, .int .i64 0, .int .i64 0, .slice none 0 0, .bool false, .slice none 0 0, .slice none 0 0, .slice none 0 0, cp, .int .i64 cr, .int .i64 ch, .slice none 0 0, .slice none 0 0, .bool false]) := by
    rw [← hW0]
    have h1 := Blk.new 48 (w.alloc (.cells #[u, .int .i64 pe, .int .i64 pa] 25)) [.slice none 0 0, .slice none 0 0, .slice none 0 0, ci, cs, .int .i64 0, .int .i64 0, .int .i64 0, .slice none 0 0, .slice none 0 0, .slice none 0 0, .slice none 0 0, .int .i64 0, .int .i64 0, .int .i64 0, .int .i64 0, .slice none 0 0, .bool false, .int .i64 0, .int .i64 0, .slice none 0 0, .bool false, .slice none 0 0, .slice none 0 0, .slice none 0 0, cp, .int .i64 cr, .int .i64 ch, .slice none 0 0, .slice none 0 0, .bool false]
    rw [show (w.alloc (.cells #[u, .int .i64 pe, .int .i64 pa] 25)).heap.size = w.heap.size + 1 by simp] at h1
    exact ⟨((Below.refl _ _).alloc (Nat.le_refl _) _).alloc ((Below.refl _ _).alloc (Nat.le_refl _) _).size _, (Blk.new 25 w [u, .int .i64 pe, .int .i64 pa]).alloc _, h1⟩
  have HAt : Hid (∀ W : World, Below W0.heap.size W0 W → Below w.heap.size w W ∧ Blk 25 W w.heap.size [u, .int .i64 pe, .int .i64 pa] ∧ Blk 48 W (w.heap.size + 1) [.slice none 0 0, .slice none 0 0, .slice none 0 0, ci, cs, .int .i64 0, .int .i64 0, .int .i64 0, .slice none 0 0, .slice none 0 0, .slice none 0 0, .slice none 0 0, .int .i64 0, .int .i64 0, .int .i64 0, .int .i64 0, .slice none 0 0, .bool false, .int .i64 0, .int .i64 0, .slice none 0 0, .bool false, .slice none 0 0, .slice none 0 0, .slice none 0 0, cp, .int .i64 cr, .int .i64 ch, .slice none 0 0, .slice none 0 0, .bool false]) := fun W h => ⟨HW.out.1.trans (h.mono HW.out.1.size), below_blk h HW.out.2.1.lt HW.out.2.1, below_blk h HW.out.2.2.lt HW.out.2.2⟩
  go_enter Tryd.func30, Tryd.ntmps30
  go_upto_region 1 with (fail)
  refine wp_region_cl (β := Value × Value) (fun b k => ([.pointer (some ⟨w.heap.size, 0, none⟩), u, b.1, .pointer (some ⟨w.heap.size + 1, 25, none⟩), cp, b.2, b.2] : List Value).getD k undef) (fun b LB W => Below W0.heap.size W0 W ∧ (Up LB 2 → ∃ m, b.1 = .map (some m) ∧ SetM W m S.length S) ∧ (Up LB 5 → VRow 9 W0.heap.size W b.2 ((adm S L).map encStr))) (undef, undef) rfl (by decide +kernel) (show dstB _ 30 = true by decide +kernel) ⟨(Below.refl _ _).drew, fun u => absurd u not_up_new, fun u => absurd u not_up_new⟩ (fun b LB W hup hS => ?_) (fun k b LB W a hk hno hsz hdep hv h0 hcl hS => ?_)
  rotate_left
  · replace hk : k < 7 := hk
    have x3 : a.eval (.tmp 3) = .pointer (some ⟨w.heap.size, 0, none⟩) := (h0 3 (by decide +kernel)).trans rfl
    have x4 : a.eval (.tmp 4) = .pointer (some ⟨w.heap.size + 1, 0, none⟩) := (h0 4 (by decide +kernel)).trans rfl
    have eU : ∀ j q, q ≠ j → Up (LB.setIfInBounds j true) q → Up LB q := fun j q hq u => by unfold Up at u ⊢; rwa [getD_setB hq] at u
    have st : ∀ j : Nat, j ≠ 2 → j ≠ 5 → Below W0.heap.size W0 W ∧ (Up (LB.setIfInBounds j true) 2 → ∃ m, b.1 = .map (some m) ∧ SetM W m S.length S) ∧ (Up (LB.setIfInBounds j true) 5 → VRow 9 W0.heap.size W b.2 ((adm S L).map encStr)) := fun j n2 n5 => ⟨hS.1, fun u => hS.2.1 (eU j 2 (fun h => n2 h.symm) u), fun u => hS.2.2 (eU j 5 (fun h => n5 h.symm) u)⟩
    have hat := HAt.out W hS.1
    obtain rfl | rfl | rfl | rfl | rfl | rfl | rfl : k = 0 ∨ k = 1 ∨ k = 2 ∨ k = 3 ∨ k = 4 ∨ k = 5 ∨ k = 6 := by omega
    · exact rg_val rfl (wn_any rfl) (run_fa (v := .pointer (some ⟨w.heap.size, 0, none⟩)) rfl x3 (by simp [go_sem, Instr.fieldAt])) (st 0 (by decide) (by decide))
    · have e8 : a.eval (.tmp 8) = .pointer (some ⟨w.heap.size, 0, none⟩) := hv 0 _ (show 0 < 7 by decide) (hdep 0 (by decide +kernel)) rfl
      have q0 : W.cell? ⟨w.heap.size, 0, none⟩ = some u := hat.2.1.cell 0
      exact rg_val rfl (wn_any rfl) (run_ld (v := u) rfl e8 (by simp [go_sem, Instr.loadAt, q0])) (st 1 (by decide) (by decide))
    · have e9 : a.eval (.tmp 9) = u := hv 1 _ (show 1 < 7 by decide) (hdep 1 (by decide +kernel)) rfl
      refine rg_callx rfl (wn_any rfl) (run_cl1 rfl e9 eg_setOf) (R := fun v w' => v = .map (some W.heap.size) ∧ SetM w' W.heap.size S.length S ∧ Below W.heap.size W w') ((HSetS.out W hat.1).mono ?_) (fun v => (v, b.2)) (fun v => rfl) (fun v k hk => ?_) (fun v w' h => ?_)
      · rintro e w' ⟨rfl, h1, h2⟩; exact ⟨_, rfl, rfl, h1, h2⟩
      · rcases k with _ | _ | _ | _ | _ | _ | _ | k
        all_goals first | rfl | exact absurd rfl hk
      · exact ⟨below_via hS.1 h.2.2 (Nat.le_refl _), fun _ => ⟨_, h.1, h.2.1⟩, fun u => (hS.2.2 (eU 2 5 (by decide) u)).below h.2.2⟩
    · exact rg_val rfl (wn_any rfl) (run_fa (v := .pointer (some ⟨w.heap.size + 1, 25, none⟩)) rfl x4 (by simp [go_sem, Instr.fieldAt])) (st 3 (by decide) (by decide))
    · have e11 : a.eval (.tmp 11) = .pointer (some ⟨w.heap.size + 1, 25, none⟩) := hv 3 _ (show 3 < 7 by decide) (hdep 3 (by decide +kernel)) rfl
      have q0 : W.cell? ⟨w.heap.size + 1, 25, none⟩ = some cp := hat.2.2.cell 25
      exact rg_val rfl (wn_any rfl) (run_ld (v := cp) rfl e11 (by simp [go_sem, Instr.loadAt, q0])) (st 4 (by decide) (by decide))
    · have u2 : Up LB 2 := hdep 2 (by decide +kernel)
      obtain ⟨m, hm, hsm⟩ := hS.2.1 u2
      have e10 : a.eval (.tmp 10) = .map (some m) := (hv 2 _ (show 2 < 7 by decide) u2 rfl).trans hm
      have e12 : a.eval (.tmp 12) = cp := hv 4 _ (show 4 < 7 by decide) (hdep 4 (by decide +kernel)) rfl
      refine rg_callu rfl (wn_any rfl) (run_cl2 rfl e10 e12 eg_admitted) (R := fun v w' => VRow 9 W.heap.size w' v ((adm S L).map encStr) ∧ Below W.heap.size W w') ((HAdm.out W m S.length hat.1 hsm).mono ?_) (fun v => (b.1, v)) (fun v => rfl) (fun v k hk hup => ?_) (fun v w' h => ?_)
      · rintro e w' ⟨r, rfl, h1, h2⟩; exact ⟨_, rfl, h1, h2⟩
      · rcases k with _ | _ | _ | _ | _ | _ | _ | k
        all_goals first | rfl | exact absurd rfl hk | exact absurd (hcl 6 hup 5 (by decide +kernel)) hno
      · exact ⟨below_via hS.1 h.2 (Nat.le_refl _), fun _ => ⟨m, hm, owns_below hsm h.2⟩, fun _ => h.1.mono hS.1.size⟩
    · have e13 : a.eval (.tmp 13) = b.2 := hv 5 _ (show 5 < 7 by decide) (hdep 5 (by decide +kernel)) rfl
      exact rg_val rfl (wn_any rfl) (run_asg rfl e13) (st 6 (by decide) (by decide))
  rw [frH7 rfl rfl rfl rfl rfl rfl rfl rfl]
  simp only [List.setIfInBounds_toArray, List.set_cons_succ, List.set_cons_zero, List.getD_cons_zero, List.getD_cons_succ]
  have H1 : Hid (Below W0.heap.size W0 W ∧ VRow 9 W0.heap.size W b.2 ((adm S L).map encStr)) := ⟨hS.1, hS.2.2 (hup 5 (by decide))⟩
  have q25 : W.cell? ⟨w.heap.size + 1, 25, none⟩ = some cp := (HAt.out W H1.out.1).2.2.cell 25
  have h0w := (HAt.out W H1.out.1).1
  have HW1 : Hid (Below w.heap.size w W) := h0w
  obtain ⟨r0, hr0⟩ : ∃ r0, b.2 = r0 := ⟨_, rfl⟩
  rw [hr0] at H1
  rw [hr0]
  clear hS hup h0w hW0
  by_cases hm : anyP ∈ L
  · have hd : decide (anyP ∈ L) = true := decide_eq_true hm
    cases ok with
    | true =>
      have HG : Hid (heldS S L true = srt (adm S L ++ S)) := by show _ = _; unfold heldS; rw [hd]; rfl
      clear hm
      go_wp2_with (first
        | (go_at_call 26; refine (HSetL.out _ HW1.out).mono ?_; rintro e w2 ⟨rfl, hs2, hb2⟩)
        | (go_at_call 27; refine (HHas.out _ _ _ hs2).mono ?_; rintro e w3 ⟨rfl, hb3⟩; rw [hd]; have HB3 : Hid (Below W0.heap.size W0 w3 ∧ Below W.heap.size W w3) := ⟨below_via H1.out.1 (hb2.trans (hb3.mono hb2.size)) (Nat.le_refl _), hb2.trans (hb3.mono hb2.size)⟩)
        | (refine wpList_load_midG rfl 48 (.tmp 4) rfl (w.heap.size + 1) 0 rfl [.slice none 0 0, .slice none 0 0, .slice none 0 0, ci, cs, .int .i64 0, .int .i64 0, .int .i64 0, .slice none 0 0, .slice none 0 0, .slice none 0 0, .slice none 0 0, .int .i64 0, .int .i64 0, .int .i64 0, .int .i64 0, .slice none 0 0, .bool false, .int .i64 0, .int .i64 0, .slice none 0 0, .bool false, .slice none 0 0, .slice none 0 0, .slice none 0 0, cp, .int .i64 cr, .int .i64 ch, .slice none 0 0, .slice none 0 0, .bool false] _ (HAt.out _ HB3.out.1).2.2.whole Tryd.underlying48 rfl szC ?_)
        | (refine wpList_load_midG rfl 25 (.tmp 3) rfl w.heap.size 0 rfl [u, .int .i64 pe, .int .i64 pa] _ (HAt.out _ HB3.out.1).2.1.whole Tryd.underlying25 rfl szPo ?_)
        | (go_at_call 35; refine (HAny.out _ (HAt.out _ HB3.out.1).1).mono ?_; rintro e w4 ⟨rfl, hb4⟩; have HB4 : Hid (Below W0.heap.size W0 w4 ∧ VRow 9 W0.heap.size w4 r0 ((adm S L).map encStr) ∧ Below w.heap.size w w4) := ⟨below_via HB3.out.1 hb4 (Nat.le_refl _), (H1.out.2.below HB3.out.2).below hb4, (HAt.out _ (below_via HB3.out.1 hb4 (Nat.le_refl _))).1⟩; have q0 : w4.cell? ⟨w.heap.size, 0, none⟩ = some u := (HAt.out _ HB4.out.1).2.1.cell 0)
        | (at_builtin; refine wpList_apv rfl (.tmp 24) (.tmp 26) 23 23 rfl (.string ⟨#[]⟩) rfl 9 16 Tryd.undX Tryd.infoX (by decide) W0.heap.size r0 ((adm S L).map encStr) rfl HB4.out.2.1 u (S.map encStr) rfl (by have h9 := (HU.out.below HB4.out.2.2).src (t := 23) Tryd.undX; rw [List.length_map]; exact h9) (by have := HSz.out; simp; omega) HB4.out.1.size ?_; intro v' w5 hV hG)
        | (go_at_call 28; refine (HSort.out _ _ W0.heap.size (adm S L ++ S) (by have := HSz.out; simp; omega) (by intro s hs; rcases List.mem_append.1 hs with h | h; exact HSz.out.2.1 s h; exact HSz.out.2.2.2 s h) (by rw [List.map_append]; exact hV)).mono ?_; rintro e w6 ⟨r, rfl, hr, hb6⟩)
        | go_in)
      go_ret
      have hb5 := (HAt.out _ (HB4.out.1.trans (hG.below HB4.out.2.1 HB4.out.1.size))).1
      exact ⟨_, rfl, by rw [HG.out]; exact hr, hb5.trans (hb6.mono hb5.size)⟩
    | false =>
      have HG : Hid (heldS S L false = srt (adm S L)) := by show _ = _; unfold heldS; rw [Bool.and_false, if_neg (by simp), List.append_nil]
      clear hm
      go_wp2_with (first
        | (go_at_call 26; refine (HSetL.out _ HW1.out).mono ?_; rintro e w2 ⟨rfl, hs2, hb2⟩)
        | (go_at_call 27; refine (HHas.out _ _ _ hs2).mono ?_; rintro e w3 ⟨rfl, hb3⟩; rw [hd]; have HB3 : Hid (Below W0.heap.size W0 w3 ∧ Below W.heap.size W w3) := ⟨below_via H1.out.1 (hb2.trans (hb3.mono hb2.size)) (Nat.le_refl _), hb2.trans (hb3.mono hb2.size)⟩)
        | (refine wpList_load_midG rfl 48 (.tmp 4) rfl (w.heap.size + 1) 0 rfl [.slice none 0 0, .slice none 0 0, .slice none 0 0, ci, cs, .int .i64 0, .int .i64 0, .int .i64 0, .slice none 0 0, .slice none 0 0, .slice none 0 0, .slice none 0 0, .int .i64 0, .int .i64 0, .int .i64 0, .int .i64 0, .slice none 0 0, .bool false, .int .i64 0, .int .i64 0, .slice none 0 0, .bool false, .slice none 0 0, .slice none 0 0, .slice none 0 0, cp, .int .i64 cr, .int .i64 ch, .slice none 0 0, .slice none 0 0, .bool false] _ (HAt.out _ HB3.out.1).2.2.whole Tryd.underlying48 rfl szC ?_)
        | (refine wpList_load_midG rfl 25 (.tmp 3) rfl w.heap.size 0 rfl [u, .int .i64 pe, .int .i64 pa] _ (HAt.out _ HB3.out.1).2.1.whole Tryd.underlying25 rfl szPo ?_)
        | (go_at_call 35; refine (HAny.out _ (HAt.out _ HB3.out.1).1).mono ?_; rintro e w4 ⟨rfl, hb4⟩; have HB4 : Hid (Below W0.heap.size W0 w4 ∧ VRow 9 W0.heap.size w4 r0 ((adm S L).map encStr) ∧ Below w.heap.size w w4) := ⟨below_via HB3.out.1 hb4 (Nat.le_refl _), (H1.out.2.below HB3.out.2).below hb4, (HAt.out _ (below_via HB3.out.1 hb4 (Nat.le_refl _))).1⟩)
        | (go_at_call 28; refine (HSort.out _ _ W0.heap.size (adm S L) (by have := HSz.out; omega) HSz.out.2.1 HB4.out.2.1).mono ?_; rintro e w6 ⟨r, rfl, hr, hb6⟩)
        | go_in)
      go_ret
      exact ⟨_, rfl, by rw [HG.out]; exact hr, HB4.out.2.2.trans (hb6.mono HB4.out.2.2.size)⟩
  · have hd : decide (anyP ∈ L) = false := decide_eq_false hm
    have HG : Hid (heldS S L ok = srt (adm S L)) := by show _ = _; unfold heldS; rw [hd, Bool.false_and, if_neg (by simp), List.append_nil]
    clear hm
    go_wp2_with (first
      | (go_at_call 26; refine (HSetL.out _ HW1.out).mono ?_; rintro e w2 ⟨rfl, hs2, hb2⟩)
      | (go_at_call 27; refine (HHas.out _ _ _ hs2).mono ?_; rintro e w3 ⟨rfl, hb3⟩; rw [hd]; have HB4 : Hid (Below W0.heap.size W0 w3 ∧ VRow 9 W0.heap.size w3 r0 ((adm S L).map encStr) ∧ Below w.heap.size w w3) := ⟨below_via H1.out.1 (hb2.trans (hb3.mono hb2.size)) (Nat.le_refl _), (H1.out.2.below hb2).below hb3, (HAt.out _ (below_via H1.out.1 (hb2.trans (hb3.mono hb2.size)) (Nat.le_refl _))).1⟩)
      | (go_at_call 28; refine (HSort.out _ _ W0.heap.size (adm S L) (by have := HSz.out; omega) HSz.out.2.1 HB4.out.2.1).mono ?_; rintro e w6 ⟨r, rfl, hr, hb6⟩)
      | go_in)
    go_ret
    exact ⟨_, rfl, by rw [HG.out]; exact hr, HB4.out.2.2.trans (hb6.mono HB4.out.2.2.size)⟩
end Go.Proofs.YtkjdihikcgpabaaDoor
/-
  Policy: what is there ahead of the first one.
-/
namespace Go.Proofs.YtkjdihikcgpabaaDoor
open Go.RowKit Go.Sort Go.Lib
theorem al3 (w : World) (o1 o2 o3 : Obj) : Below w.heap.size w (((w.alloc o1).alloc o2).alloc o3) :=
  have h1 := (Below.refl w.heap.size w).alloc (Nat.le_refl _) o1
  have h2 := h1.alloc h1.size o2
  h2.alloc h2.size o3
theorem anyS {W : World} {b : Nat} (hA : Blk 9 W b [encStr anyP]) : TxS W (.slice (some ⟨b, 0, none⟩) 1 1) [anyP] :=
  TxS.ofBlk hA 1 1 rfl (Nat.le_refl _) rfl (by simp [anyP, maxLen])
theorem start_world (w : World) (c1 c3 : List Value) : Blk 25 (((w.alloc (.cells c1.toArray 25)).alloc (.cells #[encStr anyP] 9)).alloc (.cells c3.toArray 25)) w.heap.size c1 ∧ TxS (((w.alloc (.cells c1.toArray 25)).alloc (.cells #[encStr anyP] 9)).alloc (.cells c3.toArray 25)) (.slice (some ⟨w.heap.size + 1, 0, none⟩) 1 1) [anyP] := by
  have h2 := Blk.new 9 (w.alloc (.cells c1.toArray 25)) [encStr anyP]
  rw [show (w.alloc (.cells c1.toArray 25)).heap.size = w.heap.size + 1 by simp] at h2
  exact ⟨((Blk.new 25 w c1).alloc _).alloc _, anyS (h2.alloc _)⟩
set_option maxRecDepth 20000 in
set_option maxHeartbeats 4000000 in
theorem Start_any {w : World} (n : Int) (ex inh : Bool) (h0 : -9223372036854775808 ≤ n) (h1 : n ≤ 9223372036854775807) :
    Calls Tryd.prog 8 #[.int .i64 n, .bool ex, .bool inh] w fun e w' => ∃ v, e = .returned (.agg #[v, .int .i64 (startP n ex inh).e, .int .i64 (startP n ex inh).a]) ∧ TxS w' v (startP n ex inh).S ∧ Below w.heap.size w w' := by
  obtain ⟨m, hm⟩ : ∃ m, min (max n 0) 8 + 1 = m := ⟨_, rfl⟩
  cases ex <;> cases inh <;> simp only [startP, hm, if_true, Bool.false_eq_true, if_false]
  · go_enter Tryd.func8, Tryd.ntmps8
    go_wp2
    have hw := start_world w [.slice (some ⟨w.heap.size + 1, 0, none⟩) 1 1, .int .i64 m, .int .i64 m] [.slice (some ⟨w.heap.size + 1, 0, none⟩) 1 1, .int .i64 m, .int .i64 m]
    refine bodyPost_ret (results_blk rfl rfl hw.1 Tryd.underlying25 rfl szPo) rfl ⟨_, rfl, hw.2, al3 w _ _ _⟩
  · go_enter Tryd.func8, Tryd.ntmps8
    go_wp2
    have hw := start_world w [.slice (some ⟨w.heap.size + 1, 0, none⟩) 1 1, .int .i64 m, .int .i64 0] [.slice (some ⟨w.heap.size + 1, 0, none⟩) 1 1, .int .i64 m, .int .i64 0]
    refine bodyPost_ret (results_blk rfl rfl hw.1 Tryd.underlying25 rfl szPo) rfl ⟨_, rfl, hw.2, al3 w _ _ _⟩
  · go_enter Tryd.func8, Tryd.ntmps8
    go_wp2
    have hw := start_world w [.slice (some ⟨w.heap.size + 1, 0, none⟩) 1 1, .int .i64 0, .int .i64 m] [.slice (some ⟨w.heap.size + 1, 0, none⟩) 1 1, .int .i64 0, .int .i64 m]
    refine bodyPost_ret (results_blk rfl rfl hw.1 Tryd.underlying25 rfl szPo) rfl ⟨_, rfl, hw.2, al3 w _ _ _⟩
  · go_enter Tryd.func8, Tryd.ntmps8
    go_wp2
    have hw := start_world w [.slice (some ⟨w.heap.size + 1, 0, none⟩) 1 1, .int .i64 0, .int .i64 0] [.slice (some ⟨w.heap.size + 1, 0, none⟩) 1 1, .int .i64 0, .int .i64 0]
    refine bodyPost_ret (results_blk rfl rfl hw.1 Tryd.underlying25 rfl szPo) rfl ⟨_, rfl, hw.2, al3 w _ _ _⟩
end Go.Proofs.YtkjdihikcgpabaaDoor
/-
  Policy: which of those that are asked for hold.
-/
namespace Go.Proofs.YtkjdihikcgpabaaDoor
open Go.RowKit Go.Sort Go.Lib
/-- What End tells. -/
def EndOut (w : World) (e : Ending) (q : List Tx × Bool) : Prop := ∃ r, e = .returned (.tuple #[r, .bool q.2]) ∧ TxS w r q.1
set_option maxRecDepth 20000 in
set_option maxHeartbeats 4000000 in
theorem End_any {w : World} (u : Value) (pe pa : Int) (ci cs cp : Value) (cr ch : Int) (v : Value) (S U : List Tx) (L : List Tx) (o : Bool) (hu : TxS w u S) (hv : TxS w v U) (hS : S.length ≤ 524288) (hU : U.length ≤ 524288) (h0 : -9223372036854775808 ≤ pe) (h1 : pe ≤ 9223372036854775807) :
    Calls Tryd.prog 12 #[.agg #[u, .int .i64 pe, .int .i64 pa], .agg #[.slice none 0 0, .slice none 0 0, .slice none 0 0, ci, cs, .int .i64 0, .int .i64 0, .int .i64 0, .slice none 0 0, .slice none 0 0, .slice none 0 0, .slice none 0 0, .int .i64 0, .int .i64 0, .int .i64 0, .int .i64 0, .slice none 0 0, .bool false, .int .i64 0, .int .i64 0, .slice none 0 0, .bool false, .slice none 0 0, .slice none 0 0, .slice none 0 0, cp, .int .i64 cr, .int .i64 ch, .slice none 0 0, .slice none 0 0, .bool false], v] w fun e w' => EndOut w' e (endP ⟨S, pe, pa⟩ ⟨L, cr, ch, o⟩ U) ∧ Below w.heap.size w w' := by
  obtain ⟨x, hx⟩ : ∃ x, (if cr = 0 then 0 else less pe) = x := ⟨_, rfl⟩
  obtain ⟨G, hG⟩ : ∃ G, grant S U = G := ⟨_, rfl⟩
  have HE : Hid (endP ⟨S, pe, pa⟩ ⟨L, cr, ch, o⟩ U = if G = [] ∧ x ≤ 0 then ([], false) else (G, true)) := by show _ = _; unfold endP; simp only [hG, hx]
  have HL : Hid (∀ w1 : World, Calls Tryd.prog 21 #[.int .i64 pe] w1 fun e w' => e = .returned (.int .i64 (less pe)) ∧ w1 = w') := fun w1 => oneLess_any pe h0 h1
  have HGr : Hid (∀ w1 : World, Below w.heap.size w w1 → Calls Tryd.prog 22 #[u, v] w1 fun e w' => ∃ r, e = .returned r ∧ TxS w' r G ∧ Below w1.heap.size w1 w') := fun w1 h => by
    have := granted_any (w := w1) u v S U (hu.below h) (hv.below h) (by omega) (by omega)
    rw [hG] at this
    exact this
  have HB : Hid (∀ o1 o2 : Obj, Below w.heap.size w ((w.alloc o1).alloc o2)) := fun o1 o2 => ((Below.refl _ _).alloc (Nat.le_refl _) _).alloc ((Below.refl _ _).alloc (Nat.le_refl _) _).size _
  obtain ⟨g, hg⟩ : ∃ g, G.length = g := ⟨_, rfl⟩
  have HF : Hid (∀ (w1 : World) (r : Value), TxS w1 r G → ∃ a c, r = .slice a g c) := fun w1 r h => by obtain ⟨a, c, h1, _⟩ := h.form; exact ⟨a, c, by rw [h1, hg]⟩
  have HX : Hid (G.length = g) := hg
  have HCR : Hid ((if cr = 0 then 0 else less pe) = x) := hx
  clear hu hv hS hU hx hG hg
  rw [HE.out]
  by_cases hc : cr = 0
  · subst hc
    have hx0 : x = 0 := by have := HCR.out; simpa using this.symm
    subst hx0
    by_cases hz : g = 0
    · subst hz
      have HN : Hid (G = []) := List.eq_nil_of_length_eq_zero HX.out
      rw [if_pos ⟨HN.out, Int.le_refl _⟩]
      go_enter Tryd.func12, Tryd.ntmps12
      go_wp2_with (first
        | (go_at_call 21; refine (HL.out _).mono ?_; rintro e w1 ⟨rfl, rfl⟩)
        | (go_at_call 22; refine (HGr.out _ (HB.out _ _)).mono ?_; rintro e w2 ⟨r, rfl, hr, hb2⟩; obtain ⟨ra, rc, rfl⟩ := HF.out _ _ hr)
        | go_in)
      go_ret2
      exact ⟨⟨_, rfl, TxS.nil _⟩, (HB.out _ _).trans (hb2.mono (HB.out _ _).size)⟩
    · have hgz : ((g : Int) == 0) = false := by simpa using hz
      have hgn : ¬ (g : Int) = 0 := by omega
      rw [if_neg (fun h => hz (by rw [← HX.out, h.1]; rfl))]
      go_enter Tryd.func12, Tryd.ntmps12
      go_wp2_with (first
        | (go_at_call 21; refine (HL.out _).mono ?_; rintro e w1 ⟨rfl, rfl⟩)
        | (go_at_call 22; refine (HGr.out _ (HB.out _ _)).mono ?_; rintro e w2 ⟨r, rfl, hr, hb2⟩; obtain ⟨ra, rc, rfl⟩ := HF.out _ _ hr)
        | go_in)
      go_ret2
      exact ⟨⟨_, rfl, hr⟩, (HB.out _ _).trans (hb2.mono (HB.out _ _).size)⟩
  · have hx0 : x = less pe := by have := HCR.out; rw [if_neg hc] at this; exact this.symm
    subst hx0
    have hcb : (cr == 0) = false := by simpa using hc
    by_cases hz : g = 0
    · subst hz
      have HN : Hid (G = []) := List.eq_nil_of_length_eq_zero HX.out
      by_cases hl : less pe ≤ 0
      · rw [if_pos ⟨HN.out, hl⟩]
        go_enter Tryd.func12, Tryd.ntmps12
        go_wp2_with (first
          | (go_at_call 21; refine (HL.out _).mono ?_; rintro e w1 ⟨rfl, rfl⟩)
          | (go_at_call 22; refine (HGr.out _ (HB.out _ _)).mono ?_; rintro e w2 ⟨r, rfl, hr, hb2⟩; obtain ⟨ra, rc, rfl⟩ := HF.out _ _ hr)
          | go_in)
        go_ret2
        exact ⟨⟨_, rfl, TxS.nil _⟩, (HB.out _ _).trans (hb2.mono (HB.out _ _).size)⟩
      · rw [if_neg (fun h => hl h.2)]
        go_enter Tryd.func12, Tryd.ntmps12
        go_wp2_with (first
          | (go_at_call 21; refine (HL.out _).mono ?_; rintro e w1 ⟨rfl, rfl⟩)
          | (go_at_call 22; refine (HGr.out _ (HB.out _ _)).mono ?_; rintro e w2 ⟨r, rfl, hr, hb2⟩; obtain ⟨ra, rc, rfl⟩ := HF.out _ _ hr)
          | go_in)
        go_ret2
        exact ⟨⟨_, rfl, hr⟩, (HB.out _ _).trans (hb2.mono (HB.out _ _).size)⟩
    · have hgz : ((g : Int) == 0) = false := by simpa using hz
      have hgn : ¬ (g : Int) = 0 := by omega
      rw [if_neg (fun h => hz (by rw [← HX.out, h.1]; rfl))]
      go_enter Tryd.func12, Tryd.ntmps12
      go_wp2_with (first
        | (go_at_call 21; refine (HL.out _).mono ?_; rintro e w1 ⟨rfl, rfl⟩)
        | (go_at_call 22; refine (HGr.out _ (HB.out _ _)).mono ?_; rintro e w2 ⟨r, rfl, hr, hb2⟩; obtain ⟨ra, rc, rfl⟩ := HF.out _ _ hr)
        | go_in)
      go_ret2
      exact ⟨⟨_, rfl, hr⟩, (HB.out _ _).trans (hb2.mono (HB.out _ _).size)⟩
end Go.Proofs.YtkjdihikcgpabaaDoor
/-
  Policy: one more certificate, the last one.
-/
namespace Go.Proofs.YtkjdihikcgpabaaDoor
open Go.RowKit Go.Sort Go.Lib
/-- What Step tells. -/
def StepOut (w : World) (e : Ending) (q : Po × Bool) : Prop := ∃ r, e = .returned (.tuple #[.agg #[r, .int .i64 q.1.e, .int .i64 q.1.a], .bool q.2]) ∧ TxS w r q.1.S
theorem wp_genP {P : Program} {c : Code} {Q : Exit → Act → World → Prop} {a : Act} {W : World} (R : World → Prop) (hR : R W) (h : ∀ W', R W' → Code.wp P c Q a W') : Code.wp P c Q a W := h W hR
/-- A function with two results, the first in a block of its own. -/
theorem results_blk2P {P : Program} {fn : Func} {T : TypeId} {t u : Tmp} (h : fn.results = #[.cell t T, .tmp u]) {a : Array Value} {w : World} {b : Nat} {cs : List Value} {d : TypeDesc} {v : Value} (ha : a.getD t undef = .pointer (some ⟨b, 0, none⟩))
    (hb : Blk T w b cs) (hu : P.underlying T = some d) (hd : d.isRow = true) (hi : (P.info? T).map (·.size) = some cs.length) (hv : a.getD u undef = v) : (results fn a).run P w = .ok (.tuple #[.agg cs.toArray, v]) w := by
  have := run_loadVar_mid (P := P) w b 0 T cs d hb.whole hu hd hi
  have ha' : a[t]?.getD undef = .pointer (some ⟨b, 0, none⟩) := by simpa using ha
  have hv' : a[u]?.getD undef = v := by simpa using hv
  simp [results, h, ha', asAddr, this, hv']
theorem Upd.cellO {w w' : World} {b : Nat} (h : Upd w w' b) {p : Addr} (hp : p.block < w.heap.size) (hne : p.block ≠ b) : w'.cell? p = w.cell? p :=
  World.cell?_of_block (w := w) (h.block p.block hp (fun e => hne (by injection e)))
/-- Texts stay where another row, which holds none, is written. -/
theorem TxS.upd {w w' : World} {v : Value} {L : List Tx} (h : TxS w v L) {T : TypeId} {b : Nat} {cs : List Value} (hA : Blk T w b cs) (hn : ∀ s : Tx, encStr s ∉ cs) (hU : Upd w w' b) : TxS w' v L := by
  obtain ⟨⟨a, c, h1, h2, h3⟩, h4⟩ := h
  refine ⟨⟨a, c, h1, h2, ?_⟩, h4⟩
  rcases h3 with h3 | ⟨b1, off, h6, h7, h8⟩
  · exact .inl h3
  · refine .inr ⟨b1, off, h6, Nat.lt_of_lt_of_le h7 hU.size, fun i hi => ?_⟩
    rw [hU.cellO (p := ⟨b1, off + i, none⟩) h7 (fun e => ?_), h8 i hi]
    have e : b1 = b := e
    subst e
    have h9 := h8 i hi
    rw [hA.cell] at h9
    exact hn _ (List.mem_of_getElem? h9)
theorem box_no (a : Option Addr) (n c : Nat) (e m : Int) (s : Tx) : encStr s ∉ [Value.slice a n c, .int .i64 e, .int .i64 m] := by simp
theorem one3 (a : Option Addr) (n c : Nat) (e m : Int) : (#[Value.slice a n c, .int .i64 e, .int .i64 m]).all (·.oneCell') = true := by simp [Value.oneCell']
theorem TxS.slice {w : World} {v : Value} {L : List Tx} (h : TxS w v L) : ∃ a n c, v = .slice a n c := by obtain ⟨a, c, h1, _⟩ := h.form; exact ⟨a, _, c, h1⟩
set_option maxRecDepth 20000 in
set_option maxHeartbeats 4000000 in
theorem Step_last {w : World} (u : Value) (pe pa : Int) (ci cs cp : Value) (cr ch : Int) (S L : List Tx) (o : Bool) (hu : TxS w u S) (hc : TxS w cp L) (hS : S.length ≤ 524288) (hL : L.length ≤ 524288) :
    Calls Tryd.prog 25 #[.agg #[u, .int .i64 pe, .int .i64 pa], .agg #[.slice none 0 0, .slice none 0 0, .slice none 0 0, ci, cs, .int .i64 0, .int .i64 0, .int .i64 0, .slice none 0 0, .slice none 0 0, .slice none 0 0, .slice none 0 0, .int .i64 0, .int .i64 0, .int .i64 0, .int .i64 0, .slice none 0 0, .bool false, .int .i64 0, .int .i64 0, .slice none 0 0, .bool false, .slice none 0 0, .slice none 0 0, .slice none 0 0, cp, .int .i64 cr, .int .i64 ch, .slice none 0 0, .slice none 0 0, .bool false], .bool true] w fun e w' => StepOut w' e (stepP ⟨S, pe, pa⟩ ⟨L, cr, ch, o⟩ true) ∧ Below w.heap.size w w' := by
  obtain ⟨ua, un, uc, rfl⟩ := hu.slice
  obtain ⟨s, hs⟩ : ∃ s, heldS S L (decide (0 < pa)) = s := ⟨_, rfl⟩
  obtain ⟨O, hO⟩ : ∃ O, stepP ⟨S, pe, pa⟩ ⟨L, cr, ch, o⟩ true = O := ⟨_, rfl⟩
  rw [hO]
  have HE : Hid ((if s = [] ∧ pe ≤ 0 then (⟨[], 0, 0⟩, false) else (⟨s, pe, pa⟩, true) : Po × Bool) = O) := by
    show _ = _
    rw [← hO]
    unfold stepP
    simp only [Bool.not_true, Bool.false_and, Bool.or_false, hs, if_true]
  clear hO
  have HH : Hid (∀ w1 : World, Below w.heap.size w w1 → Calls Tryd.prog 30 #[.agg #[.slice ua un uc, .int .i64 pe, .int .i64 pa], .agg #[.slice none 0 0, .slice none 0 0, .slice none 0 0, ci, cs, .int .i64 0, .int .i64 0, .int .i64 0, .slice none 0 0, .slice none 0 0, .slice none 0 0, .slice none 0 0, .int .i64 0, .int .i64 0, .int .i64 0, .int .i64 0, .slice none 0 0, .bool false, .int .i64 0, .int .i64 0, .slice none 0 0, .bool false, .slice none 0 0, .slice none 0 0, .slice none 0 0, cp, .int .i64 cr, .int .i64 ch, .slice none 0 0, .slice none 0 0, .bool false], .bool true] w1 fun e w' => ∃ r, e = .returned r ∧ TxS w' r s ∧ Below w1.heap.size w1 w') := fun w1 h => by
    have := held_any (w := w1) (.slice ua un uc) pe pa ci cs cp cr ch true o S L (hu.below h) (hc.below h) hS hL (fun h => by cases h)
    rw [show (decide (0 < pa) || (!true && o)) = decide (0 < pa) by simp, hs] at this
    exact this
  obtain ⟨g, hg⟩ : ∃ g, s.length = g := ⟨_, rfl⟩
  have HF : Hid (∀ (w1 : World) (r : Value), TxS w1 r s → ∃ a c, r = .slice a g c) := fun w1 r h => by obtain ⟨a, c, h1, _⟩ := h.form; exact ⟨a, c, by rw [h1, hg]⟩
  have HX : Hid (s.length = g) := hg
  clear hu hc hS hL hs hg
  obtain ⟨W0, hW0⟩ : ∃ W0 : World, ((w.alloc (.cells #[.slice ua un uc, .int .i64 pe, .int .i64 pa] 25)).alloc (.cells #[.slice none 0 0, .slice none 0 0, .slice none 0 0, ci, cs, .int .i64 0, .int .i64 0, .int .i64 0, .slice none 0 0, .slice none 0 0, .slice none 0 0, .slice none 0 0, .int .i64 0, .int .i64 0, .int .i64 0, .int .i64 0, .slice none 0 0, .bool false, .int .i64 0, .int .i64 0, .slice none 0 0, .bool false, .slice none 0 0, .slice none 0 0, .slice none 0 0, cp, .int .i64 cr, .int .i64 ch, .slice none 0 0, .slice none 0 0, .bool false] 48)).alloc (.cells #[.slice none 0 0, .int .i64 0, .int .i64 0] 25) = W0 := ⟨_, rfl⟩
  have HW : Hid (Below w.heap.size w W0 ∧ Blk 25 W0 w.heap.size [.slice ua un uc, .int .i64 pe, .int .i64 pa] ∧ Blk 48 W0 (w.heap.size + 1) [.slice none 0 0, .slice none 0 0, .slice none 0 0, ci, cs, .int .i64 0, .int .i64 0, .int .i64 0, .slice none 0 0, .slice none 0 0, .slice none 0 0, .slice none 0 0, .int .i64 0, .int .i64 0, .int .i64 0, .int .i64 0, .slice none 0 0, .bool false, .int .i64 0, .int .i64 0, .slice none 0 0, .bool false, .slice none 0 0, .slice none 0 0, .slice none 0 0, cp, .int .i64 cr, .int .i64 ch, .slice none 0 0, .slice none 0 0, .bool false] ∧ Blk 25 W0 (w.heap.size + 2) [.slice none 0 0, .int .i64 0, .int .i64 0] ∧ w.heap.size + 3 ≤ W0.heap.size) := by
    rw [← hW0]
    have h1 := Blk.new 48 (w.alloc (.cells #[.slice ua un uc, .int .i64 pe, .int .i64 pa] 25)) [.slice none 0 0, .slice none 0 0, .slice none 0 0, ci, cs, .int .i64 0, .int .i64 0, .int .i64 0, .slice none 0 0, .slice none 0 0, .slice none 0 0, .slice none 0 0, .int .i64 0, .int .i64 0, .int .i64 0, .int .i64 0, .slice none 0 0, .bool false, .int .i64 0, .int .i64 0, .slice none 0 0, .bool false, .slice none 0 0, .slice none 0 0, .slice none 0 0, cp, .int .i64 cr, .int .i64 ch, .slice none 0 0, .slice none 0 0, .bool false]
    rw [show (w.alloc (.cells #[.slice ua un uc, .int .i64 pe, .int .i64 pa] 25)).heap.size = w.heap.size + 1 by simp] at h1
    have h2 := Blk.new 25 ((w.alloc (.cells #[.slice ua un uc, .int .i64 pe, .int .i64 pa] 25)).alloc (.cells #[.slice none 0 0, .slice none 0 0, .slice none 0 0, ci, cs, .int .i64 0, .int .i64 0, .int .i64 0, .slice none 0 0, .slice none 0 0, .slice none 0 0, .slice none 0 0, .int .i64 0, .int .i64 0, .int .i64 0, .int .i64 0, .slice none 0 0, .bool false, .int .i64 0, .int .i64 0, .slice none 0 0, .bool false, .slice none 0 0, .slice none 0 0, .slice none 0 0, cp, .int .i64 cr, .int .i64 ch, .slice none 0 0, .slice none 0 0, .bool false] 48)) [.slice none 0 0, .int .i64 0, .int .i64 0]
    rw [show ((w.alloc (.cells #[.slice ua un uc, .int .i64 pe, .int .i64 pa] 25)).alloc (.cells #[.slice none 0 0, .slice none 0 0, .slice none 0 0, ci, cs, .int .i64 0, .int .i64 0, .int .i64 0, .slice none 0 0, .slice none 0 0, .slice none 0 0, .slice none 0 0, .int .i64 0, .int .i64 0, .int .i64 0, .int .i64 0, .slice none 0 0, .bool false, .int .i64 0, .int .i64 0, .slice none 0 0, .bool false, .slice none 0 0, .slice none 0 0, .slice none 0 0, cp, .int .i64 cr, .int .i64 ch, .slice none 0 0, .slice none 0 0, .bool false] 48)).heap.size = w.heap.size + 2 by simp] at h2
    exact ⟨al3 w _ _ _, ((Blk.new 25 w [.slice ua un uc, .int .i64 pe, .int .i64 pa]).alloc _).alloc _, h1.alloc _, h2, by simp⟩
  go_enter Tryd.func25, Tryd.ntmps25
  go_upto_region 2 with (first
    | (refine wpList_load_mid rfl 25 (.tmp 3) rfl w.heap.size 0 rfl [.slice ua un uc, .int .i64 pe, .int .i64 pa] _ HW.out.2.1.whole Tryd.underlying25 rfl szPo ?_)
    | (refine wpList_load_mid rfl 48 (.tmp 4) rfl (w.heap.size + 1) 0 rfl [.slice none 0 0, .slice none 0 0, .slice none 0 0, ci, cs, .int .i64 0, .int .i64 0, .int .i64 0, .slice none 0 0, .slice none 0 0, .slice none 0 0, .slice none 0 0, .int .i64 0, .int .i64 0, .int .i64 0, .int .i64 0, .slice none 0 0, .bool false, .int .i64 0, .int .i64 0, .slice none 0 0, .bool false, .slice none 0 0, .slice none 0 0, .slice none 0 0, cp, .int .i64 cr, .int .i64 ch, .slice none 0 0, .slice none 0 0, .bool false] _ HW.out.2.2.1.whole Tryd.underlying48 rfl szC ?_)
    | (go_at_call 30; refine (HH.out _ HW.out.1).mono ?_; rintro e w2 ⟨r, rfl, hr, hb2⟩; obtain ⟨ra, rc, rfl⟩ := HF.out _ _ hr; have HA : Hid (Blk 25 w2 w.heap.size [.slice ua un uc, .int .i64 pe, .int .i64 pa] ∧ Blk 25 w2 (w.heap.size + 2) [.slice none 0 0, .int .i64 0, .int .i64 0] ∧ Below w.heap.size w w2) := ⟨below_blk hb2 HW.out.2.1.lt HW.out.2.1, below_blk hb2 HW.out.2.2.2.1.lt HW.out.2.2.2.1, HW.out.1.trans (hb2.mono HW.out.1.size)⟩; have c0 : w2.cell? ⟨w.heap.size, 0, none⟩ = some (.slice ua un uc) := HA.out.1.cell 0; have f0 := HA.out.1.frozen 0)
    | go_in)
  refine wp_genP (fun W => Blk 25 W w.heap.size [.slice ra g rc, .int .i64 pe, .int .i64 pa] ∧ Blk 25 W (w.heap.size + 2) [.slice none 0 0, .int .i64 0, .int .i64 0] ∧ TxS W (.slice ra g rc) s ∧ Below w.heap.size w W) ⟨HA.out.1.set 0 _, (Upd.set w2 w.heap.size 0 _).blk HA.out.2.1 (by omega), hr.upd HA.out.1 (box_no _ _ _ _ _) (Upd.set w2 w.heap.size 0 _), (Upd.set w2 w.heap.size 0 _).below HA.out.2.2 HA.out.2.2.size (Nat.le_refl _)⟩ ?_
  rintro W ⟨g1, g2, g3, g4⟩
  have HQ : Hid (Blk 25 W w.heap.size [.slice ra g rc, .int .i64 pe, .int .i64 pa] ∧ Blk 25 W (w.heap.size + 2) [.slice none 0 0, .int .i64 0, .int .i64 0] ∧ TxS W (.slice ra g rc) s ∧ Below w.heap.size w W) := ⟨g1, g2, g3, g4⟩
  have c1 : W.cell? ⟨w.heap.size, 0, none⟩ = some (.slice ra g rc) := g1.cell 0
  have c2 : W.cell? ⟨w.heap.size, 1, none⟩ = some (.int .i64 pe) := g1.cell 1
  have HT : Hid (∀ c0 : List Value, c0.length = 3 → Blk 25 (W.setCells (w.heap.size + 2) 0 c0) (w.heap.size + 2) c0 ∧ Below w.heap.size w (W.setCells (w.heap.size + 2) 0 c0) ∧ TxS (W.setCells (w.heap.size + 2) 0 c0) (.slice ra g rc) s) := fun c0 h0 => by
    have hU := Upd.setCells (b := w.heap.size + 2) c0 0 W
    exact ⟨g2.fill c0 (by simpa using h0), hU.below g4 g4.size (by omega), g3.upd g2 (box_no _ _ _ _ _) hU⟩
  clear hr HA f0 c0 hb2 g1 g2 g3 g4 hW0
  have hO := HE.out
  clear HE
  by_cases hz : g = 0
  · subst hz
    have HN : Hid (s = []) := List.eq_nil_of_length_eq_zero HX.out
    by_cases hl : pe ≤ 0
    · rw [if_pos ⟨HN.out, hl⟩] at hO
      subst hO
      go_wp2_with (first
        | (refine wpList_store_mid rfl 25 (.tmp 6) (.tmp 22) rfl (w.heap.size + 2) 0 #[.slice none 0 0, .int .i64 0, .int .i64 0] rfl rfl (HQ.out.2.1.there 0 3 (by simp)) szPo (one3 _ _ _ _ _) ?_)
        | go_in)
      have hT := HT.out [.slice none 0 0, .int .i64 0, .int .i64 0] rfl
      refine bodyPost_ret (results_blk2P rfl rfl hT.1 Tryd.underlying25 rfl szPo rfl) rfl ⟨⟨_, rfl, TxS.nil _⟩, hT.2.1⟩
    · rw [if_neg (fun h => hl h.2)] at hO
      subst hO
      go_wp2_with (first
        | (refine wpList_load_mid rfl 25 (.tmp 3) rfl w.heap.size 0 rfl [.slice ra 0 rc, .int .i64 pe, .int .i64 pa] _ HQ.out.1.whole Tryd.underlying25 rfl szPo ?_)
        | (refine wpList_store_mid rfl 25 (.tmp 6) (.tmp 24) rfl (w.heap.size + 2) 0 #[.slice ra 0 rc, .int .i64 pe, .int .i64 pa] rfl rfl (HQ.out.2.1.there 0 3 (by simp)) szPo (one3 _ _ _ _ _) ?_)
        | go_in)
      have hT := HT.out [.slice ra 0 rc, .int .i64 pe, .int .i64 pa] rfl
      refine bodyPost_ret (results_blk2P rfl rfl hT.1 Tryd.underlying25 rfl szPo rfl) rfl ⟨⟨_, rfl, hT.2.2⟩, hT.2.1⟩
  · have hgz : ((g : Int) == 0) = false := by simpa using hz
    have hgn : ¬ (g : Int) = 0 := by omega
    rw [if_neg (fun h => hz (by rw [← HX.out, h.1]; rfl))] at hO
    subst hO
    go_wp2_with (first
      | (refine wpList_load_mid rfl 25 (.tmp 3) rfl w.heap.size 0 rfl [.slice ra g rc, .int .i64 pe, .int .i64 pa] _ HQ.out.1.whole Tryd.underlying25 rfl szPo ?_)
      | (refine wpList_store_mid rfl 25 (.tmp 6) (.tmp 24) rfl (w.heap.size + 2) 0 #[.slice ra g rc, .int .i64 pe, .int .i64 pa] rfl rfl (HQ.out.2.1.there 0 3 (by simp)) szPo (one3 _ _ _ _ _) ?_)
      | go_in)
    have hT := HT.out [.slice ra g rc, .int .i64 pe, .int .i64 pa] rfl
    refine bodyPost_ret (results_blk2P rfl rfl hT.1 Tryd.underlying25 rfl szPo rfl) rfl ⟨⟨_, rfl, hT.2.2⟩, hT.2.1⟩
end Go.Proofs.YtkjdihikcgpabaaDoor
