/-
  Clock: the reference's rest.
-/
import Derived.Test.YtnaiialcjimhbaaDoorC31
import Derived.Test.YtnaiialcjimhbaaDoorQb
namespace Go.Proofs.YtnaiialcjimhbaaDoor
open Go.RowKit
/-- a fact that no step looks at -/
structure Hid2 (p : Prop) : Prop where
  out : p
theorem wpAny_gen {P : Program} {md : Region.Mode} {ops : Array Oper} {Q : Exit → Act → World → Prop} {fuel : Nat} {listed : Array Bool} {a : Act} {w : World} (R : World → Prop) (hR : R w) (h : ∀ w', R w' → wpAny P md ops Q fuel listed a w') : wpAny P md ops Q fuel listed a w := h w hR
set_option maxRecDepth 100000 in
set_option maxHeartbeats 0 in
theorem rest_any {w : World} (a : Option Addr) (L c : Nat) (X : List Int) (hX : Sl .u8 w (.slice a L c) X) (hL : X.length = L) (hU : U8s X) (hl : L ≤ 1000000) (i : Nat) (hi : i ≤ 1000) (y : Int) :
    Calls Tryd.prog 36 #[.slice a L c, .int .i64 i, .int .i64 y] w fun e w' => RestIs (restMo X i y) e ∧ Below w.heap.size w w' := by
  obtain ⟨M, hM⟩ : ∃ r, numR X i 2 = r := ⟨_, rfl⟩
  obtain ⟨D, hD⟩ : ∃ r, numR X (i + 2) 2 = r := ⟨_, rfl⟩
  obtain ⟨h, hh⟩ : ∃ r, numR X (i + 4) 2 = r := ⟨_, rfl⟩
  obtain ⟨m, hm⟩ : ∃ r, numR X (i + 6) 2 = r := ⟨_, rfl⟩
  obtain ⟨s, hs⟩ : ∃ r, numR X (i + 8) 2 = r := ⟨_, rfl⟩
  have HN : Hid (∀ (W : World) (o : Obj) (z : Int), W = w.alloc o → (∀ r j, z = ((i + j : Nat) : Int) → j ≤ 8 → numR X (i + j) 2 = r → Calls Tryd.prog 35 #[.slice a L c, .int .i64 z, .int .i64 2] W fun e w' => e = .returned (.int .i64 r) ∧ w' = W)) := by
    intro W o z hW r j hz hj hr
    subst hW
    exact Rnumber_at a L c X (sl_alloc hX o) hL hU hl (i + j) z 2 r 2 hz rfl (by omega) (by omega) (by omega) hr
  have HR : Hid (restMo X i y = ⟨y, M, D, h, m, s⟩ ∧ numR X (i + 0) 2 = M ∧ numR X (i + 2) 2 = D ∧ numR X (i + 4) 2 = h ∧ numR X (i + 6) 2 = m ∧ numR X (i + 8) 2 = s) := ⟨by unfold restMo; rw [hM, hD, hh, hm, hs], hM, hD, hh, hm, hs⟩
  rw [HR.out.1]
  clear hM hD hh hm hs hX hU
  go_enter Tryd.func36, Tryd.ntmps36
  go_wp2_with fail
  refine (HN.out _ _ _ rfl M 0 (by omega) (by omega) HR.out.2.1).mono ?_
  rintro e w' ⟨rfl, rfl⟩
  go_wp2_with fail
  refine (HN.out _ _ _ rfl D 2 (by omega) (by omega) HR.out.2.2.1).mono ?_
  rintro e w' ⟨rfl, rfl⟩
  go_wp2_with fail
  refine (HN.out _ _ _ rfl h 4 (by omega) (by omega) HR.out.2.2.2.1).mono ?_
  rintro e w' ⟨rfl, rfl⟩
  go_wp2_with fail
  refine (HN.out _ _ _ rfl m 6 (by omega) (by omega) HR.out.2.2.2.2.1).mono ?_
  rintro e w' ⟨rfl, rfl⟩
  go_wp2_with fail
  refine (HN.out _ _ _ rfl s 8 (by omega) (by omega) HR.out.2.2.2.2.2).mono ?_
  rintro e w' ⟨rfl, rfl⟩
  go_upto_region 2 with (fail)
  refine wp_gen (fun W => Below w.heap.size w W ∧ Blk 23 W w.heap.size (Mo.cells ⟨0, 0, 0, 0, 0, 0⟩) ∧ Blk 23 W (w.heap.size + 1) (Mo.cells ⟨y, M, D, h, m, s⟩)) ⟨al2' (al1 _), (Blk.new _ w _).alloc _, ?_⟩ ?_
  · have := Blk.new 23 (w.alloc (.cells (Mo.cells ⟨0, 0, 0, 0, 0, 0⟩).toArray 23)) (Mo.cells ⟨y, M, D, h, m, s⟩)
    rw [show (w.alloc (.cells (Mo.cells ⟨0, 0, 0, 0, 0, 0⟩).toArray 23)).heap.size = w.heap.size + 1 by simp] at this
    exact this
  obtain ⟨p, hp⟩ : ∃ p, w.heap.size + 1 = p := ⟨_, rfl⟩
  have hpn : ¬ p = w.heap.size := by omega
  have hnp : ¬ w.heap.size = p := by omega
  rw [hp]
  clear hp
  rintro w1 ⟨hb1, hB1, hN1⟩
  obtain ⟨c0, c1, c2, c3, c4, c5, g0, g1, g2, g3, g4, g5⟩ := Mo.facts hN1
  obtain ⟨q0, q1, q2, q3, q4, q5, f0, f1, f2, f3, f4, f5⟩ := Mo.facts hB1
  have H1 : Hid (Below w.heap.size w w1 ∧ Blk 23 w1 w.heap.size (Mo.cells ⟨0, 0, 0, 0, 0, 0⟩)) := ⟨hb1, hB1⟩
  have hS : ∀ W : World, W = (((((((w1).setCell ⟨w.heap.size, 0, none⟩ (.int .i64 y)).setCell ⟨w.heap.size, 1, none⟩ (.int .i64 M)).setCell ⟨w.heap.size, 2, none⟩ (.int .i64 D)).setCell ⟨w.heap.size, 3, none⟩ (.int .i64 h)).setCell ⟨w.heap.size, 4, none⟩ (.int .i64 m)).setCell ⟨w.heap.size, 5, none⟩ (.int .i64 s)).drew → Below w.heap.size w W ∧ Blk 23 W w.heap.size (Mo.cells ⟨y, M, D, h, m, s⟩) ∧ W.cell? ⟨p, 5, none⟩ = some (.int .i64 s) := by
    intro W hW
    subst hW
    obtain ⟨hF, hV⟩ := Mo.put hB1 y M D h m s
    have hc := (World.cell?_of_block (a := ⟨p, 5, none⟩) (hV.block p hN1.lt (by simp [hpn]))).trans c5
    have hbb := hV.below hb1 hb1.size (Nat.le_refl _)
    generalize (((((w1.setCell ⟨w.heap.size, 0, none⟩ (.int .i64 y)).setCell ⟨w.heap.size, 1, none⟩ (.int .i64 M)).setCell ⟨w.heap.size, 2, none⟩ (.int .i64 D)).setCell ⟨w.heap.size, 3, none⟩ (.int .i64 h)).setCell ⟨w.heap.size, 4, none⟩ (.int .i64 m)).setCell ⟨w.heap.size, 5, none⟩ (.int .i64 s) = V at hF hc hbb
    exact ⟨hbb.trans ⟨rfl, rfl, rfl, Nat.le_refl _, fun _ _ => rfl⟩, hF, hc⟩
  have HS := fun W => (⟨hS W⟩ : Hid2 _)
  clear hS
  clear hb1 hB1 hN1 g0 g1 g2 g3 g4 g5
  by_cases b0 : 0 ≤ y
  rotate_left
  · refine wp_region_s 0 28 (v := .agg #[.int .i64 y, .int .i64 M, .int .i64 D, .int .i64 h, .int .i64 m, .int .i64 s]) (by kernel_rfl) (by kernel_rfl) rfl (fun _ _ _ h => h) (Or.inl ⟨rfl, ?_⟩) ?_
    · go_simp
      try rfl
    refine wpS_one (j := 1) (by kernel_rfl) (by decide) rfl (fun K hK => ?_)
    go_simp
    refine hK _ ?_
    clear hK K
    refine wpS_one (j := 2) (by kernel_rfl) (by decide) rfl (fun K hK => ?_)
    go_simp
    refine hK _ ?_
    clear hK K
    refine wpS_one (j := 3) (by kernel_rfl) (by decide) rfl (fun K hK => ?_)
    go_simp
    refine hK _ ?_
    clear hK K
    refine wpS_one (j := 4) (by kernel_rfl) (by decide) rfl (fun K hK => ?_)
    go_simp
    refine hK _ ?_
    clear hK K
    refine wpS_one (j := 5) (by kernel_rfl) (by decide) rfl (fun K hK => ?_)
    go_simp
    refine hK _ ?_
    clear hK K
    refine wpS_one (j := 6) (by kernel_rfl) (by decide) rfl (fun K hK => ?_)
    go_simp
    refine hK _ ?_
    clear hK K
    refine wpS_one (j := 7) (by kernel_rfl) (by decide) rfl (fun K hK => ?_)
    go_simp
    refine hK _ ?_
    clear hK K
    refine wpS_one (j := 8) (by kernel_rfl) (by decide) rfl (fun K hK => ?_)
    go_simp
    refine hK _ ?_
    clear hK K
    refine wpS_one (j := 9) (by kernel_rfl) (by decide) rfl (fun K hK => ?_)
    go_simp
    refine hK _ ?_
    clear hK K
    refine wpS_one (j := 10) (by kernel_rfl) (by decide) rfl (fun K hK => ?_)
    go_simp
    refine hK _ ?_
    clear hK K
    refine wpS_one (j := 11) (by kernel_rfl) (by decide) rfl (fun K hK => ?_)
    go_simp
    refine hK _ ?_
    clear hK K
    refine wpS_one (j := 12) (by kernel_rfl) (by decide) rfl (fun K hK => ?_)
    go_simp
    refine hK _ ?_
    clear hK K
    refine wpS_one (j := 13) (by kernel_rfl) (by decide) rfl (fun K hK => ?_)
    go_simp
    refine hK _ ?_
    clear hK K
    refine wpS_one (j := 14) (by kernel_rfl) (by decide) rfl (fun K hK => ?_)
    go_simp
    refine hK _ ?_
    clear hK K
    refine wpS_one (j := 15) (by kernel_rfl) (by decide) rfl (fun K hK => ?_)
    go_simp
    refine hK _ ?_
    clear hK K
    refine wpS_one (j := 16) (by kernel_rfl) (by decide) rfl (fun K hK => ?_)
    go_simp
    refine hK _ ?_
    clear hK K
    refine wpS_one (j := 17) (by kernel_rfl) (by decide) rfl (fun K hK => ?_)
    go_simp
    refine hK _ ?_
    clear hK K
    refine wpS_one (j := 18) (by kernel_rfl) (by decide) rfl (fun K hK => ?_)
    go_simp
    refine hK _ ?_
    clear hK K
    refine wpS_one (j := 19) (by kernel_rfl) (by decide) rfl (fun K hK => ?_)
    go_simp
    refine hK _ ?_
    clear hK K
    refine wpS_one (j := 20) (by kernel_rfl) (by decide) rfl (fun K hK => ?_)
    go_simp
    refine hK _ ?_
    clear hK K
    refine wpS_one (j := 21) (by kernel_rfl) (by decide) rfl (fun K hK => ?_)
    go_simp
    refine hK _ ?_
    clear hK K
    refine wpS_one (j := 22) (by kernel_rfl) (by decide) rfl (fun K hK => ?_)
    go_simp
    refine hK _ ?_
    clear hK K
    refine wpS_one (j := 23) (by kernel_rfl) (by decide) rfl (fun K hK => ?_)
    go_simp
    refine hK _ ?_
    clear hK K
    refine wpS_two (j := 24) (k := 28) (by kernel_rfl) (by decide) (by decide) rfl rfl (fun K hK => ?_) (fun K hK => ?_)
    · go_simp
      refine hK _ ?_
      clear hK K
      refine wpS_two (j := 25) (k := 28) (by kernel_rfl) (by decide) (by decide) rfl rfl (fun K hK => ?_) (fun K hK => ?_)
      · go_simp
        refine hK _ ?_
        clear hK K
        refine wpS_two (j := 26) (k := 28) (by kernel_rfl) (by decide) (by decide) rfl rfl (fun K hK => ?_) (fun K hK => ?_)
        · go_simp
          refine hK _ ?_
          clear hK K
          refine wpS_two (j := 27) (k := 28) (by kernel_rfl) (by decide) (by decide) rfl rfl (fun K hK => ?_) (fun K hK => ?_)
          · go_simp
            refine hK _ ?_
            clear hK K
            refine wpS_late (k := 28) (by kernel_rfl) (by decide) rfl (fun K hK => ?_)
            go_simp
            refine hK _ _ ?_
            clear hK K
            refine wpAny_gen (fun W => Below w.heap.size w W ∧ Blk 23 W w.heap.size (Mo.cells ⟨y, M, D, h, m, s⟩) ∧ W.cell? ⟨p, 5, none⟩ = some (.int .i64 s)) ((HS _).out rfl) ?_
            rintro w2 ⟨hb2, hB2, c5'⟩
            refine wpAny_ready (rs := [29]) (by kernel_rfl) (by simp) ?_
            refine AllReady.cons rfl (fun K hK => ?_) AllReady.nil
            go_simp
            refine hK _ _ ?_
            clear hK K
            refine wpAny_done (by kernel_rfl) ?_ _
            go_wp2
            exact bodyPost_ret (results_blk2 rfl rfl (b := w.heap.size) (cs := Mo.cells ⟨y, M, D, h, m, s⟩) hB2 Tryd.underlying23 rfl Tryd.sizeMo rfl) rfl ⟨Or.inr ⟨fun k => (by unfold RestOk at k; simp only at k; omega), rfl⟩, hb2⟩
          · go_simp
            refine hK _ _ ?_
            clear hK K
            refine wpAny_gen (fun W => Below w.heap.size w W ∧ Blk 23 W w.heap.size (Mo.cells ⟨y, M, D, h, m, s⟩) ∧ W.cell? ⟨p, 5, none⟩ = some (.int .i64 s)) ((HS _).out rfl) ?_
            rintro w2 ⟨hb2, hB2, c5'⟩
            refine wpAny_ready (rs := [27]) (by kernel_rfl) (by simp) ?_
            refine AllReady.cons rfl (fun K hK => ?_) AllReady.nil
            go_simp
            refine hK _ _ ?_
            clear hK K
            refine wpAny_ready (rs := [29]) (by kernel_rfl) (by simp) ?_
            refine AllReady.cons rfl (fun K hK => ?_) AllReady.nil
            go_simp
            refine hK _ _ ?_
            clear hK K
            refine wpAny_done (by kernel_rfl) ?_ _
            go_wp2
            exact bodyPost_ret (results_blk2 rfl rfl (b := w.heap.size) (cs := Mo.cells ⟨y, M, D, h, m, s⟩) hB2 Tryd.underlying23 rfl Tryd.sizeMo rfl) rfl ⟨Or.inr ⟨fun k => (by unfold RestOk at k; simp only at k; omega), rfl⟩, hb2⟩
        · go_simp
          refine hK _ _ ?_
          clear hK K
          refine wpAny_gen (fun W => Below w.heap.size w W ∧ Blk 23 W w.heap.size (Mo.cells ⟨y, M, D, h, m, s⟩) ∧ W.cell? ⟨p, 5, none⟩ = some (.int .i64 s)) ((HS _).out rfl) ?_
          rintro w2 ⟨hb2, hB2, c5'⟩
          refine wpAny_ready (rs := [26]) (by kernel_rfl) (by simp) ?_
          refine AllReady.cons rfl (fun K hK => ?_) AllReady.nil
          go_simp
          refine hK _ _ ?_
          clear hK K
          refine wpAny_ready (rs := [27]) (by kernel_rfl) (by simp) ?_
          refine AllReady.cons rfl (fun K hK => ?_) AllReady.nil
          go_simp
          refine hK _ _ ?_
          clear hK K
          refine wpAny_ready (rs := [29]) (by kernel_rfl) (by simp) ?_
          refine AllReady.cons rfl (fun K hK => ?_) AllReady.nil
          go_simp
          refine hK _ _ ?_
          clear hK K
          refine wpAny_done (by kernel_rfl) ?_ _
          go_wp2
          exact bodyPost_ret (results_blk2 rfl rfl (b := w.heap.size) (cs := Mo.cells ⟨y, M, D, h, m, s⟩) hB2 Tryd.underlying23 rfl Tryd.sizeMo rfl) rfl ⟨Or.inr ⟨fun k => (by unfold RestOk at k; simp only at k; omega), rfl⟩, hb2⟩
      · go_simp
        refine hK _ _ ?_
        clear hK K
        refine wpAny_gen (fun W => Below w.heap.size w W ∧ Blk 23 W w.heap.size (Mo.cells ⟨y, M, D, h, m, s⟩) ∧ W.cell? ⟨p, 5, none⟩ = some (.int .i64 s)) ((HS _).out rfl) ?_
        rintro w2 ⟨hb2, hB2, c5'⟩
        refine wpAny_ready (rs := [25]) (by kernel_rfl) (by simp) ?_
        refine AllReady.cons rfl (fun K hK => ?_) AllReady.nil
        go_simp
        refine hK _ _ ?_
        clear hK K
        refine wpAny_ready (rs := [26]) (by kernel_rfl) (by simp) ?_
        refine AllReady.cons rfl (fun K hK => ?_) AllReady.nil
        go_simp
        refine hK _ _ ?_
        clear hK K
        refine wpAny_ready (rs := [27]) (by kernel_rfl) (by simp) ?_
        refine AllReady.cons rfl (fun K hK => ?_) AllReady.nil
        go_simp
        refine hK _ _ ?_
        clear hK K
        refine wpAny_ready (rs := [29]) (by kernel_rfl) (by simp) ?_
        refine AllReady.cons rfl (fun K hK => ?_) AllReady.nil
        go_simp
        refine hK _ _ ?_
        clear hK K
        refine wpAny_done (by kernel_rfl) ?_ _
        go_wp2
        exact bodyPost_ret (results_blk2 rfl rfl (b := w.heap.size) (cs := Mo.cells ⟨y, M, D, h, m, s⟩) hB2 Tryd.underlying23 rfl Tryd.sizeMo rfl) rfl ⟨Or.inr ⟨fun k => (by unfold RestOk at k; simp only at k; omega), rfl⟩, hb2⟩
    · go_simp
      refine hK _ _ ?_
      clear hK K
      refine wpAny_gen (fun W => Below w.heap.size w W ∧ Blk 23 W w.heap.size (Mo.cells ⟨y, M, D, h, m, s⟩) ∧ W.cell? ⟨p, 5, none⟩ = some (.int .i64 s)) ((HS _).out rfl) ?_
      rintro w2 ⟨hb2, hB2, c5'⟩
      refine wpAny_ready (rs := [24]) (by kernel_rfl) (by simp) ?_
      refine AllReady.cons rfl (fun K hK => ?_) AllReady.nil
      go_simp
      refine hK _ _ ?_
      clear hK K
      refine wpAny_ready (rs := [25]) (by kernel_rfl) (by simp) ?_
      refine AllReady.cons rfl (fun K hK => ?_) AllReady.nil
      go_simp
      refine hK _ _ ?_
      clear hK K
      refine wpAny_ready (rs := [26]) (by kernel_rfl) (by simp) ?_
      refine AllReady.cons rfl (fun K hK => ?_) AllReady.nil
      go_simp
      refine hK _ _ ?_
      clear hK K
      refine wpAny_ready (rs := [27]) (by kernel_rfl) (by simp) ?_
      refine AllReady.cons rfl (fun K hK => ?_) AllReady.nil
      go_simp
      refine hK _ _ ?_
      clear hK K
      refine wpAny_ready (rs := [29]) (by kernel_rfl) (by simp) ?_
      refine AllReady.cons rfl (fun K hK => ?_) AllReady.nil
      go_simp
      refine hK _ _ ?_
      clear hK K
      refine wpAny_done (by kernel_rfl) ?_ _
      go_wp2
      exact bodyPost_ret (results_blk2 rfl rfl (b := w.heap.size) (cs := Mo.cells ⟨y, M, D, h, m, s⟩) hB2 Tryd.underlying23 rfl Tryd.sizeMo rfl) rfl ⟨Or.inr ⟨fun k => (by unfold RestOk at k; simp only at k; omega), rfl⟩, hb2⟩
  by_cases b1 : 0 ≤ M
  rotate_left
  · refine wp_region_s 0 28 (v := .agg #[.int .i64 y, .int .i64 M, .int .i64 D, .int .i64 h, .int .i64 m, .int .i64 s]) (by kernel_rfl) (by kernel_rfl) rfl (fun _ _ _ h => h) (Or.inl ⟨rfl, ?_⟩) ?_
    · go_simp
      try rfl
    refine wpS_one (j := 1) (by kernel_rfl) (by decide) rfl (fun K hK => ?_)
    go_simp
    refine hK _ ?_
    clear hK K
    refine wpS_one (j := 2) (by kernel_rfl) (by decide) rfl (fun K hK => ?_)
    go_simp
    refine hK _ ?_
    clear hK K
    refine wpS_one (j := 3) (by kernel_rfl) (by decide) rfl (fun K hK => ?_)
    go_simp
    refine hK _ ?_
    clear hK K
    refine wpS_one (j := 4) (by kernel_rfl) (by decide) rfl (fun K hK => ?_)
    go_simp
    refine hK _ ?_
    clear hK K
    refine wpS_one (j := 5) (by kernel_rfl) (by decide) rfl (fun K hK => ?_)
    go_simp
    refine hK _ ?_
    clear hK K
    refine wpS_one (j := 6) (by kernel_rfl) (by decide) rfl (fun K hK => ?_)
    go_simp
    refine hK _ ?_
    clear hK K
    refine wpS_one (j := 7) (by kernel_rfl) (by decide) rfl (fun K hK => ?_)
    go_simp
    refine hK _ ?_
    clear hK K
    refine wpS_one (j := 8) (by kernel_rfl) (by decide) rfl (fun K hK => ?_)
    go_simp
    refine hK _ ?_
    clear hK K
    refine wpS_one (j := 9) (by kernel_rfl) (by decide) rfl (fun K hK => ?_)
    go_simp
    refine hK _ ?_
    clear hK K
    refine wpS_one (j := 10) (by kernel_rfl) (by decide) rfl (fun K hK => ?_)
    go_simp
    refine hK _ ?_
    clear hK K
    refine wpS_one (j := 11) (by kernel_rfl) (by decide) rfl (fun K hK => ?_)
    go_simp
    refine hK _ ?_
    clear hK K
    refine wpS_one (j := 12) (by kernel_rfl) (by decide) rfl (fun K hK => ?_)
    go_simp
    refine hK _ ?_
    clear hK K
    refine wpS_one (j := 13) (by kernel_rfl) (by decide) rfl (fun K hK => ?_)
    go_simp
    refine hK _ ?_
    clear hK K
    refine wpS_one (j := 14) (by kernel_rfl) (by decide) rfl (fun K hK => ?_)
    go_simp
    refine hK _ ?_
    clear hK K
    refine wpS_one (j := 15) (by kernel_rfl) (by decide) rfl (fun K hK => ?_)
    go_simp
    refine hK _ ?_
    clear hK K
    refine wpS_one (j := 16) (by kernel_rfl) (by decide) rfl (fun K hK => ?_)
    go_simp
    refine hK _ ?_
    clear hK K
    refine wpS_one (j := 17) (by kernel_rfl) (by decide) rfl (fun K hK => ?_)
    go_simp
    refine hK _ ?_
    clear hK K
    refine wpS_one (j := 18) (by kernel_rfl) (by decide) rfl (fun K hK => ?_)
    go_simp
    refine hK _ ?_
    clear hK K
    refine wpS_one (j := 19) (by kernel_rfl) (by decide) rfl (fun K hK => ?_)
    go_simp
    refine hK _ ?_
    clear hK K
    refine wpS_one (j := 20) (by kernel_rfl) (by decide) rfl (fun K hK => ?_)
    go_simp
    refine hK _ ?_
    clear hK K
    refine wpS_one (j := 21) (by kernel_rfl) (by decide) rfl (fun K hK => ?_)
    go_simp
    refine hK _ ?_
    clear hK K
    refine wpS_one (j := 22) (by kernel_rfl) (by decide) rfl (fun K hK => ?_)
    go_simp
    refine hK _ ?_
    clear hK K
    refine wpS_one (j := 23) (by kernel_rfl) (by decide) rfl (fun K hK => ?_)
    go_simp
    refine hK _ ?_
    clear hK K
    refine wpS_two (j := 24) (k := 28) (by kernel_rfl) (by decide) (by decide) rfl rfl (fun K hK => ?_) (fun K hK => ?_)
    · go_simp
      refine hK _ ?_
      clear hK K
      refine wpS_two (j := 25) (k := 28) (by kernel_rfl) (by decide) (by decide) rfl rfl (fun K hK => ?_) (fun K hK => ?_)
      · go_simp
        refine hK _ ?_
        clear hK K
        refine wpS_two (j := 26) (k := 28) (by kernel_rfl) (by decide) (by decide) rfl rfl (fun K hK => ?_) (fun K hK => ?_)
        · go_simp
          refine hK _ ?_
          clear hK K
          refine wpS_two (j := 27) (k := 28) (by kernel_rfl) (by decide) (by decide) rfl rfl (fun K hK => ?_) (fun K hK => ?_)
          · go_simp
            refine hK _ ?_
            clear hK K
            refine wpS_late (k := 28) (by kernel_rfl) (by decide) rfl (fun K hK => ?_)
            go_simp
            refine hK _ _ ?_
            clear hK K
            refine wpAny_gen (fun W => Below w.heap.size w W ∧ Blk 23 W w.heap.size (Mo.cells ⟨y, M, D, h, m, s⟩) ∧ W.cell? ⟨p, 5, none⟩ = some (.int .i64 s)) ((HS _).out rfl) ?_
            rintro w2 ⟨hb2, hB2, c5'⟩
            refine wpAny_ready (rs := [29]) (by kernel_rfl) (by simp) ?_
            refine AllReady.cons rfl (fun K hK => ?_) AllReady.nil
            go_simp
            refine hK _ _ ?_
            clear hK K
            refine wpAny_done (by kernel_rfl) ?_ _
            go_wp2
            exact bodyPost_ret (results_blk2 rfl rfl (b := w.heap.size) (cs := Mo.cells ⟨y, M, D, h, m, s⟩) hB2 Tryd.underlying23 rfl Tryd.sizeMo rfl) rfl ⟨Or.inr ⟨fun k => (by unfold RestOk at k; simp only at k; omega), rfl⟩, hb2⟩
          · go_simp
            refine hK _ _ ?_
            clear hK K
            refine wpAny_gen (fun W => Below w.heap.size w W ∧ Blk 23 W w.heap.size (Mo.cells ⟨y, M, D, h, m, s⟩) ∧ W.cell? ⟨p, 5, none⟩ = some (.int .i64 s)) ((HS _).out rfl) ?_
            rintro w2 ⟨hb2, hB2, c5'⟩
            refine wpAny_ready (rs := [27]) (by kernel_rfl) (by simp) ?_
            refine AllReady.cons rfl (fun K hK => ?_) AllReady.nil
            go_simp
            refine hK _ _ ?_
            clear hK K
            refine wpAny_ready (rs := [29]) (by kernel_rfl) (by simp) ?_
            refine AllReady.cons rfl (fun K hK => ?_) AllReady.nil
            go_simp
            refine hK _ _ ?_
            clear hK K
            refine wpAny_done (by kernel_rfl) ?_ _
            go_wp2
            exact bodyPost_ret (results_blk2 rfl rfl (b := w.heap.size) (cs := Mo.cells ⟨y, M, D, h, m, s⟩) hB2 Tryd.underlying23 rfl Tryd.sizeMo rfl) rfl ⟨Or.inr ⟨fun k => (by unfold RestOk at k; simp only at k; omega), rfl⟩, hb2⟩
        · go_simp
          refine hK _ _ ?_
          clear hK K
          refine wpAny_gen (fun W => Below w.heap.size w W ∧ Blk 23 W w.heap.size (Mo.cells ⟨y, M, D, h, m, s⟩) ∧ W.cell? ⟨p, 5, none⟩ = some (.int .i64 s)) ((HS _).out rfl) ?_
          rintro w2 ⟨hb2, hB2, c5'⟩
          refine wpAny_ready (rs := [26]) (by kernel_rfl) (by simp) ?_
          refine AllReady.cons rfl (fun K hK => ?_) AllReady.nil
          go_simp
          refine hK _ _ ?_
          clear hK K
          refine wpAny_ready (rs := [27]) (by kernel_rfl) (by simp) ?_
          refine AllReady.cons rfl (fun K hK => ?_) AllReady.nil
          go_simp
          refine hK _ _ ?_
          clear hK K
          refine wpAny_ready (rs := [29]) (by kernel_rfl) (by simp) ?_
          refine AllReady.cons rfl (fun K hK => ?_) AllReady.nil
          go_simp
          refine hK _ _ ?_
          clear hK K
          refine wpAny_done (by kernel_rfl) ?_ _
          go_wp2
          exact bodyPost_ret (results_blk2 rfl rfl (b := w.heap.size) (cs := Mo.cells ⟨y, M, D, h, m, s⟩) hB2 Tryd.underlying23 rfl Tryd.sizeMo rfl) rfl ⟨Or.inr ⟨fun k => (by unfold RestOk at k; simp only at k; omega), rfl⟩, hb2⟩
      · go_simp
        refine hK _ _ ?_
        clear hK K
        refine wpAny_gen (fun W => Below w.heap.size w W ∧ Blk 23 W w.heap.size (Mo.cells ⟨y, M, D, h, m, s⟩) ∧ W.cell? ⟨p, 5, none⟩ = some (.int .i64 s)) ((HS _).out rfl) ?_
        rintro w2 ⟨hb2, hB2, c5'⟩
        refine wpAny_ready (rs := [25]) (by kernel_rfl) (by simp) ?_
        refine AllReady.cons rfl (fun K hK => ?_) AllReady.nil
        go_simp
        refine hK _ _ ?_
        clear hK K
        refine wpAny_ready (rs := [26]) (by kernel_rfl) (by simp) ?_
        refine AllReady.cons rfl (fun K hK => ?_) AllReady.nil
        go_simp
        refine hK _ _ ?_
        clear hK K
        refine wpAny_ready (rs := [27]) (by kernel_rfl) (by simp) ?_
        refine AllReady.cons rfl (fun K hK => ?_) AllReady.nil
        go_simp
        refine hK _ _ ?_
        clear hK K
        refine wpAny_ready (rs := [29]) (by kernel_rfl) (by simp) ?_
        refine AllReady.cons rfl (fun K hK => ?_) AllReady.nil
        go_simp
        refine hK _ _ ?_
        clear hK K
        refine wpAny_done (by kernel_rfl) ?_ _
        go_wp2
        exact bodyPost_ret (results_blk2 rfl rfl (b := w.heap.size) (cs := Mo.cells ⟨y, M, D, h, m, s⟩) hB2 Tryd.underlying23 rfl Tryd.sizeMo rfl) rfl ⟨Or.inr ⟨fun k => (by unfold RestOk at k; simp only at k; omega), rfl⟩, hb2⟩
    · go_simp
      refine hK _ _ ?_
      clear hK K
      refine wpAny_gen (fun W => Below w.heap.size w W ∧ Blk 23 W w.heap.size (Mo.cells ⟨y, M, D, h, m, s⟩) ∧ W.cell? ⟨p, 5, none⟩ = some (.int .i64 s)) ((HS _).out rfl) ?_
      rintro w2 ⟨hb2, hB2, c5'⟩
      refine wpAny_ready (rs := [24]) (by kernel_rfl) (by simp) ?_
      refine AllReady.cons rfl (fun K hK => ?_) AllReady.nil
      go_simp
      refine hK _ _ ?_
      clear hK K
      refine wpAny_ready (rs := [25]) (by kernel_rfl) (by simp) ?_
      refine AllReady.cons rfl (fun K hK => ?_) AllReady.nil
      go_simp
      refine hK _ _ ?_
      clear hK K
      refine wpAny_ready (rs := [26]) (by kernel_rfl) (by simp) ?_
      refine AllReady.cons rfl (fun K hK => ?_) AllReady.nil
      go_simp
      refine hK _ _ ?_
      clear hK K
      refine wpAny_ready (rs := [27]) (by kernel_rfl) (by simp) ?_
      refine AllReady.cons rfl (fun K hK => ?_) AllReady.nil
      go_simp
      refine hK _ _ ?_
      clear hK K
      refine wpAny_ready (rs := [29]) (by kernel_rfl) (by simp) ?_
      refine AllReady.cons rfl (fun K hK => ?_) AllReady.nil
      go_simp
      refine hK _ _ ?_
      clear hK K
      refine wpAny_done (by kernel_rfl) ?_ _
      go_wp2
      exact bodyPost_ret (results_blk2 rfl rfl (b := w.heap.size) (cs := Mo.cells ⟨y, M, D, h, m, s⟩) hB2 Tryd.underlying23 rfl Tryd.sizeMo rfl) rfl ⟨Or.inr ⟨fun k => (by unfold RestOk at k; simp only at k; omega), rfl⟩, hb2⟩
  by_cases b2 : 0 ≤ D
  rotate_left
  · refine wp_region_s 0 28 (v := .agg #[.int .i64 y, .int .i64 M, .int .i64 D, .int .i64 h, .int .i64 m, .int .i64 s]) (by kernel_rfl) (by kernel_rfl) rfl (fun _ _ _ h => h) (Or.inl ⟨rfl, ?_⟩) ?_
    · go_simp
      try rfl
    refine wpS_one (j := 1) (by kernel_rfl) (by decide) rfl (fun K hK => ?_)
    go_simp
    refine hK _ ?_
    clear hK K
    refine wpS_one (j := 2) (by kernel_rfl) (by decide) rfl (fun K hK => ?_)
    go_simp
    refine hK _ ?_
    clear hK K
    refine wpS_one (j := 3) (by kernel_rfl) (by decide) rfl (fun K hK => ?_)
    go_simp
    refine hK _ ?_
    clear hK K
    refine wpS_one (j := 4) (by kernel_rfl) (by decide) rfl (fun K hK => ?_)
    go_simp
    refine hK _ ?_
    clear hK K
    refine wpS_one (j := 5) (by kernel_rfl) (by decide) rfl (fun K hK => ?_)
    go_simp
    refine hK _ ?_
    clear hK K
    refine wpS_one (j := 6) (by kernel_rfl) (by decide) rfl (fun K hK => ?_)
    go_simp
    refine hK _ ?_
    clear hK K
    refine wpS_one (j := 7) (by kernel_rfl) (by decide) rfl (fun K hK => ?_)
    go_simp
    refine hK _ ?_
    clear hK K
    refine wpS_one (j := 8) (by kernel_rfl) (by decide) rfl (fun K hK => ?_)
    go_simp
    refine hK _ ?_
    clear hK K
    refine wpS_one (j := 9) (by kernel_rfl) (by decide) rfl (fun K hK => ?_)
    go_simp
    refine hK _ ?_
    clear hK K
    refine wpS_one (j := 10) (by kernel_rfl) (by decide) rfl (fun K hK => ?_)
    go_simp
    refine hK _ ?_
    clear hK K
    refine wpS_one (j := 11) (by kernel_rfl) (by decide) rfl (fun K hK => ?_)
    go_simp
    refine hK _ ?_
    clear hK K
    refine wpS_one (j := 12) (by kernel_rfl) (by decide) rfl (fun K hK => ?_)
    go_simp
    refine hK _ ?_
    clear hK K
    refine wpS_one (j := 13) (by kernel_rfl) (by decide) rfl (fun K hK => ?_)
    go_simp
    refine hK _ ?_
    clear hK K
    refine wpS_one (j := 14) (by kernel_rfl) (by decide) rfl (fun K hK => ?_)
    go_simp
    refine hK _ ?_
    clear hK K
    refine wpS_one (j := 15) (by kernel_rfl) (by decide) rfl (fun K hK => ?_)
    go_simp
    refine hK _ ?_
    clear hK K
    refine wpS_one (j := 16) (by kernel_rfl) (by decide) rfl (fun K hK => ?_)
    go_simp
    refine hK _ ?_
    clear hK K
    refine wpS_one (j := 17) (by kernel_rfl) (by decide) rfl (fun K hK => ?_)
    go_simp
    refine hK _ ?_
    clear hK K
    refine wpS_one (j := 18) (by kernel_rfl) (by decide) rfl (fun K hK => ?_)
    go_simp
    refine hK _ ?_
    clear hK K
    refine wpS_one (j := 19) (by kernel_rfl) (by decide) rfl (fun K hK => ?_)
    go_simp
    refine hK _ ?_
    clear hK K
    refine wpS_one (j := 20) (by kernel_rfl) (by decide) rfl (fun K hK => ?_)
    go_simp
    refine hK _ ?_
    clear hK K
    refine wpS_one (j := 21) (by kernel_rfl) (by decide) rfl (fun K hK => ?_)
    go_simp
    refine hK _ ?_
    clear hK K
    refine wpS_one (j := 22) (by kernel_rfl) (by decide) rfl (fun K hK => ?_)
    go_simp
    refine hK _ ?_
    clear hK K
    refine wpS_one (j := 23) (by kernel_rfl) (by decide) rfl (fun K hK => ?_)
    go_simp
    refine hK _ ?_
    clear hK K
    refine wpS_two (j := 24) (k := 28) (by kernel_rfl) (by decide) (by decide) rfl rfl (fun K hK => ?_) (fun K hK => ?_)
    · go_simp
      refine hK _ ?_
      clear hK K
      refine wpS_two (j := 25) (k := 28) (by kernel_rfl) (by decide) (by decide) rfl rfl (fun K hK => ?_) (fun K hK => ?_)
      · go_simp
        refine hK _ ?_
        clear hK K
        refine wpS_two (j := 26) (k := 28) (by kernel_rfl) (by decide) (by decide) rfl rfl (fun K hK => ?_) (fun K hK => ?_)
        · go_simp
          refine hK _ ?_
          clear hK K
          refine wpS_two (j := 27) (k := 28) (by kernel_rfl) (by decide) (by decide) rfl rfl (fun K hK => ?_) (fun K hK => ?_)
          · go_simp
            refine hK _ ?_
            clear hK K
            refine wpS_late (k := 28) (by kernel_rfl) (by decide) rfl (fun K hK => ?_)
            go_simp
            refine hK _ _ ?_
            clear hK K
            refine wpAny_gen (fun W => Below w.heap.size w W ∧ Blk 23 W w.heap.size (Mo.cells ⟨y, M, D, h, m, s⟩) ∧ W.cell? ⟨p, 5, none⟩ = some (.int .i64 s)) ((HS _).out rfl) ?_
            rintro w2 ⟨hb2, hB2, c5'⟩
            refine wpAny_ready (rs := [29]) (by kernel_rfl) (by simp) ?_
            refine AllReady.cons rfl (fun K hK => ?_) AllReady.nil
            go_simp
            refine hK _ _ ?_
            clear hK K
            refine wpAny_done (by kernel_rfl) ?_ _
            go_wp2
            exact bodyPost_ret (results_blk2 rfl rfl (b := w.heap.size) (cs := Mo.cells ⟨y, M, D, h, m, s⟩) hB2 Tryd.underlying23 rfl Tryd.sizeMo rfl) rfl ⟨Or.inr ⟨fun k => (by unfold RestOk at k; simp only at k; omega), rfl⟩, hb2⟩
          · go_simp
            refine hK _ _ ?_
            clear hK K
            refine wpAny_gen (fun W => Below w.heap.size w W ∧ Blk 23 W w.heap.size (Mo.cells ⟨y, M, D, h, m, s⟩) ∧ W.cell? ⟨p, 5, none⟩ = some (.int .i64 s)) ((HS _).out rfl) ?_
            rintro w2 ⟨hb2, hB2, c5'⟩
            refine wpAny_ready (rs := [27]) (by kernel_rfl) (by simp) ?_
            refine AllReady.cons rfl (fun K hK => ?_) AllReady.nil
            go_simp
            refine hK _ _ ?_
            clear hK K
            refine wpAny_ready (rs := [29]) (by kernel_rfl) (by simp) ?_
            refine AllReady.cons rfl (fun K hK => ?_) AllReady.nil
            go_simp
            refine hK _ _ ?_
            clear hK K
            refine wpAny_done (by kernel_rfl) ?_ _
            go_wp2
            exact bodyPost_ret (results_blk2 rfl rfl (b := w.heap.size) (cs := Mo.cells ⟨y, M, D, h, m, s⟩) hB2 Tryd.underlying23 rfl Tryd.sizeMo rfl) rfl ⟨Or.inr ⟨fun k => (by unfold RestOk at k; simp only at k; omega), rfl⟩, hb2⟩
        · go_simp
          refine hK _ _ ?_
          clear hK K
          refine wpAny_gen (fun W => Below w.heap.size w W ∧ Blk 23 W w.heap.size (Mo.cells ⟨y, M, D, h, m, s⟩) ∧ W.cell? ⟨p, 5, none⟩ = some (.int .i64 s)) ((HS _).out rfl) ?_
          rintro w2 ⟨hb2, hB2, c5'⟩
          refine wpAny_ready (rs := [26]) (by kernel_rfl) (by simp) ?_
          refine AllReady.cons rfl (fun K hK => ?_) AllReady.nil
          go_simp
          refine hK _ _ ?_
          clear hK K
          refine wpAny_ready (rs := [27]) (by kernel_rfl) (by simp) ?_
          refine AllReady.cons rfl (fun K hK => ?_) AllReady.nil
          go_simp
          refine hK _ _ ?_
          clear hK K
          refine wpAny_ready (rs := [29]) (by kernel_rfl) (by simp) ?_
          refine AllReady.cons rfl (fun K hK => ?_) AllReady.nil
          go_simp
          refine hK _ _ ?_
          clear hK K
          refine wpAny_done (by kernel_rfl) ?_ _
          go_wp2
          exact bodyPost_ret (results_blk2 rfl rfl (b := w.heap.size) (cs := Mo.cells ⟨y, M, D, h, m, s⟩) hB2 Tryd.underlying23 rfl Tryd.sizeMo rfl) rfl ⟨Or.inr ⟨fun k => (by unfold RestOk at k; simp only at k; omega), rfl⟩, hb2⟩
      · go_simp
        refine hK _ _ ?_
        clear hK K
        refine wpAny_gen (fun W => Below w.heap.size w W ∧ Blk 23 W w.heap.size (Mo.cells ⟨y, M, D, h, m, s⟩) ∧ W.cell? ⟨p, 5, none⟩ = some (.int .i64 s)) ((HS _).out rfl) ?_
        rintro w2 ⟨hb2, hB2, c5'⟩
        refine wpAny_ready (rs := [25]) (by kernel_rfl) (by simp) ?_
        refine AllReady.cons rfl (fun K hK => ?_) AllReady.nil
        go_simp
        refine hK _ _ ?_
        clear hK K
        refine wpAny_ready (rs := [26]) (by kernel_rfl) (by simp) ?_
        refine AllReady.cons rfl (fun K hK => ?_) AllReady.nil
        go_simp
        refine hK _ _ ?_
        clear hK K
        refine wpAny_ready (rs := [27]) (by kernel_rfl) (by simp) ?_
        refine AllReady.cons rfl (fun K hK => ?_) AllReady.nil
        go_simp
        refine hK _ _ ?_
        clear hK K
        refine wpAny_ready (rs := [29]) (by kernel_rfl) (by simp) ?_
        refine AllReady.cons rfl (fun K hK => ?_) AllReady.nil
        go_simp
        refine hK _ _ ?_
        clear hK K
        refine wpAny_done (by kernel_rfl) ?_ _
        go_wp2
        exact bodyPost_ret (results_blk2 rfl rfl (b := w.heap.size) (cs := Mo.cells ⟨y, M, D, h, m, s⟩) hB2 Tryd.underlying23 rfl Tryd.sizeMo rfl) rfl ⟨Or.inr ⟨fun k => (by unfold RestOk at k; simp only at k; omega), rfl⟩, hb2⟩
    · go_simp
      refine hK _ _ ?_
      clear hK K
      refine wpAny_gen (fun W => Below w.heap.size w W ∧ Blk 23 W w.heap.size (Mo.cells ⟨y, M, D, h, m, s⟩) ∧ W.cell? ⟨p, 5, none⟩ = some (.int .i64 s)) ((HS _).out rfl) ?_
      rintro w2 ⟨hb2, hB2, c5'⟩
      refine wpAny_ready (rs := [24]) (by kernel_rfl) (by simp) ?_
      refine AllReady.cons rfl (fun K hK => ?_) AllReady.nil
      go_simp
      refine hK _ _ ?_
      clear hK K
      refine wpAny_ready (rs := [25]) (by kernel_rfl) (by simp) ?_
      refine AllReady.cons rfl (fun K hK => ?_) AllReady.nil
      go_simp
      refine hK _ _ ?_
      clear hK K
      refine wpAny_ready (rs := [26]) (by kernel_rfl) (by simp) ?_
      refine AllReady.cons rfl (fun K hK => ?_) AllReady.nil
      go_simp
      refine hK _ _ ?_
      clear hK K
      refine wpAny_ready (rs := [27]) (by kernel_rfl) (by simp) ?_
      refine AllReady.cons rfl (fun K hK => ?_) AllReady.nil
      go_simp
      refine hK _ _ ?_
      clear hK K
      refine wpAny_ready (rs := [29]) (by kernel_rfl) (by simp) ?_
      refine AllReady.cons rfl (fun K hK => ?_) AllReady.nil
      go_simp
      refine hK _ _ ?_
      clear hK K
      refine wpAny_done (by kernel_rfl) ?_ _
      go_wp2
      exact bodyPost_ret (results_blk2 rfl rfl (b := w.heap.size) (cs := Mo.cells ⟨y, M, D, h, m, s⟩) hB2 Tryd.underlying23 rfl Tryd.sizeMo rfl) rfl ⟨Or.inr ⟨fun k => (by unfold RestOk at k; simp only at k; omega), rfl⟩, hb2⟩
  by_cases b3 : 0 ≤ h
  rotate_left
  · refine wp_region_s 0 28 (v := .agg #[.int .i64 y, .int .i64 M, .int .i64 D, .int .i64 h, .int .i64 m, .int .i64 s]) (by kernel_rfl) (by kernel_rfl) rfl (fun _ _ _ h => h) (Or.inl ⟨rfl, ?_⟩) ?_
    · go_simp
      try rfl
    refine wpS_one (j := 1) (by kernel_rfl) (by decide) rfl (fun K hK => ?_)
    go_simp
    refine hK _ ?_
    clear hK K
    refine wpS_one (j := 2) (by kernel_rfl) (by decide) rfl (fun K hK => ?_)
    go_simp
    refine hK _ ?_
    clear hK K
    refine wpS_one (j := 3) (by kernel_rfl) (by decide) rfl (fun K hK => ?_)
    go_simp
    refine hK _ ?_
    clear hK K
    refine wpS_one (j := 4) (by kernel_rfl) (by decide) rfl (fun K hK => ?_)
    go_simp
    refine hK _ ?_
    clear hK K
    refine wpS_one (j := 5) (by kernel_rfl) (by decide) rfl (fun K hK => ?_)
    go_simp
    refine hK _ ?_
    clear hK K
    refine wpS_one (j := 6) (by kernel_rfl) (by decide) rfl (fun K hK => ?_)
    go_simp
    refine hK _ ?_
    clear hK K
    refine wpS_one (j := 7) (by kernel_rfl) (by decide) rfl (fun K hK => ?_)
    go_simp
    refine hK _ ?_
    clear hK K
    refine wpS_one (j := 8) (by kernel_rfl) (by decide) rfl (fun K hK => ?_)
    go_simp
    refine hK _ ?_
    clear hK K
    refine wpS_one (j := 9) (by kernel_rfl) (by decide) rfl (fun K hK => ?_)
    go_simp
    refine hK _ ?_
    clear hK K
    refine wpS_one (j := 10) (by kernel_rfl) (by decide) rfl (fun K hK => ?_)
    go_simp
    refine hK _ ?_
    clear hK K
    refine wpS_one (j := 11) (by kernel_rfl) (by decide) rfl (fun K hK => ?_)
    go_simp
    refine hK _ ?_
    clear hK K
    refine wpS_one (j := 12) (by kernel_rfl) (by decide) rfl (fun K hK => ?_)
    go_simp
    refine hK _ ?_
    clear hK K
    refine wpS_one (j := 13) (by kernel_rfl) (by decide) rfl (fun K hK => ?_)
    go_simp
    refine hK _ ?_
    clear hK K
    refine wpS_one (j := 14) (by kernel_rfl) (by decide) rfl (fun K hK => ?_)
    go_simp
    refine hK _ ?_
    clear hK K
    refine wpS_one (j := 15) (by kernel_rfl) (by decide) rfl (fun K hK => ?_)
    go_simp
    refine hK _ ?_
    clear hK K
    refine wpS_one (j := 16) (by kernel_rfl) (by decide) rfl (fun K hK => ?_)
    go_simp
    refine hK _ ?_
    clear hK K
    refine wpS_one (j := 17) (by kernel_rfl) (by decide) rfl (fun K hK => ?_)
    go_simp
    refine hK _ ?_
    clear hK K
    refine wpS_one (j := 18) (by kernel_rfl) (by decide) rfl (fun K hK => ?_)
    go_simp
    refine hK _ ?_
    clear hK K
    refine wpS_one (j := 19) (by kernel_rfl) (by decide) rfl (fun K hK => ?_)
    go_simp
    refine hK _ ?_
    clear hK K
    refine wpS_one (j := 20) (by kernel_rfl) (by decide) rfl (fun K hK => ?_)
    go_simp
    refine hK _ ?_
    clear hK K
    refine wpS_one (j := 21) (by kernel_rfl) (by decide) rfl (fun K hK => ?_)
    go_simp
    refine hK _ ?_
    clear hK K
    refine wpS_one (j := 22) (by kernel_rfl) (by decide) rfl (fun K hK => ?_)
    go_simp
    refine hK _ ?_
    clear hK K
    refine wpS_one (j := 23) (by kernel_rfl) (by decide) rfl (fun K hK => ?_)
    go_simp
    refine hK _ ?_
    clear hK K
    refine wpS_two (j := 24) (k := 28) (by kernel_rfl) (by decide) (by decide) rfl rfl (fun K hK => ?_) (fun K hK => ?_)
    · go_simp
      refine hK _ ?_
      clear hK K
      refine wpS_two (j := 25) (k := 28) (by kernel_rfl) (by decide) (by decide) rfl rfl (fun K hK => ?_) (fun K hK => ?_)
      · go_simp
        refine hK _ ?_
        clear hK K
        refine wpS_two (j := 26) (k := 28) (by kernel_rfl) (by decide) (by decide) rfl rfl (fun K hK => ?_) (fun K hK => ?_)
        · go_simp
          refine hK _ ?_
          clear hK K
          refine wpS_two (j := 27) (k := 28) (by kernel_rfl) (by decide) (by decide) rfl rfl (fun K hK => ?_) (fun K hK => ?_)
          · go_simp
            refine hK _ ?_
            clear hK K
            refine wpS_late (k := 28) (by kernel_rfl) (by decide) rfl (fun K hK => ?_)
            go_simp
            refine hK _ _ ?_
            clear hK K
            refine wpAny_gen (fun W => Below w.heap.size w W ∧ Blk 23 W w.heap.size (Mo.cells ⟨y, M, D, h, m, s⟩) ∧ W.cell? ⟨p, 5, none⟩ = some (.int .i64 s)) ((HS _).out rfl) ?_
            rintro w2 ⟨hb2, hB2, c5'⟩
            refine wpAny_ready (rs := [29]) (by kernel_rfl) (by simp) ?_
            refine AllReady.cons rfl (fun K hK => ?_) AllReady.nil
            go_simp
            refine hK _ _ ?_
            clear hK K
            refine wpAny_done (by kernel_rfl) ?_ _
            go_wp2
            exact bodyPost_ret (results_blk2 rfl rfl (b := w.heap.size) (cs := Mo.cells ⟨y, M, D, h, m, s⟩) hB2 Tryd.underlying23 rfl Tryd.sizeMo rfl) rfl ⟨Or.inr ⟨fun k => (by unfold RestOk at k; simp only at k; omega), rfl⟩, hb2⟩
          · go_simp
            refine hK _ _ ?_
            clear hK K
            refine wpAny_gen (fun W => Below w.heap.size w W ∧ Blk 23 W w.heap.size (Mo.cells ⟨y, M, D, h, m, s⟩) ∧ W.cell? ⟨p, 5, none⟩ = some (.int .i64 s)) ((HS _).out rfl) ?_
            rintro w2 ⟨hb2, hB2, c5'⟩
            refine wpAny_ready (rs := [27]) (by kernel_rfl) (by simp) ?_
            refine AllReady.cons rfl (fun K hK => ?_) AllReady.nil
            go_simp
            refine hK _ _ ?_
            clear hK K
            refine wpAny_ready (rs := [29]) (by kernel_rfl) (by simp) ?_
            refine AllReady.cons rfl (fun K hK => ?_) AllReady.nil
            go_simp
            refine hK _ _ ?_
            clear hK K
            refine wpAny_done (by kernel_rfl) ?_ _
            go_wp2
            exact bodyPost_ret (results_blk2 rfl rfl (b := w.heap.size) (cs := Mo.cells ⟨y, M, D, h, m, s⟩) hB2 Tryd.underlying23 rfl Tryd.sizeMo rfl) rfl ⟨Or.inr ⟨fun k => (by unfold RestOk at k; simp only at k; omega), rfl⟩, hb2⟩
        · go_simp
          refine hK _ _ ?_
          clear hK K
          refine wpAny_gen (fun W => Below w.heap.size w W ∧ Blk 23 W w.heap.size (Mo.cells ⟨y, M, D, h, m, s⟩) ∧ W.cell? ⟨p, 5, none⟩ = some (.int .i64 s)) ((HS _).out rfl) ?_
          rintro w2 ⟨hb2, hB2, c5'⟩
          refine wpAny_ready (rs := [26]) (by kernel_rfl) (by simp) ?_
          refine AllReady.cons rfl (fun K hK => ?_) AllReady.nil
          go_simp
          refine hK _ _ ?_
          clear hK K
          refine wpAny_ready (rs := [27]) (by kernel_rfl) (by simp) ?_
          refine AllReady.cons rfl (fun K hK => ?_) AllReady.nil
          go_simp
          refine hK _ _ ?_
          clear hK K
          refine wpAny_ready (rs := [29]) (by kernel_rfl) (by simp) ?_
          refine AllReady.cons rfl (fun K hK => ?_) AllReady.nil
          go_simp
          refine hK _ _ ?_
          clear hK K
          refine wpAny_done (by kernel_rfl) ?_ _
          go_wp2
          exact bodyPost_ret (results_blk2 rfl rfl (b := w.heap.size) (cs := Mo.cells ⟨y, M, D, h, m, s⟩) hB2 Tryd.underlying23 rfl Tryd.sizeMo rfl) rfl ⟨Or.inr ⟨fun k => (by unfold RestOk at k; simp only at k; omega), rfl⟩, hb2⟩
      · go_simp
        refine hK _ _ ?_
        clear hK K
        refine wpAny_gen (fun W => Below w.heap.size w W ∧ Blk 23 W w.heap.size (Mo.cells ⟨y, M, D, h, m, s⟩) ∧ W.cell? ⟨p, 5, none⟩ = some (.int .i64 s)) ((HS _).out rfl) ?_
        rintro w2 ⟨hb2, hB2, c5'⟩
        refine wpAny_ready (rs := [25]) (by kernel_rfl) (by simp) ?_
        refine AllReady.cons rfl (fun K hK => ?_) AllReady.nil
        go_simp
        refine hK _ _ ?_
        clear hK K
        refine wpAny_ready (rs := [26]) (by kernel_rfl) (by simp) ?_
        refine AllReady.cons rfl (fun K hK => ?_) AllReady.nil
        go_simp
        refine hK _ _ ?_
        clear hK K
        refine wpAny_ready (rs := [27]) (by kernel_rfl) (by simp) ?_
        refine AllReady.cons rfl (fun K hK => ?_) AllReady.nil
        go_simp
        refine hK _ _ ?_
        clear hK K
        refine wpAny_ready (rs := [29]) (by kernel_rfl) (by simp) ?_
        refine AllReady.cons rfl (fun K hK => ?_) AllReady.nil
        go_simp
        refine hK _ _ ?_
        clear hK K
        refine wpAny_done (by kernel_rfl) ?_ _
        go_wp2
        exact bodyPost_ret (results_blk2 rfl rfl (b := w.heap.size) (cs := Mo.cells ⟨y, M, D, h, m, s⟩) hB2 Tryd.underlying23 rfl Tryd.sizeMo rfl) rfl ⟨Or.inr ⟨fun k => (by unfold RestOk at k; simp only at k; omega), rfl⟩, hb2⟩
    · go_simp
      refine hK _ _ ?_
      clear hK K
      refine wpAny_gen (fun W => Below w.heap.size w W ∧ Blk 23 W w.heap.size (Mo.cells ⟨y, M, D, h, m, s⟩) ∧ W.cell? ⟨p, 5, none⟩ = some (.int .i64 s)) ((HS _).out rfl) ?_
      rintro w2 ⟨hb2, hB2, c5'⟩
      refine wpAny_ready (rs := [24]) (by kernel_rfl) (by simp) ?_
      refine AllReady.cons rfl (fun K hK => ?_) AllReady.nil
      go_simp
      refine hK _ _ ?_
      clear hK K
      refine wpAny_ready (rs := [25]) (by kernel_rfl) (by simp) ?_
      refine AllReady.cons rfl (fun K hK => ?_) AllReady.nil
      go_simp
      refine hK _ _ ?_
      clear hK K
      refine wpAny_ready (rs := [26]) (by kernel_rfl) (by simp) ?_
      refine AllReady.cons rfl (fun K hK => ?_) AllReady.nil
      go_simp
      refine hK _ _ ?_
      clear hK K
      refine wpAny_ready (rs := [27]) (by kernel_rfl) (by simp) ?_
      refine AllReady.cons rfl (fun K hK => ?_) AllReady.nil
      go_simp
      refine hK _ _ ?_
      clear hK K
      refine wpAny_ready (rs := [29]) (by kernel_rfl) (by simp) ?_
      refine AllReady.cons rfl (fun K hK => ?_) AllReady.nil
      go_simp
      refine hK _ _ ?_
      clear hK K
      refine wpAny_done (by kernel_rfl) ?_ _
      go_wp2
      exact bodyPost_ret (results_blk2 rfl rfl (b := w.heap.size) (cs := Mo.cells ⟨y, M, D, h, m, s⟩) hB2 Tryd.underlying23 rfl Tryd.sizeMo rfl) rfl ⟨Or.inr ⟨fun k => (by unfold RestOk at k; simp only at k; omega), rfl⟩, hb2⟩
  by_cases b4 : 0 ≤ m
  rotate_left
  · refine wp_region_s 0 28 (v := .agg #[.int .i64 y, .int .i64 M, .int .i64 D, .int .i64 h, .int .i64 m, .int .i64 s]) (by kernel_rfl) (by kernel_rfl) rfl (fun _ _ _ h => h) (Or.inl ⟨rfl, ?_⟩) ?_
    · go_simp
      try rfl
    refine wpS_one (j := 1) (by kernel_rfl) (by decide) rfl (fun K hK => ?_)
    go_simp
    refine hK _ ?_
    clear hK K
    refine wpS_one (j := 2) (by kernel_rfl) (by decide) rfl (fun K hK => ?_)
    go_simp
    refine hK _ ?_
    clear hK K
    refine wpS_one (j := 3) (by kernel_rfl) (by decide) rfl (fun K hK => ?_)
    go_simp
    refine hK _ ?_
    clear hK K
    refine wpS_one (j := 4) (by kernel_rfl) (by decide) rfl (fun K hK => ?_)
    go_simp
    refine hK _ ?_
    clear hK K
    refine wpS_one (j := 5) (by kernel_rfl) (by decide) rfl (fun K hK => ?_)
    go_simp
    refine hK _ ?_
    clear hK K
    refine wpS_one (j := 6) (by kernel_rfl) (by decide) rfl (fun K hK => ?_)
    go_simp
    refine hK _ ?_
    clear hK K
    refine wpS_one (j := 7) (by kernel_rfl) (by decide) rfl (fun K hK => ?_)
    go_simp
    refine hK _ ?_
    clear hK K
    refine wpS_one (j := 8) (by kernel_rfl) (by decide) rfl (fun K hK => ?_)
    go_simp
    refine hK _ ?_
    clear hK K
    refine wpS_one (j := 9) (by kernel_rfl) (by decide) rfl (fun K hK => ?_)
    go_simp
    refine hK _ ?_
    clear hK K
    refine wpS_one (j := 10) (by kernel_rfl) (by decide) rfl (fun K hK => ?_)
    go_simp
    refine hK _ ?_
    clear hK K
    refine wpS_one (j := 11) (by kernel_rfl) (by decide) rfl (fun K hK => ?_)
    go_simp
    refine hK _ ?_
    clear hK K
    refine wpS_one (j := 12) (by kernel_rfl) (by decide) rfl (fun K hK => ?_)
    go_simp
    refine hK _ ?_
    clear hK K
    refine wpS_one (j := 13) (by kernel_rfl) (by decide) rfl (fun K hK => ?_)
    go_simp
    refine hK _ ?_
    clear hK K
    refine wpS_one (j := 14) (by kernel_rfl) (by decide) rfl (fun K hK => ?_)
    go_simp
    refine hK _ ?_
    clear hK K
    refine wpS_one (j := 15) (by kernel_rfl) (by decide) rfl (fun K hK => ?_)
    go_simp
    refine hK _ ?_
    clear hK K
    refine wpS_one (j := 16) (by kernel_rfl) (by decide) rfl (fun K hK => ?_)
    go_simp
    refine hK _ ?_
    clear hK K
    refine wpS_one (j := 17) (by kernel_rfl) (by decide) rfl (fun K hK => ?_)
    go_simp
    refine hK _ ?_
    clear hK K
    refine wpS_one (j := 18) (by kernel_rfl) (by decide) rfl (fun K hK => ?_)
    go_simp
    refine hK _ ?_
    clear hK K
    refine wpS_one (j := 19) (by kernel_rfl) (by decide) rfl (fun K hK => ?_)
    go_simp
    refine hK _ ?_
    clear hK K
    refine wpS_one (j := 20) (by kernel_rfl) (by decide) rfl (fun K hK => ?_)
    go_simp
    refine hK _ ?_
    clear hK K
    refine wpS_one (j := 21) (by kernel_rfl) (by decide) rfl (fun K hK => ?_)
    go_simp
    refine hK _ ?_
    clear hK K
    refine wpS_one (j := 22) (by kernel_rfl) (by decide) rfl (fun K hK => ?_)
    go_simp
    refine hK _ ?_
    clear hK K
    refine wpS_one (j := 23) (by kernel_rfl) (by decide) rfl (fun K hK => ?_)
    go_simp
    refine hK _ ?_
    clear hK K
    refine wpS_two (j := 24) (k := 28) (by kernel_rfl) (by decide) (by decide) rfl rfl (fun K hK => ?_) (fun K hK => ?_)
    · go_simp
      refine hK _ ?_
      clear hK K
      refine wpS_two (j := 25) (k := 28) (by kernel_rfl) (by decide) (by decide) rfl rfl (fun K hK => ?_) (fun K hK => ?_)
      · go_simp
        refine hK _ ?_
        clear hK K
        refine wpS_two (j := 26) (k := 28) (by kernel_rfl) (by decide) (by decide) rfl rfl (fun K hK => ?_) (fun K hK => ?_)
        · go_simp
          refine hK _ ?_
          clear hK K
          refine wpS_two (j := 27) (k := 28) (by kernel_rfl) (by decide) (by decide) rfl rfl (fun K hK => ?_) (fun K hK => ?_)
          · go_simp
            refine hK _ ?_
            clear hK K
            refine wpS_late (k := 28) (by kernel_rfl) (by decide) rfl (fun K hK => ?_)
            go_simp
            refine hK _ _ ?_
            clear hK K
            refine wpAny_gen (fun W => Below w.heap.size w W ∧ Blk 23 W w.heap.size (Mo.cells ⟨y, M, D, h, m, s⟩) ∧ W.cell? ⟨p, 5, none⟩ = some (.int .i64 s)) ((HS _).out rfl) ?_
            rintro w2 ⟨hb2, hB2, c5'⟩
            refine wpAny_ready (rs := [29]) (by kernel_rfl) (by simp) ?_
            refine AllReady.cons rfl (fun K hK => ?_) AllReady.nil
            go_simp
            refine hK _ _ ?_
            clear hK K
            refine wpAny_done (by kernel_rfl) ?_ _
            go_wp2
            exact bodyPost_ret (results_blk2 rfl rfl (b := w.heap.size) (cs := Mo.cells ⟨y, M, D, h, m, s⟩) hB2 Tryd.underlying23 rfl Tryd.sizeMo rfl) rfl ⟨Or.inr ⟨fun k => (by unfold RestOk at k; simp only at k; omega), rfl⟩, hb2⟩
          · go_simp
            refine hK _ _ ?_
            clear hK K
            refine wpAny_gen (fun W => Below w.heap.size w W ∧ Blk 23 W w.heap.size (Mo.cells ⟨y, M, D, h, m, s⟩) ∧ W.cell? ⟨p, 5, none⟩ = some (.int .i64 s)) ((HS _).out rfl) ?_
            rintro w2 ⟨hb2, hB2, c5'⟩
            refine wpAny_ready (rs := [27]) (by kernel_rfl) (by simp) ?_
            refine AllReady.cons rfl (fun K hK => ?_) AllReady.nil
            go_simp
            refine hK _ _ ?_
            clear hK K
            refine wpAny_ready (rs := [29]) (by kernel_rfl) (by simp) ?_
            refine AllReady.cons rfl (fun K hK => ?_) AllReady.nil
            go_simp
            refine hK _ _ ?_
            clear hK K
            refine wpAny_done (by kernel_rfl) ?_ _
            go_wp2
            exact bodyPost_ret (results_blk2 rfl rfl (b := w.heap.size) (cs := Mo.cells ⟨y, M, D, h, m, s⟩) hB2 Tryd.underlying23 rfl Tryd.sizeMo rfl) rfl ⟨Or.inr ⟨fun k => (by unfold RestOk at k; simp only at k; omega), rfl⟩, hb2⟩
        · go_simp
          refine hK _ _ ?_
          clear hK K
          refine wpAny_gen (fun W => Below w.heap.size w W ∧ Blk 23 W w.heap.size (Mo.cells ⟨y, M, D, h, m, s⟩) ∧ W.cell? ⟨p, 5, none⟩ = some (.int .i64 s)) ((HS _).out rfl) ?_
          rintro w2 ⟨hb2, hB2, c5'⟩
          refine wpAny_ready (rs := [26]) (by kernel_rfl) (by simp) ?_
          refine AllReady.cons rfl (fun K hK => ?_) AllReady.nil
          go_simp
          refine hK _ _ ?_
          clear hK K
          refine wpAny_ready (rs := [27]) (by kernel_rfl) (by simp) ?_
          refine AllReady.cons rfl (fun K hK => ?_) AllReady.nil
          go_simp
          refine hK _ _ ?_
          clear hK K
          refine wpAny_ready (rs := [29]) (by kernel_rfl) (by simp) ?_
          refine AllReady.cons rfl (fun K hK => ?_) AllReady.nil
          go_simp
          refine hK _ _ ?_
          clear hK K
          refine wpAny_done (by kernel_rfl) ?_ _
          go_wp2
          exact bodyPost_ret (results_blk2 rfl rfl (b := w.heap.size) (cs := Mo.cells ⟨y, M, D, h, m, s⟩) hB2 Tryd.underlying23 rfl Tryd.sizeMo rfl) rfl ⟨Or.inr ⟨fun k => (by unfold RestOk at k; simp only at k; omega), rfl⟩, hb2⟩
      · go_simp
        refine hK _ _ ?_
        clear hK K
        refine wpAny_gen (fun W => Below w.heap.size w W ∧ Blk 23 W w.heap.size (Mo.cells ⟨y, M, D, h, m, s⟩) ∧ W.cell? ⟨p, 5, none⟩ = some (.int .i64 s)) ((HS _).out rfl) ?_
        rintro w2 ⟨hb2, hB2, c5'⟩
        refine wpAny_ready (rs := [25]) (by kernel_rfl) (by simp) ?_
        refine AllReady.cons rfl (fun K hK => ?_) AllReady.nil
        go_simp
        refine hK _ _ ?_
        clear hK K
        refine wpAny_ready (rs := [26]) (by kernel_rfl) (by simp) ?_
        refine AllReady.cons rfl (fun K hK => ?_) AllReady.nil
        go_simp
        refine hK _ _ ?_
        clear hK K
        refine wpAny_ready (rs := [27]) (by kernel_rfl) (by simp) ?_
        refine AllReady.cons rfl (fun K hK => ?_) AllReady.nil
        go_simp
        refine hK _ _ ?_
        clear hK K
        refine wpAny_ready (rs := [29]) (by kernel_rfl) (by simp) ?_
        refine AllReady.cons rfl (fun K hK => ?_) AllReady.nil
        go_simp
        refine hK _ _ ?_
        clear hK K
        refine wpAny_done (by kernel_rfl) ?_ _
        go_wp2
        exact bodyPost_ret (results_blk2 rfl rfl (b := w.heap.size) (cs := Mo.cells ⟨y, M, D, h, m, s⟩) hB2 Tryd.underlying23 rfl Tryd.sizeMo rfl) rfl ⟨Or.inr ⟨fun k => (by unfold RestOk at k; simp only at k; omega), rfl⟩, hb2⟩
    · go_simp
      refine hK _ _ ?_
      clear hK K
      refine wpAny_gen (fun W => Below w.heap.size w W ∧ Blk 23 W w.heap.size (Mo.cells ⟨y, M, D, h, m, s⟩) ∧ W.cell? ⟨p, 5, none⟩ = some (.int .i64 s)) ((HS _).out rfl) ?_
      rintro w2 ⟨hb2, hB2, c5'⟩
      refine wpAny_ready (rs := [24]) (by kernel_rfl) (by simp) ?_
      refine AllReady.cons rfl (fun K hK => ?_) AllReady.nil
      go_simp
      refine hK _ _ ?_
      clear hK K
      refine wpAny_ready (rs := [25]) (by kernel_rfl) (by simp) ?_
      refine AllReady.cons rfl (fun K hK => ?_) AllReady.nil
      go_simp
      refine hK _ _ ?_
      clear hK K
      refine wpAny_ready (rs := [26]) (by kernel_rfl) (by simp) ?_
      refine AllReady.cons rfl (fun K hK => ?_) AllReady.nil
      go_simp
      refine hK _ _ ?_
      clear hK K
      refine wpAny_ready (rs := [27]) (by kernel_rfl) (by simp) ?_
      refine AllReady.cons rfl (fun K hK => ?_) AllReady.nil
      go_simp
      refine hK _ _ ?_
      clear hK K
      refine wpAny_ready (rs := [29]) (by kernel_rfl) (by simp) ?_
      refine AllReady.cons rfl (fun K hK => ?_) AllReady.nil
      go_simp
      refine hK _ _ ?_
      clear hK K
      refine wpAny_done (by kernel_rfl) ?_ _
      go_wp2
      exact bodyPost_ret (results_blk2 rfl rfl (b := w.heap.size) (cs := Mo.cells ⟨y, M, D, h, m, s⟩) hB2 Tryd.underlying23 rfl Tryd.sizeMo rfl) rfl ⟨Or.inr ⟨fun k => (by unfold RestOk at k; simp only at k; omega), rfl⟩, hb2⟩
  by_cases b5 : 0 ≤ s
  rotate_left
  · refine wp_region_s 0 28 (v := .agg #[.int .i64 y, .int .i64 M, .int .i64 D, .int .i64 h, .int .i64 m, .int .i64 s]) (by kernel_rfl) (by kernel_rfl) rfl (fun _ _ _ h => h) (Or.inl ⟨rfl, ?_⟩) ?_
    · go_simp
      try rfl
    refine wpS_one (j := 1) (by kernel_rfl) (by decide) rfl (fun K hK => ?_)
    go_simp
    refine hK _ ?_
    clear hK K
    refine wpS_one (j := 2) (by kernel_rfl) (by decide) rfl (fun K hK => ?_)
    go_simp
    refine hK _ ?_
    clear hK K
    refine wpS_one (j := 3) (by kernel_rfl) (by decide) rfl (fun K hK => ?_)
    go_simp
    refine hK _ ?_
    clear hK K
    refine wpS_one (j := 4) (by kernel_rfl) (by decide) rfl (fun K hK => ?_)
    go_simp
    refine hK _ ?_
    clear hK K
    refine wpS_one (j := 5) (by kernel_rfl) (by decide) rfl (fun K hK => ?_)
    go_simp
    refine hK _ ?_
    clear hK K
    refine wpS_one (j := 6) (by kernel_rfl) (by decide) rfl (fun K hK => ?_)
    go_simp
    refine hK _ ?_
    clear hK K
    refine wpS_one (j := 7) (by kernel_rfl) (by decide) rfl (fun K hK => ?_)
    go_simp
    refine hK _ ?_
    clear hK K
    refine wpS_one (j := 8) (by kernel_rfl) (by decide) rfl (fun K hK => ?_)
    go_simp
    refine hK _ ?_
    clear hK K
    refine wpS_one (j := 9) (by kernel_rfl) (by decide) rfl (fun K hK => ?_)
    go_simp
    refine hK _ ?_
    clear hK K
    refine wpS_one (j := 10) (by kernel_rfl) (by decide) rfl (fun K hK => ?_)
    go_simp
    refine hK _ ?_
    clear hK K
    refine wpS_one (j := 11) (by kernel_rfl) (by decide) rfl (fun K hK => ?_)
    go_simp
    refine hK _ ?_
    clear hK K
    refine wpS_one (j := 12) (by kernel_rfl) (by decide) rfl (fun K hK => ?_)
    go_simp
    refine hK _ ?_
    clear hK K
    refine wpS_one (j := 13) (by kernel_rfl) (by decide) rfl (fun K hK => ?_)
    go_simp
    refine hK _ ?_
    clear hK K
    refine wpS_one (j := 14) (by kernel_rfl) (by decide) rfl (fun K hK => ?_)
    go_simp
    refine hK _ ?_
    clear hK K
    refine wpS_one (j := 15) (by kernel_rfl) (by decide) rfl (fun K hK => ?_)
    go_simp
    refine hK _ ?_
    clear hK K
    refine wpS_one (j := 16) (by kernel_rfl) (by decide) rfl (fun K hK => ?_)
    go_simp
    refine hK _ ?_
    clear hK K
    refine wpS_one (j := 17) (by kernel_rfl) (by decide) rfl (fun K hK => ?_)
    go_simp
    refine hK _ ?_
    clear hK K
    refine wpS_one (j := 18) (by kernel_rfl) (by decide) rfl (fun K hK => ?_)
    go_simp
    refine hK _ ?_
    clear hK K
    refine wpS_one (j := 19) (by kernel_rfl) (by decide) rfl (fun K hK => ?_)
    go_simp
    refine hK _ ?_
    clear hK K
    refine wpS_one (j := 20) (by kernel_rfl) (by decide) rfl (fun K hK => ?_)
    go_simp
    refine hK _ ?_
    clear hK K
    refine wpS_one (j := 21) (by kernel_rfl) (by decide) rfl (fun K hK => ?_)
    go_simp
    refine hK _ ?_
    clear hK K
    refine wpS_one (j := 22) (by kernel_rfl) (by decide) rfl (fun K hK => ?_)
    go_simp
    refine hK _ ?_
    clear hK K
    refine wpS_one (j := 23) (by kernel_rfl) (by decide) rfl (fun K hK => ?_)
    go_simp
    refine hK _ ?_
    clear hK K
    refine wpS_two (j := 24) (k := 28) (by kernel_rfl) (by decide) (by decide) rfl rfl (fun K hK => ?_) (fun K hK => ?_)
    · go_simp
      refine hK _ ?_
      clear hK K
      refine wpS_two (j := 25) (k := 28) (by kernel_rfl) (by decide) (by decide) rfl rfl (fun K hK => ?_) (fun K hK => ?_)
      · go_simp
        refine hK _ ?_
        clear hK K
        refine wpS_two (j := 26) (k := 28) (by kernel_rfl) (by decide) (by decide) rfl rfl (fun K hK => ?_) (fun K hK => ?_)
        · go_simp
          refine hK _ ?_
          clear hK K
          refine wpS_two (j := 27) (k := 28) (by kernel_rfl) (by decide) (by decide) rfl rfl (fun K hK => ?_) (fun K hK => ?_)
          · go_simp
            refine hK _ ?_
            clear hK K
            refine wpS_late (k := 28) (by kernel_rfl) (by decide) rfl (fun K hK => ?_)
            go_simp
            refine hK _ _ ?_
            clear hK K
            refine wpAny_gen (fun W => Below w.heap.size w W ∧ Blk 23 W w.heap.size (Mo.cells ⟨y, M, D, h, m, s⟩) ∧ W.cell? ⟨p, 5, none⟩ = some (.int .i64 s)) ((HS _).out rfl) ?_
            rintro w2 ⟨hb2, hB2, c5'⟩
            refine wpAny_ready (rs := [29]) (by kernel_rfl) (by simp) ?_
            refine AllReady.cons rfl (fun K hK => ?_) AllReady.nil
            go_simp
            refine hK _ _ ?_
            clear hK K
            refine wpAny_done (by kernel_rfl) ?_ _
            go_wp2
            exact bodyPost_ret (results_blk2 rfl rfl (b := w.heap.size) (cs := Mo.cells ⟨y, M, D, h, m, s⟩) hB2 Tryd.underlying23 rfl Tryd.sizeMo rfl) rfl ⟨Or.inr ⟨fun k => (by unfold RestOk at k; simp only at k; omega), rfl⟩, hb2⟩
          · go_simp
            refine hK _ _ ?_
            clear hK K
            refine wpAny_gen (fun W => Below w.heap.size w W ∧ Blk 23 W w.heap.size (Mo.cells ⟨y, M, D, h, m, s⟩) ∧ W.cell? ⟨p, 5, none⟩ = some (.int .i64 s)) ((HS _).out rfl) ?_
            rintro w2 ⟨hb2, hB2, c5'⟩
            refine wpAny_ready (rs := [27]) (by kernel_rfl) (by simp) ?_
            refine AllReady.cons rfl (fun K hK => ?_) AllReady.nil
            go_simp
            refine hK _ _ ?_
            clear hK K
            refine wpAny_ready (rs := [29]) (by kernel_rfl) (by simp) ?_
            refine AllReady.cons rfl (fun K hK => ?_) AllReady.nil
            go_simp
            refine hK _ _ ?_
            clear hK K
            refine wpAny_done (by kernel_rfl) ?_ _
            go_wp2
            exact bodyPost_ret (results_blk2 rfl rfl (b := w.heap.size) (cs := Mo.cells ⟨y, M, D, h, m, s⟩) hB2 Tryd.underlying23 rfl Tryd.sizeMo rfl) rfl ⟨Or.inr ⟨fun k => (by unfold RestOk at k; simp only at k; omega), rfl⟩, hb2⟩
        · go_simp
          refine hK _ _ ?_
          clear hK K
          refine wpAny_gen (fun W => Below w.heap.size w W ∧ Blk 23 W w.heap.size (Mo.cells ⟨y, M, D, h, m, s⟩) ∧ W.cell? ⟨p, 5, none⟩ = some (.int .i64 s)) ((HS _).out rfl) ?_
          rintro w2 ⟨hb2, hB2, c5'⟩
          refine wpAny_ready (rs := [26]) (by kernel_rfl) (by simp) ?_
          refine AllReady.cons rfl (fun K hK => ?_) AllReady.nil
          go_simp
          refine hK _ _ ?_
          clear hK K
          refine wpAny_ready (rs := [27]) (by kernel_rfl) (by simp) ?_
          refine AllReady.cons rfl (fun K hK => ?_) AllReady.nil
          go_simp
          refine hK _ _ ?_
          clear hK K
          refine wpAny_ready (rs := [29]) (by kernel_rfl) (by simp) ?_
          refine AllReady.cons rfl (fun K hK => ?_) AllReady.nil
          go_simp
          refine hK _ _ ?_
          clear hK K
          refine wpAny_done (by kernel_rfl) ?_ _
          go_wp2
          exact bodyPost_ret (results_blk2 rfl rfl (b := w.heap.size) (cs := Mo.cells ⟨y, M, D, h, m, s⟩) hB2 Tryd.underlying23 rfl Tryd.sizeMo rfl) rfl ⟨Or.inr ⟨fun k => (by unfold RestOk at k; simp only at k; omega), rfl⟩, hb2⟩
      · go_simp
        refine hK _ _ ?_
        clear hK K
        refine wpAny_gen (fun W => Below w.heap.size w W ∧ Blk 23 W w.heap.size (Mo.cells ⟨y, M, D, h, m, s⟩) ∧ W.cell? ⟨p, 5, none⟩ = some (.int .i64 s)) ((HS _).out rfl) ?_
        rintro w2 ⟨hb2, hB2, c5'⟩
        refine wpAny_ready (rs := [25]) (by kernel_rfl) (by simp) ?_
        refine AllReady.cons rfl (fun K hK => ?_) AllReady.nil
        go_simp
        refine hK _ _ ?_
        clear hK K
        refine wpAny_ready (rs := [26]) (by kernel_rfl) (by simp) ?_
        refine AllReady.cons rfl (fun K hK => ?_) AllReady.nil
        go_simp
        refine hK _ _ ?_
        clear hK K
        refine wpAny_ready (rs := [27]) (by kernel_rfl) (by simp) ?_
        refine AllReady.cons rfl (fun K hK => ?_) AllReady.nil
        go_simp
        refine hK _ _ ?_
        clear hK K
        refine wpAny_ready (rs := [29]) (by kernel_rfl) (by simp) ?_
        refine AllReady.cons rfl (fun K hK => ?_) AllReady.nil
        go_simp
        refine hK _ _ ?_
        clear hK K
        refine wpAny_done (by kernel_rfl) ?_ _
        go_wp2
        exact bodyPost_ret (results_blk2 rfl rfl (b := w.heap.size) (cs := Mo.cells ⟨y, M, D, h, m, s⟩) hB2 Tryd.underlying23 rfl Tryd.sizeMo rfl) rfl ⟨Or.inr ⟨fun k => (by unfold RestOk at k; simp only at k; omega), rfl⟩, hb2⟩
    · go_simp
      refine hK _ _ ?_
      clear hK K
      refine wpAny_gen (fun W => Below w.heap.size w W ∧ Blk 23 W w.heap.size (Mo.cells ⟨y, M, D, h, m, s⟩) ∧ W.cell? ⟨p, 5, none⟩ = some (.int .i64 s)) ((HS _).out rfl) ?_
      rintro w2 ⟨hb2, hB2, c5'⟩
      refine wpAny_ready (rs := [24]) (by kernel_rfl) (by simp) ?_
      refine AllReady.cons rfl (fun K hK => ?_) AllReady.nil
      go_simp
      refine hK _ _ ?_
      clear hK K
      refine wpAny_ready (rs := [25]) (by kernel_rfl) (by simp) ?_
      refine AllReady.cons rfl (fun K hK => ?_) AllReady.nil
      go_simp
      refine hK _ _ ?_
      clear hK K
      refine wpAny_ready (rs := [26]) (by kernel_rfl) (by simp) ?_
      refine AllReady.cons rfl (fun K hK => ?_) AllReady.nil
      go_simp
      refine hK _ _ ?_
      clear hK K
      refine wpAny_ready (rs := [27]) (by kernel_rfl) (by simp) ?_
      refine AllReady.cons rfl (fun K hK => ?_) AllReady.nil
      go_simp
      refine hK _ _ ?_
      clear hK K
      refine wpAny_ready (rs := [29]) (by kernel_rfl) (by simp) ?_
      refine AllReady.cons rfl (fun K hK => ?_) AllReady.nil
      go_simp
      refine hK _ _ ?_
      clear hK K
      refine wpAny_done (by kernel_rfl) ?_ _
      go_wp2
      exact bodyPost_ret (results_blk2 rfl rfl (b := w.heap.size) (cs := Mo.cells ⟨y, M, D, h, m, s⟩) hB2 Tryd.underlying23 rfl Tryd.sizeMo rfl) rfl ⟨Or.inr ⟨fun k => (by unfold RestOk at k; simp only at k; omega), rfl⟩, hb2⟩
  refine wp_region_s 0 28 (v := .agg #[.int .i64 y, .int .i64 M, .int .i64 D, .int .i64 h, .int .i64 m, .int .i64 s]) (by kernel_rfl) (by kernel_rfl) rfl (fun _ _ _ h => h) (Or.inl ⟨rfl, ?_⟩) ?_
  · go_simp
    try rfl
  refine wpS_one (j := 1) (by kernel_rfl) (by decide) rfl (fun K hK => ?_)
  go_simp
  refine hK _ ?_
  clear hK K
  refine wpS_one (j := 2) (by kernel_rfl) (by decide) rfl (fun K hK => ?_)
  go_simp
  refine hK _ ?_
  clear hK K
  refine wpS_one (j := 3) (by kernel_rfl) (by decide) rfl (fun K hK => ?_)
  go_simp
  refine hK _ ?_
  clear hK K
  refine wpS_one (j := 4) (by kernel_rfl) (by decide) rfl (fun K hK => ?_)
  go_simp
  refine hK _ ?_
  clear hK K
  refine wpS_one (j := 5) (by kernel_rfl) (by decide) rfl (fun K hK => ?_)
  go_simp
  refine hK _ ?_
  clear hK K
  refine wpS_one (j := 6) (by kernel_rfl) (by decide) rfl (fun K hK => ?_)
  go_simp
  refine hK _ ?_
  clear hK K
  refine wpS_one (j := 7) (by kernel_rfl) (by decide) rfl (fun K hK => ?_)
  go_simp
  refine hK _ ?_
  clear hK K
  refine wpS_one (j := 8) (by kernel_rfl) (by decide) rfl (fun K hK => ?_)
  go_simp
  refine hK _ ?_
  clear hK K
  refine wpS_one (j := 9) (by kernel_rfl) (by decide) rfl (fun K hK => ?_)
  go_simp
  refine hK _ ?_
  clear hK K
  refine wpS_one (j := 10) (by kernel_rfl) (by decide) rfl (fun K hK => ?_)
  go_simp
  refine hK _ ?_
  clear hK K
  refine wpS_one (j := 11) (by kernel_rfl) (by decide) rfl (fun K hK => ?_)
  go_simp
  refine hK _ ?_
  clear hK K
  refine wpS_one (j := 12) (by kernel_rfl) (by decide) rfl (fun K hK => ?_)
  go_simp
  refine hK _ ?_
  clear hK K
  refine wpS_one (j := 13) (by kernel_rfl) (by decide) rfl (fun K hK => ?_)
  go_simp
  refine hK _ ?_
  clear hK K
  refine wpS_one (j := 14) (by kernel_rfl) (by decide) rfl (fun K hK => ?_)
  go_simp
  refine hK _ ?_
  clear hK K
  refine wpS_one (j := 15) (by kernel_rfl) (by decide) rfl (fun K hK => ?_)
  go_simp
  refine hK _ ?_
  clear hK K
  refine wpS_one (j := 16) (by kernel_rfl) (by decide) rfl (fun K hK => ?_)
  go_simp
  refine hK _ ?_
  clear hK K
  refine wpS_one (j := 17) (by kernel_rfl) (by decide) rfl (fun K hK => ?_)
  go_simp
  refine hK _ ?_
  clear hK K
  refine wpS_one (j := 18) (by kernel_rfl) (by decide) rfl (fun K hK => ?_)
  go_simp
  refine hK _ ?_
  clear hK K
  refine wpS_one (j := 19) (by kernel_rfl) (by decide) rfl (fun K hK => ?_)
  go_simp
  refine hK _ ?_
  clear hK K
  refine wpS_one (j := 20) (by kernel_rfl) (by decide) rfl (fun K hK => ?_)
  go_simp
  refine hK _ ?_
  clear hK K
  refine wpS_one (j := 21) (by kernel_rfl) (by decide) rfl (fun K hK => ?_)
  go_simp
  refine hK _ ?_
  clear hK K
  refine wpS_one (j := 22) (by kernel_rfl) (by decide) rfl (fun K hK => ?_)
  go_simp
  refine hK _ ?_
  clear hK K
  refine wpS_one (j := 23) (by kernel_rfl) (by decide) rfl (fun K hK => ?_)
  go_simp
  refine hK _ ?_
  clear hK K
  refine wpS_two (j := 24) (k := 28) (by kernel_rfl) (by decide) (by decide) rfl rfl (fun K hK => ?_) (fun K hK => ?_)
  · go_simp
    refine hK _ ?_
    clear hK K
    refine wpS_two (j := 25) (k := 28) (by kernel_rfl) (by decide) (by decide) rfl rfl (fun K hK => ?_) (fun K hK => ?_)
    · go_simp
      refine hK _ ?_
      clear hK K
      refine wpS_two (j := 26) (k := 28) (by kernel_rfl) (by decide) (by decide) rfl rfl (fun K hK => ?_) (fun K hK => ?_)
      · go_simp
        refine hK _ ?_
        clear hK K
        refine wpS_two (j := 27) (k := 28) (by kernel_rfl) (by decide) (by decide) rfl rfl (fun K hK => ?_) (fun K hK => ?_)
        · go_simp
          refine hK _ ?_
          clear hK K
          refine wpS_late (k := 28) (by kernel_rfl) (by decide) rfl (fun K hK => ?_)
          go_simp
          refine hK _ _ ?_
          clear hK K
          refine wpAny_gen (fun W => Below w.heap.size w W ∧ Blk 23 W w.heap.size (Mo.cells ⟨y, M, D, h, m, s⟩) ∧ W.cell? ⟨p, 5, none⟩ = some (.int .i64 s)) ((HS _).out rfl) ?_
          rintro w2 ⟨hb2, hB2, c5'⟩
          refine wpAny_ready (rs := [29]) (by kernel_rfl) (by simp) ?_
          refine AllReady.cons rfl (fun K hK => ?_) AllReady.nil
          go_simp
          refine hK _ _ ?_
          clear hK K
          refine wpAny_done (by kernel_rfl) ?_ _
          go_wp2
          exact bodyPost_ret (results_blk2 rfl rfl (b := w.heap.size) (cs := Mo.cells ⟨y, M, D, h, m, s⟩) hB2 Tryd.underlying23 rfl Tryd.sizeMo rfl) rfl ⟨Or.inl ⟨⟨b0, b1, b2, b3, b4, b5⟩, rfl⟩, hb2⟩
        · go_simp
          refine hK _ _ ?_
          clear hK K
          refine wpAny_gen (fun W => Below w.heap.size w W ∧ Blk 23 W w.heap.size (Mo.cells ⟨y, M, D, h, m, s⟩) ∧ W.cell? ⟨p, 5, none⟩ = some (.int .i64 s)) ((HS _).out rfl) ?_
          rintro w2 ⟨hb2, hB2, c5'⟩
          refine wpAny_ready (rs := [27]) (by kernel_rfl) (by simp) ?_
          refine AllReady.cons rfl (fun K hK => ?_) AllReady.nil
          go_simp
          refine hK _ _ ?_
          clear hK K
          refine wpAny_ready (rs := [29]) (by kernel_rfl) (by simp) ?_
          refine AllReady.cons rfl (fun K hK => ?_) AllReady.nil
          go_simp
          refine hK _ _ ?_
          clear hK K
          refine wpAny_done (by kernel_rfl) ?_ _
          go_wp2
          exact bodyPost_ret (results_blk2 rfl rfl (b := w.heap.size) (cs := Mo.cells ⟨y, M, D, h, m, s⟩) hB2 Tryd.underlying23 rfl Tryd.sizeMo rfl) rfl ⟨Or.inl ⟨⟨b0, b1, b2, b3, b4, b5⟩, rfl⟩, hb2⟩
      · go_simp
        refine hK _ _ ?_
        clear hK K
        refine wpAny_gen (fun W => Below w.heap.size w W ∧ Blk 23 W w.heap.size (Mo.cells ⟨y, M, D, h, m, s⟩) ∧ W.cell? ⟨p, 5, none⟩ = some (.int .i64 s)) ((HS _).out rfl) ?_
        rintro w2 ⟨hb2, hB2, c5'⟩
        refine wpAny_ready (rs := [26]) (by kernel_rfl) (by simp) ?_
        refine AllReady.cons rfl (fun K hK => ?_) AllReady.nil
        go_simp
        refine hK _ _ ?_
        clear hK K
        refine wpAny_ready (rs := [27]) (by kernel_rfl) (by simp) ?_
        refine AllReady.cons rfl (fun K hK => ?_) AllReady.nil
        go_simp
        refine hK _ _ ?_
        clear hK K
        refine wpAny_ready (rs := [29]) (by kernel_rfl) (by simp) ?_
        refine AllReady.cons rfl (fun K hK => ?_) AllReady.nil
        go_simp
        refine hK _ _ ?_
        clear hK K
        refine wpAny_done (by kernel_rfl) ?_ _
        go_wp2
        exact bodyPost_ret (results_blk2 rfl rfl (b := w.heap.size) (cs := Mo.cells ⟨y, M, D, h, m, s⟩) hB2 Tryd.underlying23 rfl Tryd.sizeMo rfl) rfl ⟨Or.inl ⟨⟨b0, b1, b2, b3, b4, b5⟩, rfl⟩, hb2⟩
    · go_simp
      refine hK _ _ ?_
      clear hK K
      refine wpAny_gen (fun W => Below w.heap.size w W ∧ Blk 23 W w.heap.size (Mo.cells ⟨y, M, D, h, m, s⟩) ∧ W.cell? ⟨p, 5, none⟩ = some (.int .i64 s)) ((HS _).out rfl) ?_
      rintro w2 ⟨hb2, hB2, c5'⟩
      refine wpAny_ready (rs := [25]) (by kernel_rfl) (by simp) ?_
      refine AllReady.cons rfl (fun K hK => ?_) AllReady.nil
      go_simp
      refine hK _ _ ?_
      clear hK K
      refine wpAny_ready (rs := [26]) (by kernel_rfl) (by simp) ?_
      refine AllReady.cons rfl (fun K hK => ?_) AllReady.nil
      go_simp
      refine hK _ _ ?_
      clear hK K
      refine wpAny_ready (rs := [27]) (by kernel_rfl) (by simp) ?_
      refine AllReady.cons rfl (fun K hK => ?_) AllReady.nil
      go_simp
      refine hK _ _ ?_
      clear hK K
      refine wpAny_ready (rs := [29]) (by kernel_rfl) (by simp) ?_
      refine AllReady.cons rfl (fun K hK => ?_) AllReady.nil
      go_simp
      refine hK _ _ ?_
      clear hK K
      refine wpAny_done (by kernel_rfl) ?_ _
      go_wp2
      exact bodyPost_ret (results_blk2 rfl rfl (b := w.heap.size) (cs := Mo.cells ⟨y, M, D, h, m, s⟩) hB2 Tryd.underlying23 rfl Tryd.sizeMo rfl) rfl ⟨Or.inl ⟨⟨b0, b1, b2, b3, b4, b5⟩, rfl⟩, hb2⟩
  · go_simp
    refine hK _ _ ?_
    clear hK K
    refine wpAny_gen (fun W => Below w.heap.size w W ∧ Blk 23 W w.heap.size (Mo.cells ⟨y, M, D, h, m, s⟩) ∧ W.cell? ⟨p, 5, none⟩ = some (.int .i64 s)) ((HS _).out rfl) ?_
    rintro w2 ⟨hb2, hB2, c5'⟩
    refine wpAny_ready (rs := [24]) (by kernel_rfl) (by simp) ?_
    refine AllReady.cons rfl (fun K hK => ?_) AllReady.nil
    go_simp
    refine hK _ _ ?_
    clear hK K
    refine wpAny_ready (rs := [25]) (by kernel_rfl) (by simp) ?_
    refine AllReady.cons rfl (fun K hK => ?_) AllReady.nil
    go_simp
    refine hK _ _ ?_
    clear hK K
    refine wpAny_ready (rs := [26]) (by kernel_rfl) (by simp) ?_
    refine AllReady.cons rfl (fun K hK => ?_) AllReady.nil
    go_simp
    refine hK _ _ ?_
    clear hK K
    refine wpAny_ready (rs := [27]) (by kernel_rfl) (by simp) ?_
    refine AllReady.cons rfl (fun K hK => ?_) AllReady.nil
    go_simp
    refine hK _ _ ?_
    clear hK K
    refine wpAny_ready (rs := [29]) (by kernel_rfl) (by simp) ?_
    refine AllReady.cons rfl (fun K hK => ?_) AllReady.nil
    go_simp
    refine hK _ _ ?_
    clear hK K
    refine wpAny_done (by kernel_rfl) ?_ _
    go_wp2
    exact bodyPost_ret (results_blk2 rfl rfl (b := w.heap.size) (cs := Mo.cells ⟨y, M, D, h, m, s⟩) hB2 Tryd.underlying23 rfl Tryd.sizeMo rfl) rfl ⟨Or.inl ⟨⟨b0, b1, b2, b3, b4, b5⟩, rfl⟩, hb2⟩
theorem rest_all : RestC := fun _ a L c X hX hL hU hl i hi y => rest_any a L c X hX hL hU hl i hi y
end Go.Proofs.YtnaiialcjimhbaaDoor
