/-
  Policy: the reference's Put.
-/
import Derived.Test.YtkjdihikcgpababDoorK14
namespace Go.Proofs.YtkjdihikcgpababDoor
open Go.RowKit Go.Sort Go.Lib
/-- Two stores, s ahead of t: what holds ahead of both, between them, behind both. -/
def St2 (s t : Nat) (A B C : World → Prop) (L : Array Bool) (W : World) : Prop := (¬ Up L s → A W) ∧ (Up L s → ¬ Up L t → B W) ∧ (Up L t → C W)
theorem up_setP {L : Array Bool} {i q : Nat} (h : i ≠ q) : Up (L.setIfInBounds i true) q ↔ Up L q := by unfold Up; rw [getD_setB (Ne.symm h)]
theorem up_sameP {L : Array Bool} {i : Nat} (h : i < L.size) : Up (L.setIfInBounds i true) i := by unfold Up; simp [Array.getD, h]
theorem St2.start {s t n : Nat} {A B C : World → Prop} {W : World} (h : A W) : St2 s t A B C (Array.replicate n false) W := ⟨fun _ => h, fun u => absurd u not_up_new, fun u => absurd u not_up_new⟩
theorem St2.other {s t i : Nat} {A B C : World → Prop} {L : Array Bool} {W : World} (h : St2 s t A B C L W) (hs : i ≠ s) (ht : i ≠ t) : St2 s t A B C (L.setIfInBounds i true) W :=
  ⟨fun u => h.1 (fun u' => u ((up_setP hs).2 u')), fun u u2 => h.2.1 ((up_setP hs).1 u) (fun u' => u2 ((up_setP ht).2 u')), fun u => h.2.2 ((up_setP ht).1 u)⟩
theorem St2.first {s t : Nat} {A B C : World → Prop} {L : Array Bool} {W W' : World} (_h : St2 s t A B C L W) (_hno : ¬ Up L s) (hnt : ¬ Up L t) (hs : s < L.size) (hne : s ≠ t) (hB : B W') : St2 s t A B C (L.setIfInBounds s true) W' :=
  ⟨fun u => absurd (up_sameP hs) u, fun _ _ => hB, fun u => absurd ((up_setP hne).1 u) hnt⟩
theorem St2.second {s t : Nat} {A B C : World → Prop} {L : Array Bool} {W W' : World} (_h : St2 s t A B C L W) (_hno : ¬ Up L t) (ht : t < L.size) (_hne : s ≠ t) (hC : C W') (hs : Up L s) : St2 s t A B C (L.setIfInBounds t true) W' :=
  ⟨fun u => absurd ((up_setP (Ne.symm _hne)).2 hs) u, fun _ u => absurd (up_sameP ht) u, fun _ => hC⟩
theorem frG18_3fffa {ops : Array Oper} {V : Nat → Value} {t : Array Value} {d0 d1 d2 d3 d4 d5 d6 d7 d8 d9 d10 d11 d12 d13 d14 d16 : Nat} (hs : ops.size = 18) (h0 : dstOf ops 0 = some d0) (h1 : dstOf ops 1 = some d1) (h2 : dstOf ops 2 = some d2) (h3 : dstOf ops 3 = some d3) (h4 : dstOf ops 4 = some d4) (h5 : dstOf ops 5 = some d5) (h6 : dstOf ops 6 = some d6) (h7 : dstOf ops 7 = some d7) (h8 : dstOf ops 8 = some d8) (h9 : dstOf ops 9 = some d9) (h10 : dstOf ops 10 = some d10) (h11 : dstOf ops 11 = some d11) (h12 : dstOf ops 12 = some d12) (h13 : dstOf ops 13 = some d13) (h14 : dstOf ops 14 = some d14) (h15 : dstOf ops 15 = none) (h16 : dstOf ops 16 = some d16) (h17 : dstOf ops 17 = none) : frF ops V t ops.size = ((((((((((((((((t.setIfInBounds d0 (V 0)).setIfInBounds d1 (V 1)).setIfInBounds d2 (V 2)).setIfInBounds d3 (V 3)).setIfInBounds d4 (V 4)).setIfInBounds d5 (V 5)).setIfInBounds d6 (V 6)).setIfInBounds d7 (V 7)).setIfInBounds d8 (V 8)).setIfInBounds d9 (V 9)).setIfInBounds d10 (V 10)).setIfInBounds d11 (V 11)).setIfInBounds d12 (V 12)).setIfInBounds d13 (V 13)).setIfInBounds d14 (V 14)).setIfInBounds d16 (V 16)) := by
  rw [hs]
  simp only [frF, h0, h1, h2, h3, h4, h5, h6, h7, h8, h9, h10, h11, h12, h13, h14, h15, h16, h17]
set_option maxRecDepth 20000 in
set_option maxHeartbeats 4000000 in
theorem Put_any {w : World} (v : Value) (l : List Tx) (s : Tx) (hv : TxS w v l) (hl : l.length ≤ 524288) (hs : s.length ≤ maxLen) :
    Calls Tryd.prog 8 #[v, encStr s] w fun e w' => ∃ r, e = .returned r ∧ TxS w' r (put l s) ∧ Below w.heap.size w w' := by
  have HI : Hid (Calls Tryd.prog 14 #[encStr s, v] w fun e w' => e = .returned (.bool (decide (s ∈ l))) ∧ Below w.heap.size w w') := in_any s v l hv (by omega)
  have HX : Hid (TxS w v l) := hv
  clear hv
  by_cases hm : s ∈ l
  · have HP : Hid (put l s = l) := if_pos hm
    have hd : decide (s ∈ l) = true := decide_eq_true hm
    clear hm
    go_enter Tryd.func8, Tryd.ntmps8
    go_wp2_with (first | (go_at_call 14; refine HI.out.mono ?_; rintro e w1 ⟨rfl, hb1⟩; rw [hd]) | go_in)
    go_ret
    exact ⟨_, rfl, by rw [HP.out]; exact HX.out.below hb1, hb1⟩
  · have hd : decide (s ∈ l) = false := decide_eq_false hm
    have HN : Hid (s ∉ l) := hm
    obtain ⟨m, hml⟩ : ∃ m, l.length = m := ⟨_, rfl⟩
    have HL : Hid (l.length = m) := hml
    rw [hml] at hl
    clear hm hml
    go_enter Tryd.func8, Tryd.ntmps8
    go_upto_region 4 with (first
      | (go_at_call 14; refine HI.out.mono ?_; rintro e w1 ⟨rfl, hb1⟩; rw [hd])
      | (at_builtin; refine wpList_apv rfl (.tmp 10) (.tmp 11) 22 22 rfl (.string ⟨#[]⟩) rfl 9 16 Tryd.undX Tryd.infoX (by decide) w.heap.size (.slice (some ⟨w1.heap.size, 0, none⟩) 0 0) [] rfl (.inr ⟨w1.heap.size, [], rfl, hb1.size, Blk.new 9 w1 [], Nat.le_refl _, rfl, by simp⟩) v (l.map encStr) rfl (by have h9 := (HX.out.below (hb1.alloc hb1.size (.cells #[] 9))).src (t := 22) Tryd.undX; rw [List.length_map]; exact h9) (by have := HL.out; simp; omega) (hb1.alloc hb1.size (.cells #[] 9)).size ?_; intro v2 w2 hV2 hG2; have HB2 : Hid (Below w.heap.size w w2) := (hb1.alloc hb1.size (.cells #[] 9)).trans (hG2.below (.inr ⟨w1.heap.size, [], rfl, hb1.size, Blk.new 9 w1 [], Nat.le_refl _, rfl, by simp⟩) (hb1.alloc hb1.size (.cells #[] 9)).size))
      | (at_builtin; refine wpList_apv rfl (.tmp 12) (.tmp 14) 22 22 rfl (.string ⟨#[]⟩) rfl 9 16 Tryd.undX Tryd.infoX (by decide) w.heap.size v2 ([] ++ l.map encStr) rfl (hV2.alloc _) _ [encStr s] rfl (src_oneP (T := 9) (blk_nwP rfl rfl) rfl) (by have := HL.out; simp; omega) (HB2.out.alloc HB2.out.size (.cells #[encStr s] 9)).size ?_; intro v3 w3 hV3 hG3; have HB3 : Hid (Below w.heap.size w w3) := (HB2.out.alloc HB2.out.size _).trans (hG3.below (hV2.alloc _) (HB2.out.alloc HB2.out.size _).size))
      | go_in)
    obtain ⟨n, hn⟩ : ∃ n, m + 1 = n := ⟨_, rfl⟩
    obtain ⟨b, S0, rfl, hbB, hA0, hS0⟩ : ∃ b S0, v3 = .slice (some ⟨b, 0, none⟩) n S0.length ∧ w.heap.size ≤ b ∧ Blk 9 w3 b S0 ∧ n ≤ S0.length ∧ S0.take n = (l ++ [s]).map encStr := by
      rcases hV3 with ⟨_, h⟩ | ⟨b, S0, h1, h2, h3, h4, h5, _⟩
      · simp at h
      · have e : ([] ++ l.map encStr ++ [encStr s]).length = n := by have := HL.out; simp [this, hn]
        rw [e] at h1 h4 h5
        exact ⟨b, S0, h1, h2, h3, h4, by rw [h5]; simp⟩
    obtain ⟨c, hc⟩ : ∃ c, S0.length = c := ⟨_, rfl⟩
    rw [hc] at hS0 ⊢
    have HI0 : Hid (Blk 9 w3 b S0 ∧ S0.take n = (l ++ [s]).map encStr ∧ Below w.heap.size w w3 ∧ S0.length = c) := ⟨hA0, hS0.2, HB3.out, hc⟩
    have hnI : (n : Int) - 1 = (m : Int) := by omega
    have hnc : n ≤ c := hS0.1
    have hwn : IntKind.i64.wrap ((n : Int) - 1) = (m : Int) := by rw [IntKind.wrap_i64]; omega
    clear hA0 hS0 hc
    go_wp2
    go_loopw [5] (fun iv wr => ∃ (k : Nat) (S : List Value), iv = .int .i64 (k : Int) ∧ k ≤ m ∧ Blk 9 wr b S ∧ S.length = c ∧ S.take n = (insAt l s k).map encStr ∧ (∀ y ∈ l.drop k, s < y) ∧ Below w.heap.size w wr) (fun iv _ => (intOf iv).toNat)
    case atStart => exact ⟨m, S0, rfl, Nat.le_refl _, HI0.out.1, HI0.out.2.2.2, by rw [HI0.out.2.1, ← HL.out, insAt_all], by rw [← HL.out]; simp, HI0.out.2.2.1⟩
    case round =>
      obtain ⟨k, S, rfl, hk, hA, hSl, hSt, hgt, hbl⟩ := hrel
      have HF : Hid ((k = 0 ∨ ∃ x, l[k - 1]? = some x ∧ ¬ s < x) → TxS wr (.slice (some ⟨b, 0, none⟩) n c) (put l s)) := fun h0 => by
        have hp := put_at l s k (by rw [HL.out]; exact hk) HN.out hgt h0
        have hlen := insAt_len l s k (by rw [HL.out]; exact hk)
        rw [HL.out, hn] at hlen
        rw [hp]
        exact TxS.ofBlk hA n c hlen.symm (by omega) (by rw [hlen]; exact hSt) (fun y hy => by
          unfold insAt at hy
          rcases List.mem_append.1 hy with h | h
          · exact HX.out.2 y (List.mem_of_mem_take h)
          · rcases List.mem_cons.1 h with rfl | h
            · exact hs
            · exact HX.out.2 y (List.mem_of_mem_drop h))
      cases k with
      | zero =>
        have HB : Hid (Below w.heap.size w wr) := hbl
        clear hA hSl hSt hgt hbl
        go_wp2
        go_quiet (fail)
        go_wp2
        go_ret
        exact ⟨_, rfl, (HF.out (by simp)).below (below_drewN _ (Below.refl _ _)), below_drewN _ HB.out⟩
      | succ j =>
        have hjl : j < l.length := by rw [HL.out]; omega
        obtain ⟨x, hx⟩ : ∃ x, l[j] = x := ⟨_, rfl⟩
        have hx2 : l[j]? = some x := by rw [List.getElem?_eq_getElem hjl, hx]
        have e1 : S[j + 1]? = some (encStr s) := by
          have h := congrArg (·[j + 1]?) hSt
          simp only [List.getElem?_take, List.getElem?_map, insAt_here l s (j + 1) hjl, Option.map_some] at h
          rw [if_pos (by omega)] at h
          exact h
        have e0 : S[j]? = some (encStr x) := by
          have h := congrArg (·[j]?) hSt
          have h2 := insAt_left l s (j + 1) hjl (by omega)
          rw [Nat.add_sub_cancel, hx2] at h2
          simp only [List.getElem?_take, List.getElem?_map, h2, Option.map_some] at h
          rw [if_pos (by omega)] at h
          exact h
        have HS : Hid (Blk 9 wr b S ∧ (S[j]? = some (encStr x) ∧ S[j + 1]? = some (encStr s)) ∧ Below w.heap.size w wr) := ⟨hA, ⟨e0, e1⟩, hbl⟩
        have p1 : wr.cell? ⟨b, j + 1, none⟩ = some (encStr s) := (hA.cell (j + 1)).trans e1
        have p0 : wr.cell? ⟨b, j, none⟩ = some (encStr x) := (hA.cell j).trans e0
        have hkI : ((j + 1 : Nat) : Int) = (j : Int) + 1 := by omega
        have hwj : IntKind.i64.wrap ((j : Int) + 1 - 1) = (j : Int) := by rw [IntKind.wrap_i64]; omega
        have hwj0 : IntKind.i64.wrap (j : Int) = (j : Int) := by rw [IntKind.wrap_i64]; omega
        have hneg : ¬ ((j : Int) + 1 < 0) := by omega
        have hj1 : j + 1 < n := by omega
        have hj0 : j < n := by omega
        have hj1I : (j : Int) + 1 < (n : Int) := by omega
        have hj0I : (j : Int) < (n : Int) := by omega
        have HD : Hid (∀ y ∈ l.drop (j + 1), s < y) := hgt
        have HSl : Hid (S.length = c) := hSl
        have HSt : Hid (S.take n = (insAt l s (j + 1)).map encStr) := hSt
        rw [hkI]
        clear hA hSl hSt hgt hbl e0 e1
        by_cases hlt : s < x
        · have hb : Op.bytesLess s x = true := by rw [bytesLess_eq]; exact decide_eq_true hlt
          go_wp2
          go_quiet (fail)
          go_upto_region 7 with (fail)
          refine wp_region_cl (β := Unit) (fun _ k => ([.slice (some ⟨b, 0, none⟩) n c, .int .i64 ((j : Int) + 1), .slice (some ⟨b, 0, none⟩) n c, .int .i64 ((j : Int) + 1), .int .i64 (j : Int), .slice (some ⟨b, 0, none⟩) n c, .int .i64 ((j : Int) + 1), .int .i64 (j : Int), .pointer (some ⟨b, j, none⟩), encStr x, .slice (some ⟨b, 0, none⟩) n c, .int .i64 ((j : Int) + 1), .pointer (some ⟨b, j + 1, none⟩), encStr s, .pointer (some ⟨b, j + 1, none⟩), undef, .pointer (some ⟨b, j, none⟩), undef] : List Value).getD k undef) (fun _ L W => St2 15 17 (fun W => Blk 9 W b S ∧ Below w.heap.size w W) (fun W => Blk 9 W b (S.set (j + 1) (encStr x)) ∧ Below w.heap.size w W) (fun W => Blk 9 W b ((S.set (j + 1) (encStr x)).set j (encStr s)) ∧ Below w.heap.size w W) L W) () rfl (by decide +kernel) (show dstB _ 52 = true by decide +kernel) (St2.start ⟨HS.out.1, (below_drewN _ HS.out.2.2).drew⟩) (fun _ L W hup hS => ?_) (fun i _ L W a hi hno hsz hdep hv h0 hcl hS => ?_)
          rotate_left
          · replace hi : i < 18 := hi
            obtain rfl | rfl | rfl | rfl | rfl | rfl | rfl | rfl | rfl | rfl | rfl | rfl | rfl | rfl | rfl | rfl | rfl | rfl : i = 0 ∨ i = 1 ∨ i = 2 ∨ i = 3 ∨ i = 4 ∨ i = 5 ∨ i = 6 ∨ i = 7 ∨ i = 8 ∨ i = 9 ∨ i = 10 ∨ i = 11 ∨ i = 12 ∨ i = 13 ∨ i = 14 ∨ i = 15 ∨ i = 16 ∨ i = 17 := by omega
            · have x0 : a.eval (.tmp 0) = .slice (some ⟨b, 0, none⟩) n c := (h0 0 (by decide +kernel)).trans rfl
              exact rg_val rfl (wn_any rfl) (run_mv rfl x0) (hS.other (by decide) (by decide))
            · have x5 : a.eval (.tmp 5) = .int .i64 ((j : Int) + 1) := (h0 5 (by decide +kernel)).trans rfl
              exact rg_val rfl (wn_any rfl) (run_mv rfl x5) (hS.other (by decide) (by decide))
            · have x0 : a.eval (.tmp 0) = .slice (some ⟨b, 0, none⟩) n c := (h0 0 (by decide +kernel)).trans rfl
              exact rg_val rfl (wn_any rfl) (run_mv rfl x0) (hS.other (by decide) (by decide))
            · have x5 : a.eval (.tmp 5) = .int .i64 ((j : Int) + 1) := (h0 5 (by decide +kernel)).trans rfl
              exact rg_val rfl (wn_any rfl) (run_mv rfl x5) (hS.other (by decide) (by decide))
            · have e38 : a.eval (.tmp 38) = .int .i64 ((j : Int) + 1) := hv 3 _ (show 3 < 18 by decide) (hdep 3 (by decide +kernel)) rfl
              exact rg_val rfl (wn_any rfl) (run_bin (v := .int .i64 (j : Int)) rfl e38 rfl (by simp [go_sem, hwj0])) (hS.other (by decide) (by decide))
            · have x0 : a.eval (.tmp 0) = .slice (some ⟨b, 0, none⟩) n c := (h0 0 (by decide +kernel)).trans rfl
              exact rg_val rfl (wn_any rfl) (run_mv rfl x0) (hS.other (by decide) (by decide))
            · have x5 : a.eval (.tmp 5) = .int .i64 ((j : Int) + 1) := (h0 5 (by decide +kernel)).trans rfl
              exact rg_val rfl (wn_any rfl) (run_mv rfl x5) (hS.other (by decide) (by decide))
            · have e41 : a.eval (.tmp 41) = .int .i64 ((j : Int) + 1) := hv 6 _ (show 6 < 18 by decide) (hdep 6 (by decide +kernel)) rfl
              exact rg_val rfl (wn_any rfl) (run_bin (v := .int .i64 (j : Int)) rfl e41 rfl (by simp [go_sem, hwj0])) (hS.other (by decide) (by decide))
            · have e40 : a.eval (.tmp 40) = .slice (some ⟨b, 0, none⟩) n c := hv 5 _ (show 5 < 18 by decide) (hdep 5 (by decide +kernel)) rfl
              have e42 : a.eval (.tmp 42) = .int .i64 (j : Int) := hv 7 _ (show 7 < 18 by decide) (hdep 7 (by decide +kernel)) rfl
              exact rg_val rfl (wn_any rfl) (run_ia (v := .pointer (some ⟨b, j, none⟩)) rfl e40 e42 (by simp [go_sem, Instr.indexAt, hj0])) (hS.other (by decide) (by decide))
            · have a9 := hS.1 (fun u => hno (hcl 15 u 9 (by decide +kernel)))
              have q9 : W.cell? ⟨b, j, none⟩ = some (encStr x) := (a9.1.cell j).trans HS.out.2.1.1
              have e43 : a.eval (.tmp 43) = .pointer (some ⟨b, j, none⟩) := hv 8 _ (show 8 < 18 by decide) (hdep 8 (by decide +kernel)) rfl
              exact rg_val rfl (wn_any rfl) (run_ld (v := encStr x) rfl e43 (by simp [go_sem, Instr.loadAt, q9])) (hS.other (by decide) (by decide))
            · have x0 : a.eval (.tmp 0) = .slice (some ⟨b, 0, none⟩) n c := (h0 0 (by decide +kernel)).trans rfl
              exact rg_val rfl (wn_any rfl) (run_mv rfl x0) (hS.other (by decide) (by decide))
            · have x5 : a.eval (.tmp 5) = .int .i64 ((j : Int) + 1) := (h0 5 (by decide +kernel)).trans rfl
              exact rg_val rfl (wn_any rfl) (run_mv rfl x5) (hS.other (by decide) (by decide))
            · have e45 : a.eval (.tmp 45) = .slice (some ⟨b, 0, none⟩) n c := hv 10 _ (show 10 < 18 by decide) (hdep 10 (by decide +kernel)) rfl
              have e46 : a.eval (.tmp 46) = .int .i64 ((j : Int) + 1) := hv 11 _ (show 11 < 18 by decide) (hdep 11 (by decide +kernel)) rfl
              exact rg_val rfl (wn_any rfl) (run_ia (v := .pointer (some ⟨b, j + 1, none⟩)) rfl e45 e46 (by simp [go_sem, Instr.indexAt, hj1I, hneg])) (hS.other (by decide) (by decide))
            · have a13 := hS.1 (fun u => hno (hcl 15 u 13 (by decide +kernel)))
              have q13 : W.cell? ⟨b, j + 1, none⟩ = some (encStr s) := (a13.1.cell (j + 1)).trans HS.out.2.1.2
              have e47 : a.eval (.tmp 47) = .pointer (some ⟨b, j + 1, none⟩) := hv 12 _ (show 12 < 18 by decide) (hdep 12 (by decide +kernel)) rfl
              exact rg_val rfl (wn_any rfl) (run_ld (v := encStr s) rfl e47 (by simp [go_sem, Instr.loadAt, q13])) (hS.other (by decide) (by decide))
            · have e35 : a.eval (.tmp 35) = .slice (some ⟨b, 0, none⟩) n c := hv 0 _ (show 0 < 18 by decide) (hdep 0 (by decide +kernel)) rfl
              have e36 : a.eval (.tmp 36) = .int .i64 ((j : Int) + 1) := hv 1 _ (show 1 < 18 by decide) (hdep 1 (by decide +kernel)) rfl
              exact rg_val rfl (wn_any rfl) (run_ia (v := .pointer (some ⟨b, j + 1, none⟩)) rfl e35 e36 (by simp [go_sem, Instr.indexAt, hj1I, hneg])) (hS.other (by decide) (by decide))
            · have a15 := hS.1 hno
              have q15 : W.cell? ⟨b, j + 1, none⟩ = some (encStr s) := (a15.1.cell (j + 1)).trans HS.out.2.1.2
              have f15 := a15.1.frozen (j + 1)
              have e49 : a.eval (.tmp 49) = .pointer (some ⟨b, j + 1, none⟩) := hv 14 _ (show 14 < 18 by decide) (hdep 14 (by decide +kernel)) rfl
              have e44 : a.eval (.tmp 44) = encStr x := hv 9 _ (show 9 < 18 by decide) (hdep 9 (by decide +kernel)) rfl
              exact rg_st1 rfl (wn_any rfl) rfl (run_s1 rfl e49 e44 (by simp [go_sem, Instr.storeAt, q15, f15])) (hS.first hno (fun u => hno (hcl 17 u 15 (by decide +kernel))) (hsz 15 (by decide)) (by decide) ⟨a15.1.set (j + 1) _, (Upd.set W b (j + 1) _).below a15.2 a15.2.size hbB⟩)
            · have e37 : a.eval (.tmp 37) = .slice (some ⟨b, 0, none⟩) n c := hv 2 _ (show 2 < 18 by decide) (hdep 2 (by decide +kernel)) rfl
              have e39 : a.eval (.tmp 39) = .int .i64 (j : Int) := hv 4 _ (show 4 < 18 by decide) (hdep 4 (by decide +kernel)) rfl
              exact rg_val rfl (wn_any rfl) (run_ia (v := .pointer (some ⟨b, j, none⟩)) rfl e37 e39 (by simp [go_sem, Instr.indexAt, hj0])) (hS.other (by decide) (by decide))
            · have a17 := hS.2.1 (hdep 15 (by decide +kernel)) hno
              have q17 : W.cell? ⟨b, j, none⟩ = some (encStr x) := (a17.1.cell j).trans (by rw [List.getElem?_set_ne (by omega)]; exact HS.out.2.1.1)
              have f17 := a17.1.frozen j
              have e50 : a.eval (.tmp 50) = .pointer (some ⟨b, j, none⟩) := hv 16 _ (show 16 < 18 by decide) (hdep 16 (by decide +kernel)) rfl
              have e48 : a.eval (.tmp 48) = encStr s := hv 13 _ (show 13 < 18 by decide) (hdep 13 (by decide +kernel)) rfl
              exact rg_st1 rfl (wn_any rfl) rfl (run_s1 rfl e50 e48 (by simp [go_sem, Instr.storeAt, q17, f17])) (hS.second hno (hsz 17 (by decide)) (by decide) ⟨a17.1.set j _, (Upd.set W b j _).below a17.2 a17.2.size hbB⟩ (hdep 15 (by decide +kernel)))
          rw [frG18_3fffa rfl rfl rfl rfl rfl rfl rfl rfl rfl rfl rfl rfl rfl rfl rfl rfl rfl rfl rfl]
          simp only [List.setIfInBounds_toArray, List.set_cons_succ, List.set_cons_zero, List.getD_cons_zero, List.getD_cons_succ]
          have HE : Hid (Blk 9 W b ((S.set (j + 1) (encStr x)).set j (encStr s)) ∧ Below w.heap.size w W) := hS.2.2 (hup 17 (by decide))
          clear hS hup
          go_wp2
          go_roundw
          case rel =>
            refine ⟨j, _, by go_num, by omega, HE.out.1, by simp [HSl.out], ?_, ?_, HE.out.2⟩
            · have h7 := insAt_swap l s (j + 1) hjl (by omega) x (by rw [Nat.add_sub_cancel]; exact hx2)
              rw [Nat.add_sub_cancel] at h7
              rw [← h7, List.map_set, List.map_set, ← HSt.out, List.take_set, List.take_set]
            · intro y hy
              have h8 := drop_pred (l := l) (k := j + 1) (by omega) (x := x) (by rw [Nat.add_sub_cancel]; exact hx2)
              rw [Nat.add_sub_cancel] at h8
              rw [h8] at hy
              rcases List.mem_cons.1 hy with rfl | hy
              · exact hlt
              · exact HD.out y hy
          case measure => simp [intOf]
        · have hb : Op.bytesLess s x = false := by rw [bytesLess_eq]; exact decide_eq_false hlt
          have HF2 : Hid (TxS wr (.slice (some ⟨b, 0, none⟩) n c) (put l s)) := HF.out (.inr ⟨x, by rw [Nat.add_sub_cancel]; exact hx2, hlt⟩)
          clear HF
          go_wp2
          go_quiet (fail)
          go_wp2
          go_ret
          exact ⟨_, rfl, HF2.out.below (below_drewN _ (Below.refl _ _)), below_drewN _ HS.out.2.2⟩
end Go.Proofs.YtkjdihikcgpababDoor
/-
  Policy: the reference's Start, Same.
-/
namespace Go.Proofs.YtkjdihikcgpababDoor
open Go.RowKit Go.Sort Go.Lib
end Go.Proofs.YtkjdihikcgpababDoor
/-
  Policy: the reference's Same.
-/
namespace Go.Proofs.YtkjdihikcgpababDoor
open Go.RowKit Go.Sort Go.Lib
end Go.Proofs.YtkjdihikcgpababDoor
