/-
  Ber: is a row of elements a tree?
-/
import Derived.Test.YtefebamomdcaaaaGreatDoorK17
namespace Go.Proofs.YtefebamomdcaaaaGreatDoor
open Go.RowKit
/-- The rest of a row from i on. -/
def restB (L : List Te) (i : Nat) : Bool := match i with
  | 0 => true
  | j + 1 => rowB (L.getD j ⟨0, 0, 0, false, []⟩) (L.drop (j + 1))
theorem restB_end {L : List Te} : restB L L.length = true := by
  cases h : L.length with
  | zero => rfl
  | succ n => show rowB _ (L.drop (n + 1)) = true; rw [List.drop_of_length_le (by omega)]; rfl
theorem restB_step {L : List Te} {j : Nat} (h : j + 1 < L.length) : restB L (j + 1) = (standB L[j + 1] && folB (L[j]'(by omega)) L[j + 1] && restB L (j + 2)) := by
  show rowB _ (L.drop (j + 1)) = _
  rw [List.drop_eq_getElem_cons h]
  simp only [rowB]
  have e1 : L.getD j ⟨0, 0, 0, false, []⟩ = L[j]'(by omega) := by rw [List.getD_eq_getElem?_getD, List.getElem?_eq_getElem (by omega)]; rfl
  have e2 : restB L (j + 2) = rowB L[j + 1] (L.drop (j + 1 + 1)) := by
    show rowB (L.getD (j + 1) _) _ = _
    rw [List.getD_eq_getElem?_getD, List.getElem?_eq_getElem h]; rfl
  rw [e1, e2]
theorem tree_rest {L : List Te} (h0 : 0 < L.length) (hm : L.length ≤ 65536) (hd : L[0].dp = 0) : treeB L = (standB L[0] && restB L 1) := by
  cases L with
  | nil => simp at h0
  | cons x r =>
    simp only [treeB, List.getElem_cons_zero] at hd ⊢
    rw [decide_eq_true hm, decide_eq_true hd]
    rfl
theorem tree_no0 {L : List Te} (h : ¬ (0 < L.length ∧ L.length ≤ 65536)) : treeB L = false := by
  cases L with
  | nil => rfl
  | cons x r =>
    simp only [treeB]
    rw [decide_eq_false (by simp at h ⊢; omega)]; rfl
theorem tree_nod {L : List Te} (h0 : 0 < L.length) (hd : L[0].dp ≠ 0) : treeB L = false := by
  cases L with
  | nil => simp at h0
  | cons x r =>
    simp only [treeB, List.getElem_cons_zero] at hd ⊢
    rw [decide_eq_false hd]; simp
theorem rng_below {w W : World} {b o : Nat} {cs : List Value} (h : w.rangeAt b o cs) (hb : b < w.heap.size) (hW : Below w.heap.size w W) : W.rangeAt b o cs := fun j v hj => (hW.cell (p := ⟨b, o + j, none⟩) hb).trans (h j v hj)
theorem range5 {w : World} {b o : Nat} {v0 v1 v2 v3 v4 : Value} (h0 : w.cell? ⟨b, o, none⟩ = some v0) (h1 : w.cell? ⟨b, o + 1, none⟩ = some v1) (h2 : w.cell? ⟨b, o + 2, none⟩ = some v2) (h3 : w.cell? ⟨b, o + 3, none⟩ = some v3) (h4 : w.cell? ⟨b, o + 4, none⟩ = some v4) : w.rangeAt b o [v0, v1, v2, v3, v4] := by
  intro j v hj
  match j, hj with
  | 0, hj => simp at hj; subst hj; exact h0
  | 1, hj => simp at hj; subst hj; exact h1
  | 2, hj => simp at hj; subst hj; exact h2
  | 3, hj => simp at hj; subst hj; exact h3
  | 4, hj => simp at hj; subst hj; exact h4
theorem eg_stand (args : Array Value) (w : World) : (callFunc 91 args).run Tryz.prog w = .ok (.enter 91 args) w := by
  have g1 : ¬ Tryz.f91.name = "runtime.NumGoroutine" := by decide +kernel
  have g2 : Tryz.f91.body.isNone = false := by kernel_rfl
  have g3 : ¬ Tryz.f91.body = none := fun h => by rw [h] at g2; cases g2
  simp [go_sem, callFunc, Tryz.func91, g1, g3]
theorem eg_follow (args : Array Value) (w : World) : (callFunc 92 args).run Tryz.prog w = .ok (.enter 92 args) w := by
  have g1 : ¬ Tryz.f92.name = "runtime.NumGoroutine" := by decide +kernel
  have g2 : Tryz.f92.body.isNone = false := by kernel_rfl
  have g3 : ¬ Tryz.f92.body = none := fun h => by rw [h] at g2; cases g2
  simp [go_sem, callFunc, Tryz.func92, g1, g3]
theorem frG17_1ffff {ops : Array Oper} {V : Nat → Value} {t : Array Value} {d0 d1 d2 d3 d4 d5 d6 d7 d8 d9 d10 d11 d12 d13 d14 d15 d16 : Nat} (hs : ops.size = 17) (h0 : dstOf ops 0 = some d0) (h1 : dstOf ops 1 = some d1) (h2 : dstOf ops 2 = some d2) (h3 : dstOf ops 3 = some d3) (h4 : dstOf ops 4 = some d4) (h5 : dstOf ops 5 = some d5) (h6 : dstOf ops 6 = some d6) (h7 : dstOf ops 7 = some d7) (h8 : dstOf ops 8 = some d8) (h9 : dstOf ops 9 = some d9) (h10 : dstOf ops 10 = some d10) (h11 : dstOf ops 11 = some d11) (h12 : dstOf ops 12 = some d12) (h13 : dstOf ops 13 = some d13) (h14 : dstOf ops 14 = some d14) (h15 : dstOf ops 15 = some d15) (h16 : dstOf ops 16 = some d16) : frF ops V t ops.size = (((((((((((((((((t.setIfInBounds d0 (V 0)).setIfInBounds d1 (V 1)).setIfInBounds d2 (V 2)).setIfInBounds d3 (V 3)).setIfInBounds d4 (V 4)).setIfInBounds d5 (V 5)).setIfInBounds d6 (V 6)).setIfInBounds d7 (V 7)).setIfInBounds d8 (V 8)).setIfInBounds d9 (V 9)).setIfInBounds d10 (V 10)).setIfInBounds d11 (V 11)).setIfInBounds d12 (V 12)).setIfInBounds d13 (V 13)).setIfInBounds d14 (V 14)).setIfInBounds d15 (V 15)).setIfInBounds d16 (V 16)) := by
  rw [hs]
  simp only [frF, h0, h1, h2, h3, h4, h5, h6, h7, h8, h9, h10, h11, h12, h13, h14, h15, h16]
set_option maxRecDepth 20000 in
set_option maxHeartbeats 4000000 in
theorem isTree_any {w : World} (v : Value) (L : List Te) (hv : ElS w v L) (hL : ∀ x ∈ L, x.d.length ≤ 9223372036854775807) (hn : L.length ≤ 9223372036854775807) :
    Calls Tryz.prog 65 #[v] w fun e w' => e = .returned (.bool (treeB L)) ∧ Below w.heap.size w w' := by
  obtain ⟨R, hR⟩ : ∃ R, treeB L = R := ⟨_, rfl⟩
  have HR : Hid (treeB L = R) := hR
  rw [hR]
  clear hR
  obtain ⟨n, hnn⟩ : ∃ n, L.length = n := ⟨_, rfl⟩
  have HX : Hid (ElS w v L ∧ (∀ x ∈ L, x.d.length ≤ 9223372036854775807) ∧ L.length = n) := ⟨hv, hL, hnn⟩
  obtain ⟨a, c, rfl⟩ : ∃ a c, v = .slice a n c := by obtain ⟨a, c, Y, h, _⟩ := hv; exact ⟨a, c, by rw [h, hnn]⟩
  have hnI : (n : Int) ≤ 9223372036854775807 := by omega
  clear hv hL hnn hn
  by_cases h0 : n = 0
  · subst h0
    go_enter Tryz.func65, Tryz.ntmps65
    go_wp2
    go_ret
    exact ⟨retB (by rw [← HR.out]; exact (tree_no0 (by have := HX.out.2.2; omega)).symm), Below.refl _ _⟩
  have h0b : ((n : Int) == 0) = false := by simpa using h0
  by_cases h1 : 65536 < n
  · have h1I : (65536 : Int) < (n : Int) := by omega
    go_enter Tryz.func65, Tryz.ntmps65
    go_wp2
    go_ret
    exact ⟨retB (by rw [← HR.out]; exact (tree_no0 (by have := HX.out.2.2; omega)).symm), Below.refl _ _⟩
  have h1I : ¬ (65536 : Int) < (n : Int) := by omega
  have hl0 : 0 < L.length := by have := HX.out.2.2; omega
  obtain ⟨b, o, _, _, _, rfl, hb, q0, _⟩ := HX.out.1.at hl0
  rw [Nat.zero_mul, Nat.add_zero] at q0
  obtain ⟨d0, hd0⟩ : ∃ d0, L[0].dp = d0 := ⟨_, rfl⟩
  rw [hd0] at q0
  by_cases hz : d0 ≠ 0
  · have hz2 : (d0 != 0) = true := by simpa using hz
    have HF : Hid (false = R) := by rw [← HR.out]; exact (tree_nod hl0 (by rw [hd0]; exact hz)).symm
    clear hd0
    go_enter Tryz.func65, Tryz.ntmps65
    go_wp2
    go_ret
    exact ⟨retB HF.out, Below.refl _ _⟩
  obtain rfl : d0 = 0 := Classical.not_not.1 hz
  have HT : Hid (R = (standB L[0] && restB L 1)) := by show _ = _; rw [← HR.out]; exact tree_rest hl0 (by have := HX.out.2.2; omega) hd0
  have HD : Hid (L[0].dp = 0) := hd0
  clear hd0
  go_enter Tryz.func65, Tryz.ntmps65
  go_wp2_with fail
  go_loopw [22] (fun iv wr => ∃ i : Nat, i ≤ n ∧ iv = .int .i64 i ∧ Below w.heap.size w wr ∧ (0 < i → R = restB L i ∧ ∃ z, (L.map (·.dp))[i - 1]? = some z ∧ 0 ≤ z ∧ z < 64)) (fun iv _ => n - (intOf iv).toNat)
  case atStart => exact ⟨0, Nat.zero_le _, rfl, Below.refl _ _, fun h => by omega⟩
  case round =>
    clear q0
    obtain ⟨i, hi, rfl, hB, hI⟩ := hrel
    have H1 : Hid (Below w.heap.size w wr ∧ (0 < i → R = restB L i ∧ ∃ z, (L.map (·.dp))[i - 1]? = some z ∧ 0 ≤ z ∧ z < 64)) := ⟨hB, hI⟩
    have hbw : b < wr.heap.size := Nat.lt_of_lt_of_le hb hB.size
    by_cases hlt : i < n
    · have l1 : (i : Int) < (n : Int) := by omega
      have hlL : i < L.length := by have := HX.out.2.2; omega
      obtain ⟨b', o', xd, xm, xk, hbo, _, p0, p1, p2, p3, p4, hxs⟩ := (HX.out.1.below hB).at hlL
      cases hbo
      obtain ⟨x, hx⟩ : ∃ x, L[i] = x := ⟨_, rfl⟩
      rw [hx] at p0 p1 p2 p3 hxs
      have hxl : xm = x.d.length := by obtain ⟨_, _, h, _⟩ := hxs; simp at h; exact h.2.1
      have hxb : xm ≤ 9223372036854775807 := by rw [hxl]; exact HX.out.2.1 x (by rw [← hx]; exact List.getElem_mem _)
      have HS0 : ∀ r, standB x = r → Hid (∀ W : World, Calls Tryz.prog 91 #[.agg #[.int .i64 x.dp, .int .i64 x.cl, .int .i64 x.tg, .bool x.co, .slice xd xm xk]] W fun e w' => e = .returned (.bool r) ∧ Below W.heap.size W w') := fun r hr W => by
        have := mayStand_any (w := W) x xd xk (by omega)
        rw [hr, ← hxl] at this; exact this
      have HX2 : Hid (L[i] = x) := hx
      have HST : Hid (0 < i → restB L i = (standB x && folB (L.getD (i - 1) ⟨0, 0, 0, false, []⟩) x && restB L (i + 1))) := fun h => by
        obtain ⟨j, rfl⟩ : ∃ j, i = j + 1 := ⟨i - 1, by omega⟩
        rw [restB_step hlL, hx, List.getD_eq_getElem?_getD, List.getElem?_eq_getElem (by omega)]; rfl
      have HF0 : ∀ y r, folB y x = r → y.dp < 64 → 0 ≤ y.dp → ∀ s, Hid (∀ W : World, Calls Tryz.prog 92 #[elV y s, .agg #[.int .i64 x.dp, .int .i64 x.cl, .int .i64 x.tg, .bool x.co, .slice xd xm xk]] W fun e w' => e = .returned (.bool r) ∧ Below W.heap.size W w') := fun y r hr h1 h2 s W => by
        have := mayFollow_any (w := W) y x s (.slice xd xm xk) (by omega) (by omega)
        rw [hr] at this; exact this
      have HFD : Hid (0 < i → folB (L.getD (i - 1) ⟨0, 0, 0, false, []⟩) x = true → 0 ≤ x.dp ∧ x.dp < 64) := fun _ h => by
        simp only [folB, decide_eq_true_eq] at h; omega
      have HFX : Hid (i = 0 → x.dp = 0) := fun h => by subst h; rw [← hx]; exact HD.out
      obtain ⟨dp, cl, tg, co, d⟩ := x
      simp only [] at p0 p1 p2 p3
      clear hxs hxl hx hI hB
      go_upto_region 6 with (fail)
      refine wp_gen (fun W => Below wr.heap.size wr W ∧ Blk 59 W wr.heap.size [.int .i64 dp, .int .i64 cl, .int .i64 tg, .bool co, .slice xd xm xk]) ⟨al1 _, Blk.new _ wr _⟩ ?_
      rintro w3 ⟨hb3, hB3⟩
      have hb0 : Below w3.heap.size w3 w3 := Below.refl _ _
      have HB3 : Hid (Below wr.heap.size wr w3) := hb3
      have HBX : Hid (Blk 59 w3 wr.heap.size [.int .i64 dp, .int .i64 cl, .int .i64 tg, .bool co, .slice xd xm xk]) := hB3
      have hlt3 : wr.heap.size < w3.heap.size := hB3.lt
      cases hst : standB ⟨dp, cl, tg, co, d⟩ with
      | false =>
        have HS := HS0 false hst
        have HE : Hid (false = R) := by
          show _ = _
          by_cases hi0 : i = 0
          · subst hi0
            rw [HT.out, show L[0] = ⟨dp, cl, tg, co, d⟩ from HX2.out, hst]; rfl
          · rw [(H1.out.2 (by omega)).1, HST.out (by omega), hst]; rfl
        clear hb3 hB3 p0 p1 p2 p3 p4 HS0 HF0 hst
        refine wp_region_still (fun k => ([.agg #[.int .i64 dp, .int .i64 cl, .int .i64 tg, .bool co, .slice xd xm xk], .bool false, .bool true, .bool true, undef, undef, undef, undef, undef, undef, undef, undef, undef, undef, undef, undef, .bool true] : List Value).getD k undef) (fun W => Below w3.heap.size w3 W) rfl (by decide +kernel) (show dstB _ 45 = true by decide +kernel) (Below.refl _ _).drew (fun W hS => ?_) (fun i L W a hi hno hdep hv hn h0 hS => ?_)
        rotate_left
        · replace hi : i < 17 := hi
          obtain rfl | rfl | rfl | rfl | rfl | rfl | rfl | rfl | rfl | rfl | rfl | rfl | rfl | rfl | rfl | rfl | rfl : i = 0 ∨ i = 1 ∨ i = 2 ∨ i = 3 ∨ i = 4 ∨ i = 5 ∨ i = 6 ∨ i = 7 ∨ i = 8 ∨ i = 9 ∨ i = 10 ∨ i = 11 ∨ i = 12 ∨ i = 13 ∨ i = 14 ∨ i = 15 ∨ i = 16 := by omega
          · have x4 : a.eval (.tmp 4) = .pointer (some ⟨wr.heap.size, 0, none⟩) := (h0 4 (by decide +kernel)).trans rfl
            exact rg_load rfl (wn_any rfl) rfl x4 (below_blk hS hlt3 HBX.out).whole Tryz.underlying59 rfl Tryz.sizeE rfl hS
          · have e27 : a.eval (.tmp 27) = .agg #[.int .i64 dp, .int .i64 cl, .int .i64 tg, .bool co, .slice xd xm xk] := hv 0 _ (show 0 < 17 by decide) (hdep 0 (by decide +kernel)) rfl
            exact rg_call rfl (wn_any rfl) (run_cl1 rfl e27 eg_stand) (R := fun w' => Below W.heap.size W w') (HS.out W) (fun w' h => below_via hS h (Nat.le_refl _))
          · have e28 : a.eval (.tmp 28) = .bool false := hv 1 _ (show 1 < 17 by decide) (hdep 1 (by decide +kernel)) rfl
            exact rg_val rfl (wn_any rfl) (run_un (v := .bool true) rfl e28 (by simp [go_sem])) hS
          · have e29 : a.eval (.tmp 29) = .bool true := hv 2 _ (show 2 < 17 by decide) (hdep 2 (by decide +kernel)) rfl
            exact rg_val rfl (wn_any rfl) (run_mv rfl e29) hS
          · have g4 : a.eval (.tmp 30) = .bool true := hv 3 _ (show 3 < 17 by decide) (hdep 3 (by decide +kernel)) rfl
            exact rg_skip rfl (wn_no rfl rfl g4) rfl hS
          · have g5 : a.eval (.tmp 30) = .bool true := hv 3 _ (show 3 < 17 by decide) (hdep 3 (by decide +kernel)) rfl
            exact rg_skip rfl (wn_no rfl rfl g5) rfl hS
          · have g6 : a.eval (.tmp 30) = .bool true := hv 3 _ (show 3 < 17 by decide) (hdep 3 (by decide +kernel)) rfl
            exact rg_skip rfl (wn_no rfl rfl g6) rfl hS
          · have g7 : a.eval (.tmp 33) = undef := hv 6 _ (show 6 < 17 by decide) (hdep 6 (by decide +kernel)) rfl
            exact rg_skip rfl (wn_off rfl rfl g7) rfl hS
          · have g8 : a.eval (.tmp 33) = undef := hv 6 _ (show 6 < 17 by decide) (hdep 6 (by decide +kernel)) rfl
            exact rg_skip rfl (wn_off rfl rfl g8) rfl hS
          · have g9 : a.eval (.tmp 33) = undef := hv 6 _ (show 6 < 17 by decide) (hdep 6 (by decide +kernel)) rfl
            exact rg_skip rfl (wn_off rfl rfl g9) rfl hS
          · have g10 : a.eval (.tmp 33) = undef := hv 6 _ (show 6 < 17 by decide) (hdep 6 (by decide +kernel)) rfl
            exact rg_skip rfl (wn_off rfl rfl g10) rfl hS
          · have g11 : a.eval (.tmp 33) = undef := hv 6 _ (show 6 < 17 by decide) (hdep 6 (by decide +kernel)) rfl
            exact rg_skip rfl (wn_off rfl rfl g11) rfl hS
          · have g12 : a.eval (.tmp 33) = undef := hv 6 _ (show 6 < 17 by decide) (hdep 6 (by decide +kernel)) rfl
            exact rg_skip rfl (wn_off rfl rfl g12) rfl hS
          · have g13 : a.eval (.tmp 33) = undef := hv 6 _ (show 6 < 17 by decide) (hdep 6 (by decide +kernel)) rfl
            exact rg_skip rfl (wn_off rfl rfl g13) rfl hS
          · have g14 : a.eval (.tmp 33) = undef := hv 6 _ (show 6 < 17 by decide) (hdep 6 (by decide +kernel)) rfl
            exact rg_skip rfl (wn_off rfl rfl g14) rfl hS
          · have g15 : a.eval (.tmp 30) = .bool true := hv 3 _ (show 3 < 17 by decide) (hdep 3 (by decide +kernel)) rfl
            exact rg_skip rfl (wn_no rfl rfl g15) rfl hS
          · have e30 : a.eval (.tmp 30) = .bool true := hv 3 _ (show 3 < 17 by decide) (hdep 3 (by decide +kernel)) rfl
            have e42 : a.eval (.tmp 42) = undef := hv 15 _ (show 15 < 17 by decide) (hdep 15 (by decide +kernel)) rfl
            exact rg_val rfl (wn_any rfl) (run_pk rfl e30 rfl e42 rfl) hS
        rw [frG17_1ffff rfl rfl rfl rfl rfl rfl rfl rfl rfl rfl rfl rfl rfl rfl rfl rfl rfl rfl]
        simp only [List.setIfInBounds_toArray, List.set_cons_succ, List.set_cons_zero, List.getD_cons_zero, List.getD_cons_succ]
        have H5 : Hid (Below w3.heap.size w3 W) := hS
        clear hS
        go_wp2
        go_ret
        exact ⟨retB HE.out, (H1.out.1.trans (HB3.out.mono H1.out.1.size)).trans (H5.out.mono (by have := H1.out.1.size; omega))⟩
      | true =>
        have HS := HS0 true hst
        by_cases hi0 : i = 0
        · have hi0I : ¬ (0 : Int) < (i : Int) := by omega
          have HE : Hid (R = restB L (i + 1) ∧ ∃ z, (L.map (·.dp))[i + 1 - 1]? = some z ∧ 0 ≤ z ∧ z < 64) := by
            subst hi0
            refine ⟨?_, 0, ?_, by decide, by decide⟩
            · rw [HT.out, show L[0] = ⟨dp, cl, tg, co, d⟩ from HX2.out, hst]; rfl
            · rw [List.getElem?_map, List.getElem?_eq_getElem hl0]; exact congrArg some HD.out
          clear hb3 hB3 p0 p1 p2 p3 p4 HS0 HF0 hst
          refine wp_region_still (fun k => ([.agg #[.int .i64 dp, .int .i64 cl, .int .i64 tg, .bool co, .slice xd xm xk], .bool true, .bool false, .bool false, .int .i64 (i : Int), .bool false, .bool false, undef, undef, undef, undef, undef, undef, undef, undef, .bool false, .bool false] : List Value).getD k undef) (fun W => Below w3.heap.size w3 W) rfl (by decide +kernel) (show dstB _ 45 = true by decide +kernel) (Below.refl _ _).drew (fun W hS => ?_) (fun i L W a hi hno hdep hv hn h0 hS => ?_)
          rotate_left
          · replace hi : i < 17 := hi
            obtain rfl | rfl | rfl | rfl | rfl | rfl | rfl | rfl | rfl | rfl | rfl | rfl | rfl | rfl | rfl | rfl | rfl : i = 0 ∨ i = 1 ∨ i = 2 ∨ i = 3 ∨ i = 4 ∨ i = 5 ∨ i = 6 ∨ i = 7 ∨ i = 8 ∨ i = 9 ∨ i = 10 ∨ i = 11 ∨ i = 12 ∨ i = 13 ∨ i = 14 ∨ i = 15 ∨ i = 16 := by omega
            · have x4 : a.eval (.tmp 4) = .pointer (some ⟨wr.heap.size, 0, none⟩) := (h0 4 (by decide +kernel)).trans rfl
              exact rg_load rfl (wn_any rfl) rfl x4 (below_blk hS hlt3 HBX.out).whole Tryz.underlying59 rfl Tryz.sizeE rfl hS
            · have e27 : a.eval (.tmp 27) = .agg #[.int .i64 dp, .int .i64 cl, .int .i64 tg, .bool co, .slice xd xm xk] := hv 0 _ (show 0 < 17 by decide) (hdep 0 (by decide +kernel)) rfl
              exact rg_call rfl (wn_any rfl) (run_cl1 rfl e27 eg_stand) (R := fun w' => Below W.heap.size W w') (HS.out W) (fun w' h => below_via hS h (Nat.le_refl _))
            · have e28 : a.eval (.tmp 28) = .bool true := hv 1 _ (show 1 < 17 by decide) (hdep 1 (by decide +kernel)) rfl
              exact rg_val rfl (wn_any rfl) (run_un (v := .bool false) rfl e28 (by simp [go_sem])) hS
            · have e29 : a.eval (.tmp 29) = .bool false := hv 2 _ (show 2 < 17 by decide) (hdep 2 (by decide +kernel)) rfl
              exact rg_val rfl (wn_any rfl) (run_mv rfl e29) hS
            · have g4 : a.eval (.tmp 30) = .bool false := hv 3 _ (show 3 < 17 by decide) (hdep 3 (by decide +kernel)) rfl
              have x3 : a.eval (.tmp 3) = .int .i64 (i : Int) := (h0 3 (by decide +kernel)).trans rfl
              exact rg_val rfl (wn_yes rfl rfl g4) (run_mv rfl x3) hS
            · have g5 : a.eval (.tmp 30) = .bool false := hv 3 _ (show 3 < 17 by decide) (hdep 3 (by decide +kernel)) rfl
              have e31 : a.eval (.tmp 31) = .int .i64 (i : Int) := hv 4 _ (show 4 < 17 by decide) (hdep 4 (by decide +kernel)) rfl
              exact rg_val rfl (wn_yes rfl rfl g5) (run_bin (v := .bool false) rfl e31 rfl (by simp [go_sem, hi0])) hS
            · have g6 : a.eval (.tmp 30) = .bool false := hv 3 _ (show 3 < 17 by decide) (hdep 3 (by decide +kernel)) rfl
              have e32 : a.eval (.tmp 32) = .bool false := hv 5 _ (show 5 < 17 by decide) (hdep 5 (by decide +kernel)) rfl
              exact rg_val rfl (wn_yes rfl rfl g6) (run_mv rfl e32) hS
            · have g7 : a.eval (.tmp 33) = .bool false := hv 6 _ (show 6 < 17 by decide) (hdep 6 (by decide +kernel)) rfl
              exact rg_skip rfl (wn_no rfl rfl g7) rfl hS
            · have g8 : a.eval (.tmp 33) = .bool false := hv 6 _ (show 6 < 17 by decide) (hdep 6 (by decide +kernel)) rfl
              exact rg_skip rfl (wn_no rfl rfl g8) rfl hS
            · have g9 : a.eval (.tmp 33) = .bool false := hv 6 _ (show 6 < 17 by decide) (hdep 6 (by decide +kernel)) rfl
              exact rg_skip rfl (wn_no rfl rfl g9) rfl hS
            · have g10 : a.eval (.tmp 33) = .bool false := hv 6 _ (show 6 < 17 by decide) (hdep 6 (by decide +kernel)) rfl
              exact rg_skip rfl (wn_no rfl rfl g10) rfl hS
            · have g11 : a.eval (.tmp 33) = .bool false := hv 6 _ (show 6 < 17 by decide) (hdep 6 (by decide +kernel)) rfl
              exact rg_skip rfl (wn_no rfl rfl g11) rfl hS
            · have g12 : a.eval (.tmp 33) = .bool false := hv 6 _ (show 6 < 17 by decide) (hdep 6 (by decide +kernel)) rfl
              exact rg_skip rfl (wn_no rfl rfl g12) rfl hS
            · have g13 : a.eval (.tmp 33) = .bool false := hv 6 _ (show 6 < 17 by decide) (hdep 6 (by decide +kernel)) rfl
              exact rg_skip rfl (wn_no rfl rfl g13) rfl hS
            · have g14 : a.eval (.tmp 33) = .bool false := hv 6 _ (show 6 < 17 by decide) (hdep 6 (by decide +kernel)) rfl
              exact rg_skip rfl (wn_no rfl rfl g14) rfl hS
            · have g15 : a.eval (.tmp 30) = .bool false := hv 3 _ (show 3 < 17 by decide) (hdep 3 (by decide +kernel)) rfl
              have e33 : a.eval (.tmp 33) = .bool false := hv 6 _ (show 6 < 17 by decide) (hdep 6 (by decide +kernel)) rfl
              have e41 : a.eval (.tmp 41) = undef := hv 14 _ (show 14 < 17 by decide) (hdep 14 (by decide +kernel)) rfl
              exact rg_val rfl (wn_yes rfl rfl g15) (run_pk rfl e33 e41 rfl rfl) hS
            · have e30 : a.eval (.tmp 30) = .bool false := hv 3 _ (show 3 < 17 by decide) (hdep 3 (by decide +kernel)) rfl
              have e42 : a.eval (.tmp 42) = .bool false := hv 15 _ (show 15 < 17 by decide) (hdep 15 (by decide +kernel)) rfl
              exact rg_val rfl (wn_any rfl) (run_pk rfl e30 rfl e42 rfl) hS
          rw [frG17_1ffff rfl rfl rfl rfl rfl rfl rfl rfl rfl rfl rfl rfl rfl rfl rfl rfl rfl rfl]
          simp only [List.setIfInBounds_toArray, List.set_cons_succ, List.set_cons_zero, List.getD_cons_zero, List.getD_cons_succ]
          have H5 : Hid (Below w3.heap.size w3 W) := hS
          clear hS
          go_wp2
          go_roundw
          case rel => exact ⟨i + 1, by omega, by go_num, (H1.out.1.trans (HB3.out.mono H1.out.1.size)).trans (H5.out.mono (by have := H1.out.1.size; omega)), fun _ => HE.out⟩
          case measure => simp [intOf]; omega
        · have hi0I : (0 : Int) < (i : Int) := by omega
          obtain ⟨j, hj⟩ : ∃ j, j + 1 = i := ⟨i - 1, by omega⟩
          have hjI : (i : Int) - 1 = (j : Int) := by omega
          have hip : 0 < i := by omega
          have hjw2 : IntKind.i64.wrap (j : Int) = (j : Int) := wrapI _ (by omega) (by omega)
          have hjw : IntKind.i64.wrap ((i : Int) - 1) = (j : Int) := by rw [hjI]; exact wrapI _ (by omega) (by omega)
          have hjL : j < L.length := by have := HX.out.2.2; omega
          have hjn2 : j < n := by omega
          have hj0 : (0 : Int) ≤ (j : Int) := by omega
          have hjn : (j : Int) < (n : Int) := by omega
          have hj1 : i - 1 = j := by omega
          obtain ⟨b', o', yd, ym, yk, hbo, _, q0, q1, q2, q3, q4, _⟩ := (HX.out.1.below H1.out.1).at hjL
          cases hbo
          have hy : L.getD (i - 1) ⟨0, 0, 0, false, []⟩ = L[j] := by rw [hj1, List.getD_eq_getElem?_getD, List.getElem?_eq_getElem hjL]; rfl
          obtain ⟨hR2, z, hz1, hz2, hz3⟩ := H1.out.2 (by omega)
          rw [hj1, List.getElem?_map, List.getElem?_eq_getElem hjL] at hz1
          have hz4 : L[j].dp = z := Option.some.inj hz1
          obtain ⟨y, hyy⟩ : ∃ y, L[j] = y := ⟨_, rfl⟩
          rw [hyy] at q0 q1 q2 q3 hy hz4
          have HFY := HF0 y
          have HST2 := HST.out (by omega)
          have HFD2 := HFD.out (by omega)
          rw [hy] at HST2 HFD2
          have HST3 : Hid (R = (folB y ⟨dp, cl, tg, co, d⟩ && restB L (i + 1))) := by show _ = _; rw [hR2, HST2, hst]; rfl
          have HFD3 : Hid (folB y ⟨dp, cl, tg, co, d⟩ = true → 0 ≤ dp ∧ dp < 64) := HFD2
          obtain ⟨dq, cl2, tg2, cq, yl⟩ := y
          simp only [] at q0 q1 q2 q3 hz4
          have hbj : b < w3.heap.size := Nat.lt_of_lt_of_le hbw HB3.out.size
          have HYR : Hid (w3.rangeAt b (o + j * 5) [.int .i64 dq, .int .i64 cl2, .int .i64 tg2, .bool cq, .slice yd ym yk]) := rng_below (range5 q0 q1 q2 q3 q4) hbw HB3.out
          have HDP : Hid ((L.map (·.dp))[i + 1 - 1]? = some dp) := by
            show _ = _
            rw [Nat.add_sub_cancel, List.getElem?_map, List.getElem?_eq_getElem hlL]; exact congrArg some (congrArg Te.dp HX2.out)
          cases hfo : folB ⟨dq, cl2, tg2, cq, yl⟩ ⟨dp, cl, tg, co, d⟩ with
          | false =>
            have HF := HFY false hfo (by simp only []; omega) (by simp only []; omega) (.slice yd ym yk)
            have HE : Hid (false = R) := by show _ = _; rw [HST3.out, hfo]; rfl
            clear hb3 hB3 p0 p1 p2 p3 p4 q0 q1 q2 q3 q4 HS0 HF0 HFY HST2 HFD2 hst hfo hj hj1 hy hR2 hz1 hz2 hz3 hz4 hyy
            refine wp_region_still (fun k => ([.agg #[.int .i64 dp, .int .i64 cl, .int .i64 tg, .bool co, .slice xd xm xk], .bool true, .bool false, .bool false, .int .i64 (i : Int), .bool true, .bool true, .slice (some ⟨b, o, none⟩) n c, .int .i64 (i : Int), .int .i64 (j : Int), .pointer (some ⟨b, o + j * 5, none⟩), .agg #[.int .i64 dq, .int .i64 cl2, .int .i64 tg2, .bool cq, .slice yd ym yk], .agg #[.int .i64 dp, .int .i64 cl, .int .i64 tg, .bool co, .slice xd xm xk], .bool false, .bool true, .bool true, .bool true] : List Value).getD k undef) (fun W => Below w3.heap.size w3 W) rfl (by decide +kernel) (show dstB _ 45 = true by decide +kernel) (Below.refl _ _).drew (fun W hS => ?_) (fun i L W a hi hno hdep hv hn h0 hS => ?_)
            rotate_left
            · replace hi : i < 17 := hi
              obtain rfl | rfl | rfl | rfl | rfl | rfl | rfl | rfl | rfl | rfl | rfl | rfl | rfl | rfl | rfl | rfl | rfl : i = 0 ∨ i = 1 ∨ i = 2 ∨ i = 3 ∨ i = 4 ∨ i = 5 ∨ i = 6 ∨ i = 7 ∨ i = 8 ∨ i = 9 ∨ i = 10 ∨ i = 11 ∨ i = 12 ∨ i = 13 ∨ i = 14 ∨ i = 15 ∨ i = 16 := by omega
              · have x4 : a.eval (.tmp 4) = .pointer (some ⟨wr.heap.size, 0, none⟩) := (h0 4 (by decide +kernel)).trans rfl
                exact rg_load rfl (wn_any rfl) rfl x4 (below_blk hS hlt3 HBX.out).whole Tryz.underlying59 rfl Tryz.sizeE rfl hS
              · have e27 : a.eval (.tmp 27) = .agg #[.int .i64 dp, .int .i64 cl, .int .i64 tg, .bool co, .slice xd xm xk] := hv 0 _ (show 0 < 17 by decide) (hdep 0 (by decide +kernel)) rfl
                exact rg_call rfl (wn_any rfl) (run_cl1 rfl e27 eg_stand) (R := fun w' => Below W.heap.size W w') (HS.out W) (fun w' h => below_via hS h (Nat.le_refl _))
              · have e28 : a.eval (.tmp 28) = .bool true := hv 1 _ (show 1 < 17 by decide) (hdep 1 (by decide +kernel)) rfl
                exact rg_val rfl (wn_any rfl) (run_un (v := .bool false) rfl e28 (by simp [go_sem])) hS
              · have e29 : a.eval (.tmp 29) = .bool false := hv 2 _ (show 2 < 17 by decide) (hdep 2 (by decide +kernel)) rfl
                exact rg_val rfl (wn_any rfl) (run_mv rfl e29) hS
              · have g4 : a.eval (.tmp 30) = .bool false := hv 3 _ (show 3 < 17 by decide) (hdep 3 (by decide +kernel)) rfl
                have x3 : a.eval (.tmp 3) = .int .i64 (i : Int) := (h0 3 (by decide +kernel)).trans rfl
                exact rg_val rfl (wn_yes rfl rfl g4) (run_mv rfl x3) hS
              · have g5 : a.eval (.tmp 30) = .bool false := hv 3 _ (show 3 < 17 by decide) (hdep 3 (by decide +kernel)) rfl
                have e31 : a.eval (.tmp 31) = .int .i64 (i : Int) := hv 4 _ (show 4 < 17 by decide) (hdep 4 (by decide +kernel)) rfl
                exact rg_val rfl (wn_yes rfl rfl g5) (run_bin (v := .bool true) rfl e31 rfl (by simp [go_sem, hip])) hS
              · have g6 : a.eval (.tmp 30) = .bool false := hv 3 _ (show 3 < 17 by decide) (hdep 3 (by decide +kernel)) rfl
                have e32 : a.eval (.tmp 32) = .bool true := hv 5 _ (show 5 < 17 by decide) (hdep 5 (by decide +kernel)) rfl
                exact rg_val rfl (wn_yes rfl rfl g6) (run_mv rfl e32) hS
              · have g7 : a.eval (.tmp 33) = .bool true := hv 6 _ (show 6 < 17 by decide) (hdep 6 (by decide +kernel)) rfl
                have x0 : a.eval (.tmp 0) = .slice (some ⟨b, o, none⟩) n c := (h0 0 (by decide +kernel)).trans rfl
                exact rg_val rfl (wn_yes rfl rfl g7) (run_mv rfl x0) hS
              · have g8 : a.eval (.tmp 33) = .bool true := hv 6 _ (show 6 < 17 by decide) (hdep 6 (by decide +kernel)) rfl
                have x3 : a.eval (.tmp 3) = .int .i64 (i : Int) := (h0 3 (by decide +kernel)).trans rfl
                exact rg_val rfl (wn_yes rfl rfl g8) (run_mv rfl x3) hS
              · have g9 : a.eval (.tmp 33) = .bool true := hv 6 _ (show 6 < 17 by decide) (hdep 6 (by decide +kernel)) rfl
                have e35 : a.eval (.tmp 35) = .int .i64 (i : Int) := hv 8 _ (show 8 < 17 by decide) (hdep 8 (by decide +kernel)) rfl
                exact rg_val rfl (wn_yes rfl rfl g9) (run_bin (v := .int .i64 (j : Int)) rfl e35 rfl (by simp [go_sem, hjI, hjw2])) hS
              · have g10 : a.eval (.tmp 33) = .bool true := hv 6 _ (show 6 < 17 by decide) (hdep 6 (by decide +kernel)) rfl
                have e34 : a.eval (.tmp 34) = .slice (some ⟨b, o, none⟩) n c := hv 7 _ (show 7 < 17 by decide) (hdep 7 (by decide +kernel)) rfl
                have e36 : a.eval (.tmp 36) = .int .i64 (j : Int) := hv 9 _ (show 9 < 17 by decide) (hdep 9 (by decide +kernel)) rfl
                exact rg_val rfl (wn_yes rfl rfl g10) (run_ia (v := .pointer (some ⟨b, o + j * 5, none⟩)) rfl e34 e36 (by simp [go_sem, Instr.indexAt, hjn2])) hS
              · have g11 : a.eval (.tmp 33) = .bool true := hv 6 _ (show 6 < 17 by decide) (hdep 6 (by decide +kernel)) rfl
                have e37 : a.eval (.tmp 37) = .pointer (some ⟨b, o + j * 5, none⟩) := hv 10 _ (show 10 < 17 by decide) (hdep 10 (by decide +kernel)) rfl
                exact rg_load rfl (wn_yes rfl rfl g11) rfl e37 (rng_below HYR.out hbj hS) Tryz.underlying59 rfl Tryz.sizeE rfl hS
              · have g12 : a.eval (.tmp 33) = .bool true := hv 6 _ (show 6 < 17 by decide) (hdep 6 (by decide +kernel)) rfl
                have x4 : a.eval (.tmp 4) = .pointer (some ⟨wr.heap.size, 0, none⟩) := (h0 4 (by decide +kernel)).trans rfl
                exact rg_load rfl (wn_yes rfl rfl g12) rfl x4 (below_blk hS hlt3 HBX.out).whole Tryz.underlying59 rfl Tryz.sizeE rfl hS
              · have g13 : a.eval (.tmp 33) = .bool true := hv 6 _ (show 6 < 17 by decide) (hdep 6 (by decide +kernel)) rfl
                have e38 : a.eval (.tmp 38) = .agg #[.int .i64 dq, .int .i64 cl2, .int .i64 tg2, .bool cq, .slice yd ym yk] := hv 11 _ (show 11 < 17 by decide) (hdep 11 (by decide +kernel)) rfl
                have e39 : a.eval (.tmp 39) = .agg #[.int .i64 dp, .int .i64 cl, .int .i64 tg, .bool co, .slice xd xm xk] := hv 12 _ (show 12 < 17 by decide) (hdep 12 (by decide +kernel)) rfl
                exact rg_call rfl (wn_yes rfl rfl g13) (run_cl2 rfl e38 e39 eg_follow) (R := fun w' => Below W.heap.size W w') (HF.out W) (fun w' h => below_via hS h (Nat.le_refl _))
              · have g14 : a.eval (.tmp 33) = .bool true := hv 6 _ (show 6 < 17 by decide) (hdep 6 (by decide +kernel)) rfl
                have e40 : a.eval (.tmp 40) = .bool false := hv 13 _ (show 13 < 17 by decide) (hdep 13 (by decide +kernel)) rfl
                exact rg_val rfl (wn_yes rfl rfl g14) (run_un (v := .bool true) rfl e40 (by simp [go_sem])) hS
              · have g15 : a.eval (.tmp 30) = .bool false := hv 3 _ (show 3 < 17 by decide) (hdep 3 (by decide +kernel)) rfl
                have e33 : a.eval (.tmp 33) = .bool true := hv 6 _ (show 6 < 17 by decide) (hdep 6 (by decide +kernel)) rfl
                have e41 : a.eval (.tmp 41) = .bool true := hv 14 _ (show 14 < 17 by decide) (hdep 14 (by decide +kernel)) rfl
                exact rg_val rfl (wn_yes rfl rfl g15) (run_pk rfl e33 e41 rfl rfl) hS
              · have e30 : a.eval (.tmp 30) = .bool false := hv 3 _ (show 3 < 17 by decide) (hdep 3 (by decide +kernel)) rfl
                have e42 : a.eval (.tmp 42) = .bool true := hv 15 _ (show 15 < 17 by decide) (hdep 15 (by decide +kernel)) rfl
                exact rg_val rfl (wn_any rfl) (run_pk rfl e30 rfl e42 rfl) hS
            rw [frG17_1ffff rfl rfl rfl rfl rfl rfl rfl rfl rfl rfl rfl rfl rfl rfl rfl rfl rfl rfl]
            simp only [List.setIfInBounds_toArray, List.set_cons_succ, List.set_cons_zero, List.getD_cons_zero, List.getD_cons_succ]
            have H5 : Hid (Below w3.heap.size w3 W) := hS
            clear hS
            go_wp2
            go_ret
            exact ⟨retB HE.out, (H1.out.1.trans (HB3.out.mono H1.out.1.size)).trans (H5.out.mono (by have := H1.out.1.size; omega))⟩
          | true =>
            have HF := HFY true hfo (by simp only []; omega) (by simp only []; omega) (.slice yd ym yk)
            have HE : Hid (R = restB L (i + 1) ∧ ∃ z, (L.map (·.dp))[i + 1 - 1]? = some z ∧ 0 ≤ z ∧ z < 64) :=
              ⟨by rw [HST3.out, hfo]; rfl, dp, HDP.out, HFD3.out hfo⟩
            clear hb3 hB3 p0 p1 p2 p3 p4 q0 q1 q2 q3 q4 HS0 HF0 HFY HST2 HFD2 hst hfo hj hj1 hy hR2 hz1 hz2 hz3 hz4 hyy
            refine wp_region_still (fun k => ([.agg #[.int .i64 dp, .int .i64 cl, .int .i64 tg, .bool co, .slice xd xm xk], .bool true, .bool false, .bool false, .int .i64 (i : Int), .bool true, .bool true, .slice (some ⟨b, o, none⟩) n c, .int .i64 (i : Int), .int .i64 (j : Int), .pointer (some ⟨b, o + j * 5, none⟩), .agg #[.int .i64 dq, .int .i64 cl2, .int .i64 tg2, .bool cq, .slice yd ym yk], .agg #[.int .i64 dp, .int .i64 cl, .int .i64 tg, .bool co, .slice xd xm xk], .bool true, .bool false, .bool false, .bool false] : List Value).getD k undef) (fun W => Below w3.heap.size w3 W) rfl (by decide +kernel) (show dstB _ 45 = true by decide +kernel) (Below.refl _ _).drew (fun W hS => ?_) (fun i L W a hi hno hdep hv hn h0 hS => ?_)
            rotate_left
            · replace hi : i < 17 := hi
              obtain rfl | rfl | rfl | rfl | rfl | rfl | rfl | rfl | rfl | rfl | rfl | rfl | rfl | rfl | rfl | rfl | rfl : i = 0 ∨ i = 1 ∨ i = 2 ∨ i = 3 ∨ i = 4 ∨ i = 5 ∨ i = 6 ∨ i = 7 ∨ i = 8 ∨ i = 9 ∨ i = 10 ∨ i = 11 ∨ i = 12 ∨ i = 13 ∨ i = 14 ∨ i = 15 ∨ i = 16 := by omega
              · have x4 : a.eval (.tmp 4) = .pointer (some ⟨wr.heap.size, 0, none⟩) := (h0 4 (by decide +kernel)).trans rfl
                exact rg_load rfl (wn_any rfl) rfl x4 (below_blk hS hlt3 HBX.out).whole Tryz.underlying59 rfl Tryz.sizeE rfl hS
              · have e27 : a.eval (.tmp 27) = .agg #[.int .i64 dp, .int .i64 cl, .int .i64 tg, .bool co, .slice xd xm xk] := hv 0 _ (show 0 < 17 by decide) (hdep 0 (by decide +kernel)) rfl
                exact rg_call rfl (wn_any rfl) (run_cl1 rfl e27 eg_stand) (R := fun w' => Below W.heap.size W w') (HS.out W) (fun w' h => below_via hS h (Nat.le_refl _))
              · have e28 : a.eval (.tmp 28) = .bool true := hv 1 _ (show 1 < 17 by decide) (hdep 1 (by decide +kernel)) rfl
                exact rg_val rfl (wn_any rfl) (run_un (v := .bool false) rfl e28 (by simp [go_sem])) hS
              · have e29 : a.eval (.tmp 29) = .bool false := hv 2 _ (show 2 < 17 by decide) (hdep 2 (by decide +kernel)) rfl
                exact rg_val rfl (wn_any rfl) (run_mv rfl e29) hS
              · have g4 : a.eval (.tmp 30) = .bool false := hv 3 _ (show 3 < 17 by decide) (hdep 3 (by decide +kernel)) rfl
                have x3 : a.eval (.tmp 3) = .int .i64 (i : Int) := (h0 3 (by decide +kernel)).trans rfl
                exact rg_val rfl (wn_yes rfl rfl g4) (run_mv rfl x3) hS
              · have g5 : a.eval (.tmp 30) = .bool false := hv 3 _ (show 3 < 17 by decide) (hdep 3 (by decide +kernel)) rfl
                have e31 : a.eval (.tmp 31) = .int .i64 (i : Int) := hv 4 _ (show 4 < 17 by decide) (hdep 4 (by decide +kernel)) rfl
                exact rg_val rfl (wn_yes rfl rfl g5) (run_bin (v := .bool true) rfl e31 rfl (by simp [go_sem, hip])) hS
              · have g6 : a.eval (.tmp 30) = .bool false := hv 3 _ (show 3 < 17 by decide) (hdep 3 (by decide +kernel)) rfl
                have e32 : a.eval (.tmp 32) = .bool true := hv 5 _ (show 5 < 17 by decide) (hdep 5 (by decide +kernel)) rfl
                exact rg_val rfl (wn_yes rfl rfl g6) (run_mv rfl e32) hS
              · have g7 : a.eval (.tmp 33) = .bool true := hv 6 _ (show 6 < 17 by decide) (hdep 6 (by decide +kernel)) rfl
                have x0 : a.eval (.tmp 0) = .slice (some ⟨b, o, none⟩) n c := (h0 0 (by decide +kernel)).trans rfl
                exact rg_val rfl (wn_yes rfl rfl g7) (run_mv rfl x0) hS
              · have g8 : a.eval (.tmp 33) = .bool true := hv 6 _ (show 6 < 17 by decide) (hdep 6 (by decide +kernel)) rfl
                have x3 : a.eval (.tmp 3) = .int .i64 (i : Int) := (h0 3 (by decide +kernel)).trans rfl
                exact rg_val rfl (wn_yes rfl rfl g8) (run_mv rfl x3) hS
              · have g9 : a.eval (.tmp 33) = .bool true := hv 6 _ (show 6 < 17 by decide) (hdep 6 (by decide +kernel)) rfl
                have e35 : a.eval (.tmp 35) = .int .i64 (i : Int) := hv 8 _ (show 8 < 17 by decide) (hdep 8 (by decide +kernel)) rfl
                exact rg_val rfl (wn_yes rfl rfl g9) (run_bin (v := .int .i64 (j : Int)) rfl e35 rfl (by simp [go_sem, hjI, hjw2])) hS
              · have g10 : a.eval (.tmp 33) = .bool true := hv 6 _ (show 6 < 17 by decide) (hdep 6 (by decide +kernel)) rfl
                have e34 : a.eval (.tmp 34) = .slice (some ⟨b, o, none⟩) n c := hv 7 _ (show 7 < 17 by decide) (hdep 7 (by decide +kernel)) rfl
                have e36 : a.eval (.tmp 36) = .int .i64 (j : Int) := hv 9 _ (show 9 < 17 by decide) (hdep 9 (by decide +kernel)) rfl
                exact rg_val rfl (wn_yes rfl rfl g10) (run_ia (v := .pointer (some ⟨b, o + j * 5, none⟩)) rfl e34 e36 (by simp [go_sem, Instr.indexAt, hjn2])) hS
              · have g11 : a.eval (.tmp 33) = .bool true := hv 6 _ (show 6 < 17 by decide) (hdep 6 (by decide +kernel)) rfl
                have e37 : a.eval (.tmp 37) = .pointer (some ⟨b, o + j * 5, none⟩) := hv 10 _ (show 10 < 17 by decide) (hdep 10 (by decide +kernel)) rfl
                exact rg_load rfl (wn_yes rfl rfl g11) rfl e37 (rng_below HYR.out hbj hS) Tryz.underlying59 rfl Tryz.sizeE rfl hS
              · have g12 : a.eval (.tmp 33) = .bool true := hv 6 _ (show 6 < 17 by decide) (hdep 6 (by decide +kernel)) rfl
                have x4 : a.eval (.tmp 4) = .pointer (some ⟨wr.heap.size, 0, none⟩) := (h0 4 (by decide +kernel)).trans rfl
                exact rg_load rfl (wn_yes rfl rfl g12) rfl x4 (below_blk hS hlt3 HBX.out).whole Tryz.underlying59 rfl Tryz.sizeE rfl hS
              · have g13 : a.eval (.tmp 33) = .bool true := hv 6 _ (show 6 < 17 by decide) (hdep 6 (by decide +kernel)) rfl
                have e38 : a.eval (.tmp 38) = .agg #[.int .i64 dq, .int .i64 cl2, .int .i64 tg2, .bool cq, .slice yd ym yk] := hv 11 _ (show 11 < 17 by decide) (hdep 11 (by decide +kernel)) rfl
                have e39 : a.eval (.tmp 39) = .agg #[.int .i64 dp, .int .i64 cl, .int .i64 tg, .bool co, .slice xd xm xk] := hv 12 _ (show 12 < 17 by decide) (hdep 12 (by decide +kernel)) rfl
                exact rg_call rfl (wn_yes rfl rfl g13) (run_cl2 rfl e38 e39 eg_follow) (R := fun w' => Below W.heap.size W w') (HF.out W) (fun w' h => below_via hS h (Nat.le_refl _))
              · have g14 : a.eval (.tmp 33) = .bool true := hv 6 _ (show 6 < 17 by decide) (hdep 6 (by decide +kernel)) rfl
                have e40 : a.eval (.tmp 40) = .bool true := hv 13 _ (show 13 < 17 by decide) (hdep 13 (by decide +kernel)) rfl
                exact rg_val rfl (wn_yes rfl rfl g14) (run_un (v := .bool false) rfl e40 (by simp [go_sem])) hS
              · have g15 : a.eval (.tmp 30) = .bool false := hv 3 _ (show 3 < 17 by decide) (hdep 3 (by decide +kernel)) rfl
                have e33 : a.eval (.tmp 33) = .bool true := hv 6 _ (show 6 < 17 by decide) (hdep 6 (by decide +kernel)) rfl
                have e41 : a.eval (.tmp 41) = .bool false := hv 14 _ (show 14 < 17 by decide) (hdep 14 (by decide +kernel)) rfl
                exact rg_val rfl (wn_yes rfl rfl g15) (run_pk rfl e33 e41 rfl rfl) hS
              · have e30 : a.eval (.tmp 30) = .bool false := hv 3 _ (show 3 < 17 by decide) (hdep 3 (by decide +kernel)) rfl
                have e42 : a.eval (.tmp 42) = .bool false := hv 15 _ (show 15 < 17 by decide) (hdep 15 (by decide +kernel)) rfl
                exact rg_val rfl (wn_any rfl) (run_pk rfl e30 rfl e42 rfl) hS
            rw [frG17_1ffff rfl rfl rfl rfl rfl rfl rfl rfl rfl rfl rfl rfl rfl rfl rfl rfl rfl rfl]
            simp only [List.setIfInBounds_toArray, List.set_cons_succ, List.set_cons_zero, List.getD_cons_zero, List.getD_cons_succ]
            have H5 : Hid (Below w3.heap.size w3 W) := hS
            clear hS
            go_wp2
            go_roundw
            case rel => exact ⟨i + 1, by omega, by go_num, (H1.out.1.trans (HB3.out.mono H1.out.1.size)).trans (H5.out.mono (by have := H1.out.1.size; omega)), fun _ => HE.out⟩
            case measure => simp [intOf]; omega
    · obtain rfl : i = n := by omega
      have HE : Hid (true = R) := by
        show _ = _
        rw [(H1.out.2 (by omega)).1, ← HX.out.2.2, restB_end]
      clear hI hB
      go_wp2
      go_ret
      exact ⟨retB HE.out, H1.out.1⟩
end Go.Proofs.YtefebamomdcaaaaGreatDoor
