/-
  Ber: settled walked: the tree with whole strings and with data of its own (mkb56.py).
-/
import Derived.Test.YtefebamomdcaaaaGreatDoorK25
namespace Go.Proofs.YtefebamomdcaaaaGreatDoor
open Go.RowKit
theorem frG12_ffa {ops : Array Oper} {V : Nat → Value} {t : Array Value} {d0 d1 d2 d3 d4 d5 d6 d7 d8 d10 : Nat} (hs : ops.size = 12) (h0 : dstOf ops 0 = some d0) (h1 : dstOf ops 1 = some d1) (h2 : dstOf ops 2 = some d2) (h3 : dstOf ops 3 = some d3) (h4 : dstOf ops 4 = some d4) (h5 : dstOf ops 5 = some d5) (h6 : dstOf ops 6 = some d6) (h7 : dstOf ops 7 = some d7) (h8 : dstOf ops 8 = some d8) (h9 : dstOf ops 9 = none) (h10 : dstOf ops 10 = some d10) (h11 : dstOf ops 11 = none) : frF ops V t ops.size = ((((((((((t.setIfInBounds d0 (V 0)).setIfInBounds d1 (V 1)).setIfInBounds d2 (V 2)).setIfInBounds d3 (V 3)).setIfInBounds d4 (V 4)).setIfInBounds d5 (V 5)).setIfInBounds d6 (V 6)).setIfInBounds d7 (V 7)).setIfInBounds d8 (V 8)).setIfInBounds d10 (V 10)) := by
  rw [hs]
  simp only [frF, h0, h1, h2, h3, h4, h5, h6, h7, h8, h9, h10, h11]
theorem frG14_3fff {ops : Array Oper} {V : Nat → Value} {t : Array Value} {d0 d1 d2 d3 d4 d5 d6 d7 d8 d9 d10 d11 d12 d13 : Nat} (hs : ops.size = 14) (h0 : dstOf ops 0 = some d0) (h1 : dstOf ops 1 = some d1) (h2 : dstOf ops 2 = some d2) (h3 : dstOf ops 3 = some d3) (h4 : dstOf ops 4 = some d4) (h5 : dstOf ops 5 = some d5) (h6 : dstOf ops 6 = some d6) (h7 : dstOf ops 7 = some d7) (h8 : dstOf ops 8 = some d8) (h9 : dstOf ops 9 = some d9) (h10 : dstOf ops 10 = some d10) (h11 : dstOf ops 11 = some d11) (h12 : dstOf ops 12 = some d12) (h13 : dstOf ops 13 = some d13) : frF ops V t ops.size = ((((((((((((((t.setIfInBounds d0 (V 0)).setIfInBounds d1 (V 1)).setIfInBounds d2 (V 2)).setIfInBounds d3 (V 3)).setIfInBounds d4 (V 4)).setIfInBounds d5 (V 5)).setIfInBounds d6 (V 6)).setIfInBounds d7 (V 7)).setIfInBounds d8 (V 8)).setIfInBounds d9 (V 9)).setIfInBounds d10 (V 10)).setIfInBounds d11 (V 11)).setIfInBounds d12 (V 12)).setIfInBounds d13 (V 13)) := by
  rw [hs]
  simp only [frF, h0, h1, h2, h3, h4, h5, h6, h7, h8, h9, h10, h11, h12, h13]
theorem eg_joined (args : Array Value) (w : World) : (callFunc 98 args).run Tryz.prog w = .ok (.enter 98 args) w := by
  have g1 : ¬ Tryz.f98.name = "runtime.NumGoroutine" := by decide +kernel
  have g2 : Tryz.f98.body.isNone = false := by kernel_rfl
  have g3 : ¬ Tryz.f98.body = none := fun h => by rw [h] at g2; cases g2
  simp [go_sem, callFunc, Tryz.func98, g1, g3]
theorem ElS.cap {w : World} {a : Option Addr} {n c : Nat} {L : List Te} (h : ElS w (.slice a n c) L) : n = L.length ∧ L.length ≤ c := by
  obtain ⟨a', c', Y, h1, h2, _⟩ := h
  simp only [Value.slice.injEq] at h1
  obtain ⟨_, rfl, rfl⟩ := h1
  exact ⟨rfl, h2⟩
set_option maxRecDepth 20000 in
set_option maxHeartbeats 8000000 in
theorem settled_any {w : World} (v : Value) (L : List Te) (hv : ElS w v L) (h0 : 0 < L.length) (hn : L.length ≤ 65536) (hU : ∀ x ∈ L, U8s x.d) (hD : datL L ≤ 1099511627776) (hP : SetP L) :
    Calls Tryz.prog 69 #[v] w fun e w' => (∃ r, e = .returned r ∧ Elems w.heap.size w' r (setL L)) ∧ Below w.heap.size w w' := by
  obtain ⟨n, hnn⟩ : ∃ n, L.length = n := ⟨_, rfl⟩
  obtain ⟨a, c, rfl⟩ : ∃ a c, v = .slice a n c := by obtain ⟨a, c, Y, h, _⟩ := hv; exact ⟨a, c, by rw [h, hnn]⟩
  obtain ⟨b, o, _, _, _, rfl, hb, -⟩ := hv.at h0
  have hnc0 := hv.cap.2
  have HX : Hid (ElS w (.slice (some ⟨b, o, none⟩) n c) L ∧ L.length = n ∧ (∀ x ∈ L, U8s x.d) ∧ datL L ≤ 1099511627776 ∧ SetP L) := ⟨hv, hnn, hU, hD, hP⟩
  obtain ⟨O, hO⟩ : ∃ O, setL L = O := ⟨_, rfl⟩
  rw [hO]
  have HO : Hid (setL L = O) := hO
  have hn6 : n ≤ 65536 := by omega
  have hnc : n ≤ c := by omega
  clear hv h0 hn hU hD hP hO hnn hnc0
  go_enter Tryz.func69, Tryz.ntmps69
  go_upto_region 2 with (refine wpList_mkM _ rfl _ _ 25 rfl zE 59 56 Tryz.undE Tryz.infoE 0 n rfl rfl (by omega) (by omega) (by omega) ?_; intro w1 hB1 hb1 hs1)
  have H1 : Hid (Below w.heap.size w w1 ∧ Elems w.heap.size w1 (.slice (some ⟨w.heap.size, 0, none⟩) 0 n) []) := ⟨hb1, [], rfl, ⟨by simp [elCells], .inr ⟨w.heap.size, _, n, rfl, Nat.le_refl _, hB1, by simp, Nat.zero_le _, by simp [elCells], by unfold maxLen; omega⟩⟩, by simp, List.Pairwise.nil⟩
  clear hB1 hb1 hs1
  go_wp2_with fail
  go_loopw [3, 4] (fun mv iv wr => ∃ (i : Nat) (D : List Te) (m0 : Value), m0 = mv ∧ iv = .int .i64 i ∧ i ≤ n ∧ Elems w.heap.size wr m0 D ∧ D.length ≤ i ∧ D ++ setL (L.drop i) = O ∧ Below w.heap.size w wr) (fun _ iv _ => n - (intOf iv).toNat)
  case atStart => exact ⟨0, [], _, rfl, rfl, Nat.zero_le _, H1.out.2, Nat.le_refl _, by rw [List.drop_zero, List.nil_append]; exact HO.out, H1.out.1⟩
  case round =>
    obtain ⟨i, D, m0, rfl, rfl, hi, hE, hDi, hDO, hbl⟩ := hrel
    obtain ⟨wo, hwr⟩ : ∃ x, x = wr := ⟨_, rfl⟩
    subst hwr
    by_cases hlt : i < n
    · have hltI : (i : Int) < (n : Int) := by omega
      have hltn : i < n := hlt
      have hiL : i < L.length := by rw [HX.out.2.1]; exact hlt
      obtain ⟨Y, hY, hm, hrows, hap⟩ := hE
      obtain ⟨dn, hdn⟩ : ∃ dn, Y.length = dn := ⟨_, rfl⟩
      have hdD : dn = D.length := by rw [← hdn, ← hY, List.length_map]
      obtain ⟨am, cm, hmv⟩ := hm.ne
      rw [hdn] at hmv hm
      subst hmv
      have HE : Hid (Y.map (·.1) = D ∧ Below w.heap.size w wo ∧ MRow 5 59 w.heap.size wo (.slice am dn cm) dn (elCells Y) ∧ (∀ y ∈ Y, Row .u8 5 w.heap.size wo y.2 y.1.d) ∧ Apart (Y.map (·.2)) ∧ Y.length = dn) := ⟨hY, hbl, hm, hrows, hap, hdn⟩
      have hwo : w.heap.size ≤ wo.heap.size := hbl.size
      obtain ⟨b', o', xd, xm, xk, hbo, hbw, p0, p1, p2, p3, p4, hxs⟩ := HX.out.1.at hiL
      cases hbo
      replace p0 := (hbl.cell (p := ⟨b, o + i * 5, none⟩) hbw).trans p0
      replace p1 := (hbl.cell (p := ⟨b, o + i * 5 + 1, none⟩) hbw).trans p1
      replace p2 := (hbl.cell (p := ⟨b, o + i * 5 + 2, none⟩) hbw).trans p2
      replace p3 := (hbl.cell (p := ⟨b, o + i * 5 + 3, none⟩) hbw).trans p3
      replace p4 := (hbl.cell (p := ⟨b, o + i * 5 + 4, none⟩) hbw).trans p4
      obtain ⟨x, hx⟩ : ∃ x, L[i] = x := ⟨_, rfl⟩
      have hstep : D ++ setL (x :: L.drop (i + 1)) = O := by rw [← hDO, List.drop_eq_getElem_cons hiL, hx]
      have hPx := HX.out.2.2.2.2 i x (by rw [List.getElem?_eq_getElem hiL, hx])
      have hUx := HX.out.2.2.1 x (by rw [← hx]; exact List.getElem_mem _)
      have hdx := datL_mem (x := x) (L := L) (by rw [← hx]; exact List.getElem_mem _)
      rw [hx] at p0 p1 p2 p3 hxs
      have hdn6 : dn ≤ 65536 := by omega
      have hdni : dn ≤ i := by omega
      have hwi : IntKind.i64.wrap ((i : Int) + 1) = (i : Int) + 1 := by rw [IntKind.wrap_i64]; omega
      have hi1 : ((i + 1 : Nat) : Int) = (i : Int) + 1 := by omega
      obtain ⟨dp, cl, tg, co, d⟩ := x
      simp only [] at p0 p1 p2 p3 hxs hPx hUx hdx
      cases hc : cstr ⟨dp, cl, tg, co, d⟩ with
      | true =>
        have hco : co = true := by unfold cstr at hc; simp only [decide_eq_true_eq] at hc; exact hc.2.2
        subst hco
        have HST : Hid (D ++ setL (⟨dp, cl, tg, true, d⟩ :: L.drop (i + 1)) = O ∧ cstr ⟨dp, cl, tg, true, d⟩ = true) := ⟨hstep, hc⟩
        have HPX : Hid (segOk tg (dpr dp (L.drop (i + 1)))) := hPx.1 hc
        clear hbl hY hm hrows hap hdn hx hstep hPx hUx hdx hDO hxs hdD hDi
        have HCS : Hid (∀ W : World, Calls Tryz.prog 97 #[.agg #[.int .i64 dp, .int .i64 cl, .int .i64 tg, .bool true, .slice xd xm xk]] W fun e w' => e = .returned (.bool true) ∧ Below W.heap.size W w') := fun W => by have := cstr_any (w := W) ⟨dp, cl, tg, true, d⟩ (.slice xd xm xk); rwa [hc] at this
        clear hc
        go_upto_region 5 with (fail)
        refine wp_gen (fun W => Below wo.heap.size wo W ∧ Blk 59 W wo.heap.size [.int .i64 dp, .int .i64 cl, .int .i64 tg, .bool true, .slice xd xm xk]) ⟨al1 _, Blk.new _ wo _⟩ ?_
        rintro w3 ⟨hb3, hB3⟩
        have e0 : w3.cell? ⟨wo.heap.size, 0, none⟩ = some (.int .i64 dp) := hB3.cell 0
        have e1 : w3.cell? ⟨wo.heap.size, 1, none⟩ = some (.int .i64 cl) := hB3.cell 1
        have e2 : w3.cell? ⟨wo.heap.size, 2, none⟩ = some (.int .i64 tg) := hB3.cell 2
        have e3 : w3.cell? ⟨wo.heap.size, 3, none⟩ = some (.bool true) := hB3.cell 3
        have e4 : w3.cell? ⟨wo.heap.size, 4, none⟩ = some (.slice xd xm xk) := hB3.cell 4
        have H3 : Hid (Below wo.heap.size wo w3 ∧ Blk 59 w3 wo.heap.size [.int .i64 dp, .int .i64 cl, .int .i64 tg, .bool true, .slice xd xm xk]) := ⟨hb3, hB3⟩
        clear hb3 hB3 p0 p1 p2 p3 p4
        go_wp2_with fail
        refine (HCS.out _).mono ?_
        rintro ev w4 ⟨rfl, hb4⟩
        have H4 : Hid (Below wo.heap.size wo w4 ∧ Blk 59 w4 wo.heap.size [.int .i64 dp, .int .i64 cl, .int .i64 tg, .bool true, .slice xd xm xk]) := ⟨below_via H3.out.1 hb4 (Nat.le_refl _), below_blk hb4 H3.out.2.lt H3.out.2⟩
        clear hb4 e0 e1 e2 e3 e4
        go_wp2_with fail
        go_loopw [6] (fun nv wy => ∃ nx : Nat, nv = .int .i64 nx ∧ i + 1 ≤ nx ∧ nx ≤ n ∧ (∀ k, i < k → k < nx → dp < (L.getD k noTe).dp) ∧ Below w4.heap.size w4 wy) (fun nv _ => n - (intOf nv).toNat)
        case atStart => exact ⟨i + 1, by go_num, Nat.le_refl _, hlt, fun k h1 h2 => by omega, Below.refl _ _⟩
        case round =>
          obtain ⟨nx, rfl, hn1, hn2, hdeep, hby⟩ := hrel
          have HQ : Hid (Below w4.heap.size w4 wr) := hby
          have HDP : Hid (∀ k, i < k → k < nx → dp < (L.getD k noTe).dp) := hdeep
          have hbx : wo.heap.size < wr.heap.size := Nat.lt_of_lt_of_le H4.out.2.lt hby.size
          have hx0 : wr.cell? ⟨wo.heap.size, 0, none⟩ = some (.int .i64 dp) := (below_blk hby H4.out.2.lt H4.out.2).cell 0
          have hWo : Below wo.heap.size wo wr := below_via H4.out.1 hby (Nat.le_refl _)
          clear hby hdeep
          by_cases hq : nx < n
          · have hnxI : (nx : Int) < (n : Int) := by omega
            have hnxn : nx < n := hq
            have hnL : nx < L.length := by rw [HX.out.2.1]; exact hq
            obtain ⟨b'', o'', _, _, _, hbo, -, q0, -⟩ := HX.out.1.at hnL
            cases hbo
            replace q0 := ((HE.out.2.1.trans (hWo.mono hwo)).cell (p := ⟨b, o + nx * 5, none⟩) hbw).trans q0
            obtain ⟨dq, hdq0⟩ : ∃ dq, L[nx].dp = dq := ⟨_, rfl⟩
            have hgd : (L.getD nx noTe).dp = dq := by rw [List.getD_eq_getElem?_getD, List.getElem?_eq_getElem hnL]; exact hdq0
            rw [hdq0] at q0
            have HCQ : Hid (∀ W : World, Below wr.heap.size wr W → W.cell? ⟨b, o + nx * 5, none⟩ = some (.int .i64 dq) ∧ W.cell? ⟨wo.heap.size, 0, none⟩ = some (.int .i64 dp)) := fun W hW => ⟨(hW.cell (p := ⟨b, o + nx * 5, none⟩) (Nat.lt_of_lt_of_le hbw (Nat.le_trans hwo hWo.size))).trans q0, (hW.cell (p := ⟨wo.heap.size, 0, none⟩) hbx).trans hx0⟩
            have HGD : Hid ((L.getD nx noTe).dp = dq) := hgd
            clear hdq0 hgd q0 hx0 hWo
            by_cases hdq : dp < dq
            · go_upto_region 6 with (fail)
              refine wp_region_still (fun k => ([.int .i64 (nx : Int), .slice (some ⟨b, o, none⟩) n c, .int .i64 (n : Int), .bool true, .bool true, .slice (some ⟨b, o, none⟩) n c, .int .i64 (nx : Int), .pointer (some ⟨b, o + nx * 5, none⟩), .pointer (some ⟨b, o + nx * 5, none⟩), .int .i64 dq, .pointer (some ⟨wo.heap.size, 0, none⟩), .int .i64 dp, .bool true, .bool true] : List Value).getD k undef) (fun W => Below wr.heap.size wr W) rfl (by decide +kernel) (show dstB _ 60 = true by decide +kernel) (Below.refl _ _).drew (fun W hS => ?_) (fun i L W a hi hno hdep hv hn h0 hS => ?_)
              rotate_left
              · replace hi : i < 14 := hi
                obtain rfl | rfl | rfl | rfl | rfl | rfl | rfl | rfl | rfl | rfl | rfl | rfl | rfl | rfl : i = 0 ∨ i = 1 ∨ i = 2 ∨ i = 3 ∨ i = 4 ∨ i = 5 ∨ i = 6 ∨ i = 7 ∨ i = 8 ∨ i = 9 ∨ i = 10 ∨ i = 11 ∨ i = 12 ∨ i = 13 := by omega
                · have x6 : a.eval (.tmp 6) = .int .i64 (nx : Int) := (h0 6 (by decide +kernel)).trans rfl
                  exact rg_val rfl (wn_any rfl) (run_mv rfl x6) hS
                · have x0 : a.eval (.tmp 0) = .slice (some ⟨b, o, none⟩) n c := (h0 0 (by decide +kernel)).trans rfl
                  exact rg_val rfl (wn_any rfl) (run_mv rfl x0) hS
                · have e23 : a.eval (.tmp 23) = .slice (some ⟨b, o, none⟩) n c := hv 1 _ (show 1 < 14 by decide) (hdep 1 (by decide +kernel)) rfl
                  exact rg_val rfl (wn_any rfl) (run_ln rfl Tryz.undE e23) hS
                · have e22 : a.eval (.tmp 22) = .int .i64 (nx : Int) := hv 0 _ (show 0 < 14 by decide) (hdep 0 (by decide +kernel)) rfl
                  have e24 : a.eval (.tmp 24) = .int .i64 (n : Int) := hv 2 _ (show 2 < 14 by decide) (hdep 2 (by decide +kernel)) rfl
                  exact rg_val rfl (wn_any rfl) (run_bin (v := .bool true) rfl e22 e24 (by simp [go_sem, hnxI])) hS
                · have e25 : a.eval (.tmp 25) = .bool true := hv 3 _ (show 3 < 14 by decide) (hdep 3 (by decide +kernel)) rfl
                  exact rg_val rfl (wn_any rfl) (run_mv rfl e25) hS
                · have g5 : a.eval (.tmp 26) = .bool true := hv 4 _ (show 4 < 14 by decide) (hdep 4 (by decide +kernel)) rfl
                  have x0 : a.eval (.tmp 0) = .slice (some ⟨b, o, none⟩) n c := (h0 0 (by decide +kernel)).trans rfl
                  exact rg_val rfl (wn_yes rfl rfl g5) (run_mv rfl x0) hS
                · have g6 : a.eval (.tmp 26) = .bool true := hv 4 _ (show 4 < 14 by decide) (hdep 4 (by decide +kernel)) rfl
                  have x6 : a.eval (.tmp 6) = .int .i64 (nx : Int) := (h0 6 (by decide +kernel)).trans rfl
                  exact rg_val rfl (wn_yes rfl rfl g6) (run_mv rfl x6) hS
                · have g7 : a.eval (.tmp 26) = .bool true := hv 4 _ (show 4 < 14 by decide) (hdep 4 (by decide +kernel)) rfl
                  have e27 : a.eval (.tmp 27) = .slice (some ⟨b, o, none⟩) n c := hv 5 _ (show 5 < 14 by decide) (hdep 5 (by decide +kernel)) rfl
                  have e28 : a.eval (.tmp 28) = .int .i64 (nx : Int) := hv 6 _ (show 6 < 14 by decide) (hdep 6 (by decide +kernel)) rfl
                  exact rg_val rfl (wn_yes rfl rfl g7) (run_ia (v := .pointer (some ⟨b, o + nx * 5, none⟩)) rfl e27 e28 (by simp [go_sem, Instr.indexAt, hnxn])) hS
                · have g8 : a.eval (.tmp 26) = .bool true := hv 4 _ (show 4 < 14 by decide) (hdep 4 (by decide +kernel)) rfl
                  have e29 : a.eval (.tmp 29) = .pointer (some ⟨b, o + nx * 5, none⟩) := hv 7 _ (show 7 < 14 by decide) (hdep 7 (by decide +kernel)) rfl
                  exact rg_val rfl (wn_yes rfl rfl g8) (run_fa (v := .pointer (some ⟨b, o + nx * 5, none⟩)) rfl e29 (by simp [go_sem, Instr.fieldAt])) hS
                · have g9 : a.eval (.tmp 26) = .bool true := hv 4 _ (show 4 < 14 by decide) (hdep 4 (by decide +kernel)) rfl
                  have e30 : a.eval (.tmp 30) = .pointer (some ⟨b, o + nx * 5, none⟩) := hv 8 _ (show 8 < 14 by decide) (hdep 8 (by decide +kernel)) rfl
                  exact rg_val rfl (wn_yes rfl rfl g9) (run_ld (v := .int .i64 dq) rfl e30 (by simp [go_sem, Instr.loadAt, (HCQ.out W hS).1])) hS
                · have g10 : a.eval (.tmp 26) = .bool true := hv 4 _ (show 4 < 14 by decide) (hdep 4 (by decide +kernel)) rfl
                  have x5 : a.eval (.tmp 5) = .pointer (some ⟨wo.heap.size, 0, none⟩) := (h0 5 (by decide +kernel)).trans rfl
                  exact rg_val rfl (wn_yes rfl rfl g10) (run_fa (v := .pointer (some ⟨wo.heap.size, 0, none⟩)) rfl x5 (by simp [go_sem, Instr.fieldAt])) hS
                · have g11 : a.eval (.tmp 26) = .bool true := hv 4 _ (show 4 < 14 by decide) (hdep 4 (by decide +kernel)) rfl
                  have e32 : a.eval (.tmp 32) = .pointer (some ⟨wo.heap.size, 0, none⟩) := hv 10 _ (show 10 < 14 by decide) (hdep 10 (by decide +kernel)) rfl
                  exact rg_val rfl (wn_yes rfl rfl g11) (run_ld (v := .int .i64 dp) rfl e32 (by simp [go_sem, Instr.loadAt, (HCQ.out W hS).2])) hS
                · have g12 : a.eval (.tmp 26) = .bool true := hv 4 _ (show 4 < 14 by decide) (hdep 4 (by decide +kernel)) rfl
                  have e31 : a.eval (.tmp 31) = .int .i64 dq := hv 9 _ (show 9 < 14 by decide) (hdep 9 (by decide +kernel)) rfl
                  have e33 : a.eval (.tmp 33) = .int .i64 dp := hv 11 _ (show 11 < 14 by decide) (hdep 11 (by decide +kernel)) rfl
                  exact rg_val rfl (wn_yes rfl rfl g12) (run_bin (v := .bool true) rfl e31 e33 (by simp [go_sem, hdq])) hS
                · have e26 : a.eval (.tmp 26) = .bool true := hv 4 _ (show 4 < 14 by decide) (hdep 4 (by decide +kernel)) rfl
                  have e34 : a.eval (.tmp 34) = .bool true := hv 12 _ (show 12 < 14 by decide) (hdep 12 (by decide +kernel)) rfl
                  exact rg_val rfl (wn_any rfl) (run_pk rfl e26 e34 rfl rfl) hS
              rw [frG14_3fff rfl rfl rfl rfl rfl rfl rfl rfl rfl rfl rfl rfl rfl rfl rfl]
              simp only [List.setIfInBounds_toArray, List.set_cons_succ, List.set_cons_zero, List.getD_cons_zero, List.getD_cons_succ]
              have H6 : Hid (Below w4.heap.size w4 W) := HQ.out.trans (hS.mono HQ.out.size)
              clear hS
              go_wp2
              go_roundw
              case rel => exact ⟨nx + 1, by go_num, by omega, by omega, fun k h1 h2 => by rcases (by omega : k < nx ∨ k = nx) with h | rfl; exact HDP.out k h1 h; rw [HGD.out]; exact hdq, H6.out⟩
              case measure => simp [intOf]; omega
            · go_upto_region 6 with (fail)
              refine wp_region_still (fun k => ([.int .i64 (nx : Int), .slice (some ⟨b, o, none⟩) n c, .int .i64 (n : Int), .bool true, .bool true, .slice (some ⟨b, o, none⟩) n c, .int .i64 (nx : Int), .pointer (some ⟨b, o + nx * 5, none⟩), .pointer (some ⟨b, o + nx * 5, none⟩), .int .i64 dq, .pointer (some ⟨wo.heap.size, 0, none⟩), .int .i64 dp, .bool false, .bool false] : List Value).getD k undef) (fun W => Below wr.heap.size wr W) rfl (by decide +kernel) (show dstB _ 60 = true by decide +kernel) (Below.refl _ _).drew (fun W hS => ?_) (fun i L W a hi hno hdep hv hn h0 hS => ?_)
              rotate_left
              · replace hi : i < 14 := hi
                obtain rfl | rfl | rfl | rfl | rfl | rfl | rfl | rfl | rfl | rfl | rfl | rfl | rfl | rfl : i = 0 ∨ i = 1 ∨ i = 2 ∨ i = 3 ∨ i = 4 ∨ i = 5 ∨ i = 6 ∨ i = 7 ∨ i = 8 ∨ i = 9 ∨ i = 10 ∨ i = 11 ∨ i = 12 ∨ i = 13 := by omega
                · have x6 : a.eval (.tmp 6) = .int .i64 (nx : Int) := (h0 6 (by decide +kernel)).trans rfl
                  exact rg_val rfl (wn_any rfl) (run_mv rfl x6) hS
                · have x0 : a.eval (.tmp 0) = .slice (some ⟨b, o, none⟩) n c := (h0 0 (by decide +kernel)).trans rfl
                  exact rg_val rfl (wn_any rfl) (run_mv rfl x0) hS
                · have e23 : a.eval (.tmp 23) = .slice (some ⟨b, o, none⟩) n c := hv 1 _ (show 1 < 14 by decide) (hdep 1 (by decide +kernel)) rfl
                  exact rg_val rfl (wn_any rfl) (run_ln rfl Tryz.undE e23) hS
                · have e22 : a.eval (.tmp 22) = .int .i64 (nx : Int) := hv 0 _ (show 0 < 14 by decide) (hdep 0 (by decide +kernel)) rfl
                  have e24 : a.eval (.tmp 24) = .int .i64 (n : Int) := hv 2 _ (show 2 < 14 by decide) (hdep 2 (by decide +kernel)) rfl
                  exact rg_val rfl (wn_any rfl) (run_bin (v := .bool true) rfl e22 e24 (by simp [go_sem, hnxI])) hS
                · have e25 : a.eval (.tmp 25) = .bool true := hv 3 _ (show 3 < 14 by decide) (hdep 3 (by decide +kernel)) rfl
                  exact rg_val rfl (wn_any rfl) (run_mv rfl e25) hS
                · have g5 : a.eval (.tmp 26) = .bool true := hv 4 _ (show 4 < 14 by decide) (hdep 4 (by decide +kernel)) rfl
                  have x0 : a.eval (.tmp 0) = .slice (some ⟨b, o, none⟩) n c := (h0 0 (by decide +kernel)).trans rfl
                  exact rg_val rfl (wn_yes rfl rfl g5) (run_mv rfl x0) hS
                · have g6 : a.eval (.tmp 26) = .bool true := hv 4 _ (show 4 < 14 by decide) (hdep 4 (by decide +kernel)) rfl
                  have x6 : a.eval (.tmp 6) = .int .i64 (nx : Int) := (h0 6 (by decide +kernel)).trans rfl
                  exact rg_val rfl (wn_yes rfl rfl g6) (run_mv rfl x6) hS
                · have g7 : a.eval (.tmp 26) = .bool true := hv 4 _ (show 4 < 14 by decide) (hdep 4 (by decide +kernel)) rfl
                  have e27 : a.eval (.tmp 27) = .slice (some ⟨b, o, none⟩) n c := hv 5 _ (show 5 < 14 by decide) (hdep 5 (by decide +kernel)) rfl
                  have e28 : a.eval (.tmp 28) = .int .i64 (nx : Int) := hv 6 _ (show 6 < 14 by decide) (hdep 6 (by decide +kernel)) rfl
                  exact rg_val rfl (wn_yes rfl rfl g7) (run_ia (v := .pointer (some ⟨b, o + nx * 5, none⟩)) rfl e27 e28 (by simp [go_sem, Instr.indexAt, hnxn])) hS
                · have g8 : a.eval (.tmp 26) = .bool true := hv 4 _ (show 4 < 14 by decide) (hdep 4 (by decide +kernel)) rfl
                  have e29 : a.eval (.tmp 29) = .pointer (some ⟨b, o + nx * 5, none⟩) := hv 7 _ (show 7 < 14 by decide) (hdep 7 (by decide +kernel)) rfl
                  exact rg_val rfl (wn_yes rfl rfl g8) (run_fa (v := .pointer (some ⟨b, o + nx * 5, none⟩)) rfl e29 (by simp [go_sem, Instr.fieldAt])) hS
                · have g9 : a.eval (.tmp 26) = .bool true := hv 4 _ (show 4 < 14 by decide) (hdep 4 (by decide +kernel)) rfl
                  have e30 : a.eval (.tmp 30) = .pointer (some ⟨b, o + nx * 5, none⟩) := hv 8 _ (show 8 < 14 by decide) (hdep 8 (by decide +kernel)) rfl
                  exact rg_val rfl (wn_yes rfl rfl g9) (run_ld (v := .int .i64 dq) rfl e30 (by simp [go_sem, Instr.loadAt, (HCQ.out W hS).1])) hS
                · have g10 : a.eval (.tmp 26) = .bool true := hv 4 _ (show 4 < 14 by decide) (hdep 4 (by decide +kernel)) rfl
                  have x5 : a.eval (.tmp 5) = .pointer (some ⟨wo.heap.size, 0, none⟩) := (h0 5 (by decide +kernel)).trans rfl
                  exact rg_val rfl (wn_yes rfl rfl g10) (run_fa (v := .pointer (some ⟨wo.heap.size, 0, none⟩)) rfl x5 (by simp [go_sem, Instr.fieldAt])) hS
                · have g11 : a.eval (.tmp 26) = .bool true := hv 4 _ (show 4 < 14 by decide) (hdep 4 (by decide +kernel)) rfl
                  have e32 : a.eval (.tmp 32) = .pointer (some ⟨wo.heap.size, 0, none⟩) := hv 10 _ (show 10 < 14 by decide) (hdep 10 (by decide +kernel)) rfl
                  exact rg_val rfl (wn_yes rfl rfl g11) (run_ld (v := .int .i64 dp) rfl e32 (by simp [go_sem, Instr.loadAt, (HCQ.out W hS).2])) hS
                · have g12 : a.eval (.tmp 26) = .bool true := hv 4 _ (show 4 < 14 by decide) (hdep 4 (by decide +kernel)) rfl
                  have e31 : a.eval (.tmp 31) = .int .i64 dq := hv 9 _ (show 9 < 14 by decide) (hdep 9 (by decide +kernel)) rfl
                  have e33 : a.eval (.tmp 33) = .int .i64 dp := hv 11 _ (show 11 < 14 by decide) (hdep 11 (by decide +kernel)) rfl
                  exact rg_val rfl (wn_yes rfl rfl g12) (run_bin (v := .bool false) rfl e31 e33 (by simp [go_sem, hdq])) hS
                · have e26 : a.eval (.tmp 26) = .bool true := hv 4 _ (show 4 < 14 by decide) (hdep 4 (by decide +kernel)) rfl
                  have e34 : a.eval (.tmp 34) = .bool false := hv 12 _ (show 12 < 14 by decide) (hdep 12 (by decide +kernel)) rfl
                  exact rg_val rfl (wn_any rfl) (run_pk rfl e26 e34 rfl rfl) hS
              rw [frG14_3fff rfl rfl rfl rfl rfl rfl rfl rfl rfl rfl rfl rfl rfl rfl rfl]
              simp only [List.setIfInBounds_toArray, List.set_cons_succ, List.set_cons_zero, List.getD_cons_zero, List.getD_cons_succ]
              have HY : Hid (Below wo.heap.size wo W ∧ Blk 59 W wo.heap.size [.int .i64 dp, .int .i64 cl, .int .i64 tg, .bool true, .slice xd xm xk]) := ⟨(H4.out.1.trans (HQ.out.mono H4.out.1.size)).trans (hS.mono (Nat.le_trans H4.out.1.size HQ.out.size)), below_blk (HQ.out.trans (hS.mono HQ.out.size)) H4.out.2.lt H4.out.2⟩
              have hde := deep_end (d := dp) (R := L.drop (i + 1)) (k := nx - (i + 1)) (fun j hj => by have h9 := HDP.out (i + 1 + j) (by omega) (by omega); rwa [show (L.drop (i + 1)).getD j noTe = L.getD (i + 1 + j) noTe by simp [List.getD_eq_getElem?_getD]]) (by rw [List.length_drop, HX.out.2.1]; omega) (by right; rw [show (L.drop (i + 1)).getD (nx - (i + 1)) noTe = L.getD nx noTe by rw [List.getD_eq_getElem?_getD, List.getElem?_drop, show i + 1 + (nx - (i + 1)) = nx by omega, List.getD_eq_getElem?_getD], HGD.out]; exact hdq)
              have HJB : Hid ((L.drop (i + 1)).take (nx - (i + 1)) = dpr dp (L.drop (i + 1))) := hde.1.symm
              have HDR : Hid ((L.drop (i + 1)).dropWhile (fun y => decide (dp < y.dp)) = L.drop nx) := by
                show _ = _
                rw [hde.2, List.drop_drop, show i + 1 + (nx - (i + 1)) = nx by omega]
              obtain ⟨JB, hJB⟩ : ∃ JB, joinB tg (dpr dp (L.drop (i + 1))) = JB := ⟨_, rfl⟩
              obtain ⟨SD, hSD⟩ : ∃ SD, setD ⟨dp, cl, tg, false, JB⟩ = SD := ⟨_, rfl⟩
              obtain ⟨sa, hsa⟩ : ∃ sa : Option Addr, (if c = i + 1 then some ⟨b, o, none⟩ else some ⟨b, o + (i + 1) * 5, none⟩) = sa := ⟨_, rfl⟩
              have HRO : Hid (D ++ [⟨dp, cl, tg, false, SD⟩] ++ setL (L.drop nx) = O) := by
                show _ = _
                rw [← HST.out.1, setL_str HST.out.2]
                simp only []
                rw [HDR.out, hJB, hSD]
                simp
              have HJ : Hid (∀ W : World, Below wo.heap.size wo W → Calls Tryz.prog 98 #[.int .i64 tg, .slice sa (nx - (i + 1)) (c - (i + 1))] W fun e w' => (∃ r, e = .returned r ∧ Row .u8 5 W.heap.size w' r JB) ∧ Below W.heap.size W w') := fun W' hW' => by
                have hel := (HX.out.1.below (HE.out.2.1.trans (hW'.mono hwo))).cut (i := i + 1) (j := nx) (by omega) (by rw [HX.out.2.1]; omega)
                rw [hsa, HJB.out] at hel
                have hdd := datL_app (L.take (i + 1)) (L.drop (i + 1))
                rw [List.take_append_drop] at hdd
                have hdt := datL_take (L.drop (i + 1)) (nx - (i + 1))
                rw [HJB.out] at hdt
                have hdl : (dpr dp (L.drop (i + 1))).length ≤ L.length := by rw [← HJB.out, List.length_take, List.length_drop]; omega
                have := joined_any (w := W') tg _ (dpr dp (L.drop (i + 1))) hel (by have := HX.out.2.2.2.1; omega) (by rw [HX.out.2.1] at hdl; omega) HPX.out
                rw [hJB] at this; exact this
              have HUJ : Hid (U8s JB ∧ JB.length ≤ 1152921504606846976) := by
                refine ⟨by rw [← hJB]; exact joinB_u8 fun y hy => HX.out.2.2.1 y (List.mem_of_mem_drop (List.mem_of_mem_take (by rw [HJB.out]; exact hy))), ?_⟩
                rw [← hJB]
                have h1 := joinB_len tg (dpr dp (L.drop (i + 1)))
                have h2 := datL_take (L.drop (i + 1)) (nx - (i + 1))
                rw [HJB.out] at h2
                have h3 := datL_app (L.take (i + 1)) (L.drop (i + 1))
                rw [List.take_append_drop] at h3
                have h4 := HX.out.2.2.2.1
                omega
              have HJK : Hid (setOk ⟨dp, cl, tg, false, JB⟩) := by
                have h1 := join_ok HST.out.2 HPX.out
                simp only [] at h1
                rw [hJB] at h1; exact h1
              have HSD : Hid (setD ⟨dp, cl, tg, false, JB⟩ = SD) := hSD
              have hnx1 : i + 1 ≤ nx := hn1
              have hnxc : nx ≤ c := by omega
              clear hde hJB hSD hS
              go_upto_region 8 with (fail)
              refine wp_region_cl (β := Value) (fun bv k => ([.pointer (some ⟨wo.heap.size, 2, none⟩), .int .i64 tg, .slice (some ⟨b, o, none⟩) n c, .int .i64 (i : Int), .int .i64 ((i : Int) + 1), .int .i64 (nx : Int), .slice sa (nx - (i + 1)) (c - (i + 1)), bv, .pointer (some ⟨wo.heap.size, 3, none⟩), undef, .pointer (some ⟨wo.heap.size, 4, none⟩), undef] : List Value).getD k undef) (fun bv L W => (Below wo.heap.size wo W ∧ (Up L 7 → Row .u8 5 (wo.heap.size + 1) W bv JB) ∧ ∃ c3 c4, Blk 59 W wo.heap.size [.int .i64 dp, .int .i64 cl, .int .i64 tg, c3, c4] ∧ (Up L 9 → c3 = .bool false) ∧ (Up L 11 → c4 = bv))) (.slice none 0 0) rfl (by decide +kernel) (show dstB _ 60 = true by decide +kernel) ⟨HY.out.1.drew, fun u => absurd u not_up_new, _, _, HY.out.2.drewN 1, fun u => absurd u not_up_new, fun u => absurd u not_up_new⟩ (fun bv LB WT hup hS => ?_) (fun k bv LB W a hk hno hsz hdep hv h0 hcl hS => ?_)
              rotate_left
              · replace hk : k < 12 := hk
                have st : ∀ (j : Nat) (W' : World), j ≠ 7 → j ≠ 9 → j ≠ 11 → W' = W → (Below wo.heap.size wo W' ∧ (Up (LB.setIfInBounds j true) 7 → Row .u8 5 (wo.heap.size + 1) W' bv JB) ∧ ∃ c3 c4, Blk 59 W' wo.heap.size [.int .i64 dp, .int .i64 cl, .int .i64 tg, c3, c4] ∧ (Up (LB.setIfInBounds j true) 9 → c3 = .bool false) ∧ (Up (LB.setIfInBounds j true) 11 → c4 = bv)) := by
                  rintro j W' n7 n9 n11 rfl
                  obtain ⟨s1, s2, c3, c4, s3, s4, s5⟩ := hS
                  have e : ∀ q, q ≠ j → Up (LB.setIfInBounds j true) q → Up LB q := fun q hq u => by unfold Up at u ⊢; rwa [getD_setB hq] at u
                  exact ⟨s1, fun u => s2 (e 7 (fun h => n7 h.symm) u), c3, c4, s3, fun u => s4 (e 9 (fun h => n9 h.symm) u), fun u => s5 (e 11 (fun h => n11 h.symm) u)⟩
                have eU : ∀ j q, q ≠ j → Up (LB.setIfInBounds j true) q → Up LB q := fun j q hq u => by unfold Up at u ⊢; rwa [getD_setB hq] at u
                have x5 : a.eval (.tmp 5) = .pointer (some ⟨wo.heap.size, 0, none⟩) := (h0 5 (by decide +kernel)).trans rfl
                have x0 : a.eval (.tmp 0) = .slice (some ⟨b, o, none⟩) n c := (h0 0 (by decide +kernel)).trans rfl
                have x4 : a.eval (.tmp 4) = .int .i64 (i : Int) := (h0 4 (by decide +kernel)).trans rfl
                have x6 : a.eval (.tmp 6) = .int .i64 (nx : Int) := (h0 6 (by decide +kernel)).trans rfl
                obtain rfl | rfl | rfl | rfl | rfl | rfl | rfl | rfl | rfl | rfl | rfl | rfl : k = 0 ∨ k = 1 ∨ k = 2 ∨ k = 3 ∨ k = 4 ∨ k = 5 ∨ k = 6 ∨ k = 7 ∨ k = 8 ∨ k = 9 ∨ k = 10 ∨ k = 11 := by omega
                · exact rg_val rfl (wn_any rfl) (run_fa (v := .pointer (some ⟨wo.heap.size, 2, none⟩)) rfl x5 (by simp [go_sem, Instr.fieldAt])) (st 0 W (by decide) (by decide) (by decide) rfl)
                · have e38 : a.eval (.tmp 38) = .pointer (some ⟨wo.heap.size, 2, none⟩) := hv 0 _ (show 0 < 12 by decide) (hdep 0 (by decide +kernel)) rfl
                  obtain ⟨c3, c4, sb, _⟩ := hS.2.2
                  have q2 : W.cell? ⟨wo.heap.size, 2, none⟩ = some (.int .i64 tg) := sb.cell 2
                  exact rg_val rfl (wn_any rfl) (run_ld (v := .int .i64 tg) rfl e38 (by simp [go_sem, Instr.loadAt, q2])) (st 1 W (by decide) (by decide) (by decide) rfl)
                · exact rg_val rfl (wn_any rfl) (run_mv rfl x0) (st 2 W (by decide) (by decide) (by decide) rfl)
                · exact rg_val rfl (wn_any rfl) (run_mv rfl x4) (st 3 W (by decide) (by decide) (by decide) rfl)
                · have e41 : a.eval (.tmp 41) = .int .i64 (i : Int) := hv 3 _ (show 3 < 12 by decide) (hdep 3 (by decide +kernel)) rfl
                  exact rg_val rfl (wn_any rfl) (run_bin (v := .int .i64 ((i : Int) + 1)) rfl e41 rfl (by simp [go_sem, hwi])) (st 4 W (by decide) (by decide) (by decide) rfl)
                · exact rg_val rfl (wn_any rfl) (run_mv rfl x6) (st 5 W (by decide) (by decide) (by decide) rfl)
                · have e40 : a.eval (.tmp 40) = .slice (some ⟨b, o, none⟩) n c := hv 2 _ (show 2 < 12 by decide) (hdep 2 (by decide +kernel)) rfl
                  have e42 : a.eval (.tmp 42) = .int .i64 ((i + 1 : Nat) : Int) := by rw [hi1]; exact hv 4 _ (show 4 < 12 by decide) (hdep 4 (by decide +kernel)) rfl
                  have e43 : a.eval (.tmp 43) = .int .i64 (nx : Int) := hv 5 _ (show 5 < 12 by decide) (hdep 5 (by decide +kernel)) rfl
                  exact rg_val rfl (wn_any rfl) (Eq.trans (run_slc rfl (by kernel_rfl) (m := 5) (by kernel_rfl) e40 e42 e43 hnx1 hnxc) (by rw [hsa]; rfl)) (st 6 W (by decide) (by decide) (by decide) rfl)
                · have e39 : a.eval (.tmp 39) = .int .i64 tg := hv 1 _ (show 1 < 12 by decide) (hdep 1 (by decide +kernel)) rfl
                  have e44 : a.eval (.tmp 44) = .slice sa (nx - (i + 1)) (c - (i + 1)) := hv 6 _ (show 6 < 12 by decide) (hdep 6 (by decide +kernel)) rfl
                  refine rg_callx rfl (wn_any rfl) (run_cl2 rfl e39 e44 eg_joined) (R := fun v w' => Row .u8 5 W.heap.size w' v JB ∧ Below W.heap.size W w') ((HJ.out W hS.1).mono ?_) (fun v => v) (fun v => rfl) (fun v k hk => ?_) (fun v w' h => ?_)
                  · rintro e w' ⟨⟨r, h1, h2⟩, h3⟩; exact ⟨r, h1, h2, h3⟩
                  · rcases k with _ | _ | _ | _ | _ | _ | _ | _ | k
                    all_goals first | rfl | exact absurd rfl hk
                  · obtain ⟨s1, s2, c3, c4, s3, s4, s5⟩ := hS
                    have hn11 : ¬ Up LB 11 := fun u => hno (hcl 11 u 7 (by decide +kernel))
                    refine ⟨below_via s1 h.2 (Nat.le_refl _), fun _ => h.1.mono s3.lt, c3, c4, below_blk h.2 s3.lt s3, fun u => s4 (eU 7 9 (by decide) u), fun u => absurd (eU 7 11 (by decide) u) hn11⟩
                · exact rg_val rfl (wn_any rfl) (run_fa (v := .pointer (some ⟨wo.heap.size, 3, none⟩)) rfl x5 (by simp [go_sem, Instr.fieldAt])) (st 8 W (by decide) (by decide) (by decide) rfl)
                · have e46 : a.eval (.tmp 46) = .pointer (some ⟨wo.heap.size, 3, none⟩) := hv 8 _ (show 8 < 12 by decide) (hdep 8 (by decide +kernel)) rfl
                  obtain ⟨s1, s2, c3, c4, s3, s4, s5⟩ := hS
                  have q3 : W.cell? ⟨wo.heap.size, 3, none⟩ = some c3 := s3.cell 3
                  have f3 := s3.frozen 3
                  refine rg_st1 (W' := W.setCell ⟨wo.heap.size, 3, none⟩ (.bool false)) rfl (wn_any rfl) rfl (run_s1 rfl e46 rfl (by simp [go_sem, Instr.storeAt, q3, f3])) ⟨s1.setCell (Nat.le_refl _) _, fun u => (s2 (eU 9 7 (by decide) u)).upd (Upd.set W _ 3 _) (by omega), .bool false, c4, s3.set 3 _, fun _ => rfl, fun u => s5 (eU 9 11 (by decide) u)⟩
                · exact rg_val rfl (wn_any rfl) (run_fa (v := .pointer (some ⟨wo.heap.size, 4, none⟩)) rfl x5 (by simp [go_sem, Instr.fieldAt])) (st 10 W (by decide) (by decide) (by decide) rfl)
                · have e47 : a.eval (.tmp 47) = .pointer (some ⟨wo.heap.size, 4, none⟩) := hv 10 _ (show 10 < 12 by decide) (hdep 10 (by decide +kernel)) rfl
                  have u7 : Up LB 7 := hdep 7 (by decide +kernel)
                  have e45 : a.eval (.tmp 45) = bv := hv 7 _ (show 7 < 12 by decide) u7 rfl
                  obtain ⟨s1, s2, c3, c4, s3, s4, s5⟩ := hS
                  have r7 := s2 u7
                  obtain ⟨ja, jc, hj⟩ := r7.ne
                  have q4 : W.cell? ⟨wo.heap.size, 4, none⟩ = some c4 := s3.cell 4
                  have f4 := s3.frozen 4
                  refine rg_st1 (W' := W.setCell ⟨wo.heap.size, 4, none⟩ bv) rfl (wn_any rfl) rfl (run_s1 rfl e47 e45 (by subst hj; simp [go_sem, Instr.storeAt, q4, f4])) ⟨s1.setCell (Nat.le_refl _) _, fun u => r7.upd (Upd.set W _ 4 _) (by omega), c3, bv, s3.set 4 _, fun u => s4 (eU 11 9 (by decide) u), fun _ => rfl⟩
              rw [frG12_ffa rfl rfl rfl rfl rfl rfl rfl rfl rfl rfl rfl rfl rfl]
              simp only [List.setIfInBounds_toArray, List.set_cons_succ, List.set_cons_zero, List.getD_cons_zero, List.getD_cons_succ]
              obtain ⟨s1, s2, c3', c4', s3, s4, s5⟩ := hS
              have s2 := s2 (hup 7 (by decide))
              have s4 := s4 (hup 9 (by decide))
              have s5 := s5 (hup 11 (by decide))
              subst s4; subst s5
              obtain ⟨ja, jc, hj⟩ := s2.ne
              obtain ⟨jl, hjl⟩ : ∃ jl, JB.length = jl := ⟨_, rfl⟩
              rw [hjl] at hj
              subst hj
              have HT : Hid (Below wo.heap.size wo WT ∧ Blk 59 WT wo.heap.size [.int .i64 dp, .int .i64 cl, .int .i64 tg, .bool false, .slice ja jl jc] ∧ Row .u8 5 (wo.heap.size + 1) WT (.slice ja jl jc) JB) := ⟨s1, s3, s2⟩
              clear s1 s2 s3 hup hjl
              have HSE : Hid (∀ W : World, Row .u8 5 (wo.heap.size + 1) W (.slice ja jl jc) JB → wo.heap.size < W.heap.size → Calls Tryz.prog 99 #[.agg #[.int .i64 dp, .int .i64 cl, .int .i64 tg, .bool false, .slice ja jl jc]] W fun e w' => e = .returned (.tuple #[]) ∧ Row .u8 5 (wo.heap.size + 1) w' (.slice ja jl jc) SD ∧ Below (wo.heap.size + 1) W w') := fun W' hr' hl' => by
                have := settle_any (w := W') ⟨dp, cl, tg, false, JB⟩ (wo.heap.size + 1) (.slice ja jl jc) hr' HUJ.out.1 hl' HUJ.out.2 HJK.out.1 HJK.out.2
                rw [HSD.out] at this; exact this
              have c0 : WT.cell? ⟨wo.heap.size, 0, none⟩ = some (.int .i64 dp) := HT.out.2.1.cell 0
              have c1 : WT.cell? ⟨wo.heap.size, 1, none⟩ = some (.int .i64 cl) := HT.out.2.1.cell 1
              have c2 : WT.cell? ⟨wo.heap.size, 2, none⟩ = some (.int .i64 tg) := HT.out.2.1.cell 2
              have c3 : WT.cell? ⟨wo.heap.size, 3, none⟩ = some (.bool false) := HT.out.2.1.cell 3
              have c4 : WT.cell? ⟨wo.heap.size, 4, none⟩ = some (.slice ja jl jc) := HT.out.2.1.cell 4
              have hbT : wo.heap.size < WT.heap.size := HT.out.2.1.lt
              go_wp2_with fail
              refine (HSE.out WT HT.out.2.2 hbT).mono ?_
              rintro ev w9 ⟨rfl, hr9, hb9⟩
              have hB9 := below_blk hb9 (Nat.lt_succ_self _) HT.out.2.1
              have H9 : Hid (Below wo.heap.size wo w9 ∧ Blk 59 w9 wo.heap.size [.int .i64 dp, .int .i64 cl, .int .i64 tg, .bool false, .slice ja jl jc] ∧ Row .u8 5 (wo.heap.size + 1) w9 (.slice ja jl jc) SD) := ⟨HT.out.1.trans (hb9.mono (Nat.le_succ _)), hB9, hr9⟩
              clear hr9 hb9 hB9 c0 c1 c2 c3 c4
              have c0 : w9.cell? ⟨wo.heap.size, 0, none⟩ = some (.int .i64 dp) := H9.out.2.1.cell 0
              have c1 : w9.cell? ⟨wo.heap.size, 1, none⟩ = some (.int .i64 cl) := H9.out.2.1.cell 1
              have c2 : w9.cell? ⟨wo.heap.size, 2, none⟩ = some (.int .i64 tg) := H9.out.2.1.cell 2
              have c3 : w9.cell? ⟨wo.heap.size, 3, none⟩ = some (.bool false) := H9.out.2.1.cell 3
              have c4 : w9.cell? ⟨wo.heap.size, 4, none⟩ = some (.slice ja jl jc) := H9.out.2.1.cell 4
              have hw9 : w.heap.size ≤ w9.heap.size := Nat.le_trans hwo H9.out.1.size
              go_upto_region 12 with (at_builtin; refine wpList_apm rfl (.tmp 54) (.tmp 56) 25 25 rfl 5 (.agg zE.toArray) rfl 59 56 Tryz.undE Tryz.infoE (by decide) w.heap.size _ dn _ rfl ((HE.out.2.2.1.below H9.out.1).alloc _) _ 1 [.int .i64 dp, .int .i64 cl, .int .i64 tg, .bool false, .slice ja jl jc] rfl (src_m (T := 59) Tryz.undE 5 (blk_nw (by simp) rfl) rfl (elem_one _ _ _ _ _ _ _)) (by omega) (by simp; omega) ?_; intro mv wA hrA hgA)
              have HA : Hid (Elems w.heap.size wA mv (D ++ [⟨dp, cl, tg, false, SD⟩]) ∧ Below w.heap.size w wA) := by
                refine ⟨Elems.snoc HE.out.1 (by rw [HE.out.2.2.2.2.2]; exact hrA) (fun y hy => (((HE.out.2.2.2.1 y hy).below H9.out.1).alloc _).mgrew8 hgA (by decide)) HE.out.2.2.2.2.1 (((H9.out.2.2.alloc _).mgrew8 hgA (by decide)).mono (by omega)) wo.heap.size (fun y hy b' h => ((HE.out.2.2.2.1 y hy).blk_lt h).2) (fun b' h => by have := (H9.out.2.2.blk_lt h).1; omega), ?_⟩
                have h1 : Below w.heap.size w w9 := HE.out.2.1.trans (H9.out.1.mono hwo)
                exact (al2' h1).trans (hgA.below ((HE.out.2.2.1.below H9.out.1).alloc _) (by simp; omega))
              clear hrA hgA c0 c1 c2 c3 c4
              go_wp2
              go_roundw
              case rel => exact ⟨nx, _, _, rfl, rfl, hn2, HA.out.1, by rw [List.length_append, List.length_singleton, ← HE.out.1, List.length_map, HE.out.2.2.2.2.2]; omega, HRO.out, HA.out.2⟩
              case measure => simp [intOf]; omega
          · have hnxI : ¬ (nx : Int) < (n : Int) := by omega
            clear hx0 hWo
            go_upto_region 6 with (fail)
            refine wp_region_still (fun k => ([.int .i64 (nx : Int), .slice (some ⟨b, o, none⟩) n c, .int .i64 (n : Int), .bool false, .bool false, undef, undef, undef, undef, undef, undef, undef, undef, .bool false] : List Value).getD k undef) (fun W => Below wr.heap.size wr W) rfl (by decide +kernel) (show dstB _ 60 = true by decide +kernel) (Below.refl _ _).drew (fun W hS => ?_) (fun i L W a hi hno hdep hv hn h0 hS => ?_)
            rotate_left
            · replace hi : i < 14 := hi
              obtain rfl | rfl | rfl | rfl | rfl | rfl | rfl | rfl | rfl | rfl | rfl | rfl | rfl | rfl : i = 0 ∨ i = 1 ∨ i = 2 ∨ i = 3 ∨ i = 4 ∨ i = 5 ∨ i = 6 ∨ i = 7 ∨ i = 8 ∨ i = 9 ∨ i = 10 ∨ i = 11 ∨ i = 12 ∨ i = 13 := by omega
              · have x6 : a.eval (.tmp 6) = .int .i64 (nx : Int) := (h0 6 (by decide +kernel)).trans rfl
                exact rg_val rfl (wn_any rfl) (run_mv rfl x6) hS
              · have x0 : a.eval (.tmp 0) = .slice (some ⟨b, o, none⟩) n c := (h0 0 (by decide +kernel)).trans rfl
                exact rg_val rfl (wn_any rfl) (run_mv rfl x0) hS
              · have e23 : a.eval (.tmp 23) = .slice (some ⟨b, o, none⟩) n c := hv 1 _ (show 1 < 14 by decide) (hdep 1 (by decide +kernel)) rfl
                exact rg_val rfl (wn_any rfl) (run_ln rfl Tryz.undE e23) hS
              · have e22 : a.eval (.tmp 22) = .int .i64 (nx : Int) := hv 0 _ (show 0 < 14 by decide) (hdep 0 (by decide +kernel)) rfl
                have e24 : a.eval (.tmp 24) = .int .i64 (n : Int) := hv 2 _ (show 2 < 14 by decide) (hdep 2 (by decide +kernel)) rfl
                exact rg_val rfl (wn_any rfl) (run_bin (v := .bool false) rfl e22 e24 (by simp [go_sem, hnxI])) hS
              · have e25 : a.eval (.tmp 25) = .bool false := hv 3 _ (show 3 < 14 by decide) (hdep 3 (by decide +kernel)) rfl
                exact rg_val rfl (wn_any rfl) (run_mv rfl e25) hS
              · have g5 : a.eval (.tmp 26) = .bool false := hv 4 _ (show 4 < 14 by decide) (hdep 4 (by decide +kernel)) rfl
                exact rg_skip rfl (wn_no rfl rfl g5) rfl hS
              · have g6 : a.eval (.tmp 26) = .bool false := hv 4 _ (show 4 < 14 by decide) (hdep 4 (by decide +kernel)) rfl
                exact rg_skip rfl (wn_no rfl rfl g6) rfl hS
              · have g7 : a.eval (.tmp 26) = .bool false := hv 4 _ (show 4 < 14 by decide) (hdep 4 (by decide +kernel)) rfl
                exact rg_skip rfl (wn_no rfl rfl g7) rfl hS
              · have g8 : a.eval (.tmp 26) = .bool false := hv 4 _ (show 4 < 14 by decide) (hdep 4 (by decide +kernel)) rfl
                exact rg_skip rfl (wn_no rfl rfl g8) rfl hS
              · have g9 : a.eval (.tmp 26) = .bool false := hv 4 _ (show 4 < 14 by decide) (hdep 4 (by decide +kernel)) rfl
                exact rg_skip rfl (wn_no rfl rfl g9) rfl hS
              · have g10 : a.eval (.tmp 26) = .bool false := hv 4 _ (show 4 < 14 by decide) (hdep 4 (by decide +kernel)) rfl
                exact rg_skip rfl (wn_no rfl rfl g10) rfl hS
              · have g11 : a.eval (.tmp 26) = .bool false := hv 4 _ (show 4 < 14 by decide) (hdep 4 (by decide +kernel)) rfl
                exact rg_skip rfl (wn_no rfl rfl g11) rfl hS
              · have g12 : a.eval (.tmp 26) = .bool false := hv 4 _ (show 4 < 14 by decide) (hdep 4 (by decide +kernel)) rfl
                exact rg_skip rfl (wn_no rfl rfl g12) rfl hS
              · have e26 : a.eval (.tmp 26) = .bool false := hv 4 _ (show 4 < 14 by decide) (hdep 4 (by decide +kernel)) rfl
                have e34 : a.eval (.tmp 34) = undef := hv 12 _ (show 12 < 14 by decide) (hdep 12 (by decide +kernel)) rfl
                exact rg_val rfl (wn_any rfl) (run_pk rfl e26 e34 rfl rfl) hS
            rw [frG14_3fff rfl rfl rfl rfl rfl rfl rfl rfl rfl rfl rfl rfl rfl rfl rfl]
            simp only [List.setIfInBounds_toArray, List.set_cons_succ, List.set_cons_zero, List.getD_cons_zero, List.getD_cons_succ]
            have HY : Hid (Below wo.heap.size wo W ∧ Blk 59 W wo.heap.size [.int .i64 dp, .int .i64 cl, .int .i64 tg, .bool true, .slice xd xm xk]) := ⟨(H4.out.1.trans (HQ.out.mono H4.out.1.size)).trans (hS.mono (Nat.le_trans H4.out.1.size HQ.out.size)), below_blk (HQ.out.trans (hS.mono HQ.out.size)) H4.out.2.lt H4.out.2⟩
            have hde := deep_end (d := dp) (R := L.drop (i + 1)) (k := nx - (i + 1)) (fun j hj => by have h9 := HDP.out (i + 1 + j) (by omega) (by omega); rwa [show (L.drop (i + 1)).getD j noTe = L.getD (i + 1 + j) noTe by simp [List.getD_eq_getElem?_getD]]) (by rw [List.length_drop, HX.out.2.1]; omega) (by left; rw [List.length_drop, HX.out.2.1]; omega)
            have HJB : Hid ((L.drop (i + 1)).take (nx - (i + 1)) = dpr dp (L.drop (i + 1))) := hde.1.symm
            have HDR : Hid ((L.drop (i + 1)).dropWhile (fun y => decide (dp < y.dp)) = L.drop nx) := by
              show _ = _
              rw [hde.2, List.drop_drop, show i + 1 + (nx - (i + 1)) = nx by omega]
            obtain ⟨JB, hJB⟩ : ∃ JB, joinB tg (dpr dp (L.drop (i + 1))) = JB := ⟨_, rfl⟩
            obtain ⟨SD, hSD⟩ : ∃ SD, setD ⟨dp, cl, tg, false, JB⟩ = SD := ⟨_, rfl⟩
            obtain ⟨sa, hsa⟩ : ∃ sa : Option Addr, (if c = i + 1 then some ⟨b, o, none⟩ else some ⟨b, o + (i + 1) * 5, none⟩) = sa := ⟨_, rfl⟩
            have HRO : Hid (D ++ [⟨dp, cl, tg, false, SD⟩] ++ setL (L.drop nx) = O) := by
              show _ = _
              rw [← HST.out.1, setL_str HST.out.2]
              simp only []
              rw [HDR.out, hJB, hSD]
              simp
            have HJ : Hid (∀ W : World, Below wo.heap.size wo W → Calls Tryz.prog 98 #[.int .i64 tg, .slice sa (nx - (i + 1)) (c - (i + 1))] W fun e w' => (∃ r, e = .returned r ∧ Row .u8 5 W.heap.size w' r JB) ∧ Below W.heap.size W w') := fun W' hW' => by
              have hel := (HX.out.1.below (HE.out.2.1.trans (hW'.mono hwo))).cut (i := i + 1) (j := nx) (by omega) (by rw [HX.out.2.1]; omega)
              rw [hsa, HJB.out] at hel
              have hdd := datL_app (L.take (i + 1)) (L.drop (i + 1))
              rw [List.take_append_drop] at hdd
              have hdt := datL_take (L.drop (i + 1)) (nx - (i + 1))
              rw [HJB.out] at hdt
              have hdl : (dpr dp (L.drop (i + 1))).length ≤ L.length := by rw [← HJB.out, List.length_take, List.length_drop]; omega
              have := joined_any (w := W') tg _ (dpr dp (L.drop (i + 1))) hel (by have := HX.out.2.2.2.1; omega) (by rw [HX.out.2.1] at hdl; omega) HPX.out
              rw [hJB] at this; exact this
            have HUJ : Hid (U8s JB ∧ JB.length ≤ 1152921504606846976) := by
              refine ⟨by rw [← hJB]; exact joinB_u8 fun y hy => HX.out.2.2.1 y (List.mem_of_mem_drop (List.mem_of_mem_take (by rw [HJB.out]; exact hy))), ?_⟩
              rw [← hJB]
              have h1 := joinB_len tg (dpr dp (L.drop (i + 1)))
              have h2 := datL_take (L.drop (i + 1)) (nx - (i + 1))
              rw [HJB.out] at h2
              have h3 := datL_app (L.take (i + 1)) (L.drop (i + 1))
              rw [List.take_append_drop] at h3
              have h4 := HX.out.2.2.2.1
              omega
            have HJK : Hid (setOk ⟨dp, cl, tg, false, JB⟩) := by
              have h1 := join_ok HST.out.2 HPX.out
              simp only [] at h1
              rw [hJB] at h1; exact h1
            have HSD : Hid (setD ⟨dp, cl, tg, false, JB⟩ = SD) := hSD
            have hnx1 : i + 1 ≤ nx := hn1
            have hnxc : nx ≤ c := by omega
            clear hde hJB hSD hS
            go_upto_region 8 with (fail)
            refine wp_region_cl (β := Value) (fun bv k => ([.pointer (some ⟨wo.heap.size, 2, none⟩), .int .i64 tg, .slice (some ⟨b, o, none⟩) n c, .int .i64 (i : Int), .int .i64 ((i : Int) + 1), .int .i64 (nx : Int), .slice sa (nx - (i + 1)) (c - (i + 1)), bv, .pointer (some ⟨wo.heap.size, 3, none⟩), undef, .pointer (some ⟨wo.heap.size, 4, none⟩), undef] : List Value).getD k undef) (fun bv L W => (Below wo.heap.size wo W ∧ (Up L 7 → Row .u8 5 (wo.heap.size + 1) W bv JB) ∧ ∃ c3 c4, Blk 59 W wo.heap.size [.int .i64 dp, .int .i64 cl, .int .i64 tg, c3, c4] ∧ (Up L 9 → c3 = .bool false) ∧ (Up L 11 → c4 = bv))) (.slice none 0 0) rfl (by decide +kernel) (show dstB _ 60 = true by decide +kernel) ⟨HY.out.1.drew, fun u => absurd u not_up_new, _, _, HY.out.2.drewN 1, fun u => absurd u not_up_new, fun u => absurd u not_up_new⟩ (fun bv LB WT hup hS => ?_) (fun k bv LB W a hk hno hsz hdep hv h0 hcl hS => ?_)
            rotate_left
            · replace hk : k < 12 := hk
              have st : ∀ (j : Nat) (W' : World), j ≠ 7 → j ≠ 9 → j ≠ 11 → W' = W → (Below wo.heap.size wo W' ∧ (Up (LB.setIfInBounds j true) 7 → Row .u8 5 (wo.heap.size + 1) W' bv JB) ∧ ∃ c3 c4, Blk 59 W' wo.heap.size [.int .i64 dp, .int .i64 cl, .int .i64 tg, c3, c4] ∧ (Up (LB.setIfInBounds j true) 9 → c3 = .bool false) ∧ (Up (LB.setIfInBounds j true) 11 → c4 = bv)) := by
                rintro j W' n7 n9 n11 rfl
                obtain ⟨s1, s2, c3, c4, s3, s4, s5⟩ := hS
                have e : ∀ q, q ≠ j → Up (LB.setIfInBounds j true) q → Up LB q := fun q hq u => by unfold Up at u ⊢; rwa [getD_setB hq] at u
                exact ⟨s1, fun u => s2 (e 7 (fun h => n7 h.symm) u), c3, c4, s3, fun u => s4 (e 9 (fun h => n9 h.symm) u), fun u => s5 (e 11 (fun h => n11 h.symm) u)⟩
              have eU : ∀ j q, q ≠ j → Up (LB.setIfInBounds j true) q → Up LB q := fun j q hq u => by unfold Up at u ⊢; rwa [getD_setB hq] at u
              have x5 : a.eval (.tmp 5) = .pointer (some ⟨wo.heap.size, 0, none⟩) := (h0 5 (by decide +kernel)).trans rfl
              have x0 : a.eval (.tmp 0) = .slice (some ⟨b, o, none⟩) n c := (h0 0 (by decide +kernel)).trans rfl
              have x4 : a.eval (.tmp 4) = .int .i64 (i : Int) := (h0 4 (by decide +kernel)).trans rfl
              have x6 : a.eval (.tmp 6) = .int .i64 (nx : Int) := (h0 6 (by decide +kernel)).trans rfl
              obtain rfl | rfl | rfl | rfl | rfl | rfl | rfl | rfl | rfl | rfl | rfl | rfl : k = 0 ∨ k = 1 ∨ k = 2 ∨ k = 3 ∨ k = 4 ∨ k = 5 ∨ k = 6 ∨ k = 7 ∨ k = 8 ∨ k = 9 ∨ k = 10 ∨ k = 11 := by omega
              · exact rg_val rfl (wn_any rfl) (run_fa (v := .pointer (some ⟨wo.heap.size, 2, none⟩)) rfl x5 (by simp [go_sem, Instr.fieldAt])) (st 0 W (by decide) (by decide) (by decide) rfl)
              · have e38 : a.eval (.tmp 38) = .pointer (some ⟨wo.heap.size, 2, none⟩) := hv 0 _ (show 0 < 12 by decide) (hdep 0 (by decide +kernel)) rfl
                obtain ⟨c3, c4, sb, _⟩ := hS.2.2
                have q2 : W.cell? ⟨wo.heap.size, 2, none⟩ = some (.int .i64 tg) := sb.cell 2
                exact rg_val rfl (wn_any rfl) (run_ld (v := .int .i64 tg) rfl e38 (by simp [go_sem, Instr.loadAt, q2])) (st 1 W (by decide) (by decide) (by decide) rfl)
              · exact rg_val rfl (wn_any rfl) (run_mv rfl x0) (st 2 W (by decide) (by decide) (by decide) rfl)
              · exact rg_val rfl (wn_any rfl) (run_mv rfl x4) (st 3 W (by decide) (by decide) (by decide) rfl)
              · have e41 : a.eval (.tmp 41) = .int .i64 (i : Int) := hv 3 _ (show 3 < 12 by decide) (hdep 3 (by decide +kernel)) rfl
                exact rg_val rfl (wn_any rfl) (run_bin (v := .int .i64 ((i : Int) + 1)) rfl e41 rfl (by simp [go_sem, hwi])) (st 4 W (by decide) (by decide) (by decide) rfl)
              · exact rg_val rfl (wn_any rfl) (run_mv rfl x6) (st 5 W (by decide) (by decide) (by decide) rfl)
              · have e40 : a.eval (.tmp 40) = .slice (some ⟨b, o, none⟩) n c := hv 2 _ (show 2 < 12 by decide) (hdep 2 (by decide +kernel)) rfl
                have e42 : a.eval (.tmp 42) = .int .i64 ((i + 1 : Nat) : Int) := by rw [hi1]; exact hv 4 _ (show 4 < 12 by decide) (hdep 4 (by decide +kernel)) rfl
                have e43 : a.eval (.tmp 43) = .int .i64 (nx : Int) := hv 5 _ (show 5 < 12 by decide) (hdep 5 (by decide +kernel)) rfl
                exact rg_val rfl (wn_any rfl) (Eq.trans (run_slc rfl (by kernel_rfl) (m := 5) (by kernel_rfl) e40 e42 e43 hnx1 hnxc) (by rw [hsa]; rfl)) (st 6 W (by decide) (by decide) (by decide) rfl)
              · have e39 : a.eval (.tmp 39) = .int .i64 tg := hv 1 _ (show 1 < 12 by decide) (hdep 1 (by decide +kernel)) rfl
                have e44 : a.eval (.tmp 44) = .slice sa (nx - (i + 1)) (c - (i + 1)) := hv 6 _ (show 6 < 12 by decide) (hdep 6 (by decide +kernel)) rfl
                refine rg_callx rfl (wn_any rfl) (run_cl2 rfl e39 e44 eg_joined) (R := fun v w' => Row .u8 5 W.heap.size w' v JB ∧ Below W.heap.size W w') ((HJ.out W hS.1).mono ?_) (fun v => v) (fun v => rfl) (fun v k hk => ?_) (fun v w' h => ?_)
                · rintro e w' ⟨⟨r, h1, h2⟩, h3⟩; exact ⟨r, h1, h2, h3⟩
                · rcases k with _ | _ | _ | _ | _ | _ | _ | _ | k
                  all_goals first | rfl | exact absurd rfl hk
                · obtain ⟨s1, s2, c3, c4, s3, s4, s5⟩ := hS
                  have hn11 : ¬ Up LB 11 := fun u => hno (hcl 11 u 7 (by decide +kernel))
                  refine ⟨below_via s1 h.2 (Nat.le_refl _), fun _ => h.1.mono s3.lt, c3, c4, below_blk h.2 s3.lt s3, fun u => s4 (eU 7 9 (by decide) u), fun u => absurd (eU 7 11 (by decide) u) hn11⟩
              · exact rg_val rfl (wn_any rfl) (run_fa (v := .pointer (some ⟨wo.heap.size, 3, none⟩)) rfl x5 (by simp [go_sem, Instr.fieldAt])) (st 8 W (by decide) (by decide) (by decide) rfl)
              · have e46 : a.eval (.tmp 46) = .pointer (some ⟨wo.heap.size, 3, none⟩) := hv 8 _ (show 8 < 12 by decide) (hdep 8 (by decide +kernel)) rfl
                obtain ⟨s1, s2, c3, c4, s3, s4, s5⟩ := hS
                have q3 : W.cell? ⟨wo.heap.size, 3, none⟩ = some c3 := s3.cell 3
                have f3 := s3.frozen 3
                refine rg_st1 (W' := W.setCell ⟨wo.heap.size, 3, none⟩ (.bool false)) rfl (wn_any rfl) rfl (run_s1 rfl e46 rfl (by simp [go_sem, Instr.storeAt, q3, f3])) ⟨s1.setCell (Nat.le_refl _) _, fun u => (s2 (eU 9 7 (by decide) u)).upd (Upd.set W _ 3 _) (by omega), .bool false, c4, s3.set 3 _, fun _ => rfl, fun u => s5 (eU 9 11 (by decide) u)⟩
              · exact rg_val rfl (wn_any rfl) (run_fa (v := .pointer (some ⟨wo.heap.size, 4, none⟩)) rfl x5 (by simp [go_sem, Instr.fieldAt])) (st 10 W (by decide) (by decide) (by decide) rfl)
              · have e47 : a.eval (.tmp 47) = .pointer (some ⟨wo.heap.size, 4, none⟩) := hv 10 _ (show 10 < 12 by decide) (hdep 10 (by decide +kernel)) rfl
                have u7 : Up LB 7 := hdep 7 (by decide +kernel)
                have e45 : a.eval (.tmp 45) = bv := hv 7 _ (show 7 < 12 by decide) u7 rfl
                obtain ⟨s1, s2, c3, c4, s3, s4, s5⟩ := hS
                have r7 := s2 u7
                obtain ⟨ja, jc, hj⟩ := r7.ne
                have q4 : W.cell? ⟨wo.heap.size, 4, none⟩ = some c4 := s3.cell 4
                have f4 := s3.frozen 4
                refine rg_st1 (W' := W.setCell ⟨wo.heap.size, 4, none⟩ bv) rfl (wn_any rfl) rfl (run_s1 rfl e47 e45 (by subst hj; simp [go_sem, Instr.storeAt, q4, f4])) ⟨s1.setCell (Nat.le_refl _) _, fun u => r7.upd (Upd.set W _ 4 _) (by omega), c3, bv, s3.set 4 _, fun u => s4 (eU 11 9 (by decide) u), fun _ => rfl⟩
            rw [frG12_ffa rfl rfl rfl rfl rfl rfl rfl rfl rfl rfl rfl rfl rfl]
            simp only [List.setIfInBounds_toArray, List.set_cons_succ, List.set_cons_zero, List.getD_cons_zero, List.getD_cons_succ]
            obtain ⟨s1, s2, c3', c4', s3, s4, s5⟩ := hS
            have s2 := s2 (hup 7 (by decide))
            have s4 := s4 (hup 9 (by decide))
            have s5 := s5 (hup 11 (by decide))
            subst s4; subst s5
            obtain ⟨ja, jc, hj⟩ := s2.ne
            obtain ⟨jl, hjl⟩ : ∃ jl, JB.length = jl := ⟨_, rfl⟩
            rw [hjl] at hj
            subst hj
            have HT : Hid (Below wo.heap.size wo WT ∧ Blk 59 WT wo.heap.size [.int .i64 dp, .int .i64 cl, .int .i64 tg, .bool false, .slice ja jl jc] ∧ Row .u8 5 (wo.heap.size + 1) WT (.slice ja jl jc) JB) := ⟨s1, s3, s2⟩
            clear s1 s2 s3 hup hjl
            have HSE : Hid (∀ W : World, Row .u8 5 (wo.heap.size + 1) W (.slice ja jl jc) JB → wo.heap.size < W.heap.size → Calls Tryz.prog 99 #[.agg #[.int .i64 dp, .int .i64 cl, .int .i64 tg, .bool false, .slice ja jl jc]] W fun e w' => e = .returned (.tuple #[]) ∧ Row .u8 5 (wo.heap.size + 1) w' (.slice ja jl jc) SD ∧ Below (wo.heap.size + 1) W w') := fun W' hr' hl' => by
              have := settle_any (w := W') ⟨dp, cl, tg, false, JB⟩ (wo.heap.size + 1) (.slice ja jl jc) hr' HUJ.out.1 hl' HUJ.out.2 HJK.out.1 HJK.out.2
              rw [HSD.out] at this; exact this
            have c0 : WT.cell? ⟨wo.heap.size, 0, none⟩ = some (.int .i64 dp) := HT.out.2.1.cell 0
            have c1 : WT.cell? ⟨wo.heap.size, 1, none⟩ = some (.int .i64 cl) := HT.out.2.1.cell 1
            have c2 : WT.cell? ⟨wo.heap.size, 2, none⟩ = some (.int .i64 tg) := HT.out.2.1.cell 2
            have c3 : WT.cell? ⟨wo.heap.size, 3, none⟩ = some (.bool false) := HT.out.2.1.cell 3
            have c4 : WT.cell? ⟨wo.heap.size, 4, none⟩ = some (.slice ja jl jc) := HT.out.2.1.cell 4
            have hbT : wo.heap.size < WT.heap.size := HT.out.2.1.lt
            go_wp2_with fail
            refine (HSE.out WT HT.out.2.2 hbT).mono ?_
            rintro ev w9 ⟨rfl, hr9, hb9⟩
            have hB9 := below_blk hb9 (Nat.lt_succ_self _) HT.out.2.1
            have H9 : Hid (Below wo.heap.size wo w9 ∧ Blk 59 w9 wo.heap.size [.int .i64 dp, .int .i64 cl, .int .i64 tg, .bool false, .slice ja jl jc] ∧ Row .u8 5 (wo.heap.size + 1) w9 (.slice ja jl jc) SD) := ⟨HT.out.1.trans (hb9.mono (Nat.le_succ _)), hB9, hr9⟩
            clear hr9 hb9 hB9 c0 c1 c2 c3 c4
            have c0 : w9.cell? ⟨wo.heap.size, 0, none⟩ = some (.int .i64 dp) := H9.out.2.1.cell 0
            have c1 : w9.cell? ⟨wo.heap.size, 1, none⟩ = some (.int .i64 cl) := H9.out.2.1.cell 1
            have c2 : w9.cell? ⟨wo.heap.size, 2, none⟩ = some (.int .i64 tg) := H9.out.2.1.cell 2
            have c3 : w9.cell? ⟨wo.heap.size, 3, none⟩ = some (.bool false) := H9.out.2.1.cell 3
            have c4 : w9.cell? ⟨wo.heap.size, 4, none⟩ = some (.slice ja jl jc) := H9.out.2.1.cell 4
            have hw9 : w.heap.size ≤ w9.heap.size := Nat.le_trans hwo H9.out.1.size
            go_upto_region 12 with (at_builtin; refine wpList_apm rfl (.tmp 54) (.tmp 56) 25 25 rfl 5 (.agg zE.toArray) rfl 59 56 Tryz.undE Tryz.infoE (by decide) w.heap.size _ dn _ rfl ((HE.out.2.2.1.below H9.out.1).alloc _) _ 1 [.int .i64 dp, .int .i64 cl, .int .i64 tg, .bool false, .slice ja jl jc] rfl (src_m (T := 59) Tryz.undE 5 (blk_nw (by simp) rfl) rfl (elem_one _ _ _ _ _ _ _)) (by omega) (by simp; omega) ?_; intro mv wA hrA hgA)
            have HA : Hid (Elems w.heap.size wA mv (D ++ [⟨dp, cl, tg, false, SD⟩]) ∧ Below w.heap.size w wA) := by
              refine ⟨Elems.snoc HE.out.1 (by rw [HE.out.2.2.2.2.2]; exact hrA) (fun y hy => (((HE.out.2.2.2.1 y hy).below H9.out.1).alloc _).mgrew8 hgA (by decide)) HE.out.2.2.2.2.1 (((H9.out.2.2.alloc _).mgrew8 hgA (by decide)).mono (by omega)) wo.heap.size (fun y hy b' h => ((HE.out.2.2.2.1 y hy).blk_lt h).2) (fun b' h => by have := (H9.out.2.2.blk_lt h).1; omega), ?_⟩
              have h1 : Below w.heap.size w w9 := HE.out.2.1.trans (H9.out.1.mono hwo)
              exact (al2' h1).trans (hgA.below ((HE.out.2.2.1.below H9.out.1).alloc _) (by simp; omega))
            clear hrA hgA c0 c1 c2 c3 c4
            go_wp2
            go_roundw
            case rel => exact ⟨nx, _, _, rfl, rfl, hn2, HA.out.1, by rw [List.length_append, List.length_singleton, ← HE.out.1, List.length_map, HE.out.2.2.2.2.2]; omega, HRO.out, HA.out.2⟩
            case measure => simp [intOf]; omega
      | false =>
        have HJK : Hid (setOk ⟨dp, cl, tg, co, d⟩) := hPx.2 hc
        have HUJ : Hid (U8s d ∧ d.length ≤ 1152921504606846976) := ⟨hUx, by have := HX.out.2.2.2.1; omega⟩
        obtain ⟨SD, hSD⟩ : ∃ SD, setD ⟨dp, cl, tg, co, d⟩ = SD := ⟨_, rfl⟩
        have HSD : Hid (setD ⟨dp, cl, tg, co, d⟩ = SD) := hSD
        have HRO : Hid (D ++ [⟨dp, cl, tg, co, SD⟩] ++ setL (L.drop (i + 1)) = O) := by
          show _ = _
          rw [← hstep, setL_one hc, ← hSD]
          simp
        have HDX : Hid (d.length ≤ datL L) := hdx
        have HXS : Hid (Sl .u8 w (.slice xd xm xk) d) := hxs
        clear hbl hY hm hrows hap hdn hx hstep hPx hUx hdx hDO hxs hdD hDi hSD
        have HCS : Hid (∀ W : World, Calls Tryz.prog 97 #[.agg #[.int .i64 dp, .int .i64 cl, .int .i64 tg, .bool co, .slice xd xm xk]] W fun e w' => e = .returned (.bool false) ∧ Below W.heap.size W w') := fun W => by have := cstr_any (w := W) ⟨dp, cl, tg, co, d⟩ (.slice xd xm xk); rwa [hc] at this
        clear hc
        go_upto_region 5 with (fail)
        refine wp_gen (fun W => Below wo.heap.size wo W ∧ Blk 59 W wo.heap.size [.int .i64 dp, .int .i64 cl, .int .i64 tg, .bool co, .slice xd xm xk]) ⟨al1 _, Blk.new _ wo _⟩ ?_
        rintro w3 ⟨hb3, hB3⟩
        have e0 : w3.cell? ⟨wo.heap.size, 0, none⟩ = some (.int .i64 dp) := hB3.cell 0
        have e1 : w3.cell? ⟨wo.heap.size, 1, none⟩ = some (.int .i64 cl) := hB3.cell 1
        have e2 : w3.cell? ⟨wo.heap.size, 2, none⟩ = some (.int .i64 tg) := hB3.cell 2
        have e3 : w3.cell? ⟨wo.heap.size, 3, none⟩ = some (.bool co) := hB3.cell 3
        have e4 : w3.cell? ⟨wo.heap.size, 4, none⟩ = some (.slice xd xm xk) := hB3.cell 4
        have H3 : Hid (Below wo.heap.size wo w3 ∧ Blk 59 w3 wo.heap.size [.int .i64 dp, .int .i64 cl, .int .i64 tg, .bool co, .slice xd xm xk]) := ⟨hb3, hB3⟩
        clear hb3 hB3 p0 p1 p2 p3 p4
        go_wp2_with fail
        refine (HCS.out _).mono ?_
        rintro ev w4 ⟨rfl, hb4⟩
        have H4 : Hid (Below wo.heap.size wo w4 ∧ Blk 59 w4 wo.heap.size [.int .i64 dp, .int .i64 cl, .int .i64 tg, .bool co, .slice xd xm xk]) := ⟨below_via H3.out.1 hb4 (Nat.le_refl _), below_blk hb4 H3.out.2.lt H3.out.2⟩
        clear hb4 e0 e1 e2 e3 e4
        have e4 : w4.cell? ⟨wo.heap.size, 4, none⟩ = some (.slice xd xm xk) := H4.out.2.cell 4
        go_upto_region 10 with (at_builtin; refine wpList_ap rfl (.const (.slice none 0 0)) (.tmp 49) 22 22 rfl .u8 5 1 Tryz.und8 Tryz.info8 (by decide) w4.heap.size (.slice none 0 0) [] rfl (Row.nil _ _ _ _) _ d rfl (src_sl Tryz.und8 (below_sl (HE.out.2.1.trans (H4.out.1.mono hwo)) HXS.out)) (by simp only [List.length_nil]; have := HX.out.2.2.2.1; have := HDX.out; omega) (Nat.le_refl _) ?_; intro v5 w5 hr5 hg5; rw [List.nil_append] at hr5; obtain ⟨ja, jc, hj5⟩ := hr5.ne; obtain ⟨jl, hjl⟩ : ∃ jl, d.length = jl := ⟨_, rfl⟩; rw [hjl] at hj5; subst hj5; have hb5 : Below w4.heap.size w4 w5 := hg5.below (B := w4.heap.size) (xs := []) (Row.nil _ _ _ _) (Nat.le_refl _); have hB5 := below_blk hb5 H4.out.2.lt H4.out.2; have q4 : w5.cell? ⟨wo.heap.size, 4, none⟩ = some (.slice xd xm xk) := hB5.cell 4; have f4 : w5.frozen? ⟨wo.heap.size, 4, none⟩ = false := hB5.frozen 4)
        have hBs := hB5.set 4 (.slice ja jl jc)
        have hrs := (hr5.mono (B' := wo.heap.size + 1) H4.out.2.lt).upd (Upd.set w5 wo.heap.size 4 (.slice ja jl jc)) (Nat.lt_succ_self _)
        have hbs : Below wo.heap.size wo (w5.setCell ⟨wo.heap.size, 4, none⟩ (.slice ja jl jc)) := (below_via H4.out.1 hb5 (Nat.le_refl _)).setCell (Nat.le_refl _) _
        refine wp_gen (fun W => Below wo.heap.size wo W ∧ Blk 59 W wo.heap.size [.int .i64 dp, .int .i64 cl, .int .i64 tg, .bool co, .slice ja jl jc] ∧ Row .u8 5 (wo.heap.size + 1) W (.slice ja jl jc) d) ⟨hbs, hBs, hrs⟩ ?_
        rintro WT ⟨hT1, hT2, hT3⟩
        have HT : Hid (Below wo.heap.size wo WT ∧ Blk 59 WT wo.heap.size [.int .i64 dp, .int .i64 cl, .int .i64 tg, .bool co, .slice ja jl jc] ∧ Row .u8 5 (wo.heap.size + 1) WT (.slice ja jl jc) d) := ⟨hT1, hT2, hT3⟩
        clear hT1 hT2 hT3 hBs hrs hbs hb5 hB5 q4 f4 e4 hr5 hg5 hjl
        have HSE : Hid (∀ W : World, Row .u8 5 (wo.heap.size + 1) W (.slice ja jl jc) d → wo.heap.size < W.heap.size → Calls Tryz.prog 99 #[.agg #[.int .i64 dp, .int .i64 cl, .int .i64 tg, .bool co, .slice ja jl jc]] W fun e w' => e = .returned (.tuple #[]) ∧ Row .u8 5 (wo.heap.size + 1) w' (.slice ja jl jc) SD ∧ Below (wo.heap.size + 1) W w') := fun W' hr' hl' => by
          have := settle_any (w := W') ⟨dp, cl, tg, co, d⟩ (wo.heap.size + 1) (.slice ja jl jc) hr' HUJ.out.1 hl' HUJ.out.2 HJK.out.1 HJK.out.2
          rw [HSD.out] at this; exact this
        have c0 : WT.cell? ⟨wo.heap.size, 0, none⟩ = some (.int .i64 dp) := HT.out.2.1.cell 0
        have c1 : WT.cell? ⟨wo.heap.size, 1, none⟩ = some (.int .i64 cl) := HT.out.2.1.cell 1
        have c2 : WT.cell? ⟨wo.heap.size, 2, none⟩ = some (.int .i64 tg) := HT.out.2.1.cell 2
        have c3 : WT.cell? ⟨wo.heap.size, 3, none⟩ = some (.bool co) := HT.out.2.1.cell 3
        have c4 : WT.cell? ⟨wo.heap.size, 4, none⟩ = some (.slice ja jl jc) := HT.out.2.1.cell 4
        have hbT : wo.heap.size < WT.heap.size := HT.out.2.1.lt
        go_wp2_with fail
        refine (HSE.out WT HT.out.2.2 hbT).mono ?_
        rintro ev w9 ⟨rfl, hr9, hb9⟩
        have hB9 := below_blk hb9 (Nat.lt_succ_self _) HT.out.2.1
        have H9 : Hid (Below wo.heap.size wo w9 ∧ Blk 59 w9 wo.heap.size [.int .i64 dp, .int .i64 cl, .int .i64 tg, .bool co, .slice ja jl jc] ∧ Row .u8 5 (wo.heap.size + 1) w9 (.slice ja jl jc) SD) := ⟨HT.out.1.trans (hb9.mono (Nat.le_succ _)), hB9, hr9⟩
        clear hr9 hb9 hB9 c0 c1 c2 c3 c4
        have c0 : w9.cell? ⟨wo.heap.size, 0, none⟩ = some (.int .i64 dp) := H9.out.2.1.cell 0
        have c1 : w9.cell? ⟨wo.heap.size, 1, none⟩ = some (.int .i64 cl) := H9.out.2.1.cell 1
        have c2 : w9.cell? ⟨wo.heap.size, 2, none⟩ = some (.int .i64 tg) := H9.out.2.1.cell 2
        have c3 : w9.cell? ⟨wo.heap.size, 3, none⟩ = some (.bool co) := H9.out.2.1.cell 3
        have c4 : w9.cell? ⟨wo.heap.size, 4, none⟩ = some (.slice ja jl jc) := H9.out.2.1.cell 4
        have hw9 : w.heap.size ≤ w9.heap.size := Nat.le_trans hwo H9.out.1.size
        go_upto_region 12 with (at_builtin; refine wpList_apm rfl (.tmp 54) (.tmp 56) 25 25 rfl 5 (.agg zE.toArray) rfl 59 56 Tryz.undE Tryz.infoE (by decide) w.heap.size _ dn _ rfl ((HE.out.2.2.1.below H9.out.1).alloc _) _ 1 [.int .i64 dp, .int .i64 cl, .int .i64 tg, .bool co, .slice ja jl jc] rfl (src_m (T := 59) Tryz.undE 5 (blk_nw (by simp) rfl) rfl (elem_one _ _ _ _ _ _ _)) (by omega) (by simp; omega) ?_; intro mv wA hrA hgA)
        have HA : Hid (Elems w.heap.size wA mv (D ++ [⟨dp, cl, tg, co, SD⟩]) ∧ Below w.heap.size w wA) := by
          refine ⟨Elems.snoc HE.out.1 (by rw [HE.out.2.2.2.2.2]; exact hrA) (fun y hy => (((HE.out.2.2.2.1 y hy).below H9.out.1).alloc _).mgrew8 hgA (by decide)) HE.out.2.2.2.2.1 (((H9.out.2.2.alloc _).mgrew8 hgA (by decide)).mono (by omega)) wo.heap.size (fun y hy b' h => ((HE.out.2.2.2.1 y hy).blk_lt h).2) (fun b' h => by have := (H9.out.2.2.blk_lt h).1; omega), ?_⟩
          have h1 : Below w.heap.size w w9 := HE.out.2.1.trans (H9.out.1.mono hwo)
          exact (al2' h1).trans (hgA.below ((HE.out.2.2.1.below H9.out.1).alloc _) (by simp; omega))
        clear hrA hgA c0 c1 c2 c3 c4
        go_wp2
        go_roundw
        case rel => exact ⟨i + 1, _, _, rfl, by go_num, hlt, HA.out.1, by rw [List.length_append, List.length_singleton, ← HE.out.1, List.length_map, HE.out.2.2.2.2.2]; omega, HRO.out, HA.out.2⟩
        case measure => simp [intOf]; omega
    · obtain rfl : i = n := by omega
      have hltI : ¬ (i : Int) < (i : Int) := by omega
      have HF : Hid (Elems w.heap.size wo m0 O ∧ Below w.heap.size w wo) := by
        refine ⟨?_, hbl⟩
        rw [List.drop_of_length_le (by rw [HX.out.2.1]; exact Nat.le_refl _), setL_nil, List.append_nil] at hDO
        rw [← hDO]; exact hE
      clear hE hbl hDO
      go_wp2
      go_ret
      exact ⟨⟨_, rfl, HF.out.1⟩, HF.out.2⟩
end Go.Proofs.YtefebamomdcaaaaGreatDoor
