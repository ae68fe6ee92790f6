/-
  Ber: the reference's Tree.
-/
import Derived.Test.YtefebamomdcaaaaGreatDoorK36
namespace Go.Proofs.YtefebamomdcaaaaGreatDoor
open Go.RowKit
set_option maxRecDepth 20000 in
set_option maxHeartbeats 16000000 in
theorem RTree_any {w : World} (v : Value) (L : List Te) (hv : ElS w v L) (hn : L.length ≤ 1152921504606846976) (hL : ∀ x ∈ L, x.d.length ≤ 9223372036854775807) :
    Calls Tryz.prog 37 #[v] w fun e w' => e = .returned (.bool (treeB L)) ∧ Below w.heap.size w w' := by
  obtain ⟨n, hnn⟩ : ∃ n, L.length = n := ⟨_, rfl⟩
  have HX : Hid (ElS w v L ∧ (∀ x ∈ L, x.d.length ≤ 9223372036854775807) ∧ L.length = n) := ⟨hv, hL, hnn⟩
  obtain ⟨a, c, rfl⟩ : ∃ a c, v = .slice a n c := by obtain ⟨a, c, Y, h, _⟩ := hv; exact ⟨a, c, by rw [h, hnn]⟩
  have hnM : n ≤ 1152921504606846976 := by omega
  clear hv hL hn
  by_cases hn0 : n = 0
  · have HF : Hid (treeB L = false) := tree_no0 (by omega)
    subst hn0
    clear hnn
    go_enter Tryz.func37, Tryz.ntmps37
    go_wp2
    go_ret
    exact ⟨by rw [HF.out]; rfl, Below.refl _ _⟩
  by_cases hnb : 65536 < n
  · have HF : Hid (treeB L = false) := tree_no0 (by omega)
    have h1 : (65536 : Int) < (n : Int) := by omega
    have h2 : ((n : Int) == 0) = false := by simp; omega
    clear hnn
    go_enter Tryz.func37, Tryz.ntmps37
    go_wp2
    go_ret
    exact ⟨by rw [HF.out]; rfl, Below.refl _ _⟩
  have h1 : ¬ (65536 : Int) < (n : Int) := by omega
  have h2 : ((n : Int) == 0) = false := by simp; omega
  have h3 : (0 : Int) < (n : Int) := by omega
  have hL0 : 0 < L.length := by omega
  obtain ⟨b, o, ad, m, cd, rfl, hbw, p0, -, -, -, -, -⟩ := HX.out.1.at hL0
  rw [Nat.zero_mul, Nat.add_zero] at p0
  obtain ⟨dz, hdz⟩ : ∃ z, L[0].dp = z := ⟨_, rfl⟩
  rw [hdz] at p0
  have h0n : 0 < n := by omega
  by_cases hz : dz = 0
  case neg =>
    have HF : Hid (treeB L = false) := tree_nod hL0 (by omega)
    have hzb : (dz != 0) = true := by simpa using hz
    clear hnn hdz hL0
    go_enter Tryz.func37, Tryz.ntmps37
    go_wp2
    go_ret
    exact ⟨by rw [HF.out]; rfl, Below.refl _ _⟩
  subst hz
  have HZ : Hid (L[0].dp = 0) := hdz
  clear hdz hnn
  go_enter Tryz.func37, Tryz.ntmps37
  go_wp2_with fail
  clear p0
  go_loopw [3] (fun iv wr => ∃ i : Nat, i ≤ n ∧ iv = .int .i64 (i : Int) ∧ Below w.heap.size w wr ∧ Hid (0 < i → treeB L = restB L i)) (fun iv _ => n - (intOf iv).toNat)
  case atStart => exact ⟨0, Nat.zero_le _, rfl, Below.refl _ _, fun h => by omega⟩
  case round =>
    obtain ⟨i, hi, rfl, hB, HI⟩ := hrel
    by_cases hlt : i < n
    · have l1 : (i : Int) < (n : Int) := by omega
      have hlS : i < L.length := by have := HX.out.2.2; omega
      obtain ⟨b', o', xd, xm, xk, hbo, _, p0, p1, p2, p3, p4, hxs⟩ := HX.out.1.at hlS
      cases hbo
      have hxl := HX.out.2.1 L[i] (List.getElem_mem _)
      obtain ⟨x, hx⟩ : ∃ x, L[i] = x := ⟨_, rfl⟩
      have HBAD : Hid (standB x = false → treeB L = false) := fun hs => by
        by_cases hi0 : i = 0
        · subst hi0
          rw [tree_rest (L := L) hL0 (by have := HX.out.2.2; omega) HZ.out, hx, hs]; rfl
        · obtain ⟨j, rfl⟩ : ∃ j, i = j + 1 := ⟨i - 1, by omega⟩
          rw [HI.out (by omega), restB_step (L := L) (j := j) hlS, hx, hs]; rfl
      rw [hx] at p0 p1 p2 p3 hxs hxl
      obtain ⟨dp, cl, tg, co, d⟩ := x
      have HXE : Hid (L[i] = (⟨dp, cl, tg, co, d⟩ : Te)) := hx
      simp only [] at p0 p1 p2 p3 hxs hxl
      have hdl : d.length = xm := by obtain ⟨_, _, h, _⟩ := hxs; simp only [Value.slice.injEq] at h; omega
      replace p0 : wr.cell? ⟨b, o + i * 5, none⟩ = some (.int .i64 dp) := (hB.cell (p := ⟨b, o + i * 5, none⟩) hbw).trans p0
      replace p1 : wr.cell? ⟨b, o + i * 5 + 1, none⟩ = some (.int .i64 cl) := (hB.cell (p := ⟨b, o + i * 5 + 1, none⟩) hbw).trans p1
      replace p2 : wr.cell? ⟨b, o + i * 5 + 2, none⟩ = some (.int .i64 tg) := (hB.cell (p := ⟨b, o + i * 5 + 2, none⟩) hbw).trans p2
      replace p3 : wr.cell? ⟨b, o + i * 5 + 3, none⟩ = some (.bool co) := (hB.cell (p := ⟨b, o + i * 5 + 3, none⟩) hbw).trans p3
      replace p4 : wr.cell? ⟨b, o + i * 5 + 4, none⟩ = some (.slice xd xm xk) := (hB.cell (p := ⟨b, o + i * 5 + 4, none⟩) hbw).trans p4
      have hxmI : (xm : Int) ≤ 9223372036854775807 := by omega
      have HBw : Hid (Below w.heap.size w wr) := hB
      have HDL : Hid (d.length = xm) := hdl
      clear hB hx hxs hdl
      go_upto_region 7 with (fail)
      refine wp_gen (fun W => Below w.heap.size w W ∧ Blk 59 W wr.heap.size [.int .i64 dp, .int .i64 cl, .int .i64 tg, .bool co, .slice xd xm xk]) ⟨below_via HBw.out (al1 _) (Nat.le_refl _), Blk.new _ wr _⟩ ?_
      rintro w3 ⟨hb3, hB3⟩
      have e0 : w3.cell? ⟨wr.heap.size, 0, none⟩ = some (.int .i64 dp) := hB3.cell 0
      have e1 : w3.cell? ⟨wr.heap.size, 1, none⟩ = some (.int .i64 cl) := hB3.cell 1
      have e2 : w3.cell? ⟨wr.heap.size, 2, none⟩ = some (.int .i64 tg) := hB3.cell 2
      have e3 : w3.cell? ⟨wr.heap.size, 3, none⟩ = some (.bool co) := hB3.cell 3
      have e4 : w3.cell? ⟨wr.heap.size, 4, none⟩ = some (.slice xd xm xk) := hB3.cell 4
      have H3 : Hid (Below w.heap.size w w3) := hb3
      clear hb3 hB3 p0 p1 p2 p3 p4
      obtain ⟨st, hst⟩ : ∃ st, standB ⟨dp, cl, tg, co, d⟩ = st := ⟨_, rfl⟩
      have HST : Hid (standB ⟨dp, cl, tg, co, d⟩ = st) := hst
      clear hst
      go_cut [67] from 30 to 67 (fun s67 wc => s67 = .bool (!st) ∧ wc = w3)
      case first =>
        have HNO : Hid ((cl < 0 ∨ 3 < cl ∨ tg < 0 ∨ 268435455 < tg ∨ (cl = 0 ∧ tg = 0) ∨ (co = true ∧ 0 < xm)) → st = false) := fun h => by
          rw [← HST.out]
          unfold standB
          simp only [decide_eq_false_iff_not]
          rintro ⟨s1, s2, s3, s4, s5, s6⟩
          rcases h with h | h | h | h | h | h
          · omega
          · omega
          · omega
          · omega
          · exact s5 h
          · have := s6 h.1; have hd := HDL.out; rw [this] at hd; simp at hd; omega
        have HYES : Hid (0 ≤ cl → cl ≤ 3 → 0 ≤ tg → tg ≤ 268435455 → ¬ (cl = 0 ∧ tg = 0) → (co = true → xm = 0) → st = true) := fun s1 s2 s3 s4 s5 s6 => by
          rw [← HST.out]
          unfold standB
          simp only [decide_eq_true_eq]
          exact ⟨s1, s2, s3, s4, s5, fun h => List.eq_nil_of_length_eq_zero (by rw [HDL.out]; exact s6 h)⟩
        by_cases k1 : cl < 0
        · obtain rfl : st = false := HNO.out (.inl k1)
          go_wp2
          go_meet
          case rel => exact ⟨rfl, rfl⟩
        by_cases k2 : 3 < cl
        · obtain rfl : st = false := HNO.out (.inr (.inl k2))
          go_wp2
          go_meet
          case rel => exact ⟨rfl, rfl⟩
        by_cases k3 : tg < 0
        · obtain rfl : st = false := HNO.out (.inr (.inr (.inl k3)))
          go_wp2
          go_meet
          case rel => exact ⟨rfl, rfl⟩
        by_cases k4 : 268435455 < tg
        · obtain rfl : st = false := HNO.out (.inr (.inr (.inr (.inl k4))))
          go_wp2
          go_meet
          case rel => exact ⟨rfl, rfl⟩
        have k56 : (cl = 0 ∧ tg = 0) ∨ ((cl == 0) = true ∧ (tg == 0) = false ∧ ¬ (cl = 0 ∧ tg = 0)) ∨ ((cl == 0) = false ∧ ¬ (cl = 0 ∧ tg = 0)) := by
          by_cases a : cl = 0
          · by_cases b : tg = 0
            · exact .inl ⟨a, b⟩
            · exact .inr (.inl ⟨by simpa using a, by simpa using b, fun h => b h.2⟩)
          · exact .inr (.inr ⟨by simpa using a, fun h => a h.1⟩)
        rcases k56 with k5 | ⟨k5, k6, k7⟩ | ⟨k5, k7⟩
        · obtain rfl : st = false := HNO.out (.inr (.inr (.inr (.inr (.inl k5)))))
          have k5b : (cl == 0) = true := by simpa using k5.1
          have k6b : (tg == 0) = true := by simpa using k5.2
          clear k5
          go_wp2
          go_meet
          case rel => exact ⟨rfl, rfl⟩
        all_goals
          have K7 : Hid (¬ (cl = 0 ∧ tg = 0)) := k7
          clear k7
          cases co with
          | false =>
            obtain rfl : st = true := HYES.out (by omega) (by omega) (by omega) (by omega) K7.out (fun h => by cases h)
            go_wp2
            go_meet
            case rel => exact ⟨rfl, rfl⟩
          | true =>
            by_cases k8 : 0 < xm
            · obtain rfl : st = false := HNO.out (.inr (.inr (.inr (.inr (.inr ⟨rfl, k8⟩)))))
              have k8I : (0 : Int) < (xm : Int) := by omega
              go_wp2
              go_meet
              case rel => exact ⟨rfl, rfl⟩
            · obtain rfl : st = true := HYES.out (by omega) (by omega) (by omega) (by omega) K7.out (fun _ => by omega)
              have k8I : ¬ (0 : Int) < (xm : Int) := by omega
              go_wp2
              go_meet
              case rel => exact ⟨rfl, rfl⟩
      obtain ⟨rfl, rfl⟩ := hcut
      cases st with
      | false =>
        have HF : Hid (treeB L = false) := HBAD.out HST.out
        go_wp2
        go_ret
        exact ⟨by rw [HF.out]; rfl, H3.out⟩
      | true =>
        obtain ⟨w4, hw4⟩ : ∃ x, x = wc := ⟨_, rfl⟩
        subst hw4
        by_cases hi0 : i = 0
        · subst hi0
          have HN : Hid (treeB L = restB L (0 + 1)) := by
            show _ = _
            rw [tree_rest (L := L) (by have := HX.out.2.2; omega) (by have := HX.out.2.2; omega) HZ.out]
            have e : L[0]'(by have := HX.out.2.2; omega) = (⟨dp, cl, tg, co, d⟩ : Te) := HXE.out
            rw [e, HST.out]; rfl
          go_upto_region 9 with (fail)
          go_quiet (fail)
          go_wp2
          go_roundw
          case rel => exact ⟨0 + 1, by omega, by go_num, H3.out.trans ⟨rfl, rfl, rfl, Nat.le_refl _, fun _ _ => rfl⟩, fun _ => HN.out⟩
          case measure => simp [intOf]; omega
        · obtain ⟨j, hj⟩ : ∃ j, i = j + 1 := ⟨i - 1, by omega⟩
          have hjS : j < L.length := by have := HX.out.2.2; omega
          obtain ⟨bq, oq, yd, ym, yk, hbq, hbwq, q0, -, -, q3, -, -⟩ := HX.out.1.at hjS
          cases hbq
          obtain ⟨y, hy⟩ : ∃ y, L[j]'hjS = y := ⟨_, rfl⟩
          rw [hy] at q0 q3
          obtain ⟨fo, hfo⟩ : ∃ fo, folB y ⟨dp, cl, tg, co, d⟩ = fo := ⟨_, rfl⟩
          have HT : Hid (treeB L = (fo && restB L (i + 1))) := by
            show _ = _
            have hst : restB L (j + 1) = (folB y ⟨dp, cl, tg, co, d⟩ && restB L (j + 2)) := by
              have := restB_step (L := L) (j := j) (by have := HX.out.2.2; omega)
              rw [this, hy]
              have e : L[j + 1]'(by have := HX.out.2.2; omega) = (⟨dp, cl, tg, co, d⟩ : Te) := by
                have := HXE.out
                subst hj
                exact this
              rw [e, HST.out]; rfl
            rw [HI.out (by omega), hj, hst, hfo]
          obtain ⟨dq, cq, tq, oq2, eq⟩ := y
          have HFO : Hid (fo = folB ⟨dq, cq, tq, oq2, eq⟩ ⟨dp, cl, tg, co, d⟩) := hfo.symm
          simp only [] at q0 q3
          replace q0 : w4.cell? ⟨b, o + j * 5, none⟩ = some (.int .i64 dq) := (H3.out.cell (p := ⟨b, o + j * 5, none⟩) hbw).trans q0
          replace q3 : w4.cell? ⟨b, o + j * 5 + 3, none⟩ = some (.bool oq2) := (H3.out.cell (p := ⟨b, o + j * 5 + 3, none⟩) hbw).trans q3
          have g0 : (0 : Int) < (i : Int) := by omega
          have g0N : 0 < i := by omega
          have gj : (i : Int) - 1 = (j : Int) := by omega
          have hjn : j < n := by omega
          have hjnI : (j : Int) < (n : Int) := by omega
          clear hy hbwq hfo hj hi0 e1 e2 e3 e4
          go_upto_region 9 with (fail)
          go_cut [111] from 68 to 111 (fun s111 wc => s111 = .bool (!fo) ∧ Below w.heap.size w wc)
          case first =>
            by_cases h1 : dp < 1
            · obtain rfl : fo = false := HFO.out.trans (by unfold folB; exact decide_eq_false (by rintro ⟨s1, _⟩; simp only [] at s1; omega))
              go_quiet (fail)
              go_wp2
              go_meet
              case rel => exact ⟨rfl, H3.out.trans ⟨rfl, rfl, rfl, Nat.le_refl _, fun _ _ => rfl⟩⟩
            by_cases h2 : 64 ≤ dp
            · obtain rfl : fo = false := HFO.out.trans (by unfold folB; exact decide_eq_false (by rintro ⟨_, s1, _⟩; simp only [] at s1; omega))
              go_quiet (fail)
              go_wp2
              go_meet
              case rel => exact ⟨rfl, H3.out.trans ⟨rfl, rfl, rfl, Nat.le_refl _, fun _ _ => rfl⟩⟩
            by_cases h3 : dp ≤ dq
            · have h3' : ¬ dq < dp := by omega
              obtain rfl : fo = true := HFO.out.trans (by unfold folB; exact decide_eq_true ⟨by simp only []; omega, by simp only []; omega, .inl h3⟩)
              go_quiet (fail)
              go_wp2
              go_meet
              case rel => exact ⟨rfl, H3.out.trans ⟨rfl, rfl, rfl, Nat.le_refl _, fun _ _ => rfl⟩⟩
            have h3' : dq < dp := by omega
            have h1w : IntKind.i64.wrap (dp - 1) = dp - 1 := by rw [IntKind.wrap_i64]; omega
            by_cases h4 : dp - 1 = dq
            · have h4b : (dp - 1 != dq) = false := by simpa using h4
              have HD : Hid (dp = dq + 1) := by show _ = _; omega
              clear h4
              cases oq2 with
              | false =>
                obtain rfl : fo = false := HFO.out.trans (by unfold folB; exact decide_eq_false (by rintro ⟨_, _, h | h⟩; exact absurd h (by simp only []; omega); exact absurd h.1 (by simp)))
                go_quiet (fail)
                go_wp2
                go_meet
                case rel => exact ⟨rfl, H3.out.trans ⟨rfl, rfl, rfl, Nat.le_refl _, fun _ _ => rfl⟩⟩
              | true =>
                obtain rfl : fo = true := HFO.out.trans (by unfold folB; exact decide_eq_true ⟨by simp only []; omega, by simp only []; omega, .inr ⟨rfl, HD.out⟩⟩)
                go_quiet (fail)
                go_wp2
                go_meet
                case rel => exact ⟨rfl, H3.out.trans ⟨rfl, rfl, rfl, Nat.le_refl _, fun _ _ => rfl⟩⟩
            · have h4b : (dp - 1 != dq) = true := by simpa using h4
              obtain rfl : fo = false := HFO.out.trans (by unfold folB; exact decide_eq_false (by rintro ⟨_, _, h | h⟩; exact absurd h (by simp only []; omega); exact absurd h.2 (by simp only []; omega)))
              go_quiet (fail)
              go_wp2
              go_meet
              case rel => exact ⟨rfl, H3.out.trans ⟨rfl, rfl, rfl, Nat.le_refl _, fun _ _ => rfl⟩⟩
          obtain ⟨rfl, hb5⟩ := hcut
          have H5 : Hid (Below w.heap.size w wc) := hb5
          clear hb5 q0 q3 e0
          cases fo with
          | false =>
            go_wp2
            go_ret
            exact ⟨by rw [HT.out]; rfl, H5.out⟩
          | true =>
            go_wp2
            go_roundw
            case rel => exact ⟨i + 1, by omega, by go_num, H5.out, fun _ => by rw [HT.out]; rfl⟩
            case measure => simp [intOf]; omega
    · obtain rfl : i = n := by omega
      have HT : Hid (treeB L = true ∧ Below w.heap.size w wr) := ⟨by rw [HI.out (by omega)]; have := HX.out.2.2; rw [← this]; exact restB_end, hB⟩
      have l1 : ¬ (i : Int) < (i : Int) := by omega
      clear hB
      go_wp2
      go_ret
      exact ⟨by rw [HT.out.1]; rfl, HT.out.2⟩
end Go.Proofs.YtefebamomdcaaaaGreatDoor
/-
  Ber: the reference's Laid. (wip/mkb102.py)
-/
namespace Go.Proofs.YtefebamomdcaaaaGreatDoor
open Go.RowKit
theorem RHead3_any {w : World} (x : Te) (da : Option Addr) (dm dk : Nat) (n : Nat) (hs : standB x = true) (hn : n ≤ 16777216) :
    Calls Tryz.prog 67 #[.agg #[.int .i64 x.dp, .int .i64 x.cl, .int .i64 x.tg, .bool x.co, .slice da dm dk], .int .i64 (n : Int)] w fun e w' => ∃ r, e = .returned r ∧ Row .u8 5 w.heap.size w' r (frontB x n) ∧ Below w.heap.size w w' := by
  unfold standB at hs
  simp only [decide_eq_true_eq] at hs
  obtain ⟨dp, cl, tg, co, d⟩ := x
  simp only [] at hs
  obtain ⟨t, rfl⟩ := Int.eq_ofNat_of_zero_le hs.2.2.1
  have hk := kOf_ok t (by omega)
  have hl := cOf_ok n (by omega)
  unfold frontB
  simp only [Int.toNat_natCast]
  by_cases h : t < 31
  · exact RHead_short dp da dm dk cl co t (kOf t) n (cOf n) hs.1 hs.2.1 hk.1 hk.2.1 (by omega) hl.1 hl.2.1 (by omega) hn h
  · exact RHead_long dp da dm dk cl co t (kOf t) n (cOf n) hs.1 hs.2.1 hk.1 hk.2.1 (by omega) (by omega) hl.1 hl.2.1 (by omega) hn h
theorem eg_Head3 (args : Array Value) (w : World) : (callFunc 67 args).run Tryz.prog w = .ok (.enter 67 args) w := by
  have g1 : ¬ Tryz.f67.name = "runtime.NumGoroutine" := by decide +kernel
  have g2 : Tryz.f67.body.isNone = false := by kernel_rfl
  have g3 : ¬ Tryz.f67.body = none := fun h => by rw [h] at g2; cases g2
  simp [go_sem, callFunc, Tryz.func67, g1, g3]
section
variable {ops : Array Oper} {Q : Exit → Act → World → Prop} {β : Type} {V : β → Nat → Value} {S : β → Array Bool → World → Prop} {i : Nat} {b : β} {L : Array Bool} {a : Act} {W : World}
theorem rg_ap8 {o : Oper} (ho : ops[i]? = some o) (hw : Region.wanted o (yielded ops a.tmps) = true) (s x : Operand)
    (hop : o.op = .call { callee := .builtin .append, args := #[s, x], argTypes := #[22, 22] })
    (B : Nat) (v : Value) (xs : List Int) (hs : a.eval s = v) (hr : Row .u8 5 B W v xs) (u : Value) (ys : List Int) (hx : a.eval x = u) (hy : Src Tryz.prog 1 22 u ys.length (ys.map (Value.int .u8)) W)
    (hb : (xs.length + ys.length) * 1 ≤ 140737488355328) (hB : B ≤ W.heap.size)
    (h : ∀ v' w', Row .u8 5 B w' v' (xs ++ ys) → Grew .u8 5 W w' v ys → ∃ b', (∀ k, k ≠ i → Up L k → V b' k = V b k) ∧ V b' i = v' ∧ S b' (L.setIfInBounds i true) w') : DetOp Tryz.prog ops Q V S i b L a W := by
  obtain ⟨i0, hi0, hz0, hz1, hz2⟩ := info_parts Tryz.info8
  obtain ⟨v', w', hrun, h2, h3⟩ := run_ap (P := Tryz.prog) W 22 22 o.type 5 i0 .u8 Tryz.und8 hi0 hz0 hz1 (by omega) hr hy (by rw [hz2]; exact hb) hB
  obtain ⟨b', hV, hv, hS⟩ := h v' w' h2 h3
  refine rg_new b' ho hw (v := v') (W' := w') ?_ hV hv hS
  unfold execOp
  simp only [hop, resolve, invoke, builtin, Sem.run_bind, Sem.run_pure, Result.andThen_ok, List.map_toArray, List.map_cons, List.map_nil, hs, hx, hrun]
end
/-- Number 10 lays the head, number 16 appends the data. -/
def LdS (w : World) (fr d : List Int) (β : Value × Value) (F : Array Bool) (W : World) : Prop :=
  Below w.heap.size w W ∧ (Up F 10 → ¬ Up F 16 → Row .u8 5 w.heap.size W β.1 fr) ∧ (Up F 16 → Row .u8 5 w.heap.size W β.2 (fr ++ d))
section
variable {w W : World} {fr d : List Int} {β : Value × Value} {F : Array Bool}
theorem LdS.other (h : LdS w fr d β F W) {i : Nat} (h1 : 10 ≠ i) (h2 : 16 ≠ i) : LdS w fr d β (F.setIfInBounds i true) W := by
  unfold LdS at *
  rw [up_ne h1, up_ne h2]
  exact h
theorem LdS.call (h : LdS w fr d β F W) (h16 : ¬ Up F 16) {v : Value} {w' : World} (hr : Row .u8 5 W.heap.size w' v fr) (hb : Below W.heap.size W w') : LdS w fr d (v, β.2) (F.setIfInBounds 10 true) w' :=
  ⟨below_via h.1 hb (Nat.le_refl _), fun _ _ => hr.mono h.1.size, fun u => absurd ((up_ne (by decide)).1 u) h16⟩
theorem LdS.ap (h : LdS w fr d β F W) (hF : 16 < F.size) {v : Value} {w' : World} (hr : Row .u8 5 w.heap.size w' v (fr ++ d)) (hb : Below w.heap.size W w') : LdS w fr d (β.1, v) (F.setIfInBounds 16 true) w' :=
  ⟨h.1.trans hb, fun _ u => absurd (up_eq hF) u, fun _ => hr⟩
end
def ldV (l : Value) (i : Int) (p p4 ag dv : Value) (n : Nat) (β : Value × Value) (k : Nat) : Value :=
  if k = 10 then β.1 else if k = 16 then β.2 else if k = 17 then β.2 else ([l, .int .i64 i, p, ag, l, .int .i64 i, p, p4, dv, .int .i64 (n : Int), undef, l, .int .i64 i, p, p4, dv, undef, undef] : List Value).getD k undef
theorem ldV_10 {l : Value} {i : Int} {p p4 ag dv : Value} {n : Nat} {β : Value × Value} {v : Value} {k : Nat} (h : k ≠ 10) : ldV l i p p4 ag dv n (v, β.2) k = ldV l i p p4 ag dv n β k := by unfold ldV; rw [if_neg h, if_neg h]
theorem ldV_16 {l : Value} {i : Int} {p p4 ag dv : Value} {n : Nat} {β : Value × Value} {v : Value} {k : Nat} (h17 : k ≠ 17) (h : k ≠ 16) : ldV l i p p4 ag dv n (β.1, v) k = ldV l i p p4 ag dv n β k := by unfold ldV; rw [if_neg h, if_neg h17, if_neg h, if_neg h17]
theorem frF18 {ops : Array Oper} {V : Nat → Value} {t : Array Value} {d0 d1 d2 d3 d4 d5 d6 d7 d8 d9 d10 d11 d12 d13 d14 d15 d16 d17 : Nat} (hs : ops.size = 18) (h0 : dstOf ops 0 = some d0) (h1 : dstOf ops 1 = some d1) (h2 : dstOf ops 2 = some d2) (h3 : dstOf ops 3 = some d3) (h4 : dstOf ops 4 = some d4) (h5 : dstOf ops 5 = some d5) (h6 : dstOf ops 6 = some d6) (h7 : dstOf ops 7 = some d7) (h8 : dstOf ops 8 = some d8) (h9 : dstOf ops 9 = some d9) (h10 : dstOf ops 10 = some d10) (h11 : dstOf ops 11 = some d11) (h12 : dstOf ops 12 = some d12) (h13 : dstOf ops 13 = some d13) (h14 : dstOf ops 14 = some d14) (h15 : dstOf ops 15 = some d15) (h16 : dstOf ops 16 = some d16) (h17 : dstOf ops 17 = some d17) :
    frF ops V t ops.size = (((((((((((((((((t.setIfInBounds d0 (V 0)).setIfInBounds d1 (V 1)).setIfInBounds d2 (V 2)).setIfInBounds d3 (V 3)).setIfInBounds d4 (V 4)).setIfInBounds d5 (V 5)).setIfInBounds d6 (V 6)).setIfInBounds d7 (V 7)).setIfInBounds d8 (V 8)).setIfInBounds d9 (V 9)).setIfInBounds d10 (V 10)).setIfInBounds d11 (V 11)).setIfInBounds d12 (V 12)).setIfInBounds d13 (V 13)).setIfInBounds d14 (V 14)).setIfInBounds d15 (V 15)).setIfInBounds d16 (V 16)).setIfInBounds d17 (V 17) := by
  rw [hs]
  simp only [frF, h0, h1, h2, h3, h4, h5, h6, h7, h8, h9, h10, h11, h12, h13, h14, h15, h16, h17]
set_option maxRecDepth 20000 in
set_option maxHeartbeats 16000000 in
theorem RLaid_any (L : List Te) (hT : treeB L = true) (hD : datL L + 12 * L.length ≤ 16777216) :
    ∀ (m i : Nat), L.length - i ≤ m → i < L.length → ∀ (w : World) (v : Value), ElS w v L → Calls Tryz.prog 38 #[v, .int .i64 (i : Int)] w fun e w' => ∃ r, e = .returned r ∧ Row .u8 5 w.heap.size w' r (bytesOf (sl L i (endF L i))) ∧ Below w.heap.size w w' := by
  have HTR : Hid (treeB L = true ∧ byt (nds L) ≤ 16777216) := ⟨hT, by
    have h2 := (tree_restB hT).2.2.1
    have := byt_nds L (fun x hx => by
      obtain ⟨j, hj, rfl⟩ := List.getElem_of_mem hx
      have := h2 j hj
      rw [getD_nE hj] at this
      unfold standB at this
      simp only [decide_eq_true_eq] at this
      omega) (by omega)
    omega⟩
  have HDL : Hid (datL L ≤ 16777216 ∧ L.length ≤ 1398101) := ⟨by omega, by omega⟩
  clear hT hD
  intro m
  induction m with
  | zero => intro i h1 h2; omega
  | succ m ih =>
  intro i hm hi w v hv
  obtain ⟨n, hnn⟩ : ∃ n, L.length = n := ⟨_, rfl⟩
  obtain ⟨a, c, rfl⟩ : ∃ a c, v = .slice a n c := by obtain ⟨a, c, Y, h, _⟩ := hv; exact ⟨a, c, by rw [h, hnn]⟩
  obtain ⟨b, o, xd, xm, xk, rfl, hbw, p0, p1, p2, p3, p4, hxs⟩ := hv.at hi
  have hst := (tree_restB HTR.out.1).2.2.1 i hi
  have hen := endF_is hi
  have hla := laid_at hi
  have hpe := fun h => prim_end HTR.out.1 hi h
  have hfr : frn L i = frontB (L.getD i nE) ((L.getD i nE).d.length + byt (sl L (i + 1) (endF L i))) := rfl
  have hdm : (L.getD i nE).d.length ≤ 16777216 := by rw [getD_nE hi]; have := datL_mem (List.getElem_mem hi); have := HDL.out.1; omega
  rw [← getD_nE hi] at p0 p1 p2 p3 hxs
  obtain ⟨x, hx⟩ : ∃ x, L.getD i nE = x := ⟨_, rfl⟩
  rw [hx] at p0 p1 p2 p3 hxs hst hla hpe hfr hdm
  obtain ⟨E, hE⟩ : ∃ E, endF L i = E := ⟨_, rfl⟩
  rw [hE] at hen hla hpe hfr ⊢
  have hdl : x.d.length = xm := by obtain ⟨_, _, h, _⟩ := hxs; simp only [Value.slice.injEq] at h; omega
  have hin : i < n := by omega
  have hiI : (i : Int) < (n : Int) := by omega
  have HV : Hid (ElS w (.slice (some ⟨b, o, none⟩) n c) L ∧ L.length = n ∧ i < L.length ∧ endF L i = E ∧ isEnd L i E ∧ L.getD i nE = x) := ⟨hv, hnn, hi, hE, hen, hx⟩
  have HLA : Hid (bytesOf (sl L i E) = frn L i ++ (x.d ++ bytesOf (sl L (i + 1) E)) ∧ frn L i = frontB x (x.d.length + byt (sl L (i + 1) E)) ∧ (x.co = false → E = i + 1) ∧ byt (sl L (i + 1) E) ≤ 16777216) := ⟨hla, hfr, hpe, Nat.le_trans (byt_sl L (i + 1) E) HTR.out.2⟩
  have HRG : Hid (w.rangeAt b (o + i * 5) [.int .i64 x.dp, .int .i64 x.cl, .int .i64 x.tg, .bool x.co, .slice xd xm xk]) := range5 p0 p1 p2 p3 p4
  have HC4 : Hid (w.cell? ⟨b, o + i * 5 + 4, none⟩ = some (.slice xd xm xk)) := p4
  have HIH : Hid (∀ (k : Nat), i < k → k < L.length → ∀ (w' : World), Below w.heap.size w w' → Calls Tryz.prog 38 #[.slice (some ⟨b, o, none⟩) n c, .int .i64 (k : Int)] w' fun e w2 => ∃ r, e = .returned r ∧ Row .u8 5 w'.heap.size w2 r (bytesOf (sl L k (endF L k))) ∧ Below w'.heap.size w' w2) := fun k h1 h2 w' h3 => ih k (by omega) h2 w' _ (hv.below h3)
  have HST : Hid (standB x = true ∧ x.d.length = xm ∧ xm ≤ 16777216 ∧ Sl .u8 w (.slice xd xm xk) x.d) := ⟨hst, hdl, by omega, hxs⟩
  obtain ⟨co, hco⟩ : ∃ co, x.co = co := ⟨_, rfl⟩
  rw [hco] at p3
  have HCO : Hid (x.co = co) := hco
  clear hv hnn hi hen hla hpe hfr hx hE hdl hxs hst p0 p1 p2 hdm ih hm hco
  cases co with
  | false =>
    have HX : Hid (standB x = true ∧ xm ≤ 16777216 ∧ Sl .u8 w (.slice xd xm xk) x.d ∧ ((frontB x xm).length + x.d.length) * 1 ≤ 140737488355328) := ⟨HST.out.1, HST.out.2.2.1, HST.out.2.2.2, by
      have h1 := HST.out.1
      unfold standB at h1
      simp only [decide_eq_true_eq] at h1
      have := (frontB_len x xm h1.2.2.2.1 (by have := HST.out.2.2.1; omega)).1
      have := HST.out.2.1
      have := HST.out.2.2.1
      omega⟩
    go_enter Tryz.func38, Tryz.ntmps38
    go_upto_region 2 with (fail)
    refine wp_region_cl (ldV (.slice (some ⟨b, o, none⟩) n c) (i : Int) (.pointer (some ⟨b, o + i * 5, none⟩)) (.pointer (some ⟨b, o + i * 5 + 4, none⟩)) (.agg #[.int .i64 x.dp, .int .i64 x.cl, .int .i64 x.tg, .bool x.co, .slice xd xm xk]) (.slice xd xm xk) xm) (fun bb F W => LdS w (frontB x xm) x.d bb F W) (undef, undef) rfl (by decide +kernel) (show dstB _ 54 = true by decide +kernel) ⟨(Below.refl _ _).drew, fun u => absurd u not_up_new, fun u => absurd u not_up_new⟩ (fun bb F W hup hS => ?_) (fun i0 bb F W a hi hno hsz hdep hv h0 hcl hS => ?_)
    rotate_left
    · replace hi : i0 < 18 := hi
      have hno' : i0 = 16 → ¬ Up F 17 := fun h u => by subst h; exact hno (hcl 17 u 16 (by decide +kernel))
      obtain rfl | rfl | rfl | rfl | rfl | rfl | rfl | rfl | rfl | rfl | rfl | rfl | rfl | rfl | rfl | rfl | rfl | rfl : i0 = 0 ∨ i0 = 1 ∨ i0 = 2 ∨ i0 = 3 ∨ i0 = 4 ∨ i0 = 5 ∨ i0 = 6 ∨ i0 = 7 ∨ i0 = 8 ∨ i0 = 9 ∨ i0 = 10 ∨ i0 = 11 ∨ i0 = 12 ∨ i0 = 13 ∨ i0 = 14 ∨ i0 = 15 ∨ i0 = 16 ∨ i0 = 17 := by omega
      · have x0 : a.eval (.tmp 0) = .slice (some ⟨b, o, none⟩) n c := (h0 0 (by decide +kernel)).trans rfl
        exact rg_val rfl (wn_any rfl) (run_mv rfl x0) (hS.other (by decide) (by decide))
      · have x0 : a.eval (.tmp 1) = .int .i64 (i : Int) := (h0 1 (by decide +kernel)).trans rfl
        exact rg_val rfl (wn_any rfl) (run_mv rfl x0) (hS.other (by decide) (by decide))
      · have e0 : a.eval (.tmp 13) = .slice (some ⟨b, o, none⟩) n c := hv 0 _ (show 0 < 18 by decide) (hdep 0 (by decide +kernel)) rfl
        have e1 : a.eval (.tmp 14) = .int .i64 (i : Int) := hv 1 _ (show 1 < 18 by decide) (hdep 1 (by decide +kernel)) rfl
        exact rg_val rfl (wn_any rfl) (run_ia (v := .pointer (some ⟨b, o + i * 5, none⟩)) rfl e0 e1 (by simp [go_sem, Instr.indexAt, hin])) (hS.other (by decide) (by decide))
      · have e0 : a.eval (.tmp 15) = .pointer (some ⟨b, o + i * 5, none⟩) := hv 2 _ (show 2 < 18 by decide) (hdep 2 (by decide +kernel)) rfl
        exact rg_load rfl (wn_any rfl) rfl e0 (rng_below HRG.out hbw hS.1) Tryz.underlying59 rfl Tryz.sizeE rfl (hS.other (by decide) (by decide))
      · have x0 : a.eval (.tmp 0) = .slice (some ⟨b, o, none⟩) n c := (h0 0 (by decide +kernel)).trans rfl
        exact rg_val rfl (wn_any rfl) (run_mv rfl x0) (hS.other (by decide) (by decide))
      · have x0 : a.eval (.tmp 1) = .int .i64 (i : Int) := (h0 1 (by decide +kernel)).trans rfl
        exact rg_val rfl (wn_any rfl) (run_mv rfl x0) (hS.other (by decide) (by decide))
      · have e0 : a.eval (.tmp 17) = .slice (some ⟨b, o, none⟩) n c := hv 4 _ (show 4 < 18 by decide) (hdep 4 (by decide +kernel)) rfl
        have e1 : a.eval (.tmp 18) = .int .i64 (i : Int) := hv 5 _ (show 5 < 18 by decide) (hdep 5 (by decide +kernel)) rfl
        exact rg_val rfl (wn_any rfl) (run_ia (v := .pointer (some ⟨b, o + i * 5, none⟩)) rfl e0 e1 (by simp [go_sem, Instr.indexAt, hin])) (hS.other (by decide) (by decide))
      · have e0 : a.eval (.tmp 19) = .pointer (some ⟨b, o + i * 5, none⟩) := hv 6 _ (show 6 < 18 by decide) (hdep 6 (by decide +kernel)) rfl
        exact rg_val rfl (wn_any rfl) (run_fa (v := .pointer (some ⟨b, o + i * 5 + 4, none⟩)) rfl e0 (by simp [go_sem, Instr.fieldAt])) (hS.other (by decide) (by decide))
      · have e0 : a.eval (.tmp 20) = .pointer (some ⟨b, o + i * 5 + 4, none⟩) := hv 7 _ (show 7 < 18 by decide) (hdep 7 (by decide +kernel)) rfl
        have cc : W.cell? ⟨b, o + i * 5 + 4, none⟩ = some (.slice xd xm xk) := (hS.1.cell (p := ⟨b, o + i * 5 + 4, none⟩) hbw).trans HC4.out
        exact rg_val rfl (wn_any rfl) (run_ld (v := .slice xd xm xk) rfl e0 (by simp [go_sem, Instr.loadAt, cc])) (hS.other (by decide) (by decide))
      · have e0 : a.eval (.tmp 21) = .slice xd xm xk := hv 8 _ (show 8 < 18 by decide) (hdep 8 (by decide +kernel)) rfl
        exact rg_val rfl (wn_any rfl) (run_ln rfl Tryz.und8 e0) (hS.other (by decide) (by decide))
      · have e0 : a.eval (.tmp 16) = .agg #[.int .i64 x.dp, .int .i64 x.cl, .int .i64 x.tg, .bool x.co, .slice xd xm xk] := hv 3 _ (show 3 < 18 by decide) (hdep 3 (by decide +kernel)) rfl
        have e1 : a.eval (.tmp 22) = .int .i64 (xm : Int) := hv 9 _ (show 9 < 18 by decide) (hdep 9 (by decide +kernel)) rfl
        have n16 : ¬ Up F 16 := fun u => hno (hcl 16 u 10 (by decide +kernel))
        exact rg_callx rfl (wn_any rfl) (run_cl2 rfl e0 e1 eg_Head3) (RHead3_any (w := W) x xd xm xk xm HX.out.1 HX.out.2.1) (fun v => (v, bb.2)) (fun _ => rfl) (fun v k hk => ldV_10 hk) (fun v w' h => hS.call n16 h.1 h.2)
      · have x0 : a.eval (.tmp 0) = .slice (some ⟨b, o, none⟩) n c := (h0 0 (by decide +kernel)).trans rfl
        exact rg_val rfl (wn_any rfl) (run_mv rfl x0) (hS.other (by decide) (by decide))
      · have x0 : a.eval (.tmp 1) = .int .i64 (i : Int) := (h0 1 (by decide +kernel)).trans rfl
        exact rg_val rfl (wn_any rfl) (run_mv rfl x0) (hS.other (by decide) (by decide))
      · have e0 : a.eval (.tmp 24) = .slice (some ⟨b, o, none⟩) n c := hv 11 _ (show 11 < 18 by decide) (hdep 11 (by decide +kernel)) rfl
        have e1 : a.eval (.tmp 25) = .int .i64 (i : Int) := hv 12 _ (show 12 < 18 by decide) (hdep 12 (by decide +kernel)) rfl
        exact rg_val rfl (wn_any rfl) (run_ia (v := .pointer (some ⟨b, o + i * 5, none⟩)) rfl e0 e1 (by simp [go_sem, Instr.indexAt, hin])) (hS.other (by decide) (by decide))
      · have e0 : a.eval (.tmp 26) = .pointer (some ⟨b, o + i * 5, none⟩) := hv 13 _ (show 13 < 18 by decide) (hdep 13 (by decide +kernel)) rfl
        exact rg_val rfl (wn_any rfl) (run_fa (v := .pointer (some ⟨b, o + i * 5 + 4, none⟩)) rfl e0 (by simp [go_sem, Instr.fieldAt])) (hS.other (by decide) (by decide))
      · have e0 : a.eval (.tmp 27) = .pointer (some ⟨b, o + i * 5 + 4, none⟩) := hv 14 _ (show 14 < 18 by decide) (hdep 14 (by decide +kernel)) rfl
        have cc : W.cell? ⟨b, o + i * 5 + 4, none⟩ = some (.slice xd xm xk) := (hS.1.cell (p := ⟨b, o + i * 5 + 4, none⟩) hbw).trans HC4.out
        exact rg_val rfl (wn_any rfl) (run_ld (v := .slice xd xm xk) rfl e0 (by simp [go_sem, Instr.loadAt, cc])) (hS.other (by decide) (by decide))
      · have e0 : a.eval (.tmp 23) = bb.1 := hv 10 _ (show 10 < 18 by decide) (hdep 10 (by decide +kernel)) rfl
        have e1 : a.eval (.tmp 28) = .slice xd xm xk := hv 15 _ (show 15 < 18 by decide) (hdep 15 (by decide +kernel)) rfl
        have hR := hS.2.1 (hdep 10 (by decide +kernel)) hno
        exact rg_ap8 rfl (wn_any rfl) (.tmp 23) (.tmp 28) rfl w.heap.size bb.1 (frontB x xm) e0 hR (.slice xd xm xk) x.d e1 (src_sl Tryz.und8 (below_sl hS.1 HX.out.2.2.1)) HX.out.2.2.2 hS.1.size (fun v' w' hr hg => ⟨(bb.1, v'), fun k hk hu => ldV_16 (fun h => hno' rfl (h ▸ hu)) hk, rfl, hS.ap (hsz 16 (by decide)) hr (hg.below hR hS.1.size)⟩)
      · have e0 : a.eval (.tmp 29) = bb.2 := hv 16 _ (show 16 < 18 by decide) (hdep 16 (by decide +kernel)) rfl
        exact rg_val rfl (wn_any rfl) (run_asg rfl e0) (hS.other (by decide) (by decide))
    obtain ⟨hT1, -, hT3⟩ := hS
    have HF : Hid (Row .u8 5 w.heap.size W bb.2 (bytesOf (sl L i E)) ∧ Below w.heap.size w W) := ⟨by
      have h := hT3 (hup 16 (by decide))
      rw [HLA.out.1, HLA.out.2.1, HLA.out.2.2.1 HCO.out, sl_self, HST.out.2.1]
      simpa [byt, bytesOf] using h, hT1⟩
    clear hT1 hT3 hup
    rw [frF18 rfl rfl rfl rfl rfl rfl rfl rfl rfl rfl rfl rfl rfl rfl rfl rfl rfl rfl rfl]
    simp only [List.setIfInBounds_toArray, List.set_cons_succ, List.set_cons_zero]
    go_wp2
    go_ret
    exact ⟨_, rfl, HF.out.1, HF.out.2⟩
  | true =>
    have hE1 : i + 1 ≤ E := HV.out.2.2.2.2.1.1
    have hEn : E ≤ n := by have := HV.out.2.2.2.2.1.2.1; have := HV.out.2.1; omega
    have hn9 : n ≤ 1398101 := by have := HDL.out.2; have := HV.out.2.1; omega
    have hn9I : (n : Int) ≤ 1398101 := by omega
    have HEND : Hid (∀ (k : Nat), k < n → ∀ (w' : World), Below w.heap.size w w' → Calls Tryz.prog 43 #[.slice (some ⟨b, o, none⟩) n c, .int .i64 (k : Int)] w' fun e w2 => e = .returned (.int .i64 (endF L k : Int)) ∧ Below w'.heap.size w' w2) := fun k hk w' hb => by
      have hkl : k < L.length := by have := HV.out.2.1; omega
      refine (End_any _ L (HV.out.1.below hb) k hkl (by have := HV.out.2.1; omega)).mono ?_
      rintro e w2 ⟨⟨k2, rfl, h2⟩, hb2⟩
      have : k2 = endF L k := isEnd.uniq h2 (endF_is hkl)
      rw [this]
      exact ⟨rfl, hb2⟩
    have HBB : Hid (∀ k k' : Nat, (bytesOf (sl L k k')).length ≤ 16777216) := fun k k' => by rw [bytesOf_len]; exact Nat.le_trans (byt_sl L k k') HTR.out.2
    go_enter Tryz.func38, Tryz.ntmps38
    go_upto_region 5 with (fail)
    go_loopw [5, 6] (fun iv kv wr => ∃ (k : Nat) (i0 : Value), i0 = iv ∧ kv = .int .i64 (k : Int) ∧ i + 1 ≤ k ∧ k ≤ E ∧ Hid (Row .u8 5 w.heap.size wr i0 (bytesOf (sl L (i + 1) k)) ∧ Below w.heap.size w wr)) (fun _ kv _ => E - (intOf kv).toNat)
    case atStart => exact ⟨i + 1, _, rfl, by go_num, Nat.le_refl _, hE1, by rw [sl_self]; exact Row.nil _ _ _ _, Below.refl _ _⟩
    case round =>
      obtain ⟨k, i0, rfl, rfl, hk1, hkE, HR⟩ := hrel
      go_wp2_with fail
      refine (HEND.out i hin wr HR.out.2).mono ?_
      rintro e w1 ⟨rfl, hb1⟩
      rw [HV.out.2.2.2.1]
      have H1 : Hid (Row .u8 5 w.heap.size w1 i0 (bytesOf (sl L (i + 1) k)) ∧ Below w.heap.size w w1) := ⟨HR.out.1.below hb1, below_via HR.out.2 hb1 (Nat.le_refl _)⟩
      clear hb1
      by_cases hlt : k < E
      · have hltI : (k : Int) < (E : Int) := by omega
        have hkn : k < n := by omega
        have hin2 := endF_in HV.out.2.2.1 (show i < k by omega) (by rw [HV.out.2.2.2.1]; exact hlt)
        rw [HV.out.2.2.2.1] at hin2
        obtain ⟨F, hF⟩ : ∃ F, endF L k = F := ⟨_, rfl⟩
        rw [hF] at hin2
        have HF : Hid (endF L k = F ∧ bytesOf (sl L (i + 1) k) ++ bytesOf (sl L k F) = bytesOf (sl L (i + 1) F)) := ⟨hF, by rw [← bytesOf_app, sl_app hk1 (by omega)]⟩
        obtain ⟨hFE, hkF⟩ := hin2
        clear hF
        go_wp2_with fail
        refine (HIH.out k (by omega) (by have := HV.out.2.1; omega) w1 H1.out.2).mono ?_
        rintro e w2 ⟨r, rfl, hr, hb2⟩
        rw [HF.out.1] at hr
        have H2 : Hid (Row .u8 5 w1.heap.size w2 r (bytesOf (sl L k F)) ∧ Row .u8 5 w.heap.size w2 i0 (bytesOf (sl L (i + 1) k)) ∧ Below w.heap.size w w2) := ⟨hr, H1.out.1.below hb2, below_via H1.out.2 hb2 (Nat.le_refl _)⟩
        clear hr hb2
        go_upto_region 6 with (at_builtin; refine wpList_ap rfl (.tmp 40) (.tmp 43) 22 22 rfl .u8 5 1 Tryz.und8 Tryz.info8 (by decide) w.heap.size i0 (bytesOf (sl L (i + 1) k)) rfl H2.out.2.1 r (bytesOf (sl L k F)) rfl (src_sl Tryz.und8 H2.out.1.sl) (by have := HBB.out (i + 1) k; have := HBB.out k F; omega) H2.out.2.2.size ?_; intro v5 w5 hr5 hg5; have H5 : Hid (Row .u8 5 w.heap.size w5 v5 (bytesOf (sl L (i + 1) F)) ∧ Below w.heap.size w w5) := ⟨by rw [← HF.out.2]; exact hr5, H2.out.2.2.trans (hg5.below H2.out.2.1 H2.out.2.2.size)⟩; clear hr5 hg5)
        go_wp2_with fail
        refine (HEND.out k hkn w5 H5.out.2).mono ?_
        rintro e w6 ⟨rfl, hb6⟩
        rw [HF.out.1]
        have H6 : Hid (Row .u8 5 w.heap.size w6 v5 (bytesOf (sl L (i + 1) F)) ∧ Below w.heap.size w w6) := ⟨H5.out.1.below hb6, below_via H5.out.2 hb6 (Nat.le_refl _)⟩
        clear hb6
        go_wp2
        go_roundw
        case rel => exact ⟨F, _, rfl, rfl, by omega, hFE, H6.out⟩
        case measure => simp [intOf]; omega
      · obtain rfl : k = E := by omega
        have hltI : ¬ (k : Int) < (k : Int) := by omega
        have hd0 : x.d = [] := by
          have h1 := HST.out.1
          unfold standB at h1
          simp only [decide_eq_true_eq] at h1
          exact h1.2.2.2.2.2 HCO.out
        obtain ⟨ia, ic, hiv⟩ := H1.out.1.ne
        obtain ⟨il, hil⟩ : ∃ il, (bytesOf (sl L (i + 1) k)).length = il := ⟨_, rfl⟩
        rw [hil] at hiv
        subst hiv
        have HIL : Hid ((bytesOf (sl L (i + 1) k)).length = il ∧ frn L i = frontB x il ∧ x.d = []) := ⟨hil, by rw [HLA.out.2.1, hd0, ← hil, bytesOf_len]; simp, hd0⟩
        have hil2 : il ≤ 16777216 := by rw [← hil]; exact HBB.out _ _
        have q0 : w1.cell? ⟨b, o + i * 5, none⟩ = some (.int .i64 x.dp) := (H1.out.2.cell (p := ⟨b, o + i * 5, none⟩) hbw).trans (by have := HRG.out 0 _ rfl; simpa using this)
        have q1 : w1.cell? ⟨b, o + i * 5 + 1, none⟩ = some (.int .i64 x.cl) := (H1.out.2.cell (p := ⟨b, o + i * 5 + 1, none⟩) hbw).trans (HRG.out 1 _ rfl)
        have q2 : w1.cell? ⟨b, o + i * 5 + 2, none⟩ = some (.int .i64 x.tg) := (H1.out.2.cell (p := ⟨b, o + i * 5 + 2, none⟩) hbw).trans (HRG.out 2 _ rfl)
        have q3 : w1.cell? ⟨b, o + i * 5 + 3, none⟩ = some (.bool x.co) := (H1.out.2.cell (p := ⟨b, o + i * 5 + 3, none⟩) hbw).trans (HRG.out 3 _ rfl)
        have q4 : w1.cell? ⟨b, o + i * 5 + 4, none⟩ = some (.slice xd xm xk) := (H1.out.2.cell (p := ⟨b, o + i * 5 + 4, none⟩) hbw).trans (HRG.out 4 _ rfl)
        clear hd0 hil
        go_wp2_with fail
        refine (RHead3_any x xd xm xk il HST.out.1 hil2).mono ?_
        rintro e w2 ⟨r, rfl, hr, hb2⟩
        have H2 : Hid (Row .u8 5 w1.heap.size w2 r (frontB x il) ∧ Row .u8 5 w.heap.size w2 (.slice ia il ic) (bytesOf (sl L (i + 1) k)) ∧ Below w.heap.size w w2 ∧ w1.heap.size ≤ w2.heap.size ∧ w.heap.size ≤ w1.heap.size) := ⟨hr, H1.out.1.below hb2, below_via H1.out.2 hb2 (Nat.le_refl _), hb2.size, H1.out.2.size⟩
        have HFL : Hid ((frontB x il).length ≤ 12) := by
          have h1 := HST.out.1
          unfold standB at h1
          simp only [decide_eq_true_eq] at h1
          exact (frontB_len x il h1.2.2.2.1 (by omega)).1
        clear hr hb2 q0 q1 q2 q3 q4
        go_wp2_with (at_builtin; refine wpList_ap rfl (.tmp 51) (.tmp 52) 22 22 rfl .u8 5 1 Tryz.und8 Tryz.info8 (by decide) w1.heap.size r (frontB x il) rfl H2.out.1 (.slice ia il ic) (bytesOf (sl L (i + 1) k)) rfl (src_sl Tryz.und8 H2.out.2.1.sl) (by have := HFL.out; have := HIL.out.1; omega) H2.out.2.2.2.1 ?_; intro v5 w5 hr5 hg5; have H5 : Hid (Row .u8 5 w.heap.size w5 v5 (bytesOf (sl L i k)) ∧ Below w.heap.size w w5) := ⟨by rw [HLA.out.1, HIL.out.2.1, HIL.out.2.2, List.nil_append]; exact hr5.mono H2.out.2.2.2.2, H2.out.2.2.1.trans ((hg5.below H2.out.1 H2.out.2.2.2.1).mono H2.out.2.2.2.2)⟩; clear hr5 hg5)
        go_ret
        exact ⟨_, rfl, H5.out.1, H5.out.2⟩
end Go.Proofs.YtefebamomdcaaaaGreatDoor
