/-
  Ber: the reference's reading: element. (wip/mkb95.py)
-/
import Derived.Test.YtefebamomdcaaaaGreatDoorK14
namespace Go.Proofs.YtefebamomdcaaaaGreatDoor
open Go.RowKit
def snV (g : Nat) (v0 : Value) (cs : List Value) (β : Nat × Value) (k : Nat) : Value :=
  if k = 6 then .slice (some ⟨β.1, 0, none⟩) 1 1 else if k = 7 then β.2 else ([.pointer (some ⟨g, 0, none⟩), .pointer (some ⟨g, 0, none⟩), .pointer (some ⟨g, 0, none⟩), .pointer (some ⟨g, 1, none⟩), v0, .agg cs.toArray, undef, undef, .pointer (some ⟨g, 0, none⟩), .pointer (some ⟨g, 1, none⟩), undef] : List Value).getD k undef
theorem snV_6 {g : Nat} {v0 : Value} {cs : List Value} {β : Nat × Value} {q k : Nat} (h : k ≠ 6) : snV g v0 cs (q, β.2) k = snV g v0 cs β k := by unfold snV; rw [if_neg h, if_neg h]
theorem snV_7 {g : Nat} {v0 : Value} {cs : List Value} {β : Nat × Value} {v : Value} {k : Nat} (h : k ≠ 7) : snV g v0 cs (β.1, v) k = snV g v0 cs β k := by unfold snV; rw [if_neg h, if_neg h]
set_option maxRecDepth 100000 in
set_option maxHeartbeats 16000000 in
theorem relement_any (b off n c : Nat) (M : List Int) (uM : U8s M) (hMl : M.length = n) (hn : n ≤ 16777216) (hnc : n ≤ c) :
    ∀ k dp : Nat, dp + k = 64 → ∀ (w : World) (g p q : Nat) (ov : Value) (L : List Te), b < g → Rd .u8 w b off M → Rdg w g b off n c ov 0 0 → Elems (g + 1) w ov L → q ≤ n → p ≤ q → L.length ≤ 65536 →
    Calls Tryz.prog 34 #[.pointer (some ⟨g, 0, none⟩), .int .i64 (p : Int), .int .i64 (q : Int), .int .i64 (dp : Int)] w fun e w' => ElOut M p q dp L g b off n c w' e ∧ Below g w w' := by
  intro k
  induction k using Nat.strongRecOn with
  | ind k ih =>
  intro dp hk w g p q ov L hbg hM hR hE hq hp hL
  have hgl := hR.lt
  obtain ⟨m, hm⟩ : ∃ m, L.length = m := ⟨_, rfl⟩
  obtain ⟨oa, oc, hov⟩ := hE.len
  rw [hm] at hov hL
  subst hov
  obtain ⟨Y, hY, hmr, hrows, hap⟩ := id hE
  have hYm : Y.length = m := by rw [← hm, ← hY, List.length_map]
  have HY : Hid (Y.length = m ∧ Y.map (·.1) = L ∧ Apart (Y.map (·.2)) ∧ ∀ y ∈ Y, ∀ b, blkOf y.2 = some b → b < w.heap.size + 1) := ⟨hYm, hY, hap, fun y hy b hb => by have := ((hrows y hy).blk_lt hb).2; omega⟩
  have HX : Hid (Rd .u8 w b off M ∧ Rdg w g b off n c (.slice oa m oc) 0 0 ∧ ElR w g (.slice oa m oc) Y ∧ U8s M ∧ M.length = n ∧ L.length = m) := ⟨hM, hR, ⟨hmr, hrows⟩, uM, hMl, hm⟩
  have HBAD : Hid (∀ (er : Int) (at_ : Nat), belS M p q m dp = .inl (er, at_) → ∀ S : List Prt, S.length = dp → pr M p q S L = .inl (er, at_)) := fun er at_ h S hS => pr_bad (by omega) (by rw [hm, hS]; exact h)
  have HIH : Hid (dp < 64 → ∀ (w : World) (p q : Nat) (ov : Value) (L : List Te), Rd .u8 w b off M → Rdg w g b off n c ov 0 0 → Elems (g + 1) w ov L → q ≤ n → p ≤ q → L.length ≤ 65536 → Calls Tryz.prog 34 #[.pointer (some ⟨g, 0, none⟩), .int .i64 (p : Int), .int .i64 (q : Int), .int .i64 ((dp + 1 : Nat) : Int)] w fun e w' => ElOut M p q (dp + 1) L g b off n c w' e ∧ Below g w w') := fun h w p q ov L => ih (k - 1) (by omega) (dp + 1) (by omega) w g p q ov L hbg
  have c1 : w.cell? ⟨g, 1, none⟩ = some (.slice oa m oc) := hR.cell 1
  have c0 : w.cell? ⟨g, 0, none⟩ = some (.slice (some ⟨b, off, none⟩) n c) := hR.cell 0
  have hdp : dp ≤ 64 := by omega
  clear hM hR hE hY hmr hrows hap hYm ih uM hMl hm hk
  by_cases h1 : m = 65536
  · have h1I : (65536 : Int) ≤ (m : Int) := by omega
    have HB : Hid (belS M p q m dp = .inl (4, p)) := by show _ = _; unfold belS; rw [if_pos h1]
    clear h1
    go_enter Tryz.func34, Tryz.ntmps34
    go_wp2_with (go_at_call 35; refine (no_any g b off n c _ 0 0 4 p HX.out.2.1).mono ?_; rintro e w1 ⟨rfl, hu, hr1⟩)
    go_ret
    exact ⟨.inl ⟨4, p, _, rfl, hr1, by decide, HBAD.out _ _ HB.out⟩, hu.below (Below.refl _ _) (Nat.le_of_lt hgl) (Nat.le_refl _)⟩
  have h1I : ¬ (65536 : Int) ≤ (m : Int) := by omega
  by_cases h2 : dp = 64
  · have h2I : (64 : Int) ≤ (dp : Int) := by omega
    have HB : Hid (belS M p q m dp = .inl (32, p)) := by show _ = _; unfold belS; rw [if_neg h1, if_pos h2]
    clear h2 h1
    go_enter Tryz.func34, Tryz.ntmps34
    go_wp2_with (go_at_call 35; refine (no_any g b off n c _ 0 0 32 p HX.out.2.1).mono ?_; rintro e w1 ⟨rfl, hu, hr1⟩)
    go_ret
    exact ⟨.inl ⟨32, p, _, rfl, hr1, by decide, HBAD.out _ _ HB.out⟩, hu.below (Below.refl _ _) (Nat.le_of_lt hgl) (Nat.le_refl _)⟩
  have h2I : ¬ (64 : Int) ≤ (dp : Int) := by omega
  by_cases h3 : q ≤ p
  · have h3I : (q : Int) ≤ (p : Int) := by omega
    have HB : Hid (belS M p q m dp = .inl (2, q)) := by show _ = _; unfold belS; rw [if_neg h1, if_neg h2, if_pos h3]
    clear h3 h2 h1
    go_enter Tryz.func34, Tryz.ntmps34
    go_wp2_with (go_at_call 35; refine (no_any g b off n c _ 0 0 2 q HX.out.2.1).mono ?_; rintro e w1 ⟨rfl, hu, hr1⟩)
    go_ret
    exact ⟨.inl ⟨2, q, _, rfl, hr1, by decide, HBAD.out _ _ HB.out⟩, hu.below (Below.refl _ _) (Nat.le_of_lt hgl) (Nat.le_refl _)⟩
  have h3I : ¬ (q : Int) ≤ (p : Int) := by omega
  have hpq : p < q := by omega
  obtain ⟨x, hx⟩ : ∃ x, M.getD p 0 = x := ⟨_, rfl⟩
  have hxu := HX.out.2.2.2.1.at p
  rw [hx] at hxu
  have cx : w.cell? ⟨b, off + p, none⟩ = some (.int .u8 x) := by rw [HX.out.1 p (by have := HX.out.2.2.2.2.1; omega), hx]
  obtain ⟨cl, hcl⟩ : ∃ cl, x / 64 = cl := ⟨_, rfl⟩
  obtain ⟨co, hco⟩ : ∃ co : Bool, decide (x / 32 % 2 = 1) = co := ⟨_, rfl⟩
  have e32 := and_32u x hxu
  obtain ⟨y, hy⟩ : ∃ y, bits .and .u8 x 32 = y := ⟨_, rfl⟩
  rw [hy, hco] at e32
  obtain ⟨T, hT⟩ : ∃ T, rtS (M.take q) p = T := ⟨_, rfl⟩
  have hql : (M.take q).length = q := by rw [List.length_take]; have := HX.out.2.2.2.2.1; omega
  have hxq : (M.take q).getD p 0 = x := by rw [take_getD hpq, hx]
  have HM : Hid (M.getD p 0 = x ∧ U8 x ∧ x / 64 = cl ∧ decide (x / 32 % 2 = 1) = co ∧ rtS (M.take q) p = T ∧ (M.take q).length = q ∧ U8s (M.take q) ∧ (M.take q).getD p 0 = x) := ⟨hx, hxu, hcl, hco, hT, hql, take_u8 HX.out.2.2.2.1 q, hxq⟩
  have x0 := hxu.1
  have x1 := hxu.2
  have cl0 : 0 ≤ cl := by omega
  have cl1 : cl ≤ 3 := by omega
  have HBS : Hid (m ≠ 65536 ∧ dp ≠ 64) := ⟨h1, h2⟩
  have hpn : (p : Int) < (n : Int) := by omega
  have hpnN : p < n := by omega
  have HCL : Hid (x / 64 = cl) := hcl
  clear h1 h2 h3 hx hxu hco hT hql hxq hcl
  go_enter Tryz.func34, Tryz.ntmps34
  go_upto_region 9 with (fail)
  refine wp_gen (fun W => Below w.heap.size w W ∧ Blk 59 W w.heap.size [.int .i64 (dp : Int), .int .i64 cl, .int .i64 0, .bool co, .slice none 0 0]) ⟨al1 _, by rw [← HCL.out]; exact Blk.new _ w _⟩ ?_
  rintro w1 ⟨hb1, hB1⟩
  have hs1 : w.heap.size < w1.heap.size := hB1.lt
  have H1 : Hid (Below w.heap.size w w1 ∧ Blk 59 w1 w.heap.size [.int .i64 (dp : Int), .int .i64 cl, .int .i64 0, .bool co, .slice none 0 0] ∧ Rdg w1 g b off n c (.slice oa m oc) 0 0 ∧ ElR w1 g (.slice oa m oc) Y ∧ Rd .u8 w1 b off M) := ⟨hb1, hB1, below_blk hb1 hgl HX.out.2.1, HX.out.2.2.1.below hb1, below_rd hb1 (by omega) HX.out.1⟩
  clear hb1 hB1 c0 c1 cx
  go_wp2_with fail
  refine (rtag_any g b off n c p q _ (M.take q) H1.out.2.2.1 (rd_take H1.out.2.2.2.2 q) HM.out.2.2.2.2.2.2.1 HM.out.2.2.2.2.2.1 hq hn hpq).mono ?_
  rw [HM.out.2.2.2.2.1]
  rintro e w2 ⟨rfl, hu, hr2⟩
  have hs2 := hu.size
  have hU2 : Upd w w2 g := (Below.upd H1.out.1).trans hu
  have H2 : Hid (Below g w w2 ∧ Blk 59 w2 w.heap.size [.int .i64 (dp : Int), .int .i64 cl, .int .i64 0, .bool co, .slice none 0 0] ∧ Upd w w2 g) := ⟨hU2.below (Below.refl _ _) (Nat.le_of_lt hgl) (Nat.le_refl _), hu.blk H1.out.2.1 (by omega), hU2⟩
  clear hu hU2
  cases T with
  | inl ea =>
    obtain ⟨er, a⟩ := ea
    have her := rtS_bad (M := M.take q) (by rw [HM.out.2.2.2.2.2.1]; exact hpq) HM.out.2.2.2.2.1
    simp only [Rs.e, Rs.fa] at hr2
    simp only [Rs.v, Rs.nx]
    have HB : Hid (belS M p q m dp = .inl (er, a)) := belS_tag HBS.out.1 HBS.out.2 hpq (by rw [tagS_rt, HM.out.2.2.2.2.1])
    have r2 : w2.cell? ⟨g, 2, none⟩ = some (.int .i64 er) := hr2.cell 2
    have g1 : (er == 0) = false := by simp; omega
    have g2 : (er != 0) = true := by simp; omega
    have HR2 : Hid (Rdg w2 g b off n c (.slice oa m oc) er (a : Int) ∧ er ≠ 0) := ⟨hr2, by omega⟩
    clear hr2 her
    go_wp2
    go_ret
    exact ⟨.inl ⟨er, a, _, rfl, HR2.out.1, HR2.out.2, HBAD.out _ _ HB.out⟩, H2.out.1⟩
  | inr tj =>
    obtain ⟨t, i⟩ := tj
    have htk := rtS_ok (M := M.take q) HM.out.2.2.2.2.2.2.1 (by rw [HM.out.2.2.2.2.2.1]; exact hpq) HM.out.2.2.2.2.1
    rw [HM.out.2.2.2.2.2.1] at htk
    obtain ⟨hpi, hiq, t0, t1⟩ := htk
    simp only [Rs.e, Rs.fa] at hr2
    simp only [Rs.v, Rs.nx]
    have r2 : w2.cell? ⟨g, 2, none⟩ = some (.int .i64 0) := hr2.cell 2
    have e1 : w2.cell? ⟨w.heap.size, 1, none⟩ = some (.int .i64 cl) := H2.out.2.1.cell 1
    have HR2 : Hid (Rdg w2 g b off n c (.slice oa m oc) 0 0) := hr2
    clear hr2
    by_cases ht : t = 0 ∧ x < 64
    · have k1 : (cl == 0) = true := by simp; have := HCL.out; omega
      have k2 : (t == 0) = true := by simp; omega
      have HB : Hid (belS M p q m dp = .inl (30, p)) := belS_tag HBS.out.1 HBS.out.2 hpq (by rw [tagS_rt, HM.out.2.2.2.2.1]; simp only []; rw [HM.out.2.2.2.2.2.2.2, if_pos ht])
      clear ht
      go_wp2_with (go_at_call 35; refine (no_any g b off n c _ 0 0 30 p HR2.out).mono ?_; rintro e w3 ⟨rfl, hu, hr1⟩; have r3 : w3.cell? ⟨g, 2, none⟩ = some (.int .i64 30) := hr1.cell 2)
      go_ret
      exact ⟨.inl ⟨30, p, _, rfl, hr1, by decide, HBAD.out _ _ HB.out⟩, hu.below H2.out.1 (by omega) (Nat.le_refl _)⟩
    have HT : Hid (tagS (M.take q) p = .inr (t, i)) := by show _ = _; rw [tagS_rt, HM.out.2.2.2.2.1]; simp only []; rw [HM.out.2.2.2.2.2.2.2, if_neg ht]
    have hcase : ((cl == 0) = true ∧ (t == 0) = false) ∨ (cl == 0) = false := by
      by_cases h : cl = 0
      · left; refine ⟨by simpa using h, ?_⟩
        have := HCL.out
        simp; omega
      · right; simpa using h
    clear ht
    go_upto_region 10 with (fail)
    go_cut [70] from 57 (fun s70 wc => s70 = .bool false ∧ wc = w2)
    case first =>
      rcases hcase with ⟨k1, k2⟩ | k1
      · go_wp2
        go_meet
        case rel => exact ⟨rfl, rfl⟩
      · go_wp2
        go_meet
        case rel => exact ⟨rfl, rfl⟩
    obtain ⟨rfl, rfl⟩ := hcut
    have f2 := H2.out.2.1.frozen 2
    have e2 : wc.cell? ⟨w.heap.size, 2, none⟩ = some (.int .i64 0) := H2.out.2.1.cell 2
    go_upto_region 15 with (fail)
    refine wp_gen (fun W => Upd w W g ∧ Blk 59 W w.heap.size [.int .i64 (dp : Int), .int .i64 cl, .int .i64 t, .bool co, .slice none 0 0] ∧ Rdg W g b off n c (.slice oa m oc) 0 0) ⟨H2.out.2.2.more (Upd.set _ _ _ _) (Nat.le_refl _), H2.out.2.1.set 2 _, (Upd.set _ _ _ _).blk HR2.out (by omega)⟩ ?_
    rintro w3 ⟨hu3, hB3, hr3⟩
    have H3 : Hid (Upd w w3 g ∧ Blk 59 w3 w.heap.size [.int .i64 (dp : Int), .int .i64 cl, .int .i64 t, .bool co, .slice none 0 0] ∧ Rdg w3 g b off n c (.slice oa m oc) 0 0 ∧ Rd .u8 w3 b off M) := ⟨hu3, hB3, hr3, hu3.rd (by omega) HX.out.1 (by omega)⟩
    have e3 : w3.cell? ⟨w.heap.size, 3, none⟩ = some (.bool co) := hB3.cell 3
    obtain ⟨BL, hBL⟩ : ∃ BL, blen (M.take q) i co = BL := ⟨_, rfl⟩
    have HBL : Hid (blen (M.take q) i co = BL) := hBL
    have hs3 : w.heap.size < w3.heap.size := hB3.lt
    clear hu3 hB3 hr3 hBL f2 e2 e1 r2
    go_wp2_with fail
    refine (rlength_any g b off n c i q _ co (M.take q) H3.out.2.2.1 (rd_take H3.out.2.2.2 q) HM.out.2.2.2.2.2.2.1 HM.out.2.2.2.2.2.1 hq hn hiq).mono ?_
    rw [HBL.out]
    rintro e w4 ⟨rfl, hu4, hr4⟩
    have hU4 := H3.out.1.trans hu4
    have hs4 : w.heap.size < w4.heap.size := Nat.lt_of_lt_of_le hs3 hu4.size
    have H4 : Hid (Upd w w4 g ∧ Blk 59 w4 w.heap.size [.int .i64 (dp : Int), .int .i64 cl, .int .i64 t, .bool co, .slice none 0 0] ∧ Below g w w4) := ⟨hU4, hu4.blk H3.out.2.1 (by omega), hU4.below (Below.refl _ _) (Nat.le_of_lt hgl) (Nat.le_refl _)⟩
    clear hu4 hU4 e3
    cases BL with
    | inl ea =>
      obtain ⟨er, a⟩ := ea
      have her := (blen_bad (by rw [HM.out.2.2.2.2.2.1]; exact hiq) HBL.out).2.2
      simp only [Rs.e, Rs.fa] at hr4
      simp only [Rs.v, Rs.nx]
      have HB : Hid (belS M p q m dp = .inl (er, a)) := belS_at2 HBS.out.1 HBS.out.2 hpq HT.out (by rw [HM.out.1]; exact HM.out.2.2.2.1) HBL.out
      have r2 : w4.cell? ⟨g, 2, none⟩ = some (.int .i64 er) := hr4.cell 2
      have g2 : (er != 0) = true := by simp; omega
      have HR4 : Hid (Rdg w4 g b off n c (.slice oa m oc) er (a : Int) ∧ er ≠ 0) := ⟨hr4, by omega⟩
      clear hr4 her
      go_wp2
      go_ret
      exact ⟨.inl ⟨er, a, _, rfl, HR4.out.1, HR4.out.2, HBAD.out _ _ HB.out⟩, H4.out.2.2⟩
    | inr lj =>
      obtain ⟨l, j⟩ := lj
      have hbo := blen_ok HM.out.2.2.2.2.2.2.1 HBL.out
      rw [HM.out.2.2.2.2.2.1] at hbo
      obtain ⟨hij, hjq, hl⟩ := hbo
      have HBB : Hid (belS M p q m dp = .inr (t, l, j)) := belS_at2 HBS.out.1 HBS.out.2 hpq HT.out (by rw [HM.out.1]; exact HM.out.2.2.2.1) HBL.out
      simp only [Rs.e, Rs.fa] at hr4
      simp only [Rs.v, Rs.nx]
      have r2 : w4.cell? ⟨g, 2, none⟩ = some (.int .i64 0) := hr4.cell 2
      have e3 : w4.cell? ⟨w.heap.size, 3, none⟩ = some (.bool co) := H4.out.2.1.cell 3
      have HR4 : Hid (Rdg w4 g b off n c (.slice oa m oc) 0 0 ∧ Rd .u8 w4 b off M ∧ ElR w4 g (.slice oa m oc) Y) := ⟨hr4, H4.out.1.rd (by omega) HX.out.1 (by omega), HX.out.2.2.1.upd H4.out.1⟩
      have hjn : j ≤ n := by omega
      obtain ⟨X, hX⟩ : ∃ X, belE M p dp t l j = X := ⟨_, rfl⟩
      have HPR : Hid (∀ S : List Prt, S.length = dp → pr M p q S L = prC M (belP M p l j) (belT M p q l j S) (L ++ [X])) := fun S hS => by
        have := pr_ok (M := M) (p := p) (q := q) (S := S) (L := L) (by have := HX.out.2.2.2.2.2; omega) (t := t) (l := l) (j := j) (by rw [HX.out.2.2.2.2.2, hS]; exact HBB.out)
        rw [this, hS, hX]
      have hco : decide (M.getD p 0 / 32 % 2 = 1) = co := by rw [HM.out.1]; exact HM.out.2.2.2.1
      have hXe : X = ⟨dp, cl, t, co, if co = true then [] else (M.drop j).take l.toNat⟩ := by
        rw [← hX]
        unfold belE
        rw [HM.out.1, HM.out.2.2.1]
        have hi : (x / 32 % 2 = 1) ↔ co = true := by rw [← HM.out.2.2.2.1]; simp
        simp only [hi]
        cases co <;> simp
      have HXE : Hid (X = ⟨dp, cl, t, co, if co = true then [] else (M.drop j).take l.toNat⟩ ∧ decide (M.getD p 0 / 32 % 2 = 1) = co) := ⟨hXe, hco⟩
      have hm1 : m + 1 ≤ 65536 := by have := HBS.out.1; omega
      clear hr4 hX hXe hco
      cases co with
      | false =>
        have hl0 : 0 ≤ l := by rcases hl with ⟨-, h⟩ | h; cases h; exact h.1
        obtain ⟨ln, rfl⟩ := Int.eq_ofNat_of_zero_le hl0
        have hlq : j + ln ≤ q := by rcases hl with ⟨-, h⟩ | h; cases h; omega
        obtain ⟨E, hE⟩ : ∃ E, j + ln = E := ⟨_, rfl⟩
        have hEI : (j : Int) + (ln : Int) = (E : Int) := by omega
        have hEj : E - j = ln := by omega
        have HE9 : Hid (j + ln = E ∧ E - j = ln) := ⟨hE, hEj⟩
        have r0 : w4.cell? ⟨g, 0, none⟩ = some (.slice (some ⟨b, off, none⟩) n c) := HR4.out.1.cell 0
        obtain ⟨ba, hba⟩ : ∃ ba : Option Addr, (if c = j then some ⟨b, off, none⟩ else some ⟨b, off + j, none⟩) = ba := ⟨_, rfl⟩
        have HC : Hid (∀ W : World, Rd .u8 W b off M → b < W.heap.size → Sl .u8 W (.slice ba (E - j) (c - j)) ((M.drop j).take ln)) := fun W h hb' => by
          have := rd_slo (c := c) hb' h j E (by omega) (by have := HX.out.2.2.2.2.1; omega) (by omega)
          rw [← hba, ← HE9.out.2]; exact this
        have hjEI : (j : Int) ≤ (E : Int) := by omega
        have hjE : j ≤ E := by omega
        have hEcI : (E : Int) ≤ (c : Int) := by omega
        have hlnb : ln ≤ 16777216 := by omega
        have hEq : E ≤ q := by omega
        have hpE : p < E := by omega
        have HPE : Hid (∀ S : List Prt, S.length = dp → pr M p q S L = prC M E S (L ++ [X])) := fun S hS => by
          have h := HPR.out S hS
          have hn1 : ¬ (M.getD p 0 / 32 % 2 = 1) := by have := HXE.out.2; simpa using this
          unfold belP belT at h
          rw [if_neg hn1, if_neg hn1] at h
          rw [h, Int.toNat_natCast, HE9.out.1]
        have hXd : X.d = (M.drop j).take ln := by rw [HXE.out.1]; simp
        have HXD : Hid (X.d = (M.drop j).take ln) := hXd
        clear hE hEj hl hXd hl0
        have hb4 : Hid (b < w4.heap.size) := by show _ < _; omega
        have hsg : g < w4.heap.size := by omega
        clear hcase hij hpi hiq hy
        have HS1 : Hid (Src Tryz.prog 1 22 (.slice ba (E - j) (c - j)) ((M.drop j).take ln).length (((M.drop j).take ln).map (Value.int .u8)) (w4.alloc (.cells #[] 5))) := src_sl Tryz.und8 (HC.out _ (below_rd (al1 _) hb4.out HR4.out.2.1) (by simp; have := hb4.out; omega))
        have HS2 : Hid ((([] : List Int).length + ((M.drop j).take ln).length) * 1 ≤ 140737488355328) := by show _ ≤ _; rw [List.length_take]; simp only [List.length_nil]; omega
        have HARM : Hid (∀ (v5 : Value) (w5 : World), Row .u8 5 w4.heap.size w5 v5 ([] ++ (M.drop j).take ln) → Grew .u8 5 (w4.alloc (.cells #[] 5)) w5 (.slice (some ⟨w4.heap.size, 0, none⟩) 0 0) ((M.drop j).take ln) → ∃ ja jl jc, v5 = .slice ja jl jc ∧ Row .u8 5 w4.heap.size w5 (.slice ja jl jc) ((M.drop j).take ln) ∧ Below w4.heap.size w4 w5 ∧ Blk 59 w5 w.heap.size [.int .i64 (dp : Int), .int .i64 cl, .int .i64 t, .bool false, .slice none 0 0]) := by
          intro v5 w5 hr5 hg5
          rw [List.nil_append] at hr5
          obtain ⟨ja, jc, hj5⟩ := hr5.ne
          have hb5 : Below w4.heap.size w4 w5 := (al1 _).trans (hg5.below (row0 (w := w4)) (by simp))
          exact ⟨ja, _, jc, hj5, by rw [← hj5]; exact hr5, hb5, below_blk hb5 hs4 H4.out.2.1⟩
        go_upto_region 20 with (at_builtin; refine wpList_ap rfl (.tmp 98) (.tmp 107) 22 22 rfl .u8 5 1 Tryz.und8 Tryz.info8 (by decide) w4.heap.size (.slice (some ⟨w4.heap.size, 0, none⟩) 0 0) [] rfl row0 (.slice ba (E - j) (c - j)) ((M.drop j).take ln) rfl HS1.out HS2.out (by simp) ?_; intro v5 w5 hr5 hg5; obtain ⟨ja, jl, jc, rfl, hr6, hb5, hB5⟩ := HARM.out v5 w5 hr5 hg5; clear hr5 hg5; have q4 : w5.cell? ⟨w.heap.size, 4, none⟩ = some (.slice none 0 0) := hB5.cell 4; have f4 : w5.frozen? ⟨w.heap.size, 4, none⟩ = false := hB5.frozen 4)
        have hU5 : Upd w w5 g := H4.out.1.trans (Below.upd hb5)
        refine wp_gen (fun W => Upd w W g ∧ Blk 59 W w.heap.size [.int .i64 (dp : Int), .int .i64 cl, .int .i64 t, .bool false, .slice ja jl jc] ∧ Rdg W g b off n c (.slice oa m oc) 0 0 ∧ Row .u8 5 (w.heap.size + 1) W (.slice ja jl jc) ((M.drop j).take ln)) ⟨hU5.more (Upd.set _ _ _ _) (Nat.le_refl _), hB5.set 4 _, (Upd.set _ _ _ _).blk (below_blk hb5 (by omega) HR4.out.1) (by omega), (hr6.mono (by omega)).upd (Upd.set _ _ _ _) (by omega)⟩ ?_
        rintro w6 ⟨hu6, hB6, hrg6, hd6⟩
        have H6 : Hid (Rdg w6 g b off n c (.slice oa m oc) 0 0 ∧ ElR w6 g (.slice oa m oc) Y ∧ Row .u8 5 (w.heap.size + 1) w6 (.slice ja jl jc) X.d ∧ Blk 59 w6 w.heap.size [.int .i64 (dp : Int), .int .i64 cl, .int .i64 t, .bool false, .slice ja jl jc] ∧ [.int .i64 (dp : Int), .int .i64 cl, .int .i64 t, .bool false, .slice ja jl jc] = cellE (X, .slice ja jl jc)) := ⟨hrg6, HX.out.2.2.1.upd hu6, by rw [HXD.out]; exact hd6, hB6, by rw [HXE.out.1]; rfl⟩
        have HB6 : Hid (Below g w w6) := hu6.below (Below.refl _ _) (Nat.le_of_lt hgl) (Nat.le_refl _)
        clear hu6 hB6 hrg6 hd6 hU5 hb5 hB5 q4 f4 hr6 r0 r2 e3
        go_upto_region 20 with (fail)
        refine wp_region_cl (snV g (.slice oa m oc) [.int .i64 (dp : Int), .int .i64 cl, .int .i64 t, .bool false, .slice ja jl jc]) (fun bb F W => SnS g b off n c w.heap.size (w.heap.size + 1) (.slice oa m oc) Y [.int .i64 (dp : Int), .int .i64 cl, .int .i64 t, .bool false, .slice ja jl jc] X (.slice ja jl jc) L w6 bb F W) (0, undef) rfl (by decide +kernel) (show dstB _ 191 = true by decide +kernel) (SnS.start H6.out.1 H6.out.2.1 H6.out.2.2.1 H6.out.2.2.2.1) (fun bb F W hup hS => ?_) (fun i bb F W a hi hno hsz hdep hv h0 hcl hS => ?_)
        rotate_left
        · replace hi : i < 11 := hi
          obtain rfl | rfl | rfl | rfl | rfl | rfl | rfl | rfl | rfl | rfl | rfl : i = 0 ∨ i = 1 ∨ i = 2 ∨ i = 3 ∨ i = 4 ∨ i = 5 ∨ i = 6 ∨ i = 7 ∨ i = 8 ∨ i = 9 ∨ i = 10 := by omega
          · have x0 : a.eval (.tmp 0) = .pointer (some ⟨g, 0, none⟩) := (h0 0 (by decide +kernel)).trans rfl
            exact rg_val rfl (wn_any rfl) (run_mv rfl x0) (hS.other (by decide) (by decide) (by decide))
          · have x0 : a.eval (.tmp 0) = .pointer (some ⟨g, 0, none⟩) := (h0 0 (by decide +kernel)).trans rfl
            exact rg_val rfl (wn_any rfl) (run_mv rfl x0) (hS.other (by decide) (by decide) (by decide))
          · have e1 : a.eval (.tmp 111) = .pointer (some ⟨g, 0, none⟩) := hv 1 _ (show 1 < 11 by decide) (hdep 1 (by decide +kernel)) rfl
            exact rg_val rfl (wn_any rfl) (run_nilc rfl e1) (hS.other (by decide) (by decide) (by decide))
          · have e2 : a.eval (.tmp 112) = .pointer (some ⟨g, 0, none⟩) := hv 2 _ (show 2 < 11 by decide) (hdep 2 (by decide +kernel)) rfl
            exact rg_val rfl (wn_any rfl) (run_fa (v := .pointer (some ⟨g, 1, none⟩)) rfl e2 (by simp [go_sem, Instr.fieldAt])) (hS.other (by decide) (by decide) (by decide))
          · have e3 : a.eval (.tmp 113) = .pointer (some ⟨g, 1, none⟩) := hv 3 _ (show 3 < 11 by decide) (hdep 3 (by decide +kernel)) rfl
            have cc : W.cell? ⟨g, 1, none⟩ = some (.slice oa m oc) := (hS.2.2.2.2 fun u => hno (hcl 7 (hcl 10 u 7 (by decide +kernel)) 4 (by decide +kernel))).cell 1
            exact rg_val rfl (wn_any rfl) (run_ld (v := .slice oa m oc) rfl e3 (by simp [go_sem, Instr.loadAt, cc])) (hS.other (by decide) (by decide) (by decide))
          · have x10 : a.eval (.tmp 10) = .pointer (some ⟨w.heap.size, 0, none⟩) := (h0 10 (by decide +kernel)).trans rfl
            exact rg_load rfl (wn_any rfl) rfl x10 (hS.2.2.1 fun u => hno (hcl 6 (hcl 7 u 6 (by decide +kernel)) 5 (by decide +kernel))).2.2.1.whole Tryz.underlying59 rfl Tryz.sizeE rfl (hS.other (by decide) (by decide) (by decide))
          · have e5 : a.eval (.tmp 115) = .agg #[.int .i64 (dp : Int), .int .i64 cl, .int .i64 t, .bool false, .slice ja jl jc] := hv 5 _ (show 5 < 11 by decide) (hdep 5 (by decide +kernel)) rfl
            have n7 : ¬ Up F 7 := fun u => hno (hcl 7 u 6 (by decide +kernel))
            exact rg_new (W.heap.size, bb.2) rfl (wn_any rfl) (run_bs rfl e5) (fun k hk _ => snV_6 hk) rfl (hS.bs n7 fun u => n7 (hcl 10 u 7 (by decide +kernel)))
          · have e4 : a.eval (.tmp 114) = .slice oa m oc := hv 4 _ (show 4 < 11 by decide) (hdep 4 (by decide +kernel)) rfl
            have e6 : a.eval (.tmp 116) = .slice (some ⟨bb.1, 0, none⟩) 1 1 := hv 6 _ (show 6 < 11 by decide) (hdep 6 (by decide +kernel)) rfl
            have hS7 := hS.2.2.1 hno
            exact rg_apm rfl (wn_any rfl) (.tmp 114) (.tmp 116) 25 25 rfl 5 (.agg zE.toArray) rfl 59 56 Tryz.undE Tryz.infoE (by decide) (g + 1) (.slice oa m oc) Y.length (elCells Y) e4 hS7.1.1 (.slice (some ⟨bb.1, 0, none⟩) 1 1) 1 _ e6 (src_m (T := 59) Tryz.undE 5 (hS7.2.2.2.2 (hdep 6 (by decide +kernel))) rfl (elem_one _ _ _ _ _ _ _)) (by have := HY.out; omega) hS7.2.2.2.1 (fun v' w' hm' hg' => ⟨(bb.1, v'), fun k hk _ => snV_7 hk, rfl, hS.ap hno (fun u => hno (hcl 10 u 7 (by decide +kernel))) (hsz 7 (by decide)) HY.out.2.1 HY.out.2.2.1 H6.out.2.2.2.2 (by omega) HY.out.2.2.2 hm' hg'⟩)
          · have e0 : a.eval (.tmp 110) = .pointer (some ⟨g, 0, none⟩) := hv 0 _ (show 0 < 11 by decide) (hdep 0 (by decide +kernel)) rfl
            exact rg_val rfl (wn_any rfl) (run_nilc rfl e0) (hS.other (by decide) (by decide) (by decide))
          · have e8 : a.eval (.tmp 118) = .pointer (some ⟨g, 0, none⟩) := hv 8 _ (show 8 < 11 by decide) (hdep 8 (by decide +kernel)) rfl
            exact rg_val rfl (wn_any rfl) (run_fa (v := .pointer (some ⟨g, 1, none⟩)) rfl e8 (by simp [go_sem, Instr.fieldAt])) (hS.other (by decide) (by decide) (by decide))
          · have e9 : a.eval (.tmp 119) = .pointer (some ⟨g, 1, none⟩) := hv 9 _ (show 9 < 11 by decide) (hdep 9 (by decide +kernel)) rfl
            have e7 : a.eval (.tmp 117) = bb.2 := hv 7 _ (show 7 < 11 by decide) (hdep 7 (by decide +kernel)) rfl
            have u7 := hdep 7 (by decide +kernel)
            obtain ⟨a9, c9, hv9⟩ := (hS.2.1 u7).len
            have cc : W.cell? ⟨g, 1, none⟩ = some (.slice oa m oc) := (hS.2.2.2.2 hno).cell 1
            have ff : W.frozen? ⟨g, 1, none⟩ = false := (hS.2.2.2.2 hno).frozen 1
            exact rg_st1 (W' := W.setCell ⟨g, 1, none⟩ bb.2) rfl (wn_any rfl) rfl (run_s1 rfl e9 e7 (by rw [hv9]; simp [go_sem, Instr.storeAt, cc, ff])) (hS.st u7 hno (hsz 10 (by decide)))
        obtain ⟨hT1, hT2, -, hT4, -⟩ := hS
        replace hT2 := hT2 (hup 7 (by decide))
        replace hT4 := hT4 (hup 10 (by decide))
        rw [frF11 rfl rfl rfl rfl rfl rfl rfl rfl rfl rfl rfl rfl]
        simp only [List.setIfInBounds_toArray, List.set_cons_succ, List.set_cons_zero]
        have HE : Hid (ElOut M p q dp L g b off n c W (.returned (.int .i64 (E : Int))) ∧ Below g w W) := ⟨.inr ⟨E, L ++ [X], bb.2, rfl, hT4, hT2, hpE, hEq, by rw [List.length_append, HX.out.2.2.2.2.2]; exact hm1, HPE.out⟩, HB6.out.trans hT1⟩
        clear hT1 hT2 hT4
        go_wp2
        go_ret
        exact HE.out
      | true =>
        have HE8 : Hid (Rdg w4 g b off n c (.slice oa m oc) 0 0 ∧ ElR w4 g (.slice oa m oc) Y ∧ Row .u8 5 (w.heap.size + 1) w4 (.slice none 0 0) X.d ∧ Blk 59 w4 w.heap.size [.int .i64 (dp : Int), .int .i64 cl, .int .i64 t, .bool true, .slice none 0 0] ∧ [.int .i64 (dp : Int), .int .i64 cl, .int .i64 t, .bool true, .slice none 0 0] = cellE (X, .slice none 0 0)) := ⟨HR4.out.1, HR4.out.2.2, by rw [HXE.out.1]; exact Row.nil _ _ _ _, H4.out.2.1, by rw [HXE.out.1]; rfl⟩
        have hl2 : l = -1 ∨ 0 ≤ l ∧ (j : Int) + l ≤ q := by rcases hl with h | h; exact .inl h.1; exact .inr ⟨h.1, h.2.1⟩
        have hp1 : M.getD p 0 / 32 % 2 = 1 := by have := HXE.out.2; simpa using this
        have HP1 : Hid (M.getD p 0 / 32 % 2 = 1) := hp1
        clear hl hp1
        go_upto_region 22 with (fail)
        refine wp_region_cl (snV g (.slice oa m oc) [.int .i64 (dp : Int), .int .i64 cl, .int .i64 t, .bool true, .slice none 0 0]) (fun bb F W => SnS g b off n c w.heap.size (w.heap.size + 1) (.slice oa m oc) Y [.int .i64 (dp : Int), .int .i64 cl, .int .i64 t, .bool true, .slice none 0 0] X (.slice none 0 0) L w4 bb F W) (0, undef) rfl (by decide +kernel) (show dstB _ 191 = true by decide +kernel) (SnS.start HE8.out.1 HE8.out.2.1 HE8.out.2.2.1 HE8.out.2.2.2.1) (fun bb F W hup hS => ?_) (fun i bb F W a hi hno hsz hdep hv h0 hcl hS => ?_)
        rotate_left
        · replace hi : i < 11 := hi
          obtain rfl | rfl | rfl | rfl | rfl | rfl | rfl | rfl | rfl | rfl | rfl : i = 0 ∨ i = 1 ∨ i = 2 ∨ i = 3 ∨ i = 4 ∨ i = 5 ∨ i = 6 ∨ i = 7 ∨ i = 8 ∨ i = 9 ∨ i = 10 := by omega
          · have x0 : a.eval (.tmp 0) = .pointer (some ⟨g, 0, none⟩) := (h0 0 (by decide +kernel)).trans rfl
            exact rg_val rfl (wn_any rfl) (run_mv rfl x0) (hS.other (by decide) (by decide) (by decide))
          · have x0 : a.eval (.tmp 0) = .pointer (some ⟨g, 0, none⟩) := (h0 0 (by decide +kernel)).trans rfl
            exact rg_val rfl (wn_any rfl) (run_mv rfl x0) (hS.other (by decide) (by decide) (by decide))
          · have e1 : a.eval (.tmp 124) = .pointer (some ⟨g, 0, none⟩) := hv 1 _ (show 1 < 11 by decide) (hdep 1 (by decide +kernel)) rfl
            exact rg_val rfl (wn_any rfl) (run_nilc rfl e1) (hS.other (by decide) (by decide) (by decide))
          · have e2 : a.eval (.tmp 125) = .pointer (some ⟨g, 0, none⟩) := hv 2 _ (show 2 < 11 by decide) (hdep 2 (by decide +kernel)) rfl
            exact rg_val rfl (wn_any rfl) (run_fa (v := .pointer (some ⟨g, 1, none⟩)) rfl e2 (by simp [go_sem, Instr.fieldAt])) (hS.other (by decide) (by decide) (by decide))
          · have e3 : a.eval (.tmp 126) = .pointer (some ⟨g, 1, none⟩) := hv 3 _ (show 3 < 11 by decide) (hdep 3 (by decide +kernel)) rfl
            have cc : W.cell? ⟨g, 1, none⟩ = some (.slice oa m oc) := (hS.2.2.2.2 fun u => hno (hcl 7 (hcl 10 u 7 (by decide +kernel)) 4 (by decide +kernel))).cell 1
            exact rg_val rfl (wn_any rfl) (run_ld (v := .slice oa m oc) rfl e3 (by simp [go_sem, Instr.loadAt, cc])) (hS.other (by decide) (by decide) (by decide))
          · have x10 : a.eval (.tmp 10) = .pointer (some ⟨w.heap.size, 0, none⟩) := (h0 10 (by decide +kernel)).trans rfl
            exact rg_load rfl (wn_any rfl) rfl x10 (hS.2.2.1 fun u => hno (hcl 6 (hcl 7 u 6 (by decide +kernel)) 5 (by decide +kernel))).2.2.1.whole Tryz.underlying59 rfl Tryz.sizeE rfl (hS.other (by decide) (by decide) (by decide))
          · have e5 : a.eval (.tmp 128) = .agg #[.int .i64 (dp : Int), .int .i64 cl, .int .i64 t, .bool true, .slice none 0 0] := hv 5 _ (show 5 < 11 by decide) (hdep 5 (by decide +kernel)) rfl
            have n7 : ¬ Up F 7 := fun u => hno (hcl 7 u 6 (by decide +kernel))
            exact rg_new (W.heap.size, bb.2) rfl (wn_any rfl) (run_bs rfl e5) (fun k hk _ => snV_6 hk) rfl (hS.bs n7 fun u => n7 (hcl 10 u 7 (by decide +kernel)))
          · have e4 : a.eval (.tmp 127) = .slice oa m oc := hv 4 _ (show 4 < 11 by decide) (hdep 4 (by decide +kernel)) rfl
            have e6 : a.eval (.tmp 129) = .slice (some ⟨bb.1, 0, none⟩) 1 1 := hv 6 _ (show 6 < 11 by decide) (hdep 6 (by decide +kernel)) rfl
            have hS7 := hS.2.2.1 hno
            exact rg_apm rfl (wn_any rfl) (.tmp 127) (.tmp 129) 25 25 rfl 5 (.agg zE.toArray) rfl 59 56 Tryz.undE Tryz.infoE (by decide) (g + 1) (.slice oa m oc) Y.length (elCells Y) e4 hS7.1.1 (.slice (some ⟨bb.1, 0, none⟩) 1 1) 1 _ e6 (src_m (T := 59) Tryz.undE 5 (hS7.2.2.2.2 (hdep 6 (by decide +kernel))) rfl (elem_one _ _ _ _ _ _ _)) (by have := HY.out; omega) hS7.2.2.2.1 (fun v' w' hm' hg' => ⟨(bb.1, v'), fun k hk _ => snV_7 hk, rfl, hS.ap hno (fun u => hno (hcl 10 u 7 (by decide +kernel))) (hsz 7 (by decide)) HY.out.2.1 HY.out.2.2.1 HE8.out.2.2.2.2 (by omega) HY.out.2.2.2 hm' hg'⟩)
          · have e0 : a.eval (.tmp 123) = .pointer (some ⟨g, 0, none⟩) := hv 0 _ (show 0 < 11 by decide) (hdep 0 (by decide +kernel)) rfl
            exact rg_val rfl (wn_any rfl) (run_nilc rfl e0) (hS.other (by decide) (by decide) (by decide))
          · have e8 : a.eval (.tmp 131) = .pointer (some ⟨g, 0, none⟩) := hv 8 _ (show 8 < 11 by decide) (hdep 8 (by decide +kernel)) rfl
            exact rg_val rfl (wn_any rfl) (run_fa (v := .pointer (some ⟨g, 1, none⟩)) rfl e8 (by simp [go_sem, Instr.fieldAt])) (hS.other (by decide) (by decide) (by decide))
          · have e9 : a.eval (.tmp 132) = .pointer (some ⟨g, 1, none⟩) := hv 9 _ (show 9 < 11 by decide) (hdep 9 (by decide +kernel)) rfl
            have e7 : a.eval (.tmp 130) = bb.2 := hv 7 _ (show 7 < 11 by decide) (hdep 7 (by decide +kernel)) rfl
            have u7 := hdep 7 (by decide +kernel)
            obtain ⟨a9, c9, hv9⟩ := (hS.2.1 u7).len
            have cc : W.cell? ⟨g, 1, none⟩ = some (.slice oa m oc) := (hS.2.2.2.2 hno).cell 1
            have ff : W.frozen? ⟨g, 1, none⟩ = false := (hS.2.2.2.2 hno).frozen 1
            exact rg_st1 (W' := W.setCell ⟨g, 1, none⟩ bb.2) rfl (wn_any rfl) rfl (run_s1 rfl e9 e7 (by rw [hv9]; simp [go_sem, Instr.storeAt, cc, ff])) (hS.st u7 hno (hsz 10 (by decide)))
        obtain ⟨hT1, hT2, -, hT4, -⟩ := hS
        replace hT2 := hT2 (hup 7 (by decide))
        replace hT4 := hT4 (hup 10 (by decide))
        rw [frF11 rfl rfl rfl rfl rfl rfl rfl rfl rfl rfl rfl rfl]
        simp only [List.setIfInBounds_toArray, List.set_cons_succ, List.set_cons_zero]
        have H7 : Hid (Rdg W g b off n c bb.2 0 0 ∧ Elems (g + 1) W bb.2 (L ++ [X]) ∧ Below g w W ∧ (L ++ [X]).length ≤ 65536) := ⟨hT4, hT2, H4.out.2.2.trans hT1, by rw [List.length_append, HX.out.2.2.2.2.2]; exact hm1⟩
        clear hT1 hT2 hT4 r2 e3
        have hdp2 : dp < 64 := by have := HBS.out.2; omega
        have HEL : Hid (∀ (W : World) (p' : Nat) (q' : Nat) (ov : Value) (L' : List Te), Below g w W → Rdg W g b off n c ov 0 0 → Elems (g + 1) W ov L' → q' ≤ n → p' ≤ q' → L'.length ≤ 65536 → Calls Tryz.prog 34 #[.pointer (some ⟨g, 0, none⟩), .int .i64 (p' : Int), .int .i64 (q' : Int), .int .i64 ((dp : Int) + 1)] W fun e w' => ElOut M p' q' (dp + 1) L' g b off n c w' e ∧ Below g W w') := fun W p' q' ov L' hb => HIH.out hdp2 W p' q' ov L' (below_rd hb hbg HX.out.1)
        have hgl2 : g ≤ w.heap.size := Nat.le_of_lt hgl
        rcases hl2 with rfl | ⟨hl0, hlq⟩
        · have HPO : Hid (∀ S : List Prt, S.length = dp → pr M p q S L = prC M j ((true, q) :: S) (L ++ [X])) := fun S hS => by
            have h := HPR.out S hS
            unfold belP belT at h
            rw [if_pos HP1.out, if_pos HP1.out, if_pos (by decide)] at h
            exact h
          go_upto_region 24 with (fail)
          go_loopw [12] (fun iv wr => ∃ (i' : Nat) (Li : List Te) (oi : Value), iv = .int .i64 (i' : Int) ∧ p < i' ∧ i' ≤ q ∧ Hid (Rdg wr g b off n c oi 0 0 ∧ Elems (g + 1) wr oi Li ∧ Below g w wr ∧ Li.length ≤ 65536 ∧ ∀ S : List Prt, S.length = dp → pr M p q S L = prC M i' ((true, q) :: S) Li)) (fun iv _ => q - (intOf iv).toNat)
          case atStart => exact ⟨j, L ++ [X], bb.2, rfl, by omega, hjq, H7.out.1, H7.out.2.1, H7.out.2.2.1, H7.out.2.2.2, HPO.out⟩
          case round =>
            obtain ⟨i', Li, oi, rfl, hpi', hi'q, HI⟩ := hrel
            have r0 : wr.cell? ⟨g, 0, none⟩ = some (.slice (some ⟨b, off, none⟩) n c) := HI.out.1.cell 0
            obtain ⟨y0, hy0⟩ : ∃ y, M.getD i' 0 = y := ⟨_, rfl⟩
            obtain ⟨y1, hy1⟩ : ∃ y, M.getD (i' + 1) 0 = y := ⟨_, rfl⟩
            have hrd := below_rd HI.out.2.2.1 hbg HX.out.1
            have HEND : Hid (ends M i' (true, q) = decide (i' + 1 < q ∧ y0 = 0 ∧ y1 = 0)) := by show _ = _; unfold ends; rw [hy0, hy1]; rfl
            have HCALL : Hid (∀ W : World, W = wr → Calls Tryz.prog 34 #[.pointer (some ⟨g, 0, none⟩), .int .i64 (i' : Int), .int .i64 (q : Int), .int .i64 ((dp : Int) + 1)] W fun e w' => ElOut M i' q (dp + 1) Li g b off n c w' e ∧ Below g wr w') := by
              rintro W rfl; exact HEL.out _ _ _ _ _ HI.out.2.2.1 HI.out.1 HI.out.2.1 hq hi'q HI.out.2.2.2.1
            by_cases hend : i' + 1 < q ∧ y0 = 0 ∧ y1 = 0
            · obtain ⟨z1, z2, z3⟩ := hend
              have g1 : ¬ (q : Int) ≤ (i' : Int) + 1 := by omega
              have d0 : wr.cell? ⟨b, off + i', none⟩ = some (.int .u8 0) := by rw [hrd i' (by have := HX.out.2.2.2.2.1; omega), hy0, z2]
              have d1 : wr.cell? ⟨b, off + (i' + 1), none⟩ = some (.int .u8 0) := by rw [hrd (i' + 1) (by have := HX.out.2.2.2.2.1; omega), hy1, z3]
              have g3 : (i' : Int) < (n : Int) := by omega
              have g4 : (i' : Int) + 1 < (n : Int) := by omega
              have g5 : i' < n := by omega
              have g6 : i' + 1 < n := by omega
              have HPOP : Hid (∀ S : List Prt, S.length = dp → pr M p q S L = prC M (i' + 2) S Li) := fun S hS => by
                rw [HI.out.2.2.2.2 S hS, prC_pop (by rw [HEND.out]; simp; omega)]; rfl
              have hi2q : i' + 2 ≤ q := by omega
              clear hy0 hy1 hrd z2 z3 z1
              go_wp2
              go_ret
              exact ⟨.inr ⟨i' + 2, Li, oi, by simp, HI.out.1, HI.out.2.1, by omega, hi2q, HI.out.2.2.2.1, HPOP.out⟩, HI.out.2.2.1⟩
            · have HON : Hid (∀ S : List Prt, S.length = dp → pr M p q S L = pr M i' q ((true, q) :: S) Li) := fun S hS => by
                rw [HI.out.2.2.2.2 S hS, prC_on (by rw [HEND.out]; exact decide_eq_false hend)]
              have hcs : (q : Int) ≤ (i' : Int) + 1 ∨ (i' + 1 < q ∧ (y0 != 0) = true) ∨ (i' + 1 < q ∧ (y0 != 0) = false ∧ (y1 != 0) = true) := by
                by_cases k1 : i' + 1 < q
                · right
                  by_cases k2 : y0 = 0
                  · right; refine ⟨k1, by simpa using k2, ?_⟩; simp; exact fun h => hend ⟨k1, k2, h⟩
                  · left; exact ⟨k1, by simpa using k2⟩
                · left; omega
              have HRD : Hid (Rd .u8 wr b off M ∧ M.getD i' 0 = y0 ∧ M.getD (i' + 1) 0 = y1) := ⟨hrd, hy0, hy1⟩
              clear hend hy0 hy1 hrd
              rcases hcs with g1 | ⟨g1, g2⟩ | ⟨g1, g2, g2'⟩
              all_goals
                try (replace g1 : ¬ (q : Int) ≤ (i' : Int) + 1 := by omega)
                try (have d0 : wr.cell? ⟨b, off + i', none⟩ = some (.int .u8 y0) := by rw [HRD.out.1 i' (by have := HX.out.2.2.2.2.1; omega), HRD.out.2.1])
                try (have d1 : wr.cell? ⟨b, off + (i' + 1), none⟩ = some (.int .u8 y1) := by rw [HRD.out.1 (i' + 1) (by have := HX.out.2.2.2.2.1; omega), HRD.out.2.2])
                try (have g3 : (i' : Int) < (n : Int) := by omega)
                try (have g5 : i' < n := by omega)
                try (have g4 : (i' : Int) + 1 < (n : Int) := by omega)
                try (have g6 : i' + 1 < n := by omega)
                go_wp2_with fail
                refine (HCALL.out _ rfl).mono ?_
                rintro e w8 ⟨hout, hb8⟩
                rcases hout with ⟨er, at_, o8, rfl, hr8, hne, hpr⟩ | ⟨p8, L8, o8, rfl, hr8, hE8, hp8, hq8, hL8, hpr⟩
                · have HO : Hid (ElOut M p q dp L g b off n c w8 (.returned (.int .i64 0)) ∧ Below g w w8) := ⟨.inl ⟨er, at_, o8, rfl, hr8, hne, fun S hS => by rw [HON.out S hS, hpr _ (by simp [hS])]⟩, HI.out.2.2.1.trans hb8⟩
                  have r2 : w8.cell? ⟨g, 2, none⟩ = some (.int .i64 er) := hr8.cell 2
                  have g9 : (er != 0) = true := by simpa using hne
                  clear hr8 hb8 hpr hne
                  go_wp2
                  go_ret
                  exact HO.out
                · have HO : Hid (Rdg w8 g b off n c o8 0 0 ∧ Elems (g + 1) w8 o8 L8 ∧ Below g w w8 ∧ L8.length ≤ 65536 ∧ ∀ S : List Prt, S.length = dp → pr M p q S L = prC M p8 ((true, q) :: S) L8) := ⟨hr8, hE8, HI.out.2.2.1.trans hb8, hL8, fun S hS => by rw [HON.out S hS, hpr _ (by simp [hS])]⟩
                  have r2 : w8.cell? ⟨g, 2, none⟩ = some (.int .i64 0) := hr8.cell 2
                  clear hr8 hb8 hpr hE8 hL8
                  go_wp2
                  go_roundw
                  case rel => exact ⟨p8, L8, o8, rfl, by omega, hq8, HO.out⟩
                  case measure => simp [intOf]; omega
        · obtain ⟨ln, rfl⟩ := Int.eq_ofNat_of_zero_le hl0
          obtain ⟨E, hE⟩ : ∃ E, j + ln = E := ⟨_, rfl⟩
          have hEI : (j : Int) + (ln : Int) = (E : Int) := by omega
          have HPO : Hid (∀ S : List Prt, S.length = dp → pr M p q S L = prC M j ((false, E) :: S) (L ++ [X])) := fun S hS => by
            have h := HPR.out S hS
            unfold belP belT at h
            rw [if_pos HP1.out, if_pos HP1.out, if_neg (by omega), Int.toNat_natCast, hE] at h
            exact h
          have hjE : j ≤ E := by omega
          have hEq : E ≤ q := by omega
          have hpj : p < j := by omega
          have hEn : E ≤ n := by omega
          have hl9 : ¬ (ln : Int) < 0 := by omega
          clear hE
          go_upto_region 30 with (fail)
          go_loopw [12] (fun iv wr => ∃ (i' : Nat) (Li : List Te) (oi : Value), iv = .int .i64 (i' : Int) ∧ p < i' ∧ i' ≤ E ∧ Hid (Rdg wr g b off n c oi 0 0 ∧ Elems (g + 1) wr oi Li ∧ Below g w wr ∧ Li.length ≤ 65536 ∧ ∀ S : List Prt, S.length = dp → pr M p q S L = prC M i' ((false, E) :: S) Li)) (fun iv _ => E - (intOf iv).toNat)
          case atStart => exact ⟨j, L ++ [X], bb.2, rfl, hpj, hjE, H7.out.1, H7.out.2.1, H7.out.2.2.1, H7.out.2.2.2, HPO.out⟩
          case round =>
            obtain ⟨i', Li, oi, rfl, hpi', hi'q, HI⟩ := hrel
            by_cases hend : i' = E
            · have HPOP : Hid (ElOut M p q dp L g b off n c wr (.returned (.int .i64 (E : Int))) ∧ Below g w wr) := ⟨.inr ⟨E, Li, oi, rfl, HI.out.1, HI.out.2.1, by omega, hEq, HI.out.2.2.2.1, fun S hS => by
                rw [HI.out.2.2.2.2 S hS, prC_pop (by unfold ends; simpa using hend), hend]; rfl⟩, HI.out.2.2.1⟩
              have g1 : ¬ (i' : Int) < (E : Int) := by omega
              clear hend
              go_wp2
              go_ret
              exact HPOP.out
            · have HON : Hid (∀ S : List Prt, S.length = dp → pr M p q S L = pr M i' E ((false, E) :: S) Li) := fun S hS => by
                rw [HI.out.2.2.2.2 S hS, prC_on (by unfold ends; simpa using hend)]
              have HCALL : Hid (∀ W : World, W = wr → Calls Tryz.prog 34 #[.pointer (some ⟨g, 0, none⟩), .int .i64 (i' : Int), .int .i64 (E : Int), .int .i64 ((dp : Int) + 1)] W fun e w' => ElOut M i' E (dp + 1) Li g b off n c w' e ∧ Below g wr w') := by
                rintro W rfl; exact HEL.out _ _ _ _ _ HI.out.2.2.1 HI.out.1 HI.out.2.1 hEn hi'q HI.out.2.2.2.1
              have g1 : (i' : Int) < (E : Int) := by omega
              clear hend
              go_wp2_with fail
              refine (HCALL.out _ rfl).mono ?_
              rintro e w8 ⟨hout, hb8⟩
              rcases hout with ⟨er, at_, o8, rfl, hr8, hne, hpr⟩ | ⟨p8, L8, o8, rfl, hr8, hE8, hp8, hq8, hL8, hpr⟩
              · have HO : Hid (ElOut M p q dp L g b off n c w8 (.returned (.int .i64 0)) ∧ Below g w w8) := ⟨.inl ⟨er, at_, o8, rfl, hr8, hne, fun S hS => by rw [HON.out S hS, hpr _ (by simp [hS])]⟩, HI.out.2.2.1.trans hb8⟩
                have r2 : w8.cell? ⟨g, 2, none⟩ = some (.int .i64 er) := hr8.cell 2
                have g9 : (er != 0) = true := by simpa using hne
                clear hr8 hb8 hpr hne
                go_wp2
                go_ret
                exact HO.out
              · have HO : Hid (Rdg w8 g b off n c o8 0 0 ∧ Elems (g + 1) w8 o8 L8 ∧ Below g w w8 ∧ L8.length ≤ 65536 ∧ ∀ S : List Prt, S.length = dp → pr M p q S L = prC M p8 ((false, E) :: S) L8) := ⟨hr8, hE8, HI.out.2.2.1.trans hb8, hL8, fun S hS => by rw [HON.out S hS, hpr _ (by simp [hS])]⟩
                have r2 : w8.cell? ⟨g, 2, none⟩ = some (.int .i64 0) := hr8.cell 2
                clear hr8 hb8 hpr hE8 hL8
                go_wp2
                go_roundw
                case rel => exact ⟨p8, L8, o8, rfl, by omega, hq8, HO.out⟩
                case measure => simp [intOf]; omega
end Go.Proofs.YtefebamomdcaaaaGreatDoor
