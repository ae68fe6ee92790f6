/-
  Ber: normal, Normal walked.
-/
import Derived.Test.YtefebamomdcaaaaGreatDoorK32
namespace Go.Proofs.YtefebamomdcaaaaGreatDoor
open Go.RowKit
theorem zEs_len (n : Nat) : ((List.replicate n zE).flatten).length = n * 5 := by
  induction n with
  | zero => rfl
  | succ n ih => rw [List.replicate_succ, List.flatten_cons, List.length_append, ih]; simp; omega
theorem over_elem (Y : List Tv) (y : Tv) (k : Nat) : over (elCells Y ++ (List.replicate (k + 1) zE).flatten) (Y.length * 5) (cellE y) = elCells (Y ++ [y]) ++ (List.replicate k zE).flatten := by
  have h1 := elCells_len Y
  have h2 : (cellE y).length = 5 := rfl
  unfold over
  rw [List.take_append_of_le_length (by omega), List.take_of_length_le (by omega), h2, elCells_snoc, List.replicate_succ, List.flatten_cons, List.append_assoc, ← h1, List.drop_append, List.drop_of_length_le (by omega), List.nil_append, show (elCells Y).length + 5 - (elCells Y).length = 5 by omega]
  rfl
theorem setD_tree {L : List Te} (hT : treeB L = true) : ∀ x ∈ setL L, x.tg ≤ 268435455 := tree_tg (set_tree hT)
theorem tree_len {L : List Te} (hT : treeB L = true) : 0 < L.length ∧ L.length ≤ 65536 := by
  cases L with
  | nil => cases hT
  | cons x r => simp only [treeB, Bool.and_eq_true, decide_eq_true_eq] at hT; exact ⟨by simp, hT.1.1.1⟩
theorem tp_u8 (n k : Nat) : ∀ i, U8s (tp n k i)
  | 0 => fun x hx => by simp [tp] at hx
  | i + 1 => fun x hx => by
    simp only [tp, List.mem_append, List.mem_singleton] at hx
    rcases hx with hx | rfl
    · exact tp_u8 n k i x hx
    · unfold gr U8; omega
theorem tb_u8 (n c : Nat) : ∀ i, U8s (tb n c i)
  | 0 => fun x hx => by simp [tb] at hx
  | i + 1 => fun x hx => by
    simp only [tb, List.mem_append, List.mem_singleton] at hx
    rcases hx with hx | rfl
    · exact tb_u8 n c i x hx
    · unfold by8 U8; omega
theorem front_u8 {x : Te} {n : Nat} (hs : standB x = true) (hn : n < 281474976710656) : U8s (frontB x n) := by
  unfold standB at hs
  simp only [decide_eq_true_eq] at hs
  have hf : 0 ≤ frst x.cl x.co ∧ frst x.cl x.co ≤ 224 := by unfold frst; split <;> omega
  have hc := (cOf_ok n hn).2.2
  intro y hy
  unfold frontB at hy
  rcases List.mem_append.1 hy with hy | hy
  · unfold headB at hy
    split at hy
    · simp only [List.mem_singleton] at hy; subst hy; unfold U8; omega
    · rcases List.mem_cons.1 hy with rfl | hy
      · unfold U8; omega
      · unfold sev at hy
        rcases List.mem_append.1 hy with hy | hy
        · exact tp_u8 _ _ _ y hy
        · simp only [List.mem_singleton] at hy; subst hy; unfold U8; omega
  · unfold lenB at hy
    split at hy
    · simp only [List.mem_singleton] at hy; subst hy; unfold U8; omega
    · rcases List.mem_cons.1 hy with rfl | hy
      · unfold U8; omega
      · exact tb_u8 _ _ _ y hy
set_option maxRecDepth 20000 in
set_option maxHeartbeats 8000000 in
theorem normal_any {w : World} (v : Value) (L : List Te) (hv : ElS w v L) (hn : L.length ≤ 1152921504606846976) (hU : ∀ x ∈ L, U8s x.d) (hD : datL L ≤ 549755813888) (hP : treeB L = true → chkB L = none → SetP L) :
    Calls Tryz.prog 39 #[v] w fun e w' => NmOut w.heap.size w' e L ∧ Below w.heap.size w w' := by
  obtain ⟨a, n, c, rfl, hnn⟩ : ∃ a n c, v = .slice a n c ∧ L.length = n := by obtain ⟨a, c, Y, h, _⟩ := hv; exact ⟨a, _, c, h, rfl⟩
  have hdl : ∀ x ∈ L, x.d.length ≤ 9223372036854775807 := fun x hx => by have := datL_mem hx; omega
  have HX : Hid (ElS w (.slice a n c) L ∧ (∀ x ∈ L, U8s x.d) ∧ datL L ≤ 549755813888 ∧ L.length = n ∧ (∀ x ∈ L, x.d.length ≤ 9223372036854775807) ∧ (treeB L = true → chkB L = none → SetP L)) := ⟨hv, hU, hD, hnn, hdl, hP⟩
  have hI := isTree_any (w := w) (.slice a n c) L hv hdl (by omega)
  clear hv hU hD hnn hdl hP hn
  cases hT : treeB L with
  | false =>
    rw [hT] at hI
    have HI : Hid (Calls Tryz.prog 65 #[.slice a n c] w fun e w' => e = .returned (.bool false) ∧ Below w.heap.size w w') := hI
    have HT : Hid (treeB L = false) := hT
    clear hI hT
    go_enter Tryz.func39, Tryz.ntmps39
    go_wp2_with fail
    refine HI.out.mono ?_
    rintro ev w1 ⟨rfl, hb⟩
    have HB : Hid (Below w.heap.size w w1) := hb
    clear hb
    go_wp2
    go_ret2
    exact ⟨.inl ⟨HT.out, rfl⟩, HB.out⟩
  | true =>
    rw [hT] at hI
    have HI : Hid (Calls Tryz.prog 65 #[.slice a n c] w fun e w' => e = .returned (.bool true) ∧ Below w.heap.size w w') := hI
    have HT : Hid (treeB L = true) := hT
    clear hI hT
    go_enter Tryz.func39, Tryz.ntmps39
    go_wp2_with fail
    refine HI.out.mono ?_
    rintro ev w1 ⟨rfl, hb⟩
    have H1 : Hid (Below w.heap.size w w1) := hb
    clear hb
    go_wp2_with fail
    refine (check_any (.slice a n c) L (HX.out.1.below H1.out) HT.out fun x hx => ⟨HX.out.2.1 x hx, HX.out.2.2.2.2.1 x hx⟩).mono ?_
    rintro ev w2 ⟨rfl, hb⟩
    have H2 : Hid (Below w.heap.size w w2) := below_via H1.out hb (Nat.le_refl _)
    clear hb
    cases hC : chkB L with
    | some ei =>
      obtain ⟨er, i⟩ := ei
      have HC : Hid (chkB L = some (er, i)) := hC
      have hck : ckE (some (er, i)) = .iface 113 (.agg #[.int .i64 (i : Int), .iface 109 (.agg #[.int .i64 er])]) := rfl
      rw [hck]
      clear hC hck
      go_wp2
      go_ret2
      exact ⟨.inr (.inl ⟨HT.out, er, i, HC.out, rfl⟩), H2.out⟩
    | none =>
      have HC : Hid (chkB L = none) := hC
      have hck : ckE none = .nilIface := rfl
      rw [hck]
      clear hC hck
      have hlen := tree_len HT.out
      have hSE := settled_any (w := w2) (.slice a n c) L (HX.out.1.below H2.out) hlen.1 hlen.2 HX.out.2.1 (by have := HX.out.2.2.1; omega) (HX.out.2.2.2.2.2 HT.out HC.out)
      have HSE : Hid (Calls Tryz.prog 69 #[.slice a n c] w2 fun e w' => (∃ r, e = .returned r ∧ Elems w2.heap.size w' r (setL L)) ∧ Below w2.heap.size w2 w') := hSE
      have hSl : (setL L).length ≤ L.length := setF_len _ _
      have hSd : datL (setL L) ≤ datL L + L.length := set_dat _ _
      have HS : Hid (treeB (setL L) = true ∧ datL (setL L) ≤ 1099511627776 ∧ (setL L).length ≤ 65536 ∧ (∀ x ∈ setL L, U8s x.d) ∧ byt (nds (setL L)) < 281474976710656) := by
        have hT' := set_tree HT.out
        have hd2 : datL (setL L) ≤ 1099511627776 := by have := HX.out.2.2.1; omega
        have := meas_bd hT' hd2 (by omega) 0
        rw [List.drop_zero] at this
        exact ⟨hT', hd2, by omega, set_u8 _ _ HX.out.2.1, by omega⟩
      clear hSE hlen hSl hSd
      go_wp2_with fail
      refine HSE.out.mono ?_
      rintro ev w3 ⟨⟨r, rfl, hE⟩, hb3⟩
      obtain ⟨Y, hY, hm, hrows, hap⟩ := hE
      have hElY : ElY w3 r Y := by
        have hs : Elems w2.heap.size w3 r (setL L) := ⟨Y, hY, hm, hrows, hap⟩
        obtain ⟨h0, hm'⟩ := hm
        rcases hm' with ⟨rfl, h2⟩ | ⟨b, S, cc, rfl, hB, hA, hS, hc, ht, hmx⟩
        · have : Y = [] := List.eq_nil_of_length_eq_zero h2
          subst this
          exact ⟨none, 0, rfl, Nat.le_refl _, .inl rfl, by simp⟩
        · refine ⟨_, _, rfl, hc, .inr ⟨b, 0, rfl, hA.lt, fun i hi => ?_⟩, fun y hy => (hrows y hy).sl⟩
          rw [Nat.zero_add, hA.cell i, ← ht, List.getElem?_take, if_pos hi]
      have H3 : Hid (Below w.heap.size w w3 ∧ Y.map (fun y : Tv => y.1) = setL L ∧ (∀ y ∈ Y, Row .u8 5 w2.heap.size w3 y.2 y.1.d) ∧ Apart (Y.map fun y : Tv => y.2) ∧ w.heap.size ≤ w2.heap.size) := ⟨below_via H2.out hb3 (Nat.le_refl _), hY, hrows, hap, H2.out.size⟩
      have hME := measured_any r Y hElY (by rw [show Y.map (fun y : Tv => y.1) = setL L from hY]; exact HS.out.1) (by rw [show Y.map (fun y : Tv => y.1) = setL L from hY]; exact HS.out.2.1)
      have HME : Hid (Calls Tryz.prog 66 #[r] w3 fun e w' => MsOut w3 w' e Y ∧ Below w3.heap.size w3 w') := hME
      obtain ⟨ra, rc, hrv⟩ := hm.ne
      obtain ⟨yn, hyn⟩ : ∃ yn, Y.length = yn := ⟨_, rfl⟩
      rw [hyn] at hrv
      subst hrv
      have hyn6 : yn ≤ 65536 := by have := HS.out.2.2.1; rw [← hY, List.length_map] at this; omega
      have HYN : Hid (Y.length = yn) := hyn
      clear hME hElY hY hm hrows hap hb3 hyn
      go_wp2_with fail
      refine HME.out.mono ?_
      rintro ev w4 ⟨⟨Z, hZ, rfl, hB4, hf4⟩, hb4⟩
      obtain ⟨g, hg⟩ : ∃ g, w3.heap.size = g := ⟨_, rfl⟩
      have hgood := tree_good H3.out.2.1 hZ HS.out.1 HS.out.2.2.2.2
      have hZl : Z.length = yn := by rw [MeasZ.len hZ, HYN.out]
      have hrow : ∀ z ∈ Z, Row .u8 5 w2.heap.size w4 z.s z.nd.1.d ∧ Row .u8 5 (g + 3) w4 z.f z.nd.2 := fun z hz => by
        obtain ⟨y, hy, h1, h2⟩ := hZ.mem z hz
        refine ⟨?_, by rw [← hg]; exact hf4 z hz⟩
        rw [h1, h2]; exact (H3.out.2.2.1 y hy).below hb4
      rw [hg, HYN.out]
      rw [hg] at hB4
      have hfu : ∀ z ∈ Z, U8s z.nd.2 := fun z hz => by
        obtain ⟨h1, n, h2, h3, _⟩ := good_vN hgood z.nd (List.mem_map_of_mem hz)
        rw [h3]; exact front_u8 h1 h2
      have hSS := sortSets_any (w := w4) (g := g) (n := yn) Z hB4 hZl hgood (fun W hW z hz => ⟨((hrow z hz).1.updT hW hB4 (by decide)).sl, ((hrow z hz).2.updT hW hB4 (by decide)).sl⟩) (fun z hz => ⟨by obtain ⟨y, hy, h1, h2⟩ := hZ.mem z hz; rw [h2]; exact HS.out.2.2.2.1 y.1 (by rw [← H3.out.2.1]; exact List.mem_map_of_mem hy), hfu z hz⟩) hyn6
      have HSS : Hid (Calls Tryz.prog 70 #[.slice (some ⟨g, 0, none⟩) yn yn] w4 fun e w' => e = .returned (.tuple #[]) ∧ ∃ R, SufR Z R ∧ Good R ∧ R.Perm Z ∧ Blk 122 w' g (ndCells R) ∧ Upd w4 w' g) := hSS
      have H4 : Hid (Below w.heap.size w w4 ∧ MeasZ Y Z ∧ (∀ z ∈ Z, Row .u8 5 w2.heap.size w4 z.s z.nd.1.d) ∧ Blk 122 w4 g (ndCells Z) ∧ Z.length = yn ∧ w3.heap.size = g ∧ ∀ z ∈ Z, ∃ fa fl fc, z.f = .slice fa fl fc) := ⟨below_via H3.out.1 hb4 (Nat.le_refl _), hZ, fun z hz => (hrow z hz).1, hB4, hZl, hg, fun z hz => by obtain ⟨a, c, h⟩ := (hrow z hz).2.ne; exact ⟨a, _, c, h⟩⟩
      clear hSS hZ hgood hZl hrow hfu hB4 hf4 hb4
      go_wp2_with fail
      refine HSS.out.mono ?_
      rintro ev w5 ⟨rfl, R, hR1, hR2, hR3, hR4, hR5⟩
      have hgw : w.heap.size ≤ g := by rw [← hg]; exact H3.out.1.size
      have H5 : Hid (Below w.heap.size w w5 ∧ SufR Z R ∧ Good R ∧ R.Perm Z ∧ Blk 122 w5 g (ndCells R) ∧ (∀ z ∈ R, Row .u8 5 w2.heap.size w5 z.s z.nd.1.d) ∧ R.length = yn ∧ ∀ z ∈ R, ∃ fa fl fc, z.f = .slice fa fl fc) := ⟨hR5.below H4.out.1 H4.out.1.size hgw, hR1, hR2, hR3, hR4, fun z hz => (H4.out.2.2.1 z (hR3.mem_iff.1 hz)).updT hR5 H4.out.2.2.2.1 (by decide), by rw [hR3.length_eq, H4.out.2.2.2.2.1], fun z hz => H4.out.2.2.2.2.2.2 z (hR3.mem_iff.1 hz)⟩
      clear hR1 hR2 hR3 hR4 hR5 hg
      go_upto_region 9 with (refine wpList_mkM _ rfl _ _ 25 rfl zE 59 56 Tryz.undE Tryz.infoE yn yn rfl rfl (by omega) (by omega) (by omega) ?_; intro w6 hB6 hb6 hs6)
      obtain ⟨gm, hgm⟩ : ∃ gm, w5.heap.size = gm := ⟨_, rfl⟩
      rw [hgm] at hB6 hb6 ⊢
      have H6 : Hid (Blk 59 w6 gm (List.replicate yn zE).flatten ∧ Below gm w5 w6 ∧ w5.heap.size = gm) := ⟨hB6, hb6, hgm⟩
      have hgg : g < gm := by rw [← hgm]; exact H5.out.2.2.2.2.1.lt
      have hwgm : w.heap.size ≤ gm := by omega
      clear hB6 hb6 hs6 hgm
      obtain ⟨Yr, hYr⟩ : ∃ Yr : List Tv, R.map (fun z : Nv => ((z.nd.1, z.s) : Tv)) = Yr := ⟨_, rfl⟩
      have HYR : Hid (R.map (fun z : Nv => ((z.nd.1, z.s) : Tv)) = Yr ∧ Yr.length = yn) := ⟨hYr, by rw [← hYr, List.length_map, H5.out.2.2.2.2.2.2.1]⟩
      clear hYr
      go_wp2_with fail
      go_loopw [29] (fun iv wr => ∃ i : Nat, iv = .int .i64 (i : Int) ∧ i ≤ yn ∧ Blk 59 wr gm (elCells (Yr.take i) ++ (List.replicate (yn - i) zE).flatten) ∧ Below gm w5 wr) (fun iv _ => yn - (intOf iv).toNat)
      case atStart => exact ⟨0, rfl, Nat.zero_le _, H6.out.1, H6.out.2.1⟩
      case round =>
        obtain ⟨i, rfl, hi, hB, hbl⟩ := hrel
        by_cases hlt : i < yn
        · have hltI : (i : Int) < (yn : Int) := by omega
          have hltn : i < yn := hlt
          have hiR : i < R.length := by rw [H5.out.2.2.2.2.2.2.1]; exact hlt
          obtain ⟨z, hz⟩ : ∃ z, R[i] = z := ⟨_, rfl⟩
          have hzm : z ∈ R := by rw [← hz]; exact List.getElem_mem _
          have hBg := below_blk hbl hgg H5.out.2.2.2.2.1
          have hcs : ∀ k, k < 8 → wr.cell? ⟨g, i * 8 + k, none⟩ = (cellN z)[k]? := fun k hk => by rw [hBg.cell, ndCells_at hiR k hk, hz]
          obtain ⟨sa, sk, hsv⟩ := (H5.out.2.2.2.2.2.1 z hzm).ne
          obtain ⟨sl, hsl⟩ : ∃ sl, z.nd.1.d.length = sl := ⟨_, rfl⟩
          rw [hsl] at hsv
          obtain ⟨fa, fl, fc, hzf⟩ := H5.out.2.2.2.2.2.2.2 z hzm
          have c0 := hcs 0 (by omega)
          have c1 := hcs 1 (by omega)
          have c2 := hcs 2 (by omega)
          have c3 := hcs 3 (by omega)
          have c4 := hcs 4 (by omega)
          have c5 := hcs 5 (by omega)
          have c6 := hcs 6 (by omega)
          have c7 := hcs 7 (by omega)
          simp only [cellN, hsv, hzf, Nat.add_zero, List.getElem?_cons_zero, List.getElem?_cons_succ] at c0 c1 c2 c3 c4 c5 c6 c7
          obtain ⟨v0, hv0⟩ : ∃ v0, z.nd.1.dp = v0 := ⟨_, rfl⟩
          obtain ⟨v1, hv1⟩ : ∃ v1, z.nd.1.cl = v1 := ⟨_, rfl⟩
          obtain ⟨v2, hv2⟩ : ∃ v2, z.nd.1.tg = v2 := ⟨_, rfl⟩
          obtain ⟨v3, hv3⟩ : ∃ v3, z.nd.1.co = v3 := ⟨_, rfl⟩
          obtain ⟨v6, hv6⟩ : ∃ v6 : Int, (z.sz : Int) = v6 := ⟨_, rfl⟩
          obtain ⟨v7, hv7⟩ : ∃ v7 : Int, (z.ct : Int) = v7 := ⟨_, rfl⟩
          rw [hv0] at c0
          rw [hv1] at c1
          rw [hv2] at c2
          rw [hv3] at c3
          rw [hv6] at c6
          rw [hv7] at c7
          have hyz : Yr[i]? = some (z.nd.1, z.s) := by rw [← HYR.out.1, List.getElem?_map, List.getElem?_eq_getElem hiR, hz]; rfl
          have hcz : cellE (z.nd.1, z.s) = [.int .i64 v0, .int .i64 v1, .int .i64 v2, .bool v3, .slice sa sl sk] := by unfold cellE; simp only []; rw [hv0, hv1, hv2, hv3, hsv]
          have hov : over (elCells (Yr.take i) ++ (List.replicate (yn - i) zE).flatten) (i * 5) [.int .i64 v0, .int .i64 v1, .int .i64 v2, .bool v3, .slice sa sl sk] = elCells (Yr.take (i + 1)) ++ (List.replicate (yn - (i + 1)) zE).flatten := by
            have h1 := over_elem (Yr.take i) (z.nd.1, z.s) (yn - (i + 1))
            have h2 : (Yr.take i).length = i := by rw [List.length_take, HYR.out.2]; omega
            rw [h2, show yn - (i + 1) + 1 = yn - i by omega, hcz] at h1
            rw [h1]
            congr 2
            have h3 : i < Yr.length := by rw [HYR.out.2]; exact hlt
            rw [List.getElem?_eq_getElem h3] at hyz
            rw [List.take_succ_eq_append_getElem h3, Option.some.inj hyz]
          have hgmw : gm < wr.heap.size := hB.lt
          have HR : Hid (Blk 59 wr gm (elCells (Yr.take i) ++ (List.replicate (yn - i) zE).flatten) ∧ Below gm w5 wr ∧ over (elCells (Yr.take i) ++ (List.replicate (yn - i) zE).flatten) (i * 5) [.int .i64 v0, .int .i64 v1, .int .i64 v2, .bool v3, .slice sa sl sk] = elCells (Yr.take (i + 1)) ++ (List.replicate (yn - (i + 1)) zE).flatten ∧ (elCells (Yr.take i) ++ (List.replicate (yn - i) zE).flatten).length = yn * 5) := ⟨hB, hbl, hov, by rw [List.length_append, elCells_len, zEs_len, List.length_take, HYR.out.2]; omega⟩
          clear hB hbl hz hzm hBg hcs hsv hsl hzf hv0 hv1 hv2 hv3 hv6 hv7 hyz hcz hov
          go_upto_region 12 with (fail)
          refine wp_gen (fun W => Below wr.heap.size wr W ∧ Blk 122 W wr.heap.size [.int .i64 v0, .int .i64 v1, .int .i64 v2, .bool v3, .slice sa sl sk, .slice fa fl fc, .int .i64 v6, .int .i64 v7]) ⟨al1 _, Blk.new _ wr _⟩ ?_
          rintro w7 ⟨hb7, hB7⟩
          have hBm := below_blk hb7 hgmw HR.out.1
          have d0 : w7.cell? ⟨wr.heap.size, 0, none⟩ = some (.int .i64 v0) := hB7.cell 0
          have d1 : w7.cell? ⟨wr.heap.size, 1, none⟩ = some (.int .i64 v1) := hB7.cell 1
          have d2 : w7.cell? ⟨wr.heap.size, 2, none⟩ = some (.int .i64 v2) := hB7.cell 2
          have d3 : w7.cell? ⟨wr.heap.size, 3, none⟩ = some (.bool v3) := hB7.cell 3
          have d4 : w7.cell? ⟨wr.heap.size, 4, none⟩ = some (.slice sa sl sk) := hB7.cell 4
          have ex : ∀ k, k < 5 → ∃ u, w7.cell? ⟨gm, i * 5 + k, none⟩ = some u := fun k hk => ⟨_, by rw [hBm.cell, List.getElem?_eq_getElem (by rw [HR.out.2.2.2]; omega)]⟩
          obtain ⟨u0, k0⟩ := ex 0 (by omega)
          obtain ⟨u1, k1⟩ := ex 1 (by omega)
          obtain ⟨u2, k2⟩ := ex 2 (by omega)
          obtain ⟨u3, k3⟩ := ex 3 (by omega)
          obtain ⟨u4, k4⟩ := ex 4 (by omega)
          have f0 := hBm.frozen (i * 5)
          have f1 := hBm.frozen (i * 5 + 1)
          have f2 := hBm.frozen (i * 5 + 2)
          have f3 := hBm.frozen (i * 5 + 3)
          have f4 := hBm.frozen (i * 5 + 4)
          rw [Nat.add_zero] at k0
          have H7 : Hid (Below gm w5 w7 ∧ Blk 59 w7 gm (elCells (Yr.take i) ++ (List.replicate (yn - i) zE).flatten)) := ⟨HR.out.2.1.trans (hb7.mono (Nat.le_of_lt hgmw)), hBm⟩
          clear hb7 hB7 hBm ex c0 c1 c2 c3 c4 c5 c6 c7
          go_upto_region 13 with (fail)
          have hst := H7.out.2.setCells (i * 5) [.int .i64 v0, .int .i64 v1, .int .i64 v2, .bool v3, .slice sa sl sk] (by rw [HR.out.2.2.2]; simp; omega)
          rw [HR.out.2.2.1] at hst
          refine wp_gen (fun W => Blk 59 W gm (elCells (Yr.take (i + 1)) ++ (List.replicate (yn - (i + 1)) zE).flatten) ∧ Below gm w5 W) ⟨hst, ((((H7.out.1.setCell (Nat.le_refl _) _).setCell (Nat.le_refl _) _).setCell (Nat.le_refl _) _).setCell (Nat.le_refl _) _).setCell (Nat.le_refl _) _⟩ ?_
          rintro w8 h8
          have H8 : Hid (Blk 59 w8 gm (elCells (Yr.take (i + 1)) ++ (List.replicate (yn - (i + 1)) zE).flatten) ∧ Below gm w5 w8) := h8
          clear hst h8 d0 d1 d2 d3 d4 k0 k1 k2 k3 k4 f0 f1 f2 f3 f4
          go_wp2
          go_roundw
          case rel => exact ⟨i + 1, by go_num, hlt, H8.out⟩
          case measure => simp [intOf]; omega
        · obtain rfl : i = yn := by omega
          have hltI : ¬ (i : Int) < (i : Int) := by omega
          have HF : Hid (Blk 59 wr gm (elCells Yr) ∧ Below gm w5 wr) := by
            rw [Nat.sub_self, List.take_of_length_le (by rw [HYR.out.2]; exact Nat.le_refl _)] at hB
            exact ⟨by simpa using hB, hbl⟩
          clear hB hbl
          go_wp2
          go_ret2
          refine ⟨.inr (.inr ⟨HT.out, HC.out, _, R.map (fun z : Nv => z.nd.1), rfl, ⟨Y, Z, R, H3.out.2.1, H4.out.2.1, H5.out.2.1, H5.out.2.2.1, H5.out.2.2.2.1, rfl⟩, Yr, ?_, ?_, ?_, ?_⟩), H5.out.1.trans (HF.out.2.mono hwgm)⟩
          · rw [← HYR.out.1, List.map_map]; rfl
          · rw [HYR.out.2]
            exact ⟨by rw [elCells_len, HYR.out.2], .inr ⟨gm, _, i, rfl, hwgm, HF.out.1, by rw [elCells_len, HYR.out.2], Nat.le_refl _, List.take_of_length_le (by rw [elCells_len, HYR.out.2]; exact Nat.le_refl _), by unfold maxLen; omega⟩⟩
          · intro y hy
            rw [← HYR.out.1] at hy
            obtain ⟨z, hz, rfl⟩ := List.mem_map.1 hy
            exact ((H5.out.2.2.2.2.2.1 z hz).below (by rw [H6.out.2.2]; exact HF.out.2)).mono H3.out.2.2.2.2
          · have h1 : Yr.map (fun y : Tv => y.2) = R.map (fun z : Nv => z.s) := by rw [← HYR.out.1, List.map_map]; rfl
            show Apart (Yr.map fun y : Tv => y.2)
            rw [h1]
            refine apart_perm (H5.out.2.2.2.1.map _).symm ?_
            rw [H4.out.2.1.s]; exact H3.out.2.2.2.1
end Go.Proofs.YtefebamomdcaaaaGreatDoor
