/-
  Ber: parse.
-/
import Derived.WalkMore
import Derived.Deep.LoopGhost
import Derived.Test.YtefebamomdcaaaaGreatDoorK12
namespace Go.Proofs.YtefebamomdcaaaaGreatDoor
open Go.RowKit
theorem elem_one (a b c : Int) (d : Bool) (s : Option Addr) (n k : Nat) : ∀ u ∈ [Value.int .i64 a, .int .i64 b, .int .i64 c, .bool d, .slice s n k], u.oneCell' = true := by
  intro v hv
  simp only [List.mem_cons, List.not_mem_nil, or_false] at hv
  rcases hv with rfl | rfl | rfl | rfl | rfl <;> rfl
theorem part_one (e : Bool) (f : Int) : ∀ u ∈ [Value.bool e, .int .i64 f], u.oneCell' = true := by
  intro v hv
  simp only [List.mem_cons, List.not_mem_nil, or_false] at hv
  rcases hv with rfl | rfl <;> rfl
set_option maxRecDepth 20000 in
set_option maxHeartbeats 8000000 in
theorem parse_ne {w : World} (b off n c : Nat) (M : List Int) (hM : Rd .u8 w b off M) (uM : U8s M) (hMl : M.length = n) (hn : n ≤ 16777216) (hnc : n ≤ c) (hb : b < w.heap.size) :
    Calls Tryz.prog 32 #[.slice (some ⟨b, off, none⟩) n c] w fun e w' => PrOut w.heap.size w' e (parseS M) ∧ Below w.heap.size w w' := by
  obtain ⟨O, hO⟩ : ∃ O, pr M 0 n [] [] = O := ⟨_, rfl⟩
  have HO : Hid (pr M 0 n [] [] = O ∧ parseS M = trOf n O) := ⟨hO, by rw [parseS_tr (by omega), hMl, hO]⟩
  have HX : Hid (Rd .u8 w b off M ∧ U8s M ∧ M.length = n) := ⟨hM, uM, hMl⟩
  have hnI : (n : Int) ≤ 16777216 := by omega
  rw [HO.out.2]
  clear hM uM hMl hO
  go_enter Tryz.func32, Tryz.ntmps32
  go_wp2
  go_step3
  go_wp2
  go_step3
  go_wp2_with fail
  refine wp_gen (fun W => Rdb W w.heap.size b off n c 0 n ∧ Below w.heap.size w W) ⟨Blk.new _ w _, al1 _⟩ ?_
  rintro v1 hv1
  have H1 : Hid (Rdb v1 w.heap.size b off n c 0 n ∧ Below w.heap.size w v1) := ⟨hv1.1, hv1.2⟩
  clear hv1
  go_loopg [4, 5] 65537 (fun gh lv pv wr => ∃ (p q : Nat) (S : List Prt) (L : List Te) (l0 p0 : Value), l0 = lv ∧ p0 = pv ∧ Rdb wr w.heap.size b off n c p q ∧ Below w.heap.size w wr ∧ Elems (w.heap.size + 1) wr l0 L ∧ Prts (w.heap.size + 1) wr p0 S ∧ q ≤ n ∧ p ≤ n ∧ (∀ x ∈ S, x.2 ≤ n) ∧ L.length ≤ 65536 ∧ S.length ≤ 64 ∧ L.length + gh = 65537 ∧ pr M p q S L = O)
  case atStart => exact ⟨0, n, [], [], _, _, rfl, rfl, H1.out.1, H1.out.2, Elems.nil _ _, Prts.nil _ _, Nat.le_refl _, Nat.zero_le _, fun x hx => (List.not_mem_nil hx).elim, by simp, by simp, by simp, HO.out.1⟩
  case round =>
    obtain ⟨p, q, S, L, l0, p0, rfl, rfl, hr, hbl, hE, hP, hq, hp, hS, hL, hSl, hgh, hO⟩ := hrel
    obtain ⟨al, cl, hv⟩ := hE.len
    obtain ⟨ap, cp, hvp⟩ := MRow.ne hP
    obtain ⟨k, hk⟩ : ∃ k, L.length = k := ⟨_, rfl⟩
    obtain ⟨d, hd⟩ : ∃ d, S.length = d := ⟨_, rfl⟩
    rw [hk] at hv hL hgh
    rw [hd] at hvp hSl
    subst hv
    subst hvp
    have H2 : Hid (Rdb wr w.heap.size b off n c p q ∧ Below w.heap.size w wr ∧ Elems (w.heap.size + 1) wr (.slice al k cl) L ∧ Prts (w.heap.size + 1) wr (.slice ap d cp) S ∧ (∀ x ∈ S, x.2 ≤ n) ∧ pr M p q S L = O ∧ L.length = k ∧ S.length = d) := ⟨hr, hbl, hE, hP, hS, hO, hk, hd⟩
    have hwlt : w.heap.size < wr.heap.size := hr.lt
    obtain ⟨Y, hY, hm, hrows, hap⟩ := hE
    have hYk : Y.length = k := by rw [← hk, ← hY, List.length_map]
    rw [hYk] at hm
    have HY : Hid (MRow 5 59 (w.heap.size + 1) wr (.slice al k cl) k (elCells Y) ∧ (∀ y ∈ Y, Row .u8 5 (w.heap.size + 1) wr y.2 y.1.d) ∧ Apart (Y.map (·.2)) ∧ Y.map (·.1) = L ∧ Y.length = k) := ⟨hm, hrows, hap, hY, hYk⟩
    clear hr hbl hP hS hO hk hd hm hrows hap hY hYk
    cases gk with
    | zero => omega
    | succ g =>
      go_wp2_with fail
      refine (element_any w.heap.size b off n c p q k d M H2.out.1 (below_rd H2.out.2.1 hb HX.out.1) HX.out.2.1 HX.out.2.2 hq hn hnc (Nat.lt_of_lt_of_le hb H2.out.2.1.size) (by omega)).mono ?_
      rintro e v2 ⟨h2, hu⟩
      unfold BelAns at h2
      obtain ⟨R, hR⟩ : ∃ R, belS M p q k d = R := ⟨_, rfl⟩
      rw [hR] at h2
      have HR : Hid (belS M p q k d = R) := hR
      have hb2 : Below w.heap.size w v2 := ⟨hu.os.trans H2.out.2.1.os, hu.tape.trans H2.out.2.1.tape, hu.output.trans H2.out.2.1.output, Nat.le_trans H2.out.2.1.size hu.size, fun j hj => (hu.block j (by omega) (fun e => by simp at e; omega)).trans (H2.out.2.1.block j hj)⟩
      clear hR
      cases R with
      | inl ea =>
        obtain ⟨er, a⟩ := ea
        obtain ⟨a0, a1, a2, a3, b0, b1, rfl⟩ := h2
        have HE : Hid (O = .inl (er, a)) := by
          show _ = _
          rw [← H2.out.2.2.2.2.2.1]
          refine pr_bad (by have := H2.out.2.2.2.2.2.2.1; omega) ?_
          rw [H2.out.2.2.2.2.2.2.1, H2.out.2.2.2.2.2.2.2]; exact HR.out
        have H3 : Hid (Below w.heap.size w v2) := hb2
        clear hb2 hu
        go_wp2
        try rw [Exit.noGoto_ret]
        go_ret2
        rw [HE.out]
        exact ⟨rfl, al2' (al2' H3.out)⟩
      | inr x =>
        obtain ⟨t, l, j⟩ := x
        obtain ⟨a, kk, cc, yo, yu, rfl, hrow, hy, hst⟩ := h2
        obtain ⟨x1, hx1⟩ : ∃ x1, M.getD p 0 / 64 = x1 := ⟨_, rfl⟩
        obtain ⟨co, hco⟩ : ∃ co : Bool, decide (M.getD p 0 / 32 % 2 = 1) = co := ⟨_, rfl⟩
        obtain ⟨P1, hP1⟩ : ∃ P1, belP M p l j = P1 := ⟨_, rfl⟩
        obtain ⟨x, hx⟩ : ∃ x, belE M p d t l j = x := ⟨_, rfl⟩
        have hok := belS_ok HX.out.2.1 (by have := HX.out.2.2; omega) HR.out
        have hmn := belS_many HR.out
        have hP1n : P1 ≤ n := by
          rw [← hP1]
          unfold belP
          split <;> omega
        have hxs : cellE (x, .slice a kk cc) = [.int .i64 (d : Int), .int .i64 x1, .int .i64 t, .bool co, .slice a kk cc] := by rw [← hx, ← hx1, ← hco]; rfl
        have HPR : Hid (prC M P1 (belT M p q l j S) (L ++ [x]) = O ∧ k + 1 ≤ 65536 ∧ (belT M p q l j S).length ≤ 64 ∧ (∀ y ∈ belT M p q l j S, y.2 ≤ n) ∧ cellE (x, .slice a kk cc) = [.int .i64 (d : Int), .int .i64 x1, .int .i64 t, .bool co, .slice a kk cc] ∧ belT M p q l j S = if co = true then (yo, yu) :: S else S) := by
          have hT : belT M p q l j S = if co = true then (yo, yu) :: S else S := by
            unfold belT
            have hi : (M.getD p 0 / 32 % 2 = 1) ↔ co = true := by rw [← hco]; simp
            by_cases h : co = true
            · rw [if_pos (hi.2 h), if_pos h, hy (hi.2 h)]
            · rw [if_neg (fun h' => h (hi.1 h')), if_neg h]
          have hyu : co = true → yu ≤ n := fun h => by
            have h2 := hy (by rw [← hco] at h; simpa using h)
            split at h2
            · cases h2; omega
            · cases h2; omega
          refine ⟨?_, by omega, ?_, ?_, hxs, hT⟩
          · rw [← hP1, ← hx, ← H2.out.2.2.2.2.2.1, ← H2.out.2.2.2.2.2.2.2]
            refine (pr_ok (by have := H2.out.2.2.2.2.2.2.1; omega) ?_).symm
            rw [H2.out.2.2.2.2.2.2.1, H2.out.2.2.2.2.2.2.2]; exact HR.out
          · rw [hT]
            have := H2.out.2.2.2.2.2.2.2
            split
            · rw [List.length_cons]; omega
            · omega
          · rw [hT]
            intro y hy'
            split at hy'
            · rename_i h
              rcases List.mem_cons.1 hy' with h' | h'
              · rw [h']; exact hyu h
              · exact H2.out.2.2.2.2.1 y h'
            · exact H2.out.2.2.2.2.1 y hy'
        rw [hx1, hco]
        rw [hP1] at hst
        rw [hx] at hrow
        have H3 : Hid (Rdb v2 w.heap.size b off n c P1 q ∧ Below w.heap.size w v2 ∧ Row .u8 5 wr.heap.size v2 (.slice a kk cc) x.d ∧ (MRow 5 59 (w.heap.size + 1) v2 (.slice al k cl) k (elCells Y) ∧ ∀ y ∈ Y, Row .u8 5 (w.heap.size + 1) v2 y.2 y.1.d) ∧ Prts (w.heap.size + 1) v2 (.slice ap d cp) S) := ⟨hst, hb2, hrow, ⟨HY.out.1.upd hu (by omega), fun y hy' => (HY.out.2.1 y hy').upd hu (by omega)⟩, H2.out.2.2.2.1.upd hu (by omega)⟩
        have hs2 : wr.heap.size ≤ v2.heap.size := hu.size
        clear hst hb2 hrow hu hy hx1 hco hP1 hx hok hmn hxs
        go_upto_region 9 with (fail)
        refine wp_gen (fun W => Below v2.heap.size v2 W ∧ Blk 59 W v2.heap.size [.int .i64 (d : Int), .int .i64 x1, .int .i64 t, .bool co, .slice a kk cc] ∧ Blk 103 W (v2.heap.size + 1) [.bool yo, .int .i64 (yu : Int)]) ?_ ?_
        · exact ⟨(al1 _).alloc (by simp) _, (Blk.new _ v2 _).alloc _, blk_nw (by simp) rfl⟩
        rintro v3 h3
        have H4 : Hid (Below v2.heap.size v2 v3 ∧ Blk 59 v3 v2.heap.size [.int .i64 (d : Int), .int .i64 x1, .int .i64 t, .bool co, .slice a kk cc] ∧ Blk 103 v3 (v2.heap.size + 1) [.bool yo, .int .i64 (yu : Int)]) := h3
        have d0 : v3.cell? ⟨v2.heap.size, 0, none⟩ = some (.int .i64 (d : Int)) := h3.2.1.cell 0
        have d1 : v3.cell? ⟨v2.heap.size, 1, none⟩ = some (.int .i64 x1) := h3.2.1.cell 1
        have d2 : v3.cell? ⟨v2.heap.size, 2, none⟩ = some (.int .i64 t) := h3.2.1.cell 2
        have d3 : v3.cell? ⟨v2.heap.size, 3, none⟩ = some (.bool co) := h3.2.1.cell 3
        have d4 : v3.cell? ⟨v2.heap.size, 4, none⟩ = some (.slice a kk cc) := h3.2.1.cell 4
        have H5 : Hid (MRow 5 59 (w.heap.size + 1) v3 (.slice al k cl) k (elCells Y) ∧ ∀ y ∈ Y, Row .u8 5 (w.heap.size + 1) v3 y.2 y.1.d) := ⟨H3.out.2.2.2.1.1.below h3.1, fun y hy' => (H3.out.2.2.2.1.2 y hy').below h3.1⟩
        have hs3 : v2.heap.size + 1 < v3.heap.size := h3.2.2.lt
        clear h3
        go_upto_region 10 with (at_builtin; refine wpList_apm rfl (.tmp 33) (.tmp 35) 25 25 rfl 5 (.agg zE.toArray) rfl 59 56 Tryz.undE Tryz.infoE (by decide) (w.heap.size + 1) _ k _ rfl (H5.out.1.alloc _) _ 1 [.int .i64 (d : Int), .int .i64 x1, .int .i64 t, .bool co, .slice a kk cc] rfl (src_m (T := 59) Tryz.undE 5 (blk_nw (by simp) rfl) rfl (elem_one _ _ _ _ _ _ _)) (by omega) (by simp; omega) ?_; intro v v4 hr4 hg4)
        have hb4 : Below (w.heap.size + 1) _ v4 := hg4.below (H5.out.1.alloc _) (by simp; omega)
        have hlt2 : ∀ b', blkOf (Value.slice al k cl) = some b' → b' < v2.heap.size := fun b' h => H3.out.2.2.2.1.1.blk_lt h
        have H6 : Hid (Rdb v4 w.heap.size b off n c P1 q ∧ Below w.heap.size w v4 ∧ Elems (w.heap.size + 1) v4 v (L ++ [x]) ∧ Prts (w.heap.size + 1) v4 (.slice ap d cp) S ∧ Blk 59 v4 v2.heap.size [.int .i64 (d : Int), .int .i64 x1, .int .i64 t, .bool co, .slice a kk cc] ∧ Blk 103 v4 (v2.heap.size + 1) [.bool yo, .int .i64 (yu : Int)]) := by
          refine ⟨below_blk hb4 (by omega) (Blk.alloc (below_blk H4.out.1 (by omega) H3.out.1) _), ?_, ?_, ?_, hg4.keep (H5.out.1.alloc _) hlt2 (Blk.alloc H4.out.2.1 _) (Nat.le_refl _), hg4.keep (H5.out.1.alloc _) hlt2 (Blk.alloc H4.out.2.2 _) (by omega)⟩
          · exact (al2' (H3.out.2.1.trans (H4.out.1.mono (by omega)))).trans (hb4.mono (by omega))
          · refine Elems.snoc HY.out.2.2.2.1 (by rw [HPR.out.2.2.2.2.1, HY.out.2.2.2.2]; exact hr4) (fun y hy' => ((H5.out.2 y hy').alloc _).mgrew8 hg4 (by decide)) HY.out.2.2.1 ((((H3.out.2.2.1.below H4.out.1).alloc _).mgrew8 hg4 (by decide)).mono (by omega)) wr.heap.size (fun y hy' b' h => ((HY.out.2.1 y hy').blk_lt h).2) (fun b' h => (H3.out.2.2.1.blk_lt h).1)
          · exact MRow.mgrew ((MRow.below H3.out.2.2.2.2 H4.out.1).alloc _) hg4 (by decide)
        have d3' : v4.cell? ⟨v2.heap.size, 3, none⟩ = some (.bool co) := H6.out.2.2.2.2.1.cell 3
        have hs4 : w.heap.size + 1 ≤ v4.heap.size := by have := H6.out.2.2.2.2.2.lt; omega
        clear hb4 hlt2 hr4 hg4 d0 d1 d2 d3 d4
        obtain ⟨S1, hS1⟩ : ∃ S1, belT M p q l j S = S1 := ⟨_, rfl⟩
        rw [hS1] at HPR
        have HPS : Hid (prC M P1 S1 (L ++ [x]) = O ∧ k + 1 ≤ 65536 ∧ S1.length ≤ 64 ∧ (∀ y ∈ S1, y.2 ≤ n) ∧ S1 = if co = true then (yo, yu) :: S else S) := ⟨HPR.out.1, HPR.out.2.1, HPR.out.2.2.1, HPR.out.2.2.2.1, HPR.out.2.2.2.2.2⟩
        clear HPR hS1
        cases co with
        | false =>
          go_wp2_with fail
          refine wp_gen (fun W => Rdb W w.heap.size b off n c P1 q ∧ Below w.heap.size w W ∧ Elems (w.heap.size + 1) W v (L ++ [x]) ∧ Prts (w.heap.size + 1) W (.slice ap d cp) S1) ⟨H6.out.1, H6.out.2.1, H6.out.2.2.1, by rw [HPS.out.2.2.2.2]; exact H6.out.2.2.2.1⟩ ?_
          rintro v6 h6
          have H7 : Hid (Rdb v6 w.heap.size b off n c P1 q ∧ Below w.heap.size w v6 ∧ Elems (w.heap.size + 1) v6 v (L ++ [x]) ∧ Prts (w.heap.size + 1) v6 (.slice ap d cp) S1) := h6
          clear h6 d3'
          go_loopg [5] (S1.length) (fun g2 pv wy => ∃ (p2 q2 : Nat) (S2 : List Prt) (p0 : Value), p0 = pv ∧ Rdb wy w.heap.size b off n c p2 q2 ∧ Below w.heap.size w wy ∧ Elems (w.heap.size + 1) wy v (L ++ [x]) ∧ Prts (w.heap.size + 1) wy p0 S2 ∧ q2 ≤ n ∧ p2 ≤ n ∧ (∀ y ∈ S2, y.2 ≤ n) ∧ S2.length = g2 ∧ S2.length ≤ 64 ∧ prC M p2 S2 (L ++ [x]) = O)
          case atStart => exact ⟨P1, q, S1, _, rfl, H7.out.1, H7.out.2.1, H7.out.2.2.1, H7.out.2.2.2, hq, hP1n, HPS.out.2.2.2.1, rfl, HPS.out.2.2.1, HPS.out.1⟩
          case round =>
            obtain ⟨p2, q2, S2, p0, rfl, hr, hbl, hE, hP, hq2, hp2, hS2, hg2, hl2, hC⟩ := hrel
            have hp2I : (p2 : Int) ≤ 16777216 := by omega
            cases S2 with
            | nil =>
              obtain ⟨ap2, cp2, hv⟩ := MRow.ne hP
              simp only [List.length_nil] at hv
              subst hv
              have H8 : Hid (Below w.heap.size w wr ∧ Elems (w.heap.size + 1) wr v (L ++ [x]) ∧ O = .inr (p2, L ++ [x])) := ⟨hbl, hE, by rw [← hC, prC_end]⟩
              have r1 : wr.cell? ⟨w.heap.size, 1, none⟩ = some (.int .i64 p2) := hr.cell 1
              clear hr hbl hE hP hC hS2
              by_cases hlt : p2 < n
              · have hltI : (p2 : Int) < (n : Int) := by omega
                go_wp2_with (go_at_call 59; refine (fault_any 33 p2).mono ?_; rintro e w9 ⟨rfl, rfl⟩)
                try rw [Exit.noGoto_ret]
                go_ret2
                rw [H8.out.2.2]
                simp only [trOf, if_pos hlt]
                exact ⟨rfl, H8.out.1⟩
              · have hltI : ¬ (p2 : Int) < (n : Int) := by omega
                go_wp2
                try rw [Exit.noGoto_ret]
                go_ret2
                rw [H8.out.2.2]
                simp only [trOf, if_neg hlt]
                exact ⟨⟨_, rfl, H8.out.2.1.mono (by omega)⟩, H8.out.1⟩
            | cons y S2 =>
              obtain ⟨pb, pc, hv, hpc, hpB, hpl, c0, c1, hpm⟩ := Prts.last hP
              obtain ⟨m, hm⟩ : ∃ m, S2.length = m := ⟨_, rfl⟩
              rw [hm] at hv hpc c0 c1
              subst hv
              obtain ⟨yo2, yu2⟩ := y
              have hyu2 : yu2 ≤ n := hS2 (yo2, yu2) (List.mem_cons_self ..)
              have hm64 : m + 1 ≤ 64 := by simp at hl2; omega
              have H8 : Hid (Rdb wr w.heap.size b off n c p2 q2 ∧ Below w.heap.size w wr ∧ Elems (w.heap.size + 1) wr v (L ++ [x]) ∧ Prts (w.heap.size + 1) wr (.slice (some ⟨pb, 0, none⟩) (m + 1) pc) ((yo2, yu2) :: S2) ∧ prC M p2 ((yo2, yu2) :: S2) (L ++ [x]) = O ∧ (∀ y ∈ S2, y.2 ≤ n) ∧ S2.length = m ∧ m + 1 = gk) := ⟨hr, hbl, hE, hP, hC, fun y hy' => hS2 y (List.mem_cons_of_mem _ hy'), hm, by simp at hg2; omega⟩
              have hwr : w.heap.size < wr.heap.size := hr.lt
              clear hr hbl hE hP hC hS2 hg2 hl2 hm
              go_upto_region 14 with (fail)
              refine wp_gen (fun W => Rdb W w.heap.size b off n c p2 q2 ∧ Below wr.heap.size wr W ∧ Blk 103 W wr.heap.size [.bool yo2, .int .i64 (yu2 : Int)]) ⟨Blk.alloc H8.out.1 _, al1 _, Blk.new _ _ _⟩ ?_
              rintro v7 h7
              have H9 : Hid (Rdb v7 w.heap.size b off n c p2 q2 ∧ Below wr.heap.size wr v7 ∧ Blk 103 v7 wr.heap.size [.bool yo2, .int .i64 (yu2 : Int)]) := h7
              have d1 : v7.cell? ⟨wr.heap.size, 1, none⟩ = some (.int .i64 (yu2 : Int)) := h7.2.2.cell 1
              have r2 : v7.cell? ⟨w.heap.size, 2, none⟩ = some (.int .i64 (q2 : Int)) := h7.1.cell 2
              have fr2 := h7.1.frozen 2
              clear h7 c0 c1
              go_upto_region 15 with (fail)
              refine wp_gen (fun W => Rdb W w.heap.size b off n c p2 yu2 ∧ Below w.heap.size w W ∧ Elems (w.heap.size + 1) W v (L ++ [x]) ∧ Prts (w.heap.size + 1) W (.slice (some ⟨pb, 0, none⟩) (m + 1) pc) ((yo2, yu2) :: S2) ∧ Blk 103 W wr.heap.size [.bool yo2, .int .i64 (yu2 : Int)]) ?_ ?_
              · have hU := Upd.set v7 w.heap.size 2 (.int .i64 (yu2 : Int))
                have hb7 : Below w.heap.size w v7 := H8.out.2.1.trans (H9.out.2.1.mono (by omega))
                exact ⟨H9.out.1.set 2 (.int .i64 (yu2 : Int)), hU.below hb7 hb7.size (Nat.le_refl _), (H8.out.2.2.1.below H9.out.2.1).upd hU (by omega), MRow.upd (MRow.below H8.out.2.2.2.1 H9.out.2.1) hU (by omega), hU.blk H9.out.2.2 (by omega)⟩
              rintro v8 h8
              have H10 : Hid (Rdb v8 w.heap.size b off n c p2 yu2 ∧ Below w.heap.size w v8 ∧ Elems (w.heap.size + 1) v8 v (L ++ [x]) ∧ Prts (w.heap.size + 1) v8 (.slice (some ⟨pb, 0, none⟩) (m + 1) pc) ((yo2, yu2) :: S2) ∧ Blk 103 v8 wr.heap.size [.bool yo2, .int .i64 (yu2 : Int)]) := h8
              have e0 : v8.cell? ⟨wr.heap.size, 0, none⟩ = some (.bool yo2) := h8.2.2.2.2.cell 0
              have e1 : v8.cell? ⟨wr.heap.size, 1, none⟩ = some (.int .i64 (yu2 : Int)) := h8.2.2.2.2.cell 1
              have r1 : v8.cell? ⟨w.heap.size, 1, none⟩ = some (.int .i64 (p2 : Int)) := h8.1.cell 1
              have hs8 : w.heap.size < v8.heap.size := h8.1.lt
              clear h8 d1 r2 fr2
              obtain ⟨E, hE⟩ : ∃ E, ends M p2 (yo2, yu2) = E := ⟨_, rfl⟩
              obtain ⟨nn, hnn⟩ : ∃ nn : Nat, (if yo2 = true then 2 else 0) = nn := ⟨_, rfl⟩
              have hn2 : nn ≤ 2 := by rw [← hnn]; split <;> omega
              have HEn : Hid (Calls Tryz.prog 61 #[.agg #[.bool yo2, .int .i64 (yu2 : Int)], .slice (some ⟨b, off, none⟩) n c, .int .i64 (p2 : Int)] v8 fun e w' => e = .returned (.tuple #[.int .i64 (nn : Int), .bool E]) ∧ Below v8.heap.size v8 w') := by
                show Calls _ _ _ _ _
                rw [← hE, ← hnn]
                cases yo2 with
                | false => exact end_shut _ M p2 yu2
                | true => exact end_open b off n c p2 yu2 M (below_rd H10.out.2.1 hb HX.out.1) HX.out.2.2 hn (Nat.lt_of_lt_of_le hb H10.out.2.1.size) hyu2 hp2
              have HE : Hid (ends M p2 (yo2, yu2) = E ∧ (if yo2 = true then 2 else 0) = nn) := ⟨hE, hnn⟩
              clear hE hnn
              go_wp2_with fail
              refine HEn.out.mono ?_
              rintro e v9 ⟨rfl, hb9⟩
              have H11 : Hid (Rdb v9 w.heap.size b off n c p2 yu2 ∧ Below w.heap.size w v9 ∧ Elems (w.heap.size + 1) v9 v (L ++ [x]) ∧ Prts (w.heap.size + 1) v9 (.slice (some ⟨pb, 0, none⟩) (m + 1) pc) ((yo2, yu2) :: S2)) := ⟨below_blk hb9 hs8 H10.out.1, H10.out.2.1.trans (hb9.mono (by omega)), H10.out.2.2.1.below hb9, MRow.below H10.out.2.2.2.1 hb9⟩
              clear hb9 e0 e1 r1
              cases E with
              | false =>
                go_wp2
                go_roundg g
                case measure => omega
                case rel =>
                  refine ⟨p2, yu2, (yo2, yu2) :: S2, L ++ [x], _, _, rfl, rfl, H11.out.1, H11.out.2.1, H11.out.2.2.1, H11.out.2.2.2, hyu2, hp2, ?_, ?_, ?_, ?_, ?_⟩
                  · intro z hz
                    rcases List.mem_cons.1 hz with h | h
                    · subst h; exact hyu2
                    · exact H8.out.2.2.2.2.2.1 z h
                  · rw [List.length_append, H2.out.2.2.2.2.2.2.1]; exact HPS.out.2.1
                  · rw [List.length_cons, H8.out.2.2.2.2.2.2.1]; omega
                  · rw [List.length_append, H2.out.2.2.2.2.2.2.1]; simp; omega
                  · rw [← H8.out.2.2.2.2.1]; exact (prC_on HE.out.1).symm
              | true =>
                have hpn : p2 + nn ≤ n := by
                  have h := HE.out.1
                  rw [← HE.out.2]
                  cases yo2 with
                  | false => simpa using hp2
                  | true =>
                    simp only [ends, if_true, decide_eq_true_eq] at h
                    simp only [if_true]
                    omega
                have hpnI : (p2 : Int) + (nn : Int) ≤ 16777216 := by omega
                have r1 : v9.cell? ⟨w.heap.size, 1, none⟩ = some (.int .i64 (p2 : Int)) := H11.out.1.cell 1
                have fr := H11.out.1.frozen 1
                have hmpc : (m : Int) ≤ (pc : Int) := by omega
                obtain ⟨P2, hP2⟩ : ∃ P2, p2 + nn = P2 := ⟨_, rfl⟩
                have hP2I : (p2 : Int) + (nn : Int) = (P2 : Int) := by omega
                have HP2 : Hid (p2 + nn = P2 ∧ P2 ≤ n) := ⟨hP2, by omega⟩
                clear hP2 hpn
                go_wp2
                go_roundg m
                case measure => have := H8.out.2.2.2.2.2.2.2; omega
                case rel =>
                  have hU := Upd.set v9 w.heap.size 1 (.int .i64 (P2 : Int))
                  refine ⟨P2, yu2, S2, .slice (some ⟨pb, 0, none⟩) m pc, rfl, H11.out.1.set 1 (.int .i64 (P2 : Int)), hU.below H11.out.2.1 H11.out.2.1.size (Nat.le_refl _), H11.out.2.2.1.upd hU (by omega), ?_, hyu2, HP2.out.2, H8.out.2.2.2.2.2.1, H8.out.2.2.2.2.2.2.1, ?_, ?_⟩
                  · have h := Prts.pop (MRow.upd H11.out.2.2.2 hU (by omega))
                    rw [H8.out.2.2.2.2.2.2.1] at h
                    exact h
                  · rw [H8.out.2.2.2.2.2.2.1]; omega
                  · rw [← H8.out.2.2.2.2.1, prC_pop HE.out.1, ← HP2.out.1, ← HE.out.2]
                    cases yo2 <;> rfl
        | true =>
          have e0 : v4.cell? ⟨v2.heap.size + 1, 0, none⟩ = some (.bool yo) := H6.out.2.2.2.2.2.cell 0
          have e1 : v4.cell? ⟨v2.heap.size + 1, 1, none⟩ = some (.int .i64 (yu : Int)) := H6.out.2.2.2.2.2.cell 1
          go_wp2_with (at_builtin; refine wpList_apm rfl (.tmp 39) (.tmp 41) 99 99 rfl 2 (.agg zP.toArray) rfl 103 16 Tryz.undP Tryz.infoP (by decide) (w.heap.size + 1) _ d _ rfl (MRow.alloc (by have h := H6.out.2.2.2.1; unfold Prts at h; rw [H2.out.2.2.2.2.2.2.2] at h; exact h) _) _ 1 [.bool yo, .int .i64 (yu : Int)] rfl (src_m (T := 103) Tryz.undP 2 (blk_nw (by simp) rfl) rfl (part_one _ _)) (by omega) (by simp; omega) ?_; intro pv v5 hr5 hg5)
          have hb5 : Below (w.heap.size + 1) _ v5 := hg5.below (MRow.alloc H6.out.2.2.2.1 _) (by simp; omega)
          refine wp_gen (fun W => Rdb W w.heap.size b off n c P1 q ∧ Below w.heap.size w W ∧ Elems (w.heap.size + 1) W v (L ++ [x]) ∧ Prts (w.heap.size + 1) W pv S1) ⟨below_blk hb5 (by omega) (Blk.alloc H6.out.1 _), (al2' H6.out.2.1).trans (hb5.mono (by omega)), (H6.out.2.2.1.below (al1 _)).mgrew hg5, by rw [HPS.out.2.2.2.2, if_pos trivial]; unfold Prts; rw [prtCells_cons, List.length_cons, H2.out.2.2.2.2.2.2.2]; exact hr5⟩ ?_
          rintro v6 h6
          have H7 : Hid (Rdb v6 w.heap.size b off n c P1 q ∧ Below w.heap.size w v6 ∧ Elems (w.heap.size + 1) v6 v (L ++ [x]) ∧ Prts (w.heap.size + 1) v6 pv S1) := h6
          clear h6 d3' e0 e1 hb5 hr5 hg5
          go_loopg [5] (S1.length) (fun g2 pv wy => ∃ (p2 q2 : Nat) (S2 : List Prt) (p0 : Value), p0 = pv ∧ Rdb wy w.heap.size b off n c p2 q2 ∧ Below w.heap.size w wy ∧ Elems (w.heap.size + 1) wy v (L ++ [x]) ∧ Prts (w.heap.size + 1) wy p0 S2 ∧ q2 ≤ n ∧ p2 ≤ n ∧ (∀ y ∈ S2, y.2 ≤ n) ∧ S2.length = g2 ∧ S2.length ≤ 64 ∧ prC M p2 S2 (L ++ [x]) = O)
          case atStart => exact ⟨P1, q, S1, _, rfl, H7.out.1, H7.out.2.1, H7.out.2.2.1, H7.out.2.2.2, hq, hP1n, HPS.out.2.2.2.1, rfl, HPS.out.2.2.1, HPS.out.1⟩
          case round =>
            obtain ⟨p2, q2, S2, p0, rfl, hr, hbl, hE, hP, hq2, hp2, hS2, hg2, hl2, hC⟩ := hrel
            have hp2I : (p2 : Int) ≤ 16777216 := by omega
            cases S2 with
            | nil =>
              obtain ⟨ap2, cp2, hv⟩ := MRow.ne hP
              simp only [List.length_nil] at hv
              subst hv
              have H8 : Hid (Below w.heap.size w wr ∧ Elems (w.heap.size + 1) wr v (L ++ [x]) ∧ O = .inr (p2, L ++ [x])) := ⟨hbl, hE, by rw [← hC, prC_end]⟩
              have r1 : wr.cell? ⟨w.heap.size, 1, none⟩ = some (.int .i64 p2) := hr.cell 1
              clear hr hbl hE hP hC hS2
              by_cases hlt : p2 < n
              · have hltI : (p2 : Int) < (n : Int) := by omega
                go_wp2_with (go_at_call 59; refine (fault_any 33 p2).mono ?_; rintro e w9 ⟨rfl, rfl⟩)
                try rw [Exit.noGoto_ret]
                go_ret2
                rw [H8.out.2.2]
                simp only [trOf, if_pos hlt]
                exact ⟨rfl, H8.out.1⟩
              · have hltI : ¬ (p2 : Int) < (n : Int) := by omega
                go_wp2
                try rw [Exit.noGoto_ret]
                go_ret2
                rw [H8.out.2.2]
                simp only [trOf, if_neg hlt]
                exact ⟨⟨_, rfl, H8.out.2.1.mono (by omega)⟩, H8.out.1⟩
            | cons y S2 =>
              obtain ⟨pb, pc, hv, hpc, hpB, hpl, c0, c1, hpm⟩ := Prts.last hP
              obtain ⟨m, hm⟩ : ∃ m, S2.length = m := ⟨_, rfl⟩
              rw [hm] at hv hpc c0 c1
              subst hv
              obtain ⟨yo2, yu2⟩ := y
              have hyu2 : yu2 ≤ n := hS2 (yo2, yu2) (List.mem_cons_self ..)
              have hm64 : m + 1 ≤ 64 := by simp at hl2; omega
              have H8 : Hid (Rdb wr w.heap.size b off n c p2 q2 ∧ Below w.heap.size w wr ∧ Elems (w.heap.size + 1) wr v (L ++ [x]) ∧ Prts (w.heap.size + 1) wr (.slice (some ⟨pb, 0, none⟩) (m + 1) pc) ((yo2, yu2) :: S2) ∧ prC M p2 ((yo2, yu2) :: S2) (L ++ [x]) = O ∧ (∀ y ∈ S2, y.2 ≤ n) ∧ S2.length = m ∧ m + 1 = gk) := ⟨hr, hbl, hE, hP, hC, fun y hy' => hS2 y (List.mem_cons_of_mem _ hy'), hm, by simp at hg2; omega⟩
              have hwr : w.heap.size < wr.heap.size := hr.lt
              clear hr hbl hE hP hC hS2 hg2 hl2 hm
              go_upto_region 14 with (fail)
              refine wp_gen (fun W => Rdb W w.heap.size b off n c p2 q2 ∧ Below wr.heap.size wr W ∧ Blk 103 W wr.heap.size [.bool yo2, .int .i64 (yu2 : Int)]) ⟨Blk.alloc H8.out.1 _, al1 _, Blk.new _ _ _⟩ ?_
              rintro v7 h7
              have H9 : Hid (Rdb v7 w.heap.size b off n c p2 q2 ∧ Below wr.heap.size wr v7 ∧ Blk 103 v7 wr.heap.size [.bool yo2, .int .i64 (yu2 : Int)]) := h7
              have d1 : v7.cell? ⟨wr.heap.size, 1, none⟩ = some (.int .i64 (yu2 : Int)) := h7.2.2.cell 1
              have r2 : v7.cell? ⟨w.heap.size, 2, none⟩ = some (.int .i64 (q2 : Int)) := h7.1.cell 2
              have fr2 := h7.1.frozen 2
              clear h7 c0 c1
              go_upto_region 15 with (fail)
              refine wp_gen (fun W => Rdb W w.heap.size b off n c p2 yu2 ∧ Below w.heap.size w W ∧ Elems (w.heap.size + 1) W v (L ++ [x]) ∧ Prts (w.heap.size + 1) W (.slice (some ⟨pb, 0, none⟩) (m + 1) pc) ((yo2, yu2) :: S2) ∧ Blk 103 W wr.heap.size [.bool yo2, .int .i64 (yu2 : Int)]) ?_ ?_
              · have hU := Upd.set v7 w.heap.size 2 (.int .i64 (yu2 : Int))
                have hb7 : Below w.heap.size w v7 := H8.out.2.1.trans (H9.out.2.1.mono (by omega))
                exact ⟨H9.out.1.set 2 (.int .i64 (yu2 : Int)), hU.below hb7 hb7.size (Nat.le_refl _), (H8.out.2.2.1.below H9.out.2.1).upd hU (by omega), MRow.upd (MRow.below H8.out.2.2.2.1 H9.out.2.1) hU (by omega), hU.blk H9.out.2.2 (by omega)⟩
              rintro v8 h8
              have H10 : Hid (Rdb v8 w.heap.size b off n c p2 yu2 ∧ Below w.heap.size w v8 ∧ Elems (w.heap.size + 1) v8 v (L ++ [x]) ∧ Prts (w.heap.size + 1) v8 (.slice (some ⟨pb, 0, none⟩) (m + 1) pc) ((yo2, yu2) :: S2) ∧ Blk 103 v8 wr.heap.size [.bool yo2, .int .i64 (yu2 : Int)]) := h8
              have e0 : v8.cell? ⟨wr.heap.size, 0, none⟩ = some (.bool yo2) := h8.2.2.2.2.cell 0
              have e1 : v8.cell? ⟨wr.heap.size, 1, none⟩ = some (.int .i64 (yu2 : Int)) := h8.2.2.2.2.cell 1
              have r1 : v8.cell? ⟨w.heap.size, 1, none⟩ = some (.int .i64 (p2 : Int)) := h8.1.cell 1
              have hs8 : w.heap.size < v8.heap.size := h8.1.lt
              clear h8 d1 r2 fr2
              obtain ⟨E, hE⟩ : ∃ E, ends M p2 (yo2, yu2) = E := ⟨_, rfl⟩
              obtain ⟨nn, hnn⟩ : ∃ nn : Nat, (if yo2 = true then 2 else 0) = nn := ⟨_, rfl⟩
              have hn2 : nn ≤ 2 := by rw [← hnn]; split <;> omega
              have HEn : Hid (Calls Tryz.prog 61 #[.agg #[.bool yo2, .int .i64 (yu2 : Int)], .slice (some ⟨b, off, none⟩) n c, .int .i64 (p2 : Int)] v8 fun e w' => e = .returned (.tuple #[.int .i64 (nn : Int), .bool E]) ∧ Below v8.heap.size v8 w') := by
                show Calls _ _ _ _ _
                rw [← hE, ← hnn]
                cases yo2 with
                | false => exact end_shut _ M p2 yu2
                | true => exact end_open b off n c p2 yu2 M (below_rd H10.out.2.1 hb HX.out.1) HX.out.2.2 hn (Nat.lt_of_lt_of_le hb H10.out.2.1.size) hyu2 hp2
              have HE : Hid (ends M p2 (yo2, yu2) = E ∧ (if yo2 = true then 2 else 0) = nn) := ⟨hE, hnn⟩
              clear hE hnn
              go_wp2_with fail
              refine HEn.out.mono ?_
              rintro e v9 ⟨rfl, hb9⟩
              have H11 : Hid (Rdb v9 w.heap.size b off n c p2 yu2 ∧ Below w.heap.size w v9 ∧ Elems (w.heap.size + 1) v9 v (L ++ [x]) ∧ Prts (w.heap.size + 1) v9 (.slice (some ⟨pb, 0, none⟩) (m + 1) pc) ((yo2, yu2) :: S2)) := ⟨below_blk hb9 hs8 H10.out.1, H10.out.2.1.trans (hb9.mono (by omega)), H10.out.2.2.1.below hb9, MRow.below H10.out.2.2.2.1 hb9⟩
              clear hb9 e0 e1 r1
              cases E with
              | false =>
                go_wp2
                go_roundg g
                case measure => omega
                case rel =>
                  refine ⟨p2, yu2, (yo2, yu2) :: S2, L ++ [x], _, _, rfl, rfl, H11.out.1, H11.out.2.1, H11.out.2.2.1, H11.out.2.2.2, hyu2, hp2, ?_, ?_, ?_, ?_, ?_⟩
                  · intro z hz
                    rcases List.mem_cons.1 hz with h | h
                    · subst h; exact hyu2
                    · exact H8.out.2.2.2.2.2.1 z h
                  · rw [List.length_append, H2.out.2.2.2.2.2.2.1]; exact HPS.out.2.1
                  · rw [List.length_cons, H8.out.2.2.2.2.2.2.1]; omega
                  · rw [List.length_append, H2.out.2.2.2.2.2.2.1]; simp; omega
                  · rw [← H8.out.2.2.2.2.1]; exact (prC_on HE.out.1).symm
              | true =>
                have hpn : p2 + nn ≤ n := by
                  have h := HE.out.1
                  rw [← HE.out.2]
                  cases yo2 with
                  | false => simpa using hp2
                  | true =>
                    simp only [ends, if_true, decide_eq_true_eq] at h
                    simp only [if_true]
                    omega
                have hpnI : (p2 : Int) + (nn : Int) ≤ 16777216 := by omega
                have r1 : v9.cell? ⟨w.heap.size, 1, none⟩ = some (.int .i64 (p2 : Int)) := H11.out.1.cell 1
                have fr := H11.out.1.frozen 1
                have hmpc : (m : Int) ≤ (pc : Int) := by omega
                obtain ⟨P2, hP2⟩ : ∃ P2, p2 + nn = P2 := ⟨_, rfl⟩
                have hP2I : (p2 : Int) + (nn : Int) = (P2 : Int) := by omega
                have HP2 : Hid (p2 + nn = P2 ∧ P2 ≤ n) := ⟨hP2, by omega⟩
                clear hP2 hpn
                go_wp2
                go_roundg m
                case measure => have := H8.out.2.2.2.2.2.2.2; omega
                case rel =>
                  have hU := Upd.set v9 w.heap.size 1 (.int .i64 (P2 : Int))
                  refine ⟨P2, yu2, S2, .slice (some ⟨pb, 0, none⟩) m pc, rfl, H11.out.1.set 1 (.int .i64 (P2 : Int)), hU.below H11.out.2.1 H11.out.2.1.size (Nat.le_refl _), H11.out.2.2.1.upd hU (by omega), ?_, hyu2, HP2.out.2, H8.out.2.2.2.2.2.1, H8.out.2.2.2.2.2.2.1, ?_, ?_⟩
                  · have h := Prts.pop (MRow.upd H11.out.2.2.2 hU (by omega))
                    rw [H8.out.2.2.2.2.2.2.1] at h
                    exact h
                  · rw [H8.out.2.2.2.2.2.2.1]; omega
                  · rw [← H8.out.2.2.2.2.1, prC_pop HE.out.1, ← HP2.out.1, ← HE.out.2]
                    cases yo2 <;> rfl
end Go.Proofs.YtefebamomdcaaaaGreatDoor
/-
  Ber: parse of any bytes. (wip/mkb9.py)
-/
namespace Go.Proofs.YtefebamomdcaaaaGreatDoor
open Go.RowKit
/-- A reader of nothing. -/
def Rdz (w : World) (g : Nat) (s : Value) : Prop := Blk 101 w g [s, .int .i64 ((0 : Nat) : Int), .int .i64 ((0 : Nat) : Int)]
set_option maxHeartbeats 1000000 in
theorem next_nil {w : World} (g : Nat) (s : Value) (hR : Rdz w g s) :
    Calls Tryz.prog 109 #[.pointer (some ⟨g, 0, none⟩)] w fun e w' => e = .returned (.tuple #[.int .u8 0, erV 2 0]) ∧ Upd w w' g := by
  have c1 : w.cell? ⟨g, 1, none⟩ = some (.int .i64 ((0 : Nat) : Int)) := hR.cell 1
  have c2 : w.cell? ⟨g, 2, none⟩ = some (.int .i64 ((0 : Nat) : Int)) := hR.cell 2
  clear hR
  go_enter Tryz.func109, Tryz.ntmps109
  go_upto_region 1 with (fail)
  go_quiet (fail)
  go_wp2_with (go_at_call 59; refine (fault_any 2 0).mono ?_; rintro e w2 ⟨rfl, rfl⟩)
  go_ret2
  exact ⟨rfl, ⟨rfl, rfl, rfl, Nat.le_refl _, fun _ _ _ => rfl⟩⟩
set_option maxRecDepth 20000 in
set_option maxHeartbeats 4000000 in
theorem head_nil {w : World} (g : Nat) (s : Value) (hR : Rdz w g s) :
    Calls Tryz.prog 85 #[.pointer (some ⟨g, 0, none⟩)] w fun e w' => e = .returned (.tuple #[.agg zE.toArray, erV 2 0]) ∧ Upd w w' g := by
  have HR : Hid (Rdz w g s) := hR
  have hgl := hR.lt
  clear hR
  go_enter Tryz.func85, Tryz.ntmps85
  go_wp2_with fail
  refine (next_nil g s (Blk.alloc HR.out _)).mono ?_
  rintro e w1 ⟨rfl, hu⟩
  have hB1 : Blk 59 w1 w.heap.size zE := hu.blk (Blk.new _ w _) (by omega)
  have H1 : Hid (Upd (w.alloc (.cells zE.toArray 59)) w1 g ∧ Blk 59 w1 w.heap.size zE) := ⟨hu, hB1⟩
  have d0 : w1.cell? ⟨w.heap.size, 0, none⟩ = some (.int .i64 0) := hB1.cell 0
  have d1 : w1.cell? ⟨w.heap.size, 1, none⟩ = some (.int .i64 0) := hB1.cell 1
  have d2 : w1.cell? ⟨w.heap.size, 2, none⟩ = some (.int .i64 0) := hB1.cell 2
  have d3 : w1.cell? ⟨w.heap.size, 3, none⟩ = some (.bool false) := hB1.cell 3
  have d4 : w1.cell? ⟨w.heap.size, 4, none⟩ = some (.slice none 0 0) := hB1.cell 4
  have f0 := hB1.frozen 0
  have f1 := hB1.frozen 1
  have f2 := hB1.frozen 2
  have f3 := hB1.frozen 3
  have f4 := hB1.frozen 4
  clear hu hB1
  go_wp2
  have hB := ((((H1.out.2.set 0 (.int .i64 0)).set 1 (.int .i64 0)).set 2 (.int .i64 0)).set 3 (.bool false)).set 4 (.slice none 0 0)
  have hU := ((((Upd.set w1 w.heap.size 0 (.int .i64 0)).trans (Upd.set _ _ 1 (.int .i64 0))).trans (Upd.set _ _ 2 (.int .i64 0))).trans (Upd.set _ _ 3 (.bool false))).trans (Upd.set _ _ 4 (.slice none 0 0))
  refine bodyPost_ret (results_blk2 rfl rfl hB Tryz.underlying59 rfl Tryz.sizeE rfl) rfl ⟨rfl, H1.out.1.old hU⟩
set_option maxRecDepth 20000 in
set_option maxHeartbeats 8000000 in
theorem element_nil {w : World} (g : Nat) (s : Value) (hR : Rdz w g s) :
    Calls Tryz.prog 60 #[.pointer (some ⟨g, 0, none⟩), .int .i64 0, .int .i64 0] w fun e w' => (∃ (a0 a1 a2 : Int) (a3 b0 : Bool) (b1 : Int), e = .returned (.tuple #[.agg #[.int .i64 a0, .int .i64 a1, .int .i64 a2, .bool a3, .slice none 0 0], .agg #[.bool b0, .int .i64 b1], erV 2 0])) ∧ Upd w w' g := by
  have hgl := hR.lt
  have HX : Hid (Rdz w g s) := hR
  clear hR
  go_enter Tryz.func60, Tryz.ntmps60
  go_upto_region 1 with (fail)
  refine wp_gen (fun W => Upd w W g ∧ Rdz W g s ∧ Blk 59 W w.heap.size zE ∧ Blk 103 W (w.heap.size + 1) zP) ?_ ?_
  · have hB1 : Below w.heap.size w ((w.alloc (.cells zE.toArray 59)).alloc (.cells zP.toArray 103)) := (al1 _).alloc (by simp) _
    exact ⟨Below.upd hB1, Blk.alloc (Blk.alloc HX.out _) _, (Blk.new _ w _).alloc _, blk_nw (by simp) rfl⟩
  rintro w1 ⟨hu1, hr1, hx1, hp1⟩
  have H1 : Hid (Upd w w1 g ∧ Rdz w1 g s ∧ Blk 59 w1 w.heap.size zE ∧ Blk 103 w1 (w.heap.size + 1) zP) := ⟨hu1, hr1, hx1, hp1⟩
  clear hu1 hr1 hx1 hp1
  have hwg : ¬ w.heap.size = g := by omega
  have hgw : ¬ g = w.heap.size := by omega
  have hwg1 : ¬ w.heap.size + 1 = g := by omega
  have hgw1 : ¬ g = w.heap.size + 1 := by omega
  go_upto_region 5 with (fail)
  go_wp2_with fail
  refine (head_nil g s H1.out.2.1).mono ?_
  rintro e w2 ⟨rfl, hu2⟩
  have hX2 : Blk 59 w2 w.heap.size zE := hu2.blk H1.out.2.2.1 (by omega)
  have H2 : Hid (Upd w w2 g ∧ Blk 59 w2 w.heap.size zE ∧ Blk 103 w2 (w.heap.size + 1) zP) := ⟨H1.out.1.trans hu2, hX2, hu2.blk H1.out.2.2.2 (by omega)⟩
  have d0 : w2.cell? ⟨w.heap.size, 0, none⟩ = some (.int .i64 0) := hX2.cell 0
  have d1 : w2.cell? ⟨w.heap.size, 1, none⟩ = some (.int .i64 0) := hX2.cell 1
  have d2 : w2.cell? ⟨w.heap.size, 2, none⟩ = some (.int .i64 0) := hX2.cell 2
  have d3 : w2.cell? ⟨w.heap.size, 3, none⟩ = some (.bool false) := hX2.cell 3
  have d4 : w2.cell? ⟨w.heap.size, 4, none⟩ = some (.slice none 0 0) := hX2.cell 4
  have f0 := hX2.frozen 0
  have f1 := hX2.frozen 1
  have f2 := hX2.frozen 2
  have f3 := hX2.frozen 3
  have f4 := hX2.frozen 4
  clear hu2 hX2
  go_upto_region 7 with (fail)
  refine wp_gen (fun W => Upd w W g ∧ Blk 59 W w.heap.size zE ∧ Blk 103 W (w.heap.size + 1) zP) ?_ ?_
  · have hU := (((((Upd.set w2 w.heap.size 0 (.int .i64 0)).trans (Upd.set _ _ 1 (.int .i64 0))).trans (Upd.set _ _ 2 (.int .i64 0))).trans (Upd.set _ _ 3 (.bool false))).trans (Upd.set _ _ 4 (.slice none 0 0)))
    exact ⟨H2.out.1.more hU (Nat.le_refl _), (((((H2.out.2.1.set 0 (.int .i64 0)).set 1 (.int .i64 0)).set 2 (.int .i64 0)).set 3 (.bool false)).set 4 (.slice none 0 0)), hU.blk H2.out.2.2 (by omega)⟩
  rintro w3 h3
  have H3 : Hid (Upd w w3 g ∧ Blk 59 w3 w.heap.size zE ∧ Blk 103 w3 (w.heap.size + 1) zP) := h3
  clear h3
  clear d0 d1 d2 d3 d4 f0 f1 f2 f3 f4
  go_upto_region 7 with (fail)
  have hXd : Blk 59 w3.drew w.heap.size [.int .i64 0, .int .i64 0, .int .i64 0, .bool false, .slice none 0 0] := H3.out.2.1
  have hPd : Blk 103 w3.drew (w.heap.size + 1) [.bool false, .int .i64 0] := H3.out.2.2
  have hUd : Upd w w3.drew g := H3.out.1.trans (upd_drewN _ 1 _)
  refine wp_region_still (fun k => ([.agg #[.int .i64 0, .int .i64 0, .int .i64 0, .bool false, .slice none 0 0], .agg #[.bool false, .int .i64 0], erV 2 0, undef, undef, erV 2 0] : List Value).getD k undef) (fun W => Blk 59 W w.heap.size [.int .i64 0, .int .i64 0, .int .i64 0, .bool false, .slice none 0 0] ∧ Blk 103 W (w.heap.size + 1) [.bool false, .int .i64 0] ∧ Upd w W g ∧ True) rfl (by decide +kernel) (show dstB _ 100 = true by decide +kernel) ⟨hXd, hPd, hUd, trivial⟩ (fun W hS => ?_) (fun i L W a hi hno hdep hv hn h0 hS => ?_)
  rotate_left
  · replace hi : i < 6 := hi
    obtain rfl | rfl | rfl | rfl | rfl | rfl : i = 0 ∨ i = 1 ∨ i = 2 ∨ i = 3 ∨ i = 4 ∨ i = 5 := by omega
    · exact det_load rfl rfl rfl ((h0 6 (by decide +kernel)).trans rfl) hS.1.whole Tryz.underlying59 rfl Tryz.sizeE rfl hS
    · exact det_load rfl rfl rfl ((h0 7 (by decide +kernel)).trans rfl) hS.2.1.whole Tryz.underlying103 rfl Tryz.sizeP rfl hS
    · exact det_val rfl rfl (run_mv rfl ((Classical.em (Up L 5)).elim (fun u => hv 5 8 (show 5 < 6 by decide) u rfl) (fun u => (hn 5 8 (show 5 < 6 by decide) u rfl).trans rfl))) hS
    · exact det_store (cells := #[.int .i64 0, .int .i64 0, .int .i64 0, .bool false, .slice none 0 0]) rfl rfl rfl rfl ((h0 6 (by decide +kernel)).trans rfl) (hv 0 _ (show 0 < 6 by decide) (hdep 0 (by decide +kernel)) rfl) (hS.1.there 0 5 (Nat.le_refl 5)) Tryz.sizeE (oneA _ _ _ _ _ _ _) ⟨hS.1.fill [.int .i64 0, .int .i64 0, .int .i64 0, .bool false, .slice none 0 0] rfl, (Upd.setCells _ _ _).blk hS.2.1 (by omega), hS.2.2.1.more (Upd.setCells _ _ _) (Nat.le_refl _), trivial⟩
    · exact det_store (cells := #[.bool false, .int .i64 0]) rfl rfl rfl rfl ((h0 7 (by decide +kernel)).trans rfl) (hv 1 _ (show 1 < 6 by decide) (hdep 1 (by decide +kernel)) rfl) (hS.2.1.there 0 2 (Nat.le_refl 2)) Tryz.sizeP (oneB _ _) ⟨(Upd.setCells _ _ _).blk hS.1 (by omega), hS.2.1.fill [.bool false, .int .i64 0] rfl, hS.2.2.1.more (Upd.setCells _ _ _) (Nat.le_succ _), trivial⟩
    · exact det_val rfl rfl (run_asg rfl (hv 2 _ (show 2 < 6 by decide) (hdep 2 (by decide +kernel)) rfl)) hS
  rw [frF6 rfl rfl rfl rfl rfl rfl rfl]
  simp only [List.setIfInBounds_toArray, List.set_cons_succ, List.set_cons_zero, List.getD_cons_zero, List.getD_cons_succ]
  go_wp2
  refine bodyPost_ret (results_blk3 rfl rfl rfl hS.1 hS.2.1 Tryz.underlying59 rfl Tryz.sizeE Tryz.underlying103 rfl Tryz.sizeP rfl) rfl ⟨⟨_, _, _, _, _, _, rfl⟩, hS.2.2.1⟩
set_option maxHeartbeats 4000000 in
theorem parse_long {w : World} (a : Option Addr) (n c : Nat) (h : 16777216 < n) (hn : n ≤ 9223372036854775807) :
    Calls Tryz.prog 32 #[.slice a n c] w fun e w' => e = .returned (.tuple #[.slice none 0 0, erV 3 0]) ∧ w = w' := by
  have hI : (16777216 : Int) < (n : Int) := by omega
  have hI2 : (n : Int) ≤ 9223372036854775807 := by omega
  go_enter Tryz.func32, Tryz.ntmps32
  go_wp2
  go_step3
  go_wp2_with (go_at_call 59; refine (fault_any 3 0).mono ?_; rintro e w2 ⟨rfl, rfl⟩)
  try rw [Exit.noGoto_ret]
  go_ret2
  exact ⟨rfl, rfl⟩
set_option maxRecDepth 20000 in
set_option maxHeartbeats 4000000 in
theorem parse_nil {w : World} (a : Option Addr) (c : Nat) :
    Calls Tryz.prog 32 #[.slice a 0 c] w fun e w' => e = .returned (.tuple #[.slice none 0 0, erV 2 0]) ∧ Below w.heap.size w w' := by
  go_enter Tryz.func32, Tryz.ntmps32
  go_wp2
  go_step3
  go_wp2
  go_step3
  go_wp2_with fail
  refine wp_gen (fun W => Rdz W w.heap.size (.slice a 0 c) ∧ Below w.heap.size w W) ⟨Blk.new _ w _, al1 _⟩ ?_
  rintro v1 hv1
  have H1 : Hid (Rdz v1 w.heap.size (.slice a 0 c) ∧ Below w.heap.size w v1) := ⟨hv1.1, hv1.2⟩
  clear hv1
  all_goals refine wp_loop_rounds 1 ?_
  all_goals rw [rounds_succ]
  go_wp2_with fail
  refine (element_nil w.heap.size _ H1.out.1).mono ?_
  rintro e v2 ⟨⟨a0, a1, a2, a3, b0, b1, rfl⟩, hu⟩
  have H2 : Hid (Below w.heap.size w v2) := hu.below H1.out.2 H1.out.2.size (Nat.le_refl _)
  clear hu
  go_wp2
  try rw [Exit.noGoto_ret]
  go_ret2
  exact ⟨rfl, al2' (al2' H2.out)⟩
theorem parseS_nil : parseS [] = .inl (2, 0) := by
  rw [parseS_tr (by simp), pr_bad (e := (2, 0)) (by simp) (by simp [belS])]
  rfl
/-- parse of any bytes. -/
theorem parse_any {w : World} (v : Value) (M : List Int) (hv : Sl .u8 w v M) (uM : U8s M) (hl : M.length ≤ 9223372036854775807) :
    Calls Tryz.prog 32 #[v] w fun e w' => PrOut w.heap.size w' e (parseS M) ∧ Below w.heap.size w w' := by
  obtain ⟨a, c, rfl, hc, h⟩ := hv
  by_cases hlong : 16777216 < M.length
  · refine (parse_long a M.length c hlong hl).mono ?_
    rintro e w' ⟨rfl, rfl⟩
    rw [show parseS M = .inl (3, 0) by unfold parseS; rw [if_pos hlong]]
    exact ⟨rfl, Below.refl _ _⟩
  · rcases h with rfl | ⟨b, off, rfl, hb, hr⟩
    · refine (parse_nil a c).mono ?_
      rintro e w' ⟨rfl, hb⟩
      rw [parseS_nil]
      exact ⟨rfl, hb⟩
    · exact parse_ne b off M.length c M hr uM rfl (by omega) hc hb
end Go.Proofs.YtefebamomdcaaaaGreatDoor
