/-
  Ber: measured walked.
-/
import Derived.Test.YtefebamomdcaaaaGreatDoorK19
namespace Go.Proofs.YtefebamomdcaaaaGreatDoor
open Go.RowKit
theorem frG15_7ffe {ops : Array Oper} {V : Nat → Value} {t : Array Value} {d0 d1 d2 d3 d4 d5 d6 d7 d8 d9 d10 d11 d12 d13 : Nat} (hs : ops.size = 15) (h0 : dstOf ops 0 = some d0) (h1 : dstOf ops 1 = some d1) (h2 : dstOf ops 2 = some d2) (h3 : dstOf ops 3 = some d3) (h4 : dstOf ops 4 = some d4) (h5 : dstOf ops 5 = some d5) (h6 : dstOf ops 6 = some d6) (h7 : dstOf ops 7 = some d7) (h8 : dstOf ops 8 = some d8) (h9 : dstOf ops 9 = some d9) (h10 : dstOf ops 10 = some d10) (h11 : dstOf ops 11 = some d11) (h12 : dstOf ops 12 = some d12) (h13 : dstOf ops 13 = some d13) (h14 : dstOf ops 14 = none) : frF ops V t ops.size = ((((((((((((((t.setIfInBounds d0 (V 0)).setIfInBounds d1 (V 1)).setIfInBounds d2 (V 2)).setIfInBounds d3 (V 3)).setIfInBounds d4 (V 4)).setIfInBounds d5 (V 5)).setIfInBounds d6 (V 6)).setIfInBounds d7 (V 7)).setIfInBounds d8 (V 8)).setIfInBounds d9 (V 9)).setIfInBounds d10 (V 10)).setIfInBounds d11 (V 11)).setIfInBounds d12 (V 12)).setIfInBounds d13 (V 13)) := by
  rw [hs]
  simp only [frF, h0, h1, h2, h3, h4, h5, h6, h7, h8, h9, h10, h11, h12, h13, h14]
theorem frG12_ffe {ops : Array Oper} {V : Nat → Value} {t : Array Value} {d0 d1 d2 d3 d4 d5 d6 d7 d8 d9 d10 : Nat} (hs : ops.size = 12) (h0 : dstOf ops 0 = some d0) (h1 : dstOf ops 1 = some d1) (h2 : dstOf ops 2 = some d2) (h3 : dstOf ops 3 = some d3) (h4 : dstOf ops 4 = some d4) (h5 : dstOf ops 5 = some d5) (h6 : dstOf ops 6 = some d6) (h7 : dstOf ops 7 = some d7) (h8 : dstOf ops 8 = some d8) (h9 : dstOf ops 9 = some d9) (h10 : dstOf ops 10 = some d10) (h11 : dstOf ops 11 = none) : frF ops V t ops.size = (((((((((((t.setIfInBounds d0 (V 0)).setIfInBounds d1 (V 1)).setIfInBounds d2 (V 2)).setIfInBounds d3 (V 3)).setIfInBounds d4 (V 4)).setIfInBounds d5 (V 5)).setIfInBounds d6 (V 6)).setIfInBounds d7 (V 7)).setIfInBounds d8 (V 8)).setIfInBounds d9 (V 9)).setIfInBounds d10 (V 10)) := by
  rw [hs]
  simp only [frF, h0, h1, h2, h3, h4, h5, h6, h7, h8, h9, h10, h11]
theorem datL_drop (L : List Te) (k : Nat) : datL (L.drop k) + 12 * (L.drop k).length ≤ datL L + 12 * L.length := by
  induction L generalizing k with
  | nil => simp
  | cons x r ih =>
    cases k with
    | zero => simp
    | succ k => have := ih k; simp [datL] at this ⊢; omega
theorem datL_mem {x : Te} {L : List Te} (h : x ∈ L) : x.d.length ≤ datL L := by
  induction L with
  | nil => cases h
  | cons y r ih =>
    simp only [datL]
    rcases List.mem_cons.1 h with rfl | h
    · omega
    · have := ih h; omega
theorem tree_tg {L : List Te} (h : treeB L = true) : ∀ x ∈ L, x.tg ≤ 268435455 := by
  intro x hx
  obtain ⟨i, hi, rfl⟩ := List.mem_iff_getElem.1 hx
  have := (tree_at h i hi).1
  simp only [standB, decide_eq_true_eq] at this
  exact this.2.2.2.1
theorem meas_bd {L : List Te} (h : treeB L = true) (hd : datL L ≤ 1099511627776) (hn : L.length ≤ 65536) (k : Nat) : byt (nds (L.drop k)) ≤ 1099512414208 := by
  have h1 := datL_drop L k
  have h2 := byt_nds (L.drop k) (fun x hx => tree_tg h x (List.mem_of_mem_drop hx)) (by omega)
  omega
theorem pick_le (k : Int) (N : List Nd) : byt (pick k N) ≤ byt N ∧ (pick k N).length ≤ N.length := by
  have sub : ∀ (M K : List Nd), M.Sublist K → byt M ≤ byt K := fun M K hs => by
    induction hs with
    | slnil => simp
    | cons y _ ih => simp only [byt]; omega
    | cons_cons y _ ih => simp only [byt]; omega
  have hs : (pick k N).Sublist N := (List.dropWhile_sublist _).trans (List.takeWhile_sublist _)
  exact ⟨sub _ _ hs, hs.length_le⟩
theorem upd_drewB (w : World) : Below w.heap.size w w.drew := ⟨rfl, rfl, rfl, Nat.le_refl _, fun _ _ => rfl⟩
theorem Row.drewB {k : IntKind} {e : TypeId} {B : Nat} {w : World} {v : Value} {xs : List Int} (h : Row k e B w v xs) : Row k e B w.drew v xs := h.below (upd_drewB _)
theorem st_cell {W : World} {T : TypeId} {b : Nat} {xs : List Int} (h : Blk T W b (xs.map (Value.int .i64))) (k : Nat) (hk : k < xs.length) {v : Int} : (Instr.storeAt 3 (.pointer (some ⟨b, k, none⟩)) (.int .i64 v)).run Tryz.prog W = .ok () (W.setCell ⟨b, k, none⟩ (.int .i64 v)) := by
  have c : W.cell? ⟨b, k, none⟩ = some (.int .i64 (xs[k]'hk)) := by rw [h.cell k]; simp [hk]
  have f := h.frozen k
  simp [go_sem, Instr.storeAt, c, f]
def MsOut (w w' : World) (e : Ending) (Y : List Tv) : Prop := ∃ Z, MeasZ Y Z ∧ e = .returned (.slice (some ⟨w.heap.size, 0, none⟩) Y.length Y.length) ∧ Blk 122 w' w.heap.size (ndCells Z) ∧ ∀ z ∈ Z, Row .u8 5 (w.heap.size + 3) w' z.f z.nd.2
set_option maxRecDepth 20000 in
set_option maxHeartbeats 8000000 in
theorem measured_any {w : World} (v : Value) (Y : List Tv) (hv : ElY w v Y) (hT : treeB (Y.map (·.1)) = true) (hD : datL (Y.map (·.1)) ≤ 1099511627776) :
    Calls Tryz.prog 66 #[v] w fun e w' => MsOut w w' e Y ∧ Below w.heap.size w w' := by
  obtain ⟨n, hn⟩ : ∃ n, Y.length = n := ⟨_, rfl⟩
  have hn2 : n ≤ 65536 := by
    have := hT
    cases hY : Y.map (·.1) with
    | nil => rw [hY] at this; cases this
    | cons x r =>
      rw [hY] at this
      simp only [treeB, Bool.and_eq_true, decide_eq_true_eq] at this
      have h1 := this.1.1.1
      rw [← hY, List.length_map] at h1
      omega
  have HX : Hid (ElY w v Y ∧ treeB (Y.map (·.1)) = true ∧ datL (Y.map (·.1)) ≤ 1099511627776 ∧ Y.length = n) := ⟨hv, hT, hD, hn⟩
  obtain ⟨a, c, rfl⟩ : ∃ a c, v = .slice a n c := by obtain ⟨a, c, h, _⟩ := hv; exact ⟨a, c, by rw [h, hn]⟩
  have hnI : (n : Int) ≤ 65536 := by omega
  clear hv hT hD hn
  go_enter Tryz.func66, Tryz.ntmps66
  go_upto_region 2 with (refine wpList_mkM _ rfl (.tmp 12) (.tmp 12) 119 rfl zN 122 96 Tryz.undN Tryz.infoN n n rfl rfl (Nat.le_refl _) (by omega) (by omega) ?_; intro w1 hB1 hb1 hs1)
  have HW1 : Hid (Blk 122 w1 w.heap.size (List.replicate n zN).flatten ∧ Below w.heap.size w w1) := ⟨hB1, hb1⟩
  clear hB1 hb1
  go_upto_region 3 with (fail)
  refine wp_gen (fun W => MI w W (zNs n ++ ndCells []) (szL []) (ctL []) []) ?_ ?_
  · refine ⟨by simpa [zNs, ndCells] using ((HW1.out.1.alloc _).alloc _), ?_, ?_, (HW1.out.2.trans ((al1 _).mono (by omega))).trans ((al1 _).mono (by simp; omega)), by simp⟩
    · rw [szL_nil]; exact (blk_nw (by omega) (by kernel_rfl)).alloc _
    · rw [ctL_nil]; exact blk_nw (by simp; omega) (by kernel_rfl)
  intro w2 hM
  have H2 : Hid (MI w w2 (zNs n ++ ndCells []) (szL []) (ctL []) []) := hM
  clear hM HW1 hs1
  go_wp2_with fail
  go_loopw [6] (fun iv wr => ∃ (k : Nat) (Z : List Nv), iv = .int .i64 ((k : Int) - 1) ∧ k ≤ n ∧ MeasZ (Y.drop k) Z ∧ MI w wr (zNs k ++ ndCells Z) (szL (nds ((Y.drop k).map (·.1)))) (ctL (nds ((Y.drop k).map (·.1)))) Z) (fun iv _ => (intOf iv + 1).toNat)
  case atStart =>
    refine ⟨n, [], rfl, Nat.le_refl _, ?_, ?_⟩
    · rw [List.drop_of_length_le (by have := HX.out.2.2.2; omega)]; trivial
    · rw [List.drop_of_length_le (by have := HX.out.2.2.2; omega)]; exact H2.out
  case round =>
    obtain ⟨k, Z, hiv, hk, hZ, hM⟩ := hrel
    cases k with
    | zero =>
      have H3 : Hid (MeasZ Y Z ∧ MI w wr (ndCells Z) (szL (nds ((Y.drop 0).map (·.1)))) (ctL (nds ((Y.drop 0).map (·.1)))) Z) := ⟨by simpa using hZ, by simpa [zNs] using hM⟩
      subst hiv
      clear hZ hM
      go_wp2
      go_ret
      exact ⟨⟨Z, H3.out.1, by rw [HX.out.2.2.2]; rfl, H3.out.2.1, H3.out.2.2.2.2.2⟩, H3.out.2.2.2.2.1⟩
    | succ i =>
      rw [show (((i + 1 : Nat) : Int) - 1) = (i : Int) by omega] at hiv
      subst hiv
      have hiY : i < Y.length := by have := HX.out.2.2.2; omega
      obtain ⟨bl, ol, xd, m, xk, rfl, hb, p0, p1, p2, p3, p4, hy2, hxs, hml⟩ := (HX.out.1.below hM.2.2.2.1).at hiY
      obtain ⟨y, hy⟩ : ∃ y, Y[i] = y := ⟨_, rfl⟩
      have ht := tree_at HX.out.2.1 i (by rw [List.length_map]; exact hiY)
      rw [List.getElem_map, ← List.map_drop] at ht
      have hmD : m ≤ 1099511627776 := by
        rw [hml]
        have h1 : Y[i].1 ∈ Y.map (·.1) := List.mem_map_of_mem (List.getElem_mem _)
        have h2 := datL_mem h1
        have := HX.out.2.2.1
        omega
      have hNb := meas_bd HX.out.2.1 HX.out.2.2.1 (by rw [List.length_map]; have := HX.out.2.2.2; omega) (i + 1)
      have hNl : (nds ((Y.map (·.1)).drop (i + 1))).length ≤ 65536 := by rw [nds_len, List.length_drop, List.length_map]; have := HX.out.2.2.2; omega
      rw [← List.map_drop] at hNb hNl
      obtain ⟨N, hN⟩ : ∃ N, nds ((Y.drop (i + 1)).map (·.1)) = N := ⟨_, rfl⟩
      have hyo : Y[i]? = some y := by rw [List.getElem?_eq_getElem hiY, hy]
      rw [hN] at hM ht hNb hNl
      rw [hy] at p0 p1 p2 p3 hy2 hxs hml ht
      obtain ⟨hst, ⟨d, hd, hd63⟩, hhd⟩ := ht
      obtain ⟨⟨dp, cl, tg, co, dd⟩, sv⟩ := y
      simp only [] at p0 p1 p2 p3 hy2 hxs hml hst hd hhd
      subst hd
      simp only [standB, decide_eq_true_eq] at hst
      obtain ⟨t, htt⟩ : ∃ t : Nat, tg = (t : Int) := ⟨tg.toNat, by omega⟩
      subst htt
      obtain ⟨s1, hs1⟩ : ∃ s1, byt (inn (d : Int) N) = s1 := ⟨_, rfl⟩
      obtain ⟨s0, hs0⟩ : ∃ s0, byt (pick (d : Int) N) = s0 := ⟨_, rfl⟩
      obtain ⟨c1, hc1⟩ : ∃ c1, (inn (d : Int) N).length = c1 := ⟨_, rfl⟩
      obtain ⟨c0, hc0⟩ : ∃ c0, (pick (d : Int) N).length = c0 := ⟨_, rfl⟩
      obtain ⟨e, he⟩ : ∃ e, d + 1 = e := ⟨_, rfl⟩
      obtain ⟨nn, hnn⟩ : ∃ nn, m + s1 = nn := ⟨_, rfl⟩
      have b1 : s1 ≤ 1099512414208 := by rw [← hs1]; exact Nat.le_trans (inn_le _ _) hNb
      have b0 : s0 ≤ 1099512414208 := by rw [← hs0]; exact Nat.le_trans (pick_le _ _).1 hNb
      have b2 : c1 ≤ 65536 := by rw [← hc1]; exact Nat.le_trans (inn_len _ _) hNl
      have b3 : c0 ≤ 65536 := by rw [← hc0]; exact Nat.le_trans (pick_le _ _).2 hNl
      have hpe : pick ((e : Nat) : Int) N = inn (d : Int) N := by rw [← he]; exact pick_inn hhd
      have q1 : ((szL N).map (Value.int .i64))[e]? = some (.int .i64 (s1 : Int)) := by
        rw [List.getElem?_map, szL_at N (by omega), hpe, hs1]; rfl
      have q2 : ((ctL N).map (Value.int .i64))[e]? = some (.int .i64 (c1 : Int)) := by
        rw [List.getElem?_map, ctL_at N (by omega), hpe, hc1]; rfl
      have q3 : ((szL N).map (Value.int .i64))[d]? = some (.int .i64 (s0 : Int)) := by
        rw [List.getElem?_map, szL_at N (by omega), hs0]; rfl
      have q4 : ((ctL N).map (Value.int .i64))[d]? = some (.int .i64 (c0 : Int)) := by
        rw [List.getElem?_map, ctL_at N (by omega), hc0]; rfl
      obtain ⟨F, hF⟩ : ∃ F, frontB ⟨d, cl, t, co, dd⟩ nn = F := ⟨_, rfl⟩
      have hFl := frontB_len ⟨d, cl, t, co, dd⟩ nn hst.2.2.2.1 (by omega)
      rw [hF] at hFl
      have HF : Hid (frontB ⟨d, cl, t, co, dd⟩ nn = F ∧ Y[i]? = some (⟨d, cl, t, co, dd⟩, sv) ∧ sv = .slice xd m xk ∧ m = dd.length ∧ nds ((Y.drop (i + 1)).map (·.1)) = N ∧ hdOk (d : Int) N ∧ byt (inn (d : Int) N) = s1 ∧ byt (pick (d : Int) N) = s0 ∧ (inn (d : Int) N).length = c1 ∧ (pick (d : Int) N).length = c0 ∧ d + 1 = e ∧ m + s1 = nn ∧ MeasZ (Y.drop (i + 1)) Z ∧ Sl .u8 wr (.slice xd m xk) dd) := ⟨hF, hyo, hy2, hml, hN, hhd, hs1, hs0, hc1, hc0, he, hnn, hZ, hxs⟩
      have HQ : Hid (((szL N).map (Value.int .i64))[e]? = some (.int .i64 (s1 : Int)) ∧ ((ctL N).map (Value.int .i64))[e]? = some (.int .i64 (c1 : Int)) ∧ ((szL N).map (Value.int .i64))[d]? = some (.int .i64 (s0 : Int)) ∧ ((ctL N).map (Value.int .i64))[d]? = some (.int .i64 (c0 : Int))) := ⟨q1, q2, q3, q4⟩
      have HM0 : Hid (MI w wr (zNs (i + 1) ++ ndCells Z) (szL N) (ctL N) Z) := hM
      have hsz0 := hM.size
      have hde : (d : Int) + 1 = (e : Int) := by omega
      have he65 : e < 65 := by omega
      have hd65 : d < 65 := by omega
      have hin : i < n := by omega
      have hinI : (i : Int) < (n : Int) := by omega
      have hnnI : (m : Int) + (s1 : Int) = (nn : Int) := by omega
      have hmI : (m : Int) ≤ 1099511627776 := by omega
      have hnn2 : nn ≤ 2199024041984 := by omega
      have hstI := hst
      clear hy hyo hml hN hhd hs1 hs0 hc1 hc0 he hnn hpe q1 q2 q3 q4 hF hy2 hxs hM hNb hNl hiY hZ hst
      go_upto_region 7 with (fail)
      obtain ⟨bx, hbx⟩ : ∃ bx, wr.heap.size = bx := ⟨_, rfl⟩
      refine wp_gen (fun W => MI w W (zNs (i + 1) ++ ndCells Z) (szL N) (ctL N) Z ∧ Blk 59 W bx [.int .i64 (d : Int), .int .i64 cl, .int .i64 (t : Int), .bool co, .slice xd m xk] ∧ Below bx wr W ∧ bx < W.heap.size) ⟨HM0.out.below (al1 _), hbx ▸ Blk.new _ wr _, hbx ▸ al1 _, by simp; omega⟩ ?_
      rintro w3 ⟨hM3, hB3, hb3, hl3⟩
      have d0 : w3.cell? ⟨bx, 0, none⟩ = some (.int .i64 (d : Int)) := hB3.cell 0
      have d1 : w3.cell? ⟨bx, 1, none⟩ = some (.int .i64 cl) := hB3.cell 1
      have d2 : w3.cell? ⟨bx, 2, none⟩ = some (.int .i64 (t : Int)) := hB3.cell 2
      have d3 : w3.cell? ⟨bx, 3, none⟩ = some (.bool co) := hB3.cell 3
      have d4 : w3.cell? ⟨bx, 4, none⟩ = some (.slice xd m xk) := hB3.cell 4
      have cs1 : w3.cell? ⟨w.heap.size + 1, e, none⟩ = some (.int .i64 (s1 : Int)) := (hM3.2.1.cell e).trans HQ.out.1
      have H3 : Hid (MI w w3 (zNs (i + 1) ++ ndCells Z) (szL N) (ctL N) Z ∧ Blk 59 w3 bx [.int .i64 (d : Int), .int .i64 cl, .int .i64 (t : Int), .bool co, .slice xd m xk] ∧ Below bx wr w3) := ⟨hM3, hB3, hb3⟩
      have hbx3 : w.heap.size + 3 ≤ bx := by omega
      clear p0 p1 p2 p3 p4 hM3 hB3 hb3
      rw [hbx]
      clear hbx
      go_upto_region 8 with (fail)
      go_quiet (fail)
      go_upto_region 9 with (fail)
      refine wp_gen (fun W => MI w W (zNs (i + 1) ++ ndCells Z) (szL N) (ctL N) Z ∧ Blk 59 W bx [.int .i64 (d : Int), .int .i64 cl, .int .i64 (t : Int), .bool co, .slice xd m xk] ∧ Below bx wr W ∧ bx < W.heap.size) ⟨H3.out.1.below (below_drewN _ (Below.refl _ _)), H3.out.2.1.drewN _, below_drewN _ H3.out.2.2, hl3⟩ ?_
      clear d0 d1 d2 d3 d4 cs1 H3 hl3
      rintro w4 ⟨hM4, hB4, hb4, hl4⟩
      have d0 : w4.cell? ⟨bx, 0, none⟩ = some (.int .i64 (d : Int)) := hB4.cell 0
      have d1 : w4.cell? ⟨bx, 1, none⟩ = some (.int .i64 cl) := hB4.cell 1
      have d2 : w4.cell? ⟨bx, 2, none⟩ = some (.int .i64 (t : Int)) := hB4.cell 2
      have d3 : w4.cell? ⟨bx, 3, none⟩ = some (.bool co) := hB4.cell 3
      have d4 : w4.cell? ⟨bx, 4, none⟩ = some (.slice xd m xk) := hB4.cell 4
      have H4 : Hid (MI w w4 (zNs (i + 1) ++ ndCells Z) (szL N) (ctL N) Z ∧ Blk 59 w4 bx [.int .i64 (d : Int), .int .i64 cl, .int .i64 (t : Int), .bool co, .slice xd m xk] ∧ Below bx wr w4) := ⟨hM4, hB4, hb4⟩
      clear hM4 hB4 hb4
      go_wp2_with fail
      refine (hd_any ⟨d, cl, t, co, dd⟩ (.slice xd m xk) hstI.1 hstI.2.1 hstI.2.2.1 hstI.2.2.2.1).mono ?_
      rintro ev w5 ⟨r1, rfl, hr1, hb5⟩
      obtain ⟨ra, rc, rfl⟩ := hr1.ne
      obtain ⟨hl, hhl⟩ : ∃ hl, (headB cl co (t : Int).toNat (kOf (t : Int).toNat)).length = hl := ⟨_, rfl⟩
      have hr1' := hr1
      simp only [] at hhl hr1 ⊢
      rw [hhl] at hr1 ⊢
      have H5 : Hid (Row .u8 5 w4.heap.size w5 (.slice ra hl rc) (headB cl co (t : Int).toNat (kOf (t : Int).toNat)) ∧ Below w4.heap.size w4 w5 ∧ (headB cl co (t : Int).toNat (kOf (t : Int).toNat)).length = hl) := ⟨hr1, hb5, hhl⟩
      have hl45 : w4.heap.size ≤ w5.heap.size := hb5.size
      clear hr1 hr1' hb5 hhl d0 d1 d2 d3 d4
      go_wp2_with fail
      obtain ⟨k1, k2, k3⟩ := cOf_ok nn (by omega)
      refine (len_any nn (cOf nn) k1 k2 (by omega) (by omega)).mono ?_
      clear k1 k2 k3
      rintro ev w6 ⟨r2, rfl, hr2, hb6⟩
      obtain ⟨sa, sc, rfl⟩ := hr2.ne
      obtain ⟨ll, hll⟩ : ∃ ll, (lenB nn (cOf nn)).length = ll := ⟨_, rfl⟩
      rw [hll] at hr2 ⊢
      have H6 : Hid (Row .u8 5 w4.heap.size w6 (.slice ra hl rc) (headB cl co (t : Int).toNat (kOf (t : Int).toNat)) ∧ Row .u8 5 w5.heap.size w6 (.slice sa ll sc) (lenB nn (cOf nn)) ∧ Below w4.heap.size w4 w6 ∧ (lenB nn (cOf nn)).length = ll) := ⟨H5.out.1.below hb6, hr2, H5.out.2.1.trans (hb6.mono H5.out.2.1.size), hll⟩
      have hl46 : w4.heap.size ≤ w6.heap.size := H6.out.2.2.1.size
      have hFL : Hid (hl + ll = F.length) := by
        show _ = _
        rw [← HF.out.1]; unfold frontB; rw [List.length_append, ← H5.out.2.2, ← H6.out.2.2.2]
      clear hr2 hb6 hll
      go_upto_region 10 with (at_builtin; refine wpList_ap rfl (.tmp 36) (.tmp 38) 22 22 rfl .u8 5 1 Tryz.und8 Tryz.info8 (by decide) w4.heap.size _ (headB cl co (t : Int).toNat (kOf (t : Int).toNat)) rfl H6.out.1 _ (lenB nn (cOf nn)) rfl (src_sl Tryz.und8 H6.out.2.1.sl) (by have := hFL.out; have := H5.out.2.2; have := H6.out.2.2.2; omega) hl46 ?_; intro v7 w7 hr7 hg7; obtain ⟨fa, fc, rfl⟩ := hr7.ne; rw [List.length_append, H5.out.2.2, H6.out.2.2.2, hFL.out] at hr7 ⊢)
      have hb7 : Below w4.heap.size w4 w7 := H6.out.2.2.1.trans (hg7.below H6.out.1 hl46)
      obtain ⟨fl, hfl⟩ : ∃ fl, F.length = fl := ⟨_, rfl⟩
      have hF7 : headB cl co (t : Int).toNat (kOf (t : Int).toNat) ++ lenB nn (cOf nn) = F := by rw [← HF.out.1]; rfl
      rw [hF7, hfl] at hr7
      rw [hfl]
      rw [hfl] at hFl
      have HM : Hid (MI w w7 (zNs (i + 1) ++ ndCells Z) (szL N) (ctL N) Z ∧ Blk 59 w7 bx [.int .i64 (d : Int), .int .i64 cl, .int .i64 (t : Int), .bool co, .slice xd m xk] ∧ Row .u8 5 (w.heap.size + 3) w7 (.slice fa fl fc) F) := ⟨H4.out.1.below hb7, below_blk hb7 hl4 H4.out.2.1, hr7.mono (by omega)⟩
      have HFL : Hid (F.length = fl) := hfl
      have hfl12 : fl ≤ 12 := hFl.1
      have HBW : Hid (Below bx wr w7) := H4.out.2.2.trans (hb7.mono (by omega))
      clear hr7 hg7 hb7 hfl hF7 hFl H5 H6 hFL hl45 hl46
      obtain ⟨z, hz⟩ : ∃ z : Nv, z = ⟨(⟨d, cl, t, co, dd⟩, F), .slice xd m xk, .slice fa fl fc, fl + nn, 1 + c1⟩ := ⟨_, rfl⟩
      have HZ : Hid (z = ⟨(⟨d, cl, t, co, dd⟩, F), .slice xd m xk, .slice fa fl fc, fl + nn, 1 + c1⟩) := hz
      have HCZ : Hid (cellN z = [.int .i64 (d : Int), .int .i64 cl, .int .i64 (t : Int), .bool co, .slice xd m xk, .slice fa fl fc, .int .i64 ((fl : Int) + (nn : Int)), .int .i64 (1 + (c1 : Int))]) := by
        show _ = _
        rw [hz]; simp [cellN]
      clear hz
      have hw1 : IntKind.i64.wrap ((fl : Int) + (nn : Int)) = (fl : Int) + (nn : Int) := wrapI _ (by omega) (by omega)
      have hw2 : IntKind.i64.wrap (1 + (c1 : Int)) = 1 + (c1 : Int) := wrapI _ (by omega) (by omega)
      have hwS : IntKind.i64.wrap ((s0 : Int) + ((fl : Int) + (nn : Int))) = (s0 : Int) + ((fl : Int) + (nn : Int)) := wrapI _ (by omega) (by omega)
      have hwC : IntKind.i64.wrap ((c0 : Int) + (1 + (c1 : Int))) = (c0 : Int) + (1 + (c1 : Int)) := wrapI _ (by omega) (by omega)
      have HST : Hid (∀ W, MI w W (zNs (i + 1) ++ ndCells Z) (szL N) (ctL N) Z ∧ Blk 59 W bx [.int .i64 (d : Int), .int .i64 cl, .int .i64 (t : Int), .bool co, .slice xd m xk] ∧ Row .u8 5 (w.heap.size + 3) W (.slice fa fl fc) F → MI w (W.setCells w.heap.size (i * 8) [.int .i64 (d : Int), .int .i64 cl, .int .i64 (t : Int), .bool co, .slice xd m xk, .slice fa fl fc, .int .i64 ((fl : Int) + (nn : Int)), .int .i64 (1 + (c1 : Int))]) (zNs i ++ (ndCells [z] ++ ndCells Z)) (szL N) (ctL N) Z ∧ Blk 59 (W.setCells w.heap.size (i * 8) [.int .i64 (d : Int), .int .i64 cl, .int .i64 (t : Int), .bool co, .slice xd m xk, .slice fa fl fc, .int .i64 ((fl : Int) + (nn : Int)), .int .i64 (1 + (c1 : Int))]) bx [.int .i64 (d : Int), .int .i64 cl, .int .i64 (t : Int), .bool co, .slice xd m xk] ∧ Row .u8 5 (w.heap.size + 3) (W.setCells w.heap.size (i * 8) [.int .i64 (d : Int), .int .i64 cl, .int .i64 (t : Int), .bool co, .slice xd m xk, .slice fa fl fc, .int .i64 ((fl : Int) + (nn : Int)), .int .i64 (1 + (c1 : Int))]) (.slice fa fl fc) F) := fun W h => by
        rw [← HCZ.out]
        have hu : Upd W (W.setCells w.heap.size (i * 8) (cellN z)) w.heap.size := Upd.setCells _ _ _
        refine ⟨h.1.setN hu ?_, hu.blk h.2.1 (by omega), h.2.2.upd hu (by omega)⟩
        have := h.1.1.setCells (i * 8) (cellN z) (by rw [List.length_append, zNs_len, show (cellN z).length = 8 from rfl]; omega)
        rw [over_node] at this
        rw [show ndCells [z] = cellN z by simp [ndCells]]
        exact this
      have HC1 : Hid (((ctL N).map (Value.int .i64))[e]? = some (.int .i64 (c1 : Int))) := HQ.out.2.1
      refine wp_region_cl (β := Unit) (fun _ k => ([.slice (some ⟨w.heap.size, 0, none⟩) n n, .int .i64 (i : Int), .agg #[.int .i64 (d : Int), .int .i64 cl, .int .i64 (t : Int), .bool co, .slice xd m xk], .slice fa fl fc, .slice fa fl fc, .int .i64 (fl : Int), .int .i64 (nn : Int), .int .i64 ((fl : Int) + (nn : Int)), .int .i64 (e : Int), .pointer (some ⟨w.heap.size + 2, e, none⟩), .int .i64 (c1 : Int), .int .i64 (1 + (c1 : Int)), .agg #[.int .i64 (d : Int), .int .i64 cl, .int .i64 (t : Int), .bool co, .slice xd m xk, .slice fa fl fc, .int .i64 ((fl : Int) + (nn : Int)), .int .i64 (1 + (c1 : Int))], .pointer (some ⟨w.heap.size, i * 8, none⟩), undef] : List Value).getD k undef) (fun _ L W => StS 14 (fun W => MI w W (zNs i ++ (ndCells [z] ++ ndCells Z)) (szL N) (ctL N) Z ∧ Blk 59 W bx [.int .i64 (d : Int), .int .i64 cl, .int .i64 (t : Int), .bool co, .slice xd m xk] ∧ Row .u8 5 (w.heap.size + 3) W (.slice fa fl fc) F) (fun W => MI w W (zNs (i + 1) ++ ndCells Z) (szL N) (ctL N) Z ∧ Blk 59 W bx [.int .i64 (d : Int), .int .i64 cl, .int .i64 (t : Int), .bool co, .slice xd m xk] ∧ Row .u8 5 (w.heap.size + 3) W (.slice fa fl fc) F) (fun _ => True) L W) () rfl (by decide +kernel) (show dstB _ 81 = true by decide +kernel) (StS.start ⟨(HM.out.1).below (upd_drewB _), (HM.out.2.1).drewN 1, (HM.out.2.2).drew⟩ trivial) (fun _ L W hup hS => ?_) (fun i _ L W a hi hno hsz hdep hv h0 hcl hS => ?_)
      rotate_left
      · replace hi : i < 15 := hi
        obtain rfl | rfl | rfl | rfl | rfl | rfl | rfl | rfl | rfl | rfl | rfl | rfl | rfl | rfl | rfl : i = 0 ∨ i = 1 ∨ i = 2 ∨ i = 3 ∨ i = 4 ∨ i = 5 ∨ i = 6 ∨ i = 7 ∨ i = 8 ∨ i = 9 ∨ i = 10 ∨ i = 11 ∨ i = 12 ∨ i = 13 ∨ i = 14 := by omega
        · have x3 : a.eval (.tmp 3) = .slice (some ⟨w.heap.size, 0, none⟩) n n := (h0 3 (by decide +kernel)).trans rfl
          exact rg_val rfl (wn_any rfl) (run_mv rfl x3) (hS.other (by decide))
        · have x6 : a.eval (.tmp 6) = .int .i64 (i : Int) := (h0 6 (by decide +kernel)).trans rfl
          exact rg_val rfl (wn_any rfl) (run_mv rfl x6) (hS.other (by decide))
        · have x7 : a.eval (.tmp 7) = .pointer (some ⟨bx, 0, none⟩) := (h0 7 (by decide +kernel)).trans rfl
          exact rg_load rfl (wn_any rfl) rfl x7 (hS.both (fun h => h.2.1.whole) (fun h => h.2.1.whole)) Tryz.underlying59 rfl Tryz.sizeE rfl (hS.other (by decide))
        · have x10 : a.eval (.tmp 10) = .slice fa fl fc := (h0 10 (by decide +kernel)).trans rfl
          exact rg_val rfl (wn_any rfl) (run_mv rfl x10) (hS.other (by decide))
        · have x10 : a.eval (.tmp 10) = .slice fa fl fc := (h0 10 (by decide +kernel)).trans rfl
          exact rg_val rfl (wn_any rfl) (run_mv rfl x10) (hS.other (by decide))
        · have e44 : a.eval (.tmp 44) = .slice fa fl fc := hv 4 _ (show 4 < 15 by decide) (hdep 4 (by decide +kernel)) rfl
          exact rg_val rfl (wn_any rfl) (run_ln rfl Tryz.und8 e44) (hS.other (by decide))
        · have x9 : a.eval (.tmp 9) = .int .i64 (nn : Int) := (h0 9 (by decide +kernel)).trans rfl
          exact rg_val rfl (wn_any rfl) (run_mv rfl x9) (hS.other (by decide))
        · have e45 : a.eval (.tmp 45) = .int .i64 (fl : Int) := hv 5 _ (show 5 < 15 by decide) (hdep 5 (by decide +kernel)) rfl
          have e46 : a.eval (.tmp 46) = .int .i64 (nn : Int) := hv 6 _ (show 6 < 15 by decide) (hdep 6 (by decide +kernel)) rfl
          exact rg_val rfl (wn_any rfl) (run_bin (v := .int .i64 ((fl : Int) + (nn : Int))) rfl e45 e46 (by simp [go_sem, hw1])) (hS.other (by decide))
        · have x8 : a.eval (.tmp 8) = .int .i64 (e : Int) := (h0 8 (by decide +kernel)).trans rfl
          exact rg_val rfl (wn_any rfl) (run_mv rfl x8) (hS.other (by decide))
        · have x5 : a.eval (.tmp 5) = .pointer (some ⟨w.heap.size + 2, 0, none⟩) := (h0 5 (by decide +kernel)).trans rfl
          have e48 : a.eval (.tmp 48) = .int .i64 (e : Int) := hv 8 _ (show 8 < 15 by decide) (hdep 8 (by decide +kernel)) rfl
          exact rg_val rfl (wn_any rfl) (run_ia (v := .pointer (some ⟨w.heap.size + 2, e, none⟩)) rfl x5 e48 (by simp [go_sem, Instr.indexAt, he65])) (hS.other (by decide))
        · have cc : W.cell? ⟨w.heap.size + 2, e, none⟩ = some (.int .i64 (c1 : Int)) := hS.both (fun h => (h.1.2.2.1.cell e).trans HC1.out) (fun h => (h.1.2.2.1.cell e).trans HC1.out)
          have e49 : a.eval (.tmp 49) = .pointer (some ⟨w.heap.size + 2, e, none⟩) := hv 9 _ (show 9 < 15 by decide) (hdep 9 (by decide +kernel)) rfl
          exact rg_val rfl (wn_any rfl) (run_ld (v := .int .i64 (c1 : Int)) rfl e49 (by simp [go_sem, Instr.loadAt, cc])) (hS.other (by decide))
        · have e50 : a.eval (.tmp 50) = .int .i64 (c1 : Int) := hv 10 _ (show 10 < 15 by decide) (hdep 10 (by decide +kernel)) rfl
          exact rg_val rfl (wn_any rfl) (run_bin (v := .int .i64 (1 + (c1 : Int))) rfl rfl e50 (by simp [go_sem, hw2])) (hS.other (by decide))
        · have e42 : a.eval (.tmp 42) = .agg #[.int .i64 (d : Int), .int .i64 cl, .int .i64 (t : Int), .bool co, .slice xd m xk] := hv 2 _ (show 2 < 15 by decide) (hdep 2 (by decide +kernel)) rfl
          have e43 : a.eval (.tmp 43) = .slice fa fl fc := hv 3 _ (show 3 < 15 by decide) (hdep 3 (by decide +kernel)) rfl
          have e47 : a.eval (.tmp 47) = .int .i64 ((fl : Int) + (nn : Int)) := hv 7 _ (show 7 < 15 by decide) (hdep 7 (by decide +kernel)) rfl
          have e51 : a.eval (.tmp 51) = .int .i64 (1 + (c1 : Int)) := hv 11 _ (show 11 < 15 by decide) (hdep 11 (by decide +kernel)) rfl
          exact rg_val rfl (wn_any rfl) (run_bl (v := .agg #[.int .i64 (d : Int), .int .i64 cl, .int .i64 (t : Int), .bool co, .slice xd m xk, .slice fa fl fc, .int .i64 ((fl : Int) + (nn : Int)), .int .i64 (1 + (c1 : Int))]) rfl (by simp only [List.map_toArray, List.map_cons, List.map_nil, e42, e43, e47, e51]; exact (Tryz.buildN _ _ _ _ _ _ _ _ _ _ _ _ _))) (hS.other (by decide))
        · have e40 : a.eval (.tmp 40) = .slice (some ⟨w.heap.size, 0, none⟩) n n := hv 0 _ (show 0 < 15 by decide) (hdep 0 (by decide +kernel)) rfl
          have e41 : a.eval (.tmp 41) = .int .i64 (i : Int) := hv 1 _ (show 1 < 15 by decide) (hdep 1 (by decide +kernel)) rfl
          exact rg_val rfl (wn_any rfl) (run_ia (v := .pointer (some ⟨w.heap.size, i * 8, none⟩)) rfl e40 e41 (by simp [go_sem, Instr.indexAt, hin])) (hS.other (by decide))
        · have e53 : a.eval (.tmp 53) = .pointer (some ⟨w.heap.size, i * 8, none⟩) := hv 13 _ (show 13 < 15 by decide) (hdep 13 (by decide +kernel)) rfl
          have e52 : a.eval (.tmp 52) = .agg #[.int .i64 (d : Int), .int .i64 cl, .int .i64 (t : Int), .bool co, .slice xd m xk, .slice fa fl fc, .int .i64 ((fl : Int) + (nn : Int)), .int .i64 (1 + (c1 : Int))] := hv 12 _ (show 12 < 15 by decide) (hdep 12 (by decide +kernel)) rfl
          exact rg_store (cells := #[.int .i64 (d : Int), .int .i64 cl, .int .i64 (t : Int), .bool co, .slice xd m xk, .slice fa fl fc, .int .i64 ((fl : Int) + (nn : Int)), .int .i64 (1 + (c1 : Int))]) rfl (wn_any rfl) rfl rfl e53 e52 ((hS.2.1 hno).1.1.there (i * 8) 8 (by rw [List.length_append, zNs_len]; omega)) Tryz.sizeN (oneN _ _ _ _ _ _ _ _ _ _ _ _) (StS.put (hsz 14 (by decide)) (HST.out _ (hS.2.1 hno)) trivial)
      rw [frG15_7ffe rfl rfl rfl rfl rfl rfl rfl rfl rfl rfl rfl rfl rfl rfl rfl rfl]
      simp only [List.setIfInBounds_toArray, List.set_cons_succ, List.set_cons_zero, List.getD_cons_zero, List.getD_cons_succ]
      have HA := hS.1 (hup 14 (by decide))
      have HA2 : Hid (MI w W (zNs i ++ (ndCells [z] ++ ndCells Z)) (szL N) (ctL N) Z ∧ Blk 59 W bx [.int .i64 (d : Int), .int .i64 cl, .int .i64 (t : Int), .bool co, .slice xd m xk] ∧ Row .u8 5 (w.heap.size + 3) W (.slice fa fl fc) F) := HA
      clear hS hup HST HC1
      have g1 : W.cell? ⟨w.heap.size + 1, e, none⟩ = some (.int .i64 (s1 : Int)) := (HA.1.2.1.cell e).trans HQ.out.1
      have g2 : W.cell? ⟨w.heap.size + 1 + 1, e, none⟩ = some (.int .i64 (c1 : Int)) := (HA.1.2.2.1.cell e).trans HQ.out.2.1
      have f1 : W.frozen? ⟨w.heap.size + 1, e, none⟩ = false := HA.1.2.1.frozen e
      have f2 : W.frozen? ⟨w.heap.size + 1 + 1, e, none⟩ = false := HA.1.2.2.1.frozen e
      clear HA
      go_upto_region 12 with (fail)
      refine wp_gen (fun W' => MI w W' (zNs i ++ (ndCells [z] ++ ndCells Z)) ((szL N).set (d + 1) 0) ((ctL N).set (d + 1) 0) Z ∧ Blk 59 W' bx [.int .i64 (d : Int), .int .i64 cl, .int .i64 (t : Int), .bool co, .slice xd m xk] ∧ Row .u8 5 (w.heap.size + 3) W' (.slice fa fl fc) F) ?_ ?_
      · rw [HF.out.2.2.2.2.2.2.2.2.2.2.1]
        exact ⟨(HA2.out.1.setS e 0).setC e 0, (Upd.set _ _ _ _).blk ((Upd.set _ _ _ _).blk HA2.out.2.1 (by omega)) (by omega), (HA2.out.2.2.upd (Upd.set _ _ _ _) (by omega)).upd (Upd.set _ _ _ _) (by omega)⟩
      rintro w8 ⟨h81, h82, h83⟩
      have HS : Hid (MI w w8 (zNs i ++ (ndCells [z] ++ ndCells Z)) ((szL N).set (d + 1) 0) ((ctL N).set (d + 1) 0) Z ∧ Blk 59 w8 bx [.int .i64 (d : Int), .int .i64 cl, .int .i64 (t : Int), .bool co, .slice xd m xk] ∧ Row .u8 5 (w.heap.size + 3) w8 (.slice fa fl fc) F) := ⟨h81, h82, h83⟩
      clear h81 h82 h83 g1 g2 f1 f2 HA2
      have HOS : Hid ((((szL N).set (d + 1) 0).map (Value.int .i64))[d]? = some (.int .i64 (s0 : Int))) := by
        show _ = _
        rw [List.map_set, List.getElem?_set_ne (by omega)]; exact HQ.out.2.2.1
      have HOC : Hid ((((ctL N).set (d + 1) 0).map (Value.int .i64))[d]? = some (.int .i64 (c0 : Int))) := by
        show _ = _
        rw [List.map_set, List.getElem?_set_ne (by omega)]; exact HQ.out.2.2.2
      have nodeAt : ∀ k, k < 8 → (zNs i ++ (ndCells [z] ++ ndCells Z))[i * 8 + k]? = (cellN z)[k]? := fun k hk => by
        rw [List.getElem?_append_right (by rw [zNs_len]; omega), zNs_len, show i * 8 + k - i * 8 = k by omega, show ndCells [z] = cellN z by simp [ndCells], List.getElem?_append_left (by rw [show (cellN z).length = 8 from rfl]; omega)]
      have HZS : Hid ((zNs i ++ (ndCells [z] ++ ndCells Z))[i * 8 + 6]? = some (.int .i64 ((fl : Int) + (nn : Int)))) := by
        show _ = _
        rw [nodeAt 6 (by omega), HCZ.out]; rfl
      have HZC : Hid ((zNs i ++ (ndCells [z] ++ ndCells Z))[i * 8 + 7]? = some (.int .i64 (1 + (c1 : Int)))) := by
        show _ = _
        rw [nodeAt 7 (by omega), HCZ.out]; rfl
      clear nodeAt
      refine wp_region_cl (β := Unit) (fun _ k => ([.pointer (some ⟨bx, 0, none⟩), .int .i64 (d : Int), .pointer (some ⟨w.heap.size + 1, d, none⟩), .int .i64 (s0 : Int), .slice (some ⟨w.heap.size, 0, none⟩) n n, .int .i64 (i : Int), .pointer (some ⟨w.heap.size, i * 8, none⟩), .pointer (some ⟨w.heap.size, i * 8 + 6, none⟩), .int .i64 ((fl : Int) + (nn : Int)), .int .i64 ((s0 : Int) + ((fl : Int) + (nn : Int))), .pointer (some ⟨w.heap.size + 1, d, none⟩), undef] : List Value).getD k undef) (fun _ L W => StS 11 (fun W => MI w W (zNs i ++ (ndCells [z] ++ ndCells Z)) (((szL N).set (d + 1) 0).set d ((s0 : Int) + ((fl : Int) + (nn : Int)))) ((ctL N).set (d + 1) 0) Z ∧ Blk 59 W bx [.int .i64 (d : Int), .int .i64 cl, .int .i64 (t : Int), .bool co, .slice xd m xk] ∧ Row .u8 5 (w.heap.size + 3) W (.slice fa fl fc) F) (fun W => MI w W (zNs i ++ (ndCells [z] ++ ndCells Z)) ((szL N).set (d + 1) 0) ((ctL N).set (d + 1) 0) Z ∧ Blk 59 W bx [.int .i64 (d : Int), .int .i64 cl, .int .i64 (t : Int), .bool co, .slice xd m xk] ∧ Row .u8 5 (w.heap.size + 3) W (.slice fa fl fc) F) (fun _ => True) L W) () rfl (by decide +kernel) (show dstB _ 81 = true by decide +kernel) (StS.start ⟨(HS.out.1).below (upd_drewB _), (HS.out.2.1).drewN 1, (HS.out.2.2).drewB⟩ trivial) (fun _ L W hup hS => ?_) (fun i _ L W a hi hno hsz hdep hv h0 hcl hS => ?_)
      rotate_left
      · replace hi : i < 12 := hi
        obtain rfl | rfl | rfl | rfl | rfl | rfl | rfl | rfl | rfl | rfl | rfl | rfl : i = 0 ∨ i = 1 ∨ i = 2 ∨ i = 3 ∨ i = 4 ∨ i = 5 ∨ i = 6 ∨ i = 7 ∨ i = 8 ∨ i = 9 ∨ i = 10 ∨ i = 11 := by omega
        · have x7 : a.eval (.tmp 7) = .pointer (some ⟨bx, 0, none⟩) := (h0 7 (by decide +kernel)).trans rfl
          exact rg_val rfl (wn_any rfl) (run_fa (v := .pointer (some ⟨bx, 0, none⟩)) rfl x7 (by simp [go_sem, Instr.fieldAt])) (hS.other (by decide))
        · have cd : W.cell? ⟨bx, 0, none⟩ = some (.int .i64 (d : Int)) := hS.both (fun h => h.2.1.cell 0) (fun h => h.2.1.cell 0)
          have e58 : a.eval (.tmp 58) = .pointer (some ⟨bx, 0, none⟩) := hv 0 _ (show 0 < 12 by decide) (hdep 0 (by decide +kernel)) rfl
          exact rg_val rfl (wn_any rfl) (run_ld (v := .int .i64 (d : Int)) rfl e58 (by simp [go_sem, Instr.loadAt, cd])) (hS.other (by decide))
        · have x4 : a.eval (.tmp 4) = .pointer (some ⟨w.heap.size + 1, 0, none⟩) := (h0 4 (by decide +kernel)).trans rfl
          have e59 : a.eval (.tmp 59) = .int .i64 (d : Int) := hv 1 _ (show 1 < 12 by decide) (hdep 1 (by decide +kernel)) rfl
          exact rg_val rfl (wn_any rfl) (run_ia (v := .pointer (some ⟨w.heap.size + 1, d, none⟩)) rfl x4 e59 (by simp [go_sem, Instr.indexAt, hd65])) (hS.other (by decide))
        · have h11 : ¬ Up L 11 := fun u => hno (hcl 9 (hcl 11 u 9 (by decide +kernel)) 3 (by decide +kernel))
          have cs0 : W.cell? ⟨w.heap.size + 1, d, none⟩ = some (.int .i64 (s0 : Int)) := ((hS.2.1 h11).1.2.1.cell d).trans HOS.out
          have e60 : a.eval (.tmp 60) = .pointer (some ⟨w.heap.size + 1, d, none⟩) := hv 2 _ (show 2 < 12 by decide) (hdep 2 (by decide +kernel)) rfl
          exact rg_val rfl (wn_any rfl) (run_ld (v := .int .i64 (s0 : Int)) rfl e60 (by simp [go_sem, Instr.loadAt, cs0])) (hS.other (by decide))
        · have x3 : a.eval (.tmp 3) = .slice (some ⟨w.heap.size, 0, none⟩) n n := (h0 3 (by decide +kernel)).trans rfl
          exact rg_val rfl (wn_any rfl) (run_mv rfl x3) (hS.other (by decide))
        · have x6 : a.eval (.tmp 6) = .int .i64 (i : Int) := (h0 6 (by decide +kernel)).trans rfl
          exact rg_val rfl (wn_any rfl) (run_mv rfl x6) (hS.other (by decide))
        · have e62 : a.eval (.tmp 62) = .slice (some ⟨w.heap.size, 0, none⟩) n n := hv 4 _ (show 4 < 12 by decide) (hdep 4 (by decide +kernel)) rfl
          have e63 : a.eval (.tmp 63) = .int .i64 (i : Int) := hv 5 _ (show 5 < 12 by decide) (hdep 5 (by decide +kernel)) rfl
          exact rg_val rfl (wn_any rfl) (run_ia (v := .pointer (some ⟨w.heap.size, i * 8, none⟩)) rfl e62 e63 (by simp [go_sem, Instr.indexAt, hin])) (hS.other (by decide))
        · have e64 : a.eval (.tmp 64) = .pointer (some ⟨w.heap.size, i * 8, none⟩) := hv 6 _ (show 6 < 12 by decide) (hdep 6 (by decide +kernel)) rfl
          exact rg_val rfl (wn_any rfl) (run_fa (v := .pointer (some ⟨w.heap.size, i * 8 + 6, none⟩)) rfl e64 (by simp [go_sem, Instr.fieldAt])) (hS.other (by decide))
        · have csz : W.cell? ⟨w.heap.size, i * 8 + 6, none⟩ = some (.int .i64 ((fl : Int) + (nn : Int))) := hS.both (fun h => (h.1.1.cell (i * 8 + 6)).trans HZS.out) (fun h => (h.1.1.cell (i * 8 + 6)).trans HZS.out)
          have e65 : a.eval (.tmp 65) = .pointer (some ⟨w.heap.size, i * 8 + 6, none⟩) := hv 7 _ (show 7 < 12 by decide) (hdep 7 (by decide +kernel)) rfl
          exact rg_val rfl (wn_any rfl) (run_ld (v := .int .i64 ((fl : Int) + (nn : Int))) rfl e65 (by simp [go_sem, Instr.loadAt, csz])) (hS.other (by decide))
        · have e61 : a.eval (.tmp 61) = .int .i64 (s0 : Int) := hv 3 _ (show 3 < 12 by decide) (hdep 3 (by decide +kernel)) rfl
          have e66 : a.eval (.tmp 66) = .int .i64 ((fl : Int) + (nn : Int)) := hv 8 _ (show 8 < 12 by decide) (hdep 8 (by decide +kernel)) rfl
          exact rg_val rfl (wn_any rfl) (run_bin (v := .int .i64 ((s0 : Int) + ((fl : Int) + (nn : Int)))) rfl e61 e66 (by simp [go_sem, hwS])) (hS.other (by decide))
        · have x4 : a.eval (.tmp 4) = .pointer (some ⟨w.heap.size + 1, 0, none⟩) := (h0 4 (by decide +kernel)).trans rfl
          have e59 : a.eval (.tmp 59) = .int .i64 (d : Int) := hv 1 _ (show 1 < 12 by decide) (hdep 1 (by decide +kernel)) rfl
          exact rg_val rfl (wn_any rfl) (run_ia (v := .pointer (some ⟨w.heap.size + 1, d, none⟩)) rfl x4 e59 (by simp [go_sem, Instr.indexAt, hd65])) (hS.other (by decide))
        · have e68 : a.eval (.tmp 68) = .pointer (some ⟨w.heap.size + 1, d, none⟩) := hv 10 _ (show 10 < 12 by decide) (hdep 10 (by decide +kernel)) rfl
          have e67 : a.eval (.tmp 67) = .int .i64 ((s0 : Int) + ((fl : Int) + (nn : Int))) := hv 9 _ (show 9 < 12 by decide) (hdep 9 (by decide +kernel)) rfl
          exact rg_st1 rfl (wn_any rfl) rfl (run_s1 rfl e68 e67 (st_cell (hS.2.1 hno).1.2.1 d (by simp [szL_len]; omega))) (StS.put (hsz 11 (by decide)) ⟨(hS.2.1 hno).1.setS d _, (Upd.set _ _ _ _).blk (hS.2.1 hno).2.1 (by omega), (hS.2.1 hno).2.2.upd (Upd.set _ _ _ _) (by omega)⟩ trivial)
      rw [frG12_ffe rfl rfl rfl rfl rfl rfl rfl rfl rfl rfl rfl rfl rfl]
      simp only [List.setIfInBounds_toArray, List.set_cons_succ, List.set_cons_zero, List.getD_cons_zero, List.getD_cons_succ]
      have HS3 := hS.1 (hup 11 (by decide))
      obtain ⟨S2, hS2⟩ : ∃ S2, ((szL N).set (d + 1) 0).set d ((s0 : Int) + ((fl : Int) + (nn : Int))) = S2 := ⟨_, rfl⟩
      rw [hS2] at HS3
      have HS2 : Hid (((szL N).set (d + 1) 0).set d ((s0 : Int) + ((fl : Int) + (nn : Int))) = S2) := hS2
      have HC : Hid (MI w W (zNs i ++ (ndCells [z] ++ ndCells Z)) S2 ((ctL N).set (d + 1) 0) Z ∧ Blk 59 W bx [.int .i64 (d : Int), .int .i64 cl, .int .i64 (t : Int), .bool co, .slice xd m xk] ∧ Row .u8 5 (w.heap.size + 3) W (.slice fa fl fc) F) := HS3
      clear hS hup HS3 hS2 HS
      go_upto_region 13 with (fail)
      refine wp_region_cl (β := Unit) (fun _ k => ([.pointer (some ⟨bx, 0, none⟩), .int .i64 (d : Int), .pointer (some ⟨w.heap.size + 2, d, none⟩), .int .i64 (c0 : Int), .slice (some ⟨w.heap.size, 0, none⟩) n n, .int .i64 (i : Int), .pointer (some ⟨w.heap.size, i * 8, none⟩), .pointer (some ⟨w.heap.size, i * 8 + 7, none⟩), .int .i64 (1 + (c1 : Int)), .int .i64 ((c0 : Int) + (1 + (c1 : Int))), .pointer (some ⟨w.heap.size + 2, d, none⟩), undef] : List Value).getD k undef) (fun _ L W => StS 11 (fun W => MI w W (zNs i ++ (ndCells [z] ++ ndCells Z)) S2 (((ctL N).set (d + 1) 0).set d ((c0 : Int) + (1 + (c1 : Int)))) Z ∧ Blk 59 W bx [.int .i64 (d : Int), .int .i64 cl, .int .i64 (t : Int), .bool co, .slice xd m xk] ∧ Row .u8 5 (w.heap.size + 3) W (.slice fa fl fc) F) (fun W => MI w W (zNs i ++ (ndCells [z] ++ ndCells Z)) S2 ((ctL N).set (d + 1) 0) Z ∧ Blk 59 W bx [.int .i64 (d : Int), .int .i64 cl, .int .i64 (t : Int), .bool co, .slice xd m xk] ∧ Row .u8 5 (w.heap.size + 3) W (.slice fa fl fc) F) (fun _ => True) L W) () rfl (by decide +kernel) (show dstB _ 81 = true by decide +kernel) (StS.start ⟨(HC.out.1).below (upd_drewB _), (HC.out.2.1).drewN 1, (HC.out.2.2).drewB⟩ trivial) (fun _ L W hup hS => ?_) (fun i _ L W a hi hno hsz hdep hv h0 hcl hS => ?_)
      rotate_left
      · replace hi : i < 12 := hi
        obtain rfl | rfl | rfl | rfl | rfl | rfl | rfl | rfl | rfl | rfl | rfl | rfl : i = 0 ∨ i = 1 ∨ i = 2 ∨ i = 3 ∨ i = 4 ∨ i = 5 ∨ i = 6 ∨ i = 7 ∨ i = 8 ∨ i = 9 ∨ i = 10 ∨ i = 11 := by omega
        · have x7 : a.eval (.tmp 7) = .pointer (some ⟨bx, 0, none⟩) := (h0 7 (by decide +kernel)).trans rfl
          exact rg_val rfl (wn_any rfl) (run_fa (v := .pointer (some ⟨bx, 0, none⟩)) rfl x7 (by simp [go_sem, Instr.fieldAt])) (hS.other (by decide))
        · have cd : W.cell? ⟨bx, 0, none⟩ = some (.int .i64 (d : Int)) := hS.both (fun h => h.2.1.cell 0) (fun h => h.2.1.cell 0)
          have e69 : a.eval (.tmp 69) = .pointer (some ⟨bx, 0, none⟩) := hv 0 _ (show 0 < 12 by decide) (hdep 0 (by decide +kernel)) rfl
          exact rg_val rfl (wn_any rfl) (run_ld (v := .int .i64 (d : Int)) rfl e69 (by simp [go_sem, Instr.loadAt, cd])) (hS.other (by decide))
        · have x5 : a.eval (.tmp 5) = .pointer (some ⟨w.heap.size + 2, 0, none⟩) := (h0 5 (by decide +kernel)).trans rfl
          have e70 : a.eval (.tmp 70) = .int .i64 (d : Int) := hv 1 _ (show 1 < 12 by decide) (hdep 1 (by decide +kernel)) rfl
          exact rg_val rfl (wn_any rfl) (run_ia (v := .pointer (some ⟨w.heap.size + 2, d, none⟩)) rfl x5 e70 (by simp [go_sem, Instr.indexAt, hd65])) (hS.other (by decide))
        · have h11 : ¬ Up L 11 := fun u => hno (hcl 9 (hcl 11 u 9 (by decide +kernel)) 3 (by decide +kernel))
          have cs0 : W.cell? ⟨w.heap.size + 2, d, none⟩ = some (.int .i64 (c0 : Int)) := ((hS.2.1 h11).1.2.2.1.cell d).trans HOC.out
          have e71 : a.eval (.tmp 71) = .pointer (some ⟨w.heap.size + 2, d, none⟩) := hv 2 _ (show 2 < 12 by decide) (hdep 2 (by decide +kernel)) rfl
          exact rg_val rfl (wn_any rfl) (run_ld (v := .int .i64 (c0 : Int)) rfl e71 (by simp [go_sem, Instr.loadAt, cs0])) (hS.other (by decide))
        · have x3 : a.eval (.tmp 3) = .slice (some ⟨w.heap.size, 0, none⟩) n n := (h0 3 (by decide +kernel)).trans rfl
          exact rg_val rfl (wn_any rfl) (run_mv rfl x3) (hS.other (by decide))
        · have x6 : a.eval (.tmp 6) = .int .i64 (i : Int) := (h0 6 (by decide +kernel)).trans rfl
          exact rg_val rfl (wn_any rfl) (run_mv rfl x6) (hS.other (by decide))
        · have e73 : a.eval (.tmp 73) = .slice (some ⟨w.heap.size, 0, none⟩) n n := hv 4 _ (show 4 < 12 by decide) (hdep 4 (by decide +kernel)) rfl
          have e74 : a.eval (.tmp 74) = .int .i64 (i : Int) := hv 5 _ (show 5 < 12 by decide) (hdep 5 (by decide +kernel)) rfl
          exact rg_val rfl (wn_any rfl) (run_ia (v := .pointer (some ⟨w.heap.size, i * 8, none⟩)) rfl e73 e74 (by simp [go_sem, Instr.indexAt, hin])) (hS.other (by decide))
        · have e75 : a.eval (.tmp 75) = .pointer (some ⟨w.heap.size, i * 8, none⟩) := hv 6 _ (show 6 < 12 by decide) (hdep 6 (by decide +kernel)) rfl
          exact rg_val rfl (wn_any rfl) (run_fa (v := .pointer (some ⟨w.heap.size, i * 8 + 7, none⟩)) rfl e75 (by simp [go_sem, Instr.fieldAt])) (hS.other (by decide))
        · have csz : W.cell? ⟨w.heap.size, i * 8 + 7, none⟩ = some (.int .i64 (1 + (c1 : Int))) := hS.both (fun h => (h.1.1.cell (i * 8 + 7)).trans HZC.out) (fun h => (h.1.1.cell (i * 8 + 7)).trans HZC.out)
          have e76 : a.eval (.tmp 76) = .pointer (some ⟨w.heap.size, i * 8 + 7, none⟩) := hv 7 _ (show 7 < 12 by decide) (hdep 7 (by decide +kernel)) rfl
          exact rg_val rfl (wn_any rfl) (run_ld (v := .int .i64 (1 + (c1 : Int))) rfl e76 (by simp [go_sem, Instr.loadAt, csz])) (hS.other (by decide))
        · have e72 : a.eval (.tmp 72) = .int .i64 (c0 : Int) := hv 3 _ (show 3 < 12 by decide) (hdep 3 (by decide +kernel)) rfl
          have e77 : a.eval (.tmp 77) = .int .i64 (1 + (c1 : Int)) := hv 8 _ (show 8 < 12 by decide) (hdep 8 (by decide +kernel)) rfl
          exact rg_val rfl (wn_any rfl) (run_bin (v := .int .i64 ((c0 : Int) + (1 + (c1 : Int)))) rfl e72 e77 (by simp [go_sem, hwC])) (hS.other (by decide))
        · have x5 : a.eval (.tmp 5) = .pointer (some ⟨w.heap.size + 2, 0, none⟩) := (h0 5 (by decide +kernel)).trans rfl
          have e70 : a.eval (.tmp 70) = .int .i64 (d : Int) := hv 1 _ (show 1 < 12 by decide) (hdep 1 (by decide +kernel)) rfl
          exact rg_val rfl (wn_any rfl) (run_ia (v := .pointer (some ⟨w.heap.size + 2, d, none⟩)) rfl x5 e70 (by simp [go_sem, Instr.indexAt, hd65])) (hS.other (by decide))
        · have e79 : a.eval (.tmp 79) = .pointer (some ⟨w.heap.size + 2, d, none⟩) := hv 10 _ (show 10 < 12 by decide) (hdep 10 (by decide +kernel)) rfl
          have e78 : a.eval (.tmp 78) = .int .i64 ((c0 : Int) + (1 + (c1 : Int))) := hv 9 _ (show 9 < 12 by decide) (hdep 9 (by decide +kernel)) rfl
          exact rg_st1 rfl (wn_any rfl) rfl (run_s1 rfl e79 e78 (st_cell (hS.2.1 hno).1.2.2.1 d (by simp [ctL_len]; omega))) (StS.put (hsz 11 (by decide)) ⟨(hS.2.1 hno).1.setC d _, (Upd.set _ _ _ _).blk (hS.2.1 hno).2.1 (by omega), (hS.2.1 hno).2.2.upd (Upd.set _ _ _ _) (by omega)⟩ trivial)
      rw [frG12_ffe rfl rfl rfl rfl rfl rfl rfl rfl rfl rfl rfl rfl rfl]
      simp only [List.setIfInBounds_toArray, List.set_cons_succ, List.set_cons_zero, List.getD_cons_zero, List.getD_cons_succ]
      have HD : Hid (MI w W (zNs i ++ (ndCells [z] ++ ndCells Z)) S2 (((ctL N).set (d + 1) 0).set d ((c0 : Int) + (1 + (c1 : Int)))) Z ∧ Row .u8 5 (w.heap.size + 3) W (.slice fa fl fc) F) := ⟨(hS.1 (hup 11 (by decide))).1, (hS.1 (hup 11 (by decide))).2.2⟩
      clear hS hup HC
      go_wp2
      go_roundw
      case rel =>
        obtain ⟨o1, o2, o3, o4, o5, o6, o7, o8, o9, o10, o11, o12, o13, _⟩ := HF.out
        have hdr : Y.drop i = (⟨d, cl, t, co, dd⟩, sv) :: Y.drop (i + 1) := by
          have hi2 : i < Y.length := by
            rcases Nat.lt_or_ge i Y.length with h | h
            · exact h
            · rw [List.getElem?_eq_none h] at o2; cases o2
          rw [List.drop_eq_getElem_cons hi2]
          congr 1
          rw [List.getElem?_eq_getElem hi2] at o2
          exact Option.some.inj o2
        have hnd : nds ((Y.drop i).map (·.1)) = (⟨d, cl, t, co, dd⟩, F) :: N := by
          rw [hdr]
          show (_, frontB _ (dd.length + byt (inn (d : Int) (nds _)))) :: nds _ = _
          rw [o5, o7, ← o4, o12, o1]
        refine ⟨i, z :: Z, by go_num, by omega, ?_, ?_⟩
        · rw [hdr, HZ.out]
          refine ⟨o13, o3.symm, ?_, ?_, ?_⟩
          · show _ = (_, frontB _ (dd.length + byt (inn (d : Int) (nds _))))
            rw [o5, o7, ← o4, o12, o1]
          · show fl + nn = (F.length + dd.length) + byt (inn (d : Int) (nds _))
            rw [o5, o7, HFL.out, ← o4]; omega
          · show 1 + c1 = 1 + (inn (d : Int) (nds _)).length
            rw [o5, o9]
        · rw [hnd, szL_cons (d := d) rfl o6, ctL_cons (d := d) rfl o6]
          have e1 : ((byt (pick (d : Int) N) + (ndL (⟨d, cl, t, co, dd⟩, F) + byt (inn (d : Int) N)) : Nat) : Int) = (s0 : Int) + ((fl : Int) + (nn : Int)) := by
            have : ndL ((⟨d, cl, t, co, dd⟩, F) : Nd) = fl + m := by show F.length + dd.length = _; rw [HFL.out, ← o4]
            rw [o8, this, o7]; omega
          have e2 : (((pick (d : Int) N).length + (1 + (inn (d : Int) N).length) : Nat) : Int) = (c0 : Int) + (1 + (c1 : Int)) := by rw [o10, o9]; omega
          rw [e1, e2, HS2.out]
          obtain ⟨h1, h2, h3, h4, h5⟩ := HD.out.1
          refine ⟨by rw [show z :: Z = [z] ++ Z from rfl, ndCells_app]; exact h1, h2, h3, h4, fun z' hz' => ?_⟩
          rcases List.mem_cons.1 hz' with rfl | hz'
          · rw [HZ.out]; exact HD.out.2
          · exact h5 z' hz'
      case measure => simp [intOf]
end Go.Proofs.YtefebamomdcaaaaGreatDoor
