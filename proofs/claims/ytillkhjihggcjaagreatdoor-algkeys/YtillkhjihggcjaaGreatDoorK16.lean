/-
  Der: the reader: any element.
-/
import Derived.Test.YtillkhjihggcjaaGreatDoorK15
namespace Go.Proofs.YtillkhjihggcjaaGreatDoor
open Go.RowKit
theorem rd_slo {w : World} {b off c : Nat} {M : List Int} (hb : b < w.heap.size) (hr : Rd .u8 w b off M) (i j : Nat) (hij : i ≤ j) (hj : j ≤ M.length) (hc : j ≤ c) : Sl .u8 w (.slice (if c = i then some ⟨b, off, none⟩ else some ⟨b, off + i, none⟩) (j - i) (c - i)) ((M.drop i).take (j - i)) := by
  have hl : ((M.drop i).take (j - i)).length = j - i := by rw [List.length_take, List.length_drop]; omega
  refine ⟨_, _, by rw [hl], by omega, ?_⟩
  by_cases h : c = i
  · exact .inl (List.eq_nil_of_length_eq_zero (by omega))
  · rw [if_neg h]
    refine .inr ⟨b, off + i, rfl, hb, fun k hk => ?_⟩
    have := hr (i + k) (by omega)
    rw [← Nat.add_assoc] at this
    rw [this, List.getD_eq_getElem?_getD, List.getD_eq_getElem?_getD, List.getElem?_take, if_pos (by omega), List.getElem?_drop]
abbrev nilT : Value := .agg #[.int .i64 0, .int .i64 0, .bool false, .slice none 0 0, .slice none 0 0]
/-- What the reader tells of the element at p. -/
def ElemAns (M : List Int) (p B : Nat) (w : World) (e : Ending) (stands : Nat → Prop) : Prop :=
  match elemS M p with
  | .inl (er, a) => e = .returned (.tuple #[nilT, .int .i64 er]) ∧ stands a
  | .inr (t, j, E) => ∃ a1 c1 a2 c2, e = .returned (.tuple #[.agg #[.int .i64 (M.getD p 0 / 64), .int .i64 t, .bool (decide (M.getD p 0 / 32 % 2 = 1)), .slice a1 (E - j) c1, .slice a2 (E - p) c2], .int .i64 0]) ∧ stands E
      ∧ Row .u8 5 B w (.slice a1 (E - j) c1) ((M.drop j).take (E - j)) ∧ Row .u8 5 B w (.slice a2 (E - p) c2) ((M.drop p).take (E - p))
      ∧ ∀ b1 b2 o1 o2 k1 k2, a1 = some ⟨b1, o1, k1⟩ → a2 = some ⟨b2, o2, k2⟩ → b1 ≠ b2
set_option maxRecDepth 20000 in
set_option maxHeartbeats 4000000 in
theorem elementS_any {w : World} (g b off n c p : Nat) (M : List Int) (hR : Rdr w g b off n c p) (hM : Rd .u8 w b off M) (uM : U8s M) (hMl : M.length = n) (hn : n ≤ 16777216) (hnc : n ≤ c) (hb : b < w.heap.size) (hbg : b ≠ g) (hp : p < n) :
    Calls Tryz.prog 96 #[.pointer (some ⟨g, 0, none⟩)] w fun e w' => ElemAns M p w.heap.size w' e fun a => Upd w w' g ∧ Rdr w' g b off n c a := by
  obtain ⟨x, hx⟩ : ∃ x, M.getD p 0 = x := ⟨_, rfl⟩
  obtain ⟨cl, hcl⟩ : ∃ cl, x / 64 = cl := ⟨_, rfl⟩
  obtain ⟨co, hco⟩ : ∃ co : Bool, decide (x / 32 % 2 = 1) = co := ⟨_, rfl⟩
  obtain ⟨O, hO⟩ : ∃ O, tagS M p = O := ⟨_, rfl⟩
  obtain ⟨V, hV⟩ : ∃ V, O.v = V := ⟨_, rfl⟩
  obtain ⟨N, hN⟩ : ∃ N, O.e = N := ⟨_, rfl⟩
  have HX : Hid (Rdr w g b off n c p ∧ Rd .u8 w b off M ∧ M.length = n ∧ M.getD p 0 = x ∧ U8s M ∧ x / 64 = cl ∧ decide (x / 32 % 2 = 1) = co) := ⟨hR, hM, hMl, hx, uM, hcl, hco⟩
  have HO : Hid (tagS M p = O ∧ O.v = V ∧ O.e = N) := ⟨hO, hV, hN⟩
  have hgl := hR.lt
  have c1 : w.cell? ⟨g, 1, none⟩ = some (.int .i64 p) := hR.cell 1
  clear hR hM hMl hx uM hcl hco hO hV hN
  go_enter Tryz.func96, Tryz.ntmps96
  go_wp2_with fail
  refine (headS_any g b off n c p x M (HX.out.1.alloc _) (below_rd (al1 _) hb HX.out.2.1) HX.out.2.2.2.2.1 HX.out.2.2.1 hn (Nat.lt_of_lt_of_le hb (al1 _).size) hbg hp HX.out.2.2.2.1).mono ?_
  rw [HX.out.2.2.2.2.2.1, HX.out.2.2.2.2.2.2, HO.out.1, HO.out.2.1, HO.out.2.2]
  rintro e w1 ⟨rfl, hu, hr⟩
  have hB1 : Blk 24 w1 w.heap.size [.int .i64 0, .int .i64 0, .bool false, .slice none 0 0, .slice none 0 0] := hu.blk (Blk.new _ w _) (by omega)
  have H1 : Hid (Upd (w.alloc (.cells #[.int .i64 0, .int .i64 0, .bool false, .slice none 0 0, .slice none 0 0] 24)) w1 g ∧ Rdr w1 g b off n c O.at ∧ Blk 24 w1 w.heap.size [.int .i64 0, .int .i64 0, .bool false, .slice none 0 0, .slice none 0 0]) := ⟨hu, hr, hB1⟩
  have d0 : w1.cell? ⟨w.heap.size, 0, none⟩ = some (.int .i64 0) := hB1.cell 0
  have d1 : w1.cell? ⟨w.heap.size, 1, none⟩ = some (.int .i64 0) := hB1.cell 1
  have d2 : w1.cell? ⟨w.heap.size, 2, none⟩ = some (.bool false) := hB1.cell 2
  have d3 : w1.cell? ⟨w.heap.size, 3, none⟩ = some (.slice none 0 0) := hB1.cell 3
  have d4 : w1.cell? ⟨w.heap.size, 4, none⟩ = some (.slice none 0 0) := hB1.cell 4
  have f0 := hB1.frozen 0
  have f1 := hB1.frozen 1
  have f2 := hB1.frozen 2
  have f3 := hB1.frozen 3
  have f4 := hB1.frozen 4
  clear hu hr hB1 c1
  go_upto_region 3 with (fail)
  refine wp_gen (fun W => Upd w1 W w.heap.size ∧ Blk 24 W w.heap.size [.int .i64 cl, .int .i64 V, .bool co, .slice none 0 0, .slice none 0 0]) ⟨((((Upd.set _ _ _ _).trans (Upd.set _ _ _ _)).trans (Upd.set _ _ _ _)).trans (Upd.set _ _ _ _)).trans (Upd.set _ _ _ _), ((((H1.out.2.2.set 0 (.int .i64 cl)).set 1 (.int .i64 V)).set 2 (.bool co)).set 3 (.slice none 0 0)).set 4 (.slice none 0 0)⟩ ?_
  rintro w2 ⟨hu2, hb2⟩
  clear d0 d1 d2 d3 d4 f0 f1 f2 f3 f4
  have H2 : Hid (Upd w w2 g ∧ Rdr w2 g b off n c O.at ∧ Blk 24 w2 w.heap.size [.int .i64 cl, .int .i64 V, .bool co, .slice none 0 0, .slice none 0 0] ∧ Rd .u8 w2 b off M) := by
    have h1 := H1.out.1.old hu2
    exact ⟨h1, hu2.blk H1.out.2.1 (by omega), hb2, h1.rd hb HX.out.2.1 hbg⟩
  clear hu2 hb2
  cases O with
  | inl pq =>
    obtain ⟨er, a⟩ := pq
    have hb1 := tagS_bad (M := M) (p := p) (by have := HX.out.2.2.1; omega) HO.out.1
    have hN : er = N := HO.out.2.2
    subst hN
    have hne : (er != 0) = true := by simp; omega
    have HE : Hid (elemS M p = .inl (er, a)) := by show _ = _; unfold elemS; rw [HO.out.1]
    have d0 : w2.cell? ⟨w.heap.size, 0, none⟩ = some (.int .i64 cl) := H2.out.2.2.1.cell 0
    have d1 : w2.cell? ⟨w.heap.size, 1, none⟩ = some (.int .i64 V) := H2.out.2.2.1.cell 1
    have d2 : w2.cell? ⟨w.heap.size, 2, none⟩ = some (.bool co) := H2.out.2.2.1.cell 2
    have d3 : w2.cell? ⟨w.heap.size, 3, none⟩ = some (.slice none 0 0) := H2.out.2.2.1.cell 3
    have d4 : w2.cell? ⟨w.heap.size, 4, none⟩ = some (.slice none 0 0) := H2.out.2.2.1.cell 4
    have f0 := H2.out.2.2.1.frozen 0
    have f1 := H2.out.2.2.1.frozen 1
    have f2 := H2.out.2.2.1.frozen 2
    have f3 := H2.out.2.2.1.frozen 3
    have f4 := H2.out.2.2.1.frozen 4
    go_wp2
    have hB := ((((H2.out.2.2.1.set 0 (.int .i64 0)).set 1 (.int .i64 0)).set 2 (.bool false)).set 3 (.slice none 0 0)).set 4 (.slice none 0 0)
    have hU := ((((Upd.set w2 w.heap.size 0 (.int .i64 0)).trans (Upd.set _ _ 1 (.int .i64 0))).trans (Upd.set _ _ 2 (.bool false))).trans (Upd.set _ _ 3 (.slice none 0 0))).trans (Upd.set _ _ 4 (.slice none 0 0))
    unfold ElemAns
    rw [HE.out]
    refine bodyPost_ret (results_blk2 rfl rfl hB Tryz.underlying24 rfl Tryz.sizeT rfl) rfl ⟨rfl, H2.out.1.more hU (Nat.le_refl _), ?_⟩
    exact hU.blk H2.out.2.1 (by omega)
  | inr pq =>
    obtain ⟨tg, i⟩ := pq
    have ht := tagS_ok (M := M) (p := p) HX.out.2.2.2.2.1 (by have := HX.out.2.2.1; omega) HO.out.1
    have hV : tg = V := HO.out.2.1
    have hN : 0 = N := HO.out.2.2
    subst hV
    subst hN
    go_upto_region 5 with (fail)
    go_wp2_with fail
    refine (lengthS_any g b off n c i M H2.out.2.1 H2.out.2.2.2 HX.out.2.2.2.2.1 HX.out.2.2.1 hn (Nat.lt_of_lt_of_le hb H2.out.1.size) hbg (by have := HX.out.2.2.1; omega)).mono ?_
    obtain ⟨L, hL⟩ : ∃ L, lenS M i = L := ⟨_, rfl⟩
    have HL : Hid (lenS M i = L) := hL
    rw [hL]
    clear hL
    intro e w3 h3
    cases L with
    | inl pq =>
      obtain ⟨er, a⟩ := pq
      obtain ⟨rfl, hu3, hr3⟩ : e = .returned (.tuple #[.int .i64 0, .int .i64 er]) ∧ Upd w2 w3 g ∧ Rdr w3 g b off n c a := h3
      have hb1 := lenS_bad (by have := HX.out.2.2.1; omega) HL.out
      have hne : (er != 0) = true := by simp; omega
      have HE : Hid (elemS M p = .inl (er, a)) := by show _ = _; unfold elemS; rw [HO.out.1]; simp only []; rw [HL.out]
      have hB3 := hu3.blk H2.out.2.2.1 (by omega)
      have H3 : Hid (Upd w w3 g ∧ Rdr w3 g b off n c a ∧ Blk 24 w3 w.heap.size [.int .i64 cl, .int .i64 tg, .bool co, .slice none 0 0, .slice none 0 0]) := ⟨H2.out.1.trans hu3, hr3, hB3⟩
      have d0 : w3.cell? ⟨w.heap.size, 0, none⟩ = some (.int .i64 cl) := hB3.cell 0
      have d1 : w3.cell? ⟨w.heap.size, 1, none⟩ = some (.int .i64 tg) := hB3.cell 1
      have d2 : w3.cell? ⟨w.heap.size, 2, none⟩ = some (.bool co) := hB3.cell 2
      have d3 : w3.cell? ⟨w.heap.size, 3, none⟩ = some (.slice none 0 0) := hB3.cell 3
      have d4 : w3.cell? ⟨w.heap.size, 4, none⟩ = some (.slice none 0 0) := hB3.cell 4
      have f0 := hB3.frozen 0
      have f1 := hB3.frozen 1
      have f2 := hB3.frozen 2
      have f3 := hB3.frozen 3
      have f4 := hB3.frozen 4
      clear hu3 hr3 hB3
      go_wp2
      have hB := ((((H3.out.2.2.set 0 (.int .i64 0)).set 1 (.int .i64 0)).set 2 (.bool false)).set 3 (.slice none 0 0)).set 4 (.slice none 0 0)
      have hU := ((((Upd.set w3 w.heap.size 0 (.int .i64 0)).trans (Upd.set _ _ 1 (.int .i64 0))).trans (Upd.set _ _ 2 (.bool false))).trans (Upd.set _ _ 3 (.slice none 0 0))).trans (Upd.set _ _ 4 (.slice none 0 0))
      unfold ElemAns
      rw [HE.out]
      refine bodyPost_ret (results_blk2 rfl rfl hB Tryz.underlying24 rfl Tryz.sizeT rfl) rfl ⟨rfl, H3.out.1.more hU (Nat.le_refl _), ?_⟩
      exact hU.blk H3.out.2.1 (by omega)
    | inr pq =>
      obtain ⟨lv, A⟩ := pq
      have hlo := lenS_ok HX.out.2.2.2.2.1 HL.out
      obtain ⟨l, rfl⟩ := Int.eq_ofNat_of_zero_le hlo.2.1
      obtain ⟨E, hE⟩ : ∃ E, A + l = E := ⟨_, rfl⟩
      have hMn := HX.out.2.2.1
      have HE : Hid (elemS M p = .inr (tg, A, E)) := by
        show _ = _
        unfold elemS; rw [HO.out.1]; simp only []; rw [HL.out]; simp only [Int.toNat_natCast]; rw [hE]
      have hEI : (A : Int) + (l : Int) = (E : Int) := by omega
      have hpA : p < A := by omega
      have hEn' : E ≤ n := by omega
      have l0 : (l : Int) ≤ 16777217 := by omega
      clear hMn hlo
      obtain ⟨rfl, hu3, hr3⟩ : e = .returned (.tuple #[.int .i64 (l : Int), .int .i64 0]) ∧ Upd w2 w3 g ∧ Rdr w3 g b off n c A := h3
      have hAE : A ≤ E := by omega
      have hEn : E ≤ n := hEn'
      have r0 : w3.cell? ⟨g, 0, none⟩ = some (.slice (some ⟨b, off, none⟩) n c) := hr3.cell 0
      have r1 : w3.cell? ⟨g, 1, none⟩ = some (.int .i64 (A : Int)) := hr3.cell 1
      have fr := hr3.frozen 1
      have H3 : Hid (Upd w w3 g ∧ Rdr w3 g b off n c A ∧ Blk 24 w3 w.heap.size [.int .i64 cl, .int .i64 tg, .bool co, .slice none 0 0, .slice none 0 0] ∧ Rd .u8 w3 b off M) := by
        have h1 := H2.out.1.trans hu3
        exact ⟨h1, hr3, hu3.blk H2.out.2.2.1 (by omega), h1.rd hb HX.out.2.1 hbg⟩
      clear hu3 hr3
      go_upto_region 10 with (fail)
      refine wp_gen (fun W => Upd w W g ∧ Rdr W g b off n c E ∧ Blk 24 W w.heap.size [.int .i64 cl, .int .i64 tg, .bool co, .slice none 0 0, .slice none 0 0] ∧ Rd .u8 W b off M) ?_ ?_
      · have hu := Upd.set w3 g 1 (.int .i64 (E : Int))
        have h1 := H3.out.1.trans hu
        have h5 : Rdr (w3.setCell ⟨g, 1, none⟩ (.int .i64 (E : Int))) g b off n c E := H3.out.2.1.set 1 (.int .i64 (E : Int))
        rw [← hEI] at *
        exact ⟨h1, h5, hu.blk H3.out.2.2.1 (by omega), h1.rd hb HX.out.2.1 hbg⟩
      rintro w4 h4
      have H4 : Hid (Upd w w4 g ∧ Rdr w4 g b off n c E ∧ Blk 24 w4 w.heap.size [.int .i64 cl, .int .i64 tg, .bool co, .slice none 0 0, .slice none 0 0] ∧ Rd .u8 w4 b off M) := h4
      have q0 : w4.cell? ⟨g, 0, none⟩ = some (.slice (some ⟨b, off, none⟩) n c) := h4.2.1.cell 0
      have q1 : w4.cell? ⟨g, 1, none⟩ = some (.int .i64 (E : Int)) := h4.2.1.cell 1
      have d3 : w4.cell? ⟨w.heap.size, 3, none⟩ = some (.slice none 0 0) := h4.2.2.1.cell 3
      have f3 := h4.2.2.1.frozen 3
      obtain ⟨ba, hba⟩ : ∃ ba : Option Addr, (if c = A then some ⟨b, off, none⟩ else some ⟨b, off + A, none⟩) = ba := ⟨_, rfl⟩
      have HC : Hid (∀ W : World, Rd .u8 W b off M → b < W.heap.size → Sl .u8 W (.slice ba (E - A) (c - A)) ((M.drop A).take (E - A))) := fun W h hb' => by
        have := rd_slo (c := c) hb' h A E hAE (by have := HX.out.2.2.1; omega) (by omega)
        rw [← hba]; exact this
      have hAEI : (A : Int) ≤ (E : Int) := by omega
      have hEcI : (E : Int) ≤ (c : Int) := by omega
      have hb4 : b < w4.heap.size := Nat.lt_of_lt_of_le hb H4.out.1.size
      have hg4 : g < w4.heap.size := Nat.lt_of_lt_of_le hgl H4.out.1.size
      have hgw : ¬ g = w.heap.size := by omega
      have hwg : ¬ w.heap.size = g := by omega
      clear h4 r0 r1 fr hEI d3 f3
      refine wp_region_qsd 10 (by kernel_rfl) (by kernel_rfl) ?_
      simp only [List.take_succ_cons, List.take_zero, List.drop_succ_cons, List.drop_zero]
      repeat (go_big_quiet_step (fail))
      refine wpQuiet_nil ?_
      rintro _ ⟨q2, rfl⟩
      go_wp2_with fail
      refine (copied_any (w := w4.drewN q2) _ ((M.drop A).take (E - A)) (HC.out _ (by exact H4.out.2.2.2) (by exact hb4)) (by rw [List.length_take]; omega)).mono ?_
      rintro e w5 ⟨r5, rfl, hr5, hb5⟩
      obtain ⟨a5, c5, hv5⟩ := hr5.ne
      obtain ⟨n5, hn5⟩ : ∃ n, ((M.drop A).take (E - A)).length = n := ⟨_, rfl⟩
      rw [hn5] at hv5
      subst hv5
      clear hn5
      have hu5 : ∀ g', Upd w4 w5 g' := fun g' => Upd.trans (w' := w4.drewN q2) ⟨rfl, rfl, rfl, Nat.le_refl _, fun _ _ _ => rfl⟩ (Below.upd hb5)
      have hsz4 : w.heap.size < w4.heap.size := H4.out.2.2.1.lt
      have hB5 : Blk 24 w5 w.heap.size [.int .i64 cl, .int .i64 tg, .bool co, .slice none 0 0, .slice none 0 0] := (hu5 g).blk H4.out.2.2.1 (by omega)
      have H5 : Hid ((∀ g', Upd w4 w5 g') ∧ Blk 24 w5 w.heap.size [.int .i64 cl, .int .i64 tg, .bool co, .slice none 0 0, .slice none 0 0] ∧ Row .u8 5 w4.heap.size w5 (Value.slice a5 n5 c5) ((M.drop A).take (E - A))) := ⟨hu5, hB5, hr5⟩
      have d3 : w5.cell? ⟨w.heap.size, 3, none⟩ = some (.slice none 0 0) := hB5.cell 3
      have f3 := hB5.frozen 3
      clear hr5 hb5 hu5 hB5 q0 q1 hba
      go_upto_region 11 with (fail)
      refine wp_gen (fun W => Upd w W g ∧ Rdr W g b off n c E ∧ Blk 24 W w.heap.size [.int .i64 cl, .int .i64 tg, .bool co, (Value.slice a5 n5 c5), .slice none 0 0] ∧ Rd .u8 W b off M ∧ Row .u8 5 w4.heap.size W (Value.slice a5 n5 c5) ((M.drop A).take (E - A)) ∧ w4.heap.size ≤ W.heap.size) ?_ ?_
      · have hu := Upd.set w5 w.heap.size 3 (Value.slice a5 n5 c5)
        have h1 : Upd w w5 g := H4.out.1.trans (H5.out.1 g)
        have h2 : Upd w (w5.setCell ⟨w.heap.size, 3, none⟩ (Value.slice a5 n5 c5)) g := ⟨hu.os.trans h1.os, hu.tape.trans h1.tape, hu.output.trans h1.output, Nat.le_trans h1.size hu.size, fun j hj hne => (hu.block j (Nat.lt_of_lt_of_le hj h1.size) (fun e => by simp at e; omega)).trans (h1.block j hj hne)⟩
        have h3 : Rdr w5 g b off n c E := (H5.out.1 w.heap.size).blk H4.out.2.1 (by omega)
        exact ⟨h2, hu.blk h3 (by omega), H5.out.2.1.set 3 (Value.slice a5 n5 c5), h2.rd hb HX.out.2.1 hbg, H5.out.2.2.upd hu hsz4, Nat.le_trans (H5.out.1 g).size hu.size⟩
      rintro w6 h6
      have H6 : Hid (Upd w w6 g ∧ Rdr w6 g b off n c E ∧ Blk 24 w6 w.heap.size [.int .i64 cl, .int .i64 tg, .bool co, (Value.slice a5 n5 c5), .slice none 0 0] ∧ Rd .u8 w6 b off M ∧ Row .u8 5 w4.heap.size w6 (Value.slice a5 n5 c5) ((M.drop A).take (E - A)) ∧ w4.heap.size ≤ w6.heap.size) := h6
      have q0 : w6.cell? ⟨g, 0, none⟩ = some (.slice (some ⟨b, off, none⟩) n c) := h6.2.1.cell 0
      have q1 : w6.cell? ⟨g, 1, none⟩ = some (.int .i64 (E : Int)) := h6.2.1.cell 1
      have HC2 : Hid (∀ W : World, Rd .u8 W b off M → b < W.heap.size → Sl .u8 W (.slice (some ⟨b, off + p, none⟩) (E - p) (c - p)) ((M.drop p).take (E - p))) := fun W h hb' => by
        have := rd_slo (c := c) hb' h p E (by omega) (by have := HX.out.2.2.1; omega) (by omega)
        rw [if_neg (by omega)] at this
        exact this
      have hpEI : (p : Int) ≤ (E : Int) := by omega
      have hb6 : b < w6.heap.size := Nat.lt_of_lt_of_le hb H6.out.1.size
      clear h6 d3 f3
      refine wp_region_qsd 10 (by kernel_rfl) (by kernel_rfl) ?_
      simp only [List.take_succ_cons, List.take_zero, List.drop_succ_cons, List.drop_zero]
      repeat (go_big_quiet_step (fail))
      refine wpQuiet_nil ?_
      rintro _ ⟨q3, rfl⟩
      go_wp2_with fail
      refine (copied_any (w := w6.drewN q3) _ ((M.drop p).take (E - p)) (HC2.out _ (by exact H6.out.2.2.2.1) (by exact hb6)) (by rw [List.length_take]; omega)).mono ?_
      rintro e w7 ⟨r7, rfl, hr7, hb7⟩
      obtain ⟨a7, c7, hv7⟩ := hr7.ne
      obtain ⟨n7, hn7⟩ : ∃ n, ((M.drop p).take (E - p)).length = n := ⟨_, rfl⟩
      rw [hn7] at hv7
      subst hv7
      clear hn7
      have hu7 : ∀ g', Upd w6 w7 g' := fun g' => Upd.trans (w' := w6.drewN q3) ⟨rfl, rfl, rfl, Nat.le_refl _, fun _ _ _ => rfl⟩ (Below.upd hb7)
      have hB7 : Blk 24 w7 w.heap.size [.int .i64 cl, .int .i64 tg, .bool co, (Value.slice a5 n5 c5), .slice none 0 0] := (hu7 g).blk H6.out.2.2.1 (by omega)
      have hsz6 := H6.out.2.2.2.2.2
      have H7 : Hid ((∀ g', Upd w6 w7 g') ∧ Blk 24 w7 w.heap.size [.int .i64 cl, .int .i64 tg, .bool co, (Value.slice a5 n5 c5), .slice none 0 0] ∧ Row .u8 5 w6.heap.size w7 (Value.slice a7 n7 c7) ((M.drop p).take (E - p)) ∧ Row .u8 5 w4.heap.size w7 (Value.slice a5 n5 c5) ((M.drop A).take (E - A))) := ⟨hu7, hB7, hr7, H6.out.2.2.2.2.1.below ⟨(hu7 g).os, (hu7 g).tape, (hu7 g).output, (hu7 g).size, fun j hj => (hu7 w6.heap.size).block j hj (fun e => by simp at e; omega)⟩⟩
      have d0 : w7.cell? ⟨w.heap.size, 0, none⟩ = some (.int .i64 cl) := hB7.cell 0
      have d1 : w7.cell? ⟨w.heap.size, 1, none⟩ = some (.int .i64 tg) := hB7.cell 1
      have d2 : w7.cell? ⟨w.heap.size, 2, none⟩ = some (.bool co) := hB7.cell 2
      have d3 : w7.cell? ⟨w.heap.size, 3, none⟩ = some (Value.slice a5 n5 c5) := hB7.cell 3
      have d4 : w7.cell? ⟨w.heap.size, 4, none⟩ = some (.slice none 0 0) := hB7.cell 4
      have f0 := hB7.frozen 0
      have f1 := hB7.frozen 1
      have f2 := hB7.frozen 2
      have f3 := hB7.frozen 3
      have f4 := hB7.frozen 4
      clear hr7 hb7 hu7 hB7 q0 q1
      go_wp2
      have hB := (((((H7.out.2.1.set 4 (Value.slice a7 n7 c7)).set 0 (.int .i64 cl)).set 1 (.int .i64 tg)).set 2 (.bool co)).set 3 (Value.slice a5 n5 c5)).set 4 (Value.slice a7 n7 c7)
      have hU := (((((Upd.set w7 w.heap.size 4 (Value.slice a7 n7 c7)).trans (Upd.set _ _ 0 (.int .i64 cl))).trans (Upd.set _ _ 1 (.int .i64 tg))).trans (Upd.set _ _ 2 (.bool co))).trans (Upd.set _ _ 3 (Value.slice a5 n5 c5))).trans (Upd.set _ _ 4 (Value.slice a7 n7 c7))
      have h6s := H6.out.2.2.2.2.2
      have hn57 : n5 = E - A ∧ n7 = E - p := by
        have h5 := H7.out.2.2.2.sl
        have h7 := H7.out.2.2.1.sl
        obtain ⟨_, _, h5, _⟩ := h5
        obtain ⟨_, _, h7, _⟩ := h7
        simp only [Value.slice.injEq] at h5 h7
        have := HX.out.2.2.1
        rw [h5.2.1, h7.2.1, List.length_take, List.length_take, List.length_drop, List.length_drop]
        omega
      unfold ElemAns
      rw [HE.out, HX.out.2.2.2.1, HX.out.2.2.2.2.2.1, HX.out.2.2.2.2.2.2]
      simp only [← hn57.1, ← hn57.2]
      refine bodyPost_ret (results_blk2 rfl rfl hB Tryz.underlying24 rfl Tryz.sizeT rfl) rfl ⟨a5, c5, a7, c7, rfl, ⟨(H6.out.1.trans (H7.out.1 g)).more hU (Nat.le_refl _), ?_⟩, ?_, ?_, ?_⟩
      · have h3 : Rdr w7 g b off n c E := (H7.out.1 w.heap.size).blk H6.out.2.1 (by omega)
        exact hU.blk h3 (by omega)
      · rw [hn57.1]; rw [hn57.1] at H7 hU; exact (H7.out.2.2.2.upd hU hsz4).mono (by omega)
      · rw [hn57.2]; rw [hn57.2] at H7 hU; exact (H7.out.2.2.1.upd hU (by omega)).mono (by omega)
      · rintro b1 b2 o1 o2 k1 k2 rfl rfl
        have h5 := H6.out.2.2.2.2.1
        have h7 := H7.out.2.2.1
        rcases h5 with ⟨h5, _⟩ | ⟨_, _, h5, _, hA5, _⟩
        · simp at h5
        rcases h7 with ⟨h7, _⟩ | ⟨_, _, h7, hB7, _⟩
        · simp at h7
        simp only [Value.slice.injEq, Option.some.injEq, Addr.mk.injEq] at h5 h7
        have := hA5.lt
        omega
end Go.Proofs.YtillkhjihggcjaaGreatDoor
/-
  Der: rows of elements in memory; Split.
-/
namespace Go.Proofs.YtillkhjihggcjaaGreatDoor
open Go.RowKit
/-- The block that a slice lies in. -/
def blkOf : Value → Option Nat
  | .slice (some a) _ _ => some a.block
  | _ => none
/-- No two of them lie in one block. -/
def Apart (vs : List Value) : Prop := vs.Pairwise fun u v => ∀ b, blkOf u = some b → blkOf v ≠ some b
abbrev Tc := El × Value × Value
def cell5 (y : Tc) : List Value := [.int .i64 y.1.cl, .int .i64 y.1.tg, .bool y.1.co, y.2.1, y.2.2]
def tlvCells (Y : List Tc) : List Value := Y.flatMap cell5
def rowsOf (Y : List Tc) : List Value := Y.flatMap fun y => [y.2.1, y.2.2]
theorem tlvCells_snoc (Y : List Tc) (y : Tc) : tlvCells (Y ++ [y]) = tlvCells Y ++ cell5 y := by simp [tlvCells]
theorem rowsOf_snoc (Y : List Tc) (y : Tc) : rowsOf (Y ++ [y]) = rowsOf Y ++ [y.2.1, y.2.2] := by simp [rowsOf]
/-- A slice of elements, all of it in memory of the call's own, no two of its rows in one block. -/
def Tlvs (B : Nat) (w : World) (v : Value) (L : List El) : Prop :=
  ∃ Y : List Tc, Y.map (·.1) = L ∧ MRow 5 24 B w v Y.length (tlvCells Y) ∧ (∀ y ∈ Y, Row .u8 5 B w y.2.1 y.1.d ∧ Row .u8 5 B w y.2.2 y.1.r) ∧ Apart (rowsOf Y)
theorem Tlvs.nil (B : Nat) (w : World) : Tlvs B w (.slice none 0 0) [] := ⟨[], rfl, MRow.nil _ _ _ _, by simp, List.Pairwise.nil⟩
theorem Row.blk_lt {k : IntKind} {e : TypeId} {B : Nat} {w : World} {v : Value} {xs : List Int} (h : Row k e B w v xs) {b : Nat} (hb : blkOf v = some b) : B ≤ b ∧ b < w.heap.size := by
  rcases h with ⟨rfl, _⟩ | ⟨b', S, rfl, h1, hA, _⟩
  · simp [blkOf] at hb
  · simp only [blkOf, Option.some.injEq] at hb; subst hb; exact ⟨h1, hA.lt⟩
theorem Apart.snoc {vs : List Value} {d r : Value} (h : Apart vs) (m : Nat) (h1 : ∀ u ∈ vs, ∀ b, blkOf u = some b → b < m) (hd : ∀ b, blkOf d = some b → m ≤ b) (hr : ∀ b, blkOf r = some b → m ≤ b) (hdr : ∀ b, blkOf d = some b → blkOf r ≠ some b) : Apart (vs ++ [d, r]) := by
  unfold Apart at *
  rw [List.pairwise_append]
  refine ⟨h, ?_, ?_⟩
  · simp only [List.pairwise_cons, List.mem_singleton, List.not_mem_nil, false_implies, implies_true, List.Pairwise.nil, and_true, forall_eq]
    exact hdr
  · intro u hu v hv b hb hb'
    have := h1 u hu b hb
    simp only [List.mem_cons, List.not_mem_nil, or_false] at hv
    rcases hv with rfl | rfl
    · have := hd b hb'; omega
    · have := hr b hb'; omega
/-- What Split tells. -/
def SplitOut (n : Nat) (B : Nat) (w : World) (e : Ending) : Sp → Prop
  | .inl (er, a) => e = .returned (.tuple #[.slice none 0 0, .int .i64 er, .int .i64 a])
  | .inr L => ∃ v, e = .returned (.tuple #[v, .int .i64 0, .int .i64 n]) ∧ Tlvs B w v L
def SplitAns (M : List Int) (B : Nat) (w : World) (e : Ending) : Prop := SplitOut M.length B w e (splitS M)
theorem MRow.mono {m : Nat} {e : TypeId} {B B' : Nat} {w : World} {v : Value} {n : Nat} {xs : List Value} (h : MRow m e B w v n xs) (hb : B' ≤ B) : MRow m e B' w v n xs := by
  obtain ⟨h0, h⟩ := h
  refine ⟨h0, ?_⟩
  rcases h with h | ⟨b, S, c, rfl, h1, h2⟩
  · exact .inl h
  · exact .inr ⟨b, S, c, rfl, by omega, h2⟩
theorem Tlvs.mono {B B' : Nat} {w : World} {v : Value} {L : List El} (h : Tlvs B w v L) (hb : B' ≤ B) : Tlvs B' w v L := by
  obtain ⟨Y, h1, h2, h3, h4⟩ := h
  exact ⟨Y, h1, h2.mono hb, fun y hy => ⟨(h3 y hy).1.mono hb, (h3 y hy).2.mono hb⟩, h4⟩
theorem Tlvs.below {B : Nat} {w w' : World} {v : Value} {L : List El} (h : Tlvs B w v L) (hb : Below w.heap.size w w') : Tlvs B w' v L := by
  obtain ⟨Y, h1, h2, h3, h4⟩ := h
  exact ⟨Y, h1, h2.below hb, fun y hy => ⟨(h3 y hy).1.below hb, (h3 y hy).2.below hb⟩, h4⟩
set_option maxRecDepth 20000 in
set_option maxHeartbeats 4000000 in
theorem SplitS_ne {w : World} (b off n c : Nat) (M : List Int) (hM : Rd .u8 w b off M) (uM : U8s M) (hMl : M.length = n) (hn : n ≤ 16777216) (hnc : n ≤ c) (hb : b < w.heap.size) :
    Calls Tryz.prog 75 #[.slice (some ⟨b, off, none⟩) n c] w fun e w' => SplitAns M w.heap.size w' e ∧ Below w.heap.size w w' := by
  obtain ⟨O, hO⟩ : ∃ O, spl M 0 [] = O := ⟨_, rfl⟩
  have HO : Hid (spl M 0 [] = O ∧ splitS M = O) := ⟨hO, by unfold splitS; rw [if_neg (by omega), hO]⟩
  have HX : Hid (Rd .u8 w b off M ∧ U8s M ∧ M.length = n) := ⟨hM, uM, hMl⟩
  have hnI : (n : Int) ≤ 16777216 := by omega
  unfold SplitAns
  rw [HO.out.2, hMl]
  clear hM uM hMl hO
  go_enter Tryz.func75, Tryz.ntmps75
  go_wp2_with fail
  refine wp_gen (fun W => Rdr W w.heap.size b off n c 0 ∧ Below w.heap.size w W) ⟨Blk.new _ w _, al1 _⟩ ?_
  rintro v1 hv1
  have H1 : Hid (Rdr v1 w.heap.size b off n c 0 ∧ Below w.heap.size w v1) := ⟨hv1.1, hv1.2⟩
  clear hv1
  go_loopw [2] (fun lv wr => ∃ (p : Nat) (L : List El) (v : Value), v = lv ∧ Rdr wr w.heap.size b off n c p ∧ Below w.heap.size w wr ∧ Tlvs (w.heap.size + 1) wr v L ∧ spl M p L = O ∧ L.length ≤ 65536 ∧ p ≤ n) (fun _ wr => n - posOf (wr.cell? ⟨w.heap.size, 1, none⟩))
  case atStart => exact ⟨0, [], _, rfl, H1.out.1, H1.out.2, Tlvs.nil _ _, HO.out.1, by simp, by omega⟩
  case round =>
    obtain ⟨p, L, v, rfl, hr, hbl, ⟨Y, hYL, hm, hrows, hap⟩, hO, hL, hp⟩ := hrel
    have hYl : Y.length = L.length := by rw [← hYL, List.length_map]
    obtain ⟨al, cl, hv⟩ := hm.ne
    obtain ⟨k, hk⟩ : ∃ k, Y.length = k := ⟨_, rfl⟩
    rw [hk] at hv hm
    subst hv
    have hkL : k ≤ 65536 := by omega
    have H2 : Hid (Rdr wr w.heap.size b off n c p ∧ Below w.heap.size w wr ∧ Y.map (·.1) = L ∧ MRow 5 24 (w.heap.size + 1) wr (.slice al k cl) k (tlvCells Y) ∧ (∀ y ∈ Y, Row .u8 5 (w.heap.size + 1) wr y.2.1 y.1.d ∧ Row .u8 5 (w.heap.size + 1) wr y.2.2 y.1.r) ∧ Apart (rowsOf Y) ∧ spl M p L = O ∧ Y.length = k ∧ L.length = k) := ⟨hr, hbl, hYL, hm, hrows, hap, hO, hk, by omega⟩
    have g1 : wr.cell? ⟨w.heap.size, 1, none⟩ = some (.int .i64 p) := hr.cell 1
    clear hr hbl hYL hm hrows hap hO hk hYl hL
    by_cases hlt : p < n
    · have l1 : (p : Int) < (n : Int) := by omega
      by_cases hmany : k = 65536
      · subst hmany
        go_upto_region 6 with (fail)
        go_quiet (fail)
        go_wp2
        go_ret3
        have h1 := H2.out.2.2.2.2.2.2.1
        rw [spl_many (by have := HX.out.2.2; omega) (by have := H2.out.2.2.2.2.2.2.2; omega)] at h1
        subst h1
        exact ⟨rfl, below_drewN _ H2.out.2.1⟩
      have hmb : ((k : Int) == 65536) = false := by simp; omega
      go_wp2_with fail
      refine (elementS_any w.heap.size b off n c p M H2.out.1 (below_rd H2.out.2.1 hb HX.out.1) HX.out.2.1 HX.out.2.2 hn hnc (Nat.lt_of_lt_of_le hb H2.out.2.1.size) (by omega) hlt).mono ?_
      intro e v2 h2
      unfold ElemAns at h2
      obtain ⟨S, hS⟩ : ∃ S, elemS M p = S := ⟨_, rfl⟩
      rw [hS] at h2
      have HS : Hid (elemS M p = S) := hS
      clear hS
      have hwlt : w.heap.size < wr.heap.size := H2.out.1.lt
      cases S with
      | inl pq =>
        obtain ⟨er, a⟩ := pq
        obtain ⟨rfl, hu, hr⟩ := h2
        have hbad := elemS_bad HX.out.2.1 (by have := HX.out.2.2; omega) HS.out
        have hne : (er != 0) = true := by simp; omega
        have HE : Hid (O = .inl (er, a)) := by
          show _ = _
          rw [← H2.out.2.2.2.2.2.2.1]; exact spl_bad (by have := HX.out.2.2; omega) (by have := H2.out.2.2.2.2.2.2.2; omega) HS.out
        have hb2 : Below w.heap.size w v2 := ⟨hu.os.trans H2.out.2.1.os, hu.tape.trans H2.out.2.1.tape, hu.output.trans H2.out.2.1.output, Nat.le_trans H2.out.2.1.size hu.size, fun j hj => (hu.block j (by omega) (fun e => by simp at e; omega)).trans (H2.out.2.1.block j hj)⟩
        have H3 : Hid (Rdr v2 w.heap.size b off n c a ∧ Below w.heap.size w v2) := ⟨hr, hb2⟩
        clear hu hr hb2 g1 hbad
        go_upto_region 9 with (fail)
        refine wp_gen (fun W => Rdr W w.heap.size b off n c a ∧ Below w.heap.size w W) ⟨H3.out.1.alloc _, al2' H3.out.2⟩ ?_
        rintro v3 hv3
        have H4 : Hid (Below w.heap.size w v3) := hv3.2
        have g1 : v3.cell? ⟨w.heap.size, 1, none⟩ = some (.int .i64 a) := hv3.1.cell 1
        clear hv3
        go_quiet (fail)
        go_wp2
        go_ret3
        rw [HE.out]
        exact ⟨rfl, below_drewN _ H4.out⟩
      | inr pq =>
        obtain ⟨t, j, E⟩ := pq
        obtain ⟨a1, c1, a2, c2, rfl, ⟨hu, hr⟩, hd, hrw, hdr⟩ := h2
        have hok := elemS_ok HX.out.2.1 (by have := HX.out.2.2; omega) HS.out
        have HE : Hid (spl M E (L ++ [elAt M p t j E]) = O ∧ p < E ∧ E ≤ n ∧ L.length + 1 ≤ 65536) := by
          refine ⟨?_, by omega, by have := HX.out.2.2; omega, by have := H2.out.2.2.2.2.2.2.2; omega⟩
          rw [← H2.out.2.2.2.2.2.2.1]
          exact (spl_ok HX.out.2.1 (by have := HX.out.2.2; omega) (by have := H2.out.2.2.2.2.2.2.2; omega) HS.out).symm
        have hb2 : Below w.heap.size w v2 := ⟨hu.os.trans H2.out.2.1.os, hu.tape.trans H2.out.2.1.tape, hu.output.trans H2.out.2.1.output, Nat.le_trans H2.out.2.1.size hu.size, fun j hj => (hu.block j (by omega) (fun e => by simp at e; omega)).trans (H2.out.2.1.block j hj)⟩
        obtain ⟨x1, hx1⟩ : ∃ x1, M.getD p 0 / 64 = x1 := ⟨_, rfl⟩
        obtain ⟨x2, hx2⟩ : ∃ x2 : Bool, decide (M.getD p 0 / 32 % 2 = 1) = x2 := ⟨_, rfl⟩
        obtain ⟨n1, hn1⟩ : ∃ n1, E - j = n1 := ⟨_, rfl⟩
        obtain ⟨n2, hn2⟩ : ∃ n2, E - p = n2 := ⟨_, rfl⟩
        have HEl : Hid (elAt M p t j E = ⟨x1, t, x2, (M.drop j).take n1, (M.drop p).take n2⟩) := by show _ = _; unfold elAt; rw [hx1, hx2, hn1, hn2]
        rw [hx1, hx2, hn1, hn2]
        rw [hn1] at hd
        rw [hn2] at hrw
        have H3 : Hid (Rdr v2 w.heap.size b off n c E ∧ Below w.heap.size w v2 ∧ Row .u8 5 wr.heap.size v2 (.slice a1 n1 c1) ((M.drop j).take n1) ∧ Row .u8 5 wr.heap.size v2 (.slice a2 n2 c2) ((M.drop p).take n2) ∧ (∀ b1 b2 o1 o2 k1 k2, a1 = some ⟨b1, o1, k1⟩ → a2 = some ⟨b2, o2, k2⟩ → b1 ≠ b2) ∧ MRow 5 24 (w.heap.size + 1) v2 (.slice al k cl) k (tlvCells Y) ∧ (∀ y ∈ Y, Row .u8 5 (w.heap.size + 1) v2 y.2.1 y.1.d ∧ Row .u8 5 (w.heap.size + 1) v2 y.2.2 y.1.r) ∧ w.heap.size < v2.heap.size) :=
          ⟨hr, hb2, hd, hrw, hdr, H2.out.2.2.2.1.upd hu (by omega), fun y hy => ⟨(H2.out.2.2.2.2.1 y hy).1.upd hu (by omega), (H2.out.2.2.2.2.1 y hy).2.upd hu (by omega)⟩, hr.lt⟩
        clear hu hr hb2 g1 hd hrw hdr hok hx1 hx2 hn1 hn2
        go_wp2_with (at_builtin; refine wpList_apm rfl (.tmp 32) (.tmp 34) 66 66 rfl 5 zeroT rfl 24 72 Tryz.undT Tryz.infoT (by decide) (w.heap.size + 1) _ k _ rfl ((H3.out.2.2.2.2.2.1.alloc _).alloc _) _ 1 [.int .i64 x1, .int .i64 t, .bool x2, .slice a1 n1 c1, .slice a2 n2 c2] rfl (src_m (T := 24) Tryz.undT 5 (blk_nw (by simp) rfl) rfl (tlv_one _ _ _ _ _ _ _ _ _)) (by omega) (by have := H3.out.2.2.2.2.2.2.2; simp; omega) ?_; intro v v5 hr hg)
        have hb5 : Below (w.heap.size + 1) _ v5 := hg.below ((H3.out.2.2.2.2.2.1.alloc _).alloc _) (by have := H3.out.2.2.2.2.2.2.2; simp; omega)
        have hb45 : Below (w.heap.size + 1) v2 v5 := (((Below.refl _ _).alloc (by have := H3.out.2.2.2.2.2.2.2; omega) _).alloc (by have := H3.out.2.2.2.2.2.2.2; simp; omega) _).trans hb5
        have hkeep : ∀ (B : Nat) (u : Value) (X : List Int), Row .u8 5 B v2 u X → Row .u8 5 B v5 u X := fun B u X h => ((h.alloc _).alloc _).mgrew hg
        have H4 : Hid (Rdr v5 w.heap.size b off n c E ∧ Below w.heap.size w v5 ∧ Tlvs (w.heap.size + 1) v5 v (L ++ [elAt M p t j E])) := by
          refine ⟨below_blk hb45 (by omega) H3.out.1, H3.out.2.1.trans (hb45.mono (by omega)), ?_⟩
          refine ⟨Y ++ [(⟨x1, t, x2, (M.drop j).take n1, (M.drop p).take n2⟩, .slice a1 n1 c1, .slice a2 n2 c2)], ?_, ?_, ?_, ?_⟩
          · rw [List.map_append, H2.out.2.2.1, HEl.out]; rfl
          · rw [tlvCells_snoc, List.length_append, H2.out.2.2.2.2.2.2.2.1]; exact hr
          · intro y hy
            rcases List.mem_append.1 hy with hy | hy
            · exact ⟨hkeep _ _ _ (H3.out.2.2.2.2.2.2.1 y hy).1, hkeep _ _ _ (H3.out.2.2.2.2.2.2.1 y hy).2⟩
            · rw [List.mem_singleton] at hy
              subst hy
              exact ⟨(hkeep _ _ _ H3.out.2.2.1).mono (by omega), (hkeep _ _ _ H3.out.2.2.2.1).mono (by omega)⟩
          · rw [rowsOf_snoc]
            refine Apart.snoc H2.out.2.2.2.2.2.1 wr.heap.size ?_ (fun b hb => (H3.out.2.2.1.blk_lt hb).1) (fun b hb => (H3.out.2.2.2.1.blk_lt hb).1) ?_
            · intro u hu b hb
              unfold rowsOf at hu
              obtain ⟨y, hy, hu⟩ := List.mem_flatMap.1 hu
              have h1 := H2.out.2.2.2.2.1 y hy
              simp only [List.mem_cons, List.not_mem_nil, or_false] at hu
              rcases hu with rfl | rfl
              · exact (h1.1.blk_lt hb).2
              · exact (h1.2.blk_lt hb).2
            · intro b hb hb'
              cases a1 with
              | none => simp [blkOf] at hb
              | some a1 =>
                cases a2 with
                | none => simp [blkOf] at hb'
                | some a2 =>
                  simp only [blkOf, Option.some.injEq] at hb hb'
                  exact H3.out.2.2.2.2.1 a1.block a2.block a1.off a2.off a1.spot a2.spot rfl rfl (by omega)
        clear hr hg hb5 hb45 hkeep
        go_roundw
        case rel => exact ⟨E, _, _, rfl, H4.out.1, H4.out.2.1, H4.out.2.2, HE.out.1, by rw [List.length_append]; exact HE.out.2.2.2, HE.out.2.2.1⟩
        case measure => rw [H4.out.1.pos, H2.out.1.pos]; have := HE.out.2; omega
    · obtain rfl : p = n := by omega
      have l1 : ¬ (p : Int) < (p : Int) := by omega
      go_upto_region 11 with (fail)
      go_quiet (fail)
      go_wp2
      go_ret3
      have h1 := H2.out.2.2.2.2.2.2.1
      rw [spl_end (by have := HX.out.2.2; omega)] at h1
      subst h1
      refine ⟨⟨_, rfl, ?_⟩, below_drewN _ H2.out.2.1⟩
      have h2 := H2.out
      have ht : Tlvs (w.heap.size + 1) wr (.slice al k cl) L := ⟨Y, h2.2.2.1, by rw [h2.2.2.2.2.2.2.2.1]; exact h2.2.2.2.1, h2.2.2.2.2.1, h2.2.2.2.2.2.1⟩
      exact (ht.mono (by omega)).below ⟨rfl, rfl, rfl, Nat.le_refl _, fun _ _ => rfl⟩
end Go.Proofs.YtillkhjihggcjaaGreatDoor
/-
  Der: Split of any slice.
-/
namespace Go.Proofs.YtillkhjihggcjaaGreatDoor
open Go.RowKit
set_option maxRecDepth 20000 in
set_option maxHeartbeats 4000000 in
theorem SplitS_any {w : World} (v : Value) (M : List Int) (hv : Sl .u8 w v M) (uM : U8s M) (hl : M.length ≤ 9223372036854775807) :
    Calls Tryz.prog 75 #[v] w fun e w' => SplitAns M w.heap.size w' e ∧ Below w.heap.size w w' := by
  obtain ⟨a, c, rfl, hc, h⟩ := hv
  by_cases hn : M.length ≤ 16777216
  · by_cases hne : M = []
    · subst hne
      have HE : Hid (SplitAns [] w.heap.size = fun w' e => SplitOut 0 w.heap.size w' e (.inr [])) := rfl
      rw [HE.out]
      simp only [List.length_nil]
      go_enter Tryz.func75, Tryz.ntmps75
      go_wp2_with fail
      refine wp_gen (fun W => Blk 179 W w.heap.size [.slice a 0 c, .int .i64 0] ∧ Below w.heap.size w W) ⟨Blk.new _ w _, al1 _⟩ ?_
      rintro v1 hv1
      have H1 : Hid (Below w.heap.size w v1) := hv1.2
      have g1 : v1.cell? ⟨w.heap.size, 1, none⟩ = some (.int .i64 0) := hv1.1.cell 1
      clear hv1
      refine wp_loop_rounds 1 ?_
      rw [rounds_succ]
      go_upto_region 11 with (fail)
      go_quiet (fail)
      go_wp2
      go_ret3
      exact ⟨⟨_, rfl, Tlvs.nil _ _⟩, below_drewN _ H1.out⟩
    · rcases h with h | ⟨b, off, rfl, hb, hr⟩
      · exact absurd h hne
      · exact SplitS_ne b off M.length c M hr uM rfl hn hc hb
  · have HE : Hid (splitS M = .inl (3, 0)) := by show _ = _; unfold splitS; rw [if_pos (by omega)]
    have hnI : (16777216 : Int) < (M.length : Int) := by omega
    unfold SplitAns
    rw [HE.out]
    obtain ⟨n, hn⟩ : ∃ n, M.length = n := ⟨_, rfl⟩
    rw [hn] at hnI ⊢
    clear h
    go_enter Tryz.func75, Tryz.ntmps75
    go_wp2
    go_ret3
    exact ⟨rfl, Below.refl _ _⟩
end Go.Proofs.YtillkhjihggcjaaGreatDoor
/-
  Der: One.
-/
namespace Go.Proofs.YtillkhjihggcjaaGreatDoor
open Go.RowKit
def noEl : El := ⟨0, 0, false, [], []⟩
/-- What One tells, of what Split tells. -/
def oneS : Sp → El × Int
  | .inl (e, _) => (noEl, e)
  | .inr [] => (noEl, 5)
  | .inr [x] => (x, 0)
  | .inr (_ :: _ :: _) => (noEl, 4)
def OneOut (B : Nat) (w : World) (e : Ending) (o : El × Int) : Prop :=
  ∃ a1 n1 c1 a2 n2 c2, e = .returned (.tuple #[.agg #[.int .i64 o.1.cl, .int .i64 o.1.tg, .bool o.1.co, .slice a1 n1 c1, .slice a2 n2 c2], .int .i64 o.2]) ∧ Row .u8 5 B w (.slice a1 n1 c1) o.1.d ∧ Row .u8 5 B w (.slice a2 n2 c2) o.1.r
theorem OneOut.no (B : Nat) (w : World) (er : Int) (e : Ending) (h : e = .returned (.tuple #[nilT, .int .i64 er])) : OneOut B w e (noEl, er) :=
  ⟨none, 0, 0, none, 0, 0, h, Row.nil _ _ _ _, Row.nil _ _ _ _⟩
theorem spl_err {M : List Int} (hM : U8s M) : ∀ f p L, M.length - p = f → ∀ e a, spl M p L = .inl (e, a) → e ≠ 0 := by
  intro f
  induction f using Nat.strongRecOn with
  | _ f ih =>
    intro p L hf e a h
    by_cases hp : p < M.length
    · by_cases hL : L.length < 65536
      · cases hE : elemS M p with
        | inl pq =>
          obtain ⟨e', a'⟩ := pq
          rw [spl_bad hp hL hE] at h
          have := elemS_bad hM hp hE
          cases h; omega
        | inr pq =>
          obtain ⟨t, j, E⟩ := pq
          have := elemS_ok hM hp hE
          rw [spl_ok hM hp hL hE] at h
          exact ih (M.length - E) (by omega) E _ rfl e a h
      · rw [spl_many hp (by omega)] at h; cases h; decide
    · rw [spl_end (by omega)] at h; cases h
theorem splitS_err {M : List Int} (hM : U8s M) {e : Int} {a : Nat} (h : splitS M = .inl (e, a)) : e ≠ 0 := by
  unfold splitS at h
  split at h
  · cases h; decide
  · exact spl_err hM _ _ _ rfl e a h
set_option maxRecDepth 20000 in
set_option maxHeartbeats 4000000 in
theorem OneS_any {w : World} (v : Value) (M : List Int) (hv : Sl .u8 w v M) (uM : U8s M) (hl : M.length ≤ 9223372036854775807) :
    Calls Tryz.prog 77 #[v] w fun e w' => OneOut w.heap.size w' e (oneS (splitS M)) ∧ Below w.heap.size w w' := by
  have HX : Hid (Sl .u8 w v M ∧ U8s M ∧ M.length ≤ 9223372036854775807) := ⟨hv, uM, hl⟩
  clear hv uM hl
  obtain ⟨S, hS⟩ : ∃ S, splitS M = S := ⟨_, rfl⟩
  have HS : Hid (splitS M = S) := hS
  rw [hS]
  clear hS
  go_enter Tryz.func77, Tryz.ntmps77
  go_wp2_with fail
  refine (SplitS_any v M (sl_alloc HX.out.1 _) HX.out.2.1 HX.out.2.2).mono ?_
  rintro e w1 ⟨ha, hb⟩
  unfold SplitAns at ha
  rw [HS.out] at ha
  have hB1 : Blk 24 w1 w.heap.size [.int .i64 0, .int .i64 0, .bool false, .slice none 0 0, .slice none 0 0] := below_blk hb (by simp) (Blk.new _ w _)
  have H1 : Hid (Below w.heap.size w w1 ∧ Blk 24 w1 w.heap.size [.int .i64 0, .int .i64 0, .bool false, .slice none 0 0, .slice none 0 0]) := ⟨below_via (al1 _) hb (Nat.le_refl _), hB1⟩
  have d0 : w1.cell? ⟨w.heap.size, 0, none⟩ = some (.int .i64 0) := hB1.cell 0
  have d1 : w1.cell? ⟨w.heap.size, 1, none⟩ = some (.int .i64 0) := hB1.cell 1
  have d2 : w1.cell? ⟨w.heap.size, 2, none⟩ = some (.bool false) := hB1.cell 2
  have d3 : w1.cell? ⟨w.heap.size, 3, none⟩ = some (.slice none 0 0) := hB1.cell 3
  have d4 : w1.cell? ⟨w.heap.size, 4, none⟩ = some (.slice none 0 0) := hB1.cell 4
  have f0 := hB1.frozen 0
  have f1 := hB1.frozen 1
  have f2 := hB1.frozen 2
  have f3 := hB1.frozen 3
  have f4 := hB1.frozen 4
  have hs1 : w.heap.size < w1.heap.size := hB1.lt
  clear hb hB1
  have hB : Hid (Blk 24 (((((w1.setCell ⟨w.heap.size, 0, none⟩ (.int .i64 0)).setCell ⟨w.heap.size, 1, none⟩ (.int .i64 0)).setCell ⟨w.heap.size, 2, none⟩ (.bool false)).setCell ⟨w.heap.size, 3, none⟩ (.slice none 0 0)).setCell ⟨w.heap.size, 4, none⟩ (.slice none 0 0)) w.heap.size [.int .i64 0, .int .i64 0, .bool false, .slice none 0 0, .slice none 0 0]) :=
    ((((H1.out.2.set 0 (.int .i64 0)).set 1 (.int .i64 0)).set 2 (.bool false)).set 3 (.slice none 0 0)).set 4 (.slice none 0 0)
  have hU : Hid (Upd w1 (((((w1.setCell ⟨w.heap.size, 0, none⟩ (.int .i64 0)).setCell ⟨w.heap.size, 1, none⟩ (.int .i64 0)).setCell ⟨w.heap.size, 2, none⟩ (.bool false)).setCell ⟨w.heap.size, 3, none⟩ (.slice none 0 0)).setCell ⟨w.heap.size, 4, none⟩ (.slice none 0 0)) w.heap.size) :=
    ((((Upd.set w1 w.heap.size 0 (.int .i64 0)).trans (Upd.set _ _ 1 (.int .i64 0))).trans (Upd.set _ _ 2 (.bool false))).trans (Upd.set _ _ 3 (.slice none 0 0))).trans (Upd.set _ _ 4 (.slice none 0 0))
  cases S with
  | inl pq =>
    obtain ⟨er, a⟩ := pq
    have hne0 := splitS_err HX.out.2.1 HS.out
    have hne : (er != 0) = true := by simpa using hne0
    obtain rfl : e = .returned (.tuple #[.slice none 0 0, .int .i64 er, .int .i64 a]) := ha
    go_wp2
    refine bodyPost_ret (results_blk2 rfl rfl hB.out Tryz.underlying24 rfl Tryz.sizeT rfl) rfl ⟨?_, hU.out.below H1.out.1 H1.out.1.size (Nat.le_refl _)⟩
    exact OneOut.no _ _ _ _ rfl
  | inr L =>
    obtain ⟨v2, rfl, ht⟩ : ∃ v, e = .returned (.tuple #[v, .int .i64 0, .int .i64 M.length]) ∧ Tlvs (w.alloc (.cells #[.int .i64 0, .int .i64 0, .bool false, .slice none 0 0, .slice none 0 0] 24)).heap.size w1 v L := ha
    obtain ⟨Y, hYL, hm, hrows, hap⟩ := ht
    obtain ⟨al, cl, hv2⟩ := hm.ne
    obtain ⟨k, hk⟩ : ∃ k, Y.length = k := ⟨_, rfl⟩
    rw [hk] at hv2
    subst hv2
    have hlen := hYL
    cases Y with
    | nil =>
      subst hYL
      have hk0 : 0 = k := hk
      subst hk0
      go_wp2
      refine bodyPost_ret (results_blk2 rfl rfl hB.out Tryz.underlying24 rfl Tryz.sizeT rfl) rfl ⟨?_, hU.out.below H1.out.1 H1.out.1.size (Nat.le_refl _)⟩
      exact OneOut.no _ _ _ _ rfl
    | cons y Y =>
      cases Y with
      | cons y2 Y =>
        subst hYL
        have hk1 : (1 : Int) < (k : Int) := by simp at hk; omega
        have hk2 : ((k : Int) == 0) = false := by simp; omega
        clear hk hm hrows hap hlen
        go_wp2
        refine bodyPost_ret (results_blk2 rfl rfl hB.out Tryz.underlying24 rfl Tryz.sizeT rfl) rfl ⟨?_, hU.out.below H1.out.1 H1.out.1.size (Nat.le_refl _)⟩
        exact OneOut.no _ _ _ _ rfl
      | nil =>
        subst hYL
        have hk1 : 1 = k := hk
        subst hk1
        clear hk hlen hap
        obtain ⟨⟨xc, xt, xo, xd, xr⟩, yd, yr⟩ := y
        have hr1 := hrows _ (List.mem_singleton_self _)
        obtain ⟨a1, c1, hd⟩ := hr1.1.ne
        obtain ⟨a2, c2, hr⟩ := hr1.2.ne
        obtain ⟨n1, hn1⟩ : ∃ n1, xd.length = n1 := ⟨_, rfl⟩
        obtain ⟨n2, hn2⟩ : ∃ n2, xr.length = n2 := ⟨_, rfl⟩
        simp only [] at hd hr
        rw [hn1] at hd
        rw [hn2] at hr
        subst hd
        subst hr
        clear hn1 hn2
        obtain ⟨bl, cl2, hv, hc2, hbl, hbv, hcells⟩ := hm.at (by simp)
        simp only [Value.slice.injEq] at hv
        obtain ⟨rfl, h11, rfl⟩ := hv
        clear h11
        have e0 : w1.cell? ⟨bl, 0, none⟩ = some (.int .i64 xc) := hcells 0 (by simp)
        have e1 : w1.cell? ⟨bl, 1, none⟩ = some (.int .i64 xt) := hcells 1 (by simp)
        have e2 : w1.cell? ⟨bl, 2, none⟩ = some (.bool xo) := hcells 2 (by simp)
        have e3 : w1.cell? ⟨bl, 3, none⟩ = some (.slice a1 n1 c1) := hcells 3 (by simp)
        have e4 : w1.cell? ⟨bl, 4, none⟩ = some (.slice a2 n2 c2) := hcells 4 (by simp)
        have H2 : Hid (Row .u8 5 (w.heap.size + 1) w1 (.slice a1 n1 c1) xd ∧ Row .u8 5 (w.heap.size + 1) w1 (.slice a2 n2 c2) xr) := ⟨by simpa using hr1.1, by simpa using hr1.2⟩
        clear hcells hr1 hm hrows hbl hbv hc2 hs1
        go_wp2
        have hB' := ((((H1.out.2.set 0 (.int .i64 xc)).set 1 (.int .i64 xt)).set 2 (.bool xo)).set 3 (.slice a1 n1 c1)).set 4 (.slice a2 n2 c2)
        have hU' := ((((Upd.set w1 w.heap.size 0 (.int .i64 xc)).trans (Upd.set _ _ 1 (.int .i64 xt))).trans (Upd.set _ _ 2 (.bool xo))).trans (Upd.set _ _ 3 (.slice a1 n1 c1))).trans (Upd.set _ _ 4 (.slice a2 n2 c2))
        refine bodyPost_ret (results_blk2 rfl rfl hB' Tryz.underlying24 rfl Tryz.sizeT rfl) rfl ⟨⟨a1, n1, c1, a2, n2, c2, rfl, ?_, ?_⟩, hU'.below H1.out.1 H1.out.1.size (Nat.le_refl _)⟩
        · exact (H2.out.1.upd hU' (Nat.lt_succ_self _)).mono (Nat.le_succ _)
        · exact (H2.out.2.upd hU' (Nat.lt_succ_self _)).mono (Nat.le_succ _)
end Go.Proofs.YtillkhjihggcjaaGreatDoor
