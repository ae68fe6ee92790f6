/-
  Der: a short element.
-/
import Derived.Test.YtndcpjnfdgojkaaDoorE3
namespace Go.Proofs.YtndcpjnfdgojkaaDoor
open Go.RowKit
theorem rd_sl {w : World} {b c : Nat} {M : List Int} (hb : b < w.heap.size) (hr : Rd .u8 w b 0 M) (i j : Nat) (hij : i ≤ j) (hj : j ≤ M.length) (hc : j ≤ c) : Sl .u8 w (.slice (if c = i then some ⟨b, 0, none⟩ else some ⟨b, i, none⟩) (j - i) (c - i)) ((M.drop i).take (j - i)) := by
  have hl : ((M.drop i).take (j - i)).length = j - i := by rw [List.length_take, List.length_drop]; omega
  refine ⟨_, _, by rw [hl], by omega, ?_⟩
  by_cases h : c = i
  · exact .inl (List.eq_nil_of_length_eq_zero (by omega))
  · rw [if_neg h]
    refine .inr ⟨b, i, rfl, hb, fun k hk => ?_⟩
    have := hr (i + k) (by omega)
    rw [Nat.zero_add] at this
    rw [this, List.getD_eq_getElem?_getD, List.getD_eq_getElem?_getD, List.getElem?_take, if_pos (by omega), List.getElem?_drop]
theorem Row.upd {k : IntKind} {e : TypeId} {B : Nat} {w w' : World} {v : Value} {xs : List Int} {g : Nat} (h : Row k e B w v xs) (hu : Upd w w' g) (hg : g < B) : Row k e B w' v xs := by
  rcases h with h | ⟨b, S, rfl, h1, hA, h2⟩
  · exact .inl h
  · exact .inr ⟨b, S, rfl, h1, hu.arr hA (by omega), h2⟩
theorem Upd.more {w w1 w2 : World} {g m : Nat} (h1 : Upd w w1 g) (hu : Upd w1 w2 m) (hm : w.heap.size ≤ m) : Upd w w2 g :=
  ⟨hu.os.trans h1.os, hu.tape.trans h1.tape, hu.output.trans h1.output, Nat.le_trans h1.size hu.size, fun j hj hne => (hu.block j (Nat.lt_of_lt_of_le hj h1.size) (fun e => by simp at e; omega)).trans (h1.block j hj hne)⟩
theorem Below.upd {w w' : World} {g : Nat} (h : Below w.heap.size w w') : Upd w w' g := ⟨h.os, h.tape, h.output, h.size, fun j hj _ => h.block j hj⟩
set_option maxRecDepth 20000 in
set_option maxHeartbeats 2000000 in
theorem element_short {w : World} (g b n c p l : Nat) (M : List Int) (x cl tg y : Int) (hR : Rdr w g b 0 n c p) (hM : Rd .u8 w b 0 M) (hMl : M.length = n) (hn : n ≤ 16777216) (hnc : n ≤ c) (hb : b < w.heap.size) (hbg : b ≠ g)
    (hp : p + 2 + l ≤ n) (ex : M.getD p 0 = x) (el : M.getD (p + 1) 0 = l) (hl : l < 128)
    (e6 : x / 64 = cl) (e31 : bits .and .u8 x 31 = tg) (e32 : bits .and .u8 x 32 = y) (h0 : 0 ≤ cl) (h1 : cl ≤ 3) (h2 : 1 ≤ tg) (h3 : tg ≤ 30) :
    Calls Tryd.prog 36 #[.pointer (some ⟨g, 0, none⟩)] w fun e w' => ∃ d r, e = .returned (.tuple #[.agg #[.int .i64 cl, .int .i64 tg, .bool (y != 0), d, r], .int .i64 0]) ∧ Upd w w' g ∧ Rdr w' g b 0 n c (p + 2 + l) ∧ Row .u8 5 w.heap.size w' d ((M.drop (p + 2)).take l) ∧ Row .u8 5 w.heap.size w' r ((M.drop p).take (2 + l)) := by
  have HX : Hid (Rdr w g b 0 n c p ∧ Rd .u8 w b 0 M ∧ M.length = n ∧ M.getD p 0 = x ∧ M.getD (p + 1) 0 = l) := ⟨hR, hM, hMl, ex, el⟩
  have hgl := hR.lt
  have c1 : w.cell? ⟨g, 1, none⟩ = some (.int .i64 p) := hR.cell 1
  clear hR hM hMl ex el
  go_enter Tryd.func36, Tryd.ntmps36
  go_wp2_with fail
  refine (head_short g b 0 n c p x cl tg y (HX.out.1.alloc _) (by omega) hn ?_ ?_ e6 e31 e32 h0 h1 h2 h3).mono ?_
  · rw [(al1 _).cell (p := ⟨b, 0 + p, none⟩) hb, HX.out.2.1 p (by have := HX.out.2.2.1; omega), HX.out.2.2.2.1]
  · exact Nat.lt_of_lt_of_le hb (al1 _).size
  rintro e w1 ⟨rfl, hu, hr⟩
  have hB1 : Blk 32 w1 w.heap.size [.int .i64 0, .int .i64 0, .bool false, .slice none 0 0, .slice none 0 0] := hu.blk (Blk.new _ w _) (by omega)
  have H1 : Hid (Upd (w.alloc (.cells #[.int .i64 0, .int .i64 0, .bool false, .slice none 0 0, .slice none 0 0] 32)) w1 g ∧ Rdr w1 g b 0 n c (p + 1) ∧ Blk 32 w1 w.heap.size [.int .i64 0, .int .i64 0, .bool false, .slice none 0 0, .slice none 0 0]) := ⟨hu, hr, hB1⟩
  have d0 : w1.cell? ⟨w.heap.size, 0, none⟩ = some (.int .i64 0) := hB1.cell 0
  have d1 : w1.cell? ⟨w.heap.size, 1, none⟩ = some (.int .i64 0) := hB1.cell 1
  have d2 : w1.cell? ⟨w.heap.size, 2, none⟩ = some (.bool false) := hB1.cell 2
  have d3 : w1.cell? ⟨w.heap.size, 3, none⟩ = some (.slice none 0 0) := hB1.cell 3
  have d4 : w1.cell? ⟨w.heap.size, 4, none⟩ = some (.slice none 0 0) := hB1.cell 4
  have f0 := hB1.frozen 0
  have f1 := hB1.frozen 1
  have f2 := hB1.frozen 2
  have f3 := hB1.frozen 3
  have f4 := hB1.frozen 4
  clear hu hr hB1 c1
  go_upto_region 5 with (fail)
  refine wp_gen (fun W => Upd w1 W w.heap.size ∧ Blk 32 W w.heap.size [.int .i64 cl, .int .i64 tg, .bool (y != 0), .slice none 0 0, .slice none 0 0]) ⟨((((Upd.set _ _ _ _).trans (Upd.set _ _ _ _)).trans (Upd.set _ _ _ _)).trans (Upd.set _ _ _ _)).trans (Upd.set _ _ _ _), ((((H1.out.2.2.set 0 (.int .i64 cl)).set 1 (.int .i64 tg)).set 2 (.bool (y != 0))).set 3 (.slice none 0 0)).set 4 (.slice none 0 0)⟩ ?_
  rintro w2 ⟨hu2, hb2⟩
  clear d0 d1 d2 d3 d4 f0 f1 f2 f3 f4
  have H2 : Hid (Upd w w2 g ∧ Rdr w2 g b 0 n c (p + 1) ∧ Blk 32 w2 w.heap.size [.int .i64 cl, .int .i64 tg, .bool (y != 0), .slice none 0 0, .slice none 0 0] ∧ Rd .u8 w2 b 0 M) := by
    have h1 := H1.out.1.old hu2
    exact ⟨h1, hu2.blk H1.out.2.1 (by omega), hb2, h1.rd hb HX.out.2.1 hbg⟩
  clear hu2 hb2
  go_wp2_with fail
  refine (length_short g b 0 n c (p + 1) l H2.out.2.1 (by omega) hn ?_ (by omega) (by omega) (by omega)).mono ?_
  · rw [H2.out.2.2.2 (p + 1) (by have := HX.out.2.2.1; omega), HX.out.2.2.2.2]
  rintro e w3 ⟨rfl, hu3, hr3⟩
  obtain ⟨A, hA⟩ : ∃ A, p + 1 + 1 = A := ⟨_, rfl⟩
  obtain ⟨E, hE⟩ : ∃ E, A + l = E := ⟨_, rfl⟩
  have hEI : (A : Int) + (l : Int) = (E : Int) := by omega
  have HA : Hid (p + 1 + 1 = A ∧ A + l = E) := ⟨hA, hE⟩
  have hAE : A ≤ E := by omega
  have hEn : E ≤ n := by omega
  rw [hA] at hr3
  have r0 : w3.cell? ⟨g, 0, none⟩ = some (.slice (some ⟨b, 0, none⟩) n c) := hr3.cell 0
  have r1 : w3.cell? ⟨g, 1, none⟩ = some (.int .i64 (A : Int)) := hr3.cell 1
  have fr := hr3.frozen 1
  have H3 : Hid (Upd w w3 g ∧ Rdr w3 g b 0 n c A ∧ Blk 32 w3 w.heap.size [.int .i64 cl, .int .i64 tg, .bool (y != 0), .slice none 0 0, .slice none 0 0] ∧ Rd .u8 w3 b 0 M) := by
    have h1 := H2.out.1.trans hu3
    exact ⟨h1, hr3, hu3.blk H2.out.2.2.1 (by omega), h1.rd hb HX.out.2.1 hbg⟩
  clear hu3 hr3 hA hE
  go_upto_region 10 with (fail)
  refine wp_gen (fun W => Upd w W g ∧ Rdr W g b 0 n c E ∧ Blk 32 W w.heap.size [.int .i64 cl, .int .i64 tg, .bool (y != 0), .slice none 0 0, .slice none 0 0] ∧ Rd .u8 W b 0 M) ?_ ?_
  · have hu := Upd.set w3 g 1 (.int .i64 (E : Int))
    have h1 := H3.out.1.trans hu
    have h5 : Rdr (w3.setCell ⟨g, 1, none⟩ (.int .i64 (E : Int))) g b 0 n c E := H3.out.2.1.set 1 (.int .i64 (E : Int))
    rw [← hEI] at *
    exact ⟨h1, h5, hu.blk H3.out.2.2.1 (by omega), h1.rd hb HX.out.2.1 hbg⟩
  rintro w4 h4
  have H4 : Hid (Upd w w4 g ∧ Rdr w4 g b 0 n c E ∧ Blk 32 w4 w.heap.size [.int .i64 cl, .int .i64 tg, .bool (y != 0), .slice none 0 0, .slice none 0 0] ∧ Rd .u8 w4 b 0 M) := h4
  have q0 : w4.cell? ⟨g, 0, none⟩ = some (.slice (some ⟨b, 0, none⟩) n c) := h4.2.1.cell 0
  have q1 : w4.cell? ⟨g, 1, none⟩ = some (.int .i64 (E : Int)) := h4.2.1.cell 1
  have d3 : w4.cell? ⟨w.heap.size, 3, none⟩ = some (.slice none 0 0) := h4.2.2.1.cell 3
  have f3 := h4.2.2.1.frozen 3
  obtain ⟨ba, hba⟩ : ∃ ba : Option Addr, (if c = A then some ⟨b, 0, none⟩ else some ⟨b, A, none⟩) = ba := ⟨_, rfl⟩
  have HC : Hid (∀ W : World, Rd .u8 W b 0 M → b < W.heap.size → Sl .u8 W (.slice ba (E - A) (c - A)) ((M.drop (p + 2)).take l)) := fun W h hb' => by
    have h1 := HA.out
    have := rd_sl (c := c) hb' h A E hAE (by have := HX.out.2.2.1; omega) (by omega)
    have e : (M.drop (p + 2)).take l = (M.drop A).take (E - A) := by rw [show E - A = l by omega, show A = p + 2 by omega]
    rw [e, ← hba]; exact this
  have hAEI : (A : Int) ≤ (E : Int) := by omega
  have hEcI : (E : Int) ≤ (c : Int) := by omega
  have hb4 : b < w4.heap.size := Nat.lt_of_lt_of_le hb H4.out.1.size
  have hg4 : g < w4.heap.size := Nat.lt_of_lt_of_le hgl H4.out.1.size
  have hgw : ¬ g = w.heap.size := by omega
  have hwg : ¬ w.heap.size = g := by omega
  clear h4 r0 r1 fr hEI d3 f3
  refine wp_region_qsd 10 (by kernel_rfl) (by kernel_rfl) ?_
  simp only [List.take_succ_cons, List.take_zero, List.drop_succ_cons, List.drop_zero]
  repeat (go_big_quiet_step (fail))
  refine wpQuiet_nil ?_
  rintro _ ⟨q2, rfl⟩
  go_wp2_with fail
  refine (copied_any (w := w4.drewN q2) _ ((M.drop (p + 2)).take l) (HC.out _ (by exact H4.out.2.2.2) (by exact hb4)) (by rw [List.length_take]; omega)).mono ?_
  rintro e w5 ⟨r5, rfl, hr5, hb5⟩
  obtain ⟨a5, c5, hv5⟩ := hr5.ne
  obtain ⟨n5, hn5⟩ : ∃ n, ((M.drop (p + 2)).take l).length = n := ⟨_, rfl⟩
  rw [hn5] at hv5
  subst hv5
  clear hn5
  have hu5 : ∀ g', Upd w4 w5 g' := fun g' => Upd.trans (w' := w4.drewN q2) ⟨rfl, rfl, rfl, Nat.le_refl _, fun _ _ _ => rfl⟩ (Below.upd hb5)
  have hsz4 : w.heap.size < w4.heap.size := H4.out.2.2.1.lt
  have hB5 : Blk 32 w5 w.heap.size [.int .i64 cl, .int .i64 tg, .bool (y != 0), .slice none 0 0, .slice none 0 0] := (hu5 g).blk H4.out.2.2.1 (by omega)
  have H5 : Hid ((∀ g', Upd w4 w5 g') ∧ Blk 32 w5 w.heap.size [.int .i64 cl, .int .i64 tg, .bool (y != 0), .slice none 0 0, .slice none 0 0] ∧ Row .u8 5 w4.heap.size w5 (Value.slice a5 n5 c5) ((M.drop (p + 2)).take l)) := ⟨hu5, hB5, hr5⟩
  have d3 : w5.cell? ⟨w.heap.size, 3, none⟩ = some (.slice none 0 0) := hB5.cell 3
  have f3 := hB5.frozen 3
  clear hr5 hb5 hu5 hB5 q0 q1 hba
  go_upto_region 11 with (fail)
  refine wp_gen (fun W => Upd w W g ∧ Rdr W g b 0 n c E ∧ Blk 32 W w.heap.size [.int .i64 cl, .int .i64 tg, .bool (y != 0), (Value.slice a5 n5 c5), .slice none 0 0] ∧ Rd .u8 W b 0 M ∧ Row .u8 5 w4.heap.size W (Value.slice a5 n5 c5) ((M.drop (p + 2)).take l) ∧ w4.heap.size ≤ W.heap.size) ?_ ?_
  · have hu := Upd.set w5 w.heap.size 3 (Value.slice a5 n5 c5)
    have h1 : Upd w w5 g := H4.out.1.trans (H5.out.1 g)
    have h2 : Upd w (w5.setCell ⟨w.heap.size, 3, none⟩ (Value.slice a5 n5 c5)) g := ⟨hu.os.trans h1.os, hu.tape.trans h1.tape, hu.output.trans h1.output, Nat.le_trans h1.size hu.size, fun j hj hne => (hu.block j (Nat.lt_of_lt_of_le hj h1.size) (fun e => by simp at e; omega)).trans (h1.block j hj hne)⟩
    have h3 : Rdr w5 g b 0 n c E := (H5.out.1 w.heap.size).blk H4.out.2.1 (by omega)
    exact ⟨h2, hu.blk h3 (by omega), H5.out.2.1.set 3 (Value.slice a5 n5 c5), h2.rd hb HX.out.2.1 hbg, H5.out.2.2.upd hu hsz4, Nat.le_trans (H5.out.1 g).size hu.size⟩
  rintro w6 h6
  have H6 : Hid (Upd w w6 g ∧ Rdr w6 g b 0 n c E ∧ Blk 32 w6 w.heap.size [.int .i64 cl, .int .i64 tg, .bool (y != 0), (Value.slice a5 n5 c5), .slice none 0 0] ∧ Rd .u8 w6 b 0 M ∧ Row .u8 5 w4.heap.size w6 (Value.slice a5 n5 c5) ((M.drop (p + 2)).take l) ∧ w4.heap.size ≤ w6.heap.size) := h6
  have q0 : w6.cell? ⟨g, 0, none⟩ = some (.slice (some ⟨b, 0, none⟩) n c) := h6.2.1.cell 0
  have q1 : w6.cell? ⟨g, 1, none⟩ = some (.int .i64 (E : Int)) := h6.2.1.cell 1
  have HC2 : Hid (∀ W : World, Rd .u8 W b 0 M → b < W.heap.size → Sl .u8 W (.slice (some ⟨b, p, none⟩) (E - p) (c - p)) ((M.drop p).take (2 + l))) := fun W h hb' => by
    have h1 := HA.out
    have := rd_sl (c := c) hb' h p E (by omega) (by have := HX.out.2.2.1; omega) (by omega)
    have e : (M.drop p).take (2 + l) = (M.drop p).take (E - p) := by rw [show E - p = 2 + l by omega]
    rw [if_neg (by omega)] at this
    rw [e]; exact this
  have hpEI : (p : Int) ≤ (E : Int) := by have := HA.out; omega
  have hb6 : b < w6.heap.size := Nat.lt_of_lt_of_le hb H6.out.1.size
  clear h6 d3 f3
  refine wp_region_qsd 10 (by kernel_rfl) (by kernel_rfl) ?_
  simp only [List.take_succ_cons, List.take_zero, List.drop_succ_cons, List.drop_zero]
  repeat (go_big_quiet_step (fail))
  refine wpQuiet_nil ?_
  rintro _ ⟨q3, rfl⟩
  go_wp2_with fail
  refine (copied_any (w := w6.drewN q3) _ ((M.drop p).take (2 + l)) (HC2.out _ (by exact H6.out.2.2.2.1) (by exact hb6)) (by rw [List.length_take]; omega)).mono ?_
  rintro e w7 ⟨r7, rfl, hr7, hb7⟩
  obtain ⟨a7, c7, hv7⟩ := hr7.ne
  obtain ⟨n7, hn7⟩ : ∃ n, ((M.drop p).take (2 + l)).length = n := ⟨_, rfl⟩
  rw [hn7] at hv7
  subst hv7
  clear hn7
  have hu7 : ∀ g', Upd w6 w7 g' := fun g' => Upd.trans (w' := w6.drewN q3) ⟨rfl, rfl, rfl, Nat.le_refl _, fun _ _ _ => rfl⟩ (Below.upd hb7)
  have hB7 : Blk 32 w7 w.heap.size [.int .i64 cl, .int .i64 tg, .bool (y != 0), (Value.slice a5 n5 c5), .slice none 0 0] := (hu7 g).blk H6.out.2.2.1 (by omega)
  have hsz6 := H6.out.2.2.2.2.2
  have H7 : Hid ((∀ g', Upd w6 w7 g') ∧ Blk 32 w7 w.heap.size [.int .i64 cl, .int .i64 tg, .bool (y != 0), (Value.slice a5 n5 c5), .slice none 0 0] ∧ Row .u8 5 w6.heap.size w7 (Value.slice a7 n7 c7) ((M.drop p).take (2 + l)) ∧ Row .u8 5 w4.heap.size w7 (Value.slice a5 n5 c5) ((M.drop (p + 2)).take l)) := ⟨hu7, hB7, hr7, H6.out.2.2.2.2.1.below ⟨(hu7 g).os, (hu7 g).tape, (hu7 g).output, (hu7 g).size, fun j hj => (hu7 w6.heap.size).block j hj (fun e => by simp at e; omega)⟩⟩
  have d0 : w7.cell? ⟨w.heap.size, 0, none⟩ = some (.int .i64 cl) := hB7.cell 0
  have d1 : w7.cell? ⟨w.heap.size, 1, none⟩ = some (.int .i64 tg) := hB7.cell 1
  have d2 : w7.cell? ⟨w.heap.size, 2, none⟩ = some (.bool (y != 0)) := hB7.cell 2
  have d3 : w7.cell? ⟨w.heap.size, 3, none⟩ = some (Value.slice a5 n5 c5) := hB7.cell 3
  have d4 : w7.cell? ⟨w.heap.size, 4, none⟩ = some (.slice none 0 0) := hB7.cell 4
  have f0 := hB7.frozen 0
  have f1 := hB7.frozen 1
  have f2 := hB7.frozen 2
  have f3 := hB7.frozen 3
  have f4 := hB7.frozen 4
  clear hr7 hb7 hu7 hB7 q0 q1
  go_wp2
  have hB := (((((H7.out.2.1.set 4 (Value.slice a7 n7 c7)).set 0 (.int .i64 cl)).set 1 (.int .i64 tg)).set 2 (.bool (y != 0))).set 3 (Value.slice a5 n5 c5)).set 4 (Value.slice a7 n7 c7)
  have hU := (((((Upd.set w7 w.heap.size 4 (Value.slice a7 n7 c7)).trans (Upd.set _ _ 0 (.int .i64 cl))).trans (Upd.set _ _ 1 (.int .i64 tg))).trans (Upd.set _ _ 2 (.bool (y != 0)))).trans (Upd.set _ _ 3 (Value.slice a5 n5 c5))).trans (Upd.set _ _ 4 (Value.slice a7 n7 c7))
  have h6s := H6.out.2.2.2.2.2
  refine bodyPost_ret (results_blk2 rfl rfl hB Tryd.underlying32 rfl Tryd.sizeT rfl) rfl ⟨_, _, rfl, (H6.out.1.trans (H7.out.1 g)).more hU (Nat.le_refl _), ?_, ?_, ?_⟩
  · have h3 : Rdr w7 g b 0 n c E := (H7.out.1 w.heap.size).blk H6.out.2.1 (by omega)
    have := HA.out
    rw [show p + 2 + l = E by omega]
    exact hU.blk h3 (by omega)
  · exact (H7.out.2.2.2.upd hU hsz4).mono (by omega)
  · exact (H7.out.2.2.1.upd hU (by omega)).mono (by omega)
end Go.Proofs.YtndcpjnfdgojkaaDoor
