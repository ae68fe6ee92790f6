/-
  Der: the reader: any head.
-/
import Derived.Test.YtndcpjnfdgojkaaDoorE43
namespace Go.Proofs.YtndcpjnfdgojkaaDoor
open Go.RowKit
theorem and_31u (x : Int) (h : U8 x) : bits .and .u8 x 31 = x % 32 := by
  obtain ⟨h0, h1⟩ := h
  obtain ⟨k, rfl⟩ := Int.eq_ofNat_of_zero_le h0
  have : ∀ y : Fin 256, bits .and .u8 ((y : Nat) : Int) 31 = ((y : Nat) : Int) % 32 := by decide +kernel
  exact this ⟨k, by omega⟩
theorem and_32u (x : Int) (h : U8 x) : (bits .and .u8 x 32 != 0) = decide (x / 32 % 2 = 1) := by
  obtain ⟨h0, h1⟩ := h
  obtain ⟨k, rfl⟩ := Int.eq_ofNat_of_zero_le h0
  have : ∀ y : Fin 256, (bits .and .u8 ((y : Nat) : Int) 32 != 0) = decide (((y : Nat) : Int) / 32 % 2 = 1) := by decide +kernel
  exact this ⟨k, by omega⟩
set_option maxRecDepth 20000 in
set_option maxHeartbeats 4000000 in
theorem headS_any {w : World} (g b off n c p : Nat) (x : Int) (M : List Int) (hR : Rdr w g b off n c p) (hM : Rd .u8 w b off M) (uM : U8s M) (hMl : M.length = n) (hn : n ≤ 16777216) (hb : b < w.heap.size) (hbg : b ≠ g) (hp : p < n) (hx : M.getD p 0 = x) :
    Calls Tryd.prog 58 #[.pointer (some ⟨g, 0, none⟩)] w fun e w' => e = .returned (.tuple #[.agg #[.int .i64 (x / 64), .int .i64 (tagS M p).v, .bool (decide (x / 32 % 2 = 1)), .slice none 0 0, .slice none 0 0], .int .i64 (tagS M p).e]) ∧ Upd w w' g ∧ Rdr w' g b off n c (tagS M p).at := by
  obtain ⟨O, hO⟩ : ∃ O, tagS M p = O := ⟨_, rfl⟩
  have hu8 := uM.at p
  rw [hx] at hu8
  have HX : Hid (Rdr w g b off n c p ∧ Rd .u8 w b off M ∧ U8s M ∧ M.length = n ∧ w.cell? ⟨b, off + p, none⟩ = some (.int .u8 x)) := ⟨hR, hM, uM, hMl, by rw [hM p (by omega), hx]⟩
  have HO : Hid (tagS M p = O ∧ M.getD p 0 = x) := ⟨hO, hx⟩
  obtain ⟨y, hy⟩ : ∃ y, bits .and .u8 x 32 = y := ⟨_, rfl⟩
  have e31 := and_31u x hu8
  obtain ⟨cl, hcl⟩ : ∃ cl, x / 64 = cl := ⟨_, rfl⟩
  obtain ⟨tg, htg⟩ : ∃ tg, x % 32 = tg := ⟨_, rfl⟩
  rw [htg] at e31
  have HC : Hid ((y != 0) = decide (x / 32 % 2 = 1)) := by show _ = _; rw [← hy]; exact and_32u x hu8
  rw [hO, ← HC.out, hcl]
  have HN : Hid (x / 64 = cl ∧ x % 32 = tg ∧ U8 x) := ⟨hcl, htg, hu8⟩
  have c0 : 0 ≤ cl := by have := hu8.1; have := hu8.2; omega
  have c3 : cl ≤ 3 := by have := hu8.1; have := hu8.2; omega
  have t0 : 0 ≤ tg := by omega
  have t1 : tg ≤ 31 := by omega
  obtain ⟨p1, hp1⟩ : ∃ p1, p + 1 = p1 := ⟨_, rfl⟩
  have HP : Hid (p + 1 = p1) := hp1
  have l1 : (p1 : Int) - 1 = (p : Int) := by omega
  clear hR hM uM hMl hO hx hp1 htg hu8
  go_enter Tryd.func58, Tryd.ntmps58
  go_wp2_with fail
  refine (next_any g b off n c p x (HX.out.1.alloc _) hp hn ?_).mono ?_
  · rw [← HX.out.2.2.2.2]; exact (al1 _).cell (p := ⟨b, off + p, none⟩) hb
  rintro e w1 ⟨rfl, hu, hr⟩
  rw [HP.out] at hr
  have hgl := HX.out.1.lt
  have hB1 : Blk 32 w1 w.heap.size [.int .i64 0, .int .i64 0, .bool false, .slice none 0 0, .slice none 0 0] := hu.blk (Blk.new _ w _) (by omega)
  have d0 : w1.cell? ⟨w.heap.size, 0, none⟩ = some (.int .i64 0) := hB1.cell 0
  have d1 : w1.cell? ⟨w.heap.size, 1, none⟩ = some (.int .i64 0) := hB1.cell 1
  have d2 : w1.cell? ⟨w.heap.size, 2, none⟩ = some (.bool false) := hB1.cell 2
  have f0 := hB1.frozen 0
  have f1 := hB1.frozen 1
  have f2 := hB1.frozen 2
  have H1 : Hid (Upd (w.alloc (.cells #[.int .i64 0, .int .i64 0, .bool false, .slice none 0 0, .slice none 0 0] 32)) w1 g ∧ Rdr w1 g b off n c p1 ∧ Blk 32 w1 w.heap.size [.int .i64 0, .int .i64 0, .bool false, .slice none 0 0, .slice none 0 0]) := ⟨hu, hr, hB1⟩
  clear hu hr hB1
  go_upto_region 5 with (fail)
  refine wp_gen (fun W => Upd w1 W w.heap.size ∧ Blk 32 W w.heap.size [.int .i64 cl, .int .i64 tg, .bool (y != 0), .slice none 0 0, .slice none 0 0]) ⟨((Upd.set _ _ _ _).trans (Upd.set _ _ _ _)).trans (Upd.set _ _ _ _), (((H1.out.2.2.set 0 (.int .i64 cl)).set 2 (.bool (y != 0))).set 1 (.int .i64 tg))⟩ ?_
  rintro w2 ⟨hu2, hb2⟩
  clear d0 d1 d2 f0 f1 f2
  have H2 : Hid (Upd w w2 g ∧ Rdr w2 g b off n c p1 ∧ Blk 32 w2 w.heap.size [.int .i64 cl, .int .i64 tg, .bool (y != 0), .slice none 0 0, .slice none 0 0] ∧ Rd .u8 w2 b off M) := by
    have h1 := H1.out.1.old hu2
    exact ⟨h1, hu2.blk H1.out.2.1 (by omega), hb2, h1.rd hb HX.out.2.1 hbg⟩
  clear hu2 hb2
  have d0 : w2.cell? ⟨w.heap.size, 0, none⟩ = some (.int .i64 cl) := H2.out.2.2.1.cell 0
  have d1 : w2.cell? ⟨w.heap.size, 1, none⟩ = some (.int .i64 tg) := H2.out.2.2.1.cell 1
  have d2 : w2.cell? ⟨w.heap.size, 2, none⟩ = some (.bool (y != 0)) := H2.out.2.2.1.cell 2
  have d3 : w2.cell? ⟨w.heap.size, 3, none⟩ = some (.slice none 0 0) := H2.out.2.2.1.cell 3
  have d4 : w2.cell? ⟨w.heap.size, 4, none⟩ = some (.slice none 0 0) := H2.out.2.2.1.cell 4
  have f0 := H2.out.2.2.1.frozen 0
  have f1 := H2.out.2.2.1.frozen 1
  have f2 := H2.out.2.2.1.frozen 2
  have f3 := H2.out.2.2.1.frozen 3
  have f4 := H2.out.2.2.1.frozen 4
  by_cases q1 : tg = 31
  · subst q1
    go_wp2_with fail
    refine (longTag_any g b off n c p1 M H2.out.2.1 H2.out.2.2.2 HX.out.2.2.1 HX.out.2.2.2.1 hn (Nat.lt_of_lt_of_le hb H2.out.1.size) hbg (by have := HP.out; omega)).mono ?_
    have HE : Hid (lng M p1 0 = O) := by
      show _ = _
      rw [← HO.out.1]; unfold tagS; rw [HO.out.2, if_pos HN.out.2.1, HP.out]
    rw [HE.out]
    rintro e w3 ⟨rfl, hu3, hr3⟩
    obtain ⟨V, hV⟩ : ∃ V, O.v = V := ⟨_, rfl⟩
    obtain ⟨N, hN⟩ : ∃ N, O.e = N := ⟨_, rfl⟩
    rw [hV, hN]
    clear d0 d1 d2 d3 d4 f0 f1 f2 f3 f4
    have hB3 := hu3.blk H2.out.2.2.1 (by omega)
    have H3 : Hid (Upd w w3 g ∧ Rdr w3 g b off n c O.at ∧ Blk 32 w3 w.heap.size [.int .i64 cl, .int .i64 31, .bool (y != 0), .slice none 0 0, .slice none 0 0]) := ⟨H2.out.1.trans hu3, hr3, hB3⟩
    have d0 : w3.cell? ⟨w.heap.size, 0, none⟩ = some (.int .i64 cl) := hB3.cell 0
    have d1 : w3.cell? ⟨w.heap.size, 1, none⟩ = some (.int .i64 31) := hB3.cell 1
    have d2 : w3.cell? ⟨w.heap.size, 2, none⟩ = some (.bool (y != 0)) := hB3.cell 2
    have d3 : w3.cell? ⟨w.heap.size, 3, none⟩ = some (.slice none 0 0) := hB3.cell 3
    have d4 : w3.cell? ⟨w.heap.size, 4, none⟩ = some (.slice none 0 0) := hB3.cell 4
    have f0 := hB3.frozen 0
    have f1 := hB3.frozen 1
    have f2 := hB3.frozen 2
    have f3 := hB3.frozen 3
    have f4 := hB3.frozen 4
    clear hu3 hr3 hB3
    go_wp2
    have hB := (((((H3.out.2.2.set 1 (.int .i64 V)).set 0 (.int .i64 cl)).set 1 (.int .i64 V)).set 2 (.bool (y != 0))).set 3 (.slice none 0 0)).set 4 (.slice none 0 0)
    have hU := (((((Upd.set w3 w.heap.size 1 (.int .i64 V)).trans (Upd.set _ _ 0 (.int .i64 cl))).trans (Upd.set _ _ 1 (.int .i64 V))).trans (Upd.set _ _ 2 (.bool (y != 0)))).trans (Upd.set _ _ 3 (.slice none 0 0))).trans (Upd.set _ _ 4 (.slice none 0 0))
    refine bodyPost_ret (results_blk2 rfl rfl hB Tryd.underlying32 rfl Tryd.sizeT rfl) rfl ⟨by rw [hV, hN]; rfl, H3.out.1.more hU (Nat.le_refl _), ?_⟩
    exact hU.blk H3.out.2.1 (by omega)
  have q1b : (tg == 31) = false := by simpa using q1
  obtain ⟨K, hK⟩ : ∃ K, headOk cl tg = K := ⟨_, rfl⟩
  by_cases q2 : K = true
  · subst q2
    have HE : Hid (O = .ok tg p1) := by
      show _ = _
      rw [← HO.out.1]; unfold tagS
      rw [HO.out.2, HN.out.2.1, if_neg q1, if_neg, HP.out]
      unfold headOk at hK
      have := of_decide_eq_true hK
      have := HN.out
      unfold U8 at this
      omega
    go_wp2_with (go_at_call 51; refine (isHead_any cl tg).mono ?_; rw [hK]; rintro e w' ⟨rfl, rfl⟩)
    have hB := ((((H2.out.2.2.1.set 0 (.int .i64 cl)).set 1 (.int .i64 tg)).set 2 (.bool (y != 0))).set 3 (.slice none 0 0)).set 4 (.slice none 0 0)
    have hU := ((((Upd.set w2 w.heap.size 0 (.int .i64 cl)).trans (Upd.set _ _ 1 (.int .i64 tg))).trans (Upd.set _ _ 2 (.bool (y != 0)))).trans (Upd.set _ _ 3 (.slice none 0 0))).trans (Upd.set _ _ 4 (.slice none 0 0))
    rw [HE.out]
    refine bodyPost_ret (results_blk2 rfl rfl hB Tryd.underlying32 rfl Tryd.sizeT rfl) rfl ⟨rfl, H2.out.1.more hU (Nat.le_refl _), ?_⟩
    exact hU.blk H2.out.2.1 (by omega)
  · have q2' : K = false := by simpa using q2
    subst q2'
    have h0 : tg = 0 ∧ x < 64 := by
      unfold headOk at hK
      have := of_decide_eq_false hK
      have := HN.out
      unfold U8 at this
      omega
    have HE : Hid (O = .bad 30 p) := by
      show _ = _
      rw [← HO.out.1]; unfold tagS
      rw [HO.out.2, HN.out.2.1, if_neg q1, if_pos h0]
    obtain ⟨rfl, _⟩ := h0
    have r1 : w2.cell? ⟨g, 1, none⟩ = some (.int .i64 (p1 : Int)) := H2.out.2.1.cell 1
    go_wp2_with (first
      | (go_at_call 51; refine (isHead_any cl 0).mono ?_; rw [hK]; rintro e w' ⟨rfl, rfl⟩))
    refine (fault_any g b off n c p1 p 30 H2.out.2.1).mono ?_
    rintro e w3 ⟨rfl, hu3, hr3⟩
    clear d0 d1 d2 d3 d4 f0 f1 f2 f3 f4
    have hB3 := hu3.blk H2.out.2.2.1 (by omega)
    have H3 : Hid (Upd w w3 g ∧ Rdr w3 g b off n c p ∧ Blk 32 w3 w.heap.size [.int .i64 cl, .int .i64 0, .bool (y != 0), .slice none 0 0, .slice none 0 0]) := ⟨H2.out.1.trans hu3, hr3, hB3⟩
    have d0 : w3.cell? ⟨w.heap.size, 0, none⟩ = some (.int .i64 cl) := hB3.cell 0
    have d1 : w3.cell? ⟨w.heap.size, 1, none⟩ = some (.int .i64 0) := hB3.cell 1
    have d2 : w3.cell? ⟨w.heap.size, 2, none⟩ = some (.bool (y != 0)) := hB3.cell 2
    have d3 : w3.cell? ⟨w.heap.size, 3, none⟩ = some (.slice none 0 0) := hB3.cell 3
    have d4 : w3.cell? ⟨w.heap.size, 4, none⟩ = some (.slice none 0 0) := hB3.cell 4
    have f0 := hB3.frozen 0
    have f1 := hB3.frozen 1
    have f2 := hB3.frozen 2
    have f3 := hB3.frozen 3
    have f4 := hB3.frozen 4
    clear hu3 hr3 hB3
    go_wp2
    have hB := ((((H3.out.2.2.set 0 (.int .i64 cl)).set 1 (.int .i64 0)).set 2 (.bool (y != 0))).set 3 (.slice none 0 0)).set 4 (.slice none 0 0)
    have hU := ((((Upd.set w3 w.heap.size 0 (.int .i64 cl)).trans (Upd.set _ _ 1 (.int .i64 0))).trans (Upd.set _ _ 2 (.bool (y != 0)))).trans (Upd.set _ _ 3 (.slice none 0 0))).trans (Upd.set _ _ 4 (.slice none 0 0))
    rw [HE.out]
    refine bodyPost_ret (results_blk2 rfl rfl hB Tryd.underlying32 rfl Tryd.sizeT rfl) rfl ⟨rfl, H3.out.1.more hU (Nat.le_refl _), ?_⟩
    exact hU.blk H3.out.2.1 (by omega)
end Go.Proofs.YtndcpjnfdgojkaaDoor
