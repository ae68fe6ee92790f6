/-
  Der: the reader: any length.
-/
import Derived.Test.YtedoghjefdkmaaaK11
namespace Go.Proofs.Ytedoghjefdkmaaa
open Go.RowKit
theorem upd_drewN (w : World) (n g : Nat) : Upd w (w.drewN n) g := ⟨rfl, rfl, rfl, Nat.le_refl _, fun _ _ _ => rfl⟩
theorem lenS_128 {M : List Int} {p : Nat} {x : Int} (hp : p < M.length) (hx : M.getD p 0 = x) (h : x = 128 ∨ x = 255) : lenS M p = .bad 31 p := by
  unfold lenS; rw [hx, if_neg (by omega), if_pos h]
theorem lenS_lo {M : List Int} {p : Nat} {x : Int} (hp : p < M.length) (hx : M.getD p 0 = x) (h : x < 128) : lenS M p = if (M.length : Int) < p + 1 + x then .bad 31 p else .ok x (p + 1) := by
  unfold lenS; rw [hx, if_neg (by omega), if_neg (by omega), if_pos h]
theorem lenS_hi {M : List Int} {p k : Nat} {x F : Int} {D : Bool} (hp : p < M.length) (hx : M.getD p 0 = x) (h : 128 < x) (h2 : x < 255) (hk : x - 128 = k) (hF : fold8 M (p + 1) k = F) (hD : decide (M.getD (p + 1) 0 ≠ 0 ∧ 128 ≤ F) = D) :
    lenS M p = if M.length < p + 1 + k then .bad 2 M.length else if D = false then .bad 31 p else if (M.length : Int) - (p + 1 + k : Nat) < F then .bad 31 p else .ok F (p + 1 + k) := by
  unfold lenS
  rw [hx, if_neg (by omega), if_neg (by omega), if_neg (by omega), show (x - 128).toNat = k by omega, hF]
  split
  · rfl
  by_cases hd : D = false
  · rw [if_pos hd, if_pos]
    rw [hd] at hD
    have : ¬ (M.getD (p + 1) 0 ≠ 0 ∧ 128 ≤ F) := of_decide_eq_false hD
    by_cases h0 : M.getD (p + 1) 0 = 0
    · exact .inr h0
    · refine .inl ?_
      by_cases h1 : 128 ≤ F
      · exact absurd ⟨h0, h1⟩ this
      · omega
  · have hd' : D = true := by simpa using hd
    rw [hd'] at hD
    have := of_decide_eq_true hD
    rw [if_neg hd, if_neg (by omega)]
set_option maxRecDepth 20000 in
set_option maxHeartbeats 4000000 in
theorem lengthS_any {w : World} (g b off n c p : Nat) (M : List Int) (hR : Rdr w g b off n c p) (hM : Rd .u8 w b off M) (uM : U8s M) (hMl : M.length = n) (hn : n ≤ 16777216) (hb : b < w.heap.size) (hbg : b ≠ g) (hp : p ≤ n) :
    Calls Try.prog 58 #[.pointer (some ⟨g, 0, none⟩)] w fun e w' => e = .returned (.tuple #[.int .i64 (lenS M p).v, .int .i64 (lenS M p).e]) ∧ Upd w w' g ∧ Rdr w' g b off n c (lenS M p).at := by
  have HX : Hid (Rdr w g b off n c p ∧ Rd .u8 w b off M ∧ U8s M ∧ M.length = n) := ⟨hR, hM, uM, hMl⟩
  have c1 : w.cell? ⟨g, 1, none⟩ = some (.int .i64 p) := hR.cell 1
  obtain ⟨O, hO⟩ : ∃ O, lenS M p = O := ⟨_, rfl⟩
  have HO : Hid (lenS M p = O) := hO
  rw [hO]
  clear hR hM uM hMl hO
  by_cases hlt : p < n
  · obtain ⟨x, hx⟩ : ∃ x, M.getD p 0 = x := ⟨_, rfl⟩
    have hxu := HX.out.2.2.1.at p
    rw [hx] at hxu
    obtain ⟨x0, x1⟩ := hxu
    have HXx : Hid (M.getD p 0 = x) := hx
    have HN : Hid (w.cell? ⟨b, off + p, none⟩ = some (.int .u8 x)) := by
      show _ = _
      rw [HX.out.2.1 p (by have := HX.out.2.2.2; omega), hx]
    clear hx
    obtain ⟨p1, hp1⟩ : ∃ p1, p + 1 = p1 := ⟨_, rfl⟩
    have HP : Hid (p + 1 = p1) := hp1
    have l1 : (p1 : Int) = (p : Int) + 1 := by omega
    have l2 : (p1 : Int) ≤ (n : Int) := by omega
    clear hp1
    by_cases q1 : x = 128 ∨ x = 255
    · have HE : Hid (O = .bad 31 p) := by show _ = _; rw [← HO.out]; exact lenS_128 (by have := HX.out.2.2.2; omega) HXx.out q1
      rcases q1 with rfl | rfl
      all_goals
        go_enter Try.func58, Try.ntmps58
        go_wp2_with fail
        refine (next_any g b off n c p _ HX.out.1 hlt hn HN.out).mono ?_
        rintro e w1 ⟨rfl, hu, hr⟩
        have H1 : Hid (Upd w w1 g ∧ Rdr w1 g b off n c (p + 1)) := ⟨hu, hr⟩
        clear hu hr c1
        go_wp2_with (go_at_call 79; refine (fault_any g b off n c (p + 1) p 31 H1.out.2).mono ?_; rintro e w2 ⟨rfl, hu2, hr2⟩)
        go_ret2
        rw [HE.out]
        exact ⟨rfl, H1.out.1.trans hu2, hr2⟩
    have n1 : (x != 128) = true := by simp; omega
    have n2 : (x != 255) = true := by simp; omega
    by_cases q2 : x < 128
    · have HE : Hid (O = if (n : Int) < p + 1 + x then .bad 31 p else .ok x p1) := by
        show _ = _
        have h1 := lenS_lo (by have := HX.out.2.2.2; omega) HXx.out q2
        rw [HO.out, HX.out.2.2.2, HP.out] at h1
        exact h1
      have n3 : ¬ 128 < x := by omega
      go_enter Try.func58, Try.ntmps58
      go_wp2_with fail
      refine (next_any g b off n c p x HX.out.1 hlt hn HN.out).mono ?_
      rintro e w1 ⟨rfl, hu, hr⟩
      rw [HP.out] at hr
      have H1 : Hid (Upd w w1 g ∧ Rdr w1 g b off n c p1) := ⟨hu, hr⟩
      have d0 : w1.cell? ⟨g, 0, none⟩ = some (.slice (some ⟨b, off, none⟩) n c) := hr.cell 0
      have d1 : w1.cell? ⟨g, 1, none⟩ = some (.int .i64 (p1 : Int)) := hr.cell 1
      clear hu hr c1
      go_upto_region 11 with (fail)
      by_cases q3 : (n : Int) - (p1 : Int) < x
      · go_quiet (fail)
        go_wp2_with (go_at_call 79; refine (fault_any g b off n c p1 p 31 (H1.out.2.drewN _)).mono ?_; rintro e w2 ⟨rfl, hu2, hr2⟩)
        go_ret2
        rw [HE.out, if_pos (by omega)]
        exact ⟨rfl, (H1.out.1.trans (upd_drewN _ _ _)).trans hu2, hr2⟩
      · go_quiet (fail)
        go_wp2
        go_ret2
        rw [HE.out, if_neg (by omega)]
        exact ⟨rfl, H1.out.1.trans ⟨rfl, rfl, rfl, Nat.le_refl _, fun _ _ _ => rfl⟩, H1.out.2⟩
    · obtain ⟨k, hk⟩ : ∃ k : Nat, x - 128 = k := ⟨(x - 128).toNat, by omega⟩
      have k1 : 0 < k := by omega
      have k2 : k ≤ 127 := by omega
      have k3 : 128 < x := by omega
      have k4 : x < 255 := by omega
      obtain ⟨F, hF⟩ : ∃ F, fold8 M p1 k = F := ⟨_, rfl⟩
      obtain ⟨D, hD⟩ : ∃ D : Bool, decide (M.getD p1 0 ≠ 0 ∧ 128 ≤ F) = D := ⟨_, rfl⟩
      have HE : Hid (O = if n < p1 + k then .bad 2 n else if D = false then .bad 31 p else if (n : Int) - (p1 + k : Nat) < F then .bad 31 p else .ok F (p1 + k)) := by
        show _ = _
        have h1 := lenS_hi (F := F) (D := D) (by have := HX.out.2.2.2; omega) HXx.out k3 k4 hk (by rw [HP.out]; exact hF) (by rw [HP.out]; exact hD)
        rw [HO.out, HX.out.2.2.2, HP.out] at h1
        exact h1
      have hFb := fold8_bd HX.out.2.2.1 p1 k
      rw [hF] at hFb
      obtain ⟨F0, F1⟩ := hFb
      have HFD : Hid (fold8 M p1 k = F ∧ decide (M.getD p1 0 ≠ 0 ∧ 128 ≤ F) = D) := ⟨hF, hD⟩
      clear hF hD
      go_enter Try.func58, Try.ntmps58
      go_wp2_with fail
      refine (next_any g b off n c p x HX.out.1 hlt hn HN.out).mono ?_
      rintro e w1 ⟨rfl, hu, hr⟩
      rw [HP.out] at hr
      have H1 : Hid (Upd w w1 g ∧ Rdr w1 g b off n c p1) := ⟨hu, hr⟩
      clear hu hr c1
      go_wp2_with fail
      refine (longLength_any g b off n c p1 k M H1.out.2 (H1.out.1.rd hb HX.out.2.1 hbg) HX.out.2.2.1 HX.out.2.2.2 hn (Nat.lt_of_lt_of_le hb H1.out.1.size) hbg (by omega) k1 k2).mono ?_
      rintro e w2 hL
      rw [HFD.out.1, HFD.out.2] at hL
      rcases hL with ⟨hs, rfl, hu, hr⟩ | ⟨hs, rfl, hu, hr⟩
      · have H2 : Hid (Upd w w2 g ∧ Rdr w2 g b off n c n) := ⟨H1.out.1.trans hu, hr⟩
        clear hu hr
        go_wp2
        go_ret2
        rw [HE.out, if_pos hs]
        exact ⟨rfl, H2.out.1, H2.out.2⟩
      · obtain ⟨p2, hp2⟩ : ∃ p2, p1 + k = p2 := ⟨_, rfl⟩
        rw [hp2] at hr hs
        have H2 : Hid (Upd w w2 g ∧ Rdr w2 g b off n c p2 ∧ p1 + k = p2) := ⟨H1.out.1.trans hu, hr, hp2⟩
        have d0 : w2.cell? ⟨g, 0, none⟩ = some (.slice (some ⟨b, off, none⟩) n c) := hr.cell 0
        have d1 : w2.cell? ⟨g, 1, none⟩ = some (.int .i64 (p2 : Int)) := hr.cell 1
        clear hu hr hp2
        by_cases hd : D = true
        · subst hd
          have hsI : (p2 : Int) ≤ (n : Int) := by omega
          go_upto_region 11 with (fail)
          by_cases q3 : (n : Int) - (p2 : Int) < F
          · go_quiet (fail)
            go_wp2_with (go_at_call 79; refine (fault_any g b off n c p2 p 31 (H2.out.2.1.drewN _)).mono ?_; rintro e w3 ⟨rfl, hu2, hr2⟩)
            go_ret2
            rw [HE.out, H2.out.2.2, if_neg (by omega), if_neg (by simp), if_pos (by omega)]
            exact ⟨rfl, (H2.out.1.trans (upd_drewN _ _ _)).trans hu2, hr2⟩
          · go_quiet (fail)
            go_wp2
            go_ret2
            rw [HE.out, H2.out.2.2, if_neg (by omega), if_neg (by simp), if_neg (by omega)]
            exact ⟨rfl, H2.out.1.trans ⟨rfl, rfl, rfl, Nat.le_refl _, fun _ _ _ => rfl⟩, H2.out.2.1⟩
        · have hd' : D = false := by simpa using hd
          subst hd'
          go_wp2_with (go_at_call 79; refine (fault_any g b off n c p2 p 31 H2.out.2.1).mono ?_; rintro e w3 ⟨rfl, hu2, hr2⟩)
          go_ret2
          rw [HE.out, H2.out.2.2, if_neg (by omega), if_pos (by simp)]
          exact ⟨rfl, H2.out.1.trans hu2, hr2⟩
  · obtain rfl : p = n := by omega
    go_enter Try.func58, Try.ntmps58
    go_wp2_with fail
    refine (next_end g b off p c HX.out.1).mono ?_
    rintro e w1 ⟨rfl, hu, hr⟩
    have H1 : Hid (Upd w w1 g ∧ Rdr w1 g b off p c p) := ⟨hu, hr⟩
    clear hu hr c1
    go_wp2
    go_ret2
    have h1 := HO.out
    unfold lenS at h1
    rw [if_pos (by have := HX.out.2.2.2; omega), HX.out.2.2.2] at h1
    subst h1
    exact ⟨rfl, H1.out.1, H1.out.2⟩
end Go.Proofs.Ytedoghjefdkmaaa
/-
  Der: the reader: any head.
-/
namespace Go.Proofs.Ytedoghjefdkmaaa
open Go.RowKit
theorem and_31u (x : Int) (h : U8 x) : bits .and .u8 x 31 = x % 32 := by
  obtain ⟨h0, h1⟩ := h
  obtain ⟨k, rfl⟩ := Int.eq_ofNat_of_zero_le h0
  have : ∀ y : Fin 256, bits .and .u8 ((y : Nat) : Int) 31 = ((y : Nat) : Int) % 32 := by decide +kernel
  exact this ⟨k, by omega⟩
theorem and_32u (x : Int) (h : U8 x) : (bits .and .u8 x 32 != 0) = decide (x / 32 % 2 = 1) := by
  obtain ⟨h0, h1⟩ := h
  obtain ⟨k, rfl⟩ := Int.eq_ofNat_of_zero_le h0
  have : ∀ y : Fin 256, (bits .and .u8 ((y : Nat) : Int) 32 != 0) = decide (((y : Nat) : Int) / 32 % 2 = 1) := by decide +kernel
  exact this ⟨k, by omega⟩
set_option maxRecDepth 20000 in
set_option maxHeartbeats 4000000 in
theorem headS_any {w : World} (g b off n c p : Nat) (x : Int) (M : List Int) (hR : Rdr w g b off n c p) (hM : Rd .u8 w b off M) (uM : U8s M) (hMl : M.length = n) (hn : n ≤ 16777216) (hb : b < w.heap.size) (hbg : b ≠ g) (hp : p < n) (hx : M.getD p 0 = x) :
    Calls Try.prog 57 #[.pointer (some ⟨g, 0, none⟩)] w fun e w' => e = .returned (.tuple #[.agg #[.int .i64 (x / 64), .int .i64 (tagS M p).v, .bool (decide (x / 32 % 2 = 1)), .slice none 0 0, .slice none 0 0], .int .i64 (tagS M p).e]) ∧ Upd w w' g ∧ Rdr w' g b off n c (tagS M p).at := by
  obtain ⟨O, hO⟩ : ∃ O, tagS M p = O := ⟨_, rfl⟩
  have hu8 := uM.at p
  rw [hx] at hu8
  have HX : Hid (Rdr w g b off n c p ∧ Rd .u8 w b off M ∧ U8s M ∧ M.length = n ∧ w.cell? ⟨b, off + p, none⟩ = some (.int .u8 x)) := ⟨hR, hM, uM, hMl, by rw [hM p (by omega), hx]⟩
  have HO : Hid (tagS M p = O ∧ M.getD p 0 = x) := ⟨hO, hx⟩
  obtain ⟨y, hy⟩ : ∃ y, bits .and .u8 x 32 = y := ⟨_, rfl⟩
  have e31 := and_31u x hu8
  obtain ⟨cl, hcl⟩ : ∃ cl, x / 64 = cl := ⟨_, rfl⟩
  obtain ⟨tg, htg⟩ : ∃ tg, x % 32 = tg := ⟨_, rfl⟩
  rw [htg] at e31
  have HC : Hid ((y != 0) = decide (x / 32 % 2 = 1)) := by show _ = _; rw [← hy]; exact and_32u x hu8
  rw [hO, ← HC.out, hcl]
  have HN : Hid (x / 64 = cl ∧ x % 32 = tg ∧ U8 x) := ⟨hcl, htg, hu8⟩
  have c0 : 0 ≤ cl := by have := hu8.1; have := hu8.2; omega
  have c3 : cl ≤ 3 := by have := hu8.1; have := hu8.2; omega
  have t0 : 0 ≤ tg := by omega
  have t1 : tg ≤ 31 := by omega
  obtain ⟨p1, hp1⟩ : ∃ p1, p + 1 = p1 := ⟨_, rfl⟩
  have HP : Hid (p + 1 = p1) := hp1
  have l1 : (p1 : Int) - 1 = (p : Int) := by omega
  clear hR hM uM hMl hO hx hp1 htg hu8
  go_enter Try.func57, Try.ntmps57
  go_wp2_with fail
  refine (next_any g b off n c p x (HX.out.1.alloc _) hp hn ?_).mono ?_
  · rw [← HX.out.2.2.2.2]; exact (al1 _).cell (p := ⟨b, off + p, none⟩) hb
  rintro e w1 ⟨rfl, hu, hr⟩
  rw [HP.out] at hr
  have hgl := HX.out.1.lt
  have hB1 : Blk 48 w1 w.heap.size [.int .i64 0, .int .i64 0, .bool false, .slice none 0 0, .slice none 0 0] := hu.blk (Blk.new _ w _) (by omega)
  have d0 : w1.cell? ⟨w.heap.size, 0, none⟩ = some (.int .i64 0) := hB1.cell 0
  have d1 : w1.cell? ⟨w.heap.size, 1, none⟩ = some (.int .i64 0) := hB1.cell 1
  have d2 : w1.cell? ⟨w.heap.size, 2, none⟩ = some (.bool false) := hB1.cell 2
  have f0 := hB1.frozen 0
  have f1 := hB1.frozen 1
  have f2 := hB1.frozen 2
  have H1 : Hid (Upd (w.alloc (.cells #[.int .i64 0, .int .i64 0, .bool false, .slice none 0 0, .slice none 0 0] 48)) w1 g ∧ Rdr w1 g b off n c p1 ∧ Blk 48 w1 w.heap.size [.int .i64 0, .int .i64 0, .bool false, .slice none 0 0, .slice none 0 0]) := ⟨hu, hr, hB1⟩
  clear hu hr hB1
  go_upto_region 5 with (fail)
  refine wp_gen (fun W => Upd w1 W w.heap.size ∧ Blk 48 W w.heap.size [.int .i64 cl, .int .i64 tg, .bool (y != 0), .slice none 0 0, .slice none 0 0]) ⟨((Upd.set _ _ _ _).trans (Upd.set _ _ _ _)).trans (Upd.set _ _ _ _), (((H1.out.2.2.set 0 (.int .i64 cl)).set 2 (.bool (y != 0))).set 1 (.int .i64 tg))⟩ ?_
  rintro w2 ⟨hu2, hb2⟩
  clear d0 d1 d2 f0 f1 f2
  have H2 : Hid (Upd w w2 g ∧ Rdr w2 g b off n c p1 ∧ Blk 48 w2 w.heap.size [.int .i64 cl, .int .i64 tg, .bool (y != 0), .slice none 0 0, .slice none 0 0] ∧ Rd .u8 w2 b off M) := by
    have h1 := H1.out.1.old hu2
    exact ⟨h1, hu2.blk H1.out.2.1 (by omega), hb2, h1.rd hb HX.out.2.1 hbg⟩
  clear hu2 hb2
  have d0 : w2.cell? ⟨w.heap.size, 0, none⟩ = some (.int .i64 cl) := H2.out.2.2.1.cell 0
  have d1 : w2.cell? ⟨w.heap.size, 1, none⟩ = some (.int .i64 tg) := H2.out.2.2.1.cell 1
  have d2 : w2.cell? ⟨w.heap.size, 2, none⟩ = some (.bool (y != 0)) := H2.out.2.2.1.cell 2
  have d3 : w2.cell? ⟨w.heap.size, 3, none⟩ = some (.slice none 0 0) := H2.out.2.2.1.cell 3
  have d4 : w2.cell? ⟨w.heap.size, 4, none⟩ = some (.slice none 0 0) := H2.out.2.2.1.cell 4
  have f0 := H2.out.2.2.1.frozen 0
  have f1 := H2.out.2.2.1.frozen 1
  have f2 := H2.out.2.2.1.frozen 2
  have f3 := H2.out.2.2.1.frozen 3
  have f4 := H2.out.2.2.1.frozen 4
  by_cases q1 : tg = 31
  · subst q1
    go_wp2_with fail
    refine (longTag_any g b off n c p1 M H2.out.2.1 H2.out.2.2.2 HX.out.2.2.1 HX.out.2.2.2.1 hn (Nat.lt_of_lt_of_le hb H2.out.1.size) hbg (by have := HP.out; omega)).mono ?_
    have HE : Hid (lng M p1 0 = O) := by
      show _ = _
      rw [← HO.out.1]; unfold tagS; rw [HO.out.2, if_pos HN.out.2.1, HP.out]
    rw [HE.out]
    rintro e w3 ⟨rfl, hu3, hr3⟩
    obtain ⟨V, hV⟩ : ∃ V, O.v = V := ⟨_, rfl⟩
    obtain ⟨N, hN⟩ : ∃ N, O.e = N := ⟨_, rfl⟩
    rw [hV, hN]
    clear d0 d1 d2 d3 d4 f0 f1 f2 f3 f4
    have hB3 := hu3.blk H2.out.2.2.1 (by omega)
    have H3 : Hid (Upd w w3 g ∧ Rdr w3 g b off n c O.at ∧ Blk 48 w3 w.heap.size [.int .i64 cl, .int .i64 31, .bool (y != 0), .slice none 0 0, .slice none 0 0]) := ⟨H2.out.1.trans hu3, hr3, hB3⟩
    have d0 : w3.cell? ⟨w.heap.size, 0, none⟩ = some (.int .i64 cl) := hB3.cell 0
    have d1 : w3.cell? ⟨w.heap.size, 1, none⟩ = some (.int .i64 31) := hB3.cell 1
    have d2 : w3.cell? ⟨w.heap.size, 2, none⟩ = some (.bool (y != 0)) := hB3.cell 2
    have d3 : w3.cell? ⟨w.heap.size, 3, none⟩ = some (.slice none 0 0) := hB3.cell 3
    have d4 : w3.cell? ⟨w.heap.size, 4, none⟩ = some (.slice none 0 0) := hB3.cell 4
    have f0 := hB3.frozen 0
    have f1 := hB3.frozen 1
    have f2 := hB3.frozen 2
    have f3 := hB3.frozen 3
    have f4 := hB3.frozen 4
    clear hu3 hr3 hB3
    go_wp2
    have hB := (((((H3.out.2.2.set 1 (.int .i64 V)).set 0 (.int .i64 cl)).set 1 (.int .i64 V)).set 2 (.bool (y != 0))).set 3 (.slice none 0 0)).set 4 (.slice none 0 0)
    have hU := (((((Upd.set w3 w.heap.size 1 (.int .i64 V)).trans (Upd.set _ _ 0 (.int .i64 cl))).trans (Upd.set _ _ 1 (.int .i64 V))).trans (Upd.set _ _ 2 (.bool (y != 0)))).trans (Upd.set _ _ 3 (.slice none 0 0))).trans (Upd.set _ _ 4 (.slice none 0 0))
    refine bodyPost_ret (results_blk2 rfl rfl hB Try.underlying48 rfl Try.sizeT rfl) rfl ⟨by rw [hV, hN]; rfl, H3.out.1.more hU (Nat.le_refl _), ?_⟩
    exact hU.blk H3.out.2.1 (by omega)
  have q1b : (tg == 31) = false := by simpa using q1
  obtain ⟨K, hK⟩ : ∃ K, headOk cl tg = K := ⟨_, rfl⟩
  by_cases q2 : K = true
  · subst q2
    have HE : Hid (O = .ok tg p1) := by
      show _ = _
      rw [← HO.out.1]; unfold tagS
      rw [HO.out.2, HN.out.2.1, if_neg q1, if_neg, HP.out]
      unfold headOk at hK
      have := of_decide_eq_true hK
      have := HN.out
      unfold U8 at this
      omega
    go_wp2_with (go_at_call 62; refine (isHead_any cl tg).mono ?_; rw [hK]; rintro e w' ⟨rfl, rfl⟩)
    have hB := ((((H2.out.2.2.1.set 0 (.int .i64 cl)).set 1 (.int .i64 tg)).set 2 (.bool (y != 0))).set 3 (.slice none 0 0)).set 4 (.slice none 0 0)
    have hU := ((((Upd.set w2 w.heap.size 0 (.int .i64 cl)).trans (Upd.set _ _ 1 (.int .i64 tg))).trans (Upd.set _ _ 2 (.bool (y != 0)))).trans (Upd.set _ _ 3 (.slice none 0 0))).trans (Upd.set _ _ 4 (.slice none 0 0))
    rw [HE.out]
    refine bodyPost_ret (results_blk2 rfl rfl hB Try.underlying48 rfl Try.sizeT rfl) rfl ⟨rfl, H2.out.1.more hU (Nat.le_refl _), ?_⟩
    exact hU.blk H2.out.2.1 (by omega)
  · have q2' : K = false := by simpa using q2
    subst q2'
    have h0 : tg = 0 ∧ x < 64 := by
      unfold headOk at hK
      have := of_decide_eq_false hK
      have := HN.out
      unfold U8 at this
      omega
    have HE : Hid (O = .bad 30 p) := by
      show _ = _
      rw [← HO.out.1]; unfold tagS
      rw [HO.out.2, HN.out.2.1, if_neg q1, if_pos h0]
    obtain ⟨rfl, _⟩ := h0
    have r1 : w2.cell? ⟨g, 1, none⟩ = some (.int .i64 (p1 : Int)) := H2.out.2.1.cell 1
    go_wp2_with (first
      | (go_at_call 62; refine (isHead_any cl 0).mono ?_; rw [hK]; rintro e w' ⟨rfl, rfl⟩))
    refine (fault_any g b off n c p1 p 30 H2.out.2.1).mono ?_
    rintro e w3 ⟨rfl, hu3, hr3⟩
    clear d0 d1 d2 d3 d4 f0 f1 f2 f3 f4
    have hB3 := hu3.blk H2.out.2.2.1 (by omega)
    have H3 : Hid (Upd w w3 g ∧ Rdr w3 g b off n c p ∧ Blk 48 w3 w.heap.size [.int .i64 cl, .int .i64 0, .bool (y != 0), .slice none 0 0, .slice none 0 0]) := ⟨H2.out.1.trans hu3, hr3, hB3⟩
    have d0 : w3.cell? ⟨w.heap.size, 0, none⟩ = some (.int .i64 cl) := hB3.cell 0
    have d1 : w3.cell? ⟨w.heap.size, 1, none⟩ = some (.int .i64 0) := hB3.cell 1
    have d2 : w3.cell? ⟨w.heap.size, 2, none⟩ = some (.bool (y != 0)) := hB3.cell 2
    have d3 : w3.cell? ⟨w.heap.size, 3, none⟩ = some (.slice none 0 0) := hB3.cell 3
    have d4 : w3.cell? ⟨w.heap.size, 4, none⟩ = some (.slice none 0 0) := hB3.cell 4
    have f0 := hB3.frozen 0
    have f1 := hB3.frozen 1
    have f2 := hB3.frozen 2
    have f3 := hB3.frozen 3
    have f4 := hB3.frozen 4
    clear hu3 hr3 hB3
    go_wp2
    have hB := ((((H3.out.2.2.set 0 (.int .i64 cl)).set 1 (.int .i64 0)).set 2 (.bool (y != 0))).set 3 (.slice none 0 0)).set 4 (.slice none 0 0)
    have hU := ((((Upd.set w3 w.heap.size 0 (.int .i64 cl)).trans (Upd.set _ _ 1 (.int .i64 0))).trans (Upd.set _ _ 2 (.bool (y != 0)))).trans (Upd.set _ _ 3 (.slice none 0 0))).trans (Upd.set _ _ 4 (.slice none 0 0))
    rw [HE.out]
    refine bodyPost_ret (results_blk2 rfl rfl hB Try.underlying48 rfl Try.sizeT rfl) rfl ⟨rfl, H3.out.1.more hU (Nat.le_refl _), ?_⟩
    exact hU.blk H3.out.2.1 (by omega)
end Go.Proofs.Ytedoghjefdkmaaa
/-
  Der: the reader: any element.
-/
namespace Go.Proofs.Ytedoghjefdkmaaa
open Go.RowKit
theorem rd_slo {w : World} {b off c : Nat} {M : List Int} (hb : b < w.heap.size) (hr : Rd .u8 w b off M) (i j : Nat) (hij : i ≤ j) (hj : j ≤ M.length) (hc : j ≤ c) : Sl .u8 w (.slice (if c = i then some ⟨b, off, none⟩ else some ⟨b, off + i, none⟩) (j - i) (c - i)) ((M.drop i).take (j - i)) := by
  have hl : ((M.drop i).take (j - i)).length = j - i := by rw [List.length_take, List.length_drop]; omega
  refine ⟨_, _, by rw [hl], by omega, ?_⟩
  by_cases h : c = i
  · exact .inl (List.eq_nil_of_length_eq_zero (by omega))
  · rw [if_neg h]
    refine .inr ⟨b, off + i, rfl, hb, fun k hk => ?_⟩
    have := hr (i + k) (by omega)
    rw [← Nat.add_assoc] at this
    rw [this, List.getD_eq_getElem?_getD, List.getD_eq_getElem?_getD, List.getElem?_take, if_pos (by omega), List.getElem?_drop]
abbrev nilT : Value := .agg #[.int .i64 0, .int .i64 0, .bool false, .slice none 0 0, .slice none 0 0]
/-- What the reader tells of the element at p. -/
def ElemAns (M : List Int) (p B : Nat) (w : World) (e : Ending) (stands : Nat → Prop) : Prop :=
  match elemS M p with
  | .bad er a => e = .returned (.tuple #[nilT, .int .i64 er]) ∧ stands a
  | .ok t j E => ∃ a1 c1 a2 c2, e = .returned (.tuple #[.agg #[.int .i64 (M.getD p 0 / 64), .int .i64 t, .bool (decide (M.getD p 0 / 32 % 2 = 1)), .slice a1 (E - j) c1, .slice a2 (E - p) c2], .int .i64 0]) ∧ stands E
      ∧ Row .u8 5 B w (.slice a1 (E - j) c1) ((M.drop j).take (E - j)) ∧ Row .u8 5 B w (.slice a2 (E - p) c2) ((M.drop p).take (E - p))
      ∧ ∀ b1 b2 o1 o2 k1 k2, a1 = some ⟨b1, o1, k1⟩ → a2 = some ⟨b2, o2, k2⟩ → b1 ≠ b2
set_option maxRecDepth 20000 in
set_option maxHeartbeats 4000000 in
theorem elementS_any {w : World} (g b off n c p : Nat) (M : List Int) (hR : Rdr w g b off n c p) (hM : Rd .u8 w b off M) (uM : U8s M) (hMl : M.length = n) (hn : n ≤ 16777216) (hnc : n ≤ c) (hb : b < w.heap.size) (hbg : b ≠ g) (hp : p < n) :
    Calls Try.prog 51 #[.pointer (some ⟨g, 0, none⟩)] w fun e w' => ElemAns M p w.heap.size w' e fun a => Upd w w' g ∧ Rdr w' g b off n c a := by
  obtain ⟨x, hx⟩ : ∃ x, M.getD p 0 = x := ⟨_, rfl⟩
  obtain ⟨cl, hcl⟩ : ∃ cl, x / 64 = cl := ⟨_, rfl⟩
  obtain ⟨co, hco⟩ : ∃ co : Bool, decide (x / 32 % 2 = 1) = co := ⟨_, rfl⟩
  obtain ⟨O, hO⟩ : ∃ O, tagS M p = O := ⟨_, rfl⟩
  obtain ⟨V, hV⟩ : ∃ V, O.v = V := ⟨_, rfl⟩
  obtain ⟨N, hN⟩ : ∃ N, O.e = N := ⟨_, rfl⟩
  have HX : Hid (Rdr w g b off n c p ∧ Rd .u8 w b off M ∧ M.length = n ∧ M.getD p 0 = x ∧ U8s M ∧ x / 64 = cl ∧ decide (x / 32 % 2 = 1) = co) := ⟨hR, hM, hMl, hx, uM, hcl, hco⟩
  have HO : Hid (tagS M p = O ∧ O.v = V ∧ O.e = N) := ⟨hO, hV, hN⟩
  have hgl := hR.lt
  have c1 : w.cell? ⟨g, 1, none⟩ = some (.int .i64 p) := hR.cell 1
  clear hR hM hMl hx uM hcl hco hO hV hN
  go_enter Try.func51, Try.ntmps51
  go_wp2_with fail
  refine (headS_any g b off n c p x M (HX.out.1.alloc _) (below_rd (al1 _) hb HX.out.2.1) HX.out.2.2.2.2.1 HX.out.2.2.1 hn (Nat.lt_of_lt_of_le hb (al1 _).size) hbg hp HX.out.2.2.2.1).mono ?_
  rw [HX.out.2.2.2.2.2.1, HX.out.2.2.2.2.2.2, HO.out.1, HO.out.2.1, HO.out.2.2]
  rintro e w1 ⟨rfl, hu, hr⟩
  have hB1 : Blk 48 w1 w.heap.size [.int .i64 0, .int .i64 0, .bool false, .slice none 0 0, .slice none 0 0] := hu.blk (Blk.new _ w _) (by omega)
  have H1 : Hid (Upd (w.alloc (.cells #[.int .i64 0, .int .i64 0, .bool false, .slice none 0 0, .slice none 0 0] 48)) w1 g ∧ Rdr w1 g b off n c O.at ∧ Blk 48 w1 w.heap.size [.int .i64 0, .int .i64 0, .bool false, .slice none 0 0, .slice none 0 0]) := ⟨hu, hr, hB1⟩
  have d0 : w1.cell? ⟨w.heap.size, 0, none⟩ = some (.int .i64 0) := hB1.cell 0
  have d1 : w1.cell? ⟨w.heap.size, 1, none⟩ = some (.int .i64 0) := hB1.cell 1
  have d2 : w1.cell? ⟨w.heap.size, 2, none⟩ = some (.bool false) := hB1.cell 2
  have d3 : w1.cell? ⟨w.heap.size, 3, none⟩ = some (.slice none 0 0) := hB1.cell 3
  have d4 : w1.cell? ⟨w.heap.size, 4, none⟩ = some (.slice none 0 0) := hB1.cell 4
  have f0 := hB1.frozen 0
  have f1 := hB1.frozen 1
  have f2 := hB1.frozen 2
  have f3 := hB1.frozen 3
  have f4 := hB1.frozen 4
  clear hu hr hB1 c1
  go_upto_region 3 with (fail)
  refine wp_gen (fun W => Upd w1 W w.heap.size ∧ Blk 48 W w.heap.size [.int .i64 cl, .int .i64 V, .bool co, .slice none 0 0, .slice none 0 0]) ⟨((((Upd.set _ _ _ _).trans (Upd.set _ _ _ _)).trans (Upd.set _ _ _ _)).trans (Upd.set _ _ _ _)).trans (Upd.set _ _ _ _), ((((H1.out.2.2.set 0 (.int .i64 cl)).set 1 (.int .i64 V)).set 2 (.bool co)).set 3 (.slice none 0 0)).set 4 (.slice none 0 0)⟩ ?_
  rintro w2 ⟨hu2, hb2⟩
  clear d0 d1 d2 d3 d4 f0 f1 f2 f3 f4
  have H2 : Hid (Upd w w2 g ∧ Rdr w2 g b off n c O.at ∧ Blk 48 w2 w.heap.size [.int .i64 cl, .int .i64 V, .bool co, .slice none 0 0, .slice none 0 0] ∧ Rd .u8 w2 b off M) := by
    have h1 := H1.out.1.old hu2
    exact ⟨h1, hu2.blk H1.out.2.1 (by omega), hb2, h1.rd hb HX.out.2.1 hbg⟩
  clear hu2 hb2
  cases O with
  | bad er a =>
    have hb1 := tagS_bad (M := M) (p := p) (by have := HX.out.2.2.1; omega) HO.out.1
    have hN : er = N := HO.out.2.2
    subst hN
    have hne : (er != 0) = true := by simp; omega
    have HE : Hid (elemS M p = .bad er a) := by show _ = _; unfold elemS; rw [HO.out.1]
    have d0 : w2.cell? ⟨w.heap.size, 0, none⟩ = some (.int .i64 cl) := H2.out.2.2.1.cell 0
    have d1 : w2.cell? ⟨w.heap.size, 1, none⟩ = some (.int .i64 V) := H2.out.2.2.1.cell 1
    have d2 : w2.cell? ⟨w.heap.size, 2, none⟩ = some (.bool co) := H2.out.2.2.1.cell 2
    have d3 : w2.cell? ⟨w.heap.size, 3, none⟩ = some (.slice none 0 0) := H2.out.2.2.1.cell 3
    have d4 : w2.cell? ⟨w.heap.size, 4, none⟩ = some (.slice none 0 0) := H2.out.2.2.1.cell 4
    have f0 := H2.out.2.2.1.frozen 0
    have f1 := H2.out.2.2.1.frozen 1
    have f2 := H2.out.2.2.1.frozen 2
    have f3 := H2.out.2.2.1.frozen 3
    have f4 := H2.out.2.2.1.frozen 4
    go_wp2
    have hB := ((((H2.out.2.2.1.set 0 (.int .i64 0)).set 1 (.int .i64 0)).set 2 (.bool false)).set 3 (.slice none 0 0)).set 4 (.slice none 0 0)
    have hU := ((((Upd.set w2 w.heap.size 0 (.int .i64 0)).trans (Upd.set _ _ 1 (.int .i64 0))).trans (Upd.set _ _ 2 (.bool false))).trans (Upd.set _ _ 3 (.slice none 0 0))).trans (Upd.set _ _ 4 (.slice none 0 0))
    unfold ElemAns
    rw [HE.out]
    refine bodyPost_ret (results_blk2 rfl rfl hB Try.underlying48 rfl Try.sizeT rfl) rfl ⟨rfl, H2.out.1.more hU (Nat.le_refl _), ?_⟩
    exact hU.blk H2.out.2.1 (by omega)
  | ok tg i =>
    have ht := tagS_ok (M := M) (p := p) HX.out.2.2.2.2.1 (by have := HX.out.2.2.1; omega) HO.out.1
    have hV : tg = V := HO.out.2.1
    have hN : 0 = N := HO.out.2.2
    subst hV
    subst hN
    go_upto_region 5 with (fail)
    go_wp2_with fail
    refine (lengthS_any g b off n c i M H2.out.2.1 H2.out.2.2.2 HX.out.2.2.2.2.1 HX.out.2.2.1 hn (Nat.lt_of_lt_of_le hb H2.out.1.size) hbg (by have := HX.out.2.2.1; omega)).mono ?_
    obtain ⟨L, hL⟩ : ∃ L, lenS M i = L := ⟨_, rfl⟩
    have HL : Hid (lenS M i = L) := hL
    rw [hL]
    clear hL
    intro e w3 h3
    cases L with
    | bad er a =>
      obtain ⟨rfl, hu3, hr3⟩ : e = .returned (.tuple #[.int .i64 0, .int .i64 er]) ∧ Upd w2 w3 g ∧ Rdr w3 g b off n c a := h3
      have hb1 := lenS_bad (by have := HX.out.2.2.1; omega) HL.out
      have hne : (er != 0) = true := by simp; omega
      have HE : Hid (elemS M p = .bad er a) := by show _ = _; unfold elemS; rw [HO.out.1]; simp only []; rw [HL.out]
      have hB3 := hu3.blk H2.out.2.2.1 (by omega)
      have H3 : Hid (Upd w w3 g ∧ Rdr w3 g b off n c a ∧ Blk 48 w3 w.heap.size [.int .i64 cl, .int .i64 tg, .bool co, .slice none 0 0, .slice none 0 0]) := ⟨H2.out.1.trans hu3, hr3, hB3⟩
      have d0 : w3.cell? ⟨w.heap.size, 0, none⟩ = some (.int .i64 cl) := hB3.cell 0
      have d1 : w3.cell? ⟨w.heap.size, 1, none⟩ = some (.int .i64 tg) := hB3.cell 1
      have d2 : w3.cell? ⟨w.heap.size, 2, none⟩ = some (.bool co) := hB3.cell 2
      have d3 : w3.cell? ⟨w.heap.size, 3, none⟩ = some (.slice none 0 0) := hB3.cell 3
      have d4 : w3.cell? ⟨w.heap.size, 4, none⟩ = some (.slice none 0 0) := hB3.cell 4
      have f0 := hB3.frozen 0
      have f1 := hB3.frozen 1
      have f2 := hB3.frozen 2
      have f3 := hB3.frozen 3
      have f4 := hB3.frozen 4
      clear hu3 hr3 hB3
      go_wp2
      have hB := ((((H3.out.2.2.set 0 (.int .i64 0)).set 1 (.int .i64 0)).set 2 (.bool false)).set 3 (.slice none 0 0)).set 4 (.slice none 0 0)
      have hU := ((((Upd.set w3 w.heap.size 0 (.int .i64 0)).trans (Upd.set _ _ 1 (.int .i64 0))).trans (Upd.set _ _ 2 (.bool false))).trans (Upd.set _ _ 3 (.slice none 0 0))).trans (Upd.set _ _ 4 (.slice none 0 0))
      unfold ElemAns
      rw [HE.out]
      refine bodyPost_ret (results_blk2 rfl rfl hB Try.underlying48 rfl Try.sizeT rfl) rfl ⟨rfl, H3.out.1.more hU (Nat.le_refl _), ?_⟩
      exact hU.blk H3.out.2.1 (by omega)
    | ok lv A =>
      have hlo := lenS_ok HX.out.2.2.2.2.1 HL.out
      obtain ⟨l, rfl⟩ := Int.eq_ofNat_of_zero_le hlo.2.1
      obtain ⟨E, hE⟩ : ∃ E, A + l = E := ⟨_, rfl⟩
      have hMn := HX.out.2.2.1
      have HE : Hid (elemS M p = .ok tg A E) := by
        show _ = _
        unfold elemS; rw [HO.out.1]; simp only []; rw [HL.out]; simp only [Int.toNat_natCast]; rw [hE]
      have hEI : (A : Int) + (l : Int) = (E : Int) := by omega
      have hpA : p < A := by omega
      have hEn' : E ≤ n := by omega
      have l0 : (l : Int) ≤ 16777217 := by omega
      clear hMn hlo
      obtain ⟨rfl, hu3, hr3⟩ : e = .returned (.tuple #[.int .i64 (l : Int), .int .i64 0]) ∧ Upd w2 w3 g ∧ Rdr w3 g b off n c A := h3
      have hAE : A ≤ E := by omega
      have hEn : E ≤ n := hEn'
      have r0 : w3.cell? ⟨g, 0, none⟩ = some (.slice (some ⟨b, off, none⟩) n c) := hr3.cell 0
      have r1 : w3.cell? ⟨g, 1, none⟩ = some (.int .i64 (A : Int)) := hr3.cell 1
      have fr := hr3.frozen 1
      have H3 : Hid (Upd w w3 g ∧ Rdr w3 g b off n c A ∧ Blk 48 w3 w.heap.size [.int .i64 cl, .int .i64 tg, .bool co, .slice none 0 0, .slice none 0 0] ∧ Rd .u8 w3 b off M) := by
        have h1 := H2.out.1.trans hu3
        exact ⟨h1, hr3, hu3.blk H2.out.2.2.1 (by omega), h1.rd hb HX.out.2.1 hbg⟩
      clear hu3 hr3
      go_upto_region 10 with (fail)
      refine wp_gen (fun W => Upd w W g ∧ Rdr W g b off n c E ∧ Blk 48 W w.heap.size [.int .i64 cl, .int .i64 tg, .bool co, .slice none 0 0, .slice none 0 0] ∧ Rd .u8 W b off M) ?_ ?_
      · have hu := Upd.set w3 g 1 (.int .i64 (E : Int))
        have h1 := H3.out.1.trans hu
        have h5 : Rdr (w3.setCell ⟨g, 1, none⟩ (.int .i64 (E : Int))) g b off n c E := H3.out.2.1.set 1 (.int .i64 (E : Int))
        rw [← hEI] at *
        exact ⟨h1, h5, hu.blk H3.out.2.2.1 (by omega), h1.rd hb HX.out.2.1 hbg⟩
      rintro w4 h4
      have H4 : Hid (Upd w w4 g ∧ Rdr w4 g b off n c E ∧ Blk 48 w4 w.heap.size [.int .i64 cl, .int .i64 tg, .bool co, .slice none 0 0, .slice none 0 0] ∧ Rd .u8 w4 b off M) := h4
      have q0 : w4.cell? ⟨g, 0, none⟩ = some (.slice (some ⟨b, off, none⟩) n c) := h4.2.1.cell 0
      have q1 : w4.cell? ⟨g, 1, none⟩ = some (.int .i64 (E : Int)) := h4.2.1.cell 1
      have d3 : w4.cell? ⟨w.heap.size, 3, none⟩ = some (.slice none 0 0) := h4.2.2.1.cell 3
      have f3 := h4.2.2.1.frozen 3
      obtain ⟨ba, hba⟩ : ∃ ba : Option Addr, (if c = A then some ⟨b, off, none⟩ else some ⟨b, off + A, none⟩) = ba := ⟨_, rfl⟩
      have HC : Hid (∀ W : World, Rd .u8 W b off M → b < W.heap.size → Sl .u8 W (.slice ba (E - A) (c - A)) ((M.drop A).take (E - A))) := fun W h hb' => by
        have := rd_slo (c := c) hb' h A E hAE (by have := HX.out.2.2.1; omega) (by omega)
        rw [← hba]; exact this
      have hAEI : (A : Int) ≤ (E : Int) := by omega
      have hEcI : (E : Int) ≤ (c : Int) := by omega
      have hb4 : b < w4.heap.size := Nat.lt_of_lt_of_le hb H4.out.1.size
      have hg4 : g < w4.heap.size := Nat.lt_of_lt_of_le hgl H4.out.1.size
      have hgw : ¬ g = w.heap.size := by omega
      have hwg : ¬ w.heap.size = g := by omega
      clear h4 r0 r1 fr hEI d3 f3
      refine wp_region_qsd 10 (by kernel_rfl) (by kernel_rfl) ?_
      simp only [List.take_succ_cons, List.take_zero, List.drop_succ_cons, List.drop_zero]
      repeat (go_big_quiet_step (fail))
      refine wpQuiet_nil ?_
      rintro _ ⟨q2, rfl⟩
      go_wp2_with fail
      refine (copied_any (w := w4.drewN q2) _ ((M.drop A).take (E - A)) (HC.out _ (by exact H4.out.2.2.2) (by exact hb4)) (by rw [List.length_take]; omega)).mono ?_
      rintro e w5 ⟨r5, rfl, hr5, hb5⟩
      obtain ⟨a5, c5, hv5⟩ := hr5.ne
      obtain ⟨n5, hn5⟩ : ∃ n, ((M.drop A).take (E - A)).length = n := ⟨_, rfl⟩
      rw [hn5] at hv5
      subst hv5
      clear hn5
      have hu5 : ∀ g', Upd w4 w5 g' := fun g' => Upd.trans (w' := w4.drewN q2) ⟨rfl, rfl, rfl, Nat.le_refl _, fun _ _ _ => rfl⟩ (Below.upd hb5)
      have hsz4 : w.heap.size < w4.heap.size := H4.out.2.2.1.lt
      have hB5 : Blk 48 w5 w.heap.size [.int .i64 cl, .int .i64 tg, .bool co, .slice none 0 0, .slice none 0 0] := (hu5 g).blk H4.out.2.2.1 (by omega)
      have H5 : Hid ((∀ g', Upd w4 w5 g') ∧ Blk 48 w5 w.heap.size [.int .i64 cl, .int .i64 tg, .bool co, .slice none 0 0, .slice none 0 0] ∧ Row .u8 5 w4.heap.size w5 (Value.slice a5 n5 c5) ((M.drop A).take (E - A))) := ⟨hu5, hB5, hr5⟩
      have d3 : w5.cell? ⟨w.heap.size, 3, none⟩ = some (.slice none 0 0) := hB5.cell 3
      have f3 := hB5.frozen 3
      clear hr5 hb5 hu5 hB5 q0 q1 hba
      go_upto_region 11 with (fail)
      refine wp_gen (fun W => Upd w W g ∧ Rdr W g b off n c E ∧ Blk 48 W w.heap.size [.int .i64 cl, .int .i64 tg, .bool co, (Value.slice a5 n5 c5), .slice none 0 0] ∧ Rd .u8 W b off M ∧ Row .u8 5 w4.heap.size W (Value.slice a5 n5 c5) ((M.drop A).take (E - A)) ∧ w4.heap.size ≤ W.heap.size) ?_ ?_
      · have hu := Upd.set w5 w.heap.size 3 (Value.slice a5 n5 c5)
        have h1 : Upd w w5 g := H4.out.1.trans (H5.out.1 g)
        have h2 : Upd w (w5.setCell ⟨w.heap.size, 3, none⟩ (Value.slice a5 n5 c5)) g := ⟨hu.os.trans h1.os, hu.tape.trans h1.tape, hu.output.trans h1.output, Nat.le_trans h1.size hu.size, fun j hj hne => (hu.block j (Nat.lt_of_lt_of_le hj h1.size) (fun e => by simp at e; omega)).trans (h1.block j hj hne)⟩
        have h3 : Rdr w5 g b off n c E := (H5.out.1 w.heap.size).blk H4.out.2.1 (by omega)
        exact ⟨h2, hu.blk h3 (by omega), H5.out.2.1.set 3 (Value.slice a5 n5 c5), h2.rd hb HX.out.2.1 hbg, H5.out.2.2.upd hu hsz4, Nat.le_trans (H5.out.1 g).size hu.size⟩
      rintro w6 h6
      have H6 : Hid (Upd w w6 g ∧ Rdr w6 g b off n c E ∧ Blk 48 w6 w.heap.size [.int .i64 cl, .int .i64 tg, .bool co, (Value.slice a5 n5 c5), .slice none 0 0] ∧ Rd .u8 w6 b off M ∧ Row .u8 5 w4.heap.size w6 (Value.slice a5 n5 c5) ((M.drop A).take (E - A)) ∧ w4.heap.size ≤ w6.heap.size) := h6
      have q0 : w6.cell? ⟨g, 0, none⟩ = some (.slice (some ⟨b, off, none⟩) n c) := h6.2.1.cell 0
      have q1 : w6.cell? ⟨g, 1, none⟩ = some (.int .i64 (E : Int)) := h6.2.1.cell 1
      have HC2 : Hid (∀ W : World, Rd .u8 W b off M → b < W.heap.size → Sl .u8 W (.slice (some ⟨b, off + p, none⟩) (E - p) (c - p)) ((M.drop p).take (E - p))) := fun W h hb' => by
        have := rd_slo (c := c) hb' h p E (by omega) (by have := HX.out.2.2.1; omega) (by omega)
        rw [if_neg (by omega)] at this
        exact this
      have hpEI : (p : Int) ≤ (E : Int) := by omega
      have hb6 : b < w6.heap.size := Nat.lt_of_lt_of_le hb H6.out.1.size
      clear h6 d3 f3
      refine wp_region_qsd 10 (by kernel_rfl) (by kernel_rfl) ?_
      simp only [List.take_succ_cons, List.take_zero, List.drop_succ_cons, List.drop_zero]
      repeat (go_big_quiet_step (fail))
      refine wpQuiet_nil ?_
      rintro _ ⟨q3, rfl⟩
      go_wp2_with fail
      refine (copied_any (w := w6.drewN q3) _ ((M.drop p).take (E - p)) (HC2.out _ (by exact H6.out.2.2.2.1) (by exact hb6)) (by rw [List.length_take]; omega)).mono ?_
      rintro e w7 ⟨r7, rfl, hr7, hb7⟩
      obtain ⟨a7, c7, hv7⟩ := hr7.ne
      obtain ⟨n7, hn7⟩ : ∃ n, ((M.drop p).take (E - p)).length = n := ⟨_, rfl⟩
      rw [hn7] at hv7
      subst hv7
      clear hn7
      have hu7 : ∀ g', Upd w6 w7 g' := fun g' => Upd.trans (w' := w6.drewN q3) ⟨rfl, rfl, rfl, Nat.le_refl _, fun _ _ _ => rfl⟩ (Below.upd hb7)
      have hB7 : Blk 48 w7 w.heap.size [.int .i64 cl, .int .i64 tg, .bool co, (Value.slice a5 n5 c5), .slice none 0 0] := (hu7 g).blk H6.out.2.2.1 (by omega)
      have hsz6 := H6.out.2.2.2.2.2
      have H7 : Hid ((∀ g', Upd w6 w7 g') ∧ Blk 48 w7 w.heap.size [.int .i64 cl, .int .i64 tg, .bool co, (Value.slice a5 n5 c5), .slice none 0 0] ∧ Row .u8 5 w6.heap.size w7 (Value.slice a7 n7 c7) ((M.drop p).take (E - p)) ∧ Row .u8 5 w4.heap.size w7 (Value.slice a5 n5 c5) ((M.drop A).take (E - A))) := ⟨hu7, hB7, hr7, H6.out.2.2.2.2.1.below ⟨(hu7 g).os, (hu7 g).tape, (hu7 g).output, (hu7 g).size, fun j hj => (hu7 w6.heap.size).block j hj (fun e => by simp at e; omega)⟩⟩
      have d0 : w7.cell? ⟨w.heap.size, 0, none⟩ = some (.int .i64 cl) := hB7.cell 0
      have d1 : w7.cell? ⟨w.heap.size, 1, none⟩ = some (.int .i64 tg) := hB7.cell 1
      have d2 : w7.cell? ⟨w.heap.size, 2, none⟩ = some (.bool co) := hB7.cell 2
      have d3 : w7.cell? ⟨w.heap.size, 3, none⟩ = some (Value.slice a5 n5 c5) := hB7.cell 3
      have d4 : w7.cell? ⟨w.heap.size, 4, none⟩ = some (.slice none 0 0) := hB7.cell 4
      have f0 := hB7.frozen 0
      have f1 := hB7.frozen 1
      have f2 := hB7.frozen 2
      have f3 := hB7.frozen 3
      have f4 := hB7.frozen 4
      clear hr7 hb7 hu7 hB7 q0 q1
      go_wp2
      have hB := (((((H7.out.2.1.set 4 (Value.slice a7 n7 c7)).set 0 (.int .i64 cl)).set 1 (.int .i64 tg)).set 2 (.bool co)).set 3 (Value.slice a5 n5 c5)).set 4 (Value.slice a7 n7 c7)
      have hU := (((((Upd.set w7 w.heap.size 4 (Value.slice a7 n7 c7)).trans (Upd.set _ _ 0 (.int .i64 cl))).trans (Upd.set _ _ 1 (.int .i64 tg))).trans (Upd.set _ _ 2 (.bool co))).trans (Upd.set _ _ 3 (Value.slice a5 n5 c5))).trans (Upd.set _ _ 4 (Value.slice a7 n7 c7))
      have h6s := H6.out.2.2.2.2.2
      have hn57 : n5 = E - A ∧ n7 = E - p := by
        have h5 := H7.out.2.2.2.sl
        have h7 := H7.out.2.2.1.sl
        obtain ⟨_, _, h5, _⟩ := h5
        obtain ⟨_, _, h7, _⟩ := h7
        simp only [Value.slice.injEq] at h5 h7
        have := HX.out.2.2.1
        rw [h5.2.1, h7.2.1, List.length_take, List.length_take, List.length_drop, List.length_drop]
        omega
      unfold ElemAns
      rw [HE.out, HX.out.2.2.2.1, HX.out.2.2.2.2.2.1, HX.out.2.2.2.2.2.2]
      simp only [← hn57.1, ← hn57.2]
      refine bodyPost_ret (results_blk2 rfl rfl hB Try.underlying48 rfl Try.sizeT rfl) rfl ⟨a5, c5, a7, c7, rfl, ⟨(H6.out.1.trans (H7.out.1 g)).more hU (Nat.le_refl _), ?_⟩, ?_, ?_, ?_⟩
      · have h3 : Rdr w7 g b off n c E := (H7.out.1 w.heap.size).blk H6.out.2.1 (by omega)
        exact hU.blk h3 (by omega)
      · rw [hn57.1]; rw [hn57.1] at H7 hU; exact (H7.out.2.2.2.upd hU hsz4).mono (by omega)
      · rw [hn57.2]; rw [hn57.2] at H7 hU; exact (H7.out.2.2.1.upd hU (by omega)).mono (by omega)
      · rintro b1 b2 o1 o2 k1 k2 rfl rfl
        have h5 := H6.out.2.2.2.2.1
        have h7 := H7.out.2.2.1
        rcases h5 with ⟨h5, _⟩ | ⟨_, _, h5, _, hA5, _⟩
        · simp at h5
        rcases h7 with ⟨h7, _⟩ | ⟨_, _, h7, hB7, _⟩
        · simp at h7
        simp only [Value.slice.injEq, Option.some.injEq, Addr.mk.injEq] at h5 h7
        have := hA5.lt
        omega
end Go.Proofs.Ytedoghjefdkmaaa
