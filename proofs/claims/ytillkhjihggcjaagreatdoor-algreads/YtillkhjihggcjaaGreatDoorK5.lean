/-
  Der: the reader: a long length, any length.
-/
import Derived.Test.YtillkhjihggcjaaGreatDoorK4
namespace Go.Proofs.YtillkhjihggcjaaGreatDoor
open Go.RowKit
def LongLen (n p k : Nat) (F : Int) (D : Bool) (e : Ending) (at_ : Nat → Prop) : Prop :=
  (n < p + k ∧ e = .returned (.tuple #[.int .i64 0, .bool false, .int .i64 2]) ∧ at_ n) ∨ (p + k ≤ n ∧ e = .returned (.tuple #[.int .i64 F, .bool D, .int .i64 0]) ∧ at_ (p + k))
set_option maxRecDepth 20000 in
set_option maxHeartbeats 4000000 in
theorem longLength_any {w : World} (g b off n c p k : Nat) (M : List Int) (hR : Rdr w g b off n c p) (hM : Rd .u8 w b off M) (uM : U8s M) (hMl : M.length = n) (hn : n ≤ 16777216) (hb : b < w.heap.size) (hbg : b ≠ g) (hp : p ≤ n) (hk0 : 0 < k) (hk : k ≤ 127) :
    Calls Tryz.prog 135 #[.pointer (some ⟨g, 0, none⟩), .int .i64 k] w fun e w' => LongLen n p k (fold8 M p k) (decide (M.getD p 0 ≠ 0 ∧ 128 ≤ fold8 M p k)) e fun a => Upd w w' g ∧ Rdr w' g b off n c a := by
  have HX : Hid (Rdr w g b off n c p ∧ Rd .u8 w b off M ∧ U8s M ∧ M.length = n) := ⟨hR, hM, uM, hMl⟩
  clear hR hM uM hMl
  obtain ⟨s, hs⟩ : ∃ s : Bool, decide (M.getD p 0 ≠ 0) = s := ⟨_, rfl⟩
  have HS : Hid (decide (M.getD p 0 ≠ 0) = s) := hs
  clear hs
  obtain ⟨D, hD⟩ : ∃ D : Bool, decide (M.getD p 0 ≠ 0 ∧ 128 ≤ fold8 M p k) = D := ⟨_, rfl⟩
  obtain ⟨F, hF⟩ : ∃ F : Int, fold8 M p k = F := ⟨_, rfl⟩
  have HDF : Hid (decide (M.getD p 0 ≠ 0 ∧ 128 ≤ fold8 M p k) = D ∧ fold8 M p k = F) := ⟨hD, hF⟩
  rw [hD, hF]
  clear hD hF
  go_enter Tryz.func135, Tryz.ntmps135
  go_wp2_with fail
  go_loopw [4, 5, 11] (fun nv sv iv wr => ∃ (i : Nat) (t : Int) (z : Bool), nv = .int .i64 t ∧ sv = .bool z ∧ iv = .int .i64 i ∧ i ≤ k ∧ p + i ≤ n ∧ 0 ≤ t ∧ t ≤ 16777217 ∧ fold8 M p i = t ∧ (0 < i → z = s) ∧ Rdr wr g b off n c (p + i) ∧ Upd w wr g) (fun _ _ iv _ => k - (intOf iv).toNat)
  case atStart => exact ⟨0, 0, false, rfl, rfl, rfl, by omega, by omega, by decide, by decide, rfl, by omega, HX.out.1, Upd.refl _ _⟩
  case round =>
    obtain ⟨i, t, z, rfl, rfl, rfl, hi, hpi, t0, t1, ht, hz, hr, hu⟩ := hrel
    have H1 : Hid (Rdr wr g b off n c (p + i) ∧ Upd w wr g ∧ fold8 M p i = t ∧ (0 < i → z = s)) := ⟨hr, hu, ht, hz⟩
    clear hr hu ht hz
    by_cases hlt : i < k
    · have l1 : (i : Int) < (k : Int) := by omega
      by_cases hlt2 : p + i < n
      · obtain ⟨x, hx⟩ : ∃ x, M.getD (p + i) 0 = x := ⟨_, rfl⟩
        have hxu := HX.out.2.2.1.at (p + i)
        rw [hx] at hxu
        obtain ⟨x0, x1⟩ := hxu
        have hF := fold8_at p i hx
        rw [H1.out.2.2.1] at hF
        have e2 := or_i64 8 t x t0 (by omega) x0 (by omega) (by decide)
        rw [show t * 2 ^ 8 = t * 256 from rfl] at e2
        obtain ⟨t2, ht2⟩ : ∃ t2, t * 256 + x = t2 := ⟨_, rfl⟩
        rw [ht2] at e2 hF
        have t20 : 0 ≤ t2 := by omega
        have t21 : t2 ≤ 4294968000 := by omega
        have HF : Hid (fold8 M p (i + 1) = min t2 16777217) := hF
        clear ht2 hF
        have HZ : Hid (i = 0 → (x != 0) = s) := by
          intro h0; subst h0
          rw [← HS.out, show p = p + 0 by omega, hx]
          by_cases hx0 : x = 0 <;> simp [hx0]
        go_wp2_with fail
        refine (next_any g b off n c (p + i) x H1.out.1 hlt2 hn ?_).mono ?_
        · rw [H1.out.2.1.rd hb HX.out.2.1 hbg (p + i) (by have := HX.out.2.2.2; omega), hx]
        rintro e w1 ⟨rfl, hu, hr⟩
        have H2 : Hid (Rdr w1 g b off n c (p + (i + 1)) ∧ Upd w w1 g) := ⟨hr, H1.out.2.1.trans hu⟩
        clear hu hr hx
        by_cases i0 : i = 0
        · subst i0
          have hz := HZ.out rfl
          obtain ⟨y, hy⟩ : ∃ y : Bool, (x != 0) = y := ⟨_, rfl⟩
          rw [hy] at hz
          have HY : Hid (y = s) := hz
          clear hz
          by_cases q1 : t2 ≤ 16777217
          · go_wp2
            go_roundw
            case rel => exact ⟨1, t2, y, rfl, rfl, rfl, by omega, by omega, t20, q1, by rw [HF.out]; omega, fun _ => HY.out, H2.out.1, H2.out.2⟩
            case measure => simp [intOf]; omega
          · go_wp2
            go_roundw
            case rel => exact ⟨1, 16777217, y, rfl, rfl, rfl, by omega, by omega, by decide, by decide, by rw [HF.out]; omega, fun _ => HY.out, H2.out.1, H2.out.2⟩
            case measure => simp [intOf]; omega
        · have i0b : ((i : Int) == 0) = false := by simpa using i0
          have HY : Hid (z = s) := H1.out.2.2.2 (by omega)
          by_cases q1 : t2 ≤ 16777217
          · go_wp2
            go_roundw
            case rel => exact ⟨i + 1, t2, z, rfl, rfl, by go_num, by omega, by omega, t20, q1, by rw [HF.out]; omega, fun _ => HY.out, H2.out.1, H2.out.2⟩
            case measure => simp [intOf]; omega
          · go_wp2
            go_roundw
            case rel => exact ⟨i + 1, 16777217, z, rfl, rfl, by go_num, by omega, by omega, by decide, by decide, by rw [HF.out]; omega, fun _ => HY.out, H2.out.1, H2.out.2⟩
            case measure => simp [intOf]; omega
      · have hpe : p + i = n := by omega
        go_wp2_with fail
        refine (next_end g b off n c (by have := H1.out.1; rw [hpe] at this; exact this)).mono ?_
        rintro e w1 ⟨rfl, hu, hr⟩
        have H2 : Hid (Rdr w1 g b off n c n ∧ Upd w w1 g) := ⟨hr, H1.out.2.1.trans hu⟩
        clear hu hr
        go_wp2
        go_ret3
        exact .inl ⟨by omega, rfl, H2.out.2, H2.out.1⟩
    · obtain rfl : i = k := by omega
      have HD : Hid (D = (z && decide (128 ≤ t)) ∧ F = t) := by
        refine ⟨?_, ?_⟩
        · rw [← HDF.out.1, H1.out.2.2.1, H1.out.2.2.2 hk0, ← HS.out, Bool.decide_and]
        · rw [← HDF.out.2, H1.out.2.2.1]
      by_cases hz : z = true
      · subst hz
        by_cases q1 : 128 ≤ t
        · have HE : Hid (D = true) := by show _ = _; rw [HD.out.1]; simp [q1]
          go_wp2
          go_ret3
          refine .inr ⟨hpi, ?_, H1.out.2.1, H1.out.1⟩
          rw [HE.out, HD.out.2]; rfl
        · have HE : Hid (D = false) := by show _ = _; rw [HD.out.1]; simp; omega
          go_wp2
          go_ret3
          refine .inr ⟨hpi, ?_, H1.out.2.1, H1.out.1⟩
          rw [HE.out, HD.out.2]; rfl
      · have hz' : z = false := by simpa using hz
        subst hz'
        have HE : Hid (D = false) := by show _ = _; rw [HD.out.1]; simp
        go_wp2
        go_ret3
        refine .inr ⟨hpi, ?_, H1.out.2.1, H1.out.1⟩
        rw [HE.out, HD.out.2]; rfl
end Go.Proofs.YtillkhjihggcjaaGreatDoor
/-
  Der: the reader: any length.
-/
namespace Go.Proofs.YtillkhjihggcjaaGreatDoor
open Go.RowKit
theorem upd_drewN (w : World) (n g : Nat) : Upd w (w.drewN n) g := ⟨rfl, rfl, rfl, Nat.le_refl _, fun _ _ _ => rfl⟩
theorem lenS_128 {M : List Int} {p : Nat} {x : Int} (hp : p < M.length) (hx : M.getD p 0 = x) (h : x = 128 ∨ x = 255) : lenS M p = .inl (31, p) := by
  unfold lenS; rw [hx, if_neg (by omega), if_pos h]
theorem lenS_lo {M : List Int} {p : Nat} {x : Int} (hp : p < M.length) (hx : M.getD p 0 = x) (h : x < 128) : lenS M p = if (M.length : Int) < p + 1 + x then .inl (31, p) else .inr (x, (p + 1)) := by
  unfold lenS; rw [hx, if_neg (by omega), if_neg (by omega), if_pos h]
theorem lenS_hi {M : List Int} {p k : Nat} {x F : Int} {D : Bool} (hp : p < M.length) (hx : M.getD p 0 = x) (h : 128 < x) (h2 : x < 255) (hk : x - 128 = k) (hF : fold8 M (p + 1) k = F) (hD : decide (M.getD (p + 1) 0 ≠ 0 ∧ 128 ≤ F) = D) :
    lenS M p = if M.length < p + 1 + k then .inl (2, M.length) else if D = false then .inl (31, p) else if (M.length : Int) - (p + 1 + k : Nat) < F then .inl (31, p) else .inr (F, (p + 1 + k)) := by
  unfold lenS
  rw [hx, if_neg (by omega), if_neg (by omega), if_neg (by omega), show (x - 128).toNat = k by omega, hF]
  split
  · rfl
  by_cases hd : D = false
  · rw [if_pos hd, if_pos]
    rw [hd] at hD
    have : ¬ (M.getD (p + 1) 0 ≠ 0 ∧ 128 ≤ F) := of_decide_eq_false hD
    by_cases h0 : M.getD (p + 1) 0 = 0
    · exact .inr h0
    · refine .inl ?_
      by_cases h1 : 128 ≤ F
      · exact absurd ⟨h0, h1⟩ this
      · omega
  · have hd' : D = true := by simpa using hd
    rw [hd'] at hD
    have := of_decide_eq_true hD
    rw [if_neg hd, if_neg (by omega)]
set_option maxRecDepth 20000 in
set_option maxHeartbeats 4000000 in
theorem lengthS_any {w : World} (g b off n c p : Nat) (M : List Int) (hR : Rdr w g b off n c p) (hM : Rd .u8 w b off M) (uM : U8s M) (hMl : M.length = n) (hn : n ≤ 16777216) (hb : b < w.heap.size) (hbg : b ≠ g) (hp : p ≤ n) :
    Calls Tryz.prog 116 #[.pointer (some ⟨g, 0, none⟩)] w fun e w' => e = .returned (.tuple #[.int .i64 (lenS M p).v, .int .i64 (lenS M p).e]) ∧ Upd w w' g ∧ Rdr w' g b off n c (lenS M p).at := by
  have HX : Hid (Rdr w g b off n c p ∧ Rd .u8 w b off M ∧ U8s M ∧ M.length = n) := ⟨hR, hM, uM, hMl⟩
  have c1 : w.cell? ⟨g, 1, none⟩ = some (.int .i64 p) := hR.cell 1
  obtain ⟨O, hO⟩ : ∃ O, lenS M p = O := ⟨_, rfl⟩
  have HO : Hid (lenS M p = O) := hO
  rw [hO]
  clear hR hM uM hMl hO
  by_cases hlt : p < n
  · obtain ⟨x, hx⟩ : ∃ x, M.getD p 0 = x := ⟨_, rfl⟩
    have hxu := HX.out.2.2.1.at p
    rw [hx] at hxu
    obtain ⟨x0, x1⟩ := hxu
    have HXx : Hid (M.getD p 0 = x) := hx
    have HN : Hid (w.cell? ⟨b, off + p, none⟩ = some (.int .u8 x)) := by
      show _ = _
      rw [HX.out.2.1 p (by have := HX.out.2.2.2; omega), hx]
    clear hx
    obtain ⟨p1, hp1⟩ : ∃ p1, p + 1 = p1 := ⟨_, rfl⟩
    have HP : Hid (p + 1 = p1) := hp1
    have l1 : (p1 : Int) = (p : Int) + 1 := by omega
    have l2 : (p1 : Int) ≤ (n : Int) := by omega
    clear hp1
    by_cases q1 : x = 128 ∨ x = 255
    · have HE : Hid (O = .inl (31, p)) := by show _ = _; rw [← HO.out]; exact lenS_128 (by have := HX.out.2.2.2; omega) HXx.out q1
      rcases q1 with rfl | rfl
      all_goals
        go_enter Tryz.func116, Tryz.ntmps116
        go_wp2_with fail
        refine (next_any g b off n c p _ HX.out.1 hlt hn HN.out).mono ?_
        rintro e w1 ⟨rfl, hu, hr⟩
        have H1 : Hid (Upd w w1 g ∧ Rdr w1 g b off n c (p + 1)) := ⟨hu, hr⟩
        clear hu hr c1
        go_wp2_with (go_at_call 134; refine (fault_any g b off n c (p + 1) p 31 H1.out.2).mono ?_; rintro e w2 ⟨rfl, hu2, hr2⟩)
        go_ret2
        rw [HE.out]
        exact ⟨rfl, H1.out.1.trans hu2, hr2⟩
    have n1 : (x != 128) = true := by simp; omega
    have n2 : (x != 255) = true := by simp; omega
    by_cases q2 : x < 128
    · have HE : Hid (O = if (n : Int) < p + 1 + x then .inl (31, p) else .inr (x, p1)) := by
        show _ = _
        have h1 := lenS_lo (by have := HX.out.2.2.2; omega) HXx.out q2
        rw [HO.out, HX.out.2.2.2, HP.out] at h1
        exact h1
      have n3 : ¬ 128 < x := by omega
      go_enter Tryz.func116, Tryz.ntmps116
      go_wp2_with fail
      refine (next_any g b off n c p x HX.out.1 hlt hn HN.out).mono ?_
      rintro e w1 ⟨rfl, hu, hr⟩
      rw [HP.out] at hr
      have H1 : Hid (Upd w w1 g ∧ Rdr w1 g b off n c p1) := ⟨hu, hr⟩
      have d0 : w1.cell? ⟨g, 0, none⟩ = some (.slice (some ⟨b, off, none⟩) n c) := hr.cell 0
      have d1 : w1.cell? ⟨g, 1, none⟩ = some (.int .i64 (p1 : Int)) := hr.cell 1
      clear hu hr c1
      go_upto_region 11 with (fail)
      by_cases q3 : (n : Int) - (p1 : Int) < x
      · go_quiet (fail)
        go_wp2_with (go_at_call 134; refine (fault_any g b off n c p1 p 31 (H1.out.2.drewN _)).mono ?_; rintro e w2 ⟨rfl, hu2, hr2⟩)
        go_ret2
        rw [HE.out, if_pos (by omega)]
        exact ⟨rfl, (H1.out.1.trans (upd_drewN _ _ _)).trans hu2, hr2⟩
      · go_quiet (fail)
        go_wp2
        go_ret2
        rw [HE.out, if_neg (by omega)]
        exact ⟨rfl, H1.out.1.trans ⟨rfl, rfl, rfl, Nat.le_refl _, fun _ _ _ => rfl⟩, H1.out.2⟩
    · obtain ⟨k, hk⟩ : ∃ k : Nat, x - 128 = k := ⟨(x - 128).toNat, by omega⟩
      have k1 : 0 < k := by omega
      have k2 : k ≤ 127 := by omega
      have k3 : 128 < x := by omega
      have k4 : x < 255 := by omega
      obtain ⟨F, hF⟩ : ∃ F, fold8 M p1 k = F := ⟨_, rfl⟩
      obtain ⟨D, hD⟩ : ∃ D : Bool, decide (M.getD p1 0 ≠ 0 ∧ 128 ≤ F) = D := ⟨_, rfl⟩
      have HE : Hid (O = if n < p1 + k then .inl (2, n) else if D = false then .inl (31, p) else if (n : Int) - (p1 + k : Nat) < F then .inl (31, p) else .inr (F, (p1 + k))) := by
        show _ = _
        have h1 := lenS_hi (F := F) (D := D) (by have := HX.out.2.2.2; omega) HXx.out k3 k4 hk (by rw [HP.out]; exact hF) (by rw [HP.out]; exact hD)
        rw [HO.out, HX.out.2.2.2, HP.out] at h1
        exact h1
      have hFb := fold8_bd HX.out.2.2.1 p1 k
      rw [hF] at hFb
      obtain ⟨F0, F1⟩ := hFb
      have HFD : Hid (fold8 M p1 k = F ∧ decide (M.getD p1 0 ≠ 0 ∧ 128 ≤ F) = D) := ⟨hF, hD⟩
      clear hF hD
      go_enter Tryz.func116, Tryz.ntmps116
      go_wp2_with fail
      refine (next_any g b off n c p x HX.out.1 hlt hn HN.out).mono ?_
      rintro e w1 ⟨rfl, hu, hr⟩
      rw [HP.out] at hr
      have H1 : Hid (Upd w w1 g ∧ Rdr w1 g b off n c p1) := ⟨hu, hr⟩
      clear hu hr c1
      go_wp2_with fail
      refine (longLength_any g b off n c p1 k M H1.out.2 (H1.out.1.rd hb HX.out.2.1 hbg) HX.out.2.2.1 HX.out.2.2.2 hn (Nat.lt_of_lt_of_le hb H1.out.1.size) hbg (by omega) k1 k2).mono ?_
      rintro e w2 hL
      rw [HFD.out.1, HFD.out.2] at hL
      rcases hL with ⟨hs, rfl, hu, hr⟩ | ⟨hs, rfl, hu, hr⟩
      · have H2 : Hid (Upd w w2 g ∧ Rdr w2 g b off n c n) := ⟨H1.out.1.trans hu, hr⟩
        clear hu hr
        go_wp2
        go_ret2
        rw [HE.out, if_pos hs]
        exact ⟨rfl, H2.out.1, H2.out.2⟩
      · obtain ⟨p2, hp2⟩ : ∃ p2, p1 + k = p2 := ⟨_, rfl⟩
        rw [hp2] at hr hs
        have H2 : Hid (Upd w w2 g ∧ Rdr w2 g b off n c p2 ∧ p1 + k = p2) := ⟨H1.out.1.trans hu, hr, hp2⟩
        have d0 : w2.cell? ⟨g, 0, none⟩ = some (.slice (some ⟨b, off, none⟩) n c) := hr.cell 0
        have d1 : w2.cell? ⟨g, 1, none⟩ = some (.int .i64 (p2 : Int)) := hr.cell 1
        clear hu hr hp2
        by_cases hd : D = true
        · subst hd
          have hsI : (p2 : Int) ≤ (n : Int) := by omega
          go_upto_region 11 with (fail)
          by_cases q3 : (n : Int) - (p2 : Int) < F
          · go_quiet (fail)
            go_wp2_with (go_at_call 134; refine (fault_any g b off n c p2 p 31 (H2.out.2.1.drewN _)).mono ?_; rintro e w3 ⟨rfl, hu2, hr2⟩)
            go_ret2
            rw [HE.out, H2.out.2.2, if_neg (by omega), if_neg (by simp), if_pos (by omega)]
            exact ⟨rfl, (H2.out.1.trans (upd_drewN _ _ _)).trans hu2, hr2⟩
          · go_quiet (fail)
            go_wp2
            go_ret2
            rw [HE.out, H2.out.2.2, if_neg (by omega), if_neg (by simp), if_neg (by omega)]
            exact ⟨rfl, H2.out.1.trans ⟨rfl, rfl, rfl, Nat.le_refl _, fun _ _ _ => rfl⟩, H2.out.2.1⟩
        · have hd' : D = false := by simpa using hd
          subst hd'
          go_wp2_with (go_at_call 134; refine (fault_any g b off n c p2 p 31 H2.out.2.1).mono ?_; rintro e w3 ⟨rfl, hu2, hr2⟩)
          go_ret2
          rw [HE.out, H2.out.2.2, if_neg (by omega), if_pos (by simp)]
          exact ⟨rfl, H2.out.1.trans hu2, hr2⟩
  · obtain rfl : p = n := by omega
    go_enter Tryz.func116, Tryz.ntmps116
    go_wp2_with fail
    refine (next_end g b off p c HX.out.1).mono ?_
    rintro e w1 ⟨rfl, hu, hr⟩
    have H1 : Hid (Upd w w1 g ∧ Rdr w1 g b off p c p) := ⟨hu, hr⟩
    clear hu hr c1
    go_wp2
    go_ret2
    have h1 := HO.out
    unfold lenS at h1
    rw [if_pos (by have := HX.out.2.2.2; omega), HX.out.2.2.2] at h1
    subst h1
    exact ⟨rfl, H1.out.1, H1.out.2⟩
end Go.Proofs.YtillkhjihggcjaaGreatDoor
/-
  Der: the reader: any head.
-/
namespace Go.Proofs.YtillkhjihggcjaaGreatDoor
open Go.RowKit
theorem and_31u (x : Int) (h : U8 x) : bits .and .u8 x 31 = x % 32 := by
  obtain ⟨h0, h1⟩ := h
  obtain ⟨k, rfl⟩ := Int.eq_ofNat_of_zero_le h0
  have : ∀ y : Fin 256, bits .and .u8 ((y : Nat) : Int) 31 = ((y : Nat) : Int) % 32 := by decide +kernel
  exact this ⟨k, by omega⟩
theorem and_32u (x : Int) (h : U8 x) : (bits .and .u8 x 32 != 0) = decide (x / 32 % 2 = 1) := by
  obtain ⟨h0, h1⟩ := h
  obtain ⟨k, rfl⟩ := Int.eq_ofNat_of_zero_le h0
  have : ∀ y : Fin 256, (bits .and .u8 ((y : Nat) : Int) 32 != 0) = decide (((y : Nat) : Int) / 32 % 2 = 1) := by decide +kernel
  exact this ⟨k, by omega⟩
set_option maxRecDepth 20000 in
set_option maxHeartbeats 4000000 in
theorem headS_any {w : World} (g b off n c p : Nat) (x : Int) (M : List Int) (hR : Rdr w g b off n c p) (hM : Rd .u8 w b off M) (uM : U8s M) (hMl : M.length = n) (hn : n ≤ 16777216) (hb : b < w.heap.size) (hbg : b ≠ g) (hp : p < n) (hx : M.getD p 0 = x) :
    Calls Tryz.prog 115 #[.pointer (some ⟨g, 0, none⟩)] w fun e w' => e = .returned (.tuple #[.agg #[.int .i64 (x / 64), .int .i64 (tagS M p).v, .bool (decide (x / 32 % 2 = 1)), .slice none 0 0, .slice none 0 0], .int .i64 (tagS M p).e]) ∧ Upd w w' g ∧ Rdr w' g b off n c (tagS M p).at := by
  obtain ⟨O, hO⟩ : ∃ O, tagS M p = O := ⟨_, rfl⟩
  have hu8 := uM.at p
  rw [hx] at hu8
  have HX : Hid (Rdr w g b off n c p ∧ Rd .u8 w b off M ∧ U8s M ∧ M.length = n ∧ w.cell? ⟨b, off + p, none⟩ = some (.int .u8 x)) := ⟨hR, hM, uM, hMl, by rw [hM p (by omega), hx]⟩
  have HO : Hid (tagS M p = O ∧ M.getD p 0 = x) := ⟨hO, hx⟩
  obtain ⟨y, hy⟩ : ∃ y, bits .and .u8 x 32 = y := ⟨_, rfl⟩
  have e31 := and_31u x hu8
  obtain ⟨cl, hcl⟩ : ∃ cl, x / 64 = cl := ⟨_, rfl⟩
  obtain ⟨tg, htg⟩ : ∃ tg, x % 32 = tg := ⟨_, rfl⟩
  rw [htg] at e31
  have HC : Hid ((y != 0) = decide (x / 32 % 2 = 1)) := by show _ = _; rw [← hy]; exact and_32u x hu8
  rw [hO, ← HC.out, hcl]
  have HN : Hid (x / 64 = cl ∧ x % 32 = tg ∧ U8 x) := ⟨hcl, htg, hu8⟩
  have c0 : 0 ≤ cl := by have := hu8.1; have := hu8.2; omega
  have c3 : cl ≤ 3 := by have := hu8.1; have := hu8.2; omega
  have t0 : 0 ≤ tg := by omega
  have t1 : tg ≤ 31 := by omega
  obtain ⟨p1, hp1⟩ : ∃ p1, p + 1 = p1 := ⟨_, rfl⟩
  have HP : Hid (p + 1 = p1) := hp1
  have l1 : (p1 : Int) - 1 = (p : Int) := by omega
  clear hR hM uM hMl hO hx hp1 htg hu8
  go_enter Tryz.func115, Tryz.ntmps115
  go_wp2_with fail
  refine (next_any g b off n c p x (HX.out.1.alloc _) hp hn ?_).mono ?_
  · rw [← HX.out.2.2.2.2]; exact (al1 _).cell (p := ⟨b, off + p, none⟩) hb
  rintro e w1 ⟨rfl, hu, hr⟩
  rw [HP.out] at hr
  have hgl := HX.out.1.lt
  have hB1 : Blk 24 w1 w.heap.size [.int .i64 0, .int .i64 0, .bool false, .slice none 0 0, .slice none 0 0] := hu.blk (Blk.new _ w _) (by omega)
  have d0 : w1.cell? ⟨w.heap.size, 0, none⟩ = some (.int .i64 0) := hB1.cell 0
  have d1 : w1.cell? ⟨w.heap.size, 1, none⟩ = some (.int .i64 0) := hB1.cell 1
  have d2 : w1.cell? ⟨w.heap.size, 2, none⟩ = some (.bool false) := hB1.cell 2
  have f0 := hB1.frozen 0
  have f1 := hB1.frozen 1
  have f2 := hB1.frozen 2
  have H1 : Hid (Upd (w.alloc (.cells #[.int .i64 0, .int .i64 0, .bool false, .slice none 0 0, .slice none 0 0] 24)) w1 g ∧ Rdr w1 g b off n c p1 ∧ Blk 24 w1 w.heap.size [.int .i64 0, .int .i64 0, .bool false, .slice none 0 0, .slice none 0 0]) := ⟨hu, hr, hB1⟩
  clear hu hr hB1
  go_upto_region 5 with (fail)
  refine wp_gen (fun W => Upd w1 W w.heap.size ∧ Blk 24 W w.heap.size [.int .i64 cl, .int .i64 tg, .bool (y != 0), .slice none 0 0, .slice none 0 0]) ⟨((Upd.set _ _ _ _).trans (Upd.set _ _ _ _)).trans (Upd.set _ _ _ _), (((H1.out.2.2.set 0 (.int .i64 cl)).set 2 (.bool (y != 0))).set 1 (.int .i64 tg))⟩ ?_
  rintro w2 ⟨hu2, hb2⟩
  clear d0 d1 d2 f0 f1 f2
  have H2 : Hid (Upd w w2 g ∧ Rdr w2 g b off n c p1 ∧ Blk 24 w2 w.heap.size [.int .i64 cl, .int .i64 tg, .bool (y != 0), .slice none 0 0, .slice none 0 0] ∧ Rd .u8 w2 b off M) := by
    have h1 := H1.out.1.old hu2
    exact ⟨h1, hu2.blk H1.out.2.1 (by omega), hb2, h1.rd hb HX.out.2.1 hbg⟩
  clear hu2 hb2
  have d0 : w2.cell? ⟨w.heap.size, 0, none⟩ = some (.int .i64 cl) := H2.out.2.2.1.cell 0
  have d1 : w2.cell? ⟨w.heap.size, 1, none⟩ = some (.int .i64 tg) := H2.out.2.2.1.cell 1
  have d2 : w2.cell? ⟨w.heap.size, 2, none⟩ = some (.bool (y != 0)) := H2.out.2.2.1.cell 2
  have d3 : w2.cell? ⟨w.heap.size, 3, none⟩ = some (.slice none 0 0) := H2.out.2.2.1.cell 3
  have d4 : w2.cell? ⟨w.heap.size, 4, none⟩ = some (.slice none 0 0) := H2.out.2.2.1.cell 4
  have f0 := H2.out.2.2.1.frozen 0
  have f1 := H2.out.2.2.1.frozen 1
  have f2 := H2.out.2.2.1.frozen 2
  have f3 := H2.out.2.2.1.frozen 3
  have f4 := H2.out.2.2.1.frozen 4
  by_cases q1 : tg = 31
  · subst q1
    go_wp2_with fail
    refine (longTag_any g b off n c p1 M H2.out.2.1 H2.out.2.2.2 HX.out.2.2.1 HX.out.2.2.2.1 hn (Nat.lt_of_lt_of_le hb H2.out.1.size) hbg (by have := HP.out; omega)).mono ?_
    have HE : Hid (lng M p1 0 = O) := by
      show _ = _
      rw [← HO.out.1]; unfold tagS; rw [HO.out.2, if_pos HN.out.2.1, HP.out]
    rw [HE.out]
    rintro e w3 ⟨rfl, hu3, hr3⟩
    obtain ⟨V, hV⟩ : ∃ V, O.v = V := ⟨_, rfl⟩
    obtain ⟨N, hN⟩ : ∃ N, O.e = N := ⟨_, rfl⟩
    rw [hV, hN]
    clear d0 d1 d2 d3 d4 f0 f1 f2 f3 f4
    have hB3 := hu3.blk H2.out.2.2.1 (by omega)
    have H3 : Hid (Upd w w3 g ∧ Rdr w3 g b off n c O.at ∧ Blk 24 w3 w.heap.size [.int .i64 cl, .int .i64 31, .bool (y != 0), .slice none 0 0, .slice none 0 0]) := ⟨H2.out.1.trans hu3, hr3, hB3⟩
    have d0 : w3.cell? ⟨w.heap.size, 0, none⟩ = some (.int .i64 cl) := hB3.cell 0
    have d1 : w3.cell? ⟨w.heap.size, 1, none⟩ = some (.int .i64 31) := hB3.cell 1
    have d2 : w3.cell? ⟨w.heap.size, 2, none⟩ = some (.bool (y != 0)) := hB3.cell 2
    have d3 : w3.cell? ⟨w.heap.size, 3, none⟩ = some (.slice none 0 0) := hB3.cell 3
    have d4 : w3.cell? ⟨w.heap.size, 4, none⟩ = some (.slice none 0 0) := hB3.cell 4
    have f0 := hB3.frozen 0
    have f1 := hB3.frozen 1
    have f2 := hB3.frozen 2
    have f3 := hB3.frozen 3
    have f4 := hB3.frozen 4
    clear hu3 hr3 hB3
    go_wp2
    have hB := (((((H3.out.2.2.set 1 (.int .i64 V)).set 0 (.int .i64 cl)).set 1 (.int .i64 V)).set 2 (.bool (y != 0))).set 3 (.slice none 0 0)).set 4 (.slice none 0 0)
    have hU := (((((Upd.set w3 w.heap.size 1 (.int .i64 V)).trans (Upd.set _ _ 0 (.int .i64 cl))).trans (Upd.set _ _ 1 (.int .i64 V))).trans (Upd.set _ _ 2 (.bool (y != 0)))).trans (Upd.set _ _ 3 (.slice none 0 0))).trans (Upd.set _ _ 4 (.slice none 0 0))
    refine bodyPost_ret (results_blk2 rfl rfl hB Tryz.underlying24 rfl Tryz.sizeT rfl) rfl ⟨by rw [hV, hN]; rfl, H3.out.1.more hU (Nat.le_refl _), ?_⟩
    exact hU.blk H3.out.2.1 (by omega)
  have q1b : (tg == 31) = false := by simpa using q1
  obtain ⟨K, hK⟩ : ∃ K, headOk cl tg = K := ⟨_, rfl⟩
  by_cases q2 : K = true
  · subst q2
    have HE : Hid (O = .inr (tg, p1)) := by
      show _ = _
      rw [← HO.out.1]; unfold tagS
      rw [HO.out.2, HN.out.2.1, if_neg q1, if_neg, HP.out]
      unfold headOk at hK
      have := of_decide_eq_true hK
      have := HN.out
      unfold U8 at this
      omega
    go_wp2_with (go_at_call 133; refine (isHead_any cl tg).mono ?_; rw [hK]; rintro e w' ⟨rfl, rfl⟩)
    have hB := ((((H2.out.2.2.1.set 0 (.int .i64 cl)).set 1 (.int .i64 tg)).set 2 (.bool (y != 0))).set 3 (.slice none 0 0)).set 4 (.slice none 0 0)
    have hU := ((((Upd.set w2 w.heap.size 0 (.int .i64 cl)).trans (Upd.set _ _ 1 (.int .i64 tg))).trans (Upd.set _ _ 2 (.bool (y != 0)))).trans (Upd.set _ _ 3 (.slice none 0 0))).trans (Upd.set _ _ 4 (.slice none 0 0))
    rw [HE.out]
    refine bodyPost_ret (results_blk2 rfl rfl hB Tryz.underlying24 rfl Tryz.sizeT rfl) rfl ⟨rfl, H2.out.1.more hU (Nat.le_refl _), ?_⟩
    exact hU.blk H2.out.2.1 (by omega)
  · have q2' : K = false := by simpa using q2
    subst q2'
    have h0 : tg = 0 ∧ x < 64 := by
      unfold headOk at hK
      have := of_decide_eq_false hK
      have := HN.out
      unfold U8 at this
      omega
    have HE : Hid (O = .inl (30, p)) := by
      show _ = _
      rw [← HO.out.1]; unfold tagS
      rw [HO.out.2, HN.out.2.1, if_neg q1, if_pos h0]
    obtain ⟨rfl, _⟩ := h0
    have r1 : w2.cell? ⟨g, 1, none⟩ = some (.int .i64 (p1 : Int)) := H2.out.2.1.cell 1
    go_wp2_with (first
      | (go_at_call 133; refine (isHead_any cl 0).mono ?_; rw [hK]; rintro e w' ⟨rfl, rfl⟩))
    refine (fault_any g b off n c p1 p 30 H2.out.2.1).mono ?_
    rintro e w3 ⟨rfl, hu3, hr3⟩
    clear d0 d1 d2 d3 d4 f0 f1 f2 f3 f4
    have hB3 := hu3.blk H2.out.2.2.1 (by omega)
    have H3 : Hid (Upd w w3 g ∧ Rdr w3 g b off n c p ∧ Blk 24 w3 w.heap.size [.int .i64 cl, .int .i64 0, .bool (y != 0), .slice none 0 0, .slice none 0 0]) := ⟨H2.out.1.trans hu3, hr3, hB3⟩
    have d0 : w3.cell? ⟨w.heap.size, 0, none⟩ = some (.int .i64 cl) := hB3.cell 0
    have d1 : w3.cell? ⟨w.heap.size, 1, none⟩ = some (.int .i64 0) := hB3.cell 1
    have d2 : w3.cell? ⟨w.heap.size, 2, none⟩ = some (.bool (y != 0)) := hB3.cell 2
    have d3 : w3.cell? ⟨w.heap.size, 3, none⟩ = some (.slice none 0 0) := hB3.cell 3
    have d4 : w3.cell? ⟨w.heap.size, 4, none⟩ = some (.slice none 0 0) := hB3.cell 4
    have f0 := hB3.frozen 0
    have f1 := hB3.frozen 1
    have f2 := hB3.frozen 2
    have f3 := hB3.frozen 3
    have f4 := hB3.frozen 4
    clear hu3 hr3 hB3
    go_wp2
    have hB := ((((H3.out.2.2.set 0 (.int .i64 cl)).set 1 (.int .i64 0)).set 2 (.bool (y != 0))).set 3 (.slice none 0 0)).set 4 (.slice none 0 0)
    have hU := ((((Upd.set w3 w.heap.size 0 (.int .i64 cl)).trans (Upd.set _ _ 1 (.int .i64 0))).trans (Upd.set _ _ 2 (.bool (y != 0)))).trans (Upd.set _ _ 3 (.slice none 0 0))).trans (Upd.set _ _ 4 (.slice none 0 0))
    rw [HE.out]
    refine bodyPost_ret (results_blk2 rfl rfl hB Tryz.underlying24 rfl Tryz.sizeT rfl) rfl ⟨rfl, H3.out.1.more hU (Nat.le_refl _), ?_⟩
    exact hU.blk H3.out.2.1 (by omega)
end Go.Proofs.YtillkhjihggcjaaGreatDoor
