/-
  Der: the reader: any length.
-/
import Derived.Test.YtndcpjnfdgojkaaDoorE42
namespace Go.Proofs.YtndcpjnfdgojkaaDoor
open Go.RowKit
theorem upd_drewN (w : World) (n g : Nat) : Upd w (w.drewN n) g := ⟨rfl, rfl, rfl, Nat.le_refl _, fun _ _ _ => rfl⟩
theorem lenS_128 {M : List Int} {p : Nat} {x : Int} (hp : p < M.length) (hx : M.getD p 0 = x) (h : x = 128 ∨ x = 255) : lenS M p = .bad 31 p := by
  unfold lenS; rw [hx, if_neg (by omega), if_pos h]
theorem lenS_lo {M : List Int} {p : Nat} {x : Int} (hp : p < M.length) (hx : M.getD p 0 = x) (h : x < 128) : lenS M p = if (M.length : Int) < p + 1 + x then .bad 31 p else .ok x (p + 1) := by
  unfold lenS; rw [hx, if_neg (by omega), if_neg (by omega), if_pos h]
theorem lenS_hi {M : List Int} {p k : Nat} {x F : Int} {D : Bool} (hp : p < M.length) (hx : M.getD p 0 = x) (h : 128 < x) (h2 : x < 255) (hk : x - 128 = k) (hF : fold8 M (p + 1) k = F) (hD : decide (M.getD (p + 1) 0 ≠ 0 ∧ 128 ≤ F) = D) :
    lenS M p = if M.length < p + 1 + k then .bad 2 M.length else if D = false then .bad 31 p else if (M.length : Int) - (p + 1 + k : Nat) < F then .bad 31 p else .ok F (p + 1 + k) := by
  unfold lenS
  rw [hx, if_neg (by omega), if_neg (by omega), if_neg (by omega), show (x - 128).toNat = k by omega, hF]
  split
  · rfl
  by_cases hd : D = false
  · rw [if_pos hd, if_pos]
    rw [hd] at hD
    have : ¬ (M.getD (p + 1) 0 ≠ 0 ∧ 128 ≤ F) := of_decide_eq_false hD
    by_cases h0 : M.getD (p + 1) 0 = 0
    · exact .inr h0
    · refine .inl ?_
      by_cases h1 : 128 ≤ F
      · exact absurd ⟨h0, h1⟩ this
      · omega
  · have hd' : D = true := by simpa using hd
    rw [hd'] at hD
    have := of_decide_eq_true hD
    rw [if_neg hd, if_neg (by omega)]
set_option maxRecDepth 20000 in
set_option maxHeartbeats 4000000 in
theorem lengthS_any {w : World} (g b off n c p : Nat) (M : List Int) (hR : Rdr w g b off n c p) (hM : Rd .u8 w b off M) (uM : U8s M) (hMl : M.length = n) (hn : n ≤ 16777216) (hb : b < w.heap.size) (hbg : b ≠ g) (hp : p ≤ n) :
    Calls Tryd.prog 59 #[.pointer (some ⟨g, 0, none⟩)] w fun e w' => e = .returned (.tuple #[.int .i64 (lenS M p).v, .int .i64 (lenS M p).e]) ∧ Upd w w' g ∧ Rdr w' g b off n c (lenS M p).at := by
  have HX : Hid (Rdr w g b off n c p ∧ Rd .u8 w b off M ∧ U8s M ∧ M.length = n) := ⟨hR, hM, uM, hMl⟩
  have c1 : w.cell? ⟨g, 1, none⟩ = some (.int .i64 p) := hR.cell 1
  obtain ⟨O, hO⟩ : ∃ O, lenS M p = O := ⟨_, rfl⟩
  have HO : Hid (lenS M p = O) := hO
  rw [hO]
  clear hR hM uM hMl hO
  by_cases hlt : p < n
  · obtain ⟨x, hx⟩ : ∃ x, M.getD p 0 = x := ⟨_, rfl⟩
    have hxu := HX.out.2.2.1.at p
    rw [hx] at hxu
    obtain ⟨x0, x1⟩ := hxu
    have HXx : Hid (M.getD p 0 = x) := hx
    have HN : Hid (w.cell? ⟨b, off + p, none⟩ = some (.int .u8 x)) := by
      show _ = _
      rw [HX.out.2.1 p (by have := HX.out.2.2.2; omega), hx]
    clear hx
    obtain ⟨p1, hp1⟩ : ∃ p1, p + 1 = p1 := ⟨_, rfl⟩
    have HP : Hid (p + 1 = p1) := hp1
    have l1 : (p1 : Int) = (p : Int) + 1 := by omega
    have l2 : (p1 : Int) ≤ (n : Int) := by omega
    clear hp1
    by_cases q1 : x = 128 ∨ x = 255
    · have HE : Hid (O = .bad 31 p) := by show _ = _; rw [← HO.out]; exact lenS_128 (by have := HX.out.2.2.2; omega) HXx.out q1
      rcases q1 with rfl | rfl
      all_goals
        go_enter Tryd.func59, Tryd.ntmps59
        go_wp2_with fail
        refine (next_any g b off n c p _ HX.out.1 hlt hn HN.out).mono ?_
        rintro e w1 ⟨rfl, hu, hr⟩
        have H1 : Hid (Upd w w1 g ∧ Rdr w1 g b off n c (p + 1)) := ⟨hu, hr⟩
        clear hu hr c1
        go_wp2_with (go_at_call 69; refine (fault_any g b off n c (p + 1) p 31 H1.out.2).mono ?_; rintro e w2 ⟨rfl, hu2, hr2⟩)
        go_ret2
        rw [HE.out]
        exact ⟨rfl, H1.out.1.trans hu2, hr2⟩
    have n1 : (x != 128) = true := by simp; omega
    have n2 : (x != 255) = true := by simp; omega
    by_cases q2 : x < 128
    · have HE : Hid (O = if (n : Int) < p + 1 + x then .bad 31 p else .ok x p1) := by
        show _ = _
        have h1 := lenS_lo (by have := HX.out.2.2.2; omega) HXx.out q2
        rw [HO.out, HX.out.2.2.2, HP.out] at h1
        exact h1
      have n3 : ¬ 128 < x := by omega
      go_enter Tryd.func59, Tryd.ntmps59
      go_wp2_with fail
      refine (next_any g b off n c p x HX.out.1 hlt hn HN.out).mono ?_
      rintro e w1 ⟨rfl, hu, hr⟩
      rw [HP.out] at hr
      have H1 : Hid (Upd w w1 g ∧ Rdr w1 g b off n c p1) := ⟨hu, hr⟩
      have d0 : w1.cell? ⟨g, 0, none⟩ = some (.slice (some ⟨b, off, none⟩) n c) := hr.cell 0
      have d1 : w1.cell? ⟨g, 1, none⟩ = some (.int .i64 (p1 : Int)) := hr.cell 1
      clear hu hr c1
      go_upto_region 11 with (fail)
      by_cases q3 : (n : Int) - (p1 : Int) < x
      · go_quiet (fail)
        go_wp2_with (go_at_call 69; refine (fault_any g b off n c p1 p 31 (H1.out.2.drewN _)).mono ?_; rintro e w2 ⟨rfl, hu2, hr2⟩)
        go_ret2
        rw [HE.out, if_pos (by omega)]
        exact ⟨rfl, (H1.out.1.trans (upd_drewN _ _ _)).trans hu2, hr2⟩
      · go_quiet (fail)
        go_wp2
        go_ret2
        rw [HE.out, if_neg (by omega)]
        exact ⟨rfl, H1.out.1.trans ⟨rfl, rfl, rfl, Nat.le_refl _, fun _ _ _ => rfl⟩, H1.out.2⟩
    · obtain ⟨k, hk⟩ : ∃ k : Nat, x - 128 = k := ⟨(x - 128).toNat, by omega⟩
      have k1 : 0 < k := by omega
      have k2 : k ≤ 127 := by omega
      have k3 : 128 < x := by omega
      have k4 : x < 255 := by omega
      obtain ⟨F, hF⟩ : ∃ F, fold8 M p1 k = F := ⟨_, rfl⟩
      obtain ⟨D, hD⟩ : ∃ D : Bool, decide (M.getD p1 0 ≠ 0 ∧ 128 ≤ F) = D := ⟨_, rfl⟩
      have HE : Hid (O = if n < p1 + k then .bad 2 n else if D = false then .bad 31 p else if (n : Int) - (p1 + k : Nat) < F then .bad 31 p else .ok F (p1 + k)) := by
        show _ = _
        have h1 := lenS_hi (F := F) (D := D) (by have := HX.out.2.2.2; omega) HXx.out k3 k4 hk (by rw [HP.out]; exact hF) (by rw [HP.out]; exact hD)
        rw [HO.out, HX.out.2.2.2, HP.out] at h1
        exact h1
      have hFb := fold8_bd HX.out.2.2.1 p1 k
      rw [hF] at hFb
      obtain ⟨F0, F1⟩ := hFb
      have HFD : Hid (fold8 M p1 k = F ∧ decide (M.getD p1 0 ≠ 0 ∧ 128 ≤ F) = D) := ⟨hF, hD⟩
      clear hF hD
      go_enter Tryd.func59, Tryd.ntmps59
      go_wp2_with fail
      refine (next_any g b off n c p x HX.out.1 hlt hn HN.out).mono ?_
      rintro e w1 ⟨rfl, hu, hr⟩
      rw [HP.out] at hr
      have H1 : Hid (Upd w w1 g ∧ Rdr w1 g b off n c p1) := ⟨hu, hr⟩
      clear hu hr c1
      go_wp2_with fail
      refine (longLength_any g b off n c p1 k M H1.out.2 (H1.out.1.rd hb HX.out.2.1 hbg) HX.out.2.2.1 HX.out.2.2.2 hn (Nat.lt_of_lt_of_le hb H1.out.1.size) hbg (by omega) k1 k2).mono ?_
      rintro e w2 hL
      rw [HFD.out.1, HFD.out.2] at hL
      rcases hL with ⟨hs, rfl, hu, hr⟩ | ⟨hs, rfl, hu, hr⟩
      · have H2 : Hid (Upd w w2 g ∧ Rdr w2 g b off n c n) := ⟨H1.out.1.trans hu, hr⟩
        clear hu hr
        go_wp2
        go_ret2
        rw [HE.out, if_pos hs]
        exact ⟨rfl, H2.out.1, H2.out.2⟩
      · obtain ⟨p2, hp2⟩ : ∃ p2, p1 + k = p2 := ⟨_, rfl⟩
        rw [hp2] at hr hs
        have H2 : Hid (Upd w w2 g ∧ Rdr w2 g b off n c p2 ∧ p1 + k = p2) := ⟨H1.out.1.trans hu, hr, hp2⟩
        have d0 : w2.cell? ⟨g, 0, none⟩ = some (.slice (some ⟨b, off, none⟩) n c) := hr.cell 0
        have d1 : w2.cell? ⟨g, 1, none⟩ = some (.int .i64 (p2 : Int)) := hr.cell 1
        clear hu hr hp2
        by_cases hd : D = true
        · subst hd
          have hsI : (p2 : Int) ≤ (n : Int) := by omega
          go_upto_region 11 with (fail)
          by_cases q3 : (n : Int) - (p2 : Int) < F
          · go_quiet (fail)
            go_wp2_with (go_at_call 69; refine (fault_any g b off n c p2 p 31 (H2.out.2.1.drewN _)).mono ?_; rintro e w3 ⟨rfl, hu2, hr2⟩)
            go_ret2
            rw [HE.out, H2.out.2.2, if_neg (by omega), if_neg (by simp), if_pos (by omega)]
            exact ⟨rfl, (H2.out.1.trans (upd_drewN _ _ _)).trans hu2, hr2⟩
          · go_quiet (fail)
            go_wp2
            go_ret2
            rw [HE.out, H2.out.2.2, if_neg (by omega), if_neg (by simp), if_neg (by omega)]
            exact ⟨rfl, H2.out.1.trans ⟨rfl, rfl, rfl, Nat.le_refl _, fun _ _ _ => rfl⟩, H2.out.2.1⟩
        · have hd' : D = false := by simpa using hd
          subst hd'
          go_wp2_with (go_at_call 69; refine (fault_any g b off n c p2 p 31 H2.out.2.1).mono ?_; rintro e w3 ⟨rfl, hu2, hr2⟩)
          go_ret2
          rw [HE.out, H2.out.2.2, if_neg (by omega), if_pos (by simp)]
          exact ⟨rfl, H2.out.1.trans hu2, hr2⟩
  · obtain rfl : p = n := by omega
    go_enter Tryd.func59, Tryd.ntmps59
    go_wp2_with fail
    refine (next_end g b off p c HX.out.1).mono ?_
    rintro e w1 ⟨rfl, hu, hr⟩
    have H1 : Hid (Upd w w1 g ∧ Rdr w1 g b off p c p) := ⟨hu, hr⟩
    clear hu hr c1
    go_wp2
    go_ret2
    have h1 := HO.out
    unfold lenS at h1
    rw [if_pos (by have := HX.out.2.2.2; omega), HX.out.2.2.2] at h1
    subst h1
    exact ⟨rfl, H1.out.1, H1.out.2⟩
end Go.Proofs.YtndcpjnfdgojkaaDoor
