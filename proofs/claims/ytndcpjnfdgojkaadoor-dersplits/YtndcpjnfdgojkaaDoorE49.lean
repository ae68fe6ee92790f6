/-
  Der: the reference's length.
-/
import Derived.Test.YtndcpjnfdgojkaaDoorE48
namespace Go.Proofs.YtndcpjnfdgojkaaDoor
open Go.RowKit
set_option maxRecDepth 20000 in
set_option maxHeartbeats 4000000 in
theorem Rlength_any {w : World} (b off n c p : Nat) (M : List Int) (hM : Rd .u8 w b off M) (uM : U8s M) (hMl : M.length = n) (hn : n ≤ 16777216) (hp : p ≤ n) :
    Calls Tryd.prog 38 #[.slice (some ⟨b, off, none⟩) n c, .int .i64 p] w fun e w' => e = .returned (RsVal (lenS M p)) ∧ w = w' := by
  obtain ⟨O, hO⟩ : ∃ O, lenS M p = O := ⟨_, rfl⟩
  have HX : Hid (Rd .u8 w b off M ∧ U8s M ∧ M.length = n ∧ lenS M p = O) := ⟨hM, uM, hMl, hO⟩
  rw [hO]
  clear hM uM hMl hO
  have hnI : (n : Int) ≤ 16777216 := by omega
  by_cases hlt : p < n
  · obtain ⟨x, hx⟩ : ∃ x, M.getD p 0 = x := ⟨_, rfl⟩
    have hu8 := HX.out.2.1.at p
    rw [hx] at hu8
    have x0 := hu8.1
    have x1 := hu8.2
    have HXx : Hid (M.getD p 0 = x) := hx
    have cx : w.cell? ⟨b, off + p, none⟩ = some (.int .u8 x) := by rw [HX.out.1 p (by have := HX.out.2.2.1; omega), hx]
    clear hx hu8
    have hpI : (p : Int) < (n : Int) := by omega
    by_cases q1 : x = 128 ∨ x = 255
    · have HE : Hid (O = .bad 31 p) := by show _ = _; rw [← HX.out.2.2.2]; exact lenS_128 (by have := HX.out.2.2.1; omega) HXx.out q1
      rcases q1 with rfl | rfl
      all_goals
        go_enter Tryd.func38, Tryd.ntmps38
        go_wp2
        (try simp only [Exit.inBlock, Exit.then]); refine bodyPost_ret (results_tmp4 rfl _ _ _) rfl ?_
        rw [HE.out]
        exact ⟨rfl, rfl⟩
    have n1 : (x == 128) = false := by simp; omega
    have n2 : (x == 255) = false := by simp; omega
    by_cases q2 : x < 128
    · have HE : Hid (O = if (n : Int) < p + 1 + x then .bad 31 p else .ok x (p + 1)) := by
        show _ = _
        have h1 := lenS_lo (by have := HX.out.2.2.1; omega) HXx.out q2
        rw [HX.out.2.2.2, HX.out.2.2.1] at h1
        exact h1
      have n3 : ¬ 128 < x := by omega
      by_cases q3 : (n : Int) - ((p : Int) + 1) < x
      · go_enter Tryd.func38, Tryd.ntmps38
        go_wp2
        (try simp only [Exit.inBlock, Exit.then]); refine bodyPost_ret (results_tmp4 rfl _ _ _) rfl ?_
        rw [HE.out, if_pos (by omega)]
        exact ⟨rfl, rfl⟩
      · go_enter Tryd.func38, Tryd.ntmps38
        go_wp2
        (try simp only [Exit.inBlock, Exit.then]); refine bodyPost_ret (results_tmp4 rfl _ _ _) rfl ?_
        rw [HE.out, if_neg (by omega)]
        exact ⟨rfl, rfl⟩
    · obtain ⟨k, hk⟩ : ∃ k : Nat, x - 128 = k := ⟨(x - 128).toNat, by omega⟩
      have k1 : 0 < k := by omega
      have k2 : k ≤ 127 := by omega
      have k3 : 128 < x := by omega
      have k4 : x < 255 := by omega
      obtain ⟨p1, hp1⟩ : ∃ p1, p + 1 = p1 := ⟨_, rfl⟩
      have p1I : (p : Int) + 1 = (p1 : Int) := by omega
      obtain ⟨F, hF⟩ : ∃ F, fold8 M p1 k = F := ⟨_, rfl⟩
      obtain ⟨D, hD⟩ : ∃ D : Bool, decide (M.getD p1 0 ≠ 0 ∧ 128 ≤ F) = D := ⟨_, rfl⟩
      have HE : Hid (O = if n < p1 + k then .bad 2 n else if D = false then .bad 31 p else if (n : Int) - (p1 + k : Nat) < F then .bad 31 p else .ok F (p1 + k)) := by
        show _ = _
        have h1 := lenS_hi (F := F) (D := D) (by have := HX.out.2.2.1; omega) HXx.out k3 k4 hk (by rw [hp1]; exact hF) (by rw [hp1]; exact hD)
        rw [HX.out.2.2.2, HX.out.2.2.1, hp1] at h1
        exact h1
      have hFb := fold8_bd HX.out.2.1 p1 k
      rw [hF] at hFb
      obtain ⟨F0, F1⟩ := hFb
      have HFD : Hid (fold8 M p1 k = F ∧ decide (M.getD p1 0 ≠ 0 ∧ 128 ≤ F) = D ∧ p + 1 = p1) := ⟨hF, hD, hp1⟩
      clear hF hD
      obtain ⟨p2, hp2⟩ : ∃ p2, p1 + k = p2 := ⟨_, rfl⟩
      have p2I : (p1 : Int) + (k : Int) = (p2 : Int) := by omega
      have HP2 : Hid (p1 + k = p2) := hp2
      by_cases q3 : n < p2
      · have q3I : (n : Int) < (p2 : Int) := by omega
        clear hp1 hp2
        go_enter Tryd.func38, Tryd.ntmps38
        go_wp2
        (try simp only [Exit.inBlock, Exit.then]); refine bodyPost_ret (results_tmp4 rfl _ _ _) rfl ?_
        rw [HE.out, HP2.out, if_pos q3]
        exact ⟨rfl, rfl⟩
      have q3I : ¬ (n : Int) < (p2 : Int) := by omega
      have pkI : (p : Int) + (k : Int) = (p2 : Int) - 1 := by omega
      have hp2n : (p2 : Int) ≤ 16777216 := by omega
      go_enter Tryd.func38, Tryd.ntmps38
      go_wp2_with fail
      go_loopw [8, 11] (fun nv iv wr => ∃ (m i : Nat) (t : Int), nv = .int .i64 t ∧ iv = .int .i64 i ∧ m ≤ k ∧ i = p1 + m ∧ 0 ≤ t ∧ t ≤ 16777217 ∧ fold8 M p1 m = t ∧ w = wr) (fun _ iv _ => p2 - (intOf iv).toNat)
      case atStart => exact ⟨0, p1, 0, rfl, rfl, by omega, rfl, by decide, by decide, rfl, rfl⟩
      case round =>
        obtain ⟨m, i, t, rfl, rfl, hm, him, t0, t1, hl, rfl⟩ := hrel
        have H1 : Hid (fold8 M p1 m = t ∧ i = p1 + m) := ⟨hl, him⟩
        clear hl
        by_cases hlt2 : m < k
        · have l1 : (i : Int) ≤ (p2 : Int) - 1 := by omega
          have l2 : (i : Int) < (n : Int) := by omega
          obtain ⟨y, hy⟩ : ∃ y, M.getD i 0 = y := ⟨_, rfl⟩
          have hyu := HX.out.2.1.at i
          rw [hy] at hyu
          have y0 := hyu.1
          have y1 := hyu.2
          have cy : w.cell? ⟨b, off + i, none⟩ = some (.int .u8 y) := by rw [HX.out.1 i (by have := HX.out.2.2.1; omega), hy]
          have HF : Hid (fold8 M p1 (m + 1) = min (t * 256 + y) 16777217) := by
            show _ = _
            rw [fold8_at (M := M) (x := y) p1 m (by rw [← H1.out.2]; exact hy), H1.out.1]
          clear hy hyu
          obtain ⟨t2, ht2⟩ : ∃ t2, t * 256 + y = t2 := ⟨_, rfl⟩
          have HT2 : Hid (t * 256 + y = t2) := ht2
          have t20 : 0 ≤ t2 := by omega
          have t21 : t2 ≤ 4294968000 := by omega
          clear him
          by_cases q4 : 16777216 < t2
          · go_wp2
            go_roundw
            case rel => exact ⟨m + 1, i + 1, 16777217, rfl, by go_num, by omega, by have := H1.out.2; omega, by decide, by decide, by rw [HF.out, HT2.out]; omega, trivial⟩
            case measure => simp [intOf]; omega
          · go_wp2
            go_roundw
            case rel => exact ⟨m + 1, i + 1, t2, rfl, by go_num, by omega, by have := H1.out.2; omega, t20, by omega, by rw [HF.out, HT2.out]; omega, trivial⟩
            case measure => simp [intOf]; omega
        · obtain rfl : m = k := by omega
          have l1 : ¬ (i : Int) ≤ (p2 : Int) - 1 := by omega
          obtain rfl : F = t := by rw [← HFD.out.1, H1.out.1]
          obtain ⟨z, hz⟩ : ∃ z, M.getD p1 0 = z := ⟨_, rfl⟩
          have hzu := HX.out.2.1.at p1
          rw [hz] at hzu
          have z0 := hzu.1
          have z1 := hzu.2
          have cz : w.cell? ⟨b, off + p1, none⟩ = some (.int .u8 z) := by rw [HX.out.1 p1 (by have := HX.out.2.2.1; omega), hz]
          have p1n : (p1 : Int) < (n : Int) := by omega
          have HD : Hid (decide (z ≠ 0 ∧ 128 ≤ F) = D) := by show _ = _; rw [← hz]; exact HFD.out.2.1
          have nl : ¬ n < p1 + m := by omega
          clear hz hzu him hp1 hp2
          by_cases q4 : F < 128
          · have HDf : Hid (D = false) := by show _ = _; rw [← HD.out]; simp; omega
            go_wp2
            (try simp only [Exit.inBlock, Exit.then]); refine bodyPost_ret (results_tmp4 rfl _ _ _) rfl ?_
            rw [HE.out, if_neg nl, if_pos HDf.out]
            exact ⟨rfl, rfl⟩
          by_cases q5 : z = 0
          · subst q5
            have HDf : Hid (D = false) := by show _ = _; rw [← HD.out]; simp
            go_wp2
            (try simp only [Exit.inBlock, Exit.then]); refine bodyPost_ret (results_tmp4 rfl _ _ _) rfl ?_
            rw [HE.out, if_neg nl, if_pos HDf.out]
            exact ⟨rfl, rfl⟩
          have q5b : (z == 0) = false := by simpa using q5
          have HDt : Hid (D ≠ false) := by show _ ≠ _; rw [← HD.out]; simp; omega
          by_cases q6 : (n : Int) - (p2 : Int) < F
          · go_wp2
            (try simp only [Exit.inBlock, Exit.then]); refine bodyPost_ret (results_tmp4 rfl _ _ _) rfl ?_
            rw [HE.out, if_neg nl, if_neg HDt.out, HP2.out, if_pos q6]
            exact ⟨rfl, rfl⟩
          · go_wp2
            (try simp only [Exit.inBlock, Exit.then]); refine bodyPost_ret (results_tmp4 rfl _ _ _) rfl ?_
            rw [HE.out, if_neg nl, if_neg HDt.out, HP2.out, if_neg (by omega)]
            exact ⟨rfl, rfl⟩
  · obtain rfl : p = n := by omega
    go_enter Tryd.func38, Tryd.ntmps38
    go_wp2
    (try simp only [Exit.inBlock, Exit.then]); refine bodyPost_ret (results_tmp4 rfl _ _ _) rfl ?_
    have h1 := HX.out.2.2.2
    unfold lenS at h1
    rw [if_pos (by have := HX.out.2.2.1; omega), HX.out.2.2.1] at h1
    subst h1
    exact ⟨rfl, rfl⟩
end Go.Proofs.YtndcpjnfdgojkaaDoor
