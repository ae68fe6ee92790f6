/-
  Der: the reference's Int.
-/
import Derived.Test.YtillkhjihggcjaaGreatDoorK15
namespace Go.Proofs.YtillkhjihggcjaaGreatDoor
open Go.RowKit
set_option maxRecDepth 20000 in
set_option maxHeartbeats 4000000 in
theorem RInt_any {w : World} (v : Value) (X : List Int) (hX : Sl .u8 w v X) (uX : U8s X) (hl : X.length ≤ 16384) :
    Calls Tryz.prog 54 #[v] w fun e w' => e = .returned (.tuple #[.int .i64 (intV X), .int .i64 (intE X)]) ∧ w = w' := by
  have HI : Hid (Calls Tryz.prog 60 #[v] w fun e w' => e = .returned (.bool (intOk X)) ∧ w = w') := whole_any v X hX uX hl
  obtain ⟨a, c, rfl, hc, hx⟩ := hX
  obtain ⟨n, hn⟩ : ∃ n, X.length = n := ⟨_, rfl⟩
  rw [hn] at HI hc ⊢
  cases hok : intOk X with
  | false =>
    have HV : Hid (intV X = 0 ∧ intE X = 6) := ⟨by unfold intV; rw [hok]; simp, by unfold intE; rw [hok]; simp⟩
    rw [hok] at HI
    clear hx hok
    go_enter Tryz.func54, Tryz.ntmps54
    go_wp2_with fail
    refine HI.out.mono ?_
    rintro e w1 ⟨rfl, rfl⟩
    go_wp2
    go_ret2
    exact ⟨by rw [HV.out.1, HV.out.2]; rfl, rfl⟩
  | true =>
    have hne := intOk_ne hok
    rw [hok] at HI
    rcases hx with hx | ⟨b, off, rfl, hb, hr⟩
    · rw [hx] at hne; simp at hne
    by_cases hbig : 8 < n
    · have HV : Hid (intV X = 0 ∧ intE X = 3) := ⟨by unfold intV; rw [if_neg (fun h => by have := h.2; omega)], by unfold intE; rw [hok, hn]; simp [hbig]⟩
      have hbI : (8 : Int) < (n : Int) := by omega
      clear hr hok
      go_enter Tryz.func54, Tryz.ntmps54
      go_wp2_with fail
      refine HI.out.mono ?_
      rintro e w1 ⟨rfl, rfl⟩
      go_wp2
      go_ret2
      exact ⟨by rw [HV.out.1, HV.out.2]; rfl, rfl⟩
    · have HV : Hid (intV X = iv X n ∧ intE X = 0) := ⟨by unfold intV; rw [if_pos ⟨hok, by omega⟩, hn], by unfold intE; rw [hok, hn]; simp [hbig]⟩
      have hbI : ¬ (8 : Int) < (n : Int) := by omega
      rw [hn] at hne
      have hneI : (1 : Int) ≤ (n : Int) := by omega
      have hneI2 : (0 : Int) < (n : Int) := by omega
      obtain ⟨x, hx⟩ : ∃ x, X.getD 0 0 = x := ⟨_, rfl⟩
      have cx : w.cell? ⟨b, off, none⟩ = some (.int .u8 x) := by have := hr 0 (by omega); rw [hx] at this; exact this
      have HX : Hid (Rd .u8 w b off X ∧ U8s X ∧ X.length = n ∧ X.getD 0 0 = x) := ⟨hr, uX, hn, hx⟩
      have h128 : 128 ≤ x ∨ ¬ 128 ≤ x := by omega
      obtain ⟨s0, hs0⟩ : ∃ s0, iv X 0 % 18446744073709551616 = s0 := ⟨_, rfl⟩
      have HS0 : Hid (iv X 0 % 18446744073709551616 = s0) := hs0
      have HSV : Hid ((128 ≤ x → s0 = 18446744073709551615) ∧ (¬ 128 ≤ x → s0 = 0)) := by
        have h9 : iv X 0 = if 128 ≤ X.getD 0 0 then -1 else 0 := rfl
        rw [hx] at h9
        refine ⟨fun h => ?_, fun h => ?_⟩
        · rw [if_pos h] at h9; rw [← hs0, h9]; decide
        · rw [if_neg h] at h9; rw [← hs0, h9]; decide
      clear hr hok uX hx hl hs0
      go_enter Tryz.func54, Tryz.ntmps54
      go_wp2_with fail
      refine HI.out.mono ?_
      rintro e w1 ⟨rfl, rfl⟩
      rcases h128 with h128 | h128
      all_goals
        go_wp2_with fail
        go_loopw [4, 5] (fun vv kv wr => ∃ (i : Nat) (u : Int), vv = .int .u64 u ∧ kv = .int .i64 i ∧ i ≤ n ∧ iv X i % 18446744073709551616 = u ∧ w = wr) (fun _ kv _ => n - (intOf kv).toNat)
        case atStart => exact ⟨0, s0, by first | rw [HSV.out.1 h128] | rw [HSV.out.2 h128], rfl, by omega, HS0.out, rfl⟩
        case round =>
          obtain ⟨i, u, rfl, rfl, hi, hu, rfl⟩ := hrel
          have HU : Hid (iv X i % 18446744073709551616 = u) := hu
          clear hu
          by_cases hlt : i < n
          · have l1 : (i : Int) < (n : Int) := by omega
            obtain ⟨y, hy⟩ : ∃ y, X.getD i 0 = y := ⟨_, rfl⟩
            have cy : w.cell? ⟨b, off + i, none⟩ = some (.int .u8 y) := by
              have := HX.out.1 i (by have := HX.out.2.2.1; omega)
              rw [hy] at this; exact this
            have uy := HX.out.2.1.at i
            rw [hy] at uy
            obtain ⟨y0, y1⟩ := uy
            obtain ⟨m, hm⟩ : ∃ m, IntKind.u64.wrap (u * 256) = m := ⟨_, rfl⟩
            obtain ⟨u2, hu2⟩ : ∃ u2, IntKind.u64.wrap (m + y) = u2 := ⟨_, rfl⟩
            have HU2 : Hid (iv X (i + 1) % 18446744073709551616 = u2) := by
              show (256 * iv X i + X.getD i 0) % 18446744073709551616 = u2
              have h1 := HU.out
              rw [IntKind.wrap_u64] at hm hu2
              rw [hy]
              omega
            clear hy
            go_wp2
            go_roundw
            case rel => exact ⟨i + 1, u2, rfl, by go_num, by omega, HU2.out, trivial⟩
            case measure => simp [intOf]; omega
          · obtain rfl : i = n := by omega
            have l1 : ¬ (i : Int) < (i : Int) := by omega
            have HW : Hid (wrap64 u = iv X i ∧ IntKind.i64.wrap u = iv X i) := by
              have h1 := HU.out
              obtain ⟨d, hd⟩ : ∃ d, i = d + 1 := ⟨i - 1, by omega⟩
              have h2 := iv_range HX.out.2.1 d (by omega)
              rw [← hd] at h2
              refine ⟨by unfold wrap64; omega, by rw [IntKind.wrap_i64]; omega⟩
            go_wp2
            go_ret2
            exact ⟨by rw [HV.out.1, HV.out.2]; first | rw [HW.out.1]; rfl | rw [HW.out.2]; rfl, rfl⟩
end Go.Proofs.YtillkhjihggcjaaGreatDoor
