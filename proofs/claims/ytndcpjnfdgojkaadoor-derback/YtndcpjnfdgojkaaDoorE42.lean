/-
  Der: the reader: a long length, any length.
-/
import Derived.Test.YtndcpjnfdgojkaaDoorE41
namespace Go.Proofs.YtndcpjnfdgojkaaDoor
open Go.RowKit
def LongLen (n p k : Nat) (F : Int) (D : Bool) (e : Ending) (at_ : Nat → Prop) : Prop :=
  (n < p + k ∧ e = .returned (.tuple #[.int .i64 0, .bool false, .int .i64 2]) ∧ at_ n) ∨ (p + k ≤ n ∧ e = .returned (.tuple #[.int .i64 F, .bool D, .int .i64 0]) ∧ at_ (p + k))
set_option maxRecDepth 20000 in
set_option maxHeartbeats 4000000 in
theorem longLength_any {w : World} (g b off n c p k : Nat) (M : List Int) (hR : Rdr w g b off n c p) (hM : Rd .u8 w b off M) (uM : U8s M) (hMl : M.length = n) (hn : n ≤ 16777216) (hb : b < w.heap.size) (hbg : b ≠ g) (hp : p ≤ n) (hk0 : 0 < k) (hk : k ≤ 127) :
    Calls Tryd.prog 70 #[.pointer (some ⟨g, 0, none⟩), .int .i64 k] w fun e w' => LongLen n p k (fold8 M p k) (decide (M.getD p 0 ≠ 0 ∧ 128 ≤ fold8 M p k)) e fun a => Upd w w' g ∧ Rdr w' g b off n c a := by
  have HX : Hid (Rdr w g b off n c p ∧ Rd .u8 w b off M ∧ U8s M ∧ M.length = n) := ⟨hR, hM, uM, hMl⟩
  clear hR hM uM hMl
  obtain ⟨s, hs⟩ : ∃ s : Bool, decide (M.getD p 0 ≠ 0) = s := ⟨_, rfl⟩
  have HS : Hid (decide (M.getD p 0 ≠ 0) = s) := hs
  clear hs
  obtain ⟨D, hD⟩ : ∃ D : Bool, decide (M.getD p 0 ≠ 0 ∧ 128 ≤ fold8 M p k) = D := ⟨_, rfl⟩
  obtain ⟨F, hF⟩ : ∃ F : Int, fold8 M p k = F := ⟨_, rfl⟩
  have HDF : Hid (decide (M.getD p 0 ≠ 0 ∧ 128 ≤ fold8 M p k) = D ∧ fold8 M p k = F) := ⟨hD, hF⟩
  rw [hD, hF]
  clear hD hF
  go_enter Tryd.func70, Tryd.ntmps70
  go_wp2_with fail
  go_loopw [4, 5, 11] (fun nv sv iv wr => ∃ (i : Nat) (t : Int) (z : Bool), nv = .int .i64 t ∧ sv = .bool z ∧ iv = .int .i64 i ∧ i ≤ k ∧ p + i ≤ n ∧ 0 ≤ t ∧ t ≤ 16777217 ∧ fold8 M p i = t ∧ (0 < i → z = s) ∧ Rdr wr g b off n c (p + i) ∧ Upd w wr g) (fun _ _ iv _ => k - (intOf iv).toNat)
  case atStart => exact ⟨0, 0, false, rfl, rfl, rfl, by omega, by omega, by decide, by decide, rfl, by omega, HX.out.1, Upd.refl _ _⟩
  case round =>
    obtain ⟨i, t, z, rfl, rfl, rfl, hi, hpi, t0, t1, ht, hz, hr, hu⟩ := hrel
    have H1 : Hid (Rdr wr g b off n c (p + i) ∧ Upd w wr g ∧ fold8 M p i = t ∧ (0 < i → z = s)) := ⟨hr, hu, ht, hz⟩
    clear hr hu ht hz
    by_cases hlt : i < k
    · have l1 : (i : Int) < (k : Int) := by omega
      by_cases hlt2 : p + i < n
      · obtain ⟨x, hx⟩ : ∃ x, M.getD (p + i) 0 = x := ⟨_, rfl⟩
        have hxu := HX.out.2.2.1.at (p + i)
        rw [hx] at hxu
        obtain ⟨x0, x1⟩ := hxu
        have hF := fold8_at p i hx
        rw [H1.out.2.2.1] at hF
        have e2 := or_i64 8 t x t0 (by omega) x0 (by omega) (by decide)
        rw [show t * 2 ^ 8 = t * 256 from rfl] at e2
        obtain ⟨t2, ht2⟩ : ∃ t2, t * 256 + x = t2 := ⟨_, rfl⟩
        rw [ht2] at e2 hF
        have t20 : 0 ≤ t2 := by omega
        have t21 : t2 ≤ 4294968000 := by omega
        have HF : Hid (fold8 M p (i + 1) = min t2 16777217) := hF
        clear ht2 hF
        have HZ : Hid (i = 0 → (x != 0) = s) := by
          intro h0; subst h0
          rw [← HS.out, show p = p + 0 by omega, hx]
          by_cases hx0 : x = 0 <;> simp [hx0]
        go_wp2_with fail
        refine (next_any g b off n c (p + i) x H1.out.1 hlt2 hn ?_).mono ?_
        · rw [H1.out.2.1.rd hb HX.out.2.1 hbg (p + i) (by have := HX.out.2.2.2; omega), hx]
        rintro e w1 ⟨rfl, hu, hr⟩
        have H2 : Hid (Rdr w1 g b off n c (p + (i + 1)) ∧ Upd w w1 g) := ⟨hr, H1.out.2.1.trans hu⟩
        clear hu hr hx
        by_cases i0 : i = 0
        · subst i0
          have hz := HZ.out rfl
          obtain ⟨y, hy⟩ : ∃ y : Bool, (x != 0) = y := ⟨_, rfl⟩
          rw [hy] at hz
          have HY : Hid (y = s) := hz
          clear hz
          by_cases q1 : t2 ≤ 16777217
          · go_wp2
            go_roundw
            case rel => exact ⟨1, t2, y, rfl, rfl, rfl, by omega, by omega, t20, q1, by rw [HF.out]; omega, fun _ => HY.out, H2.out.1, H2.out.2⟩
            case measure => simp [intOf]; omega
          · go_wp2
            go_roundw
            case rel => exact ⟨1, 16777217, y, rfl, rfl, rfl, by omega, by omega, by decide, by decide, by rw [HF.out]; omega, fun _ => HY.out, H2.out.1, H2.out.2⟩
            case measure => simp [intOf]; omega
        · have i0b : ((i : Int) == 0) = false := by simpa using i0
          have HY : Hid (z = s) := H1.out.2.2.2 (by omega)
          by_cases q1 : t2 ≤ 16777217
          · go_wp2
            go_roundw
            case rel => exact ⟨i + 1, t2, z, rfl, rfl, by go_num, by omega, by omega, t20, q1, by rw [HF.out]; omega, fun _ => HY.out, H2.out.1, H2.out.2⟩
            case measure => simp [intOf]; omega
          · go_wp2
            go_roundw
            case rel => exact ⟨i + 1, 16777217, z, rfl, rfl, by go_num, by omega, by omega, by decide, by decide, by rw [HF.out]; omega, fun _ => HY.out, H2.out.1, H2.out.2⟩
            case measure => simp [intOf]; omega
      · have hpe : p + i = n := by omega
        go_wp2_with fail
        refine (next_end g b off n c (by have := H1.out.1; rw [hpe] at this; exact this)).mono ?_
        rintro e w1 ⟨rfl, hu, hr⟩
        have H2 : Hid (Rdr w1 g b off n c n ∧ Upd w w1 g) := ⟨hr, H1.out.2.1.trans hu⟩
        clear hu hr
        go_wp2
        go_ret3
        exact .inl ⟨by omega, rfl, H2.out.2, H2.out.1⟩
    · obtain rfl : i = k := by omega
      have HD : Hid (D = (z && decide (128 ≤ t)) ∧ F = t) := by
        refine ⟨?_, ?_⟩
        · rw [← HDF.out.1, H1.out.2.2.1, H1.out.2.2.2 hk0, ← HS.out, Bool.decide_and]
        · rw [← HDF.out.2, H1.out.2.2.1]
      by_cases hz : z = true
      · subst hz
        by_cases q1 : 128 ≤ t
        · have HE : Hid (D = true) := by show _ = _; rw [HD.out.1]; simp [q1]
          go_wp2
          go_ret3
          refine .inr ⟨hpi, ?_, H1.out.2.1, H1.out.1⟩
          rw [HE.out, HD.out.2]; rfl
        · have HE : Hid (D = false) := by show _ = _; rw [HD.out.1]; simp; omega
          go_wp2
          go_ret3
          refine .inr ⟨hpi, ?_, H1.out.2.1, H1.out.1⟩
          rw [HE.out, HD.out.2]; rfl
      · have hz' : z = false := by simpa using hz
        subst hz'
        have HE : Hid (D = false) := by show _ = _; rw [HD.out.1]; simp
        go_wp2
        go_ret3
        refine .inr ⟨hpi, ?_, H1.out.2.1, H1.out.1⟩
        rw [HE.out, HD.out.2]; rfl
end Go.Proofs.YtndcpjnfdgojkaaDoor
