/-
  Der: the reader: the end, a fault, a long tag.
-/
import Derived.Test.YtndcpjnfdgojkaaDoorE23a
import Derived.Test.YtndcpjnfdgojkaaDoorE40
namespace Go.Proofs.YtndcpjnfdgojkaaDoor
open Go.RowKit
def posOf : Option Value → Nat
  | some v => (intOf v).toNat
  | none => 0
theorem Rdr.pos {w : World} {g b off n c p : Nat} (h : Rdr w g b off n c p) : posOf (w.cell? ⟨g, 1, none⟩) = p := by
  have c1 : w.cell? ⟨g, 1, none⟩ = some (.int .i64 p) := h.cell 1
  rw [c1]; simp [posOf, intOf]
theorem or_i64 (s : Nat) (x y : Int) (hx0 : 0 ≤ x) (hx : x * 2 ^ s < 9223372036854775808) (hy0 : 0 ≤ y) (hy : y < 2 ^ s) (hs : s ≤ 32) : bits .or .i64 (x * 2 ^ s) y = x * 2 ^ s + y := by
  obtain ⟨a, rfl⟩ := Int.eq_ofNat_of_zero_le hx0
  obtain ⟨b, rfl⟩ := Int.eq_ofNat_of_zero_le hy0
  have e : ((a * 2 ^ s : Nat) : Int) = (a : Int) * 2 ^ s := by simp
  have hb : b < 2 ^ s := by
    have : ((b : Nat) : Int) < ((2 ^ s : Nat) : Int) := by rw [Int.natCast_pow]; exact hy
    exact Int.ofNat_lt.1 this
  have ha : a * 2 ^ s < 2 ^ 63 := by
    have : ((a * 2 ^ s : Nat) : Int) < ((2 ^ 63 : Nat) : Int) := by rw [e]; exact hx
    exact Int.ofNat_lt.1 this
  have hb2 : b < 2 ^ 63 := Nat.lt_of_lt_of_le hb (Nat.pow_le_pow_right (by decide) (by omega))
  have h := (bits_nat .i64 63 (by decide) (fun n h₀ h₁ => by rw [IntKind.wrap_i64]; omega) (a * 2 ^ s) b ha hb2).2
  rw [e] at h
  rw [h, Nat.mul_comm a, ← Nat.two_pow_add_eq_or_of_lt hb a, Nat.mul_comm, Int.natCast_add, e]
set_option maxHeartbeats 1000000 in
theorem next_end {w : World} (g b off n c : Nat) (hR : Rdr w g b off n c n) :
    Calls Tryd.prog 67 #[.pointer (some ⟨g, 0, none⟩)] w fun e w' => e = .returned (.tuple #[.int .u8 0, .int .i64 2]) ∧ Upd w w' g ∧ Rdr w' g b off n c n := by
  have c0 : w.cell? ⟨g, 0, none⟩ = some (.slice (some ⟨b, off, none⟩) n c) := hR.cell 0
  have c1 : w.cell? ⟨g, 1, none⟩ = some (.int .i64 n) := hR.cell 1
  have HR : Hid (Rdr w g b off n c n) := hR
  clear hR
  go_enter Tryd.func67, Tryd.ntmps67
  go_upto_region 1 with (fail)
  go_quiet (fail)
  go_wp2
  go_ret2
  exact ⟨rfl, ⟨rfl, rfl, rfl, Nat.le_refl _, fun _ _ _ => rfl⟩, HR.out.drewN _⟩
set_option maxHeartbeats 1000000 in
theorem fault_any {w : World} (g b off n c p a : Nat) (x : Int) (hR : Rdr w g b off n c p) :
    Calls Tryd.prog 69 #[.pointer (some ⟨g, 0, none⟩), .int .i64 x, .int .i64 a] w fun e w' => e = .returned (.int .i64 x) ∧ Upd w w' g ∧ Rdr w' g b off n c a := by
  have c1 : w.cell? ⟨g, 1, none⟩ = some (.int .i64 p) := hR.cell 1
  have f1 := hR.frozen 1
  have HR : Hid (Rdr w g b off n c p) := hR
  clear hR
  go_enter Tryd.func69, Tryd.ntmps69
  go_wp2
  go_ret
  exact ⟨rfl, Upd.set _ _ _ _, HR.out.set 1 (.int .i64 a)⟩
set_option maxRecDepth 20000 in
set_option maxHeartbeats 4000000 in
theorem longTag_any {w : World} (g b off n c p : Nat) (M : List Int) (hR : Rdr w g b off n c p) (hM : Rd .u8 w b off M) (uM : U8s M) (hMl : M.length = n) (hn : n ≤ 16777216) (hb : b < w.heap.size) (hbg : b ≠ g) (hp : p ≤ n) :
    Calls Tryd.prog 68 #[.pointer (some ⟨g, 0, none⟩)] w fun e w' => e = .returned (.tuple #[.int .i64 (lng M p 0).v, .int .i64 (lng M p 0).e]) ∧ Upd w w' g ∧ Rdr w' g b off n c (lng M p 0).at := by
  have HX : Hid (Rdr w g b off n c p ∧ Rd .u8 w b off M ∧ U8s M ∧ M.length = n) := ⟨hR, hM, uM, hMl⟩
  obtain ⟨O, hO⟩ : ∃ O, lng M p 0 = O := ⟨_, rfl⟩
  have HO : Hid (lng M p 0 = O) := hO
  rw [hO]
  clear hR hM uM hMl hO
  go_enter Tryd.func68, Tryd.ntmps68
  go_wp2_with fail
  go_loopw [4] (fun tv wr => ∃ (i : Nat) (t : Int), tv = .int .i64 t ∧ i ≤ n ∧ 0 ≤ t ∧ t ≤ 268435455 ∧ Rdr wr g b off n c i ∧ Upd w wr g ∧ lng M i t = O) (fun _ wr => n - posOf (wr.cell? ⟨g, 1, none⟩))
  case atStart => exact ⟨p, 0, rfl, hp, by decide, by decide, HX.out.1, Upd.refl _ _, HO.out⟩
  case round =>
    obtain ⟨i, t, rfl, hi, t0, t1, hr, hu, hl⟩ := hrel
    have H1 : Hid (Rdr wr g b off n c i ∧ Upd w wr g ∧ lng M i t = O) := ⟨hr, hu, hl⟩
    clear hr hu hl
    by_cases hlt : i < n
    · obtain ⟨x, hx⟩ : ∃ x, M.getD i 0 = x := ⟨_, rfl⟩
      have hxu := HX.out.2.2.1.at i
      rw [hx] at hxu
      have HU : Hid (U8 x) := hxu
      obtain ⟨t', ht'⟩ : ∃ t', t * 128 + x % 128 = t' := ⟨_, rfl⟩
      have HS : Hid (O = if t' = 0 ∨ 268435455 < t' ∨ (x < 128 ∧ t' < 31) then .bad 30 i else if x < 128 then .ok t' (i + 1) else lng M (i + 1) t') := by
        show _ = _
        rw [← H1.out.2.2]
        exact lng_step (by have := HX.out.2.2.2; omega) hx ht'
      have e1 := and_127 x hxu
      have e2 := or_i64 7 t (x % 128) t0 (by omega) (by omega) (by omega) (by decide)
      rw [show t * 2 ^ 7 = t * 128 from rfl, ht'] at e2
      have x0 : 0 ≤ x % 128 := by omega
      have x1 : x % 128 ≤ 127 := by omega
      obtain ⟨y, hy⟩ : ∃ y, x % 128 = y := ⟨_, rfl⟩
      rw [hy] at e1 e2 x0 x1
      have HT : Hid (0 ≤ t' ∧ t * 128 + y = t' ∧ t' ≤ 34359738367) := ⟨by omega, by omega, by omega⟩
      clear hxu ht' hy
      go_wp2_with fail
      refine (next_any g b off n c i x H1.out.1 hlt hn ?_).mono ?_
      · rw [H1.out.2.1.rd hb HX.out.2.1 hbg i (by have := HX.out.2.2.2; omega), hx]
      rintro e w1 ⟨rfl, hu, hr⟩
      obtain ⟨i1, hi1⟩ : ∃ i1, i + 1 = i1 := ⟨_, rfl⟩
      rw [hi1] at hr
      have H2 : Hid (Rdr w1 g b off n c i1 ∧ Upd w w1 g ∧ i + 1 = i1) := ⟨hr, H1.out.2.1.trans hu, hi1⟩
      have d1 : w1.cell? ⟨g, 1, none⟩ = some (.int .i64 (i1 : Int)) := hr.cell 1
      have d2 : (i1 : Int) - 1 = (i : Int) := by omega
      have d3 : i1 ≤ n := by omega
      clear hu hr hx hi1
      have bad : Hid (t' = 0 ∨ 268435455 < t' ∨ (x < 128 ∧ t' < 31) → O = .bad 30 i) := by
        intro h; rw [HS.out, if_pos h]
      have u0 := HU.out.1
      have u1 := HU.out.2
      by_cases q1 : t' = 0
      · subst q1
        go_wp2_with (go_at_call 69; refine (fault_any g b off n c i1 i 30 H2.out.1).mono ?_; rintro e w2 ⟨rfl, hu2, hr2⟩)
        go_ret2
        rw [bad.out (.inl (by simp))]
        exact ⟨rfl, H2.out.2.1.trans hu2, hr2⟩
      have q1b : (t' == 0) = false := by simpa using q1
      by_cases q2 : 268435455 < t'
      · go_wp2_with (go_at_call 69; refine (fault_any g b off n c i1 i 30 H2.out.1).mono ?_; rintro e w2 ⟨rfl, hu2, hr2⟩)
        go_ret2
        rw [bad.out (.inr (.inl q2))]
        exact ⟨rfl, H2.out.2.1.trans hu2, hr2⟩
      by_cases q3 : x < 128
      · by_cases q4 : t' < 31
        · go_wp2_with (go_at_call 69; refine (fault_any g b off n c i1 i 30 H2.out.1).mono ?_; rintro e w2 ⟨rfl, hu2, hr2⟩)
          go_ret2
          rw [bad.out (.inr (.inr ⟨q3, q4⟩))]
          exact ⟨rfl, H2.out.2.1.trans hu2, hr2⟩
        · go_wp2
          go_ret2
          have h1 := HS.out
          rw [if_neg (by omega), if_pos q3, H2.out.2.2] at h1
          subst h1
          exact ⟨rfl, H2.out.2.1, H2.out.1⟩
      · go_wp2
        go_roundw
        case rel =>
          refine ⟨i1, t', rfl, d3, HT.out.1, by omega, H2.out.1, H2.out.2.1, ?_⟩
          have h1 := HS.out
          rw [if_neg (by omega), if_neg (by omega), H2.out.2.2] at h1
          exact h1.symm
        case measure => rw [H2.out.1.pos, H1.out.1.pos]; have := H2.out.2.2; omega
    · obtain rfl : i = n := by omega
      go_wp2_with fail
      refine (next_end g b off i c H1.out.1).mono ?_
      rintro e w1 ⟨rfl, hu, hr⟩
      have H2 : Hid (Rdr w1 g b off i c i ∧ Upd w w1 g) := ⟨hr, H1.out.2.1.trans hu⟩
      clear hu hr
      go_wp2
      go_ret2
      have := H1.out.2.2
      rw [lng_end (by have := HX.out.2.2.2; omega)] at this
      subst this
      refine ⟨rfl, H2.out.2, ?_⟩
      have := H2.out.1
      rw [← HX.out.2.2.2] at this ⊢
      exact this
end Go.Proofs.YtndcpjnfdgojkaaDoor
