/-
  The walk of the reference's Bytes.
-/
import Derived.Test.YthkheocggcmooaaW42
import Derived.Test.YthkheocggcmooaaW16
namespace Go.Proofs.Ythkheocggcmooaa
open Go.RowKit

def RTwo8 (w : World) (e : Ending) (s : List Int × Int) : Prop := ∃ r, e = .returned (.tuple #[r, .int .i64 s.2]) ∧ Sl .u8 w r s.1
theorem RTwo8.nil' {w : World} {n : Int} {s : List Int × Int} (hs : s = ([], n)) : RTwo8 w (.returned (.tuple #[.slice none 0 0, .int .i64 n])) s := by
  subst hs; exact ⟨_, rfl, ⟨none, 0, rfl, Nat.le_refl _, .inl rfl⟩⟩
theorem RTwo8.mk' {w : World} {r : Value} {n : Int} {L : List Int} {s : List Int × Int} (h : Sl .u8 w r L) (hs : s = (L, n)) : RTwo8 w (.returned (.tuple #[r, .int .i64 n])) s := by
  subst hs; exact ⟨r, rfl, h⟩
theorem digit_of {xs : List Int} (hu : D.U16s xs) (i : Nat) : D.val xs / 65536 ^ i % 65536 = xs.getD i 0 := by
  have h := D.getD_div xs i hu
  have h0 := D.val_nonneg hu
  have h1 := hu.at i; unfold D.U16 at h1
  obtain ⟨n, hn⟩ := Int.eq_ofNat_of_zero_le h0
  rw [hn] at h ⊢
  have e : ((n / 2 ^ (16 * i) % 65536 : Nat) : Int) = (n : Int) / 65536 ^ i % 65536 := by
    rw [Int.natCast_emod, Int.natCast_ediv, Int.natCast_pow, Int.pow_mul]; rfl
  rw [← e]
  simp only [Int.toNat_natCast] at h
  rw [h]; omega
theorem byte_even (N : Int) (i q : Nat) (h : i = 2 * q) : N / 65536 ^ q % 65536 % 256 = N / 256 ^ i % 256 := by
  subst h
  rw [Int.pow_mul, show ((256 : Int) ^ 2) = 65536 by decide]
  omega
theorem byte_odd (N : Int) (i q : Nat) (h : i = 2 * q + 1) : N / 65536 ^ q % 65536 / 256 % 256 = N / 256 ^ i % 256 := by
  subst h
  have e : (256 : Int) ^ (2 * q + 1) = 65536 ^ q * 256 := by rw [Int.pow_succ, Int.pow_mul, show ((256 : Int) ^ 2) = 65536 by decide]
  rw [e, ← Int.ediv_ediv_of_nonneg (Int.pow_nonneg (by decide))]
  omega

theorem bitLen_val {X : List Int} (uX : U32s X) : bitLen (val X).toNat ≤ 32 * X.length := by
  refine bitLen_lt ?_
  have h4 := val_lt uX
  have h6 : (((val X).toNat : Nat) : Int) < ((2 ^ (32 * X.length) : Nat) : Int) := by
    rw [Int.toNat_of_nonneg (val_nonneg uX), Int.natCast_pow, Int.pow_mul]; exact h4
  exact Int.ofNat_lt.1 h6

set_option maxHeartbeats 2000000 in
theorem RBytes_any (X : List Int) (n : Int) (v : Value) (w : World) (hX : Sl .u32 w v X) (uX : U32s X) (hn0 : -9223372036854775808 ≤ n) (hn1 : n ≤ 9223372036854775807) :
    Calls Try.prog 37 #[v, .int .i64 n] w fun e w' => RTwo8 w' e (bytS X n) ∧ Below w.heap.size w w' := by
  have hX0 := hX
  obtain ⟨a, c, hv, _⟩ := hX.len
  subst hv
  have hBt : Below w.heap.size w w := Below.refl _ _
  by_cases h1 : 512 < X.length
  · have HL : Hid (bytS X n = ([], 3)) := by unfold bytS; rw [if_pos h1]; rfl
    go_enter Try.func37, Try.ntmps37
    go_wp2
    go_ret2
    exact ⟨RTwo8.nil' HL.out, hBt⟩
  by_cases h2 : n < 0
  · have HL : Hid (bytS X n = ([], 1)) := by unfold bytS; rw [if_neg h1, if_pos (.inl h2)]; rfl
    go_enter Try.func37, Try.ntmps37
    go_wp2
    go_ret2
    exact ⟨RTwo8.nil' HL.out, hBt⟩
  by_cases h3 : 2048 < n
  · have HL : Hid (bytS X n = ([], 1)) := by unfold bytS; rw [if_neg h1, if_pos (.inr h3)]; rfl
    go_enter Try.func37, Try.ntmps37
    go_wp2
    go_ret2
    exact ⟨RTwo8.nil' HL.out, hBt⟩
  obtain ⟨m, rfl⟩ : ∃ m : Nat, n = m := ⟨n.toNat, by omega⟩
  have hm : m ≤ 2048 := by omega
  obtain ⟨N, hN⟩ : ∃ N, val X = N := ⟨_, rfl⟩
  have nN : 0 ≤ N := hN ▸ val_nonneg uX
  have HN : Hid (val X = N) := hN
  have hls : X.length ≤ 512 := by omega
  obtain ⟨bl, hbl⟩ : ∃ bl, bitLen N.toNat = bl := ⟨_, rfl⟩
  have HBL : Hid (bitLen N.toNat = bl) := hbl
  have hbl2 : bl ≤ 16384 := by
    have := bitLen_val uX
    rw [hN, hbl] at this; omega
  have bX := val_lt uX
  rw [hN] at bX
  have dN : (D.lim N.toNat).length ≤ 1024 := by
    have := D.lim_fits (k := 2 * X.length) nN (by rw [pow16_32]; exact bX)
    omega
  by_cases h4 : 8 * m < bl
  · have HL : Hid (bytS X m = ([], 3)) := by unfold bytS; rw [if_neg h1, if_neg (by omega), hN, hbl, if_pos (by omega)]; rfl
    clear hN hbl bX
    go_enter Try.func37, Try.ntmps37
    go_wp2_with (first
      | (go_at_call 49; refine (Digits_any _ X hX uX (by omega) N HN.out).mono ?_; rintro e w' ⟨d, rfl, hd, hB⟩; replace hX := below_sl hB hX; replace hBt := grow0 hBt hB)
      | (go_at_call 19; refine (RBits_any _ X hX uX (by omega) N HN.out).mono ?_; rintro e w' ⟨rfl, hB⟩; rw [HBL.out]; replace hBt := grow0 hBt hB))
    go_ret2
    exact ⟨RTwo8.nil' HL.out, hBt⟩
  have HL : Hid (bytS X m = (beb N m, 0)) := by unfold bytS; rw [if_neg h1, if_neg (by omega), hN, hbl, if_neg (by omega)]; rfl
  clear hN hbl bX
  go_enter Try.func37, Try.ntmps37
  go_wp2_with (first
    | (go_at_call 49; refine (Digits_any _ X hX uX (by omega) N HN.out).mono ?_; rintro e w' ⟨d, rfl, hd, hB⟩; replace hX := below_sl hB hX; replace hBt := grow0 hBt hB)
    | (go_at_call 19; refine (RBits_any _ X hX uX (by omega) N HN.out).mono ?_; rintro e w3 ⟨rfl, hB⟩; rw [HBL.out]; replace hd := below_sl hB hd; replace hBt := grow0 hBt hB)
    | (at_make; refine wpList_mk _ rfl _ _ 41 rfl .u8 5 1 Try.und8 Try.info8 _ m rfl rfl rfl (by omega) (by omega) ?_; intro w4 hA4 hB4))
  obtain ⟨b4, hb4⟩ : ∃ b4, w3.heap.size = b4 := ⟨_, rfl⟩
  rw [hb4] at hA4
  rw [hb4]
  have HB3 : Hid (Below w.heap.size w w3 ∧ w3.heap.size = b4) := ⟨hBt, hb4⟩
  clear hBt
  go_loopw [8] (fun iv wr => ∃ (i : Nat) (S : List Int), iv = .int .i64 i ∧ i ≤ m ∧ Arr .u8 5 wr b4 S ∧ S.length = m ∧ (∀ j, j < i → S.getD (m - 1 - j) 0 = N / 256 ^ j % 256) ∧ Below w3.heap.size w3 wr) (fun iv _ => m - (intOf iv).toNat)
  case atStart => exact ⟨0, _, rfl, Nat.zero_le _, hA4, by simp, fun j hj => by omega, hB4⟩
  case round =>
    clear hA4 hB4
    obtain ⟨i, S, rfl, hi, hS, lS, hg, hBr⟩ := hrel
    by_cases hlt : i < m
    · obtain ⟨q, hq⟩ : ∃ q, i / 2 = q := ⟨_, rfl⟩
      obtain ⟨p, hp⟩ : ∃ p, m - 1 - i = p := ⟨_, rfl⟩
      obtain ⟨y, hy⟩ : ∃ y, (D.lim N.toNat).getD q 0 = y := ⟨_, rfl⟩
      have uy : D.U16 y := hy ▸ (D.lim_u16 _).at q
      obtain ⟨uy1, uy2⟩ := uy
      have hyv : N / 65536 ^ q % 65536 = y := by rw [← hy, ← digit_of (D.lim_u16 _) q, D.val_limI nN]
      have hqi : (i : Int) / 2 = q := by omega
      have hpi : (m : Int) - 1 - i = p := by omega
      have hd1 := digit_nat _ (D.lim N.toNat) (below_sl hBr hd) (by omega) q (by omega) y hy
      obtain ⟨s, hs⟩ : ∃ s, S.getD p 0 = s := ⟨_, rfl⟩
      have hcs := hS.cell p (by omega)
      rw [hs] at hcs
      have hfs := hS.frozen p
      have HH : Hid (Arr .u8 5 wr b4 S ∧ S.length = m ∧ (∀ j, j < i → S.getD (m - 1 - j) 0 = N / 256 ^ j % 256) ∧ Below w3.heap.size w3 wr ∧ m - 1 - i = p) := ⟨hS, lS, hg, hBr, hp⟩
      have hpm : p < m := by omega
      have done : ∀ x : Int, x = N / 256 ^ i % 256 → ∀ j, j < i + 1 → (S.set p x).getD (m - 1 - j) 0 = N / 256 ^ j % 256 := fun x hx j hj => by
        by_cases hji : j = i
        · subst hji
          rw [hp, List.getD_eq_getElem?_getD, List.getElem?_set_self (by omega)]; simpa using hx
        · rw [List.getD_eq_getElem?_getD, List.getElem?_set_ne (by omega), ← List.getD_eq_getElem?_getD]; exact hg j (by omega)
      have HDn : Hid (∀ x : Int, x = N / 256 ^ i % 256 → ∀ j, j < i + 1 → (S.set p x).getD (m - 1 - j) 0 = N / 256 ^ j % 256) := done
      rcases Nat.mod_two_eq_zero_or_one i with he | ho
      · have hri : (i : Int) % 2 = 0 := by omega
        have HV : Hid (y % 256 = N / 256 ^ i % 256) := by rw [← hyv]; exact byte_even N i q (by omega)
        clear hS lS hg hBr hp hy hyv hs done hq he
        go_wp2_with (go_at_call 64; refine hd1.mono ?_; rintro e w' ⟨rfl, rfl⟩)
        go_roundw
        case rel =>
          obtain ⟨hS, lS, hg, hBr, hp⟩ := HH.out
          exact ⟨i + 1, S.set p (y % 256), by go_num, by omega, hS.set _ _, by simpa using lS, HDn.out _ HV.out, hBr.setCell (show w3.heap.size ≤ b4 by have := HB3.out.2; omega) _⟩
        case measure => simp [intOf]; omega
      · have hri : (i : Int) % 2 = 1 := by omega
        have HV : Hid (y / 256 = N / 256 ^ i % 256) := by
          have h7 := byte_odd N i q (by omega)
          rw [hyv] at h7
          show y / 256 = N / 256 ^ i % 256
          rw [← h7]; omega
        clear hS lS hg hBr hp hy hyv hs done hq ho
        go_wp2_with (go_at_call 64; refine hd1.mono ?_; rintro e w' ⟨rfl, rfl⟩)
        go_roundw
        case rel =>
          obtain ⟨hS, lS, hg, hBr, hp⟩ := HH.out
          exact ⟨i + 1, S.set p (y / 256), by go_num, by omega, hS.set _ _, by simpa using lS, HDn.out _ HV.out, hBr.setCell (show w3.heap.size ≤ b4 by have := HB3.out.2; omega) _⟩
        case measure => simp [intOf]; omega
    · have him : i = m := by omega
      have hS' : S = beb N m := getD_ext (by rw [beb_len]; exact lS) (fun k hk => by
        rw [beb_get N m k (by omega)]
        have := hg (m - 1 - k) (by omega)
        rw [show m - 1 - (m - 1 - k) = k by omega] at this; exact this)
      have hs := hS.sl8
      rw [lS] at hs
      have hs' : Sl .u8 wr (.slice (some ⟨b4, 0, none⟩) m m) (beb N m) := by rw [← hS']; exact hs
      clear hS hg hs hS' lS him
      go_wp2
      go_ret2
      exact ⟨RTwo8.mk' hs' HL.out, HB3.out.1.trans (hBr.mono HB3.out.1.size)⟩
end Go.Proofs.Ythkheocggcmooaa
