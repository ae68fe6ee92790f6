/-
  Der: any bytes as a small number.
-/
import Derived.Test.YtndcpjnfdgojkaaDoorE83
namespace Go.Proofs.YtndcpjnfdgojkaaDoor
open Go.RowKit
/-- The number of the first i bytes, the first bit being its sign. -/
def iv (X : List Int) : Nat → Int
  | 0 => if 128 ≤ X.getD 0 0 then -1 else 0
  | i + 1 => 256 * iv X i + X.getD i 0
theorem iv_bd {X : List Int} (hU : U8s X) : ∀ i, -(128 * ((256 ^ i : Nat) : Int)) ≤ iv X (i + 1) ∧ iv X (i + 1) < 128 * ((256 ^ i : Nat) : Int)
  | 0 => by
    have h := hU.at 0
    unfold U8 at h
    show -(128 * ((1 : Nat) : Int)) ≤ 256 * (if 128 ≤ X.getD 0 0 then -1 else 0) + X.getD 0 0 ∧ 256 * (if 128 ≤ X.getD 0 0 then -1 else 0) + X.getD 0 0 < 128 * ((1 : Nat) : Int)
    split <;> omega
  | i + 1 => by
    have h := hU.at (i + 1)
    unfold U8 at h
    have h2 := iv_bd hU i
    rw [Nat.pow_succ]
    obtain ⟨P, hP⟩ : ∃ P, 256 ^ i = P := ⟨_, rfl⟩
    rw [hP] at h2 ⊢
    show _ ≤ 256 * iv X (i + 1) + X.getD (i + 1) 0 ∧ 256 * iv X (i + 1) + X.getD (i + 1) 0 < _
    omega
theorem iv_small {X : List Int} (hU : U8s X) (i : Nat) (hi : i ≤ 6) : -36028797018963968 ≤ iv X (i + 1) ∧ iv X (i + 1) < 36028797018963968 := by
  have h := iv_bd hU i
  have h2 : 256 ^ i ≤ 256 ^ 6 := Nat.pow_le_pow_right (by decide) hi
  omega
theorem iv_range {X : List Int} (hU : U8s X) (i : Nat) (hi : i ≤ 7) : -9223372036854775808 ≤ iv X (i + 1) ∧ iv X (i + 1) < 9223372036854775808 := by
  have h := iv_bd hU i
  have h2 : 256 ^ i ≤ 256 ^ 7 := Nat.pow_le_pow_right (by decide) hi
  omega
theorem or_s64 (t x : Int) (h0 : -36028797018963968 ≤ t) (h1 : t < 36028797018963968) (x0 : 0 ≤ x) (x1 : x < 256) : bits .or .i64 (t * 256) x = t * 256 + x := by
  obtain ⟨b, rfl⟩ := Int.eq_ofNat_of_zero_le x0
  obtain ⟨m, hm⟩ : ∃ m : Nat, (m : Int) = t % 72057594037927936 := ⟨(t % 72057594037927936).toNat, by omega⟩
  have e1 : (BitVec.ofInt 64 (t * 256)).toNat = m * 256 := by
    rw [BitVec.toNat_ofInt]
    have : t * 256 % ((2 ^ 64 : Nat) : Int) = ((m * 256 : Nat) : Int) := by
      have : ((2 ^ 64 : Nat) : Int) = 18446744073709551616 := by decide
      rw [this]; omega
    rw [this]; rfl
  have e2 : (BitVec.ofInt 64 ((b : Nat) : Int)).toNat = b := by
    rw [BitVec.ofInt_natCast, BitVec.toNat_ofNat]
    exact Nat.mod_eq_of_lt (by omega)
  have hb : b < 2 ^ 8 := by omega
  show IntKind.i64.wrap ((BitVec.ofInt 64 (t * 256) ||| BitVec.ofInt 64 ((b : Nat) : Int)).toNat : Int) = _
  rw [BitVec.toNat_or, e1, e2, show m * 256 = 2 ^ 8 * m by omega, ← Nat.two_pow_add_eq_or_of_lt hb m, IntKind.wrap_i64]
  have : ((2 ^ 8 * m + b : Nat) : Int) = 256 * (m : Int) + b := by omega
  rw [this]
  omega
theorem wrap_i8 (x : Int) : IntKind.i8.wrap x = (x + 128) % 256 - 128 := by
  simp [IntKind.wrap, IntKind.bits, IntKind.signed]
  omega
def intV (X : List Int) : Int := if intOk X = true ∧ X.length ≤ 8 then iv X X.length else 0
def intE (X : List Int) : Int := if intOk X = false then 6 else if 8 < X.length then 3 else 0
theorem intOk_ne {X : List Int} (h : intOk X = true) : 1 ≤ X.length := by
  cases X with
  | nil => simp [intOk] at h
  | cons x X => simp
set_option maxRecDepth 20000 in
set_option maxHeartbeats 4000000 in
theorem Int_any {w : World} (v : Value) (X : List Int) (hX : Sl .u8 w v X) (uX : U8s X) (hl : X.length ≤ 16384) :
    Calls Tryd.prog 19 #[v] w fun e w' => e = .returned (.tuple #[.int .i64 (intV X), .int .i64 (intE X)]) ∧ w = w' := by
  have HI : Hid (Calls Tryd.prog 39 #[v] w fun e w' => e = .returned (.bool (intOk X)) ∧ w = w') := isInt_any v X hX uX hl
  obtain ⟨a, c, rfl, hc, hx⟩ := hX
  obtain ⟨n, hn⟩ : ∃ n, X.length = n := ⟨_, rfl⟩
  rw [hn] at HI hc ⊢
  cases hok : intOk X with
  | false =>
    have HV : Hid (intV X = 0 ∧ intE X = 6) := ⟨by unfold intV; rw [hok]; simp, by unfold intE; rw [hok]; simp⟩
    rw [hok] at HI
    clear hx hok
    go_enter Tryd.func19, Tryd.ntmps19
    go_wp2_with fail
    refine HI.out.mono ?_
    rintro e w1 ⟨rfl, rfl⟩
    go_wp2
    go_ret2
    exact ⟨by rw [HV.out.1, HV.out.2]; rfl, rfl⟩
  | true =>
    have hne := intOk_ne hok
    rw [hok] at HI
    rcases hx with hx | ⟨b, off, rfl, hb, hr⟩
    · rw [hx] at hne; simp at hne
    by_cases hbig : 8 < n
    · have HV : Hid (intV X = 0 ∧ intE X = 3) := ⟨by unfold intV; rw [if_neg (fun h => by have := h.2; omega)], by unfold intE; rw [hok, hn]; simp [hbig]⟩
      have hbI : (8 : Int) < (n : Int) := by omega
      clear hr hok
      go_enter Tryd.func19, Tryd.ntmps19
      go_wp2_with fail
      refine HI.out.mono ?_
      rintro e w1 ⟨rfl, rfl⟩
      go_wp2
      go_ret2
      exact ⟨by rw [HV.out.1, HV.out.2]; rfl, rfl⟩
    · have HV : Hid (intV X = iv X n ∧ intE X = 0) := ⟨by unfold intV; rw [if_pos ⟨hok, by omega⟩, hn], by unfold intE; rw [hok, hn]; simp [hbig]⟩
      have hbI : ¬ (8 : Int) < (n : Int) := by omega
      rw [hn] at hne
      have hneI : (1 : Int) ≤ (n : Int) := by omega
      have hneI2 : (0 : Int) < (n : Int) := by omega
      obtain ⟨x, hx⟩ : ∃ x, X.getD 0 0 = x := ⟨_, rfl⟩
      have cx : w.cell? ⟨b, off, none⟩ = some (.int .u8 x) := by have := hr 0 (by omega); rw [hx] at this; exact this
      have ux := uX.at 0
      rw [hx] at ux
      obtain ⟨x0, x1⟩ := ux
      obtain ⟨t0, ht0⟩ : ∃ t0, iv X 1 = t0 := ⟨_, rfl⟩
      have hsm := iv_small uX 0 (by omega)
      rw [ht0] at hsm
      have e8 : IntKind.i8.wrap x = t0 := by
        rw [← ht0]
        show _ = 256 * (if 128 ≤ X.getD 0 0 then -1 else 0) + X.getD 0 0
        rw [hx, wrap_i8]
        split <;> omega
      have ew : wrap64 t0 = t0 := by unfold wrap64; omega
      have HX : Hid (Rd .u8 w b off X ∧ U8s X ∧ X.length = n ∧ iv X 1 = t0) := ⟨hr, uX, hn, ht0⟩
      obtain ⟨ba, hba⟩ : ∃ ba : Option Addr, (if c = 1 then some ⟨b, off, none⟩ else some ⟨b, off + 1, none⟩) = ba := ⟨_, rfl⟩
      have HBA : Hid (1 < n → ba = some ⟨b, off + 1, none⟩) := by intro h; rw [← hba, if_neg (by omega)]
      obtain ⟨n2, hn2⟩ : ∃ n2, n - 1 = n2 := ⟨_, rfl⟩
      have hcI : (1 : Int) ≤ (c : Int) := by omega
      clear hr hok uX hx ht0 hsm hl
      go_enter Tryd.func19, Tryd.ntmps19
      go_wp2_with fail
      refine HI.out.mono ?_
      rintro e w1 ⟨rfl, rfl⟩
      go_wp2_with fail
      go_loopw [4, 21] (fun nv iv' wr => ∃ (i : Nat) (t : Int), nv = .int .i64 t ∧ iv' = .int .i64 i ∧ i ≤ n2 ∧ iv X (i + 1) = t ∧ w = wr) (fun _ iv' _ => n2 - (intOf iv').toNat)
      case atStart => exact ⟨0, t0, by rw [ew], rfl, by omega, HX.out.2.2.2, rfl⟩
      case round =>
        obtain ⟨i, t, rfl, rfl, hi, ht, rfl⟩ := hrel
        have HT : Hid (iv X (i + 1) = t) := ht
        clear ht
        by_cases hlt : i < n2
        · have l1 : (i : Int) < (n2 : Int) := by omega
          have hba2 := HBA.out (by omega)
          subst hba2
          obtain ⟨y, hy⟩ : ∃ y, X.getD (i + 1) 0 = y := ⟨_, rfl⟩
          have cy : w.cell? ⟨b, off + 1 + i, none⟩ = some (.int .u8 y) := by
            have := HX.out.1 (i + 1) (by have := HX.out.2.2.1; omega)
            rw [hy, show off + (i + 1) = off + 1 + i by omega] at this; exact this
          have uy := HX.out.2.1.at (i + 1)
          rw [hy] at uy
          obtain ⟨y0, y1⟩ := uy
          have hs := iv_small HX.out.2.1 i (by omega)
          rw [HT.out] at hs
          have e2 := or_s64 t y hs.1 hs.2 y0 (by omega)
          have ew2 : wrap64 (t * 256) = t * 256 := by unfold wrap64; omega
          obtain ⟨t2, ht2⟩ : ∃ t2, t * 256 + y = t2 := ⟨_, rfl⟩
          rw [ht2] at e2
          have HT2 : Hid (iv X (i + 1 + 1) = t2) := by
            show 256 * iv X (i + 1) + X.getD (i + 1) 0 = _
            rw [HT.out, hy]; omega
          clear hs hy ht2
          go_wp2
          go_roundw
          case rel => exact ⟨i + 1, t2, rfl, by go_num, by omega, HT2.out, trivial⟩
          case measure => simp [intOf]; omega
        · obtain rfl : i = n2 := by omega
          have l1 : ¬ (i : Int) < (i : Int) := by omega
          go_wp2
          go_ret2
          exact ⟨by rw [HV.out.1, HV.out.2, show n = i + 1 by omega, HT.out]; rfl, rfl⟩
end Go.Proofs.YtndcpjnfdgojkaaDoor
