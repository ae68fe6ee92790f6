/-
  Der: rows of bits.
-/
import Derived.Lib.Tables
import Derived.Deep.RegionHeld3
import Derived.Test.YtillkhjihggcjaaGreatDoorK10
namespace Go.Proofs.YtillkhjihggcjaaGreatDoor
open Go.RowKit
/-- Are these bytes a row of bits? -/
def bitsOk (X : List Int) : Bool :=
  if X.length < 2 then decide (X.length = 1) && decide (X.getD 0 0 = 0) else decide (X.getD 0 0 ≤ 7) && decide (X.getD (X.length - 1) 0 % 2 ^ (X.getD 0 0).toNat = 0)
theorem and_1 (x : Int) (h : U8 x) : bits .and .u8 x 1 = x % 2 := by obtain ⟨h0, h1⟩ := h; go_bits2
theorem and_3 (x : Int) (h : U8 x) : bits .and .u8 x 3 = x % 4 := by obtain ⟨h0, h1⟩ := h; go_bits2
theorem and_7 (x : Int) (h : U8 x) : bits .and .u8 x 7 = x % 8 := by obtain ⟨h0, h1⟩ := h; go_bits2
theorem and_15 (x : Int) (h : U8 x) : bits .and .u8 x 15 = x % 16 := by obtain ⟨h0, h1⟩ := h; go_bits2
theorem and_31 (x : Int) (h : U8 x) : bits .and .u8 x 31 = x % 32 := by obtain ⟨h0, h1⟩ := h; go_bits2
theorem and_63 (x : Int) (h : U8 x) : bits .and .u8 x 63 = x % 64 := by obtain ⟨h0, h1⟩ := h; go_bits2
theorem and_127 (x : Int) (h : U8 x) : bits .and .u8 x 127 = x % 128 := by obtain ⟨h0, h1⟩ := h; go_bits2
theorem and_0 (x : Int) : bits .and .u8 x 0 = 0 := by unfold bits; simp; rfl
set_option maxHeartbeats 4000000 in
theorem isBits_any {w : World} (v : Value) (X : List Int) (hX : Sl .u8 w v X) (uX : U8s X) (hl : X.length ≤ 16384) :
    Calls Tryz.prog 97 #[v] w fun e w' => e = .returned (.bool (bitsOk X)) ∧ w = w' := by
  obtain ⟨a, c, rfl, hc, hx⟩ := hX
  obtain ⟨n, hn⟩ : ∃ n, X.length = n := ⟨_, rfl⟩
  obtain ⟨B, hB⟩ : ∃ B, bitsOk X = B := ⟨_, rfl⟩
  rw [hB]
  have hBd := hB
  unfold bitsOk at hBd
  rw [hn] at hBd hc hl
  simp only [hn]
  by_cases h0 : n = 0
  · subst h0
    rw [if_pos (by omega)] at hBd
    simp at hBd
    subst hBd
    clear hB hx
    go_enter Tryz.func97, Tryz.ntmps97
    go_wp2
    go_ret
    exact ⟨rfl, rfl⟩
  · rcases hx with hx | ⟨b, off, rfl, hb, hr⟩
    · rw [hx] at hn; simp at hn; omega
    · obtain ⟨s, hs⟩ : ∃ s, X.getD 0 0 = s := ⟨_, rfl⟩
      obtain ⟨s0, s1⟩ : U8 s := hs ▸ uX.at 0
      have c0 : w.cell? ⟨b, off, none⟩ = some (.int .u8 s) := by have := hr 0 (by omega); rw [hs] at this; exact this
      rw [hs] at hBd
      by_cases h1 : n = 1
      · subst h1
        rw [if_pos (by omega)] at hBd
        simp only [decide_true, Bool.true_and] at hBd
        clear hB hr uX hn hs
        go_enter Tryz.func97, Tryz.ntmps97
        go_wp2
        go_ret
        refine ⟨?_, rfl⟩
        rw [← hBd]; rfl
      · obtain ⟨x, hxx⟩ : ∃ x, X.getD (n - 1) 0 = x := ⟨_, rfl⟩
        have ux : U8 x := hxx ▸ uX.at (n - 1)
        have c1 : w.cell? ⟨b, off + (n - 1), none⟩ = some (.int .u8 x) := by have := hr (n - 1) (by omega); rw [hxx] at this; exact this
        rw [if_neg (by omega), hxx] at hBd
        have hnI : (2 : Int) ≤ (n : Int) := by omega
        clear hB hr uX hn hs hxx h0 h1
        by_cases h7 : s ≤ 7
        · have hs8 : s = 0 ∨ s = 1 ∨ s = 2 ∨ s = 3 ∨ s = 4 ∨ s = 5 ∨ s = 6 ∨ s = 7 := by omega
          have a0 := and_0 x
          have a1 := and_1 x ux
          have a3 := and_3 x ux
          have a7 := and_7 x ux
          have a15 := and_15 x ux
          have a31 := and_31 x ux
          have a63 := and_63 x ux
          have a127 := and_127 x ux
          rcases hs8 with rfl | rfl | rfl | rfl | rfl | rfl | rfl | rfl
          all_goals go_enter Tryz.func97, Tryz.ntmps97
          all_goals go_wp2
          all_goals go_ret
          · refine ⟨?_, rfl⟩
            rw [← hBd]
            show Ending.returned (.bool true) = _
            simp
          all_goals refine ⟨?_, rfl⟩
          all_goals rw [← hBd]
          all_goals rfl
        · have : B = false := by rw [← hBd]; simp; omega
          subst this
          clear hBd
          go_enter Tryz.func97, Tryz.ntmps97
          go_wp2
          go_ret
          exact ⟨rfl, rfl⟩
theorem wrapI (z : Int) (h0 : 0 ≤ z) (h1 : z < 9223372036854775808) : IntKind.i64.wrap z = z := by rw [IntKind.wrap_i64]; omega
/-- What Bits answers. -/
def BitsAns (B : Nat) (w : World) (X : List Int) (e : Ending) : Prop :=
  (bitsOk X = true ∧ ∃ r, e = .returned (.tuple #[r, .int .i64 (X.getD 0 0), .int .i64 0]) ∧ Row .u8 5 B w r (X.drop 1)) ∨ (bitsOk X = false ∧ e = .returned (.tuple #[.slice none 0 0, .int .i64 0, .int .i64 6]))
theorem bitsOk_pos {X : List Int} (h : bitsOk X = true) : 0 < X.length := by
  unfold bitsOk at h
  by_cases h0 : X.length = 0
  · rw [h0] at h; simp at h
  · omega
theorem sl_tail {w : World} {n c : Nat} {X : List Int} {b off : Nat} (hb : b < w.heap.size) (hr : Rd .u8 w b off X) (hn : X.length = n) (h0 : 0 < n) (hc : n ≤ c) : Sl .u8 w (.slice (if c = 1 then some ⟨b, off, none⟩ else some ⟨b, off + 1, none⟩) (n - 1) (c - 1)) (X.drop 1) := by
  have hl : (X.drop 1).length = n - 1 := by rw [List.length_drop, hn]
  refine ⟨_, _, by rw [hl], by omega, ?_⟩
  by_cases h : c = 1
  · exact .inl (List.eq_nil_of_length_eq_zero (by omega))
  · rw [if_neg h]
    refine .inr ⟨b, off + 1, rfl, hb, fun k hk => ?_⟩
    have := hr (1 + k) (by omega)
    rw [Nat.add_assoc, this, List.getD_eq_getElem?_getD, List.getD_eq_getElem?_getD, List.getElem?_drop]
set_option maxRecDepth 20000 in
set_option maxHeartbeats 2000000 in
theorem Bits_any {w : World} (v : Value) (X : List Int) (hX : Sl .u8 w v X) (uX : U8s X) (hl : X.length ≤ 16384) :
    Calls Tryz.prog 76 #[v] w fun e w' => BitsAns w.heap.size w' X e ∧ Below w.heap.size w w' := by
  have HC : Hid (∀ w', w = w' → Calls Tryz.prog 97 #[v] w' fun e w'' => e = .returned (.bool (bitsOk X)) ∧ w' = w'') := fun w' h => by subst h; exact isBits_any v X hX uX hl
  by_cases hk : bitsOk X = true
  · obtain ⟨a, c, rfl, hc, hx⟩ := hX
    have hp := bitsOk_pos hk
    obtain ⟨n, hn⟩ : ∃ n, X.length = n := ⟨_, rfl⟩
    rcases hx with hx | ⟨b, off, rfl, hb, hr⟩
    · rw [hx] at hp; simp at hp
    · rw [hn] at hc hp hl
      simp only [hn] at HC ⊢
      rw [hk] at HC
      obtain ⟨s, hs⟩ : ∃ s, X.getD 0 0 = s := ⟨_, rfl⟩
      have c0 : w.cell? ⟨b, off, none⟩ = some (.int .u8 s) := by have := hr 0 (by omega); rw [hs] at this; exact this
      obtain ⟨s0, s1⟩ : U8 s := hs ▸ uX.at 0
      obtain ⟨ba, hba⟩ : ∃ ba : Option Addr, (if c = 1 then some ⟨b, off, none⟩ else some ⟨b, off + 1, none⟩) = ba := ⟨_, rfl⟩
      have HS : Hid (∀ W : World, Rd .u8 W b off X → b < W.heap.size → Sl .u8 W (.slice ba (n - 1) (c - 1)) (X.drop 1)) := fun W h hb' => by
        rw [← hba]; exact sl_tail hb' h hn hp hc
      have HX : Hid (bitsOk X = true ∧ X.getD 0 0 = s ∧ Rd .u8 w b off X ∧ (X.drop 1).length ≤ 16384) := ⟨hk, hs, hr, by rw [List.length_drop]; omega⟩
      have hnI : (1 : Int) ≤ (n : Int) := by omega
      have hcI : (1 : Int) ≤ (c : Int) := by omega
      have hws : IntKind.i64.wrap s = s := wrapI s (by omega) (by omega)
      clear hk hs hr hn uX
      go_enter Tryz.func76, Tryz.ntmps76
      go_upto_region 3 with (go_at_call 97; refine (HC.out _ rfl).mono ?_; rintro e w' ⟨rfl, rfl⟩)
      go_region_held3 (fun w' => w'.cell? ⟨b, off, none⟩ = some (.int .u8 s)) (first | go_keep | (rw [hb5.cell (p := ⟨b, off, none⟩) hb]; go_keep))
        ((go_at_call 98; refine (copied_any _ (X.drop 1) (HS.out _ (by exact HX.out.2.2.1) (by exact hb)) (by have := HX.out.2.2.2; omega)).mono ?_; rintro e w5 ⟨r5, rfl, hr5, hb5⟩))
      have H5 : Hid (Row .u8 5 w.heap.size w5 r5 (X.drop 1) ∧ Below w.heap.size w w5) := ⟨hr5, (below_drewN 1 (Below.refl _ _)).trans hb5⟩
      clear hr5 hb5
      go_wp2
      go_ret3
      exact ⟨.inl ⟨HX.out.1, _, by rw [HX.out.2.1]; rfl, H5.out.1⟩, H5.out.2⟩
  · replace hk : bitsOk X = false := by simpa using hk
    rw [hk] at HC
    obtain ⟨a, n, c, rfl⟩ : ∃ a n c, v = .slice a n c := by obtain ⟨a, c, h, _⟩ := hX; exact ⟨a, _, c, h⟩
    have HX : Hid (bitsOk X = false) := hk
    clear hk hX uX
    go_enter Tryz.func76, Tryz.ntmps76
    go_wp2_with (go_at_call 97; refine (HC.out _ rfl).mono ?_; rintro e w' ⟨rfl, rfl⟩)
    go_ret3
    exact ⟨.inr ⟨HX.out, rfl⟩, Below.refl _ _⟩
end Go.Proofs.YtillkhjihggcjaaGreatDoor
/-
  Der: a few bits as a number.
-/
namespace Go.Proofs.YtillkhjihggcjaaGreatDoor
open Go.RowKit
theorem bits_or_comm (k : IntKind) (x y : Int) : bits .or k x y = bits .or k y x := by unfold bits; simp only []; rw [BitVec.or_comm]
theorem or_hi (s : Nat) (x y : Int) (hx0 : 0 ≤ x) (hx : x * 2 ^ s < 4294967296) (hy0 : 0 ≤ y) (hy : y < 2 ^ s) (hs : s ≤ 32) : bits .or .u32 (x * 2 ^ s) y = x * 2 ^ s + y := by
  obtain ⟨a, rfl⟩ := Int.eq_ofNat_of_zero_le hx0
  obtain ⟨b, rfl⟩ := Int.eq_ofNat_of_zero_le hy0
  have e : ((a * 2 ^ s : Nat) : Int) = (a : Int) * 2 ^ s := by simp
  have hb : b < 2 ^ s := by
    have : ((b : Nat) : Int) < ((2 ^ s : Nat) : Int) := by rw [Int.natCast_pow]; exact hy
    exact Int.ofNat_lt.1 this
  have ha : a * 2 ^ s < 2 ^ 32 := by
    have : ((a * 2 ^ s : Nat) : Int) < ((2 ^ 32 : Nat) : Int) := by rw [e]; exact hx
    exact Int.ofNat_lt.1 this
  have hb2 : b < 2 ^ 32 := Nat.lt_of_lt_of_le hb (Nat.pow_le_pow_right (by decide) hs)
  have h := (bits_nat .u32 32 (by decide) (fun n h₀ h₁ => by rw [IntKind.wrap_u32']; omega) (a * 2 ^ s) b ha hb2).2
  rw [e] at h
  rw [h, Nat.mul_comm a, ← Nat.two_pow_add_eq_or_of_lt hb a, Nat.mul_comm, Int.natCast_add, e]
/-- The number of bytes Y: each turned about, the first one lowest. -/
def flagN (Y : List Int) : Nat → Int
  | 0 => 0
  | i + 1 => flagN Y i + Lib.rev8 (Y.getD i 0) * 2 ^ (8 * i)
theorem rev8_u8 (x : Int) : 0 ≤ Lib.rev8 x ∧ Lib.rev8 x < 256 := by
  unfold Lib.rev8
  have := ((Lib.rev8tab[x.toNat]?).getD 0).toNat_lt
  omega
theorem flagN_lt (Y : List Int) : ∀ i, 0 ≤ flagN Y i ∧ flagN Y i < 2 ^ (8 * i)
  | 0 => by simp [flagN]
  | i + 1 => by
    have h1 := flagN_lt Y i
    have h2 := rev8_u8 (Y.getD i 0)
    have e : (2 : Int) ^ (8 * (i + 1)) = 256 * 2 ^ (8 * i) := by rw [show 8 * (i + 1) = 8 + 8 * i by omega, Int.pow_add]; rfl
    show 0 ≤ flagN Y i + Lib.rev8 (Y.getD i 0) * 2 ^ (8 * i) ∧ flagN Y i + Lib.rev8 (Y.getD i 0) * 2 ^ (8 * i) < _
    rw [e]
    generalize Lib.rev8 (Y.getD i 0) = r at *
    have hp : (0 : Int) < 2 ^ (8 * i) := Int.pow_pos (by decide)
    generalize (2 : Int) ^ (8 * i) = p at *
    have h3 : 0 ≤ r * p := Int.mul_nonneg h2.1 (by omega)
    have h4 : r * p ≤ 255 * p := Int.mul_le_mul_of_nonneg_right (by omega) (by omega)
    omega
def FlagsVal (X : List Int) : Int := if bitsOk X = true ∧ X.length ≤ 5 then flagN (X.drop 1) (X.length - 1) else 0
def FlagsErr (X : List Int) : Int := if bitsOk X = true then (if X.length ≤ 5 then 0 else 3) else 6
end Go.Proofs.YtillkhjihggcjaaGreatDoor
