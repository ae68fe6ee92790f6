/-
  Der: a few bits as a number.
-/
import Derived.Test.YtndcpjnfdgojkaaDoorE11
namespace Go.Proofs.YtndcpjnfdgojkaaDoor
open Go.RowKit
theorem bits_or_comm (k : IntKind) (x y : Int) : bits .or k x y = bits .or k y x := by unfold bits; simp only []; rw [BitVec.or_comm]
theorem or_hi (s : Nat) (x y : Int) (hx0 : 0 ≤ x) (hx : x * 2 ^ s < 4294967296) (hy0 : 0 ≤ y) (hy : y < 2 ^ s) (hs : s ≤ 32) : bits .or .u32 (x * 2 ^ s) y = x * 2 ^ s + y := by
  obtain ⟨a, rfl⟩ := Int.eq_ofNat_of_zero_le hx0
  obtain ⟨b, rfl⟩ := Int.eq_ofNat_of_zero_le hy0
  have e : ((a * 2 ^ s : Nat) : Int) = (a : Int) * 2 ^ s := by simp
  have hb : b < 2 ^ s := by
    have : ((b : Nat) : Int) < ((2 ^ s : Nat) : Int) := by rw [Int.natCast_pow]; exact hy
    exact Int.ofNat_lt.1 this
  have ha : a * 2 ^ s < 2 ^ 32 := by
    have : ((a * 2 ^ s : Nat) : Int) < ((2 ^ 32 : Nat) : Int) := by rw [e]; exact hx
    exact Int.ofNat_lt.1 this
  have hb2 : b < 2 ^ 32 := Nat.lt_of_lt_of_le hb (Nat.pow_le_pow_right (by decide) hs)
  have h := (bits_nat .u32 32 (by decide) (fun n h₀ h₁ => by rw [IntKind.wrap_u32']; omega) (a * 2 ^ s) b ha hb2).2
  rw [e] at h
  rw [h, Nat.mul_comm a, ← Nat.two_pow_add_eq_or_of_lt hb a, Nat.mul_comm, Int.natCast_add, e]
/-- The number of bytes Y: each turned about, the first one lowest. -/
def flagN (Y : List Int) : Nat → Int
  | 0 => 0
  | i + 1 => flagN Y i + Lib.rev8 (Y.getD i 0) * 2 ^ (8 * i)
theorem rev8_u8 (x : Int) : 0 ≤ Lib.rev8 x ∧ Lib.rev8 x < 256 := by
  unfold Lib.rev8
  have := ((Lib.rev8tab[x.toNat]?).getD 0).toNat_lt
  omega
theorem flagN_lt (Y : List Int) : ∀ i, 0 ≤ flagN Y i ∧ flagN Y i < 2 ^ (8 * i)
  | 0 => by simp [flagN]
  | i + 1 => by
    have h1 := flagN_lt Y i
    have h2 := rev8_u8 (Y.getD i 0)
    have e : (2 : Int) ^ (8 * (i + 1)) = 256 * 2 ^ (8 * i) := by rw [show 8 * (i + 1) = 8 + 8 * i by omega, Int.pow_add]; rfl
    show 0 ≤ flagN Y i + Lib.rev8 (Y.getD i 0) * 2 ^ (8 * i) ∧ flagN Y i + Lib.rev8 (Y.getD i 0) * 2 ^ (8 * i) < _
    rw [e]
    generalize Lib.rev8 (Y.getD i 0) = r at *
    have hp : (0 : Int) < 2 ^ (8 * i) := Int.pow_pos (by decide)
    generalize (2 : Int) ^ (8 * i) = p at *
    have h3 : 0 ≤ r * p := Int.mul_nonneg h2.1 (by omega)
    have h4 : r * p ≤ 255 * p := Int.mul_le_mul_of_nonneg_right (by omega) (by omega)
    omega
def FlagsVal (X : List Int) : Int := if bitsOk X = true ∧ X.length ≤ 5 then flagN (X.drop 1) (X.length - 1) else 0
def FlagsErr (X : List Int) : Int := if bitsOk X = true then (if X.length ≤ 5 then 0 else 3) else 6
set_option maxRecDepth 20000 in
set_option maxHeartbeats 2000000 in
theorem Flags_any {w : World} (v : Value) (X : List Int) (hX : Sl .u8 w v X) (uX : U8s X) (hl : X.length ≤ 16384) :
    Calls Tryd.prog 35 #[v] w fun e w' => e = .returned (.tuple #[.int .u32 (FlagsVal X), .int .i64 (FlagsErr X)]) ∧ Below w.heap.size w w' := by
  have HC : Hid (Calls Tryd.prog 56 #[v] w fun e w' => BitsAns w.heap.size w' X e ∧ Below w.heap.size w w') := Bits_any v X hX uX hl
  obtain ⟨a, n, c, rfl⟩ : ∃ a n c, v = .slice a n c := by obtain ⟨a, c, h, _⟩ := hX; exact ⟨a, _, c, h⟩
  have HU : Hid (U8s X) := uX
  clear hX uX
  go_enter Tryd.func35, Tryd.ntmps35
  go_wp2_with fail
  refine HC.out.mono ?_
  rintro e w1 ⟨ha, hb⟩
  have HB : Hid (Below w.heap.size w w1) := hb
  clear hb
  rcases ha with ⟨hk, r, rfl, hr⟩ | ⟨hk, rfl⟩
  · have hp := bitsOk_pos hk
    obtain ⟨m, hm⟩ : ∃ m, X.length - 1 = m := ⟨_, rfl⟩
    obtain ⟨Y, hY⟩ : ∃ Y, X.drop 1 = Y := ⟨_, rfl⟩
    have hYl : Y.length = m := by rw [← hY, List.length_drop, hm]
    have uY : U8s Y := fun x hx => HU.out x (List.mem_of_mem_drop (hY ▸ hx))
    rw [hY] at hr
    obtain ⟨a1, c1, hv⟩ := hr.ne
    rw [hYl] at hv
    subst hv
    by_cases h5 : m ≤ 4
    · have HV : Hid (FlagsVal X = flagN Y m ∧ FlagsErr X = 0) := by
        refine ⟨?_, ?_⟩
        · unfold FlagsVal; rw [if_pos ⟨hk, by omega⟩, hY, hm]
        · unfold FlagsErr; rw [if_pos hk, if_pos (by omega)]
      have HR : Hid (Row .u8 5 w.heap.size w1 (.slice a1 m c1) Y ∧ U8s Y ∧ Y.length = m) := ⟨hr, uY, hYl⟩
      have hmI : (m : Int) ≤ 4 := by omega
      clear hr uY hYl hY hm hp hk
      go_wp2_with fail
      go_loopw [7, 26] (fun nv iv wr => ∃ i : Nat, nv = .int .u32 (flagN Y i) ∧ iv = .int .i64 i ∧ i ≤ m ∧ w1 = wr) (fun _ iv _ => m - (intOf iv).toNat)
      case atStart => exact ⟨0, rfl, rfl, by omega, rfl⟩
      case round =>
        obtain ⟨i, rfl, rfl, hi, rfl⟩ := hrel
        by_cases hlt : i < m
        · obtain ⟨b1, S1, hv, hB1, hA1, hl1, ht1, hm1⟩ := HR.out.1.open m HR.out.2.2 (by omega)
          simp only [Value.slice.injEq, true_and] at hv
          obtain ⟨rfl, rfl⟩ := hv
          obtain ⟨x, hx⟩ : ∃ x, Y.getD i 0 = x := ⟨_, rfl⟩
          have ux : U8 x := hx ▸ HR.out.2.1.at i
          have hcx : w1.cell? ⟨b1, i, none⟩ = some (.int .u8 x) := by
            have e : S1.getD i 0 = Y.getD i 0 := by rw [List.getD_eq_getElem?_getD, List.getD_eq_getElem?_getD, ← ht1, List.getElem?_take, if_pos hlt]
            rw [hA1.cell i (by omega), e, hx]
          have hiI : (i : Int) < (m : Int) := by omega
          have hi3 : (i : Int) ≤ 3 := by omega
          obtain ⟨q, hq⟩ : ∃ q, flagN Y i = q := ⟨_, rfl⟩
          obtain ⟨y, hy⟩ : ∃ y, Lib.rev8 x = y := ⟨_, rfl⟩
          have hy2 := rev8_u8 x
          rw [hy] at hy2
          obtain ⟨y0, y1⟩ := hy2
          obtain ⟨sh, hsh⟩ : ∃ s : Nat, 8 * i = s := ⟨_, rfl⟩
          have hshI : (8 : Int) * (i : Int) = (sh : Int) := by omega
          have hs24 : sh ≤ 24 := by omega
          have HQ : Hid (flagN Y (i + 1) = bits .or .u32 q (y * 2 ^ sh) ∧ y * 2 ^ sh < 4294967296 ∧ 0 ≤ y * 2 ^ sh) := by
            have hqq := flagN_lt Y i
            rw [hq, hsh] at hqq
            have hp : (2 : Int) ^ sh ≤ 2 ^ 24 := by
              have : sh = 0 ∨ sh = 8 ∨ sh = 16 ∨ sh = 24 := by omega
              rcases this with h | h | h | h <;> rw [h] <;> decide
            have hp0 : (0 : Int) < 2 ^ sh := Int.pow_pos (by decide)
            have h1 : y * 2 ^ sh ≤ 255 * 2 ^ sh := Int.mul_le_mul_of_nonneg_right (by omega) (by omega)
            have h24 : (2 : Int) ^ 24 = 16777216 := by decide
            have hlt : y * 2 ^ sh < 4294967296 := by omega
            refine ⟨?_, hlt, Int.mul_nonneg y0 (by omega)⟩
            rw [bits_or_comm, or_hi sh y q y0 hlt hqq.1 hqq.2 (by omega)]
            show flagN Y i + Lib.rev8 (Y.getD i 0) * 2 ^ (8 * i) = _
            rw [hq, hx, hy, hsh]; omega
          rw [hq]
          clear hx hA1 ht1 hm1 hB1 hl1 hq hsh
          go_wp2_with (go_at_call 57; refine (Reverse8_any x ux).mono ?_; rintro e w' ⟨rfl, rfl⟩; rw [hy])
          refine ⟨⟨i + 1, ?_, by go_num, by omega, trivial⟩, by simp [intOf]; omega⟩
          rw [Int.emod_eq_of_lt HQ.out.2.2 HQ.out.2.1, HQ.out.1]
        · obtain rfl : i = m := by omega
          clear HR
          go_wp2
          go_ret2
          exact ⟨by rw [HV.out.1, HV.out.2]; rfl, HB.out⟩
    · have HV : Hid (FlagsVal X = 0 ∧ FlagsErr X = 3) := by
        refine ⟨?_, ?_⟩
        · unfold FlagsVal; rw [if_neg (fun h => by omega)]
        · unfold FlagsErr; rw [if_pos hk, if_neg (by omega)]
      have hmI : (4 : Int) < (m : Int) := by omega
      clear hr uY hYl hY hm hp hk
      go_wp2
      go_ret2
      exact ⟨by rw [HV.out.1, HV.out.2]; rfl, HB.out⟩
  · have HV : Hid (FlagsVal X = 0 ∧ FlagsErr X = 6) := by
      refine ⟨?_, ?_⟩
      · unfold FlagsVal; rw [if_neg (by rw [hk]; simp)]
      · unfold FlagsErr; rw [if_neg (by rw [hk]; simp)]
    clear hk
    go_wp2
    go_ret2
    exact ⟨by rw [HV.out.1, HV.out.2]; rfl, HB.out⟩
end Go.Proofs.YtndcpjnfdgojkaaDoor
