/-
  Der: the reference's few bits as a number.
-/
import Derived.Test.YtipkcbgafbpadaaDoorE14
namespace Go.Proofs.YtipkcbgafbpadaaDoor
open Go.RowKit
/-- The first k bits of x, from the highest on, the first one lowest. -/
def rp (x : Int) : Nat → Int
  | 0 => 0
  | k + 1 => rp x k + x / 2 ^ (7 - k) % 2 * 2 ^ k
theorem rp_lt (x : Int) : ∀ k, 0 ≤ rp x k ∧ rp x k < 2 ^ k
  | 0 => by simp [rp]
  | k + 1 => by
    have h := rp_lt x k
    have hb : x / 2 ^ (7 - k) % 2 = 0 ∨ x / 2 ^ (7 - k) % 2 = 1 := by omega
    show 0 ≤ rp x k + x / 2 ^ (7 - k) % 2 * 2 ^ k ∧ rp x k + x / 2 ^ (7 - k) % 2 * 2 ^ k < 2 ^ (k + 1)
    have e : (2 : Int) ^ (k + 1) = 2 * 2 ^ k := by rw [Int.pow_succ, Int.mul_comm]
    rw [e]
    rcases hb with hb | hb <;> rw [hb] <;> omega
theorem rp_nat : ∀ x : Fin 256, rp (x.val : Int) 8 = Lib.rev8 (x.val : Int) := by decide +kernel
theorem rp_eight {x : Int} (h : U8 x) : rp x 8 = Lib.rev8 x := by
  obtain ⟨h0, h1⟩ := h
  obtain ⟨m, rfl⟩ := Int.eq_ofNat_of_zero_le h0
  exact rp_nat ⟨m, by omega⟩
def fs (Y : List Int) (i k : Nat) : Int := flagN Y i + rp (Y.getD i 0) k * 2 ^ (8 * i)
theorem fs_lt (Y : List Int) (i k : Nat) : 0 ≤ fs Y i k ∧ fs Y i k < 2 ^ (8 * i + k) := by
  have h1 := flagN_lt Y i
  have h2 := rp_lt (Y.getD i 0) k
  unfold fs
  have e : (2 : Int) ^ (8 * i + k) = 2 ^ k * 2 ^ (8 * i) := by rw [Int.pow_add, Int.mul_comm]
  rw [e]
  generalize rp (Y.getD i 0) k = r at *
  have hp : (0 : Int) < 2 ^ (8 * i) := Int.pow_pos (by decide)
  generalize (2 : Int) ^ (8 * i) = p at *
  generalize (2 : Int) ^ k = q at *
  have h3 : 0 ≤ r * p := Int.mul_nonneg h2.1 (by omega)
  have h4 : (r + 1) * p ≤ q * p := Int.mul_le_mul_of_nonneg_right (by omega) (by omega)
  have h5 : (r + 1) * p = r * p + p := by rw [Int.add_mul, Int.one_mul]
  omega
theorem fs_step (Y : List Int) (i k : Nat) (x : Int) (hx : Y.getD i 0 = x) : fs Y i (k + 1) = fs Y i k + x / 2 ^ (7 - k) % 2 * 2 ^ (8 * i + k) := by
  unfold fs
  rw [hx]
  show flagN Y i + (rp x k + x / 2 ^ (7 - k) % 2 * 2 ^ k) * 2 ^ (8 * i) = _
  rw [Int.add_mul, Int.mul_assoc, ← Int.pow_add, Nat.add_comm k, Int.add_assoc]
theorem fs_next (Y : List Int) (hu : U8s Y) (i : Nat) : fs Y i 8 = flagN Y (i + 1) := by
  unfold fs
  rw [rp_eight (hu.at i)]; rfl
theorem fs_zero (Y : List Int) (i : Nat) : fs Y i 0 = flagN Y i := by unfold fs rp; simp
theorem pow_le32 (sh : Nat) (h : sh ≤ 31) : (2 : Int) ^ sh ≤ 2147483648 := by
  have : (2 : Nat) ^ sh ≤ 2 ^ 31 := Nat.pow_le_pow_right (by decide) h
  have h2 : ((2 ^ sh : Nat) : Int) ≤ ((2 ^ 31 : Nat) : Int) := Int.ofNat_le.2 this
  simpa using h2
theorem sum32 (q p : Int) (h0 : 0 ≤ q) (h1 : p ≤ 2147483648) (h2 : q < p) : (q + p % 4294967296) % 4294967296 = q + p := by omega
set_option maxRecDepth 20000 in
set_option maxHeartbeats 4000000 in
theorem RFlags_any {w : World} (v : Value) (X : List Int) (hX : Sl .u8 w v X) (uX : U8s X) (hl : X.length ≤ 16384) :
    Calls Tryd.prog 35 #[v] w fun e w' => e = .returned (.tuple #[.int .u32 (FlagsVal X), .int .i64 (FlagsErr X)]) ∧ Below w.heap.size w w' := by
  have HC : Hid (Calls Tryd.prog 33 #[v] w fun e w' => BitsAns w.heap.size w' X e ∧ Below w.heap.size w w') := RBits_any v X hX uX hl
  obtain ⟨a, n, c, rfl⟩ : ∃ a n c, v = .slice a n c := by obtain ⟨a, c, h, _⟩ := hX; exact ⟨a, _, c, h⟩
  have HU : Hid (U8s X) := uX
  clear hX uX
  go_enter Tryd.func35, Tryd.ntmps35
  go_wp2_with fail
  refine HC.out.mono ?_
  rintro e w1 ⟨ha, hb⟩
  have HB : Hid (Below w.heap.size w w1) := hb
  clear hb
  rcases ha with ⟨hk, r, rfl, hr⟩ | ⟨hk, rfl⟩
  · have hp := bitsOk_pos hk
    obtain ⟨m, hm⟩ : ∃ m, X.length - 1 = m := ⟨_, rfl⟩
    obtain ⟨Y, hY⟩ : ∃ Y, X.drop 1 = Y := ⟨_, rfl⟩
    have hYl : Y.length = m := by rw [← hY, List.length_drop, hm]
    have uY : U8s Y := fun x hx => HU.out x (List.mem_of_mem_drop (hY ▸ hx))
    rw [hY] at hr
    obtain ⟨a1, c1, hv⟩ := hr.ne
    rw [hYl] at hv
    subst hv
    by_cases h5 : m ≤ 4
    · have HV : Hid (FlagsVal X = flagN Y m ∧ FlagsErr X = 0) := by
        refine ⟨?_, ?_⟩
        · unfold FlagsVal; rw [if_pos ⟨hk, by omega⟩, hY, hm]
        · unfold FlagsErr; rw [if_pos hk, if_pos (by omega)]
      have HR : Hid (Row .u8 5 w.heap.size w1 (.slice a1 m c1) Y ∧ U8s Y ∧ Y.length = m) := ⟨hr, uY, hYl⟩
      have hmI : (m : Int) ≤ 4 := by omega
      clear hr uY hYl hY hm hp hk
      go_wp2_with fail
      go_loopw [7, 8] (fun nv iv wr => ∃ i : Nat, nv = .int .u32 (flagN Y i) ∧ iv = .int .i64 i ∧ i ≤ m ∧ w1 = wr) (fun _ iv _ => m - (intOf iv).toNat)
      case atStart => exact ⟨0, rfl, rfl, by omega, rfl⟩
      case round =>
        obtain ⟨i, rfl, rfl, hi, rfl⟩ := hrel
        by_cases hlt : i < m
        · obtain ⟨b1, S1, hv, hB1, hA1, hl1, ht1, hm1⟩ := HR.out.1.open m HR.out.2.2 (by omega)
          simp only [Value.slice.injEq, true_and] at hv
          obtain ⟨rfl, rfl⟩ := hv
          obtain ⟨x, hx⟩ : ∃ x, Y.getD i 0 = x := ⟨_, rfl⟩
          have ux : U8 x := hx ▸ HR.out.2.1.at i
          have hcx : w1.cell? ⟨b1, i, none⟩ = some (.int .u8 x) := by
            have e : S1.getD i 0 = Y.getD i 0 := by rw [List.getD_eq_getElem?_getD, List.getD_eq_getElem?_getD, ← ht1, List.getElem?_take, if_pos hlt]
            rw [hA1.cell i (by omega), e, hx]
          have hiI : (i : Int) < (m : Int) := by omega
          have HI : Hid (Y.getD i 0 = x ∧ U8 x) := ⟨hx, ux⟩
          clear hx ux hA1 ht1 hm1 hB1 hl1
          go_wp2_with fail
          go_loopw [7, 9] (fun nv kv wr => ∃ k : Nat, nv = .int .u32 (fs Y i k) ∧ kv = .int .i64 k ∧ k ≤ 8 ∧ w1 = wr) (fun _ kv _ => 8 - (intOf kv).toNat)
          case atStart => exact ⟨0, by rw [fs_zero], rfl, by omega, rfl⟩
          case round =>
            obtain ⟨k, rfl, rfl, hk, rfl⟩ := hrel
            by_cases hk8 : k < 8
            · have hkI : (k : Int) < 8 := by omega
              obtain ⟨t, ht⟩ : ∃ t : Nat, 7 - k = t := ⟨_, rfl⟩
              have htI : (7 : Int) - (k : Int) = (t : Int) := by omega
              have ht7 : t ≤ 7 := by omega
              have ha := and_1 (x / 2 ^ t) (div_u8 HI.out.2 t)
              obtain ⟨q, hq⟩ : ∃ q, fs Y i k = q := ⟨_, rfl⟩
              have hst := fs_step Y i k x HI.out.1
              rw [hq, ht] at hst
              by_cases hy : x / 2 ^ t % 2 = 1
              · rw [hy] at ha hst
                obtain ⟨sh, hsh⟩ : ∃ s : Nat, 8 * i + k = s := ⟨_, rfl⟩
                have hshI : (8 : Int) * (i : Int) + (k : Int) = (sh : Int) := by omega
                have hs31 : sh ≤ 31 := by omega
                have HQ : Hid (fs Y i (k + 1) = q + 2 ^ sh ∧ 0 ≤ q ∧ (2 : Int) ^ sh ≤ 2147483648 ∧ q < 2 ^ sh) := by
                  have h1 := fs_lt Y i k
                  rw [hq, hsh] at h1
                  exact ⟨by rw [hst, hsh, Int.one_mul], h1.1, pow_le32 sh hs31, h1.2⟩
                rw [hq]
                clear hy hst hq hsh ht
                go_wp2_with fail
                refine ⟨⟨k + 1, ?_, by go_num, by omega, trivial⟩, by simp [intOf]; omega⟩
                obtain ⟨g0, g1, g2, g3⟩ := HQ.out
                rw [g0]
                exact congrArg _ (sum32 _ _ g1 g2 g3)
              · have hy0 : x / 2 ^ t % 2 = 0 := by omega
                rw [hy0] at ha hst
                have HQ : Hid (fs Y i (k + 1) = q) := by show fs Y i (k + 1) = q; rw [hst]; simp
                rw [hq]
                clear hy hy0 hst hq ht
                go_wp2_with fail
                refine ⟨⟨k + 1, ?_, by go_num, by omega, trivial⟩, by simp [intOf]; omega⟩
                rw [HQ.out]
            · obtain rfl : k = 8 := by omega
              rw [fs_next Y HR.out.2.1 i]
              go_wp2
              go_roundw
              case rel => exact ⟨i + 1, rfl, by go_num, by omega, trivial⟩
              case measure => simp [intOf]; omega
        · obtain rfl : i = m := by omega
          clear HR
          go_wp2
          go_ret2
          exact ⟨by rw [HV.out.1, HV.out.2]; rfl, HB.out⟩
    · have HV : Hid (FlagsVal X = 0 ∧ FlagsErr X = 3) := by
        refine ⟨?_, ?_⟩
        · unfold FlagsVal; rw [if_neg (fun h => by omega)]
        · unfold FlagsErr; rw [if_pos hk, if_neg (by omega)]
      have hmI : (4 : Int) < (m : Int) := by omega
      clear hr uY hYl hY hm hp hk
      go_wp2
      go_ret2
      exact ⟨by rw [HV.out.1, HV.out.2]; rfl, HB.out⟩
  · have HV : Hid (FlagsVal X = 0 ∧ FlagsErr X = 6) := by
      refine ⟨?_, ?_⟩
      · unfold FlagsVal; rw [if_neg (by rw [hk]; simp)]
      · unfold FlagsErr; rw [if_neg (by rw [hk]; simp)]
    clear hk
    go_wp2
    go_ret2
    exact ⟨by rw [HV.out.1, HV.out.2]; rfl, HB.out⟩
end Go.Proofs.YtipkcbgafbpadaaDoor
