/-
  The walks of FromBytes and Bytes.
-/
import Derived.Test.YthkheocggcmooaaW12
import Derived.RegionTactic
import Derived.BigRegion
namespace Go.Proofs.Ythkheocggcmooaa
open Go.RowKit

def U8 (x : Int) : Prop := 0 ≤ x ∧ x < 256
def U8s (xs : List Int) : Prop := ∀ x ∈ xs, U8 x
/-- The number of bytes, the lowest first. -/
def bv : List Int → Int
  | [] => 0
  | x :: xs => x + 256 * bv xs
theorem U8s.at {xs : List Int} (h : U8s xs) (i : Nat) : U8 (xs.getD i 0) := by
  by_cases hi : i < xs.length
  · simp [hi]; exact h _ (List.getElem_mem hi)
  · simp [List.getD, List.getElem?_eq_none (Nat.le_of_not_lt hi), U8]
theorem U8s.tail {x : Int} {xs : List Int} (h : U8s (x :: xs)) : U8s xs := fun y hy => h y (by simp [hy])
theorem U8s.rev {xs : List Int} (h : U8s xs) : U8s xs.reverse := fun y hy => h y (by simpa using hy)
theorem U8s.take {xs : List Int} (h : U8s xs) (n : Nat) : U8s (xs.take n) := fun y hy => h y (List.mem_of_mem_take hy)
theorem bv_bound {xs : List Int} (h : U8s xs) : 0 ≤ bv xs ∧ bv xs < 256 ^ xs.length := by
  induction xs with
  | nil => simp [bv]
  | cons x xs ih =>
    have h1 := ih h.tail; have h2 := h x (by simp)
    unfold U8 at h2
    simp only [bv, List.length_cons, Int.pow_succ, Int.mul_comm _ (256 : Int)]; omega
theorem bv_append (xs ys : List Int) : bv (xs ++ ys) = bv xs + 256 ^ xs.length * bv ys := by
  induction xs with
  | nil => simp [bv]
  | cons x xs ih =>
    simp only [List.cons_append, bv, ih, List.length_cons, Int.pow_succ, Int.mul_comm _ (256 : Int), Int.mul_add, Int.mul_assoc]; omega
theorem bv_take_succ (xs : List Int) (k : Nat) (h : k < xs.length) : bv (xs.take (k + 1)) = bv (xs.take k) + 256 ^ k * xs.getD k 0 := by
  rw [take_snoc xs k h, bv_append, List.length_take, Nat.min_eq_left (by omega)]; simp [bv]
theorem pow256 (i : Nat) : (256 : Int) ^ i = 4294967296 ^ (i / 4) * 2 ^ (i % 4 * 8) := by
  have e1 : (256 : Int) = 2 ^ 8 := by decide
  have e2 : (4294967296 : Int) = 2 ^ 32 := by decide
  rw [e1, e2, ← Int.pow_mul, ← Int.pow_mul, ← Int.pow_add]
  congr 1; omega

theorem wraps_u32 (n : Int) (h₀ : 0 ≤ n) (h₁ : n < 2 ^ 32) : IntKind.u32.wrap n = n := by rw [IntKind.wrap_u32]; omega
theorem or_low (s : Nat) (x y : Int) (hs : s ≤ 24) (hx0 : 0 ≤ x) (hx : x < 2 ^ s) (hy0 : 0 ≤ y) (hy : y < 256) : bits .or .u32 x (y * 2 ^ s) = x + y * 2 ^ s := by
  obtain ⟨a, rfl⟩ := Int.eq_ofNat_of_zero_le hx0
  obtain ⟨b, rfl⟩ := Int.eq_ofNat_of_zero_le hy0
  have ha : a < 2 ^ s := by exact_mod_cast hx
  have hb : b < 256 := by omega
  have hp : 2 ^ s ≤ 2 ^ 24 := Nat.pow_le_pow_right (by decide) hs
  have hm : b * 2 ^ s < 2 ^ 32 := by
    calc b * 2 ^ s ≤ 255 * 2 ^ s := Nat.mul_le_mul_right _ (by omega)
      _ ≤ 255 * 2 ^ 24 := Nat.mul_le_mul_left _ hp
      _ < 2 ^ 32 := by decide
  have h := (bits_nat .u32 32 (by decide) wraps_u32 a (b * 2 ^ s) (by omega) hm).2
  have e : ((b * 2 ^ s : Nat) : Int) = (b : Int) * 2 ^ s := by simp
  rw [e] at h
  rw [h, Nat.or_comm, Nat.mul_comm b, ← Nat.two_pow_add_eq_or_of_lt ha b]
  simp only [Int.natCast_add, Int.natCast_mul, Int.natCast_pow]
  rw [Int.mul_comm (b : Int)]; simp [Int.add_comm]
theorem shl_fits (s : Nat) (y : Int) (hs : s ≤ 24) (hy0 : 0 ≤ y) (hy : y < 256) : 0 ≤ y * 2 ^ s ∧ y * 2 ^ s < 4294967296 := by
  have hp0 : (0 : Int) < 2 ^ s := Int.pow_pos (by decide)
  have hp : (2 : Int) ^ s ≤ 2 ^ 24 := by exact_mod_cast Nat.pow_le_pow_right (n := 2) (by decide) hs
  refine ⟨Int.mul_nonneg hy0 (Int.le_of_lt hp0), ?_⟩
  calc y * 2 ^ s ≤ 255 * 2 ^ s := Int.mul_le_mul_of_nonneg_right (by omega) (Int.le_of_lt hp0)
    _ ≤ 255 * 2 ^ 24 := Int.mul_le_mul_of_nonneg_left hp (by decide)
    _ < 4294967296 := by decide
theorem or_fits (s : Nat) (z y : Int) (hs : s ≤ 24) (hz : z < 2 ^ s) (hy : y < 256) : z + y * 2 ^ s < 4294967296 := by
  have hp0 : (0 : Int) < 2 ^ s := Int.pow_pos (by decide)
  have hp : (2 : Int) ^ s ≤ 2 ^ 24 := by exact_mod_cast Nat.pow_le_pow_right (n := 2) (by decide) hs
  have h1 : y * 2 ^ s ≤ 255 * 2 ^ s := Int.mul_le_mul_of_nonneg_right (by omega) (Int.le_of_lt hp0)
  omega
/-- The limb under way has no bit above those read. -/
theorem limb_low {S : List Int} {i : Nat} (hu : U32s S) (hv : val S < 256 ^ i) : S.getD (i / 4) 0 < 2 ^ (i % 4 * 8) := by
  have h := getD_div S (i / 4) hu
  have h0 := val_nonneg hu
  have h1 := hu.at (i / 4)
  rw [pow256, pow32] at hv
  obtain ⟨n, hn⟩ := Int.eq_ofNat_of_zero_le h0
  obtain ⟨z, hz⟩ := Int.eq_ofNat_of_zero_le h1.1
  rw [hn, hz] at h
  rw [hz]
  rw [hn] at hv
  have hv2 : n < 2 ^ (32 * (i / 4)) * 2 ^ (i % 4 * 8) := by exact_mod_cast hv
  simp only [Int.toNat_natCast] at h
  have h2 : n / 2 ^ (32 * (i / 4)) < 2 ^ (i % 4 * 8) := by
    rw [Nat.div_lt_iff_lt_mul (Nat.two_pow_pos _), Nat.mul_comm]; exact hv2
  have h3 : z ≤ n / 2 ^ (32 * (i / 4)) := by rw [← h]; exact Nat.mod_le _ _
  exact_mod_cast Nat.lt_of_le_of_lt h3 h2

def fromS (bs : List Int) : List Int × Int := if 2048 < bs.length then ([], 3) else (lim (bv bs.reverse).toNat, 0)

set_option maxHeartbeats 2000000 in
theorem FromBytes_any (bs : List Int) (v : Value) (w : World) (hb : Sl .u8 w v bs) (ub : U8s bs) :
    Calls Try.prog 34 #[v] w fun e w' => Two w.heap.size w' e (fromS bs) ∧ Below w.heap.size w w' := by
  obtain ⟨a, c, rfl, hc, hbr⟩ := hb
  by_cases hlong : 2048 < bs.length
  · have HL : Hid (fromS bs = ([], 3)) := by unfold fromS; rw [if_pos hlong]; rfl
    go_enter Try.func34, Try.ntmps34
    go_wp2
    go_ret2
    exact ⟨Two.nil' HL.out, Below.refl _ _⟩
  have HL : Hid (fromS bs = (lim (bv bs.reverse).toNat, 0)) := by unfold fromS; rw [if_neg hlong]; rfl
  obtain ⟨n, hn⟩ : ∃ n, bs.length = n := ⟨_, rfl⟩
  have HN : Hid (bs.length = n) := hn
  rw [hn] at hlong hc ⊢
  go_enter Try.func34, Try.ntmps34
  go_wp2_with (at_make; refine wpList_mk _ rfl _ _ 22 rfl .u32 53 4 Try.und32 Try.info32 _ ((n + 3) / 4) rfl rfl (by omega) (by omega) (by omega) ?_; intro w1 hA1 hB1)
  go_loopw [16] (fun iv wr => ∃ (i : Nat) (S : List Int), iv = .int .i64 i ∧ i ≤ n ∧ Arr .u32 53 wr w.heap.size S ∧ U32s S ∧ S.length = (n + 3) / 4 ∧ Below w.heap.size w wr ∧ val S = bv (bs.reverse.take i))
      (fun iv _ => n - (intOf iv).toNat)
  case atStart => exact ⟨0, _, rfl, Nat.zero_le _, hA1, U32s.zeros _, by simp, hB1, by simp [val_zeros, bv]⟩
  case round =>
    clear hA1 hB1
    obtain ⟨i, S, rfl, hi, hA, huS, hlS, hB, hv⟩ := hrel
    by_cases hlt : i < n
    · rcases hbr with rfl | ⟨b, o, rfl, hb, hr⟩
      · simp at hn; omega
      obtain ⟨m, hm⟩ : ∃ m, n - 1 - i = m := ⟨_, rfl⟩
      obtain ⟨q, hq⟩ : ∃ q, i / 4 = q := ⟨_, rfl⟩
      obtain ⟨s, hs⟩ : ∃ s, i % 4 * 8 = s := ⟨_, rfl⟩
      obtain ⟨y, hy⟩ : ∃ y, bs.getD m 0 = y := ⟨_, rfl⟩
      obtain ⟨z, hz⟩ : ∃ z, S.getD q 0 = z := ⟨_, rfl⟩
      have uy : U8 y := hy ▸ ub.at m
      have uz : U32 z := hz ▸ huS.at q
      have hcy : wr.cell? ⟨b, o + m, none⟩ = some (.int .u8 y) := by rw [← hy]; exact (below_rd hB hb hr) m (by omega)
      have hcz : wr.cell? ⟨w.heap.size, q, none⟩ = some (.int .u32 z) := by rw [← hz]; exact hA.cell q (by omega)
      have hfz : wr.frozen? ⟨w.heap.size, q, none⟩ = false := hA.frozen q
      have hlow : z < 2 ^ s := by
        rw [← hz, ← hq, ← hs]
        refine limb_low huS ?_
        rw [hv]; have := (bv_bound (ub.rev.take i)).2
        rw [List.length_take, Nat.min_eq_left (by simp; omega)] at this; exact this
      have hs24 : s ≤ 24 := by omega
      obtain ⟨y0, y1⟩ := uy
      obtain ⟨z0, z1⟩ := uz
      have hor := or_low s z y hs24 z0 hlow y0 y1
      obtain ⟨f0, f1⟩ := shl_fits s y hs24 y0 y1
      have hqi : (i : Int) / 4 = q := by omega
      have hsi : (i : Int) % 4 * 8 = s := by omega
      have hmi : (n : Int) - 1 - i = m := by omega
      have hqs : q < (n + 3) / 4 := by omega
      have hmn : m < n := by omega
      have HH : Hid (bs.getD m 0 = y ∧ S.getD q 0 = z ∧ Arr .u32 53 wr w.heap.size S ∧ U32s S ∧ S.length = (n + 3) / 4 ∧ Below w.heap.size w wr ∧ val S = bv (bs.reverse.take i) ∧ n - 1 - i = m ∧ i / 4 = q ∧ i % 4 * 8 = s) := ⟨hy, hz, hA, huS, hlS, hB, hv, hm, hq, hs⟩
      clear hy hz hA huS hlS hB hv hm hq hs hr hn hlow
      go_wp2
      go_region
      go_wp2
      go_roundw
      case rel =>
        obtain ⟨hy, hz, hA, huS, hlS, hB, hv, hm, hq, hs⟩ := HH.out
        refine ⟨i + 1, S.set q (z + y * 2 ^ s), by go_num, by omega, ?_, huS.set _ ⟨by omega, ?_⟩, by simpa using hlS, ?_, ?_⟩
        · exact hA.set _ _
        · have h1 := limb_low (i := i) huS (by
            rw [hv]; have := (bv_bound (ub.rev.take i)).2
            rw [List.length_take, Nat.min_eq_left (by simp; have := HN.out; omega)] at this; exact this)
          rw [hq, hs, hz] at h1
          exact or_fits s z y hs24 h1 y1
        · exact (hB.trans ⟨rfl, rfl, rfl, Nat.le_refl _, fun _ _ => rfl⟩ : Below w.heap.size w wr.drew).setCell (Nat.le_refl _) _
        · have hrl : i < bs.reverse.length := by simp; have := HN.out; omega
          rw [val_set (by omega), hz, bv_take_succ _ _ hrl, hv, pow256, hq, hs]
          have e : bs.reverse.getD i 0 = y := by
            have hnn := HN.out
            rw [← hy, ← hm, List.getD_eq_getElem?_getD, List.getElem?_reverse (by omega), hnn, ← List.getD_eq_getElem?_getD]
          rw [e, show z + y * 2 ^ s - z = y * 2 ^ s by omega, Int.mul_assoc, Int.mul_comm (2 ^ s) y]
      case measure => simp [intOf]; omega
    · have hin : i = n := by omega
      have hsl := hA.sl
      rw [hlS] at hsl
      have hcut := cut_any S (some ⟨w.heap.size, 0, none⟩) ((n + 3) / 4) wr (by rw [hlS]; exact hsl) (by omega)
      rw [hlS] at hcut
      have HS : Hid (Arr .u32 53 wr w.heap.size S ∧ U32s S ∧ S.length = (n + 3) / 4 ∧ Below w.heap.size w wr ∧ val S = bv (bs.reverse.take i) ∧ i = n) := ⟨hA, huS, hlS, hB, hv, hin⟩
      clear hA huS hB hv hsl hlS hin
      go_wp2_with (go_at_call 45; refine hcut.mono ?_; rintro e w4 ⟨rfl, rfl⟩)
      go_ret2
      obtain ⟨hA, huS, hlS, hB, hv, rfl⟩ := HS.out
      have hO := Own.cut (B := w.heap.size) hA huS (Nat.le_refl _) (by omega)
      rw [hlS, hv, List.take_of_length_le (by simp; have := HN.out; omega)] at hO
      exact ⟨Two.mk' hO HL.out, hB⟩
end Go.Proofs.Ythkheocggcmooaa
