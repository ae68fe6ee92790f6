/-
  The walks of FromBytes and Bytes.
-/
import Derived.RegionTactic
import Derived.BigRegion
import Derived.Test.YteagdgbcfbkfbabK4
namespace Go.Proofs.Yteagdgbcfbkfbab.Nt
open Go.RowKit

def U8 (x : Int) : Prop := 0 ≤ x ∧ x < 256
def U8s (xs : List Int) : Prop := ∀ x ∈ xs, U8 x
/-- The number of bytes, the lowest first. -/
def bv : List Int → Int
  | [] => 0
  | x :: xs => x + 256 * bv xs
theorem U8s.at {xs : List Int} (h : U8s xs) (i : Nat) : U8 (xs.getD i 0) := by
  by_cases hi : i < xs.length
  · simp [hi]; exact h _ (List.getElem_mem hi)
  · simp [List.getD, List.getElem?_eq_none (Nat.le_of_not_lt hi), U8]
theorem U8s.tail {x : Int} {xs : List Int} (h : U8s (x :: xs)) : U8s xs := fun y hy => h y (by simp [hy])
theorem U8s.rev {xs : List Int} (h : U8s xs) : U8s xs.reverse := fun y hy => h y (by simpa using hy)
theorem U8s.take {xs : List Int} (h : U8s xs) (n : Nat) : U8s (xs.take n) := fun y hy => h y (List.mem_of_mem_take hy)
theorem bv_bound {xs : List Int} (h : U8s xs) : 0 ≤ bv xs ∧ bv xs < 256 ^ xs.length := by
  induction xs with
  | nil => simp [bv]
  | cons x xs ih =>
    have h1 := ih h.tail; have h2 := h x (by simp)
    unfold U8 at h2
    simp only [bv, List.length_cons, Int.pow_succ, Int.mul_comm _ (256 : Int)]; omega
theorem bv_append (xs ys : List Int) : bv (xs ++ ys) = bv xs + 256 ^ xs.length * bv ys := by
  induction xs with
  | nil => simp [bv]
  | cons x xs ih =>
    simp only [List.cons_append, bv, ih, List.length_cons, Int.pow_succ, Int.mul_comm _ (256 : Int), Int.mul_add, Int.mul_assoc]; omega
theorem bv_take_succ (xs : List Int) (k : Nat) (h : k < xs.length) : bv (xs.take (k + 1)) = bv (xs.take k) + 256 ^ k * xs.getD k 0 := by
  rw [take_snoc xs k h, bv_append, List.length_take, Nat.min_eq_left (by omega)]; simp [bv]
theorem pow256 (i : Nat) : (256 : Int) ^ i = 4294967296 ^ (i / 4) * 2 ^ (i % 4 * 8) := by
  have e1 : (256 : Int) = 2 ^ 8 := by decide
  have e2 : (4294967296 : Int) = 2 ^ 32 := by decide
  rw [e1, e2, ← Int.pow_mul, ← Int.pow_mul, ← Int.pow_add]
  congr 1; omega

theorem wraps_u32 (n : Int) (h₀ : 0 ≤ n) (h₁ : n < 2 ^ 32) : IntKind.u32.wrap n = n := by rw [IntKind.wrap_u32]; omega
theorem or_low (s : Nat) (x y : Int) (hs : s ≤ 24) (hx0 : 0 ≤ x) (hx : x < 2 ^ s) (hy0 : 0 ≤ y) (hy : y < 256) : bits .or .u32 x (y * 2 ^ s) = x + y * 2 ^ s := by
  obtain ⟨a, rfl⟩ := Int.eq_ofNat_of_zero_le hx0
  obtain ⟨b, rfl⟩ := Int.eq_ofNat_of_zero_le hy0
  have ha : a < 2 ^ s := by exact_mod_cast hx
  have hb : b < 256 := by omega
  have hp : 2 ^ s ≤ 2 ^ 24 := Nat.pow_le_pow_right (by decide) hs
  have hm : b * 2 ^ s < 2 ^ 32 := by
    calc b * 2 ^ s ≤ 255 * 2 ^ s := Nat.mul_le_mul_right _ (by omega)
      _ ≤ 255 * 2 ^ 24 := Nat.mul_le_mul_left _ hp
      _ < 2 ^ 32 := by decide
  have h := (bits_nat .u32 32 (by decide) wraps_u32 a (b * 2 ^ s) (by omega) hm).2
  have e : ((b * 2 ^ s : Nat) : Int) = (b : Int) * 2 ^ s := by simp
  rw [e] at h
  rw [h, Nat.or_comm, Nat.mul_comm b, ← Nat.two_pow_add_eq_or_of_lt ha b]
  simp only [Int.natCast_add, Int.natCast_mul, Int.natCast_pow]
  rw [Int.mul_comm (b : Int)]; simp [Int.add_comm]
theorem shl_fits (s : Nat) (y : Int) (hs : s ≤ 24) (hy0 : 0 ≤ y) (hy : y < 256) : 0 ≤ y * 2 ^ s ∧ y * 2 ^ s < 4294967296 := by
  have hp0 : (0 : Int) < 2 ^ s := Int.pow_pos (by decide)
  have hp : (2 : Int) ^ s ≤ 2 ^ 24 := by exact_mod_cast Nat.pow_le_pow_right (n := 2) (by decide) hs
  refine ⟨Int.mul_nonneg hy0 (Int.le_of_lt hp0), ?_⟩
  calc y * 2 ^ s ≤ 255 * 2 ^ s := Int.mul_le_mul_of_nonneg_right (by omega) (Int.le_of_lt hp0)
    _ ≤ 255 * 2 ^ 24 := Int.mul_le_mul_of_nonneg_left hp (by decide)
    _ < 4294967296 := by decide
theorem or_fits (s : Nat) (z y : Int) (hs : s ≤ 24) (hz : z < 2 ^ s) (hy : y < 256) : z + y * 2 ^ s < 4294967296 := by
  have hp0 : (0 : Int) < 2 ^ s := Int.pow_pos (by decide)
  have hp : (2 : Int) ^ s ≤ 2 ^ 24 := by exact_mod_cast Nat.pow_le_pow_right (n := 2) (by decide) hs
  have h1 : y * 2 ^ s ≤ 255 * 2 ^ s := Int.mul_le_mul_of_nonneg_right (by omega) (Int.le_of_lt hp0)
  omega
/-- The limb under way has no bit above those read. -/
theorem limb_low {S : List Int} {i : Nat} (hu : U32s S) (hv : val S < 256 ^ i) : S.getD (i / 4) 0 < 2 ^ (i % 4 * 8) := by
  have h := getD_div S (i / 4) hu
  have h0 := val_nonneg hu
  have h1 := hu.at (i / 4)
  rw [pow256, pow32] at hv
  obtain ⟨n, hn⟩ := Int.eq_ofNat_of_zero_le h0
  obtain ⟨z, hz⟩ := Int.eq_ofNat_of_zero_le h1.1
  rw [hn, hz] at h
  rw [hz]
  rw [hn] at hv
  have hv2 : n < 2 ^ (32 * (i / 4)) * 2 ^ (i % 4 * 8) := by exact_mod_cast hv
  simp only [Int.toNat_natCast] at h
  have h2 : n / 2 ^ (32 * (i / 4)) < 2 ^ (i % 4 * 8) := by
    rw [Nat.div_lt_iff_lt_mul (Nat.two_pow_pos _), Nat.mul_comm]; exact hv2
  have h3 : z ≤ n / 2 ^ (32 * (i / 4)) := by rw [← h]; exact Nat.mod_le _ _
  exact_mod_cast Nat.lt_of_le_of_lt h3 h2

def fromS (bs : List Int) : List Int × Int := if 2048 < bs.length then ([], 3) else (lim (bv bs.reverse).toNat, 0)

set_option maxHeartbeats 2000000 in
theorem FromBytes_any (bs : List Int) (v : Value) (w : World) (hb : Sl .u8 w v bs) (ub : U8s bs) :
    Calls Try.prog 23 #[v] w fun e w' => Two w.heap.size w' e (fromS bs) ∧ Below w.heap.size w w' := by
  obtain ⟨a, c, rfl, hc, hbr⟩ := hb
  by_cases hlong : 2048 < bs.length
  · have HL : Hid (fromS bs = ([], 3)) := by unfold fromS; rw [if_pos hlong]; rfl
    go_enter Try.func23, Try.ntmps23
    go_wp2
    go_ret2
    exact ⟨Two.nil' HL.out, Below.refl _ _⟩
  have HL : Hid (fromS bs = (lim (bv bs.reverse).toNat, 0)) := by unfold fromS; rw [if_neg hlong]; rfl
  obtain ⟨n, hn⟩ : ∃ n, bs.length = n := ⟨_, rfl⟩
  have HN : Hid (bs.length = n) := hn
  rw [hn] at hlong hc ⊢
  go_enter Try.func23, Try.ntmps23
  go_wp2_with (at_make; refine wpList_mk _ rfl _ _ 25 rfl .u32 22 4 Try.und32 Try.info32 _ ((n + 3) / 4) rfl rfl (by omega) (by omega) (by omega) ?_; intro w1 hA1 hB1)
  go_loopw [16] (fun iv wr => ∃ (i : Nat) (S : List Int), iv = .int .i64 i ∧ i ≤ n ∧ Arr .u32 22 wr w.heap.size S ∧ U32s S ∧ S.length = (n + 3) / 4 ∧ Below w.heap.size w wr ∧ val S = bv (bs.reverse.take i))
      (fun iv _ => n - (intOf iv).toNat)
  case atStart => exact ⟨0, _, rfl, Nat.zero_le _, hA1, U32s.zeros _, by simp, hB1, by simp [val_zeros, bv]⟩
  case round =>
    clear hA1 hB1
    obtain ⟨i, S, rfl, hi, hA, huS, hlS, hB, hv⟩ := hrel
    by_cases hlt : i < n
    · rcases hbr with rfl | ⟨b, o, rfl, hb, hr⟩
      · simp at hn; omega
      obtain ⟨m, hm⟩ : ∃ m, n - 1 - i = m := ⟨_, rfl⟩
      obtain ⟨q, hq⟩ : ∃ q, i / 4 = q := ⟨_, rfl⟩
      obtain ⟨s, hs⟩ : ∃ s, i % 4 * 8 = s := ⟨_, rfl⟩
      obtain ⟨y, hy⟩ : ∃ y, bs.getD m 0 = y := ⟨_, rfl⟩
      obtain ⟨z, hz⟩ : ∃ z, S.getD q 0 = z := ⟨_, rfl⟩
      have uy : U8 y := hy ▸ ub.at m
      have uz : U32 z := hz ▸ huS.at q
      have hcy : wr.cell? ⟨b, o + m, none⟩ = some (.int .u8 y) := by rw [← hy]; exact (below_rd hB hb hr) m (by omega)
      have hcz : wr.cell? ⟨w.heap.size, q, none⟩ = some (.int .u32 z) := by rw [← hz]; exact hA.cell q (by omega)
      have hfz : wr.frozen? ⟨w.heap.size, q, none⟩ = false := hA.frozen q
      have hlow : z < 2 ^ s := by
        rw [← hz, ← hq, ← hs]
        refine limb_low huS ?_
        rw [hv]; have := (bv_bound (ub.rev.take i)).2
        rw [List.length_take, Nat.min_eq_left (by simp; omega)] at this; exact this
      have hs24 : s ≤ 24 := by omega
      obtain ⟨y0, y1⟩ := uy
      obtain ⟨z0, z1⟩ := uz
      have hor := or_low s z y hs24 z0 hlow y0 y1
      obtain ⟨f0, f1⟩ := shl_fits s y hs24 y0 y1
      have hqi : (i : Int) / 4 = q := by omega
      have hsi : (i : Int) % 4 * 8 = s := by omega
      have hmi : (n : Int) - 1 - i = m := by omega
      have hqs : q < (n + 3) / 4 := by omega
      have hmn : m < n := by omega
      have HH : Hid (bs.getD m 0 = y ∧ S.getD q 0 = z ∧ Arr .u32 22 wr w.heap.size S ∧ U32s S ∧ S.length = (n + 3) / 4 ∧ Below w.heap.size w wr ∧ val S = bv (bs.reverse.take i) ∧ n - 1 - i = m ∧ i / 4 = q ∧ i % 4 * 8 = s) := ⟨hy, hz, hA, huS, hlS, hB, hv, hm, hq, hs⟩
      clear hy hz hA huS hlS hB hv hm hq hs hr hn hlow
      go_wp2
      go_region
      go_wp2
      go_roundw
      case rel =>
        obtain ⟨hy, hz, hA, huS, hlS, hB, hv, hm, hq, hs⟩ := HH.out
        refine ⟨i + 1, S.set q (z + y * 2 ^ s), by go_num, by omega, ?_, huS.set _ ⟨by omega, ?_⟩, by simpa using hlS, ?_, ?_⟩
        · exact hA.set _ _
        · have h1 := limb_low (i := i) huS (by
            rw [hv]; have := (bv_bound (ub.rev.take i)).2
            rw [List.length_take, Nat.min_eq_left (by simp; have := HN.out; omega)] at this; exact this)
          rw [hq, hs, hz] at h1
          exact or_fits s z y hs24 h1 y1
        · exact (hB.trans ⟨rfl, rfl, rfl, Nat.le_refl _, fun _ _ => rfl⟩ : Below w.heap.size w wr.drew).setCell (Nat.le_refl _) _
        · have hrl : i < bs.reverse.length := by simp; have := HN.out; omega
          rw [val_set (by omega), hz, bv_take_succ _ _ hrl, hv, pow256, hq, hs]
          have e : bs.reverse.getD i 0 = y := by
            have hnn := HN.out
            rw [← hy, ← hm, List.getD_eq_getElem?_getD, List.getElem?_reverse (by omega), hnn, ← List.getD_eq_getElem?_getD]
          rw [e, show z + y * 2 ^ s - z = y * 2 ^ s by omega, Int.mul_assoc, Int.mul_comm (2 ^ s) y]
      case measure => simp [intOf]; omega
    · have hin : i = n := by omega
      have hsl := hA.sl
      rw [hlS] at hsl
      have hcut := cut_any S (some ⟨w.heap.size, 0, none⟩) ((n + 3) / 4) wr (by rw [hlS]; exact hsl) (by omega)
      rw [hlS] at hcut
      have HS : Hid (Arr .u32 22 wr w.heap.size S ∧ U32s S ∧ S.length = (n + 3) / 4 ∧ Below w.heap.size w wr ∧ val S = bv (bs.reverse.take i) ∧ i = n) := ⟨hA, huS, hlS, hB, hv, hin⟩
      clear hA huS hB hv hsl hlS hin
      go_wp2_with (go_at_call 36; refine hcut.mono ?_; rintro e w4 ⟨rfl, rfl⟩)
      go_ret2
      obtain ⟨hA, huS, hlS, hB, hv, rfl⟩ := HS.out
      have hO := Own.cut (B := w.heap.size) hA huS (Nat.le_refl _) (by omega)
      rw [hlS, hv, List.take_of_length_le (by simp; have := HN.out; omega)] at hO
      exact ⟨Two.mk' hO HL.out, hB⟩
end Go.Proofs.Yteagdgbcfbkfbab.Nt
/-
  The walks of shiftUp, shiftDown, guess.
-/
namespace Go.Proofs.Yteagdgbcfbkfbab.Nt
open Go.RowKit

theorem wraps_u64 (n : Int) (h₀ : 0 ≤ n) (h₁ : n < 2 ^ 64) : IntKind.u64.wrap n = n := by rw [wrap_u64]; omega
theorem u1' {x : Int} (h : 0 ≤ x) (h' : x < 4294967296) : U32s [x] := U32s.cons ⟨h, h'⟩ U32s.nil
/-- 2^s, s below 32. -/
theorem p2 (s : Nat) (hs : s < 32) : (1 : Int) ≤ 2 ^ s ∧ (2 : Int) ^ s ≤ 2147483648 := by
  have h0 : (0 : Int) < 2 ^ s := Int.pow_pos (by decide)
  have h1 : (2 : Int) ^ s ≤ 2 ^ 31 := by exact_mod_cast Nat.pow_le_pow_right (n := 2) (by decide) (show s ≤ 31 by omega)
  exact ⟨by omega, by omega⟩
theorem or_up (s : Nat) (c x : Int) (hs : s < 32) (c0 : 0 ≤ c) (c1 : c < 2 ^ s) (hx : U32 x) : bits .or .u64 c (x * 2 ^ s) = c + x * 2 ^ s := by
  obtain ⟨x0, x1⟩ := hx
  obtain ⟨a, rfl⟩ := Int.eq_ofNat_of_zero_le c0
  obtain ⟨b, rfl⟩ := Int.eq_ofNat_of_zero_le x0
  have ha : a < 2 ^ s := by exact_mod_cast c1
  have hp : 2 ^ s ≤ 2 ^ 31 := Nat.pow_le_pow_right (by decide) (by omega)
  have hb : b < 4294967296 := by omega
  have hm : b * 2 ^ s < 2 ^ 64 := by
    calc b * 2 ^ s ≤ 4294967296 * 2 ^ s := Nat.mul_le_mul_right _ (by omega)
      _ ≤ 4294967296 * 2 ^ 31 := Nat.mul_le_mul_left _ hp
      _ < 2 ^ 64 := by decide
  have h := (bits_nat .u64 64 (by decide) wraps_u64 a (b * 2 ^ s) (by omega) hm).2
  have e : ((b * 2 ^ s : Nat) : Int) = (b : Int) * 2 ^ s := by simp
  rw [e] at h
  rw [h, Nat.or_comm, Nat.mul_comm b, ← Nat.two_pow_add_eq_or_of_lt ha b]
  simp only [Int.natCast_add, Int.natCast_mul, Int.natCast_pow]
  rw [Int.mul_comm (b : Int)]; simp [Int.add_comm]
theorem mul_p {x p : Int} (hx : U32 x) (h1 : 1 ≤ p) (h2 : p ≤ 2147483648) : 0 ≤ x * p ∧ x * p ≤ 4294967295 * p := by
  obtain ⟨x0, x1⟩ := hx
  exact ⟨Int.mul_nonneg x0 (by omega), Int.mul_le_mul_of_nonneg_right (by omega) (by omega)⟩
theorem up_step (P c x p v u T : Int) (hT : T = c + x * p) (ih : v + P * c = u * p) : (v + P * (T % 4294967296)) + (4294967296 * P) * (T / 4294967296) = (u + P * x) * p := by
  have h1 : T % 4294967296 + 4294967296 * (T / 4294967296) = T := by omega
  obtain ⟨r, hr⟩ : ∃ r, T % 4294967296 = r := ⟨_, rfl⟩
  obtain ⟨q, hq⟩ : ∃ q, T / 4294967296 = q := ⟨_, rfl⟩
  rw [hr, hq] at h1
  rw [hr, hq]
  grind
theorem tail_set (Z : List Int) (m : Nat) (z : Int) : (Z ++ List.replicate (m + 1) 0).set Z.length z = (Z ++ [z]) ++ List.replicate m 0 := by
  rw [List.set_append_right _ _ (Nat.le_refl _), Nat.sub_self, List.replicate_succ]; simp

set_option maxHeartbeats 2000000 in
theorem shiftUp_any (X : List Int) (s : Nat) (hs : s < 32) (v : Value) (w : World) (hX : Sl .u32 w v X) (uX : U32s X) (lX : X.length ≤ 1073741824) :
    Calls Try.prog 68 #[v, .int .i64 s] w fun e w' => ∃ S, e = .returned (.slice (some ⟨w.heap.size, 0, none⟩) (X.length + 1) (X.length + 1)) ∧ Arr .u32 22 w' w.heap.size S ∧ U32s S ∧ S.length = X.length + 1 ∧ val S = val X * 2 ^ s ∧ Below w.heap.size w w' := by
  obtain ⟨aX, cX, rfl, hcX, hXr⟩ := id hX
  obtain ⟨pp, hpp⟩ : ∃ pp : Int, 2 ^ s = pp := ⟨_, rfl⟩
  have hp2 := p2 s hs
  rw [hpp] at hp2
  obtain ⟨p1, p3⟩ := hp2
  have HP : Hid ((2 : Int) ^ s = pp) := hpp
  have hfin : X.take X.length = X := List.take_length
  have HF : Hid (X.take X.length = X) := hfin
  obtain ⟨n, hn⟩ : ∃ n, X.length = n := ⟨_, rfl⟩
  have HN : Hid (X.length = n) := hn
  rw [hn] at lX hcX ⊢
  clear hfin hX
  go_enter Try.func68, Try.ntmps68
  go_wp2_with (at_make; refine wpList_mk _ rfl _ _ 25 rfl .u32 22 4 Try.und32 Try.info32 _ (n + 1) rfl rfl (by omega) (by omega) (by omega) ?_; intro w1 hA1 hB1)
  go_loopw [6, 14] (fun cv iv wr => ∃ (Z : List Int) (c : Int), iv = .int .i64 Z.length ∧ cv = .int .u64 c ∧ Z.length ≤ n ∧ 0 ≤ c ∧ c < pp ∧ Arr .u32 22 wr w.heap.size (Z ++ List.replicate (n + 1 - Z.length) 0) ∧ U32s Z ∧ Below w.heap.size w wr ∧ val Z + 4294967296 ^ Z.length * c = val (X.take Z.length) * pp)
      (fun _ iv _ => n - (intOf iv).toNat)
  case atStart => exact ⟨[], 0, rfl, rfl, Nat.zero_le _, Int.le_refl _, by omega, by simpa using hA1, U32s.nil, hB1, by simp [val]⟩
  case round =>
    clear hA1 hB1
    obtain ⟨Z, c, rfl, rfl, hk, hc0, hc1, hA, huZ, hB, hv⟩ := hrel
    by_cases hlt : Z.length < n
    · rcases hXr with rfl | ⟨b, o, rfl, hb, hr⟩
      · simp at hn; omega
      obtain ⟨x, hx⟩ : ∃ x, X.getD Z.length 0 = x := ⟨_, rfl⟩
      have ux : U32 x := hx ▸ uX.at _
      have hcx : wr.cell? ⟨b, o + Z.length, none⟩ = some (.int .u32 x) := by rw [← hx]; exact (below_rd hB hb hr) _ (by omega)
      obtain ⟨y, hcy⟩ : ∃ y, wr.cell? ⟨w.heap.size, Z.length, none⟩ = some (.int .u32 y) := ⟨_, hA.cell _ (by simp; omega)⟩
      have hfz : wr.frozen? ⟨w.heap.size, Z.length, none⟩ = false := hA.frozen _
      have hor := or_up s c x hs hc0 (by rw [hpp]; exact hc1) ux
      obtain ⟨m0, m1⟩ := mul_p ux p1 p3
      obtain ⟨t, ht⟩ : ∃ t, x * pp = t := ⟨_, rfl⟩
      rw [hpp, ht] at hor
      rw [ht] at m0 m1
      obtain ⟨x0, x1⟩ := ux
      have HT : Hid (x * pp = t) := ht
      obtain ⟨k, hkz⟩ : ∃ k, Z.length = k := ⟨_, rfl⟩
      have HH : Hid (X.getD Z.length 0 = x ∧ Arr .u32 22 wr w.heap.size (Z ++ List.replicate (n + 1 - Z.length) 0) ∧ U32s Z ∧ Below w.heap.size w wr ∧ val Z + 4294967296 ^ Z.length * c = val (X.take Z.length) * pp ∧ Z.length = k) := ⟨hx, hA, huZ, hB, hv, hkz⟩
      have hshl : x * 2 ^ s = t := by rw [hpp]; exact ht
      rw [hkz] at hcx hcy hfz hlt hk ⊢
      clear hx hA huZ hB hv hkz hr hn ht hpp
      go_wp2
      go_roundw
      case rel =>
        obtain ⟨hx, hA, huZ, hB, hv, rfl⟩ := HH.out
        have hnn := HN.out
        refine ⟨Z ++ [(c + t) % 4294967296], (c + t) / 4294967296, by simp, rfl, by simp; omega, by omega, by omega, ?_, huZ.append (u1' (by omega) (by omega)), hB.setCell (Nat.le_refl _) _, ?_⟩
        · have := hA.set Z.length ((c + t) % 4294967296)
          rw [show n + 1 - Z.length = (n - Z.length) + 1 by omega, tail_set] at this
          simpa [show n + 1 - (Z.length + 1) = n - Z.length by omega] using this
        · rw [val_snoc, List.length_append, List.length_singleton, pow_succ32, val_take_succ _ _ (by omega), hx]
          exact up_step _ c x pp _ _ _ (by rw [HT.out]) hv
      case measure => simp [intOf]; omega
    · obtain ⟨y, hcy⟩ : ∃ y, wr.cell? ⟨w.heap.size, n, none⟩ = some (.int .u32 y) := ⟨_, hA.cell _ (by simp; omega)⟩
      have hfz : wr.frozen? ⟨w.heap.size, n, none⟩ = false := hA.frozen _
      have hk2 : Z.length = n := by omega
      have HH : Hid (Arr .u32 22 wr w.heap.size (Z ++ List.replicate (n + 1 - Z.length) 0) ∧ U32s Z ∧ Below w.heap.size w wr ∧ val Z + 4294967296 ^ Z.length * c = val (X.take Z.length) * pp ∧ Z.length = n) := ⟨hA, huZ, hB, hv, hk2⟩
      clear hA huZ hB hv hk2 hpp hn
      go_wp2
      go_ret
      obtain ⟨hA, huZ, hB, hv, hk2⟩ := HH.out
      have hnn := HN.out
      refine ⟨Z ++ [c], rfl, ?_, huZ.append (u1' (by omega) (by omega)), by simp; omega, ?_, hB.setCell (Nat.le_refl _) _⟩
      · have := hA.set Z.length c
        rw [show n + 1 - Z.length = 0 + 1 by omega, tail_set, hk2] at this
        simpa using this
      · rw [val_snoc, hv, hk2, ← hnn, HF.out, HP.out]

/-! ### shiftDown -/
theorem and_low (s : Nat) (x : Int) (hs : s < 32) (h0 : 0 ≤ x) (h1 : x < 18446744073709551616) : bits .and .u64 x (2 ^ s - 1) = x % 2 ^ s :=
  bits_mask .u64 64 (by decide) wraps_u64 s (by omega) x h0 (by simpa using h1)
theorem down_step (vS vX h a T q r p : Int) (hT : T = h * 4294967296 + a) (hqr : T = q * p + r) (ih : vX = vS * p + h) : a + 4294967296 * vX = (q + 4294967296 * vS) * p + r := quo_step vS vX h p a q r T hT hqr ih

set_option maxHeartbeats 2000000 in
theorem shiftDown_any (X : List Int) (s : Nat) (hs : s < 32) (ba c : Nat) (w : World) (hA : Arr .u32 22 w ba X) (uX : U32s X) (lX : X.length ≤ 1099511627776) :
    Calls Try.prog 70 #[.slice (some ⟨ba, 0, none⟩) X.length c, .int .i64 s] w fun e w' => ∃ S, e = .returned (.tuple #[]) ∧ Arr .u32 22 w' ba S ∧ U32s S ∧ S.length = X.length ∧ val S = val X / 2 ^ s ∧ Upd w w' ba := by
  obtain ⟨pp, hpp⟩ : ∃ pp : Int, 2 ^ s = pp := ⟨_, rfl⟩
  have hp2 := p2 s hs
  rw [hpp] at hp2
  obtain ⟨p1, p3⟩ := hp2
  have HP : Hid ((2 : Int) ^ s = pp) := hpp
  obtain ⟨n, hn⟩ : ∃ n, X.length = n := ⟨_, rfl⟩
  have HN : Hid (X.length = n) := hn
  rw [hn] at lX ⊢
  go_enter Try.func70, Try.ntmps70
  go_wp2
  go_loopw [4, 10] (fun hv iv wr => ∃ (k : Nat) (h : Int) (S : List Int), iv = .int .i64 k ∧ hv = .int .u64 h ∧ k ≤ n ∧ 0 ≤ h ∧ h < pp ∧ Arr .u32 22 wr ba S ∧ U32s S ∧ S.length = n ∧ Upd w wr ba ∧ S.take (n - k) = X.take (n - k) ∧ val (X.drop (n - k)) = val (S.drop (n - k)) * pp + h)
      (fun _ iv _ => n - (intOf iv).toNat)
  case atStart => exact ⟨0, 0, X, rfl, rfl, Nat.zero_le _, Int.le_refl _, by omega, hA, uX, hn, Upd.refl _ _, rfl, by rw [Nat.sub_zero, ← hn]; simp [val]⟩
  case round =>
    clear hA
    obtain ⟨k, h, S, rfl, rfl, hk, hh0, hh1, hA, huS, hlS, hU, htk, hv⟩ := hrel
    by_cases hlt : k < n
    · obtain ⟨m, hm⟩ : ∃ m, n - 1 - k = m := ⟨_, rfl⟩
      obtain ⟨a, ha⟩ : ∃ a, S.getD m 0 = a := ⟨_, rfl⟩
      have ua : U32 a := ha ▸ huS.at m
      have hca : wr.cell? ⟨ba, m, none⟩ = some (.int .u32 a) := by rw [← ha]; exact hA.cell m (by omega)
      have hfz : wr.frozen? ⟨ba, m, none⟩ = false := hA.frozen m
      have hmi : ((n : Int) - 1 - k) = m := by omega
      obtain ⟨a0, a1⟩ := ua
      have hor := or32 h a hh0 (by omega) a0 a1
      obtain ⟨T, hT⟩ : ∃ T, h * 4294967296 + a = T := ⟨_, rfl⟩
      have hT0 : 0 ≤ T := by omega
      have hT1 : T < 18446744073709551616 := by omega
      have hTp : T < 4294967296 * pp := by omega
      have hand := and_low s T hs hT0 hT1
      rw [hpp] at hand
      rw [hT] at hor
      have hq0 : 0 ≤ T / pp := Int.ediv_nonneg hT0 (by omega)
      have hq1 : T / pp < 4294967296 := Int.ediv_lt_of_lt_mul (by omega) hTp
      have hr0 : 0 ≤ T % pp := Int.emod_nonneg _ (by omega)
      have hr1 : T % pp < pp := Int.emod_lt_of_pos _ (by omega)
      have hdm : T = T / pp * pp + T % pp := by have := Int.mul_ediv_add_emod T pp; rw [Int.mul_comm] at this; omega
      have HH : Hid (S.getD m 0 = a ∧ Arr .u32 22 wr ba S ∧ U32s S ∧ S.length = n ∧ Upd w wr ba ∧ S.take (n - k) = X.take (n - k) ∧ val (X.drop (n - k)) = val (S.drop (n - k)) * pp + h ∧ n - 1 - k = m ∧ T = T / pp * pp + T % pp ∧ h * 4294967296 + a = T) := ⟨ha, hA, huS, hlS, hU, htk, hv, hm, hdm, hT⟩
      clear hA huS hlS hU htk hv ha hm hn hdm hT
      go_wp2
      go_roundw
      case rel =>
        obtain ⟨ha, hA, huS, hlS, hU, htk, hv, hm, hdm, hT⟩ := HH.out
        have hnn := HN.out
        have e1 : n - (k + 1) = m := by omega
        have e2 : n - k = m + 1 := by omega
        rw [e2] at htk hv
        have hXm : X.getD m 0 = a := by
          have := congrArg (fun l : List Int => l.getD m 0) htk
          simp only [List.getD_eq_getElem?_getD, List.getElem?_take, if_pos (Nat.lt_succ_self m)] at this
          rw [List.getD_eq_getElem?_getD, ← this, ← List.getD_eq_getElem?_getD]; exact ha
        refine ⟨k + 1, T % pp, S.set m (T / pp), by go_num, rfl, by omega, hr0, hr1, hA.set _ _, huS.set _ ⟨hq0, hq1⟩, by simpa using hlS, hU.trans (Upd.set _ _ _ _), ?_, ?_⟩
        · rw [e1, List.take_set_of_le (Nat.le_refl _)]
          have := congrArg (List.take m) htk
          simpa [List.take_take] using this
        · rw [e1, drop_set_self (by omega), List.drop_eq_getElem_cons (show m < X.length by omega)]
          have e3 : X[m]'(by omega) = a := by rw [← hXm]; simp [show m < X.length by omega]
          rw [e3]
          simp only [val]
          exact down_step _ _ h a T _ _ pp hT.symm hdm hv
      case measure => simp [intOf]; omega
    · have HH : Hid (Arr .u32 22 wr ba S ∧ U32s S ∧ S.length = n ∧ Upd w wr ba ∧ val (X.drop (n - k)) = val (S.drop (n - k)) * pp + h ∧ k = n) := ⟨hA, huS, hlS, hU, hv, by omega⟩
      clear hA huS hlS hU htk hv hn
      go_wp2
      go_end0
      obtain ⟨hA, huS, hlS, hU, hv, hkn⟩ := HH.out
      rw [hkn, Nat.sub_self, List.drop_zero, List.drop_zero] at hv
      refine ⟨S, rfl, hA, huS, hlS, ?_, hU⟩
      rw [HP.out, hv, Int.add_comm, Int.add_mul_ediv_right _ _ (by omega), Int.ediv_eq_zero_of_lt hh0 hh1]; omega

/-! ### guess -/
/-- t is the quotient of the highest three limbs by the highest two, or the greatest limb. -/
def Guess (U3 V2 t : Int) : Prop := 0 ≤ t ∧ t < 4294967296 ∧ t * V2 ≤ U3 ∧ (U3 < (t + 1) * V2 ∨ t = 4294967295)

theorem or32b (l a : Int) (h0 : 0 ≤ l) (h1 : l < 4294967296) (a0 : 0 ≤ a) (a1 : a < 4294967296) : bits BinOp.or .u64 (l * 4294967296) a = l * 4294967296 + a := or32 l a h0 h1 a0 a1

/-- What holds between two rounds of guess. -/
def GI (d1 d0 T l0 t o : Int) : Prop := 0 ≤ t ∧ 0 ≤ o ∧ o < 8589934592 ∧ d1 * t + o = T ∧ (T * 4294967296 + l0 < (t + 1) * (d1 * 4294967296 + d0) ∨ 4294967295 ≤ t)
theorem guess_start {T l0 d0 d1 : Int} (hT : 0 ≤ T) (hd : 0 < d1) (hl : l0 < 4294967296) (h0 : 0 ≤ d0) : T * 4294967296 + l0 < (T / d1 + 1) * (d1 * 4294967296 + d0) := by
  have h1 := Int.mul_ediv_add_emod T d1
  have h2 := Int.emod_lt_of_pos T hd
  have h3 : 0 ≤ T / d1 := Int.ediv_nonneg hT (by omega)
  obtain ⟨q, hq⟩ : ∃ q, T / d1 = q := ⟨_, rfl⟩
  obtain ⟨r, hr⟩ : ∃ r, T % d1 = r := ⟨_, rfl⟩
  rw [hq, hr] at h1
  rw [hr] at h2
  rw [hq] at h3 ⊢
  have h4 : 0 ≤ (q + 1) * d0 := Int.mul_nonneg (by omega) h0
  have h5 : (q + 1) * (d1 * 4294967296 + d0) = (d1 * q + d1) * 4294967296 + (q + 1) * d0 := by grind
  rw [h5]; omega
theorem guess_fin {T t o l0 d0 d1 : Int} (h : d1 * t + o = T) (h2 : t * d0 ≤ o * 4294967296 + l0) : t * (d1 * 4294967296 + d0) ≤ T * 4294967296 + l0 := by
  have h5 : t * (d1 * 4294967296 + d0) = (d1 * t) * 4294967296 + t * d0 := by grind
  rw [h5]; omega
theorem guess_dec {T t o l0 d0 d1 : Int} (h : d1 * t + o = T) (h2 : o * 4294967296 + l0 < t * d0) : T * 4294967296 + l0 < (t - 1 + 1) * (d1 * 4294967296 + d0) := by
  have h5 : (t - 1 + 1) * (d1 * 4294967296 + d0) = (d1 * t) * 4294967296 + t * d0 := by grind
  rw [h5]; omega

set_option maxHeartbeats 4000000 in
theorem guess_any (l0 l1 l2 d0 d1 : Int) (ba oa bd od c c' : Nat) (w : World) (ul0 : U32 l0) (ul1 : U32 l1) (ul2 : U32 l2) (ud0 : U32 d0) (ud1 : U32 d1) (hd : 2147483648 ≤ d1) (htop : l2 * 4294967296 + l1 ≤ d1 * 4294967296 + d0)
    (c0 : w.cell? ⟨ba, oa, none⟩ = some (.int .u32 l0)) (c1 : w.cell? ⟨ba, oa + 1, none⟩ = some (.int .u32 l1)) (c2 : w.cell? ⟨ba, oa + 2, none⟩ = some (.int .u32 l2))
    (e0 : w.cell? ⟨bd, od, none⟩ = some (.int .u32 d0)) (e1 : w.cell? ⟨bd, od + 1, none⟩ = some (.int .u32 d1)) :
    Calls Try.prog 71 #[.slice (some ⟨ba, oa, none⟩) 3 c, .slice (some ⟨bd, od, none⟩) 2 c'] w fun e w' => ∃ t, e = .returned (.int .u32 t) ∧ Guess ((l2 * 4294967296 + l1) * 4294967296 + l0) (d1 * 4294967296 + d0) t ∧ ∃ n, w' = w.drewN n := by
  obtain ⟨a0, a1⟩ := ul0; obtain ⟨b0, b1⟩ := ul1; obtain ⟨f0, f1⟩ := ul2; obtain ⟨g0, g1⟩ := ud0; obtain ⟨k0, k1⟩ := ud1
  have hor := or32 l2 l1 f0 f1 b0 b1
  obtain ⟨T, hT⟩ : ∃ T, l2 * 4294967296 + l1 = T := ⟨_, rfl⟩
  rw [hT] at hor htop
  have hT0 : 0 ≤ T := by omega
  have hT1 : T < 18446744073709551616 := by omega
  have hq0 : 0 ≤ T / d1 := Int.ediv_nonneg hT0 (by omega)
  have hr0 : 0 ≤ T % d1 := Int.emod_nonneg _ (by omega)
  have hr1 : T % d1 < d1 := Int.emod_lt_of_pos _ (by omega)
  have hqr := Int.mul_ediv_add_emod T d1
  have hq2 : T / d1 ≤ T := Int.ediv_le_self _ hT0
  have HH : Hid (l2 * 4294967296 + l1 = T ∧ d1 * (T / d1) + T % d1 = T) := ⟨hT, hqr⟩
  rw [hT]
  clear hT hqr
  have hd10 : d1 ≠ 0 := by omega
  go_enter Try.func71, Try.ntmps71
  go_wp2
  go_quiet (fail)
  go_wp2
  go_quiet (fail)
  go_wp2
  go_quiet (fail)
  go_wp2
  have hstart := guess_start (l0 := l0) (d0 := d0) hT0 (by omega : 0 < d1) a1 g0
  go_loop [8, 9] (fun tv ov => ∃ t o : Int, tv = .int .u64 t ∧ ov = .int .u64 o ∧ GI d1 d0 T l0 t o)
    (fun tv _ => (intOf tv).toNat)
  case atStart => exact ⟨_, _, rfl, rfl, hq0, hr0, by omega, HH.out.2, .inl hstart⟩
  case round =>
    clear hstart hq0 hr0 hr1 hq2
    obtain ⟨t, o, rfl, rfl, t0, o0, o1, heq, hi⟩ := hrel
    have htT : t ≤ T := by
      have : 1 * t ≤ d1 * t := Int.mul_le_mul_of_nonneg_right (by omega) t0
      omega
    have hbig : 4294967296 ≤ t → o < 4294967296 := by
      intro h
      have : d1 * 4294967296 ≤ d1 * t := Int.mul_le_mul_of_nonneg_left h (by omega)
      omega
    by_cases h1 : 4294967296 ≤ o
    · have ht : t < 4294967296 := by apply Classical.byContradiction; intro h; have := hbig (by omega); omega
      have hf := guess_fin heq (by have := mul_u32 ⟨t0, ht⟩ ⟨g0, g1⟩; omega : t * d0 ≤ o * 4294967296 + l0)
      have HF : Hid (Guess (T * 4294967296 + l0) (d1 * 4294967296 + d0) t) := ⟨t0, ht, hf, by rcases hi with h | h; exact .inl h; exact .inr (by omega)⟩
      have hno : ¬ o < 4294967296 := by omega
      clear heq hi hbig hf h1
      go_wp2
      go_ret
      exact ⟨t, rfl, HF.out, _, rfl⟩
    · have h1' : o < 4294967296 := by omega
      by_cases h2 : 4294967296 ≤ t
      · have HE : Hid (GI d1 d0 T l0 (t - 1) (o + d1)) := ⟨by omega, by omega, by omega, by rw [Int.mul_sub]; omega, .inr (by omega)⟩
        clear heq hi hbig h1
        go_wp2
        go_round
        case rel => first | exact HE.out | exact ⟨t - 1, o + d1, rfl, rfl, HE.out⟩
        case measure => simp [intOf]; omega
      · have ht : t < 4294967296 := by omega
        obtain ⟨p, hp⟩ : ∃ p, t * d0 = p := ⟨_, rfl⟩
        have hpb := mul_u32 ⟨t0, ht⟩ ⟨g0, g1⟩
        rw [hp] at hpb
        obtain ⟨pb0, pb1⟩ := hpb
        have hor2 := or32 o l0 o0 h1' a0 a1
        by_cases h3 : o * 4294967296 + l0 < p
        · have hdec := guess_dec (l0 := l0) heq (by rw [hp]; exact h3)
          have ht1 : 1 ≤ t := by
            apply Classical.byContradiction; intro h
            have : t = 0 := by omega
            subst this; simp at hp; omega
          have HE : Hid (GI d1 d0 T l0 (t - 1) (o + d1)) := ⟨by omega, by omega, by omega, by rw [Int.mul_sub]; omega, .inl hdec⟩
          clear heq hi hbig h1 hdec
          go_wp2
          go_round
          case rel => first | exact HE.out | exact ⟨t - 1, o + d1, rfl, rfl, HE.out⟩
          case measure => simp [intOf]; omega
        · have hf := guess_fin heq (by rw [hp]; omega : t * d0 ≤ o * 4294967296 + l0)
          have HF : Hid (Guess (T * 4294967296 + l0) (d1 * 4294967296 + d0) t) := ⟨t0, ht, hf, by rcases hi with h | h; exact .inl h; exact .inr (by omega)⟩
          clear heq hi hbig h1 hf
          go_wp2
          go_ret
          exact ⟨t, rfl, HF.out, _, rfl⟩
end Go.Proofs.Yteagdgbcfbkfbab.Nt
