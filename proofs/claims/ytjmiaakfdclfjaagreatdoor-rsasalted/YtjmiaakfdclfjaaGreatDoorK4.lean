/-
  The walks of FromBytes and Bytes.
-/
import Derived.RegionTactic
import Derived.BigRegion
import Derived.Deep.LoopGhost
import Derived.Test.YtjmiaakfdclfjaaGreatDoorK3
namespace Go.Proofs.YtjmiaakfdclfjaaGreatDoor.Nt
open Go.RowKit

def U8 (x : Int) : Prop := 0 ≤ x ∧ x < 256
def U8s (xs : List Int) : Prop := ∀ x ∈ xs, U8 x
/-- The number of bytes, the lowest first. -/
def bv : List Int → Int
  | [] => 0
  | x :: xs => x + 256 * bv xs
theorem U8s.at {xs : List Int} (h : U8s xs) (i : Nat) : U8 (xs.getD i 0) := by
  by_cases hi : i < xs.length
  · simp [hi]; exact h _ (List.getElem_mem hi)
  · simp [List.getD, List.getElem?_eq_none (Nat.le_of_not_lt hi), U8]
theorem U8s.tail {x : Int} {xs : List Int} (h : U8s (x :: xs)) : U8s xs := fun y hy => h y (by simp [hy])
theorem U8s.rev {xs : List Int} (h : U8s xs) : U8s xs.reverse := fun y hy => h y (by simpa using hy)
theorem U8s.take {xs : List Int} (h : U8s xs) (n : Nat) : U8s (xs.take n) := fun y hy => h y (List.mem_of_mem_take hy)
theorem bv_bound {xs : List Int} (h : U8s xs) : 0 ≤ bv xs ∧ bv xs < 256 ^ xs.length := by
  induction xs with
  | nil => simp [bv]
  | cons x xs ih =>
    have h1 := ih h.tail; have h2 := h x (by simp)
    unfold U8 at h2
    simp only [bv, List.length_cons, Int.pow_succ, Int.mul_comm _ (256 : Int)]; omega
theorem bv_append (xs ys : List Int) : bv (xs ++ ys) = bv xs + 256 ^ xs.length * bv ys := by
  induction xs with
  | nil => simp [bv]
  | cons x xs ih =>
    simp only [List.cons_append, bv, ih, List.length_cons, Int.pow_succ, Int.mul_comm _ (256 : Int), Int.mul_add, Int.mul_assoc]; omega
theorem bv_take_succ (xs : List Int) (k : Nat) (h : k < xs.length) : bv (xs.take (k + 1)) = bv (xs.take k) + 256 ^ k * xs.getD k 0 := by
  rw [take_snoc xs k h, bv_append, List.length_take, Nat.min_eq_left (by omega)]; simp [bv]
theorem pow256 (i : Nat) : (256 : Int) ^ i = 4294967296 ^ (i / 4) * 2 ^ (i % 4 * 8) := by
  have e1 : (256 : Int) = 2 ^ 8 := by decide
  have e2 : (4294967296 : Int) = 2 ^ 32 := by decide
  rw [e1, e2, ← Int.pow_mul, ← Int.pow_mul, ← Int.pow_add]
  congr 1; omega

theorem wraps_u32 (n : Int) (h₀ : 0 ≤ n) (h₁ : n < 2 ^ 32) : IntKind.u32.wrap n = n := by rw [IntKind.wrap_u32]; omega
theorem or_low (s : Nat) (x y : Int) (hs : s ≤ 24) (hx0 : 0 ≤ x) (hx : x < 2 ^ s) (hy0 : 0 ≤ y) (hy : y < 256) : bits .or .u32 x (y * 2 ^ s) = x + y * 2 ^ s := by
  obtain ⟨a, rfl⟩ := Int.eq_ofNat_of_zero_le hx0
  obtain ⟨b, rfl⟩ := Int.eq_ofNat_of_zero_le hy0
  have ha : a < 2 ^ s := by exact_mod_cast hx
  have hb : b < 256 := by omega
  have hp : 2 ^ s ≤ 2 ^ 24 := Nat.pow_le_pow_right (by decide) hs
  have hm : b * 2 ^ s < 2 ^ 32 := by
    calc b * 2 ^ s ≤ 255 * 2 ^ s := Nat.mul_le_mul_right _ (by omega)
      _ ≤ 255 * 2 ^ 24 := Nat.mul_le_mul_left _ hp
      _ < 2 ^ 32 := by decide
  have h := (bits_nat .u32 32 (by decide) wraps_u32 a (b * 2 ^ s) (by omega) hm).2
  have e : ((b * 2 ^ s : Nat) : Int) = (b : Int) * 2 ^ s := by simp
  rw [e] at h
  rw [h, Nat.or_comm, Nat.mul_comm b, ← Nat.two_pow_add_eq_or_of_lt ha b]
  simp only [Int.natCast_add, Int.natCast_mul, Int.natCast_pow]
  rw [Int.mul_comm (b : Int)]; simp [Int.add_comm]
theorem shl_fits (s : Nat) (y : Int) (hs : s ≤ 24) (hy0 : 0 ≤ y) (hy : y < 256) : 0 ≤ y * 2 ^ s ∧ y * 2 ^ s < 4294967296 := by
  have hp0 : (0 : Int) < 2 ^ s := Int.pow_pos (by decide)
  have hp : (2 : Int) ^ s ≤ 2 ^ 24 := by exact_mod_cast Nat.pow_le_pow_right (n := 2) (by decide) hs
  refine ⟨Int.mul_nonneg hy0 (Int.le_of_lt hp0), ?_⟩
  calc y * 2 ^ s ≤ 255 * 2 ^ s := Int.mul_le_mul_of_nonneg_right (by omega) (Int.le_of_lt hp0)
    _ ≤ 255 * 2 ^ 24 := Int.mul_le_mul_of_nonneg_left hp (by decide)
    _ < 4294967296 := by decide
theorem or_fits (s : Nat) (z y : Int) (hs : s ≤ 24) (hz : z < 2 ^ s) (hy : y < 256) : z + y * 2 ^ s < 4294967296 := by
  have hp0 : (0 : Int) < 2 ^ s := Int.pow_pos (by decide)
  have hp : (2 : Int) ^ s ≤ 2 ^ 24 := by exact_mod_cast Nat.pow_le_pow_right (n := 2) (by decide) hs
  have h1 : y * 2 ^ s ≤ 255 * 2 ^ s := Int.mul_le_mul_of_nonneg_right (by omega) (Int.le_of_lt hp0)
  omega
/-- The limb under way has no bit above those read. -/
theorem limb_low {S : List Int} {i : Nat} (hu : U32s S) (hv : val S < 256 ^ i) : S.getD (i / 4) 0 < 2 ^ (i % 4 * 8) := by
  have h := getD_div S (i / 4) hu
  have h0 := val_nonneg hu
  have h1 := hu.at (i / 4)
  rw [pow256, pow32] at hv
  obtain ⟨n, hn⟩ := Int.eq_ofNat_of_zero_le h0
  obtain ⟨z, hz⟩ := Int.eq_ofNat_of_zero_le h1.1
  rw [hn, hz] at h
  rw [hz]
  rw [hn] at hv
  have hv2 : n < 2 ^ (32 * (i / 4)) * 2 ^ (i % 4 * 8) := by exact_mod_cast hv
  simp only [Int.toNat_natCast] at h
  have h2 : n / 2 ^ (32 * (i / 4)) < 2 ^ (i % 4 * 8) := by
    rw [Nat.div_lt_iff_lt_mul (Nat.two_pow_pos _), Nat.mul_comm]; exact hv2
  have h3 : z ≤ n / 2 ^ (32 * (i / 4)) := by rw [← h]; exact Nat.mod_le _ _
  exact_mod_cast Nat.lt_of_le_of_lt h3 h2

def fromS (bs : List Int) : List Int × Int := if 2048 < bs.length then ([], 3) else (lim (bv bs.reverse).toNat, 0)

set_option maxHeartbeats 2000000 in
theorem FromBytes_any (bs : List Int) (v : Value) (w : World) (hb : Sl .u8 w v bs) (ub : U8s bs) :
    Calls Tryz.prog 49 #[v] w fun e w' => Two w.heap.size w' e (fromS bs) ∧ Below w.heap.size w w' := by
  obtain ⟨a, c, rfl, hc, hbr⟩ := hb
  by_cases hlong : 2048 < bs.length
  · have HL : Hid (fromS bs = ([], 3)) := by unfold fromS; rw [if_pos hlong]; rfl
    go_enter Tryz.func49, Tryz.ntmps49
    go_wp2
    go_ret2
    exact ⟨Two.nil' HL.out, Below.refl _ _⟩
  have HL : Hid (fromS bs = (lim (bv bs.reverse).toNat, 0)) := by unfold fromS; rw [if_neg hlong]; rfl
  obtain ⟨n, hn⟩ : ∃ n, bs.length = n := ⟨_, rfl⟩
  have HN : Hid (bs.length = n) := hn
  rw [hn] at hlong hc ⊢
  go_enter Tryz.func49, Tryz.ntmps49
  go_wp2_with (at_make; refine wpList_mk _ rfl _ _ 24 rfl .u32 38 4 Tryz.und32 Tryz.info32 _ ((n + 3) / 4) rfl rfl (by omega) (by omega) (by omega) ?_; intro w1 hA1 hB1)
  go_loopw [16] (fun iv wr => ∃ (i : Nat) (S : List Int), iv = .int .i64 i ∧ i ≤ n ∧ Arr .u32 38 wr w.heap.size S ∧ U32s S ∧ S.length = (n + 3) / 4 ∧ Below w.heap.size w wr ∧ val S = bv (bs.reverse.take i))
      (fun iv _ => n - (intOf iv).toNat)
  case atStart => exact ⟨0, _, rfl, Nat.zero_le _, hA1, U32s.zeros _, by simp, hB1, by simp [val_zeros, bv]⟩
  case round =>
    clear hA1 hB1
    obtain ⟨i, S, rfl, hi, hA, huS, hlS, hB, hv⟩ := hrel
    by_cases hlt : i < n
    · rcases hbr with rfl | ⟨b, o, rfl, hb, hr⟩
      · simp at hn; omega
      obtain ⟨m, hm⟩ : ∃ m, n - 1 - i = m := ⟨_, rfl⟩
      obtain ⟨q, hq⟩ : ∃ q, i / 4 = q := ⟨_, rfl⟩
      obtain ⟨s, hs⟩ : ∃ s, i % 4 * 8 = s := ⟨_, rfl⟩
      obtain ⟨y, hy⟩ : ∃ y, bs.getD m 0 = y := ⟨_, rfl⟩
      obtain ⟨z, hz⟩ : ∃ z, S.getD q 0 = z := ⟨_, rfl⟩
      have uy : U8 y := hy ▸ ub.at m
      have uz : U32 z := hz ▸ huS.at q
      have hcy : wr.cell? ⟨b, o + m, none⟩ = some (.int .u8 y) := by rw [← hy]; exact (below_rd hB hb hr) m (by omega)
      have hcz : wr.cell? ⟨w.heap.size, q, none⟩ = some (.int .u32 z) := by rw [← hz]; exact hA.cell q (by omega)
      have hfz : wr.frozen? ⟨w.heap.size, q, none⟩ = false := hA.frozen q
      have hlow : z < 2 ^ s := by
        rw [← hz, ← hq, ← hs]
        refine limb_low huS ?_
        rw [hv]; have := (bv_bound (ub.rev.take i)).2
        rw [List.length_take, Nat.min_eq_left (by simp; omega)] at this; exact this
      have hs24 : s ≤ 24 := by omega
      obtain ⟨y0, y1⟩ := uy
      obtain ⟨z0, z1⟩ := uz
      have hor := or_low s z y hs24 z0 hlow y0 y1
      obtain ⟨f0, f1⟩ := shl_fits s y hs24 y0 y1
      have hqi : (i : Int) / 4 = q := by omega
      have hsi : (i : Int) % 4 * 8 = s := by omega
      have hmi : (n : Int) - 1 - i = m := by omega
      have hqs : q < (n + 3) / 4 := by omega
      have hmn : m < n := by omega
      have HH : Hid (bs.getD m 0 = y ∧ S.getD q 0 = z ∧ Arr .u32 38 wr w.heap.size S ∧ U32s S ∧ S.length = (n + 3) / 4 ∧ Below w.heap.size w wr ∧ val S = bv (bs.reverse.take i) ∧ n - 1 - i = m ∧ i / 4 = q ∧ i % 4 * 8 = s) := ⟨hy, hz, hA, huS, hlS, hB, hv, hm, hq, hs⟩
      clear hy hz hA huS hlS hB hv hm hq hs hr hn hlow
      go_wp2
      go_region
      go_wp2
      go_roundw
      case rel =>
        obtain ⟨hy, hz, hA, huS, hlS, hB, hv, hm, hq, hs⟩ := HH.out
        refine ⟨i + 1, S.set q (z + y * 2 ^ s), by go_num, by omega, ?_, huS.set _ ⟨by omega, ?_⟩, by simpa using hlS, ?_, ?_⟩
        · exact hA.set _ _
        · have h1 := limb_low (i := i) huS (by
            rw [hv]; have := (bv_bound (ub.rev.take i)).2
            rw [List.length_take, Nat.min_eq_left (by simp; have := HN.out; omega)] at this; exact this)
          rw [hq, hs, hz] at h1
          exact or_fits s z y hs24 h1 y1
        · exact (hB.trans ⟨rfl, rfl, rfl, Nat.le_refl _, fun _ _ => rfl⟩ : Below w.heap.size w wr.drew).setCell (Nat.le_refl _) _
        · have hrl : i < bs.reverse.length := by simp; have := HN.out; omega
          rw [val_set (by omega), hz, bv_take_succ _ _ hrl, hv, pow256, hq, hs]
          have e : bs.reverse.getD i 0 = y := by
            have hnn := HN.out
            rw [← hy, ← hm, List.getD_eq_getElem?_getD, List.getElem?_reverse (by omega), hnn, ← List.getD_eq_getElem?_getD]
          rw [e, show z + y * 2 ^ s - z = y * 2 ^ s by omega, Int.mul_assoc, Int.mul_comm (2 ^ s) y]
      case measure => simp [intOf]; omega
    · have hin : i = n := by omega
      have hsl := hA.sl
      rw [hlS] at hsl
      have hcut := cut_any S (some ⟨w.heap.size, 0, none⟩) ((n + 3) / 4) wr (by rw [hlS]; exact hsl) (by omega)
      rw [hlS] at hcut
      have HS : Hid (Arr .u32 38 wr w.heap.size S ∧ U32s S ∧ S.length = (n + 3) / 4 ∧ Below w.heap.size w wr ∧ val S = bv (bs.reverse.take i) ∧ i = n) := ⟨hA, huS, hlS, hB, hv, hin⟩
      clear hA huS hB hv hsl hlS hin
      go_wp2_with (go_at_call 77; refine hcut.mono ?_; rintro e w4 ⟨rfl, rfl⟩)
      go_ret2
      obtain ⟨hA, huS, hlS, hB, hv, rfl⟩ := HS.out
      have hO := Own.cut (B := w.heap.size) hA huS (Nat.le_refl _) (by omega)
      rw [hlS, hv, List.take_of_length_le (by simp; have := HN.out; omega)] at hO
      exact ⟨Two.mk' hO HL.out, hB⟩
end Go.Proofs.YtjmiaakfdclfjaaGreatDoor.Nt
/-
  The walk of Bytes.
-/
namespace Go.Proofs.YtjmiaakfdclfjaaGreatDoor.Nt
open Go.RowKit

/-- n bytes of a number, the highest first. -/
def beb (v : Int) (n : Nat) : List Int := (List.range n).map fun k => v / 256 ^ (n - 1 - k) % 256
theorem beb_len (v : Int) (n : Nat) : (beb v n).length = n := by simp [beb]
theorem beb_get (v : Int) (n k : Nat) (h : k < n) : (beb v n).getD k 0 = v / 256 ^ (n - 1 - k) % 256 := by simp [beb, h]
theorem getD_ext {xs ys : List Int} (hl : xs.length = ys.length) (h : ∀ k, k < xs.length → xs.getD k 0 = ys.getD k 0) : xs = ys := by
  apply List.ext_getElem hl
  intro k h1 h2
  have := h k h1
  simpa [h1, h2] using this
theorem beb_u8 (v : Int) (n : Nat) : U8s (beb v n) := by
  intro x hx
  simp only [beb, List.mem_map] at hx
  obtain ⟨k, _, rfl⟩ := hx
  exact ⟨by omega, by omega⟩
theorem byte_of {X : List Int} (hu : U32s X) (i : Nat) : X.getD (i / 4) 0 / 2 ^ (i % 4 * 8) % 256 = val X / 256 ^ i % 256 := by
  have h := getD_div X (i / 4) hu
  obtain ⟨n, hn⟩ := Int.eq_ofNat_of_zero_le (val_nonneg hu)
  obtain ⟨z, hz⟩ := Int.eq_ofNat_of_zero_le (hu.at (i / 4)).1
  rw [hn, hz] at h
  simp only [Int.toNat_natCast] at h
  rw [hn, hz, pow256, pow32, ← h]
  have e0 : ((2 : Int) ^ (i % 4 * 8)) = ((2 ^ (i % 4 * 8) : Nat) : Int) := by simp
  rw [e0]
  have key : n / 2 ^ (32 * (i / 4)) % 4294967296 / 2 ^ (i % 4 * 8) % 256 = n / (2 ^ (32 * (i / 4)) * 2 ^ (i % 4 * 8)) % 256 := by
    obtain ⟨s, hs⟩ : ∃ s, i % 4 * 8 = s := ⟨_, rfl⟩
    rw [hs]
    have hs24 : s ≤ 24 := by omega
    have e : (4294967296 : Nat) = 2 ^ s * 2 ^ (32 - s) := by rw [← Nat.pow_add, show s + (32 - s) = 32 by omega]
    rw [e, Nat.mod_mul_right_div_self, Nat.div_div_eq_div_mul]
    have e3 : 2 ^ (32 - s) = 256 * 2 ^ (24 - s) := by rw [show (256 : Nat) = 2 ^ 8 from rfl, ← Nat.pow_add]; congr 1; omega
    rw [e3, Nat.mod_mul_right_mod]
  have k2 := congrArg (fun t : Nat => (t : Int)) key
  simp only [Int.natCast_emod, Int.natCast_ediv, Int.natCast_mul] at k2 ⊢
  exact k2
theorem high_zero {X : List Int} (hu : U32s X) {j : Nat} (h : 4 * sig X ≤ j) : val X / 256 ^ j % 256 = 0 := by
  have h1 : val X < 256 ^ j := by
    have h2 := val_lt (hu.take (sig X))
    rw [val_take_sig, List.length_take, Nat.min_eq_left (sig_le X)] at h2
    have h3 : (4294967296 : Int) ^ sig X = 256 ^ (4 * sig X) := by rw [Int.pow_mul]; rfl
    obtain ⟨d, rfl⟩ := Nat.le.dest h
    rw [Int.pow_add, ← h3]
    have h4 : (0 : Int) < 256 ^ d := Int.pow_pos (by decide)
    calc val X < 4294967296 ^ sig X * 1 := by omega
      _ ≤ 4294967296 ^ sig X * 256 ^ d := Int.mul_le_mul_of_nonneg_left (by omega) (Int.le_of_lt (pow_pos32 _))
  rw [Int.ediv_eq_zero_of_lt (val_nonneg hu) h1]; rfl

def bytS (X : List Int) (n : Int) : List Int × Int := if 512 < X.length then ([], 3) else if n < 0 ∨ 2048 < n then ([], 1) else if 8 * n < bitLen (val X).toNat then ([], 3) else (beb (val X) n.toNat, 0)
/-- Bytes and an error, as two results. -/
def Own8 (B : Nat) (w : World) (v : Value) (bs : List Int) : Prop := (v = .slice none 0 0 ∧ bs = []) ∨ ∃ b, v = .slice (some ⟨b, 0, none⟩) bs.length bs.length ∧ B ≤ b ∧ Arr .u8 5 w b bs
def Two8 (B : Nat) (w : World) (e : Ending) (s : List Int × Int) : Prop := ∃ r, e = .returned (.tuple #[r, .int .i64 s.2]) ∧ Own8 B w r s.1 ∧ (s.2 = 0 → r ≠ .slice none 0 0)
theorem Two8.nil' {B : Nat} {w : World} {n : Int} {s : List Int × Int} (hs : s = ([], n)) (hn : n ≠ 0) : Two8 B w (.returned (.tuple #[.slice none 0 0, .int .i64 n])) s := by
  subst hs; exact ⟨_, rfl, .inl ⟨rfl, rfl⟩, fun h => absurd h hn⟩
theorem Two8.mk' {B : Nat} {w : World} {r : Value} {n : Int} {bs : List Int} {s : List Int × Int} (h : Own8 B w r bs) (hs : s = (bs, n)) (hr : r ≠ .slice none 0 0) : Two8 B w (.returned (.tuple #[r, .int .i64 n])) s := by
  subst hs; exact ⟨r, rfl, h, fun _ => hr⟩
theorem Own8.sl {B : Nat} {w : World} {v : Value} {bs : List Int} (h : Own8 B w v bs) : Sl .u8 w v bs := by
  rcases h with ⟨rfl, rfl⟩ | ⟨b, rfl, _, hA⟩
  · exact ⟨none, 0, rfl, Nat.le_refl _, .inl rfl⟩
  · exact ⟨_, _, rfl, Nat.le_refl _, .inr ⟨b, 0, rfl, hA.lt, by have := hA.rd 0 bs.length (by omega); rw [List.drop_zero, List.take_length] at this; exact this⟩⟩

set_option maxHeartbeats 2000000 in
theorem Bytes_any (X : List Int) (n : Int) (v : Value) (w : World) (hX : Sl .u32 w v X) (uX : U32s X) (hn0 : -9223372036854775808 ≤ n) (hn1 : n ≤ 9223372036854775807) :
    Calls Tryz.prog 52 #[v, .int .i64 n] w fun e w' => Two8 w.heap.size w' e (bytS X n) ∧ Below w.heap.size w w' := by
  obtain ⟨a, c, rfl, hc, hXr⟩ := id hX
  by_cases h1 : 512 < X.length
  · have HL : Hid (bytS X n = ([], 3)) := by unfold bytS; rw [if_pos h1]; rfl
    go_enter Tryz.func52, Tryz.ntmps52
    go_wp2
    go_ret2
    exact ⟨Two8.nil' HL.out (by decide), Below.refl _ _⟩
  by_cases h2 : n < 0
  · have HL : Hid (bytS X n = ([], 1)) := by unfold bytS; rw [if_neg h1, if_pos (.inl h2)]; rfl
    go_enter Tryz.func52, Tryz.ntmps52
    go_wp2
    go_ret2
    exact ⟨Two8.nil' HL.out (by decide), Below.refl _ _⟩
  by_cases h3 : 2048 < n
  · have HL : Hid (bytS X n = ([], 1)) := by unfold bytS; rw [if_neg h1, if_pos (.inr h3)]; rfl
    go_enter Tryz.func52, Tryz.ntmps52
    go_wp2
    go_ret2
    exact ⟨Two8.nil' HL.out (by decide), Below.refl _ _⟩
  obtain ⟨N, rfl⟩ := Int.eq_ofNat_of_zero_le (show 0 ≤ n by omega)
  have hbits := Bits_any X _ w hX uX (by omega)
  obtain ⟨bl, hbl⟩ : ∃ bl, bitLen (val X).toNat = bl := ⟨_, rfl⟩
  rw [hbl] at hbits
  by_cases h4 : 8 * N < bl
  · have HL : Hid (bytS X N = ([], 3)) := by unfold bytS; rw [if_neg h1, if_neg (by omega), hbl, if_pos (by omega)]; rfl
    clear hbl
    go_enter Tryz.func52, Tryz.ntmps52
    go_wp2_with (go_at_call 25; refine hbits.mono ?_; rintro e w' ⟨rfl, hB⟩)
    go_ret2
    exact ⟨Two8.nil' HL.out (by decide), hB⟩
  have HL : Hid (bytS X N = (beb (val X) N, 0)) := by unfold bytS; rw [if_neg h1, if_neg (by omega), hbl, if_neg (by omega)]; rfl
  have hsX := sig_le X
  have hlen := fun (w' : World) (hB : Below w.heap.size w w') => length_len (w := w') _ _ ⟨X, below_sl hB hX, by omega, rfl⟩
  obtain ⟨sg, hsg⟩ : ∃ sg, sig X = sg := ⟨_, rfl⟩
  rw [hsg] at hsX hlen
  obtain ⟨mn, hmn, hmn2⟩ : ∃ mn : Nat, mn ≤ N ∧ mn ≤ 4 * sg := ⟨min N (4 * sg), by omega, by omega⟩
  have HB : Hid (bitLen (val X).toNat = bl ∧ sig X = sg) := ⟨hbl, hsg⟩
  clear hbl hsg mn hmn hmn2
  by_cases hle : N ≤ 4 * sg
  · have hle' : (N : Int) ≤ 4 * (sg : Int) := by omega
    go_enter Tryz.func52, Tryz.ntmps52
    go_wp2_with (first
      | (go_at_call 25; refine hbits.mono ?_; rintro e w' ⟨rfl, hB⟩)
      | (at_make; refine wpList_mk _ rfl _ _ 22 rfl .u8 5 1 Tryz.und8 Tryz.info8 _ N rfl rfl (by omega) (by omega) (by omega) ?_; intro w1 hA1 hB1; have hBt := hB.trans (hB1.mono hB.size))
      | (go_at_call 53; refine (hlen _ hBt).mono ?_; rintro e w1 ⟨rfl, rfl⟩))
    have hblk : w.heap.size ≤ w'.heap.size := hB.size
    go_loopw [30] (fun iv wr => ∃ (i : Nat) (S : List Int), iv = .int .i64 i ∧ i ≤ N ∧ Arr .u8 5 wr w'.heap.size S ∧ S.length = N ∧ Below w.heap.size w wr ∧ ∀ k, k < N → S.getD k 0 = if N - 1 - k < i then val X / 256 ^ (N - 1 - k) % 256 else 0)
      (fun iv _ => N - (intOf iv).toNat)
    case atStart => exact ⟨0, _, rfl, Nat.zero_le _, hA1, by simp, hBt, fun k hk => by simp [hk]⟩
    case round =>
      clear hA1 hB1 hBt hlen hbits
      obtain ⟨i, S, rfl, hi, hA, hlS, hBt, hv⟩ := hrel
      by_cases hlt : i < N
      · rcases hXr with rfl | ⟨b, o, rfl, hb, hr⟩
        · simp at hsX; omega
        obtain ⟨m, hm⟩ : ∃ m, N - 1 - i = m := ⟨_, rfl⟩
        obtain ⟨q, hq⟩ : ∃ q, i / 4 = q := ⟨_, rfl⟩
        obtain ⟨s, hs⟩ : ∃ s, i % 4 * 8 = s := ⟨_, rfl⟩
        obtain ⟨z, hz⟩ : ∃ z, X.getD q 0 = z := ⟨_, rfl⟩
        have uz : U32 z := hz ▸ uX.at q
        have hcz : wr.cell? ⟨b, o + q, none⟩ = some (.int .u32 z) := by rw [← hz]; exact (below_rd hBt hb hr) q (by omega)
        obtain ⟨y, hcy⟩ : ∃ y, wr.cell? ⟨w'.heap.size, m, none⟩ = some (.int .u8 y) := ⟨_, hA.cell m (by omega)⟩
        have hfz : wr.frozen? ⟨w'.heap.size, m, none⟩ = false := hA.frozen m
        obtain ⟨z0, z1⟩ := uz
        have hs24 : s ≤ 24 := by omega
        have hp0 : (0 : Int) < 2 ^ s := Int.pow_pos (by decide)
        have hd0 : 0 ≤ z / 2 ^ s := Int.ediv_nonneg z0 (Int.le_of_lt hp0)
        have hd1 : z / 2 ^ s < 4294967296 := Int.lt_of_le_of_lt (Int.ediv_le_self _ z0) z1
        have hqi : (i : Int) / 4 = q := by omega
        have hsi : (i : Int) % 4 * 8 = s := by omega
        have hmi : (N : Int) - 1 - i = m := by omega
        have hqs : q < X.length := by omega
        have hmn : m < N := by omega
        have HH : Hid (X.getD q 0 = z ∧ Arr .u8 5 wr w'.heap.size S ∧ S.length = N ∧ Below w.heap.size w wr ∧ (∀ k, k < N → S.getD k 0 = if N - 1 - k < i then val X / 256 ^ (N - 1 - k) % 256 else 0) ∧ N - 1 - i = m ∧ i / 4 = q ∧ i % 4 * 8 = s) := ⟨hz, hA, hlS, hBt, hv, hm, hq, hs⟩
        clear hz hA hlS hBt hv hm hq hs hr
        go_wp2
        go_roundw
        case rel =>
          obtain ⟨hz, hA, hlS, hBt, hv, hm, hq, hs⟩ := HH.out
          refine ⟨i + 1, S.set m (z / 2 ^ s % 256), by go_num, by omega, hA.set _ _, by simpa using hlS, hBt.setCell hblk _, fun k hk => ?_⟩
          by_cases hkm : k = m
          · subst hkm
            rw [if_pos (by omega), List.getD_eq_getElem?_getD, List.getElem?_set_self (by omega)]
            have e : N - 1 - k = i := by omega
            rw [e, ← byte_of uX, hq, hs, hz]; rfl
          · rw [List.getD_eq_getElem?_getD, List.getElem?_set_ne (Ne.symm hkm), ← List.getD_eq_getElem?_getD, hv k hk]
            have e : (N - 1 - k < i) = (N - 1 - k < i + 1) := by apply propext; omega
            simp only [e]
        case measure => simp [intOf]; omega
      · have HH : Hid (Arr .u8 5 wr w'.heap.size S ∧ S.length = N ∧ Below w.heap.size w wr ∧ (∀ k, k < N → S.getD k 0 = if N - 1 - k < i then val X / 256 ^ (N - 1 - k) % 256 else 0) ∧ i = N) := ⟨hA, hlS, hBt, hv, by omega⟩
        clear hA hlS hBt hv
        go_wp2
        go_ret2
        obtain ⟨hA, hlS, hBt, hv, hiT⟩ := HH.out
        refine ⟨Two8.mk' (bs := beb (val X) N) (.inr ⟨_, ?_, hblk, ?_⟩) HL.out (by simp), hBt⟩
        · rw [beb_len]; rfl
        · have : beb (val X) N = S := by
            refine getD_ext (by rw [beb_len, hlS]) fun k hk => ?_
            rw [beb_len] at hk
            rw [beb_get _ _ _ hk, hv k hk]
            rw [if_pos (by omega)]
          rw [this]; exact hA
  · have hle' : 4 * (sg : Int) < (N : Int) := by omega
    go_enter Tryz.func52, Tryz.ntmps52
    go_wp2_with (first
      | (go_at_call 25; refine hbits.mono ?_; rintro e w' ⟨rfl, hB⟩)
      | (at_make; refine wpList_mk _ rfl _ _ 22 rfl .u8 5 1 Tryz.und8 Tryz.info8 _ N rfl rfl (by omega) (by omega) (by omega) ?_; intro w1 hA1 hB1; have hBt := hB.trans (hB1.mono hB.size))
      | (go_at_call 53; refine (hlen _ hBt).mono ?_; rintro e w1 ⟨rfl, rfl⟩))
    have hblk : w.heap.size ≤ w'.heap.size := hB.size
    go_loopw [30] (fun iv wr => ∃ (i : Nat) (S : List Int), iv = .int .i64 i ∧ i ≤ (4 * sg) ∧ Arr .u8 5 wr w'.heap.size S ∧ S.length = N ∧ Below w.heap.size w wr ∧ ∀ k, k < N → S.getD k 0 = if N - 1 - k < i then val X / 256 ^ (N - 1 - k) % 256 else 0)
      (fun iv _ => (4 * sg) - (intOf iv).toNat)
    case atStart => exact ⟨0, _, rfl, Nat.zero_le _, hA1, by simp, hBt, fun k hk => by simp [hk]⟩
    case round =>
      clear hA1 hB1 hBt hlen hbits
      obtain ⟨i, S, rfl, hi, hA, hlS, hBt, hv⟩ := hrel
      by_cases hlt : i < (4 * sg)
      · rcases hXr with rfl | ⟨b, o, rfl, hb, hr⟩
        · simp at hsX; omega
        obtain ⟨m, hm⟩ : ∃ m, N - 1 - i = m := ⟨_, rfl⟩
        obtain ⟨q, hq⟩ : ∃ q, i / 4 = q := ⟨_, rfl⟩
        obtain ⟨s, hs⟩ : ∃ s, i % 4 * 8 = s := ⟨_, rfl⟩
        obtain ⟨z, hz⟩ : ∃ z, X.getD q 0 = z := ⟨_, rfl⟩
        have uz : U32 z := hz ▸ uX.at q
        have hcz : wr.cell? ⟨b, o + q, none⟩ = some (.int .u32 z) := by rw [← hz]; exact (below_rd hBt hb hr) q (by omega)
        obtain ⟨y, hcy⟩ : ∃ y, wr.cell? ⟨w'.heap.size, m, none⟩ = some (.int .u8 y) := ⟨_, hA.cell m (by omega)⟩
        have hfz : wr.frozen? ⟨w'.heap.size, m, none⟩ = false := hA.frozen m
        obtain ⟨z0, z1⟩ := uz
        have hs24 : s ≤ 24 := by omega
        have hp0 : (0 : Int) < 2 ^ s := Int.pow_pos (by decide)
        have hd0 : 0 ≤ z / 2 ^ s := Int.ediv_nonneg z0 (Int.le_of_lt hp0)
        have hd1 : z / 2 ^ s < 4294967296 := Int.lt_of_le_of_lt (Int.ediv_le_self _ z0) z1
        have hqi : (i : Int) / 4 = q := by omega
        have hsi : (i : Int) % 4 * 8 = s := by omega
        have hmi : (N : Int) - 1 - i = m := by omega
        have hqs : q < X.length := by omega
        have hmn : m < N := by omega
        have HH : Hid (X.getD q 0 = z ∧ Arr .u8 5 wr w'.heap.size S ∧ S.length = N ∧ Below w.heap.size w wr ∧ (∀ k, k < N → S.getD k 0 = if N - 1 - k < i then val X / 256 ^ (N - 1 - k) % 256 else 0) ∧ N - 1 - i = m ∧ i / 4 = q ∧ i % 4 * 8 = s) := ⟨hz, hA, hlS, hBt, hv, hm, hq, hs⟩
        clear hz hA hlS hBt hv hm hq hs hr
        go_wp2
        go_roundw
        case rel =>
          obtain ⟨hz, hA, hlS, hBt, hv, hm, hq, hs⟩ := HH.out
          refine ⟨i + 1, S.set m (z / 2 ^ s % 256), by go_num, by omega, hA.set _ _, by simpa using hlS, hBt.setCell hblk _, fun k hk => ?_⟩
          by_cases hkm : k = m
          · subst hkm
            rw [if_pos (by omega), List.getD_eq_getElem?_getD, List.getElem?_set_self (by omega)]
            have e : N - 1 - k = i := by omega
            rw [e, ← byte_of uX, hq, hs, hz]; rfl
          · rw [List.getD_eq_getElem?_getD, List.getElem?_set_ne (Ne.symm hkm), ← List.getD_eq_getElem?_getD, hv k hk]
            have e : (N - 1 - k < i) = (N - 1 - k < i + 1) := by apply propext; omega
            simp only [e]
        case measure => simp [intOf]; omega
      · have HH : Hid (Arr .u8 5 wr w'.heap.size S ∧ S.length = N ∧ Below w.heap.size w wr ∧ (∀ k, k < N → S.getD k 0 = if N - 1 - k < i then val X / 256 ^ (N - 1 - k) % 256 else 0) ∧ i = (4 * sg)) := ⟨hA, hlS, hBt, hv, by omega⟩
        clear hA hlS hBt hv
        go_wp2
        go_ret2
        obtain ⟨hA, hlS, hBt, hv, hiT⟩ := HH.out
        refine ⟨Two8.mk' (bs := beb (val X) N) (.inr ⟨_, ?_, hblk, ?_⟩) HL.out (by simp), hBt⟩
        · rw [beb_len]; rfl
        · have : beb (val X) N = S := by
            refine getD_ext (by rw [beb_len, hlS]) fun k hk => ?_
            rw [beb_len] at hk
            rw [beb_get _ _ _ hk, hv k hk]
            split
            · rfl
            · exact high_zero uX (by have := HB.out.2; omega)
          rw [this]; exact hA
end Go.Proofs.YtjmiaakfdclfjaaGreatDoor.Nt
/-
  The walks of ExpMod, euclid, Inverse.
-/
namespace Go.Proofs.YtjmiaakfdclfjaaGreatDoor.Nt
open Go.RowKit

/-- What stands between two rounds of Euclid's: rests r, x; factors f, g; s: the sign of f. -/
structure Euc (A M r x f g s : Int) : Prop where
  x0 : 0 ≤ x
  xr : x < r
  rM : r ≤ M
  f0 : 0 ≤ f
  fg : f ≤ g
  tot : r * g + x * f = M
  c1 : ∃ k, r = s * f * A + M * k
  c2 : ∃ k, x = -(s * g * A) + M * k
  dv : ∀ d : Int, (d ∣ r ∧ d ∣ x) ↔ (d ∣ A ∧ d ∣ M)
  one : M = 1 → f = 0
theorem Euc.start (A : Int) {M : Int} (hM : 0 < M) : Euc A M M (A % M) 0 1 (-1) where
  x0 := Int.emod_nonneg _ (by omega)
  xr := Int.emod_lt_of_pos _ hM
  rM := Int.le_refl _
  f0 := Int.le_refl _
  fg := by decide
  tot := by simp
  c1 := ⟨1, by simp⟩
  c2 := ⟨-(A / M), by have := Int.mul_ediv_add_emod A M; have e : M * -(A / M) = -(M * (A / M)) := Int.mul_neg _ _; rw [e]; omega⟩
  dv := fun d => by
    have h := Int.mul_ediv_add_emod A M
    constructor
    · rintro ⟨h1, h2⟩
      exact ⟨by rw [← h]; exact Int.dvd_add (Int.dvd_trans h1 (Int.dvd_mul_right _ _)) h2, h1⟩
    · rintro ⟨h1, h2⟩
      refine ⟨h2, ?_⟩
      have e : A % M = A - M * (A / M) := by omega
      rw [e]; exact Int.dvd_sub h1 (Int.dvd_trans h2 (Int.dvd_mul_right _ _))
  one := fun _ => rfl
theorem Euc.step {A M r x f g s : Int} (h : Euc A M r x f g s) (hx : 0 < x) : Euc A M x (r % x) g (f + r / x * g) (-s) := by
  have hq := Int.mul_ediv_add_emod r x
  obtain ⟨q, hqe⟩ : ∃ q, r / x = q := ⟨_, rfl⟩
  obtain ⟨y, hye⟩ : ∃ y, r % x = y := ⟨_, rfl⟩
  have hy0 : 0 ≤ y := by rw [← hye]; exact Int.emod_nonneg _ (by omega)
  have hy1 : y < x := by rw [← hye]; exact Int.emod_lt_of_pos _ hx
  have hq1 : 1 ≤ q := by rw [← hqe]; exact Int.le_ediv_of_mul_le hx (by have := h.xr; omega)
  rw [hqe, hye] at hq
  rw [hqe, hye]
  have g0 : 0 ≤ g := Int.le_trans h.f0 h.fg
  have hfg := h.fg; have hf0 := h.f0
  have hgq : g ≤ q * g := by
    calc g = 1 * g := (Int.one_mul g).symm
      _ ≤ q * g := Int.mul_le_mul_of_nonneg_right hq1 g0
  refine ⟨hy0, hy1, by have := h.xr; have := h.rM; omega, g0, by omega, ?_, ?_, ?_, fun d => ?_, fun h1 => ?_⟩
  · have := h.tot
    grind
  · obtain ⟨k, hk⟩ := h.c2
    exact ⟨k, by rw [hk]; grind⟩
  · obtain ⟨k, hk⟩ := h.c1
    obtain ⟨j, hj⟩ := h.c2
    refine ⟨k - q * j, ?_⟩
    have : y = r - x * q := by omega
    rw [this, hk, hj]; grind
  · rw [← h.dv d]
    constructor
    · rintro ⟨h1, h2⟩
      exact ⟨by rw [← hq]; exact Int.dvd_add (Int.dvd_trans h1 (Int.dvd_mul_right _ _)) h2, h1⟩
    · rintro ⟨h1, h2⟩
      refine ⟨h2, ?_⟩
      have e : y = r - x * q := by omega
      rw [e]; exact Int.dvd_sub h1 (Int.dvd_trans h2 (Int.dvd_mul_right _ _))
  · have := h.xr; have := h.rM; omega
theorem Euc.gM {A M r x f g s : Int} (h : Euc A M r x f g s) : g ≤ M := by
  have h1 := h.tot; have h2 := h.x0; have h3 := h.xr; have h4 := h.f0; have h5 := h.fg
  have h6 : 0 ≤ x * f := Int.mul_nonneg h2 h4
  have h7 : 1 * g ≤ r * g := Int.mul_le_mul_of_nonneg_right (by omega) (by omega)
  omega
/-- What Euclid's rounds end with. -/
def Bez (A M D G : Int) : Prop := 0 < D ∧ 0 ≤ G ∧ G ≤ M ∧ (∀ d : Int, d ∣ D ↔ (d ∣ A ∧ d ∣ M)) ∧ (∃ t, A * G = D + M * t) ∧ (M = 1 → G = 0)
theorem Euc.last {A M r f g s : Int} (h : Euc A M r 0 f g s) (hs : s = 1) : Bez A M r f := by
  subst hs
  have := h.xr; have := h.gM; have h5 := h.fg
  refine ⟨by omega, h.f0, by omega, fun d => ?_, ?_, h.one⟩
  · rw [← h.dv d]; exact ⟨fun h => ⟨h, Int.dvd_zero d⟩, fun h => h.1⟩
  · obtain ⟨k, hk⟩ := h.c1; exact ⟨-k, by rw [hk]; grind⟩
end Go.Proofs.YtjmiaakfdclfjaaGreatDoor.Nt
/-
  The walks of ExpMod and Inverse.
-/
namespace Go.Proofs.YtjmiaakfdclfjaaGreatDoor.Nt
open Go.RowKit

abbrev expLong (X E M : List Int) : Prop := 512 < X.length ∨ 256 < E.length ∨ 256 < M.length
def expS (X E M : List Int) : List Int × Int := if expLong X E M then ([], 3) else if val M = 0 then ([], 11) else (lim (val X ^ (val E).toNat % val M).toNat, 0)

set_option maxHeartbeats 1000000 in
theorem powerFault_any (X E M : List Int) (v u t : Value) (w : World) (hX : Sl .u32 w v X) (hE : Sl .u32 w u E) (hM : Sl .u32 w t M) (uM : U32s M) (c : Int) (hc : c = if expLong X E M then 3 else if val M = 0 then 11 else 0) :
    Calls Tryz.prog 78 #[v, u, t] w fun e w' => e = .returned (.int .i64 c) ∧ w = w' := by
  obtain ⟨a1, c1, rfl, _⟩ := hX.len
  obtain ⟨a2, c2, rfl, _⟩ := hE.len
  obtain ⟨a3, c3, rfl, _⟩ := id hM.len
  by_cases h1 : 512 < X.length
  · have HC : Hid (c = 3) := by rw [hc, if_pos (.inl h1)]; rfl
    clear hc
    go_enter Tryz.func78, Tryz.ntmps78
    go_wp2
    go_ret
    exact ⟨ret_int HC.out.symm, rfl⟩
  by_cases h2 : 256 < E.length
  · have HC : Hid (c = 3) := by rw [hc, if_pos (.inr (.inl h2))]; rfl
    clear hc
    go_enter Tryz.func78, Tryz.ntmps78
    go_wp2
    go_ret
    exact ⟨ret_int HC.out.symm, rfl⟩
  by_cases h3 : 256 < M.length
  · have HC : Hid (c = 3) := by rw [hc, if_pos (.inr (.inr h3))]; rfl
    clear hc
    go_enter Tryz.func78, Tryz.ntmps78
    go_wp2
    go_ret
    exact ⟨ret_int HC.out.symm, rfl⟩
  have hnl : ¬ expLong X E M := by unfold expLong; omega
  have hlen : Len w (.slice a3 M.length c3) (sig M) := ⟨M, hM, by omega, rfl⟩
  by_cases h4 : sig M = 0
  · have HC : Hid (c = 11) := by rw [hc, if_neg hnl, if_pos (val_of_sig0 h4)]; rfl
    rw [h4] at hlen
    clear hc hnl h4
    go_enter Tryz.func78, Tryz.ntmps78
    go_wp2_with (go_at_call 53; refine (length_len _ _ hlen).mono ?_; rintro e w' ⟨rfl, rfl⟩)
    go_ret
    exact ⟨ret_int HC.out.symm, rfl⟩
  · have HC : Hid (c = 0) := by rw [hc, if_neg hnl, if_neg (fun h => h4 (sig0_of_val uM h))]; rfl
    obtain ⟨m, hm⟩ : ∃ m, sig M = m + 1 := ⟨sig M - 1, by omega⟩
    rw [hm] at hlen
    clear hc hnl h4 hm
    go_enter Tryz.func78, Tryz.ntmps78
    go_wp2_with (go_at_call 53; refine (length_len _ _ hlen).mono ?_; rintro e w' ⟨rfl, rfl⟩)
    go_ret
    exact ⟨ret_int HC.out.symm, rfl⟩

set_option maxHeartbeats 1000000 in
theorem ExpMod_any (X E M : List Int) (v u t : Value) (w : World) (hX : Sl .u32 w v X) (hE : Sl .u32 w u E) (hM : Sl .u32 w t M) (uX : U32s X) (uE : U32s E) (uM : U32s M) (H : val M < 4294967296 ∨ LongOK) :
    Calls Tryz.prog 51 #[v, u, t] w fun e w' => Two w.heap.size w' e (expS X E M) ∧ Below w.heap.size w w' := by
  by_cases h1 : expLong X E M
  · have hpf := powerFault_any X E M v u t w hX hE hM uM 3 (by rw [if_pos h1])
    have HC : Hid (expS X E M = ([], 3)) := by unfold expS; rw [if_pos h1]; rfl
    clear h1
    go_enter Tryz.func51, Tryz.ntmps51
    go_wp2_with (go_at_call 78; refine hpf.mono ?_; rintro e w' ⟨rfl, rfl⟩)
    go_ret2
    exact ⟨Two.nil' HC.out, Below.refl _ _⟩
  by_cases h2 : val M = 0
  · have hpf := powerFault_any X E M v u t w hX hE hM uM 11 (by rw [if_neg h1, if_pos h2])
    have HC : Hid (expS X E M = ([], 11)) := by unfold expS; rw [if_neg h1, if_pos h2]; rfl
    clear h1 h2
    go_enter Tryz.func51, Tryz.ntmps51
    go_wp2_with (go_at_call 78; refine hpf.mono ?_; rintro e w' ⟨rfl, rfl⟩)
    go_ret2
    exact ⟨Two.nil' HC.out, Below.refl _ _⟩
  have hpf := powerFault_any X E M v u t w hX hE hM uM 0 (by rw [if_neg h1, if_neg h2])
  have HC : Hid (expS X E M = (lim (val X ^ (val E).toNat % val M).toNat, 0)) := by unfold expS; rw [if_neg h1, if_neg h2]; rfl
  have hl : ¬ (512 < X.length ∨ 256 < E.length ∨ 256 < M.length) := h1
  have h0 : 0 < val M := by have := val_nonneg uM; omega
  have lX : X.length ≤ 1152921504606846976 := by omega
  have lE : E.length ≤ 1152921504606846976 := by omega
  have lM : M.length ≤ 1152921504606846976 := by omega
  have lX2 : X.length ≤ 1024 := by omega
  have lM2 : M.length ≤ 1024 := by omega
  have lE2 : (trim E).length ≤ 1024 := by rw [trim_len]; have := sig_le E; omega
  have HL : Hid (val M < 4294967296 ∨ LongOK) := H
  clear h1 h2 hl H
  go_enter Tryz.func51, Tryz.ntmps51
  go_wp2_with (first
    | (go_at_call 78; refine hpf.mono ?_; rintro e w' ⟨rfl, rfl⟩)
    | (go_at_call 77; replace hrE := hrE; refine (cut_sl _ _ hM lM).mono ?_; rintro e w' ⟨r, rfl, hrM, rfl⟩)
    | (go_at_call 77; replace hrX := hrX; refine (cut_sl _ _ hE lE).mono ?_; rintro e w' ⟨r, rfl, hrE, rfl⟩)
    | (go_at_call 77; refine (cut_sl _ _ hX lX).mono ?_; rintro e w' ⟨r, rfl, hrX, rfl⟩)
    | (go_at_call 79; refine (power_any _ _ _ _ _ (trim E) X.length _ (Num.of_trim hrX uX) lX2 hrE (trim_u32 uE) lE2 ((Num.of_trim hrM uM).mono lM2) h0 HL.out).mono ?_; rintro e w' ⟨r, rfl, hO, hB⟩))
  go_ret2
  rw [trim_val] at hO
  exact ⟨Two.mk' hO HC.out, hB⟩

theorem Bez.one {A M G : Int} (h : Bez A M 1 G) (_hM : 0 < M) : 0 ≤ G ∧ G < M ∧ ∃ t, A * G = 1 + M * t := by
  obtain ⟨_, h1, h2, _, ⟨t, ht⟩, h3⟩ := h
  by_cases hG : G = M
  · subst hG
    have hd : G ∣ 1 := by
      have e : (1 : Int) = G * (A - t) := by rw [Int.mul_sub]; have := Int.mul_comm A G; omega
      rw [e]; exact Int.dvd_mul_right _ _
    have := Int.le_of_dvd (by decide) hd
    have h1 : G = 1 := by omega
    have h4 := h3 h1
    omega
  · exact ⟨h1, by omega, t, ht⟩

end Go.Proofs.YtjmiaakfdclfjaaGreatDoor.Nt
/-
  The walks of Same, SameBytes, num; literals in memory.
-/
namespace Go.Proofs.YtjmiaakfdclfjaaGreatDoor.Nt
open Go.RowKit

theorem arr_new {k : IntKind} {e : TypeId} {w : World} {b : Nat} {cs : Array Value} {xs : List Int} (hb : b = w.heap.size) (h : cs = (xs.map (Value.int k)).toArray) : Arr k e (w.alloc (.cells cs e)) b xs := by
  subst hb; subst h; unfold Arr; rw [heap_alloc_new]
theorem al1 {k : IntKind} {w : World} {v : Value} {xs : List Int} {o : Obj} (h : Sl k w v xs) : Sl k (w.alloc o) v xs := below_sl ((Below.refl _ _).alloc (Nat.le_refl _) o) h
theorem grow0 {a w w' : World} (h : Below a.heap.size a w) (hB : Below w.heap.size w w') : Below a.heap.size a w' := h.trans (hB.mono h.size)
theorem al {a w : World} {o : Obj} (h : Below a.heap.size a w) : Below a.heap.size a (w.alloc o) := h.alloc h.size o
theorem _root_.Go.Proofs.YtjmiaakfdclfjaaGreatDoor.Arr.sl8 {w : World} {b : Nat} {S : List Int} (h : Arr .u8 5 w b S) : Sl .u8 w (.slice (some ⟨b, 0, none⟩) S.length S.length) S :=
  ⟨_, _, rfl, Nat.le_refl _, .inr ⟨b, 0, rfl, h.lt, by have := h.rd 0 S.length (by omega); rw [List.drop_zero, List.take_length] at this; exact this⟩⟩
theorem u1 {x : Int} (h : 0 ≤ x) (h' : x < 4294967296) : U32s [x] := U32s.cons ⟨h, h'⟩ U32s.nil
theorem u2 {x y : Int} (h : 0 ≤ x) (h' : x < 4294967296) (k : 0 ≤ y) (k' : y < 4294967296) : U32s [x, y] := U32s.cons ⟨h, h'⟩ (u1 k k')
theorem u3 {x y z : Int} (h : 0 ≤ x) (h' : x < 4294967296) (k : 0 ≤ y) (k' : y < 4294967296) (j : 0 ≤ z) (j' : z < 4294967296) : U32s [x, y, z] := U32s.cons ⟨h, h'⟩ (u2 k k' j j')

/-! ### the page's examples, one by one -/
end Go.Proofs.YtjmiaakfdclfjaaGreatDoor.Nt
