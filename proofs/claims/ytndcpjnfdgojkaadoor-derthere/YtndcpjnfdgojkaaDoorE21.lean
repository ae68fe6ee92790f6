/-
  Der: any number in bytes of seven bits.
-/
import Derived.Test.YtndcpjnfdgojkaaDoorE13
namespace Go.Proofs.YtndcpjnfdgojkaaDoor
open Go.RowKit
/-- A group of seven bits that another follows. -/
def gr (n j : Nat) : Int := ((n / 128 ^ j % 128 + 128 : Nat) : Int)
/-- The first i of the groups k, k - 1, .. -/
def tp (n k : Nat) : Nat → List Int
  | 0 => []
  | i + 1 => tp n k i ++ [gr n (k - i)]
def sev (k n : Nat) : List Int := tp n k k ++ [((n % 128 : Nat) : Int)]
theorem tp_len (n k : Nat) : ∀ i, (tp n k i).length = i
  | 0 => rfl
  | i + 1 => by show (tp n k i ++ [_]).length = _; rw [List.length_append, tp_len n k i]; rfl
theorem or_128 (x : Int) (h : U8 x) : bits .or .u8 x 128 = x % 128 + 128 := by
  obtain ⟨h0, h1⟩ := h
  obtain ⟨k, rfl⟩ := Int.eq_ofNat_of_zero_le h0
  have : ∀ y : Fin 256, bits .or .u8 ((y : Nat) : Int) 128 = ((y : Nat) : Int) % 128 + 128 := by decide +kernel
  exact this ⟨k, by omega⟩
theorem and_127w (z : Int) (h0 : 0 ≤ z) (h1 : z < 18446744073709551616) : bits .and .u64 z 127 = z % 128 := by go_bits2
theorem wrapU8 (z : Int) (h0 : 0 ≤ z) (h1 : z < 256) : IntKind.u8.wrap z = z := by rw [IntKind.wrap_u8]; omega
theorem div_sev (n j s : Nat) (hs : s = 7 * j) : (n : Int) / 2 ^ s = ((n / 128 ^ j : Nat) : Int) := by
  subst hs
  rw [Int.pow_mul]
  simp
theorem Row.drew {k : IntKind} {e : TypeId} {B : Nat} {w : World} {v : Value} {xs : List Int} (h : Row k e B w v xs) : Row k e B w.drew v xs :=
  h.below ⟨rfl, rfl, rfl, Nat.le_refl _, fun _ _ => rfl⟩
set_option maxRecDepth 20000 in
set_option maxHeartbeats 2000000 in
theorem sevens_any {w : World} (B : Nat) (v : Value) (X : List Int) (n k : Nat) (hr : Row .u8 5 B w v X) (hB : B ≤ w.heap.size) (hk : n / 128 ^ k < 128) (hk1 : ∀ j, j < k → 128 ≤ n / 128 ^ j) (hk8 : k ≤ 8) (hn : n < 9223372036854775808) (hX : X.length ≤ 100000000) :
    Calls Tryd.prog 49 #[v, .int .u64 n] w fun e w' => ∃ r, e = .returned r ∧ Row .u8 5 B w' r (X ++ sev k n) ∧ Below B w w' := by
  have HR : Hid (Row .u8 5 B w v X) := hr
  have HK : Hid (n / 128 ^ k < 128 ∧ ∀ j, j < k → 128 ≤ n / 128 ^ j) := ⟨hk, hk1⟩
  clear hr hk hk1
  have n0 : (0 : Int) ≤ (n : Int) := by omega
  have a127 := and_127w (n : Int) n0 (by omega)
  have w127 : IntKind.u8.wrap ((n : Int) % 128) = (n : Int) % 128 := wrapU8 _ (by omega) (by omega)
  go_enter Tryd.func49, Tryd.ntmps49
  go_wp2_with fail
  go_loopw [5] (fun sv wr => ∃ j s : Nat, sv = .int .i64 s ∧ s = 7 * j ∧ j ≤ k ∧ w = wr) (fun sv _ => 7 * k - (intOf sv).toNat)
  case atStart => exact ⟨0, 0, rfl, rfl, by omega, rfl⟩
  case round =>
    obtain ⟨j, s, rfl, hs, hj, rfl⟩ := hrel
    have HS : Hid (s = 7 * j) := hs
    obtain ⟨q, hq⟩ : ∃ q, n / 128 ^ j = q := ⟨_, rfl⟩
    have HQ : Hid (n / 128 ^ j = q) := hq
    have hd := div_sev n j s hs
    rw [hq] at hd
    clear hq
    have s0 : (s : Int) ≤ 56 := by omega
    clear hs
    by_cases hlt : j < k
    · have hge : (128 : Int) ≤ (q : Int) := by have := HK.out.2 j hlt; rw [HQ.out] at this; omega
      go_wp2
      go_roundw
      case rel => exact ⟨j + 1, s + 7, by go_num, by have := HS.out; omega, by omega, trivial⟩
      case measure => have := HS.out; simp [intOf]; omega
    · obtain rfl : j = k := by omega
      have hge : ¬ (128 : Int) ≤ (q : Int) := by have := HK.out.1; rw [HQ.out] at this; omega
      go_wp2
      go_loopw [0, 5] (fun bv sv wr => ∃ (i s : Nat) (b0 : Value), b0 = bv ∧ sv = .int .i64 s ∧ s + 7 * i = 7 * j ∧ Row .u8 5 B wr b0 (X ++ tp n j i) ∧ Below B w wr) (fun _ sv _ => (intOf sv).toNat)
      case atStart => exact ⟨0, s, _, rfl, rfl, by have := HS.out; omega, by simpa [tp] using HR.out, Below.refl _ _⟩
      case round =>
        clear hd s0 hge
        obtain ⟨i, s', b0, rfl, rfl, hs', hr, hb⟩ := hrel
        have H1 : Hid (Row .u8 5 B wr b0 (X ++ tp n j i) ∧ Below B w wr ∧ s' + 7 * i = 7 * j) := ⟨hr, hb, hs'⟩
        by_cases h0 : 0 < s'
        · have h0I : (0 : Int) < (s' : Int) := by omega
          have h7 : 7 ≤ s' := by omega
          obtain ⟨q', hq'⟩ : ∃ q, n / 128 ^ (j - i) = q := ⟨_, rfl⟩
          have hd := div_sev n (j - i) s' (by omega)
          rw [hq'] at hd
          have s0 : (s' : Int) ≤ 56 := by omega
          obtain ⟨x, hx⟩ : ∃ x : Int, IntKind.u8.wrap (q' : Int) = x := ⟨_, rfl⟩
          have ho : bits .or .u8 x 128 = gr n (j - i) := by
            rw [IntKind.wrap_u8] at hx
            rw [or_128 x ⟨by omega, by omega⟩]
            unfold gr
            rw [hq']
            omega
          obtain ⟨y, hy⟩ : ∃ y : Int, gr n (j - i) = y := ⟨_, rfl⟩
          have HY : Hid (gr n (j - i) = y) := hy
          rw [hy] at ho
          clear hq' hy hr hb hs'
          go_wp2_with (at_builtin; refine wpList_ap rfl (.tmp 16) (.tmp 22) 22 22 rfl .u8 5 1 Tryd.und8 Tryd.info8 (by decide) B _ (X ++ tp n j i) rfl (H1.out.1.alloc _) _ [y] rfl (src_sl Tryd.und8 (new1 y)) (by have := tp_len n j i; have := H1.out.2.2; simp; omega) (by have := H1.out.2.1.size; simp; omega) ?_; intro v1 w1 hr hg)
          have hb1 : Below B w w1 := (H1.out.2.1.trans ((al1 _).mono (by have := H1.out.2.1.size; omega))).trans (hg.below (H1.out.1.alloc _) (by have := H1.out.2.1.size; simp; omega))
          have hr' : Row .u8 5 B w1 v1 (X ++ tp n j (i + 1)) := by
            show Row _ _ _ _ _ (X ++ (tp n j i ++ [gr n (j - i)]))
            rw [HY.out, ← List.append_assoc]; exact hr
          have H2 : Hid (Row .u8 5 B w1 v1 (X ++ tp n j (i + 1)) ∧ Below B w w1) := ⟨hr', hb1⟩
          clear hr hg hb1 hr'
          go_roundw
          case rel => exact ⟨i + 1, s' - 7, _, rfl, by go_num, by have := H1.out.2.2; omega, H2.out.1, H2.out.2⟩
          case measure => simp [intOf]; omega
        · have h0I : ¬ (0 : Int) < (s' : Int) := by omega
          obtain rfl : i = j := by omega
          obtain ⟨y, hy⟩ : ∃ y : Int, (n : Int) % 128 = y := ⟨_, rfl⟩
          have HY : Hid ((n : Int) % 128 = y) := hy
          rw [hy] at a127 w127
          clear hr hb hs' hy
          go_wp2_with (at_builtin; refine wpList_ap rfl (.tmp 24) (.tmp 28) 22 22 rfl .u8 5 1 Tryd.und8 Tryd.info8 (by decide) B _ (X ++ tp n i i) rfl (H1.out.1.alloc _) _ [y] rfl (src_sl Tryd.und8 (new1 y)) (by have := tp_len n i i; simp; omega) (by have := H1.out.2.1.size; simp; omega) ?_; intro v1 w1 hr hg)
          have hb1 : Below B w w1 := (H1.out.2.1.trans ((al1 _).mono (by have := H1.out.2.1.size; omega))).trans (hg.below (H1.out.1.alloc _) (by have := H1.out.2.1.size; simp; omega))
          go_ret
          refine ⟨_, rfl, ?_, hb1⟩
          unfold sev
          rw [← List.append_assoc]
          have e : ((n % 128 : Nat) : Int) = y := by have := HY.out; omega
          rw [e]; exact hr
end Go.Proofs.YtndcpjnfdgojkaaDoor
