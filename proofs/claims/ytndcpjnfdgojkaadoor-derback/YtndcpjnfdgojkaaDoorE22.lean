/-
  Der: any length; any head.
-/
import Derived.Test.YtndcpjnfdgojkaaDoorE21
namespace Go.Proofs.YtndcpjnfdgojkaaDoor
open Go.RowKit
def by8 (n j : Nat) : Int := ((n / 256 ^ j % 256 : Nat) : Int)
/-- The first i of the bytes c - 1, c - 2, .. -/
def tb (n c : Nat) : Nat → List Int
  | 0 => []
  | i + 1 => tb n c i ++ [by8 n (c - 1 - i)]
theorem tb_len (n c : Nat) : ∀ i, (tb n c i).length = i
  | 0 => rfl
  | i + 1 => by show (tb n c i ++ [_]).length = _; rw [List.length_append, tb_len n c i]; rfl
def lenB (n c : Nat) : List Int := if n < 128 then [(n : Int)] else (128 + (c : Int)) :: tb n c c
theorem div_by8 (n j s : Nat) (hs : s = 8 * j) : (n : Int) / 2 ^ s = ((n / 256 ^ j : Nat) : Int) := by
  subst hs
  rw [Int.pow_mul]
  simp
set_option maxRecDepth 20000 in
set_option maxHeartbeats 2000000 in
theorem length_any {w : World} (n c : Nat) (hc : n / 256 ^ c = 0) (hc1 : ∀ j, j < c → 0 < n / 256 ^ j) (hc8 : c ≤ 7) (hn : n < 9223372036854775808) :
    Calls Tryd.prog 53 #[.int .i64 n] w fun e w' => ∃ r, e = .returned r ∧ Row .u8 5 w.heap.size w' r (lenB n c) ∧ Below w.heap.size w w' := by
  have HC : Hid (n / 256 ^ c = 0 ∧ ∀ j, j < c → 0 < n / 256 ^ j) := ⟨hc, hc1⟩
  clear hc hc1
  by_cases h1 : n < 128
  · have HL : Hid (lenB n c = [(n : Int)]) := by show _ = _; unfold lenB; rw [if_pos h1]
    have i1 : (n : Int) < 128 := by omega
    have i2 : IntKind.u8.wrap (n : Int) = (n : Int) := wrapU8 _ (by omega) (by omega)
    go_enter Tryd.func53, Tryd.ntmps53
    go_wp2
    go_ret
    rw [HL.out]
    exact ⟨_, rfl, (Row.arr (S := [_]) (arr_nw rfl rfl) (Nat.le_refl _) (by simp [maxLen])), al1 _⟩
  · have HL : Hid (lenB n c = (128 + (c : Int)) :: tb n c c) := by show _ = _; unfold lenB; rw [if_neg h1]
    have i1 : ¬ (n : Int) < 128 := by omega
    have i2 : IntKind.u8.wrap (c : Int) = (c : Int) := wrapU8 _ (by omega) (by omega)
    have i3 : IntKind.u8.wrap (128 + (c : Int)) = 128 + (c : Int) := wrapU8 _ (by omega) (by omega)
    go_enter Tryd.func53, Tryd.ntmps53
    go_wp2_with fail
    go_loopw [3, 4] (fun cv rv wr => ∃ j q : Nat, cv = .int .i64 j ∧ rv = .int .i64 q ∧ n / 256 ^ j = q ∧ j ≤ c ∧ w = wr) (fun cv _ _ => c - (intOf cv).toNat)
    case atStart => exact ⟨0, n, rfl, rfl, by simp, by omega, rfl⟩
    case round =>
      obtain ⟨j, q, rfl, rfl, hq, hj, rfl⟩ := hrel
      have HQ : Hid (n / 256 ^ j = q) := hq
      clear hq
      by_cases hlt : j < c
      · have hg : (0 : Int) < (q : Int) := by have := HC.out.2 j hlt; rw [HQ.out] at this; omega
        go_wp2
        go_roundw
        case rel => exact ⟨j + 1, q / 256, by go_num, by go_num, by rw [Nat.pow_succ, ← Nat.div_div_eq_div_mul, HQ.out], by omega, trivial⟩
        case measure => simp [intOf]; omega
      · obtain rfl : j = c := by omega
        have hg : ¬ (0 : Int) < (q : Int) := by have := HC.out.1; rw [HQ.out] at this; omega
        go_wp2
        go_loopw [5, 24] (fun bv iv wr => ∃ (i : Nat) (b0 : Value), b0 = bv ∧ iv = .int .i64 i ∧ i ≤ j ∧ Row .u8 5 w.heap.size wr b0 ((128 + (j : Int)) :: tb n j i) ∧ Below w.heap.size w wr) (fun _ iv _ => j - (intOf iv).toNat)
        case atStart => exact ⟨0, _, rfl, rfl, by omega, (Row.arr (S := [_]) (arr_nw rfl rfl) (Nat.le_refl _) (by simp [maxLen])), al1 _⟩
        case round =>
          obtain ⟨i, b0, rfl, rfl, hi, hr, hb⟩ := hrel
          have H1 : Hid (Row .u8 5 w.heap.size wr b0 ((128 + (j : Int)) :: tb n j i) ∧ Below w.heap.size w wr) := ⟨hr, hb⟩
          clear hr hb hg
          by_cases hlt : i < j
          · have l1 : (i : Int) < (j : Int) := by omega
            obtain ⟨c1, hc1⟩ : ∃ c1, j = c1 + 1 := ⟨j - 1, by omega⟩
            obtain ⟨d, hd1⟩ : ∃ d, c1 = d + i := ⟨c1 - i, by omega⟩
            have e1 : (j : Int) - 1 = (c1 : Int) := by omega
            have e2 : (c1 : Int) - (i : Int) = (d : Int) := by omega
            have e3 : (d : Int) ≤ 7 := by omega
            have e4 : (c1 : Int) ≤ 7 := by omega
            have HJ : Hid (j = d + i + 1) := by show _ = _; omega
            clear hc1 hd1
            have hd := div_by8 n d (8 * d) rfl
            obtain ⟨q', hq'⟩ : ∃ q, n / 256 ^ d = q := ⟨_, rfl⟩
            rw [hq'] at hd
            obtain ⟨y, hy⟩ : ∃ y : Int, (q' : Int) % 256 = y := ⟨_, rfl⟩
            have hy2 : IntKind.u8.wrap (q' : Int) = y := by rw [IntKind.wrap_u8]; exact hy
            have HY : Hid (by8 n d = y) := by
              show _ = _
              unfold by8
              rw [hq']
              omega
            clear hq'
            go_wp2_with (at_builtin; refine wpList_ap rfl (.tmp 27) (.tmp 36) 22 22 rfl .u8 5 1 Tryd.und8 Tryd.info8 (by decide) w.heap.size _ ((128 + (j : Int)) :: tb n j i) rfl (H1.out.1.alloc _) _ [y] rfl (src_sl Tryd.und8 (new1 y)) (by have := tb_len n j i; simp; omega) (by have := H1.out.2.size; simp; omega) ?_; intro v1 w1 hr hg)
            have hb1 : Below w.heap.size w w1 := (H1.out.2.trans ((al1 _).mono H1.out.2.size)).trans (hg.below (H1.out.1.alloc _) (by have := H1.out.2.size; simp; omega))
            have hr' : Row .u8 5 w.heap.size w1 v1 ((128 + (j : Int)) :: tb n j (i + 1)) := by
              have e : tb n j (i + 1) = tb n j i ++ [by8 n (j - 1 - i)] := rfl
              rw [e, show j - 1 - i = d by have := HJ.out; omega, HY.out]
              exact hr
            have H2 : Hid (Row .u8 5 w.heap.size w1 v1 ((128 + (j : Int)) :: tb n j (i + 1)) ∧ Below w.heap.size w w1) := ⟨hr', hb1⟩
            clear hr hg hb1 hr'
            go_roundw
            case rel => exact ⟨i + 1, _, rfl, by go_num, by omega, H2.out.1, H2.out.2⟩
            case measure => simp [intOf]; omega
          · obtain rfl : i = j := by omega
            have l1 : ¬ (i : Int) < (i : Int) := by omega
            go_wp2
            go_ret
            rw [HL.out]
            exact ⟨_, rfl, H1.out.1, H1.out.2⟩
end Go.Proofs.YtndcpjnfdgojkaaDoor
