/-
  Numbers by their values: the contracts above, said of values alone; the walks of hasBit, power, ExpMod.
-/
import Derived.Test.YthkheocggcmooaaW11
namespace Go.Proofs.Ythkheocggcmooaa
open Go.RowKit

/-- The slice v reads the number N (no limb 0 at its end), of at most k limbs. -/
def Num (k : Nat) (w : World) (v : Value) (N : Int) : Prop := 0 ≤ N ∧ N < 4294967296 ^ k ∧ Sl .u32 w v (lim N.toNat)
theorem Num.len {k : Nat} {w : World} {v : Value} {N : Int} (h : Num k w v N) : (lim N.toNat).length ≤ k := lim_len_le (by rw [Int.toNat_of_nonneg h.1]; exact h.2.1)
theorem Num.val {k : Nat} {w : World} {v : Value} {N : Int} (h : Num k w v N) : Go.Proofs.Ythkheocggcmooaa.val (lim N.toNat) = N := by rw [val_lim, Int.toNat_of_nonneg h.1]
theorem Num.below {k : Nat} {w w' : World} {v : Value} {N : Int} (h : Num k w v N) (hb : Below w.heap.size w w') : Num k w' v N := ⟨h.1, h.2.1, below_sl hb h.2.2⟩
theorem Num.of_own {k B : Nat} {w : World} {v : Value} {N : Int} (h : Own B w v (lim N.toNat)) (h0 : 0 ≤ N) (h1 : N < 4294967296 ^ k) : Num k w v N := ⟨h0, h1, h.sl⟩
theorem Num.of_trim {w : World} {v : Value} {X : List Int} (h : Sl .u32 w v (trim X)) (uX : U32s X) : Num X.length w v (Go.Proofs.Ythkheocggcmooaa.val X) := by
  refine ⟨val_nonneg uX, val_lt uX, ?_⟩
  rw [← take_sig_lim uX]; exact h
theorem Num.mono {k k' : Nat} {w : World} {v : Value} {N : Int} (h : Num k w v N) (hk : k ≤ k') : Num k' w v N := ⟨h.1, Int.lt_of_lt_of_le h.2.1 (pow_mono hk), h.2.2⟩
theorem lim_nil {n : Nat} (h : lim n = []) : n = 0 := by have := val_lim n; rw [h] at this; simp [Go.Proofs.Ythkheocggcmooaa.val] at this; omega
theorem lim_len_one {N : Int} (h0 : 0 < N) (h1 : N < 4294967296) : (lim N.toNat).length = 1 := by
  rw [lim_pos (by omega)]
  have : N.toNat / 4294967296 = 0 := by omega
  rw [this, lim_zero]; rfl

theorem product_num {k j : Nat} {w : World} (v u : Value) (x y : Int) (hx : Num k w v x) (hy : Num j w u y) (hk : k ≤ 1073741824) (hj : j ≤ 1073741824) :
    Calls Try.prog 55 #[v, u] w fun e w' => ∃ r, e = .returned r ∧ Own w.heap.size w' r (lim (x * y).toNat) ∧ Num (k + j) w' r (x * y) ∧ Below w.heap.size w w' := by
  have lx := hx.len; have ly := hy.len
  refine (product_any _ _ v u w hx.2.2 hy.2.2 (lim_u32 _) (lim_u32 _) (by omega) (by omega)).mono ?_
  rintro e w' ⟨r, rfl, hr, hB⟩
  rw [hx.val, hy.val] at hr
  refine ⟨r, rfl, hr, Num.of_own hr (Int.mul_nonneg hx.1 hy.1) ?_, hB⟩
  rw [Int.pow_add]
  calc x * y ≤ x * 4294967296 ^ j := Int.mul_le_mul_of_nonneg_left (Int.le_of_lt hy.2.1) hx.1
    _ < 4294967296 ^ k * 4294967296 ^ j := Int.mul_lt_mul_of_pos_right hx.2.1 (pow_pos32 j)

theorem rest_num {k j : Nat} {w : World} (v u : Value) (x y : Int) (hx : Num k w v x) (hy : Num j w u y) (hk : k ≤ 1073741824) (hj : j ≤ 1073741824) (h0 : 0 < y) (H : y < 4294967296 ∨ LongOK) :
    Calls Try.prog 70 #[v, u] w fun e w' => ∃ r, e = .returned r ∧ Own w.heap.size w' r (lim (x % y).toNat) ∧ Num j w' r (x % y) ∧ Below w.heap.size w w' := by
  have lx := hx.len; have ly := hy.len
  refine (rest_any _ _ v u w hx.2.2 hy.2.2 (lim_u32 _) (lim_u32 _) (sig_lim _) (sig_lim _) (fun h => by have := lim_nil h; omega) (by omega) (by omega) ?_).mono ?_
  · rcases H with h | h
    · exact .inl (lim_len_one h0 h)
    · exact .inr h
  rintro e w' ⟨r, rfl, hr, hB⟩
  rw [hx.val, hy.val] at hr
  have h1 := Int.emod_nonneg x (b := y) (by omega); have h2 := Int.emod_lt_of_pos x h0
  exact ⟨r, rfl, hr, Num.of_own hr h1 (Int.lt_trans h2 hy.2.1), hB⟩

theorem divide_num {k j : Nat} {w : World} (v u : Value) (x y : Int) (hx : Num k w v x) (hy : Num j w u y) (hk : k ≤ 1073741824) (hj : j ≤ 1073741824) (h0 : 0 < y) (H : y < 4294967296 ∨ LongOK) :
    Calls Try.prog 57 #[v, u] w fun e w' => ∃ q r, e = .returned (.tuple #[q, r]) ∧ Own w.heap.size w' q (lim (x / y).toNat) ∧ Own w.heap.size w' r (lim (x % y).toNat) ∧ Num k w' q (x / y) ∧ Num j w' r (x % y) ∧ Below w.heap.size w w' := by
  have lx := hx.len; have ly := hy.len
  refine (divide_any _ _ v u w hx.2.2 hy.2.2 (lim_u32 _) (lim_u32 _) (sig_lim _) (sig_lim _) (fun h => by have := lim_nil h; omega) (by omega) (by omega) ?_).mono ?_
  · rcases H with h | h
    · exact .inl (lim_len_one h0 h)
    · exact .inr h
  rintro e w' ⟨⟨q, r, rfl, hq, hr⟩, hB⟩
  rw [hx.val, hy.val] at hr hq
  have h1 := Int.emod_nonneg x (b := y) (by omega); have h2 := Int.emod_lt_of_pos x h0
  have h3 := Int.ediv_nonneg hx.1 (Int.le_of_lt h0); have h4 : x / y ≤ x := Int.ediv_le_self _ hx.1
  exact ⟨q, r, rfl, hq, hr, Num.of_own hq h3 (Int.lt_of_le_of_lt h4 hx.2.1), Num.of_own hr h1 (Int.lt_trans h2 hy.2.1), hB⟩

theorem sum_num {k : Nat} {w : World} (v u : Value) (x y : Int) (hx : Num k w v x) (hy : Num k w u y) (hk : k ≤ 1073741824) :
    Calls Try.prog 44 #[v, u] w fun e w' => ∃ r, e = .returned r ∧ Own w.heap.size w' r (lim (x + y).toNat) ∧ Num (k + 1) w' r (x + y) ∧ Below w.heap.size w w' := by
  have lx := hx.len; have ly := hy.len
  refine (sum_any _ _ v u w hx.2.2 hy.2.2 (lim_u32 _) (lim_u32 _) (by omega) (by omega)).mono ?_
  rintro e w' ⟨r, rfl, hr, hB⟩
  rw [hx.val, hy.val] at hr
  have := hx.1; have := hx.2.1; have := hy.1; have := hy.2.1
  exact ⟨r, rfl, hr, Num.of_own hr (by omega) (by rw [pow_succ32]; omega), hB⟩

theorem difference_num {k j : Nat} {w : World} (v u : Value) (x y : Int) (hx : Num k w v x) (hy : Num j w u y) (hk : k ≤ 1073741824) (hle : y ≤ x) :
    Calls Try.prog 50 #[v, u] w fun e w' => ∃ r, e = .returned r ∧ Own w.heap.size w' r (lim (x - y).toNat) ∧ Num k w' r (x - y) ∧ Below w.heap.size w w' := by
  have lx := hx.len
  have hv : Go.Proofs.Ythkheocggcmooaa.val (lim y.toNat) ≤ Go.Proofs.Ythkheocggcmooaa.val (lim x.toNat) := by rw [hx.val, hy.val]; exact hle
  have hl := sig_le_of_val (lim_u32 _) (lim_u32 _) hv
  rw [sig_lim, sig_lim] at hl
  refine (difference_any _ _ v u w hx.2.2 hy.2.2 (lim_u32 _) (lim_u32 _) (by omega) hl hv).mono ?_
  rintro e w' ⟨r, rfl, hr, hB⟩
  rw [hx.val, hy.val] at hr
  have := hx.1; have := hx.2.1; have := hy.1
  exact ⟨r, rfl, hr, Num.of_own hr (by omega) (by omega), hB⟩

/-! ### hasBit -/
theorem and1 (x : Int) (h0 : 0 ≤ x) (h1 : x < 4294967296) : bits BinOp.and .u32 x 1 = x % 2 := by go_bits2

theorem getD_div (xs : List Int) (i : Nat) (hu : U32s xs) : (val xs).toNat / 2 ^ (32 * i) % 4294967296 = (xs.getD i 0).toNat := by
  induction i generalizing xs with
  | zero =>
    rw [val_head_tail]
    have h1 := hu.at 0; unfold U32 at h1
    have h2 := val_nonneg hu.tl
    simp only [Nat.mul_zero, Nat.pow_zero, Nat.div_one]; omega
  | succ i ih =>
    have := ih xs.tail hu.tl
    rw [getD_tail] at this
    rw [← this, val_head_tail xs]
    have h1 := hu.at 0; unfold U32 at h1
    have h2 := val_nonneg hu.tl
    rw [Nat.mul_add, Nat.mul_one, Nat.add_comm, Nat.pow_add, ← Nat.div_div_eq_div_mul]
    congr 2; omega

theorem bit_eq (v i : Nat) : v / 2 ^ (32 * (i / 32)) % 4294967296 / 2 ^ (i % 32) % 2 = v / 2 ^ i % 2 := by
  have e : (4294967296 : Nat) = 2 ^ (i % 32) * 2 ^ (32 - i % 32) := by rw [← Nat.pow_add, show i % 32 + (32 - i % 32) = 32 by omega]
  have e2 : i = 32 * (i / 32) + i % 32 := by omega
  rw [e, Nat.mod_mul_right_div_self, Nat.div_div_eq_div_mul, ← Nat.pow_add, ← e2]
  have e3 : 2 ^ (32 - i % 32) = 2 * 2 ^ (31 - i % 32) := by rw [Nat.mul_comm, ← Nat.pow_succ]; congr 1; omega
  rw [e3, Nat.mod_mul_right_mod]

set_option maxHeartbeats 1000000 in
theorem hasBit_any (X : List Int) (i : Nat) (v : Value) (w : World) (hX : Sl .u32 w v X) (uX : U32s X) (hi : i < 32 * X.length) (hl : X.length ≤ 1073741824) :
    Calls Try.prog 71 #[v, .int .i64 i] w fun e w' => e = .returned (.bool (decide ((val X).toNat / 2 ^ i % 2 = 1))) ∧ w = w' := by
  obtain ⟨a, c, rfl, hc, h1⟩ := hX
  rcases h1 with rfl | ⟨b, o, rfl, hb, hr⟩
  · simp at hi
  obtain ⟨y, hy⟩ : ∃ y, X.getD (i / 32) 0 = y := ⟨_, rfl⟩
  have uy : U32 y := hy ▸ uX.at _
  have hcell := hr (i / 32) (by omega)
  rw [hy] at hcell
  obtain ⟨u1, u2⟩ := uy
  obtain ⟨m, hm⟩ : ∃ m, i / 32 = m := ⟨_, rfl⟩
  obtain ⟨s, hs⟩ : ∃ s, i % 32 = s := ⟨_, rfl⟩
  have HE : Hid ((val X).toNat / 2 ^ i % 2 = y.toNat / 2 ^ s % 2) := by
    rw [← bit_eq, getD_div X _ uX, hy, hs]; rfl
  have hmi : (i : Int) / 32 = m := by omega
  have hsi : (i : Int) % 32 = s := by omega
  have hs32 : s < 32 := by omega
  have hmX : m < X.length := by omega
  rw [hm] at hcell
  have hp : 0 < (2 : Int) ^ s := Int.pow_pos (by decide)
  have hd0 : 0 ≤ y / 2 ^ s := Int.ediv_nonneg u1 (Int.le_of_lt hp)
  have hd1 : y / 2 ^ s < 4294967296 := Int.lt_of_le_of_lt (Int.ediv_le_self _ u1) u2
  have hand := and1 (y / 2 ^ s) hd0 hd1
  clear hr hy hm hs
  go_enter Try.func71, Try.ntmps71
  go_wp2
  go_ret
  refine ⟨?_, rfl⟩
  rw [HE.out]
  obtain ⟨n, rfl⟩ := Int.eq_ofNat_of_zero_le u1
  have e1 : ((n / 2 ^ s % 2 : Nat) : Int) = (n : Int) / 2 ^ s % 2 := by simp
  have e2 : ((n : Int) / 2 ^ s % 2 == 1) = decide (n / 2 ^ s % 2 = 1) := by
    rw [← e1, Bool.eq_iff_iff]; simp; omega
  exact congrArg (fun b => Ending.returned (Value.bool b)) e2

/-! ### power -/
theorem pow_dbl (v M : Int) (t : Nat) : (v ^ t % M) * (v ^ t % M) % M = v ^ (2 * t) % M := by
  rw [← Int.mul_emod, ← Int.pow_add, Nat.two_mul]
theorem pow_dbl1 (v M : Int) (t : Nat) : (v ^ (2 * t) % M) * (v % M) % M = v ^ (2 * t + 1) % M := by
  rw [← Int.mul_emod, Int.pow_succ]
theorem half_step (E n k : Nat) (h : k < n) : E / 2 ^ (n - (k + 1)) = 2 * (E / 2 ^ (n - k)) + E / 2 ^ (n - 1 - k) % 2 := by
  have e : n - k = (n - (k + 1)) + 1 := by omega
  have e2 : n - 1 - k = n - (k + 1) := by omega
  rw [e, e2, Nat.pow_succ, ← Nat.div_div_eq_div_mul]; omega

theorem bitLen_lt {n k : Nat} (h : n < 2 ^ k) : bitLen n ≤ k := by
  have := bitLen_spec n
  apply Classical.byContradiction; intro hc
  by_cases h0 : n = 0
  · subst h0; simp [bitLen] at hc
  · have h2 := this.2 h0
    have h3 : 2 ^ k ≤ 2 ^ (bitLen n - 1) := Nat.pow_le_pow_right (by decide) (by omega)
    omega

set_option maxHeartbeats 2000000 in
theorem power_any (b e m : Value) (x M : Int) (E : List Int) (kx : Nat) (w : World) (hb : Num kx w b x) (hkx : kx ≤ 1024) (he : Sl .u32 w e E) (uE : U32s E) (lE : E.length ≤ 1024) (hm : Num 1024 w m M) (h0 : 0 < M) (H : M < 4294967296 ∨ LongOK) :
    Calls Try.prog 60 #[b, e, m] w fun e w' => ∃ r, e = .returned r ∧ Own w.heap.size w' r (lim (x ^ (val E).toNat % M).toNat) ∧ Below w.heap.size w w' := by
  have HL : Hid (M < 4294967296 ∨ LongOK) := H
  have hBt : Below w.heap.size w w := Below.refl _ _
  obtain ⟨n, hn⟩ : ∃ n, bitLen (val E).toNat = n := ⟨_, rfl⟩
  have hlt : (val E).toNat < 2 ^ (32 * E.length) := by
    have := val_lt uE; rw [pow32] at this; have := val_nonneg uE; omega
  have hn1 : n ≤ 32 * E.length := by rw [← hn]; exact bitLen_lt hlt
  have hs : (val E).toNat / 2 ^ n = 0 := by rw [← hn]; exact Nat.div_eq_of_lt (bitLen_spec _).1
  have HN : Hid (bitLen (val E).toNat = n ∧ (val E).toNat / 2 ^ n = 0) := ⟨hn, hs⟩
  have hbits := fun (w' : World) (hB : Below w.heap.size w w') => Bits_any E e w' (below_sl hB he) uE (by omega)
  rw [hn] at hbits
  clear hn hs hlt H
  go_enter Try.func60, Try.ntmps60
  go_wp2_with (first
    | (go_at_call 39; refine (Small_any 1 (by decide) (by decide) _).mono ?_; rintro e w' ⟨r, rfl, hr, hB⟩; have hone := Num.of_own (k := 1) hr (by decide) (by decide); replace hm := hm.below hB; replace hnb := hnb.below hB; replace hBt := hBt.trans (hB.mono hBt.size))
    | (go_at_call 70; refine (rest_num _ _ _ _ hone hm (by omega) (by omega) h0 HL.out).mono ?_; rintro e w' ⟨rx, rfl, hrx, hnx, hB⟩; replace hm := hm.below hB; replace hnb := hnb.below hB; replace hrx := hrx.mono hBt.size; replace hBt := hBt.trans (hB.mono hBt.size))
    | (go_at_call 70; refine (rest_num _ _ _ _ hb hm (by omega) (by omega) h0 HL.out).mono ?_; rintro e w' ⟨rb, rfl, hrb, hnb, hB⟩; replace hm := hm.below hB; replace hBt := hBt.trans (hB.mono hBt.size))
    | (go_at_call 18; refine (hbits _ hBt).mono ?_; rintro e w' ⟨rfl, hB⟩; replace hm := hm.below hB; replace hnb := hnb.below hB; replace hrx := hrx.below hB; replace hnx := hnx.below hB; replace hBt := hBt.trans (hB.mono hBt.size)))
  clear hbits hone
  go_loopw [7, 19] (fun xv kv wr => ∃ k : Nat, kv = .int .i64 k ∧ k ≤ n ∧ Own w.heap.size wr xv (lim (x ^ ((val E).toNat / 2 ^ (n - k)) % M).toNat) ∧ Num 1024 wr xv (x ^ ((val E).toNat / 2 ^ (n - k)) % M) ∧ Num 1024 wr rb (x % M) ∧ Num 1024 wr m M ∧ Below w.heap.size w wr)
    (fun _ kv _ => n - (intOf kv).toNat)
  case atStart => exact ⟨0, rfl, Nat.zero_le _, by rw [Nat.sub_zero, HN.out.2, Int.pow_zero]; exact hrx, by rw [Nat.sub_zero, HN.out.2, Int.pow_zero]; exact hnx, hnb, hm, hBt⟩
  case round =>
    clear hrx hnx hnb hm hBt
    obtain ⟨k, rfl, hk, hO, hx, hnb, hm, hBt⟩ := hrel
    by_cases hlt : k < n
    · have hhalf := half_step (val E).toNat n k hlt
      obtain ⟨t, ht⟩ : ∃ t, (val E).toNat / 2 ^ (n - k) = t := ⟨_, rfl⟩
      rw [ht] at hO hx hhalf
      have hbit := fun (w' : World) (hB : Below w.heap.size w w') => hasBit_any E (n - 1 - k) e w' (below_sl hB he) uE (by omega) (by omega)
      have hcast : ((n - 1 - k : Nat) : Int) = (n : Int) - 1 - k := by omega
      rw [hcast] at hbit
      by_cases hb1 : (val E).toNat / 2 ^ (n - 1 - k) % 2 = 1
      · rw [hb1] at hhalf
        have HH : Hid ((val E).toNat / 2 ^ (n - (k + 1)) = 2 * t + 1) := hhalf
        have hdt : decide ((val E).toNat / 2 ^ (n - 1 - k) % 2 = 1) = true := decide_eq_true hb1
        rw [hdt] at hbit
        clear hb1 hdt hhalf ht hcast
        go_wp2_with (first
          | (go_at_call 71; refine (hbit _ hBt).mono ?_; rintro e w' ⟨rfl, rfl⟩)
          | (go_at_call 55; refine (product_num _ _ _ _ hx hx (by omega) (by omega)).mono ?_; rintro e w' ⟨r, rfl, hO1, hp, hB⟩; replace hm := hm.below hB; replace hnb := hnb.below hB; replace hBt := hBt.trans (hB.mono hBt.size); clear hx)
          | (go_at_call 70; refine (rest_num _ _ _ _ hp hm (by omega) (by omega) h0 HL.out).mono ?_; rintro e w' ⟨r, rfl, hO2, hx2, hB⟩; replace hm := hm.below hB; replace hnb := hnb.below hB; replace hBt := hBt.trans (hB.mono hBt.size); clear hp)
          | (go_at_call 55; refine (product_num _ _ _ _ hx2 hnb (by omega) (by omega)).mono ?_; rintro e w' ⟨r, rfl, hO1, hp2, hB⟩; replace hm := hm.below hB; replace hnb := hnb.below hB; replace hBt := hBt.trans (hB.mono hBt.size); clear hx2)
          | (go_at_call 70; refine (rest_num _ _ _ _ hp2 hm (by omega) (by omega) h0 HL.out).mono ?_; rintro e w' ⟨r, rfl, hO3, hx3, hB⟩; replace hm := hm.below hB; replace hnb := hnb.below hB; replace hO3 := hO3.mono hBt.size; replace hBt := hBt.trans (hB.mono hBt.size); clear hp2))
        go_roundw
        case rel =>
          rw [pow_dbl, pow_dbl1] at hO3 hx3
          exact ⟨k + 1, by go_num, by omega, by rw [HH.out]; exact hO3, by rw [HH.out]; exact hx3, hnb, hm, hBt⟩
        case measure => simp [intOf]; omega
      · have hb0 : (val E).toNat / 2 ^ (n - 1 - k) % 2 = 0 := by omega
        rw [hb0] at hhalf
        have HH : Hid ((val E).toNat / 2 ^ (n - (k + 1)) = 2 * t) := hhalf
        have hdt : decide ((val E).toNat / 2 ^ (n - 1 - k) % 2 = 1) = false := decide_eq_false hb1
        rw [hdt] at hbit
        clear hb1 hb0 hdt hhalf ht hcast
        go_wp2_with (first
          | (go_at_call 71; refine (hbit _ hBt).mono ?_; rintro e w' ⟨rfl, rfl⟩)
          | (go_at_call 55; refine (product_num _ _ _ _ hx hx (by omega) (by omega)).mono ?_; rintro e w' ⟨r, rfl, hO1, hp, hB⟩; replace hm := hm.below hB; replace hnb := hnb.below hB; replace hBt := hBt.trans (hB.mono hBt.size); clear hx)
          | (go_at_call 70; refine (rest_num _ _ _ _ hp hm (by omega) (by omega) h0 HL.out).mono ?_; rintro e w' ⟨r, rfl, hO2, hx2, hB⟩; replace hm := hm.below hB; replace hnb := hnb.below hB; replace hO2 := hO2.mono hBt.size; replace hBt := hBt.trans (hB.mono hBt.size); clear hp))
        go_roundw
        case rel =>
          rw [pow_dbl] at hO2 hx2
          exact ⟨k + 1, by go_num, by omega, by rw [HH.out]; exact hO2, by rw [HH.out]; exact hx2, hnb, hm, hBt⟩
        case measure => simp [intOf]; omega
    · have hkn : k = n := by omega
      have HO : Hid (Own w.heap.size wr u7 (lim (x ^ ((val E).toNat / 2 ^ (n - k)) % M).toNat) ∧ k = n) := ⟨hO, hkn⟩
      clear hO hx hkn
      go_wp2
      go_ret
      obtain ⟨hO, rfl⟩ := HO.out
      rw [Nat.sub_self, Nat.pow_zero, Nat.div_one] at hO
      exact ⟨_, rfl, hO, hBt⟩
end Go.Proofs.Ythkheocggcmooaa
