/-
  Der: of package nat: length, cut, Bits, FromBytes (picked from W1, W2, W4, W6, W8, W10, W12, W14, Laws by pick.py).
-/
import Derived.Lib.Tables
import Derived.Laws.MathBits
import Derived.RegionTactic
import Derived.BigRegion
import Derived.Test.YtedoghjefdkmaaaGreatK18
namespace Go.Proofs.YtedoghjefdkmaaaGreat
open Go.RowKit
theorem Tryz.info32 : (Tryz.prog.info? 39).map (fun i => (i.zero, i.size, i.bytes)) = some (some (.int .u32 0), 1, 4) := by kernel_rfl
theorem Tryz.und32 : Tryz.prog.underlying 22 = some (.slice 39) := by kernel_rfl
/-- A result: memory from block B on, a whole block of its own, or nil; it reads xs. -/
def Own (B : Nat) (w : World) (v : Value) (xs : List Int) : Prop :=
  (v = .slice none 0 0 ∧ xs = []) ∨ ∃ b S, v = .slice (some ⟨b, 0, none⟩) xs.length S.length ∧ B ≤ b ∧ Arr .u32 39 w b S ∧ U32s S ∧ xs.length ≤ S.length ∧ S.take xs.length = xs ∧ S.length ≤ 1125899906842624
theorem Own.sl {B : Nat} {w : World} {v : Value} {xs : List Int} (h : Own B w v xs) : Sl .u32 w v xs := by
  rcases h with ⟨rfl, rfl⟩ | ⟨b, S, rfl, _, hA, _, hl, ht, _⟩
  · exact ⟨none, 0, rfl, Nat.le_refl _, .inl rfl⟩
  · refine ⟨_, _, rfl, hl, .inr ⟨b, 0, rfl, hA.lt, ?_⟩⟩
    have := hA.rd 0 xs.length (by omega)
    rw [List.drop_zero, ht] at this; exact this
theorem Own.below {B : Nat} {w w' : World} {v : Value} {xs : List Int} (h : Own B w v xs) (hb : Below w.heap.size w w') : Own B w' v xs := by
  rcases h with h | ⟨b, S, rfl, h1, hA, h2⟩
  · exact .inl h
  · exact .inr ⟨b, S, rfl, h1, below_arr hb hA.lt hA, h2⟩
theorem Own.mono {B B' : Nat} {w : World} {v : Value} {xs : List Int} (h : Own B w v xs) (hb : B' ≤ B) : Own B' w v xs := by
  rcases h with h | ⟨b, S, rfl, h1, h2⟩
  · exact .inl h
  · exact .inr ⟨b, S, rfl, by omega, h2⟩
theorem Own.ne {B : Nat} {w : World} {v : Value} {xs : List Int} (h : Own B w v xs) : ∃ a c, v = .slice a xs.length c := by
  rcases h with ⟨rfl, rfl⟩ | ⟨b, S, rfl, _⟩
  · exact ⟨_, _, rfl⟩
  · exact ⟨_, _, rfl⟩
/-- A whole block, cut: the number itself. -/
theorem Own.cut {B : Nat} {w : World} {b : Nat} {S : List Int} (hA : Arr .u32 39 w b S) (hu : U32s S) (hB : B ≤ b) (hl : S.length ≤ 1125899906842624) :
    Own B w (.slice (some ⟨b, 0, none⟩) (sig S) S.length) (lim (val S).toNat) := by
  have hs := sig_le S
  have e := take_sig_lim hu
  have e2 : (lim (val S).toNat).length = sig S := by rw [← e]; simp; omega
  refine .inr ⟨b, S, by rw [e2], hB, hA, hu, by omega, by rw [e2, e], hl⟩
theorem ret_int {k : IntKind} {a b : Int} (h : a = b) : Ending.returned (.int k a) = .returned (.int k b) := by rw [h]
set_option maxHeartbeats 400000 in
theorem Nlength_any (xs : List Int) (v : Value) (w : World) (h : Sl .u32 w v xs) (hl : xs.length ≤ 1152921504606846976) :
    Calls Tryz.prog 73 #[v] w fun e w' => e = .returned (.int .i64 (sig xs)) ∧ w' = w := by
  obtain ⟨a, c, rfl, hc, h1⟩ := h
  rcases h1 with rfl | ⟨b, off, rfl, hb, hr⟩
  · simp only [List.length_nil]
    go_enter Tryz.func73, Tryz.ntmps73
    go_wp2
    go_loop [3] (fun i => i = .int .i64 0) (fun _ => 0)
    case atStart => rfl
    case round =>
      subst hrel
      go_wp2
      go_ret
      exact ⟨by simp [sig], rfl⟩
  · go_enter Tryz.func73, Tryz.ntmps73
    go_wp2
    go_loop [3] (fun i => ∃ k : Nat, k ≤ xs.length ∧ i = .int .i64 k ∧ ∀ j, k ≤ j → j < xs.length → xs.getD j 0 = 0) (fun i => (intOf i).toNat)
    case atStart => exact ⟨xs.length, Nat.le_refl _, rfl, fun j h1 h2 => by omega⟩
    case round =>
      obtain ⟨k, hk, rfl, hz⟩ := hrel
      by_cases hk0 : k = 0
      · subst hk0
        have HS : Hid (sig xs = 0) := sig_eq (Nat.zero_le _) hz (.inl rfl)
        clear hz
        go_wp2
        go_ret
        exact ⟨ret_int (by rw [HS.out]; rfl), rfl⟩
      · obtain ⟨m, rfl⟩ : ∃ m, k = m + 1 := ⟨k - 1, by omega⟩
        obtain ⟨x, hx⟩ : ∃ x, xs.getD m 0 = x := ⟨_, rfl⟩
        have hcell := hr m (by omega)
        rw [hx] at hcell
        have HZ : Hid (∀ j, m + 1 ≤ j → j < xs.length → xs.getD j 0 = 0) := hz
        have HX : Hid (xs.getD m 0 = x) := hx
        clear hz hx hr
        by_cases hx0 : x = 0
        · go_wp2
          go_round
          case rel => exact ⟨m, by omega, by go_num, fun j h1 h2 => by
            by_cases h3 : j = m
            · subst h3; rw [HX.out]; exact hx0
            · exact HZ.out j (by omega) h2⟩
          case measure => simp [intOf]
        · go_wp2
          go_ret
          exact ⟨ret_int (by rw [sig_eq (k := m + 1) hk HZ.out (.inr (by intro h3; exact hx0 (HX.out.symm.trans h3)))]; rfl), rfl⟩
/-- cut: the same memory, without the limbs 0 at its end. -/
theorem cut_any (xs : List Int) (a : Option Addr) (c : Nat) (w : World) (h : Sl .u32 w (.slice a xs.length c) xs) (hl : xs.length ≤ 1152921504606846976) :
    Calls Tryz.prog 70 #[.slice a xs.length c] w fun e w' => e = .returned (.slice a (sig xs) c) ∧ w' = w := by
  have hc : xs.length ≤ c := by obtain ⟨_, _, h1, hc, _⟩ := h; cases h1; exact hc
  have hs := sig_le xs
  go_enter Tryz.func70, Tryz.ntmps70
  go_wp2_with (go_at_call 73; refine (Nlength_any xs _ _ h hl).mono ?_; rintro e w' ⟨rfl, rfl⟩)
  go_ret
  exact ⟨rfl, rfl⟩
theorem val_snoc (xs : List Int) (x : Int) : val (xs ++ [x]) = val xs + 4294967296 ^ xs.length * x := by rw [val_append]; simp [val]
theorem take_snoc (xs : List Int) (k : Nat) (h : k < xs.length) : xs.take (k + 1) = xs.take k ++ [xs.getD k 0] := by
  rw [List.take_succ_eq_append_getElem h]; simp [h]
theorem val_take_succ (xs : List Int) (k : Nat) (h : k < xs.length) : val (xs.take (k + 1)) = val (xs.take k) + 4294967296 ^ k * xs.getD k 0 := by
  rw [take_snoc xs k h, val_snoc, List.length_take, Nat.min_eq_left (by omega)]
theorem val_set {S : List Int} {i : Nat} (h : i < S.length) (z : Int) : val (S.set i z) = val S + 4294967296 ^ i * (z - S.getD i 0) := by
  induction S generalizing i with
  | nil => simp at h
  | cons x S ih =>
    cases i with
    | zero => simp [val]; omega
    | succ i =>
      have := ih (i := i) (by simpa using h)
      simp only [List.set_cons_succ, val, this, pow_succ32, Int.mul_add, Int.mul_assoc]
      simp only [List.getD_cons_succ]; omega
theorem getD_tail (xs : List Int) (j : Nat) : xs.tail.getD j 0 = xs.getD (j + 1) 0 := by cases xs <;> simp
theorem val_head_tail (xs : List Int) : val xs = xs.getD 0 0 + 4294967296 * val xs.tail := by cases xs <;> simp [val]
theorem sig_pos {xs : List Int} (hu : U32s xs) (h : 0 < sig xs) : 0 < xs.getD (sig xs - 1) 0 := by
  have h1 := sig_last h; have h2 := hu.at (sig xs - 1); unfold U32 at h2; omega
/-- 'the slice v has k significant limbs'. -/
def Len (w : World) (v : Value) (k : Nat) : Prop := ∃ xs, Sl .u32 w v xs ∧ xs.length ≤ 1152921504606846976 ∧ sig xs = k
theorem length_len {w : World} (v : Value) (k : Nat) (h : Len w v k) : Calls Tryz.prog 73 #[v] w fun e w' => e = .returned (.int .i64 k) ∧ w = w' := by
  obtain ⟨xs, h1, h2, rfl⟩ := h; exact (Nlength_any xs v w h1 h2).mono fun e w' h => ⟨h.1, h.2.symm⟩
/-- A number and an error, as two results. -/
def Two (B : Nat) (w : World) (e : Ending) (s : List Int × Int) : Prop := ∃ r, e = .returned (.tuple #[r, .int .i64 s.2]) ∧ Own B w r s.1
theorem Two.mk' {B : Nat} {w : World} {r : Value} {n : Int} {L : List Int} {s : List Int × Int} (h : Own B w r L) (hs : s = (L, n)) : Two B w (.returned (.tuple #[r, .int .i64 n])) s := by
  subst hs; exact ⟨r, rfl, h⟩
theorem Two.nil' {B : Nat} {w : World} {n : Int} {s : List Int × Int} (hs : s = ([], n)) : Two B w (.returned (.tuple #[.slice none 0 0, .int .i64 n])) s := by
  subst hs; exact ⟨_, rfl, .inl ⟨rfl, rfl⟩⟩
theorem len8L (i : Nat) (h : i < Lib.len8tab.size) : (Lib.len8tab[i]'h).toNat = bitLen i := len8tab_get i h
theorem w64 (z : Int) (h0 : 0 ≤ z) (h1 : z < 9223372036854775808) : wrap64 z = z := by unfold wrap64; omega
set_option maxRecDepth 1000000 in
set_option maxHeartbeats 2000000 in
theorem Len32_any (x : Int) (hx : U32 x) (w : World) :
    Calls Tryz.prog 131 #[.int .u32 x] w fun e w' => e = .returned (.int .i64 (bitLen x.toNat)) ∧ w' = w := by
  obtain ⟨h0, h1⟩ := hx
  by_cases g1 : 65536 ≤ x
  · have s1 := bitLen_shift x.toNat 16 (by omega)
    by_cases g2 : 256 ≤ x / 65536
    · have s2 := bitLen_shift (x.toNat / 2 ^ 16) 8 (by omega)
      have e1 : x.toNat / 2 ^ 16 / 2 ^ 8 = (x / 65536 / 256).toNat := by omega
      rw [e1] at s2
      have HS : Hid (bitLen x.toNat = 16 + (8 + bitLen (x / 65536 / 256).toNat)) := by rw [s1, s2]; rfl
      have g3 : x / 65536 / 256 < 256 := by omega
      have g4 : 0 ≤ x / 65536 / 256 := by omega
      have l8 := bitLen_le8 (x / 65536 / 256).toNat (by omega)
      clear s1 s2 e1
      go_enter Tryz.func131, Tryz.ntmps131
      go_wp2
      go_ret
      refine ⟨ret_int ?_, rfl⟩
      rw [HS.out, len8L, w64 (bitLen _) (by omega) (by omega), w64 _ (by omega) (by omega)]; omega
    · have e1 : x.toNat / 2 ^ 16 = (x / 65536).toNat := by omega
      rw [e1] at s1
      have HS : Hid (bitLen x.toNat = 16 + bitLen (x / 65536).toNat) := s1
      have g3 : x / 65536 < 256 := by omega
      have g4 : 0 ≤ x / 65536 := by omega
      have l8 := bitLen_le8 (x / 65536).toNat (by omega)
      clear s1 e1
      go_enter Tryz.func131, Tryz.ntmps131
      go_wp2
      go_ret
      refine ⟨ret_int ?_, rfl⟩
      rw [HS.out, len8L, w64 (bitLen _) (by omega) (by omega), w64 _ (by omega) (by omega)]; omega
  · by_cases g2 : 256 ≤ x
    · have s1 := bitLen_shift x.toNat 8 (by omega)
      have e1 : x.toNat / 2 ^ 8 = (x / 256).toNat := by omega
      rw [e1] at s1
      have HS : Hid (bitLen x.toNat = 8 + bitLen (x / 256).toNat) := s1
      have g3 : x / 256 < 256 := by omega
      have g4 : 0 ≤ x / 256 := by omega
      have l8 := bitLen_le8 (x / 256).toNat (by omega)
      clear s1 e1
      go_enter Tryz.func131, Tryz.ntmps131
      go_wp2
      go_ret
      refine ⟨ret_int ?_, rfl⟩
      rw [HS.out, len8L, w64 (bitLen _) (by omega) (by omega), w64 _ (by omega) (by omega)]; omega
    · have g3 : x < 256 := by omega
      have l8 := bitLen_le8 x.toNat (by omega)
      go_enter Tryz.func131, Tryz.ntmps131
      go_wp2
      go_ret
      refine ⟨ret_int ?_, rfl⟩
      rw [len8L, w64 (bitLen _) (by omega) (by omega), w64 (bitLen _) (by omega) (by omega)]
theorem pow32 (m : Nat) : (4294967296 : Int) ^ m = ((2 ^ (32 * m) : Nat) : Int) := by
  rw [Nat.pow_mul]; simp
theorem top_div {xs : List Int} {m : Nat} (hu : U32s xs) (h : sig xs = m + 1) : (val xs).toNat / 2 ^ (32 * m) = (xs.getD m 0).toNat ∧ (xs.getD m 0).toNat ≠ 0 := by
  have hl := sig_le xs
  have e := val_take_sig xs
  rw [h, val_take_succ _ _ (by omega)] at e
  have h1 := val_nonneg (hu.take m); have h2 := val_lt (hu.take m)
  rw [List.length_take, Nat.min_eq_left (by omega)] at h2
  have h3 := hu.at m
  have h4 := sig_pos hu (by omega : 0 < sig xs)
  rw [h, Nat.add_sub_cancel] at h4
  obtain ⟨t, ht⟩ := Int.eq_ofNat_of_zero_le h1
  obtain ⟨y, hy⟩ := Int.eq_ofNat_of_zero_le h3.1
  rw [hy] at h4 ⊢
  refine ⟨?_, by omega⟩
  rw [ht, hy, pow32] at e
  rw [ht, pow32] at h2
  have e2 : (val xs).toNat = t + 2 ^ (32 * m) * y := by rw [← e]; exact Int.toNat_natCast (t + 2 ^ (32 * m) * y)
  have h5 : t < 2 ^ (32 * m) := by exact_mod_cast h2
  rw [e2, Nat.add_mul_div_left _ _ (by omega), Nat.div_eq_of_lt h5]; simp
set_option maxHeartbeats 1000000 in
theorem NBits_any (xs : List Int) (v : Value) (w : World) (hx : Sl .u32 w v xs) (ux : U32s xs) (lx : xs.length ≤ 36028797018963968) :
    Calls Tryz.prog 102 #[v] w fun e w' => e = .returned (.int .i64 (bitLen (val xs).toNat)) ∧ Below w.heap.size w w' := by
  obtain ⟨a1, c1, rfl, hc1, h1⟩ := id hx
  have hl := sig_le xs
  by_cases h0 : sig xs = 0
  · have hlen : Len w (.slice a1 xs.length c1) 0 := ⟨xs, hx, by omega, h0⟩
    have HB : Hid (bitLen (val xs).toNat = 0) := by rw [val_of_sig0 h0]; rfl
    clear h0
    go_enter Tryz.func102, Tryz.ntmps102
    go_wp2_with (go_at_call 73; refine (length_len _ _ hlen).mono ?_; rintro e w' ⟨rfl, rfl⟩)
    go_ret
    exact ⟨ret_int (by rw [HB.out]; rfl), Below.refl _ _⟩
  · obtain ⟨m, hm⟩ : ∃ m, sig xs = m + 1 := ⟨sig xs - 1, by omega⟩
    have hlen : Len w (.slice a1 xs.length c1) (m + 1) := ⟨xs, hx, by omega, hm⟩
    obtain ⟨ht, ht0⟩ := top_div ux hm
    obtain ⟨y, hy⟩ : ∃ y, xs.getD m 0 = y := ⟨_, rfl⟩
    have uy : U32 y := hy ▸ ux.at m
    rw [hy] at ht ht0
    have hs := bitLen_shift (val xs).toNat (32 * m) (by rw [ht]; exact ht0)
    rw [ht] at hs
    have HB : Hid (bitLen (val xs).toNat = 32 * m + bitLen y.toNat) := hs
    rcases h1 with rfl | ⟨b, o, rfl, hb, hr⟩
    · simp at hl; omega
    have hcy : w.cell? ⟨b, o + m, none⟩ = some (.int .u32 y) := by rw [← hy]; exact hr m (by omega)
    have hb32 : bitLen y.toNat ≤ 32 := by
      have := bitLen_spec y.toNat
      apply Classical.byContradiction; intro hc
      have h2 := this.2 (by omega)
      have h3 : 2 ^ 32 ≤ 2 ^ (bitLen y.toNat - 1) := Nat.pow_le_pow_right (by decide) (by omega)
      obtain ⟨u1, u2⟩ := uy
      omega
    obtain ⟨bl, hbl⟩ : ∃ bl, bitLen y.toNat = bl := ⟨_, rfl⟩
    have hcall := Len32_any y uy w
    rw [hbl] at hb32 hcall
    have HB2 : Hid (bitLen (val xs).toNat = 32 * m + bl) := by rw [← hbl]; exact HB.out
    have hmx : m < xs.length := by omega
    clear hs ht ht0 hr h0 hm hy hx hl HB hbl
    go_enter Tryz.func102, Tryz.ntmps102
    go_wp2_with (first
      | (go_at_call 73; refine (length_len _ _ hlen).mono ?_; rintro e w' ⟨rfl, rfl⟩)
      | (go_at_call 131; refine hcall.mono ?_; rintro e w' ⟨rfl, rfl⟩))
    go_ret
    exact ⟨ret_int (by rw [HB2.out]; simp), Below.refl _ _⟩
theorem getD_div (xs : List Int) (i : Nat) (hu : U32s xs) : (val xs).toNat / 2 ^ (32 * i) % 4294967296 = (xs.getD i 0).toNat := by
  induction i generalizing xs with
  | zero =>
    rw [val_head_tail]
    have h1 := hu.at 0; unfold U32 at h1
    have h2 := val_nonneg hu.tl
    simp only [Nat.mul_zero, Nat.pow_zero, Nat.div_one]; omega
  | succ i ih =>
    have := ih xs.tail hu.tl
    rw [getD_tail] at this
    rw [← this, val_head_tail xs]
    have h1 := hu.at 0; unfold U32 at h1
    have h2 := val_nonneg hu.tl
    rw [Nat.mul_add, Nat.mul_one, Nat.add_comm, Nat.pow_add, ← Nat.div_div_eq_div_mul]
    congr 2; omega
/-- The number of bytes, the lowest first. -/
def bv : List Int → Int
  | [] => 0
  | x :: xs => x + 256 * bv xs
theorem U8s.tail {x : Int} {xs : List Int} (h : U8s (x :: xs)) : U8s xs := fun y hy => h y (by simp [hy])
theorem U8s.rev {xs : List Int} (h : U8s xs) : U8s xs.reverse := fun y hy => h y (by simpa using hy)
theorem bv_bound {xs : List Int} (h : U8s xs) : 0 ≤ bv xs ∧ bv xs < 256 ^ xs.length := by
  induction xs with
  | nil => simp [bv]
  | cons x xs ih =>
    have h1 := ih h.tail; have h2 := h x (by simp)
    unfold U8 at h2
    simp only [bv, List.length_cons, Int.pow_succ, Int.mul_comm _ (256 : Int)]; omega
theorem bv_append (xs ys : List Int) : bv (xs ++ ys) = bv xs + 256 ^ xs.length * bv ys := by
  induction xs with
  | nil => simp [bv]
  | cons x xs ih =>
    simp only [List.cons_append, bv, ih, List.length_cons, Int.pow_succ, Int.mul_comm _ (256 : Int), Int.mul_add, Int.mul_assoc]; omega
theorem bv_take_succ (xs : List Int) (k : Nat) (h : k < xs.length) : bv (xs.take (k + 1)) = bv (xs.take k) + 256 ^ k * xs.getD k 0 := by
  rw [take_snoc xs k h, bv_append, List.length_take, Nat.min_eq_left (by omega)]; simp [bv]
theorem pow256 (i : Nat) : (256 : Int) ^ i = 4294967296 ^ (i / 4) * 2 ^ (i % 4 * 8) := by
  have e1 : (256 : Int) = 2 ^ 8 := by decide
  have e2 : (4294967296 : Int) = 2 ^ 32 := by decide
  rw [e1, e2, ← Int.pow_mul, ← Int.pow_mul, ← Int.pow_add]
  congr 1; omega
theorem wraps_u32 (n : Int) (h₀ : 0 ≤ n) (h₁ : n < 2 ^ 32) : IntKind.u32.wrap n = n := by rw [IntKind.wrap_u32]; omega
theorem Nor_low (s : Nat) (x y : Int) (hs : s ≤ 24) (hx0 : 0 ≤ x) (hx : x < 2 ^ s) (hy0 : 0 ≤ y) (hy : y < 256) : bits .or .u32 x (y * 2 ^ s) = x + y * 2 ^ s := by
  obtain ⟨a, rfl⟩ := Int.eq_ofNat_of_zero_le hx0
  obtain ⟨b, rfl⟩ := Int.eq_ofNat_of_zero_le hy0
  have ha : a < 2 ^ s := by exact_mod_cast hx
  have hb : b < 256 := by omega
  have hp : 2 ^ s ≤ 2 ^ 24 := Nat.pow_le_pow_right (by decide) hs
  have hm : b * 2 ^ s < 2 ^ 32 := by
    calc b * 2 ^ s ≤ 255 * 2 ^ s := Nat.mul_le_mul_right _ (by omega)
      _ ≤ 255 * 2 ^ 24 := Nat.mul_le_mul_left _ hp
      _ < 2 ^ 32 := by decide
  have h := (bits_nat .u32 32 (by decide) wraps_u32 a (b * 2 ^ s) (by omega) hm).2
  have e : ((b * 2 ^ s : Nat) : Int) = (b : Int) * 2 ^ s := by simp
  rw [e] at h
  rw [h, Nat.or_comm, Nat.mul_comm b, ← Nat.two_pow_add_eq_or_of_lt ha b]
  simp only [Int.natCast_add, Int.natCast_mul, Int.natCast_pow]
  rw [Int.mul_comm (b : Int)]; simp [Int.add_comm]
theorem shl_fits (s : Nat) (y : Int) (hs : s ≤ 24) (hy0 : 0 ≤ y) (hy : y < 256) : 0 ≤ y * 2 ^ s ∧ y * 2 ^ s < 4294967296 := by
  have hp0 : (0 : Int) < 2 ^ s := Int.pow_pos (by decide)
  have hp : (2 : Int) ^ s ≤ 2 ^ 24 := by exact_mod_cast Nat.pow_le_pow_right (n := 2) (by decide) hs
  refine ⟨Int.mul_nonneg hy0 (Int.le_of_lt hp0), ?_⟩
  calc y * 2 ^ s ≤ 255 * 2 ^ s := Int.mul_le_mul_of_nonneg_right (by omega) (Int.le_of_lt hp0)
    _ ≤ 255 * 2 ^ 24 := Int.mul_le_mul_of_nonneg_left hp (by decide)
    _ < 4294967296 := by decide
theorem or_fits (s : Nat) (z y : Int) (hs : s ≤ 24) (hz : z < 2 ^ s) (hy : y < 256) : z + y * 2 ^ s < 4294967296 := by
  have hp0 : (0 : Int) < 2 ^ s := Int.pow_pos (by decide)
  have hp : (2 : Int) ^ s ≤ 2 ^ 24 := by exact_mod_cast Nat.pow_le_pow_right (n := 2) (by decide) hs
  have h1 : y * 2 ^ s ≤ 255 * 2 ^ s := Int.mul_le_mul_of_nonneg_right (by omega) (Int.le_of_lt hp0)
  omega
/-- The limb under way has no bit above those read. -/
theorem limb_low {S : List Int} {i : Nat} (hu : U32s S) (hv : val S < 256 ^ i) : S.getD (i / 4) 0 < 2 ^ (i % 4 * 8) := by
  have h := getD_div S (i / 4) hu
  have h0 := val_nonneg hu
  have h1 := hu.at (i / 4)
  rw [pow256, pow32] at hv
  obtain ⟨n, hn⟩ := Int.eq_ofNat_of_zero_le h0
  obtain ⟨z, hz⟩ := Int.eq_ofNat_of_zero_le h1.1
  rw [hn, hz] at h
  rw [hz]
  rw [hn] at hv
  have hv2 : n < 2 ^ (32 * (i / 4)) * 2 ^ (i % 4 * 8) := by exact_mod_cast hv
  simp only [Int.toNat_natCast] at h
  have h2 : n / 2 ^ (32 * (i / 4)) < 2 ^ (i % 4 * 8) := by
    rw [Nat.div_lt_iff_lt_mul (Nat.two_pow_pos _), Nat.mul_comm]; exact hv2
  have h3 : z ≤ n / 2 ^ (32 * (i / 4)) := by rw [← h]; exact Nat.mod_le _ _
  exact_mod_cast Nat.lt_of_le_of_lt h3 h2
def fromS (bs : List Int) : List Int × Int := if 2048 < bs.length then ([], 3) else (lim (bv bs.reverse).toNat, 0)
set_option maxHeartbeats 2000000 in
theorem FromBytes_any (bs : List Int) (v : Value) (w : World) (hb : Sl .u8 w v bs) (ub : U8s bs) :
    Calls Tryz.prog 30 #[v] w fun e w' => Two w.heap.size w' e (fromS bs) ∧ Below w.heap.size w w' := by
  obtain ⟨a, c, rfl, hc, hbr⟩ := hb
  by_cases hlong : 2048 < bs.length
  · have HL : Hid (fromS bs = ([], 3)) := by unfold fromS; rw [if_pos hlong]; rfl
    go_enter Tryz.func30, Tryz.ntmps30
    go_wp2
    go_ret2
    exact ⟨Two.nil' HL.out, Below.refl _ _⟩
  have HL : Hid (fromS bs = (lim (bv bs.reverse).toNat, 0)) := by unfold fromS; rw [if_neg hlong]; rfl
  obtain ⟨n, hn⟩ : ∃ n, bs.length = n := ⟨_, rfl⟩
  have HN : Hid (bs.length = n) := hn
  rw [hn] at hlong hc ⊢
  go_enter Tryz.func30, Tryz.ntmps30
  go_wp2_with (at_make; refine wpList_mk _ rfl _ _ 22 rfl .u32 39 4 Tryz.und32 Tryz.info32 _ ((n + 3) / 4) rfl rfl (by omega) (by omega) (by omega) ?_; intro w1 hA1 hB1)
  go_loopw [16] (fun iv wr => ∃ (i : Nat) (S : List Int), iv = .int .i64 i ∧ i ≤ n ∧ Arr .u32 39 wr w.heap.size S ∧ U32s S ∧ S.length = (n + 3) / 4 ∧ Below w.heap.size w wr ∧ val S = bv (bs.reverse.take i))
      (fun iv _ => n - (intOf iv).toNat)
  case atStart => exact ⟨0, _, rfl, Nat.zero_le _, hA1, U32s.zeros _, by simp, hB1, by simp [val_zeros, bv]⟩
  case round =>
    clear hA1 hB1
    obtain ⟨i, S, rfl, hi, hA, huS, hlS, hB, hv⟩ := hrel
    by_cases hlt : i < n
    · rcases hbr with rfl | ⟨b, o, rfl, hb, hr⟩
      · simp at hn; omega
      obtain ⟨m, hm⟩ : ∃ m, n - 1 - i = m := ⟨_, rfl⟩
      obtain ⟨q, hq⟩ : ∃ q, i / 4 = q := ⟨_, rfl⟩
      obtain ⟨s, hs⟩ : ∃ s, i % 4 * 8 = s := ⟨_, rfl⟩
      obtain ⟨y, hy⟩ : ∃ y, bs.getD m 0 = y := ⟨_, rfl⟩
      obtain ⟨z, hz⟩ : ∃ z, S.getD q 0 = z := ⟨_, rfl⟩
      have uy : U8 y := hy ▸ ub.at m
      have uz : U32 z := hz ▸ huS.at q
      have hcy : wr.cell? ⟨b, o + m, none⟩ = some (.int .u8 y) := by rw [← hy]; exact (below_rd hB hb hr) m (by omega)
      have hcz : wr.cell? ⟨w.heap.size, q, none⟩ = some (.int .u32 z) := by rw [← hz]; exact hA.cell q (by omega)
      have hfz : wr.frozen? ⟨w.heap.size, q, none⟩ = false := hA.frozen q
      have hlow : z < 2 ^ s := by
        rw [← hz, ← hq, ← hs]
        refine limb_low huS ?_
        rw [hv]; have := (bv_bound (ub.rev.take i)).2
        rw [List.length_take, Nat.min_eq_left (by simp; omega)] at this; exact this
      have hs24 : s ≤ 24 := by omega
      obtain ⟨y0, y1⟩ := uy
      obtain ⟨z0, z1⟩ := uz
      have hor := Nor_low s z y hs24 z0 hlow y0 y1
      obtain ⟨f0, f1⟩ := shl_fits s y hs24 y0 y1
      have hqi : (i : Int) / 4 = q := by omega
      have hsi : (i : Int) % 4 * 8 = s := by omega
      have hmi : (n : Int) - 1 - i = m := by omega
      have hqs : q < (n + 3) / 4 := by omega
      have hmn : m < n := by omega
      have HH : Hid (bs.getD m 0 = y ∧ S.getD q 0 = z ∧ Arr .u32 39 wr w.heap.size S ∧ U32s S ∧ S.length = (n + 3) / 4 ∧ Below w.heap.size w wr ∧ val S = bv (bs.reverse.take i) ∧ n - 1 - i = m ∧ i / 4 = q ∧ i % 4 * 8 = s) := ⟨hy, hz, hA, huS, hlS, hB, hv, hm, hq, hs⟩
      clear hy hz hA huS hlS hB hv hm hq hs hr hn hlow
      go_wp2
      go_region
      go_wp2
      go_roundw
      case rel =>
        obtain ⟨hy, hz, hA, huS, hlS, hB, hv, hm, hq, hs⟩ := HH.out
        refine ⟨i + 1, S.set q (z + y * 2 ^ s), by go_num, by omega, ?_, huS.set _ ⟨by omega, ?_⟩, by simpa using hlS, ?_, ?_⟩
        · exact hA.set _ _
        · have h1 := limb_low (i := i) huS (by
            rw [hv]; have := (bv_bound (ub.rev.take i)).2
            rw [List.length_take, Nat.min_eq_left (by simp; have := HN.out; omega)] at this; exact this)
          rw [hq, hs, hz] at h1
          exact or_fits s z y hs24 h1 y1
        · exact (hB.trans ⟨rfl, rfl, rfl, Nat.le_refl _, fun _ _ => rfl⟩ : Below w.heap.size w wr.drew).setCell (Nat.le_refl _) _
        · have hrl : i < bs.reverse.length := by simp; have := HN.out; omega
          rw [val_set (by omega), hz, bv_take_succ _ _ hrl, hv, pow256, hq, hs]
          have e : bs.reverse.getD i 0 = y := by
            have hnn := HN.out
            rw [← hy, ← hm, List.getD_eq_getElem?_getD, List.getElem?_reverse (by omega), hnn, ← List.getD_eq_getElem?_getD]
          rw [e, show z + y * 2 ^ s - z = y * 2 ^ s by omega, Int.mul_assoc, Int.mul_comm (2 ^ s) y]
      case measure => simp [intOf]; omega
    · have hin : i = n := by omega
      have hsl := hA.sl
      rw [hlS] at hsl
      have hcut := cut_any S (some ⟨w.heap.size, 0, none⟩) ((n + 3) / 4) wr (by rw [hlS]; exact hsl) (by omega)
      rw [hlS] at hcut
      have HS : Hid (Arr .u32 39 wr w.heap.size S ∧ U32s S ∧ S.length = (n + 3) / 4 ∧ Below w.heap.size w wr ∧ val S = bv (bs.reverse.take i) ∧ i = n) := ⟨hA, huS, hlS, hB, hv, hin⟩
      clear hA huS hB hv hsl hlS hin
      go_wp2_with (go_at_call 70; refine hcut.mono ?_; rintro e w4 ⟨rfl, rfl⟩)
      go_ret2
      obtain ⟨hA, huS, hlS, hB, hv, rfl⟩ := HS.out
      have hO := Own.cut (B := w.heap.size) hA huS (Nat.le_refl _) (by omega)
      rw [hlS, hv, List.take_of_length_le (by simp; have := HN.out; omega)] at hO
      exact ⟨Two.mk' hO HL.out, hB⟩
end Go.Proofs.YtedoghjefdkmaaaGreat
/-
  Lists of digits of 16 bits: their values, the digits of a number; limbs cut into digits, digits put together as limbs. No Go text in sight.
-/
namespace Go.Proofs.YtedoghjefdkmaaaGreat.D
/-! ### numbers as lists of digits -/
def U16 (x : Int) : Prop := 0 ≤ x ∧ x < 65536
def U16s (xs : List Int) : Prop := ∀ x ∈ xs, U16 x
def val : List Int → Int
  | [] => 0
  | x :: xs => x + 65536 * val xs
def sig : List Int → Nat
  | [] => 0
  | x :: xs => if sig xs = 0 then (if x = 0 then 0 else 1) else sig xs + 1
def limF : Nat → Nat → List Int
  | 0, _ => []
  | f + 1, n => if n = 0 then [] else ((n % 65536 : Nat) : Int) :: limF f (n / 65536)
/-- The digits of a number, the lowest first. -/
def lim (n : Nat) : List Int := limF n n

theorem U16s.at {xs : List Int} (h : U16s xs) (i : Nat) : U16 (xs.getD i 0) := by
  by_cases hi : i < xs.length
  · simp [hi]; exact h _ (List.getElem_mem hi)
  · simp [List.getD, List.getElem?_eq_none (Nat.le_of_not_lt hi), U16]
theorem U16s.nil : U16s [] := by intro x hx; simp at hx
theorem U16s.cons {x : Int} {xs : List Int} (h : U16 x) (hs : U16s xs) : U16s (x :: xs) := by
  intro y hy; rcases List.mem_cons.1 hy with rfl | hy
  · exact h
  · exact hs y hy
theorem U16s.head {x : Int} {xs : List Int} (h : U16s (x :: xs)) : U16 x := h x (by simp)
theorem U16s.tail {x : Int} {xs : List Int} (h : U16s (x :: xs)) : U16s xs := fun y hy => h y (by simp [hy])
theorem U16s.take {xs : List Int} (h : U16s xs) (n : Nat) : U16s (xs.take n) := fun y hy => h y (List.mem_of_mem_take hy)
theorem U16s.drop {xs : List Int} (h : U16s xs) (n : Nat) : U16s (xs.drop n) := fun y hy => h y (List.mem_of_mem_drop hy)
theorem U16s.append {xs ys : List Int} (h : U16s xs) (k : U16s ys) : U16s (xs ++ ys) := by
  intro y hy; rcases List.mem_append.1 hy with hy | hy
  · exact h y hy
  · exact k y hy
theorem U16s.set {xs : List Int} (h : U16s xs) (i : Nat) {x : Int} (hx : U16 x) : U16s (xs.set i x) := by
  intro y hy; rcases List.mem_or_eq_of_mem_set hy with hy | rfl
  · exact h y hy
  · exact hx
theorem U16s.zeros (n : Nat) : U16s (List.replicate n 0) := by
  intro y hy; rw [(List.mem_replicate.1 hy).2]; exact ⟨by decide, by decide⟩

theorem val_nonneg {xs : List Int} (h : U16s xs) : 0 ≤ val xs := by
  induction xs with
  | nil => simp [val]
  | cons x xs ih => have := ih h.tail; have := h.head.1; simp only [val]; omega
theorem pow_succ16 (n : Nat) : (65536 : Int) ^ (n + 1) = 65536 * 65536 ^ n := by rw [Int.pow_succ, Int.mul_comm]
theorem pow_pos16 (n : Nat) : (0 : Int) < 65536 ^ n := Int.pow_pos (by decide)
theorem val_lt {xs : List Int} (h : U16s xs) : val xs < 65536 ^ xs.length := by
  induction xs with
  | nil => simp [val]
  | cons x xs ih => have := ih h.tail; have h1 := h.head; unfold U16 at h1; simp only [val, List.length_cons, pow_succ16]; omega
theorem val_append (xs ys : List Int) : val (xs ++ ys) = val xs + 65536 ^ xs.length * val ys := by
  induction xs with
  | nil => simp [val]
  | cons x xs ih => simp only [List.cons_append, val, ih, List.length_cons, pow_succ16, Int.mul_add, Int.mul_assoc]; omega
theorem val_zeros (n : Nat) : val (List.replicate n 0) = 0 := by
  induction n with
  | zero => rfl
  | succ n ih => simp [List.replicate_succ, val, ih]
theorem sig_le (xs : List Int) : sig xs ≤ xs.length := by
  induction xs with
  | nil => simp [sig]
  | cons x xs ih => simp only [sig, List.length_cons]; split <;> (try split) <;> omega
theorem val_of_sig0 {xs : List Int} (h : sig xs = 0) : val xs = 0 := by
  induction xs with
  | nil => rfl
  | cons x xs ih =>
    simp only [sig] at h
    split at h
    · split at h
      · rename_i h1 h2; simp [val, h2, ih h1]
      · omega
    · omega
theorem sig0_of_val {xs : List Int} (hu : U16s xs) (h : val xs = 0) : sig xs = 0 := by
  induction xs with
  | nil => rfl
  | cons x xs ih =>
    have h1 := val_nonneg hu.tail; have h2 := hu.head; unfold U16 at h2
    simp only [val] at h
    have hv : val xs = 0 := by omega
    have hx : x = 0 := by omega
    simp [sig, ih hu.tail hv, hx]
theorem val_take_sig (xs : List Int) : val (xs.take (sig xs)) = val xs := by
  induction xs with
  | nil => rfl
  | cons x xs ih =>
    simp only [sig]
    split
    · rename_i h
      split
      · rename_i hx; simp [val, hx, val_of_sig0 h]
      · simp [val, val_of_sig0 h]
    · simp [val, ih]
/-- What 'length' finds is 'sig'. -/
theorem sig_eq {xs : List Int} {k : Nat} (hk : k ≤ xs.length) (h0 : ∀ j, k ≤ j → j < xs.length → xs.getD j 0 = 0) (h1 : k = 0 ∨ xs.getD (k - 1) 0 ≠ 0) : sig xs = k := by
  induction xs generalizing k with
  | nil => simp at hk; simp [sig, hk]
  | cons x xs ih =>
    cases k with
    | zero =>
      have hs : sig xs = 0 := ih (k := 0) (Nat.zero_le _) (fun j _ hj => by simpa using h0 (j + 1) (Nat.zero_le _) (by simpa using hj)) (.inl rfl)
      have hx : x = 0 := by simpa using h0 0 (Nat.le_refl _) (by simp)
      simp [sig, hs, hx]
    | succ k =>
      have hkl : k ≤ xs.length := by simpa using hk
      have hz : ∀ j, k ≤ j → j < xs.length → xs.getD j 0 = 0 := fun j hj hl => by simpa using h0 (j + 1) (by omega) (by simpa using hl)
      cases k with
      | zero =>
        have hs : sig xs = 0 := ih (k := 0) (Nat.zero_le _) hz (.inl rfl)
        have hx : x ≠ 0 := by simpa using h1
        simp [sig, hs, hx]
      | succ k =>
        have hs : sig xs = k + 1 := ih hkl hz (.inr (by simpa using h1))
        simp [sig, hs]
theorem sig_last {xs : List Int} (h : 0 < sig xs) : xs.getD (sig xs - 1) 0 ≠ 0 := by
  induction xs with
  | nil => simp [sig] at h
  | cons x xs ih =>
    simp only [sig] at h ⊢
    split
    · rename_i h1
      split
      · rename_i h2; simp [h1, h2] at h
      · rename_i h2; simpa using h2
    · rename_i h1
      have := ih (by omega)
      obtain ⟨m, hm⟩ : ∃ m, sig xs = m + 1 := ⟨sig xs - 1, by omega⟩
      rw [hm] at this ⊢
      simpa using this
theorem sig_take {xs : List Int} : sig (xs.take (sig xs)) = sig xs := by
  have hl := sig_le xs
  refine sig_eq (by simp; omega) (fun j h1 h2 => by simp at h2; omega) ?_
  by_cases h : sig xs = 0
  · exact .inl h
  · refine .inr ?_
    have := sig_last (xs := xs) (by omega)
    rw [List.getD_eq_getElem?_getD, List.getElem?_take, if_pos (by omega), ← List.getD_eq_getElem?_getD]; exact this
theorem limF_fuel (f : Nat) : ∀ g n, n ≤ f → n ≤ g → limF f n = limF g n := by
  induction f with
  | zero =>
    intro g n h1 _
    have : n = 0 := by omega
    subst this
    cases g <;> simp [limF]
  | succ f ih =>
    intro g n h1 h2
    cases g with
    | zero =>
      have : n = 0 := by omega
      subst this; simp [limF]
    | succ g =>
      simp only [limF]
      split
      · rfl
      · rw [ih g (n / 65536) (by omega) (by omega)]
theorem lim_zero : lim 0 = [] := rfl
theorem lim_pos {n : Nat} (h : n ≠ 0) : lim n = ((n % 65536 : Nat) : Int) :: lim (n / 65536) := by
  obtain ⟨m, rfl⟩ : ∃ m, n = m + 1 := ⟨n - 1, by omega⟩
  unfold lim
  rw [limF, if_neg h, limF_fuel m ((m + 1) / 65536) ((m + 1) / 65536) (by omega) (Nat.le_refl _)]
theorem lim_u16 (n : Nat) : U16s (lim n) := by
  induction n using Nat.strongRecOn with
  | _ n ih =>
    by_cases h : n = 0
    · subst h; rw [lim_zero]; exact U16s.nil
    · rw [lim_pos h]; exact U16s.cons ⟨by omega, by omega⟩ (ih _ (by omega))
theorem val_lim (n : Nat) : val (lim n) = n := by
  induction n using Nat.strongRecOn with
  | _ n ih =>
    by_cases h : n = 0
    · subst h; rw [lim_zero]; rfl
    · rw [lim_pos h]; simp only [val]; rw [ih _ (by omega)]; omega
theorem sig_lim (n : Nat) : sig (lim n) = (lim n).length := by
  induction n using Nat.strongRecOn with
  | _ n ih =>
    by_cases h : n = 0
    · subst h; rw [lim_zero]; rfl
    · rw [lim_pos h]
      have h1 := ih (n / 65536) (by omega)
      simp only [sig, List.length_cons, h1]
      split
      · rename_i h0
        have h2 : lim (n / 65536) = [] := List.eq_nil_of_length_eq_zero h0
        have h3 := val_lim (n / 65536); rw [h2] at h3; simp [val] at h3
        split <;> simp [h2] <;> omega
      · rfl
/-- A list without a digit 0 at its end is told by its value. -/
theorem lim_val {xs : List Int} (hu : U16s xs) (h : sig xs = xs.length) : lim (val xs).toNat = xs := by
  induction xs with
  | nil => simp [val, lim_zero]
  | cons x xs ih =>
    have hx := hu.head; unfold U16 at hx
    have hv := val_nonneg hu.tail
    have h2 : sig xs = xs.length := by
      simp only [sig, List.length_cons] at h
      split at h
      · rename_i h0; split at h <;> omega
      · omega
    have hne : (val (x :: xs)).toNat ≠ 0 := by
      intro h0
      have : val (x :: xs) = 0 := by have := val_nonneg hu; omega
      have := sig0_of_val hu this
      simp at h; omega
    rw [lim_pos hne]
    have e1 : (val (x :: xs)).toNat % 65536 = x.toNat := by simp only [val]; omega
    have e2 : (val (x :: xs)).toNat / 65536 = (val xs).toNat := by simp only [val]; omega
    rw [e1, e2, ih hu.tail h2]; congr 1; omega
theorem take_sig_lim {xs : List Int} (hu : U16s xs) : xs.take (sig xs) = lim (val xs).toNat := by
  have := lim_val (hu.take (sig xs)) (by rw [sig_take]; simp; have := sig_le xs; omega)
  rw [val_take_sig] at this; exact this.symm
theorem lim_len_le {n : Nat} {k : Nat} (h : (n : Int) < 65536 ^ k) : (lim n).length ≤ k := by
  induction k generalizing n with
  | zero => have : n = 0 := by simp at h; omega
            subst this; simp [lim_zero]
  | succ k ih =>
    by_cases h0 : n = 0
    · subst h0; simp [lim_zero]
    · rw [lim_pos h0, List.length_cons]
      have : ((n / 65536 : Nat) : Int) < 65536 ^ k := by rw [pow_succ16] at h; omega
      have := ih this; omega

theorem pow_mono {i j : Nat} (h : i ≤ j) : (65536 : Int) ^ i ≤ 65536 ^ j := by
  induction j with
  | zero => have : i = 0 := by omega
            subst this; exact Int.le_refl _
  | succ j ih =>
    by_cases hj : i = j + 1
    · subst hj; exact Int.le_refl _
    · have h1 := ih (by omega); have h2 := pow_pos16 j; rw [pow_succ16]; omega
theorem lim_fits {n : Int} {k : Nat} (h0 : 0 ≤ n) (h : n < 65536 ^ k) : (lim n.toNat).length ≤ k := lim_len_le (by rw [Int.toNat_of_nonneg h0]; exact h)
theorem val_limI {n : Int} (h0 : 0 ≤ n) : val (lim n.toNat) = n := by rw [val_lim, Int.toNat_of_nonneg h0]
theorem len_val {n : Nat} : ((lim n).length = 0) ↔ n = 0 := by
  constructor
  · intro h
    have h1 := val_lim n
    rw [List.eq_nil_of_length_eq_zero h] at h1; simp [val] at h1; omega
  · rintro rfl; rfl
/-- A number of k digits, the highest of which is not 0, is at least 65536 ^ (k - 1). -/
theorem lim_ge {n : Nat} {k : Nat} (h : (lim n).length = k + 1) : (65536 : Int) ^ k ≤ n := by
  apply Decidable.byContradiction
  intro hc
  have := lim_len_le (n := n) (k := k) (by omega)
  omega
theorem sig_tail {x : Int} {xs : List Int} (h : sig (x :: xs) = (x :: xs).length) : sig xs = xs.length := by
  simp only [sig, List.length_cons] at h
  split at h
  · rename_i h0; split at h <;> omega
  · omega
theorem val_snoc (xs : List Int) (x : Int) : val (xs ++ [x]) = val xs + 65536 ^ xs.length * x := by rw [val_append]; simp [val]
theorem take_snoc (xs : List Int) {i : Nat} (h : i < xs.length) : xs.take (i + 1) = xs.take i ++ [xs.getD i 0] := by
  rw [List.take_add_one, List.getElem?_eq_getElem h]; simp [List.getD, List.getElem?_eq_getElem h]
theorem val_take_succ (xs : List Int) (i : Nat) : val (xs.take (i + 1)) = val (xs.take i) + 65536 ^ i * xs.getD i 0 := by
  by_cases h : i < xs.length
  · rw [take_snoc xs h, val_snoc]; rw [List.length_take, Nat.min_eq_left (by omega)]
  · rw [List.take_of_length_le (by omega), List.take_of_length_le (by omega)]; simp [List.getD, List.getElem?_eq_none (Nat.le_of_not_lt h)]
theorem val_ext : ∀ (xs ys : List Int), (∀ j, xs.getD j 0 = ys.getD j 0) → val xs = val ys
  | [], [], _ => rfl
  | x :: xs, [], h => by
    have h0 := h 0; have := val_ext xs [] (fun j => by simpa using h (j + 1)); simp at h0; simp [val] at this ⊢; omega
  | [], y :: ys, h => by
    have h0 := h 0; have := val_ext [] ys (fun j => by simpa using h (j + 1)); simp at h0; simp [val] at this ⊢; omega
  | x :: xs, y :: ys, h => by
    have h0 := h 0; have := val_ext xs ys (fun j => by simpa using h (j + 1)); simp at h0; simp [val]; omega
theorem getD_tail (xs : List Int) (j : Nat) : xs.tail.getD j 0 = xs.getD (j + 1) 0 := by cases xs <;> simp
theorem val_head_tail (xs : List Int) : val xs = xs.getD 0 0 + 65536 * val xs.tail := by cases xs <;> simp [val]
theorem U16s.tl {xs : List Int} (h : U16s xs) : U16s xs.tail := fun y hy => h y (List.mem_of_mem_tail hy)
theorem val_lt_of (i : Nat) : ∀ (xs ys : List Int), U16s xs → U16s ys → (∀ j, i < j → xs.getD j 0 = ys.getD j 0) → xs.getD i 0 < ys.getD i 0 → val xs < val ys := by
  induction i with
  | zero =>
    intro xs ys ux uy h hlt
    have := val_ext xs.tail ys.tail (fun j => by rw [getD_tail, getD_tail]; exact h (j + 1) (by omega))
    rw [val_head_tail xs, val_head_tail ys]; omega
  | succ i ih =>
    intro xs ys ux uy h hlt
    have := ih xs.tail ys.tail ux.tl uy.tl (fun j hj => by rw [getD_tail, getD_tail]; exact h (j + 1) (by omega)) (by rw [getD_tail, getD_tail]; exact hlt)
    have h1 := ux.at 0; have h2 := uy.at 0
    unfold U16 at h1 h2
    rw [val_head_tail xs, val_head_tail ys]; omega
end Go.Proofs.YtedoghjefdkmaaaGreat.D
namespace Go.Proofs.YtedoghjefdkmaaaGreat
def split : List Int → List Int
  | [] => []
  | x :: xs => x % 65536 :: x / 65536 :: split xs
theorem split_length (xs : List Int) : (split xs).length = 2 * xs.length := by
  induction xs with
  | nil => rfl
  | cons x xs ih => simp only [split, List.length_cons, ih]; omega
theorem split_val (xs : List Int) : D.val (split xs) = val xs := by
  induction xs with
  | nil => rfl
  | cons x xs ih => simp only [split, D.val, val, ih]; omega
theorem split_u16 {xs : List Int} (h : U32s xs) : D.U16s (split xs) := by
  induction xs with
  | nil => exact D.U16s.nil
  | cons x xs ih =>
    have hx := h.head; unfold U32 at hx
    exact D.U16s.cons ⟨by omega, by omega⟩ (D.U16s.cons ⟨by omega, by omega⟩ (ih h.tail))
theorem split_append (xs ys : List Int) : split (xs ++ ys) = split xs ++ split ys := by
  induction xs with
  | nil => rfl
  | cons x xs ih => simp only [List.cons_append, split, ih]
theorem split_snoc (xs : List Int) {i : Nat} (h : i < xs.length) : split (xs.take (i + 1)) = split (xs.take i) ++ [xs.getD i 0 % 65536, xs.getD i 0 / 65536] := by
  rw [D.take_snoc xs h, split_append]; rfl
def join : List Int → List Int
  | [] => []
  | [d] => [d]
  | d :: e :: r => (d + 65536 * e) :: join r
theorem join_val (n : Nat) : ∀ ds : List Int, ds.length ≤ n → val (join ds) = D.val ds := by
  induction n with
  | zero => intro ds h; have : ds = [] := List.eq_nil_of_length_eq_zero (by omega); subst this; rfl
  | succ n ih =>
    intro ds h
    match ds with
    | [] => rfl
    | [d] => simp [join, val, D.val]
    | d :: e :: r => simp only [join, val, D.val]; rw [ih r (by simp at h; omega)]; omega
theorem join_u32 (n : Nat) : ∀ ds : List Int, ds.length ≤ n → D.U16s ds → U32s (join ds) := by
  induction n with
  | zero => intro ds h _; have : ds = [] := List.eq_nil_of_length_eq_zero (by omega); subst this; exact U32s.nil
  | succ n ih =>
    intro ds h hu
    match ds with
    | [] => exact U32s.nil
    | [d] => have := hu.head; unfold D.U16 at this; exact U32s.cons ⟨by omega, by omega⟩ U32s.nil
    | d :: e :: r =>
      have h1 := hu.head; have h2 := hu.tail.head; unfold D.U16 at h1 h2
      exact U32s.cons ⟨by omega, by omega⟩ (ih r (by simp at h; omega) hu.tail.tail)
theorem join_sig (n : Nat) : ∀ ds : List Int, ds.length ≤ n → D.U16s ds → D.sig ds = ds.length → sig (join ds) = (join ds).length := by
  induction n with
  | zero => intro ds h _ _; have : ds = [] := List.eq_nil_of_length_eq_zero (by omega); subst this; rfl
  | succ n ih =>
    intro ds h hu hs
    match ds with
    | [] => rfl
    | [d] =>
      simp only [D.sig, List.length_cons, List.length_nil] at hs
      simp only [join, sig, List.length_cons, List.length_nil]
      by_cases hd : d = 0
      · simp [hd] at hs
      · simp [hd]
    | d :: e :: r =>
      have h1 := hu.head; have h2 := hu.tail.head; unfold D.U16 at h1 h2
      have hr : D.sig r = r.length := by
        exact D.sig_tail (D.sig_tail hs)
      have hj := ih r (by simp at h; omega) hu.tail.tail hr
      simp only [join, sig, List.length_cons, hj]
      split
      · rename_i h0
        have hr0 : r = [] := by
          match r with
          | [] => rfl
          | [x] => simp [join] at h0
          | x :: y :: z => simp [join] at h0
        subst hr0
        have he : e ≠ 0 := by
          intro he
          have := D.sig_tail hs
          simp [D.sig, he] at this
        rw [if_neg (by omega)]; omega
      · rfl
theorem join_lim (n : Nat) : join (D.lim n) = lim n := by
  have hu := join_u32 _ (D.lim n) (Nat.le_refl _) (D.lim_u16 n)
  have hs := join_sig _ (D.lim n) (Nat.le_refl _) (D.lim_u16 n) (D.sig_lim n)
  have hv := join_val _ (D.lim n) (Nat.le_refl _)
  have := lim_val hu hs
  rw [hv, D.val_lim] at this; simpa using this.symm
theorem join_snoc (k : Nat) : ∀ ds : List Int, 2 * k < ds.length → join (ds.take (2 * (k + 1))) = join (ds.take (2 * k)) ++ [ds.getD (2 * k) 0 + 65536 * ds.getD (2 * k + 1) 0] := by
  induction k with
  | zero =>
    intro ds h
    match ds with
    | [d] => simp [join]
    | d :: e :: r => simp [join]
  | succ k ih =>
    intro ds h
    match ds with
    | [d] => simp at h
    | d :: e :: r =>
      have := ih r (by simp at h; omega)
      have e1 : 2 * (k + 1 + 1) = 2 * (k + 1) + 2 := by omega
      have e2 : 2 * (k + 1) = 2 * k + 2 := by omega
      rw [e1, e2, List.take_succ_cons, List.take_succ_cons, List.take_succ_cons, List.take_succ_cons]
      simp only [join, List.cons_append]
      rw [show 2 * k + 2 = 2 * (k + 1) by omega, this]
      simp [show 2 * (k + 1) = 2 * k + 1 + 1 by omega]
theorem join_length_le (n : Nat) : ∀ ds : List Int, ds.length ≤ n → (join ds).length ≤ ds.length := by
  induction n with
  | zero => intro ds h; have : ds = [] := List.eq_nil_of_length_eq_zero (by omega); subst this; simp [join]
  | succ n ih =>
    intro ds h
    match ds with
    | [] => simp [join]
    | [d] => simp [join]
    | d :: e :: r => have := ih r (by simp at h; omega); simp only [join, List.length_cons]; omega
end Go.Proofs.YtedoghjefdkmaaaGreat
