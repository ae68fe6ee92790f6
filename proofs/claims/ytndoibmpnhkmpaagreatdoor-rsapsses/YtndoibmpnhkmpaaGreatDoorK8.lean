/-
  The walks of the reference's long, Trim, Cmp, Add, Sub, Mul: they answer what the program's functions answer.
-/
import Derived.Test.YtndoibmpnhkmpaaGreatDoorK7
namespace Go.Proofs.YtndoibmpnhkmpaaGreatDoor.Nt
open Go.RowKit

/-- A number and an error, as two results, in whatever memory. -/
def RTwo (w : World) (e : Ending) (s : List Int × Int) : Prop := ∃ r, e = .returned (.tuple #[r, .int .i64 s.2]) ∧ Sl .u32 w r s.1
theorem RTwo.nil' {w : World} {n : Int} {s : List Int × Int} (hs : s = ([], n)) : RTwo w (.returned (.tuple #[.slice none 0 0, .int .i64 n])) s := by
  subst hs; exact ⟨_, rfl, ⟨none, 0, rfl, Nat.le_refl _, .inl rfl⟩⟩
theorem RTwo.mk' {w : World} {r : Value} {n : Int} {L : List Int} {s : List Int × Int} (h : Sl .u32 w r L) (hs : s = (L, n)) : RTwo w (.returned (.tuple #[r, .int .i64 n])) s := by
  subst hs; exact ⟨r, rfl, h⟩
theorem pow16_32 (n : Nat) : (65536 : Int) ^ (2 * n) = 4294967296 ^ n := by rw [Int.pow_mul]; rfl

theorem long_any {w : World} (m : Nat) (v u : Value) (X Y : List Int) (hX : Sl .u32 w v X) (hY : Sl .u32 w u Y) (c : Bool) (hc : (decide (m < X.length) || decide (m < Y.length)) = c) :
    Calls Tryz.prog 72 #[.int .i64 m, v, u] w fun e w' => e = .returned (.bool c) ∧ w = w' := by
  obtain ⟨a, ca, hv, _⟩ := hX.len
  obtain ⟨b, cb, hu, _⟩ := hY.len
  subst hv; subst hu; subst hc
  by_cases h1 : m < X.length
  · have h1' : (m : Int) < (X.length : Int) := by omega
    go_enter Tryz.func72, Tryz.ntmps72
    go_wp2
    go_ret
    exact ⟨by simp [h1], rfl⟩
  have h1' : ¬ (m : Int) < (X.length : Int) := by omega
  by_cases h2 : m < Y.length
  · have h2' : (m : Int) < (Y.length : Int) := by omega
    go_enter Tryz.func72, Tryz.ntmps72
    go_wp2
    go_ret
    exact ⟨by simp, rfl⟩
  · have h2' : ¬ (m : Int) < (Y.length : Int) := by omega
    go_enter Tryz.func72, Tryz.ntmps72
    go_wp2
    go_ret
    exact ⟨by simp, rfl⟩

theorem RCmp_any {w : World} (v u : Value) (X Y : List Int) (hX : Sl .u32 w v X) (hY : Sl .u32 w u Y) (uX : U32s X) (uY : U32s Y) (lX : X.length ≤ 268435456) (lY : Y.length ≤ 268435456) (c : Int) (hc : cmpI (val X) (val Y) = c) :
    Calls Tryz.prog 38 #[v, u] w fun e w' => e = .returned (.int .i64 c) ∧ Below w.heap.size w w' := by
  have hBt : Below w.heap.size w w := Below.refl _ _
  obtain ⟨NX, hNX⟩ : ∃ n, val X = n := ⟨_, rfl⟩
  obtain ⟨NY, hNY⟩ : ∃ n, val Y = n := ⟨_, rfl⟩
  have HX : Hid (val X = NX) := hNX
  have HY : Hid (val Y = NY) := hNY
  have nX : 0 ≤ NX := hNX ▸ val_nonneg uX
  have nY : 0 ≤ NY := hNY ▸ val_nonneg uY
  have bX := val_lt uX; have bY := val_lt uY
  rw [hNX] at bX; rw [hNY] at bY
  have dX : (D.lim NX.toNat).length ≤ 2 * X.length := D.lim_fits nX (by rw [pow16_32]; exact bX)
  have dY : (D.lim NY.toNat).length ≤ 2 * Y.length := D.lim_fits nY (by rw [pow16_32]; exact bY)
  have HC : Hid (cmpI (D.val (D.lim NX.toNat)) (D.val (D.lim NY.toNat)) = c) := by rw [D.val_limI nX, D.val_limI nY, ← hNX, ← hNY]; exact hc
  clear hNX hNY bX bY nX nY hc
  go_enter Tryz.func38, Tryz.ntmps38
  go_wp2_with (first
    | (go_at_call 71; replace hp := hp; refine (Digits_any _ Y hY uY (by omega) NY HY.out).mono ?_; rintro e w' ⟨q, rfl, hq, hB⟩; replace hp := below_sl hB hp; replace hBt := grow0 hBt hB)
    | (go_at_call 71; refine (Digits_any _ X hX uX (by omega) NX HX.out).mono ?_; rintro e w' ⟨p, rfl, hp, hB⟩; replace hY := below_sl hB hY; replace hBt := grow0 hBt hB)
    | (go_at_call 70; refine (order_any _ _ _ _ hp hq (D.lim_u16 _) (D.lim_u16 _) (by omega) (by omega) c HC.out).mono ?_; rintro e w' ⟨rfl, rfl⟩))
  go_ret
  exact ⟨rfl, hBt⟩

end Go.Proofs.YtndoibmpnhkmpaaGreatDoor.Nt
/-
  The walk of the reference's Bits.
-/
namespace Go.Proofs.YtndoibmpnhkmpaaGreatDoor.D
theorem getD_div (xs : List Int) (i : Nat) (hu : U16s xs) : (val xs).toNat / 2 ^ (16 * i) % 65536 = (xs.getD i 0).toNat := by
  induction i generalizing xs with
  | zero =>
    rw [val_head_tail]
    have h1 := hu.at 0; unfold U16 at h1
    have h2 := val_nonneg hu.tl
    simp only [Nat.mul_zero, Nat.pow_zero, Nat.div_one]; omega
  | succ i ih =>
    have := ih xs.tail hu.tl
    rw [getD_tail] at this
    rw [← this, val_head_tail xs]
    have h1 := hu.at 0; unfold U16 at h1
    have h2 := val_nonneg hu.tl
    rw [Nat.mul_add, Nat.mul_one, Nat.add_comm, Nat.pow_add, ← Nat.div_div_eq_div_mul]
    congr 2; omega
theorem bit_eq (v i : Nat) : v / 2 ^ (16 * (i / 16)) % 65536 / 2 ^ (i % 16) % 2 = v / 2 ^ i % 2 := by
  have e : (65536 : Nat) = 2 ^ (i % 16) * 2 ^ (16 - i % 16) := by rw [← Nat.pow_add, show i % 16 + (16 - i % 16) = 16 by omega]
  have e2 : i = 16 * (i / 16) + i % 16 := by omega
  rw [e, Nat.mod_mul_right_div_self, Nat.div_div_eq_div_mul, ← Nat.pow_add, ← e2]
  have e3 : 2 ^ (16 - i % 16) = 2 * 2 ^ (15 - i % 16) := by rw [Nat.mul_comm, ← Nat.pow_succ]; congr 1; omega
  rw [e3, Nat.mod_mul_right_mod]
end Go.Proofs.YtndoibmpnhkmpaaGreatDoor.D
namespace Go.Proofs.YtndoibmpnhkmpaaGreatDoor.Nt
open Go.RowKit

theorem and1_64 (x : Int) (h0 : 0 ≤ x) (h1 : x < 18446744073709551616) : bits BinOp.and .u64 x 1 = x % 2 := by go_bits2
theorem bitLen_eq {n k : Nat} (h : n < 2 ^ (k + 1)) (h1 : n / 2 ^ k % 2 = 1) : bitLen n = k + 1 := by
  have h2 := bitLen_lt h
  have h3 := (bitLen_spec n).1
  have hge : 2 ^ k ≤ n := by
    apply Decidable.byContradiction; intro hc
    rw [Nat.div_eq_of_lt (by omega)] at h1; simp at h1
  apply Decidable.byContradiction; intro hc
  have : 2 ^ bitLen n ≤ 2 ^ k := Nat.pow_le_pow_right (by decide) (by omega)
  omega
theorem lt_half {n k : Nat} (h : n < 2 ^ (k + 1)) (h1 : n / 2 ^ k % 2 = 0) : n < 2 ^ k := by
  have h2 : n / 2 ^ k < 2 := Nat.div_lt_of_lt_mul (by rw [Nat.pow_succ] at h; exact h)
  have h3 : n / 2 ^ k = 0 := by
    generalize n / 2 ^ k = t at h1 h2
    omega
  rcases Nat.div_eq_zero_iff.1 h3 with h4 | h4
  · have : 0 < 2 ^ k := Nat.pow_pos (by decide)
    omega
  · exact h4

set_option maxHeartbeats 2000000 in
theorem RBits_any {w : World} (v : Value) (X : List Int) (hX : Sl .u32 w v X) (uX : U32s X) (hl : X.length ≤ 268435456) (N : Int) (hN : val X = N) :
    Calls Tryz.prog 53 #[v] w fun e w' => e = .returned (.int .i64 (bitLen N.toNat)) ∧ Below w.heap.size w w' := by
  have nN : 0 ≤ N := hN ▸ val_nonneg uX
  have bX := val_lt uX
  rw [hN] at bX
  obtain ⟨Ds, hDs⟩ : ∃ Ds, D.lim N.toNat = Ds := ⟨_, rfl⟩
  have dN : Ds.length ≤ 2 * X.length := by rw [← hDs]; exact D.lim_fits nN (by rw [pow16_32]; exact bX)
  have uD : D.U16s Ds := hDs ▸ D.lim_u16 _
  have vD : D.val Ds = N := by rw [← hDs]; exact D.val_limI nN
  have HX : Hid (val X = N) := hN
  have HD : Hid (D.lim N.toNat = Ds) := hDs
  have HV : Hid (D.U16s Ds ∧ D.val Ds = N) := ⟨uD, vD⟩
  have HST : Hid (N.toNat < 2 ^ (16 * Ds.length)) := by
    have h1 := D.val_lt uD
    rw [vD] at h1
    have h2 : ((N.toNat : Nat) : Int) < ((2 ^ (16 * Ds.length) : Nat) : Int) := by
      rw [Int.toNat_of_nonneg nN, Int.natCast_pow, Int.pow_mul]; exact h1
    exact Int.ofNat_lt.1 h2
  have hBt : Below w.heap.size w w := Below.refl _ _
  clear hN bX nN hDs uD vD
  go_enter Tryz.func53, Tryz.ntmps53
  go_wp2_with (go_at_call 71; refine (Digits_any _ X hX uX (by omega) N HX.out).mono ?_; rintro e w1 ⟨p, rfl, hp, hB⟩; rw [HD.out] at hp; replace hBt := grow0 hBt hB; obtain ⟨ap, cp, hvp, _⟩ := hp.len; subst hvp)
  go_loop [4] (fun i => ∃ k : Nat, i = .int .i64 k ∧ k ≤ 16 * Ds.length ∧ Hid (N.toNat < 2 ^ k)) (fun i => (intOf i).toNat)
  case atStart => exact ⟨16 * Ds.length, by go_num, Nat.le_refl _, HST.out⟩
  case round =>
    clear HST
    obtain ⟨k, rfl, hk, HK⟩ := hrel
    cases k with
    | zero =>
      have HZ : Hid (bitLen N.toNat = 0) := by
        have h1 := HK.out
        have h2 : N.toNat = 0 := by simpa using h1
        rw [h2]; rfl
      clear HK
      go_wp2
      go_ret
      exact ⟨by rw [HZ.out]; rfl, hBt⟩
    | succ m =>
      obtain ⟨b, off, ha, hb, hrd⟩ : ∃ b off, ap = some ⟨b, off, none⟩ ∧ b < w1.heap.size ∧ Rd .u64 w1 b off Ds := by
        obtain ⟨a', c', h1, _, h2⟩ := id hp
        cases h1
        rcases h2 with rfl | ⟨b, off, rfl, hb, hr⟩
        · simp at hk
        · exact ⟨b, off, rfl, hb, hr⟩
      subst ha
      obtain ⟨q, hq⟩ : ∃ q, m / 16 = q := ⟨_, rfl⟩
      obtain ⟨s, hs⟩ : ∃ s, m % 16 = s := ⟨_, rfl⟩
      obtain ⟨y, hy⟩ : ∃ y, Ds.getD q 0 = y := ⟨_, rfl⟩
      have uy : D.U16 y := hy ▸ HV.out.1.at _
      obtain ⟨uy1, uy2⟩ := uy
      have hcy : w1.cell? ⟨b, off + q, none⟩ = some (.int .u64 y) := by rw [hrd q (by omega), hy]
      have HB : Hid (N.toNat / 2 ^ m % 2 = y.toNat / 2 ^ s % 2) := by
        show N.toNat / 2 ^ m % 2 = y.toNat / 2 ^ s % 2
        rw [← D.bit_eq, hq, hs, ← HV.out.2, D.getD_div Ds q HV.out.1, hy]
      have hmi : (m : Int) / 16 = q := by omega
      have hsi : (m : Int) % 16 = s := by omega
      have hs16 : s < 16 := by omega
      have hqD : q < Ds.length := by omega
      have hp2 : 0 < (2 : Int) ^ s := Int.pow_pos (by decide)
      have hd0 : 0 ≤ y / 2 ^ s := Int.ediv_nonneg uy1 (Int.le_of_lt hp2)
      have hd1 : y / 2 ^ s < 18446744073709551616 := by have := Int.ediv_le_self (2 ^ s) uy1; omega
      have hand := and1_64 (y / 2 ^ s) hd0 hd1
      have hcast : ((y.toNat / 2 ^ s % 2 : Nat) : Int) = y / 2 ^ s % 2 := by
        obtain ⟨n, rfl⟩ := Int.eq_ofNat_of_zero_le uy1
        simp
      obtain ⟨bt, hbt⟩ : ∃ bt, y / 2 ^ s % 2 = bt := ⟨_, rfl⟩
      rw [hbt] at hand hcast
      have hb01 : bt = 0 ∨ bt = 1 := by omega
      have HB2 : Hid (N.toNat / 2 ^ m % 2 = bt.toNat) := by
        show N.toNat / 2 ^ m % 2 = bt.toNat
        rw [HB.out]; omega
      clear hq hs hy hbt hcast HB hrd
      rcases hb01 with rfl | rfl
      · go_wp2
        go_round
        case rel => exact ⟨m, by go_num, by omega, lt_half HK.out HB2.out⟩
        case measure => simp [intOf]
      · have HR : Hid (bitLen N.toNat = m + 1) := bitLen_eq HK.out HB2.out
        go_wp2
        go_ret
        exact ⟨by rw [HR.out]; rfl, hBt⟩
end Go.Proofs.YtndoibmpnhkmpaaGreatDoor.Nt
/-
  The arithmetic of the reference's long division: a guess by the highest digits is never too small.
-/
namespace Go.Proofs.YtndoibmpnhkmpaaGreatDoor.D

theorem drop_step (A : List Int) (k : Nat) (h : k < A.length) : val (A.drop k) = A.getD k 0 + 65536 * val (A.drop (k + 1)) := by
  rw [List.drop_eq_getElem_cons h]; simp only [val]; simp [List.getD, List.getElem?_eq_getElem h]
theorem top3 {L : List Int} (u : U16s L) (m : Nat) (h : L.length ≤ m + 3) :
    ∃ lo, 0 ≤ lo ∧ lo < 65536 ^ m ∧ val L = lo + 65536 ^ m * ((L.getD (m + 2) 0 * 65536 + L.getD (m + 1) 0) * 65536 + L.getD m 0) := by
  refine ⟨val (L.take m), val_nonneg (u.take m), ?_, ?_⟩
  · exact Int.lt_of_lt_of_le (val_lt (u.take m)) (pow_mono (by simp; omega))
  · have h1 : val L = val (L.take (m + 3)) := by rw [List.take_of_length_le h]
    rw [h1, val_take_succ, val_take_succ, val_take_succ, pow_succ16, pow_succ16]
    grind
theorem top2 {L : List Int} (u : U16s L) (m : Nat) (h : L.length ≤ m + 2) :
    ∃ lo, 0 ≤ lo ∧ lo < 65536 ^ m ∧ val L = lo + 65536 ^ m * (L.getD (m + 1) 0 * 65536 + L.getD m 0) := by
  refine ⟨val (L.take m), val_nonneg (u.take m), ?_, ?_⟩
  · exact Int.lt_of_lt_of_le (val_lt (u.take m)) (pow_mono (by simp; omega))
  · have h1 : val L = val (L.take (m + 2)) := by rw [List.take_of_length_le h]
    rw [h1, val_take_succ, val_take_succ, pow_succ16]
    grind
/-- The guess by the highest digits: the true digit is not above it. -/
theorem guess_ge {R M P high top lo lo' : Int} (hP : 0 < P) (h0 : lo < P) (h0' : 0 ≤ lo') (hR : R = lo + P * high) (hM : M = lo' + P * top) (ht : 0 < top) (hh : 0 ≤ high) : R < (high / top + 1) * M := by
  have h1 : high < (high / top + 1) * top := by
    have := Int.mul_ediv_add_emod high top; have := Int.emod_lt_of_pos high ht
    rw [Int.add_mul, Int.mul_comm (high / top) top]; omega
  have hq : 0 ≤ high / top := Int.ediv_nonneg hh (by omega)
  have h2 : R < P * (high + 1) := by rw [hR, Int.mul_add]; omega
  have h3 : P * (high + 1) ≤ P * ((high / top + 1) * top) := Int.mul_le_mul_of_nonneg_left (by omega) (by omega)
  have h4 : P * ((high / top + 1) * top) ≤ (high / top + 1) * M := by
    rw [hM, Int.mul_add, ← Int.mul_assoc P, Int.mul_comm P, Int.mul_assoc]
    have : 0 ≤ (high / top + 1) * lo' := Int.mul_nonneg (by omega) h0'
    omega
  omega
/-- One digit more. -/
theorem div_step {hi M a R g : Int} (hM : 0 < M) (hR : hi % M = R) (h1 : g * M ≤ a + 65536 * R) (h2 : a + 65536 * R < (g + 1) * M) :
    (a + 65536 * hi) / M = g + 65536 * (hi / M) ∧ (a + 65536 * hi) % M = a + 65536 * R - g * M := by
  have h3 := Int.mul_ediv_add_emod hi M
  rw [hR] at h3
  have e : a + 65536 * hi = (a + 65536 * R - g * M) + M * (g + 65536 * (hi / M)) := by
    rw [← h3]
    have : (M * (hi / M) + R) / M = hi / M := by rw [h3]
    rw [this]; grind
  have h4 : 0 ≤ a + 65536 * R - g * M := by omega
  have h5 : a + 65536 * R - g * M < M := by rw [Int.add_mul] at h2; omega
  constructor
  · rw [e, Int.add_mul_ediv_left _ _ (by omega), Int.ediv_eq_zero_of_lt h4 h5]; omega
  · rw [e, Int.add_mul_emod_self_left, Int.emod_eq_of_lt h4 h5]
theorem drop_set {S : List Int} {k : Nat} (x : Int) (h : k < S.length) : val ((S.set k x).drop k) = x + 65536 * val (S.drop (k + 1)) := by
  rw [drop_step _ k (by simpa using h)]
  congr 1
  · simp [List.getD, h]
  · rw [List.drop_set_of_lt (by omega)]
end Go.Proofs.YtndoibmpnhkmpaaGreatDoor.D
