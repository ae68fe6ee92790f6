/-
  The walks of the reference's long, Trim, Cmp, Add, Sub, Mul: they answer what the program's functions answer.
-/
import Derived.Laws.StructEq
import Derived.Test.YtkdclocjijmgpaaK19
namespace Go.Proofs.Ytkdclocjijmgpaa.Nt
open Go.RowKit

/-- A number and an error, as two results, in whatever memory. -/
def RTwo (w : World) (e : Ending) (s : List Int × Int) : Prop := ∃ r, e = .returned (.tuple #[r, .int .i64 s.2]) ∧ Sl .u32 w r s.1
theorem RTwo.nil' {w : World} {n : Int} {s : List Int × Int} (hs : s = ([], n)) : RTwo w (.returned (.tuple #[.slice none 0 0, .int .i64 n])) s := by
  subst hs; exact ⟨_, rfl, ⟨none, 0, rfl, Nat.le_refl _, .inl rfl⟩⟩
theorem RTwo.mk' {w : World} {r : Value} {n : Int} {L : List Int} {s : List Int × Int} (h : Sl .u32 w r L) (hs : s = (L, n)) : RTwo w (.returned (.tuple #[r, .int .i64 n])) s := by
  subst hs; exact ⟨r, rfl, h⟩
theorem pow16_32 (n : Nat) : (65536 : Int) ^ (2 * n) = 4294967296 ^ n := by rw [Int.pow_mul]; rfl

theorem long_any {w : World} (m : Nat) (v u : Value) (X Y : List Int) (hX : Sl .u32 w v X) (hY : Sl .u32 w u Y) (c : Bool) (hc : (decide (m < X.length) || decide (m < Y.length)) = c) :
    Calls Try.prog 67 #[.int .i64 m, v, u] w fun e w' => e = .returned (.bool c) ∧ w = w' := by
  obtain ⟨a, ca, hv, _⟩ := hX.len
  obtain ⟨b, cb, hu, _⟩ := hY.len
  subst hv; subst hu; subst hc
  by_cases h1 : m < X.length
  · have h1' : (m : Int) < (X.length : Int) := by omega
    go_enter Try.func67, Try.ntmps67
    go_wp2
    go_ret
    exact ⟨by simp [h1], rfl⟩
  have h1' : ¬ (m : Int) < (X.length : Int) := by omega
  by_cases h2 : m < Y.length
  · have h2' : (m : Int) < (Y.length : Int) := by omega
    go_enter Try.func67, Try.ntmps67
    go_wp2
    go_ret
    exact ⟨by simp, rfl⟩
  · have h2' : ¬ (m : Int) < (Y.length : Int) := by omega
    go_enter Try.func67, Try.ntmps67
    go_wp2
    go_ret
    exact ⟨by simp, rfl⟩

theorem RTrim_any {w : World} (v : Value) (X : List Int) (hX : Sl .u32 w v X) (uX : U32s X) (hl : X.length ≤ 268435456) (N : Int) (hN : val X = N) :
    Calls Try.prog 38 #[v] w fun e w' => ∃ r, e = .returned r ∧ Sl .u32 w' r (lim N.toNat) ∧ Below w.heap.size w w' := by
  have nN : 0 ≤ N := hN ▸ val_nonneg uX
  have bX := val_lt uX
  rw [hN] at bX
  have dN : (D.lim N.toNat).length ≤ 2 * X.length := D.lim_fits nN (by rw [pow16_32]; exact bX)
  have HX : Hid (val X = N) := hN
  have HV : Hid (D.val (D.lim N.toNat) = N) := D.val_limI nN
  have hBt : Below w.heap.size w w := Below.refl _ _
  clear hN bX nN
  go_enter Try.func38, Try.ntmps38
  go_wp2_with (first
    | (go_at_call 71; refine (Digits_any _ X hX uX (by omega) N HX.out).mono ?_; rintro e w' ⟨p, rfl, hp, hB⟩; replace hBt := grow0 hBt hB)
    | (go_at_call 69; refine (Limbs_any _ _ hp (D.lim_u16 _) (by omega) N HV.out).mono ?_; rintro e w' ⟨o, rfl, ho, hB⟩; replace hBt := grow0 hBt hB))
  go_ret
  exact ⟨_, rfl, ho, hBt⟩

theorem RCmp_any {w : World} (v u : Value) (X Y : List Int) (hX : Sl .u32 w v X) (hY : Sl .u32 w u Y) (uX : U32s X) (uY : U32s Y) (lX : X.length ≤ 268435456) (lY : Y.length ≤ 268435456) (c : Int) (hc : cmpI (val X) (val Y) = c) :
    Calls Try.prog 68 #[v, u] w fun e w' => e = .returned (.int .i64 c) ∧ Below w.heap.size w w' := by
  have hBt : Below w.heap.size w w := Below.refl _ _
  obtain ⟨NX, hNX⟩ : ∃ n, val X = n := ⟨_, rfl⟩
  obtain ⟨NY, hNY⟩ : ∃ n, val Y = n := ⟨_, rfl⟩
  have HX : Hid (val X = NX) := hNX
  have HY : Hid (val Y = NY) := hNY
  have nX : 0 ≤ NX := hNX ▸ val_nonneg uX
  have nY : 0 ≤ NY := hNY ▸ val_nonneg uY
  have bX := val_lt uX; have bY := val_lt uY
  rw [hNX] at bX; rw [hNY] at bY
  have dX : (D.lim NX.toNat).length ≤ 2 * X.length := D.lim_fits nX (by rw [pow16_32]; exact bX)
  have dY : (D.lim NY.toNat).length ≤ 2 * Y.length := D.lim_fits nY (by rw [pow16_32]; exact bY)
  have HC : Hid (cmpI (D.val (D.lim NX.toNat)) (D.val (D.lim NY.toNat)) = c) := by rw [D.val_limI nX, D.val_limI nY, ← hNX, ← hNY]; exact hc
  clear hNX hNY bX bY nX nY hc
  go_enter Try.func68, Try.ntmps68
  go_wp2_with (first
    | (go_at_call 71; replace hp := hp; refine (Digits_any _ Y hY uY (by omega) NY HY.out).mono ?_; rintro e w' ⟨q, rfl, hq, hB⟩; replace hp := below_sl hB hp; replace hBt := grow0 hBt hB)
    | (go_at_call 71; refine (Digits_any _ X hX uX (by omega) NX HX.out).mono ?_; rintro e w' ⟨p, rfl, hp, hB⟩; replace hY := below_sl hB hY; replace hBt := grow0 hBt hB)
    | (go_at_call 87; refine (order_any _ _ _ _ hp hq (D.lim_u16 _) (D.lim_u16 _) (by omega) (by omega) c HC.out).mono ?_; rintro e w' ⟨rfl, rfl⟩))
  go_ret
  exact ⟨rfl, hBt⟩

end Go.Proofs.Ytkdclocjijmgpaa.Nt
/-
  The walk of the reference's Bits.
-/
namespace Go.Proofs.Ytkdclocjijmgpaa.D
theorem getD_div (xs : List Int) (i : Nat) (hu : U16s xs) : (val xs).toNat / 2 ^ (16 * i) % 65536 = (xs.getD i 0).toNat := by
  induction i generalizing xs with
  | zero =>
    rw [val_head_tail]
    have h1 := hu.at 0; unfold U16 at h1
    have h2 := val_nonneg hu.tl
    simp only [Nat.mul_zero, Nat.pow_zero, Nat.div_one]; omega
  | succ i ih =>
    have := ih xs.tail hu.tl
    rw [getD_tail] at this
    rw [← this, val_head_tail xs]
    have h1 := hu.at 0; unfold U16 at h1
    have h2 := val_nonneg hu.tl
    rw [Nat.mul_add, Nat.mul_one, Nat.add_comm, Nat.pow_add, ← Nat.div_div_eq_div_mul]
    congr 2; omega
theorem bit_eq (v i : Nat) : v / 2 ^ (16 * (i / 16)) % 65536 / 2 ^ (i % 16) % 2 = v / 2 ^ i % 2 := by
  have e : (65536 : Nat) = 2 ^ (i % 16) * 2 ^ (16 - i % 16) := by rw [← Nat.pow_add, show i % 16 + (16 - i % 16) = 16 by omega]
  have e2 : i = 16 * (i / 16) + i % 16 := by omega
  rw [e, Nat.mod_mul_right_div_self, Nat.div_div_eq_div_mul, ← Nat.pow_add, ← e2]
  have e3 : 2 ^ (16 - i % 16) = 2 * 2 ^ (15 - i % 16) := by rw [Nat.mul_comm, ← Nat.pow_succ]; congr 1; omega
  rw [e3, Nat.mod_mul_right_mod]
end Go.Proofs.Ytkdclocjijmgpaa.D
namespace Go.Proofs.Ytkdclocjijmgpaa.Nt
open Go.RowKit

theorem and1_64 (x : Int) (h0 : 0 ≤ x) (h1 : x < 18446744073709551616) : bits BinOp.and .u64 x 1 = x % 2 := by go_bits2
theorem bitLen_eq {n k : Nat} (h : n < 2 ^ (k + 1)) (h1 : n / 2 ^ k % 2 = 1) : bitLen n = k + 1 := by
  have h2 := bitLen_lt h
  have h3 := (bitLen_spec n).1
  have hge : 2 ^ k ≤ n := by
    apply Decidable.byContradiction; intro hc
    rw [Nat.div_eq_of_lt (by omega)] at h1; simp at h1
  apply Decidable.byContradiction; intro hc
  have : 2 ^ bitLen n ≤ 2 ^ k := Nat.pow_le_pow_right (by decide) (by omega)
  omega
theorem lt_half {n k : Nat} (h : n < 2 ^ (k + 1)) (h1 : n / 2 ^ k % 2 = 0) : n < 2 ^ k := by
  have h2 : n / 2 ^ k < 2 := Nat.div_lt_of_lt_mul (by rw [Nat.pow_succ] at h; exact h)
  have h3 : n / 2 ^ k = 0 := by
    generalize n / 2 ^ k = t at h1 h2
    omega
  rcases Nat.div_eq_zero_iff.1 h3 with h4 | h4
  · have : 0 < 2 ^ k := Nat.pow_pos (by decide)
    omega
  · exact h4

set_option maxHeartbeats 2000000 in
theorem RBits_any {w : World} (v : Value) (X : List Int) (hX : Sl .u32 w v X) (uX : U32s X) (hl : X.length ≤ 268435456) (N : Int) (hN : val X = N) :
    Calls Try.prog 66 #[v] w fun e w' => e = .returned (.int .i64 (bitLen N.toNat)) ∧ Below w.heap.size w w' := by
  have nN : 0 ≤ N := hN ▸ val_nonneg uX
  have bX := val_lt uX
  rw [hN] at bX
  obtain ⟨Ds, hDs⟩ : ∃ Ds, D.lim N.toNat = Ds := ⟨_, rfl⟩
  have dN : Ds.length ≤ 2 * X.length := by rw [← hDs]; exact D.lim_fits nN (by rw [pow16_32]; exact bX)
  have uD : D.U16s Ds := hDs ▸ D.lim_u16 _
  have vD : D.val Ds = N := by rw [← hDs]; exact D.val_limI nN
  have HX : Hid (val X = N) := hN
  have HD : Hid (D.lim N.toNat = Ds) := hDs
  have HV : Hid (D.U16s Ds ∧ D.val Ds = N) := ⟨uD, vD⟩
  have HST : Hid (N.toNat < 2 ^ (16 * Ds.length)) := by
    have h1 := D.val_lt uD
    rw [vD] at h1
    have h2 : ((N.toNat : Nat) : Int) < ((2 ^ (16 * Ds.length) : Nat) : Int) := by
      rw [Int.toNat_of_nonneg nN, Int.natCast_pow, Int.pow_mul]; exact h1
    exact Int.ofNat_lt.1 h2
  have hBt : Below w.heap.size w w := Below.refl _ _
  clear hN bX nN hDs uD vD
  go_enter Try.func66, Try.ntmps66
  go_wp2_with (go_at_call 71; refine (Digits_any _ X hX uX (by omega) N HX.out).mono ?_; rintro e w1 ⟨p, rfl, hp, hB⟩; rw [HD.out] at hp; replace hBt := grow0 hBt hB; obtain ⟨ap, cp, hvp, _⟩ := hp.len; subst hvp)
  go_loop [4] (fun i => ∃ k : Nat, i = .int .i64 k ∧ k ≤ 16 * Ds.length ∧ Hid (N.toNat < 2 ^ k)) (fun i => (intOf i).toNat)
  case atStart => exact ⟨16 * Ds.length, by go_num, Nat.le_refl _, HST.out⟩
  case round =>
    clear HST
    obtain ⟨k, rfl, hk, HK⟩ := hrel
    cases k with
    | zero =>
      have HZ : Hid (bitLen N.toNat = 0) := by
        have h1 := HK.out
        have h2 : N.toNat = 0 := by simpa using h1
        rw [h2]; rfl
      clear HK
      go_wp2
      go_ret
      exact ⟨by rw [HZ.out]; rfl, hBt⟩
    | succ m =>
      obtain ⟨b, off, ha, hb, hrd⟩ : ∃ b off, ap = some ⟨b, off, none⟩ ∧ b < w1.heap.size ∧ Rd .u64 w1 b off Ds := by
        obtain ⟨a', c', h1, _, h2⟩ := id hp
        cases h1
        rcases h2 with rfl | ⟨b, off, rfl, hb, hr⟩
        · simp at hk
        · exact ⟨b, off, rfl, hb, hr⟩
      subst ha
      obtain ⟨q, hq⟩ : ∃ q, m / 16 = q := ⟨_, rfl⟩
      obtain ⟨s, hs⟩ : ∃ s, m % 16 = s := ⟨_, rfl⟩
      obtain ⟨y, hy⟩ : ∃ y, Ds.getD q 0 = y := ⟨_, rfl⟩
      have uy : D.U16 y := hy ▸ HV.out.1.at _
      obtain ⟨uy1, uy2⟩ := uy
      have hcy : w1.cell? ⟨b, off + q, none⟩ = some (.int .u64 y) := by rw [hrd q (by omega), hy]
      have HB : Hid (N.toNat / 2 ^ m % 2 = y.toNat / 2 ^ s % 2) := by
        show N.toNat / 2 ^ m % 2 = y.toNat / 2 ^ s % 2
        rw [← D.bit_eq, hq, hs, ← HV.out.2, D.getD_div Ds q HV.out.1, hy]
      have hmi : (m : Int) / 16 = q := by omega
      have hsi : (m : Int) % 16 = s := by omega
      have hs16 : s < 16 := by omega
      have hqD : q < Ds.length := by omega
      have hp2 : 0 < (2 : Int) ^ s := Int.pow_pos (by decide)
      have hd0 : 0 ≤ y / 2 ^ s := Int.ediv_nonneg uy1 (Int.le_of_lt hp2)
      have hd1 : y / 2 ^ s < 18446744073709551616 := by have := Int.ediv_le_self (2 ^ s) uy1; omega
      have hand := and1_64 (y / 2 ^ s) hd0 hd1
      have hcast : ((y.toNat / 2 ^ s % 2 : Nat) : Int) = y / 2 ^ s % 2 := by
        obtain ⟨n, rfl⟩ := Int.eq_ofNat_of_zero_le uy1
        simp
      obtain ⟨bt, hbt⟩ : ∃ bt, y / 2 ^ s % 2 = bt := ⟨_, rfl⟩
      rw [hbt] at hand hcast
      have hb01 : bt = 0 ∨ bt = 1 := by omega
      have HB2 : Hid (N.toNat / 2 ^ m % 2 = bt.toNat) := by
        show N.toNat / 2 ^ m % 2 = bt.toNat
        rw [HB.out]; omega
      clear hq hs hy hbt hcast HB hrd
      rcases hb01 with rfl | rfl
      · go_wp2
        go_round
        case rel => exact ⟨m, by go_num, by omega, lt_half HK.out HB2.out⟩
        case measure => simp [intOf]
      · have HR : Hid (bitLen N.toNat = m + 1) := bitLen_eq HK.out HB2.out
        go_wp2
        go_ret
        exact ⟨by rw [HR.out]; rfl, hBt⟩
end Go.Proofs.Ytkdclocjijmgpaa.Nt
/-
  The reference's curves: far, fieldOf. (wip/mku23.py)
-/
namespace Go.Proofs.Ytkdclocjijmgpaa
open Go.RowKit
set_option maxRecDepth 20000
set_option maxHeartbeats 1000000 in
theorem RFar {w : World} (vx vy : Value) (X Y : List Int) (hX : Sl .u32 w vx X) (hY : Sl .u32 w vy Y) (uX : U32s X) (uY : U32s Y) (lX : X.length ≤ 1000000) (lY : Y.length ≤ 1000000) :
    Calls Try.prog 35 #[.agg #[vx, vy]] w fun e w' => e = .returned (.bool (farB X Y)) ∧ Below w.heap.size w w' := by
  have HX : Hid (∀ W, Below w.heap.size w W → Calls Try.prog 66 #[vx] W fun e w' => e = .returned (.int .i64 (bitLen (val X).toNat)) ∧ Below W.heap.size W w') := fun W hW => (Nt.RBits_any vx X (below_sl hW hX) uX (by omega) (val X) rfl)
  have HY : Hid (∀ W, Below w.heap.size w W → Calls Try.prog 66 #[vy] W fun e w' => e = .returned (.int .i64 (bitLen (val Y).toNat)) ∧ Below W.heap.size W w') := fun W hW => (Nt.RBits_any vy Y (below_sl hW hY) uY (by omega) (val Y) rfl)
  have HF : Hid (farB X Y = (((bitLen (val X).toNat : Int) == 0) && ((bitLen (val Y).toNat : Int) == 0))) := by
    show _ = _
    unfold farB
    have h1 := bits0 uX
    have h2 := bits0 uY
    by_cases a : val X = 0 <;> by_cases b : val Y = 0
    · have e1 := h1.2 a; have e2 := h2.2 b; rw [e1, e2]; simp [a, b]
    · simp [a, b]; intro _; exact fun h => b (h2.1 (by omega))
    · simp [a, b]; intro h; exact absurd (h1.1 (by omega)) a
    · simp [a, b]; intro h; exact absurd (h1.1 (by omega)) a
  obtain ⟨x, hx⟩ : ∃ x, bitLen (val X).toNat = x := ⟨_, rfl⟩
  obtain ⟨y, hy⟩ : ∃ y, bitLen (val Y).toNat = y := ⟨_, rfl⟩
  rw [hx] at HX HF
  rw [hy] at HY HF
  clear hX hY uX uY lX lY hx hy
  go_enter Try.func35, Try.ntmps35
  go_upto_region 1 with (refine wpList_boxR rfl 24 (.tmp 0) rfl #[vx, vy] rfl ?_)
  refine wp_gen (fun W => Blk 24 W w.heap.size [vx, vy] ∧ Below w.heap.size w W) ⟨Blk.new _ w _, al1 _⟩ ?_
  rintro W2 ⟨hB, hBw⟩
  have hc0 : W2.cell? ⟨w.heap.size, 0, none⟩ = some vx := hB.cell 0
  have H2 : Hid (Below w.heap.size w W2 ∧ ∀ W3, Below W2.heap.size W2 W3 → W3.cell? ⟨w.heap.size, 1, none⟩ = some vy ∧ Below w.heap.size w W3) := ⟨hBw, fun W3 h3 => ⟨(below_blk h3 hB.lt hB).cell 1, below_via hBw h3 (Nat.le_refl _)⟩⟩
  clear hB hBw
  by_cases h0 : x = 0
  · have d0 : ((x : Int) == 0) = true := by simp [h0]
    have HF2 : Hid (farB X Y = ((y : Int) == 0)) := by show _ = _; rw [HF.out, d0]; rfl
    clear h0 HF
    go_wp2_with fail
    refine (HX.out _ H2.out.1).mono ?_
    rintro e w3 ⟨rfl, hb3⟩
    have hc1 := (H2.out.2 _ hb3).1
    have H3 : Hid (Below w.heap.size w w3) := (H2.out.2 _ hb3).2
    clear hb3 hc0
    go_wp2_with (go_at_call 66; refine (HY.out _ H3.out).mono ?_; rintro e w4 ⟨rfl, hb4⟩; have H4 : Hid (Below w.heap.size w w4) := below_via H3.out hb4 (Nat.le_refl _); clear hb4)
    go_ret
    exact ⟨by rw [HF2.out]; rfl, H4.out⟩
  · have d0 : ((x : Int) == 0) = false := by simp; exact h0
    have HF2 : Hid (farB X Y = false) := by show _ = _; rw [HF.out, d0]; rfl
    clear h0 HF
    go_wp2_with (go_at_call 66; refine (HX.out _ H2.out.1).mono ?_; rintro e w3 ⟨rfl, hb3⟩; have H3 : Hid (Below w.heap.size w w3) := (H2.out.2 _ hb3).2; clear hb3)
    go_ret
    exact ⟨by rw [HF2.out]; rfl, H3.out⟩
def f14 : List Value := .int .i64 0 :: z13
theorem newF (w : World) : Blk 66 (w.alloc (.cells f14.toArray 66)) w.heap.size f14 := Blk.new _ w f14
theorem Try.sizeFd : (Try.prog.info? 66).map (·.size) = some 14 := by kernel_rfl
theorem fdC_one (l : Nat) (P : List Int) : (fdC l P).toArray.all (·.oneCell') = true := by
  have h := ints_one .u64 P
  rw [List.all_toArray] at h ⊢
  unfold fdC
  rw [List.all_cons, h]
  rfl
theorem list13 {P : List Int} (h : P.length = 13) : ∃ p0 p1 p2 p3 p4 p5 p6 p7 p8 p9 p10 p11 p12, P = [p0, p1, p2, p3, p4, p5, p6, p7, p8, p9, p10, p11, p12] := by
  match P, h with
  | [p0, p1, p2, p3, p4, p5, p6, p7, p8, p9, p10, p11, p12], _ => exact ⟨p0, p1, p2, p3, p4, p5, p6, p7, p8, p9, p10, p11, p12, rfl⟩
set_option maxHeartbeats 2000000 in
theorem RFieldOf {w : World} (c : Int) : Calls Try.prog 29 #[.int .i64 c] w fun e w' => ∃ P, e = .returned (.agg (fdC (lim (crvN (·.p) (crv c))).length P).toArray) ∧ Dg P ∧ val P = (crvN (·.p) (crv c) : Nat) ∧ Below w.heap.size w w' := by
  go_enter Try.func29, Try.ntmps29
  go_wp2_with fail
  refine (RPrime_any c).mono ?_
  rintro e w3 ⟨r, rfl, hr, hb⟩
  obtain ⟨a, k, rfl⟩ := hr.form
  obtain ⟨l, hl⟩ : ∃ l, (lim (crvN (·.p) (crv c))).length = l := ⟨_, rfl⟩
  have hl12 : l ≤ 12 := hl ▸ (crv_sz c).2
  have H3 : Hid (Below w.heap.size w w3 ∧ Blk 66 w3 w.heap.size f14) := ⟨below_via (al1 _) hb (Nat.le_refl _), below_blk hb (newF w).lt (newF w)⟩
  have HL : Hid ((lim (crvN (·.p) (crv c))).length = l) := hl
  rw [hl]
  clear hr hb hl
  go_wp2_with fail
  refine (RPrime_any c).mono ?_
  rintro e w4 ⟨r4, rfl, hr4, hb4⟩
  have H4 : Hid (Below w.heap.size w w4 ∧ Blk 66 w4 w.heap.size f14 ∧ Nb w4 r4 (crvN (·.p) (crv c))) := ⟨below_via H3.out.1 hb4 (Nat.le_refl _), below_blk hb4 H3.out.2.lt H3.out.2, hr4⟩
  clear hr4 hb4 H3
  go_wp2_with fail
  refine (rof_any r4 _ H4.out.2.2 (lim_u32 _) (by have := (crv_sz c).2; omega)).mono ?_
  rintro e w5 ⟨P, rfl, dP, vP, hb5⟩
  have HP : Hid (Dg P ∧ val P = (crvN (·.p) (crv c) : Nat)) := ⟨dP, by rw [vP, List.take_of_length_le (crv_sz c).2, val_lim]⟩
  have H5 : Hid (Below w.heap.size w w5 ∧ Blk 66 w5 w.heap.size f14) := ⟨below_via H4.out.1 hb5 (Nat.le_refl _), below_blk hb5 H4.out.2.1.lt H4.out.2.1⟩
  obtain ⟨p0, p1, p2, p3, p4, p5, p6, p7, p8, p9, p10, p11, p12, rfl⟩ := list13 dP.2
  clear dP vP hb5 H4
  have hth : w5.there w.heap.size 0 (fdC l [p0, p1, p2, p3, p4, p5, p6, p7, p8, p9, p10, p11, p12]).toArray.size := H5.out.2.there 0 _ (by simp [fdC, f14, z13])
  have HTh : Hid (w5.there w.heap.size 0 (fdC l [p0, p1, p2, p3, p4, p5, p6, p7, p8, p9, p10, p11, p12]).toArray.size) := hth
  clear hth
  unfold dgA
  simp only [List.map_cons, List.map_nil]
  go_wp2_with (refine wpList_store_mid rfl _ _ _ rfl w.heap.size 0 (fdC l [p0, p1, p2, p3, p4, p5, p6, p7, p8, p9, p10, p11, p12]).toArray rfl rfl HTh.out Try.sizeFd (fdC_one _ _) ?_)
  exact bodyPost_ret (v := .agg (fdC l [p0, p1, p2, p3, p4, p5, p6, p7, p8, p9, p10, p11, p12]).toArray) (results_blk (b := w.heap.size) (cs := fdC l [p0, p1, p2, p3, p4, p5, p6, p7, p8, p9, p10, p11, p12]) rfl rfl (H5.out.2.fill _ rfl) Try.underlying66 rfl Try.sizeFd) rfl ⟨_, by rw [HL.out], HP.out.1, HP.out.2, (Upd.setCells _ 0 w5).below H5.out.1 H5.out.1.size (Nat.le_refl _)⟩
end Go.Proofs.Ytkdclocjijmgpaa
/-
  Curve: two rows of digits are the same where their numbers are.
-/
namespace Go.Proofs.Ytkdclocjijmgpaa
open Go.RowKit
theorem val_inj : ∀ {A B : List Int}, U32s A → U32s B → A.length = B.length → val A = val B → A = B
  | [], [], _, _, _, _ => rfl
  | [], _ :: _, _, _, h, _ => by simp at h
  | _ :: _, [], _, _, h, _ => by simp at h
  | a :: A, b :: B, uA, uB, hl, hv => by
    simp only [val] at hv
    have ha := uA a (by simp)
    have hb := uB b (by simp)
    unfold U32 at ha hb
    have h1 : a = b := by omega
    have h2 : val A = val B := by omega
    rw [h1, val_inj (fun x hx => uA x (by simp [hx])) (fun x hx => uB x (by simp [hx])) (by simpa using hl) h2]
theorem eql_dg (W : World) (A B : List Int) (hA : Dg A) (hB : Dg B) : Sem.run Try.prog (binOp .eql 64 (dgA A) (dgA B)) W = .ok (.bool (decide (val A = val B))) W := by
  have h1 : decide (val A = val B) = decide (A = B) := by
    by_cases h : A = B
    · simp [h]
    · simp [h]; exact fun hv => h (val_inj hA.1 hB.1 (by rw [hA.2, hB.2]) hv)
  rw [h1]
  obtain ⟨p0, p1, p2, p3, p4, p5, p6, p7, p8, p9, p10, p11, p12, rfl⟩ := list13 hA.2
  obtain ⟨q0, q1, q2, q3, q4, q5, q6, q7, q8, q9, q10, q11, q12, rfl⟩ := list13 hB.2
  have u3 := Try.underlying62
  have a3 := Try.isAgg62
  have z3 := Try.sizeOf62
  unfold dgA
  simp only [List.map_cons, List.map_nil]
  rw [run_eql_struct, show (10000 : Nat) = 9999 + 1 from rfl, Op.equalIn]
  simp only [Sem.run_bind, run_underlying Try.underlying64, Result.andThen_ok]
  simp only [Std.Legacy.Range.forIn_eq_forIn_range', Std.Legacy.Range.size, Nat.sub_zero, Nat.add_sub_cancel, Nat.div_one, List.range'_succ, List.range'_zero, List.forIn_cons, List.forIn_nil]
  go_simp
  clear h1 hA hB u3 a3 z3
  refine Decidable.byCases (fun h0 : p0 = q0 => ?_) (fun h0 : ¬ p0 = q0 => by rw [if_neg h0, decide_eq_false h0, Bool.false_and])
  rw [if_pos h0, decide_eq_true h0, Bool.true_and]
  refine Decidable.byCases (fun h1 : p1 = q1 => ?_) (fun h1 : ¬ p1 = q1 => by rw [if_neg h1, decide_eq_false h1, Bool.false_and])
  rw [if_pos h1, decide_eq_true h1, Bool.true_and]
  refine Decidable.byCases (fun h2 : p2 = q2 => ?_) (fun h2 : ¬ p2 = q2 => by rw [if_neg h2, decide_eq_false h2, Bool.false_and])
  rw [if_pos h2, decide_eq_true h2, Bool.true_and]
  refine Decidable.byCases (fun h3 : p3 = q3 => ?_) (fun h3 : ¬ p3 = q3 => by rw [if_neg h3, decide_eq_false h3, Bool.false_and])
  rw [if_pos h3, decide_eq_true h3, Bool.true_and]
  refine Decidable.byCases (fun h4 : p4 = q4 => ?_) (fun h4 : ¬ p4 = q4 => by rw [if_neg h4, decide_eq_false h4, Bool.false_and])
  rw [if_pos h4, decide_eq_true h4, Bool.true_and]
  refine Decidable.byCases (fun h5 : p5 = q5 => ?_) (fun h5 : ¬ p5 = q5 => by rw [if_neg h5, decide_eq_false h5, Bool.false_and])
  rw [if_pos h5, decide_eq_true h5, Bool.true_and]
  refine Decidable.byCases (fun h6 : p6 = q6 => ?_) (fun h6 : ¬ p6 = q6 => by rw [if_neg h6, decide_eq_false h6, Bool.false_and])
  rw [if_pos h6, decide_eq_true h6, Bool.true_and]
  refine Decidable.byCases (fun h7 : p7 = q7 => ?_) (fun h7 : ¬ p7 = q7 => by rw [if_neg h7, decide_eq_false h7, Bool.false_and])
  rw [if_pos h7, decide_eq_true h7, Bool.true_and]
  refine Decidable.byCases (fun h8 : p8 = q8 => ?_) (fun h8 : ¬ p8 = q8 => by rw [if_neg h8, decide_eq_false h8, Bool.false_and])
  rw [if_pos h8, decide_eq_true h8, Bool.true_and]
  refine Decidable.byCases (fun h9 : p9 = q9 => ?_) (fun h9 : ¬ p9 = q9 => by rw [if_neg h9, decide_eq_false h9, Bool.false_and])
  rw [if_pos h9, decide_eq_true h9, Bool.true_and]
  refine Decidable.byCases (fun h10 : p10 = q10 => ?_) (fun h10 : ¬ p10 = q10 => by rw [if_neg h10, decide_eq_false h10, Bool.false_and])
  rw [if_pos h10, decide_eq_true h10, Bool.true_and]
  refine Decidable.byCases (fun h11 : p11 = q11 => ?_) (fun h11 : ¬ p11 = q11 => by rw [if_neg h11, decide_eq_false h11, Bool.false_and])
  rw [if_pos h11, decide_eq_true h11, Bool.true_and]
  exact Decidable.byCases (fun h : p12 = q12 => by rw [if_pos h, decide_eq_true h]) (fun h : ¬ p12 = q12 => by rw [if_neg h, decide_eq_false h])
theorem eqg_dg (W : World) (A B : List Int) (x y : Operand) : Sem.run Try.prog (eqGuard BinOp.eql 64 x y (dgA A) (dgA B)) W = .ok () W := by kernel_rfl
end Go.Proofs.Ytkdclocjijmgpaa
/-
  Curves: the reference's digits by their number; its sums, differences, products.
-/
namespace Go.Proofs.Ytkdclocjijmgpaa
open Go.RowKit
set_option maxRecDepth 20000
/-- Thirteen digits of a number. -/
def dg (x : Nat) : List Int := lim x ++ List.replicate (13 - (lim x).length) 0
theorem dg_ok {x : Nat} (h : x < 4294967296 ^ 12) : Dg (dg x) ∧ val (dg x) = x := by
  have hl := lim12 h
  refine ⟨⟨fun y hy => ?_, by unfold dg; simp; omega⟩, by unfold dg; rw [val_pad, val_lim]⟩
  rcases List.mem_append.1 hy with hy | hy
  · exact lim_u32 x y hy
  · exact u32s_zeros _ y hy
theorem dg_eq {A : List Int} {x : Nat} (hA : Dg A) (hv : val A = (x : Int)) (h : x < 4294967296 ^ 12) : A = dg x :=
  val_inj hA.1 (dg_ok h).1.1 (hA.2.trans (dg_ok h).1.2.symm) (hv.trans (dg_ok h).2.symm)
/-- A number's digits as a value; a field. -/
def DV (x : Nat) : Value := .agg (dgC (dg x)).toArray
def fV (p : Nat) : Value := .agg (fdC (lim p).length (dg p)).toArray
/-- A number modulo which the reference reckons. -/
def Fp (p : Nat) : Prop := 1 < p ∧ p < 4294967296 ^ 12
theorem Fp.lt {p x : Nat} (h : Fp p) (hx : x < p) : x < 4294967296 ^ 12 := Nat.lt_trans hx h.2
theorem Fp.len {p : Nat} (h : Fp p) : 0 < (lim p).length ∧ (lim p).length ≤ 12 ∧ (p : Int) < 4294967296 ^ (lim p).length := by
  refine ⟨Nat.pos_of_ne_zero fun e => ?_, lim12 h.2, ?_⟩
  · have := lim0.1 e
    have := h.1
    omega
  · have := val_lt (lim_u32 p)
    rwa [val_lim] at this
theorem addD {w : World} {p x y : Nat} (h : Fp p) (hx : x < p) (hy : y < p) : Calls Try.prog 61 #[fV p, DV x, DV y] w fun e w' => e = .returned (DV (fad p x y)) ∧ Below w.heap.size w w' := by
  have d1 := dg_ok h.2
  have d2 := dg_ok (h.lt hx)
  have d3 := dg_ok (h.lt hy)
  refine (radd_any (lim p).length (dg p) (dg x) (dg y) d1.1 d2.1 d3.1 (by rw [d1.2]; have := Int.ofNat_lt.2 h.2; rw [Int.natCast_pow] at this; exact this) (by rw [d1.2, d2.2]; omega) (by rw [d1.2, d3.2]; omega)).mono ?_
  rintro e w' ⟨Z, rfl, hZ, hv, hb⟩
  rw [d1.2, d2.2, d3.2] at hv
  have e1 : Z = dg (fad p x y) := dg_eq hZ (by rw [hv]; unfold fad; rw [Int.natCast_emod, Int.natCast_add]) (h.lt (fad_lt (by omega)))
  rw [e1]
  exact ⟨rfl, hb⟩
theorem subD {w : World} {p x y : Nat} (h : Fp p) (hx : x < p) (hy : y < p) : Calls Try.prog 59 #[fV p, DV x, DV y] w fun e w' => e = .returned (DV (fsb p x y)) ∧ Below w.heap.size w w' := by
  have d1 := dg_ok h.2
  have d2 := dg_ok (h.lt hx)
  have d3 := dg_ok (h.lt hy)
  refine (rsub_any (lim p).length (dg p) (dg x) (dg y) d1.1 d2.1 d3.1 (by rw [d1.2]; have := Int.ofNat_lt.2 h.2; rw [Int.natCast_pow] at this; exact this) (by rw [d1.2, d2.2]; omega) (by rw [d1.2, d3.2]; omega)).mono ?_
  rintro e w' ⟨Z, rfl, hZ, hv, hb⟩
  rw [d1.2, d2.2, d3.2] at hv
  have e1 : Z = dg (fsb p x y) := dg_eq hZ (by
    rw [hv]
    unfold fsb
    have e : ((x : Int) - (y : Int)) % (p : Int) = ((x : Int) + ((p : Int) - (y : Int))) % (p : Int) := by
      rw [show (x : Int) + ((p : Int) - (y : Int)) = (x : Int) - y + p by omega, Int.add_emod_right]
    rw [e, Int.natCast_emod, Int.natCast_add, Int.natCast_sub (by omega)]) (h.lt (fsb_lt (by omega)))
  rw [e1]
  exact ⟨rfl, hb⟩
theorem mulD {w : World} {p x y : Nat} (h : Fp p) (hx : x < p) (hy : y < p) : Calls Try.prog 58 #[fV p, DV x, DV y] w fun e w' => e = .returned (DV (fml p x y)) ∧ Below w.heap.size w w' := by
  have d1 := dg_ok h.2
  have d2 := dg_ok (h.lt hx)
  have d3 := dg_ok (h.lt hy)
  have hl := h.len
  refine (rmul_any (lim p).length (dg p) (dg x) (dg y) d1.1 d2.1 d3.1 hl.1 hl.2.1 (by rw [d1.2]; exact hl.2.2) (by rw [d1.2, d2.2]; omega) (by rw [d1.2, d3.2]; omega)).mono ?_
  rintro e w' ⟨Z, rfl, hZ, hv, hb⟩
  rw [d1.2, d2.2, d3.2] at hv
  have e1 : Z = dg (fml p x y) := dg_eq hZ (by rw [hv]; unfold fml; exact_mod_cast rfl) (h.lt (fml_lt (by omega)))
  rw [e1]
  exact ⟨rfl, hb⟩
end Go.Proofs.Ytkdclocjijmgpaa
/-
  Curves: the reference's field in regions whose values are known.
-/
namespace Go.Proofs.Ytkdclocjijmgpaa
open Go.RowKit
set_option maxRecDepth 20000
theorem run_call3 {a : Act} {W : World} {o : Oper} {f : FuncId} {t1 t2 t3 : Tmp} {tys : Array TypeId} (hop : o.op = .call { callee := .value (.func f), args := #[.tmp t1, .tmp t2, .tmp t3], argTypes := tys }) {v1 v2 v3 : Value} (e1 : a.eval (.tmp t1) = v1) (e2 : a.eval (.tmp t2) = v2) (e3 : a.eval (.tmp t3) = v3)
    (eg : ∀ (args : Array Value) (w : World), (callFunc f args).run Try.prog w = .ok (.enter f args) w) : (execOp a.eval o).run Try.prog W = .ok (.enter f #[v1, v2, v3]) W := by
  have e0 : a.eval (.func f) = .func (.func f) #[] #[] := rfl
  subst e1 e2 e3
  unfold execOp
  simp only [hop, resolve, e0]
  simp [go_sem, Deferred.ofValue, invoke, eg]
theorem eg_of {f : FuncId} {fn : Func} (hf : Try.prog.funcs[f]? = some fn) (h1 : (fn.name == "runtime.NumGoroutine") = false) (h2 : fn.body.isNone = false) (args : Array Value) (w : World) : (callFunc f args).run Try.prog w = .ok (.enter f args) w := by
  have g1 : ¬ fn.name = "runtime.NumGoroutine" := fun h => by simp [h] at h1
  have g2 : ¬ fn.body = none := fun h => by simp [h] at h2
  simp [go_sem, callFunc, hf, g1, g2]
theorem eg_mul (args : Array Value) (w : World) : (callFunc 58 args).run Try.prog w = .ok (.enter 58 args) w := eg_of Try.func58 (by kernel_rfl) (by kernel_rfl) args w
theorem eg_add (args : Array Value) (w : World) : (callFunc 61 args).run Try.prog w = .ok (.enter 61 args) w := eg_of Try.func61 (by kernel_rfl) (by kernel_rfl) args w
theorem eg_sub (args : Array Value) (w : World) : (callFunc 59 args).run Try.prog w = .ok (.enter 59 args) w := eg_of Try.func59 (by kernel_rfl) (by kernel_rfl) args w
theorem run_field {a : Act} {W : World} {o : Oper} {t k : Nat} (hop : o.op = .fieldAddr 70 (.tmp t) k) {bl : Nat} (hx : a.eval (.tmp t) = .pointer (some ⟨bl, 0, none⟩)) (hk : k < 3) : (execOp a.eval o).run Try.prog W = .ok (.value (.pointer (some ⟨bl, 13 * k, none⟩))) W := by
  unfold execOp
  simp only [hop, hx]
  match k, hk with
  | 0, _ => simp [go_sem, Instr.fieldAt]
  | 1, _ => simp [go_sem, Instr.fieldAt]
  | 2, _ => simp [go_sem, Instr.fieldAt]
theorem run_allocD {a : Act} {W : World} {o : Oper} (hop : o.op = .alloc 64) : (execOp a.eval o).run Try.prog W = .ok (.value (.pointer (some ⟨W.heap.size, 0, none⟩))) (W.alloc (.cells z13.toArray 64)) := by
  unfold execOp
  simp only [hop]
  simp [go_sem, Instr.alloc, z13]
theorem addF {w : World} {p x y : Nat} {F : List Value} (hF : fdC (lim p).length (dg p) = F) (h : Fp p) (hx : x < p) (hy : y < p) : Calls Try.prog 61 #[.agg F.toArray, DV x, DV y] w fun e w' => e = .returned (DV (fad p x y)) ∧ Below w.heap.size w w' := by subst hF; exact addD h hx hy
theorem subF {w : World} {p x y : Nat} {F : List Value} (hF : fdC (lim p).length (dg p) = F) (h : Fp p) (hx : x < p) (hy : y < p) : Calls Try.prog 59 #[.agg F.toArray, DV x, DV y] w fun e w' => e = .returned (DV (fsb p x y)) ∧ Below w.heap.size w w' := by subst hF; exact subD h hx hy
theorem mulF {w : World} {p x y : Nat} {F : List Value} (hF : fdC (lim p).length (dg p) = F) (h : Fp p) (hx : x < p) (hy : y < p) : Calls Try.prog 58 #[.agg F.toArray, DV x, DV y] w fun e w' => e = .returned (DV (fml p x y)) ∧ Below w.heap.size w w' := by subst hF; exact mulD h hx hy
theorem dgC_l {x p : Nat} (h : Fp p) (hx : x < p) : (dgC (dg x)).length = 13 := by rw [dgC_len]; exact (dg_ok (h.lt hx)).1.2
theorem szD {x p : Nat} (h : Fp p) (hx : x < p) : (Try.prog.info? 64).map (·.size) = some (dgC (dg x)).length := by rw [dgC_l h hx]; exact Try.sizeDg
/-- Three numbers' digits. -/
def tC (x y z : Nat) : List Value := dgC (dg x) ++ (dgC (dg y) ++ dgC (dg z))
theorem tC_at {W : World} {T : TypeId} {b x y z p : Nat} (h : Fp p) (hx : x < p) (hy : y < p) (hz : z < p) (hB : Blk T W b (tC x y z)) : W.rangeAt b 0 (dgC (dg x)) ∧ W.rangeAt b 13 (dgC (dg y)) ∧ W.rangeAt b 26 (dgC (dg z)) := by
  have l1 := dgC_l h hx
  have l2 := dgC_l h hy
  have l3 := dgC_l h hz
  unfold tC at hB
  refine ⟨hB.range 0 _ ?_, hB.range 13 _ ?_, hB.range 26 _ ?_⟩
  · rw [List.drop_zero, List.take_append_of_le_length (by omega), List.take_of_length_le (by omega)]
  · rw [List.drop_append_of_le_length (by omega), List.drop_of_length_le (by omega), List.nil_append, List.take_append_of_le_length (by omega), List.take_of_length_le (by omega)]
  · rw [← List.append_assoc, List.drop_append_of_le_length (by simp [l1, l2]), List.drop_of_length_le (by simp [l1, l2]), List.nil_append, List.take_of_length_le (by omega)]
theorem tC_len {x y z p : Nat} (h : Fp p) (hx : x < p) (hy : y < p) (hz : z < p) : (tC x y z).length = 39 := by
  unfold tC
  simp [dgC_l h hx, dgC_l h hy, dgC_l h hz]
theorem Try.sizeTp : (Try.prog.info? 70).map (·.size) = some 39 := by kernel_rfl
theorem szT {x y z p : Nat} (h : Fp p) (hx : x < p) (hy : y < p) (hz : z < p) : (Try.prog.info? 70).map (·.size) = some (tC x y z).toArray.size := by
  rw [List.size_toArray, tC_len h hx hy hz]; exact Try.sizeTp
theorem szTl {x y z p : Nat} (h : Fp p) (hx : x < p) (hy : y < p) (hz : z < p) : (Try.prog.info? 70).map (·.size) = some (tC x y z).length := by rw [tC_len h hx hy hz]; exact Try.sizeTp
theorem tC_one (x y z : Nat) : (tC x y z).toArray.all (·.oneCell') = true := by
  unfold tC dgC
  rw [← List.map_append, ← List.map_append]
  exact ints_one .u64 _
theorem tC0 : tC 0 0 0 = z13 ++ (z13 ++ z13) := by
  have h : lim 0 = [] := List.eq_nil_of_length_eq_zero (lim0.2 rfl)
  have e : dgC (dg 0) = z13 := by unfold dg; rw [h]; rfl
  unfold tC
  rw [e]
theorem wp_frame {P : Program} {c : Code} {Q : Exit → Act → World → Prop} {a : Act} {w : World} (I : Act → Prop) (h : I a) (g : ∀ b, I b → c.wp P Q b w) : c.wp P Q a w := g a h
theorem z39_len : (z13 ++ (z13 ++ z13)).length = 39 := rfl
theorem updDrew (w : World) (b : Nat) : Upd w w.drew b := Upd.drewN (Upd.refl w b) 1
theorem allDep {ops : Array Oper} {n iS k : Nat} (hk : k < n) (hne : k ≠ iS) (h : ((List.range n).all fun k => k == iS || (depL .any ops iS).contains k) = true) : k ∈ depL .any ops iS := by
  have := List.all_eq_true.1 h k (List.mem_range.2 hk)
  simp only [Bool.or_eq_true, beq_iff_eq] at this
  rcases this with h | h
  · exact absurd h hne
  · simpa using h
set_option maxHeartbeats 1000000 in
theorem run_build {a : Act} {W : World} {o : Oper} {t1 t2 t3 : Tmp} (hop : o.op = .build 70 #[(0, .tmp t1), (1, .tmp t2), (2, .tmp t3)]) {x y z : Nat} (e1 : a.eval (.tmp t1) = DV x) (e2 : a.eval (.tmp t2) = DV y) (e3 : a.eval (.tmp t3) = DV z) (l1 : (dg x).length = 13) (l2 : (dg y).length = 13) (l3 : (dg z).length = 13) : (execOp a.eval o).run Try.prog W = .ok (.value (.agg (tC x y z).toArray)) W := by
  unfold execOp
  simp only [hop]
  unfold tC DV at *
  obtain ⟨x0, x1, x2, x3, x4, x5, x6, x7, x8, x9, x10, x11, x12, hx⟩ := list13 l1
  obtain ⟨y0, y1, y2, y3, y4, y5, y6, y7, y8, y9, y10, y11, y12, hy⟩ := list13 l2
  obtain ⟨u0, u1, u2, u3, u4, u5, u6, u7, u8, u9, u10, u11, u12, hz⟩ := list13 l3
  rw [hx] at e1 ⊢
  rw [hy] at e2 ⊢
  rw [hz] at e3 ⊢
  have e4 : (#[(0, Operand.tmp t1), (1, Operand.tmp t2), (2, Operand.tmp t3)] : Array (Nat × Operand)).map (fun q => (q.1, a.eval q.2)) = #[(0, .agg (dgC [x0, x1, x2, x3, x4, x5, x6, x7, x8, x9, x10, x11, x12]).toArray), (1, .agg (dgC [y0, y1, y2, y3, y4, y5, y6, y7, y8, y9, y10, y11, y12]).toArray), (2, .agg (dgC [u0, u1, u2, u3, u4, u5, u6, u7, u8, u9, u10, u11, u12]).toArray)] := by simp [e1, e2, e3]
  rw [e4]
  have e5 : ∀ W : World, Sem.run Try.prog (do pure (Next.value (← Instr.build 70 #[(0, .agg (dgC [x0, x1, x2, x3, x4, x5, x6, x7, x8, x9, x10, x11, x12]).toArray), (1, .agg (dgC [y0, y1, y2, y3, y4, y5, y6, y7, y8, y9, y10, y11, y12]).toArray), (2, .agg (dgC [u0, u1, u2, u3, u4, u5, u6, u7, u8, u9, u10, u11, u12]).toArray)]))) W = .ok (.value (.agg (dgC [x0, x1, x2, x3, x4, x5, x6, x7, x8, x9, x10, x11, x12] ++ (dgC [y0, y1, y2, y3, y4, y5, y6, y7, y8, y9, y10, y11, y12] ++ dgC [u0, u1, u2, u3, u4, u5, u6, u7, u8, u9, u10, u11, u12])).toArray)) W := fun W => by kernel_rfl
  exact e5 W
abbrev At (A : Act) (s b : Nat) : Prop := A.eval (.tmp s) = .pointer (some ⟨b, 0, none⟩)
abbrev PV (b k : Nat) : Value := .pointer (some ⟨b, k, none⟩)
abbrev BD (w W : World) (k b v : Nat) : Prop := Blk 64 W b (dgC (dg v)) ∧ w.heap.size + k < b
theorem bb {T : TypeId} {w w' : World} {b : Nat} {cs : List Value} (h : Below w.heap.size w w') (ha : Blk T w b cs) : Blk T w' b cs := below_blk h ha.lt ha
theorem dv {n : Nat} {L : Array Bool} {a : Act} {ops : Array Oper} {V : Nat → Value} {D : List Nat} (hv : ∀ k d, k < n → Up L k → dstOf ops k = some d → a.eval (.tmp d) = V k) (hdep : ∀ k ∈ D, Up L k) (k d : Nat) (h1 : k < n := by decide) (h2 : k ∈ D := by decide +kernel) (h3 : dstOf ops k = some d := by rfl) : a.eval (.tmp d) = V k := hv k d h1 (hdep k h2) h3
theorem e0 {n : Nat} {a a0 : Act} {ops : Array Oper} {t : Tmp} {v : Value} (h0 : ∀ t, ((List.range n).all fun k => dstOf ops k != some t) = true → a.eval (.tmp t) = a0.eval (.tmp t)) (h : a0.eval (.tmp t) = v) (h2 : ((List.range n).all fun k => dstOf ops k != some t) = true := by decide +kernel) : a.eval (.tmp t) = v := (h0 t h2).trans h
theorem SA.kp {w0 : World} {T : TypeId} {zero cells : List Value} {iA iS b : Nat} {L : Array Bool} {W : World} (h : SA w0 T zero cells iA iS b L W) {i : Nat} (hA : i ≠ iA := by decide) (hS : i ≠ iS := by decide) : SA w0 T zero cells iA iS b (L.setIfInBounds i true) W := h.keep hA hS (Below.refl _ _)
theorem SA.kc {w0 : World} {T : TypeId} {zero cells : List Value} {iA iS b : Nat} {L : Array Bool} {W : World} (h : SA w0 T zero cells iA iS b L W) {i : Nat} (hA : i ≠ iA := by decide) (hS : i ≠ iS := by decide) (W' : World) (hb : Below W.heap.size W W') : SA w0 T zero cells iA iS b (L.setIfInBounds i true) W' := h.keep hA hS hb
theorem SB.kp {w0 : World} {T : TypeId} {bs : Nat} {old new : List Value} {iS n : Nat} {b : Unit} {L : Array Bool} {W : World} (h : SB w0 T bs old new iS n b L W) {i : Nat} (hno : ¬ Up L i) (hi : i < n := by decide) (hS : i ≠ iS := by decide) : SB w0 T bs old new iS n b (L.setIfInBounds i true) W := h.keep hi hno hS (Below.refl _ _)
theorem SB.kc {w0 : World} {T : TypeId} {bs : Nat} {old new : List Value} {iS n : Nat} {b : Unit} {L : Array Bool} {W : World} (h : SB w0 T bs old new iS n b L W) {i : Nat} (hno : ¬ Up L i) (hi : i < n := by decide) (hS : i ≠ iS := by decide) (W' : World) (hb : Below W.heap.size W W') : SB w0 T bs old new iS n b (L.setIfInBounds i true) W' := h.keep hi hno hS hb
theorem SB.bl {w0 : World} {T : TypeId} {bs : Nat} {old new : List Value} {iS n : Nat} {b : Unit} {L : Array Bool} {W : World} (h : SB w0 T bs old new iS n b L W) {i : Nat} (hno : ¬ Up L i) (hi : i < n := by decide) : Below w0.heap.size w0 W := (h.not hi hno).1
theorem ldF {β : Type} {ops : Array Oper} {Q : Exit → Act → World → Prop} {V : β → Nat → Value} {S : β → Array Bool → World → Prop} {i : Nat} {b : β} {L : Array Bool} {a : Act} {W : World} {o : Oper} (ho : ops[i]? = some o) (hg : o.guard = none) {x : Operand} (hop : o.op = .load 66 x) {bl : Nat} (hx : a.eval x = PV bl 0) {F : List Value} (hB : Blk 66 W bl F) (hi : (Try.prog.info? 66).map (·.size) = some F.length) (hv : V b i = .agg F.toArray) (hS : S b (L.setIfInBounds i true) W) : DetOp Try.prog ops Q V S i b L a W := det_load ho hg hop hx hB.whole Try.underlying66 rfl hi hv hS
theorem ldR {β : Type} {ops : Array Oper} {Q : Exit → Act → World → Prop} {V : β → Nat → Value} {S : β → Array Bool → World → Prop} {i : Nat} {b : β} {L : Array Bool} {a : Act} {W : World} {o : Oper} (ho : ops[i]? = some o) (hg : o.guard = none) {x : Operand} (hop : o.op = .load 64 x) {bl k v p : Nat} (hx : a.eval x = PV bl k) (hB : W.rangeAt bl k (dgC (dg v))) (h : Fp p) (hp : v < p) (hv : V b i = DV v) (hS : S b (L.setIfInBounds i true) W) : DetOp Try.prog ops Q V S i b L a W := det_load ho hg hop hx hB Try.underlying64 rfl (szD h hp) hv hS
theorem ldD {β : Type} {ops : Array Oper} {Q : Exit → Act → World → Prop} {V : β → Nat → Value} {S : β → Array Bool → World → Prop} {i : Nat} {b : β} {L : Array Bool} {a : Act} {W : World} {o : Oper} (ho : ops[i]? = some o) (hg : o.guard = none) {x : Operand} (hop : o.op = .load 64 x) {bl v p : Nat} (hx : a.eval x = PV bl 0) (hB : Blk 64 W bl (dgC (dg v))) (h : Fp p) (hp : v < p) (hv : V b i = DV v) (hS : S b (L.setIfInBounds i true) W) : DetOp Try.prog ops Q V S i b L a W := ldR ho hg hop hx hB.whole h hp hv hS
theorem rf {a : Act} {W : World} {o : Oper} {t : Nat} (k : Nat) (hop : o.op = .fieldAddr 70 (.tmp t) k) {bl : Nat} (hx : a.eval (.tmp t) = PV bl 0) (hk : k < 3 := by decide) : (execOp a.eval o).run Try.prog W = .ok (.value (PV bl (13 * k))) W := run_field hop hx hk
theorem cM {β : Type} {ops : Array Oper} {Q : Exit → Act → World → Prop} {V : β → Nat → Value} {S : β → Array Bool → World → Prop} {i : Nat} {b : β} {L : Array Bool} {a : Act} {W : World} {o : Oper} (ho : ops[i]? = some o) (hg : o.guard = none) {t1 t2 t3 : Tmp} {tys : Array TypeId} (hop : o.op = .call { callee := .value (.func 58), args := #[.tmp t1, .tmp t2, .tmp t3], argTypes := tys }) {F : List Value} {p x y : Nat} (e1 : a.eval (.tmp t1) = .agg F.toArray) (e2 : a.eval (.tmp t2) = DV x) (e3 : a.eval (.tmp t3) = DV y) (hF : fdC (lim p).length (dg p) = F) (h : Fp p) (hx : x < p) (hy : y < p) (hS : ∀ w', Below W.heap.size W w' → S b (L.setIfInBounds i true) w') (hv : V b i = DV (fml p x y) := by rfl) : DetOp Try.prog ops Q V S i b L a W := det_call ho hg (run_call3 hop e1 e2 e3 eg_mul) (by rw [hv]; exact mulF hF h hx hy) hS
theorem cA {β : Type} {ops : Array Oper} {Q : Exit → Act → World → Prop} {V : β → Nat → Value} {S : β → Array Bool → World → Prop} {i : Nat} {b : β} {L : Array Bool} {a : Act} {W : World} {o : Oper} (ho : ops[i]? = some o) (hg : o.guard = none) {t1 t2 t3 : Tmp} {tys : Array TypeId} (hop : o.op = .call { callee := .value (.func 61), args := #[.tmp t1, .tmp t2, .tmp t3], argTypes := tys }) {F : List Value} {p x y : Nat} (e1 : a.eval (.tmp t1) = .agg F.toArray) (e2 : a.eval (.tmp t2) = DV x) (e3 : a.eval (.tmp t3) = DV y) (hF : fdC (lim p).length (dg p) = F) (h : Fp p) (hx : x < p) (hy : y < p) (hS : ∀ w', Below W.heap.size W w' → S b (L.setIfInBounds i true) w') (hv : V b i = DV (fad p x y) := by rfl) : DetOp Try.prog ops Q V S i b L a W := det_call ho hg (run_call3 hop e1 e2 e3 eg_add) (by rw [hv]; exact addF hF h hx hy) hS
theorem cS {β : Type} {ops : Array Oper} {Q : Exit → Act → World → Prop} {V : β → Nat → Value} {S : β → Array Bool → World → Prop} {i : Nat} {b : β} {L : Array Bool} {a : Act} {W : World} {o : Oper} (ho : ops[i]? = some o) (hg : o.guard = none) {t1 t2 t3 : Tmp} {tys : Array TypeId} (hop : o.op = .call { callee := .value (.func 59), args := #[.tmp t1, .tmp t2, .tmp t3], argTypes := tys }) {F : List Value} {p x y : Nat} (e1 : a.eval (.tmp t1) = .agg F.toArray) (e2 : a.eval (.tmp t2) = DV x) (e3 : a.eval (.tmp t3) = DV y) (hF : fdC (lim p).length (dg p) = F) (h : Fp p) (hx : x < p) (hy : y < p) (hS : ∀ w', Below W.heap.size W w' → S b (L.setIfInBounds i true) w') (hv : V b i = DV (fsb p x y) := by rfl) : DetOp Try.prog ops Q V S i b L a W := det_call ho hg (run_call3 hop e1 e2 e3 eg_sub) (by rw [hv]; exact subF hF h hx hy) hS
theorem alA {w0 : World} {cells : List Value} {iA iS b : Nat} {L : Array Bool} {W : World} {V : Nat → Nat → Value} {Q : Exit → Act → World → Prop} {a : Act} {ops : Array Oper} {o : Oper} (ho : ops[iA]? = some o) (hg : o.guard = none) (hop : o.op = .alloc 64) (hV : ∀ k, k ≠ iA → V W.heap.size k = V b k) (hv : V W.heap.size iA = PV W.heap.size 0) (h : SA w0 64 z13 cells iA iS b L W) (hno : ¬ Up L iA) (hne : iA ≠ iS := by decide) : DetOp Try.prog ops Q V (SA w0 64 z13 cells iA iS) iA b L a W := det_alloc W.heap.size ho hg (run_allocD hop) hV hv (h.alloc hno hne)
theorem stA {w0 : World} {iA iS b : Nat} {L : Array Bool} {W : World} {V : Nat → Nat → Value} {Q : Exit → Act → World → Prop} {a : Act} {ops : Array Oper} {o : Oper} (ho : ops[iS]? = some o) (hg : o.guard = none) (hd : o.dst = none) {x y : Operand} (hop : o.op = .store 64 x y) {v p : Nat} (hx : a.eval x = PV b 0) (hy : a.eval y = DV v) (hp : Fp p) (hl : v < p) (h : SA w0 64 z13 (dgC (dg v)) iA iS b L W) (hno : ¬ Up L iS) {D : List Nat} {n : Nat} (hdep : ∀ k ∈ D, Up L k) (hlt : ∀ k, k < n → k < L.size) (hm : iA ∈ D := by decide +kernel) (hn : iS < n := by decide) (hne : iA ≠ iS := by decide) : DetOp Try.prog ops Q V (SA w0 64 z13 (dgC (dg v)) iA iS) iS b L a W :=
  det_store ho hg hd hop hx hy (((h.2.1 (hdep iA hm)).2.1 hno).there 0 _ (by simp [dgC_l hp hl]; decide)) (szD hp hl) (dgC_one _) (h.store (hdep iA hm) hno hne (hlt iS hn) (by rw [dgC_l hp hl]; rfl))
end Go.Proofs.Ytkdclocjijmgpaa
