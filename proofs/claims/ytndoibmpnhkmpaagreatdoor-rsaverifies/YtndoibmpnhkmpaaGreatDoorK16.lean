/-
  Rsa: of the reference: Bits (as W42, over E98).
-/
import Derived.Deep.QuietTactic
import Derived.BigQuiet
import Derived.Test.YtndoibmpnhkmpaaGreatDoorK15
namespace Go.Proofs.YtndoibmpnhkmpaaGreatDoor.D
theorem getD_div (xs : List Int) (i : Nat) (hu : U16s xs) : (val xs).toNat / 2 ^ (16 * i) % 65536 = (xs.getD i 0).toNat := by
  induction i generalizing xs with
  | zero =>
    rw [val_head_tail]
    have h1 := hu.at 0; unfold U16 at h1
    have h2 := val_nonneg hu.tl
    simp only [Nat.mul_zero, Nat.pow_zero, Nat.div_one]; omega
  | succ i ih =>
    have := ih xs.tail hu.tl
    rw [getD_tail] at this
    rw [← this, val_head_tail xs]
    have h1 := hu.at 0; unfold U16 at h1
    have h2 := val_nonneg hu.tl
    rw [Nat.mul_add, Nat.mul_one, Nat.add_comm, Nat.pow_add, ← Nat.div_div_eq_div_mul]
    congr 2; omega
theorem bit_eq (v i : Nat) : v / 2 ^ (16 * (i / 16)) % 65536 / 2 ^ (i % 16) % 2 = v / 2 ^ i % 2 := by
  have e : (65536 : Nat) = 2 ^ (i % 16) * 2 ^ (16 - i % 16) := by rw [← Nat.pow_add, show i % 16 + (16 - i % 16) = 16 by omega]
  have e2 : i = 16 * (i / 16) + i % 16 := by omega
  rw [e, Nat.mod_mul_right_div_self, Nat.div_div_eq_div_mul, ← Nat.pow_add, ← e2]
  have e3 : 2 ^ (16 - i % 16) = 2 * 2 ^ (15 - i % 16) := by rw [Nat.mul_comm, ← Nat.pow_succ]; congr 1; omega
  rw [e3, Nat.mod_mul_right_mod]
end Go.Proofs.YtndoibmpnhkmpaaGreatDoor.D
namespace Go.Proofs.YtndoibmpnhkmpaaGreatDoor
open Go.RowKit
set_option maxRecDepth 20000

theorem bitLen_lt {n k : Nat} (h : n < 2 ^ k) : bitLen n ≤ k := by
  have := bitLen_spec n
  apply Classical.byContradiction; intro hc
  by_cases h0 : n = 0
  · subst h0; simp [bitLen] at hc
  · have h2 := this.2 h0
    have h3 : 2 ^ k ≤ 2 ^ (bitLen n - 1) := Nat.pow_le_pow_right (by decide) (by omega)
    omega
theorem and1_64 (x : Int) (h0 : 0 ≤ x) (h1 : x < 18446744073709551616) : bits BinOp.and .u64 x 1 = x % 2 := by go_bits2
theorem bitLen_eq {n k : Nat} (h : n < 2 ^ (k + 1)) (h1 : n / 2 ^ k % 2 = 1) : bitLen n = k + 1 := by
  have h2 := bitLen_lt h
  have h3 := (bitLen_spec n).1
  have hge : 2 ^ k ≤ n := by
    apply Decidable.byContradiction; intro hc
    rw [Nat.div_eq_of_lt (by omega)] at h1; simp at h1
  apply Decidable.byContradiction; intro hc
  have : 2 ^ bitLen n ≤ 2 ^ k := Nat.pow_le_pow_right (by decide) (by omega)
  omega
theorem lt_half {n k : Nat} (h : n < 2 ^ (k + 1)) (h1 : n / 2 ^ k % 2 = 0) : n < 2 ^ k := by
  have h2 : n / 2 ^ k < 2 := Nat.div_lt_of_lt_mul (by rw [Nat.pow_succ] at h; exact h)
  have h3 : n / 2 ^ k = 0 := by
    generalize n / 2 ^ k = t at h1 h2
    omega
  rcases Nat.div_eq_zero_iff.1 h3 with h4 | h4
  · have : 0 < 2 ^ k := Nat.pow_pos (by decide)
    omega
  · exact h4

set_option maxHeartbeats 2000000 in
theorem RBits_any {w : World} (v : Value) (X : List Int) (hX : Sl .u32 w v X) (uX : U32s X) (hl : X.length ≤ 268435456) (N : Int) (hN : val X = N) :
    Calls Tryz.prog 53 #[v] w fun e w' => e = .returned (.int .i64 (bitLen N.toNat)) ∧ Below w.heap.size w w' := by
  have nN : 0 ≤ N := hN ▸ val_nonneg uX
  have bX := val_lt uX
  rw [hN] at bX
  obtain ⟨Ds, hDs⟩ : ∃ Ds, D.lim N.toNat = Ds := ⟨_, rfl⟩
  have dN : Ds.length ≤ 2 * X.length := by rw [← hDs]; exact D.lim_fits nN (by rw [pow16_32]; exact bX)
  have uD : D.U16s Ds := hDs ▸ D.lim_u16 _
  have vD : D.val Ds = N := by rw [← hDs]; exact D.val_limI nN
  have HX : Hid (val X = N) := hN
  have HD : Hid (D.lim N.toNat = Ds) := hDs
  have HV : Hid (D.U16s Ds ∧ D.val Ds = N) := ⟨uD, vD⟩
  have HST : Hid (N.toNat < 2 ^ (16 * Ds.length)) := by
    have h1 := D.val_lt uD
    rw [vD] at h1
    have h2 : ((N.toNat : Nat) : Int) < ((2 ^ (16 * Ds.length) : Nat) : Int) := by
      rw [Int.toNat_of_nonneg nN, Int.natCast_pow, Int.pow_mul]; exact h1
    exact Int.ofNat_lt.1 h2
  have hBt : Below w.heap.size w w := Below.refl _ _
  clear hN bX nN hDs uD vD
  go_enter Tryz.func53, Tryz.ntmps53
  go_wp2_with (go_at_call 71; refine (Digits_any _ X hX uX (by omega) N HX.out).mono ?_; rintro e w1 ⟨p, rfl, hp, hB⟩; rw [HD.out] at hp; replace hBt := grow0 hBt hB; obtain ⟨ap, cp, hvp, _⟩ := hp.len; subst hvp)
  go_loop [4] (fun i => ∃ k : Nat, i = .int .i64 k ∧ k ≤ 16 * Ds.length ∧ Hid (N.toNat < 2 ^ k)) (fun i => (intOf i).toNat)
  case atStart => exact ⟨16 * Ds.length, by go_num, Nat.le_refl _, HST.out⟩
  case round =>
    clear HST
    obtain ⟨k, rfl, hk, HK⟩ := hrel
    cases k with
    | zero =>
      have HZ : Hid (bitLen N.toNat = 0) := by
        have h1 := HK.out
        have h2 : N.toNat = 0 := by simpa using h1
        rw [h2]; rfl
      clear HK
      go_wp2
      go_ret
      exact ⟨by rw [HZ.out]; rfl, hBt⟩
    | succ m =>
      obtain ⟨b, off, ha, hb, hrd⟩ : ∃ b off, ap = some ⟨b, off, none⟩ ∧ b < w1.heap.size ∧ Rd .u64 w1 b off Ds := by
        obtain ⟨a', c', h1, _, h2⟩ := id hp
        cases h1
        rcases h2 with rfl | ⟨b, off, rfl, hb, hr⟩
        · simp at hk
        · exact ⟨b, off, rfl, hb, hr⟩
      subst ha
      obtain ⟨q, hq⟩ : ∃ q, m / 16 = q := ⟨_, rfl⟩
      obtain ⟨s, hs⟩ : ∃ s, m % 16 = s := ⟨_, rfl⟩
      obtain ⟨y, hy⟩ : ∃ y, Ds.getD q 0 = y := ⟨_, rfl⟩
      have uy : D.U16 y := hy ▸ HV.out.1.at _
      obtain ⟨uy1, uy2⟩ := uy
      have hcy : w1.cell? ⟨b, off + q, none⟩ = some (.int .u64 y) := by rw [hrd q (by omega), hy]
      have HB : Hid (N.toNat / 2 ^ m % 2 = y.toNat / 2 ^ s % 2) := by
        show N.toNat / 2 ^ m % 2 = y.toNat / 2 ^ s % 2
        rw [← D.bit_eq, hq, hs, ← HV.out.2, D.getD_div Ds q HV.out.1, hy]
      have hmi : (m : Int) / 16 = q := by omega
      have hsi : (m : Int) % 16 = s := by omega
      have hs16 : s < 16 := by omega
      have hqD : q < Ds.length := by omega
      have hp2 : 0 < (2 : Int) ^ s := Int.pow_pos (by decide)
      have hd0 : 0 ≤ y / 2 ^ s := Int.ediv_nonneg uy1 (Int.le_of_lt hp2)
      have hd1 : y / 2 ^ s < 18446744073709551616 := by have := Int.ediv_le_self (2 ^ s) uy1; omega
      have hand := and1_64 (y / 2 ^ s) hd0 hd1
      have hcast : ((y.toNat / 2 ^ s % 2 : Nat) : Int) = y / 2 ^ s % 2 := by
        obtain ⟨n, rfl⟩ := Int.eq_ofNat_of_zero_le uy1
        simp
      obtain ⟨bt, hbt⟩ : ∃ bt, y / 2 ^ s % 2 = bt := ⟨_, rfl⟩
      rw [hbt] at hand hcast
      have hb01 : bt = 0 ∨ bt = 1 := by omega
      have HB2 : Hid (N.toNat / 2 ^ m % 2 = bt.toNat) := by
        show N.toNat / 2 ^ m % 2 = bt.toNat
        rw [HB.out]; omega
      clear hq hs hy hbt hcast HB hrd
      rcases hb01 with rfl | rfl
      · go_wp2
        go_round
        case rel => exact ⟨m, by go_num, by omega, lt_half HK.out HB2.out⟩
        case measure => simp [intOf]
      · have HR : Hid (bitLen N.toNat = m + 1) := bitLen_eq HK.out HB2.out
        go_wp2
        go_ret
        exact ⟨by rw [HR.out]; rfl, hBt⟩
end Go.Proofs.YtndoibmpnhkmpaaGreatDoor
/-
  Rsa: the reference's Check and Size.
-/
namespace Go.Proofs.YtndoibmpnhkmpaaGreatDoor
open Go.RowKit
set_option maxRecDepth 20000
set_option maxHeartbeats 4000000 in
theorem RCheck_any {w : World} (a a' : Option Addr) (n c n' c' : Nat) (ns es : List Int) (hn : Sl .u32 w (.slice a n c) ns) (un : U32s ns) (ln : ns.length = n) (he : Sl .u32 w (.slice a' n' c') es) (ue : U32s es) (le : es.length = n') (hb : n ≤ 600) (hb' : n' ≤ 600) :
    Calls Tryz.prog 35 #[.agg #[.slice a n c, .slice a' n' c']] w fun e w' => e = .returned (.int .i64 (if keyOk ns es then 0 else 80)) ∧ Below w.heap.size w w' := by
  obtain ⟨B, hB⟩ : ∃ B, bts ns = B := ⟨_, rfl⟩
  obtain ⟨C, hC⟩ : ∃ C, bts es = C := ⟨_, rfl⟩
  have HM : Hid (∀ W, Below w.heap.size w W → Calls Tryz.prog 53 #[.slice a n c] W fun e w'' => e = .returned (.int .i64 B) ∧ Below W.heap.size W w'') := fun W hw =>
    (RBits_any _ ns (below_sl hw hn) un (by omega) _ rfl).mono fun _ _ h => ⟨by rw [h.1, ← hB]; rfl, h.2⟩
  have HE : Hid (∀ W, Below w.heap.size w W → Calls Tryz.prog 53 #[.slice a' n' c'] W fun e w'' => e = .returned (.int .i64 C) ∧ Below W.heap.size W w'') := fun W hw =>
    (RBits_any _ es (below_sl hw he) ue (by omega) _ rfl).mono fun _ _ h => ⟨by rw [h.1, ← hC]; rfl, h.2⟩
  obtain ⟨R, hR⟩ : ∃ R : Int, (if keyOk ns es then 0 else 80) = R := ⟨_, rfl⟩
  rw [hR]
  obtain ⟨x, hx⟩ : ∃ x, ns.getD 0 0 = x := ⟨_, rfl⟩
  obtain ⟨y, hy⟩ : ∃ y, es.getD 0 0 = y := ⟨_, rfl⟩
  have hk : keyOk ns es = decide ((n ≤ 256 ∧ 512 ≤ B ∧ x % 2 = 1) ∧ n' ≤ 256 ∧ 2 ≤ C ∧ C ≤ 64 ∧ y % 2 = 1) := by
    unfold keyOk modOk expOk; rw [ln, le, hB, hC, hx, hy]; simp only [Bool.decide_and, Bool.and_assoc]
  rw [hk] at hR
  have HR : Hid ((if decide ((n ≤ 256 ∧ 512 ≤ B ∧ x % 2 = 1) ∧ n' ≤ 256 ∧ 2 ≤ C ∧ C ≤ 64 ∧ y % 2 = 1) then (0 : Int) else 80) = R) := hR
  have ux : 0 ≤ x ∧ x < 4294967296 := hx ▸ un.at 0
  have uy : 0 ≤ y ∧ y < 4294967296 := hy ▸ ue.at 0
  have pN : 512 ≤ B → 0 < n := fun h => Nat.pos_of_ne_zero fun h0 => by
    have : ns = [] := List.eq_nil_of_length_eq_zero (by omega)
    rw [this, bts_nil] at hB; omega
  have pE : 2 ≤ C → 0 < n' := fun h => Nat.pos_of_ne_zero fun h0 => by
    have : es = [] := List.eq_nil_of_length_eq_zero (by omega)
    rw [this, bts_nil] at hC; omega
  have HN : Hid (0 < n → ∃ b off, a = some ⟨b, off, none⟩ ∧ ∀ W : World, Below w.heap.size w W → W.cell? ⟨b, off, none⟩ = some (.int .u32 x)) := fun h0 => by
    obtain ⟨b, off, h1, h2, h3⟩ := sl_cell0 hn ln h0
    exact ⟨b, off, h1, fun W hW => by rw [hW.cell (p := ⟨b, off, none⟩) h2, h3, hx]⟩
  have HX : Hid (0 < n' → ∃ b off, a' = some ⟨b, off, none⟩ ∧ ∀ W : World, Below w.heap.size w W → W.cell? ⟨b, off, none⟩ = some (.int .u32 y)) := fun h0 => by
    obtain ⟨b, off, h1, h2, h3⟩ := sl_cell0 he le h0
    exact ⟨b, off, h1, fun W hW => by rw [hW.cell (p := ⟨b, off, none⟩) h2, h3, hy]⟩
  clear hn un ln he ue le hR hk hx hy hB hC
  go_enter Tryz.func35, Tryz.ntmps35
  go_upto_region 1 with (refine Sh.wpList_boxR rfl 24 (.tmp 0) rfl #[.slice a n c, .slice a' n' c'] rfl ?_)
  refine Sh.wp_gen (fun W => Blk 24 W w.heap.size [.slice a n c, .slice a' n' c'] ∧ Below w.heap.size w W) ⟨Blk.new _ w _, al1 _⟩ ?_
  rintro W2 ⟨hB, hBw⟩
  have hc0 : W2.cell? ⟨w.heap.size, 0, none⟩ = some (.slice a n c) := hB.cell 0
  have hc1 : W2.cell? ⟨w.heap.size, 1, none⟩ = some (.slice a' n' c') := hB.cell 1
  have H2 : Hid (Below w.heap.size w W2 ∧ ∀ W3, Below W2.heap.size W2 W3 → W3.cell? ⟨w.heap.size, 0, none⟩ = some (.slice a n c) ∧ W3.cell? ⟨w.heap.size, 1, none⟩ = some (.slice a' n' c') ∧ Below w.heap.size w W3) := ⟨hBw, fun W3 h3 => ⟨(below_blk h3 hB.lt hB).cell 0, (below_blk h3 hB.lt hB).cell 1, below_via hBw h3 (Nat.le_refl _)⟩⟩
  clear hB hBw
  by_cases h1 : ¬ n ≤ 256
  · have d1 : decide ((256 : Int) < (n : Int)) = true := by simp; omega
    go_wp2
    go_ret
    exact ⟨by rw [← HR.out, if_neg (by simp; omega)]; rfl, H2.out.1⟩
  have h1 := Decidable.not_not.1 h1
  have d1 : decide ((256 : Int) < (n : Int)) = false := by simp; omega
  by_cases h2 : ¬ n' ≤ 256
  · have d2 : decide ((256 : Int) < (n' : Int)) = true := by simp; omega
    go_wp2
    go_ret
    exact ⟨by rw [← HR.out, if_neg (by simp; omega)]; rfl, H2.out.1⟩
  have h2 := Decidable.not_not.1 h2
  have d2 : decide ((256 : Int) < (n' : Int)) = false := by simp; omega
  by_cases h3 : ¬ 512 ≤ B
  · have d3 : decide ((B : Int) < 512) = true := by simp; omega
    go_wp2_with (go_at_call 53; refine (HM.out _ H2.out.1).mono ?_; rintro e w3 ⟨rfl, hb3⟩; have H3 : Hid (Below w.heap.size w w3) := (H2.out.2 w3 hb3).2.2; clear hb3 hc0 hc1)
    go_ret
    exact ⟨by rw [← HR.out, if_neg (by simp; omega)]; rfl, H3.out⟩
  have h3 := Decidable.not_not.1 h3
  have d3 : decide ((B : Int) < 512) = false := by simp; omega
  by_cases h4 : ¬ 2 ≤ C
  · have d4 : decide ((C : Int) < 2) = true := by simp; omega
    go_wp2_with fail
    refine (HM.out _ H2.out.1).mono ?_
    rintro e w3 ⟨rfl, hb3⟩
    have hd1 := (H2.out.2 w3 hb3).2.1
    have H3 : Hid (Below w.heap.size w w3) := (H2.out.2 w3 hb3).2.2
    clear hb3 hc0 hc1
    go_wp2_with (go_at_call 53; refine (HE.out _ H3.out).mono ?_; rintro e w4 ⟨rfl, hb4⟩; have H4 : Hid (Below w.heap.size w w4) := below_via H3.out hb4 (Nat.le_refl _); clear hb4 hd1)
    go_ret
    exact ⟨by rw [← HR.out, if_neg (by simp; omega)]; rfl, H4.out⟩
  have h4 := Decidable.not_not.1 h4
  have d4 : decide ((C : Int) < 2) = false := by simp; omega
  obtain ⟨b, off, rfl, hN⟩ := HN.out (pN h3)
  obtain ⟨b', off', rfl, hX⟩ := HX.out (pE h4)
  have h0I : (0 : Int) < (n : Int) := by have := pN h3; omega
  have h0J : (0 : Int) < (n' : Int) := by have := pE h4; omega
  have HN' : Hid (∀ W : World, Below w.heap.size w W → W.cell? ⟨b, off, none⟩ = some (.int .u32 x)) := hN
  have HX' : Hid (∀ W : World, Below w.heap.size w W → W.cell? ⟨b', off', none⟩ = some (.int .u32 y)) := hX
  clear hN hX HN HX pN pE
  go_wp2_with fail
  refine (HM.out _ H2.out.1).mono ?_
  rintro e w3 ⟨rfl, hb3⟩
  have hd1 := (H2.out.2 w3 hb3).2.1
  have H3 : Hid (Below w.heap.size w w3 ∧ Below W2.heap.size W2 w3) := ⟨(H2.out.2 w3 hb3).2.2, hb3⟩
  clear hb3 hc0 hc1
  go_wp2_with fail
  refine (HE.out _ H3.out.1).mono ?_
  rintro e w4 ⟨rfl, hb4⟩
  have he1 := (H2.out.2 w4 (below_via H3.out.2 hb4 (Nat.le_refl _))).2.1
  have H4 : Hid (Below w.heap.size w w4 ∧ Below W2.heap.size W2 w4) := ⟨below_via H3.out.1 hb4 (Nat.le_refl _), below_via H3.out.2 hb4 (Nat.le_refl _)⟩
  clear hb4 hd1
  by_cases h5 : ¬ C ≤ 64
  · have d5 : decide ((64 : Int) < (C : Int)) = true := by simp; omega
    go_wp2_with (go_at_call 53; refine (HE.out _ H4.out.1).mono ?_; rintro e w5 ⟨rfl, hb5⟩; have H5 : Hid (Below w.heap.size w w5) := below_via H4.out.1 hb5 (Nat.le_refl _); clear hb5 he1)
    go_ret
    exact ⟨by rw [← HR.out, if_neg (by simp; omega)]; rfl, H5.out⟩
  have h5 := Decidable.not_not.1 h5
  have d5 : decide ((64 : Int) < (C : Int)) = false := by simp; omega
  go_wp2_with fail
  refine (HE.out _ H4.out.1).mono ?_
  rintro e w5 ⟨rfl, hb5⟩
  have hf0 := (H2.out.2 w5 (below_via H4.out.2 hb5 (Nat.le_refl _))).1
  have hf1 := (H2.out.2 w5 (below_via H4.out.2 hb5 (Nat.le_refl _))).2.1
  have H5 : Hid (Below w.heap.size w w5) := below_via H4.out.1 hb5 (Nat.le_refl _)
  have hgx := HN'.out w5 H5.out
  have hgy := HX'.out w5 H5.out
  clear hb5 he1
  by_cases h6 : ¬ x % 2 = 1
  · have d6 : (x % 2 == 0) = true := by simp; omega
    go_wp2
    go_ret
    exact ⟨by rw [← HR.out, if_neg (by simp; omega)]; rfl, H5.out⟩
  have h6 := Decidable.not_not.1 h6
  have d6 : (x % 2 == 0) = false := by simp; omega
  by_cases h7 : ¬ y % 2 = 1
  · have d7 : (y % 2 == 0) = true := by simp; omega
    go_wp2
    go_ret
    exact ⟨by rw [← HR.out, if_neg (by simp; omega)]; rfl, H5.out⟩
  have h7 := Decidable.not_not.1 h7
  have d7 : (y % 2 == 0) = false := by simp; omega
  go_wp2
  go_ret
  exact ⟨by rw [← HR.out, if_pos (by simp; omega)]; rfl, H5.out⟩
end Go.Proofs.YtndoibmpnhkmpaaGreatDoor
/-
  Rsa: the reference's Size; the law RsaChecks.
-/
namespace Go.Proofs.YtndoibmpnhkmpaaGreatDoor
open Go.RowKit
set_option maxRecDepth 20000
set_option maxHeartbeats 2000000 in
theorem RSize_any {w : World} (a a' : Option Addr) (n c n' c' : Nat) (ns es : List Int) (hn : Sl .u32 w (.slice a n c) ns) (un : U32s ns) (ln : ns.length = n) (he : Sl .u32 w (.slice a' n' c') es) (ue : U32s es) (le : es.length = n') (hb : n ≤ 600) (hb' : n' ≤ 600) (hbts : bts ns ≤ 1152921504606846976) :
    Calls Tryz.prog 36 #[.agg #[.slice a n c, .slice a' n' c']] w fun e w' => e = .returned (.int .i64 (keySz ns es)) ∧ Below w.heap.size w w' := by
  have HC : Hid (∀ W, Below w.heap.size w W → Calls Tryz.prog 35 #[.agg #[.slice a n c, .slice a' n' c']] W fun e w'' => e = .returned (.int .i64 (if keyOk ns es then 0 else 80)) ∧ Below W.heap.size W w'') := fun W hw => RCheck_any a a' n c n' c' ns es (below_sl hw hn) un ln (below_sl hw he) ue le hb hb'
  obtain ⟨B, hB⟩ : ∃ B, bts ns = B := ⟨_, rfl⟩
  have HBt : Hid (∀ W, Below w.heap.size w W → Calls Tryz.prog 53 #[.slice a n c] W fun e w'' => e = .returned (.int .i64 B) ∧ Below W.heap.size W w'') := fun W hw =>
    (RBits_any _ ns (below_sl hw hn) un (by omega) _ rfl).mono fun _ _ h => ⟨by rw [h.1, ← hB]; rfl, h.2⟩
  obtain ⟨R, hR⟩ : ∃ R, keySz ns es = R := ⟨_, rfl⟩
  have HR : Hid ((if keyOk ns es then (B + 7) / 8 else 0) = R) := by rw [← hR, ← hB]; rfl
  rw [hR]
  rw [hB] at hbts
  clear hn un ln he ue le hR hB
  go_enter Tryz.func36, Tryz.ntmps36
  go_upto_region 1 with (refine Sh.wpList_boxR rfl 24 (.tmp 0) rfl #[.slice a n c, .slice a' n' c'] rfl ?_)
  refine Sh.wp_gen (fun W => Blk 24 W w.heap.size [.slice a n c, .slice a' n' c'] ∧ Below w.heap.size w W) ⟨Blk.new _ w _, al1 _⟩ ?_
  rintro W2 ⟨hB, hBw⟩
  have hr : W2.rangeAt w.heap.size 0 [.slice a n c, .slice a' n' c'] := hB.whole
  have H2 : Hid (Below w.heap.size w W2 ∧ ∀ W3, Below W2.heap.size W2 W3 → W3.cell? ⟨w.heap.size, 0, none⟩ = some (.slice a n c) ∧ Below w.heap.size w W3) := ⟨hBw, fun W3 h3 => ⟨(below_blk h3 hB.lt hB).cell 0, below_via hBw h3 (Nat.le_refl _)⟩⟩
  have HRg : Hid (W2.rangeAt w.heap.size 0 [.slice a n c, .slice a' n' c']) := hr
  clear hB hBw hr
  cases hk : keyOk ns es with
  | false =>
    rw [hk] at HC
    go_wp2_with (first
      | (refine wpList_load_mid rfl 24 (.tmp 1) rfl w.heap.size 0 rfl [.slice a n c, .slice a' n' c'] _ HRg.out Tryz.underlying24 rfl (by kernel_rfl) ?_)
      | (go_at_call 35; refine (HC.out _ H2.out.1).mono ?_; rintro e w3 ⟨rfl, hb3⟩; have H3 : Hid (Below w.heap.size w w3) := (H2.out.2 w3 hb3).2; clear hb3))
    go_ret
    exact ⟨by rw [← HR.out]; simp [hk], H3.out⟩
  | true =>
    rw [hk] at HC
    go_wp2_with (first
      | (refine wpList_load_mid rfl 24 (.tmp 1) rfl w.heap.size 0 rfl [.slice a n c, .slice a' n' c'] _ HRg.out Tryz.underlying24 rfl (by kernel_rfl) ?_)
      | (go_at_call 35; refine (HC.out _ H2.out.1).mono ?_; rintro e w3 ⟨rfl, hb3⟩; have hc3 := (H2.out.2 w3 hb3).1; have H3 : Hid (Below w.heap.size w w3) := (H2.out.2 w3 hb3).2; clear hb3)
      | (go_at_call 53; refine (HBt.out _ H3.out).mono ?_; rintro e w4 ⟨rfl, hb4⟩; have H4 : Hid (Below w.heap.size w w4) := below_via H3.out hb4 (Nat.le_refl _); clear hb4))
    go_ret
    exact ⟨by rw [← HR.out]; simp [hk], H4.out⟩
theorem bts_le {xs : List Int} (u : U32s xs) (h : xs.length ≤ 600) : bts xs ≤ 1152921504606846976 := by
  have h1 := val_lt u
  have h2 : (val xs).toNat < 2 ^ (32 * xs.length) := by
    have h3 := val_nonneg u
    have h4 : (((val xs).toNat : Nat) : Int) < ((2 ^ (32 * xs.length) : Nat) : Int) := by
      rw [Int.toNat_of_nonneg h3, Int.natCast_pow, Int.pow_mul]; exact h1
    exact Int.ofNat_lt.1 h4
  have h5 := bitLen_lt h2
  unfold bts
  omega
end Go.Proofs.YtndoibmpnhkmpaaGreatDoor
/-
  The walks of length, cut, tooLong: what each call answers, whatever the lists.
-/
namespace Go.Proofs.YtndoibmpnhkmpaaGreatDoor.Nt
open Go.RowKit

theorem ret_int {k : IntKind} {a b : Int} (h : a = b) : Ending.returned (.int k a) = .returned (.int k b) := by rw [h]

set_option maxHeartbeats 400000 in
theorem length_any (xs : List Int) (v : Value) (w : World) (h : Sl .u32 w v xs) (hl : xs.length ≤ 1152921504606846976) :
    Calls Tryz.prog 66 #[v] w fun e w' => e = .returned (.int .i64 (sig xs)) ∧ w' = w := by
  obtain ⟨a, c, rfl, hc, h1⟩ := h
  rcases h1 with rfl | ⟨b, off, rfl, hb, hr⟩
  · simp only [List.length_nil]
    go_enter Tryz.func66, Tryz.ntmps66
    go_wp2
    go_loop [3] (fun i => i = .int .i64 0) (fun _ => 0)
    case atStart => rfl
    case round =>
      subst hrel
      go_wp2
      go_ret
      exact ⟨by simp [sig], rfl⟩
  · go_enter Tryz.func66, Tryz.ntmps66
    go_wp2
    go_loop [3] (fun i => ∃ k : Nat, k ≤ xs.length ∧ i = .int .i64 k ∧ ∀ j, k ≤ j → j < xs.length → xs.getD j 0 = 0) (fun i => (intOf i).toNat)
    case atStart => exact ⟨xs.length, Nat.le_refl _, rfl, fun j h1 h2 => by omega⟩
    case round =>
      obtain ⟨k, hk, rfl, hz⟩ := hrel
      by_cases hk0 : k = 0
      · subst hk0
        have HS : Hid (sig xs = 0) := sig_eq (Nat.zero_le _) hz (.inl rfl)
        clear hz
        go_wp2
        go_ret
        exact ⟨ret_int (by rw [HS.out]; rfl), rfl⟩
      · obtain ⟨m, rfl⟩ : ∃ m, k = m + 1 := ⟨k - 1, by omega⟩
        obtain ⟨x, hx⟩ : ∃ x, xs.getD m 0 = x := ⟨_, rfl⟩
        have hcell := hr m (by omega)
        rw [hx] at hcell
        have HZ : Hid (∀ j, m + 1 ≤ j → j < xs.length → xs.getD j 0 = 0) := hz
        have HX : Hid (xs.getD m 0 = x) := hx
        clear hz hx hr
        by_cases hx0 : x = 0
        · go_wp2
          go_round
          case rel => exact ⟨m, by omega, by go_num, fun j h1 h2 => by
            by_cases h3 : j = m
            · subst h3; rw [HX.out]; exact hx0
            · exact HZ.out j (by omega) h2⟩
          case measure => simp [intOf]
        · go_wp2
          go_ret
          exact ⟨ret_int (by rw [sig_eq (k := m + 1) hk HZ.out (.inr (by intro h3; exact hx0 (HX.out.symm.trans h3)))]; rfl), rfl⟩

/-- cut: the same memory, without the limbs 0 at its end. -/
theorem cut_any (xs : List Int) (a : Option Addr) (c : Nat) (w : World) (h : Sl .u32 w (.slice a xs.length c) xs) (hl : xs.length ≤ 1152921504606846976) :
    Calls Tryz.prog 65 #[.slice a xs.length c] w fun e w' => e = .returned (.slice a (sig xs) c) ∧ w' = w := by
  have hc : xs.length ≤ c := by obtain ⟨_, _, h1, hc, _⟩ := h; cases h1; exact hc
  have hs := sig_le xs
  go_enter Tryz.func65, Tryz.ntmps65
  go_wp2_with (go_at_call 66; refine (length_any xs _ _ h hl).mono ?_; rintro e w' ⟨rfl, rfl⟩)
  go_ret
  exact ⟨rfl, rfl⟩

end Go.Proofs.YtndoibmpnhkmpaaGreatDoor.Nt
/-
  The walk of addTimes: x times b is added to the lowest limbs of a, in place.
-/
namespace Go.Proofs.YtndoibmpnhkmpaaGreatDoor.Nt
open Go.RowKit

theorem drewN_heap (w : World) (n : Nat) : (w.drewN n).heap = w.heap := rfl
theorem _root_.Go.Proofs.YtndoibmpnhkmpaaGreatDoor.Arr.drewN {k : IntKind} {e : TypeId} {w : World} {b : Nat} {xs : List Int} (h : Arr k e w b xs) (n : Nat) : Arr k e (w.drewN n) b xs := h
theorem _root_.Go.Proofs.YtndoibmpnhkmpaaGreatDoor.Upd.drewN {w w' : World} {b : Nat} (h : Upd w w' b) (n : Nat) : Upd w (w'.drewN n) b := ⟨h.os, h.tape, h.output, h.size, h.block⟩
theorem mul_u32 {x y : Int} (hx : U32 x) (hy : U32 y) : 0 ≤ x * y ∧ x * y ≤ 18446744065119617025 := by
  unfold U32 at hx hy
  refine ⟨Int.mul_nonneg hx.1 hy.1, ?_⟩
  calc x * y ≤ 4294967295 * y := Int.mul_le_mul_of_nonneg_right (by omega) hy.1
    _ ≤ 4294967295 * 4294967295 := Int.mul_le_mul_of_nonneg_left (by omega) (by decide)
    _ = _ := by decide
theorem val_snoc (xs : List Int) (x : Int) : val (xs ++ [x]) = val xs + 4294967296 ^ xs.length * x := by rw [val_append]; simp [val]
theorem take_snoc (xs : List Int) (k : Nat) (h : k < xs.length) : xs.take (k + 1) = xs.take k ++ [xs.getD k 0] := by
  rw [List.take_succ_eq_append_getElem h]; simp [h]
theorem val_take_succ (xs : List Int) (k : Nat) (h : k < xs.length) : val (xs.take (k + 1)) = val (xs.take k) + 4294967296 ^ k * xs.getD k 0 := by
  rw [take_snoc xs k h, val_snoc, List.length_take, Nat.min_eq_left (by omega)]

/-- One limb more: the row behind the store. -/
theorem mid_set (A Z : List Int) (off : Nat) (z : Int) (h : off + Z.length < A.length) :
    (A.take off ++ Z ++ A.drop (off + Z.length)).set (off + Z.length) z = A.take off ++ (Z ++ [z]) ++ A.drop (off + (Z ++ [z]).length) := by
  have h1 : (A.take off ++ Z).length = off + Z.length := by simp; omega
  rw [List.set_append_right _ _ (by omega), h1, Nat.sub_self, List.drop_eq_getElem_cons h]
  simp [Nat.add_assoc]
theorem mid_get (A Z : List Int) (off : Nat) : (A.take off ++ Z ++ A.drop (off + Z.length)).getD (off + Z.length) 0 = A.getD (off + Z.length) 0 := by
  by_cases h : off ≤ A.length
  · have h1 : (A.take off ++ Z).length = off + Z.length := by simp; omega
    rw [List.getD_eq_getElem?_getD, List.getElem?_append_right (by omega), h1, Nat.sub_self, List.getElem?_drop]; simp
  · have h2 : A.drop (off + Z.length) = [] := List.drop_eq_nil_of_le (by omega)
    rw [h2, List.getD_eq_getElem?_getD, List.getD_eq_getElem?_getD, List.getElem?_eq_none (by simp; omega), List.getElem?_eq_none (by omega)]
theorem mid_len (A Z : List Int) (off : Nat) (h : off + Z.length ≤ A.length) : (A.take off ++ Z ++ A.drop (off + Z.length)).length = A.length := by
  simp; omega

/-- The sum's step: a limb and a carry more. -/
theorem add_step (P c x y a v u : Int) (T : Int) (hT : T = c + (x * y + a)) (ih : v + P * c = u) :
    (v + P * (T % 4294967296)) + (4294967296 * P) * (T / 4294967296) = u + P * a + x * (P * y) := by
  have h1 : T % 4294967296 + 4294967296 * (T / 4294967296) = T := by omega
  have h2 : P * (T % 4294967296) + (4294967296 * P) * (T / 4294967296) = P * T := by
    rw [← h1, Int.mul_add]; congr 1
    · rw [h1]
    · rw [h1, Int.mul_comm 4294967296 P, Int.mul_assoc]
  have h3 : P * T = P * c + (P * (x * y) + P * a) := by rw [hT, Int.mul_add, Int.mul_add]
  have h4 : x * (P * y) = P * (x * y) := by rw [← Int.mul_assoc, Int.mul_comm x P, Int.mul_assoc]
  omega

set_option maxHeartbeats 1000000 in
theorem addTimes_any (A ys : List Int) (x : Int) (ba off n c : Nat) (v : Value) (w : World) (hA : Arr .u32 56 w ba A) (huA : U32s A) (hux : U32 x) (huy : U32s ys)
    (hy : Sl .u32 w v ys) (hne : ∀ b o n' c', ys ≠ [] → v = .slice (some ⟨b, o, none⟩) n' c' → b ≠ ba) (hfit : off + ys.length ≤ A.length) (hcap : ys.length ≤ c) (hl : ys.length ≤ 1152921504606846976) :
    Calls Tryz.prog 125 #[.slice (some ⟨ba, off, none⟩) n c, v, .int .u32 x] w fun e w' =>
      ∃ Z carry, e = .returned (.int .u32 carry) ∧ U32 carry ∧ U32s Z ∧ Z.length = ys.length ∧ Arr .u32 56 w' ba (A.take off ++ Z ++ A.drop (off + Z.length)) ∧ Upd w w' ba ∧
        val Z + 4294967296 ^ ys.length * carry = val ((A.drop off).take ys.length) + x * val ys := by
  obtain ⟨ab, cb, rfl, hcb, hy⟩ := hy
  have hfin : ys.take ys.length = ys := List.take_length
  rcases hy with rfl | ⟨b, ob, rfl, hb, hr⟩
  · simp only [List.length_nil]
    go_enter Tryz.func125, Tryz.ntmps125
    go_wp2
    go_loop [7, 15] (fun t i => i = .int .i64 0 ∧ t = .int .u64 0) (fun _ _ => 0)
    case atStart => exact ⟨rfl, rfl⟩
    case round =>
      obtain ⟨rfl, rfl⟩ := hrel
      go_wp2
      go_ret
      exact ⟨[], 0, rfl, ⟨by decide, by decide⟩, U32s.nil, rfl, by simpa using hA, Upd.refl _ _, by simp [val]⟩
  · by_cases hys : ys = []
    · subst hys
      simp only [List.length_nil]
      go_enter Tryz.func125, Tryz.ntmps125
      go_wp2
      go_loop [7, 15] (fun t i => i = .int .i64 0 ∧ t = .int .u64 0) (fun _ _ => 0)
      case atStart => exact ⟨rfl, rfl⟩
      case round =>
        obtain ⟨rfl, rfl⟩ := hrel
        go_wp2
        go_ret
        exact ⟨[], 0, rfl, ⟨by decide, by decide⟩, U32s.nil, rfl, by simpa using hA, Upd.refl _ _, by simp [val]⟩
    have hbne : b ≠ ba := hne _ _ _ _ hys rfl
    clear hne hys
    obtain ⟨ux1, ux2⟩ := hux
    go_enter Tryz.func125, Tryz.ntmps125
    go_wp2
    go_loopw [7, 15] (fun t i wr => ∃ Z carry, Z.length ≤ ys.length ∧ i = .int .i64 Z.length ∧ t = .int .u64 carry ∧ U32 carry ∧ U32s Z ∧ Arr .u32 56 wr ba (A.take off ++ Z ++ A.drop (off + Z.length)) ∧ Upd w wr ba ∧
        val Z + 4294967296 ^ Z.length * carry = val ((A.drop off).take Z.length) + x * val (ys.take Z.length)) (fun _ i _ => ys.length - (intOf i).toNat)
    case atStart => exact ⟨[], 0, Nat.zero_le _, rfl, rfl, ⟨by decide, by decide⟩, U32s.nil, by simpa using hA, Upd.refl _ _, by simp [val]⟩
    case round =>
      obtain ⟨Z, carry, hk, rfl, rfl, hc, hZ, hArr, hUpd, heq⟩ := hrel
      by_cases hlt : Z.length < ys.length
      · obtain ⟨y, hyk⟩ : ∃ y, ys.getD Z.length 0 = y := ⟨_, rfl⟩
        obtain ⟨a, hak⟩ : ∃ a, A.getD (off + Z.length) 0 = a := ⟨_, rfl⟩
        have uy : U32 y := hyk ▸ huy.at Z.length
        have ua : U32 a := hak ▸ huA.at _
        have hcy : wr.cell? ⟨b, ob + Z.length, none⟩ = some (.int .u32 y) := by rw [← hyk]; exact (hUpd.rd hb hr hbne) Z.length hlt
        have hca : wr.cell? ⟨ba, off + Z.length, none⟩ = some (.int .u32 a) := by
          rw [hArr.cell _ (by rw [mid_len _ _ _ (by omega)]; omega), mid_get, hak]
        have hfa : wr.frozen? ⟨ba, off + Z.length, none⟩ = false := hArr.frozen _
        obtain ⟨p, hp⟩ : ∃ p, x * y = p := ⟨_, rfl⟩
        have hpb := mul_u32 ⟨ux1, ux2⟩ uy
        rw [hp] at hpb
        obtain ⟨pb1, pb2⟩ := hpb
        obtain ⟨c1, c2⟩ := hc
        obtain ⟨uy1, uy2⟩ := uy
        obtain ⟨ua1, ua2⟩ := ua
        obtain ⟨kz, hkz⟩ : ∃ kz, Z.length = kz := ⟨_, rfl⟩
        have HH : Hid (ys.getD Z.length 0 = y ∧ A.getD (off + Z.length) 0 = a ∧ Arr .u32 56 wr ba (A.take off ++ Z ++ A.drop (off + Z.length)) ∧ Upd w wr ba ∧ U32s Z ∧ U32s A ∧ Rd .u32 w b ob ys ∧ Z.length = kz ∧
          val Z + 4294967296 ^ Z.length * carry = val ((A.drop off).take Z.length) + x * val (ys.take Z.length)) := ⟨hyk, hak, hArr, hUpd, hZ, huA, hr, hkz, heq⟩
        clear hyk hak hArr hUpd hZ heq hr
        rw [hkz] at hcy hca hfa hlt ⊢
        clear hkz
        go_wp2
        go_quiet (fail)
        go_wp2
        go_roundw
        case rel =>
          obtain ⟨hyk, hak, hArr, hUpd, hZ, huA, hr, hkz, heq⟩ := HH.out
          refine ⟨Z ++ [(carry + (p + a)) % 4294967296], (carry + (p + a)) / 4294967296, ?_, ?_, ?_, ?_, ?_, ?_, ?_, ?_⟩
          · simp; omega
          · simp [hkz]
          · go_num
          · exact ⟨by omega, by omega⟩
          · exact hZ.append (U32s.cons ⟨by omega, by omega⟩ U32s.nil)
          · subst hkz; rw [← mid_set _ _ _ _ (by omega)]; exact (hArr.drewN _).set _ _
          · exact (hUpd.drewN _).trans (Upd.set _ _ _ _)
          · subst hkz
            rw [val_snoc, List.length_append, List.length_singleton, pow_succ32, val_take_succ _ _ (by simp; omega), val_take_succ _ _ (by omega), hyk]
            have hgd : (A.drop off).getD Z.length 0 = a := by rw [List.getD_eq_getElem?_getD, List.getElem?_drop, ← List.getD_eq_getElem?_getD]; exact hak
            rw [hgd]
            have := add_step (4294967296 ^ Z.length) carry x y a (val Z) _ _ (by rw [hp]) heq
            rw [this, Int.mul_add]; omega
        case measure => simp [intOf]; omega
      · have hfull : ys.length = Z.length := by omega
        have HH : Hid (Arr .u32 56 wr ba (A.take off ++ Z ++ A.drop (off + Z.length)) ∧ Upd w wr ba ∧ U32s Z ∧ U32 carry ∧ ys.length = Z.length ∧
          val Z + 4294967296 ^ Z.length * carry = val ((A.drop off).take Z.length) + x * val (ys.take Z.length)) := ⟨hArr, hUpd, hZ, hc, hfull, heq⟩
        obtain ⟨c1, c2⟩ := hc
        clear hArr hUpd hZ heq hfull
        go_wp2
        go_ret
        obtain ⟨hArr, hUpd, hZ, hc, hfull, heq⟩ := HH.out
        refine ⟨Z, carry, rfl, hc, hZ, hfull.symm, hArr, hUpd, ?_⟩
        rw [hfull, heq, ← hfull, hfin]
end Go.Proofs.YtndoibmpnhkmpaaGreatDoor.Nt
/-
  The walk of takeTimes: x times b is taken from the lowest limbs of a, in place.
-/
namespace Go.Proofs.YtndoibmpnhkmpaaGreatDoor.Nt
open Go.RowKit

theorem and32 (x : Int) (h0 : 0 ≤ x) (h1 : x < 18446744073709551616) : bits BinOp.and .u64 x 4294967295 = x % 4294967296 := by
  obtain ⟨n, rfl⟩ := Int.eq_ofNat_of_zero_le h0
  have h := bits_and_u64_nat n 4294967295 (by omega) (by decide)
  have e : n &&& 4294967295 = n % 4294967296 := Nat.and_two_pow_sub_one_eq_mod n 32
  rw [e] at h
  exact h.trans (by omega)


theorem wrap_u64 (z : Int) : IntKind.u64.wrap z = z % 18446744073709551616 := by simp [IntKind.wrap, IntKind.bits, IntKind.signed]

theorem take_arith (T a : Int) (h0 : 0 ≤ T) (h1 : T ≤ 18446744069414584320) (a0 : 0 ≤ a) (a1 : a < 4294967296) :
    (a - T % 4294967296) % 18446744073709551616 % 4294967296 + T = a + 4294967296 * ((T / 4294967296 + (a - T % 4294967296) % 18446744073709551616 / 9223372036854775808) % 18446744073709551616) ∧
      0 ≤ (T / 4294967296 + (a - T % 4294967296) % 18446744073709551616 / 9223372036854775808) % 18446744073709551616 ∧
      (T / 4294967296 + (a - T % 4294967296) % 18446744073709551616 / 9223372036854775808) % 18446744073709551616 < 4294967296 := by
  obtain ⟨lo, hlo⟩ : ∃ lo, lo = T % 4294967296 := ⟨_, rfl⟩
  obtain ⟨hi, hhi⟩ : ∃ hi, hi = T / 4294967296 := ⟨_, rfl⟩
  have hT : T = 4294967296 * hi + lo := by omega
  rw [← hlo, ← hhi]
  by_cases h : lo ≤ a
  · have e1 : (a - lo) % 18446744073709551616 = a - lo := by omega
    have e2 : (a - lo) / 9223372036854775808 = 0 := by omega
    rw [e1, e2]; omega
  · have e1 : (a - lo) % 18446744073709551616 = a - lo + 18446744073709551616 := by omega
    have e2 : (a - lo + 18446744073709551616) / 9223372036854775808 = 1 := by omega
    rw [e1, e2]; omega

/-- The difference's step: a limb and a carry more. -/
theorem sub_step (P c x y a z cn V Y : Int) (vZ vA vY : Int) (hz : z + (c + x * y) = a + 4294967296 * cn) (ih : vZ + x * vY = vA + P * c) (hV : V = vZ + P * z) (hY : Y = vY + P * y) :
    V + x * Y = (vA + P * a) + (4294967296 * P) * cn := by
  have h1 : P * z + P * (c + x * y) = P * a + (4294967296 * P) * cn := by rw [← Int.mul_add, hz, Int.mul_add, Int.mul_comm 4294967296 P, Int.mul_assoc]
  have h2 : P * (c + x * y) = P * c + P * (x * y) := Int.mul_add _ _ _
  have h4 : x * (P * y) = P * (x * y) := by rw [← Int.mul_assoc, Int.mul_comm x P, Int.mul_assoc]
  rw [hV, hY, Int.mul_add, h4]; omega

set_option maxHeartbeats 1000000 in
theorem takeTimes_any (A ys : List Int) (x : Int) (ba off n c : Nat) (v : Value) (w : World) (hA : Arr .u32 56 w ba A) (huA : U32s A) (hux : U32 x) (huy : U32s ys)
    (hy : Sl .u32 w v ys) (hne : ∀ b o n' c', ys ≠ [] → v = .slice (some ⟨b, o, none⟩) n' c' → b ≠ ba) (hfit : off + ys.length ≤ A.length) (hcap : ys.length ≤ c) (hl : ys.length ≤ 1152921504606846976) :
    Calls Tryz.prog 153 #[.slice (some ⟨ba, off, none⟩) n c, v, .int .u32 x] w fun e w' =>
      ∃ Z carry, e = .returned (.int .u32 carry) ∧ U32 carry ∧ U32s Z ∧ Z.length = ys.length ∧ Arr .u32 56 w' ba (A.take off ++ Z ++ A.drop (off + Z.length)) ∧ Upd w w' ba ∧
        val Z + x * val ys = val ((A.drop off).take ys.length) + 4294967296 ^ ys.length * carry := by
  obtain ⟨ab, cb, rfl, hcb, hy⟩ := hy
  have hfin : ys.take ys.length = ys := List.take_length
  rcases hy with rfl | ⟨b, ob, rfl, hb, hr⟩
  · simp only [List.length_nil]
    go_enter Tryz.func153, Tryz.ntmps153
    go_wp2
    go_loop [7, 16] (fun t i => i = .int .i64 0 ∧ t = .int .u64 0) (fun _ _ => 0)
    case atStart => exact ⟨rfl, rfl⟩
    case round =>
      obtain ⟨rfl, rfl⟩ := hrel
      go_wp2
      go_ret
      exact ⟨[], 0, rfl, ⟨by decide, by decide⟩, U32s.nil, rfl, by simpa using hA, Upd.refl _ _, by simp [val]⟩
  · by_cases hys : ys = []
    · subst hys
      simp only [List.length_nil]
      go_enter Tryz.func153, Tryz.ntmps153
      go_wp2
      go_loop [7, 16] (fun t i => i = .int .i64 0 ∧ t = .int .u64 0) (fun _ _ => 0)
      case atStart => exact ⟨rfl, rfl⟩
      case round =>
        obtain ⟨rfl, rfl⟩ := hrel
        go_wp2
        go_ret
        exact ⟨[], 0, rfl, ⟨by decide, by decide⟩, U32s.nil, rfl, by simpa using hA, Upd.refl _ _, by simp [val]⟩
    have hbne : b ≠ ba := hne _ _ _ _ hys rfl
    clear hne hys
    obtain ⟨ux1, ux2⟩ := hux
    go_enter Tryz.func153, Tryz.ntmps153
    go_wp2
    go_loopw [7, 16] (fun t i wr => ∃ Z carry, Z.length ≤ ys.length ∧ i = .int .i64 Z.length ∧ t = .int .u64 carry ∧ U32 carry ∧ U32s Z ∧ Arr .u32 56 wr ba (A.take off ++ Z ++ A.drop (off + Z.length)) ∧ Upd w wr ba ∧
        val Z + x * val (ys.take Z.length) = val ((A.drop off).take Z.length) + 4294967296 ^ Z.length * carry) (fun _ i _ => ys.length - (intOf i).toNat)
    case atStart => exact ⟨[], 0, Nat.zero_le _, rfl, rfl, ⟨by decide, by decide⟩, U32s.nil, by simpa using hA, Upd.refl _ _, by simp [val]⟩
    case round =>
      obtain ⟨Z, carry, hk, rfl, rfl, hc, hZ, hArr, hUpd, heq⟩ := hrel
      by_cases hlt : Z.length < ys.length
      · obtain ⟨y, hyk⟩ : ∃ y, ys.getD Z.length 0 = y := ⟨_, rfl⟩
        obtain ⟨a, hak⟩ : ∃ a, A.getD (off + Z.length) 0 = a := ⟨_, rfl⟩
        have uy : U32 y := hyk ▸ huy.at Z.length
        have ua : U32 a := hak ▸ huA.at _
        have hcy : wr.cell? ⟨b, ob + Z.length, none⟩ = some (.int .u32 y) := by rw [← hyk]; exact (hUpd.rd hb hr hbne) Z.length hlt
        have hca : wr.cell? ⟨ba, off + Z.length, none⟩ = some (.int .u32 a) := by
          rw [hArr.cell _ (by rw [mid_len _ _ _ (by omega)]; omega), mid_get, hak]
        have hfa : wr.frozen? ⟨ba, off + Z.length, none⟩ = false := hArr.frozen _
        obtain ⟨p, hp⟩ : ∃ p, x * y = p := ⟨_, rfl⟩
        have hpb := mul_u32 ⟨ux1, ux2⟩ uy
        rw [hp] at hpb
        obtain ⟨pb1, pb2⟩ := hpb
        obtain ⟨c1, c2⟩ := hc
        obtain ⟨uy1, uy2⟩ := uy
        obtain ⟨ua1, ua2⟩ := ua
        obtain ⟨kz, hkz⟩ : ∃ kz, Z.length = kz := ⟨_, rfl⟩
        have HH : Hid (ys.getD Z.length 0 = y ∧ A.getD (off + Z.length) 0 = a ∧ Arr .u32 56 wr ba (A.take off ++ Z ++ A.drop (off + Z.length)) ∧ Upd w wr ba ∧ U32s Z ∧ U32s A ∧ Rd .u32 w b ob ys ∧ Z.length = kz ∧
          val Z + x * val (ys.take Z.length) = val ((A.drop off).take Z.length) + 4294967296 ^ Z.length * carry) := ⟨hyk, hak, hArr, hUpd, hZ, huA, hr, hkz, heq⟩
        clear hyk hak hArr hUpd hZ heq hr
        rw [hkz] at hcy hca hfa hlt ⊢
        clear hkz
        have hand := and32 (carry + p) (by omega) (by omega)
        go_wp2
        go_roundw
        case rel =>
          obtain ⟨hyk, hak, hArr, hUpd, hZ, huA, hr, hkz, heq⟩ := HH.out
          have hz1 : ∀ z : Int, IntKind.u64.wrap z = z % 18446744073709551616 := wrap_u64
          simp only [hz1]
          obtain ⟨k1, k2, k3⟩ := take_arith (carry + p) a (by omega) (by omega) ua1 ua2
          obtain ⟨cn, hcn⟩ : ∃ cn, cn = ((carry + p) / 4294967296 + (a - (carry + p) % 4294967296) % 18446744073709551616 / 9223372036854775808) % 18446744073709551616 := ⟨_, rfl⟩
          obtain ⟨z, hz⟩ : ∃ z, z = (a - (carry + p) % 4294967296) % 18446744073709551616 % 4294967296 := ⟨_, rfl⟩
          have k4 : U32 z := by rw [hz]; exact ⟨by omega, by omega⟩
          rw [← hcn] at k1 k2 k3
          rw [← hz] at k1
          rw [← hcn, ← hz]
          refine ⟨Z ++ [z], cn, ?_, ?_, rfl, ⟨k2, k3⟩, ?_, ?_, ?_, ?_⟩
          · simp; omega
          · simp [hkz]
          · exact hZ.append (U32s.cons k4 U32s.nil)
          · subst hkz; rw [← mid_set _ _ _ _ (by omega)]; exact hArr.set _ _
          · exact hUpd.trans (Upd.set _ _ _ _)
          · subst hkz
            have hgd : (A.drop off).getD Z.length 0 = a := by rw [List.getD_eq_getElem?_getD, List.getElem?_drop, ← List.getD_eq_getElem?_getD]; exact hak
            rw [List.length_append, List.length_singleton, pow_succ32, val_take_succ (A.drop off) _ (by simp; omega), hgd]
            exact sub_step _ carry x y a z cn _ _ _ _ _ (by rw [hp]; exact k1) heq (val_snoc _ _) (by rw [val_take_succ _ _ (by omega), hyk])
        case measure => simp [intOf]; omega
      · have hfull : ys.length = Z.length := by omega
        have HH : Hid (Arr .u32 56 wr ba (A.take off ++ Z ++ A.drop (off + Z.length)) ∧ Upd w wr ba ∧ U32s Z ∧ U32 carry ∧ ys.length = Z.length ∧
          val Z + x * val (ys.take Z.length) = val ((A.drop off).take Z.length) + 4294967296 ^ Z.length * carry) := ⟨hArr, hUpd, hZ, hc, hfull, heq⟩
        obtain ⟨c1, c2⟩ := hc
        clear hArr hUpd hZ heq hfull
        go_wp2
        go_ret
        obtain ⟨hArr, hUpd, hZ, hc, hfull, heq⟩ := HH.out
        refine ⟨Z, carry, rfl, hc, hZ, hfull.symm, hArr, hUpd, ?_⟩
        rw [hfull, ← heq, ← hfull, hfin]
end Go.Proofs.YtndoibmpnhkmpaaGreatDoor.Nt
