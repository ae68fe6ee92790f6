/-
  Der: the law DerNumbers.
-/
import Derived.Test.YtndcpjnfdgojkaaDoorE93
namespace Go.Proofs.YtndcpjnfdgojkaaDoor
open Go.RowKit
theorem fromS_len {bs : List Int} (hu : U8s bs) : (fromS bs).1.length ≤ bs.length := by
  unfold fromS
  split
  · simp
  · have h := bv_bound hu.rev
    rw [List.length_reverse] at h
    refine lim_len_le (k := bs.length) ?_
    rw [Int.toNat_of_nonneg h.1]
    have h2 : (256 : Int) ^ bs.length ≤ 4294967296 ^ bs.length := by
      have : (((256 : Nat) ^ bs.length : Nat) : Int) ≤ (((4294967296 : Nat) ^ bs.length : Nat) : Int) := Int.ofNat_le.2 (Nat.pow_le_pow_left (by omega) _)
      rw [Int.natCast_pow, Int.natCast_pow] at this
      exact this
    exact Int.lt_of_lt_of_le h.2 h2
theorem uintS_len {X : List Int} (hu : U8s X) : (uintS X).1.length ≤ X.length := by
  unfold uintS
  split
  · simp
  split
  · simp
  split
  · have := fromS_len (bs := X.drop 1) (fun y hy => hu y (List.mem_of_mem_drop hy))
    rw [List.length_drop] at this
    omega
  · exact fromS_len hu
set_option maxRecDepth 20000 in
set_option maxHeartbeats 4000000 in
theorem DerNumbers_any {w : World} (a : Option Addr) (n c : Nat) (X : List Int) (p : Int) (a2 : Option Addr) (n2 c2 : Nat) (A : List Int) (hX : Sl .u8 w (.slice a n c) X) (uX : U8s X) (lX : X.length = n) (hn0 : n ≤ 9223372036854775807)
    (p0 : -9223372036854775808 ≤ p) (p1 : p ≤ 9223372036854775807) (hA : Sl .u32 w (.slice a2 n2 c2) A) (uA : U32s A) (lA : A.length = n2) (hn2 : n2 ≤ 9223372036854775807) (hT : Tab w) :
    Calls Tryd.prog 4 #[.slice a n c, .int .i64 p, .slice a2 n2 c2] w fun e w' => e = .returned (.bool true) ∧ Below w.heap.size w w' := by
  have HX : Hid (Sl .u8 w (.slice a n c) X ∧ U8s X ∧ X.length = n ∧ Tab w) := ⟨hX, uX, lX, hT⟩
  have HA : Hid (Sl .u32 w (.slice a2 n2 c2) A ∧ U32s A ∧ A.length = n2) := ⟨hA, uA, lA⟩
  have HP : Hid (-9223372036854775808 ≤ p ∧ p ≤ 9223372036854775807) := ⟨p0, p1⟩
  clear hX uX lX hT hA uA lA p0 p1
  by_cases hn : n ≤ 16384
  · have hnI : ¬ (16384 : Int) < (n : Int) := by omega
    by_cases hm : n2 ≤ 600
    · have hmI : ¬ (600 : Int) < (n2 : Int) := by omega
      obtain ⟨bv0, hbv⟩ : ∃ b, boolV X = b := ⟨_, rfl⟩
      obtain ⟨be0, hbe⟩ : ∃ b, boolE X = b := ⟨_, rfl⟩
      obtain ⟨iv0, hiv⟩ : ∃ b, intV X = b := ⟨_, rfl⟩
      obtain ⟨ie0, hie⟩ : ∃ b, intE X = b := ⟨_, rfl⟩
      obtain ⟨L, hL⟩ : ∃ b, (uintS X).1 = b := ⟨_, rfl⟩
      obtain ⟨ue0, hue⟩ : ∃ b, (uintS X).2 = b := ⟨_, rfl⟩
      have HS : Hid (boolV X = bv0 ∧ boolE X = be0 ∧ intV X = iv0 ∧ intE X = ie0 ∧ (uintS X).1 = L ∧ (uintS X).2 = ue0 ∧ L.length ≤ 16384) := ⟨hbv, hbe, hiv, hie, hL, hue, by rw [← hL]; have := uintS_len HX.out.2.1; have := HX.out.2.2.1; omega⟩
      clear hbv hbe hiv hie hL hue
      go_enter Tryd.func4, Tryd.ntmps4
      go_wp2_with fail
      refine (Bool_any _ X HX.out.1 HX.out.2.1 (by have := HX.out.2.2.1; omega)).mono ?_
      rw [HS.out.1, HS.out.2.1]
      rintro e w' ⟨rfl, rfl⟩
      go_wp2_with fail
      refine (RBool_any _ X HX.out.1 HX.out.2.1 (by have := HX.out.2.2.1; omega)).mono ?_
      rw [HS.out.1, HS.out.2.1]
      rintro e w' ⟨rfl, rfl⟩
      go_wp2_with fail
      refine (Int_any _ X HX.out.1 HX.out.2.1 (by have := HX.out.2.2.1; omega)).mono ?_
      rw [HS.out.2.2.1, HS.out.2.2.2.1]
      rintro e w' ⟨rfl, rfl⟩
      go_wp2_with fail
      refine (RInt_any _ X HX.out.1 HX.out.2.1 (by have := HX.out.2.2.1; omega)).mono ?_
      rw [HS.out.2.2.1, HS.out.2.2.2.1]
      rintro e w' ⟨rfl, rfl⟩
      go_wp2_with fail
      refine (Uint_any _ X HX.out.1 HX.out.2.1 (by have := HX.out.2.2.1; omega)).mono ?_
      rintro e w1 ⟨⟨r1, rfl, hs1⟩, hb1⟩
      rw [HS.out.2.2.2.2.2.1]
      rw [HS.out.2.2.2.2.1] at hs1
      have H1 : Hid (Sl .u32 w1 r1 L ∧ Below w.heap.size w w1) := ⟨hs1, hb1⟩
      clear hs1 hb1
      go_wp2_with fail
      refine (RUint_any _ X (below_sl H1.out.2 HX.out.1) HX.out.2.1 (by have := HX.out.2.2.1; omega)).mono ?_
      rintro e w2 ⟨⟨r2, rfl, hs2⟩, hb2⟩
      rw [HS.out.2.2.2.2.2.1]
      rw [HS.out.2.2.2.2.1] at hs2
      have H2 : Hid (Sl .u32 w2 r1 L ∧ Sl .u32 w2 r2 L ∧ Below w.heap.size w w2) := ⟨below_sl hb2 H1.out.1, hs2, below_via H1.out.2 hb2 (Nat.le_refl _)⟩
      clear hs2 hb2
      go_wp2_with (first
        | (go_at_call 15; refine (num4_any _ _).mono ?_; rintro e w' ⟨rfl, rfl⟩))
      refine (NSame_any _ _ L H2.out.1 H2.out.2.1 (by have := HS.out.2.2.2.2.2.2; omega)).mono ?_
      rintro e w3 ⟨rfl, hb3⟩
      have H3 : Hid (Below w.heap.size w w3) := below_via H2.out.2.2 hb3 (Nat.le_refl _)
      clear hb3
      go_wp2_with (first
        | (go_at_call 15; refine (num4_any _ _).mono ?_; rintro e w' ⟨rfl, rfl⟩))
      refine (PutInt_any p HP.out.1 HP.out.2).mono ?_
      rintro e w4 ⟨r4, m4, hm4, rfl, hs4, hb4⟩
      have H4 : Hid (IsM p m4 ∧ Sl .u8 w4 r4 (pI p m4) ∧ Below w.heap.size w w4) := ⟨hm4, hs4, below_via H3.out hb4 (Nat.le_refl _)⟩
      clear hm4 hs4 hb4
      go_wp2_with fail
      refine (RPutInt_any p HP.out.1 HP.out.2).mono ?_
      rintro e w5 ⟨r5, m5, hm5, rfl, hs5, hb5⟩
      obtain rfl := hm5.uniq H4.out.1
      have H5 : Hid (Sl .u8 w5 r4 (pI p m5) ∧ Sl .u8 w5 r5 (pI p m5) ∧ Below w.heap.size w w5 ∧ (pI p m5).length ≤ 8) := ⟨below_sl hb5 H4.out.2.1, hs5, below_via H4.out.2.2 hb5 (Nat.le_refl _), by rw [pI_len]; exact hm5.2.1⟩
      clear hm5 hs5 hb5
      go_wp2_with fail
      refine (SameBytes_any _ _ _ H5.out.1 H5.out.2.1 (by have := H5.out.2.2.2; omega)).mono ?_
      rintro e w6 ⟨rfl, hb6⟩
      have H6 : Hid (Below w.heap.size w w6) := below_via H5.out.2.2.1 hb6 (Nat.le_refl _)
      clear hb6
      go_wp2_with fail
      refine (PutUint_any _ A (below_sl H6.out HA.out.1) HA.out.2.1 (by have := HA.out.2.2; omega)).mono ?_
      rintro e w7 ⟨r7, m7, hm7, hle7, rfl, hs7, hb7⟩
      have H7 : Hid (IsU (val A) m7 ∧ m7 ≤ 2401 ∧ Sl .u8 w7 r7 (pI (val A) m7) ∧ Below w.heap.size w w7) := ⟨hm7, hle7, hs7, below_via H6.out hb7 (Nat.le_refl _)⟩
      clear hm7 hs7 hb7 hle7
      go_wp2_with fail
      refine (RPutUint_any _ A (below_sl H7.out.2.2.2 HA.out.1) HA.out.2.1 (by have := HA.out.2.2; omega)).mono ?_
      rintro e w8 ⟨r8, m8, hm8, hle8, rfl, hs8, hb8⟩
      obtain rfl := hm8.uniq H7.out.1
      have H8 : Hid (Sl .u8 w8 r7 (pI (val A) m8) ∧ Sl .u8 w8 r8 (pI (val A) m8) ∧ Below w.heap.size w w8 ∧ (pI (val A) m8).length ≤ 2401) := ⟨below_sl hb8 H7.out.2.2.1, hs8, below_via H7.out.2.2.2 hb8 (Nat.le_refl _), by rw [pI_len]; exact hle8⟩
      clear hm8 hs8 hb8 hle8
      go_wp2_with fail
      refine (SameBytes_any _ _ _ H8.out.1 H8.out.2.1 (by have := H8.out.2.2.2; omega)).mono ?_
      rintro e w9 ⟨rfl, hb9⟩
      have H9 : Hid (Below w.heap.size w w9) := below_via H8.out.2.2.1 hb9 (Nat.le_refl _)
      clear hb9
      go_wp2_with (go_at_call 8; refine (live_any (HX.out.2.2.2.below H9.out)).mono ?_; rintro e w10 ⟨rfl, hb10⟩)
      go_ret
      exact ⟨rfl, below_via H9.out hb10 (Nat.le_refl _)⟩
    · have hmI : (600 : Int) < (n2 : Int) := by omega
      go_enter Tryd.func4, Tryd.ntmps4
      go_wp2_with (go_at_call 8; refine (live_any HX.out.2.2.2).mono ?_; rintro e w8 ⟨rfl, hb8⟩)
      go_ret
      exact ⟨rfl, hb8⟩
  · have hnI : (16384 : Int) < (n : Int) := by omega
    go_enter Tryd.func4, Tryd.ntmps4
    go_wp2_with (go_at_call 8; refine (live_any HX.out.2.2.2).mono ?_; rintro e w8 ⟨rfl, hb8⟩)
    go_ret
    exact ⟨rfl, hb8⟩
end Go.Proofs.YtndcpjnfdgojkaaDoor
