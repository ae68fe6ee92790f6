/-
  Der: the law DerThere.
-/
import Derived.Test.YtndcpjnfdgojkaaDoorE99
import Derived.Test.YtndcpjnfdgojkaaDoorE98
import Derived.Test.YtndcpjnfdgojkaaDoorE96
import Derived.Test.YtndcpjnfdgojkaaDoorE93
import Derived.Test.YtndcpjnfdgojkaaDoorE73
namespace Go.Proofs.YtndcpjnfdgojkaaDoor
open Go.RowKit
theorem oidR_len {X s : List Int} {er : Int} (h : OidR X s er) (hl : X.length ≤ 2000) : s.length ≤ 50000 := by
  rcases h with ⟨_, rfl, _⟩ | ⟨_, _, rfl, _⟩ | ⟨_, hlg, rfl, _⟩
  · simp
  · simp
  · have h1 := gst_len X X.length
    obtain ⟨G, hG⟩ : ∃ G, (gst X X.length).1 = G := ⟨_, rfl⟩
    rw [hG] at h1 hlg ⊢
    have h2 : (oidT G).length = G.length := by cases G <;> rfl
    have h3 : ∀ v ∈ oidT G, v < 18446744073709551616 := by
      intro v hv
      unfold oidLong at hlg
      rw [List.any_eq_false] at hlg
      have := hlg v hv
      simp at this
      omega
    have h4 := oidJ_len _ h3
    have h5 := decI_le (oidX (G.headD 0)) (by unfold oidX; omega)
    unfold oidS
    rw [List.length_append]
    omega
theorem oidS_u8 {X s : List Int} {er : Int} (h : OidR X s er) : U8s s := by
  have hd : ∀ u, U8s (decI u) := by
    intro u y hy
    unfold decI at hy
    obtain ⟨b, _, rfl⟩ := List.mem_map.1 hy
    have := b.toNat_lt
    unfold U8
    omega
  rcases h with ⟨_, rfl, _⟩ | ⟨_, _, rfl, _⟩ | ⟨_, _, rfl, _⟩
  · intro y hy; simp at hy
  · intro y hy; simp at hy
  · intro y hy
    unfold oidS at hy
    rcases List.mem_append.1 hy with hy | hy
    · exact hd _ y hy
    · unfold oidJ at hy
      obtain ⟨v, _, hy⟩ := List.mem_flatMap.1 hy
      rcases List.mem_cons.1 hy with rfl | hy
      · unfold U8; omega
      · exact hd _ y hy
set_option maxRecDepth 20000 in
set_option maxHeartbeats 4000000 in
theorem DerThere_any {w : World} (p : Int) (a2 : Option Addr) (n2 c2 : Nat) (A : List Int) (a : Option Addr) (n c : Nat) (X : List Int) (p0 : -9223372036854775808 ≤ p) (p1 : p ≤ 9223372036854775807) (hA : Sl .u32 w (.slice a2 n2 c2) A) (uA : U32s A) (lA : A.length = n2) (hn2 : n2 ≤ 9223372036854775807)
    (hX : Sl .u8 w (.slice a n c) X) (uX : U8s X) (lX : X.length = n) (hn0 : n ≤ 9223372036854775807) (hT : Tab w) (hP : P10 w) :
    Calls Tryd.prog 7 #[.int .i64 p, .slice a2 n2 c2, .slice a n c] w fun e w' => e = .returned (.bool true) ∧ Below w.heap.size w w' := by
  have HX : Hid (Sl .u8 w (.slice a n c) X ∧ U8s X ∧ X.length = n ∧ Tab w ∧ P10 w) := ⟨hX, uX, lX, hT, hP⟩
  have HA : Hid (Sl .u32 w (.slice a2 n2 c2) A ∧ U32s A ∧ A.length = n2) := ⟨hA, uA, lA⟩
  have HP : Hid (-9223372036854775808 ≤ p ∧ p ≤ 9223372036854775807) := ⟨p0, p1⟩
  clear hX uX lX hT hP hA uA lA p0 p1
  by_cases hm : n2 ≤ 100
  · have hmI : ¬ (100 : Int) < (n2 : Int) := by omega
    by_cases hn : n ≤ 2000
    · have hnI : ¬ (2000 : Int) < (n : Int) := by omega
      obtain ⟨N, hN⟩ : ∃ N : Nat, val A = (N : Int) := ⟨(val A).toNat, by rw [Int.toNat_of_nonneg (val_nonneg HA.out.2.1)]⟩
      have HN : Hid (val A = (N : Int)) := hN
      clear hN
      go_enter Tryd.func7, Tryd.ntmps7
      go_wp2_with fail
      refine (PutInt_any p HP.out.1 HP.out.2).mono ?_
      rintro e w1 ⟨r1, m1, hm1, rfl, hs1, hb1⟩
      have H1 : Hid (IsM p m1 ∧ Sl .u8 w1 r1 (pI p m1) ∧ Below w.heap.size w w1) := ⟨hm1, hs1, hb1⟩
      clear hm1 hs1 hb1
      go_wp2_with fail
      refine (Int_any _ (pI p m1) H1.out.2.1 (pI_u8 _ _) (by rw [pI_len]; have := H1.out.1.2.1; omega)).mono ?_
      rw [(int_there H1.out.1).1, (int_there H1.out.1).2]
      rintro e w' ⟨rfl, rfl⟩
      go_wp2_with fail
      refine (PutUint_any _ A (below_sl H1.out.2.2 HA.out.1) HA.out.2.1 (by have := HA.out.2.2; omega)).mono ?_
      rw [HN.out]
      rintro e w2 ⟨r2, m2, hm2, hle2, rfl, hs2, hb2⟩
      have hm2b : m2 ≤ 2048 := by
        obtain ⟨q1, q2, q3⟩ := hm2
        rcases q3 with q3 | q3
        · omega
        · have h7 := pk_top HA.out.2.1
          rw [HN.out, HA.out.2.2] at h7
          by_cases h8 : 4 * n2 ≤ m2 - 2
          · have := pk_more h7 (m2 - 2 - 4 * n2)
            rw [show 4 * n2 + (m2 - 2 - 4 * n2) = m2 - 2 by omega] at this
            exact absurd this q3
          · omega
      have H2 : Hid (IsU (N : Int) m2 ∧ m2 ≤ 2048 ∧ Sl .u8 w2 r2 (pI (N : Int) m2) ∧ Below w.heap.size w w2) := ⟨hm2, hm2b, hs2, below_via H1.out.2.2 hb2 (Nat.le_refl _)⟩
      clear hm2 hs2 hb2 hle2 hm2b
      go_wp2_with fail
      refine (Uint_any _ (pI (N : Int) m2) H2.out.2.2.1 (pI_u8 _ _) (by rw [pI_len]; have := H2.out.2.1; omega)).mono ?_
      rintro e w3 ⟨⟨r3, rfl, hs3⟩, hb3⟩
      rw [uint_there H2.out.1 H2.out.2.1] at hs3
      have HE3 : Hid ((uintS (pI (N : Int) m2)).2 = 0) := by rw [uint_there H2.out.1 H2.out.2.1]; rfl
      rw [HE3.out]
      have H3 : Hid (Sl .u32 w3 r3 (lim N) ∧ Below w.heap.size w w3) := ⟨hs3, below_via H2.out.2.2.2 hb3 (Nat.le_refl _)⟩
      clear hs3 hb3
      go_wp2_with (first
        | (go_at_call 15; refine (num4_any _ _).mono ?_; rintro e w' ⟨rfl, rfl⟩))
      refine (RTrim_any _ A (below_sl H3.out.2 HA.out.1) HA.out.2.1 (by have := HA.out.2.2; omega) N HN.out).mono ?_
      rintro e w4 ⟨r4, rfl, hs4, hb4⟩
      rw [Int.toNat_natCast] at hs4
      have H4 : Hid (Sl .u32 w4 r3 (lim N) ∧ Sl .u32 w4 r4 (lim N) ∧ Below w.heap.size w w4 ∧ (lim N).length ≤ A.length) := ⟨below_sl hb4 H3.out.1, hs4, below_via H3.out.2 hb4 (Nat.le_refl _), lim_len_le (by rw [← HN.out]; exact val_lt HA.out.2.1)⟩
      clear hs4 hb4
      go_wp2_with fail
      refine (NSame_any _ _ (lim N) H4.out.1 H4.out.2.1 (by have := H4.out.2.2.2; have := HA.out.2.2; omega)).mono ?_
      rintro e w5 ⟨rfl, hb5⟩
      have H5 : Hid (Below w.heap.size w w5) := below_via H4.out.2.2.1 hb5 (Nat.le_refl _)
      clear hb5
      go_wp2_with fail
      refine (Oid_any _ X (below_sl H5.out HX.out.1) HX.out.2.1 (by have := HX.out.2.2.1; omega) (HX.out.2.2.2.2.below H5.out)).mono ?_
      rintro e w6 ⟨⟨s6, e6, hr6, rfl⟩, hb6⟩
      have H6 : Hid (OidR X s6 e6 ∧ Below w.heap.size w w6) := ⟨hr6, below_via H5.out hb6 (Nat.le_refl _)⟩
      clear hr6 hb6
      by_cases he6 : e6 = 0
      · subst he6
        go_wp2_with (first
          | (go_at_call 15; refine (num4_any _ _).mono ?_; rintro e w' ⟨rfl, rfl⟩))
        refine (PutOid_wide s6 (oidS_u8 H6.out.1) (oidR_len H6.out.1 (by have := HX.out.2.2.1; omega))).mono ?_
        rintro e w7 ⟨⟨r7, b7, e7, hp7, rfl, hs7⟩, hb7⟩
        obtain ⟨rfl, rfl⟩ := (oid_back HX.out.2.1 H6.out.1).uniq hp7
        have H7 : Hid (Sl .u8 w7 r7 X ∧ Below w.heap.size w w7) := ⟨hs7, below_via H6.out.2 hb7 (Nat.le_refl _)⟩
        clear hp7 hs7 hb7
        go_wp2_with (first
          | (go_at_call 15; refine (num4_any _ _).mono ?_; rintro e w' ⟨rfl, rfl⟩))
        refine (SameBytes_any _ _ X H7.out.1 (below_sl H7.out.2 HX.out.1) (by have := HX.out.2.2.1; omega)).mono ?_
        rintro e w8 ⟨rfl, hb8⟩
        have H8 : Hid (Below w.heap.size w w8) := below_via H7.out.2 hb8 (Nat.le_refl _)
        clear hb8
        go_wp2_with fail
        refine (Int_any _ X (below_sl H8.out HX.out.1) HX.out.2.1 (by have := HX.out.2.2.1; omega)).mono ?_
        rintro e w' ⟨rfl, rfl⟩
        obtain ⟨y, hy⟩ : ∃ y, intV X = y := ⟨_, rfl⟩
        obtain ⟨h, hh⟩ : ∃ h, intE X = h := ⟨_, rfl⟩
        have HY : Hid (intV X = y ∧ intE X = h) := ⟨hy, hh⟩
        rw [hy, hh]
        clear hy hh
        by_cases h0 : h = 0
        · subst h0
          have hgood : intOk X = true ∧ X.length ≤ 8 := by
            have h9 := HY.out.2
            unfold intE at h9
            cases hok : intOk X with
            | false => rw [if_pos hok] at h9; cases h9
            | true =>
              rw [if_neg (by rw [hok]; simp)] at h9
              by_cases hl : 8 < X.length
              · rw [if_pos hl] at h9; cases h9
              · exact ⟨rfl, by omega⟩
          have hyv : y = iv X X.length := by rw [← HY.out.1]; unfold intV; rw [if_pos hgood]
          have HM : Hid (IsM y X.length ∧ pI y X.length = X ∧ -9223372036854775808 ≤ y ∧ y ≤ 9223372036854775807) := by
            have h1 := intOk_ne hgood.1
            obtain ⟨d, hd⟩ : ∃ d, X.length = d + 1 := ⟨X.length - 1, by omega⟩
            have h2 := iv_range HX.out.2.1 d (by omega)
            rw [← hd] at h2
            refine ⟨by rw [hyv]; exact int_back HX.out.2.1 hgood.1 hgood.2, by rw [hyv]; exact pI_iv HX.out.2.1, by rw [hyv]; exact h2.1, by rw [hyv]; omega⟩
          clear hgood hyv
          go_wp2_with (first
            | (go_at_call 15; refine (num4_any _ _).mono ?_; rintro e w' ⟨rfl, rfl⟩))
          refine (PutInt_any y HM.out.2.2.1 HM.out.2.2.2).mono ?_
          rintro e w9 ⟨r9, m9, hm9, rfl, hs9, hb9⟩
          obtain rfl := hm9.uniq HM.out.1
          have H9 : Hid (Sl .u8 w9 r9 X ∧ Below w.heap.size w w9) := ⟨by rw [HM.out.2.1] at hs9; exact hs9, below_via H8.out hb9 (Nat.le_refl _)⟩
          clear hm9 hs9 hb9
          go_wp2_with fail
          refine (SameBytes_any _ _ X H9.out.1 (below_sl H9.out.2 HX.out.1) (by have := HX.out.2.2.1; omega)).mono ?_
          rintro e w10 ⟨rfl, hb10⟩
          have H10 : Hid (Below w.heap.size w w10) := below_via H9.out.2 hb10 (Nat.le_refl _)
          clear hb10
          go_wp2_with (go_at_call 8; refine (live_any (HX.out.2.2.2.1.below H10.out)).mono ?_; rintro e w11 ⟨rfl, hb11⟩)
          go_ret
          exact ⟨rfl, below_via H10.out hb11 (Nat.le_refl _)⟩
        · have h0b : (h != 0) = true := by simpa using h0
          clear h0
          go_wp2_with (first
            | (go_at_call 15; refine (num4_any _ _).mono ?_; rintro e w' ⟨rfl, rfl⟩)
            | (go_at_call 8; refine (live_any (HX.out.2.2.2.1.below H8.out)).mono ?_; rintro e w11 ⟨rfl, hb11⟩))
          go_ret
          exact ⟨rfl, below_via H8.out hb11 (Nat.le_refl _)⟩
      · have he6b : (e6 == 0) = false := by simpa using he6
        have H8 : Hid (Below w.heap.size w w6) := H6.out.2
        clear he6
        go_wp2_with (first
          | (go_at_call 15; refine (num4_any _ _).mono ?_; rintro e w' ⟨rfl, rfl⟩))
        refine (Int_any _ X (below_sl H8.out HX.out.1) HX.out.2.1 (by have := HX.out.2.2.1; omega)).mono ?_
        rintro e w' ⟨rfl, rfl⟩
        obtain ⟨y, hy⟩ : ∃ y, intV X = y := ⟨_, rfl⟩
        obtain ⟨h, hh⟩ : ∃ h, intE X = h := ⟨_, rfl⟩
        have HY : Hid (intV X = y ∧ intE X = h) := ⟨hy, hh⟩
        rw [hy, hh]
        clear hy hh
        by_cases h0 : h = 0
        · subst h0
          have hgood : intOk X = true ∧ X.length ≤ 8 := by
            have h9 := HY.out.2
            unfold intE at h9
            cases hok : intOk X with
            | false => rw [if_pos hok] at h9; cases h9
            | true =>
              rw [if_neg (by rw [hok]; simp)] at h9
              by_cases hl : 8 < X.length
              · rw [if_pos hl] at h9; cases h9
              · exact ⟨rfl, by omega⟩
          have hyv : y = iv X X.length := by rw [← HY.out.1]; unfold intV; rw [if_pos hgood]
          have HM : Hid (IsM y X.length ∧ pI y X.length = X ∧ -9223372036854775808 ≤ y ∧ y ≤ 9223372036854775807) := by
            have h1 := intOk_ne hgood.1
            obtain ⟨d, hd⟩ : ∃ d, X.length = d + 1 := ⟨X.length - 1, by omega⟩
            have h2 := iv_range HX.out.2.1 d (by omega)
            rw [← hd] at h2
            refine ⟨by rw [hyv]; exact int_back HX.out.2.1 hgood.1 hgood.2, by rw [hyv]; exact pI_iv HX.out.2.1, by rw [hyv]; exact h2.1, by rw [hyv]; omega⟩
          clear hgood hyv
          go_wp2_with (first
            | (go_at_call 15; refine (num4_any _ _).mono ?_; rintro e w' ⟨rfl, rfl⟩))
          refine (PutInt_any y HM.out.2.2.1 HM.out.2.2.2).mono ?_
          rintro e w9 ⟨r9, m9, hm9, rfl, hs9, hb9⟩
          obtain rfl := hm9.uniq HM.out.1
          have H9 : Hid (Sl .u8 w9 r9 X ∧ Below w.heap.size w w9) := ⟨by rw [HM.out.2.1] at hs9; exact hs9, below_via H8.out hb9 (Nat.le_refl _)⟩
          clear hm9 hs9 hb9
          go_wp2_with fail
          refine (SameBytes_any _ _ X H9.out.1 (below_sl H9.out.2 HX.out.1) (by have := HX.out.2.2.1; omega)).mono ?_
          rintro e w10 ⟨rfl, hb10⟩
          have H10 : Hid (Below w.heap.size w w10) := below_via H9.out.2 hb10 (Nat.le_refl _)
          clear hb10
          go_wp2_with (go_at_call 8; refine (live_any (HX.out.2.2.2.1.below H10.out)).mono ?_; rintro e w11 ⟨rfl, hb11⟩)
          go_ret
          exact ⟨rfl, below_via H10.out hb11 (Nat.le_refl _)⟩
        · have h0b : (h != 0) = true := by simpa using h0
          clear h0
          go_wp2_with (first
            | (go_at_call 15; refine (num4_any _ _).mono ?_; rintro e w' ⟨rfl, rfl⟩)
            | (go_at_call 8; refine (live_any (HX.out.2.2.2.1.below H8.out)).mono ?_; rintro e w11 ⟨rfl, hb11⟩))
          go_ret
          exact ⟨rfl, below_via H8.out hb11 (Nat.le_refl _)⟩
    · have hnI : (2000 : Int) < (n : Int) := by omega
      go_enter Tryd.func7, Tryd.ntmps7
      go_wp2_with (go_at_call 8; refine (live_any HX.out.2.2.2.1).mono ?_; rintro e w8 ⟨rfl, hb8⟩)
      go_ret
      exact ⟨rfl, hb8⟩
  · have hmI : (100 : Int) < (n2 : Int) := by omega
    go_enter Tryd.func7, Tryd.ntmps7
    go_wp2_with (go_at_call 8; refine (live_any HX.out.2.2.2.1).mono ?_; rintro e w8 ⟨rfl, hb8⟩)
    go_ret
    exact ⟨rfl, hb8⟩
end Go.Proofs.YtndcpjnfdgojkaaDoor
