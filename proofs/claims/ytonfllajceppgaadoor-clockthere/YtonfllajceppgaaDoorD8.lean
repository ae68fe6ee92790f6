/-
  Clock: ClockThere.
-/
import Derived.Test.YtonfllajceppgaaDoorD7
namespace Go.Proofs.YtonfllajceppgaaDoor
open Go.RowKit
theorem gen_back {t : Mo} {m : Nat} {e : Ending} (k : t.Ok) (hm : m < 1000000) (h : GeneralIs (genX t m) e) : e = .returned (.tuple #[.int .i64 t.sec, .int .i64 m, .int .i64 0]) := by
  have hs := gen_says t k m hm
  rcases h with ⟨t', mi, h1, h2, rfl⟩ | ⟨t', mi, h1, h2, _⟩ | ⟨h1, _⟩
  · obtain ⟨rfl, rfl⟩ := says_uniq hs h1
    rfl
  · obtain ⟨rfl, rfl⟩ := says_uniq hs h1
    exact absurd k h2
  · exact absurd hs (h1 t m)
theorem utc_back {t : Mo} {e : Ending} (k : t.Ok) (hy : 1950 ≤ t.Y ∧ t.Y ≤ 2049) (h : UtcIs (utcX t) e) : e = .returned (.tuple #[.int .i64 t.sec, .int .i64 0]) := by
  obtain ⟨A, hA, hl, hD, ht⟩ := utc_says t k hy
  rcases h with ⟨Y, h1, h2, h3, h4⟩ | ⟨h1, _⟩
  · have e1 := List.append_inj_left' (hA.symm.trans h1) rfl
    subst e1
    rw [ht] at h4
    exact seconds_is k h4
  · exact absurd ⟨hA, hl, hD⟩ (h1 A)
theorem gen_any {X : List Int} {e : Ending} (h : GeneralIs X e) : (∃ (t : Mo) (mi : Int), t.Ok ∧ e = .returned (.tuple #[.int .i64 t.sec, .int .i64 mi, .int .i64 0]) ∧ GSpec t.sec mi X 0) ∨ (∃ k : Int, (k == 0) = false ∧ e = .returned (.tuple #[.int .i64 0, .int .i64 0, .int .i64 k])) := by
  rcases h with ⟨t, mi, h1, h2, rfl⟩ | ⟨t, mi, h1, h2, rfl⟩ | ⟨h1, rfl⟩
  · obtain ⟨g0, g1, g2⟩ := says_gen h1
    exact .inl ⟨t, mi, h2, rfl, .inr (.inr ⟨⟨g0, g1⟩, t, h2, rfl, (g2 h2).symm, rfl⟩)⟩
  · exact .inr ⟨50, by decide, rfl⟩
  · exact .inr ⟨6, by decide, rfl⟩
theorem utc_any {X : List Int} {e : Ending} (h : UtcIs X e) : (∃ t : Mo, t.Ok ∧ e = .returned (.tuple #[.int .i64 (Mo.sec t), .int .i64 0]) ∧ USpec (Mo.sec t) X 0) ∨ (∃ k : Int, (k == 0) = false ∧ e = .returned (.tuple #[.int .i64 0, .int .i64 k])) := by
  rcases h with ⟨Y, h1, h2, h3, h4⟩ | ⟨h1, rfl⟩
  · obtain ⟨hy, hx⟩ := says_utc h2 h3
    rcases h4 with ⟨k, rfl⟩ | ⟨k, rfl⟩
    · exact .inl ⟨_, k, rfl, .inr ⟨Mo.sec_range k, _, k, rfl, .inr ⟨hy, by rw [hx, h1], rfl⟩⟩⟩
    · exact .inr ⟨50, by decide, rfl⟩
  · exact .inr ⟨6, by decide, rfl⟩
theorem g_cases {sec micro : Int} {X : List Int} {err : Int} (h : GSpec sec micro X err) : (err = 0 ∧ ∃ (t : Mo) (m : Nat), t.Ok ∧ t.sec = sec ∧ micro = (m : Int) ∧ m < 1000000 ∧ X = genX t m) ∨ (err == 0) = false := by
  rcases h with ⟨_, _, rfl⟩ | ⟨_, _, _, rfl⟩ | ⟨hm, t, k, hs, hX, rfl⟩
  · exact .inr (by decide)
  · exact .inr (by decide)
  · exact .inl ⟨rfl, t, micro.toNat, k, hs, by omega, by omega, hX⟩
theorem u_cases {sec : Int} {X : List Int} {err : Int} (h : USpec sec X err) : (err = 0 ∧ ∃ t : Mo, t.Ok ∧ t.sec = sec ∧ (1950 ≤ t.Y ∧ t.Y ≤ 2049) ∧ X = utcX t) ∨ (err == 0) = false := by
  rcases h with ⟨_, _, rfl⟩ | ⟨_, t, k, hs, ⟨_, _, rfl⟩ | ⟨hy, hX, rfl⟩⟩
  · exact .inr (by decide)
  · exact .inr (by decide)
  · exact .inl ⟨rfl, t, k, hs, hy, hX⟩
set_option maxHeartbeats 8000000 in
set_option maxRecDepth 100000 in
theorem ClockThere_any {w : World} (sec micro : Int) (v : Value) (S : List Int) (hX : Sl .u8 w v S) (hU : U8s S) (hl : S.length ≤ 9223372036854775807) (hT : TabP w) : Calls Tryd.prog 4 #[.int .i64 sec, .int .i64 micro, v] w fun e w' => e = .returned (.bool true) ∧ Below w.heap.size w w' := by
  have HT : Hid (TabP w) := hT
  have HS : Hid (Sl .u8 w v S ∧ U8s S) := ⟨hX, hU⟩
  obtain ⟨sa, sc, rfl, -⟩ := sl_str hX
  obtain ⟨sn, hsn⟩ : ∃ n, S.length = n := ⟨_, rfl⟩
  have HSN : Hid (S.length = sn) := hsn
  rw [hsn] at HS hl ⊢
  have sz : (sn : Int) ≤ 9223372036854775807 := by omega
  clear hX hU hT hsn
  by_cases hbig : 4000 < sn
  · have b1 : (4000 : Int) < (sn : Int) := by omega
    go_enter Tryd.func4, Tryd.ntmps4
    go_wp2_with fail
    refine (live_any HT.out.tab).mono ?_
    rintro e w1 ⟨rfl, hb⟩
    go_wp2
    go_ret
    exact ⟨rfl, hb⟩
  · have b1 : ¬ (4000 : Int) < (sn : Int) := by omega
    go_enter Tryd.func4, Tryd.ntmps4
    go_wp2_with fail
    refine (PutGeneral_any sec micro HT.out.pw).mono ?_
    rintro e w1 ⟨X, err, hG, a, c, rfl, hS, hb⟩
    have H1 : Hid (Sl .u8 w1 (.slice a X.length c) X ∧ Below w.heap.size w w1) := ⟨hS, hb⟩
    obtain ⟨n, hn⟩ : ∃ n, X.length = n := ⟨_, rfl⟩
    rw [hn] at H1 ⊢
    clear hS hb hn
    have hgc := g_cases hG
    clear hG
    rcases hgc with ⟨rfl, t, m, k, hs, rfl, hm, rfl⟩ | hne
    · have HK : Hid (t.Ok ∧ t.sec = sec ∧ m < 1000000) := ⟨k, hs, hm⟩
      clear k hs hm
      go_wp2_with (go_at_call 10; refine (num_any _).mono ?_; rintro e w' ⟨rfl, rfl⟩)
      refine (General_any _ (genX t m) H1.out.1 (genX_u8 t m) (by have := genX_len t m; omega)).mono ?_
      rintro e w2 ⟨hG, hb⟩
      have he := gen_back HK.out.1 HK.out.2.2 hG
      rw [HK.out.2.1] at he
      subst he
      have H2 : Hid (Below w.heap.size w w2) := below_via H1.out.2 hb (Nat.le_refl _)
      clear hG hb
      go_wp2_with (go_at_call 10; refine (num_any _).mono ?_; rintro e w' ⟨rfl, rfl⟩)
      refine (PutUtc_any sec (HT.out.below H2.out).pw).mono ?_
      rintro e w3 ⟨X3, err3, hU3, a3, c3, rfl, hS3, hb3⟩
      have H3 : Hid (Sl .u8 w3 (.slice a3 X3.length c3) X3 ∧ Below w.heap.size w w3) := ⟨hS3, below_via H2.out hb3 (Nat.le_refl _)⟩
      obtain ⟨n3, hn3⟩ : ∃ n, X3.length = n := ⟨_, rfl⟩
      rw [hn3] at H3 ⊢
      clear hS3 hb3 hn3
      have huc := u_cases hU3
      clear hU3
      rcases huc with ⟨rfl, t3, k3, hs3, hy3, rfl⟩ | hne3
      · have HK3 : Hid (t3.Ok ∧ t3.sec = sec ∧ (1950 ≤ t3.Y ∧ t3.Y ≤ 2049)) := ⟨k3, hs3, hy3⟩
        clear k3 hs3 hy3
        go_wp2_with (go_at_call 10; refine (num_any _).mono ?_; rintro e w' ⟨rfl, rfl⟩)
        refine (Utc_any _ (utcX t3) H3.out.1 (utcX_u8 t3) (by unfold utcX tailX; simp [wd_len])).mono ?_
        rintro e w4 ⟨hG4, hb4⟩
        have he4 := utc_back HK3.out.1 HK3.out.2.2 hG4
        rw [HK3.out.2.1] at he4
        subst he4
        have H4 : Hid (Below w.heap.size w w4) := below_via H3.out.2 hb4 (Nat.le_refl _)
        clear hG4 hb4
        go_wp2_with (go_at_call 10; refine (num_any _).mono ?_; rintro e w' ⟨rfl, rfl⟩)
        refine (General_any _ S (below_sl H4.out HS.out.1) HS.out.2 (by have := HSN.out; omega)).mono ?_
        rintro e w5 ⟨hG5, hb5⟩
        have H5 : Hid (Below w.heap.size w w5) := below_via H4.out hb5 (Nat.le_refl _)
        have hga := gen_any hG5
        clear hG5 hb5
        rcases hga with ⟨t5, mi, k5, rfl, hg5⟩ | ⟨k5, hk5, rfl⟩
        · have HG5 : Hid (GSpec t5.sec mi S 0) := hg5
          clear hg5
          go_wp2_with (go_at_call 10; refine (num_any _).mono ?_; rintro e w' ⟨rfl, rfl⟩)
          refine (PutGeneral_any t5.sec mi (HT.out.below H5.out).pw).mono ?_
          rintro e w6 ⟨X6, err6, hG6, a6, c6, rfl, hS6, hb6⟩
          obtain ⟨rfl, rfl⟩ := gspec_uniq HG5.out hG6
          rw [HSN.out] at hS6 ⊢
          have H6 : Hid (Sl .u8 w6 (.slice a6 sn c6) S ∧ Below w.heap.size w w6) := ⟨hS6, below_via H5.out hb6 (Nat.le_refl _)⟩
          clear hG6 hS6 hb6
          go_wp2_with (go_at_call 10; refine (num_any _).mono ?_; rintro e w' ⟨rfl, rfl⟩)
          refine (SameBytes_any _ _ S H6.out.1 (below_sl H6.out.2 HS.out.1) (by have := HSN.out; omega)).mono ?_
          rintro e w7 ⟨rfl, hb7⟩
          have H7 : Hid (Below w.heap.size w w7) := below_via H6.out.2 hb7 (Nat.le_refl _)
          clear hb7
          go_wp2_with fail
          refine (live_any (HT.out.below H7.out).tab).mono ?_
          rintro e w8 ⟨rfl, hb8⟩
          have H8 : Hid (Below w.heap.size w w8) := below_via H7.out hb8 (Nat.le_refl _)
          clear hb8
          go_wp2
          go_ret
          exact ⟨rfl, H8.out⟩
        · go_wp2_with (go_at_call 10; refine (num_any _).mono ?_; rintro e w' ⟨rfl, rfl⟩)
          refine (Utc_any _ S (below_sl H5.out HS.out.1) HS.out.2 (by have := HSN.out; omega)).mono ?_
          rintro e w6 ⟨hG6, hb6⟩
          have H6 : Hid (Below w.heap.size w w6) := below_via H5.out hb6 (Nat.le_refl _)
          have hua := utc_any hG6
          clear hG6 hb6
          rcases hua with ⟨t6, k6, rfl, hu6⟩ | ⟨k6, hk6, rfl⟩
          · have HU6 : Hid (USpec t6.sec S 0) := hu6
            clear hu6
            go_wp2_with (go_at_call 10; refine (num_any _).mono ?_; rintro e w' ⟨rfl, rfl⟩)
            refine (PutUtc_any t6.sec (HT.out.below H6.out).pw).mono ?_
            rintro e w7 ⟨X7, err7, hU7, a7, c7, rfl, hS7, hb7⟩
            obtain ⟨rfl, rfl⟩ := uspec_uniq HU6.out hU7
            rw [HSN.out] at hS7 ⊢
            have H7 : Hid (Sl .u8 w7 (.slice a7 sn c7) S ∧ Below w.heap.size w w7) := ⟨hS7, below_via H6.out hb7 (Nat.le_refl _)⟩
            clear hU7 hS7 hb7
            go_wp2_with (go_at_call 10; refine (num_any _).mono ?_; rintro e w' ⟨rfl, rfl⟩)
            refine (SameBytes_any _ _ S H7.out.1 (below_sl H7.out.2 HS.out.1) (by have := HSN.out; omega)).mono ?_
            rintro e w8 ⟨rfl, hb8⟩
            have H8 : Hid (Below w.heap.size w w8) := below_via H7.out.2 hb8 (Nat.le_refl _)
            clear hb8
            go_wp2_with fail
            refine (live_any (HT.out.below H8.out).tab).mono ?_
            rintro e w9 ⟨rfl, hb9⟩
            have H9 : Hid (Below w.heap.size w w9) := below_via H8.out hb9 (Nat.le_refl _)
            clear hb9
            go_wp2
            go_ret
            exact ⟨rfl, H9.out⟩
          · go_wp2_with (go_at_call 10; refine (num_any _).mono ?_; rintro e w' ⟨rfl, rfl⟩)
            refine (live_any (HT.out.below H6.out).tab).mono ?_
            rintro e w7 ⟨rfl, hb7⟩
            have H7 : Hid (Below w.heap.size w w7) := below_via H6.out hb7 (Nat.le_refl _)
            clear hb7
            go_wp2
            go_ret
            exact ⟨rfl, H7.out⟩
      · have H4 : Hid (Below w.heap.size w w3) := H3.out.2
        go_wp2_with (go_at_call 10; refine (num_any _).mono ?_; rintro e w' ⟨rfl, rfl⟩)
        refine (General_any _ S (below_sl H4.out HS.out.1) HS.out.2 (by have := HSN.out; omega)).mono ?_
        rintro e w5 ⟨hG5, hb5⟩
        have H5 : Hid (Below w.heap.size w w5) := below_via H4.out hb5 (Nat.le_refl _)
        have hga := gen_any hG5
        clear hG5 hb5
        rcases hga with ⟨t5, mi, k5, rfl, hg5⟩ | ⟨k5, hk5, rfl⟩
        · have HG5 : Hid (GSpec t5.sec mi S 0) := hg5
          clear hg5
          go_wp2_with (go_at_call 10; refine (num_any _).mono ?_; rintro e w' ⟨rfl, rfl⟩)
          refine (PutGeneral_any t5.sec mi (HT.out.below H5.out).pw).mono ?_
          rintro e w6 ⟨X6, err6, hG6, a6, c6, rfl, hS6, hb6⟩
          obtain ⟨rfl, rfl⟩ := gspec_uniq HG5.out hG6
          rw [HSN.out] at hS6 ⊢
          have H6 : Hid (Sl .u8 w6 (.slice a6 sn c6) S ∧ Below w.heap.size w w6) := ⟨hS6, below_via H5.out hb6 (Nat.le_refl _)⟩
          clear hG6 hS6 hb6
          go_wp2_with (go_at_call 10; refine (num_any _).mono ?_; rintro e w' ⟨rfl, rfl⟩)
          refine (SameBytes_any _ _ S H6.out.1 (below_sl H6.out.2 HS.out.1) (by have := HSN.out; omega)).mono ?_
          rintro e w7 ⟨rfl, hb7⟩
          have H7 : Hid (Below w.heap.size w w7) := below_via H6.out.2 hb7 (Nat.le_refl _)
          clear hb7
          go_wp2_with fail
          refine (live_any (HT.out.below H7.out).tab).mono ?_
          rintro e w8 ⟨rfl, hb8⟩
          have H8 : Hid (Below w.heap.size w w8) := below_via H7.out hb8 (Nat.le_refl _)
          clear hb8
          go_wp2
          go_ret
          exact ⟨rfl, H8.out⟩
        · go_wp2_with (go_at_call 10; refine (num_any _).mono ?_; rintro e w' ⟨rfl, rfl⟩)
          refine (Utc_any _ S (below_sl H5.out HS.out.1) HS.out.2 (by have := HSN.out; omega)).mono ?_
          rintro e w6 ⟨hG6, hb6⟩
          have H6 : Hid (Below w.heap.size w w6) := below_via H5.out hb6 (Nat.le_refl _)
          have hua := utc_any hG6
          clear hG6 hb6
          rcases hua with ⟨t6, k6, rfl, hu6⟩ | ⟨k6, hk6, rfl⟩
          · have HU6 : Hid (USpec t6.sec S 0) := hu6
            clear hu6
            go_wp2_with (go_at_call 10; refine (num_any _).mono ?_; rintro e w' ⟨rfl, rfl⟩)
            refine (PutUtc_any t6.sec (HT.out.below H6.out).pw).mono ?_
            rintro e w7 ⟨X7, err7, hU7, a7, c7, rfl, hS7, hb7⟩
            obtain ⟨rfl, rfl⟩ := uspec_uniq HU6.out hU7
            rw [HSN.out] at hS7 ⊢
            have H7 : Hid (Sl .u8 w7 (.slice a7 sn c7) S ∧ Below w.heap.size w w7) := ⟨hS7, below_via H6.out hb7 (Nat.le_refl _)⟩
            clear hU7 hS7 hb7
            go_wp2_with (go_at_call 10; refine (num_any _).mono ?_; rintro e w' ⟨rfl, rfl⟩)
            refine (SameBytes_any _ _ S H7.out.1 (below_sl H7.out.2 HS.out.1) (by have := HSN.out; omega)).mono ?_
            rintro e w8 ⟨rfl, hb8⟩
            have H8 : Hid (Below w.heap.size w w8) := below_via H7.out.2 hb8 (Nat.le_refl _)
            clear hb8
            go_wp2_with fail
            refine (live_any (HT.out.below H8.out).tab).mono ?_
            rintro e w9 ⟨rfl, hb9⟩
            have H9 : Hid (Below w.heap.size w w9) := below_via H8.out hb9 (Nat.le_refl _)
            clear hb9
            go_wp2
            go_ret
            exact ⟨rfl, H9.out⟩
          · go_wp2_with (go_at_call 10; refine (num_any _).mono ?_; rintro e w' ⟨rfl, rfl⟩)
            refine (live_any (HT.out.below H6.out).tab).mono ?_
            rintro e w7 ⟨rfl, hb7⟩
            have H7 : Hid (Below w.heap.size w w7) := below_via H6.out hb7 (Nat.le_refl _)
            clear hb7
            go_wp2
            go_ret
            exact ⟨rfl, H7.out⟩
    · have H2 : Hid (Below w.heap.size w w1) := H1.out.2
      go_wp2_with (go_at_call 10; refine (num_any _).mono ?_; rintro e w' ⟨rfl, rfl⟩)
      refine (PutUtc_any sec (HT.out.below H2.out).pw).mono ?_
      rintro e w3 ⟨X3, err3, hU3, a3, c3, rfl, hS3, hb3⟩
      have H3 : Hid (Sl .u8 w3 (.slice a3 X3.length c3) X3 ∧ Below w.heap.size w w3) := ⟨hS3, below_via H2.out hb3 (Nat.le_refl _)⟩
      obtain ⟨n3, hn3⟩ : ∃ n, X3.length = n := ⟨_, rfl⟩
      rw [hn3] at H3 ⊢
      clear hS3 hb3 hn3
      have huc := u_cases hU3
      clear hU3
      rcases huc with ⟨rfl, t3, k3, hs3, hy3, rfl⟩ | hne3
      · have HK3 : Hid (t3.Ok ∧ t3.sec = sec ∧ (1950 ≤ t3.Y ∧ t3.Y ≤ 2049)) := ⟨k3, hs3, hy3⟩
        clear k3 hs3 hy3
        go_wp2_with (go_at_call 10; refine (num_any _).mono ?_; rintro e w' ⟨rfl, rfl⟩)
        refine (Utc_any _ (utcX t3) H3.out.1 (utcX_u8 t3) (by unfold utcX tailX; simp [wd_len])).mono ?_
        rintro e w4 ⟨hG4, hb4⟩
        have he4 := utc_back HK3.out.1 HK3.out.2.2 hG4
        rw [HK3.out.2.1] at he4
        subst he4
        have H4 : Hid (Below w.heap.size w w4) := below_via H3.out.2 hb4 (Nat.le_refl _)
        clear hG4 hb4
        go_wp2_with (go_at_call 10; refine (num_any _).mono ?_; rintro e w' ⟨rfl, rfl⟩)
        refine (General_any _ S (below_sl H4.out HS.out.1) HS.out.2 (by have := HSN.out; omega)).mono ?_
        rintro e w5 ⟨hG5, hb5⟩
        have H5 : Hid (Below w.heap.size w w5) := below_via H4.out hb5 (Nat.le_refl _)
        have hga := gen_any hG5
        clear hG5 hb5
        rcases hga with ⟨t5, mi, k5, rfl, hg5⟩ | ⟨k5, hk5, rfl⟩
        · have HG5 : Hid (GSpec t5.sec mi S 0) := hg5
          clear hg5
          go_wp2_with (go_at_call 10; refine (num_any _).mono ?_; rintro e w' ⟨rfl, rfl⟩)
          refine (PutGeneral_any t5.sec mi (HT.out.below H5.out).pw).mono ?_
          rintro e w6 ⟨X6, err6, hG6, a6, c6, rfl, hS6, hb6⟩
          obtain ⟨rfl, rfl⟩ := gspec_uniq HG5.out hG6
          rw [HSN.out] at hS6 ⊢
          have H6 : Hid (Sl .u8 w6 (.slice a6 sn c6) S ∧ Below w.heap.size w w6) := ⟨hS6, below_via H5.out hb6 (Nat.le_refl _)⟩
          clear hG6 hS6 hb6
          go_wp2_with (go_at_call 10; refine (num_any _).mono ?_; rintro e w' ⟨rfl, rfl⟩)
          refine (SameBytes_any _ _ S H6.out.1 (below_sl H6.out.2 HS.out.1) (by have := HSN.out; omega)).mono ?_
          rintro e w7 ⟨rfl, hb7⟩
          have H7 : Hid (Below w.heap.size w w7) := below_via H6.out.2 hb7 (Nat.le_refl _)
          clear hb7
          go_wp2_with fail
          refine (live_any (HT.out.below H7.out).tab).mono ?_
          rintro e w8 ⟨rfl, hb8⟩
          have H8 : Hid (Below w.heap.size w w8) := below_via H7.out hb8 (Nat.le_refl _)
          clear hb8
          go_wp2
          go_ret
          exact ⟨rfl, H8.out⟩
        · go_wp2_with (go_at_call 10; refine (num_any _).mono ?_; rintro e w' ⟨rfl, rfl⟩)
          refine (Utc_any _ S (below_sl H5.out HS.out.1) HS.out.2 (by have := HSN.out; omega)).mono ?_
          rintro e w6 ⟨hG6, hb6⟩
          have H6 : Hid (Below w.heap.size w w6) := below_via H5.out hb6 (Nat.le_refl _)
          have hua := utc_any hG6
          clear hG6 hb6
          rcases hua with ⟨t6, k6, rfl, hu6⟩ | ⟨k6, hk6, rfl⟩
          · have HU6 : Hid (USpec t6.sec S 0) := hu6
            clear hu6
            go_wp2_with (go_at_call 10; refine (num_any _).mono ?_; rintro e w' ⟨rfl, rfl⟩)
            refine (PutUtc_any t6.sec (HT.out.below H6.out).pw).mono ?_
            rintro e w7 ⟨X7, err7, hU7, a7, c7, rfl, hS7, hb7⟩
            obtain ⟨rfl, rfl⟩ := uspec_uniq HU6.out hU7
            rw [HSN.out] at hS7 ⊢
            have H7 : Hid (Sl .u8 w7 (.slice a7 sn c7) S ∧ Below w.heap.size w w7) := ⟨hS7, below_via H6.out hb7 (Nat.le_refl _)⟩
            clear hU7 hS7 hb7
            go_wp2_with (go_at_call 10; refine (num_any _).mono ?_; rintro e w' ⟨rfl, rfl⟩)
            refine (SameBytes_any _ _ S H7.out.1 (below_sl H7.out.2 HS.out.1) (by have := HSN.out; omega)).mono ?_
            rintro e w8 ⟨rfl, hb8⟩
            have H8 : Hid (Below w.heap.size w w8) := below_via H7.out.2 hb8 (Nat.le_refl _)
            clear hb8
            go_wp2_with fail
            refine (live_any (HT.out.below H8.out).tab).mono ?_
            rintro e w9 ⟨rfl, hb9⟩
            have H9 : Hid (Below w.heap.size w w9) := below_via H8.out hb9 (Nat.le_refl _)
            clear hb9
            go_wp2
            go_ret
            exact ⟨rfl, H9.out⟩
          · go_wp2_with (go_at_call 10; refine (num_any _).mono ?_; rintro e w' ⟨rfl, rfl⟩)
            refine (live_any (HT.out.below H6.out).tab).mono ?_
            rintro e w7 ⟨rfl, hb7⟩
            have H7 : Hid (Below w.heap.size w w7) := below_via H6.out hb7 (Nat.le_refl _)
            clear hb7
            go_wp2
            go_ret
            exact ⟨rfl, H7.out⟩
      · have H4 : Hid (Below w.heap.size w w3) := H3.out.2
        go_wp2_with (go_at_call 10; refine (num_any _).mono ?_; rintro e w' ⟨rfl, rfl⟩)
        refine (General_any _ S (below_sl H4.out HS.out.1) HS.out.2 (by have := HSN.out; omega)).mono ?_
        rintro e w5 ⟨hG5, hb5⟩
        have H5 : Hid (Below w.heap.size w w5) := below_via H4.out hb5 (Nat.le_refl _)
        have hga := gen_any hG5
        clear hG5 hb5
        rcases hga with ⟨t5, mi, k5, rfl, hg5⟩ | ⟨k5, hk5, rfl⟩
        · have HG5 : Hid (GSpec t5.sec mi S 0) := hg5
          clear hg5
          go_wp2_with (go_at_call 10; refine (num_any _).mono ?_; rintro e w' ⟨rfl, rfl⟩)
          refine (PutGeneral_any t5.sec mi (HT.out.below H5.out).pw).mono ?_
          rintro e w6 ⟨X6, err6, hG6, a6, c6, rfl, hS6, hb6⟩
          obtain ⟨rfl, rfl⟩ := gspec_uniq HG5.out hG6
          rw [HSN.out] at hS6 ⊢
          have H6 : Hid (Sl .u8 w6 (.slice a6 sn c6) S ∧ Below w.heap.size w w6) := ⟨hS6, below_via H5.out hb6 (Nat.le_refl _)⟩
          clear hG6 hS6 hb6
          go_wp2_with (go_at_call 10; refine (num_any _).mono ?_; rintro e w' ⟨rfl, rfl⟩)
          refine (SameBytes_any _ _ S H6.out.1 (below_sl H6.out.2 HS.out.1) (by have := HSN.out; omega)).mono ?_
          rintro e w7 ⟨rfl, hb7⟩
          have H7 : Hid (Below w.heap.size w w7) := below_via H6.out.2 hb7 (Nat.le_refl _)
          clear hb7
          go_wp2_with fail
          refine (live_any (HT.out.below H7.out).tab).mono ?_
          rintro e w8 ⟨rfl, hb8⟩
          have H8 : Hid (Below w.heap.size w w8) := below_via H7.out hb8 (Nat.le_refl _)
          clear hb8
          go_wp2
          go_ret
          exact ⟨rfl, H8.out⟩
        · go_wp2_with (go_at_call 10; refine (num_any _).mono ?_; rintro e w' ⟨rfl, rfl⟩)
          refine (Utc_any _ S (below_sl H5.out HS.out.1) HS.out.2 (by have := HSN.out; omega)).mono ?_
          rintro e w6 ⟨hG6, hb6⟩
          have H6 : Hid (Below w.heap.size w w6) := below_via H5.out hb6 (Nat.le_refl _)
          have hua := utc_any hG6
          clear hG6 hb6
          rcases hua with ⟨t6, k6, rfl, hu6⟩ | ⟨k6, hk6, rfl⟩
          · have HU6 : Hid (USpec t6.sec S 0) := hu6
            clear hu6
            go_wp2_with (go_at_call 10; refine (num_any _).mono ?_; rintro e w' ⟨rfl, rfl⟩)
            refine (PutUtc_any t6.sec (HT.out.below H6.out).pw).mono ?_
            rintro e w7 ⟨X7, err7, hU7, a7, c7, rfl, hS7, hb7⟩
            obtain ⟨rfl, rfl⟩ := uspec_uniq HU6.out hU7
            rw [HSN.out] at hS7 ⊢
            have H7 : Hid (Sl .u8 w7 (.slice a7 sn c7) S ∧ Below w.heap.size w w7) := ⟨hS7, below_via H6.out hb7 (Nat.le_refl _)⟩
            clear hU7 hS7 hb7
            go_wp2_with (go_at_call 10; refine (num_any _).mono ?_; rintro e w' ⟨rfl, rfl⟩)
            refine (SameBytes_any _ _ S H7.out.1 (below_sl H7.out.2 HS.out.1) (by have := HSN.out; omega)).mono ?_
            rintro e w8 ⟨rfl, hb8⟩
            have H8 : Hid (Below w.heap.size w w8) := below_via H7.out.2 hb8 (Nat.le_refl _)
            clear hb8
            go_wp2_with fail
            refine (live_any (HT.out.below H8.out).tab).mono ?_
            rintro e w9 ⟨rfl, hb9⟩
            have H9 : Hid (Below w.heap.size w w9) := below_via H8.out hb9 (Nat.le_refl _)
            clear hb9
            go_wp2
            go_ret
            exact ⟨rfl, H9.out⟩
          · go_wp2_with (go_at_call 10; refine (num_any _).mono ?_; rintro e w' ⟨rfl, rfl⟩)
            refine (live_any (HT.out.below H6.out).tab).mono ?_
            rintro e w7 ⟨rfl, hb7⟩
            have H7 : Hid (Below w.heap.size w w7) := below_via H6.out hb7 (Nat.le_refl _)
            clear hb7
            go_wp2
            go_ret
            exact ⟨rfl, H7.out⟩
end Go.Proofs.YtonfllajceppgaaDoor
