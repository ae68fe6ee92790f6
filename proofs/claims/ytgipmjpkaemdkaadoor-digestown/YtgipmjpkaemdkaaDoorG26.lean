/-
  Digest: the law DigestOwn: a digest that was told is nobody's but the caller's.
-/
import Derived.Test.YtgipmjpkaemdkaaDoorG25
namespace Go.Proofs.YtgipmjpkaemdkaaDoor
open Go.RowKit
theorem arr_len {k k' : IntKind} {e e' : TypeId} {w : World} {b : Nat} {xs ys : List Int} (h : Arr k e w b xs) (h' : Arr k' e' w b ys) : xs.length = ys.length := by
  unfold Arr at h h'
  rw [h] at h'
  injection h' with h'
  injection h' with h1 _ _
  have := congrArg Array.size h1
  simpa using this
/-- 'append(x, 1, 2, 3)' of a digest without spare room: new memory. -/
theorem grew_new {k : IntKind} {e : TypeId} {w w' : World} {d n : Nat} {ys : List Int} (h : Grew k e w w' (.slice (some ⟨d, 0, none⟩) n n) ys) (hy : 0 < ys.length) : Below w.heap.size w w' := by
  rcases h with h | ⟨b, m, S, hv, _, _, hl, _⟩
  · exact h
  · simp only [Value.slice.injEq, Option.some.injEq, Addr.mk.injEq, and_true] at hv
    obtain ⟨_, h1, h2⟩ := hv
    omega
theorem new3 {w : World} {e : TypeId} : Sl .u8 (w.alloc (.cells #[.int .u8 1, .int .u8 2, .int .u8 3] e)) (.slice (some ⟨w.heap.size, 0, none⟩) 3 3) [1, 2, 3] := new_sl [1, 2, 3] (0, 0)
set_option maxHeartbeats 2000000 in
theorem DigestOwn_main {w : World} (alg : Int) (ha : Alg alg) (a1 : Option Addr) (n1 c1 : Nat) (A : List Int) (hA : Sl .u8 w (.slice a1 n1 c1) A) (uA : U8s A) (lA : A.length = n1) (s1 : n1 ≤ 65536) (hT : Tabs w) :
    Calls Tryd.prog 7 #[.int .i64 alg, .slice a1 n1 c1] w fun e w' => e = .returned (.bool true) ∧ Below w.heap.size w w' := by
  have hz7 := hT.size
  have HX : Hid (Sl .u8 w (.slice a1 n1 c1) A ∧ U8s A ∧ A.length = n1 ∧ Tabs w) := ⟨hA, uA, lA, hT⟩
  obtain ⟨D, hD⟩ : ∃ D, dig alg A = D := ⟨_, rfl⟩
  have HD : Hid (dig alg A = D ∧ D.length = siz alg ∧ siz alg ≤ 64) := ⟨hD, by rw [← hD]; exact dig_len _ _, siz_le _⟩
  clear hA uA lA hT hD
  go_enter Tryd.func7, Tryd.ntmps7
  go_wp2_with (first
    | (go_at_call 22; refine (Write_nil _).mono ?_; rintro e w' ⟨rfl, hw⟩; replace hw := hw.symm; subst hw)
    | (go_at_call 24; refine SumM_nil.mono ?_; rintro e w' ⟨rfl, hw⟩; replace hw := hw.symm; subst hw)
    | (go_at_call 26; refine Len_nil.mono ?_; rintro e w' ⟨rfl, hw⟩; replace hw := hw.symm; subst hw)
    | (go_at_call 27; refine Alg_nil.mono ?_; rintro e w' ⟨rfl, hw⟩; replace hw := hw.symm; subst hw)
    | (go_at_call 16; refine (num_any _ _).mono ?_; rintro e w' ⟨rfl, rfl⟩))
  refine (New_any alg ha HX.out.2.2.2).mono ?_
  rintro e w1 ⟨g1, rfl, hg1, hh, hb⟩
  have H1 : Hid (HashIs w1 g1 alg [] ∧ Below w.heap.size w w1) := ⟨hh, hb⟩
  clear hh hb
  go_wp2_with (go_at_call 16; refine (num_any _ _).mono ?_; rintro e w' ⟨rfl, rfl⟩)
  refine (Write_any (w := w1) g1 alg ha [] A H1.out.1 (by omega) (HX.out.2.2.2.below H1.out.2) _ (HX.out.1.xg H1.out.2 hg1) (by intro x hx; simp at hx) HX.out.2.1 (by simp) (by have := HX.out.2.2.1; omega) (by have := HX.out.2.2.1; simp <;> omega)).mono ?_
  rintro e w2 ⟨rfl, hh, hu⟩
  have H2 : Hid (HashIs w2 g1 alg A ∧ Below w.heap.size w w2) := ⟨hh, hu.below H1.out.2 H1.out.2.size hg1⟩
  clear hh hu
  go_wp2_with (go_at_call 16; refine (num_any _ _).mono ?_; rintro e w' ⟨rfl, rfl⟩)
  refine (SumM_any g1 alg ha A H2.out.1 (HX.out.2.2.2.below H2.out.2) HX.out.2.1 (by have := HX.out.2.2.1; omega)).mono ?_
  rintro e w3 ⟨d3, rfl, hd, hA, hb⟩
  rw [HD.out.1] at hA
  have H3 : Hid (HashIs w3 g1 alg A ∧ Below w.heap.size w w3 ∧ Arr .u8 5 w3 d3 D ∧ g1 < d3) := ⟨H2.out.1.below hb H2.out.1.lt, below_via H2.out.2 hb (Nat.le_refl _), hA, Nat.lt_of_lt_of_le H2.out.1.lt hd⟩
  clear hd hA hb
  go_wp2_with (go_at_call 16; refine (num_any _ _).mono ?_; rintro e w' ⟨rfl, rfl⟩)
  refine (SumM_any g1 alg ha A H3.out.1 (HX.out.2.2.2.below H3.out.2.1) HX.out.2.1 (by have := HX.out.2.2.1; omega)).mono ?_
  rintro e w4 ⟨d4, rfl, hd, hA, hb⟩
  rw [HD.out.1] at hA
  have H4 : Hid (HashIs w4 g1 alg A ∧ Below w.heap.size w w4 ∧ Arr .u8 5 w4 d3 D ∧ g1 < d3 ∧ Arr .u8 5 w4 d4 D ∧ d3 < d4) := ⟨H3.out.1.below hb H3.out.1.lt, below_via H3.out.2.1 hb (Nat.le_refl _), below_arr hb H3.out.2.2.1.lt H3.out.2.2.1, H3.out.2.2.2, hA, Nat.lt_of_lt_of_le H3.out.2.2.1.lt hd⟩
  clear hd hA hb
  go_wp2_with (at_builtin; refine wpList_ap rfl (.tmp 57) (.tmp 58) 25 25 rfl .u8 5 1 Tryd.und8 Tryd.info8 (by decide) d3 _ D rfl (by have hA := below_arr (al1 (w := w4) (.cells #[.int .u8 1, .int .u8 2, .int .u8 3] 5)) H4.out.2.2.1.lt H4.out.2.2.1; have := Row.arr hA (Nat.le_refl _) (by have := HD.out.2; unfold maxLen; omega); rw [HD.out.2.1] at this; exact this) _ [1, 2, 3] rfl (src_sl Tryd.und8 new3) (by have := HD.out.2; simp; omega) (by have := H4.out.2.2.1.lt; simp; omega) ?_; intro v5 w5 hr hg)
  have hg2 : Grew .u8 5 (w4.alloc (.cells #[.int .u8 1, .int .u8 2, .int .u8 3] 5)) w5 (.slice (some ⟨d3, 0, none⟩) (siz alg) (siz alg)) [1, 2, 3] := hg
  have hb5 := grew_new hg2 (by decide)
  obtain ⟨b5, S5, hv5, hb5d, hA5, hl5, _, _⟩ := hr.open (siz alg + 3) (by have := HD.out.2.1; simp; omega) (by omega)
  subst hv5
  have hb45 : Below w4.heap.size w4 w5 := below_via (al1 _) hb5 (Nat.le_refl _)
  have H5 : Hid (HashIs w5 g1 alg A ∧ Below w.heap.size w w5 ∧ Arr .u8 5 w5 d3 D ∧ g1 < d3 ∧ Arr .u8 5 w5 d4 D ∧ d3 < d4 ∧ Arr .u8 5 w5 b5 S5 ∧ d3 ≤ b5 ∧ siz alg + 3 ≤ S5.length) := ⟨H4.out.1.below hb45 H4.out.1.lt, below_via H4.out.2.1 hb45 (Nat.le_refl _), below_arr hb45 H4.out.2.2.1.lt H4.out.2.2.1, H4.out.2.2.2.1, below_arr hb45 H4.out.2.2.2.2.1.lt H4.out.2.2.2.2.1, H4.out.2.2.2.2.2, hA5, hb5d, hl5⟩
  clear hg hg2 hb5 hr hA5 hl5 hb45 hb5d
  refine (Spoil_any b5 (siz alg + 3) S5.length S5 H5.out.2.2.2.2.2.2.1 H5.out.2.2.2.2.2.2.2.2 (by have := HD.out.2; omega)).mono ?_
  rintro e w6 ⟨rfl, hu, _⟩
  have H6 : Hid (HashIs w6 g1 alg A ∧ Below w.heap.size w w6 ∧ Arr .u8 5 w6 d3 D ∧ g1 < d3 ∧ Arr .u8 5 w6 d4 D ∧ d3 < d4) := by
    obtain ⟨h1, h2, h3, h4, h5, h6, h7, h8, h9⟩ := H5.out
    have hD := HD.out.2.1
    have n4 : d4 ≠ b5 := fun e => by subst e; have := arr_len h5 h7; omega
    have n3 : d3 ≠ b5 := fun e => by subst e; have := arr_len h3 h7; omega
    exact ⟨h1.upd hu (by omega), hu.below h2 h2.size (by omega), hu.arr h3 n3, h4, hu.arr h5 n4, h6⟩
  clear hu
  go_wp2_with (go_at_call 16; refine (num_any _ _).mono ?_; rintro e w' ⟨rfl, rfl⟩)
  refine (Spoil_any d3 (siz alg) (siz alg) D H6.out.2.2.1 (by rw [HD.out.2.1]; exact Nat.le_refl _) (by have := HD.out.2; omega)).mono ?_
  rintro e w7 ⟨rfl, hu, _⟩
  have H7 : Hid (HashIs w7 g1 alg A ∧ Below w.heap.size w w7 ∧ Dg w.heap.size w7 (.slice (some ⟨d4, 0, none⟩) (siz alg) (siz alg)) D) := by
    obtain ⟨h1, h2, h3, h4, h5, h6⟩ := H6.out
    exact ⟨h1.upd hu (by omega), hu.below h2 h2.size (by omega), ⟨d4, _, rfl, HD.out.2.1, by omega, hu.arr h5 (by omega)⟩⟩
  clear hu
  go_wp2_with (go_at_call 16; refine (num_any _ _).mono ?_; rintro e w' ⟨rfl, rfl⟩)
  refine (Sum_dg (w := w7.alloc _) alg ha (HX.out.2.2.2.below (below_via H7.out.2.1 (al1 _) (Nat.le_refl _))) _ _ [A] A (by simp) (sls1 _) (msgs1 (below_sl (below_via H7.out.2.1 (al1 _) (Nat.le_refl _)) HX.out.1) HX.out.2.1) (by have := HX.out.2.2.1; omega) (by simp)).mono ?_
  rintro e w8 ⟨v8, rfl, hd8, hb8⟩
  rw [HD.out.1] at hd8
  have H8 : Hid (HashIs w8 g1 alg A ∧ Below w.heap.size w w8 ∧ Sl .u8 w8 (.slice (some ⟨d4, 0, none⟩) (siz alg) (siz alg)) D ∧ Sl .u8 w8 v8 D) := by
    have hb : Below w7.heap.size w7 w8 := below_via (al1 _) hb8 (Nat.le_refl _)
    exact ⟨H7.out.1.below hb H7.out.1.lt, below_via H7.out.2.1 hb (Nat.le_refl _), below_sl hb H7.out.2.2.sl, hd8.sl⟩
  clear hd8 hb8
  go_wp2_with (go_at_call 16; refine (num_any _ _).mono ?_; rintro e w' ⟨rfl, rfl⟩)
  refine (SameBytes_any _ v8 D H8.out.2.2.1 H8.out.2.2.2 (by have := HD.out.2; omega)).mono ?_
  rintro e w9 ⟨rfl, hb9⟩
  have H9 : Hid (HashIs w9 g1 alg A ∧ Below w.heap.size w w9 ∧ Sl .u8 w9 v8 D) := ⟨H8.out.1.below hb9 H8.out.1.lt, below_via H8.out.2.1 hb9 (Nat.le_refl _), below_sl hb9 H8.out.2.2.2⟩
  clear hb9
  go_wp2_with (go_at_call 16; refine (num_any _ _).mono ?_; rintro e w' ⟨rfl, rfl⟩)
  refine (SumM_dg g1 alg ha A H9.out.1 (HX.out.2.2.2.below H9.out.2.1) HX.out.2.1 (by have := HX.out.2.2.1; omega)).mono ?_
  rintro e w10 ⟨v10, rfl, hd, hb⟩
  rw [HD.out.1] at hd
  have H10 : Hid (Below w.heap.size w w10 ∧ Sl .u8 w10 v8 D ∧ Sl .u8 w10 v10 D) := ⟨below_via H9.out.2.1 hb (Nat.le_refl _), below_sl hb H9.out.2.2, hd.sl⟩
  clear hd hb
  go_wp2_with (go_at_call 16; refine (num_any _ _).mono ?_; rintro e w' ⟨rfl, rfl⟩)
  refine (SameBytes_any v10 v8 D H10.out.2.2 H10.out.2.1 (by have := HD.out.2; omega)).mono ?_
  rintro e w11 ⟨rfl, hb11⟩
  have H11 : Hid (Below w.heap.size w w11) := below_via H10.out.1 hb11 (Nat.le_refl _)
  clear hb11
  go_wp2_with (go_at_call 16; refine (num_any _ _).mono ?_; rintro e w' ⟨rfl, rfl⟩)
  refine (live_any (HX.out.2.2.2.below H11.out)).mono ?_
  rintro e w12 ⟨rfl, hb12⟩
  have H12 : Hid (Below w.heap.size w w12) := below_via H11.out hb12 (Nat.le_refl _)
  clear hb12
  go_wp2_with fail
  go_ret
  exact ⟨rfl, H12.out⟩
set_option maxHeartbeats 1000000 in
theorem DigestOwn_any {w : World} (alg : Int) (a1 : Option Addr) (n1 c1 : Nat) (A : List Int) (hA : Sl .u8 w (.slice a1 n1 c1) A) (uA : U8s A) (lA : A.length = n1) (hT : Tabs w) :
    Calls Tryd.prog 7 #[.int .i64 alg, .slice a1 n1 c1] w fun e w' => e = .returned (.bool true) ∧ Below w.heap.size w w' := by
  by_cases s1 : ¬ n1 ≤ 65536
  · have h1 : (65536 : Int) < (n1 : Int) := by omega
    have HT : Hid (Tabs w) := hT
    clear hA uA lA hT
    go_enter Tryd.func7, Tryd.ntmps7
    go_wp2_with (go_at_call 10; refine (live_any HT.out).mono ?_; rintro e w2 ⟨rfl, hb⟩)
    go_ret
    exact ⟨rfl, hb⟩
  replace s1 := Decidable.not_not.1 s1
  by_cases ha : Alg alg
  · exact DigestOwn_main alg ha a1 n1 c1 A hA uA lA s1 hT
  · have HT : Hid (Tabs w) := hT
    clear hA uA lA hT
    go_enter Tryd.func7, Tryd.ntmps7
    go_wp2_with (first
      | (go_at_call 22; refine (Write_nil _).mono ?_; rintro e w' ⟨rfl, hw⟩; replace hw := hw.symm; subst hw)
      | (go_at_call 24; refine SumM_nil.mono ?_; rintro e w' ⟨rfl, hw⟩; replace hw := hw.symm; subst hw)
      | (go_at_call 26; refine Len_nil.mono ?_; rintro e w' ⟨rfl, hw⟩; replace hw := hw.symm; subst hw)
      | (go_at_call 27; refine Alg_nil.mono ?_; rintro e w' ⟨rfl, hw⟩; replace hw := hw.symm; subst hw)
      | (go_at_call 16; refine (num_any _ _).mono ?_; rintro e w' ⟨rfl, rfl⟩))
    refine (New_no alg ha).mono ?_
    rintro e w1 ⟨rfl, hb⟩
    have H1 : Hid (Below w.heap.size w w1) := hb
    clear hb
    go_wp2_with (first
      | (go_at_call 16; refine (num_any _ _).mono ?_; rintro e w' ⟨rfl, rfl⟩)
      | (go_at_call 10; refine (live_any (HT.out.below H1.out)).mono ?_; rintro e w2 ⟨rfl, hb⟩))
    go_ret
    exact ⟨rfl, below_via H1.out hb (Nat.le_refl _)⟩
end Go.Proofs.YtgipmjpkaemdkaaDoor
