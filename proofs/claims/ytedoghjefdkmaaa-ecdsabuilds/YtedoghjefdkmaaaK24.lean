/-
  The walks of Lent and Kept: a list in memory of its own with two marks behind it; whether it is as it was.
-/
import Derived.Test.YtedoghjefdkmaaaK23
namespace Go.Proofs.Ytedoghjefdkmaaa.Nt
open Go.RowKit

/-- A lent list: a block from B on that holds X, the two marks, and whatever else. -/
def LentR (B : Nat) (w : World) (v : Value) (X : List Int) : Prop :=
  ∃ b S, v = .slice (some ⟨b, 0, none⟩) X.length S.length ∧ B ≤ b ∧ Arr .u32 40 w b S ∧ S.take (X.length + 2) = X ++ [57005, 48879] ∧ X.length + 2 ≤ S.length ∧ S.length ≤ maxLen
theorem LentR.sl {B : Nat} {w : World} {v : Value} {X : List Int} (h : LentR B w v X) : Sl .u32 w v X := by
  obtain ⟨b, S, rfl, _, hA, ht, hl, _⟩ := h
  refine ⟨_, _, rfl, by omega, .inr ⟨b, 0, rfl, hA.lt, ?_⟩⟩
  have h1 := hA.rd 0 X.length (by omega)
  have e : S.take X.length = X := by
    have : (S.take (X.length + 2)).take X.length = S.take X.length := by rw [List.take_take]; congr 1; omega
    rw [← this, ht, List.take_left]
  rw [List.drop_zero, e] at h1; exact h1
theorem LentR.below {B : Nat} {w w' : World} {v : Value} {X : List Int} (h : LentR B w v X) (hb : Below w.heap.size w w') : LentR B w' v X := by
  obtain ⟨b, S, rfl, h1, hA, h2⟩ := h
  exact ⟨b, S, rfl, h1, below_arr hb hA.lt hA, h2⟩
theorem LentR.mono {B B' : Nat} {w : World} {v : Value} {X : List Int} (h : LentR B w v X) (hb : B' ≤ B) : LentR B' w v X := by
  obtain ⟨b, S, rfl, h1, h2⟩ := h
  exact ⟨b, S, rfl, by omega, h2⟩

set_option maxHeartbeats 1000000 in
theorem Lent_any (X : List Int) (v : Value) (w : World) (hX : Sl .u32 w v X) (hl : X.length * 4 ≤ 140737488351232) :
    Calls Try.prog 12 #[v] w fun e w' => ∃ r, e = .returned r ∧ LentR w.heap.size w' r X ∧ Below w.heap.size w w' := by
  obtain ⟨a, c, hv, hc⟩ : ∃ a c, v = .slice a X.length c ∧ X.length ≤ c := by obtain ⟨a, c, h, h', _⟩ := hX; exact ⟨a, c, h, h'⟩
  subst hv
  go_enter Try.func12, Try.ntmps12
  go_wp2_with (first
    | (at_builtin; replace hr1 := hr1; refine wpList_ap rfl (.tmp 6) (.tmp 7) 25 25 rfl .u32 40 4 Try.und32 Try.info32 (by decide) w.heap.size _ X rfl (hr1.alloc _) _ [57005, 48879] rfl (src_sl Try.und32 (Arr.sl (S := [57005, 48879]) (arr_new rfl rfl))) (by simp; omega) (by have := hB1.size; simp at this ⊢; omega) ?_; intro v2 w2 hr2 hg2; have hB2 := hg2.below (hr1.alloc _) (by have := hB1.size; simp at this ⊢; omega); obtain ⟨b2, S2, hv2, hb2, hA2, hl2, ht2, hm2⟩ := hr2.open (X.length + 2) (by simp) (by omega); subst hv2; clear hr2 hg2)
    | (at_builtin; refine wpList_ap rfl (.tmp 4) (.tmp 5) 25 25 rfl .u32 40 4 Try.und32 Try.info32 (by decide) w.heap.size _ [] rfl (Row.arr (S := []) (arr_new rfl rfl) (Nat.le_refl _) (by decide)) _ X rfl (src_sl Try.und32 (al1 hX)) (by simp; omega) (by simp) ?_; intro v1 w1 hr1 hg1; have hB1 := hg1.below (Row.arr (B := w.heap.size) (S := []) (arr_new rfl rfl) (Nat.le_refl _) (by decide)) (by simp)))
  go_ret
  have hb1 : Below w.heap.size w w1 := (al (Below.refl _ _)).trans hB1
  have hb' : Below w.heap.size w w2 := (al hb1).trans hB2
  exact ⟨_, rfl, ⟨b2, S2, rfl, hb2, hA2, by simpa using ht2, hl2, hm2⟩, hb'⟩

set_option maxHeartbeats 1000000 in
theorem Kept_any {B : Nat} {w : World} (v u : Value) (X : List Int) (hv : LentR B w v X) (hu : Sl .u32 w u X) (hl : X.length ≤ 35184372088832) :
    Calls Try.prog 16 #[v, u] w fun e w' => e = .returned (.bool true) ∧ Below w.heap.size w w' := by
  have hs := hv.sl
  obtain ⟨b, S, rfl, hb, hA, ht, hle, hm⟩ := hv
  obtain ⟨a', c', hu', _⟩ := hu.len
  subst hu'
  have e1 : S.getD X.length 0 = 57005 := by
    have : (S.take (X.length + 2)).getD X.length 0 = S.getD X.length 0 := by simp [List.getD]
    rw [← this, ht]; simp [List.getD]
  have e2 : S.getD (X.length + 1) 0 = 48879 := by
    have : (S.take (X.length + 2)).getD (X.length + 1) 0 = S.getD (X.length + 1) 0 := by simp [List.getD]
    rw [← this, ht]; simp [List.getD]
  have hc1 := hA.cell X.length (by omega)
  have hc2 := hA.cell (X.length + 1) (by omega)
  rw [e1] at hc1; rw [e2] at hc2
  clear e1 e2 ht
  have hmm : (S.length : Int) ≤ 9223372036854775807 := by unfold maxLen at hm; omega
  have hlt := hA.lt
  go_enter Try.func16, Try.ntmps16
  go_wp2_with (first
    | (go_at_call 9; refine (Same_any _ _ X hs hu (by omega)).mono ?_; rintro e w' ⟨rfl, hB⟩; rw [← hB.cell (p := ⟨b, X.length, none⟩) hlt] at hc1; rw [← hB.cell (p := ⟨b, X.length + 1, none⟩) hlt] at hc2))
  go_ret
  exact ⟨rfl, hB⟩
end Go.Proofs.Ytedoghjefdkmaaa.Nt
/-
  Ecdsa: the law EcdsaBuilds.
-/
namespace Go.Proofs.Ytedoghjefdkmaaa
open Go.RowKit
theorem lim_len_val {A : List Int} (uA : U32s A) {k : Nat} (lA : A.length ≤ k) : (lim (val A).toNat).length ≤ k := by
  have h0 := val_nonneg uA
  have h1 := val_lt uA
  have hp : (4294967296 : Int) ^ A.length ≤ 4294967296 ^ k := Nt.pow_mono lA
  exact lim_len_le (by rw [Int.toNat_of_nonneg h0]; omega)
set_option maxRecDepth 20000 in
set_option maxHeartbeats 4000000 in
theorem EcdsaBuilds_any {w : World} (a : Option Addr) (n c : Nat) (A : List Int) (a' : Option Addr) (n' c' : Nat) (B : List Int) (hA : Sl .u32 w (.slice a n c) A) (uA : U32s A) (lA : A.length = n) (hB : Sl .u32 w (.slice a' n' c') B) (uB : U32s B) (lB : B.length = n') :
    Calls Try.prog 4 #[.slice a n c, .slice a' n' c'] w fun e w' => e = .returned (.bool true) ∧ Below w.heap.size w w' := by
  have HX : Hid (Sl .u32 w (.slice a n c) A ∧ Sl .u32 w (.slice a' n' c') B ∧ U32s A ∧ U32s B ∧ A.length = n ∧ B.length = n') := ⟨hA, hB, uA, uB, lA, lB⟩
  clear hA uA lA hB uB lB
  by_cases h1 : n ≤ 600
  · have g1 : decide ((600 : Int) < (n : Int)) = false := by simp; omega
    by_cases h2 : n' ≤ 600
    · have g2 : decide ((600 : Int) < (n' : Int)) = false := by simp; omega
      have HN : Hid (A.length ≤ 600 ∧ B.length ≤ 600) := ⟨by have := HX.out.2.2.2.2.1; omega, by have := HX.out.2.2.2.2.2; omega⟩
      go_enter Try.func4, Try.ntmps4
      go_wp2_with fail
      refine (Nt.Lent_any A _ w HX.out.1 (by have := HN.out.1; omega)).mono ?_
      rintro e w1 ⟨v1, rfl, hl1, hb1⟩
      obtain ⟨a1, n1, c1, hv1⟩ : ∃ a n c, v1 = .slice a n c := by obtain ⟨b, S, h, _⟩ := hl1; exact ⟨_, _, _, h⟩
      subst hv1
      have H1 : Hid (Nt.LentR w.heap.size w1 (.slice a1 n1 c1) A ∧ Below w.heap.size w w1) := ⟨hl1, hb1⟩
      clear hl1 hb1
      go_wp2_with fail
      refine (Nt.Lent_any B _ w1 (below_sl H1.out.2 HX.out.2.1) (by have := HN.out.2; omega)).mono ?_
      rintro e w2 ⟨v2, rfl, hl2, hb2⟩
      obtain ⟨a2, n2, c2, hv2⟩ : ∃ a n c, v2 = .slice a n c := by obtain ⟨b, S, h, _⟩ := hl2; exact ⟨_, _, _, h⟩
      subst hv2
      have H2 : Hid (Nt.LentR w.heap.size w2 (.slice a1 n1 c1) A ∧ Nt.LentR w1.heap.size w2 (.slice a2 n2 c2) B ∧ Below w.heap.size w w2) := ⟨Nt.LentR.below H1.out.1 hb2, hl2, below_via H1.out.2 hb2 (Nat.le_refl _)⟩
      clear hl2 hb2
      go_wp2_with fail
      refine (Build_any _ _ A B (Nt.LentR.sl H2.out.1) (Nt.LentR.sl H2.out.2.1) HX.out.2.2.1 HX.out.2.2.2.1 HN.out.1 HN.out.2).mono ?_
      rintro e w3 ⟨r3, rfl, hr3, hb3⟩
      obtain ⟨xa, xn, xc, rfl⟩ := sl_is hr3
      have H3 : Hid (Sl .u8 w3 (.slice xa xn xc) (if layE A B = 0 then sigB A B else []) ∧ Below w2.heap.size w2 w3) := ⟨hr3, hb3⟩
      clear hr3 hb3
      go_wp2_with fail
      refine (RBuild_any _ _ A B (below_sl (below_via H2.out.2.2 H3.out.2 (Nat.le_refl _)) HX.out.1) (below_sl (below_via H2.out.2.2 H3.out.2 (Nat.le_refl _)) HX.out.2.1) HX.out.2.2.1 HX.out.2.2.2.1 HN.out.1 HN.out.2).mono ?_
      rintro e w4 ⟨r4, rfl, hr4, hb4⟩
      obtain ⟨ya, yn, yc, rfl⟩ := sl_is hr4
      have H4 : Hid (Sl .u8 w4 (.slice xa xn xc) (if layE A B = 0 then sigB A B else []) ∧ Sl .u8 w4 (.slice ya yn yc) (if layE A B = 0 then sigB A B else []) ∧ Below w2.heap.size w2 w4) := ⟨below_sl hb4 H3.out.1, hr4, below_via H3.out.2 hb4 (Nat.le_refl _)⟩
      clear hr4 hb4
      obtain ⟨le, hle⟩ : ∃ l, layE A B = l := ⟨_, rfl⟩
      have HLE : Hid (layE A B = le) := hle
      rw [hle] at H4
      rw [hle]
      have hsz : (if le = 0 then sigB A B else []).length ≤ 4200 := by
        split
        · rename_i h0
          have h3 := HLE.out
          rw [h0] at h3
          unfold layE at h3
          split at h3
          · rename_i h4; exact (sig_there HX.out.2.2.1 HX.out.2.2.2.1 h4.1 h4.2).2.2
          · cases h3
        · simp
      have HSZ : Hid ((if le = 0 then sigB A B else []).length ≤ 4200) := hsz
      clear hle hsz
      go_wp2_with fail
      refine (SameBytes_any _ _ _ H4.out.1 H4.out.2.1 (by have := HSZ.out; omega)).mono ?_
      rintro e w5 ⟨rfl, hb5⟩
      have H5 : Hid (Sl .u8 w5 (.slice xa xn xc) (if le = 0 then sigB A B else []) ∧ Below w2.heap.size w2 w5) := ⟨below_sl hb5 H4.out.1, below_via H4.out.2.2 hb5 (Nat.le_refl _)⟩
      clear hb5
      go_wp2_with fail
      refine (num10_any _ _).mono ?_
      rintro e w6 ⟨rfl, rfl⟩
      go_wp2_with fail
      refine (Nt.Kept_any _ _ A (Nt.LentR.below H2.out.1 H5.out.2) (below_sl (below_via H2.out.2.2 H5.out.2 (Nat.le_refl _)) HX.out.1) (by have := HN.out.1; omega)).mono ?_
      rintro e w6 ⟨rfl, hb6⟩
      have H6 : Hid (Sl .u8 w6 (.slice xa xn xc) (if le = 0 then sigB A B else []) ∧ Below w2.heap.size w2 w6) := ⟨below_sl hb6 H5.out.1, below_via H5.out.2 hb6 (Nat.le_refl _)⟩
      clear hb6
      go_wp2_with fail
      refine (Nt.Kept_any _ _ B (Nt.LentR.below H2.out.2.1 H6.out.2) (below_sl (below_via H2.out.2.2 H6.out.2 (Nat.le_refl _)) HX.out.2.1) (by have := HN.out.2; omega)).mono ?_
      rintro e w7 ⟨rfl, hb7⟩
      have H7 : Hid (Sl .u8 w7 (.slice xa xn xc) (if le = 0 then sigB A B else []) ∧ Below w.heap.size w w7) := ⟨below_sl hb7 H6.out.1, below_via (below_via H2.out.2.2 H6.out.2 (Nat.le_refl _)) hb7 (Nat.le_refl _)⟩
      clear hb7
      by_cases h0 : le = 0
      · subst h0
        have HT : Hid (ecS (sigB A B) = (lim (val A).toNat, lim (val B).toNat, 0) ∧ U8s (sigB A B) ∧ (sigB A B).length ≤ 4200) := by
          have h3 := HLE.out
          unfold layE at h3
          split at h3
          · rename_i h4; exact sig_there HX.out.2.2.1 HX.out.2.2.2.1 h4.1 h4.2
          · cases h3
        rw [if_pos rfl] at H7
        go_wp2_with fail
        refine (Parse_any _ (sigB A B) H7.out.1 HT.out.2.1 (by have := HT.out.2.2; omega)).mono ?_
        rintro e w8 ⟨r8, s8, rfl, hr8, hs8, hb8⟩
        rw [HT.out.1] at hr8 hs8
        rw [HT.out.1]
        simp only [] at hr8 hs8 ⊢
        obtain ⟨pa, pn, pc, rfl⟩ := sl_is hr8
        obtain ⟨qa, qn, qc, rfl⟩ := sl_is hs8
        have H8 : Hid (Sl .u32 w8 (.slice pa pn pc) (lim (val A).toNat) ∧ Sl .u32 w8 (.slice qa qn qc) (lim (val B).toNat) ∧ Below w.heap.size w w8) := ⟨hr8, hs8, below_via H7.out.2 hb8 (Nat.le_refl _)⟩
        clear hr8 hs8 hb8
        go_wp2_with fail
        refine (num10_any _ _).mono ?_
        rintro e w9 ⟨rfl, rfl⟩
        go_wp2_with fail
        refine (RTrim_any _ A (below_sl H8.out.2.2 HX.out.1) HX.out.2.2.1 (by have := HN.out.1; omega) (val A) rfl).mono ?_
        rintro e w9 ⟨t9, rfl, ht9, hb9⟩
        obtain ⟨ta, tn, tc, rfl⟩ := sl_is ht9
        have H9 : Hid (Sl .u32 w9 (.slice pa pn pc) (lim (val A).toNat) ∧ Sl .u32 w9 (.slice qa qn qc) (lim (val B).toNat) ∧ Sl .u32 w9 (.slice ta tn tc) (lim (val A).toNat) ∧ Below w.heap.size w w9) := ⟨below_sl hb9 H8.out.1, below_sl hb9 H8.out.2.1, ht9, below_via H8.out.2.2 hb9 (Nat.le_refl _)⟩
        clear ht9 hb9
        go_wp2_with fail
        refine (NSame_any _ _ _ H9.out.1 H9.out.2.2.1 (by have := lim_len_val HX.out.2.2.1 HN.out.1; omega)).mono ?_
        rintro e w10 ⟨rfl, hb10⟩
        have H10 : Hid (Sl .u32 w10 (.slice qa qn qc) (lim (val B).toNat) ∧ Below w.heap.size w w10) := ⟨below_sl hb10 H9.out.2.1, below_via H9.out.2.2.2 hb10 (Nat.le_refl _)⟩
        clear hb10
        go_wp2_with fail
        refine (RTrim_any _ B (below_sl H10.out.2 HX.out.2.1) HX.out.2.2.2.1 (by have := HN.out.2; omega) (val B) rfl).mono ?_
        rintro e w11 ⟨t11, rfl, ht11, hb11⟩
        obtain ⟨ua, un, uc, rfl⟩ := sl_is ht11
        have H11 : Hid (Sl .u32 w11 (.slice qa qn qc) (lim (val B).toNat) ∧ Sl .u32 w11 (.slice ua un uc) (lim (val B).toNat) ∧ Below w.heap.size w w11) := ⟨below_sl hb11 H10.out.1, ht11, below_via H10.out.2 hb11 (Nat.le_refl _)⟩
        clear ht11 hb11
        go_wp2_with fail
        refine (NSame_any _ _ _ H11.out.1 H11.out.2.1 (by have := lim_len_val HX.out.2.2.2.1 HN.out.2; omega)).mono ?_
        rintro e w12 ⟨rfl, hb12⟩
        have H12 : Hid (Below w.heap.size w w12) := below_via H11.out.2.2 hb12 (Nat.le_refl _)
        clear hb12
        go_wp2_with fail
        refine live10_any.mono ?_
        rintro e w13 ⟨rfl, hb13⟩
        have H13 : Hid (Below w.heap.size w w13) := below_via H12.out hb13 (Nat.le_refl _)
        clear hb13
        go_wp2
        go_ret
        exact ⟨rfl, H13.out⟩
      · have hq : (le != 0) = true := by simpa using h0
        go_wp2_with fail
        refine live10_any.mono ?_
        rintro e w13 ⟨rfl, hb13⟩
        have H13 : Hid (Below w.heap.size w w13) := below_via H7.out.2 hb13 (Nat.le_refl _)
        clear hb13
        go_wp2
        go_ret
        exact ⟨rfl, H13.out⟩
    · have g2 : decide ((600 : Int) < (n' : Int)) = true := by simp; omega
      go_enter Try.func4, Try.ntmps4
      go_wp2_with fail
      refine live10_any.mono ?_
      rintro e w13 ⟨rfl, hb13⟩
      have H13 : Hid (Below w.heap.size w w13) := hb13
      clear hb13
      go_wp2
      go_ret
      exact ⟨rfl, H13.out⟩
  · have g1 : decide ((600 : Int) < (n : Int)) = true := by simp; omega
    go_enter Try.func4, Try.ntmps4
    go_wp2_with fail
    refine live10_any.mono ?_
    rintro e w13 ⟨rfl, hb13⟩
    have H13 : Hid (Below w.heap.size w w13) := hb13
    clear hb13
    go_wp2
    go_ret
    exact ⟨rfl, H13.out⟩
end Go.Proofs.Ytedoghjefdkmaaa
