/-
  Der: the reference's Put.
-/
import Derived.Test.YtakmdbcmkhlodaaDoorE26
namespace Go.Proofs.YtakmdbcmkhlodaaDoor
open Go.RowKit
theorem RHead_any {w : World} (c : Int) (cons : Bool) (t k n l : Nat) (h0 : 0 ≤ c) (h3 : c ≤ 3) (hk : t / 128 ^ k < 128) (hk1 : ∀ j, j < k → 128 ≤ t / 128 ^ j) (hk8 : k ≤ 8) (ht : t ≤ 268435455) (hl : n / 256 ^ l = 0) (hl1 : ∀ j, j < l → 0 < n / 256 ^ j) (hl8 : l ≤ 7) (hn : n ≤ 16777216) :
    Calls Tryd.prog 20 #[.agg (el c t cons), .int .i64 n] w fun e w' => ∃ r, e = .returned r ∧ Row .u8 5 w.heap.size w' r (headB c cons t k ++ lenB n l) ∧ Below w.heap.size w w' := by
  by_cases h : t < 31
  · exact RHead_short c cons t k n l h0 h3 hk hk1 ht hl hl1 hl8 hn h
  · exact RHead_long c cons t k n l h0 h3 hk hk1 hk8 ht hl hl1 hl8 hn h
set_option maxRecDepth 20000 in
set_option maxHeartbeats 4000000 in
theorem RPut_any {w : World} (c : Int) (t k l : Nat) (cons : Bool) (a : Option Addr) (n cp N : Nat) (vs : List Value) (ms : List (List Int)) (hL : Lists w a n cp vs ms) (hN : ms.flatten.length = N) (hN1 : N ≤ 16777216) (hn : n ≤ 1152921504606846976) (h : headOk c t = true)
    (hk : t / 128 ^ k < 128) (hk1 : ∀ j, j < k → 128 ≤ t / 128 ^ j) (hk8 : k ≤ 8) (hl : N / 256 ^ l = 0) (hl1 : ∀ j, j < l → 0 < N / 256 ^ j) (hl8 : l ≤ 7) :
    Calls Tryd.prog 7 #[.int .i64 c, .int .i64 t, .bool cons, .slice a n cp] w fun e w' => ∃ r, e = .returned (.tuple #[r, .int .i64 0]) ∧ Row .u8 5 w.heap.size w' r (headB c cons t k ++ lenB N l ++ ms.flatten) ∧ Below w.heap.size w w' := by
  have hh : 0 ≤ c ∧ c ≤ 3 ∧ t ≤ 268435455 ∧ ¬ (c = 0 ∧ t = 0) := by unfold headOk at h; simp at h; omega
  have HK : Hid ((t / 128 ^ k < 128 ∧ ∀ j, j < k → 128 ≤ t / 128 ^ j) ∧ (N / 256 ^ l = 0 ∧ ∀ j, j < l → 0 < N / 256 ^ j) ∧ 0 ≤ c ∧ c ≤ 3 ∧ t ≤ 268435455) := ⟨⟨hk, hk1⟩, ⟨hl, hl1⟩, hh.1, hh.2.1, hh.2.2.1⟩
  have HL : Hid (Lists w a n cp vs ms ∧ ms.flatten.length = N) := ⟨hL, hN⟩
  clear h hk hk1 hl hl1 hL hN
  have n1 : (n : Int) ≤ 1152921504606846976 := by omega
  have d1 : decide (c < 0) = false := by simp; omega
  have d2 : decide (3 < c) = false := by simp; omega
  have d3 : decide ((t : Int) < 0) = false := by simp
  have d4 : decide ((268435455 : Int) < (t : Int)) = false := by simp; omega
  have d5 : (c == 0) = false ∨ ((c == 0) = true ∧ ((t : Int) == 0) = false) := by
    by_cases hc : c = 0
    · right; exact ⟨by simpa using hc, by simp; omega⟩
    · left; simpa using hc
  rcases d5 with d5 | ⟨d5, d6⟩
  all_goals
    go_enter Tryd.func7, Tryd.ntmps7
    go_wp2_with fail
    go_loopw [10, 11] (fun bv iv wr => ∃ (j : Nat) (b0 : Value), b0 = bv ∧ iv = .int .i64 j ∧ j ≤ n ∧ Row .u8 5 w.heap.size wr b0 (ms.take j).flatten ∧ Below w.heap.size w wr) (fun _ iv _ => n - (intOf iv).toNat)
    case atStart => exact ⟨0, _, rfl, rfl, by omega, Row.nil _ _ _ _, Below.refl _ _⟩
    case round =>
      obtain ⟨j, b0, rfl, rfl, hj, hr6, hb6⟩ := hrel
      obtain ⟨P, hP⟩ : ∃ P, (ms.take j).flatten = P := ⟨_, rfl⟩
      have HP : Hid ((ms.take j).flatten = P) := hP
      have hPN : P.length ≤ N := by rw [← hP]; have := flatten_take_le ms j; have := HL.out.2; omega
      rw [hP] at hr6
      obtain ⟨a5, c5, hv5⟩ := hr6.ne
      obtain ⟨p, hp⟩ : ∃ p, P.length = p := ⟨_, rfl⟩
      rw [hp] at hv5 hPN
      subst hv5
      have HPl : Hid (P.length = p) := hp
      have H6 : Hid (Row .u8 5 w.heap.size wr (.slice a5 p c5) P ∧ Below w.heap.size w wr) := ⟨hr6, hb6⟩
      clear hr6 hP hp
      by_cases hlt : j < n
      · have l1 : (j : Int) < (n : Int) := by omega
        obtain ⟨b, off, ai, ni, ci, rfl, hb, hvi, hcell, hsl, hu, hni⟩ := HL.out.1.at j hlt
        have hcr : wr.cell? ⟨b, off + j, none⟩ = some (.slice ai ni ci) := (hb6.cell (p := ⟨b, off + j, none⟩) hb).trans hcell
        have HI : Hid ((ms.take (j + 1)).flatten = P ++ ms.getD j [] ∧ Sl .u8 wr (.slice ai ni ci) (ms.getD j []) ∧ p + (ms.getD j []).length ≤ N ∧ (ms.getD j []).length = ni) := by
          have h0 : (ms.take (j + 1)).flatten = P ++ ms.getD j [] := by rw [flatten_take (by have := HL.out.1.len; omega), HP.out]
          refine ⟨h0, below_sl hb6 hsl, ?_, hni⟩
          have h1 := flatten_take_le ms (j + 1)
          rw [h0, List.length_append, HPl.out, HL.out.2] at h1
          exact h1
        have hfit : (ni : Int) ≤ 16777216 - (p : Int) := by have := HI.out.2.2; omega
        have hp0 : (p : Int) ≤ 16777216 := by omega
        clear hvi hsl hu hni hcell hb6
        go_wp2_with (at_builtin; refine wpList_ap rfl (.tmp 49) (.tmp 53) 23 23 rfl .u8 5 1 Tryd.und8 Tryd.info8 (by decide) w.heap.size _ P rfl H6.out.1 _ (ms.getD j []) rfl (src_sl Tryd.und8 HI.out.2.1) (by have := HI.out.2.2; have := HPl.out; omega) H6.out.2.size ?_; intro v7 w7 hr7 hg7)
        have hb7 : Below w.heap.size w w7 := H6.out.2.trans (hg7.below H6.out.1 H6.out.2.size)
        have H7 : Hid (Row .u8 5 w.heap.size w7 v7 (ms.take (j + 1)).flatten ∧ Below w.heap.size w w7) := ⟨by rw [HI.out.1]; exact hr7, hb7⟩
        clear hr7 hg7 hb7
        go_roundw
        case rel => exact ⟨j + 1, _, rfl, by go_num, by omega, H7.out.1, H7.out.2⟩
        case measure => simp [intOf]; omega
      · obtain rfl : j = n := by omega
        have l1 : ¬ (j : Int) < (j : Int) := by omega
        have HE : Hid (P = ms.flatten) := by show _ = _; rw [← HP.out, List.take_of_length_le (by have := HL.out.1.len; omega)]
        have hpN : p = N := by rw [← HPl.out, HE.out, HL.out.2]
        subst hpN
        clear hb6
        go_wp2_with fail
        refine (RHead_any c cons t k p l HK.out.2.2.1 HK.out.2.2.2.1 HK.out.1.1 HK.out.1.2 hk8 HK.out.2.2.2.2 HK.out.2.1.1 HK.out.2.1.2 hl8 hN1).mono ?_
        rintro e w8 ⟨r8, rfl, hr8, hb8⟩
        have H8 : Hid (Row .u8 5 wr.heap.size w8 r8 (headB c cons t k ++ lenB p l) ∧ Sl .u8 w8 (.slice a5 p c5) P ∧ Below w.heap.size w w8 ∧ wr.heap.size ≤ w8.heap.size) := ⟨hr8, below_sl hb8 H6.out.1.sl, below_via H6.out.2 hb8 (Nat.le_refl _), hb8.size⟩
        have hFl : (headB c cons t k ++ lenB p l).length ≤ 20 := by unfold headB lenB sev; split <;> split <;> simp [tp_len, tb_len] <;> omega
        clear hr8 hb8
        go_wp2_with (at_builtin; refine wpList_ap rfl (.tmp 61) (.tmp 62) 23 23 rfl .u8 5 1 Tryd.und8 Tryd.info8 (by decide) wr.heap.size _ (headB c cons t k ++ lenB p l) rfl H8.out.1 _ P rfl (src_sl Tryd.und8 H8.out.2.1) (by have := HPl.out; omega) H8.out.2.2.2 ?_; intro v9 w9 hr9 hg9)
        have hb9 : Below w.heap.size w w9 := H8.out.2.2.1.trans ((hg9.below H8.out.1 H8.out.2.2.2).mono H6.out.2.size)
        go_ret2
        refine ⟨_, rfl, ?_, hb9⟩
        rw [← HE.out]
        exact hr9.mono H6.out.2.size
end Go.Proofs.YtakmdbcmkhlodaaDoor
