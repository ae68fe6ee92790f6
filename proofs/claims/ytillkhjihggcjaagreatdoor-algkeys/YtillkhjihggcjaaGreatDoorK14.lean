/-
  Der: rows of bits.
-/
import Derived.Lib.Tables
import Derived.Deep.RegionHeld3
import Derived.LoopN
import Derived.Test.YtillkhjihggcjaaGreatDoorK13
namespace Go.Proofs.YtillkhjihggcjaaGreatDoor
open Go.RowKit
/-- Are these bytes a row of bits? -/
def bitsOk (X : List Int) : Bool :=
  if X.length < 2 then decide (X.length = 1) && decide (X.getD 0 0 = 0) else decide (X.getD 0 0 ≤ 7) && decide (X.getD (X.length - 1) 0 % 2 ^ (X.getD 0 0).toNat = 0)
theorem and_1 (x : Int) (h : U8 x) : bits .and .u8 x 1 = x % 2 := by obtain ⟨h0, h1⟩ := h; go_bits2
theorem and_3 (x : Int) (h : U8 x) : bits .and .u8 x 3 = x % 4 := by obtain ⟨h0, h1⟩ := h; go_bits2
theorem and_7 (x : Int) (h : U8 x) : bits .and .u8 x 7 = x % 8 := by obtain ⟨h0, h1⟩ := h; go_bits2
theorem and_15 (x : Int) (h : U8 x) : bits .and .u8 x 15 = x % 16 := by obtain ⟨h0, h1⟩ := h; go_bits2
theorem and_31 (x : Int) (h : U8 x) : bits .and .u8 x 31 = x % 32 := by obtain ⟨h0, h1⟩ := h; go_bits2
theorem and_63 (x : Int) (h : U8 x) : bits .and .u8 x 63 = x % 64 := by obtain ⟨h0, h1⟩ := h; go_bits2
theorem and_127 (x : Int) (h : U8 x) : bits .and .u8 x 127 = x % 128 := by obtain ⟨h0, h1⟩ := h; go_bits2
theorem and_0 (x : Int) : bits .and .u8 x 0 = 0 := by unfold bits; simp; rfl
set_option maxHeartbeats 4000000 in
theorem isBits_any {w : World} (v : Value) (X : List Int) (hX : Sl .u8 w v X) (uX : U8s X) (hl : X.length ≤ 16384) :
    Calls Tryz.prog 97 #[v] w fun e w' => e = .returned (.bool (bitsOk X)) ∧ w = w' := by
  obtain ⟨a, c, rfl, hc, hx⟩ := hX
  obtain ⟨n, hn⟩ : ∃ n, X.length = n := ⟨_, rfl⟩
  obtain ⟨B, hB⟩ : ∃ B, bitsOk X = B := ⟨_, rfl⟩
  rw [hB]
  have hBd := hB
  unfold bitsOk at hBd
  rw [hn] at hBd hc hl
  simp only [hn]
  by_cases h0 : n = 0
  · subst h0
    rw [if_pos (by omega)] at hBd
    simp at hBd
    subst hBd
    clear hB hx
    go_enter Tryz.func97, Tryz.ntmps97
    go_wp2
    go_ret
    exact ⟨rfl, rfl⟩
  · rcases hx with hx | ⟨b, off, rfl, hb, hr⟩
    · rw [hx] at hn; simp at hn; omega
    · obtain ⟨s, hs⟩ : ∃ s, X.getD 0 0 = s := ⟨_, rfl⟩
      obtain ⟨s0, s1⟩ : U8 s := hs ▸ uX.at 0
      have c0 : w.cell? ⟨b, off, none⟩ = some (.int .u8 s) := by have := hr 0 (by omega); rw [hs] at this; exact this
      rw [hs] at hBd
      by_cases h1 : n = 1
      · subst h1
        rw [if_pos (by omega)] at hBd
        simp only [decide_true, Bool.true_and] at hBd
        clear hB hr uX hn hs
        go_enter Tryz.func97, Tryz.ntmps97
        go_wp2
        go_ret
        refine ⟨?_, rfl⟩
        rw [← hBd]; rfl
      · obtain ⟨x, hxx⟩ : ∃ x, X.getD (n - 1) 0 = x := ⟨_, rfl⟩
        have ux : U8 x := hxx ▸ uX.at (n - 1)
        have c1 : w.cell? ⟨b, off + (n - 1), none⟩ = some (.int .u8 x) := by have := hr (n - 1) (by omega); rw [hxx] at this; exact this
        rw [if_neg (by omega), hxx] at hBd
        have hnI : (2 : Int) ≤ (n : Int) := by omega
        clear hB hr uX hn hs hxx h0 h1
        by_cases h7 : s ≤ 7
        · have hs8 : s = 0 ∨ s = 1 ∨ s = 2 ∨ s = 3 ∨ s = 4 ∨ s = 5 ∨ s = 6 ∨ s = 7 := by omega
          have a0 := and_0 x
          have a1 := and_1 x ux
          have a3 := and_3 x ux
          have a7 := and_7 x ux
          have a15 := and_15 x ux
          have a31 := and_31 x ux
          have a63 := and_63 x ux
          have a127 := and_127 x ux
          rcases hs8 with rfl | rfl | rfl | rfl | rfl | rfl | rfl | rfl
          all_goals go_enter Tryz.func97, Tryz.ntmps97
          all_goals go_wp2
          all_goals go_ret
          · refine ⟨?_, rfl⟩
            rw [← hBd]
            show Ending.returned (.bool true) = _
            simp
          all_goals refine ⟨?_, rfl⟩
          all_goals rw [← hBd]
          all_goals rfl
        · have : B = false := by rw [← hBd]; simp; omega
          subst this
          clear hBd
          go_enter Tryz.func97, Tryz.ntmps97
          go_wp2
          go_ret
          exact ⟨rfl, rfl⟩
theorem wrapI (z : Int) (h0 : 0 ≤ z) (h1 : z < 9223372036854775808) : IntKind.i64.wrap z = z := by rw [IntKind.wrap_i64]; omega
/-- What Bits answers. -/
def BitsAns (B : Nat) (w : World) (X : List Int) (e : Ending) : Prop :=
  (bitsOk X = true ∧ ∃ r, e = .returned (.tuple #[r, .int .i64 (X.getD 0 0), .int .i64 0]) ∧ Row .u8 5 B w r (X.drop 1)) ∨ (bitsOk X = false ∧ e = .returned (.tuple #[.slice none 0 0, .int .i64 0, .int .i64 6]))
theorem bitsOk_pos {X : List Int} (h : bitsOk X = true) : 0 < X.length := by
  unfold bitsOk at h
  by_cases h0 : X.length = 0
  · rw [h0] at h; simp at h
  · omega
theorem sl_tail {w : World} {n c : Nat} {X : List Int} {b off : Nat} (hb : b < w.heap.size) (hr : Rd .u8 w b off X) (hn : X.length = n) (h0 : 0 < n) (hc : n ≤ c) : Sl .u8 w (.slice (if c = 1 then some ⟨b, off, none⟩ else some ⟨b, off + 1, none⟩) (n - 1) (c - 1)) (X.drop 1) := by
  have hl : (X.drop 1).length = n - 1 := by rw [List.length_drop, hn]
  refine ⟨_, _, by rw [hl], by omega, ?_⟩
  by_cases h : c = 1
  · exact .inl (List.eq_nil_of_length_eq_zero (by omega))
  · rw [if_neg h]
    refine .inr ⟨b, off + 1, rfl, hb, fun k hk => ?_⟩
    have := hr (1 + k) (by omega)
    rw [Nat.add_assoc, this, List.getD_eq_getElem?_getD, List.getD_eq_getElem?_getD, List.getElem?_drop]
set_option maxRecDepth 20000 in
set_option maxHeartbeats 2000000 in
theorem Bits_any {w : World} (v : Value) (X : List Int) (hX : Sl .u8 w v X) (uX : U8s X) (hl : X.length ≤ 16384) :
    Calls Tryz.prog 76 #[v] w fun e w' => BitsAns w.heap.size w' X e ∧ Below w.heap.size w w' := by
  have HC : Hid (∀ w', w = w' → Calls Tryz.prog 97 #[v] w' fun e w'' => e = .returned (.bool (bitsOk X)) ∧ w' = w'') := fun w' h => by subst h; exact isBits_any v X hX uX hl
  by_cases hk : bitsOk X = true
  · obtain ⟨a, c, rfl, hc, hx⟩ := hX
    have hp := bitsOk_pos hk
    obtain ⟨n, hn⟩ : ∃ n, X.length = n := ⟨_, rfl⟩
    rcases hx with hx | ⟨b, off, rfl, hb, hr⟩
    · rw [hx] at hp; simp at hp
    · rw [hn] at hc hp hl
      simp only [hn] at HC ⊢
      rw [hk] at HC
      obtain ⟨s, hs⟩ : ∃ s, X.getD 0 0 = s := ⟨_, rfl⟩
      have c0 : w.cell? ⟨b, off, none⟩ = some (.int .u8 s) := by have := hr 0 (by omega); rw [hs] at this; exact this
      obtain ⟨s0, s1⟩ : U8 s := hs ▸ uX.at 0
      obtain ⟨ba, hba⟩ : ∃ ba : Option Addr, (if c = 1 then some ⟨b, off, none⟩ else some ⟨b, off + 1, none⟩) = ba := ⟨_, rfl⟩
      have HS : Hid (∀ W : World, Rd .u8 W b off X → b < W.heap.size → Sl .u8 W (.slice ba (n - 1) (c - 1)) (X.drop 1)) := fun W h hb' => by
        rw [← hba]; exact sl_tail hb' h hn hp hc
      have HX : Hid (bitsOk X = true ∧ X.getD 0 0 = s ∧ Rd .u8 w b off X ∧ (X.drop 1).length ≤ 16384) := ⟨hk, hs, hr, by rw [List.length_drop]; omega⟩
      have hnI : (1 : Int) ≤ (n : Int) := by omega
      have hcI : (1 : Int) ≤ (c : Int) := by omega
      have hws : IntKind.i64.wrap s = s := wrapI s (by omega) (by omega)
      clear hk hs hr hn uX
      go_enter Tryz.func76, Tryz.ntmps76
      go_upto_region 3 with (go_at_call 97; refine (HC.out _ rfl).mono ?_; rintro e w' ⟨rfl, rfl⟩)
      go_region_held3 (fun w' => w'.cell? ⟨b, off, none⟩ = some (.int .u8 s)) (first | go_keep | (rw [hb5.cell (p := ⟨b, off, none⟩) hb]; go_keep))
        ((go_at_call 98; refine (copied_any _ (X.drop 1) (HS.out _ (by exact HX.out.2.2.1) (by exact hb)) (by have := HX.out.2.2.2; omega)).mono ?_; rintro e w5 ⟨r5, rfl, hr5, hb5⟩))
      have H5 : Hid (Row .u8 5 w.heap.size w5 r5 (X.drop 1) ∧ Below w.heap.size w w5) := ⟨hr5, (below_drewN 1 (Below.refl _ _)).trans hb5⟩
      clear hr5 hb5
      go_wp2
      go_ret3
      exact ⟨.inl ⟨HX.out.1, _, by rw [HX.out.2.1]; rfl, H5.out.1⟩, H5.out.2⟩
  · replace hk : bitsOk X = false := by simpa using hk
    rw [hk] at HC
    obtain ⟨a, n, c, rfl⟩ : ∃ a n c, v = .slice a n c := by obtain ⟨a, c, h, _⟩ := hX; exact ⟨a, _, c, h⟩
    have HX : Hid (bitsOk X = false) := hk
    clear hk hX uX
    go_enter Tryz.func76, Tryz.ntmps76
    go_wp2_with (go_at_call 97; refine (HC.out _ rfl).mono ?_; rintro e w' ⟨rfl, rfl⟩)
    go_ret3
    exact ⟨.inr ⟨HX.out, rfl⟩, Below.refl _ _⟩
end Go.Proofs.YtillkhjihggcjaaGreatDoor
/-
  Der: a few bits as a number.
-/
namespace Go.Proofs.YtillkhjihggcjaaGreatDoor
open Go.RowKit
end Go.Proofs.YtillkhjihggcjaaGreatDoor
/-
  Der: the reference's rows of bits.
-/
namespace Go.Proofs.YtillkhjihggcjaaGreatDoor
open Go.RowKit
theorem bit_next (x : Int) (i : Nat) (hi : i < 7) (h : x % 2 ^ i = 0) (h2 : x / 2 ^ i % 2 = 0) : x % 2 ^ (i + 1) = 0 := by
  have : i = 0 ∨ i = 1 ∨ i = 2 ∨ i = 3 ∨ i = 4 ∨ i = 5 ∨ i = 6 := by omega
  rcases this with rfl | rfl | rfl | rfl | rfl | rfl | rfl <;> simp at * <;> omega
theorem bit_bad (x : Int) (i s : Nat) (hi : i < s) (hs : s ≤ 7) (h2 : x / 2 ^ i % 2 = 1) : ¬ x % 2 ^ s = 0 := by
  have h1 : s = 1 ∨ s = 2 ∨ s = 3 ∨ s = 4 ∨ s = 5 ∨ s = 6 ∨ s = 7 := by omega
  have : i = 0 ∨ i = 1 ∨ i = 2 ∨ i = 3 ∨ i = 4 ∨ i = 5 ∨ i = 6 := by omega
  rcases h1 with rfl | rfl | rfl | rfl | rfl | rfl | rfl <;> rcases this with rfl | rfl | rfl | rfl | rfl | rfl | rfl <;> simp at * <;> omega
theorem bitsOk_eq {X : List Int} {n k : Nat} {x : Int} (hn : X.length = n) (h0 : 0 < n) (hs : X.getD 0 0 = k) (hk : k ≤ 7) (hx : X.getD (n - 1) 0 = x) (h1 : n = 1 → k = 0) : bitsOk X = decide (x % 2 ^ k = 0) := by
  unfold bitsOk
  rw [hn, hs]
  by_cases h : n < 2
  · obtain rfl : n = 1 := by omega
    obtain rfl : k = 0 := h1 rfl
    simp
  · rw [if_neg h, hx]
    simp
    omega
theorem below_ald {w : World} (o : Obj) : Below w.heap.size w (w.alloc o).drew := (al1 o).trans ⟨rfl, rfl, rfl, Nat.le_refl _, fun _ _ => rfl⟩
theorem div_u8 {x : Int} (h : U8 x) (i : Nat) : U8 (x / 2 ^ i) := by
  obtain ⟨h0, h1⟩ := h
  have hp : (0 : Int) < 2 ^ i := Int.pow_pos (by decide)
  exact ⟨Int.ediv_nonneg h0 (by omega), Int.lt_of_le_of_lt (Int.ediv_le_self _ h0) h1⟩
set_option maxRecDepth 20000 in
set_option maxHeartbeats 4000000 in
theorem RDBits_any {w : World} (v : Value) (X : List Int) (hX : Sl .u8 w v X) (uX : U8s X) (hl : X.length ≤ 16384) :
    Calls Tryz.prog 33 #[v] w fun e w' => BitsAns w.heap.size w' X e ∧ Below w.heap.size w w' := by
  obtain ⟨a, c, rfl, hc, hx⟩ := hX
  obtain ⟨n, hn⟩ : ∃ n, X.length = n := ⟨_, rfl⟩
  rw [hn] at hc hl
  simp only [hn]
  by_cases h0 : n = 0
  · subst h0
    have HF : Hid (bitsOk X = false) := by show bitsOk X = false; unfold bitsOk; rw [hn]; simp
    clear hx hn
    go_enter Tryz.func33, Tryz.ntmps33
    go_wp2
    go_ret3
    exact ⟨.inr ⟨HF.out, rfl⟩, Below.refl _ _⟩
  · rcases hx with hx | ⟨b, off, rfl, hb, hr⟩
    · rw [hx] at hn; simp at hn; omega
    · obtain ⟨s, hs⟩ : ∃ s, X.getD 0 0 = s := ⟨_, rfl⟩
      obtain ⟨s0, s1⟩ : U8 s := hs ▸ uX.at 0
      obtain ⟨k, rfl⟩ := Int.eq_ofNat_of_zero_le s0
      have c0 : w.cell? ⟨b, off, none⟩ = some (.int .u8 (k : Int)) := by have := hr 0 (by omega); rw [hs] at this; exact this
      have hnz : ¬ (n : Int) = 0 := by omega
      by_cases h7 : k ≤ 7
      · by_cases h1 : n = 1 ∧ k ≠ 0
        · have HF : Hid (bitsOk X = false) := by
            show bitsOk X = false
            unfold bitsOk; rw [hn, hs, if_pos (by omega)]
            simp; omega
          obtain ⟨rfl, hk0⟩ := h1
          have hk1 : ((k : Int) != 0) = true := by simpa using hk0
          have h7I : (k : Int) ≤ 7 := by omega
          clear hr hn hs uX
          go_enter Tryz.func33, Tryz.ntmps33
          go_wp2
          go_ret3
          exact ⟨.inr ⟨HF.out, rfl⟩, Below.refl _ _⟩
        · obtain ⟨x, hxx⟩ : ∃ x, X.getD (n - 1) 0 = x := ⟨_, rfl⟩
          have ux : U8 x := hxx ▸ uX.at (n - 1)
          have c1 : w.cell? ⟨b, off + (n - 1), none⟩ = some (.int .u8 x) := by have := hr (n - 1) (by omega); rw [hxx] at this; exact this
          have HE : Hid (bitsOk X = decide (x % 2 ^ k = 0)) := bitsOk_eq hn (by omega) hs h7 hxx (fun h => by omega)
          have HX : Hid (X.getD 0 0 = k ∧ Rd .u8 w b off X ∧ X.length = n ∧ U8 x ∧ ∀ W : World, Rd .u8 W b off X → b < W.heap.size → Sl .u8 W (.slice (if c = 1 then some ⟨b, off, none⟩ else some ⟨b, off + 1, none⟩) (n - 1) (c - 1)) (X.drop 1)) := ⟨hs, hr, hn, ux, fun W h hb' => sl_tail hb' h hn (by omega) hc⟩
          have h7I : (k : Int) ≤ 7 := by omega
          have hnI : (1 : Int) ≤ (n : Int) := by omega
          have hcI : (1 : Int) ≤ (c : Int) := by omega
          have hws : IntKind.i64.wrap (k : Int) = (k : Int) := wrapI _ (by omega) (by omega)
          obtain ⟨ba, hba⟩ : ∃ ba : Option Addr, (if c = 1 then some ⟨b, off, none⟩ else some ⟨b, off + 1, none⟩) = ba := ⟨_, rfl⟩
          have HY : Hid (∀ W : World, Rd .u8 W b off X → b < W.heap.size → Sl .u8 W (.slice ba (n - 1) (c - 1)) (X.drop 1)) := fun W h h' => by rw [← hba]; exact HX.out.2.2.2.2 W h h'
          have hp : 0 < n := by omega
          have hn0b : ((n : Int) == 0) = false := by simpa using hnz
          have h7b : decide ((7 : Int) < (k : Int)) = false := by simpa using h7I
          by_cases hk0 : k = 0
          · have hk1 : ((k : Int) != 0) = false := by simpa using hk0
            have hkI : (k : Int) ≤ 0 := by omega
            have HT : Hid (bitsOk X = true) := by show bitsOk X = true; rw [HE.out, hk0]; simp
            clear hr hn hs uX hxx ux hk0
            go_enter Tryz.func33, Tryz.ntmps33
            go_wp2_with fail
            refine wp_loop_rounds 1 ?_
            rw [rounds_succ]
            go_upto_region 8 with (fail)
            go_region_held3 (fun w' => w'.cell? ⟨b, off, none⟩ = some (.int .u8 (k : Int))) (first | go_keep | (rw [hB1.cell (p := ⟨b, off, none⟩) hb]; go_keep))
              ((refine step_ap (by rfl) (.tmp 44) (.tmp 46) 22 22 (by rfl) .u8 5 1 Tryz.und8 Tryz.info8 (by decide) w.heap.size _ [] (by rfl) (Row.arr (S := []) (arr_nw rfl rfl) (Nat.le_refl _) (by decide)) _ (X.drop 1) (by rfl) (src_sl Tryz.und8 (below_sl (below_ald _) (HY.out _ (by exact HX.out.2.1) (by exact hb)))) (by have := HX.out.2.2.1; simp; omega) (by simp) ?_; intro v5 w5 hr hg; have hB1 := hg.below (Row.arr (B := w.heap.size) (S := []) (arr_nw rfl rfl) (Nat.le_refl _) (by decide)) (by simp)))
            have H5 : Hid (Row .u8 5 w.heap.size w5 v5 (X.drop 1) ∧ Below w.heap.size w w5) := ⟨by rw [List.nil_append] at hr; exact hr, (below_ald _).trans hB1⟩
            clear hr hg hB1
            go_wp2
            go_ret3
            exact ⟨.inl ⟨HT.out, _, by rw [HX.out.1]; rfl, H5.out.1⟩, H5.out.2⟩
          · have hk1 : ((k : Int) != 0) = true := by simpa using hk0
            have hn1b : ((n : Int) == 1) = false := by
              have : ¬ (n : Int) = 1 := by omega
              simpa using this
            clear hr hn hs uX hxx ux
            go_enter Tryz.func33, Tryz.ntmps33
            go_wp2_with fail
            go_loopw [5] (fun iv wr => ∃ i : Nat, iv = .int .i64 i ∧ i ≤ k ∧ x % 2 ^ i = 0 ∧ w = wr) (fun iv _ => k - (intOf iv).toNat)
            case atStart => exact ⟨0, rfl, by omega, by simp, rfl⟩
            case round =>
              obtain ⟨i, rfl, hi, hz, rfl⟩ := hrel
              have HZ : Hid (x % 2 ^ i = 0) := hz
              clear hz
              by_cases hlt : i < k
              · have hiI : (i : Int) < (k : Int) := by omega
                have ha := and_1 (x / 2 ^ i) (div_u8 HX.out.2.2.2.1 i)
                by_cases hy : x / 2 ^ i % 2 = 1
                · rw [hy] at ha
                  have HF : Hid (bitsOk X = false) := by
                    show bitsOk X = false
                    rw [HE.out]
                    exact decide_eq_false (bit_bad x i k hlt h7 hy)
                  clear hy
                  go_wp2
                  go_ret3
                  exact ⟨.inr ⟨HF.out, rfl⟩, Below.refl _ _⟩
                · have hy0 : x / 2 ^ i % 2 = 0 := by omega
                  rw [hy0] at ha
                  have HN : Hid (x % 2 ^ (i + 1) = 0) := bit_next x i (by omega) HZ.out hy0
                  clear hy hy0
                  go_wp2
                  go_roundw
                  case rel => exact ⟨i + 1, by go_num, by omega, HN.out, trivial⟩
                  case measure => simp [intOf]; omega
              · obtain rfl : i = k := by omega
                have HT : Hid (bitsOk X = true) := by show bitsOk X = true; rw [HE.out]; exact decide_eq_true HZ.out
                have hnl : ¬ (i : Int) < (i : Int) := by omega
                go_upto_region 8 with (fail)
                go_region_held3 (fun w' => w'.cell? ⟨b, off, none⟩ = some (.int .u8 (i : Int))) (first | go_keep | (rw [hB1.cell (p := ⟨b, off, none⟩) hb]; go_keep))
                  ((refine step_ap (by rfl) (.tmp 44) (.tmp 46) 22 22 (by rfl) .u8 5 1 Tryz.und8 Tryz.info8 (by decide) w.heap.size _ [] (by rfl) (Row.arr (S := []) (arr_nw rfl rfl) (Nat.le_refl _) (by decide)) _ (X.drop 1) (by rfl) (src_sl Tryz.und8 (below_sl (below_ald _) (HY.out _ (by exact HX.out.2.1) (by exact hb)))) (by have := HX.out.2.2.1; simp; omega) (by simp) ?_; intro v5 w5 hr hg; have hB1 := hg.below (Row.arr (B := w.heap.size) (S := []) (arr_nw rfl rfl) (Nat.le_refl _) (by decide)) (by simp)))
                have H5 : Hid (Row .u8 5 w.heap.size w5 v5 (X.drop 1) ∧ Below w.heap.size w w5) := ⟨by rw [List.nil_append] at hr; exact hr, (below_ald _).trans hB1⟩
                clear hr hg hB1
                go_wp2
                go_ret3
                exact ⟨.inl ⟨HT.out, _, by rw [HX.out.1]; rfl, H5.out.1⟩, H5.out.2⟩
      · have HF : Hid (bitsOk X = false) := by
          show bitsOk X = false
          unfold bitsOk; rw [hn, hs]
          by_cases h2 : n < 2
          · rw [if_pos h2]; simp; omega
          · rw [if_neg h2]; simp; omega
        have h7I : (7 : Int) < (k : Int) := by omega
        clear hr hn hs uX
        go_enter Tryz.func33, Tryz.ntmps33
        go_wp2
        go_ret3
        exact ⟨.inr ⟨HF.out, rfl⟩, Below.refl _ _⟩
end Go.Proofs.YtillkhjihggcjaaGreatDoor
