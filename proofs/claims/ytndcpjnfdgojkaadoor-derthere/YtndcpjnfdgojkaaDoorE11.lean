/-
  Der: rows of bits.
-/
import Derived.Test.YtndcpjnfdgojkaaDoorE3
import Derived.Lib.Tables
import Derived.Deep.RegionHeld3
namespace Go.Proofs.YtndcpjnfdgojkaaDoor
open Go.RowKit
/-- Are these bytes a row of bits? -/
def bitsOk (X : List Int) : Bool :=
  if X.length < 2 then decide (X.length = 1) && decide (X.getD 0 0 = 0) else decide (X.getD 0 0 ≤ 7) && decide (X.getD (X.length - 1) 0 % 2 ^ (X.getD 0 0).toNat = 0)
theorem and_1 (x : Int) (h : U8 x) : bits .and .u8 x 1 = x % 2 := by obtain ⟨h0, h1⟩ := h; go_bits2
theorem and_3 (x : Int) (h : U8 x) : bits .and .u8 x 3 = x % 4 := by obtain ⟨h0, h1⟩ := h; go_bits2
theorem and_7 (x : Int) (h : U8 x) : bits .and .u8 x 7 = x % 8 := by obtain ⟨h0, h1⟩ := h; go_bits2
theorem and_15 (x : Int) (h : U8 x) : bits .and .u8 x 15 = x % 16 := by obtain ⟨h0, h1⟩ := h; go_bits2
theorem and_31 (x : Int) (h : U8 x) : bits .and .u8 x 31 = x % 32 := by obtain ⟨h0, h1⟩ := h; go_bits2
theorem and_63 (x : Int) (h : U8 x) : bits .and .u8 x 63 = x % 64 := by obtain ⟨h0, h1⟩ := h; go_bits2
theorem and_127 (x : Int) (h : U8 x) : bits .and .u8 x 127 = x % 128 := by obtain ⟨h0, h1⟩ := h; go_bits2
theorem and_0 (x : Int) : bits .and .u8 x 0 = 0 := by unfold bits; simp; rfl
set_option maxHeartbeats 4000000 in
theorem isBits_any {w : World} (v : Value) (X : List Int) (hX : Sl .u8 w v X) (uX : U8s X) (hl : X.length ≤ 16384) :
    Calls Tryd.prog 66 #[v] w fun e w' => e = .returned (.bool (bitsOk X)) ∧ w = w' := by
  obtain ⟨a, c, rfl, hc, hx⟩ := hX
  obtain ⟨n, hn⟩ : ∃ n, X.length = n := ⟨_, rfl⟩
  obtain ⟨B, hB⟩ : ∃ B, bitsOk X = B := ⟨_, rfl⟩
  rw [hB]
  have hBd := hB
  unfold bitsOk at hBd
  rw [hn] at hBd hc hl
  simp only [hn]
  by_cases h0 : n = 0
  · subst h0
    rw [if_pos (by omega)] at hBd
    simp at hBd
    subst hBd
    clear hB hx
    go_enter Tryd.func66, Tryd.ntmps66
    go_wp2
    go_ret
    exact ⟨rfl, rfl⟩
  · rcases hx with hx | ⟨b, off, rfl, hb, hr⟩
    · rw [hx] at hn; simp at hn; omega
    · obtain ⟨s, hs⟩ : ∃ s, X.getD 0 0 = s := ⟨_, rfl⟩
      obtain ⟨s0, s1⟩ : U8 s := hs ▸ uX.at 0
      have c0 : w.cell? ⟨b, off, none⟩ = some (.int .u8 s) := by have := hr 0 (by omega); rw [hs] at this; exact this
      rw [hs] at hBd
      by_cases h1 : n = 1
      · subst h1
        rw [if_pos (by omega)] at hBd
        simp only [decide_true, Bool.true_and] at hBd
        clear hB hr uX hn hs
        go_enter Tryd.func66, Tryd.ntmps66
        go_wp2
        go_ret
        refine ⟨?_, rfl⟩
        rw [← hBd]; rfl
      · obtain ⟨x, hxx⟩ : ∃ x, X.getD (n - 1) 0 = x := ⟨_, rfl⟩
        have ux : U8 x := hxx ▸ uX.at (n - 1)
        have c1 : w.cell? ⟨b, off + (n - 1), none⟩ = some (.int .u8 x) := by have := hr (n - 1) (by omega); rw [hxx] at this; exact this
        rw [if_neg (by omega), hxx] at hBd
        have hnI : (2 : Int) ≤ (n : Int) := by omega
        clear hB hr uX hn hs hxx h0 h1
        by_cases h7 : s ≤ 7
        · have hs8 : s = 0 ∨ s = 1 ∨ s = 2 ∨ s = 3 ∨ s = 4 ∨ s = 5 ∨ s = 6 ∨ s = 7 := by omega
          have a0 := and_0 x
          have a1 := and_1 x ux
          have a3 := and_3 x ux
          have a7 := and_7 x ux
          have a15 := and_15 x ux
          have a31 := and_31 x ux
          have a63 := and_63 x ux
          have a127 := and_127 x ux
          rcases hs8 with rfl | rfl | rfl | rfl | rfl | rfl | rfl | rfl
          all_goals go_enter Tryd.func66, Tryd.ntmps66
          all_goals go_wp2
          all_goals go_ret
          · refine ⟨?_, rfl⟩
            rw [← hBd]
            show Ending.returned (.bool true) = _
            simp
          all_goals refine ⟨?_, rfl⟩
          all_goals rw [← hBd]
          all_goals rfl
        · have : B = false := by rw [← hBd]; simp; omega
          subst this
          clear hBd
          go_enter Tryd.func66, Tryd.ntmps66
          go_wp2
          go_ret
          exact ⟨rfl, rfl⟩
theorem Reverse8_any {w : World} (x : Int) (hx : U8 x) : Calls Tryd.prog 57 #[.int .u8 x] w fun e w' => e = .returned (.int .u8 (Lib.rev8 x)) ∧ w = w' := by
  obtain ⟨h0, h1⟩ := hx
  have h2 : x ≤ 255 := by omega
  go_enter Tryd.func57, Tryd.ntmps57
  go_wp2
  go_ret
  exact ⟨rfl, rfl⟩
theorem wrapI (z : Int) (h0 : 0 ≤ z) (h1 : z < 9223372036854775808) : IntKind.i64.wrap z = z := by rw [IntKind.wrap_i64]; omega
/-- What Bits answers. -/
def BitsAns (B : Nat) (w : World) (X : List Int) (e : Ending) : Prop :=
  (bitsOk X = true ∧ ∃ r, e = .returned (.tuple #[r, .int .i64 (X.getD 0 0), .int .i64 0]) ∧ Row .u8 5 B w r (X.drop 1)) ∨ (bitsOk X = false ∧ e = .returned (.tuple #[.slice none 0 0, .int .i64 0, .int .i64 6]))
theorem bitsOk_pos {X : List Int} (h : bitsOk X = true) : 0 < X.length := by
  unfold bitsOk at h
  by_cases h0 : X.length = 0
  · rw [h0] at h; simp at h
  · omega
theorem sl_tail {w : World} {n c : Nat} {X : List Int} {b off : Nat} (hb : b < w.heap.size) (hr : Rd .u8 w b off X) (hn : X.length = n) (h0 : 0 < n) (hc : n ≤ c) : Sl .u8 w (.slice (if c = 1 then some ⟨b, off, none⟩ else some ⟨b, off + 1, none⟩) (n - 1) (c - 1)) (X.drop 1) := by
  have hl : (X.drop 1).length = n - 1 := by rw [List.length_drop, hn]
  refine ⟨_, _, by rw [hl], by omega, ?_⟩
  by_cases h : c = 1
  · exact .inl (List.eq_nil_of_length_eq_zero (by omega))
  · rw [if_neg h]
    refine .inr ⟨b, off + 1, rfl, hb, fun k hk => ?_⟩
    have := hr (1 + k) (by omega)
    rw [Nat.add_assoc, this, List.getD_eq_getElem?_getD, List.getD_eq_getElem?_getD, List.getElem?_drop]
set_option maxRecDepth 20000 in
set_option maxHeartbeats 2000000 in
theorem Bits_any {w : World} (v : Value) (X : List Int) (hX : Sl .u8 w v X) (uX : U8s X) (hl : X.length ≤ 16384) :
    Calls Tryd.prog 56 #[v] w fun e w' => BitsAns w.heap.size w' X e ∧ Below w.heap.size w w' := by
  have HC : Hid (∀ w', w = w' → Calls Tryd.prog 66 #[v] w' fun e w'' => e = .returned (.bool (bitsOk X)) ∧ w' = w'') := fun w' h => by subst h; exact isBits_any v X hX uX hl
  by_cases hk : bitsOk X = true
  · obtain ⟨a, c, rfl, hc, hx⟩ := hX
    have hp := bitsOk_pos hk
    obtain ⟨n, hn⟩ : ∃ n, X.length = n := ⟨_, rfl⟩
    rcases hx with hx | ⟨b, off, rfl, hb, hr⟩
    · rw [hx] at hp; simp at hp
    · rw [hn] at hc hp hl
      simp only [hn] at HC ⊢
      rw [hk] at HC
      obtain ⟨s, hs⟩ : ∃ s, X.getD 0 0 = s := ⟨_, rfl⟩
      have c0 : w.cell? ⟨b, off, none⟩ = some (.int .u8 s) := by have := hr 0 (by omega); rw [hs] at this; exact this
      obtain ⟨s0, s1⟩ : U8 s := hs ▸ uX.at 0
      obtain ⟨ba, hba⟩ : ∃ ba : Option Addr, (if c = 1 then some ⟨b, off, none⟩ else some ⟨b, off + 1, none⟩) = ba := ⟨_, rfl⟩
      have HS : Hid (∀ W : World, Rd .u8 W b off X → b < W.heap.size → Sl .u8 W (.slice ba (n - 1) (c - 1)) (X.drop 1)) := fun W h hb' => by
        rw [← hba]; exact sl_tail hb' h hn hp hc
      have HX : Hid (bitsOk X = true ∧ X.getD 0 0 = s ∧ Rd .u8 w b off X ∧ (X.drop 1).length ≤ 16384) := ⟨hk, hs, hr, by rw [List.length_drop]; omega⟩
      have hnI : (1 : Int) ≤ (n : Int) := by omega
      have hcI : (1 : Int) ≤ (c : Int) := by omega
      have hws : IntKind.i64.wrap s = s := wrapI s (by omega) (by omega)
      clear hk hs hr hn uX
      go_enter Tryd.func56, Tryd.ntmps56
      go_upto_region 3 with (go_at_call 66; refine (HC.out _ rfl).mono ?_; rintro e w' ⟨rfl, rfl⟩)
      go_region_held3 (fun w' => w'.cell? ⟨b, off, none⟩ = some (.int .u8 s)) (first | go_keep | (rw [hb5.cell (p := ⟨b, off, none⟩) hb]; go_keep))
        ((go_at_call 60; refine (copied_any _ (X.drop 1) (HS.out _ (by exact HX.out.2.2.1) (by exact hb)) (by have := HX.out.2.2.2; omega)).mono ?_; rintro e w5 ⟨r5, rfl, hr5, hb5⟩))
      have H5 : Hid (Row .u8 5 w.heap.size w5 r5 (X.drop 1) ∧ Below w.heap.size w w5) := ⟨hr5, (below_drewN 1 (Below.refl _ _)).trans hb5⟩
      clear hr5 hb5
      go_wp2
      go_ret3
      exact ⟨.inl ⟨HX.out.1, _, by rw [HX.out.2.1]; rfl, H5.out.1⟩, H5.out.2⟩
  · replace hk : bitsOk X = false := by simpa using hk
    rw [hk] at HC
    obtain ⟨a, n, c, rfl⟩ : ∃ a n c, v = .slice a n c := by obtain ⟨a, c, h, _⟩ := hX; exact ⟨a, _, c, h⟩
    have HX : Hid (bitsOk X = false) := hk
    clear hk hX uX
    go_enter Tryd.func56, Tryd.ntmps56
    go_wp2_with (go_at_call 66; refine (HC.out _ rfl).mono ?_; rintro e w' ⟨rfl, rfl⟩)
    go_ret3
    exact ⟨.inr ⟨HX.out, rfl⟩, Below.refl _ _⟩
end Go.Proofs.YtndcpjnfdgojkaaDoor
