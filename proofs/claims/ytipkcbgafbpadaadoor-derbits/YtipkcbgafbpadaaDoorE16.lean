/-
  Der: the law DerBits.
-/
import Derived.Test.YtipkcbgafbpadaaDoorE15
import Derived.Test.YtipkcbgafbpadaaDoorE13
namespace Go.Proofs.YtipkcbgafbpadaaDoor
open Go.RowKit
def BD (X : List Int) : List Int := if bitsOk X = true then X.drop 1 else []
def BZ (X : List Int) : Int := if bitsOk X = true then X.getD 0 0 else 0
def BE (X : List Int) : Int := if bitsOk X = true then 0 else 6
theorem BitsAns.uni {B : Nat} {w : World} {X : List Int} {e : Ending} (h : BitsAns B w X e) : ∃ r, e = .returned (.tuple #[r, .int .i64 (BZ X), .int .i64 (BE X)]) ∧ Sl .u8 w r (BD X) := by
  unfold BD BZ BE
  rcases h with ⟨hk, r, rfl, hr⟩ | ⟨hk, rfl⟩
  · rw [if_pos hk, if_pos hk, if_pos hk]; exact ⟨r, rfl, hr.sl⟩
  · rw [if_neg (by rw [hk]; simp), if_neg (by rw [hk]; simp), if_neg (by rw [hk]; simp)]; exact ⟨_, rfl, nil_sl _⟩
theorem BD_len {X : List Int} (h : X.length ≤ 16384) : (BD X).length ≤ 1152921504606846976 := by
  unfold BD; split
  · rw [List.length_drop]; omega
  · simp
set_option maxRecDepth 20000 in
set_option maxHeartbeats 4000000 in
theorem DerBits_any {w : World} (a : Option Addr) (n c : Nat) (X : List Int) (hX : Sl .u8 w (.slice a n c) X) (uX : U8s X) (lX : X.length = n) (hn0 : n ≤ 9223372036854775807) (hT : Tab w) :
    Calls Tryd.prog 6 #[.slice a n c] w fun e w' => e = .returned (.bool true) ∧ Below w.heap.size w w' := by
  by_cases hn : n ≤ 16384
  · have HX : Hid (Sl .u8 w (.slice a n c) X ∧ U8s X ∧ X.length = n ∧ Tab w ∧ X.length ≤ 16384) := ⟨hX, uX, lX, hT, by omega⟩
    have hnI : (n : Int) ≤ 16384 := by omega
    clear hX uX lX hT
    go_enter Tryd.func6, Tryd.ntmps6
    go_wp2_with fail
    refine (Lent8_any X _ w HX.out.1 (by have := HX.out.2.2.2.2; omega)).mono ?_
    rintro e w1 ⟨v1, rfl, hl1, hb1⟩
    obtain ⟨a1, n1, c1, hv1⟩ : ∃ a n c, v1 = .slice a n c := by obtain ⟨b, S, h, _⟩ := hl1; exact ⟨_, _, _, h⟩
    subst hv1
    have H1 : Hid (LentR8 w.heap.size w1 (.slice a1 n1 c1) X ∧ Below w.heap.size w w1) := ⟨hl1, hb1⟩
    clear hl1 hb1
    go_wp2_with fail
    refine (Bits_any _ X H1.out.1.sl HX.out.2.1 HX.out.2.2.2.2).mono ?_
    rintro e w2 ⟨ha, hb2⟩
    obtain ⟨r2, rfl, hs2⟩ := ha.uni
    have H2 : Hid (Sl .u8 w2 r2 (BD X) ∧ Below w1.heap.size w1 w2) := ⟨hs2, hb2⟩
    clear ha hs2 hb2
    go_wp2_with fail
    refine (RBits_any _ X (below_sl (below_via H1.out.2 H2.out.2 (Nat.le_refl _)) HX.out.1) HX.out.2.1 HX.out.2.2.2.2).mono ?_
    rintro e w3 ⟨ha, hb3⟩
    obtain ⟨r3, rfl, hs3⟩ := ha.uni
    have H3 : Hid (Sl .u8 w3 r2 (BD X) ∧ Sl .u8 w3 r3 (BD X) ∧ Below w1.heap.size w1 w3) := ⟨below_sl hb3 H2.out.1, hs3, below_via H2.out.2 hb3 (Nat.le_refl _)⟩
    clear ha hs3 hb3
    go_wp2_with fail
    refine (Flags_any _ X (below_sl H3.out.2.2 H1.out.1.sl) HX.out.2.1 HX.out.2.2.2.2).mono ?_
    rintro e w4 ⟨rfl, hb4⟩
    have H4 : Hid (Sl .u8 w4 r2 (BD X) ∧ Sl .u8 w4 r3 (BD X) ∧ Below w1.heap.size w1 w4) := ⟨below_sl hb4 H3.out.1, below_sl hb4 H3.out.2.1, below_via H3.out.2.2 hb4 (Nat.le_refl _)⟩
    clear hb4
    go_wp2_with fail
    refine (RFlags_any _ X (below_sl (below_via H1.out.2 H4.out.2.2 (Nat.le_refl _)) HX.out.1) HX.out.2.1 HX.out.2.2.2.2).mono ?_
    rintro e w5 ⟨rfl, hb5⟩
    have H5 : Hid (Sl .u8 w5 r2 (BD X) ∧ Sl .u8 w5 r3 (BD X) ∧ Below w1.heap.size w1 w5) := ⟨below_sl hb5 H4.out.1, below_sl hb5 H4.out.2.1, below_via H4.out.2.2 hb5 (Nat.le_refl _)⟩
    clear hb5
    go_wp2_with fail
    refine (SameBytes_any _ _ (BD X) H5.out.1 H5.out.2.1 (BD_len HX.out.2.2.2.2)).mono ?_
    rintro e w6 ⟨rfl, hb6⟩
    have H6 : Hid (Below w1.heap.size w1 w6) := below_via H5.out.2.2 hb6 (Nat.le_refl _)
    clear hb6
    go_wp2_with (first
      | (go_at_call 16; refine (num4_any _ _).mono ?_; rintro e w' ⟨rfl, rfl⟩))
    refine (Kept8_any _ _ X (H1.out.1.below H6.out) (below_sl (below_via H1.out.2 H6.out (Nat.le_refl _)) HX.out.1) (by have := HX.out.2.2.2.2; omega)).mono ?_
    rintro e w7 ⟨rfl, hb7⟩
    have H7 : Hid (Below w.heap.size w w7) := below_via (below_via H1.out.2 H6.out (Nat.le_refl _)) hb7 (Nat.le_refl _)
    clear hb7
    go_wp2_with (go_at_call 9; refine (live_any (HX.out.2.2.2.1.below H7.out)).mono ?_; rintro e w8 ⟨rfl, hb8⟩)
    go_ret
    exact ⟨rfl, below_via H7.out hb8 (Nat.le_refl _)⟩
  · have HX : Hid (Tab w) := hT
    have hnI : (16384 : Int) < (n : Int) := by omega
    clear hX uX lX hT
    go_enter Tryd.func6, Tryd.ntmps6
    go_wp2_with (go_at_call 9; refine (live_any HX.out).mono ?_; rintro e w8 ⟨rfl, hb8⟩)
    go_ret
    exact ⟨rfl, hb8⟩
end Go.Proofs.YtipkcbgafbpadaaDoor
