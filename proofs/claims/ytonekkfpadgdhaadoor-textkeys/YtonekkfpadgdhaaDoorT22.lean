/-
  Text: the reference's Key, Alike; TextKeys.
-/
import Derived.Test.YtonekkfpadgdhaaDoorT20
import Derived.Test.YtonekkfpadgdhaaDoorT21
namespace Go.Proofs.YtonekkfpadgdhaaDoor
open Go.RowKit
set_option maxHeartbeats 4000000 in
set_option maxRecDepth 100000 in
theorem RKey_any {w : World} (tag : Int) (v : Value) (l : List UInt8) (hX : Sl .u8 w v (nums l)) (hl : l.length ≤ 50000) (h0 : -9223372036854775808 ≤ tag) (h1 : tag ≤ 9223372036854775807) : Calls Tryd.prog 18 #[.int .i64 tag, v] w fun e w' => e = .returned (.string (str (keyB tag l))) ∧ Below w.heap.size w w' := by
  have HC : Hid (Calls Tryd.prog 12 #[.int .i64 tag, v] w fun e w' => e = TextEnd tag l ∧ Below w.heap.size w w') := RText_any tag v l hX (by omega)
  have HX : Hid (Sl .u8 w v (nums l) ∧ True) := ⟨hX, trivial⟩
  have HE := errno_range tag l
  have HN := textS_len tag l
  unfold TextEnd at HC
  obtain ⟨T, E, hTE⟩ : ∃ T E, textS tag l = (T, E) := ⟨_, _, rfl⟩
  have HK : Hid (keyB tag l = if E = 0 then 61 :: foldB T else 35 :: (Lib.itoa tag ++ 58 :: l)) := by
    show _ = _
    unfold keyB
    rw [hTE]
  rw [hTE] at HC HE HN
  simp only at HC HE HN
  clear hTE
  obtain ⟨a, c, rfl, -⟩ := sl_str hX
  clear hX
  by_cases hE : E = 0
  · subst hE
    rw [if_pos rfl] at HK
    go_enter Tryd.func18, Tryd.ntmps18
    go_wp2_with fail
    refine HC.out.mono ?_
    rintro e w1 ⟨rfl, hb⟩
    go_wp2_with fail
    refine (RFold_any T (by omega)).mono ?_
    rintro e w2 ⟨rfl, hb2⟩
    have zF : (str (foldB T)).size ≤ 100000 := by
      rw [str_size]
      have := fst0_len T T.length (Nat.le_refl _)
      unfold fst0 at this
      rw [List.take_length] at this
      unfold foldB; omega
    obtain ⟨F, hF⟩ : ∃ F, str (foldB T) = F := ⟨_, rfl⟩
    rw [hF] at zF
    have HF : Hid (str (foldB T) = F) := hF
    rw [hF]
    clear hF
    go_wp2
    go_ret
    refine ⟨?_, below_via hb hb2 (Nat.le_refl _)⟩
    rw [HK.out]
    show Ending.returned (.string (str [61] ++ F)) = _
    rw [← HF.out, str_app]; rfl
  · have nE : (E != 0) = true := by simp [hE]
    rw [if_neg hE] at HK
    go_enter Tryd.func18, Tryd.ntmps18
    go_wp2_with fail
    refine HC.out.mono ?_
    rintro e w1 ⟨rfl, hb⟩
    have zI : (str (Lib.itoa tag)).size ≤ 21 := by rw [str_size]; exact Lib.itoa_length_le tag h0 h1
    have zD : (str l).size ≤ 50000 := by rw [str_size]; exact hl
    obtain ⟨I, hI⟩ : ∃ I, str (Lib.itoa tag) = I := ⟨_, rfl⟩
    obtain ⟨D, hD⟩ : ∃ D, str l = D := ⟨_, rfl⟩
    have HCV : ∀ W, Below w.heap.size w W → Sem.run Tryd.prog (convert 22 9 (.slice a l.length c)) W = .ok (.string (str l)) W := fun W hW => by
      obtain ⟨a', c', e, h⟩ := sl_str (below_sl hW HX.out.1)
      cases e
      exact h
    have HIT : Hid (∀ W, Below w.heap.size w W → Calls Tryd.prog 36 #[.int .i64 tag] W fun e w' => e = .returned (.string I) ∧ Below W.heap.size W w') := fun W hW => hI ▸ RDig_any tag h0 h1
    rw [hI] at zI
    rw [hD] at zD HCV
    have HKS : Hid (∀ W, Below w.heap.size w W → Below w.heap.size w W ∧ Sem.run Tryd.prog (convert 22 9 (.slice a l.length c)) W = .ok (.string D) W) := fun W hW => ⟨hW, HCV _ hW⟩
    have HID : Hid (str (Lib.itoa tag) = I ∧ str l = D) := ⟨hI, hD⟩
    clear hI hD HCV HC
    have n1 : ¬ 9223372036854775807 < 1 + I.size := by omega
    have n2 : ¬ 9223372036854775807 < 1 + I.size + 1 := by omega
    have n3 : ¬ 9223372036854775807 < 1 + I.size + 1 + D.size := by omega
    go_wp2_with fail
    go_region_held3 (fun W => Below w.heap.size w W ∧ Sem.run Tryd.prog (convert 22 9 (.slice a l.length c)) W = .ok (.string D) W) ((refine HKS.out _ ?_; first | exact hb.drew | exact Below.drew (And.left (by assumption)) | exact And.left (by assumption) | exact below_via (And.left (by assumption)) hb2 (Nat.le_refl _) | exact Below.drew (below_via (And.left (by assumption)) hb2 (Nat.le_refl _)))) ((go_at_call 36; refine (HIT.out _ (And.left (by assumption))).mono ?_; rintro e w2 ⟨rfl, hb2⟩))
    all_goals
      rename_i hHeld
      have HB : Hid (Below w.heap.size w w2) := hHeld.1
      clear hHeld
      go_wp2
      go_ret
      refine ⟨?_, HB.out⟩
      rw [HK.out]
      show Ending.returned (.string (str [35] ++ I ++ str [58] ++ D)) = _
      rw [← HID.out.1, ← HID.out.2, str_app, str_app, str_app]
      simp
set_option maxHeartbeats 1000000 in
theorem RAlike_any {w : World} (tag other : Int) (u v : Value) (a b : List UInt8) (hA : Sl .u8 w u (nums a)) (hB : Sl .u8 w v (nums b)) (la : a.length ≤ 50000) (lb : b.length ≤ 50000)
    (h0 : -9223372036854775808 ≤ tag) (h1 : tag ≤ 9223372036854775807) (g0 : -9223372036854775808 ≤ other) (g1 : other ≤ 9223372036854775807) :
    Calls Tryd.prog 20 #[.int .i64 tag, u, .int .i64 other, v] w fun e w' => e = .returned (.bool (decide (keyB tag a = keyB other b))) ∧ Below w.heap.size w w' := by
  have HX : Hid (Sl .u8 w u (nums a) ∧ Sl .u8 w v (nums b)) := ⟨hA, hB⟩
  clear hA hB
  go_enter Tryd.func20, Tryd.ntmps20
  go_wp2_with fail
  refine (RKey_any tag u a HX.out.1 la h0 h1).mono ?_
  rintro e w1 ⟨rfl, hb⟩
  go_wp2_with fail
  refine (RKey_any other v b (below_sl hb HX.out.2) lb g0 g1).mono ?_
  rintro e w2 ⟨rfl, hb2⟩
  go_wp2
  go_ret
  refine ⟨?_, below_via hb hb2 (Nat.le_refl _)⟩
  rw [← beq_str]
  rfl
set_option maxHeartbeats 2000000 in
set_option maxRecDepth 100000 in
theorem TextKeys_any {w : World} (tag other : Int) (u v : Value) (a b : List UInt8) (hA : Sl .u8 w u (nums a)) (hB : Sl .u8 w v (nums b)) (la : a.length ≤ 9223372036854775807) (lb : b.length ≤ 9223372036854775807)
    (h0 : -9223372036854775808 ≤ tag) (h1 : tag ≤ 9223372036854775807) (g0 : -9223372036854775808 ≤ other) (g1 : other ≤ 9223372036854775807) (hT : Tab w) :
    Calls Tryd.prog 5 #[.int .i64 tag, u, .int .i64 other, v] w fun e w' => e = .returned (.bool true) ∧ Below w.heap.size w w' := by
  have HT : Hid (Tab w) := hT
  have HX : Hid (Sl .u8 w u (nums a) ∧ Sl .u8 w v (nums b)) := ⟨hA, hB⟩
  obtain ⟨a1, c1, rfl, -⟩ := sl_str hA
  obtain ⟨a2, c2, rfl, -⟩ := sl_str hB
  clear hT hA hB
  by_cases hbig : a.length ≤ 16384 ∧ b.length ≤ 16384
  · have b1 : ¬ (16384 : Int) < (a.length : Int) := by omega
    have b2 : ¬ (16384 : Int) < (b.length : Int) := by omega
    have HL : Hid (a.length ≤ 16384 ∧ b.length ≤ 16384) := hbig
    have HK : Hid (∀ W : World, Below w.heap.size w W → Calls Tryd.prog 17 #[.int .i64 tag, .slice a1 a.length c1] W fun e w' => e = .returned (.string (str (keyB tag a))) ∧ Below W.heap.size W w') := fun W hW => Key_any tag _ a (below_sl hW HX.out.1) (by have := HL.out; omega) h0 h1 (HT.out.below hW).u8 (HT.out.below hW).pw
    have HRK : Hid (∀ W : World, Below w.heap.size w W → Calls Tryd.prog 18 #[.int .i64 tag, .slice a1 a.length c1] W fun e w' => e = .returned (.string (str (keyB tag a))) ∧ Below W.heap.size W w') := fun W hW => RKey_any tag _ a (below_sl hW HX.out.1) (by have := HL.out; omega) h0 h1
    have HA : Hid (∀ W : World, Below w.heap.size w W → Calls Tryd.prog 19 #[.int .i64 tag, .slice a1 a.length c1, .int .i64 other, .slice a2 b.length c2] W fun e w' => e = .returned (.bool (decide (keyB tag a = keyB other b))) ∧ Below W.heap.size W w') := fun W hW => Alike_any tag other _ _ a b (below_sl hW HX.out.1) (below_sl hW HX.out.2) (by have := HL.out; omega) (by have := HL.out; omega) h0 h1 g0 g1 (HT.out.below hW).u8 (HT.out.below hW).pw
    have HRA : Hid (∀ W : World, Below w.heap.size w W → Calls Tryd.prog 20 #[.int .i64 tag, .slice a1 a.length c1, .int .i64 other, .slice a2 b.length c2] W fun e w' => e = .returned (.bool (decide (keyB tag a = keyB other b))) ∧ Below W.heap.size W w') := fun W hW => RAlike_any tag other _ _ a b (below_sl hW HX.out.1) (below_sl hW HX.out.2) (by have := HL.out; omega) (by have := HL.out; omega) h0 h1 g0 g1
    obtain ⟨S, hS⟩ : ∃ S, str (keyB tag a) = S := ⟨_, rfl⟩
    obtain ⟨r, hr⟩ : ∃ r, decide (keyB tag a = keyB other b) = r := ⟨_, rfl⟩
    rw [hS] at HK HRK
    rw [hr] at HA HRA
    clear hS hr hbig
    go_enter Tryd.func5, Tryd.ntmps5
    go_wp2_with fail
    refine (HK.out _ (Below.refl _ _)).mono ?_
    rintro e w1 ⟨rfl, hb⟩
    go_wp2_with fail
    refine (HRK.out _ hb).mono ?_
    rintro e w2 ⟨rfl, hb'⟩
    have H2 : Hid (Below w.heap.size w w2) := below_via hb hb' (Nat.le_refl _)
    clear hb hb'
    go_wp2_with fail
    refine (HA.out _ H2.out).mono ?_
    rintro e w3 ⟨rfl, hb'⟩
    have H3 : Hid (Below w.heap.size w w3) := below_via H2.out hb' (Nat.le_refl _)
    clear hb'
    go_wp2_with fail
    refine (HRA.out _ H3.out).mono ?_
    rintro e w4 ⟨rfl, hb'⟩
    have H4 : Hid (Below w.heap.size w w4) := below_via H3.out hb' (Nat.le_refl _)
    clear hb'
    cases r
    all_goals
      go_wp2_with fail
      refine (live_t (HT.out.below H4.out)).mono ?_
      rintro e w5 ⟨rfl, hb'⟩
      have H5 : Hid (Below w.heap.size w w5) := below_via H4.out hb' (Nat.le_refl _)
      clear hb'
      go_wp2
      go_ret
      exact ⟨rfl, H5.out⟩
  · have cs : (16384 : Int) < (a.length : Int) ∨ (¬ (16384 : Int) < (a.length : Int) ∧ (16384 : Int) < (b.length : Int)) := by omega
    clear hbig
    rcases cs with b1 | ⟨b1, b2⟩
    all_goals
      go_enter Tryd.func5, Tryd.ntmps5
      go_wp2_with fail
      refine (live_t HT.out).mono ?_
      rintro e w1 ⟨rfl, hb⟩
      go_wp2
      go_ret
      exact ⟨rfl, hb⟩
end Go.Proofs.YtonekkfpadgdhaaDoor
