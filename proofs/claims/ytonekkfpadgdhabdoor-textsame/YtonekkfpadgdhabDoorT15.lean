/-
  Text: TextSame.
-/
import Derived.Test.YtonekkfpadgdhabDoorT11
import Derived.Test.YtonekkfpadgdhabDoorLaidT
namespace Go.Proofs.YtonekkfpadgdhabDoor
open Go.RowKit
theorem Tab.below {w w' : World} (h : Tab w) (hb : Below w.heap.size w w') : Tab w' := ⟨Utf8Tabs_below h.u8 hb, Tabs_below h.pw hb⟩
theorem live_t {w : World} (h : Tab w) : Calls Tryd.prog 4 #[] w fun e w' => e = .returned (.bool true) ∧ Below w.heap.size w w' := live_any h.u8 h.pw
set_option maxHeartbeats 2000000 in
set_option maxRecDepth 100000 in
theorem TextSame_any {w : World} (tag : Int) (u v x : Value) (a b c : List UInt8) (hA : Sl .u8 w u (nums a)) (hB : Sl .u8 w v (nums b)) (hC : Sl .u8 w x (nums c))
    (la : a.length ≤ 9223372036854775807) (lb : b.length ≤ 9223372036854775807) (lc : c.length ≤ 9223372036854775807) (h0 : -9223372036854775808 ≤ tag) (h1 : tag ≤ 9223372036854775807) (hT : Tab w) :
    Calls Tryd.prog 3 #[.int .i64 tag, u, v, x] w fun e w' => e = .returned (.bool true) ∧ Below w.heap.size w w' := by
  have HT : Hid (Tab w) := hT
  have HX : Hid (Sl .u8 w u (nums a) ∧ Sl .u8 w v (nums b) ∧ Sl .u8 w x (nums c)) := ⟨hA, hB, hC⟩
  obtain ⟨a1, c1, rfl, -⟩ := sl_str hA
  obtain ⟨a2, c2, rfl, -⟩ := sl_str hB
  obtain ⟨a3, c3, rfl, -⟩ := sl_str hC
  clear hT hA hB hC
  by_cases hbig : a.length ≤ 16384 ∧ b.length ≤ 16384 ∧ c.length ≤ 16384
  · have b1 : ¬ (16384 : Int) < (a.length : Int) := by omega
    have b2 : ¬ (16384 : Int) < (b.length : Int) := by omega
    have b3 : ¬ (16384 : Int) < (c.length : Int) := by omega
    have HAL : Hid (∀ (W : World) (p q : List UInt8) (y z : Value), Below w.heap.size w W → p.length ≤ 16384 → q.length ≤ 16384 → Sl .u8 w y (nums p) → Sl .u8 w z (nums q) → Calls Tryd.prog 5 #[.int .i64 tag, y, .int .i64 tag, z] W fun e w' => e = .returned (.bool (decide (keyB tag p = keyB tag q))) ∧ Below W.heap.size W w') :=
      fun W p q y z hW lp lq hp hq => Alike_any tag tag y z p q (below_sl hW hp) (below_sl hW hq) (by omega) (by omega) h0 h1 h0 h1 (HT.out.below hW).u8 (HT.out.below hW).pw
    obtain ⟨A, hAk⟩ : ∃ A, keyB tag a = A := ⟨_, rfl⟩
    obtain ⟨B, hBk⟩ : ∃ B, keyB tag b = B := ⟨_, rfl⟩
    obtain ⟨C, hCk⟩ : ∃ C, keyB tag c = C := ⟨_, rfl⟩
    have HL : Hid (a.length ≤ 16384 ∧ b.length ≤ 16384 ∧ c.length ≤ 16384) := hbig
    have HAB : Hid (∀ W : World, Below w.heap.size w W → Calls Tryd.prog 5 #[.int .i64 tag, .slice a1 a.length c1, .int .i64 tag, .slice a2 b.length c2] W fun e w' => e = .returned (.bool (decide (A = B))) ∧ Below W.heap.size W w') := fun W hW => hAk ▸ hBk ▸ HAL.out W a b _ _ hW hbig.1 hbig.2.1 HX.out.1 HX.out.2.1
    have HBA : Hid (∀ W : World, Below w.heap.size w W → Calls Tryd.prog 5 #[.int .i64 tag, .slice a2 b.length c2, .int .i64 tag, .slice a1 a.length c1] W fun e w' => e = .returned (.bool (decide (B = A))) ∧ Below W.heap.size W w') := fun W hW => hAk ▸ hBk ▸ HAL.out W b a _ _ hW hbig.2.1 hbig.1 HX.out.2.1 HX.out.1
    have HBC : Hid (∀ W : World, Below w.heap.size w W → Calls Tryd.prog 5 #[.int .i64 tag, .slice a2 b.length c2, .int .i64 tag, .slice a3 c.length c3] W fun e w' => e = .returned (.bool (decide (B = C))) ∧ Below W.heap.size W w') := fun W hW => hCk ▸ hBk ▸ HAL.out W b c _ _ hW hbig.2.1 hbig.2.2 HX.out.2.1 HX.out.2.2
    have HAC : Hid (∀ W : World, Below w.heap.size w W → Calls Tryd.prog 5 #[.int .i64 tag, .slice a1 a.length c1, .int .i64 tag, .slice a3 c.length c3] W fun e w' => e = .returned (.bool (decide (A = C))) ∧ Below W.heap.size W w') := fun W hW => hCk ▸ hAk ▸ HAL.out W a c _ _ hW hbig.1 hbig.2.2 HX.out.1 HX.out.2.2
    have HAA : Hid (∀ W : World, Below w.heap.size w W → Calls Tryd.prog 5 #[.int .i64 tag, .slice a1 a.length c1, .int .i64 tag, .slice a1 a.length c1] W fun e w' => e = .returned (.bool true) ∧ Below W.heap.size W w') := fun W hW => by
      have := HAL.out W a a _ _ hW hbig.1 hbig.1 HX.out.1 HX.out.1
      rw [decide_eq_true rfl] at this
      exact this
    obtain ⟨p, hp⟩ : ∃ p, decide (A = B) = p := ⟨_, rfl⟩
    obtain ⟨q, hq⟩ : ∃ q, decide (B = C) = q := ⟨_, rfl⟩
    have hBA : decide (B = A) = p := by rw [← hp]; simp [eq_comm]
    obtain ⟨r, hr⟩ : ∃ r, decide (A = C) = r := ⟨_, rfl⟩
    have hpr : p = true → q = r := by
      intro h
      rw [h] at hp
      have := of_decide_eq_true hp
      rw [← hq, ← hr, this]
    rw [hp] at HAB
    rw [hBA] at HBA
    rw [hq] at HBC
    rw [hr] at HAC
    clear hp hq hBA hr hAk hBk hCk hbig
    cases p
    · clear hpr
      go_enter Tryd.func3, Tryd.ntmps3
      go_wp2_with fail
      refine (HAB.out _ (Below.refl _ _)).mono ?_
      rintro e w1 ⟨rfl, hb⟩
      go_wp2_with fail
      refine (HBA.out _ hb).mono ?_
      rintro e w2 ⟨rfl, hb'⟩
      have hb2 := below_via hb hb' (Nat.le_refl _)
      clear hb hb'
      go_wp2_with fail
      refine (HBC.out _ hb2).mono ?_
      rintro e w3 ⟨rfl, hb'⟩
      have hb3 := below_via hb2 hb' (Nat.le_refl _)
      clear hb2 hb'
      go_wp2_with fail
      refine (HAC.out _ hb3).mono ?_
      rintro e w4 ⟨rfl, hb'⟩
      have hb4 := below_via hb3 hb' (Nat.le_refl _)
      clear hb3 hb'
      go_wp2_with fail
      refine (HAA.out _ hb4).mono ?_
      rintro e w5 ⟨rfl, hb'⟩
      have hb5 := below_via hb4 hb' (Nat.le_refl _)
      clear hb4 hb'
      go_wp2_with fail
      refine (live_t (HT.out.below hb5)).mono ?_
      rintro e w6 ⟨rfl, hb'⟩
      have hb6 := below_via hb5 hb' (Nat.le_refl _)
      clear hb5 hb'
      go_wp2
      go_ret
      exact ⟨rfl, hb6⟩
    · obtain rfl := hpr rfl
      go_enter Tryd.func3, Tryd.ntmps3
      go_wp2_with fail
      refine (HAB.out _ (Below.refl _ _)).mono ?_
      rintro e w1 ⟨rfl, hb⟩
      go_wp2_with fail
      refine (HBA.out _ hb).mono ?_
      rintro e w2 ⟨rfl, hb'⟩
      have hb2 := below_via hb hb' (Nat.le_refl _)
      clear hb hb'
      go_wp2_with fail
      refine (HBC.out _ hb2).mono ?_
      rintro e w3 ⟨rfl, hb'⟩
      have hb3 := below_via hb2 hb' (Nat.le_refl _)
      clear hb2 hb'
      go_wp2_with fail
      refine (HAC.out _ hb3).mono ?_
      rintro e w4 ⟨rfl, hb'⟩
      have hb4 := below_via hb3 hb' (Nat.le_refl _)
      clear hb3 hb'
      go_wp2_with fail
      refine (HAA.out _ hb4).mono ?_
      rintro e w5 ⟨rfl, hb'⟩
      have hb5 := below_via hb4 hb' (Nat.le_refl _)
      clear hb4 hb'
      cases q
      all_goals
        go_wp2_with fail
        refine (live_t (HT.out.below hb5)).mono ?_
        rintro e w6 ⟨rfl, hb'⟩
        have hb6 := below_via hb5 hb' (Nat.le_refl _)
        clear hb5 hb'
        go_wp2
        go_ret
        exact ⟨rfl, hb6⟩
  · have cs : (16384 : Int) < (a.length : Int) ∨ (¬ (16384 : Int) < (a.length : Int) ∧ (16384 : Int) < (b.length : Int)) ∨ (¬ (16384 : Int) < (a.length : Int) ∧ ¬ (16384 : Int) < (b.length : Int) ∧ (16384 : Int) < (c.length : Int)) := by omega
    clear hbig
    rcases cs with b1 | ⟨b1, b2⟩ | ⟨b1, b2, b3⟩
    all_goals
      go_enter Tryd.func3, Tryd.ntmps3
      go_wp2_with fail
      refine (live_t HT.out).mono ?_
      rintro e w1 ⟨rfl, hb⟩
      go_wp2
      go_ret
      exact ⟨rfl, hb⟩
end Go.Proofs.YtonekkfpadgdhabDoor
