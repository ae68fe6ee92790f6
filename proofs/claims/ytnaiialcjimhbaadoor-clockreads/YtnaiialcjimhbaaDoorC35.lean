/-
  Clock: the reference's General, given rest.
-/
import Derived.Test.YtnaiialcjimhbaaDoorC34
namespace Go.Proofs.YtnaiialcjimhbaaDoor
open Go.RowKit
set_option maxRecDepth 100000 in
set_option maxHeartbeats 8000000 in
theorem RGeneral_any {w : World} (hRC : RestC) (a : Option Addr) (L c : Nat) (X : List Int) (hX : Sl .u8 w (.slice a L c) X) (hL : X.length = L) (hU : U8s X) (hl : L ≤ 1000000) :
    Calls Tryd.prog 19 #[.slice a L c] w fun e w' => GeneralIs X e ∧ Below w.heap.size w w' := by
  obtain ⟨y, hy⟩ : ∃ y, numR X 0 4 = y := ⟨_, rfl⟩
  have HX : Hid (Sl .u8 w (.slice a L c) X ∧ X.length = L ∧ U8s X) := ⟨hX, hL, hU⟩
  have HN : Hid (∀ w : World, Sl .u8 w (.slice a L c) X → Calls Tryd.prog 35 #[.slice a L c, .int .i64 0, .int .i64 4] w fun e w' => e = .returned (.int .i64 y) ∧ w' = w) := fun w h => Rnumber_at a L c X h hL hU hl 0 0 4 y 4 rfl rfl (by omega) (by omega) (by omega) hy
  have HR : Hid (∀ (w : World), Sl .u8 w (.slice a L c) X → Calls Tryd.prog 36 #[.slice a L c, .int .i64 4, .int .i64 y] w fun e w' => RestIs (restMo X 4 y) e ∧ Below w.heap.size w w') := fun w h => hRC w a L c X h hL hU hl 4 (by omega) y
  have HW : Hid (∀ (e : Ending), RestIs (restMo X 4 y) e → ∃ b : Bool, e = .returned (.tuple #[.agg (restMo X 4 y).cells.toArray, .bool b]) ∧ (b = true ↔ RestOk (restMo X 4 y))) := fun e h => by
    rcases h with ⟨k, h⟩ | ⟨k, h⟩
    · exact ⟨true, h, by simp [k]⟩
    · exact ⟨false, h, by simp [k]⟩
  have HSec : Hid (∀ w : World, Calls Tryd.prog 10 #[.agg (restMo X 4 y).cells.toArray] w fun e w' => SecondsIs (restMo X 4 y) e ∧ Below w.heap.size w w') := fun w => RSeconds_any _
  have H15 : Hid (L = 15 → X.getD 14 0 = 90 → RestOk (restMo X 4 y) → GenSays X (restMo X 4 y) 0) := fun h1 h2 h3 => by
    have := gen_yes15 (X := X) (by omega) h2 (by rw [hy]; exact h3)
    rw [hy] at this; exact this
  have HY : Hid (∀ n, L = 16 + n → 1 ≤ n → n ≤ 6 → X.getD 14 0 = 46 → X.getD (15 + n) 0 = 90 → RestOk (restMo X 4 y) → 0 ≤ numR X 15 n → ¬ numR X 15 n % 10 = 0 → GenSays X (restMo X 4 y) (numR X 15 n * 10 ^ (6 - n))) := fun n h1 h2 h3 h4 h5 h6 h7 h8 => by
    have := gen_yes (X := X) (n := n) (by omega) h2 h3 h4 h5 (by rw [hy]; exact h6) h7 h8
    rw [hy] at this; exact this
  have HNo : Hid (∀ t mi, GenSays X t mi → RestOk (restMo X 4 y) ∧ 15 ≤ L ∧ X.getD (L - 1) 0 = 90 ∧ (L = 15 ∨ ∃ n, L = 16 + n ∧ 1 ≤ n ∧ n ≤ 6 ∧ X.getD 14 0 = 46 ∧ 0 ≤ numR X 15 n ∧ ¬ numR X 15 n % 10 = 0)) := fun t mi h => by
    have := gen_no h
    rw [hy, hL] at this; exact this
  have HNE : Hid (∀ (w : World) (n : Nat), Sl .u8 w (.slice a L c) X → 1 ≤ n → n ≤ 6 → Calls Tryd.prog 35 #[.slice a L c, .int .i64 15, .int .i64 n] w fun e w' => e = .returned (.int .i64 (numR X 15 n)) ∧ w' = w) := fun w n h h1 h6 => Rnumber_at a L c X h hL hU hl 15 15 n (numR X 15 n) n rfl rfl (by omega) h1 h6 rfl
  have HNS : Hid (∀ (w : World) (n : Nat), Sl .u8 w (.slice a L c) X → n ≤ 1000000 → Calls Tryd.prog 35 #[.slice a L c, .int .i64 15, .int .i64 n] w fun e w' => (∃ r, e = .returned (.int .i64 r)) ∧ w' = w) := fun w n h h1 => Rnumber_some a L c X h hL hU hl 15 n (by omega) h1
  generalize ht : restMo X 4 y = t at HR HW HSec H15 HY HNo
  clear ht hX hU hy
  obtain ⟨Y', M, D, h, m, s⟩ := t
  unfold Mo.cells at HW HSec
  go_enter Tryd.func19, Tryd.ntmps19
  go_wp2_with fail
  refine (HN.out _ HX.out.1).mono ?_
  rintro e w' ⟨rfl, rfl⟩
  go_wp2_with fail
  refine (HR.out _ HX.out.1).mono ?_
  rintro e w1 ⟨hR, hb⟩
  obtain ⟨b, rfl, hbk⟩ := HW.out e hR
  have hb1 : Below w'.heap.size w' w1 := hb
  have hs1 : Sl .u8 w1 (.slice a L c) X := below_sl hb HX.out.1
  have HB : Hid (b = true ↔ RestOk ⟨Y', M, D, h, m, s⟩) := hbk
  clear hb hR hbk
  go_upto_region 2 with (fail)
  refine wp_gen (fun W => Below w'.heap.size w' W ∧ Blk 23 W w1.heap.size (Mo.cells ⟨Y', M, D, h, m, s⟩) ∧ Sl .u8 W (.slice a L c) X) ⟨al2' hb1, Blk.new _ w1 (Mo.cells ⟨Y', M, D, h, m, s⟩), sl_alloc hs1 _⟩ ?_
  clear hb1 hs1
  obtain ⟨p, hp⟩ : ∃ p, w1.heap.size = p := ⟨_, rfl⟩
  rw [hp]
  clear hp
  rintro w2 ⟨hb2, hB2, hS2⟩
  obtain ⟨c0, c1, c2, c3, c4, c5, g0, g1, g2, g3, g4, g5⟩ := Mo.facts hB2
  have H2 : Hid (Below w'.heap.size w' w2 ∧ Sl .u8 w2 (.slice a L c) X) := ⟨hb2, hS2⟩
  clear hb2 hB2 hS2 g0 g1 g2 g3 g4 g5
  cases b with
  | false =>
    go_wp2
    go_ret3
    refine ⟨Or.inr (Or.inr ⟨fun t mi hG => ?_, rfl⟩), H2.out.1⟩
    have := HB.out.2 (HNo.out t mi hG).1
    cases this
  | true =>
    by_cases h15 : L < 15
    · have h15I : (L : Int) < 15 := by omega
      go_wp2
      go_ret3
      refine ⟨Or.inr (Or.inr ⟨fun t mi hG => ?_, rfl⟩), H2.out.1⟩
      have := (HNo.out t mi hG).2.1
      omega
    obtain ⟨b, off, rfl, hcz⟩ := sl_at H2.out.2 (L - 1) (by have := HX.out.2.1; omega)
    obtain ⟨z, hz⟩ : ∃ z, X.getD (L - 1) 0 = z := ⟨_, rfl⟩
    rw [hz] at hcz
    obtain ⟨k, hk⟩ : ∃ k, L - 1 = k := ⟨_, rfl⟩
    rw [hk] at hcz
    have hkI : (L : Int) - 1 = (k : Int) := by omega
    have hkL : (k : Int) < (L : Int) := by omega
    have h15I : ¬ (L : Int) < 15 := by omega
    by_cases hz90 : z = 90
    rotate_left
    · go_wp2
      go_ret3
      refine ⟨Or.inr (Or.inr ⟨fun t mi hG => ?_, rfl⟩), H2.out.1⟩
      have := (HNo.out t mi hG).2.2.1
      omega
    subst hz90
    by_cases hL15 : L = 15
    · have h15J : ¬ (15 : Int) < (L : Int) := by omega
      have HG : Hid (GenSays X ⟨Y', M, D, h, m, s⟩ 0) := H15.out hL15 (by rw [← hz, hL15]) (HB.out.1 rfl)
      obtain rfl : k = 14 := by omega
      subst hL15
      clear hz hk hkI hkL h15I h15J
      go_wp2_with fail
      refine (HSec.out _).mono ?_
      rintro e w3 ⟨hs, hb⟩
      have H3 : Hid (Below w'.heap.size w' w3) := below_via H2.out.1 hb (Nat.le_refl _)
      clear hb
      rcases hs with ⟨hO, rfl⟩ | ⟨hO, rfl⟩
      · have H6 : Hid (Mo.Ok ⟨Y', M, D, h, m, s⟩) := hO
        clear hO
        go_wp2
        go_ret3
        exact ⟨Or.inl ⟨_, _, HG.out, H6.out, rfl⟩, H3.out⟩
      · have H6 : Hid (¬ Mo.Ok ⟨Y', M, D, h, m, s⟩) := hO
        clear hO
        go_wp2
        go_ret3
        exact ⟨Or.inr (Or.inl ⟨_, _, HG.out, H6.out, rfl⟩), H3.out⟩
    have h15J : (15 : Int) < (L : Int) := by omega
    obtain ⟨n, hn⟩ : ∃ n, L - 16 = n := ⟨_, rfl⟩
    have hLn : L = 16 + n := by omega
    have hnI : (L : Int) - 16 = (n : Int) := by omega
    obtain ⟨b', off', he, hc14⟩ := sl_at H2.out.2 14 (by have := HX.out.2.1; omega)
    simp only [Option.some.injEq, Addr.mk.injEq, and_true] at he
    obtain ⟨rfl, rfl⟩ := he
    obtain ⟨x, hx⟩ : ∃ x, X.getD 14 0 = x := ⟨_, rfl⟩
    rw [hx] at hc14
    have hk14 : (14 : Int) < (L : Int) := by omega
    have HZ : Hid (X.getD (15 + n) 0 = 90 ∧ X.getD 14 0 = x ∧ L = 16 + n) := ⟨by rw [← hz]; congr 1; omega, hx, hLn⟩
    have HBad : Hid (∀ t mi, GenSays X t mi → 1 ≤ n ∧ n ≤ 6 ∧ x = 46 ∧ 0 ≤ numR X 15 n ∧ ¬ numR X 15 n % 10 = 0) := fun t mi hG => by
      obtain ⟨_, _, _, h | ⟨n', k1, k2, k3, k4, k5, k6⟩⟩ := HNo.out t mi hG
      · omega
      · obtain rfl : n' = n := by omega
        exact ⟨k2, k3, by rw [← hx]; exact k4, k5, k6⟩
    clear hz hk hx hLn hn
    by_cases hn16 : 1 ≤ n ∧ n ≤ 6
    · obtain ⟨n1, n6⟩ := hn16
      have n1I : ¬ (n : Int) < 1 := by omega
      have n6I : ¬ (6 : Int) < (n : Int) := by omega
      obtain ⟨r, hr⟩ : ∃ r, numR X 15 n = r := ⟨_, rfl⟩
      have hrr : -1 ≤ r ∧ r < 10 ^ n := by
        rw [← hr]
        refine ⟨numR_ge.1, ?_⟩
        have hp : (0 : Int) < 10 ^ n := Int.pow_pos (by decide)
        by_cases h : 15 + n ≤ X.length ∧ Dgs (sub X 15 n)
        · rw [numR_yes h.1 h.2]
          have := (nval_bound _ h.2).2
          rwa [sub_len h.1] at this
        · rw [numR_no h]; omega
      have r0 := hrr.1
      have r1 : r ≤ 100000000000000 := by have := pow_le14 (show n ≤ 14 by omega); omega
      have HRn : Hid (numR X 15 n = r ∧ r < 10 ^ n) := ⟨hr, hrr.2⟩
      clear hr hrr
      by_cases hx46 : x = 46
      · by_cases hr0 : r < 0
        · go_wp2_with (go_at_call 35; refine (HNE.out _ n H2.out.2 n1 n6).mono ?_; rintro e w'' ⟨rfl, rfl⟩; rw [HRn.out.1])
          go_ret3
          refine ⟨Or.inr (Or.inr ⟨fun t mi hG => ?_, rfl⟩), H2.out.1⟩
          have := (HBad.out t mi hG).2.2.2.1
          rw [HRn.out.1] at this; omega
        · by_cases hr10 : r % 10 = 0
          · go_wp2_with (go_at_call 35; refine (HNE.out _ n H2.out.2 n1 n6).mono ?_; rintro e w'' ⟨rfl, rfl⟩; rw [HRn.out.1])
            go_ret3
            refine ⟨Or.inr (Or.inr ⟨fun t mi hG => ?_, rfl⟩), H2.out.1⟩
            have := (HBad.out t mi hG).2.2.2.2
            rw [HRn.out.1] at this; exact this hr10
          · have hr10B : (r % 10 == 0) = false := by simp [hr10]
            have HG : Hid (GenSays X ⟨Y', M, D, h, m, s⟩ (r * 10 ^ (6 - n))) := by
              have := HY.out n HZ.out.2.2 n1 n6 (by rw [HZ.out.2.1]; exact hx46) HZ.out.1 (HB.out.1 rfl) (by rw [HRn.out.1]; omega) (by rw [HRn.out.1]; exact hr10)
              rw [HRn.out.1] at this; exact this
            go_wp2_with (go_at_call 35; refine (HNE.out _ n H2.out.2 n1 n6).mono ?_; rintro e w'' ⟨rfl, rfl⟩; rw [HRn.out.1])
            go_loopw [7, 8] (fun mv nv wr => ∃ j : Nat, n ≤ j ∧ j ≤ 6 ∧ mv = .int .i64 (r * 10 ^ (j - n)) ∧ nv = .int .i64 j ∧ w'' = wr) (fun _ nv _ => 6 - (intOf nv).toNat)
            case atStart => exact ⟨n, by omega, n6, by simp, rfl, rfl⟩
            case round =>
              obtain ⟨j, j0, j1, rfl, rfl, rfl⟩ := hrel
              obtain ⟨q, hq⟩ : ∃ q, r * 10 ^ (j - n) = q := ⟨_, rfl⟩
              have hqr : 0 ≤ q ∧ q ≤ 100000000000000 := by
                have hp : (0 : Int) < 10 ^ (j - n) := Int.pow_pos (by decide)
                rw [← hq]
                refine ⟨Int.mul_nonneg (by omega) (by omega), ?_⟩
                have h1 : r * 10 ^ (j - n) ≤ 10 ^ n * 10 ^ (j - n) := Int.mul_le_mul_of_nonneg_right (by have := HRn.out.2; omega) (by omega)
                rw [← Int.pow_add, show n + (j - n) = j by omega] at h1
                have := pow_le14 (show j ≤ 14 by omega)
                omega
              obtain ⟨q0, q1⟩ := hqr
              have HQ : Hid (r * 10 ^ (j - n) = q) := hq
              rw [hq]
              clear hq
              by_cases hj6 : j < 6
              · have hj6I : (j : Int) < 6 := by omega
                go_wp2
                refine ⟨⟨j + 1, by omega, by omega, ?_, by go_num, trivial⟩, by simp [intOf]; omega⟩
                rw [show j + 1 - n = (j - n) + 1 by omega, Int.pow_succ, ← Int.mul_assoc, HQ.out]
              · obtain rfl : j = 6 := by omega
                have HG2 : Hid (GenSays X ⟨Y', M, D, h, m, s⟩ q) := by
                  have := HG.out; rw [HQ.out] at this; exact this
                go_wp2_with fail
                refine (HSec.out _).mono ?_
                rintro e w3 ⟨hs, hb⟩
                have H3 : Hid (Below w'.heap.size w' w3) := below_via H2.out.1 hb (Nat.le_refl _)
                clear hb
                rcases hs with ⟨hO, rfl⟩ | ⟨hO, rfl⟩
                · have H6 : Hid (Mo.Ok ⟨Y', M, D, h, m, s⟩) := hO
                  clear hO
                  go_wp2
                  go_ret3
                  exact ⟨Or.inl ⟨_, _, HG2.out, H6.out, rfl⟩, H3.out⟩
                · have H6 : Hid (¬ Mo.Ok ⟨Y', M, D, h, m, s⟩) := hO
                  clear hO
                  go_wp2
                  go_ret3
                  exact ⟨Or.inr (Or.inl ⟨_, _, HG2.out, H6.out, rfl⟩), H3.out⟩
      · go_wp2_with (go_at_call 35; refine (HNE.out _ n H2.out.2 n1 n6).mono ?_; rintro e w'' ⟨rfl, rfl⟩; rw [HRn.out.1])
        go_ret3
        refine ⟨Or.inr (Or.inr ⟨fun t mi hG => hx46 (HBad.out t mi hG).2.2.1, rfl⟩), H2.out.1⟩
    · have hnbig : n ≤ 1000000 := by omega
      by_cases hx46 : x = 46
      · by_cases hn1 : (n : Int) < 1
        · go_wp2_with (go_at_call 35; refine (HNS.out _ n H2.out.2 hnbig).mono ?_; rintro e w'' ⟨⟨r, rfl⟩, rfl⟩)
          go_ret3
          refine ⟨Or.inr (Or.inr ⟨fun t mi hG => ?_, rfl⟩), H2.out.1⟩
          have := HBad.out t mi hG
          omega
        · have hn6 : (6 : Int) < (n : Int) := by omega
          go_wp2_with (go_at_call 35; refine (HNS.out _ n H2.out.2 hnbig).mono ?_; rintro e w'' ⟨⟨r, rfl⟩, rfl⟩)
          go_ret3
          refine ⟨Or.inr (Or.inr ⟨fun t mi hG => ?_, rfl⟩), H2.out.1⟩
          have := HBad.out t mi hG
          omega
      · go_wp2_with (go_at_call 35; refine (HNS.out _ n H2.out.2 hnbig).mono ?_; rintro e w'' ⟨⟨r, rfl⟩, rfl⟩)
        go_ret3
        refine ⟨Or.inr (Or.inr ⟨fun t mi hG => hx46 (HBad.out t mi hG).2.2.1, rfl⟩), H2.out.1⟩
end Go.Proofs.YtnaiialcjimhbaaDoor
