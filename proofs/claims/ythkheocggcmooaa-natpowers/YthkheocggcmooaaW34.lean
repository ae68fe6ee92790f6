/-
  The walks of the reference's add and sub.
-/
import Derived.Test.YthkheocggcmooaaW33
namespace Go.Proofs.Ythkheocggcmooaa
open Go.RowKit

theorem carry_step (P c x y Z A B : Int) (h : Z + P * c = A + B) : Z + P * ((x + y + c) % 65536) + 65536 * P * ((x + y + c) / 65536) = A + P * x + (B + P * y) := by
  have h1 := Int.mul_ediv_add_emod (x + y + c) 65536
  have h2 : P * ((x + y + c) % 65536) + 65536 * P * ((x + y + c) / 65536) = P * (65536 * ((x + y + c) / 65536) + (x + y + c) % 65536) := by grind
  rw [h1] at h2
  grind
theorem borrow_step (P c x y Z A B : Int) (h : Z = A - B + P * c) : Z + P * ((65536 + x - y - c) % 65536) = A + P * x - (B + P * y) + 65536 * P * (1 - (65536 + x - y - c) / 65536) := by
  have h1 := Int.mul_ediv_add_emod (65536 + x - y - c) 65536
  have h2 : P * ((65536 + x - y - c) % 65536) = P * (65536 + x - y - c) - 65536 * P * ((65536 + x - y - c) / 65536) := by
    rw [← h1]; grind
  rw [h2, h]; grind
theorem getD_out (xs : List Int) {n : Nat} (h : xs.length ≤ n) : xs.getD n 0 = 0 := by simp [List.getD, List.getElem?_eq_none h]

set_option maxHeartbeats 2000000 in
theorem add_any {w : World} (v u : Value) (A B : List Int) (hA : Sl .u64 w v A) (hB : Sl .u64 w u B) (uA : D.U16s A) (uB : D.U16s B) (lA : A.length ≤ 1073741824) (lB : B.length ≤ 1073741824) (N : Int) (hN : D.val A + D.val B = N) :
    Calls Try.prog 48 #[v, u] w fun e w' => ∃ r, e = .returned r ∧ Sl .u64 w' r (D.lim N.toNat) ∧ Below w.heap.size w w' := by
  have hA0 := hA; have hB0 := hB
  obtain ⟨a, ca, hv, _⟩ := hA.len
  obtain ⟨b, cb, hu, _⟩ := hB.len
  subst hv; subst hu
  have HN : Hid (D.val A + D.val B = N) := hN
  clear hN hA hB
  go_enter Try.func48, Try.ntmps48
  go_wp2
  go_loopw [5, 6, 7] (fun o t i wr => ∃ Z c, Row .u64 42 w.heap.size wr o Z ∧ t = .int .u64 c ∧ 0 ≤ c ∧ c ≤ 1 ∧ i = .int .i64 Z.length ∧ D.U16s Z ∧ D.val Z + 65536 ^ Z.length * c = D.val (A.take Z.length) + D.val (B.take Z.length) ∧
      Z.length ≤ maxN A.length B.length + 1 ∧ (Z.length = maxN A.length B.length + 1 → c = 0) ∧ Below w.heap.size w wr) (fun _ _ i _ => maxN A.length B.length + 1 - (intOf i).toNat)
  case atStart => exact ⟨[], 0, Row.nil _ _ _ _, rfl, by decide, by decide, rfl, D.U16s.nil, by simp [D.val], by simp, by simp, Below.refl _ _⟩
  case round =>
    obtain ⟨Z, c, hrow, rfl, hc0, hc1, rfl, uZ, heq, hle, hend, hBt⟩ := hrel
    have hmx : A.length ≤ maxN A.length B.length ∧ B.length ≤ maxN A.length B.length ∧ maxN A.length B.length ≤ 1073741824 := by unfold maxN; split <;> omega
    obtain ⟨hm1, hm2, hm3⟩ := hmx
    obtain ⟨M, hM⟩ : ∃ M, maxN A.length B.length = M := ⟨_, rfl⟩
    rw [hM] at hle hend hm1 hm2 hm3 ⊢
    clear hM
    obtain ⟨n, hn⟩ : ∃ n, Z.length = n := ⟨_, rfl⟩
    obtain ⟨x, hx⟩ : ∃ x, A.getD n 0 = x := ⟨_, rfl⟩
    obtain ⟨y, hy⟩ : ∃ y, B.getD n 0 = y := ⟨_, rfl⟩
    have ux : D.U16 x := hx ▸ uA.at n
    have uy : D.U16 y := hy ▸ uB.at n
    obtain ⟨ux1, ux2⟩ := ux
    obtain ⟨uy1, uy2⟩ := uy
    have hsz : w.heap.size ≤ wr.heap.size := hBt.size
    by_cases hgo : n < A.length ∨ n < B.length ∨ 0 < c
    · have hnM : n < M + 1 := by
        rcases hgo with h | h | h
        · omega
        · omega
        · have : n ≠ M + 1 := fun h' => by have := hend (by omega); omega
          omega
      have hend' : n = M → (x + y + c) / 65536 = 0 := fun h => by
        have h1 : x = 0 := by rw [← hx]; exact getD_out A (by omega)
        have h2 : y = 0 := by rw [← hy]; exact getD_out B (by omega)
        omega
      have hd1 := digit_nat _ A (below_sl hBt hA0) (by omega) n (by omega) x hx
      have hd2 := digit_nat _ B (below_sl hBt hB0) (by omega) n (by omega) y hy
      have HH : Hid (A.getD n 0 = x ∧ B.getD n 0 = y ∧ D.val Z + 65536 ^ Z.length * c = D.val (A.take Z.length) + D.val (B.take Z.length) ∧ Below w.heap.size w wr ∧ D.U16s Z ∧ Z.length = n ∧ (n = M → (x + y + c) / 65536 = 0)) := ⟨hx, hy, heq, hBt, uZ, hn, hend'⟩
      rw [hn] at hle ⊢
      clear hx hy heq hBt uZ hend hend' hA0 hB0
      have hzl : Z.length ≤ 1073741826 := by omega
      clear hn
      by_cases h1 : n < A.length
      · go_wp2_with (first
          | (go_at_call 64; replace hdone := hdone; refine (hd2).mono ?_; rintro e w' ⟨rfl, rfl⟩; clear hdone)
          | (go_at_call 64; refine (hd1).mono ?_; rintro e w' ⟨rfl, rfl⟩; have hdone := trivial)
          | (at_builtin; refine wpList_ap rfl (.tmp 34) (.tmp 37) 58 58 rfl .u64 42 8 Try.und64 Try.info64 (by decide) w.heap.size _ Z (by rfl) (hrow.alloc _) _ [(x + y + c) % 65536] (by rfl) (src_sl Try.und64 (Arr.sl64 (S := [(x + y + c) % 65536]) (arr_new rfl rfl))) (by simp only [List.length_singleton]; omega) (by simp; omega) ?_; intro v1 w1 hr1 hg1; have hB1 := hg1.below (hrow.alloc _) (by simp; omega)))
        go_roundw
        case rel =>
          obtain ⟨hx, hy, heq, hBt, uZ, hkz, hend⟩ := HH.out
          refine ⟨Z ++ [(x + y + c) % 65536], (x + y + c) / 65536, hr1, by go_num, by omega, by omega, by rw [List.length_append, hkz]; go_num, uZ.append (D.U16s.cons ⟨by omega, by omega⟩ D.U16s.nil), ?_, by rw [List.length_append, hkz]; simp; omega, fun h => ?_, (al hBt).trans hB1⟩
          · rw [D.val_snoc, List.length_append, List.length_singleton, D.pow_succ16, hkz, D.val_take_succ, D.val_take_succ, hx, hy]
            rw [hkz] at heq
            have := carry_step (65536 ^ n) c x y (D.val Z) _ _ heq
            rw [this]
          · rw [List.length_append, hkz] at h
            simp at h
            exact hend h
        case measure => simp [intOf]; omega
      by_cases h2 : n < B.length
      · go_wp2_with (first
          | (go_at_call 64; replace hdone := hdone; refine (hd2).mono ?_; rintro e w' ⟨rfl, rfl⟩; clear hdone)
          | (go_at_call 64; refine (hd1).mono ?_; rintro e w' ⟨rfl, rfl⟩; have hdone := trivial)
          | (at_builtin; refine wpList_ap rfl (.tmp 34) (.tmp 37) 58 58 rfl .u64 42 8 Try.und64 Try.info64 (by decide) w.heap.size _ Z (by rfl) (hrow.alloc _) _ [(x + y + c) % 65536] (by rfl) (src_sl Try.und64 (Arr.sl64 (S := [(x + y + c) % 65536]) (arr_new rfl rfl))) (by simp only [List.length_singleton]; omega) (by simp; omega) ?_; intro v1 w1 hr1 hg1; have hB1 := hg1.below (hrow.alloc _) (by simp; omega)))
        go_roundw
        case rel =>
          obtain ⟨hx, hy, heq, hBt, uZ, hkz, hend⟩ := HH.out
          refine ⟨Z ++ [(x + y + c) % 65536], (x + y + c) / 65536, hr1, by go_num, by omega, by omega, by rw [List.length_append, hkz]; go_num, uZ.append (D.U16s.cons ⟨by omega, by omega⟩ D.U16s.nil), ?_, by rw [List.length_append, hkz]; simp; omega, fun h => ?_, (al hBt).trans hB1⟩
          · rw [D.val_snoc, List.length_append, List.length_singleton, D.pow_succ16, hkz, D.val_take_succ, D.val_take_succ, hx, hy]
            rw [hkz] at heq
            have := carry_step (65536 ^ n) c x y (D.val Z) _ _ heq
            rw [this]
          · rw [List.length_append, hkz] at h
            simp at h
            exact hend h
        case measure => simp [intOf]; omega
      · have h3 : 0 < c := by omega
        go_wp2_with (first
          | (go_at_call 64; replace hdone := hdone; refine (hd2).mono ?_; rintro e w' ⟨rfl, rfl⟩; clear hdone)
          | (go_at_call 64; refine (hd1).mono ?_; rintro e w' ⟨rfl, rfl⟩; have hdone := trivial)
          | (at_builtin; refine wpList_ap rfl (.tmp 34) (.tmp 37) 58 58 rfl .u64 42 8 Try.und64 Try.info64 (by decide) w.heap.size _ Z (by rfl) (hrow.alloc _) _ [(x + y + c) % 65536] (by rfl) (src_sl Try.und64 (Arr.sl64 (S := [(x + y + c) % 65536]) (arr_new rfl rfl))) (by simp only [List.length_singleton]; omega) (by simp; omega) ?_; intro v1 w1 hr1 hg1; have hB1 := hg1.below (hrow.alloc _) (by simp; omega)))
        go_roundw
        case rel =>
          obtain ⟨hx, hy, heq, hBt, uZ, hkz, hend⟩ := HH.out
          refine ⟨Z ++ [(x + y + c) % 65536], (x + y + c) / 65536, hr1, by go_num, by omega, by omega, by rw [List.length_append, hkz]; go_num, uZ.append (D.U16s.cons ⟨by omega, by omega⟩ D.U16s.nil), ?_, by rw [List.length_append, hkz]; simp; omega, fun h => ?_, (al hBt).trans hB1⟩
          · rw [D.val_snoc, List.length_append, List.length_singleton, D.pow_succ16, hkz, D.val_take_succ, D.val_take_succ, hx, hy]
            rw [hkz] at heq
            have := carry_step (65536 ^ n) c x y (D.val Z) _ _ heq
            rw [this]
          · rw [List.length_append, hkz] at h
            simp at h
            exact hend h
        case measure => simp [intOf]; omega
    · have h1 : ¬ n < A.length := by omega
      have h2 : ¬ n < B.length := by omega
      have h3 : c = 0 := by omega
      subst h3
      have hs := hrow.sl
      have HV : Hid (D.val Z = N) := by
        rw [hn, List.take_of_length_le (by omega), List.take_of_length_le (by omega), Int.mul_zero, Int.add_zero] at heq
        exact heq.trans HN.out
      have hzl : Z.length ≤ 1073741826 := by omega
      rw [hn]
      clear heq hx hy hend hrow hA0 hB0 hgo hn
      go_wp2_with (go_at_call 66; refine (plain_sl _ Z hs uZ (by omega) N HV.out).mono ?_; rintro e w' ⟨r, rfl, hr, rfl⟩)
      go_ret
      exact ⟨r, rfl, hr, hBt⟩
end Go.Proofs.Ythkheocggcmooaa
