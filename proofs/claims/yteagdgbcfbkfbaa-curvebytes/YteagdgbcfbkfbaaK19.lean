/-
  The walks of the reference's add and sub.
-/
import Derived.Deep.CutRange
import Derived.Test.YteagdgbcfbkfbaaK18
namespace Go.Proofs.Yteagdgbcfbkfbaa.Nt
open Go.RowKit

theorem carry_step (P c x y Z A B : Int) (h : Z + P * c = A + B) : Z + P * ((x + y + c) % 65536) + 65536 * P * ((x + y + c) / 65536) = A + P * x + (B + P * y) := by
  have h1 := Int.mul_ediv_add_emod (x + y + c) 65536
  have h2 : P * ((x + y + c) % 65536) + 65536 * P * ((x + y + c) / 65536) = P * (65536 * ((x + y + c) / 65536) + (x + y + c) % 65536) := by grind
  rw [h1] at h2
  grind
theorem borrow_step (P c x y Z A B : Int) (h : Z = A - B + P * c) : Z + P * ((65536 + x - y - c) % 65536) = A + P * x - (B + P * y) + 65536 * P * (1 - (65536 + x - y - c) / 65536) := by
  have h1 := Int.mul_ediv_add_emod (65536 + x - y - c) 65536
  have h2 : P * ((65536 + x - y - c) % 65536) = P * (65536 + x - y - c) - 65536 * P * ((65536 + x - y - c) / 65536) := by
    rw [← h1]; grind
  rw [h2, h]; grind
theorem getD_out (xs : List Int) {n : Nat} (h : xs.length ≤ n) : xs.getD n 0 = 0 := by simp [List.getD, List.getElem?_eq_none h]

set_option maxHeartbeats 2000000 in
theorem add_any {w : World} (v u : Value) (A B : List Int) (hA : Sl .u64 w v A) (hB : Sl .u64 w u B) (uA : D.U16s A) (uB : D.U16s B) (lA : A.length ≤ 1073741824) (lB : B.length ≤ 1073741824) (N : Int) (hN : D.val A + D.val B = N) :
    Calls Try.prog 104 #[v, u] w fun e w' => ∃ r, e = .returned r ∧ Sl .u64 w' r (D.lim N.toNat) ∧ Below w.heap.size w w' := by
  have hA0 := hA; have hB0 := hB
  obtain ⟨a, ca, hv, _⟩ := hA.len
  obtain ⟨b, cb, hu, _⟩ := hB.len
  subst hv; subst hu
  have HN : Hid (D.val A + D.val B = N) := hN
  clear hN hA hB
  go_enter Try.func104, Try.ntmps104
  go_wp2
  go_loopw [5, 6, 7] (fun o t i wr => ∃ Z c, Row .u64 59 w.heap.size wr o Z ∧ t = .int .u64 c ∧ 0 ≤ c ∧ c ≤ 1 ∧ i = .int .i64 Z.length ∧ D.U16s Z ∧ D.val Z + 65536 ^ Z.length * c = D.val (A.take Z.length) + D.val (B.take Z.length) ∧
      Z.length ≤ maxN A.length B.length + 1 ∧ (Z.length = maxN A.length B.length + 1 → c = 0) ∧ Below w.heap.size w wr) (fun _ _ i _ => maxN A.length B.length + 1 - (intOf i).toNat)
  case atStart => exact ⟨[], 0, Row.nil _ _ _ _, rfl, by decide, by decide, rfl, D.U16s.nil, by simp [D.val], by simp, by simp, Below.refl _ _⟩
  case round =>
    obtain ⟨Z, c, hrow, rfl, hc0, hc1, rfl, uZ, heq, hle, hend, hBt⟩ := hrel
    have hmx : A.length ≤ maxN A.length B.length ∧ B.length ≤ maxN A.length B.length ∧ maxN A.length B.length ≤ 1073741824 := by unfold maxN; split <;> omega
    obtain ⟨hm1, hm2, hm3⟩ := hmx
    obtain ⟨M, hM⟩ : ∃ M, maxN A.length B.length = M := ⟨_, rfl⟩
    rw [hM] at hle hend hm1 hm2 hm3 ⊢
    clear hM
    obtain ⟨n, hn⟩ : ∃ n, Z.length = n := ⟨_, rfl⟩
    obtain ⟨x, hx⟩ : ∃ x, A.getD n 0 = x := ⟨_, rfl⟩
    obtain ⟨y, hy⟩ : ∃ y, B.getD n 0 = y := ⟨_, rfl⟩
    have ux : D.U16 x := hx ▸ uA.at n
    have uy : D.U16 y := hy ▸ uB.at n
    obtain ⟨ux1, ux2⟩ := ux
    obtain ⟨uy1, uy2⟩ := uy
    have hsz : w.heap.size ≤ wr.heap.size := hBt.size
    by_cases hgo : n < A.length ∨ n < B.length ∨ 0 < c
    · have hnM : n < M + 1 := by
        rcases hgo with h | h | h
        · omega
        · omega
        · have : n ≠ M + 1 := fun h' => by have := hend (by omega); omega
          omega
      have hend' : n = M → (x + y + c) / 65536 = 0 := fun h => by
        have h1 : x = 0 := by rw [← hx]; exact getD_out A (by omega)
        have h2 : y = 0 := by rw [← hy]; exact getD_out B (by omega)
        omega
      have hd1 := digit_nat _ A (below_sl hBt hA0) (by omega) n (by omega) x hx
      have hd2 := digit_nat _ B (below_sl hBt hB0) (by omega) n (by omega) y hy
      have HH : Hid (A.getD n 0 = x ∧ B.getD n 0 = y ∧ D.val Z + 65536 ^ Z.length * c = D.val (A.take Z.length) + D.val (B.take Z.length) ∧ Below w.heap.size w wr ∧ D.U16s Z ∧ Z.length = n ∧ (n = M → (x + y + c) / 65536 = 0)) := ⟨hx, hy, heq, hBt, uZ, hn, hend'⟩
      rw [hn] at hle ⊢
      clear hx hy heq hBt uZ hend hend' hA0 hB0
      have hzl : Z.length ≤ 1073741826 := by omega
      clear hn
      by_cases h1 : n < A.length
      · go_wp2_with (first
          | (go_at_call 97; replace hdone := hdone; refine (hd2).mono ?_; rintro e w' ⟨rfl, rfl⟩; clear hdone)
          | (go_at_call 97; refine (hd1).mono ?_; rintro e w' ⟨rfl, rfl⟩; have hdone := trivial)
          | (at_builtin; refine wpList_ap rfl (.tmp 34) (.tmp 37) 112 112 rfl .u64 59 8 Try.und64 Try.info64 (by decide) w.heap.size _ Z (by rfl) (hrow.alloc _) _ [(x + y + c) % 65536] (by rfl) (src_sl Try.und64 (Arr.sl64 (S := [(x + y + c) % 65536]) (arr_new rfl rfl))) (by simp only [List.length_singleton]; omega) (by simp; omega) ?_; intro v1 w1 hr1 hg1; have hB1 := hg1.below (hrow.alloc _) (by simp; omega)))
        go_roundw
        case rel =>
          obtain ⟨hx, hy, heq, hBt, uZ, hkz, hend⟩ := HH.out
          refine ⟨Z ++ [(x + y + c) % 65536], (x + y + c) / 65536, hr1, by go_num, by omega, by omega, by rw [List.length_append, hkz]; go_num, uZ.append (D.U16s.cons ⟨by omega, by omega⟩ D.U16s.nil), ?_, by rw [List.length_append, hkz]; simp; omega, fun h => ?_, (al hBt).trans hB1⟩
          · rw [D.val_snoc, List.length_append, List.length_singleton, D.pow_succ16, hkz, D.val_take_succ, D.val_take_succ, hx, hy]
            rw [hkz] at heq
            have := carry_step (65536 ^ n) c x y (D.val Z) _ _ heq
            rw [this]
          · rw [List.length_append, hkz] at h
            simp at h
            exact hend h
        case measure => simp [intOf]; omega
      by_cases h2 : n < B.length
      · go_wp2_with (first
          | (go_at_call 97; replace hdone := hdone; refine (hd2).mono ?_; rintro e w' ⟨rfl, rfl⟩; clear hdone)
          | (go_at_call 97; refine (hd1).mono ?_; rintro e w' ⟨rfl, rfl⟩; have hdone := trivial)
          | (at_builtin; refine wpList_ap rfl (.tmp 34) (.tmp 37) 112 112 rfl .u64 59 8 Try.und64 Try.info64 (by decide) w.heap.size _ Z (by rfl) (hrow.alloc _) _ [(x + y + c) % 65536] (by rfl) (src_sl Try.und64 (Arr.sl64 (S := [(x + y + c) % 65536]) (arr_new rfl rfl))) (by simp only [List.length_singleton]; omega) (by simp; omega) ?_; intro v1 w1 hr1 hg1; have hB1 := hg1.below (hrow.alloc _) (by simp; omega)))
        go_roundw
        case rel =>
          obtain ⟨hx, hy, heq, hBt, uZ, hkz, hend⟩ := HH.out
          refine ⟨Z ++ [(x + y + c) % 65536], (x + y + c) / 65536, hr1, by go_num, by omega, by omega, by rw [List.length_append, hkz]; go_num, uZ.append (D.U16s.cons ⟨by omega, by omega⟩ D.U16s.nil), ?_, by rw [List.length_append, hkz]; simp; omega, fun h => ?_, (al hBt).trans hB1⟩
          · rw [D.val_snoc, List.length_append, List.length_singleton, D.pow_succ16, hkz, D.val_take_succ, D.val_take_succ, hx, hy]
            rw [hkz] at heq
            have := carry_step (65536 ^ n) c x y (D.val Z) _ _ heq
            rw [this]
          · rw [List.length_append, hkz] at h
            simp at h
            exact hend h
        case measure => simp [intOf]; omega
      · have h3 : 0 < c := by omega
        go_wp2_with (first
          | (go_at_call 97; replace hdone := hdone; refine (hd2).mono ?_; rintro e w' ⟨rfl, rfl⟩; clear hdone)
          | (go_at_call 97; refine (hd1).mono ?_; rintro e w' ⟨rfl, rfl⟩; have hdone := trivial)
          | (at_builtin; refine wpList_ap rfl (.tmp 34) (.tmp 37) 112 112 rfl .u64 59 8 Try.und64 Try.info64 (by decide) w.heap.size _ Z (by rfl) (hrow.alloc _) _ [(x + y + c) % 65536] (by rfl) (src_sl Try.und64 (Arr.sl64 (S := [(x + y + c) % 65536]) (arr_new rfl rfl))) (by simp only [List.length_singleton]; omega) (by simp; omega) ?_; intro v1 w1 hr1 hg1; have hB1 := hg1.below (hrow.alloc _) (by simp; omega)))
        go_roundw
        case rel =>
          obtain ⟨hx, hy, heq, hBt, uZ, hkz, hend⟩ := HH.out
          refine ⟨Z ++ [(x + y + c) % 65536], (x + y + c) / 65536, hr1, by go_num, by omega, by omega, by rw [List.length_append, hkz]; go_num, uZ.append (D.U16s.cons ⟨by omega, by omega⟩ D.U16s.nil), ?_, by rw [List.length_append, hkz]; simp; omega, fun h => ?_, (al hBt).trans hB1⟩
          · rw [D.val_snoc, List.length_append, List.length_singleton, D.pow_succ16, hkz, D.val_take_succ, D.val_take_succ, hx, hy]
            rw [hkz] at heq
            have := carry_step (65536 ^ n) c x y (D.val Z) _ _ heq
            rw [this]
          · rw [List.length_append, hkz] at h
            simp at h
            exact hend h
        case measure => simp [intOf]; omega
    · have h1 : ¬ n < A.length := by omega
      have h2 : ¬ n < B.length := by omega
      have h3 : c = 0 := by omega
      subst h3
      have hs := hrow.sl
      have HV : Hid (D.val Z = N) := by
        rw [hn, List.take_of_length_le (by omega), List.take_of_length_le (by omega), Int.mul_zero, Int.add_zero] at heq
        exact heq.trans HN.out
      have hzl : Z.length ≤ 1073741826 := by omega
      rw [hn]
      clear heq hx hy hend hrow hA0 hB0 hgo hn
      go_wp2_with (go_at_call 112; refine (plain_sl _ Z hs uZ (by omega) N HV.out).mono ?_; rintro e w' ⟨r, rfl, hr, rfl⟩)
      go_ret
      exact ⟨r, rfl, hr, hBt⟩
end Go.Proofs.Yteagdgbcfbkfbaa.Nt
/-
  The walk of the reference's sub.
-/
namespace Go.Proofs.Yteagdgbcfbkfbaa.Nt
open Go.RowKit

theorem Row.same {k : IntKind} {e : TypeId} {B : Nat} {w w' : World} {v : Value} {xs : List Int} (h : Row k e B w v xs) (he : w'.heap = w.heap) : Row k e B w' v xs := by
  rcases h with h | ⟨b, S, rfl, h1, hA, h2⟩
  · exact .inl h
  · exact .inr ⟨b, S, rfl, h1, by unfold Arr; rw [he]; exact hA, h2⟩
theorem dr {a w : World} {n : Nat} (h : Below a.heap.size a w) : Below a.heap.size a (w.drewN n) := h.trans ⟨rfl, rfl, rfl, Nat.le_refl _, fun _ _ => rfl⟩
theorem take_val_le {A B : List Int} (uA : D.U16s A) (uB : D.U16s B) (h : D.val B ≤ D.val A) : D.val (B.take A.length) = D.val B := by
  have h1 := D.val_lt uA
  by_cases hl : B.length ≤ A.length
  · rw [List.take_of_length_le hl]
  · have e : D.val B = D.val (B.take A.length) + 65536 ^ A.length * D.val (B.drop A.length) := by
      conv => lhs; rw [← List.take_append_drop A.length B]
      rw [D.val_append, List.length_take, Nat.min_eq_left (by omega)]
    have h2 := D.val_nonneg (uB.take A.length)
    have h3 := D.val_nonneg (uB.drop A.length)
    have h4 := D.pow_pos16 A.length
    by_cases h5 : D.val (B.drop A.length) = 0
    · rw [e, h5]; omega
    · have : 65536 ^ A.length * 1 ≤ 65536 ^ A.length * D.val (B.drop A.length) := Int.mul_le_mul_of_nonneg_left (by omega) (by omega)
      omega

set_option maxHeartbeats 2000000 in
theorem sub_new {w : World} (v u : Value) (A B : List Int) (hA : Sl .u64 w v A) (hB : Sl .u64 w u B) (uA : D.U16s A) (uB : D.U16s B) (lA : A.length ≤ 1073741824) (lB : B.length ≤ 1073741824) (N : Int) (hN : D.val A - D.val B = N) (h0 : 0 ≤ N) :
    Calls Try.prog 86 #[v, u] w fun e w' => ∃ r, e = .returned r ∧ SlN .u64 w.heap.size w' r (D.lim N.toNat) ∧ Below w.heap.size w w' := by
  have hA0 := hA; have hB0 := hB
  obtain ⟨a, ca, hv, _⟩ := hA.len
  obtain ⟨bb, cb, hu, _⟩ := hB.len
  subst hv; subst hu
  have HN : Hid (D.val A - D.val B = N ∧ 0 ≤ N) := ⟨hN, h0⟩
  clear hN hA hB h0
  go_enter Try.func86, Try.ntmps86
  go_wp2
  go_loopw [5, 6, 7] (fun o t i wr => ∃ Z c, Row .u64 59 w.heap.size wr o Z ∧ t = .int .u64 c ∧ 0 ≤ c ∧ c ≤ 1 ∧ i = .int .i64 Z.length ∧ D.U16s Z ∧ D.val Z = D.val (A.take Z.length) - D.val (B.take Z.length) + 65536 ^ Z.length * c ∧
      Z.length ≤ A.length ∧ Below w.heap.size w wr) (fun _ _ i _ => A.length - (intOf i).toNat)
  case atStart => exact ⟨[], 0, Row.nil _ _ _ _, rfl, by decide, by decide, rfl, D.U16s.nil, by simp [D.val], by simp, Below.refl _ _⟩
  case round =>
    obtain ⟨Z, c, hrow, rfl, hc0, hc1, rfl, uZ, heq, hle, hBt⟩ := hrel
    obtain ⟨n, hn⟩ : ∃ n, Z.length = n := ⟨_, rfl⟩
    obtain ⟨x, hx⟩ : ∃ x, A.getD n 0 = x := ⟨_, rfl⟩
    obtain ⟨y, hy⟩ : ∃ y, B.getD n 0 = y := ⟨_, rfl⟩
    have ux : D.U16 x := hx ▸ uA.at n
    have uy : D.U16 y := hy ▸ uB.at n
    obtain ⟨ux1, ux2⟩ := ux
    obtain ⟨uy1, uy2⟩ := uy
    have hsz : w.heap.size ≤ wr.heap.size := hBt.size
    by_cases hlt : n < A.length
    · obtain ⟨b, off, ha, hb, hrd⟩ : ∃ b off, a = some ⟨b, off, none⟩ ∧ b < w.heap.size ∧ Rd .u64 w b off A := by
        obtain ⟨a', c', h1, _, h2⟩ := hA0
        cases h1
        rcases h2 with rfl | ⟨b, off, rfl, hb, hr⟩
        · simp at hlt
        · exact ⟨b, off, rfl, hb, hr⟩
      subst ha
      have hcx : wr.cell? ⟨b, off + n, none⟩ = some (.int .u64 x) := by rw [hBt.cell hb, hrd n hlt, hx]
      have hd2 : ∀ q, Calls Try.prog 97 #[.slice bb B.length cb, .int .i64 n] (wr.drewN q) fun e w' => e = .returned (.int .u64 y) ∧ w' = wr.drewN q := fun q =>
        (digit_nat _ B (below_sl (hBt.trans ⟨rfl, rfl, rfl, Nat.le_refl _, fun _ _ => rfl⟩ : Below w.heap.size w (wr.drewN q)) hB0) (by omega) n (by omega) y hy).mono fun e w' h => ⟨h.1, h.2.symm⟩
      have HH : Hid (A.getD n 0 = x ∧ B.getD n 0 = y ∧ D.val Z = D.val (A.take Z.length) - D.val (B.take Z.length) + 65536 ^ Z.length * c ∧ Below w.heap.size w wr ∧ D.U16s Z ∧ Z.length = n) := ⟨hx, hy, heq, hBt, uZ, hn⟩
      rw [hn] at hle ⊢
      have hzl : Z.length ≤ 1073741826 := by omega
      clear hx hy heq hBt uZ hA0 hB0 hn hrd
      go_upto_region 6 with (fail)
      go_region_with (go_at_call 97; refine (hd2 _).mono ?_; rintro e w2 ⟨rfl, rfl⟩)
      all_goals
        go_wp2_with (at_builtin; refine wpList_ap rfl (.tmp 26) (.tmp 29) 112 112 rfl .u64 59 8 Try.und64 Try.info64 (by decide) w.heap.size _ Z (by rfl) (Row.alloc (hrow.same rfl) _) _ [(65536 + x - y - c) % 65536] (by rfl) (src_sl Try.und64 (Arr.sl64 (S := [(65536 + x - y - c) % 65536]) (arr_new rfl rfl))) (by simp only [List.length_singleton]; omega) (by simp; omega) ?_; intro v1 w1 hr1 hg1; have hB1 := hg1.below (Row.alloc (hrow.same rfl) _) (by simp; omega))
        go_roundw
        case rel =>
          obtain ⟨hx, hy, heq, hBt, uZ, hkz⟩ := HH.out
          refine ⟨Z ++ [(65536 + x - y - c) % 65536], 1 - (65536 + x - y - c) / 65536, hr1, by go_num, by omega, by omega, by rw [List.length_append, hkz]; go_num, uZ.append (D.U16s.cons ⟨by omega, by omega⟩ D.U16s.nil), ?_, by rw [List.length_append, hkz]; simp; omega, (al (dr hBt)).trans hB1⟩
          rw [D.val_snoc, List.length_append, List.length_singleton, D.pow_succ16, hkz, D.val_take_succ, D.val_take_succ, hx, hy]
          rw [hkz] at heq
          exact borrow_step (65536 ^ n) c x y (D.val Z) _ _ heq
        case measure => simp [intOf]; omega
    · have hs := hrow.sln
      have HV : Hid (D.val Z = N) := by
        obtain ⟨h1, h2⟩ := HN.out
        have hnA : n = A.length := by omega
        rw [hn, hnA, List.take_length, take_val_le uA uB (by omega)] at heq
        have h3 := D.val_lt uZ
        rw [hn, hnA] at h3
        have h4 := D.pow_pos16 A.length
        have hc : c = 0 := by
          apply Decidable.byContradiction
          intro hne
          have : c = 1 := by omega
          subst this
          omega
        rw [hc, Int.mul_zero, Int.add_zero, h1] at heq
        exact heq
      have hzl : Z.length ≤ 1073741826 := by omega
      rw [hn]
      clear heq hx hy hrow hA0 hB0 hn
      go_wp2_with (go_at_call 112; refine (plain_new _ Z hs uZ (by omega) N HV.out).mono ?_; rintro e w' ⟨r, rfl, hr, rfl⟩)
      go_ret
      exact ⟨r, rfl, hr, hBt⟩
theorem sub_any {w : World} (v u : Value) (A B : List Int) (hA : Sl .u64 w v A) (hB : Sl .u64 w u B) (uA : D.U16s A) (uB : D.U16s B) (lA : A.length ≤ 1073741824) (lB : B.length ≤ 1073741824) (N : Int) (hN : D.val A - D.val B = N) (h0 : 0 ≤ N) :
    Calls Try.prog 86 #[v, u] w fun e w' => ∃ r, e = .returned r ∧ Sl .u64 w' r (D.lim N.toNat) ∧ Below w.heap.size w w' :=
  (sub_new v u A B hA hB uA uB lA lB N hN h0).mono fun _ _ ⟨r, h1, h2, h3⟩ => ⟨r, h1, h2.sl, h3⟩
end Go.Proofs.Yteagdgbcfbkfbaa.Nt
/-
  The walk of the reference's mul.
-/
namespace Go.Proofs.Yteagdgbcfbkfbaa.D
theorem add_step (P c x y a v u : Int) (T : Int) (hT : T = c + (x * y + a)) (ih : v + P * c = u) :
    (v + P * (T % 65536)) + (65536 * P) * (T / 65536) = u + P * a + x * (P * y) := by
  have h1 : T % 65536 + 65536 * (T / 65536) = T := by omega
  have h2 : P * (T % 65536) + (65536 * P) * (T / 65536) = P * T := by
    rw [← h1, Int.mul_add]; congr 1
    · rw [h1]
    · rw [h1, Int.mul_comm 65536 P, Int.mul_assoc]
  have h3 : P * T = P * c + (P * (x * y) + P * a) := by rw [hT, Int.mul_add, Int.mul_add]
  have h4 : x * (P * y) = P * (x * y) := by rw [← Int.mul_assoc, Int.mul_comm x P, Int.mul_assoc]
  omega

theorem val_set {S : List Int} {i : Nat} (h : i < S.length) (z : Int) : val (S.set i z) = val S + 65536 ^ i * (z - S.getD i 0) := by
  induction S generalizing i with
  | nil => simp at h
  | cons x S ih =>
    cases i with
    | zero => simp [val]; omega
    | succ i =>
      have := ih (i := i) (by simpa using h)
      simp only [List.set_cons_succ, val, this, pow_succ16, Int.mul_add, Int.mul_assoc]
      simp only [List.getD_cons_succ]; omega

theorem mid_val {S Z : List Int} {i : Nat} (h : i + Z.length ≤ S.length) :
    val (S.take i ++ Z ++ S.drop (i + Z.length)) = val S + 65536 ^ i * (val Z - val ((S.drop i).take Z.length)) := by
  have e : val S = val (S.take i) + 65536 ^ i * (val ((S.drop i).take Z.length) + 65536 ^ Z.length * val (S.drop (i + Z.length))) := by
    conv => lhs; rw [← List.take_append_drop i S, ← List.take_append_drop Z.length (S.drop i)]
    rw [val_append, val_append, List.length_take, List.length_take, Nat.min_eq_left (by omega), Nat.min_eq_left (by simp; omega), List.drop_drop]
  rw [e, List.append_assoc, val_append, val_append, List.length_take, Nat.min_eq_left (by omega), Int.mul_sub, Int.mul_add, Int.mul_add]; omega
theorem mid_u16 {S Z : List Int} {i : Nat} (hS : U16s S) (hZ : U16s Z) : U16s (S.take i ++ Z ++ S.drop (i + Z.length)) := ((hS.take i).append hZ).append (hS.drop _)

end Go.Proofs.Yteagdgbcfbkfbaa.D
namespace Go.Proofs.Yteagdgbcfbkfbaa.Nt
open Go.RowKit

theorem mul_u16 {x y : Int} (hx : D.U16 x) (hy : D.U16 y) : 0 ≤ x * y ∧ x * y ≤ 4294836225 := by
  unfold D.U16 at hx hy
  refine ⟨Int.mul_nonneg hx.1 hy.1, ?_⟩
  calc x * y ≤ 65535 * y := Int.mul_le_mul_of_nonneg_right (by omega) hy.1
    _ ≤ 65535 * 65535 := Int.mul_le_mul_of_nonneg_left (by omega) (by decide)
    _ = _ := by decide

set_option maxHeartbeats 4000000 in
theorem mul_any {w : World} (v u : Value) (A B : List Int) (hA : Sl .u64 w v A) (hB : Sl .u64 w u B) (uA : D.U16s A) (uB : D.U16s B) (lA : A.length ≤ 1073741824) (lB : B.length ≤ 1073741824) (N : Int) (hN : D.val A * D.val B = N) :
    Calls Try.prog 103 #[v, u] w fun e w' => ∃ r, e = .returned r ∧ Sl .u64 w' r (D.lim N.toNat) ∧ Below w.heap.size w w' := by
  have hA0 := hA; have hB0 := hB
  obtain ⟨a, ca, hv, _⟩ := hA.len
  obtain ⟨bb, cb, hu, _⟩ := hB.len
  subst hv; subst hu
  have HN : Hid (D.val A * D.val B = N) := hN
  clear hN hA hB
  go_enter Try.func103, Try.ntmps103
  go_wp2_with (at_make; refine wpList_mk _ rfl _ _ 112 rfl .u64 59 8 Try.und64 Try.info64 _ (A.length + B.length) rfl rfl (by omega) (by omega) (by omega) ?_; intro w1 hA1 hB1)
  go_loopw [6] (fun iv wr => ∃ (i : Nat) (S : List Int), iv = .int .i64 i ∧ i ≤ A.length ∧ Arr .u64 59 wr w.heap.size S ∧ D.U16s S ∧ S.length = A.length + B.length ∧ Below w.heap.size w wr ∧ D.val S = D.val (A.take i) * D.val B ∧ ∀ j, i + B.length ≤ j → S.getD j 0 = 0)
      (fun iv _ => A.length - (intOf iv).toNat)
  case atStart => exact ⟨0, _, rfl, Nat.zero_le _, hA1, D.U16s.zeros _, by simp, hB1, by simp [D.val_zeros, D.val], fun j _ => by simp [List.getD, List.getElem?_replicate]; split <;> rfl⟩
  case round =>
    clear hA1 hB1
    obtain ⟨i, S, rfl, hi, hS, uS, lS, hBt, hv, hz⟩ := hrel
    by_cases hlt : i < A.length
    · obtain ⟨b, off, ha, hb, hrd⟩ : ∃ b off, a = some ⟨b, off, none⟩ ∧ b < w.heap.size ∧ Rd .u64 w b off A := by
        obtain ⟨a', c', h1, _, h2⟩ := hA0
        cases h1
        rcases h2 with rfl | ⟨b, off, rfl, hb, hr⟩
        · simp at hlt
        · exact ⟨b, off, rfl, hb, hr⟩
      subst ha
      obtain ⟨x, hx⟩ : ∃ x, A.getD i 0 = x := ⟨_, rfl⟩
      have ux : D.U16 x := hx ▸ uA.at i
      have HO : Hid (Below w.heap.size w wr ∧ D.val S = D.val (A.take i) * D.val B ∧ (∀ j, i + B.length ≤ j → S.getD j 0 = 0) ∧ Arr .u64 59 wr w.heap.size S) := ⟨hBt, hv, hz, hS⟩
      have HX : Hid (A.getD i 0 = x ∧ Rd .u64 w b off A ∧ b < w.heap.size) := ⟨hx, hrd, hb⟩
      clear hBt hv hz hx hrd hS
      obtain ⟨ux1, ux2⟩ := ux
      go_wp2
      go_loopw [7, 8] (fun t kv wq => ∃ Z carry, Z.length ≤ B.length ∧ kv = .int .i64 Z.length ∧ t = .int .u64 carry ∧ D.U16 carry ∧ D.U16s Z ∧ Arr .u64 59 wq w.heap.size (S.take i ++ Z ++ S.drop (i + Z.length)) ∧ Below w.heap.size w wq ∧
        D.val Z + 65536 ^ Z.length * carry = D.val ((S.drop i).take Z.length) + x * D.val (B.take Z.length)) (fun _ kv _ => B.length - (intOf kv).toNat)
      case atStart => exact ⟨[], 0, Nat.zero_le _, rfl, rfl, ⟨by decide, by decide⟩, D.U16s.nil, by simpa using HO.out.2.2.2, HO.out.1, by simp [D.val]⟩
      case round =>
        obtain ⟨Z, carry, hkz, rfl, rfl, uc, uZ, hM, hBt, heq⟩ := hrel
        obtain ⟨uc1, uc2⟩ := uc
        obtain ⟨k, hk⟩ : ∃ k, Z.length = k := ⟨_, rfl⟩
        by_cases hlt2 : k < B.length
        · obtain ⟨b2, off2, ha2, hb2, hrd2⟩ : ∃ b2 off2, bb = some ⟨b2, off2, none⟩ ∧ b2 < w.heap.size ∧ Rd .u64 w b2 off2 B := by
            obtain ⟨a', c', h1, _, h2⟩ := hB0
            cases h1
            rcases h2 with rfl | ⟨b, off, rfl, hb, hr⟩
            · simp at hlt2
            · exact ⟨b, off, rfl, hb, hr⟩
          subst ha2
          obtain ⟨y, hy⟩ : ∃ y, B.getD k 0 = y := ⟨_, rfl⟩
          obtain ⟨s, hs⟩ : ∃ s, S.getD (i + k) 0 = s := ⟨_, rfl⟩
          have uy : D.U16 y := hy ▸ uB.at k
          have us : D.U16 s := hs ▸ uS.at (i + k)
          have hcx : wr.cell? ⟨b, off + i, none⟩ = some (.int .u64 x) := by rw [hBt.cell HX.out.2.2, HX.out.2.1 i hlt, HX.out.1]
          have hcy : wr.cell? ⟨b2, off2 + k, none⟩ = some (.int .u64 y) := by rw [hBt.cell hb2, hrd2 k hlt2, hy]
          have hcs : wr.cell? ⟨w.heap.size, i + k, none⟩ = some (.int .u64 s) := by
            have := hM.cell (i + k) (by rw [mid_len _ _ _ (by omega)]; omega)
            rw [← hk, mid_get, hk, hs] at this; rw [← hk, ← this, hk]
          have hfs : wr.frozen? ⟨w.heap.size, i + k, none⟩ = false := hM.frozen _
          obtain ⟨p, hp⟩ : ∃ p, x * y = p := ⟨_, rfl⟩
          have hpb := mul_u16 ⟨ux1, ux2⟩ uy
          rw [hp] at hpb
          obtain ⟨pb1, pb2⟩ := hpb
          obtain ⟨uy1, uy2⟩ := uy
          obtain ⟨us1, us2⟩ := us
          have HH : Hid (B.getD k 0 = y ∧ S.getD (i + k) 0 = s ∧ Arr .u64 59 wr w.heap.size (S.take i ++ Z ++ S.drop (i + Z.length)) ∧ Below w.heap.size w wr ∧ D.U16s Z ∧ Z.length = k ∧ x * y = p ∧
            D.val Z + 65536 ^ Z.length * carry = D.val ((S.drop i).take Z.length) + x * D.val (B.take Z.length)) := ⟨hy, hs, hM, hBt, uZ, hk, hp, heq⟩
          rw [hk] at hkz ⊢
          clear hy hs hM hBt uZ heq hk hrd2
          go_wp2
          go_quiet (fail)
          go_wp2
          go_roundw
          case rel =>
            obtain ⟨hy, hs, hM, hBt, uZ, hk, hp, heq⟩ := HH.out
            refine ⟨Z ++ [(s + p + carry) % 65536], (s + p + carry) / 65536, ?_, ?_, ?_, ?_, ?_, ?_, ?_, ?_⟩
            · simp; omega
            · simp [hk]
            · go_num
            · exact ⟨by omega, by omega⟩
            · exact uZ.append (D.U16s.cons ⟨by omega, by omega⟩ D.U16s.nil)
            · subst hk; rw [← mid_set _ _ _ _ (by omega)]; exact (hM.drewN _).set _ _
            · exact (dr hBt).setCell (Nat.le_refl _) _
            · subst hk
              rw [D.val_snoc, List.length_append, List.length_singleton, D.pow_succ16, D.val_take_succ, D.val_take_succ, hy]
              have hgd : (S.drop i).getD Z.length 0 = s := by rw [List.getD_eq_getElem?_getD, List.getElem?_drop, ← List.getD_eq_getElem?_getD]; exact hs
              rw [hgd]
              have := D.add_step (65536 ^ Z.length) carry x y s (D.val Z) _ (s + p + carry) (by rw [hp]; omega) heq
              rw [this, Int.mul_add]; omega
          case measure => simp [intOf]; omega
        · have hkB : Z.length = B.length := by omega
          have hz2 : (S.take i ++ Z ++ S.drop (i + Z.length)).getD (i + B.length) 0 = 0 := by rw [mid_above (by omega) (by omega)]; exact HO.out.2.2.1 _ (Nat.le_refl _)
          have hcs := hM.cell (i + B.length) (by rw [mid_len _ _ _ (by omega)]; omega)
          rw [hz2] at hcs
          have hfs := hM.frozen (i + B.length)
          have HH : Hid (Arr .u64 59 wr w.heap.size (S.take i ++ Z ++ S.drop (i + Z.length)) ∧ Below w.heap.size w wr ∧ D.U16s Z ∧ Z.length = B.length ∧ D.U16 carry ∧ (S.take i ++ Z ++ S.drop (i + Z.length)).getD (i + B.length) 0 = 0 ∧
            D.val Z + 65536 ^ Z.length * carry = D.val ((S.drop i).take Z.length) + x * D.val (B.take Z.length)) := ⟨hM, hBt, uZ, hkB, ⟨uc1, uc2⟩, hz2, heq⟩
          rw [hkB]
          clear hM hBt uZ heq hz2 hkB
          go_wp2
          go_roundw
          case rel =>
            obtain ⟨hM, hBt, uZ, hkB, uc, hz2, heq⟩ := HH.out
            obtain ⟨_, hv, hz, _⟩ := HO.out
            have hfit : i + Z.length ≤ S.length := by omega
            refine ⟨i + 1, (S.take i ++ Z ++ S.drop (i + Z.length)).set (i + B.length) carry, by go_num, by omega, hM.set _ _, (D.mid_u16 uS uZ).set _ uc, by rw [List.length_set, mid_len _ _ _ hfit]; exact lS, hBt.setCell (Nat.le_refl _) _, ?_, fun j hj => ?_⟩
            · rw [D.val_set (by rw [mid_len _ _ _ hfit]; omega), hz2, Int.sub_zero, D.mid_val hfit, hv, D.val_take_succ, HX.out.1]
              rw [hkB, List.take_length] at heq
              have e1 : D.val Z - D.val ((S.drop i).take Z.length) = x * D.val B - 65536 ^ B.length * carry := by rw [hkB]; omega
              rw [e1, Int.pow_add]
              grind
            · rw [List.getD_eq_getElem?_getD, List.getElem?_set_ne (by omega), ← List.getD_eq_getElem?_getD, mid_above hfit (by omega)]; exact hz j (by omega)
          case measure => simp [intOf]; omega
    · have hin : i = A.length := by omega
      have hs := hS.sl64
      rw [lS] at hs
      have hs' : Sl .u64 wr (.slice (some ⟨w.heap.size, 0, none⟩) (A.length + B.length) (A.length + B.length)) S := hs
      have HV : Hid (D.val S = N) := by rw [hv, hin, List.take_length]; exact HN.out
      clear hv hz hS hs hin hA0 hB0
      go_wp2_with (go_at_call 112; refine (plain_sl _ S hs' uS (by omega) N HV.out).mono ?_; rintro e w' ⟨r, rfl, hr, rfl⟩)
      go_ret
      exact ⟨r, rfl, hr, hBt⟩
end Go.Proofs.Yteagdgbcfbkfbaa.Nt
/-
  The walks of the reference's long, Trim, Cmp, Add, Sub, Mul: they answer what the program's functions answer.
-/
namespace Go.Proofs.Yteagdgbcfbkfbaa.Nt
open Go.RowKit

/-- A number and an error, as two results, in whatever memory. -/
def RTwo (w : World) (e : Ending) (s : List Int × Int) : Prop := ∃ r, e = .returned (.tuple #[r, .int .i64 s.2]) ∧ Sl .u32 w r s.1
theorem RTwo.nil' {w : World} {n : Int} {s : List Int × Int} (hs : s = ([], n)) : RTwo w (.returned (.tuple #[.slice none 0 0, .int .i64 n])) s := by
  subst hs; exact ⟨_, rfl, ⟨none, 0, rfl, Nat.le_refl _, .inl rfl⟩⟩
theorem RTwo.mk' {w : World} {r : Value} {n : Int} {L : List Int} {s : List Int × Int} (h : Sl .u32 w r L) (hs : s = (L, n)) : RTwo w (.returned (.tuple #[r, .int .i64 n])) s := by
  subst hs; exact ⟨r, rfl, h⟩
theorem pow16_32 (n : Nat) : (65536 : Int) ^ (2 * n) = 4294967296 ^ n := by rw [Int.pow_mul]; rfl

theorem long_any {w : World} (m : Nat) (v u : Value) (X Y : List Int) (hX : Sl .u32 w v X) (hY : Sl .u32 w u Y) (c : Bool) (hc : (decide (m < X.length) || decide (m < Y.length)) = c) :
    Calls Try.prog 83 #[.int .i64 m, v, u] w fun e w' => e = .returned (.bool c) ∧ w = w' := by
  obtain ⟨a, ca, hv, _⟩ := hX.len
  obtain ⟨b, cb, hu, _⟩ := hY.len
  subst hv; subst hu; subst hc
  by_cases h1 : m < X.length
  · have h1' : (m : Int) < (X.length : Int) := by omega
    go_enter Try.func83, Try.ntmps83
    go_wp2
    go_ret
    exact ⟨by simp [h1], rfl⟩
  have h1' : ¬ (m : Int) < (X.length : Int) := by omega
  by_cases h2 : m < Y.length
  · have h2' : (m : Int) < (Y.length : Int) := by omega
    go_enter Try.func83, Try.ntmps83
    go_wp2
    go_ret
    exact ⟨by simp, rfl⟩
  · have h2' : ¬ (m : Int) < (Y.length : Int) := by omega
    go_enter Try.func83, Try.ntmps83
    go_wp2
    go_ret
    exact ⟨by simp, rfl⟩

theorem RTrim_any {w : World} (v : Value) (X : List Int) (hX : Sl .u32 w v X) (uX : U32s X) (hl : X.length ≤ 268435456) (N : Int) (hN : val X = N) :
    Calls Try.prog 49 #[v] w fun e w' => ∃ r, e = .returned r ∧ Sl .u32 w' r (lim N.toNat) ∧ Below w.heap.size w w' := by
  have nN : 0 ≤ N := hN ▸ val_nonneg uX
  have bX := val_lt uX
  rw [hN] at bX
  have dN : (D.lim N.toNat).length ≤ 2 * X.length := D.lim_fits nN (by rw [pow16_32]; exact bX)
  have HX : Hid (val X = N) := hN
  have HV : Hid (D.val (D.lim N.toNat) = N) := D.val_limI nN
  have hBt : Below w.heap.size w w := Below.refl _ _
  clear hN bX nN
  go_enter Try.func49, Try.ntmps49
  go_wp2_with (first
    | (go_at_call 87; refine (Digits_any _ X hX uX (by omega) N HX.out).mono ?_; rintro e w' ⟨p, rfl, hp, hB⟩; replace hBt := grow0 hBt hB)
    | (go_at_call 85; refine (Limbs_any _ _ hp (D.lim_u16 _) (by omega) N HV.out).mono ?_; rintro e w' ⟨o, rfl, ho, hB⟩; replace hBt := grow0 hBt hB))
  go_ret
  exact ⟨_, rfl, ho, hBt⟩

theorem RCmp_any {w : World} (v u : Value) (X Y : List Int) (hX : Sl .u32 w v X) (hY : Sl .u32 w u Y) (uX : U32s X) (uY : U32s Y) (lX : X.length ≤ 268435456) (lY : Y.length ≤ 268435456) (c : Int) (hc : cmpI (val X) (val Y) = c) :
    Calls Try.prog 84 #[v, u] w fun e w' => e = .returned (.int .i64 c) ∧ Below w.heap.size w w' := by
  have hBt : Below w.heap.size w w := Below.refl _ _
  obtain ⟨NX, hNX⟩ : ∃ n, val X = n := ⟨_, rfl⟩
  obtain ⟨NY, hNY⟩ : ∃ n, val Y = n := ⟨_, rfl⟩
  have HX : Hid (val X = NX) := hNX
  have HY : Hid (val Y = NY) := hNY
  have nX : 0 ≤ NX := hNX ▸ val_nonneg uX
  have nY : 0 ≤ NY := hNY ▸ val_nonneg uY
  have bX := val_lt uX; have bY := val_lt uY
  rw [hNX] at bX; rw [hNY] at bY
  have dX : (D.lim NX.toNat).length ≤ 2 * X.length := D.lim_fits nX (by rw [pow16_32]; exact bX)
  have dY : (D.lim NY.toNat).length ≤ 2 * Y.length := D.lim_fits nY (by rw [pow16_32]; exact bY)
  have HC : Hid (cmpI (D.val (D.lim NX.toNat)) (D.val (D.lim NY.toNat)) = c) := by rw [D.val_limI nX, D.val_limI nY, ← hNX, ← hNY]; exact hc
  clear hNX hNY bX bY nX nY hc
  go_enter Try.func84, Try.ntmps84
  go_wp2_with (first
    | (go_at_call 87; replace hp := hp; refine (Digits_any _ Y hY uY (by omega) NY HY.out).mono ?_; rintro e w' ⟨q, rfl, hq, hB⟩; replace hp := below_sl hB hp; replace hBt := grow0 hBt hB)
    | (go_at_call 87; refine (Digits_any _ X hX uX (by omega) NX HX.out).mono ?_; rintro e w' ⟨p, rfl, hp, hB⟩; replace hY := below_sl hB hY; replace hBt := grow0 hBt hB)
    | (go_at_call 105; refine (order_any _ _ _ _ hp hq (D.lim_u16 _) (D.lim_u16 _) (by omega) (by omega) c HC.out).mono ?_; rintro e w' ⟨rfl, rfl⟩))
  go_ret
  exact ⟨rfl, hBt⟩

set_option maxHeartbeats 2000000 in
theorem RSub_any (X Y : List Int) (v u : Value) (w : World) (hX : Sl .u32 w v X) (hY : Sl .u32 w u Y) (uX : U32s X) (uY : U32s Y) :
    Calls Try.prog 47 #[v, u] w fun e w' => RTwo w' e (subS X Y) ∧ Below w.heap.size w w' := by
  have hBt : Below w.heap.size w w := Below.refl _ _
  by_cases hlong : 512 < X.length ∨ 512 < Y.length
  · have hb : (decide (512 < X.length) || decide (512 < Y.length)) = true := by simpa using hlong
    have HL : Hid (subS X Y = ([], 3)) := by unfold subS; rw [if_pos hlong]; rfl
    clear hlong
    go_enter Try.func47, Try.ntmps47
    go_wp2_with (go_at_call 83; refine (long_any _ _ _ X Y hX hY true (by assumption)).mono ?_; rintro e w' ⟨rfl, rfl⟩)
    go_ret2
    exact ⟨RTwo.nil' HL.out, Below.refl _ _⟩
  have hb : (decide (512 < X.length) || decide (512 < Y.length)) = false := by simpa using hlong
  have lX : X.length ≤ 512 := by omega
  have lY : Y.length ≤ 512 := by omega
  obtain ⟨NX, hNX⟩ : ∃ n, val X = n := ⟨_, rfl⟩
  obtain ⟨NY, hNY⟩ : ∃ n, val Y = n := ⟨_, rfl⟩
  have HX : Hid (val X = NX) := hNX
  have HY : Hid (val Y = NY) := hNY
  have nX : 0 ≤ NX := hNX ▸ val_nonneg uX
  have nY : 0 ≤ NY := hNY ▸ val_nonneg uY
  have bX := val_lt uX; have bY := val_lt uY
  rw [hNX] at bX; rw [hNY] at bY
  have dX : (D.lim NX.toNat).length ≤ 2 * X.length := D.lim_fits nX (by rw [pow16_32]; exact bX)
  have dY : (D.lim NY.toNat).length ≤ 2 * Y.length := D.lim_fits nY (by rw [pow16_32]; exact bY)
  by_cases hlt : NX < NY
  · have HC : Hid (cmpI (val X) (val Y) = -1) := by rw [hNX, hNY]; unfold cmpI; rw [if_pos hlt]; rfl
    have HF : Hid (subS X Y = ([], 10)) := by unfold subS; rw [if_neg hlong, hNX, hNY, if_pos hlt]; rfl
    clear hNX hNY bX bY hlong nX nY
    go_enter Try.func47, Try.ntmps47
    go_wp2_with (first
    | (go_at_call 83; refine (long_any _ _ _ X Y hX hY false (by assumption)).mono ?_; rintro e w' ⟨rfl, rfl⟩)
    | (go_at_call 84; refine (RCmp_any _ _ X Y hX hY uX uY (by omega) (by omega) (-1) HC.out).mono ?_; rintro e w' ⟨rfl, hB⟩; replace hBt := grow0 hBt hB))
    go_ret2
    exact ⟨RTwo.nil' HF.out, hBt⟩
  obtain ⟨c, hc⟩ : ∃ c, cmpI (val X) (val Y) = c := ⟨_, rfl⟩
  have hc0 : ¬ c < 0 := by rw [← hc, hNX, hNY]; unfold cmpI; rw [if_neg hlt]; split <;> decide
  have HC : Hid (cmpI (val X) (val Y) = c) := hc
  obtain ⟨N, hN⟩ : ∃ N, NX - NY = N := ⟨_, rfl⟩
  have nN : 0 ≤ N := by omega
  have HN : Hid (D.val (D.lim NX.toNat) - D.val (D.lim NY.toNat) = N) := by rw [D.val_limI nX, D.val_limI nY]; exact hN
  have dN : (D.lim N.toNat).length ≤ 2 * X.length := D.lim_fits nN (by rw [pow16_32]; omega)
  have HV : Hid (D.val (D.lim N.toNat) = N) := D.val_limI nN
  have HF : Hid (subS X Y = (lim N.toNat, 0)) := by unfold subS; rw [if_neg hlong, hNX, hNY, if_neg hlt, hN]; rfl
  clear hNX hNY hN bX bY hlong nX nY hc hlt
  go_enter Try.func47, Try.ntmps47
  go_wp2_with (first
    | (go_at_call 83; refine (long_any _ _ _ X Y hX hY false (by assumption)).mono ?_; rintro e w' ⟨rfl, rfl⟩)
    | (go_at_call 84; refine (RCmp_any _ _ X Y hX hY uX uY (by omega) (by omega) c HC.out).mono ?_; rintro e w' ⟨rfl, hB⟩; replace hX := below_sl hB hX; replace hY := below_sl hB hY; replace hBt := grow0 hBt hB)
    | (go_at_call 87; replace hp := hp; refine (Digits_any _ Y hY uY (by omega) NY HY.out).mono ?_; rintro e w' ⟨q, rfl, hq, hB⟩; replace hp := below_sl hB hp; replace hBt := grow0 hBt hB)
    | (go_at_call 87; refine (Digits_any _ X hX uX (by omega) NX HX.out).mono ?_; rintro e w' ⟨p, rfl, hp, hB⟩; replace hY := below_sl hB hY; replace hBt := grow0 hBt hB)
    | (go_at_call 86; refine (sub_any _ _ _ _ hp hq (D.lim_u16 _) (D.lim_u16 _) (by omega) (by omega) N HN.out nN).mono ?_; rintro e w' ⟨r, rfl, hr, hB⟩; replace hBt := grow0 hBt hB)
    | (go_at_call 85; refine (Limbs_any _ _ hr (D.lim_u16 _) (by omega) N HV.out).mono ?_; rintro e w' ⟨o, rfl, ho, hB⟩; replace hBt := grow0 hBt hB))
  go_ret2
  exact ⟨RTwo.mk' ho HF.out, hBt⟩
end Go.Proofs.Yteagdgbcfbkfbaa.Nt
/-
  The walk of the reference's Bits.
-/
namespace Go.Proofs.Yteagdgbcfbkfbaa.D
theorem getD_div (xs : List Int) (i : Nat) (hu : U16s xs) : (val xs).toNat / 2 ^ (16 * i) % 65536 = (xs.getD i 0).toNat := by
  induction i generalizing xs with
  | zero =>
    rw [val_head_tail]
    have h1 := hu.at 0; unfold U16 at h1
    have h2 := val_nonneg hu.tl
    simp only [Nat.mul_zero, Nat.pow_zero, Nat.div_one]; omega
  | succ i ih =>
    have := ih xs.tail hu.tl
    rw [getD_tail] at this
    rw [← this, val_head_tail xs]
    have h1 := hu.at 0; unfold U16 at h1
    have h2 := val_nonneg hu.tl
    rw [Nat.mul_add, Nat.mul_one, Nat.add_comm, Nat.pow_add, ← Nat.div_div_eq_div_mul]
    congr 2; omega
theorem bit_eq (v i : Nat) : v / 2 ^ (16 * (i / 16)) % 65536 / 2 ^ (i % 16) % 2 = v / 2 ^ i % 2 := by
  have e : (65536 : Nat) = 2 ^ (i % 16) * 2 ^ (16 - i % 16) := by rw [← Nat.pow_add, show i % 16 + (16 - i % 16) = 16 by omega]
  have e2 : i = 16 * (i / 16) + i % 16 := by omega
  rw [e, Nat.mod_mul_right_div_self, Nat.div_div_eq_div_mul, ← Nat.pow_add, ← e2]
  have e3 : 2 ^ (16 - i % 16) = 2 * 2 ^ (15 - i % 16) := by rw [Nat.mul_comm, ← Nat.pow_succ]; congr 1; omega
  rw [e3, Nat.mod_mul_right_mod]
end Go.Proofs.Yteagdgbcfbkfbaa.D
namespace Go.Proofs.Yteagdgbcfbkfbaa.Nt
open Go.RowKit

theorem and1_64 (x : Int) (h0 : 0 ≤ x) (h1 : x < 18446744073709551616) : bits BinOp.and .u64 x 1 = x % 2 := by go_bits2
theorem bitLen_eq {n k : Nat} (h : n < 2 ^ (k + 1)) (h1 : n / 2 ^ k % 2 = 1) : bitLen n = k + 1 := by
  have h2 := bitLen_lt h
  have h3 := (bitLen_spec n).1
  have hge : 2 ^ k ≤ n := by
    apply Decidable.byContradiction; intro hc
    rw [Nat.div_eq_of_lt (by omega)] at h1; simp at h1
  apply Decidable.byContradiction; intro hc
  have : 2 ^ bitLen n ≤ 2 ^ k := Nat.pow_le_pow_right (by decide) (by omega)
  omega
theorem lt_half {n k : Nat} (h : n < 2 ^ (k + 1)) (h1 : n / 2 ^ k % 2 = 0) : n < 2 ^ k := by
  have h2 : n / 2 ^ k < 2 := Nat.div_lt_of_lt_mul (by rw [Nat.pow_succ] at h; exact h)
  have h3 : n / 2 ^ k = 0 := by
    generalize n / 2 ^ k = t at h1 h2
    omega
  rcases Nat.div_eq_zero_iff.1 h3 with h4 | h4
  · have : 0 < 2 ^ k := Nat.pow_pos (by decide)
    omega
  · exact h4

set_option maxHeartbeats 2000000 in
theorem RBits_any {w : World} (v : Value) (X : List Int) (hX : Sl .u32 w v X) (uX : U32s X) (hl : X.length ≤ 268435456) (N : Int) (hN : val X = N) :
    Calls Try.prog 82 #[v] w fun e w' => e = .returned (.int .i64 (bitLen N.toNat)) ∧ Below w.heap.size w w' := by
  have nN : 0 ≤ N := hN ▸ val_nonneg uX
  have bX := val_lt uX
  rw [hN] at bX
  obtain ⟨Ds, hDs⟩ : ∃ Ds, D.lim N.toNat = Ds := ⟨_, rfl⟩
  have dN : Ds.length ≤ 2 * X.length := by rw [← hDs]; exact D.lim_fits nN (by rw [pow16_32]; exact bX)
  have uD : D.U16s Ds := hDs ▸ D.lim_u16 _
  have vD : D.val Ds = N := by rw [← hDs]; exact D.val_limI nN
  have HX : Hid (val X = N) := hN
  have HD : Hid (D.lim N.toNat = Ds) := hDs
  have HV : Hid (D.U16s Ds ∧ D.val Ds = N) := ⟨uD, vD⟩
  have HST : Hid (N.toNat < 2 ^ (16 * Ds.length)) := by
    have h1 := D.val_lt uD
    rw [vD] at h1
    have h2 : ((N.toNat : Nat) : Int) < ((2 ^ (16 * Ds.length) : Nat) : Int) := by
      rw [Int.toNat_of_nonneg nN, Int.natCast_pow, Int.pow_mul]; exact h1
    exact Int.ofNat_lt.1 h2
  have hBt : Below w.heap.size w w := Below.refl _ _
  clear hN bX nN hDs uD vD
  go_enter Try.func82, Try.ntmps82
  go_wp2_with (go_at_call 87; refine (Digits_any _ X hX uX (by omega) N HX.out).mono ?_; rintro e w1 ⟨p, rfl, hp, hB⟩; rw [HD.out] at hp; replace hBt := grow0 hBt hB; obtain ⟨ap, cp, hvp, _⟩ := hp.len; subst hvp)
  go_loop [4] (fun i => ∃ k : Nat, i = .int .i64 k ∧ k ≤ 16 * Ds.length ∧ Hid (N.toNat < 2 ^ k)) (fun i => (intOf i).toNat)
  case atStart => exact ⟨16 * Ds.length, by go_num, Nat.le_refl _, HST.out⟩
  case round =>
    clear HST
    obtain ⟨k, rfl, hk, HK⟩ := hrel
    cases k with
    | zero =>
      have HZ : Hid (bitLen N.toNat = 0) := by
        have h1 := HK.out
        have h2 : N.toNat = 0 := by simpa using h1
        rw [h2]; rfl
      clear HK
      go_wp2
      go_ret
      exact ⟨by rw [HZ.out]; rfl, hBt⟩
    | succ m =>
      obtain ⟨b, off, ha, hb, hrd⟩ : ∃ b off, ap = some ⟨b, off, none⟩ ∧ b < w1.heap.size ∧ Rd .u64 w1 b off Ds := by
        obtain ⟨a', c', h1, _, h2⟩ := id hp
        cases h1
        rcases h2 with rfl | ⟨b, off, rfl, hb, hr⟩
        · simp at hk
        · exact ⟨b, off, rfl, hb, hr⟩
      subst ha
      obtain ⟨q, hq⟩ : ∃ q, m / 16 = q := ⟨_, rfl⟩
      obtain ⟨s, hs⟩ : ∃ s, m % 16 = s := ⟨_, rfl⟩
      obtain ⟨y, hy⟩ : ∃ y, Ds.getD q 0 = y := ⟨_, rfl⟩
      have uy : D.U16 y := hy ▸ HV.out.1.at _
      obtain ⟨uy1, uy2⟩ := uy
      have hcy : w1.cell? ⟨b, off + q, none⟩ = some (.int .u64 y) := by rw [hrd q (by omega), hy]
      have HB : Hid (N.toNat / 2 ^ m % 2 = y.toNat / 2 ^ s % 2) := by
        show N.toNat / 2 ^ m % 2 = y.toNat / 2 ^ s % 2
        rw [← D.bit_eq, hq, hs, ← HV.out.2, D.getD_div Ds q HV.out.1, hy]
      have hmi : (m : Int) / 16 = q := by omega
      have hsi : (m : Int) % 16 = s := by omega
      have hs16 : s < 16 := by omega
      have hqD : q < Ds.length := by omega
      have hp2 : 0 < (2 : Int) ^ s := Int.pow_pos (by decide)
      have hd0 : 0 ≤ y / 2 ^ s := Int.ediv_nonneg uy1 (Int.le_of_lt hp2)
      have hd1 : y / 2 ^ s < 18446744073709551616 := by have := Int.ediv_le_self (2 ^ s) uy1; omega
      have hand := and1_64 (y / 2 ^ s) hd0 hd1
      have hcast : ((y.toNat / 2 ^ s % 2 : Nat) : Int) = y / 2 ^ s % 2 := by
        obtain ⟨n, rfl⟩ := Int.eq_ofNat_of_zero_le uy1
        simp
      obtain ⟨bt, hbt⟩ : ∃ bt, y / 2 ^ s % 2 = bt := ⟨_, rfl⟩
      rw [hbt] at hand hcast
      have hb01 : bt = 0 ∨ bt = 1 := by omega
      have HB2 : Hid (N.toNat / 2 ^ m % 2 = bt.toNat) := by
        show N.toNat / 2 ^ m % 2 = bt.toNat
        rw [HB.out]; omega
      clear hq hs hy hbt hcast HB hrd
      rcases hb01 with rfl | rfl
      · go_wp2
        go_round
        case rel => exact ⟨m, by go_num, by omega, lt_half HK.out HB2.out⟩
        case measure => simp [intOf]
      · have HR : Hid (bitLen N.toNat = m + 1) := bitLen_eq HK.out HB2.out
        go_wp2
        go_ret
        exact ⟨by rw [HR.out]; rfl, hBt⟩
end Go.Proofs.Yteagdgbcfbkfbaa.Nt
