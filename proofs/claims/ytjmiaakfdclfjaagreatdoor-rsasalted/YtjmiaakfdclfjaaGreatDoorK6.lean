/-
  The walks of the reference's add and sub.
-/
import Derived.Deep.CutRange
import Derived.Test.YtjmiaakfdclfjaaGreatDoorK5
namespace Go.Proofs.YtjmiaakfdclfjaaGreatDoor.Nt
open Go.RowKit

theorem carry_step (P c x y Z A B : Int) (h : Z + P * c = A + B) : Z + P * ((x + y + c) % 65536) + 65536 * P * ((x + y + c) / 65536) = A + P * x + (B + P * y) := by
  have h1 := Int.mul_ediv_add_emod (x + y + c) 65536
  have h2 : P * ((x + y + c) % 65536) + 65536 * P * ((x + y + c) / 65536) = P * (65536 * ((x + y + c) / 65536) + (x + y + c) % 65536) := by grind
  rw [h1] at h2
  grind
theorem borrow_step (P c x y Z A B : Int) (h : Z = A - B + P * c) : Z + P * ((65536 + x - y - c) % 65536) = A + P * x - (B + P * y) + 65536 * P * (1 - (65536 + x - y - c) / 65536) := by
  have h1 := Int.mul_ediv_add_emod (65536 + x - y - c) 65536
  have h2 : P * ((65536 + x - y - c) % 65536) = P * (65536 + x - y - c) - 65536 * P * ((65536 + x - y - c) / 65536) := by
    rw [← h1]; grind
  rw [h2, h]; grind
theorem getD_out (xs : List Int) {n : Nat} (h : xs.length ≤ n) : xs.getD n 0 = 0 := by simp [List.getD, List.getElem?_eq_none h]

set_option maxHeartbeats 2000000 in
theorem add_any {w : World} (v u : Value) (A B : List Int) (hA : Sl .u64 w v A) (hB : Sl .u64 w u B) (uA : D.U16s A) (uB : D.U16s B) (lA : A.length ≤ 1073741824) (lB : B.length ≤ 1073741824) (N : Int) (hN : D.val A + D.val B = N) :
    Calls Tryz.prog 70 #[v, u] w fun e w' => ∃ r, e = .returned r ∧ Sl .u64 w' r (D.lim N.toNat) ∧ Below w.heap.size w w' := by
  have hA0 := hA; have hB0 := hB
  obtain ⟨a, ca, hv, _⟩ := hA.len
  obtain ⟨b, cb, hu, _⟩ := hB.len
  subst hv; subst hu
  have HN : Hid (D.val A + D.val B = N) := hN
  clear hN hA hB
  go_enter Tryz.func70, Tryz.ntmps70
  go_wp2
  go_loopw [5, 6, 7] (fun o t i wr => ∃ Z c, Row .u64 43 w.heap.size wr o Z ∧ t = .int .u64 c ∧ 0 ≤ c ∧ c ≤ 1 ∧ i = .int .i64 Z.length ∧ D.U16s Z ∧ D.val Z + 65536 ^ Z.length * c = D.val (A.take Z.length) + D.val (B.take Z.length) ∧
      Z.length ≤ maxN A.length B.length + 1 ∧ (Z.length = maxN A.length B.length + 1 → c = 0) ∧ Below w.heap.size w wr) (fun _ _ i _ => maxN A.length B.length + 1 - (intOf i).toNat)
  case atStart => exact ⟨[], 0, Row.nil _ _ _ _, rfl, by decide, by decide, rfl, D.U16s.nil, by simp [D.val], by simp, by simp, Below.refl _ _⟩
  case round =>
    obtain ⟨Z, c, hrow, rfl, hc0, hc1, rfl, uZ, heq, hle, hend, hBt⟩ := hrel
    have hmx : A.length ≤ maxN A.length B.length ∧ B.length ≤ maxN A.length B.length ∧ maxN A.length B.length ≤ 1073741824 := by unfold maxN; split <;> omega
    obtain ⟨hm1, hm2, hm3⟩ := hmx
    obtain ⟨M, hM⟩ : ∃ M, maxN A.length B.length = M := ⟨_, rfl⟩
    rw [hM] at hle hend hm1 hm2 hm3 ⊢
    clear hM
    obtain ⟨n, hn⟩ : ∃ n, Z.length = n := ⟨_, rfl⟩
    obtain ⟨x, hx⟩ : ∃ x, A.getD n 0 = x := ⟨_, rfl⟩
    obtain ⟨y, hy⟩ : ∃ y, B.getD n 0 = y := ⟨_, rfl⟩
    have ux : D.U16 x := hx ▸ uA.at n
    have uy : D.U16 y := hy ▸ uB.at n
    obtain ⟨ux1, ux2⟩ := ux
    obtain ⟨uy1, uy2⟩ := uy
    have hsz : w.heap.size ≤ wr.heap.size := hBt.size
    by_cases hgo : n < A.length ∨ n < B.length ∨ 0 < c
    · have hnM : n < M + 1 := by
        rcases hgo with h | h | h
        · omega
        · omega
        · have : n ≠ M + 1 := fun h' => by have := hend (by omega); omega
          omega
      have hend' : n = M → (x + y + c) / 65536 = 0 := fun h => by
        have h1 : x = 0 := by rw [← hx]; exact getD_out A (by omega)
        have h2 : y = 0 := by rw [← hy]; exact getD_out B (by omega)
        omega
      have hd1 := digit_nat _ A (below_sl hBt hA0) (by omega) n (by omega) x hx
      have hd2 := digit_nat _ B (below_sl hBt hB0) (by omega) n (by omega) y hy
      have HH : Hid (A.getD n 0 = x ∧ B.getD n 0 = y ∧ D.val Z + 65536 ^ Z.length * c = D.val (A.take Z.length) + D.val (B.take Z.length) ∧ Below w.heap.size w wr ∧ D.U16s Z ∧ Z.length = n ∧ (n = M → (x + y + c) / 65536 = 0)) := ⟨hx, hy, heq, hBt, uZ, hn, hend'⟩
      rw [hn] at hle ⊢
      clear hx hy heq hBt uZ hend hend' hA0 hB0
      have hzl : Z.length ≤ 1073741826 := by omega
      clear hn
      by_cases h1 : n < A.length
      · go_wp2_with (first
          | (go_at_call 75; replace hdone := hdone; refine (hd2).mono ?_; rintro e w' ⟨rfl, rfl⟩; clear hdone)
          | (go_at_call 75; refine (hd1).mono ?_; rintro e w' ⟨rfl, rfl⟩; have hdone := trivial)
          | (at_builtin; refine wpList_ap rfl (.tmp 34) (.tmp 37) 73 73 rfl .u64 43 8 Tryz.und64 Tryz.info64 (by decide) w.heap.size _ Z (by rfl) (hrow.alloc _) _ [(x + y + c) % 65536] (by rfl) (src_sl Tryz.und64 (Arr.sl64 (S := [(x + y + c) % 65536]) (arr_new rfl rfl))) (by simp only [List.length_singleton]; omega) (by simp; omega) ?_; intro v1 w1 hr1 hg1; have hB1 := hg1.below (hrow.alloc _) (by simp; omega)))
        go_roundw
        case rel =>
          obtain ⟨hx, hy, heq, hBt, uZ, hkz, hend⟩ := HH.out
          refine ⟨Z ++ [(x + y + c) % 65536], (x + y + c) / 65536, hr1, by go_num, by omega, by omega, by rw [List.length_append, hkz]; go_num, uZ.append (D.U16s.cons ⟨by omega, by omega⟩ D.U16s.nil), ?_, by rw [List.length_append, hkz]; simp; omega, fun h => ?_, (al hBt).trans hB1⟩
          · rw [D.val_snoc, List.length_append, List.length_singleton, D.pow_succ16, hkz, D.val_take_succ, D.val_take_succ, hx, hy]
            rw [hkz] at heq
            have := carry_step (65536 ^ n) c x y (D.val Z) _ _ heq
            rw [this]
          · rw [List.length_append, hkz] at h
            simp at h
            exact hend h
        case measure => simp [intOf]; omega
      by_cases h2 : n < B.length
      · go_wp2_with (first
          | (go_at_call 75; replace hdone := hdone; refine (hd2).mono ?_; rintro e w' ⟨rfl, rfl⟩; clear hdone)
          | (go_at_call 75; refine (hd1).mono ?_; rintro e w' ⟨rfl, rfl⟩; have hdone := trivial)
          | (at_builtin; refine wpList_ap rfl (.tmp 34) (.tmp 37) 73 73 rfl .u64 43 8 Tryz.und64 Tryz.info64 (by decide) w.heap.size _ Z (by rfl) (hrow.alloc _) _ [(x + y + c) % 65536] (by rfl) (src_sl Tryz.und64 (Arr.sl64 (S := [(x + y + c) % 65536]) (arr_new rfl rfl))) (by simp only [List.length_singleton]; omega) (by simp; omega) ?_; intro v1 w1 hr1 hg1; have hB1 := hg1.below (hrow.alloc _) (by simp; omega)))
        go_roundw
        case rel =>
          obtain ⟨hx, hy, heq, hBt, uZ, hkz, hend⟩ := HH.out
          refine ⟨Z ++ [(x + y + c) % 65536], (x + y + c) / 65536, hr1, by go_num, by omega, by omega, by rw [List.length_append, hkz]; go_num, uZ.append (D.U16s.cons ⟨by omega, by omega⟩ D.U16s.nil), ?_, by rw [List.length_append, hkz]; simp; omega, fun h => ?_, (al hBt).trans hB1⟩
          · rw [D.val_snoc, List.length_append, List.length_singleton, D.pow_succ16, hkz, D.val_take_succ, D.val_take_succ, hx, hy]
            rw [hkz] at heq
            have := carry_step (65536 ^ n) c x y (D.val Z) _ _ heq
            rw [this]
          · rw [List.length_append, hkz] at h
            simp at h
            exact hend h
        case measure => simp [intOf]; omega
      · have h3 : 0 < c := by omega
        go_wp2_with (first
          | (go_at_call 75; replace hdone := hdone; refine (hd2).mono ?_; rintro e w' ⟨rfl, rfl⟩; clear hdone)
          | (go_at_call 75; refine (hd1).mono ?_; rintro e w' ⟨rfl, rfl⟩; have hdone := trivial)
          | (at_builtin; refine wpList_ap rfl (.tmp 34) (.tmp 37) 73 73 rfl .u64 43 8 Tryz.und64 Tryz.info64 (by decide) w.heap.size _ Z (by rfl) (hrow.alloc _) _ [(x + y + c) % 65536] (by rfl) (src_sl Tryz.und64 (Arr.sl64 (S := [(x + y + c) % 65536]) (arr_new rfl rfl))) (by simp only [List.length_singleton]; omega) (by simp; omega) ?_; intro v1 w1 hr1 hg1; have hB1 := hg1.below (hrow.alloc _) (by simp; omega)))
        go_roundw
        case rel =>
          obtain ⟨hx, hy, heq, hBt, uZ, hkz, hend⟩ := HH.out
          refine ⟨Z ++ [(x + y + c) % 65536], (x + y + c) / 65536, hr1, by go_num, by omega, by omega, by rw [List.length_append, hkz]; go_num, uZ.append (D.U16s.cons ⟨by omega, by omega⟩ D.U16s.nil), ?_, by rw [List.length_append, hkz]; simp; omega, fun h => ?_, (al hBt).trans hB1⟩
          · rw [D.val_snoc, List.length_append, List.length_singleton, D.pow_succ16, hkz, D.val_take_succ, D.val_take_succ, hx, hy]
            rw [hkz] at heq
            have := carry_step (65536 ^ n) c x y (D.val Z) _ _ heq
            rw [this]
          · rw [List.length_append, hkz] at h
            simp at h
            exact hend h
        case measure => simp [intOf]; omega
    · have h1 : ¬ n < A.length := by omega
      have h2 : ¬ n < B.length := by omega
      have h3 : c = 0 := by omega
      subst h3
      have hs := hrow.sl
      have HV : Hid (D.val Z = N) := by
        rw [hn, List.take_of_length_le (by omega), List.take_of_length_le (by omega), Int.mul_zero, Int.add_zero] at heq
        exact heq.trans HN.out
      have hzl : Z.length ≤ 1073741826 := by omega
      rw [hn]
      clear heq hx hy hend hrow hA0 hB0 hgo hn
      go_wp2_with (go_at_call 67; refine (plain_sl _ Z hs uZ (by omega) N HV.out).mono ?_; rintro e w' ⟨r, rfl, hr, rfl⟩)
      go_ret
      exact ⟨r, rfl, hr, hBt⟩
end Go.Proofs.YtjmiaakfdclfjaaGreatDoor.Nt
/-
  The walk of the reference's sub.
-/
namespace Go.Proofs.YtjmiaakfdclfjaaGreatDoor.Nt
open Go.RowKit

theorem Row.same {k : IntKind} {e : TypeId} {B : Nat} {w w' : World} {v : Value} {xs : List Int} (h : Row k e B w v xs) (he : w'.heap = w.heap) : Row k e B w' v xs := by
  rcases h with h | ⟨b, S, rfl, h1, hA, h2⟩
  · exact .inl h
  · exact .inr ⟨b, S, rfl, h1, by unfold Arr; rw [he]; exact hA, h2⟩
theorem dr {a w : World} {n : Nat} (h : Below a.heap.size a w) : Below a.heap.size a (w.drewN n) := h.trans ⟨rfl, rfl, rfl, Nat.le_refl _, fun _ _ => rfl⟩
theorem take_val_le {A B : List Int} (uA : D.U16s A) (uB : D.U16s B) (h : D.val B ≤ D.val A) : D.val (B.take A.length) = D.val B := by
  have h1 := D.val_lt uA
  by_cases hl : B.length ≤ A.length
  · rw [List.take_of_length_le hl]
  · have e : D.val B = D.val (B.take A.length) + 65536 ^ A.length * D.val (B.drop A.length) := by
      conv => lhs; rw [← List.take_append_drop A.length B]
      rw [D.val_append, List.length_take, Nat.min_eq_left (by omega)]
    have h2 := D.val_nonneg (uB.take A.length)
    have h3 := D.val_nonneg (uB.drop A.length)
    have h4 := D.pow_pos16 A.length
    by_cases h5 : D.val (B.drop A.length) = 0
    · rw [e, h5]; omega
    · have : 65536 ^ A.length * 1 ≤ 65536 ^ A.length * D.val (B.drop A.length) := Int.mul_le_mul_of_nonneg_left (by omega) (by omega)
      omega

set_option maxHeartbeats 2000000 in
theorem sub_new {w : World} (v u : Value) (A B : List Int) (hA : Sl .u64 w v A) (hB : Sl .u64 w u B) (uA : D.U16s A) (uB : D.U16s B) (lA : A.length ≤ 1073741824) (lB : B.length ≤ 1073741824) (N : Int) (hN : D.val A - D.val B = N) (h0 : 0 ≤ N) :
    Calls Tryz.prog 93 #[v, u] w fun e w' => ∃ r, e = .returned r ∧ SlN .u64 w.heap.size w' r (D.lim N.toNat) ∧ Below w.heap.size w w' := by
  have hA0 := hA; have hB0 := hB
  obtain ⟨a, ca, hv, _⟩ := hA.len
  obtain ⟨bb, cb, hu, _⟩ := hB.len
  subst hv; subst hu
  have HN : Hid (D.val A - D.val B = N ∧ 0 ≤ N) := ⟨hN, h0⟩
  clear hN hA hB h0
  go_enter Tryz.func93, Tryz.ntmps93
  go_wp2
  go_loopw [5, 6, 7] (fun o t i wr => ∃ Z c, Row .u64 43 w.heap.size wr o Z ∧ t = .int .u64 c ∧ 0 ≤ c ∧ c ≤ 1 ∧ i = .int .i64 Z.length ∧ D.U16s Z ∧ D.val Z = D.val (A.take Z.length) - D.val (B.take Z.length) + 65536 ^ Z.length * c ∧
      Z.length ≤ A.length ∧ Below w.heap.size w wr) (fun _ _ i _ => A.length - (intOf i).toNat)
  case atStart => exact ⟨[], 0, Row.nil _ _ _ _, rfl, by decide, by decide, rfl, D.U16s.nil, by simp [D.val], by simp, Below.refl _ _⟩
  case round =>
    obtain ⟨Z, c, hrow, rfl, hc0, hc1, rfl, uZ, heq, hle, hBt⟩ := hrel
    obtain ⟨n, hn⟩ : ∃ n, Z.length = n := ⟨_, rfl⟩
    obtain ⟨x, hx⟩ : ∃ x, A.getD n 0 = x := ⟨_, rfl⟩
    obtain ⟨y, hy⟩ : ∃ y, B.getD n 0 = y := ⟨_, rfl⟩
    have ux : D.U16 x := hx ▸ uA.at n
    have uy : D.U16 y := hy ▸ uB.at n
    obtain ⟨ux1, ux2⟩ := ux
    obtain ⟨uy1, uy2⟩ := uy
    have hsz : w.heap.size ≤ wr.heap.size := hBt.size
    by_cases hlt : n < A.length
    · obtain ⟨b, off, ha, hb, hrd⟩ : ∃ b off, a = some ⟨b, off, none⟩ ∧ b < w.heap.size ∧ Rd .u64 w b off A := by
        obtain ⟨a', c', h1, _, h2⟩ := hA0
        cases h1
        rcases h2 with rfl | ⟨b, off, rfl, hb, hr⟩
        · simp at hlt
        · exact ⟨b, off, rfl, hb, hr⟩
      subst ha
      have hcx : wr.cell? ⟨b, off + n, none⟩ = some (.int .u64 x) := by rw [hBt.cell hb, hrd n hlt, hx]
      have hd2 : ∀ q, Calls Tryz.prog 75 #[.slice bb B.length cb, .int .i64 n] (wr.drewN q) fun e w' => e = .returned (.int .u64 y) ∧ w' = wr.drewN q := fun q =>
        (digit_nat _ B (below_sl (hBt.trans ⟨rfl, rfl, rfl, Nat.le_refl _, fun _ _ => rfl⟩ : Below w.heap.size w (wr.drewN q)) hB0) (by omega) n (by omega) y hy).mono fun e w' h => ⟨h.1, h.2.symm⟩
      have HH : Hid (A.getD n 0 = x ∧ B.getD n 0 = y ∧ D.val Z = D.val (A.take Z.length) - D.val (B.take Z.length) + 65536 ^ Z.length * c ∧ Below w.heap.size w wr ∧ D.U16s Z ∧ Z.length = n) := ⟨hx, hy, heq, hBt, uZ, hn⟩
      rw [hn] at hle ⊢
      have hzl : Z.length ≤ 1073741826 := by omega
      clear hx hy heq hBt uZ hA0 hB0 hn hrd
      go_upto_region 6 with (fail)
      go_region_with (go_at_call 75; refine (hd2 _).mono ?_; rintro e w2 ⟨rfl, rfl⟩)
      all_goals
        go_wp2_with (at_builtin; refine wpList_ap rfl (.tmp 26) (.tmp 29) 73 73 rfl .u64 43 8 Tryz.und64 Tryz.info64 (by decide) w.heap.size _ Z (by rfl) (Row.alloc (hrow.same rfl) _) _ [(65536 + x - y - c) % 65536] (by rfl) (src_sl Tryz.und64 (Arr.sl64 (S := [(65536 + x - y - c) % 65536]) (arr_new rfl rfl))) (by simp only [List.length_singleton]; omega) (by simp; omega) ?_; intro v1 w1 hr1 hg1; have hB1 := hg1.below (Row.alloc (hrow.same rfl) _) (by simp; omega))
        go_roundw
        case rel =>
          obtain ⟨hx, hy, heq, hBt, uZ, hkz⟩ := HH.out
          refine ⟨Z ++ [(65536 + x - y - c) % 65536], 1 - (65536 + x - y - c) / 65536, hr1, by go_num, by omega, by omega, by rw [List.length_append, hkz]; go_num, uZ.append (D.U16s.cons ⟨by omega, by omega⟩ D.U16s.nil), ?_, by rw [List.length_append, hkz]; simp; omega, (al (dr hBt)).trans hB1⟩
          rw [D.val_snoc, List.length_append, List.length_singleton, D.pow_succ16, hkz, D.val_take_succ, D.val_take_succ, hx, hy]
          rw [hkz] at heq
          exact borrow_step (65536 ^ n) c x y (D.val Z) _ _ heq
        case measure => simp [intOf]; omega
    · have hs := hrow.sln
      have HV : Hid (D.val Z = N) := by
        obtain ⟨h1, h2⟩ := HN.out
        have hnA : n = A.length := by omega
        rw [hn, hnA, List.take_length, take_val_le uA uB (by omega)] at heq
        have h3 := D.val_lt uZ
        rw [hn, hnA] at h3
        have h4 := D.pow_pos16 A.length
        have hc : c = 0 := by
          apply Decidable.byContradiction
          intro hne
          have : c = 1 := by omega
          subst this
          omega
        rw [hc, Int.mul_zero, Int.add_zero, h1] at heq
        exact heq
      have hzl : Z.length ≤ 1073741826 := by omega
      rw [hn]
      clear heq hx hy hrow hA0 hB0 hn
      go_wp2_with (go_at_call 67; refine (plain_new _ Z hs uZ (by omega) N HV.out).mono ?_; rintro e w' ⟨r, rfl, hr, rfl⟩)
      go_ret
      exact ⟨r, rfl, hr, hBt⟩
theorem sub_any {w : World} (v u : Value) (A B : List Int) (hA : Sl .u64 w v A) (hB : Sl .u64 w u B) (uA : D.U16s A) (uB : D.U16s B) (lA : A.length ≤ 1073741824) (lB : B.length ≤ 1073741824) (N : Int) (hN : D.val A - D.val B = N) (h0 : 0 ≤ N) :
    Calls Tryz.prog 93 #[v, u] w fun e w' => ∃ r, e = .returned r ∧ Sl .u64 w' r (D.lim N.toNat) ∧ Below w.heap.size w w' :=
  (sub_new v u A B hA hB uA uB lA lB N hN h0).mono fun _ _ ⟨r, h1, h2, h3⟩ => ⟨r, h1, h2.sl, h3⟩
end Go.Proofs.YtjmiaakfdclfjaaGreatDoor.Nt
/-
  The walk of the reference's mul.
-/
namespace Go.Proofs.YtjmiaakfdclfjaaGreatDoor.D
theorem add_step (P c x y a v u : Int) (T : Int) (hT : T = c + (x * y + a)) (ih : v + P * c = u) :
    (v + P * (T % 65536)) + (65536 * P) * (T / 65536) = u + P * a + x * (P * y) := by
  have h1 : T % 65536 + 65536 * (T / 65536) = T := by omega
  have h2 : P * (T % 65536) + (65536 * P) * (T / 65536) = P * T := by
    rw [← h1, Int.mul_add]; congr 1
    · rw [h1]
    · rw [h1, Int.mul_comm 65536 P, Int.mul_assoc]
  have h3 : P * T = P * c + (P * (x * y) + P * a) := by rw [hT, Int.mul_add, Int.mul_add]
  have h4 : x * (P * y) = P * (x * y) := by rw [← Int.mul_assoc, Int.mul_comm x P, Int.mul_assoc]
  omega

theorem val_set {S : List Int} {i : Nat} (h : i < S.length) (z : Int) : val (S.set i z) = val S + 65536 ^ i * (z - S.getD i 0) := by
  induction S generalizing i with
  | nil => simp at h
  | cons x S ih =>
    cases i with
    | zero => simp [val]; omega
    | succ i =>
      have := ih (i := i) (by simpa using h)
      simp only [List.set_cons_succ, val, this, pow_succ16, Int.mul_add, Int.mul_assoc]
      simp only [List.getD_cons_succ]; omega

theorem mid_val {S Z : List Int} {i : Nat} (h : i + Z.length ≤ S.length) :
    val (S.take i ++ Z ++ S.drop (i + Z.length)) = val S + 65536 ^ i * (val Z - val ((S.drop i).take Z.length)) := by
  have e : val S = val (S.take i) + 65536 ^ i * (val ((S.drop i).take Z.length) + 65536 ^ Z.length * val (S.drop (i + Z.length))) := by
    conv => lhs; rw [← List.take_append_drop i S, ← List.take_append_drop Z.length (S.drop i)]
    rw [val_append, val_append, List.length_take, List.length_take, Nat.min_eq_left (by omega), Nat.min_eq_left (by simp; omega), List.drop_drop]
  rw [e, List.append_assoc, val_append, val_append, List.length_take, Nat.min_eq_left (by omega), Int.mul_sub, Int.mul_add, Int.mul_add]; omega
theorem mid_u16 {S Z : List Int} {i : Nat} (hS : U16s S) (hZ : U16s Z) : U16s (S.take i ++ Z ++ S.drop (i + Z.length)) := ((hS.take i).append hZ).append (hS.drop _)

end Go.Proofs.YtjmiaakfdclfjaaGreatDoor.D
namespace Go.Proofs.YtjmiaakfdclfjaaGreatDoor.Nt
open Go.RowKit

theorem mul_u16 {x y : Int} (hx : D.U16 x) (hy : D.U16 y) : 0 ≤ x * y ∧ x * y ≤ 4294836225 := by
  unfold D.U16 at hx hy
  refine ⟨Int.mul_nonneg hx.1 hy.1, ?_⟩
  calc x * y ≤ 65535 * y := Int.mul_le_mul_of_nonneg_right (by omega) hy.1
    _ ≤ 65535 * 65535 := Int.mul_le_mul_of_nonneg_left (by omega) (by decide)
    _ = _ := by decide

set_option maxHeartbeats 4000000 in
theorem mul_any {w : World} (v u : Value) (A B : List Int) (hA : Sl .u64 w v A) (hB : Sl .u64 w u B) (uA : D.U16s A) (uB : D.U16s B) (lA : A.length ≤ 1073741824) (lB : B.length ≤ 1073741824) (N : Int) (hN : D.val A * D.val B = N) :
    Calls Tryz.prog 73 #[v, u] w fun e w' => ∃ r, e = .returned r ∧ Sl .u64 w' r (D.lim N.toNat) ∧ Below w.heap.size w w' := by
  have hA0 := hA; have hB0 := hB
  obtain ⟨a, ca, hv, _⟩ := hA.len
  obtain ⟨bb, cb, hu, _⟩ := hB.len
  subst hv; subst hu
  have HN : Hid (D.val A * D.val B = N) := hN
  clear hN hA hB
  go_enter Tryz.func73, Tryz.ntmps73
  go_wp2_with (at_make; refine wpList_mk _ rfl _ _ 73 rfl .u64 43 8 Tryz.und64 Tryz.info64 _ (A.length + B.length) rfl rfl (by omega) (by omega) (by omega) ?_; intro w1 hA1 hB1)
  go_loopw [6] (fun iv wr => ∃ (i : Nat) (S : List Int), iv = .int .i64 i ∧ i ≤ A.length ∧ Arr .u64 43 wr w.heap.size S ∧ D.U16s S ∧ S.length = A.length + B.length ∧ Below w.heap.size w wr ∧ D.val S = D.val (A.take i) * D.val B ∧ ∀ j, i + B.length ≤ j → S.getD j 0 = 0)
      (fun iv _ => A.length - (intOf iv).toNat)
  case atStart => exact ⟨0, _, rfl, Nat.zero_le _, hA1, D.U16s.zeros _, by simp, hB1, by simp [D.val_zeros, D.val], fun j _ => by simp [List.getD, List.getElem?_replicate]; split <;> rfl⟩
  case round =>
    clear hA1 hB1
    obtain ⟨i, S, rfl, hi, hS, uS, lS, hBt, hv, hz⟩ := hrel
    by_cases hlt : i < A.length
    · obtain ⟨b, off, ha, hb, hrd⟩ : ∃ b off, a = some ⟨b, off, none⟩ ∧ b < w.heap.size ∧ Rd .u64 w b off A := by
        obtain ⟨a', c', h1, _, h2⟩ := hA0
        cases h1
        rcases h2 with rfl | ⟨b, off, rfl, hb, hr⟩
        · simp at hlt
        · exact ⟨b, off, rfl, hb, hr⟩
      subst ha
      obtain ⟨x, hx⟩ : ∃ x, A.getD i 0 = x := ⟨_, rfl⟩
      have ux : D.U16 x := hx ▸ uA.at i
      have HO : Hid (Below w.heap.size w wr ∧ D.val S = D.val (A.take i) * D.val B ∧ (∀ j, i + B.length ≤ j → S.getD j 0 = 0) ∧ Arr .u64 43 wr w.heap.size S) := ⟨hBt, hv, hz, hS⟩
      have HX : Hid (A.getD i 0 = x ∧ Rd .u64 w b off A ∧ b < w.heap.size) := ⟨hx, hrd, hb⟩
      clear hBt hv hz hx hrd hS
      obtain ⟨ux1, ux2⟩ := ux
      go_wp2
      go_loopw [7, 8] (fun t kv wq => ∃ Z carry, Z.length ≤ B.length ∧ kv = .int .i64 Z.length ∧ t = .int .u64 carry ∧ D.U16 carry ∧ D.U16s Z ∧ Arr .u64 43 wq w.heap.size (S.take i ++ Z ++ S.drop (i + Z.length)) ∧ Below w.heap.size w wq ∧
        D.val Z + 65536 ^ Z.length * carry = D.val ((S.drop i).take Z.length) + x * D.val (B.take Z.length)) (fun _ kv _ => B.length - (intOf kv).toNat)
      case atStart => exact ⟨[], 0, Nat.zero_le _, rfl, rfl, ⟨by decide, by decide⟩, D.U16s.nil, by simpa using HO.out.2.2.2, HO.out.1, by simp [D.val]⟩
      case round =>
        obtain ⟨Z, carry, hkz, rfl, rfl, uc, uZ, hM, hBt, heq⟩ := hrel
        obtain ⟨uc1, uc2⟩ := uc
        obtain ⟨k, hk⟩ : ∃ k, Z.length = k := ⟨_, rfl⟩
        by_cases hlt2 : k < B.length
        · obtain ⟨b2, off2, ha2, hb2, hrd2⟩ : ∃ b2 off2, bb = some ⟨b2, off2, none⟩ ∧ b2 < w.heap.size ∧ Rd .u64 w b2 off2 B := by
            obtain ⟨a', c', h1, _, h2⟩ := hB0
            cases h1
            rcases h2 with rfl | ⟨b, off, rfl, hb, hr⟩
            · simp at hlt2
            · exact ⟨b, off, rfl, hb, hr⟩
          subst ha2
          obtain ⟨y, hy⟩ : ∃ y, B.getD k 0 = y := ⟨_, rfl⟩
          obtain ⟨s, hs⟩ : ∃ s, S.getD (i + k) 0 = s := ⟨_, rfl⟩
          have uy : D.U16 y := hy ▸ uB.at k
          have us : D.U16 s := hs ▸ uS.at (i + k)
          have hcx : wr.cell? ⟨b, off + i, none⟩ = some (.int .u64 x) := by rw [hBt.cell HX.out.2.2, HX.out.2.1 i hlt, HX.out.1]
          have hcy : wr.cell? ⟨b2, off2 + k, none⟩ = some (.int .u64 y) := by rw [hBt.cell hb2, hrd2 k hlt2, hy]
          have hcs : wr.cell? ⟨w.heap.size, i + k, none⟩ = some (.int .u64 s) := by
            have := hM.cell (i + k) (by rw [mid_len _ _ _ (by omega)]; omega)
            rw [← hk, mid_get, hk, hs] at this; rw [← hk, ← this, hk]
          have hfs : wr.frozen? ⟨w.heap.size, i + k, none⟩ = false := hM.frozen _
          obtain ⟨p, hp⟩ : ∃ p, x * y = p := ⟨_, rfl⟩
          have hpb := mul_u16 ⟨ux1, ux2⟩ uy
          rw [hp] at hpb
          obtain ⟨pb1, pb2⟩ := hpb
          obtain ⟨uy1, uy2⟩ := uy
          obtain ⟨us1, us2⟩ := us
          have HH : Hid (B.getD k 0 = y ∧ S.getD (i + k) 0 = s ∧ Arr .u64 43 wr w.heap.size (S.take i ++ Z ++ S.drop (i + Z.length)) ∧ Below w.heap.size w wr ∧ D.U16s Z ∧ Z.length = k ∧ x * y = p ∧
            D.val Z + 65536 ^ Z.length * carry = D.val ((S.drop i).take Z.length) + x * D.val (B.take Z.length)) := ⟨hy, hs, hM, hBt, uZ, hk, hp, heq⟩
          rw [hk] at hkz ⊢
          clear hy hs hM hBt uZ heq hk hrd2
          go_wp2
          go_quiet (fail)
          go_wp2
          go_roundw
          case rel =>
            obtain ⟨hy, hs, hM, hBt, uZ, hk, hp, heq⟩ := HH.out
            refine ⟨Z ++ [(s + p + carry) % 65536], (s + p + carry) / 65536, ?_, ?_, ?_, ?_, ?_, ?_, ?_, ?_⟩
            · simp; omega
            · simp [hk]
            · go_num
            · exact ⟨by omega, by omega⟩
            · exact uZ.append (D.U16s.cons ⟨by omega, by omega⟩ D.U16s.nil)
            · subst hk; rw [← mid_set _ _ _ _ (by omega)]; exact (hM.drewN _).set _ _
            · exact (dr hBt).setCell (Nat.le_refl _) _
            · subst hk
              rw [D.val_snoc, List.length_append, List.length_singleton, D.pow_succ16, D.val_take_succ, D.val_take_succ, hy]
              have hgd : (S.drop i).getD Z.length 0 = s := by rw [List.getD_eq_getElem?_getD, List.getElem?_drop, ← List.getD_eq_getElem?_getD]; exact hs
              rw [hgd]
              have := D.add_step (65536 ^ Z.length) carry x y s (D.val Z) _ (s + p + carry) (by rw [hp]; omega) heq
              rw [this, Int.mul_add]; omega
          case measure => simp [intOf]; omega
        · have hkB : Z.length = B.length := by omega
          have hz2 : (S.take i ++ Z ++ S.drop (i + Z.length)).getD (i + B.length) 0 = 0 := by rw [mid_above (by omega) (by omega)]; exact HO.out.2.2.1 _ (Nat.le_refl _)
          have hcs := hM.cell (i + B.length) (by rw [mid_len _ _ _ (by omega)]; omega)
          rw [hz2] at hcs
          have hfs := hM.frozen (i + B.length)
          have HH : Hid (Arr .u64 43 wr w.heap.size (S.take i ++ Z ++ S.drop (i + Z.length)) ∧ Below w.heap.size w wr ∧ D.U16s Z ∧ Z.length = B.length ∧ D.U16 carry ∧ (S.take i ++ Z ++ S.drop (i + Z.length)).getD (i + B.length) 0 = 0 ∧
            D.val Z + 65536 ^ Z.length * carry = D.val ((S.drop i).take Z.length) + x * D.val (B.take Z.length)) := ⟨hM, hBt, uZ, hkB, ⟨uc1, uc2⟩, hz2, heq⟩
          rw [hkB]
          clear hM hBt uZ heq hz2 hkB
          go_wp2
          go_roundw
          case rel =>
            obtain ⟨hM, hBt, uZ, hkB, uc, hz2, heq⟩ := HH.out
            obtain ⟨_, hv, hz, _⟩ := HO.out
            have hfit : i + Z.length ≤ S.length := by omega
            refine ⟨i + 1, (S.take i ++ Z ++ S.drop (i + Z.length)).set (i + B.length) carry, by go_num, by omega, hM.set _ _, (D.mid_u16 uS uZ).set _ uc, by rw [List.length_set, mid_len _ _ _ hfit]; exact lS, hBt.setCell (Nat.le_refl _) _, ?_, fun j hj => ?_⟩
            · rw [D.val_set (by rw [mid_len _ _ _ hfit]; omega), hz2, Int.sub_zero, D.mid_val hfit, hv, D.val_take_succ, HX.out.1]
              rw [hkB, List.take_length] at heq
              have e1 : D.val Z - D.val ((S.drop i).take Z.length) = x * D.val B - 65536 ^ B.length * carry := by rw [hkB]; omega
              rw [e1, Int.pow_add]
              grind
            · rw [List.getD_eq_getElem?_getD, List.getElem?_set_ne (by omega), ← List.getD_eq_getElem?_getD, mid_above hfit (by omega)]; exact hz j (by omega)
          case measure => simp [intOf]; omega
    · have hin : i = A.length := by omega
      have hs := hS.sl64
      rw [lS] at hs
      have hs' : Sl .u64 wr (.slice (some ⟨w.heap.size, 0, none⟩) (A.length + B.length) (A.length + B.length)) S := hs
      have HV : Hid (D.val S = N) := by rw [hv, hin, List.take_length]; exact HN.out
      clear hv hz hS hs hin hA0 hB0
      go_wp2_with (go_at_call 67; refine (plain_sl _ S hs' uS (by omega) N HV.out).mono ?_; rintro e w' ⟨r, rfl, hr, rfl⟩)
      go_ret
      exact ⟨r, rfl, hr, hBt⟩
end Go.Proofs.YtjmiaakfdclfjaaGreatDoor.Nt
/-
  The walks of the reference's reach and take: lists of limbs as 64-bit numbers.
-/
namespace Go.Proofs.YtjmiaakfdclfjaaGreatDoor.Nt
open Go.RowKit

theorem val_top {R : List Int} {n : Nat} (h : R.length = n + 1) : val R = val (R.take n) + 4294967296 ^ n * R.getD n 0 := by
  have := val_take_succ R n (by omega)
  rw [List.take_of_length_le (by omega)] at this; exact this

set_option maxHeartbeats 2000000 in
theorem reach_any {w : World} (v u : Value) (R P : List Int) (hR : Sl .u64 w v R) (hP : Sl .u64 w u P) (uR : U32s R) (uP : U32s P) (n : Nat) (lR : R.length = n + 1) (lP : P.length = n) (hn : n ≤ 65536) (c : Bool) (hc : decide (val P ≤ val R) = c) :
    Calls Tryz.prog 95 #[v, u] w fun e w' => e = .returned (.bool c) ∧ Below w.heap.size w w' := by
  subst hc
  obtain ⟨a, ca, hv, hca⟩ := hR.len
  obtain ⟨b, cb, hu, hcb⟩ := hP.len
  subst hv; subst hu
  rw [lR] at hR hca ⊢
  rw [lP] at hP hcb ⊢
  obtain ⟨br, orr, ha, hbr, hrr⟩ : ∃ b off, a = some ⟨b, off, none⟩ ∧ b < w.heap.size ∧ Rd .u64 w b off R := by
    obtain ⟨a', c', h1, _, h2⟩ := id hR
    simp only [Value.slice.injEq] at h1
    obtain ⟨rfl, _, _⟩ := h1
    rcases h2 with h2 | ⟨b, off, rfl, hb, hr⟩
    · rw [h2] at lR; simp at lR
    · exact ⟨b, off, rfl, hb, hr⟩
  subst ha
  obtain ⟨t, ht⟩ : ∃ t, R.getD n 0 = t := ⟨_, rfl⟩
  have ut : U32 t := ht ▸ uR.at n
  obtain ⟨ut1, ut2⟩ := ut
  have hct : w.cell? ⟨br, orr + n, none⟩ = some (.int .u64 t) := by rw [hrr n (by omega), ht]
  by_cases ht0 : 0 < t
  · have HV : Hid (val P ≤ val R) := by
      show val P ≤ val R
      have h1 := val_top lR; have h2 := val_nonneg (uR.take n); have h3 := val_lt uP
      rw [ht] at h1; rw [lP] at h3
      have h4 : 4294967296 ^ n * 1 ≤ 4294967296 ^ n * t := Int.mul_le_mul_of_nonneg_left (by omega) (Int.le_of_lt (pow_pos32 n))
      omega
    clear hrr hR hP
    go_enter Tryz.func95, Tryz.ntmps95
    go_wp2
    go_ret
    exact ⟨by rw [decide_eq_true HV.out]; rfl, Below.refl _ _⟩
  have ht' : t = 0 := by omega
  have HT : Hid (R.getD n 0 = 0) := ht.trans ht'
  have HR : Hid (Rd .u64 w br orr R) := hrr
  clear ht hrr
  subst ht'
  go_enter Tryz.func95, Tryz.ntmps95
  go_wp2
  go_loopw [5] (fun i wr => ∃ k : Nat, k ≤ n ∧ i = .int .i64 ((k : Int) - 1) ∧ (∀ j, k ≤ j → R.getD j 0 = P.getD j 0) ∧ Below w.heap.size w wr) (fun i _ => (intOf i + 1).toNat)
  case atStart =>
    refine ⟨n, Nat.le_refl _, by go_num, fun j h1 => ?_, Below.refl _ _⟩
    by_cases hj : j = n
    · subst hj; rw [HT.out, getD_out P (by omega)]
    · rw [getD_out R (by omega), getD_out P (by omega)]
  case round =>
    obtain ⟨k, hk, rfl, hz, hBt⟩ := hrel
    cases k with
    | zero =>
      have HV : Hid (val P ≤ val R) := by
        have := val_ext R P (fun j => hz j (Nat.zero_le _))
        show val P ≤ val R; omega
      have em : (((0 : Nat) : Int) - 1) = -1 := by rfl
      rw [em]
      clear em hz
      go_wp2
      go_ret
      exact ⟨by rw [decide_eq_true HV.out]; rfl, hBt⟩
    | succ m =>
      have em : (((m + 1 : Nat) : Int) - 1) = (m : Int) := by omega
      rw [em]
      clear em
      obtain ⟨x, hx⟩ : ∃ x, R.getD m 0 = x := ⟨_, rfl⟩
      obtain ⟨y, hy⟩ : ∃ y, P.getD m 0 = y := ⟨_, rfl⟩
      obtain ⟨bp, op, hb, hbp, hrp⟩ : ∃ b' off, b = some ⟨b', off, none⟩ ∧ b' < w.heap.size ∧ Rd .u64 w b' off P := by
        obtain ⟨a', c', h1, _, h2⟩ := id hP
        simp only [Value.slice.injEq] at h1
        obtain ⟨rfl, _, _⟩ := h1
        rcases h2 with h2 | ⟨b, off, rfl, hb, hr⟩
        · rw [h2] at lP; simp at lP; omega
        · exact ⟨b, off, rfl, hb, hr⟩
      subst hb
      have hcx : wr.cell? ⟨br, orr + m, none⟩ = some (.int .u64 x) := by rw [hBt.cell hbr, HR.out m (by omega), hx]
      have hcy : wr.cell? ⟨bp, op + m, none⟩ = some (.int .u64 y) := by rw [hBt.cell hbp, hrp m (by omega), hy]
      have hm0 : (0 : Int) ≤ (m : Int) := by omega
      have hm1 : (m : Int) < (n : Int) := by omega
      have hm2 : (m : Int) < (n : Int) + 1 := by omega
      by_cases hxy : x = y
      · have HZ : Hid (∀ j, m ≤ j → R.getD j 0 = P.getD j 0) := fun j hj => by
          by_cases h3 : j = m
          · subst h3; rw [hx, hy, hxy]
          · exact hz j (by omega)
        subst hxy
        clear hz hx hy hrp
        go_wp2
        go_quiet (fail)
        go_wp2
        go_roundw
        case rel => exact ⟨m, by omega, by go_num, HZ.out, dr hBt⟩
        case measure => simp [intOf]
      · have HV : Hid (decide (val P ≤ val R) = decide (y < x)) := by
          show decide (val P ≤ val R) = decide (y < x)
          by_cases h1 : x < y
          · have := val_lt_of m R P uR uP (fun j hj => hz j (by omega)) (by rw [hx, hy]; exact h1)
            rw [decide_eq_false (by omega), decide_eq_false (by omega)]
          · have := val_lt_of m P R uP uR (fun j hj => (hz j (by omega)).symm) (by rw [hx, hy]; omega)
            rw [decide_eq_true (by omega), decide_eq_true (by omega)]
        have hne : (x != y) = true := by simpa using hxy
        have hne' : (x == y) = false := by simpa using hxy
        clear hz hx hy hrp
        go_wp2
        go_quiet (fail)
        go_wp2
        go_quiet (fail)
        go_wp2
        go_ret
        exact ⟨by rw [HV.out]; rfl, dr (dr hBt)⟩
end Go.Proofs.YtjmiaakfdclfjaaGreatDoor.Nt
/-
  The walk of the reference's take: q times P is taken off R, in place.
-/
namespace Go.Proofs.YtjmiaakfdclfjaaGreatDoor.Nt
open Go.RowKit

theorem take_step (B b q x r Z A Q : Int) (h : Z = A - q * Q + B * b) (y : Int) (hy : q * x + b = y) (z b' : Int) (hz : z = r - y + 4294967296 * b') :
    Z + B * z = A + B * r - q * (Q + B * x) + 4294967296 * B * b' := by
  subst hz; subst hy; rw [h]; grind
theorem cons_set (Z R : List Int) (z : Int) (h : Z.length < R.length) : (Z ++ R.drop Z.length).set Z.length z = (Z ++ [z]) ++ R.drop (Z.length + 1) := by
  rw [List.set_append_right _ _ (Nat.le_refl _), Nat.sub_self, List.drop_eq_getElem_cons h, List.set_cons_zero]; simp
theorem cat_get (Z R : List Int) (j : Nat) (h : Z.length ≤ j) : (Z ++ R.drop Z.length).getD j 0 = R.getD j 0 := by
  rw [List.getD_eq_getElem?_getD, List.getElem?_append_right h, List.getElem?_drop, List.getD_eq_getElem?_getD]; congr 2; omega
theorem cat_len (Z R : List Int) (h : Z.length ≤ R.length) : (Z ++ R.drop Z.length).length = R.length := by simp; omega

set_option maxHeartbeats 4000000 in
theorem take_any {w : World} (u : Value) (br cr : Nat) (R P : List Int) (q : Int) (hR : Arr .u64 43 w br R) (hP : Sl .u64 w u P) (hne : ∀ b o n' c', P ≠ [] → u = .slice (some ⟨b, o, none⟩) n' c' → b ≠ br) (uR : U32s R) (uP : U32s P) (n : Nat) (lR : R.length = n + 1) (lP : P.length = n) (_hcr : n + 1 ≤ cr) (hn : n ≤ 65536) (uq : U32 q) (hle : q * val P ≤ val R) :
    Calls Tryz.prog 94 #[.slice (some ⟨br, 0, none⟩) (n + 1) cr, u, .int .u64 q] w fun e w' => e = .returned (.tuple #[]) ∧ ∃ R', Arr .u64 43 w' br R' ∧ U32s R' ∧ R'.length = n + 1 ∧ val R' = val R - q * val P ∧ Upd w w' br := by
  obtain ⟨b, cb, hu, hcb⟩ := hP.len
  subst hu
  rw [lP] at hP hcb hne ⊢
  obtain ⟨uq1, uq2⟩ := uq
  go_enter Tryz.func94, Tryz.ntmps94
  go_wp2
  go_loopw [6, 7] (fun bv iv wr => ∃ Z bo, bv = .int .u64 bo ∧ iv = .int .i64 Z.length ∧ Z.length ≤ n ∧ U32 bo ∧ U32s Z ∧ Arr .u64 43 wr br (Z ++ R.drop Z.length) ∧ Upd w wr br ∧ val Z = val (R.take Z.length) - q * val (P.take Z.length) + 4294967296 ^ Z.length * bo) (fun _ iv _ => n - (intOf iv).toNat)
  case atStart => exact ⟨[], 0, rfl, rfl, Nat.zero_le _, ⟨by decide, by decide⟩, U32s.nil, by simpa using hR, Upd.refl _ _, by simp [val]⟩
  case round =>
    obtain ⟨Z, bo, rfl, rfl, hZn, ubo, uZ, hA, hU, heq⟩ := hrel
    obtain ⟨i, hi⟩ : ∃ i, Z.length = i := ⟨_, rfl⟩
    obtain ⟨ub1, ub2⟩ := ubo
    by_cases hlt : i < n
    · obtain ⟨bp, op, hb, hbp, hrp⟩ : ∃ b' off, b = some ⟨b', off, none⟩ ∧ b' < w.heap.size ∧ Rd .u64 w b' off P := by
        obtain ⟨a', c', h1, _, h2⟩ := id hP
        simp only [Value.slice.injEq] at h1
        obtain ⟨rfl, _, _⟩ := h1
        rcases h2 with h2 | ⟨b, off, rfl, hb, hr⟩
        · rw [h2] at lP; simp at lP; omega
        · exact ⟨b, off, rfl, hb, hr⟩
      subst hb
      have hbne : bp ≠ br := hne _ _ _ _ (by intro h; rw [h] at lP; simp at lP; omega) rfl
      obtain ⟨x, hx⟩ : ∃ x, P.getD i 0 = x := ⟨_, rfl⟩
      obtain ⟨r, hr⟩ : ∃ r, R.getD i 0 = r := ⟨_, rfl⟩
      have ux : U32 x := hx ▸ uP.at i
      have ur : U32 r := hr ▸ uR.at i
      have hcx : wr.cell? ⟨bp, op + i, none⟩ = some (.int .u64 x) := by
        rw [(hU.rd hbp hrp hbne) i (by omega), hx]
      have hcr' : wr.cell? ⟨br, i, none⟩ = some (.int .u64 r) := by
        rw [hA.cell i (by rw [cat_len _ _ (by omega)]; omega), cat_get _ _ _ (by omega), hr]
      have hfr : wr.frozen? ⟨br, i, none⟩ = false := hA.frozen i
      obtain ⟨p, hp⟩ : ∃ p, q * x = p := ⟨_, rfl⟩
      have hpb := mul_u32 ⟨uq1, uq2⟩ ux
      rw [hp] at hpb
      obtain ⟨pb1, pb2⟩ := hpb
      obtain ⟨ux1, ux2⟩ := ux
      obtain ⟨ur1, ur2⟩ := ur
      obtain ⟨y, hy⟩ : ∃ y, p + bo = y := ⟨_, rfl⟩
      have hyb : y ≤ 18446744069414584320 := by omega
      have hy0 : 0 ≤ y := by omega
      obtain ⟨yl, hyl⟩ : ∃ yl, y % 4294967296 = yl := ⟨_, rfl⟩
      obtain ⟨yh, hyh⟩ : ∃ yh, y / 4294967296 = yh := ⟨_, rfl⟩
      have hand : bits BinOp.and .u64 y 4294967295 = yl := by rw [and_low32 y hy0 (by omega)]; exact hyl
      have hyl0 : 0 ≤ yl := by omega
      have hyl1 : yl < 4294967296 := by omega
      have hyh0 : 0 ≤ yh := by omega
      have hyh1 : yh ≤ 4294967295 := by omega
      have hyh2 : yh = 4294967295 → yl = 0 := by omega
      have HH : Hid (P.getD i 0 = x ∧ R.getD i 0 = r ∧ Arr .u64 43 wr br (Z ++ R.drop Z.length) ∧ Upd w wr br ∧ U32s Z ∧ Z.length = i ∧ q * x = p ∧ p + bo = y ∧ y % 4294967296 = yl ∧ y / 4294967296 = yh ∧
        val Z = val (R.take Z.length) - q * val (P.take Z.length) + 4294967296 ^ Z.length * bo) := ⟨hx, hr, hA, hU, uZ, hi, hp, hy, hyl, hyh, heq⟩
      have HF : Hid (∀ z b' : Int, z = r - y + 4294967296 * b' → val (Z ++ [z]) = val (R.take (i + 1)) - q * val (P.take (i + 1)) + 4294967296 ^ (i + 1) * b') := fun z b' hz => by
        rw [val_snoc, hi, val_take_succ R i (by omega), val_take_succ P i (by omega), hx, hr, pow_succ32]
        rw [hi] at heq
        exact take_step _ _ _ _ _ _ _ _ heq y (by rw [hp]; exact hy) z b' hz
      rw [hi]
      clear hx hr hA hU uZ hi heq hrp hyl
      by_cases hlt2 : r < yl
      · go_wp2
        go_roundw
        case rel =>
          obtain ⟨hx, hr, hA, hU, uZ, hi, hp, hy, hyl, hyh', heq⟩ := HH.out
          refine ⟨Z ++ [r + 4294967296 - yl], yh + 1, by go_num, by simp [hi], by simp; omega, ⟨by omega, by omega⟩, uZ.append (U32s.cons ⟨by omega, by omega⟩ U32s.nil), ?_, ?_, ?_⟩
          · have h1 : Arr .u64 43 _ br _ := ((hA.set i (r + 4294967296)).set i (r + 4294967296 - yl))
            rw [List.set_set, ← hi, cons_set Z R _ (by omega)] at h1
            rw [List.length_append, List.length_singleton, ← hi]; simpa [hi] using h1
          · exact (hU.trans (Upd.set _ _ _ _)).trans (Upd.set _ _ _ _)
          · rw [List.length_append, List.length_singleton, hi]; exact HF.out _ _ (by omega)
        case measure => simp [intOf]; omega
      · go_wp2
        go_roundw
        case rel =>
          obtain ⟨hx, hr, hA, hU, uZ, hi, hp, hy, hyl, hyh', heq⟩ := HH.out
          refine ⟨Z ++ [r - yl], yh, by go_num, by simp [hi], by simp; omega, ⟨by omega, by omega⟩, uZ.append (U32s.cons ⟨by omega, by omega⟩ U32s.nil), ?_, ?_, ?_⟩
          · have h1 : Arr .u64 43 _ br _ := (hA.set i (r - yl))
            rw [← hi, cons_set Z R _ (by omega)] at h1
            rw [List.length_append, List.length_singleton, ← hi]; simpa [hi] using h1
          · exact hU.trans (Upd.set _ _ _ _)
          · rw [List.length_append, List.length_singleton, hi]; exact HF.out _ _ (by omega)
        case measure => simp [intOf]; omega
    · have hin : i = n := by omega
      obtain ⟨t, ht⟩ : ∃ t, R.getD n 0 = t := ⟨_, rfl⟩
      have ut : U32 t := ht ▸ uR.at n
      obtain ⟨ut1, ut2⟩ := ut
      have htop := val_top lR
      rw [ht] at htop
      have hZb := val_lt uZ
      have hZ0 := val_nonneg uZ
      rw [hi, hin] at heq hZb
      have hPf : P.take n = P := List.take_of_length_le (by omega)
      rw [hPf] at heq
      have hbt : bo ≤ t := by
        apply Decidable.byContradiction
        intro hc
        have h1 : 4294967296 ^ n * (t + 1) ≤ 4294967296 ^ n * bo := Int.mul_le_mul_of_nonneg_left (by omega) (Int.le_of_lt (pow_pos32 n))
        rw [Int.mul_add, Int.mul_one] at h1
        omega
      have hct : wr.cell? ⟨br, n, none⟩ = some (.int .u64 t) := by
        rw [hA.cell n (by rw [cat_len _ _ (by omega)]; omega), cat_get _ _ _ (by omega), ht]
      have hft : wr.frozen? ⟨br, n, none⟩ = false := hA.frozen n
      have HH : Hid (Arr .u64 43 wr br (Z ++ R.drop Z.length) ∧ Upd w wr br ∧ U32s Z ∧ Z.length = n ∧ val Z = val (R.take n) - q * val P + 4294967296 ^ n * bo ∧ val R = val (R.take n) + 4294967296 ^ n * t) := ⟨hA, hU, uZ, hi.trans hin, heq, htop⟩
      rw [hi, hin]
      clear hA hU uZ hi hin heq htop hZb hZ0 ht hPf hR
      go_wp2
      go_end0
      obtain ⟨hA, hU, uZ, hi, heq, htop⟩ := HH.out
      refine ⟨rfl, Z ++ [t - bo], ?_, uZ.append (U32s.cons ⟨by omega, by omega⟩ U32s.nil), by simp [hi], ?_, hU.trans (Upd.set _ _ _ _)⟩
      · have h1 : Arr .u64 43 _ br _ := hA.set n (t - bo)
        rw [← hi, cons_set Z R _ (by omega), List.drop_eq_nil_of_le (by omega), List.append_nil] at h1
        simpa [hi] using h1
      · rw [val_snoc, hi, heq, htop, Int.mul_sub]; omega
end Go.Proofs.YtjmiaakfdclfjaaGreatDoor.Nt
