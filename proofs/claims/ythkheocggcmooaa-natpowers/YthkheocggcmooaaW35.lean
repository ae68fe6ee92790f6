/-
  The walk of the reference's sub.
-/
import Derived.Test.YthkheocggcmooaaW34
import Derived.Deep.CutRange
namespace Go.Proofs.Ythkheocggcmooaa
open Go.RowKit

theorem Row.same {k : IntKind} {e : TypeId} {B : Nat} {w w' : World} {v : Value} {xs : List Int} (h : Row k e B w v xs) (he : w'.heap = w.heap) : Row k e B w' v xs := by
  rcases h with h | ⟨b, S, rfl, h1, hA, h2⟩
  · exact .inl h
  · exact .inr ⟨b, S, rfl, h1, by unfold Arr; rw [he]; exact hA, h2⟩
theorem dr {a w : World} {n : Nat} (h : Below a.heap.size a w) : Below a.heap.size a (w.drewN n) := h.trans ⟨rfl, rfl, rfl, Nat.le_refl _, fun _ _ => rfl⟩
theorem take_val_le {A B : List Int} (uA : D.U16s A) (uB : D.U16s B) (h : D.val B ≤ D.val A) : D.val (B.take A.length) = D.val B := by
  have h1 := D.val_lt uA
  by_cases hl : B.length ≤ A.length
  · rw [List.take_of_length_le hl]
  · have e : D.val B = D.val (B.take A.length) + 65536 ^ A.length * D.val (B.drop A.length) := by
      conv => lhs; rw [← List.take_append_drop A.length B]
      rw [D.val_append, List.length_take, Nat.min_eq_left (by omega)]
    have h2 := D.val_nonneg (uB.take A.length)
    have h3 := D.val_nonneg (uB.drop A.length)
    have h4 := D.pow_pos16 A.length
    by_cases h5 : D.val (B.drop A.length) = 0
    · rw [e, h5]; omega
    · have : 65536 ^ A.length * 1 ≤ 65536 ^ A.length * D.val (B.drop A.length) := Int.mul_le_mul_of_nonneg_left (by omega) (by omega)
      omega

set_option maxHeartbeats 2000000 in
theorem sub_new {w : World} (v u : Value) (A B : List Int) (hA : Sl .u64 w v A) (hB : Sl .u64 w u B) (uA : D.U16s A) (uB : D.U16s B) (lA : A.length ≤ 1073741824) (lB : B.length ≤ 1073741824) (N : Int) (hN : D.val A - D.val B = N) (h0 : 0 ≤ N) :
    Calls Try.prog 51 #[v, u] w fun e w' => ∃ r, e = .returned r ∧ SlN .u64 w.heap.size w' r (D.lim N.toNat) ∧ Below w.heap.size w w' := by
  have hA0 := hA; have hB0 := hB
  obtain ⟨a, ca, hv, _⟩ := hA.len
  obtain ⟨bb, cb, hu, _⟩ := hB.len
  subst hv; subst hu
  have HN : Hid (D.val A - D.val B = N ∧ 0 ≤ N) := ⟨hN, h0⟩
  clear hN hA hB h0
  go_enter Try.func51, Try.ntmps51
  go_wp2
  go_loopw [5, 6, 7] (fun o t i wr => ∃ Z c, Row .u64 42 w.heap.size wr o Z ∧ t = .int .u64 c ∧ 0 ≤ c ∧ c ≤ 1 ∧ i = .int .i64 Z.length ∧ D.U16s Z ∧ D.val Z = D.val (A.take Z.length) - D.val (B.take Z.length) + 65536 ^ Z.length * c ∧
      Z.length ≤ A.length ∧ Below w.heap.size w wr) (fun _ _ i _ => A.length - (intOf i).toNat)
  case atStart => exact ⟨[], 0, Row.nil _ _ _ _, rfl, by decide, by decide, rfl, D.U16s.nil, by simp [D.val], by simp, Below.refl _ _⟩
  case round =>
    obtain ⟨Z, c, hrow, rfl, hc0, hc1, rfl, uZ, heq, hle, hBt⟩ := hrel
    obtain ⟨n, hn⟩ : ∃ n, Z.length = n := ⟨_, rfl⟩
    obtain ⟨x, hx⟩ : ∃ x, A.getD n 0 = x := ⟨_, rfl⟩
    obtain ⟨y, hy⟩ : ∃ y, B.getD n 0 = y := ⟨_, rfl⟩
    have ux : D.U16 x := hx ▸ uA.at n
    have uy : D.U16 y := hy ▸ uB.at n
    obtain ⟨ux1, ux2⟩ := ux
    obtain ⟨uy1, uy2⟩ := uy
    have hsz : w.heap.size ≤ wr.heap.size := hBt.size
    by_cases hlt : n < A.length
    · obtain ⟨b, off, ha, hb, hrd⟩ : ∃ b off, a = some ⟨b, off, none⟩ ∧ b < w.heap.size ∧ Rd .u64 w b off A := by
        obtain ⟨a', c', h1, _, h2⟩ := hA0
        cases h1
        rcases h2 with rfl | ⟨b, off, rfl, hb, hr⟩
        · simp at hlt
        · exact ⟨b, off, rfl, hb, hr⟩
      subst ha
      have hcx : wr.cell? ⟨b, off + n, none⟩ = some (.int .u64 x) := by rw [hBt.cell hb, hrd n hlt, hx]
      have hd2 : ∀ q, Calls Try.prog 64 #[.slice bb B.length cb, .int .i64 n] (wr.drewN q) fun e w' => e = .returned (.int .u64 y) ∧ w' = wr.drewN q := fun q =>
        (digit_nat _ B (below_sl (hBt.trans ⟨rfl, rfl, rfl, Nat.le_refl _, fun _ _ => rfl⟩ : Below w.heap.size w (wr.drewN q)) hB0) (by omega) n (by omega) y hy).mono fun e w' h => ⟨h.1, h.2.symm⟩
      have HH : Hid (A.getD n 0 = x ∧ B.getD n 0 = y ∧ D.val Z = D.val (A.take Z.length) - D.val (B.take Z.length) + 65536 ^ Z.length * c ∧ Below w.heap.size w wr ∧ D.U16s Z ∧ Z.length = n) := ⟨hx, hy, heq, hBt, uZ, hn⟩
      rw [hn] at hle ⊢
      have hzl : Z.length ≤ 1073741826 := by omega
      clear hx hy heq hBt uZ hA0 hB0 hn hrd
      go_upto_region 6 with (fail)
      go_region_with (go_at_call 64; refine (hd2 _).mono ?_; rintro e w2 ⟨rfl, rfl⟩)
      all_goals
        go_wp2_with (at_builtin; refine wpList_ap rfl (.tmp 26) (.tmp 29) 58 58 rfl .u64 42 8 Try.und64 Try.info64 (by decide) w.heap.size _ Z (by rfl) (Row.alloc (hrow.same rfl) _) _ [(65536 + x - y - c) % 65536] (by rfl) (src_sl Try.und64 (Arr.sl64 (S := [(65536 + x - y - c) % 65536]) (arr_new rfl rfl))) (by simp only [List.length_singleton]; omega) (by simp; omega) ?_; intro v1 w1 hr1 hg1; have hB1 := hg1.below (Row.alloc (hrow.same rfl) _) (by simp; omega))
        go_roundw
        case rel =>
          obtain ⟨hx, hy, heq, hBt, uZ, hkz⟩ := HH.out
          refine ⟨Z ++ [(65536 + x - y - c) % 65536], 1 - (65536 + x - y - c) / 65536, hr1, by go_num, by omega, by omega, by rw [List.length_append, hkz]; go_num, uZ.append (D.U16s.cons ⟨by omega, by omega⟩ D.U16s.nil), ?_, by rw [List.length_append, hkz]; simp; omega, (al (dr hBt)).trans hB1⟩
          rw [D.val_snoc, List.length_append, List.length_singleton, D.pow_succ16, hkz, D.val_take_succ, D.val_take_succ, hx, hy]
          rw [hkz] at heq
          exact borrow_step (65536 ^ n) c x y (D.val Z) _ _ heq
        case measure => simp [intOf]; omega
    · have hs := hrow.sln
      have HV : Hid (D.val Z = N) := by
        obtain ⟨h1, h2⟩ := HN.out
        have hnA : n = A.length := by omega
        rw [hn, hnA, List.take_length, take_val_le uA uB (by omega)] at heq
        have h3 := D.val_lt uZ
        rw [hn, hnA] at h3
        have h4 := D.pow_pos16 A.length
        have hc : c = 0 := by
          apply Decidable.byContradiction
          intro hne
          have : c = 1 := by omega
          subst this
          omega
        rw [hc, Int.mul_zero, Int.add_zero, h1] at heq
        exact heq
      have hzl : Z.length ≤ 1073741826 := by omega
      rw [hn]
      clear heq hx hy hrow hA0 hB0 hn
      go_wp2_with (go_at_call 66; refine (plain_new _ Z hs uZ (by omega) N HV.out).mono ?_; rintro e w' ⟨r, rfl, hr, rfl⟩)
      go_ret
      exact ⟨r, rfl, hr, hBt⟩
theorem sub_any {w : World} (v u : Value) (A B : List Int) (hA : Sl .u64 w v A) (hB : Sl .u64 w u B) (uA : D.U16s A) (uB : D.U16s B) (lA : A.length ≤ 1073741824) (lB : B.length ≤ 1073741824) (N : Int) (hN : D.val A - D.val B = N) (h0 : 0 ≤ N) :
    Calls Try.prog 51 #[v, u] w fun e w' => ∃ r, e = .returned r ∧ Sl .u64 w' r (D.lim N.toNat) ∧ Below w.heap.size w w' :=
  (sub_new v u A B hA hB uA uB lA lB N hN h0).mono fun _ _ ⟨r, h1, h2, h3⟩ => ⟨r, h1, h2.sl, h3⟩
end Go.Proofs.Ythkheocggcmooaa
