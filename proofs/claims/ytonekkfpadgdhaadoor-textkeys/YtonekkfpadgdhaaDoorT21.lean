/-
  Text: the reference's decimal digits.
-/
import Derived.Test.YtonekkfpadgdhaaDoorT13
namespace Go.Proofs.YtonekkfpadgdhaaDoor
open Go.RowKit
theorem dec_big {u : Nat} (h : ¬ u < 10) : Lib.decDigits u = Lib.decDigits (u / 10) ++ Lib.decDigits (u % 10) := by
  rw [Lib.decDigits_one (i := u % 10) (by omega)]
  rw [Lib.decDigits, dif_neg h]
theorem dec_len (u : Nat) (h : u < 18446744073709551616) : (str (Lib.decDigits u)).size ≤ 20 := by
  rw [str_size, Lib.decDigits_length]
  exact Lib.nDigits_le20 u h
theorem one_str (w : World) (u : Nat) (h : u < 10) : Sem.run Tryd.prog (convert 22 9 (.slice (some ⟨w.heap.size, 0, none⟩) 1 1)) (w.alloc (.cells #[.int .u8 (48 + (u : Int))] 5)) = .ok (.string (str (Lib.decDigits u))) (w.alloc (.cells #[.int .u8 (48 + (u : Int))] 5)) := by
  have hs : Sl .u8 (w.alloc (.cells #[.int .u8 (48 + (u : Int))] 5)) (.slice (some ⟨w.heap.size, 0, none⟩) 1 1) (nums [UInt8.ofNat (48 + u)]) := by
    have e : nums [UInt8.ofNat (48 + u)] = [48 + (u : Int)] := by
      simp [nums]; omega
    rw [e]
    exact new1 _
  obtain ⟨a, c, e, hr⟩ := sl_str hs
  cases e
  rw [Lib.decDigits_one h]
  exact hr
set_option maxHeartbeats 1000000 in
theorem RDig_small {w : World} (u : Nat) (h : u < 10) : Calls Tryd.prog 36 #[.int .i64 u] w fun e w' => e = .returned (.string (str (Lib.decDigits u))) ∧ Below w.heap.size w w' := by
  have z1 : ¬ (u : Int) < 0 := by omega
  have z2 : (u : Int) < 10 := by omega
  have hcv := one_str w u h
  go_enter Tryd.func36, Tryd.ntmps36
  go_wp2
  go_ret
  exact ⟨rfl, al1 _⟩
set_option maxHeartbeats 1000000 in
theorem RDig_nat (u : Nat) : u ≤ 9223372036854775807 → ∀ w : World, Calls Tryd.prog 36 #[.int .i64 u] w fun e w' => e = .returned (.string (str (Lib.decDigits u))) ∧ Below w.heap.size w w' := by
  induction u using Nat.strongRecOn with
  | ind u ih =>
    intro hu w
    by_cases h : u < 10
    · exact RDig_small u h
    · have HQ : Hid (∀ w : World, Calls Tryd.prog 36 #[.int .i64 ((u : Int) / 10)] w fun e w' => e = .returned (.string (str (Lib.decDigits (u / 10)))) ∧ Below w.heap.size w w') := fun w => by
        have := ih (u / 10) (by omega) (by omega) w
        rw [Int.natCast_ediv] at this
        exact this
      have HM : Hid (∀ w : World, Calls Tryd.prog 36 #[.int .i64 ((u : Int) % 10)] w fun e w' => e = .returned (.string (str (Lib.decDigits (u % 10)))) ∧ Below w.heap.size w w') := fun w => by
        have := RDig_small (w := w) (u % 10) (by omega)
        rw [Int.natCast_emod] at this
        exact this
      have hs1 := dec_len (u / 10) (by omega)
      have hs2 := dec_len (u % 10) (by omega)
      have HE : Hid (str (Lib.decDigits (u / 10)) ++ str (Lib.decDigits (u % 10)) = str (Lib.decDigits u)) := by
        show _ = _
        rw [str_app, ← dec_big h]
      obtain ⟨A, hA⟩ : ∃ A, str (Lib.decDigits (u / 10)) = A := ⟨_, rfl⟩
      obtain ⟨B, hB⟩ : ∃ B, str (Lib.decDigits (u % 10)) = B := ⟨_, rfl⟩
      rw [hA] at HQ hs1 HE
      rw [hB] at HM hs2 HE
      have z1 : ¬ (u : Int) < 0 := by omega
      have z2 : (10 : Int) ≤ (u : Int) := by omega
      have z3 : (u : Int) ≤ 9223372036854775807 := by omega
      clear ih hA hB h hu
      go_enter Tryd.func36, Tryd.ntmps36
      go_wp2_with fail
      refine (HQ.out _).mono ?_
      rintro e w1 ⟨rfl, hb⟩
      go_wp2_with fail
      refine (HM.out _).mono ?_
      rintro e w2 ⟨rfl, hb'⟩
      go_wp2
      go_ret
      refine ⟨?_, below_via hb hb' (Nat.le_refl _)⟩
      rw [← HE.out]; rfl
set_option maxHeartbeats 1000000 in
theorem RDig_neg (u : Nat) : 1 ≤ u → u ≤ 9223372036854775808 → ∀ w : World, Calls Tryd.prog 36 #[.int .i64 (-(u : Int))] w fun e w' => e = .returned (.string (str (45 :: Lib.decDigits u))) ∧ Below w.heap.size w w' := by
  induction u using Nat.strongRecOn with
  | ind u ih =>
    intro h1 hu w
    have z1 : -(u : Int) < 0 := by omega
    have z3 : (u : Int) ≤ 9223372036854775808 := by omega
    by_cases h : u < 10
    · have HM : Hid (∀ w : World, Calls Tryd.prog 36 #[.int .i64 (u : Int)] w fun e w' => e = .returned (.string (str (Lib.decDigits u))) ∧ Below w.heap.size w w') := fun w => RDig_small (w := w) u h
      have hs2 := dec_len u (by omega)
      have HE : Hid (str [45] ++ str (Lib.decDigits u) = str (45 :: Lib.decDigits u)) := by
        show _ = _
        rw [str_app]; rfl
      obtain ⟨B, hB⟩ : ∃ B, str (Lib.decDigits u) = B := ⟨_, rfl⟩
      rw [hB] at HM hs2 HE
      have z2 : ¬ -(u : Int) ≤ -10 := by omega
      clear ih hB h hu
      go_enter Tryd.func36, Tryd.ntmps36
      go_wp2_with fail
      refine (HM.out _).mono ?_
      rintro e w1 ⟨rfl, hb⟩
      go_wp2
      go_ret
      refine ⟨?_, hb⟩
      rw [← HE.out]; rfl
    · have z2 : -(u : Int) ≤ -10 := by omega
      have HQ : Hid (∀ w : World, Calls Tryd.prog 36 #[.int .i64 (-((u : Int) / 10))] w fun e w' => e = .returned (.string (str (45 :: Lib.decDigits (u / 10)))) ∧ Below w.heap.size w w') := fun w => by
        have := ih (u / 10) (by omega) (by omega) (by omega) w
        rw [Int.natCast_ediv] at this
        exact this
      have HM : Hid (∀ w : World, Calls Tryd.prog 36 #[.int .i64 ((u : Int) % 10)] w fun e w' => e = .returned (.string (str (Lib.decDigits (u % 10)))) ∧ Below w.heap.size w w') := fun w => by
        have := RDig_small (w := w) (u % 10) (by omega)
        rw [Int.natCast_emod] at this
        exact this
      have hs1 : (str (45 :: Lib.decDigits (u / 10))).size ≤ 21 := by
        have := dec_len (u / 10) (by omega)
        rw [str_size] at this ⊢
        rw [List.length_cons]; omega
      have hs2 := dec_len (u % 10) (by omega)
      have HE : Hid (str (45 :: Lib.decDigits (u / 10)) ++ str (Lib.decDigits (u % 10)) = str (45 :: Lib.decDigits u)) := by
        show _ = _
        rw [str_app, dec_big h]; rfl
      obtain ⟨A, hA⟩ : ∃ A, str (45 :: Lib.decDigits (u / 10)) = A := ⟨_, rfl⟩
      obtain ⟨B, hB⟩ : ∃ B, str (Lib.decDigits (u % 10)) = B := ⟨_, rfl⟩
      rw [hA] at HQ hs1 HE
      rw [hB] at HM hs2 HE
      clear ih hA hB h hu
      go_enter Tryd.func36, Tryd.ntmps36
      go_wp2_with fail
      refine (HQ.out _).mono ?_
      rintro e w1 ⟨rfl, hb⟩
      go_wp2_with fail
      refine (HM.out _).mono ?_
      rintro e w2 ⟨rfl, hb'⟩
      go_wp2
      go_ret
      refine ⟨?_, below_via hb hb' (Nat.le_refl _)⟩
      rw [← HE.out]; rfl
theorem RDig_any {w : World} (n : Int) (h0 : -9223372036854775808 ≤ n) (h1 : n ≤ 9223372036854775807) : Calls Tryd.prog 36 #[.int .i64 n] w fun e w' => e = .returned (.string (str (Lib.itoa n))) ∧ Below w.heap.size w w' := by
  by_cases h : 0 ≤ n
  · obtain ⟨u, rfl⟩ := Int.eq_ofNat_of_zero_le h
    rw [Lib.itoa_nonneg]
    exact RDig_nat u (by omega) w
  · obtain ⟨u, rfl⟩ : ∃ u : Nat, n = -(u : Int) := ⟨n.natAbs, by omega⟩
    rw [Lib.itoa_neg u (by omega)]
    exact RDig_neg u (by omega) (by omega) w
end Go.Proofs.YtonekkfpadgdhaaDoor
