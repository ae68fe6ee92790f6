/-
  Der: PutOid of any text.
-/
import Derived.Test.YtndcpjnfdgojkaaDoorE77
namespace Go.Proofs.YtndcpjnfdgojkaaDoor
open Go.RowKit
set_option maxRecDepth 20000 in
set_option maxHeartbeats 8000000 in
theorem PutOid_any {w : World} (Y : List Int) (hU : U8s Y) (hl : Y.length ≤ 2000) :
    Calls Tryd.prog 31 #[.string (strOfNums Y)] w fun e w' => (∃ r b er, PutR Y b er ∧ e = .returned (.tuple #[r, .int .i64 er]) ∧ Sl .u8 w' r b) ∧ Below w.heap.size w w' := by
  have HX : Hid (U8s Y ∧ Y.length ≤ 2000) := ⟨hU, hl⟩
  clear hU hl
  go_enter Tryd.func31, Tryd.ntmps31
  go_wp2_with fail
  refine (written_any Y HX.out.1 HX.out.2).mono ?_
  rintro e w1 ⟨ha, hb1⟩
  have HB1 : Hid (Below w.heap.size w w1) := hb1
  have six : Hid ((∀ A, arcsP Y = some A → putOk A = false) → ∀ (W : World) (e : Ending), Below w.heap.size w W → e = .returned (.tuple #[.slice none 0 0, .int .i64 6]) → (∃ r b er, PutR Y b er ∧ e = .returned (.tuple #[r, .int .i64 er]) ∧ Sl .u8 W r b) ∧ Below w.heap.size w W) := fun h W e hW he => ⟨⟨_, [], 6, .inl ⟨h, rfl, rfl⟩, he, nil_sl _⟩, hW⟩
  rcases ha with ⟨A, r1, hA, rfl, hr1⟩ | ⟨hno, r1, rfl⟩
  · have hAl : A.length ≤ 2001 := by have := arcsP_len hA; have := HX.out.2; omega
    obtain ⟨n, hn⟩ : ∃ n, A.length = n := ⟨_, rfl⟩
    have hCl : (capL 2147483648 A).length = n := by unfold capL; rw [List.length_map]; exact hn
    obtain ⟨al, cl, hv⟩ := hr1.ne
    rw [hCl] at hv
    subst hv
    have H1 : Hid (arcsP Y = some A ∧ A.length = n ∧ Row .u64 81 (w.heap.size + 1) w1 (.slice al n cl) (capL 2147483648 A) ∧ Below w.heap.size w w1) := ⟨hA, hn, hr1, hb1⟩
    have hn2 : n ≤ 2001 := by omega
    clear hb1
    by_cases h2 : n < 2
    · have h2I : (n : Int) < 2 := by omega
      have HN : Hid (∀ A', arcsP Y = some A' → putOk A' = false) := by
        intro A' h; rw [H1.out.1] at h; cases h; unfold putOk; simp; omega
      clear hr1 hA hCl
      go_wp2
      go_ret2
      exact six.out HN.out _ _ H1.out.2.2.2 rfl
    · have h2I : ¬ (n : Int) < 2 := by omega
      obtain ⟨b1, S1, hv, hB1, hA1, hl1, ht1, hm1⟩ := hr1.open n hCl (by omega)
      simp only [Value.slice.injEq] at hv
      obtain ⟨rfl, _, rfl⟩ := hv
      have hrd : Rd .u64 w1 b1 0 (capL 2147483648 A) := by
        have := hA1.rd 0 n (by omega)
        rw [List.drop_zero, ht1] at this
        exact this
      have g : ∀ i, i < n → w1.cell? ⟨b1, i, none⟩ = some (.int .u64 (capN 2147483648 (A.getD i 0))) := by
        intro i hi
        have := hrd i (by omega)
        rw [Nat.zero_add, capL_get, if_pos (by omega)] at this
        exact this
      obtain ⟨a0, ha0⟩ : ∃ a0, A.getD 0 0 = a0 := ⟨_, rfl⟩
      obtain ⟨a1, ha1⟩ : ∃ a1, A.getD 1 0 = a1 := ⟨_, rfl⟩
      obtain ⟨c0, hc0⟩ : ∃ c0, capN 2147483648 a0 = c0 := ⟨_, rfl⟩
      obtain ⟨c1, hc1⟩ : ∃ c1, capN 2147483648 a1 = c1 := ⟨_, rfl⟩
      have d0 : w1.cell? ⟨b1, 0, none⟩ = some (.int .u64 c0) := by rw [g 0 (by omega), ha0, hc0]
      have d1 : w1.cell? ⟨b1, 1, none⟩ = some (.int .u64 c1) := by rw [g 1 (by omega), ha1, hc1]
      have e0 : c0 = ((min a0 2147483648 : Nat) : Int) := by rw [← hc0]; rfl
      have e1 : c1 = ((min a1 2147483648 : Nat) : Int) := by rw [← hc1]; rfl
      have HA : Hid (A.getD 0 0 = a0 ∧ A.getD 1 0 = a1 ∧ c0 = ((min a0 2147483648 : Nat) : Int) ∧ c1 = ((min a1 2147483648 : Nat) : Int) ∧ Rd .u64 w1 b1 0 (capL 2147483648 A) ∧ b1 < w1.heap.size ∧ w.heap.size + 1 ≤ b1) := ⟨ha0, ha1, e0, e1, hrd, hA1.lt, hB1⟩
      have c00 : 0 ≤ c0 := by omega
      have c10 : 0 ≤ c1 := by omega
      have c11 : c1 ≤ 2147483648 := by omega
      have bad : Hid (¬ (a0 ≤ 2 ∧ (a0 = 2 ∨ a1 < 40)) → ∀ A', arcsP Y = some A' → putOk A' = false) := by
        intro h A' h'; rw [H1.out.1] at h'; cases h'; unfold putOk; rw [HA.out.1, HA.out.2.1]; simp only [decide_eq_false_iff_not]; omega
      clear hr1 hA hCl hA1 hrd g ht1 hm1 ha0 ha1 hc0 hc1 hB1
      obtain ⟨k1, hk1⟩ : ∃ k, S1.length = k := ⟨_, rfl⟩
      rw [hk1] at hl1 H1 ⊢
      clear hk1
      by_cases q1 : 2 < c0
      · have HN := bad.out (by omega)
        have HN' : Hid (∀ A', arcsP Y = some A' → putOk A' = false) := HN
        clear HN e0 e1
        go_wp2
        go_ret2
        exact six.out HN'.out _ _ H1.out.2.2.2 rfl
      by_cases q2 : c0 < 2 ∧ 40 ≤ c1
      · have HN' : Hid (∀ A', arcsP Y = some A' → putOk A' = false) := bad.out (by omega)
        obtain ⟨q2a, q2b⟩ := q2
        clear e0 e1
        go_wp2
        go_ret2
        exact six.out HN'.out _ _ H1.out.2.2.2 rfl
      have HOk : Hid (putOk A = true ∧ (a0 : Int) = c0 ∧ a0 ≤ 2) := by
        refine ⟨?_, by omega, by omega⟩
        unfold putOk; rw [HA.out.1, HA.out.2.1]; simp only [decide_eq_true_eq]
        have := H1.out.2.1
        omega
      have q2c : (¬ c0 < 2) ∨ (c0 < 2 ∧ ¬ 40 ≤ c1) := by omega
      have hc2 : c0 ≤ 2 := by omega
      have hU64 : U64s (capL 2147483648 A) := by
        intro z hz
        unfold capL at hz
        obtain ⟨u, _, rfl⟩ := List.mem_map.1 hz
        unfold capN; omega
      obtain ⟨m, hm⟩ : ∃ m, mxN (capL 2147483648 A) n = m := ⟨_, rfl⟩
      have HM : Hid (mxN (capL 2147483648 A) n = m ∧ U64s (capL 2147483648 A) ∧ ((2147483647 : Int) < m ↔ putLong A = true)) := by
        refine ⟨hm, hU64, ?_⟩
        have h3 := mxN_gt (X := capL 2147483648 A) 2147483647 n (by omega)
        rw [hm] at h3
        rw [h3]
        unfold putLong
        rw [List.any_eq_true]
        have hn' := H1.out.2.1
        constructor
        · rintro ⟨j, hj, h⟩
          rw [capL_get, if_pos (by omega)] at h
          refine ⟨A[j]'(by omega), List.getElem_mem _, ?_⟩
          rw [List.getD_eq_getElem?_getD, List.getElem?_eq_getElem (by omega)] at h
          unfold capN at h
          simp at h ⊢; omega
        · rintro ⟨u, hu, h⟩
          obtain ⟨j, hj, rfl⟩ := List.mem_iff_getElem.1 hu
          refine ⟨j, by omega, ?_⟩
          rw [capL_get, if_pos (by omega), List.getD_eq_getElem?_getD, List.getElem?_eq_getElem (by omega)]
          unfold capN
          simp at h ⊢; omega
      have m0 : 0 ≤ m := by rw [← hm]; exact (mxN_bd hU64 n).1
      have m1 : m < 18446744073709551616 := by rw [← hm]; exact (mxN_bd hU64 n).2
      clear hm hU64 e0 e1 q2
      rcases q2c with q2c | ⟨q2a, q2b⟩
      all_goals
        go_wp2_with fail
        refine (Max_any b1 k1 n (capL 2147483648 A) HA.out.2.2.2.2.1 (by unfold capL; rw [List.length_map]; exact H1.out.2.1) (by omega) (by omega) HM.out.2.1).mono ?_
        rw [HM.out.1]
        rintro e w2 ⟨rfl, rfl⟩
        by_cases hlong : (2147483647 : Int) < m
        · have HL : Hid (putLong A = true) := HM.out.2.2.1 hlong
          go_wp2
          go_ret2
          exact ⟨⟨_, [], 3, .inr (.inl ⟨A, H1.out.1, HOk.out.1, HL.out, rfl, rfl⟩), rfl, nil_sl _⟩, H1.out.2.2.2⟩
        have hnl : putLong A = false := by
          cases h : putLong A with
          | false => rfl
          | true => exact absurd (HM.out.2.2.2 h) hlong
        have hall : ∀ u ∈ A, u ≤ 2147483647 := by
          intro u hu
          unfold putLong at hnl
          rw [List.any_eq_false] at hnl
          have := hnl u hu
          simp at this; omega
        have hcell : ∀ i, i < n → w1.cell? ⟨b1, i, none⟩ = some (.int .u64 ((A.getD i 0 : Nat) : Int)) := by
          intro i hi
          have h3 := HA.out.2.2.2.2.1 i (by unfold capL; rw [List.length_map, H1.out.2.1]; exact hi)
          rw [Nat.zero_add, capL_get, if_pos (by rw [H1.out.2.1]; exact hi)] at h3
          rw [h3]
          have h4 : A.getD i 0 ≤ 2147483647 := by
            rw [List.getD_eq_getElem?_getD, List.getElem?_eq_getElem (by rw [H1.out.2.1]; exact hi)]
            exact hall _ (List.getElem_mem _)
          unfold capN
          congr 3
          omega
        have e1 : (a1 : Int) = c1 := by
          have h5 := HA.out.2.2.2.1
          have h4 : a1 ≤ 2147483647 := by
            rw [← HA.out.2.1, List.getD_eq_getElem?_getD, List.getElem?_eq_getElem (by rw [H1.out.2.1]; omega)]
            exact hall _ (List.getElem_mem _)
          omega
        obtain ⟨s0, hs0⟩ : ∃ s0 : Nat, 40 * a0 + a1 = s0 := ⟨_, rfl⟩
        have hs1 : 40 * c0 + c1 = (s0 : Int) := by have := HOk.out.2.1; omega
        have hs2 : s0 ≤ 4294967295 := by have := HOk.out.2.2; omega
        have HN : Hid (putLong A = false ∧ (∀ u ∈ A, u ≤ 2147483647) ∧ (∀ i, i < n → w1.cell? ⟨b1, i, none⟩ = some (.int .u64 ((A.getD i 0 : Nat) : Int))) ∧ 40 * A.getD 0 0 + A.getD 1 0 = s0) := ⟨hnl, hall, hcell, by rw [HA.out.1, HA.out.2.1]; exact hs0⟩
        clear hnl hall hcell e1 hs0
        have b1w : b1 < w1.heap.size := HA.out.2.2.2.2.2.1
        go_upto_region 6 with (fail)
        have hn1 : (1 : Int) < (n : Int) := by omega
        refine wp_region_qsd 8 (by kernel_rfl) (by kernel_rfl) ?_
        simp only [List.take_succ_cons, List.take_zero, List.drop_succ_cons, List.drop_zero]
        repeat (go_big_quiet_step (fail))
        refine wpQuiet_nil ?_
        rintro _ ⟨q3, rfl⟩
        go_wp2_with fail
        refine (sevensL_any (w := w1.drewN q3) w1.heap.size (.slice none 0 0) [] s0 (Row.nil _ _ _ _) (by exact Nat.le_refl w1.heap.size) hs2 (by simp)).mono ?_
        rintro e w3 ⟨r3, rfl, hr3, hb3⟩
        rw [List.nil_append] at hr3
        have H3 : Hid (Row .u8 5 w1.heap.size w3 r3 (sevL s0) ∧ Below w1.heap.size w1 w3) := ⟨hr3, (below_drewN _ (Below.refl _ _)).trans hb3⟩
        clear hr3 hb3 d0 d1
        obtain ⟨T, hT⟩ : ∃ T, A.drop 2 = T := ⟨_, rfl⟩
        obtain ⟨n2, hn2'⟩ : ∃ n2, n - 2 = n2 := ⟨_, rfl⟩
        have HT : Hid (A.drop 2 = T ∧ T.length = n2 ∧ n = n2 + 2) := ⟨hT, by rw [← hT, List.length_drop, H1.out.2.1]; exact hn2', by omega⟩
        have hkn : (2 : Int) ≤ (k1 : Int) := by omega
        have h2n : (2 : Int) ≤ (n : Int) := by omega
        obtain ⟨ba, hba⟩ : ∃ ba : Option Addr, (if k1 = 2 then some ⟨b1, 0, none⟩ else some ⟨b1, 2, none⟩) = ba := ⟨_, rfl⟩
        have HBA : Hid (0 < n2 → ba = some ⟨b1, 2, none⟩) := by intro h; rw [← hba, if_neg (by omega)]
        clear hT
        go_wp2_with fail
        go_loopw [6, 54] (fun bv iv wr => ∃ (i : Nat) (s1 : Value), s1 = bv ∧ iv = .int .i64 i ∧ i ≤ n2 ∧ Row .u8 5 w1.heap.size wr s1 (sevL s0 ++ (T.take i).flatMap sevL) ∧ Below w1.heap.size w1 wr) (fun _ iv _ => n2 - (intOf iv).toNat)
        case atStart => exact ⟨0, _, rfl, rfl, by omega, by simpa using H3.out.1, H3.out.2⟩
        case round =>
          obtain ⟨i, s1, rfl, rfl, hi, hr, hb⟩ := hrel
          have H5 : Hid (Row .u8 5 w1.heap.size wr s1 (sevL s0 ++ (T.take i).flatMap sevL) ∧ Below w1.heap.size w1 wr) := ⟨hr, hb⟩
          clear hr hb
          by_cases hlt : i < n2
          · have l1 : (i : Int) < (n2 : Int) := by omega
            have hb2 := HBA.out (by omega)
            obtain ⟨u, hu⟩ : ∃ u, T.getD i 0 = u := ⟨_, rfl⟩
            have hTA : T.getD i 0 = A.getD (2 + i) 0 := by rw [← HT.out.1, List.getD_eq_getElem?_getD, List.getD_eq_getElem?_getD, List.getElem?_drop]
            have hu2 : u ≤ 2147483647 := by
              have hlA : 2 + i < A.length := by have := H1.out.2.1; have := HT.out.2.2; omega
              rw [← hu, hTA, List.getD_eq_getElem?_getD, List.getElem?_eq_getElem hlA]
              exact HN.out.2.1 _ (List.getElem_mem _)
            have cu : wr.cell? ⟨b1, 2 + i, none⟩ = some (.int .u64 (u : Int)) := by
              rw [H5.out.2.cell (p := ⟨b1, 2 + i, none⟩) b1w, HN.out.2.2.1 (2 + i) (by have := HT.out.2.2; omega), ← hTA, hu]
            have HU : Hid (T.getD i 0 = u ∧ (sevL s0 ++ (T.take i).flatMap sevL).length ≤ 100000) := by
              refine ⟨hu, ?_⟩
              have h1 := sevL_len s0 hs2
              have h2 := flat_len (T.take i) (fun z hz => by
                have hz2 : z ∈ A := by have := List.mem_of_mem_take hz; rw [← HT.out.1] at this; exact List.mem_of_mem_drop this
                have := HN.out.2.1 z hz2; omega)
              rw [List.length_take] at h2
              rw [List.length_append]; omega
            clear hu hTA
            subst hb2
            go_wp2_with fail
            refine (sevensL_any w1.heap.size s1 _ u H5.out.1 H5.out.2.size (by omega) (by have := HU.out.2; omega)).mono ?_
            rintro e w6 ⟨r6, rfl, hr6, hb6⟩
            have H6 : Hid (Row .u8 5 w1.heap.size w6 r6 (sevL s0 ++ (T.take (i + 1)).flatMap sevL) ∧ Below w1.heap.size w1 w6) := ⟨by rw [flat_snoc T i (by have := HT.out.2.1; omega), HU.out.1, ← List.append_assoc]; exact hr6, H5.out.2.trans hb6⟩
            clear hr6 hb6 cu
            go_wp2
            go_roundw
            case rel => exact ⟨i + 1, _, rfl, by go_num, by omega, H6.out.1, H6.out.2⟩
            case measure => simp [intOf]; omega
          · obtain rfl : i = n2 := by omega
            have l1 : ¬ (i : Int) < (i : Int) := by omega
            have HE : Hid (sevL s0 ++ (T.take i).flatMap sevL = putB A) := by
              show _ = _
              rw [List.take_of_length_le (by have := HT.out.2.1; omega)]
              unfold putB
              rw [HN.out.2.2.2, HT.out.1]
            go_wp2
            go_ret2
            refine ⟨⟨_, putB A, 0, .inr (.inr ⟨A, H1.out.1, HOk.out.1, HN.out.1, rfl, rfl⟩), rfl, ?_⟩, H1.out.2.2.2.trans (H5.out.2.mono H1.out.2.2.2.size)⟩
            rw [← HE.out]; exact H5.out.1.sl
  · have HN : Hid (∀ A', arcsP Y = some A' → putOk A' = false) := by intro A' h; rw [hno] at h; cases h
    clear hb1 hno
    go_wp2
    go_ret2
    exact six.out HN.out _ _ HB1.out rfl
end Go.Proofs.YtndcpjnfdgojkaaDoor
