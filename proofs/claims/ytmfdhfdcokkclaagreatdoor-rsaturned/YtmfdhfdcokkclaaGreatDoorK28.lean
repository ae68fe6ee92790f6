/-
  Der: the reference's PutOid of any text.
-/
import Derived.Test.YtmfdhfdcokkclaaGreatDoorK27
namespace Go.Proofs.YtmfdhfdcokkclaaGreatDoor
open Go.RowKit
def RPutAns (Y : List Int) (w w' : World) (e : Ending) : Prop := (∃ r b er, PutR Y b er ∧ e = .returned (.tuple #[r, .int .i64 er]) ∧ Sl .u8 w' r b) ∧ Below w.heap.size w w'
set_option maxRecDepth 20000 in
set_option maxHeartbeats 8000000 in
theorem RPutOid_any {w : World} (Y : List Int) (hU : U8s Y) (hl : Y.length ≤ 2000) :
    Calls Tryz.prog 79 #[.string (strOfNums Y)] w fun e w' => RPutAns Y w w' e := by
  have HX : Hid (U8s Y ∧ Y.length ≤ 2000) := ⟨hU, hl⟩
  clear hU hl
  go_enter Tryz.func79, Tryz.ntmps79
  go_wp2_with fail
  refine (Rarcs_any Y HX.out.1 HX.out.2).mono ?_
  rintro e w1 ⟨ha, hb1⟩
  have HB1 : Hid (Below w.heap.size w w1) := hb1
  have six : Hid ((∀ A, arcsP Y = some A → putOk A = false) → ∀ (W : World) (e : Ending), Below w.heap.size w W → e = .returned (.tuple #[.slice none 0 0, .int .i64 6]) → RPutAns Y w W e) := fun h W e hW he => ⟨⟨_, [], 6, .inl ⟨h, rfl, rfl⟩, he, nil_sl _⟩, hW⟩
  clear hb1
  rcases ha with ⟨A, r1, hA, rfl, hr1⟩ | ⟨hno, rfl⟩
  · have hAl : A.length ≤ 2001 := by have := arcsP_len hA; have := HX.out.2; omega
    obtain ⟨n, hn⟩ : ∃ n, A.length = n := ⟨_, rfl⟩
    have hCl : (capL 1099511627776 A).length = n := by unfold capL; rw [List.length_map]; exact hn
    obtain ⟨ok, hok⟩ : ∃ ok, putOk A = ok := ⟨_, rfl⟩
    rw [hok]
    have H1 : Hid (arcsP Y = some A ∧ A.length = n ∧ putOk A = ok) := ⟨hA, hn, hok⟩
    have hn2 : n ≤ 2001 := by omega
    cases ok with
    | false =>
      have HN : Hid (∀ A', arcsP Y = some A' → putOk A' = false) := by
        intro A' h; rw [H1.out.1] at h; cases h; exact H1.out.2.2
      clear hr1 hA hCl hok
      go_wp2
      go_ret2
      exact six.out HN.out _ _ HB1.out rfl
    | true =>
      have hp := hok
      unfold putOk at hp
      rw [hn] at hp
      simp only [decide_eq_true_eq] at hp
      obtain ⟨h2, hp0, hp1⟩ := hp
      obtain ⟨b1, S1, hv, hB1, hA1, hl1, ht1, hm1⟩ := hr1.open n hCl (by omega)
      subst hv
      have hrd : Rd .i64 w1 b1 0 (capL 1099511627776 A) := by
        have := hA1.rd 0 n (by omega)
        rw [List.drop_zero, ht1] at this
        exact this
      have g : ∀ i, i < n → w1.cell? ⟨b1, i, none⟩ = some (.int .i64 (capN 1099511627776 (A.getD i 0))) := by
        intro i hi
        have := hrd i (by omega)
        rw [Nat.zero_add, capL_get, if_pos (by omega)] at this
        exact this
      obtain ⟨k1, hk1⟩ : ∃ k, S1.length = k := ⟨_, rfl⟩
      have H2 : Hid ((∀ i, i < n → w1.cell? ⟨b1, i, none⟩ = some (.int .i64 (capN 1099511627776 (A.getD i 0)))) ∧ Arr .i64 3 w1 b1 S1 ∧ S1.length = k1 ∧ n ≤ k1 ∧ w.heap.size ≤ b1 ∧ A.getD 0 0 ≤ 2) := ⟨g, hA1, hk1, by omega, hB1, hp0⟩
      rw [hk1] at hl1 ⊢
      have b1w : b1 < w1.heap.size := hA1.lt
      clear hr1 hA hCl hok hrd g hA1 ht1 hm1 hk1 hp0 hp1
      have h2I : (2 : Int) ≤ (n : Int) := by omega
      go_wp2_with fail
      go_loopw [6] (fun iv wr => ∃ (i : Nat), iv = .int .i64 i ∧ i ≤ n ∧ (∀ j, j < i → A.getD j 0 ≤ 2147483647) ∧ w1 = wr) (fun iv _ => n - (intOf iv).toNat)
      case atStart => exact ⟨0, rfl, by omega, fun j hj => by omega, rfl⟩
      case round =>
        obtain ⟨i, rfl, hi, hall, rfl⟩ := hrel
        have HALL : Hid (∀ j, j < i → A.getD j 0 ≤ 2147483647) := hall
        clear hall
        by_cases hlt : i < n
        · have l1 : (i : Int) < (n : Int) := by omega
          obtain ⟨c, hc⟩ : ∃ c, capN 1099511627776 (A.getD i 0) = c := ⟨_, rfl⟩
          have cc : w1.cell? ⟨b1, i, none⟩ = some (.int .i64 c) := by rw [H2.out.1 i hlt, hc]
          have HC : Hid (c = ((min (A.getD i 0) 1099511627776 : Nat) : Int)) := by rw [← hc]; rfl
          clear hc
          by_cases hbig : (2147483647 : Int) < c
          · have HL : Hid (putLong A = true) := by
              show _ = _
              have h3 := HC.out
              unfold putLong
              rw [List.any_eq_true]
              have hiA : i < A.length := by have := H1.out.2.1; omega
              refine ⟨A[i]'hiA, List.getElem_mem _, ?_⟩
              rw [List.getD_eq_getElem?_getD, List.getElem?_eq_getElem hiA] at h3
              simp at h3 ⊢; omega
            go_wp2
            go_ret2
            exact ⟨⟨_, [], 3, .inr (.inl ⟨A, H1.out.1, H1.out.2.2, HL.out, rfl, rfl⟩), rfl, nil_sl _⟩, HB1.out⟩
          · have HN : Hid (∀ j, j < i + 1 → A.getD j 0 ≤ 2147483647) := by
              intro j hj
              by_cases hji : j = i
              · subst hji; have := HC.out; omega
              · exact HALL.out j (by omega)
            go_wp2
            go_roundw
            case rel => exact ⟨i + 1, by go_num, by omega, HN.out, trivial⟩
            case measure => simp [intOf]; omega
        · obtain rfl : i = n := by omega
          have l1 : ¬ (i : Int) < (i : Int) := by omega
          have HN : Hid (putLong A = false ∧ (∀ u ∈ A, u ≤ 2147483647)) := by
            have h4 : ∀ u ∈ A, u ≤ 2147483647 := by
              intro u hu
              obtain ⟨j, hj, rfl⟩ := List.mem_iff_getElem.1 hu
              have := HALL.out j (by have := H1.out.2.1; omega)
              rw [List.getD_eq_getElem?_getD, List.getElem?_eq_getElem hj] at this
              exact this
            refine ⟨?_, h4⟩
            unfold putLong
            rw [List.any_eq_false]
            intro u hu
            have := h4 u hu
            simp; omega
          have hcell : ∀ j, j < i → w1.cell? ⟨b1, j, none⟩ = some (.int .i64 ((A.getD j 0 : Nat) : Int)) := by
            intro j hj
            rw [H2.out.1 j hj]
            have h4 := HALL.out j hj
            unfold capN
            congr 3
            omega
          obtain ⟨a0, ha0⟩ : ∃ a0, A.getD 0 0 = a0 := ⟨_, rfl⟩
          obtain ⟨a1, ha1⟩ : ∃ a1, A.getD 1 0 = a1 := ⟨_, rfl⟩
          have d0 : w1.cell? ⟨b1, 0, none⟩ = some (.int .i64 (a0 : Int)) := by rw [hcell 0 (by omega), ha0]
          have d1 : w1.cell? ⟨b1, 1, none⟩ = some (.int .i64 (a1 : Int)) := by rw [hcell 1 (by omega), ha1]
          have f1 : w1.frozen? ⟨b1, 1, none⟩ = false := H2.out.2.1.frozen 1
          have a0b : (a0 : Int) ≤ 2 := by have := H2.out.2.2.2.2.2; omega
          have a1b : (a1 : Int) ≤ 2147483647 := by have := HALL.out 1 (by omega); omega
          obtain ⟨s0, hs0⟩ : ∃ s0 : Nat, 40 * a0 + a1 = s0 := ⟨_, rfl⟩
          have hs1 : (a1 : Int) + 40 * (a0 : Int) = (s0 : Int) := by omega
          have hs2 : s0 ≤ 4294967295 := by omega
          obtain ⟨T, hT⟩ : ∃ T, s0 :: A.drop 2 = T := ⟨_, rfl⟩
          have HT : Hid (s0 :: A.drop 2 = T ∧ T.length = i - 1 ∧ T.flatMap sevL = putB A ∧ (∀ u ∈ T, u ≤ 4294967295) ∧ (∀ j, 2 ≤ j → T.getD (j - 1) 0 = A.getD j 0)) := by
            refine ⟨hT, ?_, ?_, ?_, ?_⟩
            · rw [← hT, List.length_cons, List.length_drop, H1.out.2.1]; omega
            · rw [← hT, List.flatMap_cons]; unfold putB; rw [ha0, ha1, hs0]
            · intro u hu
              rw [← hT] at hu
              rcases List.mem_cons.1 hu with rfl | hu
              · exact hs2
              · have := HN.out.2 u (List.mem_of_mem_drop hu); omega
            · intro j hj
              obtain ⟨d, rfl⟩ : ∃ d, j = d + 2 := ⟨j - 2, by omega⟩
              rw [← hT, show d + 2 - 1 = d + 1 by omega, List.getD_cons_succ, List.getD_eq_getElem?_getD, List.getD_eq_getElem?_getD, List.getElem?_drop, Nat.add_comm]
          have HCell : Hid (∀ W : World, Upd w1 W b1 → Arr .i64 3 W b1 (S1.set 1 (s0 : Int)) → ∀ j, 1 ≤ j → j < i → W.cell? ⟨b1, j, none⟩ = some (.int .i64 ((T.getD (j - 1) 0 : Nat) : Int))) := by
            intro W _ hW j hj1 hji
            have hlen := H2.out.2.2.1
            have hle := H2.out.2.2.2.1
            rw [hW.cell j (by rw [List.length_set]; omega)]
            by_cases hj : j = 1
            · subst hj
              rw [← HT.out.1, List.getD_eq_getElem?_getD, List.getElem?_set_self (by omega)]; rfl
            · have h5 := H2.out.2.1.cell j (by omega)
              rw [hcell j hji] at h5
              rw [HT.out.2.2.2.2 j (by omega), List.getD_eq_getElem?_getD, List.getElem?_set_ne (by omega), ← List.getD_eq_getElem?_getD]
              exact h5.symm
          clear ha0 ha1 hcell hs0 hT
          go_upto_region 9 with (fail)
          refine wp_region_qsd 10 (by kernel_rfl) (by kernel_rfl) ?_
          simp only [List.take_succ_cons, List.take_zero, List.drop_succ_cons, List.drop_zero]
          repeat (go_big_quiet_step (fail))
          refine wpQuiet_nil ?_
          rintro _ ⟨q3, rfl⟩
          have d1' : (w1.drewN q3).cell? ⟨b1, 1, none⟩ = some (.int .i64 (a1 : Int)) := d1
          have f1' : (w1.drewN q3).frozen? ⟨b1, 1, none⟩ = false := f1
          have b1w' : b1 < (w1.drewN q3).heap.size := b1w
          go_upto_region 10 with (fail)
          refine wp_gen (fun W => Upd w1 W b1 ∧ Arr .i64 3 W b1 (S1.set 1 (s0 : Int))) ?_ ?_
          · exact ⟨Upd.trans (w' := w1.drewN q3) ⟨rfl, rfl, rfl, Nat.le_refl _, fun _ _ _ => rfl⟩ (Upd.set _ _ _ _), Arr.set (w := w1.drewN q3) H2.out.2.1 1 _⟩
          rintro w2 ⟨hu2, ha2⟩
          have H3 : Hid (Below w.heap.size w w2 ∧ (∀ j, 1 ≤ j → j < i → w2.cell? ⟨b1, j, none⟩ = some (.int .i64 ((T.getD (j - 1) 0 : Nat) : Int))) ∧ b1 < w2.heap.size) := ⟨hu2.below HB1.out HB1.out.size H2.out.2.2.2.2.1, HCell.out w2 hu2 ha2, ha2.lt⟩
          clear hu2 ha2 d0 d1 f1 d1' f1' b1w' b1w
          go_wp2_with fail
          go_loopw [7, 8] (fun bv iv wr => ∃ (j : Nat) (s1 : Value), s1 = bv ∧ iv = .int .i64 j ∧ 1 ≤ j ∧ j ≤ i ∧ Row .u8 5 w2.heap.size wr s1 ((T.take (j - 1)).flatMap sevL) ∧ Below w2.heap.size w2 wr) (fun _ iv _ => i - (intOf iv).toNat)
          case atStart => exact ⟨1, _, rfl, rfl, by omega, by omega, Row.nil _ _ _ _, Below.refl _ _⟩
          case round =>
            obtain ⟨j, s1, rfl, rfl, hj1, hji, hr, hb⟩ := hrel
            obtain ⟨w5, h5⟩ : ∃ W, W = wr := ⟨wr, rfl⟩
            subst h5
            have H5 : Hid (Row .u8 5 w2.heap.size w5 s1 ((T.take (j - 1)).flatMap sevL) ∧ Below w2.heap.size w2 w5) := ⟨hr, hb⟩
            clear hr hb
            by_cases hjl : j < i
            · have l2 : (j : Int) < (i : Int) := by omega
              obtain ⟨u, hu⟩ : ∃ u, T.getD (j - 1) 0 = u := ⟨_, rfl⟩
              have hTl : j - 1 < T.length := by have := HT.out.2.1; omega
              have hu2 : u ≤ 4294967295 := by
                rw [← hu, List.getD_eq_getElem?_getD, List.getElem?_eq_getElem hTl]
                exact HT.out.2.2.2.1 _ (List.getElem_mem _)
              have b1r : b1 < w5.heap.size := Nat.lt_of_lt_of_le H3.out.2.2 H5.out.2.size
              have cu : w5.cell? ⟨b1, j, none⟩ = some (.int .i64 (u : Int)) := by
                rw [H5.out.2.cell (p := ⟨b1, j, none⟩) H3.out.2.2, H3.out.2.1 j hj1 hjl, hu]
              have HU : Hid (((T.take (j - 1)).flatMap sevL).length ≤ 100000 ∧ (T.take j).flatMap sevL = (T.take (j - 1)).flatMap sevL ++ sevL u ∧ (sevL u).length ≤ 5) := by
                refine ⟨?_, ?_, sevL_len u hu2⟩
                · have h2 := flat_len (T.take (j - 1)) (fun z hz => HT.out.2.2.2.1 z (List.mem_of_mem_take hz))
                  rw [List.length_take] at h2
                  omega
                · have := flat_snoc T (j - 1) hTl
                  rw [show j - 1 + 1 = j by omega, hu] at this
                  exact this
              clear hu hTl
              have z00 : IntKind.u8.wrap ((u : Int) % 128) = (u : Int) % 128 := wrapU8 _ (by omega) (by omega)
              have HZ0 : Hid ((u : Int) % 128 = ((u % 128 : Nat) : Int)) := by show _ = _; omega
              have huI : (u : Int) ≤ 4294967295 := by omega
              go_wp2_with fail
              go_loopw [9, 10] (fun tv vv wq => ∃ (v : Nat) (t1 : Value) (R : List Int), t1 = tv ∧ vv = .int .i64 v ∧ v ≤ 4294967295 ∧ hiG v ++ R = sevL u ∧ Row .u8 5 w5.heap.size wq t1 R ∧ Below w5.heap.size w5 wq) (fun _ vv _ => (intOf vv).toNat)
              case atStart => exact ⟨u / 128, _, [(u : Int) % 128], rfl, by go_num, by omega, by rw [sevL_hi, HZ0.out], Row.arr (S := [(u : Int) % 128]) (arr_nw rfl rfl) (Nat.le_refl _) (by simp [maxLen]), al1 _⟩
              case round =>
                obtain ⟨v, t1, R, rfl, rfl, hv, hR, hr, hb⟩ := hrel
                have H6 : Hid (Row .u8 5 w5.heap.size wr t1 R ∧ Below w5.heap.size w5 wr ∧ hiG v ++ R = sevL u ∧ R.length ≤ 5) := ⟨hr, hb, hR, by have := HU.out.2.2; rw [← hR, List.length_append] at this; omega⟩
                clear hr hb hR
                by_cases hv0 : v = 0
                · subst hv0
                  have HR : Hid (R = sevL u) := by
                    show _ = _
                    have := H6.out.2.2.1
                    rw [hiG_0, List.nil_append] at this; exact this
                  go_wp2_with (at_builtin; refine wpList_ap rfl (.tmp 68) (.tmp 69) 22 22 rfl .u8 5 1 Tryz.und8 Tryz.info8 (by decide) w2.heap.size _ ((T.take (j - 1)).flatMap sevL) rfl (H5.out.1.below H6.out.2.1) _ R rfl (src_sl Tryz.und8 H6.out.1.sl) (by have := HU.out.1; have := H6.out.2.2.2; omega) (by have := H5.out.2.size; have := H6.out.2.1.size; omega) ?_; intro v8 w8 hr8 hg8)
                  have H8 : Hid (Row .u8 5 w2.heap.size w8 v8 ((T.take (j + 1 - 1)).flatMap sevL) ∧ Below w2.heap.size w2 w8) := ⟨by rw [show j + 1 - 1 = j by omega, HU.out.2.1, ← HR.out]; exact hr8, (H5.out.2.trans (H6.out.2.1.mono H5.out.2.size)).trans (hg8.below (H5.out.1.below H6.out.2.1) (by have := H5.out.2.size; have := H6.out.2.1.size; omega))⟩
                  clear hr8 hg8
                  go_roundw
                  case rel => exact ⟨j + 1, _, rfl, by go_num, by omega, by omega, H8.out.1, H8.out.2⟩
                  case measure => simp [intOf]; omega
                · have g1 : (0 : Int) < (v : Int) := by omega
                  have hq2 : v / 128 < v := by omega
                  obtain ⟨z, hz⟩ : ∃ z : Int, (v : Int) % 128 = z := ⟨_, rfl⟩
                  have z3 : IntKind.u8.wrap (z + 128) = z + 128 := wrapU8 _ (by omega) (by omega)
                  have HZ : Hid (hiG (v / 128) ++ ([z + 128] ++ R) = sevL u) := by
                    show _ = _
                    have h := H6.out.2.2.1
                    rw [hiG_next hv0] at h
                    rw [← h, List.append_assoc, show z + 128 = ((v % 128 + 128 : Nat) : Int) by omega]
                  have hvI : (v : Int) ≤ 4294967295 := by omega
                  have hrw : Row .u8 5 w5.heap.size (wr.alloc (.cells #[.int .u8 (z + 128)] 5)) (.slice (some ⟨wr.heap.size, 0, none⟩) 1 1) [z + 128] := Row.arr (S := [z + 128]) (arr_nw rfl rfl) H6.out.2.1.size (by simp [maxLen])
                  have HRw : Hid (Row .u8 5 w5.heap.size (wr.alloc (.cells #[.int .u8 (z + 128)] 5)) (.slice (some ⟨wr.heap.size, 0, none⟩) 1 1) [z + 128]) := hrw
                  clear hrw
                  go_wp2_with (at_builtin; refine wpList_ap rfl (.tmp 65) (.tmp 66) 22 22 rfl .u8 5 1 Tryz.und8 Tryz.info8 (by decide) w5.heap.size _ [z + 128] rfl HRw.out _ R rfl (src_sl Tryz.und8 (H6.out.1.alloc _).sl) (by have := H6.out.2.2.2; simp; omega) (by have := H6.out.2.1.size; simp; omega) ?_; intro v6 w6 hr6 hg6)
                  have H7 : Hid (Row .u8 5 w5.heap.size w6 v6 ([z + 128] ++ R) ∧ Below w5.heap.size w5 w6) := ⟨hr6, (al2' H6.out.2.1).trans (hg6.below HRw.out (by have := H6.out.2.1.size; simp; omega))⟩
                  clear hr6 hg6
                  go_roundw
                  case rel => exact ⟨v / 128, _, [z + 128] ++ R, rfl, by go_num, by omega, HZ.out, H7.out.1, H7.out.2⟩
                  case measure => simp [intOf]; omega
            · obtain rfl : j = i := by omega
              have l2 : ¬ (j : Int) < (j : Int) := by omega
              have HE : Hid ((T.take (j - 1)).flatMap sevL = putB A) := by
                show _ = _
                rw [List.take_of_length_le (by have := HT.out.2.1; omega)]
                exact HT.out.2.2.1
              go_wp2
              go_ret2
              refine ⟨⟨_, putB A, 0, .inr (.inr ⟨A, H1.out.1, H1.out.2.2, HN.out.1, rfl, rfl⟩), rfl, ?_⟩, H3.out.1.trans (H5.out.2.mono H3.out.1.size)⟩
              rw [← HE.out]; exact H5.out.1.sl
  · have HN : Hid (∀ A', arcsP Y = some A' → putOk A' = false) := by intro A' h; rw [hno] at h; cases h
    clear hno
    go_wp2
    go_ret2
    exact six.out HN.out _ _ HB1.out rfl
end Go.Proofs.YtmfdhfdcokkclaaGreatDoor
/-
  Rsa: the reference's Pad.
-/
namespace Go.Proofs.YtmfdhfdcokkclaaGreatDoor
open Go.RowKit
set_option maxRecDepth 20000
theorem Tryz.one_int : (Tryz.prog.info? 3).map (·.size) = some 1 := by kernel_rfl
theorem RSize8 {w : World} (alg : Int) : Calls Tryz.prog 6 #[.int .i64 alg] w fun e w' => e = .returned (.int .i64 (Sh.siz alg)) ∧ w = w' := by
  unfold Sh.siz
  by_cases h1 : alg = 1
  · subst h1
    have hx : ∀ w' : World, Sem.run Tryz.prog (Instr.index 42 (.agg #[.int .i64 20, .int .i64 32, .int .i64 48, .int .i64 64]) (.int .i64 0)) w' = .ok (.int .i64 20) w' := fun w' => run_index_row w' _ _ 4 .i64 [20, 32, 48, 64] 0 Tryz.underlying42 Tryz.underlying3 Tryz.one_int rfl (by decide)
    go_enter Tryz.func6, Tryz.ntmps6; go_wp2; go_ret; exact ⟨rfl, rfl⟩
  by_cases h2 : alg = 2
  · subst h2
    have hx : ∀ w' : World, Sem.run Tryz.prog (Instr.index 42 (.agg #[.int .i64 20, .int .i64 32, .int .i64 48, .int .i64 64]) (.int .i64 1)) w' = .ok (.int .i64 32) w' := fun w' => run_index_row w' _ _ 4 .i64 [20, 32, 48, 64] 1 Tryz.underlying42 Tryz.underlying3 Tryz.one_int rfl (by decide)
    go_enter Tryz.func6, Tryz.ntmps6; go_wp2; go_ret; exact ⟨rfl, rfl⟩
  by_cases h3 : alg = 3
  · subst h3
    have hx : ∀ w' : World, Sem.run Tryz.prog (Instr.index 42 (.agg #[.int .i64 20, .int .i64 32, .int .i64 48, .int .i64 64]) (.int .i64 2)) w' = .ok (.int .i64 48) w' := fun w' => run_index_row w' _ _ 4 .i64 [20, 32, 48, 64] 2 Tryz.underlying42 Tryz.underlying3 Tryz.one_int rfl (by decide)
    go_enter Tryz.func6, Tryz.ntmps6; go_wp2; go_ret; exact ⟨rfl, rfl⟩
  by_cases h4 : alg = 4
  · subst h4
    have hx : ∀ w' : World, Sem.run Tryz.prog (Instr.index 42 (.agg #[.int .i64 20, .int .i64 32, .int .i64 48, .int .i64 64]) (.int .i64 3)) w' = .ok (.int .i64 64) w' := fun w' => run_index_row w' _ _ 4 .i64 [20, 32, 48, 64] 3 Tryz.underlying42 Tryz.underlying3 Tryz.one_int rfl (by decide)
    go_enter Tryz.func6, Tryz.ntmps6; go_wp2; go_ret; exact ⟨rfl, rfl⟩
  rw [if_neg h1, if_neg h2, if_neg h3, if_neg h4]
  by_cases h5 : alg < 1
  · go_enter Tryz.func6, Tryz.ntmps6; go_wp2; go_ret; exact ⟨rfl, rfl⟩
  · have h6 : 4 < alg := by omega
    go_enter Tryz.func6, Tryz.ntmps6; go_wp2; go_ret; exact ⟨rfl, rfl⟩
theorem ROid8 {w : World} (alg : Int) (ha : Alg4 alg) : Calls Tryz.prog 52 #[.int .i64 alg] w fun e w' => e = .returned (.string (strOfNums (oidY alg))) ∧ w = w' := by
  rcases ha with rfl | rfl | rfl | rfl
  all_goals (go_enter Tryz.func52, Tryz.ntmps52; go_wp2; go_ret; exact ⟨congrArg (fun s => Ending.returned (Value.string s)) (by decide +kernel), rfl⟩)
theorem rput8 {w : World} (tag : Nat) (ht1 : 1 ≤ tag) (ht : tag < 31) (a : Option Addr) (n cp : Nat) (vs : List Value) (ms : List (List Int)) (hL : Lists w a n cp vs ms) (hn : n ≤ 1000) (h128 : ms.flatten.length < 128) (co : Bool) (hc : co = decide (tag = 16)) :
    Calls Tryz.prog 78 #[.int .i64 0, .int .i64 tag, .bool co, .slice a n cp] w fun e w' => ∃ r, e = .returned (.tuple #[r, .int .i64 0]) ∧ Row .u8 5 w.heap.size w' r (elB tag ms.flatten) ∧ Below w.heap.size w w' := by
  obtain ⟨N, hN⟩ : ∃ N, ms.flatten.length = N := ⟨_, rfl⟩
  have hl : ∃ l : Nat, N / 256 ^ l = 0 ∧ (∀ j, j < l → 0 < N / 256 ^ j) ∧ l ≤ 7 := by
    by_cases h0 : N = 0
    · exact ⟨0, by simp [h0], by omega, by omega⟩
    · refine ⟨1, by omega, fun j hj => ?_, by omega⟩
      obtain rfl : j = 0 := by omega
      simp; omega
  obtain ⟨l, hl0, hl1, hl7⟩ := hl
  have hE : headB 0 co tag 0 ++ lenB N l ++ ms.flatten = elB tag ms.flatten := by
    unfold headB lenB elB frst
    have h1 : N < 128 := by omega
    rw [hc, hN]
    by_cases h : tag = 16
    · simp [h, h1]
    · simp [h, h1, ht]
  have := RPut_any (w := w) 0 tag 0 l co a n cp N vs ms hL hN (by omega) (by omega) (by unfold headOk; simp; omega) (by simp; omega) (by omega) (by omega) hl0 hl1 hl7
  rw [hE] at this
  exact this
set_option maxHeartbeats 1000000 in
theorem Prim8 {w : World} (tag : Nat) (ht1 : 1 ≤ tag) (ht : tag < 16) (a : Option Addr) (n cp : Nat) (X : List Int) (hX : Sl .u8 w (.slice a n cp) X) (uX : U8s X) (h128 : X.length < 128) :
    Calls Tryz.prog 53 #[.int .i64 tag, .slice a n cp] w fun e w' => ∃ r, e = .returned r ∧ Row .u8 5 w.heap.size w' r (elB tag X) ∧ Below w.heap.size w w' := by
  have HP : Hid (∀ o, o = .cells #[.slice a n cp] 22 → Calls Tryz.prog 78 #[.int .i64 0, .int .i64 tag, .bool false, .slice (some ⟨w.heap.size, 0, none⟩) 1 1] (w.alloc o) fun e w' => ∃ r, e = .returned (.tuple #[r, .int .i64 0]) ∧ Row .u8 5 w.heap.size w' r (elB tag X) ∧ Below w.heap.size w w') := fun o ho => by
    subst ho
    refine (rput8 tag ht1 (by omega) _ 1 1 _ [X] (lists1 hX uX) (by decide) (by simpa using h128) false (by simp; omega)).mono ?_
    rintro e w' ⟨r, rfl, hr, hb⟩
    refine ⟨r, rfl, ?_, below_via (al1 _) hb (Nat.le_refl _)⟩
    have := hr.mono (B' := w.heap.size) (by simp)
    simpa using this
  clear hX uX
  go_enter Tryz.func53, Tryz.ntmps53
  go_wp2_with (go_at_call 78; refine (HP.out _ rfl).mono ?_; rintro e w2 ⟨r, rfl, hr, hb⟩; have HR : Hid (Row .u8 5 w.heap.size w2 r (elB tag X) ∧ Below w.heap.size w w2) := ⟨hr, hb⟩; clear hr hb)
  go_ret
  exact ⟨r, rfl, HR.out⟩
set_option maxHeartbeats 1000000 in
theorem Seq8 {w : World} (a : Option Addr) (n cp : Nat) (vs : List Value) (ms : List (List Int)) (hL : Lists w a n cp vs ms) (hn : n ≤ 1000) (h128 : ms.flatten.length < 128) :
    Calls Tryz.prog 50 #[.int .i64 16, .slice a n cp] w fun e w' => ∃ r, e = .returned r ∧ Row .u8 5 w.heap.size w' r (elB 16 ms.flatten) ∧ Below w.heap.size w w' := by
  have HP : Hid (∀ w', w' = w → Calls Tryz.prog _ _ w' _) := fun w' hw => by rw [hw]; exact rput8 16 (by decide) (by decide) a n cp vs ms hL hn h128 true (by decide)
  clear hL
  go_enter Tryz.func50, Tryz.ntmps50
  go_wp2_with (go_at_call 78; refine (HP.out _ rfl).mono ?_; rintro e w2 ⟨r, rfl, hr, hb⟩; have HR : Hid (Row .u8 5 w.heap.size w2 r (elB 16 ms.flatten) ∧ Below w.heap.size w w2) := ⟨hr, hb⟩; clear hr hb)
  go_ret
  exact ⟨r, rfl, HR.out⟩
set_option maxHeartbeats 1000000 in
theorem OidOf8 {w : World} (alg : Int) (ha : Alg4 alg) : Calls Tryz.prog 51 #[.string (strOfNums (oidY alg))] w fun e w' => ∃ r, e = .returned r ∧ Row .u8 5 w.heap.size w' r (elB 6 (oidB alg)) ∧ Below w.heap.size w w' := by
  go_enter Tryz.func51, Tryz.ntmps51
  go_wp2_with fail
  refine (RPutOid_any (oidY alg) (oidY_u8 ha).1 (oidY_u8 ha).2).mono ?_
  rintro e w1 ⟨⟨r1, b1, er1, hp, rfl, hs1⟩, hb1⟩
  obtain ⟨rfl, rfl⟩ := hp.uniq (oidR ha)
  obtain ⟨a1, c1, rfl⟩ := hs1.form
  have H1 : Hid (Sl .u8 w1 (.slice a1 (oidB alg).length c1) (oidB alg) ∧ Below w.heap.size w w1) := ⟨hs1, hb1⟩
  clear hs1 hb1 hp
  go_wp2_with (go_at_call 53; refine (Prim8 6 (by decide) (by decide) _ _ _ (oidB alg) H1.out.1 (oidB_u8 ha).1 (by have := (oidB_u8 ha).2; omega)).mono ?_; rintro e w2 ⟨r, rfl, hr, hb⟩; have HR : Hid (Row .u8 5 w.heap.size w2 r (elB 6 (oidB alg)) ∧ Below w.heap.size w w2) := ⟨hr.mono H1.out.2.size, below_via H1.out.2 hb (Nat.le_refl _)⟩; clear hr hb)
  go_ret
  exact ⟨r, rfl, HR.out⟩
end Go.Proofs.YtmfdhfdcokkclaaGreatDoor
/-
  Rsa: the reference's Pad, walked.
-/
namespace Go.Proofs.YtmfdhfdcokkclaaGreatDoor
open Go.RowKit
set_option maxRecDepth 20000
set_option maxHeartbeats 1000000 in
theorem RPad_arg {w : World} (alg : Int) (a : Option Addr) (len cap : Nat) (n : Int) (h : isD alg len = false ∨ 2048 < n) : Calls Tryz.prog 24 #[.int .i64 alg, .slice a len cap, .int .i64 n] w fun e w' => e = .returned (.tuple #[.slice none 0 0, .int .i64 1]) ∧ w' = w := by
  obtain ⟨z, hz⟩ : ∃ z, Sh.siz alg = z := ⟨_, rfl⟩
  have HS : Hid (∀ w' : World, Calls Tryz.prog 6 #[.int .i64 alg] w' fun e w'' => e = .returned (.int .i64 z) ∧ w' = w'') := fun w' => by rw [← hz]; exact RSize8 alg
  have hd : isD alg len = decide (0 < z ∧ len = z) := by unfold isD; rw [hz]
  rw [hd] at h
  clear hd hz
  by_cases h0 : z = 0
  · subst h0
    go_enter Tryz.func24, Tryz.ntmps24
    go_wp2_with (go_at_call 6; refine (HS.out _).mono ?_; rintro e w' ⟨rfl, rfl⟩)
    go_ret2
    exact ⟨rfl, rfl⟩
  have d0 : ((z : Int) == 0) = false := by simp; omega
  by_cases h1 : len = z
  · have h2 : 2048 < n := by rcases h with h | h; simp at h; omega; exact h
    have d1 : ((len : Int) != (z : Int)) = false := by simp [h1]
    have d2 : decide ((2048 : Int) < n) = true := by simpa using h2
    clear h h1
    go_enter Tryz.func24, Tryz.ntmps24
    go_wp2_with (go_at_call 6; refine (HS.out _).mono ?_; rintro e w' ⟨rfl, rfl⟩)
    go_ret2
    exact ⟨rfl, rfl⟩
  · have d1 : ((len : Int) != (z : Int)) = true := by simp; omega
    clear h
    go_enter Tryz.func24, Tryz.ntmps24
    go_wp2_with (go_at_call 6; refine (HS.out _).mono ?_; rintro e w' ⟨rfl, rfl⟩)
    go_ret2
    exact ⟨rfl, rfl⟩
end Go.Proofs.YtmfdhfdcokkclaaGreatDoor
/-
  Rsa: the reference's Pad, where the digest is one.
-/
namespace Go.Proofs.YtmfdhfdcokkclaaGreatDoor
open Go.RowKit
set_option maxRecDepth 20000
theorem isD_len' {alg : Int} {len : Nat} (h : isD alg len = true) : Alg4 alg ∧ len = Sh.siz alg ∧ len ≤ 64 := by
  unfold isD at h
  simp only [decide_eq_true_eq] at h
  exact ⟨siz_pos.1 h.1, h.2, by rw [h.2]; exact Sh.siz_le alg⟩
/-- What the reference's Pad tells. -/
def RPadAns (alg : Int) (X : List Int) (n : Int) (w : World) (e : Ending) (w' : World) : Prop :=
  (n < (namB alg X).length + 11 ∧ e = .returned (.tuple #[.slice none 0 0, .int .i64 2]) ∧ Below w.heap.size w w') ∨
  ((namB alg X).length + 11 ≤ n ∧ ∃ r, e = .returned (.tuple #[r, .int .i64 0]) ∧ Sl .u8 w' r (padB alg X n.toNat) ∧ Below w.heap.size w w')
set_option maxHeartbeats 4000000 in
theorem RPad_any {w : World} (alg : Int) (a : Option Addr) (len cap : Nat) (X : List Int) (hX : Sl .u8 w (.slice a len cap) X) (uX : U8s X) (hl : X.length = len) (hD : isD alg len = true) (n : Int) (hn : n ≤ 2048) :
    Calls Tryz.prog 24 #[.int .i64 alg, .slice a len cap, .int .i64 n] w fun e w' => RPadAns alg X n w e w' := by
  obtain ⟨ha, h0, h64⟩ := isD_len' hD
  have HS : Hid (∀ w' : World, Calls Tryz.prog 6 #[.int .i64 alg] w' fun e w'' => e = .returned (.int .i64 len) ∧ w' = w'') := fun w' => by rw [h0]; exact RSize8 alg
  have hl0 : 0 < len := by rw [h0]; exact siz_pos.2 ha
  have d0 : ((len : Int) == 0) = false := by simp; omega
  have d2 : decide ((2048 : Int) < n) = false := by simp; omega
  have HX : Hid (Sl .u8 w (.slice a len cap) X ∧ U8s X ∧ X.length = len ∧ U8s (oidB alg) ∧ (oidB alg).length ≤ 9) := ⟨hX, uX, hl, (oidB_u8 ha).1, (oidB_u8 ha).2⟩
  clear h0 hX uX hl hD
  go_enter Tryz.func24, Tryz.ntmps24
  go_upto_region 3 with (go_at_call 6; refine (HS.out _).mono ?_; rintro e w' ⟨rfl, rfl⟩)
  go_wp2_with (go_at_call 52; refine (ROid8 alg ha).mono ?_; rintro e w' ⟨rfl, rfl⟩)
  refine (OidOf8 alg ha).mono ?_
  rintro e w2 ⟨r2, rfl, hr2, hb2⟩
  have H2 : Hid (Sl .u8 w2 r2 (elB 6 (oidB alg)) ∧ Below w.heap.size w w2) := ⟨hr2.sl, hb2⟩
  obtain ⟨a2, c2, hf2⟩ := H2.out.1.form
  subst hf2
  clear hr2 hb2
  go_wp2_with fail
  refine (Prim8 5 (by decide) (by decide) none 0 0 [] (nil_sl _) nil_u8 (by decide)).mono ?_
  rintro e w3 ⟨r3, rfl, hr3, hb3⟩
  have H3 : Hid (Sl .u8 w3 (.slice a2 (elB 6 (oidB alg)).length c2) (elB 6 (oidB alg)) ∧ Sl .u8 w3 r3 (elB 5 []) ∧ Below w.heap.size w w3) := ⟨below_sl hb3 H2.out.1, hr3.sl, below_via H2.out.2 hb3 (Nat.le_refl _)⟩
  obtain ⟨a3, c3, hf3⟩ := H3.out.2.1.form
  subst hf3
  clear hr3 hb3
  go_wp2_with fail
  refine (Seq8 _ 2 2 _ [elB 6 (oidB alg), elB 5 []] (lists2 H3.out.1 (elB_u8 (by decide) HX.out.2.2.2.1 (by have := HX.out.2.2.2.2; omega)) H3.out.2.1 (elB_u8 (by decide) nil_u8 (by decide))) (by decide) (by have := HX.out.2.2.2.2; simp [elB_len]; omega)).mono ?_
  rintro e w4 ⟨r4, rfl, hr4, hb4⟩
  have H4 : Hid (Sl .u8 w4 r4 (elB 16 (elB 6 (oidB alg) ++ elB 5 [])) ∧ Below w.heap.size w w4) := ⟨by have := hr4.sl; simpa using this, below_via H3.out.2.2 (below_via (al1 _) hb4 (Nat.le_refl _)) (Nat.le_refl _)⟩
  obtain ⟨a4, c4, hf4⟩ := H4.out.1.form
  subst hf4
  clear hr4 hb4
  go_wp2_with fail
  refine (Prim8 4 (by decide) (by decide) a len cap X (below_sl H4.out.2 HX.out.1) HX.out.2.1 (by have := HX.out.2.2.1; omega)).mono ?_
  rintro e w5 ⟨r5, rfl, hr5, hb5⟩
  have H5 : Hid (Sl .u8 w5 (.slice a4 (elB 16 (elB 6 (oidB alg) ++ elB 5 [])).length c4) (elB 16 (elB 6 (oidB alg) ++ elB 5 [])) ∧ Sl .u8 w5 r5 (elB 4 X) ∧ Below w.heap.size w w5) := ⟨below_sl hb5 H4.out.1, hr5.sl, below_via H4.out.2 hb5 (Nat.le_refl _)⟩
  obtain ⟨a5, c5, hf5⟩ := H5.out.2.1.form
  subst hf5
  clear hr5 hb5
  go_wp2_with fail
  refine (Seq8 _ 2 2 _ [elB 16 (elB 6 (oidB alg) ++ elB 5 []), elB 4 X] (lists2 H5.out.1 (elB_u8 (by decide) ((elB_u8 (by decide) HX.out.2.2.2.1 (by have := HX.out.2.2.2.2; omega)).append (elB_u8 (by decide) nil_u8 (by decide))) (by have := HX.out.2.2.2.2; simp [elB_len]; omega)) H5.out.2.1 (elB_u8 (by decide) HX.out.2.1 (by have := HX.out.2.2.1; omega))) (by decide) (by have := HX.out.2.2.2.2; have := HX.out.2.2.1; simp [elB_len]; omega)).mono ?_
  rintro e w6 ⟨r6, rfl, hr6, hb6⟩
  obtain ⟨t, ht⟩ : ∃ t, (namB alg X).length = t := ⟨_, rfl⟩
  have hsn : Sl .u8 w6 r6 (namB alg X) := by have := hr6.sl; unfold namB; simpa using this
  obtain ⟨a6, c6, hf6⟩ := hsn.form
  rw [ht] at hf6
  subst hf6
  have htl := namB_len alg X
  have H6 : Hid (Sl .u8 w6 (.slice a6 t c6) (namB alg X) ∧ Below w.heap.size w w6 ∧ (namB alg X).length = t) := ⟨hsn, below_via H5.out.2.2 (below_via (al1 _) hb6 (Nat.le_refl _)) (Nat.le_refl _), ht⟩
  have ht2 : t ≤ 200 ∧ 10 ≤ t := by have := HX.out.2.2.2.2; have := HX.out.2.2.1; omega
  clear hr6 hb6 hsn htl ht
  by_cases hs : n < t + 11
  · have hs2 : n < 11 ∨ n - 11 < (t : Int) := by omega
    by_cases hs3 : n < 11
    · have d3 : decide (n < 11) = true := by simpa using hs3
      go_wp2_with fail
      go_ret2
      exact Or.inl ⟨by rw [H6.out.2.2]; exact hs, rfl, H6.out.2.1⟩
    · have d3 : decide (n < 11) = false := by simpa using hs3
      have d4 : decide (n - 11 < (t : Int)) = true := by simp; omega
      go_wp2_with fail
      go_ret2
      exact Or.inl ⟨by rw [H6.out.2.2]; exact hs, rfl, H6.out.2.1⟩
  · obtain ⟨N, rfl⟩ : ∃ N : Nat, n = N := ⟨n.toNat, by omega⟩
    have d3 : decide ((N : Int) < 11) = false := by simp; omega
    have d4 : decide ((N : Int) - 11 < (t : Int)) = false := by simp; omega
    have hNt : t + 11 ≤ N := by omega
    go_wp2_with fail
    obtain ⟨k, hk⟩ : ∃ k, N - t - 1 = k := ⟨_, rfl⟩
    have hkI : (N : Int) - 1 - (t : Int) = (k : Int) := by omega
    have HN : Hid (N = t + 1 + k ∧ 10 ≤ k) := ⟨by omega, by omega⟩
    have hk2 : k ≤ 2048 := by omega
    clear hk
    go_loopw [9] (fun ov wr => ∃ j : Nat, 2 + j ≤ k ∧ Row .u8 5 w6.heap.size wr ov (0 :: 1 :: List.replicate j 255) ∧ Below w6.heap.size w6 wr) (fun ov _ => k - Sh.lenOf ov)
    case atStart =>
      refine ⟨0, by have := HN.out.2; omega, ?_, al1 _⟩
      exact Row.arr (S := [0, 1]) (arr_newB rfl) (Nat.le_refl _) (by decide)
    case round =>
      obtain ⟨j, hj, hr, hbw⟩ := hrel
      obtain ⟨ao, co, hfo⟩ := hr.ne
      have hll : (0 :: 1 :: List.replicate j (255 : Int)).length = 2 + j := by simp; omega
      rw [hll] at hfo
      subst hfo
      have HR : Hid (Row .u8 5 w6.heap.size wr (.slice ao (2 + j) co) (0 :: 1 :: List.replicate j 255) ∧ Below w6.heap.size w6 wr) := ⟨hr, hbw⟩
      clear hr hbw hll
      by_cases hlt : 2 + j < k
      · have d5 : decide (((2 + j : Nat) : Int) < (k : Int)) = true := by simp; omega
        have hltI : ((2 + j : Nat) : Int) < (k : Int) := by omega
        go_wp2_with (at_builtin; refine wpList_ap rfl (.tmp 52) (.tmp 53) 22 22 rfl .u8 5 1 Tryz.und8 Tryz.info8 (by decide) w6.heap.size _ (0 :: 1 :: List.replicate j 255) rfl (HR.out.1.alloc _) _ [255] rfl (src_sl Tryz.und8 (new1 _)) (by simp; omega) (by have := HR.out.2.size; simp; omega) ?_; intro v7 w7 hr7 hg7; have H7 : Hid (Row .u8 5 w6.heap.size w7 v7 (0 :: 1 :: List.replicate (j + 1) 255) ∧ Below w6.heap.size w6 w7) := ⟨by rw [List.replicate_succ']; exact hr7, (HR.out.2.trans ((al1 _).mono HR.out.2.size)).trans (hg7.below (HR.out.1.alloc _) (by have := HR.out.2.size; simp; omega))⟩; clear hr7 hg7)
        obtain ⟨a7, c7, hv7⟩ := H7.out.1.ne
        refine ⟨⟨j + 1, by omega, H7.out⟩, ?_⟩
        rw [hv7]
        simp only [Sh.lenOf, List.length_cons, List.length_replicate]
        omega
      · have d5 : decide (((2 + j : Nat) : Int) < (k : Int)) = false := by simp; omega
        have hjk : 2 + j = k := by omega
        have HP : Hid ((0 :: 1 :: List.replicate j (255 : Int)) ++ [0] ++ namB alg X = padB alg X N) := by
          show _ = _
          unfold padB
          rw [H6.out.2.2, show N - t - 3 = j by have := HN.out.1; omega]
          simp
        have hNj : N ≤ 2048 := by omega
        clear hjk
        go_wp2_with (first
          | (at_builtin; refine wpList_ap rfl (.tmp 55) (.tmp 56) 22 22 rfl .u8 5 1 Tryz.und8 Tryz.info8 (by decide) w6.heap.size _ (0 :: 1 :: List.replicate j 255) rfl (HR.out.1.alloc _) _ [0] rfl (src_sl Tryz.und8 (new1 _)) (by simp; omega) (by have := HR.out.2.size; simp; omega) ?_; intro v7 w7 hr7 hg7; have H7 : Hid (Row .u8 5 w6.heap.size w7 v7 ((0 :: 1 :: List.replicate j 255) ++ [0]) ∧ Below w6.heap.size w6 w7) := ⟨hr7, (HR.out.2.trans ((al1 _).mono HR.out.2.size)).trans (hg7.below (HR.out.1.alloc _) (by have := HR.out.2.size; simp; omega))⟩; clear hr7 hg7)
          | (at_builtin; refine wpList_ap rfl (.tmp 57) (.tmp 58) 22 22 rfl .u8 5 1 Tryz.und8 Tryz.info8 (by decide) w6.heap.size _ ((0 :: 1 :: List.replicate j 255) ++ [0]) rfl H7.out.1 _ (namB alg X) rfl (by have h := src_sl Tryz.und8 (below_sl H7.out.2 H6.out.1); rw [← H6.out.2.2] at h; rw [← H6.out.2.2]; exact h) (by rw [H6.out.2.2]; simp; omega) H7.out.2.size ?_; intro v8 w8 hr8 hg8; have H8 : Hid (Row .u8 5 w6.heap.size w8 v8 (padB alg X N) ∧ Below w.heap.size w w8) := ⟨by rw [← HP.out]; exact hr8, below_via H6.out.2.1 (H7.out.2.trans (hg8.below H7.out.1 H7.out.2.size)) (Nat.le_refl _)⟩; clear hr8 hg8))
        go_ret2
        exact Or.inr ⟨by rw [H6.out.2.2]; omega, v8, rfl, H8.out.1.sl, H8.out.2⟩
end Go.Proofs.YtmfdhfdcokkclaaGreatDoor
/-
  Rsa: the law RsaPads.
-/
namespace Go.Proofs.YtmfdhfdcokkclaaGreatDoor
open Go.RowKit
set_option maxRecDepth 20000
/-- What Pad tells: the error, the bytes. -/
def padE (alg : Int) (X : List Int) (n : Int) : Int := if isD alg X.length = false ∨ 2048 < n then 1 else if n < (namB alg X).length + 11 then 2 else 0
def padV (alg : Int) (X : List Int) (n : Int) : List Int := if padE alg X n = 0 then padB alg X n.toNat else []
theorem PadC {w : World} (alg : Int) (a : Option Addr) (len cap : Nat) (X : List Int) (hX : Sl .u8 w (.slice a len cap) X) (uX : U8s X) (hl : X.length = len) (n : Int) :
    Calls Tryz.prog 17 #[.int .i64 alg, .slice a len cap, .int .i64 n] w fun e w' => ∃ v, e = .returned (.tuple #[v, .int .i64 (padE alg X n)]) ∧ Sl .u8 w' v (padV alg X n) ∧ Below w.heap.size w w' := by
  by_cases h1 : isD alg X.length = false ∨ 2048 < n
  · have e1 : padE alg X n = 1 := by unfold padE; rw [if_pos h1]
    have e2 : padV alg X n = [] := by unfold padV; rw [e1]; rfl
    rw [e1, e2]
    refine (Pad_arg alg a len cap n (by rw [← hl]; exact h1)).mono ?_
    rintro e w' ⟨rfl, rfl⟩
    exact ⟨_, rfl, nil_sl _, Below.refl _ _⟩
  · have hD : isD alg len = true := by rw [← hl]; simpa using fun h => h1 (.inl h)
    have hn : n ≤ 2048 := by omega
    by_cases h2 : n < (namB alg X).length + 11
    · have e1 : padE alg X n = 2 := by unfold padE; rw [if_neg h1, if_pos h2]
      have e2 : padV alg X n = [] := by unfold padV; rw [e1]; rfl
      rw [e1, e2]
      refine (Pad_short alg a len cap X hX uX hl hD n hn h2).mono ?_
      rintro e w' ⟨rfl, hb⟩
      exact ⟨_, rfl, nil_sl _, hb⟩
    · have e1 : padE alg X n = 0 := by unfold padE; rw [if_neg h1, if_neg h2]
      have e2 : padV alg X n = padB alg X n.toNat := by unfold padV; rw [e1]; rfl
      rw [e1, e2]
      obtain ⟨N, rfl⟩ : ∃ N : Nat, n = N := ⟨n.toNat, by omega⟩
      refine (Pad_any alg a len cap X hX uX hl hD N (by omega) (by omega)).mono ?_
      rintro e w' ⟨M, rfl, _, hs, hb⟩
      exact ⟨_, rfl, hs, hb⟩
theorem RPadC {w : World} (alg : Int) (a : Option Addr) (len cap : Nat) (X : List Int) (hX : Sl .u8 w (.slice a len cap) X) (uX : U8s X) (hl : X.length = len) (n : Int) :
    Calls Tryz.prog 24 #[.int .i64 alg, .slice a len cap, .int .i64 n] w fun e w' => ∃ v, e = .returned (.tuple #[v, .int .i64 (padE alg X n)]) ∧ Sl .u8 w' v (padV alg X n) ∧ Below w.heap.size w w' := by
  by_cases h1 : isD alg X.length = false ∨ 2048 < n
  · have e1 : padE alg X n = 1 := by unfold padE; rw [if_pos h1]
    have e2 : padV alg X n = [] := by unfold padV; rw [e1]; rfl
    rw [e1, e2]
    refine (RPad_arg alg a len cap n (by rw [← hl]; exact h1)).mono ?_
    rintro e w' ⟨rfl, rfl⟩
    exact ⟨_, rfl, nil_sl _, Below.refl _ _⟩
  · have hD : isD alg len = true := by rw [← hl]; simpa using fun h => h1 (.inl h)
    refine (RPad_any alg a len cap X hX uX hl hD n (by omega)).mono ?_
    rintro e w' (⟨h2, rfl, hb⟩ | ⟨h2, r, rfl, hs, hb⟩)
    · have e1 : padE alg X n = 2 := by unfold padE; rw [if_neg h1, if_pos h2]
      have e2 : padV alg X n = [] := by unfold padV; rw [e1]; rfl
      rw [e1, e2]
      exact ⟨_, rfl, nil_sl _, hb⟩
    · have e1 : padE alg X n = 0 := by unfold padE; rw [if_neg h1, if_neg (by omega)]
      have e2 : padV alg X n = padB alg X n.toNat := by unfold padV; rw [e1]; rfl
      rw [e1, e2]
      exact ⟨_, rfl, hs, hb⟩
end Go.Proofs.YtmfdhfdcokkclaaGreatDoor
