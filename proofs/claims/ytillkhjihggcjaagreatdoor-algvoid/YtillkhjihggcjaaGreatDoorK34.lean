/-
  Der: the reference's PutOid of any text.
-/
import Derived.Test.YtillkhjihggcjaaGreatDoorK33
namespace Go.Proofs.YtillkhjihggcjaaGreatDoor
open Go.RowKit
def RPutAns (Y : List Int) (w w' : World) (e : Ending) : Prop := (∃ r b er, PutR Y b er ∧ e = .returned (.tuple #[r, .int .i64 er]) ∧ Sl .u8 w' r b) ∧ Below w.heap.size w w'
set_option maxRecDepth 20000 in
set_option maxHeartbeats 8000000 in
theorem RPutOid_any {w : World} (Y : List Int) (hU : U8s Y) (hl : Y.length ≤ 2000) :
    Calls Tryz.prog 69 #[.string (strOfNums Y)] w fun e w' => RPutAns Y w w' e := by
  have HX : Hid (U8s Y ∧ Y.length ≤ 2000) := ⟨hU, hl⟩
  clear hU hl
  go_enter Tryz.func69, Tryz.ntmps69
  go_wp2_with fail
  refine (Rarcs_any Y HX.out.1 HX.out.2).mono ?_
  rintro e w1 ⟨ha, hb1⟩
  have HB1 : Hid (Below w.heap.size w w1) := hb1
  have six : Hid ((∀ A, arcsP Y = some A → putOk A = false) → ∀ (W : World) (e : Ending), Below w.heap.size w W → e = .returned (.tuple #[.slice none 0 0, .int .i64 6]) → RPutAns Y w W e) := fun h W e hW he => ⟨⟨_, [], 6, .inl ⟨h, rfl, rfl⟩, he, nil_sl _⟩, hW⟩
  clear hb1
  rcases ha with ⟨A, r1, hA, rfl, hr1⟩ | ⟨hno, rfl⟩
  · have hAl : A.length ≤ 2001 := by have := arcsP_len hA; have := HX.out.2; omega
    obtain ⟨n, hn⟩ : ∃ n, A.length = n := ⟨_, rfl⟩
    have hCl : (capL 1099511627776 A).length = n := by unfold capL; rw [List.length_map]; exact hn
    obtain ⟨ok, hok⟩ : ∃ ok, putOk A = ok := ⟨_, rfl⟩
    rw [hok]
    have H1 : Hid (arcsP Y = some A ∧ A.length = n ∧ putOk A = ok) := ⟨hA, hn, hok⟩
    have hn2 : n ≤ 2001 := by omega
    cases ok with
    | false =>
      have HN : Hid (∀ A', arcsP Y = some A' → putOk A' = false) := by
        intro A' h; rw [H1.out.1] at h; cases h; exact H1.out.2.2
      clear hr1 hA hCl hok
      go_wp2
      go_ret2
      exact six.out HN.out _ _ HB1.out rfl
    | true =>
      have hp := hok
      unfold putOk at hp
      rw [hn] at hp
      simp only [decide_eq_true_eq] at hp
      obtain ⟨h2, hp0, hp1⟩ := hp
      obtain ⟨b1, S1, hv, hB1, hA1, hl1, ht1, hm1⟩ := hr1.open n hCl (by omega)
      subst hv
      have hrd : Rd .i64 w1 b1 0 (capL 1099511627776 A) := by
        have := hA1.rd 0 n (by omega)
        rw [List.drop_zero, ht1] at this
        exact this
      have g : ∀ i, i < n → w1.cell? ⟨b1, i, none⟩ = some (.int .i64 (capN 1099511627776 (A.getD i 0))) := by
        intro i hi
        have := hrd i (by omega)
        rw [Nat.zero_add, capL_get, if_pos (by omega)] at this
        exact this
      obtain ⟨k1, hk1⟩ : ∃ k, S1.length = k := ⟨_, rfl⟩
      have H2 : Hid ((∀ i, i < n → w1.cell? ⟨b1, i, none⟩ = some (.int .i64 (capN 1099511627776 (A.getD i 0)))) ∧ Arr .i64 3 w1 b1 S1 ∧ S1.length = k1 ∧ n ≤ k1 ∧ w.heap.size ≤ b1 ∧ A.getD 0 0 ≤ 2) := ⟨g, hA1, hk1, by omega, hB1, hp0⟩
      rw [hk1] at hl1 ⊢
      have b1w : b1 < w1.heap.size := hA1.lt
      clear hr1 hA hCl hok hrd g hA1 ht1 hm1 hk1 hp0 hp1
      have h2I : (2 : Int) ≤ (n : Int) := by omega
      go_wp2_with fail
      go_loopw [6] (fun iv wr => ∃ (i : Nat), iv = .int .i64 i ∧ i ≤ n ∧ (∀ j, j < i → A.getD j 0 ≤ 2147483647) ∧ w1 = wr) (fun iv _ => n - (intOf iv).toNat)
      case atStart => exact ⟨0, rfl, by omega, fun j hj => by omega, rfl⟩
      case round =>
        obtain ⟨i, rfl, hi, hall, rfl⟩ := hrel
        have HALL : Hid (∀ j, j < i → A.getD j 0 ≤ 2147483647) := hall
        clear hall
        by_cases hlt : i < n
        · have l1 : (i : Int) < (n : Int) := by omega
          obtain ⟨c, hc⟩ : ∃ c, capN 1099511627776 (A.getD i 0) = c := ⟨_, rfl⟩
          have cc : w1.cell? ⟨b1, i, none⟩ = some (.int .i64 c) := by rw [H2.out.1 i hlt, hc]
          have HC : Hid (c = ((min (A.getD i 0) 1099511627776 : Nat) : Int)) := by rw [← hc]; rfl
          clear hc
          by_cases hbig : (2147483647 : Int) < c
          · have HL : Hid (putLong A = true) := by
              show _ = _
              have h3 := HC.out
              unfold putLong
              rw [List.any_eq_true]
              have hiA : i < A.length := by have := H1.out.2.1; omega
              refine ⟨A[i]'hiA, List.getElem_mem _, ?_⟩
              rw [List.getD_eq_getElem?_getD, List.getElem?_eq_getElem hiA] at h3
              simp at h3 ⊢; omega
            go_wp2
            go_ret2
            exact ⟨⟨_, [], 3, .inr (.inl ⟨A, H1.out.1, H1.out.2.2, HL.out, rfl, rfl⟩), rfl, nil_sl _⟩, HB1.out⟩
          · have HN : Hid (∀ j, j < i + 1 → A.getD j 0 ≤ 2147483647) := by
              intro j hj
              by_cases hji : j = i
              · subst hji; have := HC.out; omega
              · exact HALL.out j (by omega)
            go_wp2
            go_roundw
            case rel => exact ⟨i + 1, by go_num, by omega, HN.out, trivial⟩
            case measure => simp [intOf]; omega
        · obtain rfl : i = n := by omega
          have l1 : ¬ (i : Int) < (i : Int) := by omega
          have HN : Hid (putLong A = false ∧ (∀ u ∈ A, u ≤ 2147483647)) := by
            have h4 : ∀ u ∈ A, u ≤ 2147483647 := by
              intro u hu
              obtain ⟨j, hj, rfl⟩ := List.mem_iff_getElem.1 hu
              have := HALL.out j (by have := H1.out.2.1; omega)
              rw [List.getD_eq_getElem?_getD, List.getElem?_eq_getElem hj] at this
              exact this
            refine ⟨?_, h4⟩
            unfold putLong
            rw [List.any_eq_false]
            intro u hu
            have := h4 u hu
            simp; omega
          have hcell : ∀ j, j < i → w1.cell? ⟨b1, j, none⟩ = some (.int .i64 ((A.getD j 0 : Nat) : Int)) := by
            intro j hj
            rw [H2.out.1 j hj]
            have h4 := HALL.out j hj
            unfold capN
            congr 3
            omega
          obtain ⟨a0, ha0⟩ : ∃ a0, A.getD 0 0 = a0 := ⟨_, rfl⟩
          obtain ⟨a1, ha1⟩ : ∃ a1, A.getD 1 0 = a1 := ⟨_, rfl⟩
          have d0 : w1.cell? ⟨b1, 0, none⟩ = some (.int .i64 (a0 : Int)) := by rw [hcell 0 (by omega), ha0]
          have d1 : w1.cell? ⟨b1, 1, none⟩ = some (.int .i64 (a1 : Int)) := by rw [hcell 1 (by omega), ha1]
          have f1 : w1.frozen? ⟨b1, 1, none⟩ = false := H2.out.2.1.frozen 1
          have a0b : (a0 : Int) ≤ 2 := by have := H2.out.2.2.2.2.2; omega
          have a1b : (a1 : Int) ≤ 2147483647 := by have := HALL.out 1 (by omega); omega
          obtain ⟨s0, hs0⟩ : ∃ s0 : Nat, 40 * a0 + a1 = s0 := ⟨_, rfl⟩
          have hs1 : (a1 : Int) + 40 * (a0 : Int) = (s0 : Int) := by omega
          have hs2 : s0 ≤ 4294967295 := by omega
          obtain ⟨T, hT⟩ : ∃ T, s0 :: A.drop 2 = T := ⟨_, rfl⟩
          have HT : Hid (s0 :: A.drop 2 = T ∧ T.length = i - 1 ∧ T.flatMap sevL = putB A ∧ (∀ u ∈ T, u ≤ 4294967295) ∧ (∀ j, 2 ≤ j → T.getD (j - 1) 0 = A.getD j 0)) := by
            refine ⟨hT, ?_, ?_, ?_, ?_⟩
            · rw [← hT, List.length_cons, List.length_drop, H1.out.2.1]; omega
            · rw [← hT, List.flatMap_cons]; unfold putB; rw [ha0, ha1, hs0]
            · intro u hu
              rw [← hT] at hu
              rcases List.mem_cons.1 hu with rfl | hu
              · exact hs2
              · have := HN.out.2 u (List.mem_of_mem_drop hu); omega
            · intro j hj
              obtain ⟨d, rfl⟩ : ∃ d, j = d + 2 := ⟨j - 2, by omega⟩
              rw [← hT, show d + 2 - 1 = d + 1 by omega, List.getD_cons_succ, List.getD_eq_getElem?_getD, List.getD_eq_getElem?_getD, List.getElem?_drop, Nat.add_comm]
          have HCell : Hid (∀ W : World, Upd w1 W b1 → Arr .i64 3 W b1 (S1.set 1 (s0 : Int)) → ∀ j, 1 ≤ j → j < i → W.cell? ⟨b1, j, none⟩ = some (.int .i64 ((T.getD (j - 1) 0 : Nat) : Int))) := by
            intro W _ hW j hj1 hji
            have hlen := H2.out.2.2.1
            have hle := H2.out.2.2.2.1
            rw [hW.cell j (by rw [List.length_set]; omega)]
            by_cases hj : j = 1
            · subst hj
              rw [← HT.out.1, List.getD_eq_getElem?_getD, List.getElem?_set_self (by omega)]; rfl
            · have h5 := H2.out.2.1.cell j (by omega)
              rw [hcell j hji] at h5
              rw [HT.out.2.2.2.2 j (by omega), List.getD_eq_getElem?_getD, List.getElem?_set_ne (by omega), ← List.getD_eq_getElem?_getD]
              exact h5.symm
          clear ha0 ha1 hcell hs0 hT
          go_upto_region 9 with (fail)
          refine wp_region_qsd 10 (by kernel_rfl) (by kernel_rfl) ?_
          simp only [List.take_succ_cons, List.take_zero, List.drop_succ_cons, List.drop_zero]
          repeat (go_big_quiet_step (fail))
          refine wpQuiet_nil ?_
          rintro _ ⟨q3, rfl⟩
          have d1' : (w1.drewN q3).cell? ⟨b1, 1, none⟩ = some (.int .i64 (a1 : Int)) := d1
          have f1' : (w1.drewN q3).frozen? ⟨b1, 1, none⟩ = false := f1
          have b1w' : b1 < (w1.drewN q3).heap.size := b1w
          go_upto_region 10 with (fail)
          refine wp_gen (fun W => Upd w1 W b1 ∧ Arr .i64 3 W b1 (S1.set 1 (s0 : Int))) ?_ ?_
          · exact ⟨Upd.trans (w' := w1.drewN q3) ⟨rfl, rfl, rfl, Nat.le_refl _, fun _ _ _ => rfl⟩ (Upd.set _ _ _ _), Arr.set (w := w1.drewN q3) H2.out.2.1 1 _⟩
          rintro w2 ⟨hu2, ha2⟩
          have H3 : Hid (Below w.heap.size w w2 ∧ (∀ j, 1 ≤ j → j < i → w2.cell? ⟨b1, j, none⟩ = some (.int .i64 ((T.getD (j - 1) 0 : Nat) : Int))) ∧ b1 < w2.heap.size) := ⟨hu2.below HB1.out HB1.out.size H2.out.2.2.2.2.1, HCell.out w2 hu2 ha2, ha2.lt⟩
          clear hu2 ha2 d0 d1 f1 d1' f1' b1w' b1w
          go_wp2_with fail
          go_loopw [7, 8] (fun bv iv wr => ∃ (j : Nat) (s1 : Value), s1 = bv ∧ iv = .int .i64 j ∧ 1 ≤ j ∧ j ≤ i ∧ Row .u8 5 w2.heap.size wr s1 ((T.take (j - 1)).flatMap sevL) ∧ Below w2.heap.size w2 wr) (fun _ iv _ => i - (intOf iv).toNat)
          case atStart => exact ⟨1, _, rfl, rfl, by omega, by omega, Row.nil _ _ _ _, Below.refl _ _⟩
          case round =>
            obtain ⟨j, s1, rfl, rfl, hj1, hji, hr, hb⟩ := hrel
            obtain ⟨w5, h5⟩ : ∃ W, W = wr := ⟨wr, rfl⟩
            subst h5
            have H5 : Hid (Row .u8 5 w2.heap.size w5 s1 ((T.take (j - 1)).flatMap sevL) ∧ Below w2.heap.size w2 w5) := ⟨hr, hb⟩
            clear hr hb
            by_cases hjl : j < i
            · have l2 : (j : Int) < (i : Int) := by omega
              obtain ⟨u, hu⟩ : ∃ u, T.getD (j - 1) 0 = u := ⟨_, rfl⟩
              have hTl : j - 1 < T.length := by have := HT.out.2.1; omega
              have hu2 : u ≤ 4294967295 := by
                rw [← hu, List.getD_eq_getElem?_getD, List.getElem?_eq_getElem hTl]
                exact HT.out.2.2.2.1 _ (List.getElem_mem _)
              have b1r : b1 < w5.heap.size := Nat.lt_of_lt_of_le H3.out.2.2 H5.out.2.size
              have cu : w5.cell? ⟨b1, j, none⟩ = some (.int .i64 (u : Int)) := by
                rw [H5.out.2.cell (p := ⟨b1, j, none⟩) H3.out.2.2, H3.out.2.1 j hj1 hjl, hu]
              have HU : Hid (((T.take (j - 1)).flatMap sevL).length ≤ 100000 ∧ (T.take j).flatMap sevL = (T.take (j - 1)).flatMap sevL ++ sevL u ∧ (sevL u).length ≤ 5) := by
                refine ⟨?_, ?_, sevL_len u hu2⟩
                · have h2 := flat_len (T.take (j - 1)) (fun z hz => HT.out.2.2.2.1 z (List.mem_of_mem_take hz))
                  rw [List.length_take] at h2
                  omega
                · have := flat_snoc T (j - 1) hTl
                  rw [show j - 1 + 1 = j by omega, hu] at this
                  exact this
              clear hu hTl
              have z00 : IntKind.u8.wrap ((u : Int) % 128) = (u : Int) % 128 := wrapU8 _ (by omega) (by omega)
              have HZ0 : Hid ((u : Int) % 128 = ((u % 128 : Nat) : Int)) := by show _ = _; omega
              have huI : (u : Int) ≤ 4294967295 := by omega
              go_wp2_with fail
              go_loopw [9, 10] (fun tv vv wq => ∃ (v : Nat) (t1 : Value) (R : List Int), t1 = tv ∧ vv = .int .i64 v ∧ v ≤ 4294967295 ∧ hiG v ++ R = sevL u ∧ Row .u8 5 w5.heap.size wq t1 R ∧ Below w5.heap.size w5 wq) (fun _ vv _ => (intOf vv).toNat)
              case atStart => exact ⟨u / 128, _, [(u : Int) % 128], rfl, by go_num, by omega, by rw [sevL_hi, HZ0.out], Row.arr (S := [(u : Int) % 128]) (arr_nw rfl rfl) (Nat.le_refl _) (by simp [maxLen]), al1 _⟩
              case round =>
                obtain ⟨v, t1, R, rfl, rfl, hv, hR, hr, hb⟩ := hrel
                have H6 : Hid (Row .u8 5 w5.heap.size wr t1 R ∧ Below w5.heap.size w5 wr ∧ hiG v ++ R = sevL u ∧ R.length ≤ 5) := ⟨hr, hb, hR, by have := HU.out.2.2; rw [← hR, List.length_append] at this; omega⟩
                clear hr hb hR
                by_cases hv0 : v = 0
                · subst hv0
                  have HR : Hid (R = sevL u) := by
                    show _ = _
                    have := H6.out.2.2.1
                    rw [hiG_0, List.nil_append] at this; exact this
                  go_wp2_with (at_builtin; refine wpList_ap rfl (.tmp 68) (.tmp 69) 22 22 rfl .u8 5 1 Tryz.und8 Tryz.info8 (by decide) w2.heap.size _ ((T.take (j - 1)).flatMap sevL) rfl (H5.out.1.below H6.out.2.1) _ R rfl (src_sl Tryz.und8 H6.out.1.sl) (by have := HU.out.1; have := H6.out.2.2.2; omega) (by have := H5.out.2.size; have := H6.out.2.1.size; omega) ?_; intro v8 w8 hr8 hg8)
                  have H8 : Hid (Row .u8 5 w2.heap.size w8 v8 ((T.take (j + 1 - 1)).flatMap sevL) ∧ Below w2.heap.size w2 w8) := ⟨by rw [show j + 1 - 1 = j by omega, HU.out.2.1, ← HR.out]; exact hr8, (H5.out.2.trans (H6.out.2.1.mono H5.out.2.size)).trans (hg8.below (H5.out.1.below H6.out.2.1) (by have := H5.out.2.size; have := H6.out.2.1.size; omega))⟩
                  clear hr8 hg8
                  go_roundw
                  case rel => exact ⟨j + 1, _, rfl, by go_num, by omega, by omega, H8.out.1, H8.out.2⟩
                  case measure => simp [intOf]; omega
                · have g1 : (0 : Int) < (v : Int) := by omega
                  have hq2 : v / 128 < v := by omega
                  obtain ⟨z, hz⟩ : ∃ z : Int, (v : Int) % 128 = z := ⟨_, rfl⟩
                  have z3 : IntKind.u8.wrap (z + 128) = z + 128 := wrapU8 _ (by omega) (by omega)
                  have HZ : Hid (hiG (v / 128) ++ ([z + 128] ++ R) = sevL u) := by
                    show _ = _
                    have h := H6.out.2.2.1
                    rw [hiG_next hv0] at h
                    rw [← h, List.append_assoc, show z + 128 = ((v % 128 + 128 : Nat) : Int) by omega]
                  have hvI : (v : Int) ≤ 4294967295 := by omega
                  have hrw : Row .u8 5 w5.heap.size (wr.alloc (.cells #[.int .u8 (z + 128)] 5)) (.slice (some ⟨wr.heap.size, 0, none⟩) 1 1) [z + 128] := Row.arr (S := [z + 128]) (arr_nw rfl rfl) H6.out.2.1.size (by simp [maxLen])
                  have HRw : Hid (Row .u8 5 w5.heap.size (wr.alloc (.cells #[.int .u8 (z + 128)] 5)) (.slice (some ⟨wr.heap.size, 0, none⟩) 1 1) [z + 128]) := hrw
                  clear hrw
                  go_wp2_with (at_builtin; refine wpList_ap rfl (.tmp 65) (.tmp 66) 22 22 rfl .u8 5 1 Tryz.und8 Tryz.info8 (by decide) w5.heap.size _ [z + 128] rfl HRw.out _ R rfl (src_sl Tryz.und8 (H6.out.1.alloc _).sl) (by have := H6.out.2.2.2; simp; omega) (by have := H6.out.2.1.size; simp; omega) ?_; intro v6 w6 hr6 hg6)
                  have H7 : Hid (Row .u8 5 w5.heap.size w6 v6 ([z + 128] ++ R) ∧ Below w5.heap.size w5 w6) := ⟨hr6, (al2' H6.out.2.1).trans (hg6.below HRw.out (by have := H6.out.2.1.size; simp; omega))⟩
                  clear hr6 hg6
                  go_roundw
                  case rel => exact ⟨v / 128, _, [z + 128] ++ R, rfl, by go_num, by omega, HZ.out, H7.out.1, H7.out.2⟩
                  case measure => simp [intOf]; omega
            · obtain rfl : j = i := by omega
              have l2 : ¬ (j : Int) < (j : Int) := by omega
              have HE : Hid ((T.take (j - 1)).flatMap sevL = putB A) := by
                show _ = _
                rw [List.take_of_length_le (by have := HT.out.2.1; omega)]
                exact HT.out.2.2.1
              go_wp2
              go_ret2
              refine ⟨⟨_, putB A, 0, .inr (.inr ⟨A, H1.out.1, H1.out.2.2, HN.out.1, rfl, rfl⟩), rfl, ?_⟩, H3.out.1.trans (H5.out.2.mono H3.out.1.size)⟩
              rw [← HE.out]; exact H5.out.1.sl
  · have HN : Hid (∀ A', arcsP Y = some A' → putOk A' = false) := by intro A' h; rw [hno] at h; cases h
    clear hno
    go_wp2
    go_ret2
    exact six.out HN.out _ _ HB1.out rfl
end Go.Proofs.YtillkhjihggcjaaGreatDoor
/-
  Alg: how identifiers are laid (picked from rsa's texts).
-/
namespace Go.Proofs.YtillkhjihggcjaaGreatDoor
open Go.RowKit
set_option maxRecDepth 20000
theorem Blk.sls {T : TypeId} {w : World} {b : Nat} {vs : List Value} (h : Blk T w b vs) : SlS w (.slice (some ⟨b, 0, none⟩) vs.length vs.length) vs :=
  ⟨_, _, rfl, Nat.le_refl _, .inr ⟨b, 0, rfl, h.lt, fun i hi => by rw [h.cell]; simp [hi]⟩⟩
theorem lsA1 {w : World} {T : TypeId} {v : Value} {m : List Int} (h : Sl .u8 w v m) (u : U8s m) : Lists (w.alloc (.cells #[v] T)) (some ⟨w.heap.size, 0, none⟩) 1 1 [v] [m] :=
  ⟨(Blk.new T w [v]).sls, ⟨rfl, fun i hi => by
    obtain rfl : i = 0 := by simp at hi; omega
    exact ⟨below_sl (al1 _) h, u⟩⟩, rfl⟩
theorem lsA2 {w : World} {T : TypeId} {v v' : Value} {m m' : List Int} (h : Sl .u8 w v m) (u : U8s m) (h' : Sl .u8 w v' m') (u' : U8s m') : Lists (w.alloc (.cells #[v, v'] T)) (some ⟨w.heap.size, 0, none⟩) 2 2 [v, v'] [m, m'] :=
  ⟨(Blk.new T w [v, v']).sls, ⟨rfl, fun i hi => by
    have : i = 0 ∨ i = 1 := by simp at hi; omega
    rcases this with rfl | rfl
    · exact ⟨below_sl (al1 _) h, u⟩
    · exact ⟨below_sl (al1 _) h', u'⟩⟩, rfl⟩
/-- An element of the universal class, of fewer than 128 bytes. -/
def elB (tag : Nat) (d : List Int) : List Int := ((if tag = 16 then 32 else 0) + tag : Int) :: (d.length : Int) :: d
theorem elB_len (tag : Nat) (d : List Int) : (elB tag d).length = d.length + 2 := by simp [elB]
theorem elB_u8 {tag : Nat} {d : List Int} (ht : tag < 31) (hd : U8s d) (hl : d.length < 128) : U8s (elB tag d) := by
  intro x hx
  simp only [elB, List.mem_cons] at hx
  rcases hx with rfl | rfl | hx
  · unfold U8; split <;> omega
  · unfold U8; omega
  · exact hd x hx
def Alg4 (alg : Int) : Prop := alg = 1 ∨ alg = 2 ∨ alg = 3 ∨ alg = 4
/-- The identifiers' texts and bytes. -/
def oidY (alg : Int) : List Int :=
  if alg = 1 then [49, 46, 51, 46, 49, 52, 46, 51, 46, 50, 46, 50, 54]
  else [50, 46, 49, 54, 46, 56, 52, 48, 46, 49, 46, 49, 48, 49, 46, 51, 46, 52, 46, 50, 46, 47 + alg]
def oidB (alg : Int) : List Int := if alg = 1 then [43, 14, 3, 2, 26] else [96, 134, 72, 1, 101, 3, 4, 2, alg - 1]
theorem oidR {alg : Int} (ha : Alg4 alg) : PutR (oidY alg) (oidB alg) 0 := by
  rcases ha with rfl | rfl | rfl | rfl
  · exact .inr (.inr ⟨[1, 3, 14, 3, 2, 26], by decide +kernel, by decide +kernel, by decide +kernel, by decide +kernel, rfl⟩)
  · exact .inr (.inr ⟨[2, 16, 840, 1, 101, 3, 4, 2, 1], by decide +kernel, by decide +kernel, by decide +kernel, by decide +kernel, rfl⟩)
  · exact .inr (.inr ⟨[2, 16, 840, 1, 101, 3, 4, 2, 2], by decide +kernel, by decide +kernel, by decide +kernel, by decide +kernel, rfl⟩)
  · exact .inr (.inr ⟨[2, 16, 840, 1, 101, 3, 4, 2, 3], by decide +kernel, by decide +kernel, by decide +kernel, by decide +kernel, rfl⟩)
theorem oidY_u8 {alg : Int} (ha : Alg4 alg) : U8s (oidY alg) ∧ (oidY alg).length ≤ 2000 := by
  rcases ha with rfl | rfl | rfl | rfl <;> exact ⟨by intro x hx; unfold U8; simp [oidY] at hx; omega, by decide⟩
theorem oidB_u8 {alg : Int} (ha : Alg4 alg) : U8s (oidB alg) ∧ (oidB alg).length ≤ 9 := by
  rcases ha with rfl | rfl | rfl | rfl <;> exact ⟨by intro x hx; unfold U8; simp [oidB] at hx; omega, by decide⟩
theorem Sl.formA {k : IntKind} {w : World} {v : Value} {xs : List Int} (h : Sl k w v xs) : ∃ a c, v = .slice a xs.length c := by
  obtain ⟨a, c, rfl, _⟩ := h; exact ⟨a, c, rfl⟩
theorem ROid8 {w : World} (alg : Int) (ha : Alg4 alg) : Calls Tryz.prog 25 #[.int .i64 alg] w fun e w' => e = .returned (.string (strOfNums (oidY alg))) ∧ w = w' := by
  rcases ha with rfl | rfl | rfl | rfl
  all_goals (go_enter Tryz.func25, Tryz.ntmps25; go_wp2; go_ret; exact ⟨congrArg (fun s => Ending.returned (Value.string s)) (by decide +kernel), rfl⟩)
theorem rput8 {w : World} (tag : Nat) (ht1 : 1 ≤ tag) (ht : tag < 31) (a : Option Addr) (n cp : Nat) (vs : List Value) (ms : List (List Int)) (hL : Lists w a n cp vs ms) (hn : n ≤ 1000) (h128 : ms.flatten.length < 128) (co : Bool) (hc : co = decide (tag = 16)) :
    Calls Tryz.prog 20 #[.int .i64 0, .int .i64 tag, .bool co, .slice a n cp] w fun e w' => ∃ r, e = .returned (.tuple #[r, .int .i64 0]) ∧ Row .u8 5 w.heap.size w' r (elB tag ms.flatten) ∧ Below w.heap.size w w' := by
  obtain ⟨N, hN⟩ : ∃ N, ms.flatten.length = N := ⟨_, rfl⟩
  have hl : ∃ l : Nat, N / 256 ^ l = 0 ∧ (∀ j, j < l → 0 < N / 256 ^ j) ∧ l ≤ 7 := by
    by_cases h0 : N = 0
    · exact ⟨0, by simp [h0], by omega, by omega⟩
    · refine ⟨1, by omega, fun j hj => ?_, by omega⟩
      obtain rfl : j = 0 := by omega
      simp; omega
  obtain ⟨l, hl0, hl1, hl7⟩ := hl
  have hE : headB 0 co tag 0 ++ lenB N l ++ ms.flatten = elB tag ms.flatten := by
    unfold headB lenB elB frst
    have h1 : N < 128 := by omega
    rw [hc, hN]
    by_cases h : tag = 16
    · simp [h, h1]
    · simp [h, h1, ht]
  have := RPut_any (w := w) 0 tag 0 l co a n cp N vs ms hL hN (by omega) (by omega) (by unfold headOk; simp; omega) (by simp; omega) (by omega) (by omega) hl0 hl1 hl7
  rw [hE] at this
  exact this
set_option maxHeartbeats 1000000 in
theorem Prim8 {w : World} (tag : Nat) (ht1 : 1 ≤ tag) (ht : tag < 16) (a : Option Addr) (n cp : Nat) (X : List Int) (hX : Sl .u8 w (.slice a n cp) X) (uX : U8s X) (h128 : X.length < 128) :
    Calls Tryz.prog 44 #[.int .i64 tag, .slice a n cp] w fun e w' => ∃ r, e = .returned r ∧ Row .u8 5 w.heap.size w' r (elB tag X) ∧ Below w.heap.size w w' := by
  have HP : Hid (∀ o, o = .cells #[.slice a n cp] 22 → Calls Tryz.prog 20 #[.int .i64 0, .int .i64 tag, .bool false, .slice (some ⟨w.heap.size, 0, none⟩) 1 1] (w.alloc o) fun e w' => ∃ r, e = .returned (.tuple #[r, .int .i64 0]) ∧ Row .u8 5 w.heap.size w' r (elB tag X) ∧ Below w.heap.size w w') := fun o ho => by
    subst ho
    refine (rput8 tag ht1 (by omega) _ 1 1 _ [X] (lsA1 hX uX) (by decide) (by simpa using h128) false (by simp; omega)).mono ?_
    rintro e w' ⟨r, rfl, hr, hb⟩
    refine ⟨r, rfl, ?_, below_via (al1 _) hb (Nat.le_refl _)⟩
    have := hr.mono (B' := w.heap.size) (by simp)
    simpa using this
  clear hX uX
  go_enter Tryz.func44, Tryz.ntmps44
  go_wp2_with (go_at_call 20; refine (HP.out _ rfl).mono ?_; rintro e w2 ⟨r, rfl, hr, hb⟩; have HR : Hid (Row .u8 5 w.heap.size w2 r (elB tag X) ∧ Below w.heap.size w w2) := ⟨hr, hb⟩; clear hr hb)
  go_ret
  exact ⟨r, rfl, HR.out⟩
set_option maxHeartbeats 1000000 in
theorem Seq8 {w : World} (a : Option Addr) (n cp : Nat) (vs : List Value) (ms : List (List Int)) (hL : Lists w a n cp vs ms) (hn : n ≤ 1000) (h128 : ms.flatten.length < 128) :
    Calls Tryz.prog 42 #[.int .i64 16, .slice a n cp] w fun e w' => ∃ r, e = .returned r ∧ Row .u8 5 w.heap.size w' r (elB 16 ms.flatten) ∧ Below w.heap.size w w' := by
  have HP : Hid (∀ w', w' = w → Calls Tryz.prog _ _ w' _) := fun w' hw => by rw [hw]; exact rput8 16 (by decide) (by decide) a n cp vs ms hL hn h128 true (by decide)
  clear hL
  go_enter Tryz.func42, Tryz.ntmps42
  go_wp2_with (go_at_call 20; refine (HP.out _ rfl).mono ?_; rintro e w2 ⟨r, rfl, hr, hb⟩; have HR : Hid (Row .u8 5 w.heap.size w2 r (elB 16 ms.flatten) ∧ Below w.heap.size w w2) := ⟨hr, hb⟩; clear hr hb)
  go_ret
  exact ⟨r, rfl, HR.out⟩
set_option maxHeartbeats 1000000 in
theorem OidOf8 {w : World} (alg : Int) (ha : Alg4 alg) : Calls Tryz.prog 43 #[.string (strOfNums (oidY alg))] w fun e w' => ∃ r, e = .returned r ∧ Row .u8 5 w.heap.size w' r (elB 6 (oidB alg)) ∧ Below w.heap.size w w' := by
  go_enter Tryz.func43, Tryz.ntmps43
  go_wp2_with fail
  refine (RPutOid_any (oidY alg) (oidY_u8 ha).1 (oidY_u8 ha).2).mono ?_
  rintro e w1 ⟨⟨r1, b1, er1, hp, rfl, hs1⟩, hb1⟩
  obtain ⟨rfl, rfl⟩ := hp.uniq (oidR ha)
  obtain ⟨a1, c1, rfl⟩ := hs1.formA
  have H1 : Hid (Sl .u8 w1 (.slice a1 (oidB alg).length c1) (oidB alg) ∧ Below w.heap.size w w1) := ⟨hs1, hb1⟩
  clear hs1 hb1 hp
  go_wp2_with (go_at_call 44; refine (Prim8 6 (by decide) (by decide) _ _ _ (oidB alg) H1.out.1 (oidB_u8 ha).1 (by have := (oidB_u8 ha).2; omega)).mono ?_; rintro e w2 ⟨r, rfl, hr, hb⟩; have HR : Hid (Row .u8 5 w.heap.size w2 r (elB 6 (oidB alg)) ∧ Below w.heap.size w w2) := ⟨hr.mono H1.out.2.size, below_via H1.out.2 hb (Nat.le_refl _)⟩; clear hr hb)
  go_ret
  exact ⟨r, rfl, HR.out⟩

def sizA (alg : Int) : Nat := if alg = 1 then 20 else if alg = 2 then 32 else if alg = 3 then 48 else if alg = 4 then 64 else 0
theorem Tryz.one_int : (Tryz.prog.info? 3).map (·.size) = some 1 := by kernel_rfl
theorem RSizeA {w : World} (alg : Int) : Calls Tryz.prog 17 #[.int .i64 alg] w fun e w' => e = .returned (.int .i64 (sizA alg)) ∧ w = w' := by
  unfold sizA
  by_cases h1 : alg = 1
  · subst h1
    have hx : ∀ w' : World, Sem.run Tryz.prog (Instr.index 91 (.agg #[.int .i64 20, .int .i64 32, .int .i64 48, .int .i64 64]) (.int .i64 0)) w' = .ok (.int .i64 20) w' := fun w' => run_index_row w' _ _ 4 .i64 [20, 32, 48, 64] 0 Tryz.underlying91 Tryz.underlying3 Tryz.one_int rfl (by decide)
    go_enter Tryz.func17, Tryz.ntmps17; go_wp2; go_ret; exact ⟨rfl, rfl⟩
  by_cases h2 : alg = 2
  · subst h2
    have hx : ∀ w' : World, Sem.run Tryz.prog (Instr.index 91 (.agg #[.int .i64 20, .int .i64 32, .int .i64 48, .int .i64 64]) (.int .i64 1)) w' = .ok (.int .i64 32) w' := fun w' => run_index_row w' _ _ 4 .i64 [20, 32, 48, 64] 1 Tryz.underlying91 Tryz.underlying3 Tryz.one_int rfl (by decide)
    go_enter Tryz.func17, Tryz.ntmps17; go_wp2; go_ret; exact ⟨rfl, rfl⟩
  by_cases h3 : alg = 3
  · subst h3
    have hx : ∀ w' : World, Sem.run Tryz.prog (Instr.index 91 (.agg #[.int .i64 20, .int .i64 32, .int .i64 48, .int .i64 64]) (.int .i64 2)) w' = .ok (.int .i64 48) w' := fun w' => run_index_row w' _ _ 4 .i64 [20, 32, 48, 64] 2 Tryz.underlying91 Tryz.underlying3 Tryz.one_int rfl (by decide)
    go_enter Tryz.func17, Tryz.ntmps17; go_wp2; go_ret; exact ⟨rfl, rfl⟩
  by_cases h4 : alg = 4
  · subst h4
    have hx : ∀ w' : World, Sem.run Tryz.prog (Instr.index 91 (.agg #[.int .i64 20, .int .i64 32, .int .i64 48, .int .i64 64]) (.int .i64 3)) w' = .ok (.int .i64 64) w' := fun w' => run_index_row w' _ _ 4 .i64 [20, 32, 48, 64] 3 Tryz.underlying91 Tryz.underlying3 Tryz.one_int rfl (by decide)
    go_enter Tryz.func17, Tryz.ntmps17; go_wp2; go_ret; exact ⟨rfl, rfl⟩
  rw [if_neg h1, if_neg h2, if_neg h3, if_neg h4]
  by_cases h5 : alg < 1
  · go_enter Tryz.func17, Tryz.ntmps17; go_wp2; go_ret; exact ⟨rfl, rfl⟩
  · have h6 : 4 < alg := by omega
    go_enter Tryz.func17, Tryz.ntmps17; go_wp2; go_ret; exact ⟨rfl, rfl⟩
end Go.Proofs.YtillkhjihggcjaaGreatDoor
/-
  Alg: the law AlgVoid.
-/
namespace Go.Proofs.YtillkhjihggcjaaGreatDoor
open Go.RowKit
set_option maxRecDepth 20000
def layX (alg : Int) : List Int := elB 16 (elB 6 (oidB alg) ++ elB 5 [])
def layY (alg : Int) : List Int := elB 16 (elB 6 (oidB alg))
theorem lsA0 (w : World) (T : TypeId) (v : Value) (m : List Int) (h : Sl .u8 w v m) (u : U8s m) : Lists (w.alloc (.cells #[v] T)) (some ⟨w.heap.size, 0, none⟩) 1 1 [v] [m] := lsA1 h u
set_option maxHeartbeats 2000000 in
theorem LayDigest_any {w : World} (alg : Int) (ha : Alg4 alg) (b : Bool) : Calls Tryz.prog 19 #[.int .i64 alg, .bool b] w fun e w' => ∃ r, e = .returned r ∧ Row .u8 5 w.heap.size w' r (if b = true then layX alg else layY alg) ∧ Below w.heap.size w w' := by
  have hB := oidB_u8 ha
  have hE : U8s (elB 6 (oidB alg)) := elB_u8 (by decide) hB.1 (by omega)
  have HO : Hid (∀ W, Calls Tryz.prog 43 #[.string (strOfNums (oidY alg))] W fun e w' => ∃ r, e = .returned r ∧ Row .u8 5 W.heap.size w' r (elB 6 (oidB alg)) ∧ Below W.heap.size W w') := fun W => OidOf8 alg ha
  have HI : Hid (∀ W, Calls Tryz.prog 25 #[.int .i64 alg] W fun e w' => e = .returned (.string (strOfNums (oidY alg))) ∧ W = w') := fun W => ROid8 alg ha
  have HB : Hid (U8s (oidB alg) ∧ (oidB alg).length ≤ 9 ∧ U8s (elB 6 (oidB alg))) := ⟨hB.1, hB.2, hE⟩
  obtain ⟨Y, hY⟩ : ∃ Y, strOfNums (oidY alg) = Y := ⟨_, rfl⟩
  rw [hY] at HO HI
  clear ha hB hE hY
  cases b with
  | true =>
    go_enter Tryz.func19, Tryz.ntmps19
    go_wp2_with fail
    refine (HI.out _).mono ?_
    rintro e w1 ⟨rfl, rfl⟩
    go_wp2_with fail
    refine (HO.out _).mono ?_
    rintro e w2 ⟨r2, rfl, hr2, hb2⟩
    obtain ⟨a2, c2, rfl⟩ := hr2.ne
    obtain ⟨n2, hn2⟩ : ∃ n, (elB 6 (oidB alg)).length = n := ⟨_, rfl⟩
    rw [hn2] at hr2 ⊢
    have H2 : Hid (Sl .u8 w2 (.slice a2 n2 c2) (elB 6 (oidB alg)) ∧ Below w.heap.size w w2) := ⟨hr2.sl, hb2⟩
    clear hr2 hb2 hn2
    go_wp2_with fail
    refine (Prim8 (w := w2) 5 (by decide) (by decide) none 0 0 [] (nil_sl _) nil_u8 (by decide)).mono ?_
    rintro e w3 ⟨r3, rfl, hr3, hb3⟩
    obtain ⟨a3, c3, rfl⟩ := hr3.ne
    have H3 : Hid (Sl .u8 w3 (.slice a2 n2 c2) (elB 6 (oidB alg)) ∧ Sl .u8 w3 (.slice a3 (elB 5 []).length c3) (elB 5 []) ∧ Below w.heap.size w w3) := ⟨below_sl hb3 H2.out.1, hr3.sl, below_via H2.out.2 hb3 (Nat.le_refl _)⟩
    clear hr3 hb3
    go_wp2_with fail
    refine (Seq8 _ 2 2 _ [elB 6 (oidB alg), elB 5 []] (lsA2 H3.out.1 HB.out.2.2 H3.out.2.1 (elB_u8 (by decide) nil_u8 (by decide))) (by decide) (by have := HB.out.2.1; simp [elB_len]; omega)).mono ?_
    rintro e w4 ⟨r4, rfl, hr4, hb4⟩
    have H4 : Hid (Row .u8 5 w.heap.size w4 r4 (layX alg) ∧ Below w.heap.size w w4) := ⟨by have h := hr4.mono (B' := w.heap.size) (by have := H3.out.2.2.size; simp; omega); simpa [layX] using h, below_via H3.out.2.2 (below_via (al1 _) hb4 (Nat.le_refl _)) (Nat.le_refl _)⟩
    clear hr4 hb4
    go_wp2
    go_ret
    exact ⟨r4, rfl, H4.out.1, H4.out.2⟩
  | false =>
    go_enter Tryz.func19, Tryz.ntmps19
    go_wp2_with fail
    refine (HI.out _).mono ?_
    rintro e w1 ⟨rfl, rfl⟩
    go_wp2_with fail
    refine (HO.out _).mono ?_
    rintro e w2 ⟨r2, rfl, hr2, hb2⟩
    obtain ⟨a2, c2, rfl⟩ := hr2.ne
    obtain ⟨n2, hn2⟩ : ∃ n, (elB 6 (oidB alg)).length = n := ⟨_, rfl⟩
    rw [hn2] at hr2 ⊢
    have H2 : Hid (Sl .u8 w2 (.slice a2 n2 c2) (elB 6 (oidB alg)) ∧ Below w.heap.size w w2) := ⟨hr2.sl, hb2⟩
    clear hr2 hb2 hn2
    go_wp2_with fail
    refine (Seq8 _ 1 1 _ [elB 6 (oidB alg)] (lsA1 H2.out.1 HB.out.2.2) (by decide) (by have := HB.out.2.1; simp [elB_len]; omega)).mono ?_
    rintro e w4 ⟨r4, rfl, hr4, hb4⟩
    have H4 : Hid (Row .u8 5 w.heap.size w4 r4 (layY alg) ∧ Below w.heap.size w w4) := ⟨by have h := hr4.mono (B' := w.heap.size) (by have := H2.out.2.size; simp; omega); simpa [layY] using h, below_via H2.out.2 (below_via (al1 _) hb4 (Nat.le_refl _)) (Nat.le_refl _)⟩
    clear hr4 hb4
    go_wp2
    go_ret
    exact ⟨r4, rfl, H4.out.1, H4.out.2⟩
def elXo (alg : Int) : El := ⟨0, 16, true, elB 6 (oidB alg) ++ elB 5 [], layX alg⟩
def elYo (alg : Int) : El := ⟨0, 16, true, elB 6 (oidB alg), layY alg⟩
theorem one_X {alg : Int} (ha : Alg4 alg) : oneS (splitS (layX alg)) = (elXo alg, 0) ∧ oneS (splitS (layY alg)) = (elYo alg, 0) := by
  rcases ha with rfl | rfl | rfl | rfl <;> exact ⟨rfl, rfl⟩
theorem dig_X {alg : Int} (ha : Alg4 alg) : digS (elXo alg) = alg ∧ digS (elYo alg) = alg ∧ errD alg = 0 := by
  rcases ha with rfl | rfl | rfl | rfl <;> exact ⟨by decide +kernel, by decide +kernel, by decide +kernel⟩
/-- An element with the identifier, ahead of another one. -/
def elOid (alg : Int) : El := ⟨0, 6, false, oidB alg, elB 6 (oidB alg)⟩
theorem oid_laid {alg : Int} (ha : Alg4 alg) : Laid (elOid alg) := by
  have h := oidB_u8 ha
  have h0 : 0 < (oidB alg).length := by rcases ha with rfl | rfl | rfl | rfl <;> decide
  refine ⟨6, 0, 1, rfl, ?_, (show headOk 0 6 = true by decide), by decide, fun j hj => by omega, by show (oidB alg).length / 256 ^ 1 = 0; omega, fun j hj => ?_, by decide, by show (oidB alg).length ≤ 16777216; omega⟩
  · show elB 6 (oidB alg) = encB 0 false 6 0 1 (oidB alg)
    unfold encB headB lenB elB frst
    have h1 : (oidB alg).length < 128 := by omega
    simp [h1]
  · obtain rfl : j = 0 := by omega
    show 0 < (oidB alg).length / 256 ^ 0
    simpa using h0
theorem oid_some {alg : Int} (ha : Alg4 alg) : ∃ S, oidO (elOid alg) = some S := by
  unfold oidO
  rw [if_pos]
  · exact ⟨_, rfl⟩
  · rcases ha with rfl | rfl | rfl | rfl <;> exact ⟨by decide +kernel, by decide +kernel⟩
/-- Behind an identifier something that is no Null: it says nothing. -/
theorem dig_other {alg : Int} (ha : Alg4 alg) (z : El) (hz : Laid z) (hu : U8s z.r) (ht : z.tg = 4) (hl : z.r.length ≤ 5100) (r : List Int) :
    splitS (elB 6 (oidB alg) ++ z.r) = .inr [elOid alg, z] ∧ digS ⟨0, 16, true, elB 6 (oidB alg) ++ z.r, r⟩ = 0 := by
  have h := oidB_u8 ha
  have hs : splitS (elB 6 (oidB alg) ++ z.r) = .inr [elOid alg, z] := by
    refine split_laid ((elB_u8 (by decide) h.1 (by omega)).append hu) _ ?_ ?_ (by simp) ?_
    · intro x hx
      simp only [List.mem_cons, List.not_mem_nil, or_false] at hx
      rcases hx with rfl | rfl
      · exact oid_laid ha
      · exact hz
    · simp [rawOf, elOid]
    · rw [List.length_append, elB_len]; omega
  refine ⟨hs, ?_⟩
  obtain ⟨S, hS⟩ := oid_some ha
  have hr : rowS ⟨0, 16, true, elB 6 (oidB alg) ++ z.r, r⟩ = some [elOid alg, z] := by
    unfold rowS
    simp only []
    rw [hs]
    rfl
  have hi : idS ⟨0, 16, true, elB 6 (oidB alg) ++ z.r, r⟩ = some (S, [z]) := by
    unfold idS
    rw [hr]
    show idC [z] (oidO (elOid alg)) = _
    rw [hS]
    rfl
  unfold digS
  rw [hi]
  show (if vdB [z] = true then dgN S else 0) = 0
  have : vdB [z] = false := by
    unfold vdB isP
    simp [ht]
  rw [this]
  rfl
end Go.Proofs.YtillkhjihggcjaaGreatDoor
