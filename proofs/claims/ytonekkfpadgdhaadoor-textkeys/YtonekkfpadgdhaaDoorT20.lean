/-
  Text: the reference's Text, two bytes a character; TextReads.
-/
import Derived.Test.YtonekkfpadgdhaaDoorT19
import Derived.Test.YtonekkfpadgdhaaDoorE0L
namespace Go.Proofs.YtonekkfpadgdhaaDoor
open Go.RowKit
set_option maxHeartbeats 4000000 in
set_option maxRecDepth 100000 in
theorem RText_30 {w : World} (v : Value) (l : List UInt8) (hX : Sl .u8 w v (nums l)) (hl : l.length ≤ 100000) :
    Calls Tryd.prog 12 #[.int .i64 30, v] w fun e w' => e = TextEnd 30 l ∧ Below w.heap.size w w' := by
  have HX : Hid (Sl .u8 w v (nums l)) := hX
  obtain ⟨a, c, rfl, hc, hr⟩ := hX
  rw [nums_len] at HX hc ⊢
  obtain ⟨n, hn⟩ : ∃ n, l.length = n := ⟨_, rfl⟩
  have HN : Hid (l.length = n) := hn
  have HR : Hid (nums l = [] ∨ ∃ b off, a = some ⟨b, off, none⟩ ∧ b < w.heap.size ∧ Rd .u8 w b off (nums l)) := hr
  rw [hn] at HX hl hc ⊢
  have nz : (n : Int) ≤ 100000 := by omega
  have cz : (n : Int) ≤ (c : Int) := by omega
  have HE : Hid (textS 30 l = pairT l) := by
    show _ = _
    unfold textS
    simp
  clear hr hn hc
  by_cases hodd : n % 2 = 1
  · have e1 : (n : Int) % 2 = 1 := by omega
    have HZ : Hid (textS 30 l = ([], 60)) := by
      show _ = _
      rw [HE.out]; unfold pairT; rw [pairs_odd l (by rw [HN.out]; exact hodd)]
    clear hodd
    go_enter Tryd.func12, Tryd.ntmps12
    go_wp2
    go_ret2
    refine ⟨?_, Below.refl _ _⟩
    unfold TextEnd
    rw [HZ.out]; rfl
  · have e1 : (n : Int) % 2 = 0 := by omega
    have HO : Hid (n % 2 = 0) := by show _ = _; omega
    clear hodd
    go_enter Tryd.func12, Tryd.ntmps12
    go_wp2
    clear e1
    go_loopw [6, 7] (fun ov iv wr => ∃ (i : Nat) (o : List UInt8) (oa : Option Addr) (oc : Nat), ov = .slice oa o.length oc ∧ iv = .int .i64 i ∧ i ≤ n ∧ i % 2 = 0 ∧ Row .u8 5 w.heap.size wr (.slice oa o.length oc) (nums o) ∧ Below w.heap.size w wr ∧ 2 * o.length ≤ 3 * i ∧ pairsB l = (pairsB (l.drop i)).map (o ++ ·)) (fun _ iv _ => n - (intOf iv).toNat)
    case atStart =>
      refine ⟨0, [], none, 0, rfl, rfl, Nat.zero_le _, rfl, Row.nil _ _ _ _, Below.refl _ _, Nat.le_refl _, ?_⟩
      cases h : pairsB l <;> simp [h]
    case round =>
      obtain ⟨i, o, oa, oc, rfl, rfl, hi, hi2, hRow, hb, hal, hpr⟩ := hrel
      have HB : Hid (Row .u8 5 w.heap.size wr (.slice oa o.length oc) (nums o) ∧ Below w.heap.size w wr) := ⟨hRow, hb⟩
      have HA : Hid (2 * o.length ≤ 3 * i) := hal
      have HP : Hid (pairsB l = (pairsB (l.drop i)).map (o ++ ·)) := hpr
      have HI : Hid (i % 2 = 0) := hi2
      clear hRow hb hal hpr hi2
      by_cases hlt : i < n
      · have i1 : i + 1 < n := by have := HI.out; have := HO.out; omega
        have z1 : (i : Int) < (n : Int) := by omega
        have z2 : (i : Int) + 1 < (n : Int) := by omega
        rcases HR.out with hnil | ⟨b, off, rfl, hbl, hrd⟩
        · have := congrArg List.length hnil
          rw [nums_len, HN.out] at this
          simp at this; omega
        have c1 : wr.cell? ⟨b, off + i, none⟩ = some (.int .u8 (l.getD i 0).toNat) := by
          have := (below_rd HB.out.2 hbl hrd) i (by rw [nums_len, HN.out]; omega)
          rw [nums_get l i (by rw [HN.out]; omega)] at this; exact this
        have c2 : wr.cell? ⟨b, off + (i + 1), none⟩ = some (.int .u8 (l.getD (i + 1) 0).toNat) := by
          have := (below_rd HB.out.2 hbl hrd) (i + 1) (by rw [nums_len, HN.out]; omega)
          rw [nums_get l (i + 1) (by rw [HN.out]; omega)] at this; exact this
        have hdr := drop_two l i (by rw [HN.out]; omega)
        obtain ⟨x, hx⟩ : ∃ x, l.getD i 0 = x := ⟨_, rfl⟩
        obtain ⟨y, hy⟩ : ∃ y, l.getD (i + 1) 0 = y := ⟨_, rfl⟩
        rw [hx] at c1 hdr
        rw [hy] at c2 hdr
        have HD : Hid (l.drop i = x :: y :: l.drop (i + 2)) := hdr
        have x1 : (x.toNat : Int) < 256 := by have := x.toNat_lt; omega
        have y1 : (y.toNat : Int) < 256 := by have := y.toNat_lt; omega
        have w1 : IntKind.i64.wrap ((i : Int) + 1) = (i : Int) + 1 := wrap_small _ (by omega) (by omega)
        have t1 : ((i : Int) + 1).toNat = i + 1 := by omega
        have w2 : IntKind.i64.wrap ((x.toNat : Int) * 256) = (x.toNat : Int) * 256 := wrap_small _ (by omega) (by omega)
        obtain ⟨R, hR⟩ : ∃ R : Nat, x.toNat * 256 + y.toNat = R := ⟨_, rfl⟩
        have w3 : IntKind.i64.wrap ((x.toNat : Int) * 256 + (y.toNat : Int)) = (R : Int) := by rw [wrap_small _ (by omega) (by omega)]; omega
        have w4 : (x.toNat : Int) * 256 + (y.toNat : Int) = (R : Int) := by omega
        have r1 : R < 65536 := by have := x.toNat_lt; have := y.toNat_lt; omega
        have HRR : Hid (x.toNat * 256 + y.toNat = R) := hR
        clear hrd hbl hdr hx hy hR
        go_wp2_with fail
        go_quiet (fail)
        go_upto_region 15 with (fail)
        clear c1 c2 w1 t1 w2 w3 w4 x1 y1
        have hb1 : Below wr.heap.size wr (wr.drewN nq) := ⟨rfl, rfl, rfl, Nat.le_refl _, fun _ _ => rfl⟩
        refine wp_gen (fun W => Row .u8 5 w.heap.size W (.slice oa o.length oc) (nums o) ∧ Below w.heap.size w W) ⟨HB.out.1.below hb1, below_via HB.out.2 hb1 (Nat.le_refl _)⟩ ?_
        rintro W1 ⟨hB1, hbw1⟩
        have H1 : Hid (Row .u8 5 w.heap.size W1 (.slice oa o.length oc) (nums o) ∧ Below w.heap.size w W1) := ⟨hB1, hbw1⟩
        clear hB1 hbw1 hb1
        by_cases hsur : 55296 ≤ R ∧ R ≤ 57343
        · have s1 : (55296 : Int) ≤ (R : Int) := by omega
          have s2 : (R : Int) ≤ 57343 := by omega
          have HZ : Hid (textS 30 l = ([], 60)) := by
            show _ = _
            rw [HE.out]; unfold pairT
            rw [HP.out, HD.out]
            unfold pairsB
            rw [HRR.out, if_pos hsur]; rfl
          clear hsur
          go_wp2
          go_ret2
          refine ⟨?_, H1.out.2⟩
          unfold TextEnd
          rw [HZ.out]; rfl
        · have HEn : Hid (pairsB l = (pairsB (l.drop (i + 2))).map ((o ++ Lib.encodeRune (R : Int)) ++ ·)) := by
            show _ = _
            rw [HP.out, HD.out]
            rw [show pairsB (x :: y :: l.drop (i + 2)) = (pairsB (l.drop (i + 2))).map (Lib.encodeRune (R : Int) ++ ·) by rw [pairsB, HRR.out, if_neg hsur]]
            cases pairsB (l.drop (i + 2)) <;> simp
          have scs : (¬ (55296 : Int) ≤ (R : Int)) ∨ ((55296 : Int) ≤ (R : Int) ∧ ¬ (R : Int) ≤ 57343) := by omega
          by_cases k1 : R < 128
          · have v1 : (R : Int) < 128 := by omega
            have s1 : ¬ (55296 : Int) ≤ (R : Int) := by omega
            clear scs hsur
            have HC : Hid (nums (Lib.encodeRune (R : Int)) = [(R : Int)]) := by
              show _ = _
              unfold Lib.encodeRune nums
              rw [Lib.encodeRuneZ_one (by omega) (by omega)]
              simp
              omega
            have HL : Hid ((Lib.encodeRune (R : Int)).length = 1) := by
              show _ = _
              have := congrArg List.length HC.out
              rw [nums_len] at this
              exact this
            go_wp2_with (at_builtin; refine wpList_ap rfl (.tmp 71) (.tmp 74) 22 22 rfl .u8 5 1 Tryd.und8 Tryd.info8 (by decide) w.heap.size _ (nums o) rfl (H1.out.1.alloc _) _ [(R : Int)] rfl (src_sl Tryd.und8 (new_sl [(R : Int)] (0, 0))) (by rw [nums_len]; have := HA.out; simp; omega) (by have := H1.out.2.size; simp; omega) ?_; intro v1 w3 hr hg)
            have hb1 := hg.below (H1.out.1.alloc _) (by have := H1.out.2.size; simp; omega)
            rw [← HC.out, ← nums_app] at hr
            obtain ⟨va, vc, hv1⟩ := hr.ne
            rw [nums_len] at hv1
            subst hv1
            have H2 : Hid (Row .u8 5 w.heap.size w3 (.slice va (o ++ Lib.encodeRune (R : Int)).length vc) (nums (o ++ Lib.encodeRune (R : Int))) ∧ Below w.heap.size w w3) := ⟨hr, (H1.out.2.alloc H1.out.2.size _).trans hb1⟩
            clear hr hg hb1
            go_wp2
            go_roundw
            case rel => exact ⟨i + 2, _, _, _, rfl, by go_num, by omega, by have := HI.out; omega, H2.out.1, H2.out.2, by rw [List.length_append, HL.out]; have := HA.out; omega, HEn.out⟩
            case measure => simp [intOf]; omega
          · have v1 : ¬ (R : Int) < 128 := by omega
            by_cases k2 : R < 2048
            · have v2 : (R : Int) < 2048 := by omega
              have s1 : ¬ (55296 : Int) ≤ (R : Int) := by omega
              clear scs hsur
              have HC : Hid (nums (Lib.encodeRune (R : Int)) = [192 + (R : Int) / 64, 128 + (R : Int) % 64]) := by
                show _ = _
                unfold Lib.encodeRune nums
                rw [Lib.encodeRuneZ_two (by omega) (by omega)]
                simp
                omega
              have HL : Hid ((Lib.encodeRune (R : Int)).length = 2) := by
                show _ = _
                have := congrArg List.length HC.out
                rw [nums_len] at this
                exact this
              go_wp2_with (at_builtin; refine wpList_ap rfl (.tmp 79) (.tmp 88) 22 22 rfl .u8 5 1 Tryd.und8 Tryd.info8 (by decide) w.heap.size _ (nums o) rfl (H1.out.1.alloc _) _ [192 + (R : Int) / 64, 128 + (R : Int) % 64] rfl (src_sl Tryd.und8 (new_sl [192 + (R : Int) / 64, 128 + (R : Int) % 64] (0, 0))) (by rw [nums_len]; have := HA.out; simp; omega) (by have := H1.out.2.size; simp; omega) ?_; intro v1 w3 hr hg)
              have hb1 := hg.below (H1.out.1.alloc _) (by have := H1.out.2.size; simp; omega)
              rw [← HC.out, ← nums_app] at hr
              obtain ⟨va, vc, hv1⟩ := hr.ne
              rw [nums_len] at hv1
              subst hv1
              have H2 : Hid (Row .u8 5 w.heap.size w3 (.slice va (o ++ Lib.encodeRune (R : Int)).length vc) (nums (o ++ Lib.encodeRune (R : Int))) ∧ Below w.heap.size w w3) := ⟨hr, (H1.out.2.alloc H1.out.2.size _).trans hb1⟩
              clear hr hg hb1
              go_wp2
              go_roundw
              case rel => exact ⟨i + 2, _, _, _, rfl, by go_num, by omega, by have := HI.out; omega, H2.out.1, H2.out.2, by rw [List.length_append, HL.out]; have := HA.out; omega, HEn.out⟩
              case measure => simp [intOf]; omega
            · have v2 : ¬ (R : Int) < 2048 := by omega
              have HS : Hid (¬ (55296 ≤ R ∧ R ≤ 57343)) := hsur
              clear hsur
              rcases scs with s1 | ⟨s1, s2⟩
              · have HC : Hid (nums (Lib.encodeRune (R : Int)) = [224 + (R : Int) / 4096, 128 + (R : Int) / 64 % 64, 128 + (R : Int) % 64]) := by
                  show _ = _
                  unfold Lib.encodeRune nums
                  rw [Lib.encodeRuneZ_three (by have := HS.out; omega)]
                  simp
                  omega
                have HL : Hid ((Lib.encodeRune (R : Int)).length = 3) := by
                  show _ = _
                  have := congrArg List.length HC.out
                  rw [nums_len] at this
                  exact this
                go_wp2_with (at_builtin; refine wpList_ap rfl (.tmp 45) (.tmp 59) 22 22 rfl .u8 5 1 Tryd.und8 Tryd.info8 (by decide) w.heap.size _ (nums o) rfl (H1.out.1.alloc _) _ [224 + (R : Int) / 4096, 128 + (R : Int) / 64 % 64, 128 + (R : Int) % 64] rfl (src_sl Tryd.und8 (new_sl [224 + (R : Int) / 4096, 128 + (R : Int) / 64 % 64, 128 + (R : Int) % 64] (0, 0))) (by rw [nums_len]; have := HA.out; simp; omega) (by have := H1.out.2.size; simp; omega) ?_; intro v1 w3 hr hg)
                have hb1 := hg.below (H1.out.1.alloc _) (by have := H1.out.2.size; simp; omega)
                rw [← HC.out, ← nums_app] at hr
                obtain ⟨va, vc, hv1⟩ := hr.ne
                rw [nums_len] at hv1
                subst hv1
                have H2 : Hid (Row .u8 5 w.heap.size w3 (.slice va (o ++ Lib.encodeRune (R : Int)).length vc) (nums (o ++ Lib.encodeRune (R : Int))) ∧ Below w.heap.size w w3) := ⟨hr, (H1.out.2.alloc H1.out.2.size _).trans hb1⟩
                clear hr hg hb1
                go_wp2
                go_roundw
                case rel => exact ⟨i + 2, _, _, _, rfl, by go_num, by omega, by have := HI.out; omega, H2.out.1, H2.out.2, by rw [List.length_append, HL.out]; have := HA.out; omega, HEn.out⟩
                case measure => simp [intOf]; omega
              · have HC : Hid (nums (Lib.encodeRune (R : Int)) = [224 + (R : Int) / 4096, 128 + (R : Int) / 64 % 64, 128 + (R : Int) % 64]) := by
                  show _ = _
                  unfold Lib.encodeRune nums
                  rw [Lib.encodeRuneZ_three (by have := HS.out; omega)]
                  simp
                  omega
                have HL : Hid ((Lib.encodeRune (R : Int)).length = 3) := by
                  show _ = _
                  have := congrArg List.length HC.out
                  rw [nums_len] at this
                  exact this
                go_wp2_with (at_builtin; refine wpList_ap rfl (.tmp 45) (.tmp 59) 22 22 rfl .u8 5 1 Tryd.und8 Tryd.info8 (by decide) w.heap.size _ (nums o) rfl (H1.out.1.alloc _) _ [224 + (R : Int) / 4096, 128 + (R : Int) / 64 % 64, 128 + (R : Int) % 64] rfl (src_sl Tryd.und8 (new_sl [224 + (R : Int) / 4096, 128 + (R : Int) / 64 % 64, 128 + (R : Int) % 64] (0, 0))) (by rw [nums_len]; have := HA.out; simp; omega) (by have := H1.out.2.size; simp; omega) ?_; intro v1 w3 hr hg)
                have hb1 := hg.below (H1.out.1.alloc _) (by have := H1.out.2.size; simp; omega)
                rw [← HC.out, ← nums_app] at hr
                obtain ⟨va, vc, hv1⟩ := hr.ne
                rw [nums_len] at hv1
                subst hv1
                have H2 : Hid (Row .u8 5 w.heap.size w3 (.slice va (o ++ Lib.encodeRune (R : Int)).length vc) (nums (o ++ Lib.encodeRune (R : Int))) ∧ Below w.heap.size w w3) := ⟨hr, (H1.out.2.alloc H1.out.2.size _).trans hb1⟩
                clear hr hg hb1
                go_wp2
                go_roundw
                case rel => exact ⟨i + 2, _, _, _, rfl, by go_num, by omega, by have := HI.out; omega, H2.out.1, H2.out.2, by rw [List.length_append, HL.out]; have := HA.out; omega, HEn.out⟩
                case measure => simp [intOf]; omega
      · have hin : i = n := by omega
        subst hin
        have HZ : Hid (textS 30 l = (o, 0)) := by
          show _ = _
          rw [HE.out]; unfold pairT
          rw [HP.out, List.drop_of_length_le (by rw [HN.out]; omega)]
          simp [pairsB]
        obtain ⟨a', c', e, hcv⟩ := sl_str HB.out.1.sl
        cases e
        have z1 : ¬ (i : Int) < (i : Int) := by omega
        clear hlt
        go_wp2
        go_ret2
        refine ⟨?_, HB.out.2⟩
        unfold TextEnd
        rw [HZ.out]; rfl
theorem RText_any {w : World} (tag : Int) (v : Value) (l : List UInt8) (hX : Sl .u8 w v (nums l)) (hl : l.length ≤ 100000) : Calls Tryd.prog 12 #[.int .i64 tag, v] w fun e w' => e = TextEnd tag l ∧ Below w.heap.size w w' := by
  by_cases h : tag = 12 ∨ tag = 18 ∨ tag = 19 ∨ tag = 22 ∨ tag = 26 ∨ tag = 30
  · rcases h with rfl | rfl | rfl | rfl | rfl | rfl
    · exact RText_12 v l hX hl
    · exact RText_18 v l hX hl
    · exact RText_19 v l hX hl
    · exact RText_22 v l hX hl
    · exact RText_26 v l hX hl
    · exact RText_30 v l hX hl
  · exact RText_none tag v l hX h
set_option maxHeartbeats 2000000 in
set_option maxRecDepth 100000 in
theorem TextReads_any {w : World} (tag : Int) (v : Value) (l : List UInt8) (hX : Sl .u8 w v (nums l)) (ll : l.length ≤ 9223372036854775807) (hT : Tab w) :
    Calls Tryd.prog 3 #[.int .i64 tag, v] w fun e w' => e = .returned (.bool true) ∧ Below w.heap.size w w' := by
  have HT : Hid (Tab w) := hT
  have HX : Hid (Sl .u8 w v (nums l)) := hX
  obtain ⟨a, c, rfl, -⟩ := sl_str hX
  obtain ⟨n, hn⟩ : ∃ n, l.length = n := ⟨_, rfl⟩
  have HN : Hid (l.length = n) := hn
  rw [hn] at HX ll ⊢
  have lz : (n : Int) ≤ 9223372036854775807 := by omega
  clear hT hX hn
  by_cases hbig : n ≤ 16384
  · have b1 : ¬ (16384 : Int) < (n : Int) := by omega
    have HRT : Hid (∀ W : World, Below w.heap.size w W → Calls Tryd.prog 12 #[.int .i64 tag, .slice a n c] W fun e w' => e = TextEnd tag l ∧ Below W.heap.size W w') := fun W hW => RText_any tag _ l (below_sl hW HX.out) (by rw [HN.out]; omega)
    have HTT : Hid (∀ (W : World) (u : Value), Below w.heap.size w W → Sl .u8 W u (nums l) → Calls Tryd.prog 11 #[.int .i64 tag, u] W fun e w' => e = TextEnd tag l ∧ Below W.heap.size W w') := fun W u hW hu => Text_any tag u l hu (by rw [HN.out]; omega) (HT.out.below hW).u8
    unfold TextEnd at HRT HTT
    obtain ⟨S, hS⟩ : ∃ S, str (textS tag l).1 = S := ⟨_, rfl⟩
    obtain ⟨E, hE⟩ : ∃ E, (textS tag l).2 = E := ⟨_, rfl⟩
    rw [hS, hE] at HRT HTT
    clear hS hE
    go_enter Tryd.func3, Tryd.ntmps3
    go_wp2_with fail
    refine (Lent8_n (nums l) _ w n (by rw [nums_len]; exact HN.out) HX.out (by omega)).mono ?_
    rintro e w1 ⟨b, T, c', rfl, hLent, hbb, hArr, hTl, hb1⟩
    have H1 : Hid (LentR8 w.heap.size w1 (.slice (some ⟨b, 0, none⟩) n c') (nums l) ∧ Below w.heap.size w w1) := ⟨hLent, hb1⟩
    clear hLent hbb hArr hTl hb1
    go_wp2_with fail
    refine (HTT.out _ _ H1.out.2 H1.out.1.sl).mono ?_
    rintro e w2 ⟨rfl, hb'⟩
    have H2 : Hid (Below w.heap.size w w2 ∧ Below w1.heap.size w1 w2) := ⟨below_via H1.out.2 hb' (Nat.le_refl _), hb'⟩
    clear hb'
    go_wp2_with fail
    refine (HRT.out _ H2.out.1).mono ?_
    rintro e w3 ⟨rfl, hb'⟩
    have H3 : Hid (Below w.heap.size w w3 ∧ Below w1.heap.size w1 w3) := ⟨below_via H2.out.1 hb' (Nat.le_refl _), below_via H2.out.2 hb' (Nat.le_refl _)⟩
    clear hb'
    go_wp2_with (go_at_call 13; refine (num_any _).mono ?_; rintro e w' ⟨rfl, rfl⟩)
    refine (Kept8_any _ _ (nums l) (H1.out.1.below H3.out.2) (below_sl H3.out.1 HX.out) (by rw [nums_len, HN.out]; omega)).mono ?_
    rintro e w4 ⟨rfl, hb'⟩
    have H4 : Hid (Below w.heap.size w w4) := below_via H3.out.1 hb' (Nat.le_refl _)
    clear hb'
    go_wp2_with fail
    refine (live_t (HT.out.below H4.out)).mono ?_
    rintro e w5 ⟨rfl, hb'⟩
    have H5 : Hid (Below w.heap.size w w5) := below_via H4.out hb' (Nat.le_refl _)
    clear hb'
    go_wp2
    go_ret
    exact ⟨rfl, H5.out⟩
  · have b1 : (16384 : Int) < (n : Int) := by omega
    go_enter Tryd.func3, Tryd.ntmps3
    go_wp2_with fail
    refine (live_t HT.out).mono ?_
    rintro e w1 ⟨rfl, hb⟩
    go_wp2
    go_ret
    exact ⟨rfl, hb⟩
end Go.Proofs.YtonekkfpadgdhaaDoor
