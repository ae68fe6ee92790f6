/-
  NatOwn: whatever the two lists, the law answers true, and writes nothing that was there.
-/
import Derived.Test.YthkheocggcmooabOwnL
namespace Go.Proofs.Ythkheocggcmooab
open Go.RowKit

theorem sl_nil (w : World) : Sl .u32 w (.slice none 0 0) [] := ⟨none, 0, rfl, Nat.le_refl _, .inl rfl⟩

set_option maxHeartbeats 4000000 in
theorem own_any (X Y : List Int) (a0 a1 : Option Addr) (c0 c1 : Nat) (w : World) (hX : Sl .u32 w (.slice a0 X.length c0) X) (hY : Sl .u32 w (.slice a1 Y.length c1) Y) (uX : U32s X) (uY : U32s Y) :
    Calls Try.prog 8 #[.slice a0 X.length c0, .slice a1 Y.length c1] w fun e w' => e = .returned (.bool true) ∧ Below w.heap.size w w' := by
  have hBt : Below w.heap.size w w := Below.refl _ _
  by_cases lX : 100 < X.length
  · go_enter Try.func8, Try.ntmps8
    go_wp2_with (first | (go_at_call 9; refine (live_any _).mono ?_; rintro e w' ⟨rfl, hB⟩; replace hBt := grow0 hBt hB))
    go_ret
    exact ⟨rfl, hBt⟩
  by_cases lY : 100 < Y.length
  · go_enter Try.func8, Try.ntmps8
    go_wp2_with (first | (go_at_call 9; refine (live_any _).mono ?_; rintro e w' ⟨rfl, hB⟩; replace hBt := grow0 hBt hB))
    go_ret
    exact ⟨rfl, hBt⟩
  have hX0 := hX; have hY0 := hY
  have nX := val_nonneg uX; have nY := val_nonneg uY
  have bX := val_lt uX; have bY := val_lt uY; have pX := pow_mono (show X.length ≤ 100 by omega); have pY := pow_mono (show Y.length ≤ 100 by omega)
  have u3 : U32s [0, 0, 1] := u3 (by decide) (by decide) (by decide) (by decide) (by decide) (by decide)
  have v3 : val [0, 0, 1] = 18446744073709551616 := by decide
  obtain ⟨N1, hN1⟩ : ∃ N, val X = N := ⟨_, rfl⟩
  obtain ⟨N2, hN2⟩ : ∃ N, val X + val Y = N := ⟨_, rfl⟩
  obtain ⟨N3, hN3⟩ : ∃ N, val X - val [] = N := ⟨_, rfl⟩
  obtain ⟨N4, hN4⟩ : ∃ N, val X * val [1] = N := ⟨_, rfl⟩
  obtain ⟨N5, hN5⟩ : ∃ N, val X / val [0, 0, 1] = N := ⟨_, rfl⟩
  obtain ⟨N6, hN6⟩ : ∃ N, val X % val [0, 0, 1] = N := ⟨_, rfl⟩
  have l1 : (lim N1.toNat).length ≤ 1000 := by have := lim_fits (n := N1) (k := 100) (by omega) (by omega); omega
  have l2 : (lim N2.toNat).length ≤ 1000 := by have := lim_fits (n := N2) (k := 101) (by omega) (by rw [pow_succ32]; omega); omega
  have l3 : (lim N3.toNat).length ≤ 1000 := by have := lim_fits (n := N3) (k := 100) (by rw [← hN3]; simp [val]; omega) (by rw [← hN3]; simp [val]; omega); omega
  have l4 : (lim N4.toNat).length ≤ 1000 := by have := lim_fits (n := N4) (k := 100) (by rw [← hN4]; simp [val]; omega) (by rw [← hN4]; simp [val]; omega); omega
  have l5 : (lim N5.toNat).length ≤ 1000 := by
    have h1 : 0 ≤ N5 := by rw [← hN5]; exact Int.ediv_nonneg nX (by rw [v3]; decide)
    have h2 : N5 ≤ val X := by rw [← hN5]; exact Int.ediv_le_self _ nX
    have := lim_fits (n := N5) (k := 100) h1 (by omega); omega
  have l6 : (lim N6.toNat).length ≤ 1000 := by
    have h1 : 0 ≤ N6 := by rw [← hN6]; exact Int.emod_nonneg _ (by rw [v3]; decide)
    have h2 : N6 < 18446744073709551616 := by rw [← hN6, v3]; exact Int.emod_lt_of_pos _ (by decide)
    have := lim_fits (n := N6) (k := 2) h1 (by omega); omega
  have H1 : Hid (val X = N1) := hN1
  have H2 : Hid (val X + val Y = N2) := hN2
  have H3 : Hid (val X - val [] = N3) := hN3
  have H30 : Hid (0 ≤ N3) := by show 0 ≤ N3; rw [← hN3]; simp [val]; omega
  have H4 : Hid (val X * val [1] = N4) := hN4
  have H5 : Hid (val X / val [0, 0, 1] = N5) := hN5
  have H6 : Hid (val X % val [0, 0, 1] = N6) := hN6
  have H7 : Hid (0 < val [0, 0, 1]) := by show 0 < val [0, 0, 1]; rw [v3]; decide
  clear hN1 hN2 hN3 hN4 hN5 hN6 v3 bX bY pX pY nX nY
  go_enter Try.func8, Try.ntmps8
  go_wp2_with (first
    | (go_at_call 17; refine (DivV _ _ X [0, 0, 1] (al1 hc.sl) (Arr.sl (arr_new rfl rfl)) uX u3 (by omega) (by decide) H7.out N5 N6 H5.out H6.out).mono ?_; rintro e w7 ⟨q, r, rfl, hOq, hOr, hB⟩; replace hOt := (hOt.below (al (Below.refl _ _))).below hB; replace hOs := (hOs.below (al (Below.refl _ _))).below hB; replace hOu := (hOu.below (al (Below.refl _ _))).below hB; replace hOp := (hOp.below (al (Below.refl _ _))).below hB; replace hOq := hOq.mono (al hW).size; obtain ⟨adq, caq, hvq⟩ := hOq.ne; subst hvq; replace hOr := hOr.mono (al hW).size; obtain ⟨adr, car, hvr⟩ := hOr.ne; subst hvr; replace hW := grow0 (al hW) hB; clear hc hd)
    | (go_at_call 12; refine (MulV _ _ X [1] (al1 hc.sl) (Arr.sl (arr_new rfl rfl)) uX (u1 (by decide) (by decide)) (by simp; omega) N4 H4.out).mono ?_; rintro e w6 ⟨p, rfl, hOp, _, hB⟩; replace hc := (hc.below (al (Below.refl _ _))).below hB; replace hd := (hd.below (al (Below.refl _ _))).below hB; replace hOt := (hOt.below (al (Below.refl _ _))).below hB; replace hOs := (hOs.below (al (Below.refl _ _))).below hB; replace hOu := (hOu.below (al (Below.refl _ _))).below hB; replace hOp := hOp.mono (al hW).size; obtain ⟨adp, cap, hvp⟩ := hOp.ne; subst hvp; replace hW := grow0 (al hW) hB)
    | (go_at_call 11; refine (SubV _ _ X [] hc.sl (sl_nil _) uX U32s.nil (by omega) (by decide) N3 H3.out H30.out).mono ?_; rintro e w5 ⟨u, rfl, hOu, hB⟩; replace hc := hc.below hB; replace hd := hd.below hB; replace hOt := hOt.below hB; replace hOs := hOs.below hB; replace hOu := hOu.mono hW.size; obtain ⟨adu, cau, hvu⟩ := hOu.ne; subst hvu; replace hW := grow0 hW hB)
    | (go_at_call 10; refine (AddV _ _ X Y hc.sl hd.sl uX uY (by omega) (by omega) N2 H2.out).mono ?_; rintro e w4 ⟨s, rfl, hOs, hB⟩; replace hc := hc.below hB; replace hd := hd.below hB; replace hOt := hOt.below hB; replace hOs := hOs.mono hW.size; obtain ⟨ads, cas, hvs⟩ := hOs.ne; subst hvs; replace hW := grow0 hW hB)
    | (go_at_call 15; refine (TrimV _ X hc.sl uX (by omega) N1 H1.out).mono ?_; rintro e w3 ⟨t, rfl, hOt, hB⟩; replace hc := hc.below hB; replace hd := hd.below hB; replace hOt := hOt.mono hW.size; obtain ⟨adt, cat, hvt⟩ := hOt.ne; subst hvt; replace hW := grow0 hW hB)
    | (go_at_call 24; replace hc := hc; refine (Lent_any Y _ _ hY (by omega)).mono ?_; rintro e w2 ⟨d, rfl, hd, hB⟩; replace hc := hc.below hB; have hc2 := hc; have hd2 := hd; replace hBt := grow0 hBt hB; have hW := Below.refl w2.heap.size w2; clear hX hY)
    | (go_at_call 24; refine (Lent_any X _ _ hX (by omega)).mono ?_; rintro e w1 ⟨c, rfl, hc, hB⟩; replace hX := below_sl hB hX; replace hY := below_sl hB hY; replace hBt := grow0 hBt hB))
  obtain ⟨Rs, hRs⟩ : ∃ Rs : List Value, Rs = [.slice adt (lim N1.toNat).length cat, .slice ads (lim N2.toNat).length cas, .slice adu (lim N3.toNat).length cau, .slice adp (lim N4.toNat).length cap, .slice adq (lim N5.toNat).length caq, .slice adr (lim N6.toNat).length car] := ⟨_, rfl⟩
  have hR6 : Rs.length = 6 := by rw [hRs]; rfl
  have hI : OwnInv w2.heap.size w7.heap.size w2 Rs (w7.alloc (.cells Rs.toArray 22)) := by
    refine ⟨al hW, (al hW).size, heap_alloc_new w7 _, hW.size, fun v hv => ?_⟩
    have hb : Below w7.heap.size w7 (w7.alloc (.cells Rs.toArray 22)) := al (Below.refl _ _)
    rw [hRs] at hv
    simp only [List.mem_cons, List.not_mem_nil, or_false] at hv
    rcases hv with rfl | rfl | rfl | rfl | rfl | rfl
    · exact (Good.own hOt l1).below hb
    · exact (Good.own hOs l2).below hb
    · exact (Good.own hOu l3).below hb
    · exact (Good.own hOp l4).below hb
    · exact (Good.own hOq l5).below hb
    · exact (Good.own hOr l6).below hb
  have HI : Hid (OwnInv w2.heap.size w7.heap.size w2 Rs (w7.alloc (.cells #[.slice adt (lim N1.toNat).length cat, .slice ads (lim N2.toNat).length cas, .slice adu (lim N3.toNat).length cau, .slice adp (lim N4.toNat).length cap, .slice adq (lim N5.toNat).length caq, .slice adr (lim N6.toNat).length car] 22))) := by
    have e : Rs.toArray = #[.slice adt (lim N1.toNat).length cat, .slice ads (lim N2.toNat).length cas, .slice adu (lim N3.toNat).length cau, .slice adp (lim N4.toNat).length cap, .slice adq (lim N5.toNat).length caq, .slice adr (lim N6.toNat).length car] := by rw [hRs]
    rw [e] at hI; exact hI
  have HB : Hid (Below w.heap.size w w2 ∧ LentR 0 w2 c X ∧ LentR 0 w2 d Y) := ⟨hBt, hc2.mono (Nat.zero_le _), hd2.mono (Nat.zero_le _)⟩
  clear hI hRs hBt hc2 hd2 hOt hOs hOu hOp hOq hOr hW l1 l2 l3 l4 l5 l6 H1 H2 H3 H30 H4 H5 H6 H7
  obtain ⟨L, hL⟩ : ∃ L, w7.heap.size = L := ⟨_, rfl⟩
  obtain ⟨B, hB0⟩ : ∃ B, w2.heap.size = B := ⟨_, rfl⟩
  rw [hL]
  rw [hL, hB0] at HI
  have hu5 : Hid (U32s [5, 6, 7]) := U32s.cons ⟨by decide, by decide⟩ (u2 (by decide) (by decide) (by decide) (by decide))
  go_loopw [18] (fun i wr => ∃ k : Nat, k ≤ 6 ∧ i = .int .i64 k ∧ OwnInv B L w2 Rs wr) (fun i _ => 6 - (intOf i).toNat)
  case atStart => exact ⟨0, by omega, rfl, HI.out⟩
  case round =>
    clear HI
    obtain ⟨k, hk, rfl, hI⟩ := hrel
    by_cases hk6 : k = 6
    · subst hk6
      have hBw : Below w.heap.size w wr := by subst hB0; exact HB.out.1.trans (hI.below.mono HB.out.1.size)
      have hcr : LentR 0 wr c X := by subst hB0; exact HB.out.2.1.below hI.below
      have hdr : LentR 0 wr d Y := by subst hB0; exact HB.out.2.2.below hI.below
      have hXr := below_sl hBw hX0
      have hYr := below_sl hBw hY0
      clear hI HB hX0 hY0 hR6
      go_wp2_with (first
        | (go_at_call 9; refine (live_any _).mono ?_; rintro e w' ⟨rfl, hB⟩; replace hBw := grow0 hBw hB)
        | (go_at_call 25; replace hdone := hdone; refine (Kept_any _ _ Y hdr hYr (by omega)).mono ?_; rintro e w' ⟨rfl, hB⟩; replace hBw := grow0 hBw hB)
        | (go_at_call 25; refine (Kept_any _ _ X hcr hXr (by omega)).mono ?_; rintro e w' ⟨rfl, hB⟩; replace hdr := hdr.below hB; replace hYr := below_sl hB hYr; replace hBw := grow0 hBw hB; have hdone := trivial))
      go_ret
      exact ⟨rfl, hBw⟩
    have hk' : k < 6 := by omega
    obtain ⟨v, hv⟩ : ∃ v, Rs[k]'(by omega) = v := ⟨_, rfl⟩
    have hmem : v ∈ Rs := hv ▸ List.getElem_mem _
    have hcl := hI.cell k (by omega)
    rw [hv] at hcl
    have HV : Hid (∀ w', OwnInv B L w2 Rs w' → w'.cell? ⟨L, k, none⟩ = some v) := fun w' h' => by have := h'.cell k (by omega); rw [hv] at this; exact this
    clear hv hk6
    rcases hI.good v hmem with hnil | ⟨b, n, S0, hv0, _⟩
    · subst hnil
      have HIr : Hid (OwnInv B L w2 Rs wr) := hI
      clear hI
      go_wp2
      go_loopw [19] (fun j wr' => j = .int .i64 0 ∧ wr' = wr) (fun _ _ => 0)
      case atStart => exact ⟨rfl, rfl⟩
      case round =>
        obtain ⟨rfl, rfl⟩ := hrel
        go_wp2_with (first
          | (at_builtin; refine wpList_ap rfl (.tmp 99) (.tmp 100) 22 22 rfl .u32 37 4 Try.und32 Try.info32 (by decide) B _ [] rfl (Row.nil _ _ _ _) _ [5, 6, 7] rfl (src_sl Try.und32 (Arr.sl (S := [5, 6, 7]) (arr_new rfl rfl))) (by decide) (al (Below.refl _ _) |>.size |> Nat.le_trans HIr.out.sz) ?_; intro v2 w5 hr2 hg2; obtain ⟨b2, S2, hv2, hb2, hA2, hl2, ht2, hm2⟩ := hr2.open 3 rfl (by decide); subst hv2; have hc2 := hA2.cell 0 (by omega); have hf2 := hA2.frozen 0; have HG : Hid (Grew .u32 37 _ w5 _ _) := hg2; clear hr2 hg2))
        go_roundw
        case rel => exact ⟨k + 1, by omega, by go_num, (((HIr.out.step (al (Below.refl _ _))).grew (Row.nil _ _ _ _) hu5.out HG.out).set 0 ⟨by decide, by decide⟩ hA2 hb2)⟩
        case measure => simp [intOf]; omega
    · subst hv0
      obtain ⟨cc, hcc⟩ : ∃ cc, S0.length = cc := ⟨_, rfl⟩
      rw [hcc] at hcl hmem HV
      clear hcc
      have HIr : Hid (OwnInv B L w2 Rs wr) := hI
      have hn1000 : n ≤ 1000 := by obtain ⟨S, h⟩ := (hI.good _ hmem).some; exact h.2.2.2.2.2.1
      clear hI
      go_wp2
      go_loopw [19] (fun j wr' => ∃ m : Nat, m ≤ n ∧ j = .int .i64 m ∧ OwnInv B L w2 Rs wr') (fun j _ => n - (intOf j).toNat)
      case atStart => exact ⟨0, by omega, rfl, HIr.out⟩
      case round =>
        clear HIr hcl
        obtain ⟨m, hm, rfl, hI⟩ := hrel
        obtain ⟨S, hS, hBb, hA, uS, hnS, _, hSm⟩ := (hI.good _ hmem).some
        have hcl := HV.out _ hI
        subst hS
        by_cases hmn : m < n
        · obtain ⟨x, hx⟩ : ∃ x, S.getD m 0 = x := ⟨_, rfl⟩
          have hcx := hA.cell m (by omega)
          rw [hx] at hcx
          have hfx := hA.frozen m
          have HH : Hid (OwnInv B L w2 Rs wr ∧ Arr .u32 37 wr b S ∧ B ≤ b) := ⟨hI, hA, hBb⟩
          clear hI hA hx uS
          have hk0 : (0 : Int) ≤ (k : Int) := by omega
          have hk6 : (k : Int) < 6 := by omega
          have hm0 : (0 : Int) ≤ (m : Int) := by omega
          have hmn' : (m : Int) < (n : Int) := by omega
          go_wp2
          go_region
          all_goals go_wp2
          go_roundw
          case rel =>
            obtain ⟨hI, hA, hBb⟩ := HH.out
            exact ⟨m + 1, by omega, by go_num, (hI.drewN _).set m (u32_bits _ _ _) (hA.drewN _) hBb⟩
          case measure => simp [intOf]; omega
        · have hrow := good_row (n := n) hA hBb hnS hSm
          have HH : Hid (OwnInv B L w2 Rs wr ∧ Row .u32 37 B wr (.slice (some ⟨b, 0, none⟩) n S.length) (S.take n)) := ⟨hI, hrow⟩
          have hlen : (S.take n).length = n := by simp; omega
          have HL : Hid ((S.take n).length = n) := hlen
          clear hI hA uS hrow hlen
          go_wp2_with (first
            | (at_builtin; refine wpList_ap rfl (.tmp 99) (.tmp 100) 22 22 rfl .u32 37 4 Try.und32 Try.info32 (by decide) B (.slice (some ⟨b, 0, none⟩) n S.length) (S.take n) (by rfl) (HH.out.2.alloc _) _ [5, 6, 7] rfl (src_sl Try.und32 (Arr.sl (S := [5, 6, 7]) (arr_new rfl rfl))) (by rw [HL.out]; show (n + 3) * 4 ≤ _; omega) (al (Below.refl _ _) |>.size |> Nat.le_trans HH.out.1.sz) ?_; intro v2 w5 hr2 hg2; obtain ⟨b2, S2, hv2, hb2, hA2, hl2, ht2, hm2⟩ := hr2.open (n + 3) (by rw [List.length_append, HL.out]; rfl) (by omega); subst hv2; have hc2 := hA2.cell 0 (by omega); have hf2 := hA2.frozen 0; have HG : Hid (Grew .u32 37 _ w5 _ _) := hg2; clear hr2 hg2))
          go_roundw
          case rel => exact ⟨k + 1, by omega, by go_num, (((HH.out.1.step (al (Below.refl _ _))).grew (HH.out.2.alloc _) hu5.out HG.out).set 0 ⟨by decide, by decide⟩ hA2 hb2)⟩
          case measure => simp [intOf]; omega
end Go.Proofs.Ythkheocggcmooab
