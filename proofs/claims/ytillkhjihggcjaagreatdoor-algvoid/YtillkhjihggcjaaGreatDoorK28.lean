/-
  Alg: the reference's pss.
-/
import Derived.Test.YtillkhjihggcjaaGreatDoorK27
namespace Go.Proofs.YtillkhjihggcjaaGreatDoor
open Go.RowKit
set_option maxRecDepth 20000
set_option maxHeartbeats 16000000 in
theorem Rpss_any {w : World} (r : El) (a1 : Option Addr) (n1 c1 : Nat) (a2 : Option Addr) (n2 c2 : Nat) (hD : Sl .u8 w (.slice a1 n1 c1) r.d) (uD : U8s r.d) (lD : r.d.length ≤ 6000) :
    Calls Tryz.prog 27 #[.agg #[.int .i64 r.cl, .int .i64 r.tg, .bool r.co, .slice a1 n1 c1, .slice a2 n2 c2]] w fun e w' => PsB e (pssO (rowS r)) ∧ Below w.heap.size w w' := by
  have HR : Hid (∀ W, Below w.heap.size w W → Calls Tryz.prog 31 #[.agg #[.int .i64 r.cl, .int .i64 r.tg, .bool r.co, .slice a1 n1 c1, .slice a2 n2 c2]] W fun e w' => RowAnsR W.heap.size w' e (rowS r) ∧ Below W.heap.size W w') := fun W h => Rrow_any r a1 n1 c1 _ (below_sl h hD) uD lD
  obtain ⟨RO, hRO⟩ : ∃ R, rowS r = R := ⟨_, rfl⟩
  have HL : Hid (∀ L, RO = some L → L.length ≤ 65536 ∧ ∀ y ∈ L, y.d.length ≤ 6000 ∧ U8s y.d ∧ 0 ≤ y.tg ∧ y.tg ≤ 268435455) := fun L h => by
    have g1 := rowS_good uD lD (hRO.trans h)
    have g2 := rowS_tag uD (hRO.trans h)
    exact ⟨g2.1, fun y hy' => ⟨(g1 y hy').1, (g1 y hy').2.1, (g1 y hy').2.2, g2.2 y hy'⟩⟩
  rw [hRO] at HR ⊢
  obtain ⟨O, hO⟩ : ∃ O, pssO RO = O := ⟨_, rfl⟩
  rw [hO]
  have HQ : Hid (pssO RO = O) := hO
  obtain ⟨rcl, rtg, rco, rD, rR⟩ := r
  simp only [] at hD HR ⊢
  clear hD uD lD hRO hO
  go_enter Tryz.func27, Tryz.ntmps27
  go_upto_region 2 with (fail)
  refine wp_gen (fun W => Blk 24 W w.heap.size [.int .i64 rcl, .int .i64 rtg, .bool rco, .slice a1 n1 c1, .slice a2 n2 c2] ∧ Blk 32 W (w.heap.size + 1) [.int .i64 0, .int .i64 0, .int .i64 0, .int .i64 0] ∧ Blk 32 W (w.heap.size + 1 + 1) (alC ⟨2, 1, 1, 20⟩) ∧ Below w.heap.size w W ∧ W.heap.size = w.heap.size + 3) ⟨((Blk.new _ w _).alloc _).alloc _, by
    have := Blk.new 32 (w.alloc (.cells #[.int .i64 rcl, .int .i64 rtg, .bool rco, .slice a1 n1 c1, .slice a2 n2 c2] 24)) [.int .i64 0, .int .i64 0, .int .i64 0, .int .i64 0]
    rw [World.size_alloc] at this
    exact this.alloc _, by
    have := Blk.new 32 ((w.alloc (.cells #[.int .i64 rcl, .int .i64 rtg, .bool rco, .slice a1 n1 c1, .slice a2 n2 c2] 24)).alloc (.cells #[.int .i64 0, .int .i64 0, .int .i64 0, .int .i64 0] 32)) (alC ⟨2, 1, 1, 20⟩)
    rw [World.size_alloc, World.size_alloc] at this
    exact this, below_via (below_via (al1 _) (al1 _) (Nat.le_refl _)) (al1 _) (Nat.le_refl _), by simp⟩ ?_
  rintro W1 ⟨hX, hZ, hA, hW1, hs1⟩
  have x0 : W1.cell? ⟨w.heap.size, 0, none⟩ = some (.int .i64 rcl) := hX.cell 0
  have x1 : W1.cell? ⟨w.heap.size, 1, none⟩ = some (.int .i64 rtg) := hX.cell 1
  have x2 : W1.cell? ⟨w.heap.size, 2, none⟩ = some (.bool rco) := hX.cell 2
  have x3 : W1.cell? ⟨w.heap.size, 3, none⟩ = some (.slice a1 n1 c1) := hX.cell 3
  have x4 : W1.cell? ⟨w.heap.size, 4, none⟩ = some (.slice a2 n2 c2) := hX.cell 4
  have H1 : Hid (Below w.heap.size w W1 ∧ Blk 32 W1 (w.heap.size + 1) [.int .i64 0, .int .i64 0, .int .i64 0, .int .i64 0] ∧ Blk 32 W1 (w.heap.size + 1 + 1) (alC ⟨2, 1, 1, 20⟩) ∧ W1.heap.size = w.heap.size + 3) := ⟨hW1, hZ, hA, hs1⟩
  clear hX hZ hA hW1 hs1
  go_wp2_with fail
  refine (HR.out _ H1.out.1).mono ?_
  rintro e w2 ⟨ha, hb2⟩
  have H2 : Hid (∀ l L, TlvR W1.heap.size w2 l L → PS w w2 ⟨2, 1, 1, 20⟩ l L) := fun l L h => ⟨below_via H1.out.1 hb2 (Nat.le_refl _), below_blk hb2 H1.out.2.1.lt H1.out.2.1, below_blk hb2 H1.out.2.2.1.lt H1.out.2.2.1, h.s, fun b o n c hv => by
    obtain ⟨Y, _, ⟨_, h2⟩, _⟩ := h
    rcases h2 with ⟨h2, _⟩ | ⟨b', S, c', h2, hB, _⟩
    · rw [h2] at hv; cases hv
    · rw [h2] at hv
      simp only [Value.slice.injEq, Option.some.injEq, Addr.mk.injEq] at hv
      have := H1.out.2.2.2
      omega⟩
  clear hb2 HR x0 x1 x2 x3 x4
  cases RO with
  | none =>
    obtain ⟨a, n, c, rfl⟩ := ha
    have HO : Hid (O = none) := HQ.out.symm
    have H3 : Hid (PS w w2 ⟨2, 1, 1, 20⟩ (.slice none 0 0) []) := H2.out _ _ (TlvR.nil _ _)
    clear HQ HL H2 H1
    obtain ⟨⟨z0, z1, z2, z3⟩, f0, f1, f2, f3⟩ := PS.cels H3.out
    go_wp2
    have hz := PS.end H3.out 0 0 0 0
    refine bodyPost_ret (results_blk2 rfl rfl hz.1 Tryz.underlying32 rfl Tryz.sizeAl rfl) rfl ⟨?_, hz.2⟩
    rw [HO.out]
    rfl
  | some L =>
    obtain ⟨v, rfl, hv⟩ := ha
    obtain ⟨av, cv, rfl⟩ := hv.s.len
    have HLL := HL.out L rfl
    replace HQ : Hid (pssF L ⟨2, 1, 1, 20⟩ 0 = O) := HQ.out
    obtain ⟨k, hk⟩ : ∃ k, L.length = k := ⟨_, rfl⟩
    rw [hk] at hv ⊢
    have HV : Hid (PS w w2 ⟨2, 1, 1, 20⟩ (.slice av k cv) L ∧ L.length = k ∧ ∀ y ∈ L, y.d.length ≤ 6000 ∧ U8s y.d ∧ 0 ≤ y.tg ∧ y.tg ≤ 268435455) := ⟨H2.out _ _ hv, hk, HLL.2⟩
    have hk6 : k ≤ 65536 := by have := HLL.1; omega
    clear hv HLL hk HL H2 H1
    go_wp2_with fail
    go_loopw [7] (fun iv wr => ∃ (i : Nat) (A' : Al) (least : Int), iv = .int .i64 i ∧ i ≤ k ∧ PS w wr A' (.slice av k cv) L ∧ pssF (L.drop i) A' least = O ∧ (i = 0 → least = 0) ∧ ∀ y, 0 < i → L[i - 1]? = some y → least = y.tg + 1) (fun iv _ => k - (intOf iv).toNat)
    case atStart => exact ⟨0, ⟨2, 1, 1, 20⟩, 0, rfl, Nat.zero_le _, HV.out.1, by simpa using HQ.out, fun _ => rfl, fun _ h => by omega⟩
    case round =>
      obtain ⟨i, A', least, rfl, hi, hps, hF, hl0, hl1⟩ := hrel
      by_cases hlt : i < k
      · obtain ⟨x, hx⟩ : ∃ x, L[i]? = some x := ⟨_, List.getElem?_eq_getElem (by have := HV.out.2.1; omega)⟩
        have hdr : L.drop i = x :: L.drop (i + 1) := by
          obtain ⟨h, hx'⟩ := List.getElem?_eq_some_iff.1 hx
          rw [List.drop_eq_getElem_cons h, hx']
        rw [hdr, pssF_cons] at hF
        have hmem := HV.out.2.2 x (List.mem_of_getElem? hx)
        obtain ⟨b, off, c', x1, p1, q1, x2, p2, q2, hvv, hc, hbl, e0, e1, e2, e3, e4, sd, sr⟩ := hps.2.2.2.1.get hx
        simp only [Value.slice.injEq] at hvv
        obtain ⟨rfl, hx1, rfl⟩ := hvv
        have l1 : (i : Int) < (k : Int) := by omega
        have HX : Hid (L[i]? = some x) := hx
        have HK : Hid (PS w wr A' (.slice (some ⟨b, off, none⟩) k cv) L ∧ b < wr.heap.size ∧ Sl .u8 wr (.slice x1 p1 q1) x.d ∧ x.d.length ≤ 6000 ∧ U8s x.d) := ⟨hps, hbl, sd, hmem.1, hmem.2.1⟩
        have tg0 := hmem.2.2.1
        have tg1 := hmem.2.2.2
        have HF : Hid ((if x.cl = 2 ∧ x.co = true ∧ least ≤ x.tg then nxF (L.drop (i + 1)) (x.tg + 1) (fldS A' x) else none) = O) := hF
        have HY : Hid (0 < i → ∃ j y, j + 1 = i ∧ wr.cell? ⟨b, off + j * 5 + 1, none⟩ = some (.int .i64 y) ∧ least = y + 1) := fun h0 => by
          obtain ⟨y, hy⟩ : ∃ y, L[i - 1]? = some y := ⟨_, List.getElem?_eq_getElem (by have := HV.out.2.1; omega)⟩
          obtain ⟨b', off', c'', _, _, _, _, _, _, hvv', _, _, _, y1, _⟩ := hps.2.2.2.1.get hy
          simp only [Value.slice.injEq, Option.some.injEq, Addr.mk.injEq] at hvv'
          obtain ⟨⟨rfl, rfl, _⟩, _, _⟩ := hvv'
          exact ⟨i - 1, y.tg, by omega, y1, hl1 y h0 hy⟩
        have HL0 : Hid (i = 0 → least = 0) := hl0
        clear hx hdr hF hmem hc hbl hx1 sd sr hps hl0 hl1
        have HE : Hid (∀ W, Below wr.heap.size wr W → W.cell? ⟨b, off + i * 5, none⟩ = some (.int .i64 x.cl) ∧ W.cell? ⟨b, off + i * 5 + 1, none⟩ = some (.int .i64 x.tg) ∧ W.cell? ⟨b, off + i * 5 + 2, none⟩ = some (.bool x.co) ∧ W.cell? ⟨b, off + i * 5 + 3, none⟩ = some (.slice x1 p1 q1) ∧ W.cell? ⟨b, off + i * 5 + 4, none⟩ = some (.slice x2 p2 q2)) := fun W h => ⟨(h.cell HK.out.2.1).trans e0, (h.cell HK.out.2.1).trans e1, (h.cell HK.out.2.1).trans e2, (h.cell HK.out.2.1).trans e3, (h.cell HK.out.2.1).trans e4⟩
        have HS := oneS_good HK.out.2.2.2.2 HK.out.2.2.2.1
        have HP : Hid (∀ W, Below wr.heap.size wr W → Calls Tryz.prog 53 #[.agg #[.int .i64 x.cl, .int .i64 x.tg, .bool x.co, .slice x1 p1 q1, .slice x2 p2 q2]] W fun e w' => OneB w' e (oneS (splitS x.d)) ∧ Below W.heap.size W w') := fun W h => Rone_any x x1 p1 q1 x2 p2 q2 (below_sl h HK.out.2.2.1) HK.out.2.2.2.2 HK.out.2.2.2.1
        obtain ⟨⟨y, er⟩, hye⟩ : ∃ ye, oneS (splitS x.d) = ye := ⟨_, rfl⟩
        have HFL : Hid (fldS A' x = if er = 0 then fldY A' x.tg y else none) := by show _ = _; unfold fldS; rw [hye]
        rw [hye] at HP HS
        simp only [] at HS
        have HSS : Hid (y.d.length ≤ 6000 ∧ U8s y.d) := HS
        obtain ⟨FO, hFO⟩ : ∃ F, fldS A' x = F := ⟨_, rfl⟩
        rw [hFO] at HF HFL
        clear hye hFO HS
        have HB3 : Hid (3 < x.tg → FO = none) := fun h => by
          rw [HFL.out]
          split
          · unfold fldY; rw [if_neg (by omega), if_neg (by omega), if_neg (by omega), if_neg (by omega)]
          · rfl
        have HO3 : Hid (FO = none → O = none) := fun h => by
          rw [← HF.out, h]
          split <;> rfl
        obtain ⟨xcl, xtg, xco, xD, xR⟩ := x
        obtain ⟨ycl, ytg, yco, yD, yR⟩ := y
        simp only [] at e0 e1 e2 e3 e4 HF HP tg0 tg1 HE HFL HB3 HSS
        by_cases c1 : xcl = 2
        · subst c1
          cases xco with
          | false =>
            have HO : Hid (O = none) := by show _ = _; rw [← HF.out]; simp
            clear HF HP HFL HB3 HO3 HY HL0 HE HX HSS
            go_upto_region 8 with (fail)
            go_quiet (fail)
            go_upto_region 9 with (fail)
            refine wp_gen (fun W => Below wr.heap.size wr W) (by first | exact below_drewN _ (Below.refl _ _) | exact Below.drew (Below.refl _ _) | exact Below.refl _ _) ?_
            intro W3 hW3
            have H3 : Hid (PS w W3 A' (.slice (some ⟨b, off, none⟩) k cv) L ∧ Below wr.heap.size wr W3) := ⟨HK.out.1.below hW3, hW3⟩
            clear hW3
            replace H3 : Hid (PS w W3 A' (.slice (some ⟨b, off, none⟩) k cv) L) := H3.out.1
            clear e0 e1 e2 e3 e4
            obtain ⟨⟨z0, z1, z2, z3⟩, f0, f1, f2, f3⟩ := PS.cels H3.out
            go_wp2
            have hz := PS.end H3.out 0 0 0 0
            refine bodyPost_ret (results_blk2 rfl rfl hz.1 Tryz.underlying32 rfl Tryz.sizeAl rfl) rfl ⟨?_, hz.2⟩
            rw [HO.out]
            rfl
          | true =>
            by_cases c3 : 3 < xtg
            · have HO : Hid (O = none) := HO3.out (HB3.out c3)
              clear HF HP HFL HB3 HO3 HY HL0 HE HX HSS
              go_upto_region 8 with (fail)
              go_quiet (fail)
              go_upto_region 9 with (fail)
              refine wp_gen (fun W => Below wr.heap.size wr W) (by first | exact below_drewN _ (Below.refl _ _) | exact Below.drew (Below.refl _ _) | exact Below.refl _ _) ?_
              intro W3 hW3
              have H3 : Hid (PS w W3 A' (.slice (some ⟨b, off, none⟩) k cv) L ∧ Below wr.heap.size wr W3) := ⟨HK.out.1.below hW3, hW3⟩
              clear hW3
              replace H3 : Hid (PS w W3 A' (.slice (some ⟨b, off, none⟩) k cv) L) := H3.out.1
              clear e0 e1 e2 e3 e4
              obtain ⟨⟨z0, z1, z2, z3⟩, f0, f1, f2, f3⟩ := PS.cels H3.out
              go_wp2
              have hz := PS.end H3.out 0 0 0 0
              refine bodyPost_ret (results_blk2 rfl rfl hz.1 Tryz.underlying32 rfl Tryz.sizeAl rfl) rfl ⟨?_, hz.2⟩
              rw [HO.out]
              rfl
            · have d3 : decide ((3 : Int) < xtg) = false := by simp; omega
              by_cases hi0 : i = 0
              · have hl : least = 0 := HL0.out hi0
                have ip : decide (0 < i) = false := by simp; omega
                have HN : Hid (nxF (L.drop (i + 1)) (xtg + 1) FO = O) := by have h := HF.out; rw [if_pos ⟨rfl, rfl, by omega⟩] at h; exact h
                clear HF HY HL0 HB3 HO3 hl hi0
                go_upto_region 8 with (fail)
                go_quiet (fail)
                go_upto_region 10 with (fail)
                refine wp_gen (fun W => Below wr.heap.size wr W) (by first | exact below_drewN _ (Below.refl _ _) | exact Below.drew (Below.refl _ _) | exact Below.refl _ _) ?_
                intro W3 hW3
                have H3 : Hid (PS w W3 A' (.slice (some ⟨b, off, none⟩) k cv) L ∧ Below wr.heap.size wr W3) := ⟨HK.out.1.below hW3, hW3⟩
                clear hW3
                obtain ⟨g0, g1, g2, g3, g4⟩ := HE.out W3 H3.out.2
                clear e0 e1 e2 e3 e4
                go_wp2_with fail
                refine (HP.out _ H3.out.2).mono ?_
                rintro e w4 ⟨⟨b1, m1, d1, b2, m2, d2, rfl, hd, hr⟩, hb4⟩
                have H4 : Hid (PS w w4 A' (.slice (some ⟨b, off, none⟩) k cv) L ∧ Below wr.heap.size wr w4 ∧ Sl .u8 w4 (.slice b1 m1 d1) yD) := ⟨H3.out.1.below hb4, below_via H3.out.2 hb4 (Nat.le_refl _), hd⟩
                clear hd hr hb4 g0 g1 g2 g3 g4 HP H3
                simp only []
                go_upto_region 11 with (fail)
                refine wp_gen (fun W => Blk 24 W w4.heap.size [.int .i64 ycl, .int .i64 ytg, .bool yco, .slice b1 m1 d1, .slice b2 m2 d2] ∧ Below w4.heap.size w4 W) ⟨Blk.new _ w4 _, al1 _⟩ ?_
                rintro W5 ⟨hB, hBw⟩
                have H5 : Hid (PS w W5 A' (.slice (some ⟨b, off, none⟩) k cv) L ∧ Below wr.heap.size wr W5 ∧ Sl .u8 W5 (.slice b1 m1 d1) yD) := ⟨H4.out.1.below hBw, below_via H4.out.2.1 hBw (Nat.le_refl _), below_sl hBw H4.out.2.2⟩
                have HYC : Hid (∀ W, Below W5.heap.size W5 W → W.cell? ⟨w4.heap.size, 0, none⟩ = some (.int .i64 ycl) ∧ W.cell? ⟨w4.heap.size, 1, none⟩ = some (.int .i64 ytg) ∧ W.cell? ⟨w4.heap.size, 2, none⟩ = some (.bool yco) ∧ W.cell? ⟨w4.heap.size, 3, none⟩ = some (.slice b1 m1 d1) ∧ W.cell? ⟨w4.heap.size, 4, none⟩ = some (.slice b2 m2 d2)) := fun W h => by
                  have q := below_blk h hB.lt hB
                  exact ⟨q.cell 0, q.cell 1, q.cell 2, q.cell 3, q.cell 4⟩
                clear hB hBw H4
                by_cases h0 : er = 0
                · subst h0
                  replace HFL : Hid (FO = fldY A' xtg ⟨ycl, ytg, yco, yD, yR⟩) := HFL.out
                  obtain ⟨v0, v1, v2, v3, v4⟩ := HYC.out W5 (Below.refl _ _)
                  have g1 := (HE.out W5 (below_via H5.out.2.1 (Below.refl _ _) (Nat.le_refl _))).2.1
                  obtain ⟨ak', ad', am', as'⟩ := A'
                  by_cases t0 : xtg = 0
                  · subst t0
                    obtain ⟨dg, hdg⟩ : ∃ dg, digS ⟨ycl, ytg, yco, yD, yR⟩ = dg := ⟨_, rfl⟩
                    have HFO : Hid (FO = putD ⟨ak', ad', am', as'⟩ dg) := by show _ = _; rw [HFL.out, ← hdg]; rfl
                    have HC : Hid (Calls Tryz.prog 8 #[.agg #[.int .i64 ycl, .int .i64 ytg, .bool yco, .slice b1 m1 d1, .slice b2 m2 d2]] W5 fun e w' => e = .returned (.tuple #[.int .i64 dg, .int .i64 (errD dg)]) ∧ Below W5.heap.size W5 w') := by
                      rw [← hdg]; exact RDigest_any ⟨ycl, ytg, yco, yD, yR⟩ b1 m1 d1 b2 m2 d2 H5.out.2.2 HSS.out.2 HSS.out.1
                    clear hdg HFL HSS
                    go_wp2_with fail
                    refine HC.out.mono ?_
                    rintro e w6 ⟨rfl, hb6⟩
                    have H6 : Hid (PS w w6 ⟨ak', ad', am', as'⟩ (.slice (some ⟨b, off, none⟩) k cv) L ∧ True) := ⟨H5.out.1.below hb6, trivial⟩
                    clear hb6 v0 v1 v2 v3 v4 g1 HC
                    have k1 : w6.cell? ⟨w.heap.size + 1 + 1, 1, none⟩ = some (.int .i64 ad') := H6.out.1.2.2.1.cell 1
                    have kf := H6.out.1.2.2.1.frozen 1
                    by_cases hdz : dg = 0
                    · subst hdz
                      have HO : Hid (O = none) := by show _ = _; rw [← HN.out, HFO.out]; rfl
                      have hE : errD 0 = 110 := rfl
                      rw [hE]
                      have H7 : Hid (PS w (w6.setCell ⟨w.heap.size + 1 + 1, 1, none⟩ (.int .i64 0)) ⟨ak', 0, am', as'⟩ (.slice (some ⟨b, off, none⟩) k cv) L) := PS.put H6.out.1 1 0 rfl
                      clear HN HFO hE 
                      obtain ⟨⟨z0, z1, z2, z3⟩, f0, f1, f2, f3⟩ := PS.cels H7.out
                      go_wp2
                      have hz := PS.end H7.out 0 0 0 0
                      refine bodyPost_ret (results_blk2 rfl rfl hz.1 Tryz.underlying32 rfl Tryz.sizeAl rfl) rfl ⟨?_, hz.2⟩
                      rw [HO.out]
                      rfl
                    · have hE : errD dg = 0 := by unfold errD; rw [if_neg hdz]
                      rw [hE]
                      replace HN : Hid (pssF (L.drop (i + 1)) ⟨ak', dg, am', as'⟩ (0 + 1) = O) := by have h := HN.out; rw [HFO.out] at h; unfold putD at h; rw [if_neg hdz] at h; exact h
                      have H7 : Hid (PS w (w6.setCell ⟨w.heap.size + 1 + 1, 1, none⟩ (.int .i64 dg)) ⟨ak', dg, am', as'⟩ (.slice (some ⟨b, off, none⟩) k cv) L) := PS.put H6.out.1 1 dg rfl
                      clear HFO hE hdz 
                      go_wp2
                      go_roundw
                      case rel => exact ⟨i + 1, ⟨ak', dg, am', as'⟩, 0 + 1, by go_num, by omega, H7.out, HN.out, by omega, fun y _ hy => by rw [Nat.add_sub_cancel] at hy; have := HX.out.symm.trans hy; cases this; rfl⟩
                      case measure => simp [intOf]; omega
                  by_cases t1 : xtg = 1
                  · subst t1
                    obtain ⟨RO, hRO⟩ : ∃ R, idS ⟨ycl, ytg, yco, yD, yR⟩ = R := ⟨_, rfl⟩
                    have HFO : Hid (FO = putM ⟨ak', ad', am', as'⟩ (mskO RO)) := by show _ = _; rw [HFL.out, ← hRO]; rfl
                    have HC : Hid (Calls Tryz.prog 23 #[.agg #[.int .i64 ycl, .int .i64 ytg, .bool yco, .slice b1 m1 d1, .slice b2 m2 d2]] W5 fun e w' => RdAns w' e RO ∧ Below W5.heap.size W5 w') := by
                      rw [← hRO]; exact Rread_any ⟨ycl, ytg, yco, yD, yR⟩ b1 m1 d1 b2 m2 d2 H5.out.2.2 HSS.out.2 HSS.out.1
                    have HRG : Hid (∀ S rest, RO = some (S, rest) → rest.length ≤ 1 ∧ ∀ y ∈ rest, y.d.length ≤ 6000 ∧ U8s y.d ∧ 0 ≤ y.tg) := fun S rest h => by have := idS_good (x := ⟨ycl, ytg, yco, yD, yR⟩) HSS.out.2 HSS.out.1 (hRO.trans h); exact ⟨this.1, this.2.2⟩
                    clear hRO HFL HSS
                    go_wp2_with fail
                    refine HC.out.mono ?_
                    rintro e w6 ⟨ha, hb6⟩
                    have H6 : Hid (PS w w6 ⟨ak', ad', am', as'⟩ (.slice (some ⟨b, off, none⟩) k cv) L) := H5.out.1.below hb6
                    clear hb6 v0 v1 v2 v3 v4 g1 HC HE HYC H5
                    cases RO with
                    | none =>
                      obtain ⟨s, ra, rn, rc, rfl⟩ := ha
                      have HO : Hid (O = none) := by show _ = _; rw [← HN.out, HFO.out]; rfl
                      clear HN HFO HRG
                      obtain ⟨⟨z0, z1, z2, z3⟩, f0, f1, f2, f3⟩ := PS.cels H6.out
                      go_wp2
                      have hz := PS.end H6.out 0 0 0 0
                      refine bodyPost_ret (results_blk2 rfl rfl hz.1 Tryz.underlying32 rfl Tryz.sizeAl rfl) rfl ⟨?_, hz.2⟩
                      rw [HO.out]
                      rfl
                    | some SR =>
                      obtain ⟨S, rest⟩ := SR
                      obtain ⟨ra, rn, rc, rfl, hrn, hrr⟩ := ha
                      have hl := HRG.out S rest rfl
                      cases hm : (S.toList == [49, 46, 50, 46, 56, 52, 48, 46, 49, 49, 51, 53, 52, 57, 46, 49, 46, 49, 46, 56]) with
                      | false =>
                        have HO : Hid (O = none) := by
                          show _ = _
                          have hz : mskO (some (S, rest)) = 0 := by
                            rcases rest with _ | ⟨y, _ | ⟨z, rest⟩⟩
                            · rfl
                            · simp [mskO, hm]
                            · rfl
                          rw [← HN.out, HFO.out, hz]; rfl
                        clear HN HFO HRG hl hrn hrr
                        obtain ⟨⟨z0, z1, z2, z3⟩, f0, f1, f2, f3⟩ := PS.cels H6.out
                        go_wp2
                        have hz := PS.end H6.out 0 0 0 0
                        refine bodyPost_ret (results_blk2 rfl rfl hz.1 Tryz.underlying32 rfl Tryz.sizeAl rfl) rfl ⟨?_, hz.2⟩
                        rw [HO.out]
                        rfl
                      | true =>
                        rcases rest with _ | ⟨y, _ | ⟨z, rest⟩⟩
                        · obtain rfl : rn = 0 := hrn.symm
                          have HO : Hid (O = none) := by show _ = _; rw [← HN.out, HFO.out]; rfl
                          clear HN HFO HRG hl hrr
                          obtain ⟨⟨z0, z1, z2, z3⟩, f0, f1, f2, f3⟩ := PS.cels H6.out
                          go_wp2
                          have hz := PS.end H6.out 0 0 0 0
                          refine bodyPost_ret (results_blk2 rfl rfl hz.1 Tryz.underlying32 rfl Tryz.sizeAl rfl) rfl ⟨?_, hz.2⟩
                          rw [HO.out]
                          rfl
                        · obtain rfl : rn = 1 := hrn.symm
                          have hy := hl.2 y (by simp)
                          obtain ⟨rb, roff, rc', s1, u1, t1, s2, u2, t2, hvv, hc, hbl, j0, j1, j2, j3, j4, sd, sr, ht⟩ := hrr.cons
                          simp only [Value.slice.injEq] at hvv
                          obtain ⟨rfl, hx1, rfl⟩ := hvv
                          obtain ⟨dg, hdg⟩ : ∃ dg, digS y = dg := ⟨_, rfl⟩
                          replace HFO : Hid (FO = putM ⟨ak', ad', am', as'⟩ dg) := by show _ = _; rw [HFO.out, ← hdg]; simp [mskO, hm]
                          have HC : Hid (Calls Tryz.prog 8 #[.agg #[.int .i64 y.cl, .int .i64 y.tg, .bool y.co, .slice s1 u1 t1, .slice s2 u2 t2]] w6 fun e w' => e = .returned (.tuple #[.int .i64 dg, .int .i64 (errD dg)]) ∧ Below w6.heap.size w6 w') := by
                            rw [← hdg]; exact RDigest_any y s1 u1 t1 s2 u2 t2 sd hy.2.1 hy.1
                          have H6b := H6
                          obtain ⟨qcl, qtg, qco, qD, qR⟩ := y
                          simp only [] at HC j0 j1 j2 j3 j4
                          clear hdg hy hc hbl hx1 sd sr ht hl hrr HRG H6
                          go_wp2_with fail
                          refine HC.out.mono ?_
                          rintro e w7 ⟨rfl, hb7⟩
                          obtain ⟨w6, hw67⟩ : ∃ w6, w6 = w7 := ⟨_, rfl⟩
                          rw [← hw67] at hb7 ⊢
                          have H6 : Hid (PS w w6 ⟨ak', ad', am', as'⟩ (.slice (some ⟨b, off, none⟩) k cv) L ∧ True) := ⟨H6b.out.below hb7, trivial⟩
                          clear hb7 j0 j1 j2 j3 j4 HC H6b hw67
                          have k1 : w6.cell? ⟨w.heap.size + 1 + 1, 2, none⟩ = some (.int .i64 am') := H6.out.1.2.2.1.cell 2
                          have kf := H6.out.1.2.2.1.frozen 2
                          by_cases hdz : dg = 0
                          · subst hdz
                            have HO : Hid (O = none) := by show _ = _; rw [← HN.out, HFO.out]; rfl
                            have hE : errD 0 = 110 := rfl
                            rw [hE]
                            have H7 : Hid (PS w (w6.setCell ⟨w.heap.size + 1 + 1, 2, none⟩ (.int .i64 0)) ⟨ak', ad', 0, as'⟩ (.slice (some ⟨b, off, none⟩) k cv) L) := PS.put H6.out.1 2 0 rfl
                            clear HN HFO hE 
                            obtain ⟨⟨z0, z1, z2, z3⟩, f0, f1, f2, f3⟩ := PS.cels H7.out
                            go_wp2
                            have hz := PS.end H7.out 0 0 0 0
                            refine bodyPost_ret (results_blk2 rfl rfl hz.1 Tryz.underlying32 rfl Tryz.sizeAl rfl) rfl ⟨?_, hz.2⟩
                            rw [HO.out]
                            rfl
                          · have hE : errD dg = 0 := by unfold errD; rw [if_neg hdz]
                            rw [hE]
                            replace HN : Hid (pssF (L.drop (i + 1)) ⟨ak', ad', dg, as'⟩ (1 + 1) = O) := by have h := HN.out; rw [HFO.out] at h; unfold putM at h; rw [if_neg hdz] at h; exact h
                            have H7 : Hid (PS w (w6.setCell ⟨w.heap.size + 1 + 1, 2, none⟩ (.int .i64 dg)) ⟨ak', ad', dg, as'⟩ (.slice (some ⟨b, off, none⟩) k cv) L) := PS.put H6.out.1 2 dg rfl
                            clear HFO hE hdz 
                            go_wp2
                            go_roundw
                            case rel => exact ⟨i + 1, ⟨ak', ad', dg, as'⟩, 1 + 1, by go_num, by omega, H7.out, HN.out, by omega, fun y _ hy => by rw [Nat.add_sub_cancel] at hy; have := HX.out.symm.trans hy; cases this; rfl⟩
                            case measure => simp [intOf]; omega
                        · have := hl.1; simp at this
                  have hIn : Hid (Calls Tryz.prog 54 #[.slice b1 m1 d1] W5 fun e w' => e = .returned (.tuple #[.int .i64 (intV yD), .int .i64 (intE yD)]) ∧ W5 = w') := RInt_any _ yD H5.out.2.2 HSS.out.2 (by have := HSS.out.1; omega)
                  have hIs : Hid (Calls Tryz.prog 32 #[.agg #[.int .i64 ycl, .int .i64 ytg, .bool yco, .slice b1 m1 d1, .slice b2 m2 d2], .int .i64 2] W5 fun e w' => e = .returned (.bool (isP ⟨ycl, ytg, yco, yD, yR⟩ 2)) ∧ Below W5.heap.size W5 w') := RIs_any ⟨ycl, ytg, yco, yD, yR⟩ _ _ 2
                  have HIO : Hid (∀ lo hi, intO ⟨ycl, ytg, yco, yD, yR⟩ lo hi = if isP ⟨ycl, ytg, yco, yD, yR⟩ 2 = true ∧ intE yD = 0 ∧ lo ≤ intV yD ∧ intV yD ≤ hi then some (intV yD) else none) := fun _ _ => rfl
                  obtain ⟨v, hv⟩ : ∃ v, intV yD = v := ⟨_, rfl⟩
                  obtain ⟨er, her⟩ : ∃ er, intE yD = er := ⟨_, rfl⟩
                  obtain ⟨p, hp⟩ : ∃ p, isP ⟨ycl, ytg, yco, yD, yR⟩ 2 = p := ⟨_, rfl⟩
                  rw [hv, her] at hIn
                  rw [hp] at hIs
                  rw [hv, her, hp] at HIO
                  clear hv her hp HSS
                  by_cases t2 : xtg = 2
                  · subst t2
                    have HFO : Hid (FO = putS ⟨ak', ad', am', as'⟩ (intO ⟨ycl, ytg, yco, yD, yR⟩ 0 1000)) := HFL.out
                    have HIN : Hid (intO ⟨ycl, ytg, yco, yD, yR⟩ 0 1000 = none → O = none) := fun h => by rw [← HN.out, HFO.out, h]; rfl
                    clear HFL t0 t1
                    go_wp2_with fail
                    refine hIn.out.mono ?_
                    rintro e w6 ⟨rfl, rfl⟩
                    clear hIn
                    by_cases hez : er = 0
                    · subst hez
                      go_wp2_with fail
                      refine hIs.out.mono ?_
                      rintro e w7 ⟨rfl, hb7⟩
                      have g1' := (HE.out w7 (below_via H5.out.2.1 hb7 (Nat.le_refl _))).2.1
                      have H7 : Hid (PS w w7 ⟨ak', ad', am', as'⟩ (.slice (some ⟨b, off, none⟩) k cv) L) := H5.out.1.below hb7
                      clear hb7 v0 v1 v2 v3 v4 g1 hIs HYC HE H5
                      cases p with
                      | false =>
                        have HO : Hid (O = none) := HIN.out (by rw [HIO.out]; simp)
                        clear HN HFO HIN HIO
                        obtain ⟨⟨z0, z1, z2, z3⟩, f0, f1, f2, f3⟩ := PS.cels H7.out
                        go_wp2
                        have hz := PS.end H7.out 0 0 0 0
                        refine bodyPost_ret (results_blk2 rfl rfl hz.1 Tryz.underlying32 rfl Tryz.sizeAl rfl) rfl ⟨?_, hz.2⟩
                        rw [HO.out]
                        rfl
                      | true =>
                        by_cases q1 : v < 0
                        · have HO : Hid (O = none) := HIN.out (by rw [HIO.out, if_neg]; omega)
                          clear HN HFO HIN HIO
                          obtain ⟨⟨z0, z1, z2, z3⟩, f0, f1, f2, f3⟩ := PS.cels H7.out
                          go_wp2
                          have hz := PS.end H7.out 0 0 0 0
                          refine bodyPost_ret (results_blk2 rfl rfl hz.1 Tryz.underlying32 rfl Tryz.sizeAl rfl) rfl ⟨?_, hz.2⟩
                          rw [HO.out]
                          rfl
                        by_cases q2 : 1000 < v
                        · have HO : Hid (O = none) := HIN.out (by rw [HIO.out, if_neg]; omega)
                          clear HN HFO HIN HIO
                          obtain ⟨⟨z0, z1, z2, z3⟩, f0, f1, f2, f3⟩ := PS.cels H7.out
                          go_wp2
                          have hz := PS.end H7.out 0 0 0 0
                          refine bodyPost_ret (results_blk2 rfl rfl hz.1 Tryz.underlying32 rfl Tryz.sizeAl rfl) rfl ⟨?_, hz.2⟩
                          rw [HO.out]
                          rfl
                        replace HN : Hid (pssF (L.drop (i + 1)) ⟨ak', ad', am', v⟩ (2 + 1) = O) := by have h := HN.out; rw [HFO.out, HIO.out, if_pos ⟨by trivial, by trivial, by omega, by omega⟩] at h; exact h
                        have k1 : w7.cell? ⟨w.heap.size + 1 + 1, 3, none⟩ = some (.int .i64 as') := H7.out.2.2.1.cell 3
                        have kf := H7.out.2.2.1.frozen 3
                        obtain ⟨H6, hH⟩ : ∃ H6 : Hid (PS w w7 ⟨ak', ad', am', as'⟩ (.slice (some ⟨b, off, none⟩) k cv) L ∧ True), True := ⟨⟨H7.out, trivial⟩, trivial⟩
                        clear H7 hH
                        have H7 : Hid (PS w (w7.setCell ⟨w.heap.size + 1 + 1, 3, none⟩ (.int .i64 v)) ⟨ak', ad', am', v⟩ (.slice (some ⟨b, off, none⟩) k cv) L) := PS.put H6.out.1 3 v rfl
                        clear HFO HIN HIO
                        go_wp2
                        go_roundw
                        case rel => exact ⟨i + 1, ⟨ak', ad', am', v⟩, 2 + 1, by go_num, by omega, H7.out, HN.out, by omega, fun y _ hy => by rw [Nat.add_sub_cancel] at hy; have := HX.out.symm.trans hy; cases this; rfl⟩
                        case measure => simp [intOf]; omega
                    · have hez' : (er != 0) = true := by simpa using hez
                      have HO : Hid (O = none) := HIN.out (by rw [HIO.out, if_neg]; simp [hez])
                      have H7 : Hid (PS w W5 ⟨ak', ad', am', as'⟩ (.slice (some ⟨b, off, none⟩) k cv) L) := H5.out.1
                      clear HN HFO HIN HIO hez hIs
                      obtain ⟨⟨z0, z1, z2, z3⟩, f0, f1, f2, f3⟩ := PS.cels H7.out
                      go_wp2
                      have hz := PS.end H7.out 0 0 0 0
                      refine bodyPost_ret (results_blk2 rfl rfl hz.1 Tryz.underlying32 rfl Tryz.sizeAl rfl) rfl ⟨?_, hz.2⟩
                      rw [HO.out]
                      rfl
                  · obtain rfl : xtg = 3 := by omega
                    have HFO : Hid (FO = putN ⟨ak', ad', am', as'⟩ (intO ⟨ycl, ytg, yco, yD, yR⟩ 1 1)) := HFL.out
                    have HIN : Hid (intO ⟨ycl, ytg, yco, yD, yR⟩ 1 1 = none → O = none) := fun h => by rw [← HN.out, HFO.out, h]; rfl
                    clear HFL t0 t1
                    go_wp2_with fail
                    refine hIn.out.mono ?_
                    rintro e w6 ⟨rfl, rfl⟩
                    clear hIn
                    by_cases hez : er = 0
                    · subst hez
                      go_wp2_with fail
                      refine hIs.out.mono ?_
                      rintro e w7 ⟨rfl, hb7⟩
                      have g1' := (HE.out w7 (below_via H5.out.2.1 hb7 (Nat.le_refl _))).2.1
                      have H7 : Hid (PS w w7 ⟨ak', ad', am', as'⟩ (.slice (some ⟨b, off, none⟩) k cv) L) := H5.out.1.below hb7
                      clear hb7 v0 v1 v2 v3 v4 g1 hIs HYC HE H5
                      cases p with
                      | false =>
                        have HO : Hid (O = none) := HIN.out (by rw [HIO.out]; simp)
                        clear HN HFO HIN HIO
                        obtain ⟨⟨z0, z1, z2, z3⟩, f0, f1, f2, f3⟩ := PS.cels H7.out
                        go_wp2
                        have hz := PS.end H7.out 0 0 0 0
                        refine bodyPost_ret (results_blk2 rfl rfl hz.1 Tryz.underlying32 rfl Tryz.sizeAl rfl) rfl ⟨?_, hz.2⟩
                        rw [HO.out]
                        rfl
                      | true =>
                        by_cases q1 : v = 1
                        · subst q1
                          replace HN : Hid (pssF (L.drop (i + 1)) ⟨ak', ad', am', as'⟩ (3 + 1) = O) := by have h := HN.out; rw [HFO.out, HIO.out, if_pos ⟨by trivial, by trivial, by omega, by omega⟩] at h; exact h
                          clear HFO HIN HIO
                          go_wp2
                          go_roundw
                          case rel => exact ⟨i + 1, ⟨ak', ad', am', as'⟩, 3 + 1, by go_num, by omega, H7.out, HN.out, by omega, fun y _ hy => by rw [Nat.add_sub_cancel] at hy; have := HX.out.symm.trans hy; cases this; rfl⟩
                          case measure => simp [intOf]; omega
                        · have q1' : (v != 1) = true := by simpa using q1
                          have HO : Hid (O = none) := HIN.out (by rw [HIO.out, if_neg]; omega)
                          clear HN HFO HIN HIO q1
                          obtain ⟨⟨z0, z1, z2, z3⟩, f0, f1, f2, f3⟩ := PS.cels H7.out
                          go_wp2
                          have hz := PS.end H7.out 0 0 0 0
                          refine bodyPost_ret (results_blk2 rfl rfl hz.1 Tryz.underlying32 rfl Tryz.sizeAl rfl) rfl ⟨?_, hz.2⟩
                          rw [HO.out]
                          rfl
                    · have hez' : (er != 0) = true := by simpa using hez
                      have HO : Hid (O = none) := HIN.out (by rw [HIO.out, if_neg]; simp [hez])
                      have H7 : Hid (PS w W5 ⟨ak', ad', am', as'⟩ (.slice (some ⟨b, off, none⟩) k cv) L) := H5.out.1
                      clear HN HFO HIN HIO hez hIs
                      obtain ⟨⟨z0, z1, z2, z3⟩, f0, f1, f2, f3⟩ := PS.cels H7.out
                      go_wp2
                      have hz := PS.end H7.out 0 0 0 0
                      refine bodyPost_ret (results_blk2 rfl rfl hz.1 Tryz.underlying32 rfl Tryz.sizeAl rfl) rfl ⟨?_, hz.2⟩
                      rw [HO.out]
                      rfl
                · have h00 : (er == 0) = false := by simpa using h0
                  have HO : Hid (O = none) := by show _ = _; rw [← HN.out, HFL.out, if_neg h0]; rfl
                  rw [h00]
                  have H7 : Hid (PS w W5 A' (.slice (some ⟨b, off, none⟩) k cv) L) := H5.out.1
                  clear HN HFL h0 h00
                  obtain ⟨⟨z0, z1, z2, z3⟩, f0, f1, f2, f3⟩ := PS.cels H7.out
                  go_wp2
                  have hz := PS.end H7.out 0 0 0 0
                  refine bodyPost_ret (results_blk2 rfl rfl hz.1 Tryz.underlying32 rfl Tryz.sizeAl rfl) rfl ⟨?_, hz.2⟩
                  rw [HO.out]
                  rfl
              · obtain ⟨j, y', hj, hyc, hly⟩ := HY.out (by omega)
                have ij : (i : Int) - 1 = (j : Int) := by omega
                have wj : IntKind.i64.wrap (j : Int) = (j : Int) := by rw [IntKind.wrap_i64]; omega
                have wij : IntKind.i64.wrap ((i : Int) - 1) = (j : Int) := by rw [ij]; exact wj
                have ip : decide (0 < i) = true := by simp; omega
                have jk : (j : Int) < (k : Int) := by omega
                have j0' : (0 : Int) ≤ (j : Int) := by omega
                by_cases hle : xtg ≤ y'
                · have HO : Hid (O = none) := by show _ = _; rw [← HF.out, if_neg]; simp; omega
                  have dle : decide (xtg ≤ y') = true := by simpa using hle
                  clear HF HP HFL HB3 HO3 HY HL0 HE HX HSS
                  go_upto_region 8 with (fail)
                  go_quiet (fail)
                  go_upto_region 9 with (fail)
                  refine wp_gen (fun W => Below wr.heap.size wr W) (by first | exact below_drewN _ (Below.refl _ _) | exact Below.drew (Below.refl _ _) | exact Below.refl _ _) ?_
                  intro W3 hW3
                  have H3 : Hid (PS w W3 A' (.slice (some ⟨b, off, none⟩) k cv) L ∧ Below wr.heap.size wr W3) := ⟨HK.out.1.below hW3, hW3⟩
                  clear hW3
                  replace H3 : Hid (PS w W3 A' (.slice (some ⟨b, off, none⟩) k cv) L) := H3.out.1
                  clear e0 e1 e2 e3 e4
                  obtain ⟨⟨z0, z1, z2, z3⟩, f0, f1, f2, f3⟩ := PS.cels H3.out
                  go_wp2
                  have hz := PS.end H3.out 0 0 0 0
                  refine bodyPost_ret (results_blk2 rfl rfl hz.1 Tryz.underlying32 rfl Tryz.sizeAl rfl) rfl ⟨?_, hz.2⟩
                  rw [HO.out]
                  rfl
                · have HN : Hid (nxF (L.drop (i + 1)) (xtg + 1) FO = O) := by have h := HF.out; rw [if_pos ⟨rfl, rfl, by omega⟩] at h; exact h
                  have dle : decide (xtg ≤ y') = false := by simpa using hle
                  clear HF HY HL0 HB3 HO3
                  go_upto_region 8 with (fail)
                  go_quiet (fail)
                  go_upto_region 10 with (fail)
                  refine wp_gen (fun W => Below wr.heap.size wr W) (by first | exact below_drewN _ (Below.refl _ _) | exact Below.drew (Below.refl _ _) | exact Below.refl _ _) ?_
                  intro W3 hW3
                  have H3 : Hid (PS w W3 A' (.slice (some ⟨b, off, none⟩) k cv) L ∧ Below wr.heap.size wr W3) := ⟨HK.out.1.below hW3, hW3⟩
                  clear hW3
                  obtain ⟨g0, g1, g2, g3, g4⟩ := HE.out W3 H3.out.2
                  clear e0 e1 e2 e3 e4
                  go_wp2_with fail
                  refine (HP.out _ H3.out.2).mono ?_
                  rintro e w4 ⟨⟨b1, m1, d1, b2, m2, d2, rfl, hd, hr⟩, hb4⟩
                  have H4 : Hid (PS w w4 A' (.slice (some ⟨b, off, none⟩) k cv) L ∧ Below wr.heap.size wr w4 ∧ Sl .u8 w4 (.slice b1 m1 d1) yD) := ⟨H3.out.1.below hb4, below_via H3.out.2 hb4 (Nat.le_refl _), hd⟩
                  clear hd hr hb4 g0 g1 g2 g3 g4 HP H3
                  simp only []
                  go_upto_region 11 with (fail)
                  refine wp_gen (fun W => Blk 24 W w4.heap.size [.int .i64 ycl, .int .i64 ytg, .bool yco, .slice b1 m1 d1, .slice b2 m2 d2] ∧ Below w4.heap.size w4 W) ⟨Blk.new _ w4 _, al1 _⟩ ?_
                  rintro W5 ⟨hB, hBw⟩
                  have H5 : Hid (PS w W5 A' (.slice (some ⟨b, off, none⟩) k cv) L ∧ Below wr.heap.size wr W5 ∧ Sl .u8 W5 (.slice b1 m1 d1) yD) := ⟨H4.out.1.below hBw, below_via H4.out.2.1 hBw (Nat.le_refl _), below_sl hBw H4.out.2.2⟩
                  have HYC : Hid (∀ W, Below W5.heap.size W5 W → W.cell? ⟨w4.heap.size, 0, none⟩ = some (.int .i64 ycl) ∧ W.cell? ⟨w4.heap.size, 1, none⟩ = some (.int .i64 ytg) ∧ W.cell? ⟨w4.heap.size, 2, none⟩ = some (.bool yco) ∧ W.cell? ⟨w4.heap.size, 3, none⟩ = some (.slice b1 m1 d1) ∧ W.cell? ⟨w4.heap.size, 4, none⟩ = some (.slice b2 m2 d2)) := fun W h => by
                    have q := below_blk h hB.lt hB
                    exact ⟨q.cell 0, q.cell 1, q.cell 2, q.cell 3, q.cell 4⟩
                  clear hB hBw H4
                  by_cases h0 : er = 0
                  · subst h0
                    replace HFL : Hid (FO = fldY A' xtg ⟨ycl, ytg, yco, yD, yR⟩) := HFL.out
                    obtain ⟨v0, v1, v2, v3, v4⟩ := HYC.out W5 (Below.refl _ _)
                    have g1 := (HE.out W5 (below_via H5.out.2.1 (Below.refl _ _) (Nat.le_refl _))).2.1
                    obtain ⟨ak', ad', am', as'⟩ := A'
                    by_cases t0 : xtg = 0
                    · subst t0
                      obtain ⟨dg, hdg⟩ : ∃ dg, digS ⟨ycl, ytg, yco, yD, yR⟩ = dg := ⟨_, rfl⟩
                      have HFO : Hid (FO = putD ⟨ak', ad', am', as'⟩ dg) := by show _ = _; rw [HFL.out, ← hdg]; rfl
                      have HC : Hid (Calls Tryz.prog 8 #[.agg #[.int .i64 ycl, .int .i64 ytg, .bool yco, .slice b1 m1 d1, .slice b2 m2 d2]] W5 fun e w' => e = .returned (.tuple #[.int .i64 dg, .int .i64 (errD dg)]) ∧ Below W5.heap.size W5 w') := by
                        rw [← hdg]; exact RDigest_any ⟨ycl, ytg, yco, yD, yR⟩ b1 m1 d1 b2 m2 d2 H5.out.2.2 HSS.out.2 HSS.out.1
                      clear hdg HFL HSS
                      go_wp2_with fail
                      refine HC.out.mono ?_
                      rintro e w6 ⟨rfl, hb6⟩
                      have H6 : Hid (PS w w6 ⟨ak', ad', am', as'⟩ (.slice (some ⟨b, off, none⟩) k cv) L ∧ True) := ⟨H5.out.1.below hb6, trivial⟩
                      clear hb6 v0 v1 v2 v3 v4 g1 HC
                      have k1 : w6.cell? ⟨w.heap.size + 1 + 1, 1, none⟩ = some (.int .i64 ad') := H6.out.1.2.2.1.cell 1
                      have kf := H6.out.1.2.2.1.frozen 1
                      by_cases hdz : dg = 0
                      · subst hdz
                        have HO : Hid (O = none) := by show _ = _; rw [← HN.out, HFO.out]; rfl
                        have hE : errD 0 = 110 := rfl
                        rw [hE]
                        have H7 : Hid (PS w (w6.setCell ⟨w.heap.size + 1 + 1, 1, none⟩ (.int .i64 0)) ⟨ak', 0, am', as'⟩ (.slice (some ⟨b, off, none⟩) k cv) L) := PS.put H6.out.1 1 0 rfl
                        clear HN HFO hE 
                        obtain ⟨⟨z0, z1, z2, z3⟩, f0, f1, f2, f3⟩ := PS.cels H7.out
                        go_wp2
                        have hz := PS.end H7.out 0 0 0 0
                        refine bodyPost_ret (results_blk2 rfl rfl hz.1 Tryz.underlying32 rfl Tryz.sizeAl rfl) rfl ⟨?_, hz.2⟩
                        rw [HO.out]
                        rfl
                      · have hE : errD dg = 0 := by unfold errD; rw [if_neg hdz]
                        rw [hE]
                        replace HN : Hid (pssF (L.drop (i + 1)) ⟨ak', dg, am', as'⟩ (0 + 1) = O) := by have h := HN.out; rw [HFO.out] at h; unfold putD at h; rw [if_neg hdz] at h; exact h
                        have H7 : Hid (PS w (w6.setCell ⟨w.heap.size + 1 + 1, 1, none⟩ (.int .i64 dg)) ⟨ak', dg, am', as'⟩ (.slice (some ⟨b, off, none⟩) k cv) L) := PS.put H6.out.1 1 dg rfl
                        clear HFO hE hdz 
                        go_wp2
                        go_roundw
                        case rel => exact ⟨i + 1, ⟨ak', dg, am', as'⟩, 0 + 1, by go_num, by omega, H7.out, HN.out, by omega, fun y _ hy => by rw [Nat.add_sub_cancel] at hy; have := HX.out.symm.trans hy; cases this; rfl⟩
                        case measure => simp [intOf]; omega
                    by_cases t1 : xtg = 1
                    · subst t1
                      obtain ⟨RO, hRO⟩ : ∃ R, idS ⟨ycl, ytg, yco, yD, yR⟩ = R := ⟨_, rfl⟩
                      have HFO : Hid (FO = putM ⟨ak', ad', am', as'⟩ (mskO RO)) := by show _ = _; rw [HFL.out, ← hRO]; rfl
                      have HC : Hid (Calls Tryz.prog 23 #[.agg #[.int .i64 ycl, .int .i64 ytg, .bool yco, .slice b1 m1 d1, .slice b2 m2 d2]] W5 fun e w' => RdAns w' e RO ∧ Below W5.heap.size W5 w') := by
                        rw [← hRO]; exact Rread_any ⟨ycl, ytg, yco, yD, yR⟩ b1 m1 d1 b2 m2 d2 H5.out.2.2 HSS.out.2 HSS.out.1
                      have HRG : Hid (∀ S rest, RO = some (S, rest) → rest.length ≤ 1 ∧ ∀ y ∈ rest, y.d.length ≤ 6000 ∧ U8s y.d ∧ 0 ≤ y.tg) := fun S rest h => by have := idS_good (x := ⟨ycl, ytg, yco, yD, yR⟩) HSS.out.2 HSS.out.1 (hRO.trans h); exact ⟨this.1, this.2.2⟩
                      clear hRO HFL HSS
                      go_wp2_with fail
                      refine HC.out.mono ?_
                      rintro e w6 ⟨ha, hb6⟩
                      have H6 : Hid (PS w w6 ⟨ak', ad', am', as'⟩ (.slice (some ⟨b, off, none⟩) k cv) L) := H5.out.1.below hb6
                      clear hb6 v0 v1 v2 v3 v4 g1 HC HE HYC H5
                      cases RO with
                      | none =>
                        obtain ⟨s, ra, rn, rc, rfl⟩ := ha
                        have HO : Hid (O = none) := by show _ = _; rw [← HN.out, HFO.out]; rfl
                        clear HN HFO HRG
                        obtain ⟨⟨z0, z1, z2, z3⟩, f0, f1, f2, f3⟩ := PS.cels H6.out
                        go_wp2
                        have hz := PS.end H6.out 0 0 0 0
                        refine bodyPost_ret (results_blk2 rfl rfl hz.1 Tryz.underlying32 rfl Tryz.sizeAl rfl) rfl ⟨?_, hz.2⟩
                        rw [HO.out]
                        rfl
                      | some SR =>
                        obtain ⟨S, rest⟩ := SR
                        obtain ⟨ra, rn, rc, rfl, hrn, hrr⟩ := ha
                        have hl := HRG.out S rest rfl
                        cases hm : (S.toList == [49, 46, 50, 46, 56, 52, 48, 46, 49, 49, 51, 53, 52, 57, 46, 49, 46, 49, 46, 56]) with
                        | false =>
                          have HO : Hid (O = none) := by
                            show _ = _
                            have hz : mskO (some (S, rest)) = 0 := by
                              rcases rest with _ | ⟨y, _ | ⟨z, rest⟩⟩
                              · rfl
                              · simp [mskO, hm]
                              · rfl
                            rw [← HN.out, HFO.out, hz]; rfl
                          clear HN HFO HRG hl hrn hrr
                          obtain ⟨⟨z0, z1, z2, z3⟩, f0, f1, f2, f3⟩ := PS.cels H6.out
                          go_wp2
                          have hz := PS.end H6.out 0 0 0 0
                          refine bodyPost_ret (results_blk2 rfl rfl hz.1 Tryz.underlying32 rfl Tryz.sizeAl rfl) rfl ⟨?_, hz.2⟩
                          rw [HO.out]
                          rfl
                        | true =>
                          rcases rest with _ | ⟨y, _ | ⟨z, rest⟩⟩
                          · obtain rfl : rn = 0 := hrn.symm
                            have HO : Hid (O = none) := by show _ = _; rw [← HN.out, HFO.out]; rfl
                            clear HN HFO HRG hl hrr
                            obtain ⟨⟨z0, z1, z2, z3⟩, f0, f1, f2, f3⟩ := PS.cels H6.out
                            go_wp2
                            have hz := PS.end H6.out 0 0 0 0
                            refine bodyPost_ret (results_blk2 rfl rfl hz.1 Tryz.underlying32 rfl Tryz.sizeAl rfl) rfl ⟨?_, hz.2⟩
                            rw [HO.out]
                            rfl
                          · obtain rfl : rn = 1 := hrn.symm
                            have hy := hl.2 y (by simp)
                            obtain ⟨rb, roff, rc', s1, u1, t1, s2, u2, t2, hvv, hc, hbl, j0, j1, j2, j3, j4, sd, sr, ht⟩ := hrr.cons
                            simp only [Value.slice.injEq] at hvv
                            obtain ⟨rfl, hx1, rfl⟩ := hvv
                            obtain ⟨dg, hdg⟩ : ∃ dg, digS y = dg := ⟨_, rfl⟩
                            replace HFO : Hid (FO = putM ⟨ak', ad', am', as'⟩ dg) := by show _ = _; rw [HFO.out, ← hdg]; simp [mskO, hm]
                            have HC : Hid (Calls Tryz.prog 8 #[.agg #[.int .i64 y.cl, .int .i64 y.tg, .bool y.co, .slice s1 u1 t1, .slice s2 u2 t2]] w6 fun e w' => e = .returned (.tuple #[.int .i64 dg, .int .i64 (errD dg)]) ∧ Below w6.heap.size w6 w') := by
                              rw [← hdg]; exact RDigest_any y s1 u1 t1 s2 u2 t2 sd hy.2.1 hy.1
                            have H6b := H6
                            obtain ⟨qcl, qtg, qco, qD, qR⟩ := y
                            simp only [] at HC j0 j1 j2 j3 j4
                            clear hdg hy hc hbl hx1 sd sr ht hl hrr HRG H6
                            go_wp2_with fail
                            refine HC.out.mono ?_
                            rintro e w7 ⟨rfl, hb7⟩
                            obtain ⟨w6, hw67⟩ : ∃ w6, w6 = w7 := ⟨_, rfl⟩
                            rw [← hw67] at hb7 ⊢
                            have H6 : Hid (PS w w6 ⟨ak', ad', am', as'⟩ (.slice (some ⟨b, off, none⟩) k cv) L ∧ True) := ⟨H6b.out.below hb7, trivial⟩
                            clear hb7 j0 j1 j2 j3 j4 HC H6b hw67
                            have k1 : w6.cell? ⟨w.heap.size + 1 + 1, 2, none⟩ = some (.int .i64 am') := H6.out.1.2.2.1.cell 2
                            have kf := H6.out.1.2.2.1.frozen 2
                            by_cases hdz : dg = 0
                            · subst hdz
                              have HO : Hid (O = none) := by show _ = _; rw [← HN.out, HFO.out]; rfl
                              have hE : errD 0 = 110 := rfl
                              rw [hE]
                              have H7 : Hid (PS w (w6.setCell ⟨w.heap.size + 1 + 1, 2, none⟩ (.int .i64 0)) ⟨ak', ad', 0, as'⟩ (.slice (some ⟨b, off, none⟩) k cv) L) := PS.put H6.out.1 2 0 rfl
                              clear HN HFO hE 
                              obtain ⟨⟨z0, z1, z2, z3⟩, f0, f1, f2, f3⟩ := PS.cels H7.out
                              go_wp2
                              have hz := PS.end H7.out 0 0 0 0
                              refine bodyPost_ret (results_blk2 rfl rfl hz.1 Tryz.underlying32 rfl Tryz.sizeAl rfl) rfl ⟨?_, hz.2⟩
                              rw [HO.out]
                              rfl
                            · have hE : errD dg = 0 := by unfold errD; rw [if_neg hdz]
                              rw [hE]
                              replace HN : Hid (pssF (L.drop (i + 1)) ⟨ak', ad', dg, as'⟩ (1 + 1) = O) := by have h := HN.out; rw [HFO.out] at h; unfold putM at h; rw [if_neg hdz] at h; exact h
                              have H7 : Hid (PS w (w6.setCell ⟨w.heap.size + 1 + 1, 2, none⟩ (.int .i64 dg)) ⟨ak', ad', dg, as'⟩ (.slice (some ⟨b, off, none⟩) k cv) L) := PS.put H6.out.1 2 dg rfl
                              clear HFO hE hdz 
                              go_wp2
                              go_roundw
                              case rel => exact ⟨i + 1, ⟨ak', ad', dg, as'⟩, 1 + 1, by go_num, by omega, H7.out, HN.out, by omega, fun y _ hy => by rw [Nat.add_sub_cancel] at hy; have := HX.out.symm.trans hy; cases this; rfl⟩
                              case measure => simp [intOf]; omega
                          · have := hl.1; simp at this
                    have hIn : Hid (Calls Tryz.prog 54 #[.slice b1 m1 d1] W5 fun e w' => e = .returned (.tuple #[.int .i64 (intV yD), .int .i64 (intE yD)]) ∧ W5 = w') := RInt_any _ yD H5.out.2.2 HSS.out.2 (by have := HSS.out.1; omega)
                    have hIs : Hid (Calls Tryz.prog 32 #[.agg #[.int .i64 ycl, .int .i64 ytg, .bool yco, .slice b1 m1 d1, .slice b2 m2 d2], .int .i64 2] W5 fun e w' => e = .returned (.bool (isP ⟨ycl, ytg, yco, yD, yR⟩ 2)) ∧ Below W5.heap.size W5 w') := RIs_any ⟨ycl, ytg, yco, yD, yR⟩ _ _ 2
                    have HIO : Hid (∀ lo hi, intO ⟨ycl, ytg, yco, yD, yR⟩ lo hi = if isP ⟨ycl, ytg, yco, yD, yR⟩ 2 = true ∧ intE yD = 0 ∧ lo ≤ intV yD ∧ intV yD ≤ hi then some (intV yD) else none) := fun _ _ => rfl
                    obtain ⟨v, hv⟩ : ∃ v, intV yD = v := ⟨_, rfl⟩
                    obtain ⟨er, her⟩ : ∃ er, intE yD = er := ⟨_, rfl⟩
                    obtain ⟨p, hp⟩ : ∃ p, isP ⟨ycl, ytg, yco, yD, yR⟩ 2 = p := ⟨_, rfl⟩
                    rw [hv, her] at hIn
                    rw [hp] at hIs
                    rw [hv, her, hp] at HIO
                    clear hv her hp HSS
                    by_cases t2 : xtg = 2
                    · subst t2
                      have HFO : Hid (FO = putS ⟨ak', ad', am', as'⟩ (intO ⟨ycl, ytg, yco, yD, yR⟩ 0 1000)) := HFL.out
                      have HIN : Hid (intO ⟨ycl, ytg, yco, yD, yR⟩ 0 1000 = none → O = none) := fun h => by rw [← HN.out, HFO.out, h]; rfl
                      clear HFL t0 t1
                      go_wp2_with fail
                      refine hIn.out.mono ?_
                      rintro e w6 ⟨rfl, rfl⟩
                      clear hIn
                      by_cases hez : er = 0
                      · subst hez
                        go_wp2_with fail
                        refine hIs.out.mono ?_
                        rintro e w7 ⟨rfl, hb7⟩
                        have g1' := (HE.out w7 (below_via H5.out.2.1 hb7 (Nat.le_refl _))).2.1
                        have H7 : Hid (PS w w7 ⟨ak', ad', am', as'⟩ (.slice (some ⟨b, off, none⟩) k cv) L) := H5.out.1.below hb7
                        clear hb7 v0 v1 v2 v3 v4 g1 hIs HYC HE H5
                        cases p with
                        | false =>
                          have HO : Hid (O = none) := HIN.out (by rw [HIO.out]; simp)
                          clear HN HFO HIN HIO
                          obtain ⟨⟨z0, z1, z2, z3⟩, f0, f1, f2, f3⟩ := PS.cels H7.out
                          go_wp2
                          have hz := PS.end H7.out 0 0 0 0
                          refine bodyPost_ret (results_blk2 rfl rfl hz.1 Tryz.underlying32 rfl Tryz.sizeAl rfl) rfl ⟨?_, hz.2⟩
                          rw [HO.out]
                          rfl
                        | true =>
                          by_cases q1 : v < 0
                          · have HO : Hid (O = none) := HIN.out (by rw [HIO.out, if_neg]; omega)
                            clear HN HFO HIN HIO
                            obtain ⟨⟨z0, z1, z2, z3⟩, f0, f1, f2, f3⟩ := PS.cels H7.out
                            go_wp2
                            have hz := PS.end H7.out 0 0 0 0
                            refine bodyPost_ret (results_blk2 rfl rfl hz.1 Tryz.underlying32 rfl Tryz.sizeAl rfl) rfl ⟨?_, hz.2⟩
                            rw [HO.out]
                            rfl
                          by_cases q2 : 1000 < v
                          · have HO : Hid (O = none) := HIN.out (by rw [HIO.out, if_neg]; omega)
                            clear HN HFO HIN HIO
                            obtain ⟨⟨z0, z1, z2, z3⟩, f0, f1, f2, f3⟩ := PS.cels H7.out
                            go_wp2
                            have hz := PS.end H7.out 0 0 0 0
                            refine bodyPost_ret (results_blk2 rfl rfl hz.1 Tryz.underlying32 rfl Tryz.sizeAl rfl) rfl ⟨?_, hz.2⟩
                            rw [HO.out]
                            rfl
                          replace HN : Hid (pssF (L.drop (i + 1)) ⟨ak', ad', am', v⟩ (2 + 1) = O) := by have h := HN.out; rw [HFO.out, HIO.out, if_pos ⟨by trivial, by trivial, by omega, by omega⟩] at h; exact h
                          have k1 : w7.cell? ⟨w.heap.size + 1 + 1, 3, none⟩ = some (.int .i64 as') := H7.out.2.2.1.cell 3
                          have kf := H7.out.2.2.1.frozen 3
                          obtain ⟨H6, hH⟩ : ∃ H6 : Hid (PS w w7 ⟨ak', ad', am', as'⟩ (.slice (some ⟨b, off, none⟩) k cv) L ∧ True), True := ⟨⟨H7.out, trivial⟩, trivial⟩
                          clear H7 hH
                          have H7 : Hid (PS w (w7.setCell ⟨w.heap.size + 1 + 1, 3, none⟩ (.int .i64 v)) ⟨ak', ad', am', v⟩ (.slice (some ⟨b, off, none⟩) k cv) L) := PS.put H6.out.1 3 v rfl
                          clear HFO HIN HIO
                          go_wp2
                          go_roundw
                          case rel => exact ⟨i + 1, ⟨ak', ad', am', v⟩, 2 + 1, by go_num, by omega, H7.out, HN.out, by omega, fun y _ hy => by rw [Nat.add_sub_cancel] at hy; have := HX.out.symm.trans hy; cases this; rfl⟩
                          case measure => simp [intOf]; omega
                      · have hez' : (er != 0) = true := by simpa using hez
                        have HO : Hid (O = none) := HIN.out (by rw [HIO.out, if_neg]; simp [hez])
                        have H7 : Hid (PS w W5 ⟨ak', ad', am', as'⟩ (.slice (some ⟨b, off, none⟩) k cv) L) := H5.out.1
                        clear HN HFO HIN HIO hez hIs
                        obtain ⟨⟨z0, z1, z2, z3⟩, f0, f1, f2, f3⟩ := PS.cels H7.out
                        go_wp2
                        have hz := PS.end H7.out 0 0 0 0
                        refine bodyPost_ret (results_blk2 rfl rfl hz.1 Tryz.underlying32 rfl Tryz.sizeAl rfl) rfl ⟨?_, hz.2⟩
                        rw [HO.out]
                        rfl
                    · obtain rfl : xtg = 3 := by omega
                      have HFO : Hid (FO = putN ⟨ak', ad', am', as'⟩ (intO ⟨ycl, ytg, yco, yD, yR⟩ 1 1)) := HFL.out
                      have HIN : Hid (intO ⟨ycl, ytg, yco, yD, yR⟩ 1 1 = none → O = none) := fun h => by rw [← HN.out, HFO.out, h]; rfl
                      clear HFL t0 t1
                      go_wp2_with fail
                      refine hIn.out.mono ?_
                      rintro e w6 ⟨rfl, rfl⟩
                      clear hIn
                      by_cases hez : er = 0
                      · subst hez
                        go_wp2_with fail
                        refine hIs.out.mono ?_
                        rintro e w7 ⟨rfl, hb7⟩
                        have g1' := (HE.out w7 (below_via H5.out.2.1 hb7 (Nat.le_refl _))).2.1
                        have H7 : Hid (PS w w7 ⟨ak', ad', am', as'⟩ (.slice (some ⟨b, off, none⟩) k cv) L) := H5.out.1.below hb7
                        clear hb7 v0 v1 v2 v3 v4 g1 hIs HYC HE H5
                        cases p with
                        | false =>
                          have HO : Hid (O = none) := HIN.out (by rw [HIO.out]; simp)
                          clear HN HFO HIN HIO
                          obtain ⟨⟨z0, z1, z2, z3⟩, f0, f1, f2, f3⟩ := PS.cels H7.out
                          go_wp2
                          have hz := PS.end H7.out 0 0 0 0
                          refine bodyPost_ret (results_blk2 rfl rfl hz.1 Tryz.underlying32 rfl Tryz.sizeAl rfl) rfl ⟨?_, hz.2⟩
                          rw [HO.out]
                          rfl
                        | true =>
                          by_cases q1 : v = 1
                          · subst q1
                            replace HN : Hid (pssF (L.drop (i + 1)) ⟨ak', ad', am', as'⟩ (3 + 1) = O) := by have h := HN.out; rw [HFO.out, HIO.out, if_pos ⟨by trivial, by trivial, by omega, by omega⟩] at h; exact h
                            clear HFO HIN HIO
                            go_wp2
                            go_roundw
                            case rel => exact ⟨i + 1, ⟨ak', ad', am', as'⟩, 3 + 1, by go_num, by omega, H7.out, HN.out, by omega, fun y _ hy => by rw [Nat.add_sub_cancel] at hy; have := HX.out.symm.trans hy; cases this; rfl⟩
                            case measure => simp [intOf]; omega
                          · have q1' : (v != 1) = true := by simpa using q1
                            have HO : Hid (O = none) := HIN.out (by rw [HIO.out, if_neg]; omega)
                            clear HN HFO HIN HIO q1
                            obtain ⟨⟨z0, z1, z2, z3⟩, f0, f1, f2, f3⟩ := PS.cels H7.out
                            go_wp2
                            have hz := PS.end H7.out 0 0 0 0
                            refine bodyPost_ret (results_blk2 rfl rfl hz.1 Tryz.underlying32 rfl Tryz.sizeAl rfl) rfl ⟨?_, hz.2⟩
                            rw [HO.out]
                            rfl
                      · have hez' : (er != 0) = true := by simpa using hez
                        have HO : Hid (O = none) := HIN.out (by rw [HIO.out, if_neg]; simp [hez])
                        have H7 : Hid (PS w W5 ⟨ak', ad', am', as'⟩ (.slice (some ⟨b, off, none⟩) k cv) L) := H5.out.1
                        clear HN HFO HIN HIO hez hIs
                        obtain ⟨⟨z0, z1, z2, z3⟩, f0, f1, f2, f3⟩ := PS.cels H7.out
                        go_wp2
                        have hz := PS.end H7.out 0 0 0 0
                        refine bodyPost_ret (results_blk2 rfl rfl hz.1 Tryz.underlying32 rfl Tryz.sizeAl rfl) rfl ⟨?_, hz.2⟩
                        rw [HO.out]
                        rfl
                  · have h00 : (er == 0) = false := by simpa using h0
                    have HO : Hid (O = none) := by show _ = _; rw [← HN.out, HFL.out, if_neg h0]; rfl
                    rw [h00]
                    have H7 : Hid (PS w W5 A' (.slice (some ⟨b, off, none⟩) k cv) L) := H5.out.1
                    clear HN HFL h0 h00
                    obtain ⟨⟨z0, z1, z2, z3⟩, f0, f1, f2, f3⟩ := PS.cels H7.out
                    go_wp2
                    have hz := PS.end H7.out 0 0 0 0
                    refine bodyPost_ret (results_blk2 rfl rfl hz.1 Tryz.underlying32 rfl Tryz.sizeAl rfl) rfl ⟨?_, hz.2⟩
                    rw [HO.out]
                    rfl
        · have c1' : (xcl != 2) = true := by simpa using c1
          have HO : Hid (O = none) := by show _ = _; rw [← HF.out]; simp [c1]
          clear HF HP HFL HB3 HO3 HY HL0 HE HX HSS c1
          go_upto_region 8 with (fail)
          go_quiet (fail)
          go_upto_region 9 with (fail)
          refine wp_gen (fun W => Below wr.heap.size wr W) (by first | exact below_drewN _ (Below.refl _ _) | exact Below.drew (Below.refl _ _) | exact Below.refl _ _) ?_
          intro W3 hW3
          have H3 : Hid (PS w W3 A' (.slice (some ⟨b, off, none⟩) k cv) L ∧ Below wr.heap.size wr W3) := ⟨HK.out.1.below hW3, hW3⟩
          clear hW3
          replace H3 : Hid (PS w W3 A' (.slice (some ⟨b, off, none⟩) k cv) L) := H3.out.1
          clear e0 e1 e2 e3 e4
          obtain ⟨⟨z0, z1, z2, z3⟩, f0, f1, f2, f3⟩ := PS.cels H3.out
          go_wp2
          have hz := PS.end H3.out 0 0 0 0
          refine bodyPost_ret (results_blk2 rfl rfl hz.1 Tryz.underlying32 rfl Tryz.sizeAl rfl) rfl ⟨?_, hz.2⟩
          rw [HO.out]
          rfl
      · obtain rfl : i = k := by omega
        have HOn : Hid (some A' = O) := by
          have h0 : L.drop i = [] := List.drop_eq_nil_of_le (by have := HV.out.2.1; omega)
          rw [h0] at hF
          exact hF
        have l1 : ¬ (i : Int) < (i : Int) := by omega
        have H4 : Hid (PS w wr A' (.slice av i cv) L) := hps
        obtain ⟨ak', ad', am', as'⟩ := A'
        have y0 : wr.cell? ⟨w.heap.size + 1 + 1, 0, none⟩ = some (.int .i64 ak') := hps.2.2.1.cell 0
        have y1 : wr.cell? ⟨w.heap.size + 1 + 1, 1, none⟩ = some (.int .i64 ad') := hps.2.2.1.cell 1
        have y2 : wr.cell? ⟨w.heap.size + 1 + 1, 2, none⟩ = some (.int .i64 am') := hps.2.2.1.cell 2
        have y3 : wr.cell? ⟨w.heap.size + 1 + 1, 3, none⟩ = some (.int .i64 as') := hps.2.2.1.cell 3
        obtain ⟨⟨z0, z1, z2, z3⟩, f0, f1, f2, f3⟩ := PS.cels H4.out
        clear hF hps hi hlt hl0 hl1
        go_wp2
        have hz := PS.end H4.out ak' ad' am' as'
        refine bodyPost_ret (results_blk2 rfl rfl hz.1 Tryz.underlying32 rfl Tryz.sizeAl rfl) rfl ⟨?_, hz.2⟩
        rw [← HOn.out]
        rfl
end Go.Proofs.YtillkhjihggcjaaGreatDoor
