/-
  Alg: readKey.
-/
import Derived.Test.YtillkhjihggcjaaGreatDoorK43
namespace Go.Proofs.YtillkhjihggcjaaGreatDoor
open Go.RowKit
set_option maxRecDepth 20000
theorem KeyAns.uni {an ak : Addr} {w : World} {e : Ending} {r : Ky × Int} (h : KeyAns an ak w e r) : ∃ a1 n1 c1 a2 n2 c2 a3 n3 c3 a4 n4 c4 f, e = .returned (.tuple #[.agg #[.int .i64 r.1.cv, .slice a1 n1 c1, .slice a2 n2 c2, .slice a3 n3 c3, .slice a4 n4 c4], f]) ∧ KyV w r.1 (.slice a1 n1 c1) (.slice a2 n2 c2) (.slice a3 n3 c3) (.slice a4 n4 c4) ∧ FlK an ak r.2 f := by
  obtain ⟨v1, v2, v3, v4, f, rfl, hk, hf⟩ := h
  have hk' := hk
  obtain ⟨⟨a1, c1, rfl, _⟩, ⟨a2, c2, rfl, _⟩, ⟨a3, c3, h3, _⟩, ⟨a4, c4, h4, _⟩⟩ := hk'
  subst h3 h4
  exact ⟨_, _, _, _, _, _, _, _, _, _, _, _, f, rfl, hk, hf⟩
theorem byt_of {x : El} {B : List Int} (h : bytO x = some B) : B = x.d.drop 1 := by
  unfold bytO at h
  split at h
  · exact (Option.some.inj h).symm
  · cases h
set_option maxHeartbeats 8000000 in
theorem readKey_any {w : World} {an ak : Addr} (hG : Glb w an ak) (hT : P10 w) (x : El) (a1 : Option Addr) (n1 c1 : Nat) (a2 : Option Addr) (n2 c2 : Nat) (hD : Sl .u8 w (.slice a1 n1 c1) x.d) (uD : U8s x.d) (lD : x.d.length ≤ 6000) :
    Calls Tryz.prog 30 #[.agg #[.int .i64 x.cl, .int .i64 x.tg, .bool x.co, .slice a1 n1 c1, .slice a2 n2 c2]] w fun e w' => KeyAns an ak w' e (keyK x) ∧ Below w.heap.size w w' := by
  have HR : Hid (∀ W, Below w.heap.size w W → Calls Tryz.prog 55 #[.agg #[.int .i64 x.cl, .int .i64 x.tg, .bool x.co, .slice a1 n1 c1, .slice a2 n2 c2]] W fun e w' => RowAns W.heap.size w' e (rowS x) ∧ Below W.heap.size W w') := fun W h => row_any x a1 n1 c1 _ (below_sl h hD) uD lD
  have HG : Hid (Glb w an ak ∧ P10 w) := ⟨hG, hT⟩
  have HN : Hid (∀ W s, Below w.heap.size w W → Calls Tryz.prog 49 #[.string s] W fun e w' => e = .returned (flV an s) ∧ W = w') := fun W s h => none_any (hG.below h) s
  have hsn := sneq
  obtain ⟨O, hO⟩ : ∃ O, keyK x = O := ⟨_, rfl⟩
  rw [hO]
  obtain ⟨RO, hRO⟩ : ∃ R, rowS x = R := ⟨_, rfl⟩
  have HQ : Hid (O = keyR RO) := by show _ = _; rw [← hO, ← hRO]; rfl
  have HL : Hid (∀ L, RO = some L → ∀ z ∈ L, z.d.length ≤ 6000 ∧ U8s z.d ∧ 0 ≤ z.tg) := fun L h => rowS_good uD lD (hRO.trans h)
  rw [hRO] at HR
  obtain ⟨cl, tg, co, D, R⟩ := x
  simp only [] at hD HR ⊢
  clear hD uD lD hG hT hO hRO
  go_enter Tryz.func30, Tryz.ntmps30
  go_upto_region 1 with (fail)
  refine wp_gen (fun W => Blk 24 W w.heap.size [.int .i64 cl, .int .i64 tg, .bool co, .slice a1 n1 c1, .slice a2 n2 c2] ∧ Blk 46 W (w.heap.size + 1) keyZ ∧ Below w.heap.size w W) ⟨(Blk.new _ w _).alloc _, (two_blk _ _ _ _ rfl).1, (two_blk 46 _ _ keyZ rfl).2⟩ ?_
  rintro W1 ⟨hX, hZ, hW1⟩
  have x0 : W1.cell? ⟨w.heap.size, 0, none⟩ = some (.int .i64 cl) := hX.cell 0
  have x1 : W1.cell? ⟨w.heap.size, 1, none⟩ = some (.int .i64 tg) := hX.cell 1
  have x2 : W1.cell? ⟨w.heap.size, 2, none⟩ = some (.bool co) := hX.cell 2
  have x3 : W1.cell? ⟨w.heap.size, 3, none⟩ = some (.slice a1 n1 c1) := hX.cell 3
  have x4 : W1.cell? ⟨w.heap.size, 4, none⟩ = some (.slice a2 n2 c2) := hX.cell 4
  have H1 : Hid (Below w.heap.size w W1 ∧ Blk 46 W1 (w.heap.size + 1) keyZ) := ⟨hW1, hZ⟩
  clear hX hZ hW1
  go_wp2_with fail
  refine (HR.out _ H1.out.1).mono ?_
  rintro e w2 ⟨ha, hb⟩
  have H2 : Hid (Below w.heap.size w w2 ∧ Blk 46 w2 (w.heap.size + 1) keyZ) := ⟨below_via H1.out.1 hb (Nat.le_refl _), below_blk hb H1.out.2.lt H1.out.2⟩
  clear hb HR x0 x1 x2 x3 x4 H1
  cases RO with
  | none =>
    obtain ⟨ra, rn, rc, rfl⟩ := ha
    have HO : Hid (O = (ky0, 110)) := HQ.out
    obtain ⟨⟨z0, z1, z2, z3, z4⟩, f0, f1, f2, f3, f4⟩ := key_celG H2.out.2
    clear HQ HL HG
    go_wp2_with (go_at_call 49; refine (HN.out _ _ H2.out.1).mono ?_; rintro e w9 ⟨rfl, rfl⟩)
    have hz := key_putG H2.out.2 H2.out.1 (Nat.le_succ _) ky0 (.slice none 0 0) (.slice none 0 0) (.slice none 0 0) (.slice none 0 0) (KyV.zero _)
    refine bodyPost_ret (results_blk2 rfl rfl hz.1 Tryz.underlying46 rfl Tryz.sizeKey rfl) rfl ⟨?_, hz.2.2⟩
    rw [HO.out]
    exact ⟨_, _, _, _, _, rfl, hz.2.1, .inr (.inr ⟨rfl, _, rfl⟩)⟩
  | some L =>
    obtain ⟨v, rfl, hv⟩ := ha
    by_cases hl2 : L.length = 2
    · obtain ⟨y, z, rfl⟩ : ∃ a b, L = [a, b] := by
        rcases L with _ | ⟨a, _ | ⟨b, _ | ⟨c, L⟩⟩⟩
        · simp at hl2
        · simp at hl2
        · exact ⟨a, b, rfl⟩
        · simp at hl2
      have g0 := HL.out _ rfl y (by simp)
      have g1 := HL.out _ rfl z (by simp)
      obtain ⟨b, off, c, p1, q1, r1, p2, q2, r2, rfl, hc, hbl, e0, e1, e2, e3, e4, sd, sr, ht⟩ := hv.r.s.cons
      obtain ⟨b', off', c', p3, q3, r3, p4, q4, r4, hvv, hc', hbl', k0, k1, k2, k3, k4, sd', sr', ht'⟩ := ht.cons
      simp only [Value.slice.injEq, Option.some.injEq, Addr.mk.injEq] at hvv
      obtain ⟨⟨rfl, rfl, _⟩, _, rfl⟩ := hvv
      have HI : Hid (Calls Tryz.prog 46 #[.agg #[.int .i64 y.cl, .int .i64 y.tg, .bool y.co, .slice p1 q1 r1, .slice p2 q2 r2]] w2 fun e w' => IdAns an w' e (idS y) ∧ Below w2.heap.size w2 w') := readId_any (HG.out.1.below H2.out.1) (HG.out.2.below H2.out.1) y p1 q1 r1 p2 q2 r2 sd g0.2.1 g0.1
      have H4 : Hid (∀ W, Below w2.heap.size w2 W → (W.cell? ⟨b, off + 5, none⟩ = some (.int .i64 z.cl) ∧ W.cell? ⟨b, off + 5 + 1, none⟩ = some (.int .i64 z.tg) ∧ W.cell? ⟨b, off + 5 + 2, none⟩ = some (.bool z.co) ∧ W.cell? ⟨b, off + 5 + 3, none⟩ = some (.slice p3 q3 r3) ∧ W.cell? ⟨b, off + 5 + 4, none⟩ = some (.slice p4 q4 r4)) ∧ Calls Tryz.prog 56 #[.agg #[.int .i64 z.cl, .int .i64 z.tg, .bool z.co, .slice p3 q3 r3, .slice p4 q4 r4]] W fun e w' => BytAns w' e (bytO z) ∧ Below W.heap.size W w') := fun W h => ⟨⟨(h.cell hbl).trans k0, (h.cell hbl).trans k1, (h.cell hbl).trans k2, (h.cell hbl).trans k3, (h.cell hbl).trans k4⟩, readBytes_any z p3 q3 r3 p4 q4 r4 (below_sl h sd') g1.2.1 g1.1⟩
      replace HQ : Hid (O = keyI (idS y) (bytO z)) := HQ.out
      obtain ⟨IO, hIO⟩ : ∃ R, idS y = R := ⟨_, rfl⟩
      obtain ⟨BO, hBO⟩ : ∃ R, bytO z = R := ⟨_, rfl⟩
      have HJ : Hid (∀ S rest, IO = some (S, rest) → rest.length ≤ 1 ∧ S.size ≤ 130000 ∧ ∀ y ∈ rest, y.d.length ≤ 6000 ∧ U8s y.d ∧ 0 ≤ y.tg) := fun S rest h => idS_good g0.2.1 g0.1 (hIO.trans h)
      have HB : Hid (∀ B, BO = some B → B.length ≤ 6000 ∧ U8s B) := fun B h => by
        have := byt_of (hBO.trans h)
        rw [this]
        exact ⟨by rw [List.length_drop]; have := g1.1; omega, g1.2.1.drop 1⟩
      rw [hIO] at HI HQ
      rw [hBO] at H4 HQ
      have kc : ((2 : Nat) : Int) ≤ (c : Int) := by simp at hc; omega
      obtain ⟨ycl, ytg, yco, yD, yR⟩ := y
      obtain ⟨zcl, ztg, zco, zD, zR⟩ := z
      simp only [List.length_cons, List.length_nil] at HI H4 e0 e1 e2 e3 e4 ⊢
      clear hv hc hbl sd sr ht hc' hbl' k0 k1 k2 k3 k4 sd' sr' ht' HL g0 g1 hl2 hIO hBO
      go_wp2_with fail
      refine HI.out.mono ?_
      rintro e w3 ⟨hi, hb3⟩
      have H3 : Hid (Below w2.heap.size w2 w3 ∧ Below w.heap.size w w3 ∧ Blk 46 w3 (w.heap.size + 1) keyZ) := ⟨hb3, below_via H2.out.1 hb3 (Nat.le_refl _), below_blk hb3 H2.out.2.lt H2.out.2⟩
      clear hb3 e0 e1 e2 e3 e4 HI
      cases IO with
      | none =>
        obtain ⟨s, rfl⟩ := hi
        have HO : Hid (O = (ky0, 110)) := HQ.out
        clear HQ HJ HB HG H4
        simp only [flV, erV]
        go_upto_region 5 with (fail)
        refine wp_gen (fun W => Below w3.heap.size w3 W) (al1 _) ?_
        intro W4 hB4
        have H5 : Hid (Below w.heap.size w W4 ∧ Blk 46 W4 (w.heap.size + 1) keyZ) := ⟨below_via H3.out.2.1 hB4 (Nat.le_refl _), below_blk hB4 H3.out.2.2.lt H3.out.2.2⟩
        obtain ⟨⟨z0, z1, z2, z3, z4⟩, f0, f1, f2, f3, f4⟩ := key_celG H5.out.2
        clear hB4
        go_wp2
        have hz := key_putG H5.out.2 H5.out.1 (Nat.le_succ _) ky0 (.slice none 0 0) (.slice none 0 0) (.slice none 0 0) (.slice none 0 0) (KyV.zero _)
        refine bodyPost_ret (results_blk2 rfl rfl hz.1 Tryz.underlying46 rfl Tryz.sizeKey rfl) rfl ⟨?_, hz.2.2⟩
        rw [HO.out]
        exact ⟨_, _, _, _, _, rfl, hz.2.1, .inr (.inr ⟨rfl, _, rfl⟩)⟩
      | some SR =>
        obtain ⟨S, rest⟩ := SR
        obtain ⟨ia, m, ic, rfl, hn, hr⟩ := hi
        have hl := HJ.out S rest rfl
        rw [hn] at hl
        have hS := hl.2.1
        have HK : Hid (rest.length = m ∧ m ≤ 1 ∧ TlvS w3 (.slice ia m ic) rest ∧ ∀ y ∈ rest, y.d.length ≤ 6000 ∧ U8s y.d ∧ 0 ≤ y.tg) := ⟨hn, hl.1, hr, hl.2.2⟩
        clear HJ hn hl hr
        go_upto_region 5 with (fail)
        refine wp_gen (fun W => Blk 101 W w3.heap.size [.string S, .slice ia m ic] ∧ Below w3.heap.size w3 W) ⟨Blk.new _ w3 _, al1 _⟩ ?_
        rintro W4 ⟨hB4, hBw⟩
        have H5 : Hid (Below w3.heap.size w3 W4 ∧ Blk 101 W4 w3.heap.size [.string S, .slice ia m ic]) := ⟨hBw, hB4⟩
        obtain ⟨⟨k0, k1, k2, k3, k4⟩, hcall⟩ := H4.out W4 (below_via H3.out.1 hBw (Nat.le_refl _))
        have HC1 : Hid (Calls Tryz.prog 56 #[.agg #[.int .i64 zcl, .int .i64 ztg, .bool zco, .slice p3 q3 r3, .slice p4 q4 r4]] W4 fun e w' => BytAns w' e BO ∧ Below W4.heap.size W4 w') := hcall
        clear hcall H4 hB4 hBw
        go_wp2_with fail
        refine HC1.out.mono ?_
        rintro e w5 ⟨hby, hb5⟩
        have H6 : Hid (Below w3.heap.size w3 w5 ∧ Below w.heap.size w w5 ∧ Blk 46 w5 (w.heap.size + 1) keyZ ∧ Blk 101 w5 w3.heap.size [.string S, .slice ia m ic]) := by
          have h35 := below_via H5.out.1 hb5 (Nat.le_refl _)
          exact ⟨h35, below_via H3.out.2.1 h35 (Nat.le_refl _), below_blk h35 H3.out.2.2.lt H3.out.2.2, below_blk hb5 H5.out.2.lt H5.out.2⟩
        clear hb5 k0 k1 k2 k3 k4 HC1 H5
        cases BO with
        | none =>
          obtain ⟨ba, bn, bc, rfl⟩ := hby
          have HO : Hid (O = (ky0, 110)) := HQ.out
          obtain ⟨⟨z0, z1, z2, z3, z4⟩, f0, f1, f2, f3, f4⟩ := key_celG H6.out.2.2.1
          clear HQ HB HG HK H3
          go_wp2_with (go_at_call 49; refine (HN.out _ _ H6.out.2.1).mono ?_; rintro e w9 ⟨rfl, rfl⟩)
          have hz := key_putG H6.out.2.2.1 H6.out.2.1 (Nat.le_succ _) ky0 (.slice none 0 0) (.slice none 0 0) (.slice none 0 0) (.slice none 0 0) (KyV.zero _)
          refine bodyPost_ret (results_blk2 rfl rfl hz.1 Tryz.underlying46 rfl Tryz.sizeKey rfl) rfl ⟨?_, hz.2.2⟩
          rw [HO.out]
          exact ⟨_, _, _, _, _, rfl, hz.2.1, .inr (.inr ⟨rfl, _, rfl⟩)⟩
        | some B =>
          obtain ⟨ba, bn, bc, rfl, hsB⟩ := hby
          have hgB := HB.out B rfl
          have al : Hid (∀ W, Below w5.heap.size w5 W → (Below w3.heap.size w3 W ∧ Below w.heap.size w W ∧ Blk 46 W (w.heap.size + 1) keyZ) ∧ (W.cell? ⟨w3.heap.size, 0, none⟩ = some (.string S) ∧ W.cell? ⟨w3.heap.size, 1, none⟩ = some (.slice ia m ic)) ∧ Sl .u8 W (.slice ba bn bc) B) := fun W h => by
            have q1 := below_blk h H6.out.2.2.2.lt H6.out.2.2.2
            exact ⟨⟨below_via H6.out.1 h (Nat.le_refl _), below_via H6.out.2.1 h (Nat.le_refl _), below_blk h H6.out.2.2.1.lt H6.out.2.2.1⟩, ⟨q1.cell 0, q1.cell 1⟩, below_sl h hsB⟩
          have HV : Hid (∀ W, Below w3.heap.size w3 W → Calls Tryz.prog 48 #[.agg #[.string S, .slice ia m ic]] W fun e w' => e = .returned (.bool (vdP rest)) ∧ Below W.heap.size W w') := fun W h => isVoid_any S ia m ic rest HK.out.1 HK.out.2.1 (HK.out.2.2.1.below h)
          have HA : Hid (∀ W, Calls Tryz.prog 47 #[.agg #[.string S, .slice ia m ic]] W fun e w' => e = .returned (.bool ((m : Int) == 0)) ∧ Below W.heap.size W w') := fun W => isAlone_any S ia m ic
          have HCr : Hid (∀ W, Below w3.heap.size w3 W → Below w.heap.size w W → Calls Tryz.prog 58 #[.slice ia m ic] W fun e w' => e = .returned (.int .i64 (crvO rest)) ∧ Below W.heap.size W w') := fun W h hw => curveNamed_any (HG.out.2.below hw) ia m ic rest HK.out.1 HK.out.2.1 (HK.out.2.2.1.below h) HK.out.2.2.2
          have HRs : Hid (∀ W, Below w.heap.size w W → Sl .u8 W (.slice ba bn bc) B → Calls Tryz.prog 57 #[.slice ba bn bc] W fun e w' => KeyAns an ak w' e (rsaK B) ∧ Below W.heap.size W w') := fun W hw hs => readRsa_any (HG.out.1.below hw) ba bn bc B hs hgB.2 hgB.1
          have HPt : Hid (∀ W c, Below w.heap.size w W → Sl .u8 W (.slice ba bn bc) B → Calls Tryz.prog 59 #[.int .i64 c, .slice ba bn bc] W fun e w' => KeyAns an ak w' e (ptK c B) ∧ Below W.heap.size W w') := fun W c hw hs => readPoint_any (HG.out.1.below hw) c ba bn bc B hs hgB.2
          have HVB : Hid (vdB rest = ((((m : Nat) : Int) == 0) || vdP rest)) := by
            have h1 := HK.out.1
            have h2 := vdB_is (rest := rest) (by have := HK.out.2.1; omega)
            rw [h1] at h2
            exact h2
          replace HQ : Hid (O = keyB S rest B) := HQ.out
          obtain ⟨⟨hw3, hww, hzz⟩, ⟨i0, i1⟩, _⟩ := al.out w5 (Below.refl _ _)
          have H7 : Hid (Below w3.heap.size w3 w5 ∧ Below w.heap.size w w5 ∧ Blk 46 w5 (w.heap.size + 1) keyZ ∧ Sl .u8 w5 (.slice ba bn bc) B) := ⟨hw3, hww, hzz, hsB⟩
          obtain ⟨vp, hvp⟩ : ∃ v, vdP rest = v := ⟨_, rfl⟩
          obtain ⟨q, hq⟩ : ∃ q, (((m : Nat) : Int) == 0) = q := ⟨_, rfl⟩
          rw [hvp] at HV HVB
          rw [hq] at HA HVB
          clear hw3 hww hzz HB HK HG H3 H6 hgB hsB hvp hq
          cases g1 : (S.toList == [49, 46, 50, 46, 56, 52, 48, 46, 49, 49, 51, 53, 52, 57, 46, 49, 46, 49, 46, 49]) with
          | true =>
            replace HQ : Hid (O = if vdB rest = true then rsaK B else (ky0, 110)) := by show _ = _; rw [HQ.out]; unfold keyB; rw [if_pos g1]
            clear HCr HPt
            go_wp2_with fail
            refine (HA.out _).mono ?_
            rintro e w6 ⟨rfl, hb6⟩
            obtain ⟨⟨hw3, hww, hzz⟩, ⟨j0, j1⟩, hsB⟩ := al.out w6 hb6
            have H8 : Hid (Below w5.heap.size w5 w6 ∧ Below w3.heap.size w3 w6 ∧ Below w.heap.size w w6 ∧ Blk 46 w6 (w.heap.size + 1) keyZ ∧ Sl .u8 w6 (.slice ba bn bc) B) := ⟨hb6, hw3, hww, hzz, hsB⟩
            clear i0 i1 hb6 hw3 hww hzz hsB HA
            cases q with
            | true =>
              have HO : Hid (O = rsaK B) := by show _ = _; rw [HQ.out, HVB.out]; simp
              clear HQ HV HVB j0 j1
              go_wp2_with fail
              refine (HRs.out _ H8.out.2.2.1 H8.out.2.2.2.2).mono ?_
              rintro e w7 ⟨ha, hb7⟩
              obtain ⟨b1, o1, d1, b2, o2, d2, b3, o3, d3, b4, o4, d4, f, rfl, hk, hf⟩ := ha.uni
              have H9 : Hid (Below w.heap.size w w7 ∧ Blk 46 w7 (w.heap.size + 1) keyZ ∧ KyV w7 (rsaK B).1 (.slice b1 o1 d1) (.slice b2 o2 d2) (.slice b3 o3 d3) (.slice b4 o4 d4) ∧ FlK an ak (rsaK B).2 f) := ⟨below_via H8.out.2.2.1 hb7 (Nat.le_refl _), below_blk hb7 H8.out.2.2.2.1.lt H8.out.2.2.2.1, hk, hf⟩
              obtain ⟨⟨z0, z1, z2, z3, z4⟩, f0, f1, f2, f3, f4⟩ := key_celG H9.out.2.1
              clear ha hb7 hk hf HRs
              go_wp2
              have hz := key_putG H9.out.2.1 H9.out.1 (Nat.le_succ _) _ _ _ _ _ H9.out.2.2.1
              refine bodyPost_ret (results_blk2 rfl rfl hz.1 Tryz.underlying46 rfl Tryz.sizeKey rfl) rfl ⟨?_, hz.2.2⟩
              rw [HO.out]
              exact ⟨_, _, _, _, _, rfl, hz.2.1, H9.out.2.2.2⟩
            | false =>
              go_wp2_with fail
              refine (HV.out _ H8.out.2.1).mono ?_
              rintro e w7 ⟨rfl, hb7⟩
              obtain ⟨⟨hw3, hww, hzz⟩, ⟨l0, l1⟩, hsB⟩ := al.out w7 (below_via H8.out.1 hb7 (Nat.le_refl _))
              have H9 : Hid (Below w.heap.size w w7 ∧ Blk 46 w7 (w.heap.size + 1) keyZ ∧ Sl .u8 w7 (.slice ba bn bc) B) := ⟨hww, hzz, hsB⟩
              clear j0 j1 hb7 hw3 hww hzz hsB HV
              cases vp with
              | true =>
                have HO : Hid (O = rsaK B) := by show _ = _; rw [HQ.out, HVB.out]; simp
                clear HQ HVB l0 l1
                go_wp2_with fail
                refine (HRs.out _ H9.out.1 H9.out.2.2).mono ?_
                rintro e w8 ⟨ha, hb8⟩
                obtain ⟨b1, o1, d1, b2, o2, d2, b3, o3, d3, b4, o4, d4, f, rfl, hk, hf⟩ := ha.uni
                have H10 : Hid (Below w.heap.size w w8 ∧ Blk 46 w8 (w.heap.size + 1) keyZ ∧ KyV w8 (rsaK B).1 (.slice b1 o1 d1) (.slice b2 o2 d2) (.slice b3 o3 d3) (.slice b4 o4 d4) ∧ FlK an ak (rsaK B).2 f) := ⟨below_via H9.out.1 hb8 (Nat.le_refl _), below_blk hb8 H9.out.2.1.lt H9.out.2.1, hk, hf⟩
                obtain ⟨⟨z0, z1, z2, z3, z4⟩, f0, f1, f2, f3, f4⟩ := key_celG H10.out.2.1
                clear ha hb8 hk hf HRs
                go_wp2
                have hz := key_putG H10.out.2.1 H10.out.1 (Nat.le_succ _) _ _ _ _ _ H10.out.2.2.1
                refine bodyPost_ret (results_blk2 rfl rfl hz.1 Tryz.underlying46 rfl Tryz.sizeKey rfl) rfl ⟨?_, hz.2.2⟩
                rw [HO.out]
                exact ⟨_, _, _, _, _, rfl, hz.2.1, H10.out.2.2.2⟩
              | false =>
                have HO : Hid (O = (ky0, 110)) := by show _ = _; rw [HQ.out, HVB.out]; simp
                obtain ⟨⟨z0, z1, z2, z3, z4⟩, f0, f1, f2, f3, f4⟩ := key_celG H9.out.2.1
                clear HQ HVB HRs
                go_wp2_with (go_at_call 49; refine (HN.out _ _ H9.out.1).mono ?_; rintro e w9 ⟨rfl, rfl⟩)
                have hz := key_putG H9.out.2.1 H9.out.1 (Nat.le_succ _) ky0 (.slice none 0 0) (.slice none 0 0) (.slice none 0 0) (.slice none 0 0) (KyV.zero _)
                refine bodyPost_ret (results_blk2 rfl rfl hz.1 Tryz.underlying46 rfl Tryz.sizeKey rfl) rfl ⟨?_, hz.2.2⟩
                rw [HO.out]
                exact ⟨_, _, _, _, _, rfl, hz.2.1, .inr (.inr ⟨rfl, _, rfl⟩)⟩
          | false =>
            clear HA HV HVB HRs
            cases g2 : (S.toList == [49, 46, 50, 46, 56, 52, 48, 46, 49, 48, 48, 52, 53, 46, 50, 46, 49]) with
            | true =>
              replace HQ : Hid (O = if crvO rest = 0 then (ky0, 110) else ptK (crvO rest) B) := by show _ = _; rw [HQ.out]; unfold keyB; rw [if_neg (by rw [g1]; decide), if_pos g2]
              obtain ⟨cv, hcv⟩ : ∃ c, crvO rest = c := ⟨_, rfl⟩
              rw [hcv] at HQ HCr
              clear hcv
              go_wp2_with fail
              refine (HCr.out _ H7.out.1 H7.out.2.1).mono ?_
              rintro e w6 ⟨rfl, hb6⟩
              obtain ⟨⟨hw3, hww, hzz⟩, ⟨j0, j1⟩, hsB⟩ := al.out w6 hb6
              have H8 : Hid (Below w.heap.size w w6 ∧ Blk 46 w6 (w.heap.size + 1) keyZ ∧ Sl .u8 w6 (.slice ba bn bc) B) := ⟨hww, hzz, hsB⟩
              clear i0 i1 hb6 hw3 hww hzz hsB HCr
              by_cases h0 : cv = 0
              · subst h0
                have HO : Hid (O = (ky0, 110)) := HQ.out
                obtain ⟨⟨z0, z1, z2, z3, z4⟩, f0, f1, f2, f3, f4⟩ := key_celG H8.out.2.1
                clear HQ HPt
                go_wp2_with (go_at_call 49; refine (HN.out _ _ H8.out.1).mono ?_; rintro e w9 ⟨rfl, rfl⟩)
                have hz := key_putG H8.out.2.1 H8.out.1 (Nat.le_succ _) ky0 (.slice none 0 0) (.slice none 0 0) (.slice none 0 0) (.slice none 0 0) (KyV.zero _)
                refine bodyPost_ret (results_blk2 rfl rfl hz.1 Tryz.underlying46 rfl Tryz.sizeKey rfl) rfl ⟨?_, hz.2.2⟩
                rw [HO.out]
                exact ⟨_, _, _, _, _, rfl, hz.2.1, .inr (.inr ⟨rfl, _, rfl⟩)⟩
              · have h00 : (cv != 0) = true := by simpa using h0
                have HO : Hid (O = ptK cv B) := by show _ = _; rw [HQ.out, if_neg h0]
                clear HQ h0 j0 j1
                go_wp2_with fail
                refine (HPt.out _ _ H8.out.1 H8.out.2.2).mono ?_
                rintro e w7 ⟨ha, hb7⟩
                obtain ⟨b1, o1, d1, b2, o2, d2, b3, o3, d3, b4, o4, d4, f, rfl, hk, hf⟩ := ha.uni
                have H9 : Hid (Below w.heap.size w w7 ∧ Blk 46 w7 (w.heap.size + 1) keyZ ∧ KyV w7 (ptK cv B).1 (.slice b1 o1 d1) (.slice b2 o2 d2) (.slice b3 o3 d3) (.slice b4 o4 d4) ∧ FlK an ak (ptK cv B).2 f) := ⟨below_via H8.out.1 hb7 (Nat.le_refl _), below_blk hb7 H8.out.2.1.lt H8.out.2.1, hk, hf⟩
                obtain ⟨⟨z0, z1, z2, z3, z4⟩, f0, f1, f2, f3, f4⟩ := key_celG H9.out.2.1
                clear ha hb7 hk hf HPt
                go_wp2
                have hz := key_putG H9.out.2.1 H9.out.1 (Nat.le_succ _) _ _ _ _ _ H9.out.2.2.1
                refine bodyPost_ret (results_blk2 rfl rfl hz.1 Tryz.underlying46 rfl Tryz.sizeKey rfl) rfl ⟨?_, hz.2.2⟩
                rw [HO.out]
                exact ⟨_, _, _, _, _, rfl, hz.2.1, H9.out.2.2.2⟩
            | false =>
              have HO : Hid (O = (ky0, 110)) := by show _ = _; rw [HQ.out]; unfold keyB; rw [if_neg (by rw [g1]; decide), if_neg (by rw [g2]; decide)]
              obtain ⟨⟨z0, z1, z2, z3, z4⟩, f0, f1, f2, f3, f4⟩ := key_celG H7.out.2.2.1
              clear HQ HPt HCr
              go_wp2_with (go_at_call 49; refine (HN.out _ _ H7.out.2.1).mono ?_; rintro e w9 ⟨rfl, rfl⟩)
              have hz := key_putG H7.out.2.2.1 H7.out.2.1 (Nat.le_succ _) ky0 (.slice none 0 0) (.slice none 0 0) (.slice none 0 0) (.slice none 0 0) (KyV.zero _)
              refine bodyPost_ret (results_blk2 rfl rfl hz.1 Tryz.underlying46 rfl Tryz.sizeKey rfl) rfl ⟨?_, hz.2.2⟩
              rw [HO.out]
              exact ⟨_, _, _, _, _, rfl, hz.2.1, .inr (.inr ⟨rfl, _, rfl⟩)⟩
    · have HO : Hid (O = (ky0, 110)) := by
        show _ = _
        rw [HQ.out]
        rcases L with _ | ⟨a, _ | ⟨b, _ | ⟨c, L⟩⟩⟩
        · rfl
        · rfl
        · simp at hl2
        · rfl
      obtain ⟨av, cv, rfl⟩ := hv.len
      obtain ⟨kl, hkl⟩ : ∃ k, L.length = k := ⟨_, rfl⟩
      rw [hkl]
      have hk2 : ((kl : Int) != 2) = true := by simp; omega
      obtain ⟨⟨z0, z1, z2, z3, z4⟩, f0, f1, f2, f3, f4⟩ := key_celG H2.out.2
      clear HQ HL HG hv hkl hl2
      go_wp2_with (go_at_call 49; refine (HN.out _ _ H2.out.1).mono ?_; rintro e w9 ⟨rfl, rfl⟩)
      have hz := key_putG H2.out.2 H2.out.1 (Nat.le_succ _) ky0 (.slice none 0 0) (.slice none 0 0) (.slice none 0 0) (.slice none 0 0) (KyV.zero _)
      refine bodyPost_ret (results_blk2 rfl rfl hz.1 Tryz.underlying46 rfl Tryz.sizeKey rfl) rfl ⟨?_, hz.2.2⟩
      rw [HO.out]
      exact ⟨_, _, _, _, _, rfl, hz.2.1, .inr (.inr ⟨rfl, _, rfl⟩)⟩
end Go.Proofs.YtillkhjihggcjaaGreatDoor
/-
  Alg: Key.
-/
namespace Go.Proofs.YtillkhjihggcjaaGreatDoor
open Go.RowKit
set_option maxRecDepth 20000
def KeyOut (w : World) (e : Ending) (r : Ky × Int) : Prop :=
  ∃ v1 v2 v3 v4, e = .returned (.tuple #[.agg #[.int .i64 r.1.cv, v1, v2, v3, v4], .int .i64 r.2]) ∧ KyV w r.1 v1 v2 v3 v4
set_option maxHeartbeats 4000000 in
theorem Key_any {w : World} {an ak : Addr} (hG : Glb w an ak) (hT : P10 w) (x : El) (a1 : Option Addr) (n1 c1 : Nat) (a2 : Option Addr) (n2 c2 : Nat) (hD : Sl .u8 w (.slice a1 n1 c1) x.d) (uD : U8s x.d) (lD : x.d.length ≤ 6000) :
    Calls Tryz.prog 13 #[.agg #[.int .i64 x.cl, .int .i64 x.tg, .bool x.co, .slice a1 n1 c1, .slice a2 n2 c2]] w fun e w' => KeyOut w' e (keyK x) ∧ Below w.heap.size w w' := by
  have HI : Hid (∀ W, Below w.heap.size w W → Calls Tryz.prog 30 #[.agg #[.int .i64 x.cl, .int .i64 x.tg, .bool x.co, .slice a1 n1 c1, .slice a2 n2 c2]] W fun e w' => KeyAns an ak w' e (keyK x) ∧ Below W.heap.size W w') := fun W h => readKey_any (hG.below h) (hT.below h) x a1 n1 c1 a2 n2 c2 (below_sl h hD) uD lD
  obtain ⟨⟨K, er⟩, hO⟩ : ∃ O, keyK x = O := ⟨_, rfl⟩
  rw [hO] at HI ⊢
  have HTold : Hid (∀ W f, Below w.heap.size w W → FlK an ak er f → Calls Tryz.prog 22 #[f] W fun e w' => e = .returned (.int .i64 er) ∧ Below W.heap.size W w') := fun W f h hf => by
    rcases hf with ⟨rfl, rfl⟩ | ⟨rfl, s, rfl⟩ | ⟨rfl, s, rfl⟩
    · exact told0.mono fun e w' ⟨h1, h2⟩ => ⟨h1, by rw [← h2]; exact Below.refl _ _⟩
    · exact toldK (hG.below h) s
    · exact toldN (hG.below h) s
  obtain ⟨cl, tg, co, D, R⟩ := x
  simp only [] at hD HI ⊢
  clear hD uD lD hG hT hO
  go_enter Tryz.func13, Tryz.ntmps13
  go_upto_region 1 with (fail)
  refine wp_gen (fun W => Blk 24 W w.heap.size [.int .i64 cl, .int .i64 tg, .bool co, .slice a1 n1 c1, .slice a2 n2 c2] ∧ Blk 46 W (w.heap.size + 1) keyZ ∧ Below w.heap.size w W) ⟨(Blk.new _ w _).alloc _, (two_blk _ _ _ _ rfl).1, (two_blk 46 _ _ keyZ rfl).2⟩ ?_
  rintro W1 ⟨hX, hZ, hW1⟩
  have x0 : W1.cell? ⟨w.heap.size, 0, none⟩ = some (.int .i64 cl) := hX.cell 0
  have x1 : W1.cell? ⟨w.heap.size, 1, none⟩ = some (.int .i64 tg) := hX.cell 1
  have x2 : W1.cell? ⟨w.heap.size, 2, none⟩ = some (.bool co) := hX.cell 2
  have x3 : W1.cell? ⟨w.heap.size, 3, none⟩ = some (.slice a1 n1 c1) := hX.cell 3
  have x4 : W1.cell? ⟨w.heap.size, 4, none⟩ = some (.slice a2 n2 c2) := hX.cell 4
  have H1 : Hid (Below w.heap.size w W1 ∧ Blk 46 W1 (w.heap.size + 1) keyZ) := ⟨hW1, hZ⟩
  clear hX hZ hW1
  go_wp2_with fail
  refine (HI.out _ H1.out.1).mono ?_
  rintro e w2 ⟨ha, hb⟩
  obtain ⟨b1, o1, d1, b2, o2, d2, b3, o3, d3, b4, o4, d4, f, rfl, hk, hf⟩ := ha.uni
  have H2 : Hid (Below w.heap.size w w2 ∧ Blk 46 w2 (w.heap.size + 1) keyZ ∧ KyV w2 K (.slice b1 o1 d1) (.slice b2 o2 d2) (.slice b3 o3 d3) (.slice b4 o4 d4)) := ⟨below_via H1.out.1 hb (Nat.le_refl _), below_blk hb H1.out.2.lt H1.out.2, hk⟩
  have HF : Hid (FlK an ak er f) := hf
  simp only []
  clear hb HI x0 x1 x2 x3 x4 H1 ha hk hf
  go_upto_region 2 with (fail)
  refine wp_gen (fun W => Blk 46 W w2.heap.size [.int .i64 K.cv, .slice b1 o1 d1, .slice b2 o2 d2, .slice b3 o3 d3, .slice b4 o4 d4] ∧ Below w2.heap.size w2 W) ⟨Blk.new _ w2 _, al1 _⟩ ?_
  rintro W3 ⟨hB, hBw⟩
  have H3 : Hid (∀ W, Below W3.heap.size W3 W → (W.cell? ⟨w2.heap.size, 0, none⟩ = some (.int .i64 K.cv) ∧ W.cell? ⟨w2.heap.size, 1, none⟩ = some (.slice b1 o1 d1) ∧ W.cell? ⟨w2.heap.size, 2, none⟩ = some (.slice b2 o2 d2) ∧ W.cell? ⟨w2.heap.size, 3, none⟩ = some (.slice b3 o3 d3) ∧ W.cell? ⟨w2.heap.size, 4, none⟩ = some (.slice b4 o4 d4)) ∧ Below w.heap.size w W ∧ Blk 46 W (w.heap.size + 1) keyZ ∧ KyV W K (.slice b1 o1 d1) (.slice b2 o2 d2) (.slice b3 o3 d3) (.slice b4 o4 d4)) := fun W h => by
    have q := below_blk h hB.lt hB
    have h2 := below_via hBw h (by have := hBw.size; omega)
    exact ⟨⟨q.cell 0, q.cell 1, q.cell 2, q.cell 3, q.cell 4⟩, below_via H2.out.1 h2 (Nat.le_refl _), below_blk h2 H2.out.2.1.lt H2.out.2.1, H2.out.2.2.below h2⟩
  clear hB hBw
  obtain ⟨⟨y0, y1, y2, y3, y4⟩, hw3, hZ3, _⟩ := H3.out W3 (Below.refl _ _)
  have HT3 : Hid (Below w.heap.size w W3) := hw3
  clear hw3 hZ3
  go_region_with (go_at_call 22; refine (HTold.out _ _ (by first | exact HT3.out | exact below_drewN _ HT3.out) HF.out).mono ?_; rintro e w4 ⟨rfl, hb4⟩; obtain ⟨⟨v0, v1, v2, v3, v4⟩, hw4, hZ4, hK4⟩ := H3.out w4 (by first | exact hb4 | exact below_via (Below.drew (Below.refl _ _)) hb4 (Nat.le_refl _)); obtain ⟨⟨z0, z1, z2, z3, z4⟩, f0, f1, f2, f3, f4⟩ := key_celG hZ4; have H4 : Hid (Below w.heap.size w w4 ∧ Blk 46 w4 (w.heap.size + 1) keyZ ∧ KyV w4 K (.slice b1 o1 d1) (.slice b2 o2 d2) (.slice b3 o3 d3) (.slice b4 o4 d4)) := ⟨hw4, hZ4, hK4⟩; clear hb4 hw4 hZ4 hK4)
  all_goals
    go_wp2
    have hz := key_putG H4.out.2.1 H4.out.1 (Nat.le_succ _) _ _ _ _ _ H4.out.2.2
    exact bodyPost_ret (results_blk2 rfl rfl hz.1 Tryz.underlying46 rfl Tryz.sizeKey rfl) rfl ⟨⟨_, _, _, _, rfl, hz.2.1⟩, hz.2.2⟩
end Go.Proofs.YtillkhjihggcjaaGreatDoor
/-
  Alg: the reference's row, Is, read, void.
-/
namespace Go.Proofs.YtillkhjihggcjaaGreatDoor
open Go.RowKit
set_option maxRecDepth 20000
theorem RIs_any {w : World} (x : El) (d r : Value) (t : Int) : Calls Tryz.prog 32 #[.agg #[.int .i64 x.cl, .int .i64 x.tg, .bool x.co, d, r], .int .i64 t] w fun e w' => e = .returned (.bool (isP x t)) ∧ Below w.heap.size w w' := by
  obtain ⟨cl, tg, co, xd, xr⟩ := x
  unfold isP
  simp only []
  by_cases h1 : cl = 0
  · by_cases h2 : tg = t
    · subst h1 h2
      cases co <;> (go_enter Tryz.func32, Tryz.ntmps32; go_wp2; go_ret; exact ⟨by simp, al1 _⟩)
    · have d2 : (tg == t) = false := by simpa using h2
      subst h1
      go_enter Tryz.func32, Tryz.ntmps32; go_wp2; go_ret; exact ⟨by simp [d2], al1 _⟩
  · have d1 : (cl == 0) = false := by simpa using h1
    go_enter Tryz.func32, Tryz.ntmps32; go_wp2; go_ret; exact ⟨by simp [d1], al1 _⟩
def RowAnsR (B : Nat) (w : World) (e : Ending) : Option (List El) → Prop
  | none => ∃ a n c, e = .returned (.tuple #[.slice a n c, .bool false])
  | some L => ∃ v, e = .returned (.tuple #[v, .bool true]) ∧ TlvR B w v L
set_option maxHeartbeats 1000000 in
theorem Rrow_any {w : World} (x : El) (a1 : Option Addr) (n1 c1 : Nat) (r : Value) (hD : Sl .u8 w (.slice a1 n1 c1) x.d) (uD : U8s x.d) (lD : x.d.length ≤ 6000) :
    Calls Tryz.prog 31 #[.agg #[.int .i64 x.cl, .int .i64 x.tg, .bool x.co, .slice a1 n1 c1, r]] w fun e w' => RowAnsR w.heap.size w' e (rowS x) ∧ Below w.heap.size w w' := by
  obtain ⟨cl, tg, co, D, R⟩ := x
  simp only [] at hD uD lD ⊢
  obtain ⟨O, hO⟩ : ∃ O, rowS ⟨cl, tg, co, D, R⟩ = O := ⟨_, rfl⟩
  rw [hO]
  by_cases hy : (cl == 0 && tg == 16 && co) = true
  · have HR : Hid (O = rowO (splitS D)) := by show _ = _; rw [← hO]; unfold rowS; rw [if_pos hy]
    obtain ⟨h1, h2, h3⟩ : cl = 0 ∧ tg = 16 ∧ co = true := by simp at hy; exact ⟨hy.1.1, hy.1.2, hy.2⟩
    subst h1 h2 h3
    have HS : Hid (∀ W, Below w.heap.size w W → Calls Tryz.prog 41 #[.slice a1 n1 c1] W fun e w' => (∃ v, e = .returned (.tuple #[v, .int .i64 (spE (splitS D)), .int .i64 (spA D.length (splitS D))]) ∧ TlvR W.heap.size w' v (spL (splitS D))) ∧ Below W.heap.size W w') := fun W h => (RSplit_any _ D (below_sl h hD) uD (by omega)).mono fun e w' ⟨ha, hb⟩ => ⟨ha.uni, hb⟩
    have HE : Hid (∀ er at', splitS D = .inl (er, at') → er ≠ 0) := fun er at' h => splitS_err uD h
    clear hD uD lD hy hO
    go_enter Tryz.func31, Tryz.ntmps31
    go_wp2_with fail
    refine (HS.out _ (al1 _)).mono ?_
    rintro e w1 ⟨⟨v, rfl, hv⟩, hb⟩
    obtain ⟨av, cv, hvv⟩ : ∃ a c, v = .slice a (spL (splitS D)).length c := by
      obtain ⟨Y, h1, h2, _⟩ := hv; obtain ⟨a, c, h3⟩ := h2.ne; rw [← h1, List.length_map]; exact ⟨a, c, h3⟩
    obtain ⟨nv, hnv⟩ : ∃ n, (spL (splitS D)).length = n := ⟨_, rfl⟩
    rw [hnv] at hvv
    subst hvv
    have H1 : Hid (Below w.heap.size w w1 ∧ TlvR w.heap.size w1 (.slice av nv cv) (spL (splitS D))) := ⟨below_via (al1 _) hb (Nat.le_refl _), hv.mono (by simp)⟩
    clear hv hb hnv
    cases hS : splitS D with
    | inl pq =>
      obtain ⟨er, at'⟩ := pq
      have h0 := HE.out er at' hS
      have h00 : (er == 0) = false := by simpa using h0
      have HO : Hid (O = none) := by show _ = _; rw [HR.out, hS]; rfl
      clear HS HE HR
      rw [show spE (.inl (er, at')) = er from rfl]
      obtain ⟨z, hz⟩ : ∃ z, (spA D.length (.inl (er, at')) : Nat) = z := ⟨_, rfl⟩
      rw [hz]
      clear hz hS
      go_wp2
      go_ret2
      rw [HO.out]
      exact ⟨⟨av, nv, cv, rfl⟩, H1.out.1⟩
    | inr L =>
      have H2 : Hid (Below w.heap.size w w1 ∧ TlvR w.heap.size w1 (.slice av nv cv) L) := ⟨H1.out.1, by have := H1.out.2; rw [hS] at this; exact this⟩
      have HO : Hid (O = some L) := by show _ = _; rw [HR.out, hS]; rfl
      clear HS HE HR H1
      rw [show spE (.inr L) = 0 from rfl]
      obtain ⟨z, hz⟩ : ∃ z, (spA D.length (.inr L) : Nat) = z := ⟨_, rfl⟩
      rw [hz]
      clear hz hS
      go_wp2
      go_ret2
      rw [HO.out]
      exact ⟨⟨_, rfl, H2.out.2⟩, H2.out.1⟩
  · obtain rfl : O = none := by rw [← hO]; unfold rowS; rw [if_neg hy]
    clear hD uD lD hO
    by_cases h1 : cl = 0
    · subst h1
      by_cases h2 : tg = 16
      · subst h2
        have h3 : co = false := by simpa using hy
        subst h3
        clear hy
        go_enter Tryz.func31, Tryz.ntmps31; go_wp2; go_ret2; exact ⟨⟨none, 0, 0, rfl⟩, al1 _⟩
      · have d2 : (tg != 16) = true := by simpa using h2
        clear hy
        go_enter Tryz.func31, Tryz.ntmps31; go_wp2; go_ret2; exact ⟨⟨none, 0, 0, rfl⟩, al1 _⟩
    · have d1 : (cl != 0) = true := by simpa using h1
      clear hy
      go_enter Tryz.func31, Tryz.ntmps31; go_wp2; go_ret2; exact ⟨⟨none, 0, 0, rfl⟩, al1 _⟩
theorem TlvS.len {w : World} {v : Value} {L : List El} (h : TlvS w v L) : ∃ a c, v = .slice a L.length c := by
  obtain ⟨a, c, _, h, _⟩ := h
  exact ⟨a, c, h⟩
def RdAns (w : World) (e : Ending) : Option (ByteArray × List El) → Prop
  | none => ∃ s a n c, e = .returned (.tuple #[.string s, .slice a n c, .bool false])
  | some (S, rest) => ∃ a n c, e = .returned (.tuple #[.string S, .slice a n c, .bool true]) ∧ rest.length = n ∧ TlvS w (.slice a n c) rest
set_option maxHeartbeats 4000000 in
theorem Rread_any {w : World} (x : El) (a1 : Option Addr) (n1 c1 : Nat) (a2 : Option Addr) (n2 c2 : Nat) (hD : Sl .u8 w (.slice a1 n1 c1) x.d) (uD : U8s x.d) (lD : x.d.length ≤ 6000) :
    Calls Tryz.prog 23 #[.agg #[.int .i64 x.cl, .int .i64 x.tg, .bool x.co, .slice a1 n1 c1, .slice a2 n2 c2]] w fun e w' => RdAns w' e (idS x) ∧ Below w.heap.size w w' := by
  have HR : Hid (∀ W, Below w.heap.size w W → Calls Tryz.prog 31 #[.agg #[.int .i64 x.cl, .int .i64 x.tg, .bool x.co, .slice a1 n1 c1, .slice a2 n2 c2]] W fun e w' => RowAnsR W.heap.size w' e (rowS x) ∧ Below W.heap.size W w') := fun W h => Rrow_any x a1 n1 c1 _ (below_sl h hD) uD lD
  obtain ⟨O, hO⟩ : ∃ O, idS x = O := ⟨_, rfl⟩
  obtain ⟨RO, hRO⟩ : ∃ R, rowS x = R := ⟨_, rfl⟩
  rw [hO]
  rw [hRO] at HR
  have HQ : Hid (O = idO RO) := by show _ = _; rw [← hO, ← hRO]; rfl
  have HL : Hid (∀ L, RO = some L → ∀ y ∈ L, y.d.length ≤ 6000 ∧ U8s y.d ∧ 0 ≤ y.tg) := fun L h => rowS_good uD lD (hRO.trans h)
  obtain ⟨cl, tg, co, D, R⟩ := x
  simp only [] at hD HR ⊢
  clear hD uD lD hO hRO
  go_enter Tryz.func23, Tryz.ntmps23
  go_wp2_with fail
  refine (HR.out _ (al1 _)).mono ?_
  rintro e w1 ⟨ha, hb⟩
  have H1 : Hid (Below w.heap.size w w1) := below_via (al1 _) hb (Nat.le_refl _)
  clear hb HR
  cases RO with
  | none =>
    obtain ⟨a, n, c, rfl⟩ := ha
    have HO : Hid (O = none) := HQ.out
    clear HQ HL
    go_wp2
    go_ret3
    rw [HO.out]
    exact ⟨⟨_, _, _, _, rfl⟩, H1.out⟩
  | some L =>
    obtain ⟨v, rfl, hv⟩ := ha
    have hv := hv.s
    obtain ⟨av, cv, rfl⟩ := hv.len
    rcases L with _ | ⟨y, rest⟩
    · have HO : Hid (O = none) := HQ.out
      clear HQ HL hv
      simp only [List.length_nil]
      go_wp2
      go_ret3
      rw [HO.out]
      exact ⟨⟨_, _, _, _, rfl⟩, H1.out⟩
    by_cases hr1 : rest.length ≤ 1
    · replace HQ : Hid (O = idC rest (oidO y)) := by
        show _ = _
        rw [HQ.out]
        rcases rest with _ | ⟨z, _ | ⟨z', rest⟩⟩
        · rfl
        · rfl
        · simp at hr1
      have hy := HL.out _ rfl y (by simp)
      obtain ⟨b, off, c, b1, m1, d1', b2, m2, d2', hvv, hc, hbl, e0, e1, e2, e3, e4, sd, sr, ht⟩ := hv.cons
      simp only [Value.slice.injEq] at hvv
      obtain ⟨rfl, hn, rfl⟩ := hvv
      obtain ⟨k, hk⟩ : ∃ k, rest.length = k := ⟨_, rfl⟩
      rw [hk] at hr1 ht hc hn
      rw [hn]
      have k1 : ¬ ((k + 1 : Nat) : Int) < 1 := by omega
      have k2 : ¬ (2 : Int) < ((k + 1 : Nat) : Int) := by omega
      have HP : Hid (∀ W : World, Calls Tryz.prog 32 #[.agg #[.int .i64 y.cl, .int .i64 y.tg, .bool y.co, .slice b1 m1 d1', .slice b2 m2 d2'], .int .i64 6] W fun e w' => e = .returned (.bool (isP y 6)) ∧ Below W.heap.size W w') := fun W => RIs_any y _ _ 6
      have HO : Hid (∀ W, Below w1.heap.size w1 W → Calls Tryz.prog 36 #[.slice b1 m1 d1'] W fun e w' => e = .returned (.tuple #[.string (strOfNums (oidF y.d).1), .int .i64 (oidF y.d).2]) ∧ Below W.heap.size W w') := fun W h => (ROid_any _ y.d (below_sl h sd) hy.2.1 hy.1).mono fun e w' ⟨⟨s, er, h1, h2⟩, hb⟩ => ⟨by obtain ⟨e1, e2⟩ := oidF_of h1; rw [h2, e1, e2], hb⟩
      have HK : Hid (rest.length = k ∧ b < w1.heap.size ∧ TlvS w1 (.slice (some ⟨b, off + 5, none⟩) k (cv - 1)) rest) := ⟨hk, hbl, ht⟩
      replace HQ : Hid (O = idC rest (if isP y 6 = true ∧ (oidF y.d).2 = 0 then some (strOfNums (oidF y.d).1) else none)) := HQ.out
      obtain ⟨ycl, ytg, yco, yD, yR⟩ := y
      simp only [] at HO HQ HP e0 e1 e2 e3 e4
      obtain ⟨p, hp⟩ : ∃ p, isP ⟨ycl, ytg, yco, yD, yR⟩ 6 = p := ⟨_, rfl⟩
      rw [hp] at HP HQ
      obtain ⟨S, hS⟩ : ∃ S, strOfNums (oidF yD).1 = S := ⟨_, rfl⟩
      obtain ⟨er, her⟩ : ∃ er, (oidF yD).2 = er := ⟨_, rfl⟩
      rw [hS, her] at HO HQ
      have kc : ((k + 1 : Nat) : Int) ≤ (cv : Int) := by omega
      clear hy hv hn hk ht sd sr HL hp hS her hc
      go_wp2_with fail
      refine (HP.out _).mono ?_
      rintro e w2 ⟨rfl, hb2⟩
      have H2 : Hid (Below w1.heap.size w1 w2 ∧ Below w.heap.size w w2) := ⟨hb2, below_via H1.out hb2 (Nat.le_refl _)⟩
      have g3 : w2.cell? ⟨b, off + 3, none⟩ = some (.slice b1 m1 d1') := (hb2.cell hbl).trans e3
      clear hb2 e0 e1 e2 e3 e4
      cases p with
      | false =>
        have HN : Hid (O = none) := by show _ = _; rw [HQ.out]; simp [idC]
        clear HQ HP HO
        go_wp2
        go_ret3
        rw [HN.out]
        exact ⟨⟨_, _, _, _, rfl⟩, H2.out.2⟩
      | true =>
        go_wp2_with fail
        refine (HO.out _ H2.out.1).mono ?_
        rintro e w3 ⟨rfl, hb3⟩
        have H3 : Hid (Below w.heap.size w w3 ∧ TlvS w3 (.slice (some ⟨b, off + 5, none⟩) k (cv - 1)) rest ∧ rest.length = k) := ⟨below_via H2.out.2 hb3 (Nat.le_refl _), (HK.out.2.2.below H2.out.1).below hb3, HK.out.1⟩
        clear hb3 g3 HP HO hbl HK
        by_cases h0 : er = 0
        · subst h0
          have HN : Hid (O = some (S, rest)) := by show _ = _; rw [HQ.out]; simp [idC]
          clear HQ
          by_cases hcv : cv = 1
          · subst hcv
            obtain rfl : k = 0 := by omega
            have hr0 : rest = [] := List.eq_nil_of_length_eq_zero H3.out.2.2
            go_upto_region 5 with (fail)
            go_region
            go_wp2
            go_ret3
            rw [HN.out]
            exact ⟨⟨_, _, _, rfl, H3.out.2.2, by rw [hr0]; exact TlvS.nil _ _ _⟩, below_drewN _ H3.out.1⟩
          · have hcz : ¬ cv - 1 = 0 := by omega
            go_upto_region 5 with (fail)
            go_region
            go_wp2
            go_ret3
            rw [HN.out]
            exact ⟨⟨_, _, _, rfl, H3.out.2.2, H3.out.2.1.below (Below.drew (Below.refl _ _))⟩, below_drewN _ H3.out.1⟩
        · have h00 : (er == 0) = false := by simpa using h0
          have HN : Hid (O = none) := by show _ = _; rw [HQ.out]; simp [idC, h0]
          clear HQ h0
          by_cases hcv : cv = 1
          · subst hcv
            obtain rfl : k = 0 := by omega
            go_upto_region 5 with (fail)
            go_region
            go_wp2
            go_ret3
            rw [HN.out]
            exact ⟨⟨_, _, _, _, rfl⟩, below_drewN _ H3.out.1⟩
          · have hcz : ¬ cv - 1 = 0 := by omega
            go_upto_region 5 with (fail)
            go_region
            go_wp2
            go_ret3
            rw [HN.out]
            exact ⟨⟨_, _, _, _, rfl⟩, below_drewN _ H3.out.1⟩
    · obtain ⟨k, hk⟩ : ∃ k, (y :: rest).length = k := ⟨_, rfl⟩
      have HO : Hid (O = none) := by
        show _ = _
        rw [HQ.out]
        rcases rest with _ | ⟨z, _ | ⟨z', rest⟩⟩
        · simp at hr1
        · simp at hr1
        · rfl
      rw [hk]
      have k1 : ¬ (k : Int) < 1 := by simp at hk; omega
      have k2 : (2 : Int) < (k : Int) := by simp at hk; omega
      clear HQ HL hv hk
      go_wp2
      go_ret3
      rw [HO.out]
      exact ⟨⟨_, _, _, _, rfl⟩, H1.out⟩
end Go.Proofs.YtillkhjihggcjaaGreatDoor
/-
  Alg: the reference's void, Digest.
-/
namespace Go.Proofs.YtillkhjihggcjaaGreatDoor
open Go.RowKit
set_option maxRecDepth 20000
set_option maxHeartbeats 1000000 in
theorem Rvoid_any {w : World} (a : Option Addr) (n c : Nat) (rest : List El) (hn : rest.length = n) (hr : TlvS w (.slice a n c) rest) (hl : n ≤ 65536) :
    Calls Tryz.prog 24 #[.slice a n c] w fun e w' => e = .returned (.bool (vdB rest)) ∧ Below w.heap.size w w' := by
  rcases rest with _ | ⟨y, rest⟩
  · obtain rfl : n = 0 := hn.symm
    unfold vdB
    clear hr
    go_enter Tryz.func24, Tryz.ntmps24
    go_wp2
    go_ret
    exact ⟨rfl, Below.refl _ _⟩
  · obtain ⟨b, off, c', b1, m1, d1, b2, m2, d2, hvv, hc, hbl, e0, e1, e2, e3, e4, sd, sr, ht⟩ := hr.cons
    simp only [Value.slice.injEq] at hvv
    obtain ⟨rfl, hx1, rfl⟩ := hvv
    have n0 : ((n : Int) == 0) = false := by simp; omega
    have n1 : (0 : Int) < (n : Int) := by omega
    have HP : Hid (∀ W : World, Calls Tryz.prog 32 #[.agg #[.int .i64 y.cl, .int .i64 y.tg, .bool y.co, .slice b1 m1 d1, .slice b2 m2 d2], .int .i64 5] W fun e w' => e = .returned (.bool (isP y 5)) ∧ Below W.heap.size W w') := fun W => RIs_any y _ _ 5
    obtain ⟨ycl, ytg, yco, yD, yR⟩ := y
    simp only [] at HP e0 e1 e2 e3 e4
    have HV : Hid (vdB (⟨ycl, ytg, yco, yD, yR⟩ :: rest) = (isP ⟨ycl, ytg, yco, yD, yR⟩ 5 && ((m1 : Int) == 0))) := by
      obtain ⟨_, _, hv, _⟩ := sd
      simp only [Value.slice.injEq] at hv
      obtain ⟨_, rfl, _⟩ := hv
      show _ = _
      unfold vdB
      cases yD with
      | nil => simp
      | cons u l => simp; intro _; omega
    rw [HV.out]
    obtain ⟨p, hp⟩ : ∃ p, isP ⟨ycl, ytg, yco, yD, yR⟩ 5 = p := ⟨_, rfl⟩
    rw [hp] at HP ⊢
    have HC : Hid (∀ W, Below w.heap.size w W → W.cell? ⟨b, off + 3, none⟩ = some (.slice b1 m1 d1)) := fun W h => (h.cell hbl).trans e3
    clear hp HV sd sr ht hr hc hn hx1 hbl hl
    go_enter Tryz.func24, Tryz.ntmps24
    go_wp2_with fail
    refine (HP.out _).mono ?_
    rintro e w3 ⟨rfl, hb3⟩
    have H3 : Hid (Below w.heap.size w w3) := hb3
    have g3 := HC.out _ hb3
    clear hb3 e0 e1 e2 e3 e4 HC HP
    cases p with
    | false =>
      go_wp2
      go_ret
      exact ⟨rfl, H3.out⟩
    | true =>
      go_wp2
      go_ret
      exact ⟨by simp, H3.out⟩
end Go.Proofs.YtillkhjihggcjaaGreatDoor
