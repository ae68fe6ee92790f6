/-
  Alg: the reference's Key.
-/
import Derived.Test.YtillkhjihggcjaaGreatDoorK44
namespace Go.Proofs.YtillkhjihggcjaaGreatDoor
open Go.RowKit
set_option maxRecDepth 20000
theorem keyI_none (a : Option (ByteArray × List El)) : keyI a none = (ky0, 110) := by
  cases a with
  | none => rfl
  | some p => obtain ⟨S, r⟩ := p; rfl
theorem rsa2_none (a : Option (List Int)) : rsa2 a none = (ky0, 80) := by cases a <;> rfl
/-- What stands while the reference reads a key. -/
def KW (w W : World) : Prop := Below w.heap.size w W ∧ Blk 46 W (w.heap.size + 1) keyZ
theorem KW.below {w W W' : World} (h : KW w W) (hb : Below W.heap.size W W') : KW w W' := ⟨below_via h.1 hb (Nat.le_refl _), below_blk hb h.2.lt h.2⟩
set_option maxHeartbeats 16000000 in
theorem RKey_any {w : World} (x : El) (a1 : Option Addr) (n1 c1 : Nat) (a2 : Option Addr) (n2 c2 : Nat) (hD : Sl .u8 w (.slice a1 n1 c1) x.d) (uD : U8s x.d) (lD : x.d.length ≤ 6000) :
    Calls Tryz.prog 14 #[.agg #[.int .i64 x.cl, .int .i64 x.tg, .bool x.co, .slice a1 n1 c1, .slice a2 n2 c2]] w fun e w' => KeyOut w' e (keyK x) ∧ Below w.heap.size w w' := by
  have HR : Hid (∀ W, Below w.heap.size w W → Calls Tryz.prog 31 #[.agg #[.int .i64 x.cl, .int .i64 x.tg, .bool x.co, .slice a1 n1 c1, .slice a2 n2 c2]] W fun e w' => RowAnsR W.heap.size w' e (rowS x) ∧ Below W.heap.size W w') := fun W h => Rrow_any x a1 n1 c1 _ (below_sl h hD) uD lD
  obtain ⟨O, hO⟩ : ∃ O, keyK x = O := ⟨_, rfl⟩
  rw [hO]
  obtain ⟨RO, hRO⟩ : ∃ R, rowS x = R := ⟨_, rfl⟩
  have HQ : Hid (O = keyR RO) := by show _ = _; rw [← hO, ← hRO]; rfl
  have HL : Hid (∀ L, RO = some L → ∀ z ∈ L, z.d.length ≤ 6000 ∧ U8s z.d ∧ 0 ≤ z.tg) := fun L h => rowS_good uD lD (hRO.trans h)
  rw [hRO] at HR
  obtain ⟨cl, tg, co, D, R⟩ := x
  simp only [] at hD HR ⊢
  clear hD uD lD hO hRO
  go_enter Tryz.func14, Tryz.ntmps14
  go_upto_region 1 with (fail)
  refine wp_gen (fun W => Blk 24 W w.heap.size [.int .i64 cl, .int .i64 tg, .bool co, .slice a1 n1 c1, .slice a2 n2 c2] ∧ Blk 46 W (w.heap.size + 1) keyZ ∧ Below w.heap.size w W) ⟨(Blk.new _ w _).alloc _, (two_blk _ _ _ _ rfl).1, (two_blk 46 _ _ keyZ rfl).2⟩ ?_
  rintro W1 ⟨hX, hZ, hW1⟩
  have x0 : W1.cell? ⟨w.heap.size, 0, none⟩ = some (.int .i64 cl) := hX.cell 0
  have x1 : W1.cell? ⟨w.heap.size, 1, none⟩ = some (.int .i64 tg) := hX.cell 1
  have x2 : W1.cell? ⟨w.heap.size, 2, none⟩ = some (.bool co) := hX.cell 2
  have x3 : W1.cell? ⟨w.heap.size, 3, none⟩ = some (.slice a1 n1 c1) := hX.cell 3
  have x4 : W1.cell? ⟨w.heap.size, 4, none⟩ = some (.slice a2 n2 c2) := hX.cell 4
  have H1 : Hid (KW w W1) := ⟨hW1, hZ⟩
  clear hX hZ hW1
  go_wp2_with fail
  refine (HR.out _ H1.out.1).mono ?_
  rintro e w2 ⟨ha, hb⟩
  have H2 : Hid (KW w w2) := H1.out.below hb
  clear hb HR x0 x1 x2 x3 x4 H1
  cases RO with
  | none =>
    obtain ⟨ra, rn, rc, rfl⟩ := ha
    have HO : Hid (O = (ky0, 110)) := HQ.out
    obtain ⟨⟨z0, z1, z2, z3, z4⟩, f0, f1, f2, f3, f4⟩ := key_celG H2.out.2
    clear HQ HL
    go_wp2
    have hz := key_putG H2.out.2 H2.out.1 (Nat.le_succ _) ky0 (.slice none 0 0) (.slice none 0 0) (.slice none 0 0) (.slice none 0 0) (KyV.zero _)
    refine bodyPost_ret (results_blk2 rfl rfl hz.1 Tryz.underlying46 rfl Tryz.sizeKey rfl) rfl ⟨?_, hz.2.2⟩
    rw [HO.out]
    exact ⟨_, _, _, _, rfl, hz.2.1⟩
  | some L =>
    obtain ⟨v, rfl, hv⟩ := ha
    by_cases hl2 : L.length = 2
    · obtain ⟨y, z, rfl⟩ : ∃ a b, L = [a, b] := by
        rcases L with _ | ⟨a, _ | ⟨b, _ | ⟨c, L⟩⟩⟩
        · simp at hl2
        · simp at hl2
        · exact ⟨a, b, rfl⟩
        · simp at hl2
      have g0 := HL.out _ rfl y (by simp)
      have g1 := HL.out _ rfl z (by simp)
      obtain ⟨b, off, c, p1, q1, r1, p2, q2, r2, rfl, hc, hbl, e0, e1, e2, e3, e4, sd, sr, ht⟩ := hv.s.cons
      obtain ⟨b', off', c', p3, q3, r3, p4, q4, r4, hvv, hc', hbl', k0, k1, k2, k3, k4, sd', sr', ht'⟩ := ht.cons
      simp only [Value.slice.injEq, Option.some.injEq, Addr.mk.injEq] at hvv
      obtain ⟨⟨rfl, rfl, _⟩, _, rfl⟩ := hvv
      have HP : Hid (∀ W : World, Calls Tryz.prog 32 #[.agg #[.int .i64 z.cl, .int .i64 z.tg, .bool z.co, .slice p3 q3 r3, .slice p4 q4 r4], .int .i64 3] W fun e w' => e = .returned (.bool (isP z 3)) ∧ Below W.heap.size W w') := fun W => RIs_any z _ _ 3
      have HI : Hid (∀ W, Below w2.heap.size w2 W → (W.cell? ⟨b, off, none⟩ = some (.int .i64 y.cl) ∧ W.cell? ⟨b, off + 1, none⟩ = some (.int .i64 y.tg) ∧ W.cell? ⟨b, off + 2, none⟩ = some (.bool y.co) ∧ W.cell? ⟨b, off + 3, none⟩ = some (.slice p1 q1 r1) ∧ W.cell? ⟨b, off + 4, none⟩ = some (.slice p2 q2 r2)) ∧ Calls Tryz.prog 23 #[.agg #[.int .i64 y.cl, .int .i64 y.tg, .bool y.co, .slice p1 q1 r1, .slice p2 q2 r2]] W fun e w' => RdAns w' e (idS y) ∧ Below W.heap.size W w') := fun W h => ⟨⟨(h.cell hbl).trans e0, (h.cell hbl).trans e1, (h.cell hbl).trans e2, (h.cell hbl).trans e3, (h.cell hbl).trans e4⟩, Rread_any y p1 q1 r1 p2 q2 r2 (below_sl h sd) g0.2.1 g0.1⟩
      have H4 : Hid (∀ W, Below w2.heap.size w2 W → W.cell? ⟨b, off + 5 + 3, none⟩ = some (.slice p3 q3 r3) ∧ Calls Tryz.prog 33 #[.slice p3 q3 r3] W fun e w' => BitsAns W.heap.size w' z.d e ∧ Below W.heap.size W w') := fun W h => ⟨(h.cell hbl).trans k3, RDBits_any _ z.d (below_sl h sd') g1.2.1 (by have := g1.1; omega)⟩
      replace HQ : Hid (O = keyI (idS y) (if isP z 3 = true ∧ bitsOk z.d = true ∧ z.d.getD 0 0 = 0 then some (z.d.drop 1) else none)) := HQ.out
      obtain ⟨IO, hIO⟩ : ∃ R, idS y = R := ⟨_, rfl⟩
      have HJ : Hid (∀ S rest, IO = some (S, rest) → rest.length ≤ 1 ∧ S.size ≤ 130000 ∧ ∀ y ∈ rest, y.d.length ≤ 6000 ∧ U8s y.d ∧ 0 ≤ y.tg) := fun S rest h => idS_good g0.2.1 g0.1 (hIO.trans h)
      have HB : Hid ((z.d.drop 1).length ≤ 6000 ∧ U8s (z.d.drop 1)) := ⟨by rw [List.length_drop]; have := g1.1; omega, g1.2.1.drop 1⟩
      rw [hIO] at HI HQ
      have kc : ((2 : Nat) : Int) ≤ (c : Int) := by simp at hc; omega
      obtain ⟨pz, hpz⟩ : ∃ p, isP z 3 = p := ⟨_, rfl⟩
      rw [hpz] at HP HQ
      obtain ⟨ycl, ytg, yco, yD, yR⟩ := y
      obtain ⟨zcl, ztg, zco, zD, zR⟩ := z
      simp only [List.length_cons, List.length_nil] at HI H4 HP HQ HB k0 k1 k2 k3 k4 ⊢
      clear hv hc hbl sd sr ht hc' hbl' e0 e1 e2 e3 e4 sd' sr' ht' HL g0 g1 hl2 hIO hpz
      go_wp2_with fail
      refine (HP.out _).mono ?_
      rintro e w3 ⟨rfl, hb3⟩
      have H3 : Hid (KW w w3 ∧ Below w2.heap.size w2 w3) := ⟨H2.out.below hb3, hb3⟩
      clear hb3 k0 k1 k2 k3 k4 HP
      cases pz with
      | false =>
        have HO : Hid (O = (ky0, 110)) := by show _ = _; rw [HQ.out, if_neg (by rintro ⟨h, _⟩; cases h)]; exact keyI_none _
        have H5 : Hid (KW w w3) := H3.out.1
        obtain ⟨⟨z0, z1, z2, z3, z4⟩, f0, f1, f2, f3, f4⟩ := key_celG H5.out.2
        clear HQ HJ HB HI H4
        go_wp2
        have hz := key_putG H5.out.2 H5.out.1 (Nat.le_succ _) ky0 (.slice none 0 0) (.slice none 0 0) (.slice none 0 0) (.slice none 0 0) (KyV.zero _)
        refine bodyPost_ret (results_blk2 rfl rfl hz.1 Tryz.underlying46 rfl Tryz.sizeKey rfl) rfl ⟨?_, hz.2.2⟩
        rw [HO.out]
        exact ⟨_, _, _, _, rfl, hz.2.1⟩
      | true =>
        obtain ⟨⟨e0, e1, e2, e3, e4⟩, hcall⟩ := HI.out w3 H3.out.2
        have HC : Hid (Calls Tryz.prog 23 #[.agg #[.int .i64 ycl, .int .i64 ytg, .bool yco, .slice p1 q1 r1, .slice p2 q2 r2]] w3 fun e w' => RdAns w' e IO ∧ Below w3.heap.size w3 w') := hcall
        clear hcall HI
        go_wp2_with fail
        refine HC.out.mono ?_
        rintro e w4 ⟨hrd, hb4⟩
        have H5 : Hid (KW w w4 ∧ Below w2.heap.size w2 w4) := ⟨H3.out.1.below hb4, below_via H3.out.2 hb4 (Nat.le_refl _)⟩
        obtain ⟨k3, hcall⟩ := H4.out w4 H5.out.2
        have HC2 : Hid (Calls Tryz.prog 33 #[.slice p3 q3 r3] w4 fun e w' => BitsAns w4.heap.size w' zD e ∧ Below w4.heap.size w4 w') := hcall
        clear hcall H4 hb4 HC e0 e1 e2 e3 e4
        cases IO with
        | none =>
          obtain ⟨s, ia, m, ic, rfl⟩ := hrd
          have HO : Hid (O = (ky0, 110)) := HQ.out
          clear HQ HJ HB
          go_wp2_with fail
          refine HC2.out.mono ?_
          rintro e w5 ⟨ha, hb5⟩
          obtain ⟨ba, bn, bc, sp, er, rfl, _⟩ := ha.uni
          have H6 : Hid (KW w w5) := H5.out.1.below hb5
          clear ha hb5 k3 HC2
          obtain ⟨⟨z0, z1, z2, z3, z4⟩, f0, f1, f2, f3, f4⟩ := key_celG H6.out.2
          go_wp2
          have hz := key_putG H6.out.2 H6.out.1 (Nat.le_succ _) ky0 (.slice none 0 0) (.slice none 0 0) (.slice none 0 0) (.slice none 0 0) (KyV.zero _)
          refine bodyPost_ret (results_blk2 rfl rfl hz.1 Tryz.underlying46 rfl Tryz.sizeKey rfl) rfl ⟨?_, hz.2.2⟩
          rw [HO.out]
          exact ⟨_, _, _, _, rfl, hz.2.1⟩
        | some SR =>
          obtain ⟨S, rest⟩ := SR
          obtain ⟨ia, m, ic, rfl, hn, hr⟩ := hrd
          have hl := HJ.out S rest rfl
          rw [hn] at hl
          have HK : Hid (rest.length = m ∧ m ≤ 1 ∧ TlvS w4 (.slice ia m ic) rest ∧ ∀ y ∈ rest, y.d.length ≤ 6000 ∧ U8s y.d ∧ 0 ≤ y.tg) := ⟨hn, hl.1, hr, hl.2.2⟩
          clear HJ hn hl hr
          go_wp2_with fail
          refine HC2.out.mono ?_
          rintro e w5 ⟨ha, hb5⟩
          obtain ⟨ba, bn, bc, sp, er, rfl, hcs⟩ := ha.uni
          have H6 : Hid (KW w w5 ∧ TlvS w5 (.slice ia m ic) rest) := ⟨H5.out.1.below hb5, HK.out.2.2.1.below hb5⟩
          have H6k : Hid (KW w w5) := H6.out.1
          clear ha hb5 k3 HC2 H3 H5
          rcases hcs with ⟨h1, rfl, hs, hsl⟩ | ⟨h1, rfl⟩
          rotate_left
          · have HO : Hid (O = (ky0, 110)) := by show _ = _; rw [HQ.out, if_neg (by rintro ⟨_, h, _⟩; rw [h1] at h; cases h)]; rfl
            clear h1
            obtain ⟨⟨z0, z1, z2, z3, z4⟩, f0, f1, f2, f3, f4⟩ := key_celG H6k.out.2
            clear HQ HB HK H6
            go_wp2
            have hz := key_putG H6k.out.2 H6k.out.1 (Nat.le_succ _) ky0 (.slice none 0 0) (.slice none 0 0) (.slice none 0 0) (.slice none 0 0) (KyV.zero _)
            refine bodyPost_ret (results_blk2 rfl rfl hz.1 Tryz.underlying46 rfl Tryz.sizeKey rfl) rfl ⟨?_, hz.2.2⟩
            rw [HO.out]
            exact ⟨_, _, _, _, rfl, hz.2.1⟩
          by_cases h0 : sp = 0
          rotate_left
          · have HO : Hid (O = (ky0, 110)) := by show _ = _; rw [HQ.out, if_neg (by rintro ⟨_, _, h⟩; exact h0 (hs.trans h))]; rfl
            have h00 : (sp != 0) = true := by simpa using h0
            clear h1 hs hsl h0
            obtain ⟨⟨z0, z1, z2, z3, z4⟩, f0, f1, f2, f3, f4⟩ := key_celG H6k.out.2
            clear HQ HB HK H6
            go_wp2
            have hz := key_putG H6k.out.2 H6k.out.1 (Nat.le_succ _) ky0 (.slice none 0 0) (.slice none 0 0) (.slice none 0 0) (.slice none 0 0) (KyV.zero _)
            refine bodyPost_ret (results_blk2 rfl rfl hz.1 Tryz.underlying46 rfl Tryz.sizeKey rfl) rfl ⟨?_, hz.2.2⟩
            rw [HO.out]
            exact ⟨_, _, _, _, rfl, hz.2.1⟩
          replace HQ : Hid (O = keyB S rest (zD.drop 1)) := by show _ = _; rw [HQ.out, if_pos ⟨by trivial, h1, hs.symm.trans h0⟩]; rfl
          subst h0
          have HS : Hid (Sl .u8 w5 (.slice ba bn bc) (zD.drop 1)) := hsl
          obtain ⟨B, hB⟩ : ∃ B, zD.drop 1 = B := ⟨_, rfl⟩
          rw [hB] at HQ HS HB
          clear h1 hs hsl hB
          cases g1 : (S.toList == [49, 46, 50, 46, 56, 52, 48, 46, 49, 49, 51, 53, 52, 57, 46, 49, 46, 49, 46, 49]) with
          | true =>
            have g2 : (S.toList == [49, 46, 50, 46, 56, 52, 48, 46, 49, 48, 48, 52, 53, 46, 50, 46, 49]) = false := by rw [eq_of_beq g1]; decide
            replace HQ : Hid (O = if vdB rest = true then rsaK B else (ky0, 110)) := by show _ = _; rw [HQ.out]; unfold keyB; rw [if_pos g1]
            have HV : Hid (Calls Tryz.prog 24 #[.slice ia m ic] w5 fun e w' => e = .returned (.bool (vdB rest)) ∧ Below w5.heap.size w5 w') := Rvoid_any ia m ic rest HK.out.1 H6.out.2 (by have := HK.out.2.1; omega)
            obtain ⟨vd, hvd⟩ : ∃ v, vdB rest = v := ⟨_, rfl⟩
            rw [hvd] at HQ HV
            clear hvd
            go_wp2_with fail
            refine HV.out.mono ?_
            rintro e w6 ⟨rfl, hb6⟩
            have H7 : Hid (KW w w6 ∧ Sl .u8 w6 (.slice ba bn bc) B) := ⟨H6.out.1.below hb6, below_sl hb6 HS.out⟩
            have H7k : Hid (KW w w6) := H7.out.1
            clear hb6 HV H6 H6k HS HK
            cases vd with
            | false =>
              have HO : Hid (O = (ky0, 110)) := HQ.out
              obtain ⟨⟨z0, z1, z2, z3, z4⟩, f0, f1, f2, f3, f4⟩ := key_celG H7k.out.2
              clear HQ HB H7
              go_wp2
              have hz := key_putG H7k.out.2 H7k.out.1 (Nat.le_succ _) ky0 (.slice none 0 0) (.slice none 0 0) (.slice none 0 0) (.slice none 0 0) (KyV.zero _)
              refine bodyPost_ret (results_blk2 rfl rfl hz.1 Tryz.underlying46 rfl Tryz.sizeKey rfl) rfl ⟨?_, hz.2.2⟩
              rw [HO.out]
              exact ⟨_, _, _, _, rfl, hz.2.1⟩
            | true =>
              replace HQ : Hid (O = rsaK B) := HQ.out
              have HOn : Hid (Calls Tryz.prog 18 #[.slice ba bn bc] w6 fun e w' => OneOutR w6.heap.size w' e (oneS (splitS B)) ∧ Below w6.heap.size w6 w') := ROne_any _ B H7.out.2 HB.out.2 (by have := HB.out.1; omega)
              have hy := oneS_good HB.out.2 HB.out.1
              obtain ⟨⟨t, er⟩, hte⟩ : ∃ ye, oneS (splitS B) = ye := ⟨_, rfl⟩
              replace HQ : Hid (O = if er = 0 then rsaR (rowS t) else (ky0, 80)) := by show _ = _; rw [HQ.out]; unfold rsaK; rw [hte]
              rw [hte] at HOn hy
              simp only [] at hy
              have HYg : Hid (t.d.length ≤ 6000 ∧ U8s t.d) := hy
              clear hte hy HB H7k g1 g2
              go_wp2_with fail
              refine HOn.out.mono ?_
              rintro e w7 ⟨⟨u1, m1, d1, u2, m2, d2, rfl, hd, hr⟩, hb7⟩
              have H8 : Hid (KW w w7 ∧ Sl .u8 w7 (.slice u1 m1 d1) t.d) := ⟨H7.out.1.below hb7, hd.sl⟩
              clear hb7 HOn hd hr H7
              simp only []
              have HR : Hid (∀ W, Below w7.heap.size w7 W → Calls Tryz.prog 31 #[.agg #[.int .i64 t.cl, .int .i64 t.tg, .bool t.co, .slice u1 m1 d1, .slice u2 m2 d2]] W fun e w' => RowAnsR W.heap.size w' e (rowS t) ∧ Below W.heap.size W w') := fun W h => Rrow_any t u1 m1 d1 _ (below_sl h H8.out.2) HYg.out.2 HYg.out.1
              obtain ⟨RO, hRO⟩ : ∃ R, rowS t = R := ⟨_, rfl⟩
              have HL : Hid (∀ L, RO = some L → ∀ z ∈ L, z.d.length ≤ 6000 ∧ U8s z.d ∧ 0 ≤ z.tg) := fun L h => rowS_good HYg.out.2 HYg.out.1 (hRO.trans h)
              rw [hRO] at HR HQ
              obtain ⟨tcl, ttg, tco, tD, tR⟩ := t
              simp only [] at HR ⊢
              clear hRO HYg
              go_upto_region 10 with (fail)
              refine wp_gen (fun W => Blk 24 W w7.heap.size [.int .i64 tcl, .int .i64 ttg, .bool tco, .slice u1 m1 d1, .slice u2 m2 d2] ∧ Below w7.heap.size w7 W) ⟨Blk.new _ w7 _, al1 _⟩ ?_
              rintro W8 ⟨hB, hBw⟩
              have H9 : Hid (KW w W8 ∧ Below w7.heap.size w7 W8) := ⟨H8.out.1.below hBw, hBw⟩
              have i0 : W8.cell? ⟨w7.heap.size, 0, none⟩ = some (.int .i64 tcl) := hB.cell 0
              have i1 : W8.cell? ⟨w7.heap.size, 1, none⟩ = some (.int .i64 ttg) := hB.cell 1
              have i2 : W8.cell? ⟨w7.heap.size, 2, none⟩ = some (.bool tco) := hB.cell 2
              have i3 : W8.cell? ⟨w7.heap.size, 3, none⟩ = some (.slice u1 m1 d1) := hB.cell 3
              have i4 : W8.cell? ⟨w7.heap.size, 4, none⟩ = some (.slice u2 m2 d2) := hB.cell 4
              clear hB hBw H8
              go_wp2_with fail
              refine (HR.out _ H9.out.2).mono ?_
              rintro e w9 ⟨ha, hb9⟩
              have H10 : Hid (KW w w9) := H9.out.1.below hb9
              clear hb9 i0 i1 i2 i3 i4 HR H9
              by_cases h0 : er = 0
              rotate_left
              · have HO : Hid (O = (ky0, 80)) := by show _ = _; rw [HQ.out, if_neg h0]
                have h00 : (er != 0) = true := by simpa using h0
                clear h0 HQ HL
                obtain ⟨ra, rn, rc, rb, rfl⟩ : ∃ a n c b, e = .returned (.tuple #[.slice a n c, .bool b]) := by
                  cases RO with
                  | none => obtain ⟨a, n, c, h⟩ := ha; exact ⟨a, n, c, false, h⟩
                  | some L => obtain ⟨v, h, hv⟩ := ha; obtain ⟨av, cv, rfl⟩ := hv.s.len; exact ⟨av, _, cv, true, h⟩
                clear ha
                obtain ⟨⟨z0, z1, z2, z3, z4⟩, f0, f1, f2, f3, f4⟩ := key_celG H10.out.2
                go_wp2
                have hz := key_putG H10.out.2 H10.out.1 (Nat.le_succ _) ky0 (.slice none 0 0) (.slice none 0 0) (.slice none 0 0) (.slice none 0 0) (KyV.zero _)
                refine bodyPost_ret (results_blk2 rfl rfl hz.1 Tryz.underlying46 rfl Tryz.sizeKey rfl) rfl ⟨?_, hz.2.2⟩
                rw [HO.out]
                exact ⟨_, _, _, _, rfl, hz.2.1⟩
              subst h0
              replace HQ : Hid (O = rsaR RO) := HQ.out
              cases RO with
              | none =>
                obtain ⟨ra, rn, rc, rfl⟩ := ha
                have HO : Hid (O = (ky0, 80)) := HQ.out
                obtain ⟨⟨z0, z1, z2, z3, z4⟩, f0, f1, f2, f3, f4⟩ := key_celG H10.out.2
                clear HQ HL
                go_wp2
                have hz := key_putG H10.out.2 H10.out.1 (Nat.le_succ _) ky0 (.slice none 0 0) (.slice none 0 0) (.slice none 0 0) (.slice none 0 0) (KyV.zero _)
                refine bodyPost_ret (results_blk2 rfl rfl hz.1 Tryz.underlying46 rfl Tryz.sizeKey rfl) rfl ⟨?_, hz.2.2⟩
                rw [HO.out]
                exact ⟨_, _, _, _, rfl, hz.2.1⟩
              | some L =>
                obtain ⟨v, rfl, hv⟩ := ha
                by_cases hl2 : L.length = 2
                rotate_left
                · have HO : Hid (O = (ky0, 80)) := by
                    show _ = _
                    rw [HQ.out]
                    rcases L with _ | ⟨a, _ | ⟨b, _ | ⟨c, L⟩⟩⟩
                    · rfl
                    · rfl
                    · simp at hl2
                    · rfl
                  obtain ⟨av, cv, rfl⟩ := hv.s.len
                  obtain ⟨kl, hkl⟩ : ∃ k, L.length = k := ⟨_, rfl⟩
                  rw [hkl]
                  have hk2 : ((kl : Int) != 2) = true := by simp; omega
                  clear hkl hl2 hv
                  obtain ⟨⟨z0, z1, z2, z3, z4⟩, f0, f1, f2, f3, f4⟩ := key_celG H10.out.2
                  clear HQ HL
                  go_wp2
                  have hz := key_putG H10.out.2 H10.out.1 (Nat.le_succ _) ky0 (.slice none 0 0) (.slice none 0 0) (.slice none 0 0) (.slice none 0 0) (KyV.zero _)
                  refine bodyPost_ret (results_blk2 rfl rfl hz.1 Tryz.underlying46 rfl Tryz.sizeKey rfl) rfl ⟨?_, hz.2.2⟩
                  rw [HO.out]
                  exact ⟨_, _, _, _, rfl, hz.2.1⟩
                obtain ⟨y, z, rfl⟩ : ∃ a b, L = [a, b] := by
                  rcases L with _ | ⟨a, _ | ⟨b, _ | ⟨c, L⟩⟩⟩
                  · simp at hl2
                  · simp at hl2
                  · exact ⟨a, b, rfl⟩
                  · simp at hl2
                have g0 := HL.out _ rfl y (by simp)
                have g1 := HL.out _ rfl z (by simp)
                obtain ⟨b, off, c, p1, q1, r1, p2, q2, r2, rfl, hc, hbl, e0, e1, e2, e3, e4, sd, sr, ht⟩ := hv.s.cons
                obtain ⟨b', off', c', p3, q3, r3, p4, q4, r4, hvv, hc', hbl', k0, k1, k2, k3, k4, sd', sr', ht'⟩ := ht.cons
                simp only [Value.slice.injEq, Option.some.injEq, Addr.mk.injEq] at hvv
                obtain ⟨⟨rfl, rfl, _⟩, _, rfl⟩ := hvv
                have HP0 : Hid (∀ W : World, Calls Tryz.prog 32 #[.agg #[.int .i64 y.cl, .int .i64 y.tg, .bool y.co, .slice p1 q1 r1, .slice p2 q2 r2], .int .i64 2] W fun e w' => e = .returned (.bool (isP y 2)) ∧ Below W.heap.size W w') := fun W => RIs_any y _ _ 2
                have HP1 : Hid (∀ W : World, Calls Tryz.prog 32 #[.agg #[.int .i64 z.cl, .int .i64 z.tg, .bool z.co, .slice p3 q3 r3, .slice p4 q4 r4], .int .i64 2] W fun e w' => e = .returned (.bool (isP z 2)) ∧ Below W.heap.size W w') := fun W => RIs_any z _ _ 2
                have HM : Hid (∀ W, Below w9.heap.size w9 W → (W.cell? ⟨b, off + 5, none⟩ = some (.int .i64 z.cl) ∧ W.cell? ⟨b, off + 5 + 1, none⟩ = some (.int .i64 z.tg) ∧ W.cell? ⟨b, off + 5 + 2, none⟩ = some (.bool z.co) ∧ W.cell? ⟨b, off + 5 + 3, none⟩ = some (.slice p3 q3 r3) ∧ W.cell? ⟨b, off + 5 + 4, none⟩ = some (.slice p4 q4 r4)) ∧ W.cell? ⟨b, off + 3, none⟩ = some (.slice p1 q1 r1)) := fun W h => ⟨⟨(h.cell hbl).trans k0, (h.cell hbl).trans k1, (h.cell hbl).trans k2, (h.cell hbl).trans k3, (h.cell hbl).trans k4⟩, (h.cell hbl).trans e3⟩
                have HU0 : Hid (∀ W, Below w9.heap.size w9 W → Calls Tryz.prog 34 #[.slice p1 q1 r1] W fun e w' => UAns y.d W w' e) := fun W h => RUint_any _ y.d (below_sl h sd) g0.2.1 (by have := g0.1; omega)
                have HU1 : Hid (∀ W, Below w9.heap.size w9 W → Calls Tryz.prog 34 #[.slice p3 q3 r3] W fun e w' => UAns z.d W w' e) := fun W h => RUint_any _ z.d (below_sl h sd') g1.2.1 (by have := g1.1; omega)
                replace HQ : Hid (O = rsa2 (if isP y 2 = true ∧ (uintS y.d).2 = 0 then some (uintS y.d).1 else none) (if isP z 2 = true ∧ (uintS z.d).2 = 0 then some (uintS z.d).1 else none)) := HQ.out
                have HW : Hid ((U32s (uintS y.d).1 ∧ (uintS y.d).1.length ≤ 512) ∧ U32s (uintS z.d).1 ∧ (uintS z.d).1.length ≤ 512) := ⟨⟨uintS_u32 _, uintS_len g0.2.1⟩, uintS_u32 _, uintS_len g1.2.1⟩
                have kc : ((2 : Nat) : Int) ≤ (c : Int) := by simp at hc; omega
                obtain ⟨py, hpy⟩ : ∃ p, isP y 2 = p := ⟨_, rfl⟩
                obtain ⟨pz, hpz⟩ : ∃ p, isP z 2 = p := ⟨_, rfl⟩
                rw [hpy] at HP0 HQ
                rw [hpz] at HP1 HQ
                obtain ⟨ycl, ytg, yco, yD, yR⟩ := y
                obtain ⟨zcl, ztg, zco, zD', zR'⟩ := z
                simp only [List.length_cons, List.length_nil] at HP0 HP1 HM HU0 HU1 HW HQ e0 e1 e2 e3 e4 ⊢
                clear hv hc hbl sd sr ht hc' hbl' k0 k1 k2 k3 k4 sd' sr' ht' HL g0 g1 hl2 hpy hpz
                go_wp2_with fail
                refine (HP0.out _).mono ?_
                rintro e w10 ⟨rfl, hb10⟩
                have H11 : Hid (KW w w10 ∧ Below w9.heap.size w9 w10) := ⟨H10.out.below hb10, hb10⟩
                have H11k : Hid (KW w w10) := H11.out.1
                clear hb10 e0 e1 e2 e3 e4 HP0 H10
                cases py with
                | false =>
                  have HO : Hid (O = (ky0, 80)) := by show _ = _; rw [HQ.out, if_neg (by rintro ⟨h, _⟩; cases h)]; rfl
                  obtain ⟨⟨z0, z1, z2, z3, z4⟩, f0, f1, f2, f3, f4⟩ := key_celG H11k.out.2
                  clear HQ HM HU0 HU1 HW HP1 H11
                  go_wp2
                  have hz := key_putG H11k.out.2 H11k.out.1 (Nat.le_succ _) ky0 (.slice none 0 0) (.slice none 0 0) (.slice none 0 0) (.slice none 0 0) (KyV.zero _)
                  refine bodyPost_ret (results_blk2 rfl rfl hz.1 Tryz.underlying46 rfl Tryz.sizeKey rfl) rfl ⟨?_, hz.2.2⟩
                  rw [HO.out]
                  exact ⟨_, _, _, _, rfl, hz.2.1⟩
                | true =>
                  obtain ⟨⟨k0, k1, k2, k3, k4⟩, _⟩ := HM.out w10 H11.out.2
                  go_wp2_with fail
                  refine (HP1.out _).mono ?_
                  rintro e w11 ⟨rfl, hb11⟩
                  have H12 : Hid (KW w w11 ∧ Below w9.heap.size w9 w11) := ⟨H11k.out.below hb11, below_via H11.out.2 hb11 (Nat.le_refl _)⟩
                  have H12k : Hid (KW w w11) := H12.out.1
                  clear hb11 k0 k1 k2 k3 k4 HP1 H11 H11k
                  cases pz with
                  | false =>
                    have HO : Hid (O = (ky0, 80)) := by show _ = _; rw [HQ.out, if_neg (c := _ ∧ (uintS zD').2 = 0) (by rintro ⟨h, _⟩; cases h)]; exact rsa2_none _
                    obtain ⟨⟨z0, z1, z2, z3, z4⟩, f0, f1, f2, f3, f4⟩ := key_celG H12k.out.2
                    clear HQ HM HU0 HU1 HW H12
                    go_wp2
                    have hz := key_putG H12k.out.2 H12k.out.1 (Nat.le_succ _) ky0 (.slice none 0 0) (.slice none 0 0) (.slice none 0 0) (.slice none 0 0) (KyV.zero _)
                    refine bodyPost_ret (results_blk2 rfl rfl hz.1 Tryz.underlying46 rfl Tryz.sizeKey rfl) rfl ⟨?_, hz.2.2⟩
                    rw [HO.out]
                    exact ⟨_, _, _, _, rfl, hz.2.1⟩
                  | true =>
                    obtain ⟨_, e3⟩ := HM.out w11 H12.out.2
                    go_wp2_with fail
                    refine (HU0.out _ H12.out.2).mono ?_
                    rintro e w12 ⟨⟨r0, rfl, hr0⟩, hb12⟩
                    obtain ⟨na, nc, hrr⟩ := hr0.formK
                    obtain ⟨nn, hnn⟩ : ∃ k, (uintS yD).1.length = k := ⟨_, rfl⟩
                    rw [hnn] at hrr
                    subst hrr
                    have H13 : Hid (KW w w12 ∧ Below w9.heap.size w9 w12 ∧ Sl .u32 w12 (.slice na nn nc) (uintS yD).1 ∧ (uintS yD).1.length = nn) := ⟨H12.out.1.below hb12, below_via H12.out.2 hb12 (Nat.le_refl _), hr0, hnn⟩
                    clear hb12 hr0 hnn e3 HU0 H12 H12k
                    obtain ⟨⟨_, _, _, k3, _⟩, _⟩ := HM.out w12 H13.out.2.1
                    go_wp2_with fail
                    refine (HU1.out _ H13.out.2.1).mono ?_
                    rintro e w13 ⟨⟨r1, rfl, hr1⟩, hb13⟩
                    obtain ⟨ea, ec, hrr⟩ := hr1.formK
                    obtain ⟨en, hen⟩ : ∃ k, (uintS zD').1.length = k := ⟨_, rfl⟩
                    rw [hen] at hrr
                    subst hrr
                    have H14 : Hid (KW w w13 ∧ (Sl .u32 w13 (.slice na nn nc) (uintS yD).1 ∧ (uintS yD).1.length = nn) ∧ Sl .u32 w13 (.slice ea en ec) (uintS zD').1 ∧ (uintS zD').1.length = en) := ⟨H13.out.1.below hb13, ⟨below_sl hb13 H13.out.2.2.1, H13.out.2.2.2⟩, hr1, hen⟩
                    clear hb13 hr1 hen k3 HU1 H13 HM
                    obtain ⟨NS, hNS⟩ : ∃ N, (uintS yD).1 = N := ⟨_, rfl⟩
                    obtain ⟨ES, hES⟩ : ∃ N, (uintS zD').1 = N := ⟨_, rfl⟩
                    obtain ⟨f0', hf0⟩ : ∃ N, (uintS yD).2 = N := ⟨_, rfl⟩
                    obtain ⟨f1', hf1⟩ : ∃ N, (uintS zD').2 = N := ⟨_, rfl⟩
                    rw [hNS, hES] at H14 HW HQ
                    rw [hf0, hf1] at HQ
                    rw [hf0, hf1]
                    clear hNS hES hf0 hf1
                    go_upto_region 16 with (fail)
                    refine wp_gen (fun W => Blk 42 W w13.heap.size [.slice na nn nc, .slice ea en ec] ∧ Below w13.heap.size w13 W) ⟨Blk.new _ w13 _, al1 _⟩ ?_
                    rintro W14 ⟨hB, hBw⟩
                    have H15 : Hid (KW w W14 ∧ Blk 42 W14 w13.heap.size [.slice na nn nc, .slice ea en ec] ∧ (Sl .u32 W14 (.slice na nn nc) NS ∧ NS.length = nn) ∧ Sl .u32 W14 (.slice ea en ec) ES ∧ ES.length = en) := ⟨H14.out.1.below hBw, hB, ⟨below_sl hBw H14.out.2.1.1, H14.out.2.1.2⟩, below_sl hBw H14.out.2.2.1, H14.out.2.2.2⟩
                    have H15k : Hid (KW w W14) := H15.out.1
                    have j0 : W14.cell? ⟨w13.heap.size, 0, none⟩ = some (.slice na nn nc) := hB.cell 0
                    have j1 : W14.cell? ⟨w13.heap.size, 1, none⟩ = some (.slice ea en ec) := hB.cell 1
                    clear hB hBw H14
                    by_cases h0 : f0' = 0
                    rotate_left
                    · have HO : Hid (O = (ky0, 80)) := by show _ = _; rw [HQ.out, if_neg (by rintro ⟨_, h⟩; exact h0 h)]; rfl
                      have h00 : (f0' != 0) = true := by simpa using h0
                      clear h0
                      obtain ⟨⟨z0, z1, z2, z3, z4⟩, f0, f1, f2, f3, f4⟩ := key_celG H15k.out.2
                      clear HQ HW H15 j0 j1
                      go_wp2
                      have hz := key_putG H15k.out.2 H15k.out.1 (Nat.le_succ _) ky0 (.slice none 0 0) (.slice none 0 0) (.slice none 0 0) (.slice none 0 0) (KyV.zero _)
                      refine bodyPost_ret (results_blk2 rfl rfl hz.1 Tryz.underlying46 rfl Tryz.sizeKey rfl) rfl ⟨?_, hz.2.2⟩
                      rw [HO.out]
                      exact ⟨_, _, _, _, rfl, hz.2.1⟩
                    by_cases h1 : f1' = 0
                    rotate_left
                    · have HO : Hid (O = (ky0, 80)) := by show _ = _; rw [HQ.out, if_neg (c := _ ∧ f1' = 0) (by rintro ⟨_, h⟩; exact h1 h)]; exact rsa2_none _
                      have h10 : (f1' != 0) = true := by simpa using h1
                      subst h0
                      clear h1
                      obtain ⟨⟨z0, z1, z2, z3, z4⟩, f0, f1, f2, f3, f4⟩ := key_celG H15k.out.2
                      clear HQ HW H15 j0 j1
                      go_wp2
                      have hz := key_putG H15k.out.2 H15k.out.1 (Nat.le_succ _) ky0 (.slice none 0 0) (.slice none 0 0) (.slice none 0 0) (.slice none 0 0) (KyV.zero _)
                      refine bodyPost_ret (results_blk2 rfl rfl hz.1 Tryz.underlying46 rfl Tryz.sizeKey rfl) rfl ⟨?_, hz.2.2⟩
                      rw [HO.out]
                      exact ⟨_, _, _, _, rfl, hz.2.1⟩
                    subst h0 h1
                    replace HQ : Hid (O = if keyOk NS ES = true then (⟨0, NS, ES, 0, 0⟩, 0) else (ky0, 80)) := HQ.out
                    have HC : Hid (Calls Tryz.prog 35 #[.agg #[.slice na nn nc, .slice ea en ec]] W14 fun e w' => e = .returned (.int .i64 (if keyOk NS ES then 0 else 80)) ∧ Below W14.heap.size W14 w') := RCheck_any na ea nn nc en ec NS ES H15.out.2.2.1.1 HW.out.1.1 H15.out.2.2.1.2 H15.out.2.2.2.1 HW.out.2.1 H15.out.2.2.2.2 (by have := H15.out.2.2.1.2; have := HW.out.1.2; omega) (by have := H15.out.2.2.2.2; have := HW.out.2.2; omega)
                    clear HW
                    go_wp2_with fail
                    refine HC.out.mono ?_
                    rintro e w15 ⟨rfl, hb15⟩
                    have H16 : Hid (KW w w15 ∧ KyV w15 ⟨0, NS, ES, 0, 0⟩ (.slice na nn nc) (.slice ea en ec) (.slice none 0 0) (.slice none 0 0)) := ⟨H15k.out.below hb15, below_sl hb15 H15.out.2.2.1.1, below_sl hb15 H15.out.2.2.2.1, nil_nb _, nil_nb _⟩
                    have H16k : Hid (KW w w15) := H16.out.1
                    have l0 : w15.cell? ⟨w13.heap.size, 0, none⟩ = some (.slice na nn nc) := (below_blk hb15 H15.out.2.1.lt H15.out.2.1).cell 0
                    have l1 : w15.cell? ⟨w13.heap.size, 1, none⟩ = some (.slice ea en ec) := (below_blk hb15 H15.out.2.1.lt H15.out.2.1).cell 1
                    clear hb15 j0 j1 HC H15 H15k
                    cases hk : keyOk NS ES with
                    | true =>
                      have HO : Hid (O = (⟨0, NS, ES, 0, 0⟩, 0)) := by show _ = _; rw [HQ.out, if_pos hk]
                      obtain ⟨⟨z0, z1, z2, z3, z4⟩, f0, f1, f2, f3, f4⟩ := key_celG H16.out.1.2
                      clear HQ hk
                      simp only [if_true]
                      go_wp2
                      have hz := key_putG H16.out.1.2 H16.out.1.1 (Nat.le_succ _) ⟨0, NS, ES, 0, 0⟩ _ _ _ _ H16.out.2
                      refine bodyPost_ret (results_blk2 rfl rfl hz.1 Tryz.underlying46 rfl Tryz.sizeKey rfl) rfl ⟨?_, hz.2.2⟩
                      rw [HO.out]
                      exact ⟨_, _, _, _, rfl, hz.2.1⟩
                    | false =>
                      have HO : Hid (O = (ky0, 80)) := by show _ = _; rw [HQ.out, hk]; rfl
                      clear HQ hk l0 l1
                      simp only [Bool.false_eq_true, if_false]
                      obtain ⟨⟨z0, z1, z2, z3, z4⟩, f0, f1, f2, f3, f4⟩ := key_celG H16k.out.2
                      clear H16
                      go_wp2
                      have hz := key_putG H16k.out.2 H16k.out.1 (Nat.le_succ _) ky0 (.slice none 0 0) (.slice none 0 0) (.slice none 0 0) (.slice none 0 0) (KyV.zero _)
                      refine bodyPost_ret (results_blk2 rfl rfl hz.1 Tryz.underlying46 rfl Tryz.sizeKey rfl) rfl ⟨?_, hz.2.2⟩
                      rw [HO.out]
                      exact ⟨_, _, _, _, rfl, hz.2.1⟩
          | false =>
            cases g2 : (S.toList == [49, 46, 50, 46, 56, 52, 48, 46, 49, 48, 48, 52, 53, 46, 50, 46, 49]) with
            | false =>
              have HO : Hid (O = (ky0, 110)) := by show _ = _; rw [HQ.out]; unfold keyB; rw [if_neg (by rw [g1]; decide), if_neg (by rw [g2]; decide)]
              obtain ⟨⟨z0, z1, z2, z3, z4⟩, f0, f1, f2, f3, f4⟩ := key_celG H6k.out.2
              clear HQ HB HK H6 HS
              go_wp2
              have hz := key_putG H6k.out.2 H6k.out.1 (Nat.le_succ _) ky0 (.slice none 0 0) (.slice none 0 0) (.slice none 0 0) (.slice none 0 0) (KyV.zero _)
              refine bodyPost_ret (results_blk2 rfl rfl hz.1 Tryz.underlying46 rfl Tryz.sizeKey rfl) rfl ⟨?_, hz.2.2⟩
              rw [HO.out]
              exact ⟨_, _, _, _, rfl, hz.2.1⟩
            | true =>
              replace HQ : Hid (O = if crvO rest = 0 then (ky0, 110) else ptK (crvO rest) B) := by show _ = _; rw [HQ.out]; unfold keyB; rw [if_neg (by rw [g1]; decide), if_pos g2]
              rcases rest with _ | ⟨y, _ | ⟨z, rest⟩⟩
              · obtain rfl : m = 0 := HK.out.1.symm
                have HO : Hid (O = (ky0, 110)) := HQ.out
                obtain ⟨⟨z0, z1, z2, z3, z4⟩, f0, f1, f2, f3, f4⟩ := key_celG H6k.out.2
                clear HQ HB HK H6 HS
                go_wp2
                have hz := key_putG H6k.out.2 H6k.out.1 (Nat.le_succ _) ky0 (.slice none 0 0) (.slice none 0 0) (.slice none 0 0) (.slice none 0 0) (KyV.zero _)
                refine bodyPost_ret (results_blk2 rfl rfl hz.1 Tryz.underlying46 rfl Tryz.sizeKey rfl) rfl ⟨?_, hz.2.2⟩
                rw [HO.out]
                exact ⟨_, _, _, _, rfl, hz.2.1⟩
              rotate_left
              · exact absurd HK.out.1 (by have := HK.out.2.1; simp; omega)
              · obtain rfl : m = 1 := HK.out.1.symm
                obtain ⟨b9, off9, c9, b1, m1, d1, b2, m2, d2, hvv, hc, hbl, e0, e1, e2, e3, e4, sd, sr, ht⟩ := H6.out.2.cons
                simp only [Value.slice.injEq] at hvv
                obtain ⟨rfl, hx1, rfl⟩ := hvv
                have hy := HK.out.2.2.2 y (by simp)
                have HP : Hid (∀ W : World, Calls Tryz.prog 32 #[.agg #[.int .i64 y.cl, .int .i64 y.tg, .bool y.co, .slice b1 m1 d1, .slice b2 m2 d2], .int .i64 6] W fun e w' => e = .returned (.bool (isP y 6)) ∧ Below W.heap.size W w') := fun W => RIs_any y _ _ 6
                have HOi : Hid (∀ W, Below w5.heap.size w5 W → W.cell? ⟨b9, off9 + 3, none⟩ = some (.slice b1 m1 d1) ∧ Calls Tryz.prog 36 #[.slice b1 m1 d1] W fun e w' => e = .returned (.tuple #[.string (strOfNums (oidF y.d).1), .int .i64 (oidF y.d).2]) ∧ Below W.heap.size W w') := fun W h => ⟨(h.cell hbl).trans e3, (ROid_any _ y.d (below_sl h sd) hy.2.1 hy.1).mono fun e w' ⟨⟨s, er, h1, h2⟩, hb⟩ => ⟨by obtain ⟨e1, e2⟩ := oidF_of h1; rw [h2, e1, e2], hb⟩⟩
                have HPt : Hid (∀ W c, Below w5.heap.size w5 W → Calls Tryz.prog 37 #[.int .i64 c, .slice ba bn bc] W (PrsA W c B)) := fun W c h => RParse_any c ba bn bc B (below_sl h HS.out) HB.out.2
                obtain ⟨KC, hKC⟩ : ∃ K, crvO [y] = K := ⟨_, rfl⟩
                have HC : Hid (KC = crvN1 (if isP y 6 = true ∧ (oidF y.d).2 = 0 then some (strOfNums (oidF y.d).1) else none)) := by show _ = _; rw [← hKC]; rfl
                rw [hKC] at HQ
                obtain ⟨p, hp⟩ : ∃ p, isP y 6 = p := ⟨_, rfl⟩
                rw [hp] at HP HC
                obtain ⟨T, hT⟩ : ∃ S, strOfNums (oidF y.d).1 = S := ⟨_, rfl⟩
                obtain ⟨er, her⟩ : ∃ er, (oidF y.d).2 = er := ⟨_, rfl⟩
                rw [hT, her] at HOi HC
                obtain ⟨ycl, ytg, yco, yD, yR⟩ := y
                have kc : ((1 : Nat) : Int) ≤ (ic : Int) := by simp at hc; omega
                simp only [] at HP e0 e1 e2 e3 e4
                clear hx1 hc hbl sd sr ht hy hKC hp hT her HK HB HS H6
                go_wp2_with fail
                refine (HP.out _).mono ?_
                rintro e w6 ⟨rfl, hb6⟩
                have H7 : Hid (KW w w6 ∧ Below w5.heap.size w5 w6) := ⟨H6k.out.below hb6, hb6⟩
                have H7k : Hid (KW w w6) := H7.out.1
                clear hb6 e0 e1 e2 e3 e4 HP H6k
                cases p with
                | false =>
                  have HO : Hid (O = (ky0, 110)) := by show _ = _; rw [HQ.out, if_pos]; rw [HC.out]; simp [crvN1]
                  obtain ⟨⟨z0, z1, z2, z3, z4⟩, f0, f1, f2, f3, f4⟩ := key_celG H7k.out.2
                  clear HQ HC HOi HPt H7
                  go_wp2
                  have hz := key_putG H7k.out.2 H7k.out.1 (Nat.le_succ _) ky0 (.slice none 0 0) (.slice none 0 0) (.slice none 0 0) (.slice none 0 0) (KyV.zero _)
                  refine bodyPost_ret (results_blk2 rfl rfl hz.1 Tryz.underlying46 rfl Tryz.sizeKey rfl) rfl ⟨?_, hz.2.2⟩
                  rw [HO.out]
                  exact ⟨_, _, _, _, rfl, hz.2.1⟩
                | true =>
                  obtain ⟨e3, hcall⟩ := HOi.out w6 H7.out.2
                  have HCo : Hid (Calls Tryz.prog 36 #[.slice b1 m1 d1] w6 fun e w' => e = .returned (.tuple #[.string T, .int .i64 er]) ∧ Below w6.heap.size w6 w') := hcall
                  clear hcall HOi
                  go_wp2_with fail
                  refine HCo.out.mono ?_
                  rintro e w7 ⟨rfl, hb7⟩
                  have H8 : Hid (KW w w7 ∧ Below w5.heap.size w5 w7) := ⟨H7k.out.below hb7, below_via H7.out.2 hb7 (Nat.le_refl _)⟩
                  have H8k : Hid (KW w w7) := H8.out.1
                  clear hb7 e3 HCo H7 H7k
                  by_cases h0 : er = 0
                  rotate_left
                  · have HO : Hid (O = (ky0, 110)) := by show _ = _; rw [HQ.out, if_pos]; rw [HC.out, if_neg (by rintro ⟨_, h⟩; exact h0 h)]; rfl
                    have h00 : (er == 0) = false := by simpa using h0
                    clear h0
                    obtain ⟨⟨z0, z1, z2, z3, z4⟩, f0, f1, f2, f3, f4⟩ := key_celG H8k.out.2
                    clear HQ HC HPt H8
                    go_wp2
                    have hz := key_putG H8k.out.2 H8k.out.1 (Nat.le_succ _) ky0 (.slice none 0 0) (.slice none 0 0) (.slice none 0 0) (.slice none 0 0) (KyV.zero _)
                    refine bodyPost_ret (results_blk2 rfl rfl hz.1 Tryz.underlying46 rfl Tryz.sizeKey rfl) rfl ⟨?_, hz.2.2⟩
                    rw [HO.out]
                    exact ⟨_, _, _, _, rfl, hz.2.1⟩
                  subst h0
                  replace HC : Hid (KC = crvN1 (some T)) := by show _ = _; rw [HC.out, if_pos ⟨by trivial, by trivial⟩]
                  cases t1 : (T.toList == [49, 46, 50, 46, 56, 52, 48, 46, 49, 48, 48, 52, 53, 46, 51, 46, 49, 46, 55]) with
                  | true =>
                    have t2 : (T.toList == [49, 46, 51, 46, 49, 51, 50, 46, 48, 46, 51, 52]) = false := by rw [eq_of_beq t1]; decide
                    have HV : Hid (KC = 1) := by show _ = _; rw [HC.out]; simp [crvN1, t1]
                    replace HQ : Hid (O = ptK 1 B) := by show _ = _; rw [HQ.out, HV.out]; rfl
                    replace HQ : Hid (O = if (prsS 1 B).2.2 = 0 then (⟨1, [], [], (prsS 1 B).1, (prsS 1 B).2.1⟩, 0) else (ky0, 80)) := HQ.out
                    clear HV HC
                    go_wp2_with fail
                    refine (HPt.out _ _ H8.out.2).mono ?_
                    rintro e w8 ⟨r0, r1, rfl, h0, h1, hb8⟩
                    obtain ⟨x1, m3, d3, rfl⟩ : ∃ a n c, r0 = .slice a n c := by obtain ⟨a, c, h, _⟩ := h0; exact ⟨a, _, c, h⟩
                    obtain ⟨x2, m4, d4, rfl⟩ : ∃ a n c, r1 = .slice a n c := by obtain ⟨a, c, h, _⟩ := h1; exact ⟨a, _, c, h⟩
                    have H9 : Hid (KW w w8 ∧ Nb w8 (.slice x1 m3 d3) (prsS 1 B).1 ∧ Nb w8 (.slice x2 m4 d4) (prsS 1 B).2.1) := ⟨H8k.out.below hb8, h0, h1⟩
                    obtain ⟨er, her⟩ : ∃ er, (prsS 1 B).2.2 = er := ⟨_, rfl⟩
                    rw [her] at HQ ⊢
                    clear hb8 h0 h1 HPt her H8 H8k
                    simp only [List.toArray]
                    go_upto_region 30 with (fail)
                    refine wp_gen (fun W => Blk 44 W w8.heap.size [.slice x1 m3 d3, .slice x2 m4 d4] ∧ Below w8.heap.size w8 W) ⟨Blk.new _ w8 _, al1 _⟩ ?_
                    rintro W9 ⟨hB, hBw⟩
                    have H10 : Hid (KW w W9 ∧ Nb W9 (.slice x1 m3 d3) (prsS 1 B).1 ∧ Nb W9 (.slice x2 m4 d4) (prsS 1 B).2.1) := ⟨H9.out.1.below hBw, H9.out.2.1.below hBw, H9.out.2.2.below hBw⟩
                    have H10k : Hid (KW w W9) := H10.out.1
                    have i0 : W9.cell? ⟨w8.heap.size, 0, none⟩ = some (.slice x1 m3 d3) := hB.cell 0
                    have i1 : W9.cell? ⟨w8.heap.size, 1, none⟩ = some (.slice x2 m4 d4) := hB.cell 1
                    clear hB hBw H9
                    by_cases he : er = 0
                    · subst he
                      have HO : Hid (O = (⟨1, [], [], (prsS 1 B).1, (prsS 1 B).2.1⟩, 0)) := HQ.out
                      obtain ⟨⟨z0, z1, z2, z3, z4⟩, f0, f1, f2, f3, f4⟩ := key_celG H10.out.1.2
                      clear HQ
                      go_wp2
                      have hz := key_putG H10.out.1.2 H10.out.1.1 (Nat.le_succ _) ⟨1, [], [], (prsS 1 B).1, (prsS 1 B).2.1⟩ (.slice none 0 0) (.slice none 0 0) (.slice x1 m3 d3) (.slice x2 m4 d4) ⟨Sl.nilA _ _, Sl.nilA _ _, H10.out.2.1, H10.out.2.2⟩
                      refine bodyPost_ret (results_blk2 rfl rfl hz.1 Tryz.underlying46 rfl Tryz.sizeKey rfl) rfl ⟨?_, hz.2.2⟩
                      rw [HO.out]
                      exact ⟨_, _, _, _, rfl, hz.2.1⟩
                    · have he' : (er != 0) = true := by simpa using he
                      have HO : Hid (O = (ky0, 80)) := by show _ = _; rw [HQ.out, if_neg he]
                      clear HQ he i0 i1 H10
                      obtain ⟨⟨z0, z1, z2, z3, z4⟩, f0, f1, f2, f3, f4⟩ := key_celG H10k.out.2
                      go_wp2
                      have hz := key_putG H10k.out.2 H10k.out.1 (Nat.le_succ _) ky0 (.slice none 0 0) (.slice none 0 0) (.slice none 0 0) (.slice none 0 0) (KyV.zero _)
                      refine bodyPost_ret (results_blk2 rfl rfl hz.1 Tryz.underlying46 rfl Tryz.sizeKey rfl) rfl ⟨?_, hz.2.2⟩
                      rw [HO.out]
                      exact ⟨_, _, _, _, rfl, hz.2.1⟩
                  | false =>
                    cases t2 : (T.toList == [49, 46, 51, 46, 49, 51, 50, 46, 48, 46, 51, 52]) with
                    | true =>
                      have HV : Hid (KC = 2) := by show _ = _; rw [HC.out]; simp [crvN1, t1, t2]
                      replace HQ : Hid (O = ptK 2 B) := by show _ = _; rw [HQ.out, HV.out]; rfl
                      replace HQ : Hid (O = if (prsS 2 B).2.2 = 0 then (⟨2, [], [], (prsS 2 B).1, (prsS 2 B).2.1⟩, 0) else (ky0, 80)) := HQ.out
                      clear HV HC
                      go_wp2_with fail
                      refine (HPt.out _ _ H8.out.2).mono ?_
                      rintro e w8 ⟨r0, r1, rfl, h0, h1, hb8⟩
                      obtain ⟨x1, m3, d3, rfl⟩ : ∃ a n c, r0 = .slice a n c := by obtain ⟨a, c, h, _⟩ := h0; exact ⟨a, _, c, h⟩
                      obtain ⟨x2, m4, d4, rfl⟩ : ∃ a n c, r1 = .slice a n c := by obtain ⟨a, c, h, _⟩ := h1; exact ⟨a, _, c, h⟩
                      have H9 : Hid (KW w w8 ∧ Nb w8 (.slice x1 m3 d3) (prsS 2 B).1 ∧ Nb w8 (.slice x2 m4 d4) (prsS 2 B).2.1) := ⟨H8k.out.below hb8, h0, h1⟩
                      obtain ⟨er, her⟩ : ∃ er, (prsS 2 B).2.2 = er := ⟨_, rfl⟩
                      rw [her] at HQ ⊢
                      clear hb8 h0 h1 HPt her H8 H8k
                      simp only [List.toArray]
                      go_upto_region 30 with (fail)
                      refine wp_gen (fun W => Blk 44 W w8.heap.size [.slice x1 m3 d3, .slice x2 m4 d4] ∧ Below w8.heap.size w8 W) ⟨Blk.new _ w8 _, al1 _⟩ ?_
                      rintro W9 ⟨hB, hBw⟩
                      have H10 : Hid (KW w W9 ∧ Nb W9 (.slice x1 m3 d3) (prsS 2 B).1 ∧ Nb W9 (.slice x2 m4 d4) (prsS 2 B).2.1) := ⟨H9.out.1.below hBw, H9.out.2.1.below hBw, H9.out.2.2.below hBw⟩
                      have H10k : Hid (KW w W9) := H10.out.1
                      have i0 : W9.cell? ⟨w8.heap.size, 0, none⟩ = some (.slice x1 m3 d3) := hB.cell 0
                      have i1 : W9.cell? ⟨w8.heap.size, 1, none⟩ = some (.slice x2 m4 d4) := hB.cell 1
                      clear hB hBw H9
                      by_cases he : er = 0
                      · subst he
                        have HO : Hid (O = (⟨2, [], [], (prsS 2 B).1, (prsS 2 B).2.1⟩, 0)) := HQ.out
                        obtain ⟨⟨z0, z1, z2, z3, z4⟩, f0, f1, f2, f3, f4⟩ := key_celG H10.out.1.2
                        clear HQ
                        go_wp2
                        have hz := key_putG H10.out.1.2 H10.out.1.1 (Nat.le_succ _) ⟨2, [], [], (prsS 2 B).1, (prsS 2 B).2.1⟩ (.slice none 0 0) (.slice none 0 0) (.slice x1 m3 d3) (.slice x2 m4 d4) ⟨Sl.nilA _ _, Sl.nilA _ _, H10.out.2.1, H10.out.2.2⟩
                        refine bodyPost_ret (results_blk2 rfl rfl hz.1 Tryz.underlying46 rfl Tryz.sizeKey rfl) rfl ⟨?_, hz.2.2⟩
                        rw [HO.out]
                        exact ⟨_, _, _, _, rfl, hz.2.1⟩
                      · have he' : (er != 0) = true := by simpa using he
                        have HO : Hid (O = (ky0, 80)) := by show _ = _; rw [HQ.out, if_neg he]
                        clear HQ he i0 i1 H10
                        obtain ⟨⟨z0, z1, z2, z3, z4⟩, f0, f1, f2, f3, f4⟩ := key_celG H10k.out.2
                        go_wp2
                        have hz := key_putG H10k.out.2 H10k.out.1 (Nat.le_succ _) ky0 (.slice none 0 0) (.slice none 0 0) (.slice none 0 0) (.slice none 0 0) (KyV.zero _)
                        refine bodyPost_ret (results_blk2 rfl rfl hz.1 Tryz.underlying46 rfl Tryz.sizeKey rfl) rfl ⟨?_, hz.2.2⟩
                        rw [HO.out]
                        exact ⟨_, _, _, _, rfl, hz.2.1⟩
                    | false =>
                      have HO : Hid (O = (ky0, 110)) := by show _ = _; rw [HQ.out, if_pos]; rw [HC.out]; simp [crvN1, t1, t2]
                      obtain ⟨⟨z0, z1, z2, z3, z4⟩, f0, f1, f2, f3, f4⟩ := key_celG H8k.out.2
                      clear HQ HC HPt H8
                      go_wp2
                      have hz := key_putG H8k.out.2 H8k.out.1 (Nat.le_succ _) ky0 (.slice none 0 0) (.slice none 0 0) (.slice none 0 0) (.slice none 0 0) (KyV.zero _)
                      refine bodyPost_ret (results_blk2 rfl rfl hz.1 Tryz.underlying46 rfl Tryz.sizeKey rfl) rfl ⟨?_, hz.2.2⟩
                      rw [HO.out]
                      exact ⟨_, _, _, _, rfl, hz.2.1⟩
    · have HO : Hid (O = (ky0, 110)) := by
        show _ = _
        rw [HQ.out]
        rcases L with _ | ⟨a, _ | ⟨b, _ | ⟨c, L⟩⟩⟩
        · rfl
        · rfl
        · simp at hl2
        · rfl
      obtain ⟨av, cv, rfl⟩ := hv.s.len
      obtain ⟨kl, hkl⟩ : ∃ k, L.length = k := ⟨_, rfl⟩
      rw [hkl]
      have hk2 : ((kl : Int) != 2) = true := by simp; omega
      clear hkl hl2 hv
      obtain ⟨⟨z0, z1, z2, z3, z4⟩, f0, f1, f2, f3, f4⟩ := key_celG H2.out.2
      clear HQ HL
      go_wp2
      have hz := key_putG H2.out.2 H2.out.1 (Nat.le_succ _) ky0 (.slice none 0 0) (.slice none 0 0) (.slice none 0 0) (.slice none 0 0) (KyV.zero _)
      refine bodyPost_ret (results_blk2 rfl rfl hz.1 Tryz.underlying46 rfl Tryz.sizeKey rfl) rfl ⟨?_, hz.2.2⟩
      rw [HO.out]
      exact ⟨_, _, _, _, rfl, hz.2.1⟩
end Go.Proofs.YtillkhjihggcjaaGreatDoor
