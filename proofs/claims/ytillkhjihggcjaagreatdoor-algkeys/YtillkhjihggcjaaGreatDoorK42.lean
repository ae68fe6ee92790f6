/-
  Alg: readWay, Sign.
-/
import Derived.Test.YtillkhjihggcjaaGreatDoorK41
namespace Go.Proofs.YtillkhjihggcjaaGreatDoor
open Go.RowKit
set_option maxRecDepth 20000
theorem nmd_cases (S : ByteArray) : nmd S = ⟨2, 1, 1, 20⟩ ∨ (nmd S).k = 1 ∨ (nmd S).k = 3 ∨ nmd S = ⟨0, 0, 0, 0⟩ := by
  unfold nmd
  repeat' split
  all_goals simp
theorem pssR_S (rest : List El) : pssR ⟨2, 1, 1, 20⟩ rest = pssS rest := by
  rcases rest with _ | ⟨r, _ | ⟨z, rest⟩⟩
  · rfl
  · show pssT _ (rowS r) = pssO (rowS r)
    cases rowS r <;> rfl
  · rfl
set_option maxHeartbeats 8000000 in
theorem readWay_any {w : World} {an ak : Addr} (hG : Glb w an ak) (hT : P10 w) (x : El) (a1 : Option Addr) (n1 c1 : Nat) (a2 : Option Addr) (n2 c2 : Nat) (hD : Sl .u8 w (.slice a1 n1 c1) x.d) (uD : U8s x.d) (lD : x.d.length ≤ 6000) :
    Calls Tryz.prog 26 #[.agg #[.int .i64 x.cl, .int .i64 x.tg, .bool x.co, .slice a1 n1 c1, .slice a2 n2 c2]] w fun e w' => PssAns an e (sgnS x) ∧ Below w.heap.size w w' := by
  have HI : Hid (∀ W, Below w.heap.size w W → Calls Tryz.prog 46 #[.agg #[.int .i64 x.cl, .int .i64 x.tg, .bool x.co, .slice a1 n1 c1, .slice a2 n2 c2]] W fun e w' => IdAns an w' e (idS x) ∧ Below W.heap.size W w') := fun W h => readId_any (hG.below h) (hT.below h) x a1 n1 c1 a2 n2 c2 (below_sl h hD) uD lD
  have HN : Hid (∀ W s, Below w.heap.size w W → Calls Tryz.prog 49 #[.string s] W fun e w' => e = .returned (flV an s) ∧ W = w') := fun W s h => none_any (hG.below h) s
  have HG : Hid (Glb w an ak ∧ P10 w) := ⟨hG, hT⟩
  have hsn := sneq
  have two : Hid (∀ o o', Blk 32 ((w.alloc o).alloc (.cells #[.int .i64 0, .int .i64 0, .int .i64 0, .int .i64 0] 32)) (w.heap.size + 1) [.int .i64 0, .int .i64 0, .int .i64 0, .int .i64 0] ∧ Below w.heap.size w ((w.alloc o).alloc o')) := fun o o' => ⟨by
    have := Blk.new 32 (w.alloc o) [.int .i64 0, .int .i64 0, .int .i64 0, .int .i64 0]
    rw [World.size_alloc] at this
    exact this, below_via (al1 _) (al1 _) (Nat.le_refl _)⟩
  have zer : Hid (∀ (W : World), Below w.heap.size w W → Blk 32 W (w.heap.size + 1) [.int .i64 0, .int .i64 0, .int .i64 0, .int .i64 0] → ∀ a b c d : Int, Blk 32 ((((W.setCell ⟨w.heap.size + 1, 0, none⟩ (.int .i64 a)).setCell ⟨w.heap.size + 1, 1, none⟩ (.int .i64 b)).setCell ⟨w.heap.size + 1, 2, none⟩ (.int .i64 c)).setCell ⟨w.heap.size + 1, 3, none⟩ (.int .i64 d)) (w.heap.size + 1) [.int .i64 a, .int .i64 b, .int .i64 c, .int .i64 d] ∧ Below w.heap.size w ((((W.setCell ⟨w.heap.size + 1, 0, none⟩ (.int .i64 a)).setCell ⟨w.heap.size + 1, 1, none⟩ (.int .i64 b)).setCell ⟨w.heap.size + 1, 2, none⟩ (.int .i64 c)).setCell ⟨w.heap.size + 1, 3, none⟩ (.int .i64 d))) := fun W hW hB a b c d =>
    ⟨(((hB.set 0 (.int .i64 a)).set 1 (.int .i64 b)).set 2 (.int .i64 c)).set 3 (.int .i64 d), ((((Upd.set W (w.heap.size + 1) 0 (.int .i64 a)).trans (Upd.set _ _ 1 (.int .i64 b))).trans (Upd.set _ _ 2 (.int .i64 c))).trans (Upd.set _ _ 3 (.int .i64 d))).below hW hW.size (by omega)⟩
  have cel : Hid (∀ (W : World), Blk 32 W (w.heap.size + 1) [.int .i64 0, .int .i64 0, .int .i64 0, .int .i64 0] → (W.cell? ⟨w.heap.size + 1, 0, none⟩ = some (.int .i64 0) ∧ W.cell? ⟨w.heap.size + 1, 1, none⟩ = some (.int .i64 0) ∧ W.cell? ⟨w.heap.size + 1, 2, none⟩ = some (.int .i64 0) ∧ W.cell? ⟨w.heap.size + 1, 3, none⟩ = some (.int .i64 0)) ∧ W.frozen? ⟨w.heap.size + 1, 0, none⟩ = false ∧ W.frozen? ⟨w.heap.size + 1, 1, none⟩ = false ∧ W.frozen? ⟨w.heap.size + 1, 2, none⟩ = false ∧ W.frozen? ⟨w.heap.size + 1, 3, none⟩ = false) := fun W h => ⟨⟨h.cell 0, h.cell 1, h.cell 2, h.cell 3⟩, h.frozen 0, h.frozen 1, h.frozen 2, h.frozen 3⟩
  obtain ⟨O, hO⟩ : ∃ O, sgnS x = O := ⟨_, rfl⟩
  obtain ⟨RO, hRO⟩ : ∃ R, idS x = R := ⟨_, rfl⟩
  rw [hO]
  have HQ : Hid (O = sgnO RO) := by show _ = _; rw [← hO, ← hRO]; rfl
  have HL : Hid (∀ S rest, RO = some (S, rest) → rest.length ≤ 1 ∧ S.size ≤ 130000 ∧ ∀ y ∈ rest, y.d.length ≤ 6000 ∧ U8s y.d ∧ 0 ≤ y.tg) := fun S rest h => idS_good uD lD (hRO.trans h)
  rw [hRO] at HI
  obtain ⟨cl, tg, co, D, R⟩ := x
  simp only [] at hD HI ⊢
  clear hD uD lD hO hRO hG hT
  go_enter Tryz.func26, Tryz.ntmps26
  go_upto_region 1 with (fail)
  refine wp_gen (fun W => Blk 24 W w.heap.size [.int .i64 cl, .int .i64 tg, .bool co, .slice a1 n1 c1, .slice a2 n2 c2] ∧ Blk 32 W (w.heap.size + 1) [.int .i64 0, .int .i64 0, .int .i64 0, .int .i64 0] ∧ Below w.heap.size w W) ⟨(Blk.new _ w _).alloc _, (two.out _ (.cells #[] 0)).1, (two.out _ _).2⟩ ?_
  rintro W1 ⟨hX, hZ, hW1⟩
  have x0 : W1.cell? ⟨w.heap.size, 0, none⟩ = some (.int .i64 cl) := hX.cell 0
  have x1 : W1.cell? ⟨w.heap.size, 1, none⟩ = some (.int .i64 tg) := hX.cell 1
  have x2 : W1.cell? ⟨w.heap.size, 2, none⟩ = some (.bool co) := hX.cell 2
  have x3 : W1.cell? ⟨w.heap.size, 3, none⟩ = some (.slice a1 n1 c1) := hX.cell 3
  have x4 : W1.cell? ⟨w.heap.size, 4, none⟩ = some (.slice a2 n2 c2) := hX.cell 4
  have H1 : Hid (Below w.heap.size w W1 ∧ Blk 32 W1 (w.heap.size + 1) [.int .i64 0, .int .i64 0, .int .i64 0, .int .i64 0]) := ⟨hW1, hZ⟩
  clear hX hZ hW1
  go_wp2_with fail
  refine (HI.out _ H1.out.1).mono ?_
  rintro e w2 ⟨ha, hb⟩
  have H2 : Hid (Below w.heap.size w w2 ∧ Blk 32 w2 (w.heap.size + 1) [.int .i64 0, .int .i64 0, .int .i64 0, .int .i64 0]) := ⟨below_via H1.out.1 hb (Nat.le_refl _), below_blk hb H1.out.2.lt H1.out.2⟩
  clear hb HI x0 x1 x2 x3 x4 H1
  cases RO with
  | none =>
    obtain ⟨s, rfl⟩ := ha
    have HO : Hid (O = none) := HQ.out
    clear HQ HL HG
    simp only [flV, erV]
    go_upto_region 2 with (fail)
    refine wp_gen (fun W => Below w2.heap.size w2 W) (al1 _) ?_
    rintro W3 hB3
    have H3 : Hid (Below w.heap.size w W3 ∧ Blk 32 W3 (w.heap.size + 1) [.int .i64 0, .int .i64 0, .int .i64 0, .int .i64 0]) := ⟨below_via H2.out.1 hB3 (Nat.le_refl _), below_blk hB3 H2.out.2.lt H2.out.2⟩
    obtain ⟨⟨z0, z1, z2, z3⟩, f0, f1, f2, f3⟩ := cel.out _ H3.out.2
    clear hB3
    go_wp2
    have hz := zer.out _ H3.out.1 H3.out.2 0 0 0 0
    refine bodyPost_ret (results_blk2 rfl rfl hz.1 Tryz.underlying32 rfl Tryz.sizeAl rfl) rfl ⟨?_, hz.2⟩
    rw [HO.out]
    exact ⟨_, rfl⟩
  | some SR =>
    obtain ⟨S, rest⟩ := SR
    obtain ⟨a, n, c, rfl, hn, hr⟩ := ha
    have hl := HL.out S rest rfl
    rw [hn] at hl
    have hS := hl.2.1
    have HK : Hid (rest.length = n ∧ n ≤ 1 ∧ TlvS w2 (.slice a n c) rest ∧ ∀ y ∈ rest, y.d.length ≤ 6000 ∧ U8s y.d ∧ 0 ≤ y.tg) := ⟨hn, hl.1, hr, hl.2.2⟩
    have HM : Hid (∀ W, Calls Tryz.prog 51 #[.string S] W fun e w' => e = .returned (.agg #[.int .i64 (nmd S).k, .int .i64 (nmd S).d, .int .i64 (nmd S).m, .int .i64 (nmd S).s]) ∧ Below W.heap.size W w') := fun W => named_any S
    replace HQ : Hid (O = sgnA (nmd S) rest) := HQ.out
    have HC := nmd_cases S
    obtain ⟨A, hA⟩ : ∃ A, nmd S = A := ⟨_, rfl⟩
    rw [hA] at HM HQ HC
    clear hA HL hn hl hr
    go_upto_region 2 with (fail)
    refine wp_gen (fun W => Blk 101 W w2.heap.size [.string S, .slice a n c] ∧ Below w2.heap.size w2 W) ⟨Blk.new _ w2 _, al1 _⟩ ?_
    rintro W3 ⟨hB, hBw⟩
    have H3 : Hid (Below w2.heap.size w2 W3 ∧ Below w.heap.size w W3 ∧ Blk 32 W3 (w.heap.size + 1) [.int .i64 0, .int .i64 0, .int .i64 0, .int .i64 0] ∧ Blk 101 W3 w2.heap.size [.string S, .slice a n c]) := ⟨hBw, below_via H2.out.1 hBw (Nat.le_refl _), below_blk hBw H2.out.2.lt H2.out.2, hB⟩
    have i0 : W3.cell? ⟨w2.heap.size, 0, none⟩ = some (.string S) := hB.cell 0
    clear hB hBw
    go_wp2_with fail
    refine (HM.out _).mono ?_
    rintro e w4 ⟨rfl, hb4⟩
    have H4 : Hid (Below w2.heap.size w2 w4 ∧ Below w.heap.size w w4 ∧ Blk 32 w4 (w.heap.size + 1) [.int .i64 0, .int .i64 0, .int .i64 0, .int .i64 0] ∧ Blk 101 w4 w2.heap.size [.string S, .slice a n c]) := ⟨below_via H3.out.1 hb4 (Nat.le_refl _), below_via H3.out.2.1 hb4 (Nat.le_refl _), below_blk hb4 H3.out.2.2.1.lt H3.out.2.2.1, below_blk hb4 H3.out.2.2.2.lt H3.out.2.2.2⟩
    clear hb4 i0 HM
    go_upto_region 5 with (fail)
    refine wp_gen (fun W => Blk 32 W w4.heap.size (alC A) ∧ Below w4.heap.size w4 W) ⟨Blk.new _ w4 _, al1 _⟩ ?_
    rintro W5 ⟨hB, hBw⟩
    have H5 : Hid (Below w2.heap.size w2 W5 ∧ Below w.heap.size w W5 ∧ Blk 32 W5 (w.heap.size + 1) [.int .i64 0, .int .i64 0, .int .i64 0, .int .i64 0] ∧ Blk 101 W5 w2.heap.size [.string S, .slice a n c] ∧ Blk 32 W5 w4.heap.size (alC A)) := ⟨below_via H4.out.1 hBw (Nat.le_refl _), below_via H4.out.2.1 hBw (Nat.le_refl _), below_blk hBw H4.out.2.2.1.lt H4.out.2.2.1, below_blk hBw H4.out.2.2.2.lt H4.out.2.2.2, hB⟩
    have al : Hid (∀ W, Below W5.heap.size W5 W → (Below w2.heap.size w2 W ∧ Below w.heap.size w W ∧ Blk 32 W (w.heap.size + 1) [.int .i64 0, .int .i64 0, .int .i64 0, .int .i64 0]) ∧ (W.cell? ⟨w2.heap.size, 0, none⟩ = some (.string S) ∧ W.cell? ⟨w2.heap.size, 1, none⟩ = some (.slice a n c)) ∧ W.cell? ⟨w4.heap.size, 0, none⟩ = some (.int .i64 A.k) ∧ W.cell? ⟨w4.heap.size, 1, none⟩ = some (.int .i64 A.d) ∧ W.cell? ⟨w4.heap.size, 2, none⟩ = some (.int .i64 A.m) ∧ W.cell? ⟨w4.heap.size, 3, none⟩ = some (.int .i64 A.s)) := fun W h => by
      have q1 := below_blk h H5.out.2.2.2.1.lt H5.out.2.2.2.1
      have q2 := below_blk h H5.out.2.2.2.2.lt H5.out.2.2.2.2
      exact ⟨⟨below_via H5.out.1 h (Nat.le_refl _), below_via H5.out.2.1 h (Nat.le_refl _), below_blk h H5.out.2.2.1.lt H5.out.2.2.1⟩, ⟨q1.cell 0, q1.cell 1⟩, q2.cell 0, q2.cell 1, q2.cell 2, q2.cell 3⟩
    clear hB hBw H3 H4 H5
    have HV : Hid (∀ W, Below w2.heap.size w2 W → Calls Tryz.prog 48 #[.agg #[.string S, .slice a n c]] W fun e w' => e = .returned (.bool (vdP rest)) ∧ Below W.heap.size W w') := fun W h => isVoid_any S a n c rest HK.out.1 HK.out.2.1 (HK.out.2.2.1.below h)
    have HA : Hid (∀ W, Calls Tryz.prog 47 #[.agg #[.string S, .slice a n c]] W fun e w' => e = .returned (.bool ((n : Int) == 0)) ∧ Below W.heap.size W w') := fun W => isAlone_any S a n c
    have HP : Hid (∀ W, Below w2.heap.size w2 W → Below w.heap.size w W → Calls Tryz.prog 52 #[.agg #[.int .i64 A.k, .int .i64 A.d, .int .i64 A.m, .int .i64 A.s], .slice a n c] W fun e w' => PssAns an e (pssR A rest) ∧ Below W.heap.size W w') := fun W h hw => readPss_any (HG.out.1.below hw) (HG.out.2.below hw) A a n c rest HK.out.1 HK.out.2.1 (HK.out.2.2.1.below h) HK.out.2.2.2
    have HB : Hid (vdB rest = ((((n : Nat) : Int) == 0) || vdP rest) ∧ rest.isEmpty = (((n : Nat) : Int) == 0)) := by
      have h1 := HK.out.1
      have h2 := vdB_is (rest := rest) (by have := HK.out.2.1; omega)
      rw [h1] at h2
      refine ⟨h2, ?_⟩
      rw [← h1]
      rcases rest with _ | ⟨r, rest⟩
      · rfl
      · simp; omega
    obtain ⟨⟨hw2, hww, hz⟩, ⟨i0, i1⟩, y0, y1, y2, y3⟩ := al.out W5 (Below.refl _ _)
    have H5 : Hid (Below w2.heap.size w2 W5 ∧ Below w.heap.size w W5 ∧ Blk 32 W5 (w.heap.size + 1) [.int .i64 0, .int .i64 0, .int .i64 0, .int .i64 0]) := ⟨hw2, hww, hz⟩
    clear hw2 hww hz HK HG
    obtain ⟨vp, hvp⟩ : ∃ v, vdP rest = v := ⟨_, rfl⟩
    obtain ⟨vb, hvb⟩ : ∃ v, vdB rest = v := ⟨_, rfl⟩
    obtain ⟨q, hq⟩ : ∃ q, (((n : Nat) : Int) == 0) = q := ⟨_, rfl⟩
    rw [hvp] at HV HB
    rw [hvb, hq] at HB
    rw [hq] at HA
    obtain ⟨A0, A1, A2, A3⟩ := A
    simp only [] at HP y0 y1 y2 y3 HC al
    rcases HC with HC | HC | HC | HC
    · simp only [Al.mk.injEq] at HC
      obtain ⟨rfl, rfl, rfl, rfl⟩ := HC
      replace HQ : Hid (O = pssR ⟨2, 1, 1, 20⟩ rest) := by show _ = _; rw [HQ.out, pssR_S]; rfl
      obtain ⟨PO, hPO⟩ : ∃ P, pssR ⟨2, 1, 1, 20⟩ rest = P := ⟨_, rfl⟩
      rw [hPO] at HQ HP
      clear hPO HV HA HB hvp hvb hq
      go_wp2_with fail
      refine (HP.out _ H5.out.1 H5.out.2.1).mono ?_
      rintro e w6 ⟨hp, hb6⟩
      have hb5 : Below W5.heap.size W5 w6 := hb6
      obtain ⟨⟨hw2, hww, hzz⟩, ⟨j0, j1⟩, u0, u1, u2, u3⟩ := al.out _ hb5
      have H6 : Hid (Below w2.heap.size w2 w6 ∧ Below w.heap.size w w6 ∧ Blk 32 w6 (w.heap.size + 1) [.int .i64 0, .int .i64 0, .int .i64 0, .int .i64 0]) := ⟨hw2, hww, hzz⟩
      clear hb6 hb5 hw2 hww hzz i0 i1 y0 y1 y2 y3 j0 j1 u0 u1 u2 u3 HP
      cases PO with
      | none =>
        obtain ⟨s, rfl⟩ := hp
        have HO : Hid (O = none) := HQ.out
        clear HQ
        simp only [flV, erV]
        obtain ⟨⟨z0, z1, z2, z3⟩, f0, f1, f2, f3⟩ := cel.out _ H6.out.2.2
        go_wp2
        have hz := zer.out _ H6.out.2.1 H6.out.2.2 0 0 0 0
        refine bodyPost_ret (results_blk2 rfl rfl hz.1 Tryz.underlying32 rfl Tryz.sizeAl rfl) rfl ⟨?_, hz.2⟩
        rw [HO.out]
        exact ⟨_, rfl⟩
      | some A' =>
        obtain rfl : e = _ := hp
        have HO : Hid (O = some A') := HQ.out
        clear HQ
        obtain ⟨B0, B1, B2, B3⟩ := A'
        obtain ⟨⟨z0, z1, z2, z3⟩, f0, f1, f2, f3⟩ := cel.out _ H6.out.2.2
        go_wp2
        have hz := zer.out _ H6.out.2.1 H6.out.2.2 B0 B1 B2 B3
        refine bodyPost_ret (results_blk2 rfl rfl hz.1 Tryz.underlying32 rfl Tryz.sizeAl rfl) rfl ⟨?_, hz.2⟩
        rw [HO.out]
        rfl
    · subst HC
      replace HQ : Hid (O = if vb = true then some ⟨1, A1, A2, A3⟩ else none) := by show _ = _; rw [HQ.out, ← hvb]; rfl
      clear hvp hvb hq HP
      go_wp2_with fail
      refine (HV.out _ H5.out.1).mono ?_
      rintro e w6 ⟨rfl, hb6⟩
      have hb5 : Below W5.heap.size W5 w6 := hb6
      obtain ⟨⟨hw2, hww, hzz⟩, ⟨j0, j1⟩, u0, u1, u2, u3⟩ := al.out _ hb5
      have H6 : Hid (Below w2.heap.size w2 w6 ∧ Below w.heap.size w w6 ∧ Blk 32 w6 (w.heap.size + 1) [.int .i64 0, .int .i64 0, .int .i64 0, .int .i64 0]) := ⟨hw2, hww, hzz⟩
      have hb56 := hb5
      clear hb6 hb5 hw2 hww hzz i0 i1 y0 y1 y2 y3 HV
      cases vp with
      | true =>
        have HO : Hid (O = some ⟨1, A1, A2, A3⟩) := by show _ = _; rw [HQ.out, HB.out.1]; simp
        clear HQ HB
        obtain ⟨⟨z0, z1, z2, z3⟩, f0, f1, f2, f3⟩ := cel.out _ H6.out.2.2
        go_wp2
        have hz := zer.out _ H6.out.2.1 H6.out.2.2 1 A1 A2 A3
        refine bodyPost_ret (results_blk2 rfl rfl hz.1 Tryz.underlying32 rfl Tryz.sizeAl rfl) rfl ⟨?_, hz.2⟩
        rw [HO.out]
        rfl
      | false =>
        go_wp2_with fail
        refine (HA.out _).mono ?_
        rintro e w7 ⟨rfl, hb7⟩
        clear j0 j1 u0 u1 u2 u3
        have hb5 : Below W5.heap.size W5 w7 := below_via hb56 hb7 (Nat.le_refl _)
        obtain ⟨⟨hw2, hww, hzz⟩, ⟨j0, j1⟩, u0, u1, u2, u3⟩ := al.out _ hb5
        have H7 : Hid (Below w2.heap.size w2 w7 ∧ Below w.heap.size w w7 ∧ Blk 32 w7 (w.heap.size + 1) [.int .i64 0, .int .i64 0, .int .i64 0, .int .i64 0]) := ⟨hw2, hww, hzz⟩
        clear hb7 hb5 hb56 hw2 hww hzz HA
        cases q with
        | true =>
          have HO : Hid (O = some ⟨1, A1, A2, A3⟩) := by show _ = _; rw [HQ.out, HB.out.1]; simp
          clear HQ HB
          obtain ⟨⟨z0, z1, z2, z3⟩, f0, f1, f2, f3⟩ := cel.out _ H7.out.2.2
          go_wp2
          have hz := zer.out _ H7.out.2.1 H7.out.2.2 1 A1 A2 A3
          refine bodyPost_ret (results_blk2 rfl rfl hz.1 Tryz.underlying32 rfl Tryz.sizeAl rfl) rfl ⟨?_, hz.2⟩
          rw [HO.out]
          rfl
        | false =>
          have HO : Hid (O = none) := by show _ = _; rw [HQ.out, HB.out.1]; simp
          clear HQ HB
          obtain ⟨⟨z0, z1, z2, z3⟩, f0, f1, f2, f3⟩ := cel.out _ H7.out.2.2
          go_wp2_with (go_at_call 49; refine (HN.out _ _ H7.out.2.1).mono ?_; rintro e w9 ⟨rfl, rfl⟩)
          have hz := zer.out _ H7.out.2.1 H7.out.2.2 0 0 0 0
          refine bodyPost_ret (results_blk2 rfl rfl hz.1 Tryz.underlying32 rfl Tryz.sizeAl rfl) rfl ⟨?_, hz.2⟩
          rw [HO.out]
          exact ⟨_, rfl⟩
    · subst HC
      replace HQ : Hid (O = if rest.isEmpty = true then some ⟨3, A1, A2, A3⟩ else none) := by show _ = _; rw [HQ.out]; rfl
      clear hvp hvb hq HP HV
      go_wp2_with fail
      refine (HA.out _).mono ?_
      rintro e w7 ⟨rfl, hb7⟩
      have hb5 : Below W5.heap.size W5 w7 := hb7
      obtain ⟨⟨hw2, hww, hzz⟩, ⟨j0, j1⟩, u0, u1, u2, u3⟩ := al.out _ hb5
      have H7 : Hid (Below w2.heap.size w2 w7 ∧ Below w.heap.size w w7 ∧ Blk 32 w7 (w.heap.size + 1) [.int .i64 0, .int .i64 0, .int .i64 0, .int .i64 0]) := ⟨hw2, hww, hzz⟩
      clear hb7 hb5 hw2 hww hzz i0 i1 y0 y1 y2 y3 HA
      cases q with
      | true =>
        have HO : Hid (O = some ⟨3, A1, A2, A3⟩) := by show _ = _; rw [HQ.out, HB.out.2]; simp
        clear HQ HB
        obtain ⟨⟨z0, z1, z2, z3⟩, f0, f1, f2, f3⟩ := cel.out _ H7.out.2.2
        go_wp2
        have hz := zer.out _ H7.out.2.1 H7.out.2.2 3 A1 A2 A3
        refine bodyPost_ret (results_blk2 rfl rfl hz.1 Tryz.underlying32 rfl Tryz.sizeAl rfl) rfl ⟨?_, hz.2⟩
        rw [HO.out]
        rfl
      | false =>
        have HO : Hid (O = none) := by show _ = _; rw [HQ.out, HB.out.2]; simp
        clear HQ HB
        obtain ⟨⟨z0, z1, z2, z3⟩, f0, f1, f2, f3⟩ := cel.out _ H7.out.2.2
        go_wp2_with (go_at_call 49; refine (HN.out _ _ H7.out.2.1).mono ?_; rintro e w9 ⟨rfl, rfl⟩)
        have hz := zer.out _ H7.out.2.1 H7.out.2.2 0 0 0 0
        refine bodyPost_ret (results_blk2 rfl rfl hz.1 Tryz.underlying32 rfl Tryz.sizeAl rfl) rfl ⟨?_, hz.2⟩
        rw [HO.out]
        exact ⟨_, rfl⟩
    · simp only [Al.mk.injEq] at HC
      obtain ⟨rfl, rfl, rfl, rfl⟩ := HC
      have HO : Hid (O = none) := HQ.out
      clear HQ HB hvp hvb hq HP HV HA
      obtain ⟨⟨z0, z1, z2, z3⟩, f0, f1, f2, f3⟩ := cel.out _ H5.out.2.2
      go_wp2_with (go_at_call 49; refine (HN.out _ _ H5.out.2.1).mono ?_; rintro e w9 ⟨rfl, rfl⟩)
      have hz := zer.out _ H5.out.2.1 H5.out.2.2 0 0 0 0
      refine bodyPost_ret (results_blk2 rfl rfl hz.1 Tryz.underlying32 rfl Tryz.sizeAl rfl) rfl ⟨?_, hz.2⟩
      rw [HO.out]
      exact ⟨_, rfl⟩
end Go.Proofs.YtillkhjihggcjaaGreatDoor
/-
  Alg: Sign.
-/
namespace Go.Proofs.YtillkhjihggcjaaGreatDoor
open Go.RowKit
set_option maxRecDepth 20000
def sgV : Option Al → Al
  | none => ⟨0, 0, 0, 0⟩
  | some a => a
def sgE : Option Al → Int
  | none => 110
  | some _ => 0
/-- What readWay tells, in one form. -/
theorem PssAns.uni {an : Addr} {e : Ending} {O : Option Al} (h : PssAns an e O) : ∃ f, e = .returned (.tuple #[.agg #[.int .i64 (sgV O).k, .int .i64 (sgV O).d, .int .i64 (sgV O).m, .int .i64 (sgV O).s], f]) ∧ ((O = none ∧ ∃ s, f = flV an s) ∨ (O ≠ none ∧ f = .nilIface)) := by
  cases O with
  | none => obtain ⟨s, rfl⟩ := h; exact ⟨_, rfl, .inl ⟨rfl, s, rfl⟩⟩
  | some a => exact ⟨_, h, .inr ⟨by simp, rfl⟩⟩
set_option maxHeartbeats 2000000 in
theorem Sign_any {w : World} {an ak : Addr} (hG : Glb w an ak) (hT : P10 w) (x : El) (a1 : Option Addr) (n1 c1 : Nat) (a2 : Option Addr) (n2 c2 : Nat) (hD : Sl .u8 w (.slice a1 n1 c1) x.d) (uD : U8s x.d) (lD : x.d.length ≤ 6000) :
    Calls Tryz.prog 9 #[.agg #[.int .i64 x.cl, .int .i64 x.tg, .bool x.co, .slice a1 n1 c1, .slice a2 n2 c2]] w fun e w' => e = .returned (.tuple #[.agg #[.int .i64 (sgV (sgnS x)).k, .int .i64 (sgV (sgnS x)).d, .int .i64 (sgV (sgnS x)).m, .int .i64 (sgV (sgnS x)).s], .int .i64 (sgE (sgnS x))]) ∧ Below w.heap.size w w' := by
  have HI : Hid (∀ W, Below w.heap.size w W → Calls Tryz.prog 26 #[.agg #[.int .i64 x.cl, .int .i64 x.tg, .bool x.co, .slice a1 n1 c1, .slice a2 n2 c2]] W fun e w' => PssAns an e (sgnS x) ∧ Below W.heap.size W w') := fun W h => readWay_any (hG.below h) (hT.below h) x a1 n1 c1 a2 n2 c2 (below_sl h hD) uD lD
  obtain ⟨O, hO⟩ : ∃ O, sgnS x = O := ⟨_, rfl⟩
  rw [hO] at HI ⊢
  have HTold : Hid (∀ W f, Below w.heap.size w W → ((O = none ∧ ∃ s, f = flV an s) ∨ (O ≠ none ∧ f = .nilIface)) → Calls Tryz.prog 22 #[f] W fun e w' => e = .returned (.int .i64 (sgE O)) ∧ Below W.heap.size W w') := fun W f h hf => by
    rcases hf with ⟨rfl, s, rfl⟩ | ⟨hO, rfl⟩
    · exact toldN (hG.below h) s
    · have : sgE O = 0 := by cases O with
        | none => exact absurd rfl hO
        | some _ => rfl
      rw [this]
      exact told0.mono fun e w' ⟨h1, h2⟩ => ⟨h1, by rw [← h2]; exact Below.refl _ _⟩
  obtain ⟨cl, tg, co, D, R⟩ := x
  simp only [] at hD HI ⊢
  obtain ⟨⟨A0, A1, A2, A3⟩, hA⟩ : ∃ A, sgV O = A := ⟨_, rfl⟩
  obtain ⟨er, her⟩ : ∃ er, sgE O = er := ⟨_, rfl⟩
  rw [her] at HTold
  have HA : Hid (sgV O = ⟨A0, A1, A2, A3⟩) := hA
  rw [hA, her]
  simp only []
  clear hD uD lD hO hG hT hA her
  go_enter Tryz.func9, Tryz.ntmps9
  go_upto_region 1 with (fail)
  refine wp_gen (fun W => Blk 24 W w.heap.size [.int .i64 cl, .int .i64 tg, .bool co, .slice a1 n1 c1, .slice a2 n2 c2] ∧ Blk 32 W (w.heap.size + 1) [.int .i64 0, .int .i64 0, .int .i64 0, .int .i64 0] ∧ Below w.heap.size w W) ⟨(Blk.new _ w _).alloc _, by
    have := Blk.new 32 (w.alloc (.cells #[.int .i64 cl, .int .i64 tg, .bool co, .slice a1 n1 c1, .slice a2 n2 c2] 24)) [.int .i64 0, .int .i64 0, .int .i64 0, .int .i64 0]
    rw [World.size_alloc] at this
    exact this, below_via (al1 _) (al1 _) (Nat.le_refl _)⟩ ?_
  rintro W1 ⟨hX, hZ, hW1⟩
  have x0 : W1.cell? ⟨w.heap.size, 0, none⟩ = some (.int .i64 cl) := hX.cell 0
  have x1 : W1.cell? ⟨w.heap.size, 1, none⟩ = some (.int .i64 tg) := hX.cell 1
  have x2 : W1.cell? ⟨w.heap.size, 2, none⟩ = some (.bool co) := hX.cell 2
  have x3 : W1.cell? ⟨w.heap.size, 3, none⟩ = some (.slice a1 n1 c1) := hX.cell 3
  have x4 : W1.cell? ⟨w.heap.size, 4, none⟩ = some (.slice a2 n2 c2) := hX.cell 4
  have H1 : Hid (Below w.heap.size w W1 ∧ Blk 32 W1 (w.heap.size + 1) [.int .i64 0, .int .i64 0, .int .i64 0, .int .i64 0]) := ⟨hW1, hZ⟩
  clear hX hZ hW1
  go_wp2_with fail
  refine (HI.out _ H1.out.1).mono ?_
  rintro e w2 ⟨ha, hb⟩
  have H2 : Hid (Below w.heap.size w w2 ∧ Blk 32 w2 (w.heap.size + 1) [.int .i64 0, .int .i64 0, .int .i64 0, .int .i64 0]) := ⟨below_via H1.out.1 hb (Nat.le_refl _), below_blk hb H1.out.2.lt H1.out.2⟩
  obtain ⟨f, rfl, hf⟩ := ha.uni
  rw [HA.out]
  simp only []
  have HF : Hid ((O = none ∧ ∃ s, f = flV an s) ∨ (O ≠ none ∧ f = .nilIface)) := hf
  clear hb HI x0 x1 x2 x3 x4 H1 hf ha
  go_upto_region 2 with (fail)
  refine wp_gen (fun W => Blk 32 W w2.heap.size [.int .i64 A0, .int .i64 A1, .int .i64 A2, .int .i64 A3] ∧ Below w2.heap.size w2 W) ⟨Blk.new _ w2 _, al1 _⟩ ?_
  rintro W3 ⟨hB, hBw⟩
  have H3 : Hid (∀ W, Below W3.heap.size W3 W → (W.cell? ⟨w2.heap.size, 0, none⟩ = some (.int .i64 A0) ∧ W.cell? ⟨w2.heap.size, 1, none⟩ = some (.int .i64 A1) ∧ W.cell? ⟨w2.heap.size, 2, none⟩ = some (.int .i64 A2) ∧ W.cell? ⟨w2.heap.size, 3, none⟩ = some (.int .i64 A3)) ∧ Below w.heap.size w W ∧ Blk 32 W (w.heap.size + 1) [.int .i64 0, .int .i64 0, .int .i64 0, .int .i64 0]) := fun W h => by
    have q := below_blk h hB.lt hB
    have h2 := below_via hBw h (by have := hBw.size; omega)
    exact ⟨⟨q.cell 0, q.cell 1, q.cell 2, q.cell 3⟩, below_via H2.out.1 h2 (Nat.le_refl _), below_blk h2 H2.out.2.lt H2.out.2⟩
  clear hB hBw
  obtain ⟨⟨y0, y1, y2, y3⟩, hw3, hZ3⟩ := H3.out W3 (Below.refl _ _)
  have HT3 : Hid (Below w.heap.size w W3) := hw3
  clear hw3 hZ3
  go_region_with (go_at_call 22; refine (HTold.out _ _ (by first | exact HT3.out | exact below_drewN _ HT3.out) HF.out).mono ?_; rintro e w4 ⟨rfl, hb4⟩; obtain ⟨⟨v0, v1, v2, v3⟩, hw4, hZ4⟩ := H3.out w4 (by first | exact hb4 | exact below_via (Below.drew (Below.refl _ _)) hb4 (Nat.le_refl _)); have z0 : w4.cell? ⟨w.heap.size + 1, 0, none⟩ = some (.int .i64 0) := hZ4.cell 0; have z1 : w4.cell? ⟨w.heap.size + 1, 1, none⟩ = some (.int .i64 0) := hZ4.cell 1; have z2 : w4.cell? ⟨w.heap.size + 1, 2, none⟩ = some (.int .i64 0) := hZ4.cell 2; have z3 : w4.cell? ⟨w.heap.size + 1, 3, none⟩ = some (.int .i64 0) := hZ4.cell 3; have f0 := hZ4.frozen 0; have f1 := hZ4.frozen 1; have f2 := hZ4.frozen 2; have f3 := hZ4.frozen 3; have H4 : Hid (Below w.heap.size w w4 ∧ Blk 32 w4 (w.heap.size + 1) [.int .i64 0, .int .i64 0, .int .i64 0, .int .i64 0]) := ⟨hw4, hZ4⟩; clear hb4 hw4 hZ4)
  all_goals
    have hz1 := (((H4.out.2.set 0 (.int .i64 A0)).set 1 (.int .i64 A1)).set 2 (.int .i64 A2)).set 3 (.int .i64 A3)
    have hz2 := ((((Upd.set w4 (w.heap.size + 1) 0 (.int .i64 A0)).trans (Upd.set _ _ 1 (.int .i64 A1))).trans (Upd.set _ _ 2 (.int .i64 A2))).trans (Upd.set _ _ 3 (.int .i64 A3))).below H4.out.1 H4.out.1.size (Nat.le_succ _)
    have HZ : Hid (Blk 32 ((((w4.setCell ⟨w.heap.size + 1, 0, none⟩ (.int .i64 A0)).setCell ⟨w.heap.size + 1, 1, none⟩ (.int .i64 A1)).setCell ⟨w.heap.size + 1, 2, none⟩ (.int .i64 A2)).setCell ⟨w.heap.size + 1, 3, none⟩ (.int .i64 A3)).drew (w.heap.size + 1) [.int .i64 A0, .int .i64 A1, .int .i64 A2, .int .i64 A3] ∧ Below w.heap.size w ((((w4.setCell ⟨w.heap.size + 1, 0, none⟩ (.int .i64 A0)).setCell ⟨w.heap.size + 1, 1, none⟩ (.int .i64 A1)).setCell ⟨w.heap.size + 1, 2, none⟩ (.int .i64 A2)).setCell ⟨w.heap.size + 1, 3, none⟩ (.int .i64 A3)).drew) := ⟨below_blk (Below.drew (Below.refl _ _)) hz1.lt hz1, Below.drew hz2⟩
    clear hz1 hz2
    go_wp2
    first
      | exact bodyPost_ret (results_blk2 rfl rfl HZ.out.1 Tryz.underlying32 rfl Tryz.sizeAl rfl) rfl ⟨rfl, HZ.out.2⟩
      | (have hz1 := (((H4.out.2.set 0 (.int .i64 A0)).set 1 (.int .i64 A1)).set 2 (.int .i64 A2)).set 3 (.int .i64 A3)
         have hz2 := ((((Upd.set w4 (w.heap.size + 1) 0 (.int .i64 A0)).trans (Upd.set _ _ 1 (.int .i64 A1))).trans (Upd.set _ _ 2 (.int .i64 A2))).trans (Upd.set _ _ 3 (.int .i64 A3))).below H4.out.1 H4.out.1.size (Nat.le_succ _)
         exact bodyPost_ret (results_blk2 rfl rfl hz1 Tryz.underlying32 rfl Tryz.sizeAl rfl) rfl ⟨rfl, hz2⟩)
end Go.Proofs.YtillkhjihggcjaaGreatDoor
/-
  Alg: Key where nothing names an algorithm; the page's examples.
-/
namespace Go.Proofs.YtillkhjihggcjaaGreatDoor
open Go.RowKit
set_option maxRecDepth 20000
theorem Tryz.sizeKey : (Tryz.prog.info? 46).map (·.size) = some 5 := by kernel_rfl
def keyZ : List Value := [.int .i64 0, .slice none 0 0, .slice none 0 0, .slice none 0 0, .slice none 0 0]
theorem two_blk {w : World} (T : TypeId) (o o' : Obj) (cs : List Value) (ho : o' = .cells cs.toArray T) : Blk T ((w.alloc o).alloc o') (w.heap.size + 1) cs ∧ Below w.heap.size w ((w.alloc o).alloc o') := ⟨by
    have := Blk.new T (w.alloc o) cs
    rw [World.size_alloc] at this
    rw [ho]
    exact this, below_via (al1 _) (al1 _) (Nat.le_refl _)⟩
theorem key_put {w W : World} (h : Blk 46 W (w.heap.size + 1) keyZ) (hW : Below w.heap.size w W) (k : Int) (v1 v2 v3 v4 : Value) : Blk 46 (((((W.setCell ⟨w.heap.size + 1, 0, none⟩ (.int .i64 k)).setCell ⟨w.heap.size + 1, 1, none⟩ v1).setCell ⟨w.heap.size + 1, 2, none⟩ v2).setCell ⟨w.heap.size + 1, 3, none⟩ v3).setCell ⟨w.heap.size + 1, 4, none⟩ v4) (w.heap.size + 1) [.int .i64 k, v1, v2, v3, v4] ∧ Upd W (((((W.setCell ⟨w.heap.size + 1, 0, none⟩ (.int .i64 k)).setCell ⟨w.heap.size + 1, 1, none⟩ v1).setCell ⟨w.heap.size + 1, 2, none⟩ v2).setCell ⟨w.heap.size + 1, 3, none⟩ v3).setCell ⟨w.heap.size + 1, 4, none⟩ v4) (w.heap.size + 1) ∧ Below w.heap.size w (((((W.setCell ⟨w.heap.size + 1, 0, none⟩ (.int .i64 k)).setCell ⟨w.heap.size + 1, 1, none⟩ v1).setCell ⟨w.heap.size + 1, 2, none⟩ v2).setCell ⟨w.heap.size + 1, 3, none⟩ v3).setCell ⟨w.heap.size + 1, 4, none⟩ v4) := by
  have hU := ((((Upd.set W (w.heap.size + 1) 0 (.int .i64 k)).trans (Upd.set _ _ 1 v1)).trans (Upd.set _ _ 2 v2)).trans (Upd.set _ _ 3 v3)).trans (Upd.set _ _ 4 v4)
  exact ⟨((((h.set 0 (.int .i64 k)).set 1 v1).set 2 v2).set 3 v3).set 4 v4, hU, hU.below hW hW.size (Nat.le_succ _)⟩
theorem key_cel {w W : World} (h : Blk 46 W (w.heap.size + 1) keyZ) : (W.cell? ⟨w.heap.size + 1, 0, none⟩ = some (.int .i64 0) ∧ W.cell? ⟨w.heap.size + 1, 1, none⟩ = some (.slice none 0 0) ∧ W.cell? ⟨w.heap.size + 1, 2, none⟩ = some (.slice none 0 0) ∧ W.cell? ⟨w.heap.size + 1, 3, none⟩ = some (.slice none 0 0) ∧ W.cell? ⟨w.heap.size + 1, 4, none⟩ = some (.slice none 0 0)) ∧ W.frozen? ⟨w.heap.size + 1, 0, none⟩ = false ∧ W.frozen? ⟨w.heap.size + 1, 1, none⟩ = false ∧ W.frozen? ⟨w.heap.size + 1, 2, none⟩ = false ∧ W.frozen? ⟨w.heap.size + 1, 3, none⟩ = false ∧ W.frozen? ⟨w.heap.size + 1, 4, none⟩ = false :=
  ⟨⟨h.cell 0, h.cell 1, h.cell 2, h.cell 3, h.cell 4⟩, h.frozen 0, h.frozen 1, h.frozen 2, h.frozen 3, h.frozen 4⟩
set_option maxHeartbeats 4000000 in
/-- Where what stands first names no algorithm. -/
theorem readKey_no {w : World} {an ak : Addr} (hG : Glb w an ak) (hT : P10 w) (x : El) (a1 : Option Addr) (n1 c1 : Nat) (a2 : Option Addr) (n2 c2 : Nat) (hD : Sl .u8 w (.slice a1 n1 c1) x.d) (uD : U8s x.d) (lD : x.d.length ≤ 6000) (y z : El) (hx : rowS x = some [y, z]) (hy : idS y = none) :
    Calls Tryz.prog 30 #[.agg #[.int .i64 x.cl, .int .i64 x.tg, .bool x.co, .slice a1 n1 c1, .slice a2 n2 c2]] w fun e w' => (∃ s, e = .returned (.tuple #[.agg keyZ.toArray, flV an s])) ∧ Below w.heap.size w w' := by
  have HR : Hid (∀ W, Below w.heap.size w W → Calls Tryz.prog 55 #[.agg #[.int .i64 x.cl, .int .i64 x.tg, .bool x.co, .slice a1 n1 c1, .slice a2 n2 c2]] W fun e w' => RowAns W.heap.size w' e (some [y, z]) ∧ Below W.heap.size W w') := fun W h => by rw [← hx]; exact row_any x a1 n1 c1 _ (below_sl h hD) uD lD
  have HG : Hid (Glb w an ak ∧ P10 w) := ⟨hG, hT⟩
  have hg := rowS_good uD lD hx y (by simp)
  have HY : Hid (y.d.length ≤ 6000 ∧ U8s y.d ∧ idS y = none) := ⟨hg.1, hg.2.1, hy⟩
  have hsn := sneq
  obtain ⟨cl, tg, co, D, R⟩ := x
  simp only [] at hD HR ⊢
  clear hD uD lD hG hT hx hy hg
  go_enter Tryz.func30, Tryz.ntmps30
  go_upto_region 1 with (fail)
  refine wp_gen (fun W => Blk 24 W w.heap.size [.int .i64 cl, .int .i64 tg, .bool co, .slice a1 n1 c1, .slice a2 n2 c2] ∧ Blk 46 W (w.heap.size + 1) keyZ ∧ Below w.heap.size w W) ⟨(Blk.new _ w _).alloc _, (two_blk _ _ _ _ rfl).1, (two_blk 46 _ _ keyZ rfl).2⟩ ?_
  rintro W1 ⟨hX, hZ, hW1⟩
  have x0 : W1.cell? ⟨w.heap.size, 0, none⟩ = some (.int .i64 cl) := hX.cell 0
  have x1 : W1.cell? ⟨w.heap.size, 1, none⟩ = some (.int .i64 tg) := hX.cell 1
  have x2 : W1.cell? ⟨w.heap.size, 2, none⟩ = some (.bool co) := hX.cell 2
  have x3 : W1.cell? ⟨w.heap.size, 3, none⟩ = some (.slice a1 n1 c1) := hX.cell 3
  have x4 : W1.cell? ⟨w.heap.size, 4, none⟩ = some (.slice a2 n2 c2) := hX.cell 4
  have H1 : Hid (Below w.heap.size w W1 ∧ Blk 46 W1 (w.heap.size + 1) keyZ) := ⟨hW1, hZ⟩
  clear hX hZ hW1
  go_wp2_with fail
  refine (HR.out _ H1.out.1).mono ?_
  rintro e w2 ⟨⟨v, rfl, hv⟩, hb⟩
  have H2 : Hid (Below w.heap.size w w2 ∧ Blk 46 w2 (w.heap.size + 1) keyZ) := ⟨below_via H1.out.1 hb (Nat.le_refl _), below_blk hb H1.out.2.lt H1.out.2⟩
  obtain ⟨b, off, c, b1, m1, d1, b2, m2, d2, rfl, hc, hbl, e0, e1, e2, e3, e4, sd, sr, ht⟩ := hv.r.s.cons
  have HI : Hid (Calls Tryz.prog 46 #[.agg #[.int .i64 y.cl, .int .i64 y.tg, .bool y.co, .slice b1 m1 d1, .slice b2 m2 d2]] w2 fun e w' => IdAns an w' e none ∧ Below w2.heap.size w2 w') := by
    rw [← HY.out.2.2]; exact readId_any (HG.out.1.below H2.out.1) (HG.out.2.below H2.out.1) y b1 m1 d1 b2 m2 d2 sd HY.out.2.1 HY.out.1
  have kc : ((2 : Nat) : Int) ≤ (c : Int) := by simp at hc; omega
  obtain ⟨ycl, ytg, yco, yD, yR⟩ := y
  simp only [List.length_cons, List.length_nil] at HI e0 e1 e2 e3 e4 ⊢
  clear hb HR x0 x1 x2 x3 x4 H1 hv hc hbl sd sr ht HY
  go_wp2_with fail
  refine HI.out.mono ?_
  rintro e w3 ⟨⟨s, rfl⟩, hb3⟩
  have H3 : Hid (Below w.heap.size w w3 ∧ Blk 46 w3 (w.heap.size + 1) keyZ) := ⟨below_via H2.out.1 hb3 (Nat.le_refl _), below_blk hb3 H2.out.2.lt H2.out.2⟩
  clear hb3 e0 e1 e2 e3 e4 HI
  simp only [flV, erV]
  go_upto_region 5 with (fail)
  refine wp_gen (fun W => Below w3.heap.size w3 W) (al1 _) ?_
  intro W4 hB4
  have H4 : Hid (Below w.heap.size w W4 ∧ Blk 46 W4 (w.heap.size + 1) keyZ) := ⟨below_via H3.out.1 hB4 (Nat.le_refl _), below_blk hB4 H3.out.2.lt H3.out.2⟩
  obtain ⟨⟨z0, z1, z2, z3, z4⟩, f0, f1, f2, f3, f4⟩ := key_cel H4.out.2
  clear hB4
  go_wp2
  have hz := key_put H4.out.2 H4.out.1 0 (.slice none 0 0) (.slice none 0 0) (.slice none 0 0) (.slice none 0 0)
  exact bodyPost_ret (results_blk2 rfl rfl hz.1 Tryz.underlying46 rfl Tryz.sizeKey rfl) rfl ⟨⟨s, rfl⟩, hz.2.2⟩
end Go.Proofs.YtillkhjihggcjaaGreatDoor
/-
  Alg: Key at the page's example; the examples (live).
-/
namespace Go.Proofs.YtillkhjihggcjaaGreatDoor
open Go.RowKit
set_option maxRecDepth 20000
set_option maxHeartbeats 4000000 in
theorem Key_no {w : World} {an ak : Addr} (hG : Glb w an ak) (hT : P10 w) (x : El) (a1 : Option Addr) (n1 c1 : Nat) (a2 : Option Addr) (n2 c2 : Nat) (hD : Sl .u8 w (.slice a1 n1 c1) x.d) (uD : U8s x.d) (lD : x.d.length ≤ 6000) (y z : El) (hx : rowS x = some [y, z]) (hy : idS y = none) :
    Calls Tryz.prog 13 #[.agg #[.int .i64 x.cl, .int .i64 x.tg, .bool x.co, .slice a1 n1 c1, .slice a2 n2 c2]] w fun e w' => e = .returned (.tuple #[.agg keyZ.toArray, .int .i64 110]) ∧ Below w.heap.size w w' := by
  have HI : Hid (∀ W, Below w.heap.size w W → Calls Tryz.prog 30 #[.agg #[.int .i64 x.cl, .int .i64 x.tg, .bool x.co, .slice a1 n1 c1, .slice a2 n2 c2]] W fun e w' => (∃ s, e = .returned (.tuple #[.agg keyZ.toArray, flV an s])) ∧ Below W.heap.size W w') := fun W h => readKey_no (hG.below h) (hT.below h) x a1 n1 c1 a2 n2 c2 (below_sl h hD) uD lD y z hx hy
  have HTold : Hid (∀ W s, Below w.heap.size w W → Calls Tryz.prog 22 #[flV an s] W fun e w' => e = .returned (.int .i64 110) ∧ Below W.heap.size W w') := fun W s h => toldN (hG.below h) s
  obtain ⟨cl, tg, co, D, R⟩ := x
  simp only [] at hD HI ⊢
  clear hD uD lD hG hT hx hy
  go_enter Tryz.func13, Tryz.ntmps13
  go_upto_region 1 with (fail)
  refine wp_gen (fun W => Blk 24 W w.heap.size [.int .i64 cl, .int .i64 tg, .bool co, .slice a1 n1 c1, .slice a2 n2 c2] ∧ Blk 46 W (w.heap.size + 1) keyZ ∧ Below w.heap.size w W) ⟨(Blk.new _ w _).alloc _, (two_blk _ _ _ _ rfl).1, (two_blk 46 _ _ keyZ rfl).2⟩ ?_
  rintro W1 ⟨hX, hZ, hW1⟩
  have x0 : W1.cell? ⟨w.heap.size, 0, none⟩ = some (.int .i64 cl) := hX.cell 0
  have x1 : W1.cell? ⟨w.heap.size, 1, none⟩ = some (.int .i64 tg) := hX.cell 1
  have x2 : W1.cell? ⟨w.heap.size, 2, none⟩ = some (.bool co) := hX.cell 2
  have x3 : W1.cell? ⟨w.heap.size, 3, none⟩ = some (.slice a1 n1 c1) := hX.cell 3
  have x4 : W1.cell? ⟨w.heap.size, 4, none⟩ = some (.slice a2 n2 c2) := hX.cell 4
  have H1 : Hid (Below w.heap.size w W1 ∧ Blk 46 W1 (w.heap.size + 1) keyZ) := ⟨hW1, hZ⟩
  clear hX hZ hW1
  go_wp2_with fail
  refine (HI.out _ H1.out.1).mono ?_
  rintro e w2 ⟨⟨s, rfl⟩, hb⟩
  have H2 : Hid (Below w.heap.size w w2 ∧ Blk 46 w2 (w.heap.size + 1) keyZ) := ⟨below_via H1.out.1 hb (Nat.le_refl _), below_blk hb H1.out.2.lt H1.out.2⟩
  clear hb HI x0 x1 x2 x3 x4 H1
  simp only [keyZ, List.toArray]
  go_upto_region 2 with (fail)
  refine wp_gen (fun W => Blk 46 W w2.heap.size keyZ ∧ Below w2.heap.size w2 W) ⟨Blk.new _ w2 _, al1 _⟩ ?_
  rintro W3 ⟨hB, hBw⟩
  have H3 : Hid (∀ W, Below W3.heap.size W3 W → (W.cell? ⟨w2.heap.size, 0, none⟩ = some (.int .i64 0) ∧ W.cell? ⟨w2.heap.size, 1, none⟩ = some (.slice none 0 0) ∧ W.cell? ⟨w2.heap.size, 2, none⟩ = some (.slice none 0 0) ∧ W.cell? ⟨w2.heap.size, 3, none⟩ = some (.slice none 0 0) ∧ W.cell? ⟨w2.heap.size, 4, none⟩ = some (.slice none 0 0)) ∧ Below w.heap.size w W ∧ Blk 46 W (w.heap.size + 1) keyZ) := fun W h => by
    have q := below_blk h hB.lt hB
    have h2 := below_via hBw h (by have := hBw.size; omega)
    exact ⟨⟨q.cell 0, q.cell 1, q.cell 2, q.cell 3, q.cell 4⟩, below_via H2.out.1 h2 (Nat.le_refl _), below_blk h2 H2.out.2.lt H2.out.2⟩
  clear hB hBw
  obtain ⟨⟨y0, y1, y2, y3, y4⟩, hw3, hZ3⟩ := H3.out W3 (Below.refl _ _)
  have HT3 : Hid (Below w.heap.size w W3) := hw3
  clear hw3 hZ3
  go_region_with (go_at_call 22; refine (HTold.out _ _ (by first | exact HT3.out | exact below_drewN _ HT3.out)).mono ?_; rintro e w4 ⟨rfl, hb4⟩; obtain ⟨⟨v0, v1, v2, v3, v4⟩, hw4, hZ4⟩ := H3.out w4 (by first | exact hb4 | exact below_via (Below.drew (Below.refl _ _)) hb4 (Nat.le_refl _)); obtain ⟨⟨z0, z1, z2, z3, z4⟩, f0, f1, f2, f3, f4⟩ := key_cel hZ4; have H4 : Hid (Below w.heap.size w w4 ∧ Blk 46 w4 (w.heap.size + 1) keyZ) := ⟨hw4, hZ4⟩; clear hb4 hw4 hZ4)
  all_goals
    have hz := key_put H4.out.2 H4.out.1 0 (.slice none 0 0) (.slice none 0 0) (.slice none 0 0) (.slice none 0 0)
    have HZ : Hid (Blk 46 (((((w4.setCell ⟨w.heap.size + 1, 0, none⟩ (.int .i64 0)).setCell ⟨w.heap.size + 1, 1, none⟩ (.slice none 0 0)).setCell ⟨w.heap.size + 1, 2, none⟩ (.slice none 0 0)).setCell ⟨w.heap.size + 1, 3, none⟩ (.slice none 0 0)).setCell ⟨w.heap.size + 1, 4, none⟩ (.slice none 0 0)).drew (w.heap.size + 1) keyZ ∧ Below w.heap.size w (((((w4.setCell ⟨w.heap.size + 1, 0, none⟩ (.int .i64 0)).setCell ⟨w.heap.size + 1, 1, none⟩ (.slice none 0 0)).setCell ⟨w.heap.size + 1, 2, none⟩ (.slice none 0 0)).setCell ⟨w.heap.size + 1, 3, none⟩ (.slice none 0 0)).setCell ⟨w.heap.size + 1, 4, none⟩ (.slice none 0 0)).drew) := ⟨below_blk (Below.drew (Below.refl _ _)) hz.1.lt hz.1, Below.drew hz.2.2⟩
    clear hz
    go_wp2
    first
      | exact bodyPost_ret (results_blk2 rfl rfl HZ.out.1 Tryz.underlying46 rfl Tryz.sizeKey rfl) rfl ⟨rfl, HZ.out.2⟩
      | (have hz := key_put H4.out.2 H4.out.1 0 (.slice none 0 0) (.slice none 0 0) (.slice none 0 0) (.slice none 0 0)
         exact bodyPost_ret (results_blk2 rfl rfl hz.1 Tryz.underlying46 rfl Tryz.sizeKey rfl) rfl ⟨rfl, hz.2.2⟩)
theorem num11_any {w : World} (e : Int) : Calls Tryz.prog 11 #[.int .i64 e] w fun r w' => r = .returned (.int .i64 e) ∧ w = w' := by
  go_enter Tryz.func11, Tryz.ntmps11
  go_wp2
  go_ret
  exact ⟨rfl, rfl⟩
def exX : List Int := [48, 9, 6, 5, 43, 14, 3, 2, 26, 5, 0]
def exXe : El := ⟨0, 16, true, [6, 5, 43, 14, 3, 2, 26, 5, 0], [48, 9, 6, 5, 43, 14, 3, 2, 26, 5, 0]⟩
def exY : List Int := [48, 13, 6, 9, 42, 134, 72, 134, 247, 13, 1, 1, 11, 5, 0]
def exYe : El := ⟨0, 16, true, [6, 9, 42, 134, 72, 134, 247, 13, 1, 1, 11, 5, 0], [48, 13, 6, 9, 42, 134, 72, 134, 247, 13, 1, 1, 11, 5, 0]⟩
def exA : El := ⟨0, 6, false, [43, 14, 3, 2, 26], [6, 5, 43, 14, 3, 2, 26]⟩
def exB : El := ⟨0, 5, false, [], [5, 0]⟩
theorem ex1 : oneS (splitS exX) = (exXe, 0) := by rfl
theorem ex2 : oneS (splitS exY) = (exYe, 0) := by rfl
theorem ex3 : rowS exXe = some [exA, exB] := by rfl
theorem ex4 : idS exA = none := by rfl
theorem ex5 : digS exXe = 1 := by decide +kernel
theorem ex6 : (sgV (sgnS exYe)).k = 1 ∧ (sgV (sgnS exYe)).d = 2 ∧ (sgV (sgnS exYe)).m = 0 ∧ (sgV (sgnS exYe)).s = 0 ∧ sgE (sgnS exYe) = 0 := by decide +kernel
theorem ex7 : U8s exX ∧ U8s exY ∧ U8s exXe.d ∧ U8s exYe.d := by
  refine ⟨?_, ?_, ?_, ?_⟩ <;> (intro x hx; unfold U8; simp [exX, exY, exXe, exYe] at hx; omega)
end Go.Proofs.YtillkhjihggcjaaGreatDoor
/-
  Alg: keys, over elements; readBytes, curveNamed, readNumber.
-/
namespace Go.Proofs.YtillkhjihggcjaaGreatDoor
open Go.RowKit
set_option maxRecDepth 20000
/-- Bits that fill whole bytes. -/
def bytO (b : El) : Option (List Int) := if isP b 3 = true ∧ bitsOk b.d = true ∧ b.d.getD 0 0 = 0 then some (b.d.drop 1) else none
def numO (b : El) : Option (List Int) := if isP b 2 = true ∧ (uintS b.d).2 = 0 then some (uintS b.d).1 else none
def crvN1 : Option ByteArray → Int
  | none => 0
  | some S => if (S.toList == [49, 46, 50, 46, 56, 52, 48, 46, 49, 48, 48, 52, 53, 46, 51, 46, 49, 46, 55]) = true then 1 else if (S.toList == [49, 46, 51, 46, 49, 51, 50, 46, 48, 46, 51, 52]) = true then 2 else 0
def crvO : List El → Int
  | [b] => crvN1 (oidO b)
  | _ => 0
/-- A key: its curve, a modulus and an exponent, or a point. -/
structure Ky where
  cv : Int
  n : List Int
  e : List Int
  x : Nat
  y : Nat
def ky0 : Ky := ⟨0, [], [], 0, 0⟩
def rsa2 : Option (List Int) → Option (List Int) → Ky × Int
  | some N, some E => if keyOk N E = true then (⟨0, N, E, 0, 0⟩, 0) else (ky0, 80)
  | _, _ => (ky0, 80)
def rsaR : Option (List El) → Ky × Int
  | some [n, e] => rsa2 (numO n) (numO e)
  | _ => (ky0, 80)
def rsaK (B : List Int) : Ky × Int := if (oneS (splitS B)).2 = 0 then rsaR (rowS (oneS (splitS B)).1) else (ky0, 80)
def ptK (c : Int) (B : List Int) : Ky × Int := if (prsS c B).2.2 = 0 then (⟨c, [], [], (prsS c B).1, (prsS c B).2.1⟩, 0) else (ky0, 80)
def keyB (S : ByteArray) (rest : List El) (B : List Int) : Ky × Int :=
  if (S.toList == [49, 46, 50, 46, 56, 52, 48, 46, 49, 49, 51, 53, 52, 57, 46, 49, 46, 49, 46, 49]) = true then (if vdB rest = true then rsaK B else (ky0, 110))
  else if (S.toList == [49, 46, 50, 46, 56, 52, 48, 46, 49, 48, 48, 52, 53, 46, 50, 46, 49]) = true then (if crvO rest = 0 then (ky0, 110) else ptK (crvO rest) B) else (ky0, 110)
def keyI : Option (ByteArray × List El) → Option (List Int) → Ky × Int
  | some (S, rest), some B => keyB S rest B
  | _, _ => (ky0, 110)
def keyR : Option (List El) → Ky × Int
  | some [a, b] => keyI (idS a) (bytO b)
  | _ => (ky0, 110)
def keyK (x : El) : Ky × Int := keyR (rowS x)
theorem pow_256 (m k : Nat) (h : m ≤ 4 * k) : (256 : Int) ^ m ≤ 4294967296 ^ k := by
  have h3 : ((256 : Nat) ^ m) ≤ (256 : Nat) ^ (4 * k) := Nat.pow_le_pow_right (by decide) h
  have h4 : (256 : Nat) ^ (4 * k) = 4294967296 ^ k := by rw [Nat.pow_mul]
  rw [h4] at h3
  have := Int.ofNat_le.2 h3
  rw [Int.natCast_pow, Int.natCast_pow] at this
  exact this
theorem fromS_len512 {bs : List Int} (hu : U8s bs) : (fromS bs).1.length ≤ 512 := by
  unfold fromS
  split
  · simp
  · rename_i hl
    have h := bv_bound hu.rev
    rw [List.length_reverse] at h
    obtain ⟨k, hk⟩ : ∃ k : Nat, k = 512 := ⟨_, rfl⟩
    rw [← hk]
    refine lim_len_le (k := k) ?_
    rw [Int.toNat_of_nonneg h.1]
    exact Int.lt_of_lt_of_le h.2 (pow_256 _ k (by omega))
theorem uintS_len {X : List Int} (hu : U8s X) : (uintS X).1.length ≤ 512 := by
  unfold uintS
  split
  · simp
  split
  · simp
  split
  · exact fromS_len512 (hu.drop 1)
  · exact fromS_len512 hu
end Go.Proofs.YtillkhjihggcjaaGreatDoor
