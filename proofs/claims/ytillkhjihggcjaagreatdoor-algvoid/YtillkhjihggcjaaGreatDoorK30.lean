/-
  Alg: the reference's Sign, walked.
-/
import Derived.Test.YtillkhjihggcjaaGreatDoorK29
namespace Go.Proofs.YtillkhjihggcjaaGreatDoor
open Go.RowKit
set_option maxRecDepth 20000
theorem PsB.uni {e : Ending} {O : Option Al} (h : PsB e O) : e = .returned (.tuple #[.agg #[.int .i64 (sgV O).k, .int .i64 (sgV O).d, .int .i64 (sgV O).m, .int .i64 (sgV O).s], .bool O.isSome]) := by
  cases O <;> exact h
set_option maxHeartbeats 32000000 in
theorem RSign_any {w : World} (x : El) (a1 : Option Addr) (n1 c1 : Nat) (a2 : Option Addr) (n2 c2 : Nat) (hD : Sl .u8 w (.slice a1 n1 c1) x.d) (uD : U8s x.d) (lD : x.d.length ≤ 6000) :
    Calls Tryz.prog 10 #[.agg #[.int .i64 x.cl, .int .i64 x.tg, .bool x.co, .slice a1 n1 c1, .slice a2 n2 c2]] w fun e w' => e = .returned (.tuple #[.agg #[.int .i64 (sgV (sgnS x)).k, .int .i64 (sgV (sgnS x)).d, .int .i64 (sgV (sgnS x)).m, .int .i64 (sgV (sgnS x)).s], .int .i64 (sgE (sgnS x))]) ∧ Below w.heap.size w w' := by
  have HI : Hid (∀ W, Below w.heap.size w W → Calls Tryz.prog 23 #[.agg #[.int .i64 x.cl, .int .i64 x.tg, .bool x.co, .slice a1 n1 c1, .slice a2 n2 c2]] W fun e w' => RdAns w' e (idS x) ∧ Below W.heap.size W w') := fun W h => Rread_any x a1 n1 c1 a2 n2 c2 (below_sl h hD) uD lD
  obtain ⟨O, hO⟩ : ∃ O, sgnS x = O := ⟨_, rfl⟩
  obtain ⟨RO, hRO⟩ : ∃ R, idS x = R := ⟨_, rfl⟩
  rw [hO]
  have HQ : Hid (O = sgnO RO) := by show _ = _; rw [← hO, ← hRO]; rfl
  have HL : Hid (∀ S rest, RO = some (S, rest) → rest.length ≤ 1 ∧ ∀ y ∈ rest, y.d.length ≤ 6000 ∧ U8s y.d ∧ 0 ≤ y.tg) := fun S rest h => by have := idS_good uD lD (hRO.trans h); exact ⟨this.1, this.2.2⟩
  rw [hRO] at HI
  obtain ⟨cl, tg, co, D, R⟩ := x
  simp only [] at hD HI ⊢
  clear hD uD lD hO hRO
  go_enter Tryz.func10, Tryz.ntmps10
  go_upto_region 1 with (fail)
  refine wp_gen (fun W => Blk 24 W w.heap.size [.int .i64 cl, .int .i64 tg, .bool co, .slice a1 n1 c1, .slice a2 n2 c2] ∧ Blk 32 W (w.heap.size + 1) [.int .i64 0, .int .i64 0, .int .i64 0, .int .i64 0] ∧ Below w.heap.size w W) ⟨(Blk.new _ w _).alloc _, by
    have := Blk.new 32 (w.alloc (.cells #[.int .i64 cl, .int .i64 tg, .bool co, .slice a1 n1 c1, .slice a2 n2 c2] 24)) [.int .i64 0, .int .i64 0, .int .i64 0, .int .i64 0]
    rw [World.size_alloc] at this
    exact this, below_via (al1 _) (al1 _) (Nat.le_refl _)⟩ ?_
  rintro W1 ⟨hX, hZ, hW1⟩
  have x0 : W1.cell? ⟨w.heap.size, 0, none⟩ = some (.int .i64 cl) := hX.cell 0
  have x1 : W1.cell? ⟨w.heap.size, 1, none⟩ = some (.int .i64 tg) := hX.cell 1
  have x2 : W1.cell? ⟨w.heap.size, 2, none⟩ = some (.bool co) := hX.cell 2
  have x3 : W1.cell? ⟨w.heap.size, 3, none⟩ = some (.slice a1 n1 c1) := hX.cell 3
  have x4 : W1.cell? ⟨w.heap.size, 4, none⟩ = some (.slice a2 n2 c2) := hX.cell 4
  have H1 : Hid (Below w.heap.size w W1 ∧ Blk 32 W1 (w.heap.size + 1) [.int .i64 0, .int .i64 0, .int .i64 0, .int .i64 0]) := ⟨hW1, hZ⟩
  clear hX hZ hW1
  go_wp2_with fail
  refine (HI.out _ H1.out.1).mono ?_
  rintro e w2 ⟨ha, hb⟩
  have H2 : Hid (Below w.heap.size w w2 ∧ Blk 32 w2 (w.heap.size + 1) [.int .i64 0, .int .i64 0, .int .i64 0, .int .i64 0]) := ⟨below_via H1.out.1 hb (Nat.le_refl _), below_blk hb H1.out.2.lt H1.out.2⟩
  clear hb HI x0 x1 x2 x3 x4 H1
  have z0 : w2.cell? ⟨w.heap.size + 1, 0, none⟩ = some (.int .i64 0) := H2.out.2.cell 0
  have f0 := H2.out.2.frozen 0
  have z1 : w2.cell? ⟨w.heap.size + 1, 1, none⟩ = some (.int .i64 0) := H2.out.2.cell 1
  have f1 := H2.out.2.frozen 1
  have z2 : w2.cell? ⟨w.heap.size + 1, 2, none⟩ = some (.int .i64 0) := H2.out.2.cell 2
  have f2 := H2.out.2.frozen 2
  have z3 : w2.cell? ⟨w.heap.size + 1, 3, none⟩ = some (.int .i64 0) := H2.out.2.cell 3
  have f3 := H2.out.2.frozen 3
  cases RO with
  | none =>
    obtain ⟨s, a, n, c, rfl⟩ := ha
    have HO : Hid (O = none) := HQ.out
    clear HQ HL
    go_wp2
    have hz1 := (((H2.out.2.set 0 (.int .i64 0)).set 1 (.int .i64 0)).set 2 (.int .i64 0)).set 3 (.int .i64 0)
    have hz2 := ((((Upd.set _ (w.heap.size + 1) 0 (.int .i64 0)).trans (Upd.set _ _ 1 (.int .i64 0))).trans (Upd.set _ _ 2 (.int .i64 0))).trans (Upd.set _ _ 3 (.int .i64 0))).below H2.out.1 H2.out.1.size (Nat.le_succ _)
    refine bodyPost_ret (results_blk2 rfl rfl hz1 Tryz.underlying32 rfl Tryz.sizeAl rfl) rfl ⟨?_, hz2⟩
    rw [HO.out]
    rfl
  | some SR =>
    obtain ⟨S, rest⟩ := SR
    obtain ⟨a, n, c, rfl, hn, hr⟩ := ha
    have hl := HL.out S rest rfl
    replace HQ : Hid (O = sgnA (nmd S) rest) := HQ.out
    obtain ⟨vb, hvb⟩ : ∃ v, vdB rest = v := ⟨_, rfl⟩
    have HW : Hid (Calls Tryz.prog 24 #[.slice a n c] w2 fun e w' => e = .returned (.bool vb) ∧ Below w2.heap.size w2 w') := by rw [← hvb]; exact Rvoid_any a n c rest hn hr (by have := hl.1; omega)
    have HVB : Hid (vdB rest = vb) := hvb
    have HE : Hid (rest.isEmpty = (((n : Nat) : Int) == 0)) := by
      show _ = _
      rw [← hn]
      rcases rest with _ | ⟨r, rest⟩
      · rfl
      · simp; omega
    have HR : Hid (rest.length = n ∧ TlvS w2 (.slice a n c) rest ∧ rest.length ≤ 1 ∧ ∀ y ∈ rest, y.d.length ≤ 6000 ∧ U8s y.d ∧ 0 ≤ y.tg) := ⟨hn, hr, hl.1, hl.2⟩
    clear hvb hn hr hl HL
    cases hp : (S.toList == [49, 46, 50, 46, 56, 52, 48, 46, 49, 49, 51, 53, 52, 57, 46, 49, 46, 49, 46, 49, 48]) with
    | true =>
      have hN : nmd S = ⟨2, 1, 1, 20⟩ := by
        have hS := eq_of_beq hp
        unfold nmd
        rw [hS]
        rfl
      replace HQ : Hid (O = pssS rest) := by show _ = _; rw [HQ.out, hN]; rfl
      clear hN HW HVB
      by_cases hn1 : n = 0
      · subst hn1
        have HO : Hid (O = none) := by
          show _ = _
          rw [HQ.out, List.eq_nil_of_length_eq_zero HR.out.1]
          rfl
        clear HQ HR HE
        go_wp2
        have hz1 := (((H2.out.2.set 0 (.int .i64 0)).set 1 (.int .i64 0)).set 2 (.int .i64 0)).set 3 (.int .i64 0)
        have hz2 := ((((Upd.set _ (w.heap.size + 1) 0 (.int .i64 0)).trans (Upd.set _ _ 1 (.int .i64 0))).trans (Upd.set _ _ 2 (.int .i64 0))).trans (Upd.set _ _ 3 (.int .i64 0))).below H2.out.1 H2.out.1.size (Nat.le_succ _)
        refine bodyPost_ret (results_blk2 rfl rfl hz1 Tryz.underlying32 rfl Tryz.sizeAl rfl) rfl ⟨?_, hz2⟩
        rw [HO.out]
        rfl
      · obtain ⟨r, hrest⟩ : ∃ r, rest = [r] := by
          have := HR.out
          rcases rest with _ | ⟨r, _ | ⟨z, rest⟩⟩
          · exact absurd this.1.symm hn1
          · exact ⟨r, rfl⟩
          · have := this.2.2.1; simp at this
        subst hrest
        obtain rfl : n = 1 := HR.out.1.symm
        have hy := HR.out.2.2.2 r (by simp)
        obtain ⟨rb, roff, rc', s1, u1, t1, s2, u2, t2, hvv, hc, hbl, j0, j1, j2, j3, j4, sd, sr, ht⟩ := HR.out.2.1.cons
        simp only [Value.slice.injEq] at hvv
        obtain ⟨rfl, hx1, rfl⟩ := hvv
        have HC : Hid (Calls Tryz.prog 27 #[.agg #[.int .i64 r.cl, .int .i64 r.tg, .bool r.co, .slice s1 u1 t1, .slice s2 u2 t2]] w2 fun e w' => e = .returned (.tuple #[.agg #[.int .i64 (sgV O).k, .int .i64 (sgV O).d, .int .i64 (sgV O).m, .int .i64 (sgV O).s], .bool O.isSome]) ∧ Below w2.heap.size w2 w') := (Rpss_any r s1 u1 t1 s2 u2 t2 sd hy.2.1 hy.1).mono fun e w' ⟨h1, h2⟩ => ⟨by rw [HQ.out]; exact PsB.uni h1, h2⟩
        obtain ⟨rcl, rtg, rco, rD, rR⟩ := r
        obtain ⟨⟨A0, A1, A2, A3⟩, hA⟩ : ∃ A, sgV O = A := ⟨_, rfl⟩
        have HA : Hid (sgV O = ⟨A0, A1, A2, A3⟩) := hA
        rw [hA] at HC
        simp only [] at HC j0 j1 j2 j3 j4
        clear hA hy hc hbl hx1 sd sr ht hn1 HR HE HQ
        go_wp2_with fail
        refine HC.out.mono ?_
        rintro e w3 ⟨rfl, hb3⟩
        have H3 : Hid (Below w.heap.size w w3 ∧ Blk 32 w3 (w.heap.size + 1) [.int .i64 0, .int .i64 0, .int .i64 0, .int .i64 0]) := ⟨below_via H2.out.1 hb3 (Nat.le_refl _), below_blk hb3 H2.out.2.lt H2.out.2⟩
        clear hb3 j0 j1 j2 j3 j4 HC z0 z1 z2 z3 f0 f1 f2 f3
        go_upto_region 8 with (fail)
        refine wp_gen (fun W => Blk 32 W w3.heap.size [.int .i64 A0, .int .i64 A1, .int .i64 A2, .int .i64 A3] ∧ Below w3.heap.size w3 W) ⟨Blk.new _ w3 _, al1 _⟩ ?_
        rintro W4 ⟨hB, hBw⟩
        have H4 : Hid (Below w.heap.size w W4 ∧ Blk 32 W4 (w.heap.size + 1) [.int .i64 0, .int .i64 0, .int .i64 0, .int .i64 0]) := ⟨below_via H3.out.1 hBw (Nat.le_refl _), below_blk hBw H3.out.2.lt H3.out.2⟩
        have y0 : W4.cell? ⟨w3.heap.size, 0, none⟩ = some (.int .i64 A0) := hB.cell 0
        have y1 : W4.cell? ⟨w3.heap.size, 1, none⟩ = some (.int .i64 A1) := hB.cell 1
        have y2 : W4.cell? ⟨w3.heap.size, 2, none⟩ = some (.int .i64 A2) := hB.cell 2
        have y3 : W4.cell? ⟨w3.heap.size, 3, none⟩ = some (.int .i64 A3) := hB.cell 3
        clear hB hBw
        have z0 : W4.cell? ⟨w.heap.size + 1, 0, none⟩ = some (.int .i64 0) := H4.out.2.cell 0
        have f0 := H4.out.2.frozen 0
        have z1 : W4.cell? ⟨w.heap.size + 1, 1, none⟩ = some (.int .i64 0) := H4.out.2.cell 1
        have f1 := H4.out.2.frozen 1
        have z2 : W4.cell? ⟨w.heap.size + 1, 2, none⟩ = some (.int .i64 0) := H4.out.2.cell 2
        have f2 := H4.out.2.frozen 2
        have z3 : W4.cell? ⟨w.heap.size + 1, 3, none⟩ = some (.int .i64 0) := H4.out.2.cell 3
        have f3 := H4.out.2.frozen 3
        cases O with
        | none =>
          have HO : Hid ((none : Option Al) = none) := rfl
          simp only [Option.isSome]
          go_wp2
          have hz1 := (((H4.out.2.set 0 (.int .i64 0)).set 1 (.int .i64 0)).set 2 (.int .i64 0)).set 3 (.int .i64 0)
          have hz2 := ((((Upd.set _ (w.heap.size + 1) 0 (.int .i64 0)).trans (Upd.set _ _ 1 (.int .i64 0))).trans (Upd.set _ _ 2 (.int .i64 0))).trans (Upd.set _ _ 3 (.int .i64 0))).below H4.out.1 H4.out.1.size (Nat.le_succ _)
          refine bodyPost_ret (results_blk2 rfl rfl hz1 Tryz.underlying32 rfl Tryz.sizeAl rfl) rfl ⟨?_, hz2⟩
          rfl
        | some A =>
          simp only [Option.isSome]
          go_wp2
          have hz1 := (((H4.out.2.set 0 (.int .i64 A0)).set 1 (.int .i64 A1)).set 2 (.int .i64 A2)).set 3 (.int .i64 A3)
          have hz2 := ((((Upd.set _ (w.heap.size + 1) 0 (.int .i64 A0)).trans (Upd.set _ _ 1 (.int .i64 A1))).trans (Upd.set _ _ 2 (.int .i64 A2))).trans (Upd.set _ _ 3 (.int .i64 A3))).below H4.out.1 H4.out.1.size (Nat.le_succ _)
          refine bodyPost_ret (results_blk2 rfl rfl hz1 Tryz.underlying32 rfl Tryz.sizeAl rfl) rfl ⟨?_, hz2⟩
          rw [HA.out]
          rfl
    | false =>
      obtain ⟨q, hq⟩ : ∃ q, (((n : Nat) : Int) == 0) = q := ⟨_, rfl⟩
      rw [hq] at HE
      clear HR
      cases h0 : (S.toList == [49, 46, 50, 46, 56, 52, 48, 46, 49, 49, 51, 53, 52, 57, 46, 49, 46, 49, 46, 49]) with
      | true =>
        have hS := eq_of_beq h0
        have hN : nmd S = ⟨1, 0, 0, 0⟩ := by unfold nmd; rw [hS]; rfl
        have h1 : (S.toList == [49, 46, 50, 46, 56, 52, 48, 46, 49, 49, 51, 53, 52, 57, 46, 49, 46, 49, 46, 53]) = false := by rw [hS]; rfl
        have h2 : (S.toList == [49, 46, 50, 46, 56, 52, 48, 46, 49, 49, 51, 53, 52, 57, 46, 49, 46, 49, 46, 49, 49]) = false := by rw [hS]; rfl
        have h3 : (S.toList == [49, 46, 50, 46, 56, 52, 48, 46, 49, 49, 51, 53, 52, 57, 46, 49, 46, 49, 46, 49, 50]) = false := by rw [hS]; rfl
        have h4 : (S.toList == [49, 46, 50, 46, 56, 52, 48, 46, 49, 49, 51, 53, 52, 57, 46, 49, 46, 49, 46, 49, 51]) = false := by rw [hS]; rfl
        have h5 : (S.toList == [49, 46, 50, 46, 56, 52, 48, 46, 49, 48, 48, 52, 53, 46, 52, 46, 49]) = false := by rw [hS]; rfl
        have h6 : (S.toList == [49, 46, 50, 46, 56, 52, 48, 46, 49, 48, 48, 52, 53, 46, 52, 46, 51, 46, 50]) = false := by rw [hS]; rfl
        have h7 : (S.toList == [49, 46, 50, 46, 56, 52, 48, 46, 49, 48, 48, 52, 53, 46, 52, 46, 51, 46, 51]) = false := by rw [hS]; rfl
        have h8 : (S.toList == [49, 46, 50, 46, 56, 52, 48, 46, 49, 48, 48, 52, 53, 46, 52, 46, 51, 46, 52]) = false := by rw [hS]; rfl
        clear hS
        have HA : Hid (O = if vb = true then some ⟨1, 0, 0, 0⟩ else none) := by show _ = _; rw [HQ.out, hN, ← HVB.out]; rfl
        clear HQ hN
        cases vb with
        | true =>
          have HO : Hid (O = some ⟨1, 0, 0, 0⟩) := HA.out
          clear HA
          go_wp2_with fail
          refine wp_loop_rounds 1 ?_
          rw [rounds_succ]
          go_wp2_with (first | (go_at_call 28; refine ROr_0.mono ?_; rintro e w9 ⟨rfl, rfl⟩) | (go_at_call 24; refine HW.out.mono ?_; rintro e w3 ⟨rfl, hb3⟩; have H3 : Hid (Below w.heap.size w w3 ∧ Blk 32 w3 (w.heap.size + 1) [.int .i64 0, .int .i64 0, .int .i64 0, .int .i64 0]) := ⟨below_via H2.out.1 hb3 (Nat.le_refl _), below_blk hb3 H2.out.2.lt H2.out.2⟩; have y0 : w3.cell? ⟨w.heap.size + 1, 0, none⟩ = some (.int .i64 0) := H3.out.2.cell 0; have y1 : w3.cell? ⟨w.heap.size + 1, 1, none⟩ = some (.int .i64 0) := H3.out.2.cell 1; have y2 : w3.cell? ⟨w.heap.size + 1, 2, none⟩ = some (.int .i64 0) := H3.out.2.cell 2; have y3 : w3.cell? ⟨w.heap.size + 1, 3, none⟩ = some (.int .i64 0) := H3.out.2.cell 3; have k0 := H3.out.2.frozen 0; have k1 := H3.out.2.frozen 1; have k2 := H3.out.2.frozen 2; have k3 := H3.out.2.frozen 3; clear hb3))
          have hz1 := (((H3.out.2.set 0 (.int .i64 1)).set 1 (.int .i64 0)).set 2 (.int .i64 0)).set 3 (.int .i64 0)
          have hz2 := ((((Upd.set _ (w.heap.size + 1) 0 (.int .i64 1)).trans (Upd.set _ _ 1 (.int .i64 0))).trans (Upd.set _ _ 2 (.int .i64 0))).trans (Upd.set _ _ 3 (.int .i64 0))).below H3.out.1 H3.out.1.size (Nat.le_succ _)
          refine bodyPost_ret (results_blk2 rfl rfl hz1 Tryz.underlying32 rfl Tryz.sizeAl rfl) rfl ⟨?_, hz2⟩
          rw [HO.out]
          rfl
        | false =>
          have HO : Hid (O = none) := HA.out
          clear HA
          go_wp2_with fail
          refine wp_loop_rounds 6 ?_
          rw [rounds_succ]
          go_wp2_with (first | (go_at_call 28; refine ROr_0.mono ?_; rintro e w9 ⟨rfl, rfl⟩) | (go_at_call 24; refine HW.out.mono ?_; rintro e w3 ⟨rfl, hb3⟩; have H3 : Hid (Below w.heap.size w w3 ∧ Blk 32 w3 (w.heap.size + 1) [.int .i64 0, .int .i64 0, .int .i64 0, .int .i64 0]) := ⟨below_via H2.out.1 hb3 (Nat.le_refl _), below_blk hb3 H2.out.2.lt H2.out.2⟩; have y0 : w3.cell? ⟨w.heap.size + 1, 0, none⟩ = some (.int .i64 0) := H3.out.2.cell 0; have y1 : w3.cell? ⟨w.heap.size + 1, 1, none⟩ = some (.int .i64 0) := H3.out.2.cell 1; have y2 : w3.cell? ⟨w.heap.size + 1, 2, none⟩ = some (.int .i64 0) := H3.out.2.cell 2; have y3 : w3.cell? ⟨w.heap.size + 1, 3, none⟩ = some (.int .i64 0) := H3.out.2.cell 3; have k0 := H3.out.2.frozen 0; have k1 := H3.out.2.frozen 1; have k2 := H3.out.2.frozen 2; have k3 := H3.out.2.frozen 3; clear hb3))
          rw [rounds_succ]
          go_wp2_with (first | (go_at_call 28; refine ROr_1.mono ?_; rintro e w9 ⟨rfl, rfl⟩) | (go_at_call 29; refine ROp_1.mono ?_; rintro e w9 ⟨rfl, rfl⟩))
          rw [rounds_succ]
          go_wp2_with (first | (go_at_call 28; refine ROr_2.mono ?_; rintro e w9 ⟨rfl, rfl⟩) | (go_at_call 29; refine ROp_2.mono ?_; rintro e w9 ⟨rfl, rfl⟩))
          rw [rounds_succ]
          go_wp2_with (first | (go_at_call 28; refine ROr_3.mono ?_; rintro e w9 ⟨rfl, rfl⟩) | (go_at_call 29; refine ROp_3.mono ?_; rintro e w9 ⟨rfl, rfl⟩))
          rw [rounds_succ]
          go_wp2_with (first | (go_at_call 28; refine ROr_4.mono ?_; rintro e w9 ⟨rfl, rfl⟩) | (go_at_call 29; refine ROp_4.mono ?_; rintro e w9 ⟨rfl, rfl⟩))
          rw [rounds_succ]
          go_wp2
          have hz1 := (((H3.out.2.set 0 (.int .i64 0)).set 1 (.int .i64 0)).set 2 (.int .i64 0)).set 3 (.int .i64 0)
          have hz2 := ((((Upd.set _ (w.heap.size + 1) 0 (.int .i64 0)).trans (Upd.set _ _ 1 (.int .i64 0))).trans (Upd.set _ _ 2 (.int .i64 0))).trans (Upd.set _ _ 3 (.int .i64 0))).below H3.out.1 H3.out.1.size (Nat.le_succ _)
          refine bodyPost_ret (results_blk2 rfl rfl hz1 Tryz.underlying32 rfl Tryz.sizeAl rfl) rfl ⟨?_, hz2⟩
          rw [HO.out]
          rfl
      | false =>
        cases h1 : (S.toList == [49, 46, 50, 46, 56, 52, 48, 46, 49, 49, 51, 53, 52, 57, 46, 49, 46, 49, 46, 53]) with
        | true =>
          have hS := eq_of_beq h1
          have hN : nmd S = ⟨1, 1, 0, 0⟩ := by unfold nmd; rw [hS]; rfl
          have h2 : (S.toList == [49, 46, 50, 46, 56, 52, 48, 46, 49, 49, 51, 53, 52, 57, 46, 49, 46, 49, 46, 49, 49]) = false := by rw [hS]; rfl
          have h3 : (S.toList == [49, 46, 50, 46, 56, 52, 48, 46, 49, 49, 51, 53, 52, 57, 46, 49, 46, 49, 46, 49, 50]) = false := by rw [hS]; rfl
          have h4 : (S.toList == [49, 46, 50, 46, 56, 52, 48, 46, 49, 49, 51, 53, 52, 57, 46, 49, 46, 49, 46, 49, 51]) = false := by rw [hS]; rfl
          have h5 : (S.toList == [49, 46, 50, 46, 56, 52, 48, 46, 49, 48, 48, 52, 53, 46, 52, 46, 49]) = false := by rw [hS]; rfl
          have h6 : (S.toList == [49, 46, 50, 46, 56, 52, 48, 46, 49, 48, 48, 52, 53, 46, 52, 46, 51, 46, 50]) = false := by rw [hS]; rfl
          have h7 : (S.toList == [49, 46, 50, 46, 56, 52, 48, 46, 49, 48, 48, 52, 53, 46, 52, 46, 51, 46, 51]) = false := by rw [hS]; rfl
          have h8 : (S.toList == [49, 46, 50, 46, 56, 52, 48, 46, 49, 48, 48, 52, 53, 46, 52, 46, 51, 46, 52]) = false := by rw [hS]; rfl
          clear hS
          have HA : Hid (O = if vb = true then some ⟨1, 1, 0, 0⟩ else none) := by show _ = _; rw [HQ.out, hN, ← HVB.out]; rfl
          clear HQ hN
          cases vb with
          | true =>
            have HO : Hid (O = some ⟨1, 1, 0, 0⟩) := HA.out
            clear HA
            go_wp2_with fail
            refine wp_loop_rounds 2 ?_
            rw [rounds_succ]
            go_wp2_with ((go_at_call 28; refine ROr_0.mono ?_; rintro e w9 ⟨rfl, rfl⟩))
            rw [rounds_succ]
            go_wp2_with (first | (go_at_call 28; refine ROr_1.mono ?_; rintro e w9 ⟨rfl, rfl⟩) | (go_at_call 24; refine HW.out.mono ?_; rintro e w3 ⟨rfl, hb3⟩; have H3 : Hid (Below w.heap.size w w3 ∧ Blk 32 w3 (w.heap.size + 1) [.int .i64 0, .int .i64 0, .int .i64 0, .int .i64 0]) := ⟨below_via H2.out.1 hb3 (Nat.le_refl _), below_blk hb3 H2.out.2.lt H2.out.2⟩; have y0 : w3.cell? ⟨w.heap.size + 1, 0, none⟩ = some (.int .i64 0) := H3.out.2.cell 0; have y1 : w3.cell? ⟨w.heap.size + 1, 1, none⟩ = some (.int .i64 0) := H3.out.2.cell 1; have y2 : w3.cell? ⟨w.heap.size + 1, 2, none⟩ = some (.int .i64 0) := H3.out.2.cell 2; have y3 : w3.cell? ⟨w.heap.size + 1, 3, none⟩ = some (.int .i64 0) := H3.out.2.cell 3; have k0 := H3.out.2.frozen 0; have k1 := H3.out.2.frozen 1; have k2 := H3.out.2.frozen 2; have k3 := H3.out.2.frozen 3; clear hb3))
            have hz1 := (((H3.out.2.set 0 (.int .i64 1)).set 1 (.int .i64 1)).set 2 (.int .i64 0)).set 3 (.int .i64 0)
            have hz2 := ((((Upd.set _ (w.heap.size + 1) 0 (.int .i64 1)).trans (Upd.set _ _ 1 (.int .i64 1))).trans (Upd.set _ _ 2 (.int .i64 0))).trans (Upd.set _ _ 3 (.int .i64 0))).below H3.out.1 H3.out.1.size (Nat.le_succ _)
            refine bodyPost_ret (results_blk2 rfl rfl hz1 Tryz.underlying32 rfl Tryz.sizeAl rfl) rfl ⟨?_, hz2⟩
            rw [HO.out]
            rfl
          | false =>
            have HO : Hid (O = none) := HA.out
            clear HA
            go_wp2_with fail
            refine wp_loop_rounds 6 ?_
            rw [rounds_succ]
            go_wp2_with ((go_at_call 28; refine ROr_0.mono ?_; rintro e w9 ⟨rfl, rfl⟩))
            rw [rounds_succ]
            go_wp2_with (first | (go_at_call 28; refine ROr_1.mono ?_; rintro e w9 ⟨rfl, rfl⟩) | (go_at_call 24; refine HW.out.mono ?_; rintro e w3 ⟨rfl, hb3⟩; have H3 : Hid (Below w.heap.size w w3 ∧ Blk 32 w3 (w.heap.size + 1) [.int .i64 0, .int .i64 0, .int .i64 0, .int .i64 0]) := ⟨below_via H2.out.1 hb3 (Nat.le_refl _), below_blk hb3 H2.out.2.lt H2.out.2⟩; have y0 : w3.cell? ⟨w.heap.size + 1, 0, none⟩ = some (.int .i64 0) := H3.out.2.cell 0; have y1 : w3.cell? ⟨w.heap.size + 1, 1, none⟩ = some (.int .i64 0) := H3.out.2.cell 1; have y2 : w3.cell? ⟨w.heap.size + 1, 2, none⟩ = some (.int .i64 0) := H3.out.2.cell 2; have y3 : w3.cell? ⟨w.heap.size + 1, 3, none⟩ = some (.int .i64 0) := H3.out.2.cell 3; have k0 := H3.out.2.frozen 0; have k1 := H3.out.2.frozen 1; have k2 := H3.out.2.frozen 2; have k3 := H3.out.2.frozen 3; clear hb3) | (go_at_call 29; refine ROp_1.mono ?_; rintro e w9 ⟨rfl, rfl⟩))
            rw [rounds_succ]
            go_wp2_with (first | (go_at_call 28; refine ROr_2.mono ?_; rintro e w9 ⟨rfl, rfl⟩) | (go_at_call 29; refine ROp_2.mono ?_; rintro e w9 ⟨rfl, rfl⟩))
            rw [rounds_succ]
            go_wp2_with (first | (go_at_call 28; refine ROr_3.mono ?_; rintro e w9 ⟨rfl, rfl⟩) | (go_at_call 29; refine ROp_3.mono ?_; rintro e w9 ⟨rfl, rfl⟩))
            rw [rounds_succ]
            go_wp2_with (first | (go_at_call 28; refine ROr_4.mono ?_; rintro e w9 ⟨rfl, rfl⟩) | (go_at_call 29; refine ROp_4.mono ?_; rintro e w9 ⟨rfl, rfl⟩))
            rw [rounds_succ]
            go_wp2
            have hz1 := (((H3.out.2.set 0 (.int .i64 0)).set 1 (.int .i64 0)).set 2 (.int .i64 0)).set 3 (.int .i64 0)
            have hz2 := ((((Upd.set _ (w.heap.size + 1) 0 (.int .i64 0)).trans (Upd.set _ _ 1 (.int .i64 0))).trans (Upd.set _ _ 2 (.int .i64 0))).trans (Upd.set _ _ 3 (.int .i64 0))).below H3.out.1 H3.out.1.size (Nat.le_succ _)
            refine bodyPost_ret (results_blk2 rfl rfl hz1 Tryz.underlying32 rfl Tryz.sizeAl rfl) rfl ⟨?_, hz2⟩
            rw [HO.out]
            rfl
        | false =>
          cases h2 : (S.toList == [49, 46, 50, 46, 56, 52, 48, 46, 49, 49, 51, 53, 52, 57, 46, 49, 46, 49, 46, 49, 49]) with
          | true =>
            have hS := eq_of_beq h2
            have hN : nmd S = ⟨1, 2, 0, 0⟩ := by unfold nmd; rw [hS]; rfl
            have h3 : (S.toList == [49, 46, 50, 46, 56, 52, 48, 46, 49, 49, 51, 53, 52, 57, 46, 49, 46, 49, 46, 49, 50]) = false := by rw [hS]; rfl
            have h4 : (S.toList == [49, 46, 50, 46, 56, 52, 48, 46, 49, 49, 51, 53, 52, 57, 46, 49, 46, 49, 46, 49, 51]) = false := by rw [hS]; rfl
            have h5 : (S.toList == [49, 46, 50, 46, 56, 52, 48, 46, 49, 48, 48, 52, 53, 46, 52, 46, 49]) = false := by rw [hS]; rfl
            have h6 : (S.toList == [49, 46, 50, 46, 56, 52, 48, 46, 49, 48, 48, 52, 53, 46, 52, 46, 51, 46, 50]) = false := by rw [hS]; rfl
            have h7 : (S.toList == [49, 46, 50, 46, 56, 52, 48, 46, 49, 48, 48, 52, 53, 46, 52, 46, 51, 46, 51]) = false := by rw [hS]; rfl
            have h8 : (S.toList == [49, 46, 50, 46, 56, 52, 48, 46, 49, 48, 48, 52, 53, 46, 52, 46, 51, 46, 52]) = false := by rw [hS]; rfl
            clear hS
            have HA : Hid (O = if vb = true then some ⟨1, 2, 0, 0⟩ else none) := by show _ = _; rw [HQ.out, hN, ← HVB.out]; rfl
            clear HQ hN
            cases vb with
            | true =>
              have HO : Hid (O = some ⟨1, 2, 0, 0⟩) := HA.out
              clear HA
              go_wp2_with fail
              refine wp_loop_rounds 3 ?_
              rw [rounds_succ]
              go_wp2_with ((go_at_call 28; refine ROr_0.mono ?_; rintro e w9 ⟨rfl, rfl⟩))
              rw [rounds_succ]
              go_wp2_with (first | (go_at_call 28; refine ROr_1.mono ?_; rintro e w9 ⟨rfl, rfl⟩) | (go_at_call 29; refine ROp_1.mono ?_; rintro e w9 ⟨rfl, rfl⟩))
              rw [rounds_succ]
              go_wp2_with (first | (go_at_call 28; refine ROr_2.mono ?_; rintro e w9 ⟨rfl, rfl⟩) | (go_at_call 24; refine HW.out.mono ?_; rintro e w3 ⟨rfl, hb3⟩; have H3 : Hid (Below w.heap.size w w3 ∧ Blk 32 w3 (w.heap.size + 1) [.int .i64 0, .int .i64 0, .int .i64 0, .int .i64 0]) := ⟨below_via H2.out.1 hb3 (Nat.le_refl _), below_blk hb3 H2.out.2.lt H2.out.2⟩; have y0 : w3.cell? ⟨w.heap.size + 1, 0, none⟩ = some (.int .i64 0) := H3.out.2.cell 0; have y1 : w3.cell? ⟨w.heap.size + 1, 1, none⟩ = some (.int .i64 0) := H3.out.2.cell 1; have y2 : w3.cell? ⟨w.heap.size + 1, 2, none⟩ = some (.int .i64 0) := H3.out.2.cell 2; have y3 : w3.cell? ⟨w.heap.size + 1, 3, none⟩ = some (.int .i64 0) := H3.out.2.cell 3; have k0 := H3.out.2.frozen 0; have k1 := H3.out.2.frozen 1; have k2 := H3.out.2.frozen 2; have k3 := H3.out.2.frozen 3; clear hb3))
              have hz1 := (((H3.out.2.set 0 (.int .i64 1)).set 1 (.int .i64 2)).set 2 (.int .i64 0)).set 3 (.int .i64 0)
              have hz2 := ((((Upd.set _ (w.heap.size + 1) 0 (.int .i64 1)).trans (Upd.set _ _ 1 (.int .i64 2))).trans (Upd.set _ _ 2 (.int .i64 0))).trans (Upd.set _ _ 3 (.int .i64 0))).below H3.out.1 H3.out.1.size (Nat.le_succ _)
              refine bodyPost_ret (results_blk2 rfl rfl hz1 Tryz.underlying32 rfl Tryz.sizeAl rfl) rfl ⟨?_, hz2⟩
              rw [HO.out]
              rfl
            | false =>
              have HO : Hid (O = none) := HA.out
              clear HA
              go_wp2_with fail
              refine wp_loop_rounds 6 ?_
              rw [rounds_succ]
              go_wp2_with ((go_at_call 28; refine ROr_0.mono ?_; rintro e w9 ⟨rfl, rfl⟩))
              rw [rounds_succ]
              go_wp2_with (first | (go_at_call 28; refine ROr_1.mono ?_; rintro e w9 ⟨rfl, rfl⟩) | (go_at_call 29; refine ROp_1.mono ?_; rintro e w9 ⟨rfl, rfl⟩))
              rw [rounds_succ]
              go_wp2_with (first | (go_at_call 28; refine ROr_2.mono ?_; rintro e w9 ⟨rfl, rfl⟩) | (go_at_call 24; refine HW.out.mono ?_; rintro e w3 ⟨rfl, hb3⟩; have H3 : Hid (Below w.heap.size w w3 ∧ Blk 32 w3 (w.heap.size + 1) [.int .i64 0, .int .i64 0, .int .i64 0, .int .i64 0]) := ⟨below_via H2.out.1 hb3 (Nat.le_refl _), below_blk hb3 H2.out.2.lt H2.out.2⟩; have y0 : w3.cell? ⟨w.heap.size + 1, 0, none⟩ = some (.int .i64 0) := H3.out.2.cell 0; have y1 : w3.cell? ⟨w.heap.size + 1, 1, none⟩ = some (.int .i64 0) := H3.out.2.cell 1; have y2 : w3.cell? ⟨w.heap.size + 1, 2, none⟩ = some (.int .i64 0) := H3.out.2.cell 2; have y3 : w3.cell? ⟨w.heap.size + 1, 3, none⟩ = some (.int .i64 0) := H3.out.2.cell 3; have k0 := H3.out.2.frozen 0; have k1 := H3.out.2.frozen 1; have k2 := H3.out.2.frozen 2; have k3 := H3.out.2.frozen 3; clear hb3) | (go_at_call 29; refine ROp_2.mono ?_; rintro e w9 ⟨rfl, rfl⟩))
              rw [rounds_succ]
              go_wp2_with (first | (go_at_call 28; refine ROr_3.mono ?_; rintro e w9 ⟨rfl, rfl⟩) | (go_at_call 29; refine ROp_3.mono ?_; rintro e w9 ⟨rfl, rfl⟩))
              rw [rounds_succ]
              go_wp2_with (first | (go_at_call 28; refine ROr_4.mono ?_; rintro e w9 ⟨rfl, rfl⟩) | (go_at_call 29; refine ROp_4.mono ?_; rintro e w9 ⟨rfl, rfl⟩))
              rw [rounds_succ]
              go_wp2
              have hz1 := (((H3.out.2.set 0 (.int .i64 0)).set 1 (.int .i64 0)).set 2 (.int .i64 0)).set 3 (.int .i64 0)
              have hz2 := ((((Upd.set _ (w.heap.size + 1) 0 (.int .i64 0)).trans (Upd.set _ _ 1 (.int .i64 0))).trans (Upd.set _ _ 2 (.int .i64 0))).trans (Upd.set _ _ 3 (.int .i64 0))).below H3.out.1 H3.out.1.size (Nat.le_succ _)
              refine bodyPost_ret (results_blk2 rfl rfl hz1 Tryz.underlying32 rfl Tryz.sizeAl rfl) rfl ⟨?_, hz2⟩
              rw [HO.out]
              rfl
          | false =>
            cases h3 : (S.toList == [49, 46, 50, 46, 56, 52, 48, 46, 49, 49, 51, 53, 52, 57, 46, 49, 46, 49, 46, 49, 50]) with
            | true =>
              have hS := eq_of_beq h3
              have hN : nmd S = ⟨1, 3, 0, 0⟩ := by unfold nmd; rw [hS]; rfl
              have h4 : (S.toList == [49, 46, 50, 46, 56, 52, 48, 46, 49, 49, 51, 53, 52, 57, 46, 49, 46, 49, 46, 49, 51]) = false := by rw [hS]; rfl
              have h5 : (S.toList == [49, 46, 50, 46, 56, 52, 48, 46, 49, 48, 48, 52, 53, 46, 52, 46, 49]) = false := by rw [hS]; rfl
              have h6 : (S.toList == [49, 46, 50, 46, 56, 52, 48, 46, 49, 48, 48, 52, 53, 46, 52, 46, 51, 46, 50]) = false := by rw [hS]; rfl
              have h7 : (S.toList == [49, 46, 50, 46, 56, 52, 48, 46, 49, 48, 48, 52, 53, 46, 52, 46, 51, 46, 51]) = false := by rw [hS]; rfl
              have h8 : (S.toList == [49, 46, 50, 46, 56, 52, 48, 46, 49, 48, 48, 52, 53, 46, 52, 46, 51, 46, 52]) = false := by rw [hS]; rfl
              clear hS
              have HA : Hid (O = if vb = true then some ⟨1, 3, 0, 0⟩ else none) := by show _ = _; rw [HQ.out, hN, ← HVB.out]; rfl
              clear HQ hN
              cases vb with
              | true =>
                have HO : Hid (O = some ⟨1, 3, 0, 0⟩) := HA.out
                clear HA
                go_wp2_with fail
                refine wp_loop_rounds 4 ?_
                rw [rounds_succ]
                go_wp2_with ((go_at_call 28; refine ROr_0.mono ?_; rintro e w9 ⟨rfl, rfl⟩))
                rw [rounds_succ]
                go_wp2_with (first | (go_at_call 28; refine ROr_1.mono ?_; rintro e w9 ⟨rfl, rfl⟩) | (go_at_call 29; refine ROp_1.mono ?_; rintro e w9 ⟨rfl, rfl⟩))
                rw [rounds_succ]
                go_wp2_with (first | (go_at_call 28; refine ROr_2.mono ?_; rintro e w9 ⟨rfl, rfl⟩) | (go_at_call 29; refine ROp_2.mono ?_; rintro e w9 ⟨rfl, rfl⟩))
                rw [rounds_succ]
                go_wp2_with (first | (go_at_call 28; refine ROr_3.mono ?_; rintro e w9 ⟨rfl, rfl⟩) | (go_at_call 24; refine HW.out.mono ?_; rintro e w3 ⟨rfl, hb3⟩; have H3 : Hid (Below w.heap.size w w3 ∧ Blk 32 w3 (w.heap.size + 1) [.int .i64 0, .int .i64 0, .int .i64 0, .int .i64 0]) := ⟨below_via H2.out.1 hb3 (Nat.le_refl _), below_blk hb3 H2.out.2.lt H2.out.2⟩; have y0 : w3.cell? ⟨w.heap.size + 1, 0, none⟩ = some (.int .i64 0) := H3.out.2.cell 0; have y1 : w3.cell? ⟨w.heap.size + 1, 1, none⟩ = some (.int .i64 0) := H3.out.2.cell 1; have y2 : w3.cell? ⟨w.heap.size + 1, 2, none⟩ = some (.int .i64 0) := H3.out.2.cell 2; have y3 : w3.cell? ⟨w.heap.size + 1, 3, none⟩ = some (.int .i64 0) := H3.out.2.cell 3; have k0 := H3.out.2.frozen 0; have k1 := H3.out.2.frozen 1; have k2 := H3.out.2.frozen 2; have k3 := H3.out.2.frozen 3; clear hb3))
                have hz1 := (((H3.out.2.set 0 (.int .i64 1)).set 1 (.int .i64 3)).set 2 (.int .i64 0)).set 3 (.int .i64 0)
                have hz2 := ((((Upd.set _ (w.heap.size + 1) 0 (.int .i64 1)).trans (Upd.set _ _ 1 (.int .i64 3))).trans (Upd.set _ _ 2 (.int .i64 0))).trans (Upd.set _ _ 3 (.int .i64 0))).below H3.out.1 H3.out.1.size (Nat.le_succ _)
                refine bodyPost_ret (results_blk2 rfl rfl hz1 Tryz.underlying32 rfl Tryz.sizeAl rfl) rfl ⟨?_, hz2⟩
                rw [HO.out]
                rfl
              | false =>
                have HO : Hid (O = none) := HA.out
                clear HA
                go_wp2_with fail
                refine wp_loop_rounds 6 ?_
                rw [rounds_succ]
                go_wp2_with ((go_at_call 28; refine ROr_0.mono ?_; rintro e w9 ⟨rfl, rfl⟩))
                rw [rounds_succ]
                go_wp2_with (first | (go_at_call 28; refine ROr_1.mono ?_; rintro e w9 ⟨rfl, rfl⟩) | (go_at_call 29; refine ROp_1.mono ?_; rintro e w9 ⟨rfl, rfl⟩))
                rw [rounds_succ]
                go_wp2_with (first | (go_at_call 28; refine ROr_2.mono ?_; rintro e w9 ⟨rfl, rfl⟩) | (go_at_call 29; refine ROp_2.mono ?_; rintro e w9 ⟨rfl, rfl⟩))
                rw [rounds_succ]
                go_wp2_with (first | (go_at_call 28; refine ROr_3.mono ?_; rintro e w9 ⟨rfl, rfl⟩) | (go_at_call 24; refine HW.out.mono ?_; rintro e w3 ⟨rfl, hb3⟩; have H3 : Hid (Below w.heap.size w w3 ∧ Blk 32 w3 (w.heap.size + 1) [.int .i64 0, .int .i64 0, .int .i64 0, .int .i64 0]) := ⟨below_via H2.out.1 hb3 (Nat.le_refl _), below_blk hb3 H2.out.2.lt H2.out.2⟩; have y0 : w3.cell? ⟨w.heap.size + 1, 0, none⟩ = some (.int .i64 0) := H3.out.2.cell 0; have y1 : w3.cell? ⟨w.heap.size + 1, 1, none⟩ = some (.int .i64 0) := H3.out.2.cell 1; have y2 : w3.cell? ⟨w.heap.size + 1, 2, none⟩ = some (.int .i64 0) := H3.out.2.cell 2; have y3 : w3.cell? ⟨w.heap.size + 1, 3, none⟩ = some (.int .i64 0) := H3.out.2.cell 3; have k0 := H3.out.2.frozen 0; have k1 := H3.out.2.frozen 1; have k2 := H3.out.2.frozen 2; have k3 := H3.out.2.frozen 3; clear hb3) | (go_at_call 29; refine ROp_3.mono ?_; rintro e w9 ⟨rfl, rfl⟩))
                rw [rounds_succ]
                go_wp2_with (first | (go_at_call 28; refine ROr_4.mono ?_; rintro e w9 ⟨rfl, rfl⟩) | (go_at_call 29; refine ROp_4.mono ?_; rintro e w9 ⟨rfl, rfl⟩))
                rw [rounds_succ]
                go_wp2
                have hz1 := (((H3.out.2.set 0 (.int .i64 0)).set 1 (.int .i64 0)).set 2 (.int .i64 0)).set 3 (.int .i64 0)
                have hz2 := ((((Upd.set _ (w.heap.size + 1) 0 (.int .i64 0)).trans (Upd.set _ _ 1 (.int .i64 0))).trans (Upd.set _ _ 2 (.int .i64 0))).trans (Upd.set _ _ 3 (.int .i64 0))).below H3.out.1 H3.out.1.size (Nat.le_succ _)
                refine bodyPost_ret (results_blk2 rfl rfl hz1 Tryz.underlying32 rfl Tryz.sizeAl rfl) rfl ⟨?_, hz2⟩
                rw [HO.out]
                rfl
            | false =>
              cases h4 : (S.toList == [49, 46, 50, 46, 56, 52, 48, 46, 49, 49, 51, 53, 52, 57, 46, 49, 46, 49, 46, 49, 51]) with
              | true =>
                have hS := eq_of_beq h4
                have hN : nmd S = ⟨1, 4, 0, 0⟩ := by unfold nmd; rw [hS]; rfl
                have h5 : (S.toList == [49, 46, 50, 46, 56, 52, 48, 46, 49, 48, 48, 52, 53, 46, 52, 46, 49]) = false := by rw [hS]; rfl
                have h6 : (S.toList == [49, 46, 50, 46, 56, 52, 48, 46, 49, 48, 48, 52, 53, 46, 52, 46, 51, 46, 50]) = false := by rw [hS]; rfl
                have h7 : (S.toList == [49, 46, 50, 46, 56, 52, 48, 46, 49, 48, 48, 52, 53, 46, 52, 46, 51, 46, 51]) = false := by rw [hS]; rfl
                have h8 : (S.toList == [49, 46, 50, 46, 56, 52, 48, 46, 49, 48, 48, 52, 53, 46, 52, 46, 51, 46, 52]) = false := by rw [hS]; rfl
                clear hS
                have HA : Hid (O = if vb = true then some ⟨1, 4, 0, 0⟩ else none) := by show _ = _; rw [HQ.out, hN, ← HVB.out]; rfl
                clear HQ hN
                cases vb with
                | true =>
                  have HO : Hid (O = some ⟨1, 4, 0, 0⟩) := HA.out
                  clear HA
                  go_wp2_with fail
                  refine wp_loop_rounds 5 ?_
                  rw [rounds_succ]
                  go_wp2_with ((go_at_call 28; refine ROr_0.mono ?_; rintro e w9 ⟨rfl, rfl⟩))
                  rw [rounds_succ]
                  go_wp2_with (first | (go_at_call 28; refine ROr_1.mono ?_; rintro e w9 ⟨rfl, rfl⟩) | (go_at_call 29; refine ROp_1.mono ?_; rintro e w9 ⟨rfl, rfl⟩))
                  rw [rounds_succ]
                  go_wp2_with (first | (go_at_call 28; refine ROr_2.mono ?_; rintro e w9 ⟨rfl, rfl⟩) | (go_at_call 29; refine ROp_2.mono ?_; rintro e w9 ⟨rfl, rfl⟩))
                  rw [rounds_succ]
                  go_wp2_with (first | (go_at_call 28; refine ROr_3.mono ?_; rintro e w9 ⟨rfl, rfl⟩) | (go_at_call 29; refine ROp_3.mono ?_; rintro e w9 ⟨rfl, rfl⟩))
                  rw [rounds_succ]
                  go_wp2_with (first | (go_at_call 28; refine ROr_4.mono ?_; rintro e w9 ⟨rfl, rfl⟩) | (go_at_call 24; refine HW.out.mono ?_; rintro e w3 ⟨rfl, hb3⟩; have H3 : Hid (Below w.heap.size w w3 ∧ Blk 32 w3 (w.heap.size + 1) [.int .i64 0, .int .i64 0, .int .i64 0, .int .i64 0]) := ⟨below_via H2.out.1 hb3 (Nat.le_refl _), below_blk hb3 H2.out.2.lt H2.out.2⟩; have y0 : w3.cell? ⟨w.heap.size + 1, 0, none⟩ = some (.int .i64 0) := H3.out.2.cell 0; have y1 : w3.cell? ⟨w.heap.size + 1, 1, none⟩ = some (.int .i64 0) := H3.out.2.cell 1; have y2 : w3.cell? ⟨w.heap.size + 1, 2, none⟩ = some (.int .i64 0) := H3.out.2.cell 2; have y3 : w3.cell? ⟨w.heap.size + 1, 3, none⟩ = some (.int .i64 0) := H3.out.2.cell 3; have k0 := H3.out.2.frozen 0; have k1 := H3.out.2.frozen 1; have k2 := H3.out.2.frozen 2; have k3 := H3.out.2.frozen 3; clear hb3))
                  have hz1 := (((H3.out.2.set 0 (.int .i64 1)).set 1 (.int .i64 4)).set 2 (.int .i64 0)).set 3 (.int .i64 0)
                  have hz2 := ((((Upd.set _ (w.heap.size + 1) 0 (.int .i64 1)).trans (Upd.set _ _ 1 (.int .i64 4))).trans (Upd.set _ _ 2 (.int .i64 0))).trans (Upd.set _ _ 3 (.int .i64 0))).below H3.out.1 H3.out.1.size (Nat.le_succ _)
                  refine bodyPost_ret (results_blk2 rfl rfl hz1 Tryz.underlying32 rfl Tryz.sizeAl rfl) rfl ⟨?_, hz2⟩
                  rw [HO.out]
                  rfl
                | false =>
                  have HO : Hid (O = none) := HA.out
                  clear HA
                  go_wp2_with fail
                  refine wp_loop_rounds 6 ?_
                  rw [rounds_succ]
                  go_wp2_with ((go_at_call 28; refine ROr_0.mono ?_; rintro e w9 ⟨rfl, rfl⟩))
                  rw [rounds_succ]
                  go_wp2_with (first | (go_at_call 28; refine ROr_1.mono ?_; rintro e w9 ⟨rfl, rfl⟩) | (go_at_call 29; refine ROp_1.mono ?_; rintro e w9 ⟨rfl, rfl⟩))
                  rw [rounds_succ]
                  go_wp2_with (first | (go_at_call 28; refine ROr_2.mono ?_; rintro e w9 ⟨rfl, rfl⟩) | (go_at_call 29; refine ROp_2.mono ?_; rintro e w9 ⟨rfl, rfl⟩))
                  rw [rounds_succ]
                  go_wp2_with (first | (go_at_call 28; refine ROr_3.mono ?_; rintro e w9 ⟨rfl, rfl⟩) | (go_at_call 29; refine ROp_3.mono ?_; rintro e w9 ⟨rfl, rfl⟩))
                  rw [rounds_succ]
                  go_wp2_with (first | (go_at_call 28; refine ROr_4.mono ?_; rintro e w9 ⟨rfl, rfl⟩) | (go_at_call 24; refine HW.out.mono ?_; rintro e w3 ⟨rfl, hb3⟩; have H3 : Hid (Below w.heap.size w w3 ∧ Blk 32 w3 (w.heap.size + 1) [.int .i64 0, .int .i64 0, .int .i64 0, .int .i64 0]) := ⟨below_via H2.out.1 hb3 (Nat.le_refl _), below_blk hb3 H2.out.2.lt H2.out.2⟩; have y0 : w3.cell? ⟨w.heap.size + 1, 0, none⟩ = some (.int .i64 0) := H3.out.2.cell 0; have y1 : w3.cell? ⟨w.heap.size + 1, 1, none⟩ = some (.int .i64 0) := H3.out.2.cell 1; have y2 : w3.cell? ⟨w.heap.size + 1, 2, none⟩ = some (.int .i64 0) := H3.out.2.cell 2; have y3 : w3.cell? ⟨w.heap.size + 1, 3, none⟩ = some (.int .i64 0) := H3.out.2.cell 3; have k0 := H3.out.2.frozen 0; have k1 := H3.out.2.frozen 1; have k2 := H3.out.2.frozen 2; have k3 := H3.out.2.frozen 3; clear hb3) | (go_at_call 29; refine ROp_4.mono ?_; rintro e w9 ⟨rfl, rfl⟩))
                  rw [rounds_succ]
                  go_wp2
                  have hz1 := (((H3.out.2.set 0 (.int .i64 0)).set 1 (.int .i64 0)).set 2 (.int .i64 0)).set 3 (.int .i64 0)
                  have hz2 := ((((Upd.set _ (w.heap.size + 1) 0 (.int .i64 0)).trans (Upd.set _ _ 1 (.int .i64 0))).trans (Upd.set _ _ 2 (.int .i64 0))).trans (Upd.set _ _ 3 (.int .i64 0))).below H3.out.1 H3.out.1.size (Nat.le_succ _)
                  refine bodyPost_ret (results_blk2 rfl rfl hz1 Tryz.underlying32 rfl Tryz.sizeAl rfl) rfl ⟨?_, hz2⟩
                  rw [HO.out]
                  rfl
              | false =>
                cases h5 : (S.toList == [49, 46, 50, 46, 56, 52, 48, 46, 49, 48, 48, 52, 53, 46, 52, 46, 49]) with
                | true =>
                  have hS := eq_of_beq h5
                  have hN : nmd S = ⟨3, 1, 0, 0⟩ := by unfold nmd; rw [hS]; rfl
                  have h6 : (S.toList == [49, 46, 50, 46, 56, 52, 48, 46, 49, 48, 48, 52, 53, 46, 52, 46, 51, 46, 50]) = false := by rw [hS]; rfl
                  have h7 : (S.toList == [49, 46, 50, 46, 56, 52, 48, 46, 49, 48, 48, 52, 53, 46, 52, 46, 51, 46, 51]) = false := by rw [hS]; rfl
                  have h8 : (S.toList == [49, 46, 50, 46, 56, 52, 48, 46, 49, 48, 48, 52, 53, 46, 52, 46, 51, 46, 52]) = false := by rw [hS]; rfl
                  clear hS
                  have HA : Hid (O = if rest.isEmpty = true then some ⟨3, 1, 0, 0⟩ else none) := by show _ = _; rw [HQ.out, hN]; rfl
                  clear HQ hN
                  cases q with
                  | true =>
                    have HO : Hid (O = some ⟨3, 1, 0, 0⟩) := by show _ = _; rw [HA.out, HE.out]; rfl
                    clear HA HE
                    go_wp2_with fail
                    refine wp_loop_rounds 2 ?_
                    rw [rounds_succ]
                    go_wp2_with ((go_at_call 28; refine ROr_0.mono ?_; rintro e w9 ⟨rfl, rfl⟩))
                    rw [rounds_succ]
                    go_wp2_with (first | (go_at_call 28; refine ROr_1.mono ?_; rintro e w9 ⟨rfl, rfl⟩) | (go_at_call 29; refine ROp_1.mono ?_; rintro e w9 ⟨rfl, rfl⟩))
                    have hz1 := (((H2.out.2.set 0 (.int .i64 3)).set 1 (.int .i64 1)).set 2 (.int .i64 0)).set 3 (.int .i64 0)
                    have hz2 := ((((Upd.set _ (w.heap.size + 1) 0 (.int .i64 3)).trans (Upd.set _ _ 1 (.int .i64 1))).trans (Upd.set _ _ 2 (.int .i64 0))).trans (Upd.set _ _ 3 (.int .i64 0))).below H2.out.1 H2.out.1.size (Nat.le_succ _)
                    refine bodyPost_ret (results_blk2 rfl rfl hz1 Tryz.underlying32 rfl Tryz.sizeAl rfl) rfl ⟨?_, hz2⟩
                    rw [HO.out]
                    rfl
                  | false =>
                    have HO : Hid (O = none) := by show _ = _; rw [HA.out, HE.out]; rfl
                    clear HA HE
                    go_wp2_with fail
                    refine wp_loop_rounds 6 ?_
                    rw [rounds_succ]
                    go_wp2_with ((go_at_call 28; refine ROr_0.mono ?_; rintro e w9 ⟨rfl, rfl⟩))
                    rw [rounds_succ]
                    go_wp2_with (first | (go_at_call 28; refine ROr_1.mono ?_; rintro e w9 ⟨rfl, rfl⟩) | (go_at_call 29; refine ROp_1.mono ?_; rintro e w9 ⟨rfl, rfl⟩))
                    rw [rounds_succ]
                    go_wp2_with (first | (go_at_call 28; refine ROr_2.mono ?_; rintro e w9 ⟨rfl, rfl⟩) | (go_at_call 29; refine ROp_2.mono ?_; rintro e w9 ⟨rfl, rfl⟩))
                    rw [rounds_succ]
                    go_wp2_with (first | (go_at_call 28; refine ROr_3.mono ?_; rintro e w9 ⟨rfl, rfl⟩) | (go_at_call 29; refine ROp_3.mono ?_; rintro e w9 ⟨rfl, rfl⟩))
                    rw [rounds_succ]
                    go_wp2_with (first | (go_at_call 28; refine ROr_4.mono ?_; rintro e w9 ⟨rfl, rfl⟩) | (go_at_call 29; refine ROp_4.mono ?_; rintro e w9 ⟨rfl, rfl⟩))
                    rw [rounds_succ]
                    go_wp2
                    have hz1 := (((H2.out.2.set 0 (.int .i64 0)).set 1 (.int .i64 0)).set 2 (.int .i64 0)).set 3 (.int .i64 0)
                    have hz2 := ((((Upd.set _ (w.heap.size + 1) 0 (.int .i64 0)).trans (Upd.set _ _ 1 (.int .i64 0))).trans (Upd.set _ _ 2 (.int .i64 0))).trans (Upd.set _ _ 3 (.int .i64 0))).below H2.out.1 H2.out.1.size (Nat.le_succ _)
                    refine bodyPost_ret (results_blk2 rfl rfl hz1 Tryz.underlying32 rfl Tryz.sizeAl rfl) rfl ⟨?_, hz2⟩
                    rw [HO.out]
                    rfl
                | false =>
                  cases h6 : (S.toList == [49, 46, 50, 46, 56, 52, 48, 46, 49, 48, 48, 52, 53, 46, 52, 46, 51, 46, 50]) with
                  | true =>
                    have hS := eq_of_beq h6
                    have hN : nmd S = ⟨3, 2, 0, 0⟩ := by unfold nmd; rw [hS]; rfl
                    have h7 : (S.toList == [49, 46, 50, 46, 56, 52, 48, 46, 49, 48, 48, 52, 53, 46, 52, 46, 51, 46, 51]) = false := by rw [hS]; rfl
                    have h8 : (S.toList == [49, 46, 50, 46, 56, 52, 48, 46, 49, 48, 48, 52, 53, 46, 52, 46, 51, 46, 52]) = false := by rw [hS]; rfl
                    clear hS
                    have HA : Hid (O = if rest.isEmpty = true then some ⟨3, 2, 0, 0⟩ else none) := by show _ = _; rw [HQ.out, hN]; rfl
                    clear HQ hN
                    cases q with
                    | true =>
                      have HO : Hid (O = some ⟨3, 2, 0, 0⟩) := by show _ = _; rw [HA.out, HE.out]; rfl
                      clear HA HE
                      go_wp2_with fail
                      refine wp_loop_rounds 3 ?_
                      rw [rounds_succ]
                      go_wp2_with ((go_at_call 28; refine ROr_0.mono ?_; rintro e w9 ⟨rfl, rfl⟩))
                      rw [rounds_succ]
                      go_wp2_with (first | (go_at_call 28; refine ROr_1.mono ?_; rintro e w9 ⟨rfl, rfl⟩) | (go_at_call 29; refine ROp_1.mono ?_; rintro e w9 ⟨rfl, rfl⟩))
                      rw [rounds_succ]
                      go_wp2_with (first | (go_at_call 28; refine ROr_2.mono ?_; rintro e w9 ⟨rfl, rfl⟩) | (go_at_call 29; refine ROp_2.mono ?_; rintro e w9 ⟨rfl, rfl⟩))
                      have hz1 := (((H2.out.2.set 0 (.int .i64 3)).set 1 (.int .i64 2)).set 2 (.int .i64 0)).set 3 (.int .i64 0)
                      have hz2 := ((((Upd.set _ (w.heap.size + 1) 0 (.int .i64 3)).trans (Upd.set _ _ 1 (.int .i64 2))).trans (Upd.set _ _ 2 (.int .i64 0))).trans (Upd.set _ _ 3 (.int .i64 0))).below H2.out.1 H2.out.1.size (Nat.le_succ _)
                      refine bodyPost_ret (results_blk2 rfl rfl hz1 Tryz.underlying32 rfl Tryz.sizeAl rfl) rfl ⟨?_, hz2⟩
                      rw [HO.out]
                      rfl
                    | false =>
                      have HO : Hid (O = none) := by show _ = _; rw [HA.out, HE.out]; rfl
                      clear HA HE
                      go_wp2_with fail
                      refine wp_loop_rounds 6 ?_
                      rw [rounds_succ]
                      go_wp2_with ((go_at_call 28; refine ROr_0.mono ?_; rintro e w9 ⟨rfl, rfl⟩))
                      rw [rounds_succ]
                      go_wp2_with (first | (go_at_call 28; refine ROr_1.mono ?_; rintro e w9 ⟨rfl, rfl⟩) | (go_at_call 29; refine ROp_1.mono ?_; rintro e w9 ⟨rfl, rfl⟩))
                      rw [rounds_succ]
                      go_wp2_with (first | (go_at_call 28; refine ROr_2.mono ?_; rintro e w9 ⟨rfl, rfl⟩) | (go_at_call 29; refine ROp_2.mono ?_; rintro e w9 ⟨rfl, rfl⟩))
                      rw [rounds_succ]
                      go_wp2_with (first | (go_at_call 28; refine ROr_3.mono ?_; rintro e w9 ⟨rfl, rfl⟩) | (go_at_call 29; refine ROp_3.mono ?_; rintro e w9 ⟨rfl, rfl⟩))
                      rw [rounds_succ]
                      go_wp2_with (first | (go_at_call 28; refine ROr_4.mono ?_; rintro e w9 ⟨rfl, rfl⟩) | (go_at_call 29; refine ROp_4.mono ?_; rintro e w9 ⟨rfl, rfl⟩))
                      rw [rounds_succ]
                      go_wp2
                      have hz1 := (((H2.out.2.set 0 (.int .i64 0)).set 1 (.int .i64 0)).set 2 (.int .i64 0)).set 3 (.int .i64 0)
                      have hz2 := ((((Upd.set _ (w.heap.size + 1) 0 (.int .i64 0)).trans (Upd.set _ _ 1 (.int .i64 0))).trans (Upd.set _ _ 2 (.int .i64 0))).trans (Upd.set _ _ 3 (.int .i64 0))).below H2.out.1 H2.out.1.size (Nat.le_succ _)
                      refine bodyPost_ret (results_blk2 rfl rfl hz1 Tryz.underlying32 rfl Tryz.sizeAl rfl) rfl ⟨?_, hz2⟩
                      rw [HO.out]
                      rfl
                  | false =>
                    cases h7 : (S.toList == [49, 46, 50, 46, 56, 52, 48, 46, 49, 48, 48, 52, 53, 46, 52, 46, 51, 46, 51]) with
                    | true =>
                      have hS := eq_of_beq h7
                      have hN : nmd S = ⟨3, 3, 0, 0⟩ := by unfold nmd; rw [hS]; rfl
                      have h8 : (S.toList == [49, 46, 50, 46, 56, 52, 48, 46, 49, 48, 48, 52, 53, 46, 52, 46, 51, 46, 52]) = false := by rw [hS]; rfl
                      clear hS
                      have HA : Hid (O = if rest.isEmpty = true then some ⟨3, 3, 0, 0⟩ else none) := by show _ = _; rw [HQ.out, hN]; rfl
                      clear HQ hN
                      cases q with
                      | true =>
                        have HO : Hid (O = some ⟨3, 3, 0, 0⟩) := by show _ = _; rw [HA.out, HE.out]; rfl
                        clear HA HE
                        go_wp2_with fail
                        refine wp_loop_rounds 4 ?_
                        rw [rounds_succ]
                        go_wp2_with ((go_at_call 28; refine ROr_0.mono ?_; rintro e w9 ⟨rfl, rfl⟩))
                        rw [rounds_succ]
                        go_wp2_with (first | (go_at_call 28; refine ROr_1.mono ?_; rintro e w9 ⟨rfl, rfl⟩) | (go_at_call 29; refine ROp_1.mono ?_; rintro e w9 ⟨rfl, rfl⟩))
                        rw [rounds_succ]
                        go_wp2_with (first | (go_at_call 28; refine ROr_2.mono ?_; rintro e w9 ⟨rfl, rfl⟩) | (go_at_call 29; refine ROp_2.mono ?_; rintro e w9 ⟨rfl, rfl⟩))
                        rw [rounds_succ]
                        go_wp2_with (first | (go_at_call 28; refine ROr_3.mono ?_; rintro e w9 ⟨rfl, rfl⟩) | (go_at_call 29; refine ROp_3.mono ?_; rintro e w9 ⟨rfl, rfl⟩))
                        have hz1 := (((H2.out.2.set 0 (.int .i64 3)).set 1 (.int .i64 3)).set 2 (.int .i64 0)).set 3 (.int .i64 0)
                        have hz2 := ((((Upd.set _ (w.heap.size + 1) 0 (.int .i64 3)).trans (Upd.set _ _ 1 (.int .i64 3))).trans (Upd.set _ _ 2 (.int .i64 0))).trans (Upd.set _ _ 3 (.int .i64 0))).below H2.out.1 H2.out.1.size (Nat.le_succ _)
                        refine bodyPost_ret (results_blk2 rfl rfl hz1 Tryz.underlying32 rfl Tryz.sizeAl rfl) rfl ⟨?_, hz2⟩
                        rw [HO.out]
                        rfl
                      | false =>
                        have HO : Hid (O = none) := by show _ = _; rw [HA.out, HE.out]; rfl
                        clear HA HE
                        go_wp2_with fail
                        refine wp_loop_rounds 6 ?_
                        rw [rounds_succ]
                        go_wp2_with ((go_at_call 28; refine ROr_0.mono ?_; rintro e w9 ⟨rfl, rfl⟩))
                        rw [rounds_succ]
                        go_wp2_with (first | (go_at_call 28; refine ROr_1.mono ?_; rintro e w9 ⟨rfl, rfl⟩) | (go_at_call 29; refine ROp_1.mono ?_; rintro e w9 ⟨rfl, rfl⟩))
                        rw [rounds_succ]
                        go_wp2_with (first | (go_at_call 28; refine ROr_2.mono ?_; rintro e w9 ⟨rfl, rfl⟩) | (go_at_call 29; refine ROp_2.mono ?_; rintro e w9 ⟨rfl, rfl⟩))
                        rw [rounds_succ]
                        go_wp2_with (first | (go_at_call 28; refine ROr_3.mono ?_; rintro e w9 ⟨rfl, rfl⟩) | (go_at_call 29; refine ROp_3.mono ?_; rintro e w9 ⟨rfl, rfl⟩))
                        rw [rounds_succ]
                        go_wp2_with (first | (go_at_call 28; refine ROr_4.mono ?_; rintro e w9 ⟨rfl, rfl⟩) | (go_at_call 29; refine ROp_4.mono ?_; rintro e w9 ⟨rfl, rfl⟩))
                        rw [rounds_succ]
                        go_wp2
                        have hz1 := (((H2.out.2.set 0 (.int .i64 0)).set 1 (.int .i64 0)).set 2 (.int .i64 0)).set 3 (.int .i64 0)
                        have hz2 := ((((Upd.set _ (w.heap.size + 1) 0 (.int .i64 0)).trans (Upd.set _ _ 1 (.int .i64 0))).trans (Upd.set _ _ 2 (.int .i64 0))).trans (Upd.set _ _ 3 (.int .i64 0))).below H2.out.1 H2.out.1.size (Nat.le_succ _)
                        refine bodyPost_ret (results_blk2 rfl rfl hz1 Tryz.underlying32 rfl Tryz.sizeAl rfl) rfl ⟨?_, hz2⟩
                        rw [HO.out]
                        rfl
                    | false =>
                      cases h8 : (S.toList == [49, 46, 50, 46, 56, 52, 48, 46, 49, 48, 48, 52, 53, 46, 52, 46, 51, 46, 52]) with
                      | true =>
                        have hS := eq_of_beq h8
                        have hN : nmd S = ⟨3, 4, 0, 0⟩ := by unfold nmd; rw [hS]; rfl
                        clear hS
                        have HA : Hid (O = if rest.isEmpty = true then some ⟨3, 4, 0, 0⟩ else none) := by show _ = _; rw [HQ.out, hN]; rfl
                        clear HQ hN
                        cases q with
                        | true =>
                          have HO : Hid (O = some ⟨3, 4, 0, 0⟩) := by show _ = _; rw [HA.out, HE.out]; rfl
                          clear HA HE
                          go_wp2_with fail
                          refine wp_loop_rounds 5 ?_
                          rw [rounds_succ]
                          go_wp2_with ((go_at_call 28; refine ROr_0.mono ?_; rintro e w9 ⟨rfl, rfl⟩))
                          rw [rounds_succ]
                          go_wp2_with (first | (go_at_call 28; refine ROr_1.mono ?_; rintro e w9 ⟨rfl, rfl⟩) | (go_at_call 29; refine ROp_1.mono ?_; rintro e w9 ⟨rfl, rfl⟩))
                          rw [rounds_succ]
                          go_wp2_with (first | (go_at_call 28; refine ROr_2.mono ?_; rintro e w9 ⟨rfl, rfl⟩) | (go_at_call 29; refine ROp_2.mono ?_; rintro e w9 ⟨rfl, rfl⟩))
                          rw [rounds_succ]
                          go_wp2_with (first | (go_at_call 28; refine ROr_3.mono ?_; rintro e w9 ⟨rfl, rfl⟩) | (go_at_call 29; refine ROp_3.mono ?_; rintro e w9 ⟨rfl, rfl⟩))
                          rw [rounds_succ]
                          go_wp2_with (first | (go_at_call 28; refine ROr_4.mono ?_; rintro e w9 ⟨rfl, rfl⟩) | (go_at_call 29; refine ROp_4.mono ?_; rintro e w9 ⟨rfl, rfl⟩))
                          have hz1 := (((H2.out.2.set 0 (.int .i64 3)).set 1 (.int .i64 4)).set 2 (.int .i64 0)).set 3 (.int .i64 0)
                          have hz2 := ((((Upd.set _ (w.heap.size + 1) 0 (.int .i64 3)).trans (Upd.set _ _ 1 (.int .i64 4))).trans (Upd.set _ _ 2 (.int .i64 0))).trans (Upd.set _ _ 3 (.int .i64 0))).below H2.out.1 H2.out.1.size (Nat.le_succ _)
                          refine bodyPost_ret (results_blk2 rfl rfl hz1 Tryz.underlying32 rfl Tryz.sizeAl rfl) rfl ⟨?_, hz2⟩
                          rw [HO.out]
                          rfl
                        | false =>
                          have HO : Hid (O = none) := by show _ = _; rw [HA.out, HE.out]; rfl
                          clear HA HE
                          go_wp2_with fail
                          refine wp_loop_rounds 6 ?_
                          rw [rounds_succ]
                          go_wp2_with ((go_at_call 28; refine ROr_0.mono ?_; rintro e w9 ⟨rfl, rfl⟩))
                          rw [rounds_succ]
                          go_wp2_with (first | (go_at_call 28; refine ROr_1.mono ?_; rintro e w9 ⟨rfl, rfl⟩) | (go_at_call 29; refine ROp_1.mono ?_; rintro e w9 ⟨rfl, rfl⟩))
                          rw [rounds_succ]
                          go_wp2_with (first | (go_at_call 28; refine ROr_2.mono ?_; rintro e w9 ⟨rfl, rfl⟩) | (go_at_call 29; refine ROp_2.mono ?_; rintro e w9 ⟨rfl, rfl⟩))
                          rw [rounds_succ]
                          go_wp2_with (first | (go_at_call 28; refine ROr_3.mono ?_; rintro e w9 ⟨rfl, rfl⟩) | (go_at_call 29; refine ROp_3.mono ?_; rintro e w9 ⟨rfl, rfl⟩))
                          rw [rounds_succ]
                          go_wp2_with (first | (go_at_call 28; refine ROr_4.mono ?_; rintro e w9 ⟨rfl, rfl⟩) | (go_at_call 29; refine ROp_4.mono ?_; rintro e w9 ⟨rfl, rfl⟩))
                          rw [rounds_succ]
                          go_wp2
                          have hz1 := (((H2.out.2.set 0 (.int .i64 0)).set 1 (.int .i64 0)).set 2 (.int .i64 0)).set 3 (.int .i64 0)
                          have hz2 := ((((Upd.set _ (w.heap.size + 1) 0 (.int .i64 0)).trans (Upd.set _ _ 1 (.int .i64 0))).trans (Upd.set _ _ 2 (.int .i64 0))).trans (Upd.set _ _ 3 (.int .i64 0))).below H2.out.1 H2.out.1.size (Nat.le_succ _)
                          refine bodyPost_ret (results_blk2 rfl rfl hz1 Tryz.underlying32 rfl Tryz.sizeAl rfl) rfl ⟨?_, hz2⟩
                          rw [HO.out]
                          rfl
                      | false =>
                        have HO : Hid (O = none) := by
                          show _ = _
                          have hN : nmd S = ⟨0, 0, 0, 0⟩ := by unfold nmd; simp [hp, h0, h1, h2, h3, h4, h5, h6, h7, h8]
                          rw [HQ.out, hN]; rfl
                        clear HQ HVB HE
                        go_wp2_with fail
                        refine wp_loop_rounds 6 ?_
                        rw [rounds_succ]
                        go_wp2_with ((go_at_call 28; refine ROr_0.mono ?_; rintro e w9 ⟨rfl, rfl⟩))
                        rw [rounds_succ]
                        go_wp2_with (first | (go_at_call 28; refine ROr_1.mono ?_; rintro e w9 ⟨rfl, rfl⟩) | (go_at_call 29; refine ROp_1.mono ?_; rintro e w9 ⟨rfl, rfl⟩))
                        rw [rounds_succ]
                        go_wp2_with (first | (go_at_call 28; refine ROr_2.mono ?_; rintro e w9 ⟨rfl, rfl⟩) | (go_at_call 29; refine ROp_2.mono ?_; rintro e w9 ⟨rfl, rfl⟩))
                        rw [rounds_succ]
                        go_wp2_with (first | (go_at_call 28; refine ROr_3.mono ?_; rintro e w9 ⟨rfl, rfl⟩) | (go_at_call 29; refine ROp_3.mono ?_; rintro e w9 ⟨rfl, rfl⟩))
                        rw [rounds_succ]
                        go_wp2_with (first | (go_at_call 28; refine ROr_4.mono ?_; rintro e w9 ⟨rfl, rfl⟩) | (go_at_call 29; refine ROp_4.mono ?_; rintro e w9 ⟨rfl, rfl⟩))
                        rw [rounds_succ]
                        go_wp2
                        have hz1 := (((H2.out.2.set 0 (.int .i64 0)).set 1 (.int .i64 0)).set 2 (.int .i64 0)).set 3 (.int .i64 0)
                        have hz2 := ((((Upd.set _ (w.heap.size + 1) 0 (.int .i64 0)).trans (Upd.set _ _ 1 (.int .i64 0))).trans (Upd.set _ _ 2 (.int .i64 0))).trans (Upd.set _ _ 3 (.int .i64 0))).below H2.out.1 H2.out.1.size (Nat.le_succ _)
                        refine bodyPost_ret (results_blk2 rfl rfl hz1 Tryz.underlying32 rfl Tryz.sizeAl rfl) rfl ⟨?_, hz2⟩
                        rw [HO.out]
                        rfl
end Go.Proofs.YtillkhjihggcjaaGreatDoor
