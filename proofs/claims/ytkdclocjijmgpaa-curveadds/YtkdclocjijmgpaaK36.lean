/-
  Curves: the law CurveAdds. (wip/mkh39.py)
-/
import Derived.Test.YtkdclocjijmgpaaK35
namespace Go.Proofs.Ytkdclocjijmgpaa
open Go.RowKit
set_option maxRecDepth 20000
set_option maxHeartbeats 2000000 in
theorem CurveAdds_long {w : World} (c : Int) (a1 : Option Addr) (n1 c1 : Nat) (a2 : Option Addr) (n2 c2 : Nat) (b1 : Option Addr) (m1 d1 : Nat) (b2 : Option Addr) (m2 d2 : Nat) (h : ((decide (600 < (n1 : Int)) || decide (600 < (n2 : Int))) || (decide (600 < (m1 : Int)) || decide (600 < (m2 : Int)))) = true) :
    Calls Try.prog 3 #[.int .i64 c, .agg #[.slice a1 n1 c1, .slice a2 n2 c2], .agg #[.slice b1 m1 d1, .slice b2 m2 d2]] w fun e w' => e = .returned (.bool true) ∧ Below w.heap.size w w' := by
  have HL : Hid (∀ W : World, Calls Try.prog 7 #[] W fun e w' => e = .returned (.bool true) ∧ Below W.heap.size W w') := fun W => live09_any
  obtain ⟨r, hr⟩ : ∃ r, (decide (600 < (n1 : Int)) || decide (600 < (n2 : Int))) = r := ⟨_, rfl⟩
  obtain ⟨s, hs⟩ : ∃ r, (decide (600 < (m1 : Int)) || decide (600 < (m2 : Int))) = r := ⟨_, rfl⟩
  rw [hr, hs] at h
  have HG : Hid (∀ W : World, Calls Try.prog 6 #[.agg #[.slice a1 n1 c1, .slice a2 n2 c2]] W fun e w' => e = .returned (.bool r) ∧ Below W.heap.size W w') := fun W => long09_any a1 n1 c1 a2 n2 c2 r hr
  have HG2 : Hid (∀ W : World, Calls Try.prog 6 #[.agg #[.slice b1 m1 d1, .slice b2 m2 d2]] W fun e w' => e = .returned (.bool s) ∧ Below W.heap.size W w') := fun W => long09_any b1 m1 d1 b2 m2 d2 s hs
  clear hr hs
  go_enter Try.func3, Try.ntmps3
  go_upto_region 1 with (first | (refine wpList_boxR rfl 24 (.tmp 1) rfl #[.slice a1 n1 c1, .slice a2 n2 c2] rfl ?_) | (refine wpList_boxR rfl 24 (.tmp 2) rfl #[.slice b1 m1 d1, .slice b2 m2 d2] rfl ?_))
  refine wp_gen (fun W => Below w.heap.size w W ∧ Blk 24 W w.heap.size [.slice a1 n1 c1, .slice a2 n2 c2] ∧ Blk 24 W (w.heap.size + 1) [.slice b1 m1 d1, .slice b2 m2 d2]) ?_ ?_
  · have x2 := Blk.new 24 (w.alloc (.cells #[.slice a1 n1 c1, .slice a2 n2 c2] 24)) [.slice b1 m1 d1, .slice b2 m2 d2]
    rw [World.size_alloc] at x2
    exact ⟨below_via (al1 _) (al1 _) (Nat.le_refl _), below_blk (al1 _) (by simp only [World.size_alloc]; omega) (Blk.new _ _ _), x2⟩
  rintro W0 hW
  have M0 : Hid (Below w.heap.size w W0 ∧ Blk 24 W0 w.heap.size [.slice a1 n1 c1, .slice a2 n2 c2] ∧ Blk 24 W0 (w.heap.size + 1) [.slice b1 m1 d1, .slice b2 m2 d2]) := hW
  clear hW
  have p0 : W0.cell? ⟨w.heap.size, 0, none⟩ = some (.slice a1 n1 c1) := M0.out.2.1.cell 0
  have p1 : W0.cell? ⟨w.heap.size, 1, none⟩ = some (.slice a2 n2 c2) := M0.out.2.1.cell 1
  go_wp2_with fail
  refine (HG.out _).mono ?_
  rintro e W1 ⟨rfl, hb⟩
  have M1 : Hid (Below w.heap.size w W1 ∧ Blk 24 W1 w.heap.size [.slice a1 n1 c1, .slice a2 n2 c2] ∧ Blk 24 W1 (w.heap.size + 1) [.slice b1 m1 d1, .slice b2 m2 d2]) := ⟨below_via M0.out.1 hb (Nat.le_refl _), below_blk hb M0.out.2.1.lt M0.out.2.1, below_blk hb M0.out.2.2.lt M0.out.2.2⟩
  clear hb p0 p1 M0
  cases r with
  | true =>
    clear h
    go_wp2_with fail
    refine (HL.out _).mono ?_
    rintro e w7 ⟨rfl, hb7⟩
    have H7 : Hid (Below w.heap.size w w7) := below_via M1.out.1 hb7 (Nat.le_refl _)
    clear hb7
    go_wp2
    go_ret
    exact ⟨rfl, H7.out⟩
  | false =>
  have hs : s = true := by simpa using h
  subst hs
  clear h
  have p2 : W1.cell? ⟨w.heap.size + 1, 0, none⟩ = some (.slice b1 m1 d1) := M1.out.2.2.cell 0
  have p3 : W1.cell? ⟨w.heap.size + 1, 1, none⟩ = some (.slice b2 m2 d2) := M1.out.2.2.cell 1
  go_wp2_with fail
  refine (HG2.out _).mono ?_
  rintro e W2 ⟨rfl, hb⟩
  have M2 : Hid (Below w.heap.size w W2) := below_via M1.out.1 hb (Nat.le_refl _)
  clear hb p2 p3 M1
  go_wp2_with fail
  refine (HL.out _).mono ?_
  rintro e w7 ⟨rfl, hb7⟩
  have H7 : Hid (Below w.heap.size w w7) := below_via M2.out hb7 (Nat.le_refl _)
  clear hb7
  go_wp2
  go_ret
  exact ⟨rfl, H7.out⟩
set_option maxHeartbeats 4000000 in
theorem CurveAdds_main {w : World} (c : Int) (a1 : Option Addr) (n1 c1 : Nat) (a2 : Option Addr) (n2 c2 : Nat) (b1 : Option Addr) (m1 d1 : Nat) (b2 : Option Addr) (m2 d2 : Nat) (X Y U V : List Int) (hX : Sl .u32 w (.slice a1 n1 c1) X) (hY : Sl .u32 w (.slice a2 n2 c2) Y) (uX : U32s X) (uY : U32s Y) (lX : X.length ≤ 1000000) (lY : Y.length ≤ 1000000) (hU : Sl .u32 w (.slice b1 m1 d1) U) (hV : Sl .u32 w (.slice b2 m2 d2) V) (uU : U32s U) (uV : U32s V) (lU : U.length ≤ 1000000) (lV : V.length ≤ 1000000) (h1 : (decide (600 < (n1 : Int)) || decide (600 < (n2 : Int))) = false) (h2 : (decide (600 < (m1 : Int)) || decide (600 < (m2 : Int))) = false) :
    Calls Try.prog 3 #[.int .i64 c, .agg #[.slice a1 n1 c1, .slice a2 n2 c2], .agg #[.slice b1 m1 d1, .slice b2 m2 d2]] w fun e w' => e = .returned (.bool true) ∧ Below w.heap.size w w' := by
  have HL : Hid (∀ W : World, Calls Try.prog 7 #[] W fun e w' => e = .returned (.bool true) ∧ Below W.heap.size W w') := fun W => live09_any
  have HG : Hid (∀ W : World, Calls Try.prog 6 #[.agg #[.slice a1 n1 c1, .slice a2 n2 c2]] W fun e w' => e = .returned (.bool false) ∧ Below W.heap.size W w') := fun W => long09_any a1 n1 c1 a2 n2 c2 false h1
  have HG2 : Hid (∀ W : World, Calls Try.prog 6 #[.agg #[.slice b1 m1 d1, .slice b2 m2 d2]] W fun e w' => e = .returned (.bool false) ∧ Below W.heap.size W w') := fun W => long09_any b1 m1 d1 b2 m2 d2 false h2
  obtain ⟨x, y, er, hx, hy, hA, hR⟩ := Adds_ans c a1 n1 c1 a2 n2 c2 b1 m1 d1 b2 m2 d2 X Y U V hX hY uX uY lX lY hU hV uU uV lU lV
  obtain ⟨u, v, es, hu, hv, hN, hS⟩ := Negs_ans c a1 n1 c1 a2 n2 c2 X Y hX hY uX uY lX lY
  have HA1 : Hid (∀ W, Below w.heap.size w W → Calls Try.prog 8 #[.int .i64 c, .agg #[.slice a1 n1 c1, .slice a2 n2 c2], .agg #[.slice b1 m1 d1, .slice b2 m2 d2]] W (PtE W x y er)) := hA
  have HA2 : Hid (∀ W, Below w.heap.size w W → Calls Try.prog 9 #[.int .i64 c, .agg #[.slice a1 n1 c1, .slice a2 n2 c2], .agg #[.slice b1 m1 d1, .slice b2 m2 d2]] W (PtE W x y er)) := hR
  have HA3 : Hid (∀ W, Below w.heap.size w W → Calls Try.prog 10 #[.int .i64 c, .agg #[.slice a1 n1 c1, .slice a2 n2 c2]] W (PtE W u v es)) := hN
  have HA4 : Hid (∀ W, Below w.heap.size w W → Calls Try.prog 11 #[.int .i64 c, .agg #[.slice a1 n1 c1, .slice a2 n2 c2]] W (PtE W u v es)) := hS
  have HB : Hid ((lim x).length ≤ 1000 ∧ (lim y).length ≤ 1000 ∧ (lim u).length ≤ 1000 ∧ (lim v).length ≤ 1000) := ⟨by have := lim12 hx; omega, by have := lim12 hy; omega, by have := lim12 hu; omega, by have := lim12 hv; omega⟩
  clear hX hY uX uY lX lY hU hV uU uV lU lV h1 h2 hx hy hA hR hu hv hN hS
  go_enter Try.func3, Try.ntmps3
  go_upto_region 1 with (first | (refine wpList_boxR rfl 24 (.tmp 1) rfl #[.slice a1 n1 c1, .slice a2 n2 c2] rfl ?_) | (refine wpList_boxR rfl 24 (.tmp 2) rfl #[.slice b1 m1 d1, .slice b2 m2 d2] rfl ?_))
  refine wp_gen (fun W => Below w.heap.size w W ∧ Blk 24 W w.heap.size [.slice a1 n1 c1, .slice a2 n2 c2] ∧ Blk 24 W (w.heap.size + 1) [.slice b1 m1 d1, .slice b2 m2 d2]) ?_ ?_
  · have x2 := Blk.new 24 (w.alloc (.cells #[.slice a1 n1 c1, .slice a2 n2 c2] 24)) [.slice b1 m1 d1, .slice b2 m2 d2]
    rw [World.size_alloc] at x2
    exact ⟨below_via (al1 _) (al1 _) (Nat.le_refl _), below_blk (al1 _) (by simp only [World.size_alloc]; omega) (Blk.new _ _ _), x2⟩
  rintro W0 hW
  have M0 : Hid (Below w.heap.size w W0 ∧ Blk 24 W0 w.heap.size [.slice a1 n1 c1, .slice a2 n2 c2] ∧ Blk 24 W0 (w.heap.size + 1) [.slice b1 m1 d1, .slice b2 m2 d2]) := hW
  clear hW
  have p0 : W0.cell? ⟨w.heap.size, 0, none⟩ = some (.slice a1 n1 c1) := M0.out.2.1.cell 0
  have p1 : W0.cell? ⟨w.heap.size, 1, none⟩ = some (.slice a2 n2 c2) := M0.out.2.1.cell 1
  go_wp2_with fail
  refine (HG.out _).mono ?_
  rintro e W1 ⟨rfl, hb⟩
  have M1 : Hid (Below w.heap.size w W1 ∧ Blk 24 W1 w.heap.size [.slice a1 n1 c1, .slice a2 n2 c2] ∧ Blk 24 W1 (w.heap.size + 1) [.slice b1 m1 d1, .slice b2 m2 d2]) := ⟨below_via M0.out.1 hb (Nat.le_refl _), below_blk hb M0.out.2.1.lt M0.out.2.1, below_blk hb M0.out.2.2.lt M0.out.2.2⟩
  clear hb p0 p1 M0
  have p2 : W1.cell? ⟨w.heap.size + 1, 0, none⟩ = some (.slice b1 m1 d1) := M1.out.2.2.cell 0
  have p3 : W1.cell? ⟨w.heap.size + 1, 1, none⟩ = some (.slice b2 m2 d2) := M1.out.2.2.cell 1
  go_wp2_with fail
  refine (HG2.out _).mono ?_
  rintro e W2 ⟨rfl, hb⟩
  have M2 : Hid (Below w.heap.size w W2 ∧ Blk 24 W2 w.heap.size [.slice a1 n1 c1, .slice a2 n2 c2] ∧ Blk 24 W2 (w.heap.size + 1) [.slice b1 m1 d1, .slice b2 m2 d2]) := ⟨below_via M1.out.1 hb (Nat.le_refl _), below_blk hb M1.out.2.1.lt M1.out.2.1, below_blk hb M1.out.2.2.lt M1.out.2.2⟩
  clear hb p2 p3 M1
  have p0 : W2.cell? ⟨w.heap.size, 0, none⟩ = some (.slice a1 n1 c1) := M2.out.2.1.cell 0
  have p1 : W2.cell? ⟨w.heap.size, 1, none⟩ = some (.slice a2 n2 c2) := M2.out.2.1.cell 1
  have p2 : W2.cell? ⟨w.heap.size + 1, 0, none⟩ = some (.slice b1 m1 d1) := M2.out.2.2.cell 0
  have p3 : W2.cell? ⟨w.heap.size + 1, 1, none⟩ = some (.slice b2 m2 d2) := M2.out.2.2.cell 1
  go_wp2_with fail
  refine (HA1.out _ M2.out.1).mono ?_
  rintro e y1 ⟨ra1, rn1, rc1, qa1, qn1, qc1, rfl, hr1, hq1, hb⟩
  clear p0 p1 p2 p3
  go_upto_region 4 with (fail)
  refine wp_gen (fun W => Below y1.heap.size y1 W ∧ Blk 24 W y1.heap.size [.slice ra1 rn1 rc1, .slice qa1 qn1 qc1]) ⟨al1 _, Blk.new _ _ _⟩ ?_
  rintro z1 ⟨hb2, hB⟩
  obtain ⟨f1, hf⟩ : ∃ f, y1.heap.size = f := ⟨_, rfl⟩
  have hb3 := below_via hb hb2 (Nat.le_refl _)
  have N1 : Hid (Below w.heap.size w z1 ∧ Blk 24 z1 w.heap.size [.slice a1 n1 c1, .slice a2 n2 c2] ∧ Blk 24 z1 (w.heap.size + 1) [.slice b1 m1 d1, .slice b2 m2 d2] ∧ Blk 24 z1 f1 [.slice ra1 rn1 rc1, .slice qa1 qn1 qc1] ∧ Nb z1 (.slice ra1 rn1 rc1) x ∧ Nb z1 (.slice qa1 qn1 qc1) y) := ⟨below_via M2.out.1 hb3 (Nat.le_refl _), below_blk hb3 M2.out.2.1.lt M2.out.2.1, below_blk hb3 M2.out.2.2.lt M2.out.2.2, hf ▸ hB, hr1.below hb2, hq1.below hb2⟩
  rw [hf]
  clear hb hb2 hb3 hB hr1 hq1 hf M2
  have p0 : z1.cell? ⟨w.heap.size, 0, none⟩ = some (.slice a1 n1 c1) := N1.out.2.1.cell 0
  have p1 : z1.cell? ⟨w.heap.size, 1, none⟩ = some (.slice a2 n2 c2) := N1.out.2.1.cell 1
  have p2 : z1.cell? ⟨w.heap.size + 1, 0, none⟩ = some (.slice b1 m1 d1) := N1.out.2.2.1.cell 0
  have p3 : z1.cell? ⟨w.heap.size + 1, 1, none⟩ = some (.slice b2 m2 d2) := N1.out.2.2.1.cell 1
  go_wp2_with fail
  refine (HA2.out _ N1.out.1).mono ?_
  rintro e y2 ⟨ra2, rn2, rc2, qa2, qn2, qc2, rfl, hr2, hq2, hb⟩
  clear p0 p1 p2 p3
  go_upto_region 5 with (fail)
  refine wp_gen (fun W => Below y2.heap.size y2 W ∧ Blk 24 W y2.heap.size [.slice ra2 rn2 rc2, .slice qa2 qn2 qc2]) ⟨al1 _, Blk.new _ _ _⟩ ?_
  rintro z2 ⟨hb2, hB⟩
  obtain ⟨f2, hf⟩ : ∃ f, y2.heap.size = f := ⟨_, rfl⟩
  have hb3 := below_via hb hb2 (Nat.le_refl _)
  have N2 : Hid (Below w.heap.size w z2 ∧ Blk 24 z2 w.heap.size [.slice a1 n1 c1, .slice a2 n2 c2] ∧ Blk 24 z2 (w.heap.size + 1) [.slice b1 m1 d1, .slice b2 m2 d2] ∧ Blk 24 z2 f1 [.slice ra1 rn1 rc1, .slice qa1 qn1 qc1] ∧ Nb z2 (.slice ra1 rn1 rc1) x ∧ Nb z2 (.slice qa1 qn1 qc1) y ∧ Blk 24 z2 f2 [.slice ra2 rn2 rc2, .slice qa2 qn2 qc2] ∧ Nb z2 (.slice ra2 rn2 rc2) x ∧ Nb z2 (.slice qa2 qn2 qc2) y) := ⟨below_via N1.out.1 hb3 (Nat.le_refl _), below_blk hb3 N1.out.2.1.lt N1.out.2.1, below_blk hb3 N1.out.2.2.1.lt N1.out.2.2.1, below_blk hb3 N1.out.2.2.2.1.lt N1.out.2.2.2.1, N1.out.2.2.2.2.1.below hb3, N1.out.2.2.2.2.2.below hb3, hf ▸ hB, hr2.below hb2, hq2.below hb2⟩
  rw [hf]
  clear hb hb2 hb3 hB hr2 hq2 hf N1
  have p0 : z2.cell? ⟨w.heap.size, 0, none⟩ = some (.slice a1 n1 c1) := N2.out.2.1.cell 0
  have p1 : z2.cell? ⟨w.heap.size, 1, none⟩ = some (.slice a2 n2 c2) := N2.out.2.1.cell 1
  go_wp2_with fail
  refine (HA3.out _ N2.out.1).mono ?_
  rintro e y3 ⟨ra3, rn3, rc3, qa3, qn3, qc3, rfl, hr3, hq3, hb⟩
  clear p0 p1
  go_upto_region 6 with (fail)
  refine wp_gen (fun W => Below y3.heap.size y3 W ∧ Blk 24 W y3.heap.size [.slice ra3 rn3 rc3, .slice qa3 qn3 qc3]) ⟨al1 _, Blk.new _ _ _⟩ ?_
  rintro z3 ⟨hb2, hB⟩
  obtain ⟨f3, hf⟩ : ∃ f, y3.heap.size = f := ⟨_, rfl⟩
  have hb3 := below_via hb hb2 (Nat.le_refl _)
  have N3 : Hid (Below w.heap.size w z3 ∧ Blk 24 z3 w.heap.size [.slice a1 n1 c1, .slice a2 n2 c2] ∧ Blk 24 z3 (w.heap.size + 1) [.slice b1 m1 d1, .slice b2 m2 d2] ∧ Blk 24 z3 f1 [.slice ra1 rn1 rc1, .slice qa1 qn1 qc1] ∧ Nb z3 (.slice ra1 rn1 rc1) x ∧ Nb z3 (.slice qa1 qn1 qc1) y ∧ Blk 24 z3 f2 [.slice ra2 rn2 rc2, .slice qa2 qn2 qc2] ∧ Nb z3 (.slice ra2 rn2 rc2) x ∧ Nb z3 (.slice qa2 qn2 qc2) y ∧ Blk 24 z3 f3 [.slice ra3 rn3 rc3, .slice qa3 qn3 qc3] ∧ Nb z3 (.slice ra3 rn3 rc3) u ∧ Nb z3 (.slice qa3 qn3 qc3) v) := ⟨below_via N2.out.1 hb3 (Nat.le_refl _), below_blk hb3 N2.out.2.1.lt N2.out.2.1, below_blk hb3 N2.out.2.2.1.lt N2.out.2.2.1, below_blk hb3 N2.out.2.2.2.1.lt N2.out.2.2.2.1, N2.out.2.2.2.2.1.below hb3, N2.out.2.2.2.2.2.1.below hb3, below_blk hb3 N2.out.2.2.2.2.2.2.1.lt N2.out.2.2.2.2.2.2.1, N2.out.2.2.2.2.2.2.2.1.below hb3, N2.out.2.2.2.2.2.2.2.2.below hb3, hf ▸ hB, hr3.below hb2, hq3.below hb2⟩
  rw [hf]
  clear hb hb2 hb3 hB hr3 hq3 hf N2
  have p0 : z3.cell? ⟨w.heap.size, 0, none⟩ = some (.slice a1 n1 c1) := N3.out.2.1.cell 0
  have p1 : z3.cell? ⟨w.heap.size, 1, none⟩ = some (.slice a2 n2 c2) := N3.out.2.1.cell 1
  go_wp2_with fail
  refine (HA4.out _ N3.out.1).mono ?_
  rintro e y4 ⟨ra4, rn4, rc4, qa4, qn4, qc4, rfl, hr4, hq4, hb⟩
  clear p0 p1
  go_upto_region 7 with (fail)
  refine wp_gen (fun W => Below y4.heap.size y4 W ∧ Blk 24 W y4.heap.size [.slice ra4 rn4 rc4, .slice qa4 qn4 qc4]) ⟨al1 _, Blk.new _ _ _⟩ ?_
  rintro z4 ⟨hb2, hB⟩
  obtain ⟨f4, hf⟩ : ∃ f, y4.heap.size = f := ⟨_, rfl⟩
  have hb3 := below_via hb hb2 (Nat.le_refl _)
  have N4 : Hid (Below w.heap.size w z4 ∧ Blk 24 z4 w.heap.size [.slice a1 n1 c1, .slice a2 n2 c2] ∧ Blk 24 z4 (w.heap.size + 1) [.slice b1 m1 d1, .slice b2 m2 d2] ∧ Blk 24 z4 f1 [.slice ra1 rn1 rc1, .slice qa1 qn1 qc1] ∧ Nb z4 (.slice ra1 rn1 rc1) x ∧ Nb z4 (.slice qa1 qn1 qc1) y ∧ Blk 24 z4 f2 [.slice ra2 rn2 rc2, .slice qa2 qn2 qc2] ∧ Nb z4 (.slice ra2 rn2 rc2) x ∧ Nb z4 (.slice qa2 qn2 qc2) y ∧ Blk 24 z4 f3 [.slice ra3 rn3 rc3, .slice qa3 qn3 qc3] ∧ Nb z4 (.slice ra3 rn3 rc3) u ∧ Nb z4 (.slice qa3 qn3 qc3) v ∧ Blk 24 z4 f4 [.slice ra4 rn4 rc4, .slice qa4 qn4 qc4] ∧ Nb z4 (.slice ra4 rn4 rc4) u ∧ Nb z4 (.slice qa4 qn4 qc4) v) := ⟨below_via N3.out.1 hb3 (Nat.le_refl _), below_blk hb3 N3.out.2.1.lt N3.out.2.1, below_blk hb3 N3.out.2.2.1.lt N3.out.2.2.1, below_blk hb3 N3.out.2.2.2.1.lt N3.out.2.2.2.1, N3.out.2.2.2.2.1.below hb3, N3.out.2.2.2.2.2.1.below hb3, below_blk hb3 N3.out.2.2.2.2.2.2.1.lt N3.out.2.2.2.2.2.2.1, N3.out.2.2.2.2.2.2.2.1.below hb3, N3.out.2.2.2.2.2.2.2.2.1.below hb3, below_blk hb3 N3.out.2.2.2.2.2.2.2.2.2.1.lt N3.out.2.2.2.2.2.2.2.2.2.1, N3.out.2.2.2.2.2.2.2.2.2.2.1.below hb3, N3.out.2.2.2.2.2.2.2.2.2.2.2.below hb3, hf ▸ hB, hr4.below hb2, hq4.below hb2⟩
  rw [hf]
  clear hb hb2 hb3 hB hr4 hq4 hf N3
  have s0 : z4.cell? ⟨f1, 0, none⟩ = some (.slice ra1 rn1 rc1) := N4.out.2.2.2.1.cell 0
  have s1 : z4.cell? ⟨f1, 1, none⟩ = some (.slice qa1 qn1 qc1) := N4.out.2.2.2.1.cell 1
  have s2 : z4.cell? ⟨f2, 0, none⟩ = some (.slice ra2 rn2 rc2) := N4.out.2.2.2.2.2.2.1.cell 0
  have s3 : z4.cell? ⟨f2, 1, none⟩ = some (.slice qa2 qn2 qc2) := N4.out.2.2.2.2.2.2.1.cell 1
  go_wp2_with fail
  refine (SameP_any _ _ _ _ x y N4.out.2.2.2.2.1 N4.out.2.2.2.2.2.1 N4.out.2.2.2.2.2.2.2.1 N4.out.2.2.2.2.2.2.2.2.1 HB.out.1 HB.out.2.1).mono ?_
  rintro e z5 ⟨rfl, hb⟩
  have N5 : Hid (Below w.heap.size w z5 ∧ Blk 24 z5 f3 [.slice ra3 rn3 rc3, .slice qa3 qn3 qc3] ∧ Blk 24 z5 f4 [.slice ra4 rn4 rc4, .slice qa4 qn4 qc4] ∧ Nb z5 (.slice ra3 rn3 rc3) u ∧ Nb z5 (.slice qa3 qn3 qc3) v ∧ Nb z5 (.slice ra4 rn4 rc4) u ∧ Nb z5 (.slice qa4 qn4 qc4) v) := ⟨below_via N4.out.1 hb (Nat.le_refl _), below_blk hb N4.out.2.2.2.2.2.2.2.2.2.1.lt N4.out.2.2.2.2.2.2.2.2.2.1, below_blk hb N4.out.2.2.2.2.2.2.2.2.2.2.2.2.1.lt N4.out.2.2.2.2.2.2.2.2.2.2.2.2.1, N4.out.2.2.2.2.2.2.2.2.2.2.1.below hb, N4.out.2.2.2.2.2.2.2.2.2.2.2.1.below hb, N4.out.2.2.2.2.2.2.2.2.2.2.2.2.2.1.below hb, N4.out.2.2.2.2.2.2.2.2.2.2.2.2.2.2.below hb⟩
  clear hb s0 s1 s2 s3 N4
  have s0 : z5.cell? ⟨f3, 0, none⟩ = some (.slice ra3 rn3 rc3) := N5.out.2.1.cell 0
  have s1 : z5.cell? ⟨f3, 1, none⟩ = some (.slice qa3 qn3 qc3) := N5.out.2.1.cell 1
  have s2 : z5.cell? ⟨f4, 0, none⟩ = some (.slice ra4 rn4 rc4) := N5.out.2.2.1.cell 0
  have s3 : z5.cell? ⟨f4, 1, none⟩ = some (.slice qa4 qn4 qc4) := N5.out.2.2.1.cell 1
  go_wp2_with (go_at_call 13; refine (num09_any _ _).mono ?_; rintro e w5 ⟨rfl, rfl⟩)
  refine (SameP_any _ _ _ _ u v N5.out.2.2.2.1 N5.out.2.2.2.2.1 N5.out.2.2.2.2.2.1 N5.out.2.2.2.2.2.2 HB.out.2.2.1 HB.out.2.2.2).mono ?_
  rintro e z6 ⟨rfl, hb⟩
  have N6 : Hid (Below w.heap.size w z6) := below_via N5.out.1 hb (Nat.le_refl _)
  clear hb s0 s1 s2 s3 N5
  go_wp2_with (go_at_call 13; refine (num09_any _ _).mono ?_; rintro e w6 ⟨rfl, rfl⟩)
  refine (HL.out _).mono ?_
  rintro e w7 ⟨rfl, hb7⟩
  have H7 : Hid (Below w.heap.size w w7) := below_via N6.out hb7 (Nat.le_refl _)
  clear hb7
  go_wp2
  go_ret
  exact ⟨rfl, H7.out⟩
theorem CurveAdds_any {w : World} (c : Int) (a1 : Option Addr) (n1 c1 : Nat) (a2 : Option Addr) (n2 c2 : Nat) (b1 : Option Addr) (m1 d1 : Nat) (b2 : Option Addr) (m2 d2 : Nat) (X Y U V : List Int) (hX : Sl .u32 w (.slice a1 n1 c1) X) (hY : Sl .u32 w (.slice a2 n2 c2) Y) (uX : U32s X) (uY : U32s Y) (lX : X.length = n1) (lY : Y.length = n2) (hU : Sl .u32 w (.slice b1 m1 d1) U) (hV : Sl .u32 w (.slice b2 m2 d2) V) (uU : U32s U) (uV : U32s V) (lU : U.length = m1) (lV : V.length = m2) :
    Calls Try.prog 3 #[.int .i64 c, .agg #[.slice a1 n1 c1, .slice a2 n2 c2], .agg #[.slice b1 m1 d1, .slice b2 m2 d2]] w fun e w' => e = .returned (.bool true) ∧ Below w.heap.size w w' := by
  cases h : ((decide (600 < (n1 : Int)) || decide (600 < (n2 : Int))) || (decide (600 < (m1 : Int)) || decide (600 < (m2 : Int)))) with
  | true => exact CurveAdds_long c a1 n1 c1 a2 n2 c2 b1 m1 d1 b2 m2 d2 h
  | false =>
    have h' := Bool.or_eq_false_iff.1 h
    have g : n1 ≤ 600 ∧ n2 ≤ 600 ∧ m1 ≤ 600 ∧ m2 ≤ 600 := by simp at h; omega
    exact CurveAdds_main c a1 n1 c1 a2 n2 c2 b1 m1 d1 b2 m2 d2 X Y U V hX hY uX uY (by omega) (by omega) hU hV uU uV (by omega) (by omega) h'.1 h'.2
end Go.Proofs.Ytkdclocjijmgpaa
