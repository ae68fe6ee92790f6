/-
  Curves: the law CurveMixes. (wip/mkh42.py)
-/
import Derived.Test.YtkdclocjijmgpaaK35
namespace Go.Proofs.Ytkdclocjijmgpaa
open Go.RowKit
set_option maxRecDepth 20000
/-- What a length says: at most 13, up to 64, up to 600, more. -/
theorem len_cls (n : Nat) : (decide (13 < (n : Int)) = false ∧ decide (600 < (n : Int)) = false) ∨ (decide (13 < (n : Int)) = true ∧ decide ((n : Int) ≤ 64) = true) ∨ (decide (13 < (n : Int)) = true ∧ decide ((n : Int) ≤ 64) = false ∧ decide (600 < (n : Int)) = false) ∨ (decide (13 < (n : Int)) = true ∧ decide ((n : Int) ≤ 64) = false ∧ decide (600 < (n : Int)) = true) := by
  simp only [decide_eq_false_iff_not, decide_eq_true_eq]
  omega
set_option maxHeartbeats 4000000 in
theorem CurveMixes_long1 {w : World} (c : Int) (ka : Option Addr) (kn kc : Nat) (la : Option Addr) (ln lc : Nat) (a1 : Option Addr) (n1 c1 : Nat) (a2 : Option Addr) (n2 c2 : Nat) (h : (decide (600 < (n1 : Int)) || decide (600 < (n2 : Int))) = true) :
    Calls Try.prog 5 #[.int .i64 c, .slice ka kn kc, .slice la ln lc, .agg #[.slice a1 n1 c1, .slice a2 n2 c2]] w fun e w' => e = .returned (.bool true) ∧ Below w.heap.size w w' := by
  have HL : Hid (∀ W : World, Calls Try.prog 7 #[] W fun e w' => e = .returned (.bool true) ∧ Below W.heap.size W w') := fun W => live09_any
  have HG : Hid (∀ W : World, Calls Try.prog 6 #[.agg #[.slice a1 n1 c1, .slice a2 n2 c2]] W fun e w' => e = .returned (.bool true) ∧ Below W.heap.size W w') := fun W => long09_any a1 n1 c1 a2 n2 c2 true h
  clear h
  go_enter Try.func5, Try.ntmps5
  go_upto_region 1 with (refine wpList_boxR rfl 24 (.tmp 3) rfl #[.slice a1 n1 c1, .slice a2 n2 c2] rfl ?_)
  refine wp_gen (fun W => Below w.heap.size w W ∧ Blk 24 W w.heap.size [.slice a1 n1 c1, .slice a2 n2 c2]) ⟨al1 _, Blk.new _ _ _⟩ ?_
  rintro W0 hW
  have M0 : Hid (Below w.heap.size w W0 ∧ Blk 24 W0 w.heap.size [.slice a1 n1 c1, .slice a2 n2 c2]) := hW
  clear hW
  have p0 : W0.cell? ⟨w.heap.size, 0, none⟩ = some (.slice a1 n1 c1) := M0.out.2.cell 0
  have p1 : W0.cell? ⟨w.heap.size, 1, none⟩ = some (.slice a2 n2 c2) := M0.out.2.cell 1
  go_wp2_with fail
  refine (HG.out _).mono ?_
  rintro e W1 ⟨rfl, hb⟩
  have M1 : Hid (Below w.heap.size w W1 ∧ Blk 24 W1 w.heap.size [.slice a1 n1 c1, .slice a2 n2 c2]) := ⟨below_via M0.out.1 hb (Nat.le_refl _), below_blk hb M0.out.2.lt M0.out.2⟩
  clear hb p0 p1 M0
  go_wp2_with fail
  refine (HL.out _).mono ?_
  rintro e w7 ⟨rfl, hb7⟩
  have H7 : Hid (Below w.heap.size w w7) := below_via M1.out.1 hb7 (Nat.le_refl _)
  clear hb7
  go_wp2
  go_ret
  exact ⟨rfl, H7.out⟩
set_option maxHeartbeats 4000000 in
theorem CurveMixes_long2 {w : World} (c : Int) (ka : Option Addr) (kn kc : Nat) (la : Option Addr) (ln lc : Nat) (a1 : Option Addr) (n1 c1 : Nat) (a2 : Option Addr) (n2 c2 : Nat) (h : (decide (600 < (n1 : Int)) || decide (600 < (n2 : Int))) = false) (hb : ¬ ((kn ≤ 13 ∨ 64 < kn) ∧ (ln ≤ 13 ∨ 64 < ln) ∧ kn ≤ 600 ∧ ln ≤ 600)) :
    Calls Try.prog 5 #[.int .i64 c, .slice ka kn kc, .slice la ln lc, .agg #[.slice a1 n1 c1, .slice a2 n2 c2]] w fun e w' => e = .returned (.bool true) ∧ Below w.heap.size w w' := by
  have HL : Hid (∀ W : World, Calls Try.prog 7 #[] W fun e w' => e = .returned (.bool true) ∧ Below W.heap.size W w') := fun W => live09_any
  have HG : Hid (∀ W : World, Calls Try.prog 6 #[.agg #[.slice a1 n1 c1, .slice a2 n2 c2]] W fun e w' => e = .returned (.bool false) ∧ Below W.heap.size W w') := fun W => long09_any a1 n1 c1 a2 n2 c2 false h
  clear h
  have HH : Hid (¬ ((kn ≤ 13 ∨ 64 < kn) ∧ (ln ≤ 13 ∨ 64 < ln) ∧ kn ≤ 600 ∧ ln ≤ 600)) := hb
  clear hb
  go_enter Try.func5, Try.ntmps5
  go_upto_region 1 with (refine wpList_boxR rfl 24 (.tmp 3) rfl #[.slice a1 n1 c1, .slice a2 n2 c2] rfl ?_)
  refine wp_gen (fun W => Below w.heap.size w W ∧ Blk 24 W w.heap.size [.slice a1 n1 c1, .slice a2 n2 c2]) ⟨al1 _, Blk.new _ _ _⟩ ?_
  rintro W0 hW
  have M0 : Hid (Below w.heap.size w W0 ∧ Blk 24 W0 w.heap.size [.slice a1 n1 c1, .slice a2 n2 c2]) := hW
  clear hW
  have p0 : W0.cell? ⟨w.heap.size, 0, none⟩ = some (.slice a1 n1 c1) := M0.out.2.cell 0
  have p1 : W0.cell? ⟨w.heap.size, 1, none⟩ = some (.slice a2 n2 c2) := M0.out.2.cell 1
  go_wp2_with fail
  refine (HG.out _).mono ?_
  rintro e W1 ⟨rfl, hb⟩
  have M1 : Hid (Below w.heap.size w W1 ∧ Blk 24 W1 w.heap.size [.slice a1 n1 c1, .slice a2 n2 c2]) := ⟨below_via M0.out.1 hb (Nat.le_refl _), below_blk hb M0.out.2.lt M0.out.2⟩
  clear hb p0 p1 M0
  rcases len_cls kn with ⟨d1, d3⟩ | ⟨d1, d2⟩ | ⟨d1, d2, d3⟩ | ⟨d1, d2, d3⟩
  rotate_left
  · go_wp2_with fail
    refine (HL.out _).mono ?_
    rintro e w7 ⟨rfl, hb7⟩
    have H7 : Hid (Below w.heap.size w w7) := below_via M1.out.1 hb7 (Nat.le_refl _)
    clear hb7
    go_wp2
    go_ret
    exact ⟨rfl, H7.out⟩
  all_goals
    rcases len_cls ln with ⟨e1, e3⟩ | ⟨e1, e2⟩ | ⟨e1, e2, e3⟩ | ⟨e1, e2, e3⟩
  all_goals first
    | (exfalso; refine HH.out ?_; simp only [decide_eq_false_iff_not, decide_eq_true_eq] at *; omega)
    | (
      go_wp2_with fail
      refine (HL.out _).mono ?_
      rintro e w7 ⟨rfl, hb7⟩
      have H7 : Hid (Below w.heap.size w w7) := below_via M1.out.1 hb7 (Nat.le_refl _)
      clear hb7
      go_wp2
      go_ret
      exact ⟨rfl, H7.out⟩
      )
set_option maxHeartbeats 8000000 in
theorem CurveMixes_main {w : World} (c : Int) (ka : Option Addr) (kn kc : Nat) (la : Option Addr) (ln lc : Nat) (a1 : Option Addr) (n1 c1 : Nat) (a2 : Option Addr) (n2 c2 : Nat) (K L X Y : List Int) (hK : Sl .u32 w (.slice ka kn kc) K) (hL : Sl .u32 w (.slice la ln lc) L) (uK : U32s K) (uL : U32s L) (hX : Sl .u32 w (.slice a1 n1 c1) X) (hY : Sl .u32 w (.slice a2 n2 c2) Y) (uX : U32s X) (uY : U32s Y) (lX : X.length ≤ 1000000) (lY : Y.length ≤ 1000000) (h : (decide (600 < (n1 : Int)) || decide (600 < (n2 : Int))) = false) (hk : kn ≤ 13 ∨ 64 < kn) (hl : ln ≤ 13 ∨ 64 < ln) (hk6 : kn ≤ 600) (hl6 : ln ≤ 600) :
    Calls Try.prog 5 #[.int .i64 c, .slice ka kn kc, .slice la ln lc, .agg #[.slice a1 n1 c1, .slice a2 n2 c2]] w fun e w' => e = .returned (.bool true) ∧ Below w.heap.size w w' := by
  have HL : Hid (∀ W : World, Calls Try.prog 7 #[] W fun e w' => e = .returned (.bool true) ∧ Below W.heap.size W w') := fun W => live09_any
  have HG : Hid (∀ W : World, Calls Try.prog 6 #[.agg #[.slice a1 n1 c1, .slice a2 n2 c2]] W fun e w' => e = .returned (.bool false) ∧ Below W.heap.size W w') := fun W => long09_any a1 n1 c1 a2 n2 c2 false h
  obtain ⟨x, y, er, hx, hy, hA, hR⟩ := Mixes_ans c K uK L X Y uL uX uY lX lY
  have HA1 : Hid (∀ W, Below w.heap.size w W → Calls Try.prog 18 #[.int .i64 c, .slice ka kn kc, .slice la ln lc, .agg #[.slice a1 n1 c1, .slice a2 n2 c2]] W (PtE W x y er)) := fun W hW => hA W ka kn kc la ln lc a1 n1 c1 a2 n2 c2 (below_sl hW hK) (below_sl hW hL) (below_sl hW hX) (below_sl hW hY)
  have HA2 : Hid (∀ W, Below w.heap.size w W → Calls Try.prog 19 #[.int .i64 c, .slice ka kn kc, .slice la ln lc, .agg #[.slice a1 n1 c1, .slice a2 n2 c2]] W (PtE W x y er)) := fun W hW => hR W ka kn kc la ln lc a1 n1 c1 a2 n2 c2 (below_sl hW hK) (below_sl hW hL) (below_sl hW hX) (below_sl hW hY)
  have HB : Hid ((lim x).length ≤ 1000 ∧ (lim y).length ≤ 1000) := ⟨by have := lim12 hx; omega, by have := lim12 hy; omega⟩
  have HC : Hid (((decide (13 < (kn : Int)) = false ∧ decide (600 < (kn : Int)) = false) ∨ (decide (13 < (kn : Int)) = true ∧ decide ((kn : Int) ≤ 64) = false ∧ decide (600 < (kn : Int)) = false)) ∧ ((decide (13 < (ln : Int)) = false ∧ decide (600 < (ln : Int)) = false) ∨ (decide (13 < (ln : Int)) = true ∧ decide ((ln : Int) ≤ 64) = false ∧ decide (600 < (ln : Int)) = false))) := by
    show _ ∧ _
    simp only [decide_eq_false_iff_not, decide_eq_true_eq]
    omega
  clear h hK hL uK uL hX hY uX uY lX lY hk hl hk6 hl6 hx hy hA hR
  go_enter Try.func5, Try.ntmps5
  go_upto_region 1 with (refine wpList_boxR rfl 24 (.tmp 3) rfl #[.slice a1 n1 c1, .slice a2 n2 c2] rfl ?_)
  refine wp_gen (fun W => Below w.heap.size w W ∧ Blk 24 W w.heap.size [.slice a1 n1 c1, .slice a2 n2 c2]) ⟨al1 _, Blk.new _ _ _⟩ ?_
  rintro W0 hW
  have M0 : Hid (Below w.heap.size w W0 ∧ Blk 24 W0 w.heap.size [.slice a1 n1 c1, .slice a2 n2 c2]) := hW
  clear hW
  have p0 : W0.cell? ⟨w.heap.size, 0, none⟩ = some (.slice a1 n1 c1) := M0.out.2.cell 0
  have p1 : W0.cell? ⟨w.heap.size, 1, none⟩ = some (.slice a2 n2 c2) := M0.out.2.cell 1
  go_wp2_with fail
  refine (HG.out _).mono ?_
  rintro e W1 ⟨rfl, hb⟩
  have M1 : Hid (Below w.heap.size w W1 ∧ Blk 24 W1 w.heap.size [.slice a1 n1 c1, .slice a2 n2 c2]) := ⟨below_via M0.out.1 hb (Nat.le_refl _), below_blk hb M0.out.2.lt M0.out.2⟩
  clear hb p0 p1 M0
  obtain ⟨hk, hl⟩ := HC.out
  clear HC
  rcases hk with ⟨d1, d3⟩ | ⟨d1, d2, d3⟩
  all_goals
    rcases hl with ⟨e1, e3⟩ | ⟨e1, e2, e3⟩
  all_goals
    have p0 : W1.cell? ⟨w.heap.size, 0, none⟩ = some (.slice a1 n1 c1) := M1.out.2.cell 0
    have p1 : W1.cell? ⟨w.heap.size, 1, none⟩ = some (.slice a2 n2 c2) := M1.out.2.cell 1
    go_wp2_with fail
    refine (HA1.out _ M1.out.1).mono ?_
    rintro e y1 ⟨ra1, rn1, rc1, qa1, qn1, qc1, rfl, hr1, hq1, hb⟩
    clear p0 p1
    go_upto_region 4 with (fail)
    refine wp_gen (fun W => Below y1.heap.size y1 W ∧ Blk 24 W y1.heap.size [.slice ra1 rn1 rc1, .slice qa1 qn1 qc1]) ⟨al1 _, Blk.new _ _ _⟩ ?_
    rintro z1 ⟨hb2, hB⟩
    obtain ⟨f1, hf⟩ : ∃ f, y1.heap.size = f := ⟨_, rfl⟩
    have hb3 := below_via hb hb2 (Nat.le_refl _)
    have N1 : Hid (Below w.heap.size w z1 ∧ Blk 24 z1 w.heap.size [.slice a1 n1 c1, .slice a2 n2 c2] ∧ Blk 24 z1 f1 [.slice ra1 rn1 rc1, .slice qa1 qn1 qc1] ∧ Nb z1 (.slice ra1 rn1 rc1) x ∧ Nb z1 (.slice qa1 qn1 qc1) y) := ⟨below_via M1.out.1 hb3 (Nat.le_refl _), below_blk hb3 M1.out.2.lt M1.out.2, hf ▸ hB, hr1.below hb2, hq1.below hb2⟩
    rw [hf]
    clear hb hb2 hb3 hB hr1 hq1 hf M1
    have p0 : z1.cell? ⟨w.heap.size, 0, none⟩ = some (.slice a1 n1 c1) := N1.out.2.1.cell 0
    have p1 : z1.cell? ⟨w.heap.size, 1, none⟩ = some (.slice a2 n2 c2) := N1.out.2.1.cell 1
    go_wp2_with fail
    refine (HA2.out _ N1.out.1).mono ?_
    rintro e y2 ⟨ra2, rn2, rc2, qa2, qn2, qc2, rfl, hr2, hq2, hb⟩
    clear p0 p1
    go_upto_region 5 with (fail)
    refine wp_gen (fun W => Below y2.heap.size y2 W ∧ Blk 24 W y2.heap.size [.slice ra2 rn2 rc2, .slice qa2 qn2 qc2]) ⟨al1 _, Blk.new _ _ _⟩ ?_
    rintro z2 ⟨hb2, hB⟩
    obtain ⟨f2, hf⟩ : ∃ f, y2.heap.size = f := ⟨_, rfl⟩
    have hb3 := below_via hb hb2 (Nat.le_refl _)
    have N2 : Hid (Below w.heap.size w z2 ∧ Blk 24 z2 w.heap.size [.slice a1 n1 c1, .slice a2 n2 c2] ∧ Blk 24 z2 f1 [.slice ra1 rn1 rc1, .slice qa1 qn1 qc1] ∧ Nb z2 (.slice ra1 rn1 rc1) x ∧ Nb z2 (.slice qa1 qn1 qc1) y ∧ Blk 24 z2 f2 [.slice ra2 rn2 rc2, .slice qa2 qn2 qc2] ∧ Nb z2 (.slice ra2 rn2 rc2) x ∧ Nb z2 (.slice qa2 qn2 qc2) y) := ⟨below_via N1.out.1 hb3 (Nat.le_refl _), below_blk hb3 N1.out.2.1.lt N1.out.2.1, below_blk hb3 N1.out.2.2.1.lt N1.out.2.2.1, N1.out.2.2.2.1.below hb3, N1.out.2.2.2.2.below hb3, hf ▸ hB, hr2.below hb2, hq2.below hb2⟩
    rw [hf]
    clear hb hb2 hb3 hB hr2 hq2 hf N1
    have s0 : z2.cell? ⟨f1, 0, none⟩ = some (.slice ra1 rn1 rc1) := N2.out.2.2.1.cell 0
    have s1 : z2.cell? ⟨f1, 1, none⟩ = some (.slice qa1 qn1 qc1) := N2.out.2.2.1.cell 1
    have s2 : z2.cell? ⟨f2, 0, none⟩ = some (.slice ra2 rn2 rc2) := N2.out.2.2.2.2.2.1.cell 0
    have s3 : z2.cell? ⟨f2, 1, none⟩ = some (.slice qa2 qn2 qc2) := N2.out.2.2.2.2.2.1.cell 1
    go_wp2_with fail
    refine (SameP_any _ _ _ _ x y N2.out.2.2.2.1 N2.out.2.2.2.2.1 N2.out.2.2.2.2.2.2.1 N2.out.2.2.2.2.2.2.2 HB.out.1 HB.out.2).mono ?_
    rintro e z5 ⟨rfl, hb⟩
    have N5 : Hid (Below w.heap.size w z5) := below_via N2.out.1 hb (Nat.le_refl _)
    clear hb s0 s1 s2 s3 N2
    go_wp2_with (go_at_call 13; refine (num09_any _ _).mono ?_; rintro e w6 ⟨rfl, rfl⟩)
    refine (HL.out _).mono ?_
    rintro e w7 ⟨rfl, hb7⟩
    have H7 : Hid (Below w.heap.size w w7) := below_via N5.out hb7 (Nat.le_refl _)
    clear hb7
    go_wp2
    go_ret
    exact ⟨rfl, H7.out⟩
theorem CurveMixes_any {w : World} (c : Int) (ka : Option Addr) (kn kc : Nat) (la : Option Addr) (ln lc : Nat) (a1 : Option Addr) (n1 c1 : Nat) (a2 : Option Addr) (n2 c2 : Nat) (K L X Y : List Int) (hK : Sl .u32 w (.slice ka kn kc) K) (hL : Sl .u32 w (.slice la ln lc) L) (uK : U32s K) (uL : U32s L) (hX : Sl .u32 w (.slice a1 n1 c1) X) (hY : Sl .u32 w (.slice a2 n2 c2) Y) (uX : U32s X) (uY : U32s Y) (lX : X.length = n1) (lY : Y.length = n2) :
    Calls Try.prog 5 #[.int .i64 c, .slice ka kn kc, .slice la ln lc, .agg #[.slice a1 n1 c1, .slice a2 n2 c2]] w fun e w' => e = .returned (.bool true) ∧ Below w.heap.size w w' := by
  cases h : (decide (600 < (n1 : Int)) || decide (600 < (n2 : Int))) with
  | true => exact CurveMixes_long1 c ka kn kc la ln lc a1 n1 c1 a2 n2 c2 h
  | false =>
    have g : n1 ≤ 600 ∧ n2 ≤ 600 := by simp at h; omega
    by_cases hb : (kn ≤ 13 ∨ 64 < kn) ∧ (ln ≤ 13 ∨ 64 < ln) ∧ kn ≤ 600 ∧ ln ≤ 600
    · exact CurveMixes_main c ka kn kc la ln lc a1 n1 c1 a2 n2 c2 K L X Y hK hL uK uL hX hY uX uY (by omega) (by omega) h hb.1 hb.2.1 hb.2.2.1 hb.2.2.2
    · exact CurveMixes_long2 c ka kn kc la ln lc a1 n1 c1 a2 n2 c2 h hb
end Go.Proofs.Ytkdclocjijmgpaa
