/-
  Curves: the law CurveMuls. (wip/mkh43.py)
-/
import Derived.Test.YtkdclocjijmgpaaK34
namespace Go.Proofs.Ytkdclocjijmgpaa
open Go.RowKit
set_option maxRecDepth 20000
/-- What a length says: at most 13, up to 64, up to 600, more. -/
theorem len_clsM (n : Nat) : (decide (13 < (n : Int)) = false ∧ decide (600 < (n : Int)) = false) ∨ (decide (13 < (n : Int)) = true ∧ decide ((n : Int) ≤ 64) = true) ∨ (decide (13 < (n : Int)) = true ∧ decide ((n : Int) ≤ 64) = false ∧ decide (600 < (n : Int)) = false) ∨ (decide (13 < (n : Int)) = true ∧ decide ((n : Int) ≤ 64) = false ∧ decide (600 < (n : Int)) = true) := by
  simp only [decide_eq_false_iff_not, decide_eq_true_eq]
  omega
theorem lent_upd {B : Nat} {w w' : World} {v : Value} {X : List Int} {f : Nat} {cs : List Value} (h : Nt.LentR B w v X) (hB : Blk 24 w f cs) (hU : Upd w w' f) : Nt.LentR B w' v X := by
  obtain ⟨b, S, rfl, h1, hA, h2, h3, h4⟩ := h
  refine ⟨b, S, rfl, h1, hU.arr hA ?_, h2, h3, h4⟩
  rintro rfl
  have e := Eq.trans (Eq.symm hA) hB
  simp at e
theorem lent_form {B : Nat} {w : World} {v : Value} {X : List Int} (h : Nt.LentR B w v X) : ∃ a k, v = .slice a X.length k := by
  obtain ⟨b, S, rfl, _⟩ := h
  exact ⟨_, _, rfl⟩
theorem SA.re {w0 : World} {T : TypeId} {zero cells cells' : List Value} {iA iS b : Nat} {L : Array Bool} {W : World} (h : SA w0 T zero cells iA iS b L W) (no : ¬ Up L iS) : SA w0 T zero cells' iA iS b L W :=
  ⟨h.1, fun u => ⟨(h.2.1 u).1, (h.2.1 u).2.1, fun s => absurd s no⟩, h.2.2⟩
/-- Two lent lists and a point's block of them. -/
def SN (w0 : World) (X Y : List Int) (b : SV × SV × Nat) (L : Array Bool) (W : World) : Prop :=
  SA w0 24 [.slice none 0 0, .slice none 0 0] [sv b.1, sv b.2.1] 7 8 b.2.2 L W ∧ (Up L 2 → Nt.LentR w0.heap.size W (sv b.1) X) ∧ (Up L 5 → Nt.LentR w0.heap.size W (sv b.2.1) Y) ∧ (Up L 6 → Up L 2 ∧ Up L 5) ∧ (Up L 8 → Up L 6)
theorem up_mon {L : Array Bool} {i k : Nat} (h : Up L k) : Up (L.setIfInBounds i true) k := by
  by_cases e : i = k
  · subst e
    refine up_same ?_
    unfold Up at h
    by_cases hl : i < L.size
    · exact hl
    · simp [Array.getD_eq_getD_getElem?, hl] at h
  · exact (up_st e).2 h
theorem SN.keep {w0 : World} {X Y : List Int} {b : SV × SV × Nat} {L : Array Bool} {W W' : World} (h : SN w0 X Y b L W) {i : Nat} (h2 : i ≠ 2) (h5 : i ≠ 5) (h6 : i = 6 → Up L 2 ∧ Up L 5) (h7 : i ≠ 7) (h8 : i ≠ 8) (hb : Below W.heap.size W W') : SN w0 X Y b (L.setIfInBounds i true) W' :=
  ⟨h.1.keep h7 h8 hb, fun u => (h.2.1 ((up_st h2).1 u)).below hb, fun u => (h.2.2.1 ((up_st h5).1 u)).below hb, fun u => by
    have g : Up L 2 ∧ Up L 5 := by
      by_cases e : i = 6
      · exact h6 e
      · exact h.2.2.2.1 ((up_st e).1 u)
    exact ⟨up_mon g.1, up_mon g.2⟩, fun u => up_mon (h.2.2.2.2 ((up_st h8).1 u))⟩
theorem SN.put2 {w0 : World} {X Y : List Int} {b : SV × SV × Nat} {L : Array Bool} {W W' : World} (h : SN w0 X Y b L W) (hno : ¬ Up L 2) (hb : Below W.heap.size W W') {s : SV} (hl : Nt.LentR W.heap.size W' (sv s) X) : SN w0 X Y (s, b.2) (L.setIfInBounds 2 true) W' :=
  have n6 : ¬ Up L 6 := fun u => hno (h.2.2.2.1 u).1
  have n8 : ¬ Up L 8 := fun u => n6 (h.2.2.2.2 u)
  ⟨(h.1.keep (i := 2) (by decide) (by decide) hb).re fun u => n8 ((up_st (by decide)).1 u), fun _ => hl.mono h.1.1.size, fun u => (h.2.2.1 ((up_st (by decide)).1 u)).below hb, fun u => absurd ((up_st (by decide)).1 u) n6, fun u => absurd ((up_st (by decide)).1 u) n8⟩
theorem SN.put5 {w0 : World} {X Y : List Int} {b : SV × SV × Nat} {L : Array Bool} {W W' : World} (h : SN w0 X Y b L W) (hno : ¬ Up L 5) (hb : Below W.heap.size W W') {s : SV} (hl : Nt.LentR W.heap.size W' (sv s) Y) : SN w0 X Y (b.1, s, b.2.2) (L.setIfInBounds 5 true) W' :=
  have n6 : ¬ Up L 6 := fun u => hno (h.2.2.2.1 u).2
  have n8 : ¬ Up L 8 := fun u => n6 (h.2.2.2.2 u)
  ⟨(h.1.keep (i := 5) (by decide) (by decide) hb).re fun u => n8 ((up_st (by decide)).1 u), fun u => (h.2.1 ((up_st (by decide)).1 u)).below hb, fun _ => hl.mono h.1.1.size, fun u => absurd ((up_st (by decide)).1 u) n6, fun u => absurd ((up_st (by decide)).1 u) n8⟩
theorem SN.alloc {w0 : World} {X Y : List Int} {b : SV × SV × Nat} {L : Array Bool} {W : World} (h : SN w0 X Y b L W) (hno : ¬ Up L 7) : SN w0 X Y (b.1, b.2.1, W.heap.size) (L.setIfInBounds 7 true) (W.alloc (.cells #[.slice none 0 0, .slice none 0 0] 24)) :=
  ⟨h.1.alloc hno (by decide), fun u => (h.2.1 ((up_st (by decide)).1 u)).below (al1 _), fun u => (h.2.2.1 ((up_st (by decide)).1 u)).below (al1 _), fun u => ⟨up_mon (h.2.2.2.1 ((up_st (by decide)).1 u)).1, up_mon (h.2.2.2.1 ((up_st (by decide)).1 u)).2⟩, fun u => up_mon (h.2.2.2.2 ((up_st (by decide)).1 u))⟩
theorem SN.store {w0 : World} {X Y : List Int} {b : SV × SV × Nat} {L : Array Bool} {W : World} (h : SN w0 X Y b L W) (h7 : Up L 7) (h6 : Up L 6) (hno : ¬ Up L 8) (hl : 8 < L.size) : SN w0 X Y b (L.setIfInBounds 8 true) (W.setCells b.2.2 0 [sv b.1, sv b.2.1]) := by
  have hU : Upd W (W.setCells b.2.2 0 [sv b.1, sv b.2.1]) b.2.2 := Upd.setCells _ 0 W
  have hB := (h.1.2.1 h7).2.1 hno
  exact ⟨h.1.store h7 hno (by decide) hl rfl, fun u => lent_upd (h.2.1 ((up_st (by decide)).1 u)) hB hU, fun u => lent_upd (h.2.2.1 ((up_st (by decide)).1 u)) hB hU, fun _ => ⟨up_mon (h.2.2.2.1 h6).1, up_mon (h.2.2.2.1 h6).2⟩, fun _ => up_mon h6⟩
theorem run_allocP {a : Act} {W : World} {o : Oper} (hop : o.op = .alloc 24) : (execOp a.eval o).run Try.prog W = .ok (.value (.pointer (some ⟨W.heap.size, 0, none⟩))) (W.alloc (.cells #[.slice none 0 0, .slice none 0 0] 24)) := by
  unfold execOp
  simp only [hop]
  simp [go_sem, Instr.alloc]
theorem frF9 {ops : Array Oper} {V : Nat → Value} {t : Array Value} {d0 d1 d2 d3 d4 d5 d6 d7 : Nat} (hs : ops.size = 9) (h0 : dstOf ops 0 = some d0) (h1 : dstOf ops 1 = some d1) (h2 : dstOf ops 2 = some d2) (h3 : dstOf ops 3 = some d3) (h4 : dstOf ops 4 = some d4) (h5 : dstOf ops 5 = some d5) (h6 : dstOf ops 6 = some d6) (h7 : dstOf ops 7 = some d7) (h8 : dstOf ops 8 = none) :
    frF ops V t ops.size = (((((((t.setIfInBounds d0 (V 0)).setIfInBounds d1 (V 1)).setIfInBounds d2 (V 2)).setIfInBounds d3 (V 3)).setIfInBounds d4 (V 4)).setIfInBounds d5 (V 5)).setIfInBounds d6 (V 6)).setIfInBounds d7 (V 7) := by
  rw [hs]
  simp only [frF, h0, h1, h2, h3, h4, h5, h6, h7, h8]
theorem eg_lent (args : Array Value) (w : World) : (callFunc 14 args).run Try.prog w = .ok (.enter 14 args) w := eg_of Try.func14 (by kernel_rfl) (by kernel_rfl) args w
set_option maxHeartbeats 4000000 in
theorem CurveMuls_long1 {w : World} (c : Int) (ka : Option Addr) (kn kc : Nat) (a1 : Option Addr) (n1 c1 : Nat) (a2 : Option Addr) (n2 c2 : Nat) (h : (decide (600 < (n1 : Int)) || decide (600 < (n2 : Int))) = true) :
    Calls Try.prog 4 #[.int .i64 c, .slice ka kn kc, .agg #[.slice a1 n1 c1, .slice a2 n2 c2]] w fun e w' => e = .returned (.bool true) ∧ Below w.heap.size w w' := by
  have HL : Hid (∀ W : World, Calls Try.prog 7 #[] W fun e w' => e = .returned (.bool true) ∧ Below W.heap.size W w') := fun W => live09_any
  have HG : Hid (∀ W : World, Calls Try.prog 6 #[.agg #[.slice a1 n1 c1, .slice a2 n2 c2]] W fun e w' => e = .returned (.bool true) ∧ Below W.heap.size W w') := fun W => long09_any a1 n1 c1 a2 n2 c2 true h
  clear h
  go_enter Try.func4, Try.ntmps4
  go_upto_region 1 with (refine wpList_boxR rfl 24 (.tmp 2) rfl #[.slice a1 n1 c1, .slice a2 n2 c2] rfl ?_)
  refine wp_gen (fun W => Below w.heap.size w W ∧ Blk 24 W w.heap.size [.slice a1 n1 c1, .slice a2 n2 c2]) ⟨al1 _, Blk.new _ _ _⟩ ?_
  rintro W0 hW
  have M0 : Hid (Below w.heap.size w W0 ∧ Blk 24 W0 w.heap.size [.slice a1 n1 c1, .slice a2 n2 c2]) := hW
  clear hW
  have p0 : W0.cell? ⟨w.heap.size, 0, none⟩ = some (.slice a1 n1 c1) := M0.out.2.cell 0
  have p1 : W0.cell? ⟨w.heap.size, 1, none⟩ = some (.slice a2 n2 c2) := M0.out.2.cell 1
  go_wp2_with fail
  refine (HG.out _).mono ?_
  rintro e W1 ⟨rfl, hb⟩
  have M1 : Hid (Below w.heap.size w W1 ∧ Blk 24 W1 w.heap.size [.slice a1 n1 c1, .slice a2 n2 c2]) := ⟨below_via M0.out.1 hb (Nat.le_refl _), below_blk hb M0.out.2.lt M0.out.2⟩
  clear hb p0 p1 M0
  go_wp2_with fail
  refine (HL.out _).mono ?_
  rintro e w7 ⟨rfl, hb7⟩
  have H7 : Hid (Below w.heap.size w w7) := below_via M1.out.1 hb7 (Nat.le_refl _)
  clear hb7
  go_wp2
  go_ret
  exact ⟨rfl, H7.out⟩
set_option maxHeartbeats 4000000 in
theorem CurveMuls_long2 {w : World} (c : Int) (ka : Option Addr) (kn kc : Nat) (a1 : Option Addr) (n1 c1 : Nat) (a2 : Option Addr) (n2 c2 : Nat) (h : (decide (600 < (n1 : Int)) || decide (600 < (n2 : Int))) = false) (hb : ¬ ((kn ≤ 13 ∨ 64 < kn) ∧ kn ≤ 600)) :
    Calls Try.prog 4 #[.int .i64 c, .slice ka kn kc, .agg #[.slice a1 n1 c1, .slice a2 n2 c2]] w fun e w' => e = .returned (.bool true) ∧ Below w.heap.size w w' := by
  have HL : Hid (∀ W : World, Calls Try.prog 7 #[] W fun e w' => e = .returned (.bool true) ∧ Below W.heap.size W w') := fun W => live09_any
  have HG : Hid (∀ W : World, Calls Try.prog 6 #[.agg #[.slice a1 n1 c1, .slice a2 n2 c2]] W fun e w' => e = .returned (.bool false) ∧ Below W.heap.size W w') := fun W => long09_any a1 n1 c1 a2 n2 c2 false h
  clear h
  have HH : Hid (¬ ((kn ≤ 13 ∨ 64 < kn) ∧ kn ≤ 600)) := hb
  clear hb
  go_enter Try.func4, Try.ntmps4
  go_upto_region 1 with (refine wpList_boxR rfl 24 (.tmp 2) rfl #[.slice a1 n1 c1, .slice a2 n2 c2] rfl ?_)
  refine wp_gen (fun W => Below w.heap.size w W ∧ Blk 24 W w.heap.size [.slice a1 n1 c1, .slice a2 n2 c2]) ⟨al1 _, Blk.new _ _ _⟩ ?_
  rintro W0 hW
  have M0 : Hid (Below w.heap.size w W0 ∧ Blk 24 W0 w.heap.size [.slice a1 n1 c1, .slice a2 n2 c2]) := hW
  clear hW
  have p0 : W0.cell? ⟨w.heap.size, 0, none⟩ = some (.slice a1 n1 c1) := M0.out.2.cell 0
  have p1 : W0.cell? ⟨w.heap.size, 1, none⟩ = some (.slice a2 n2 c2) := M0.out.2.cell 1
  go_wp2_with fail
  refine (HG.out _).mono ?_
  rintro e W1 ⟨rfl, hb⟩
  have M1 : Hid (Below w.heap.size w W1 ∧ Blk 24 W1 w.heap.size [.slice a1 n1 c1, .slice a2 n2 c2]) := ⟨below_via M0.out.1 hb (Nat.le_refl _), below_blk hb M0.out.2.lt M0.out.2⟩
  clear hb p0 p1 M0
  rcases len_clsM kn with ⟨d1, d3⟩ | ⟨d1, d2⟩ | ⟨d1, d2, d3⟩ | ⟨d1, d2, d3⟩
  all_goals first
    | (exfalso; refine HH.out ?_; simp only [decide_eq_false_iff_not, decide_eq_true_eq] at *; omega)
    | (
      go_wp2_with fail
      refine (HL.out _).mono ?_
      rintro e w7 ⟨rfl, hb7⟩
      have H7 : Hid (Below w.heap.size w w7) := below_via M1.out.1 hb7 (Nat.le_refl _)
      clear hb7
      go_wp2
      go_ret
      exact ⟨rfl, H7.out⟩
      )
set_option maxHeartbeats 8000000 in
theorem CurveMuls_main {w : World} (c : Int) (ka : Option Addr) (kn kc : Nat) (a1 : Option Addr) (n1 c1 : Nat) (a2 : Option Addr) (n2 c2 : Nat) (K X Y : List Int) (hK : Sl .u32 w (.slice ka kn kc) K) (uK : U32s K) (lK : K.length = kn) (hX : Sl .u32 w (.slice a1 n1 c1) X) (hY : Sl .u32 w (.slice a2 n2 c2) Y) (uX : U32s X) (uY : U32s Y) (lX : X.length = n1) (lY : Y.length = n2) (h : (decide (600 < (n1 : Int)) || decide (600 < (n2 : Int))) = false) (hk : kn ≤ 13 ∨ 64 < kn) (hk6 : kn ≤ 600) (g1 : n1 ≤ 600) (g2 : n2 ≤ 600) :
    Calls Try.prog 4 #[.int .i64 c, .slice ka kn kc, .agg #[.slice a1 n1 c1, .slice a2 n2 c2]] w fun e w' => e = .returned (.bool true) ∧ Below w.heap.size w w' := by
  have HL : Hid (∀ W : World, Calls Try.prog 7 #[] W fun e w' => e = .returned (.bool true) ∧ Below W.heap.size W w') := fun W => live09_any
  have HG : Hid (∀ W : World, Calls Try.prog 6 #[.agg #[.slice a1 n1 c1, .slice a2 n2 c2]] W fun e w' => e = .returned (.bool false) ∧ Below W.heap.size W w') := fun W => long09_any a1 n1 c1 a2 n2 c2 false h
  obtain ⟨x, y, er, hx, hy, hA, hR⟩ := Muls_ans c K X Y uK uX uY (by omega) (by omega)
  have HA1 : Hid (∀ (W : World) (fa : Option Addr) (fc : Nat) (xa : Option Addr) (xc : Nat) (ya : Option Addr) (yc : Nat), Sl .u32 W (.slice fa kn fc) K → Sl .u32 W (.slice xa n1 xc) X → Sl .u32 W (.slice ya n2 yc) Y → Calls Try.prog 15 #[.int .i64 c, .slice fa kn fc, .agg #[.slice xa n1 xc, .slice ya n2 yc]] W (PtE W x y er)) := fun W fa fc xa xc ya yc h1 h2 h3 => hA W fa kn fc xa n1 xc ya n2 yc h1 h2 h3
  have HA2 : Hid (∀ W, Below w.heap.size w W → Calls Try.prog 16 #[.int .i64 c, .slice ka kn kc, .agg #[.slice a1 n1 c1, .slice a2 n2 c2]] W (PtE W x y er)) := fun W hW => hR W ka kn kc a1 n1 c1 a2 n2 c2 (below_sl hW hK) (below_sl hW hX) (below_sl hW hY)
  have HLk : Hid (∀ W, Below w.heap.size w W → Calls Try.prog 14 #[.slice ka kn kc] W fun e w' => ∃ a k, e = .returned (.slice a kn k) ∧ Nt.LentR W.heap.size w' (.slice a kn k) K ∧ Below W.heap.size W w') := fun W hW => (Nt.Lent_any K _ W (below_sl hW hK) (by omega)).mono fun e w' ⟨r, h1, h2, h3⟩ => by
    obtain ⟨a, k, hr⟩ := lent_form h2
    rw [lK] at hr
    subst hr
    exact ⟨a, k, h1, h2, h3⟩
  have HLx : Hid (∀ W, Below w.heap.size w W → Calls Try.prog 14 #[.slice a1 n1 c1] W fun e w' => ∃ v, e = .returned v ∧ ∃ s : SV, v = sv s ∧ Nt.LentR W.heap.size w' (sv s) X ∧ Below W.heap.size W w') := fun W hW => (Nt.Lent_any X _ W (below_sl hW hX) (by omega)).mono fun e w' ⟨r, h1, h2, h3⟩ => by
    obtain ⟨a, k, hr⟩ := lent_form h2
    subst hr
    exact ⟨_, h1, (a, X.length, k), rfl, h2, h3⟩
  have HLy : Hid (∀ W, Below w.heap.size w W → Calls Try.prog 14 #[.slice a2 n2 c2] W fun e w' => ∃ v, e = .returned v ∧ ∃ s : SV, v = sv s ∧ Nt.LentR W.heap.size w' (sv s) Y ∧ Below W.heap.size W w') := fun W hW => (Nt.Lent_any Y _ W (below_sl hW hY) (by omega)).mono fun e w' ⟨r, h1, h2, h3⟩ => by
    obtain ⟨a, k, hr⟩ := lent_form h2
    subst hr
    exact ⟨_, h1, (a, Y.length, k), rfl, h2, h3⟩
  have HKk : Hid (∀ (W : World) (B : Nat) (a : Option Addr) (k : Nat), Below w.heap.size w W → Nt.LentR B W (.slice a kn k) K → Calls Try.prog 17 #[.slice a kn k, .slice ka kn kc] W fun e w' => e = .returned (.bool true) ∧ Below W.heap.size W w') := fun W B a k hW hl => Nt.Kept_any _ _ K hl (below_sl hW hK) (by omega)
  have HKx : Hid (∀ (W : World) (B : Nat) (a : Option Addr) (k : Nat), Below w.heap.size w W → Nt.LentR B W (.slice a n1 k) X → Calls Try.prog 17 #[.slice a n1 k, .slice a1 n1 c1] W fun e w' => e = .returned (.bool true) ∧ Below W.heap.size W w') := fun W B a k hW hl => Nt.Kept_any _ _ X hl (below_sl hW hX) (by omega)
  have HKy : Hid (∀ (W : World) (B : Nat) (a : Option Addr) (k : Nat), Below w.heap.size w W → Nt.LentR B W (.slice a n2 k) Y → Calls Try.prog 17 #[.slice a n2 k, .slice a2 n2 c2] W fun e w' => e = .returned (.bool true) ∧ Below W.heap.size W w') := fun W B a k hW hl => Nt.Kept_any _ _ Y hl (below_sl hW hY) (by omega)
  have HB : Hid ((lim x).length ≤ 1000 ∧ (lim y).length ≤ 1000 ∧ X.length = n1 ∧ Y.length = n2) := ⟨by have := lim12 hx; omega, by have := lim12 hy; omega, lX, lY⟩
  have HC : Hid ((decide (13 < (kn : Int)) = false ∧ decide (600 < (kn : Int)) = false) ∨ (decide (13 < (kn : Int)) = true ∧ decide ((kn : Int) ≤ 64) = false ∧ decide (600 < (kn : Int)) = false)) := by
    show _ ∨ _
    simp only [decide_eq_false_iff_not, decide_eq_true_eq]
    omega
  clear h hK uK lK hX hY uX uY lX lY hk hk6 g1 g2 hx hy hA hR
  go_enter Try.func4, Try.ntmps4
  go_upto_region 1 with (refine wpList_boxR rfl 24 (.tmp 2) rfl #[.slice a1 n1 c1, .slice a2 n2 c2] rfl ?_)
  refine wp_gen (fun W => Below w.heap.size w W ∧ Blk 24 W w.heap.size [.slice a1 n1 c1, .slice a2 n2 c2]) ⟨al1 _, Blk.new _ _ _⟩ ?_
  rintro W0 hW
  have M0 : Hid (Below w.heap.size w W0 ∧ Blk 24 W0 w.heap.size [.slice a1 n1 c1, .slice a2 n2 c2]) := hW
  clear hW
  have p0 : W0.cell? ⟨w.heap.size, 0, none⟩ = some (.slice a1 n1 c1) := M0.out.2.cell 0
  have p1 : W0.cell? ⟨w.heap.size, 1, none⟩ = some (.slice a2 n2 c2) := M0.out.2.cell 1
  go_wp2_with fail
  refine (HG.out _).mono ?_
  rintro e W1 ⟨rfl, hb⟩
  have M1 : Hid (Below w.heap.size w W1 ∧ Blk 24 W1 w.heap.size [.slice a1 n1 c1, .slice a2 n2 c2]) := ⟨below_via M0.out.1 hb (Nat.le_refl _), below_blk hb M0.out.2.lt M0.out.2⟩
  clear hb p0 p1 M0
  have hk := HC.out
  clear HC
  rcases hk with ⟨d1, d3⟩ | ⟨d1, d2, d3⟩
  all_goals
    go_wp2_with fail
    refine (HLk.out _ M1.out.1).mono ?_
    rintro e W2 ⟨la, lc, rfl, hl, hb⟩
    have M2 : Hid (Below w.heap.size w W2 ∧ Blk 24 W2 w.heap.size [.slice a1 n1 c1, .slice a2 n2 c2] ∧ Nt.LentR W1.heap.size W2 (.slice la kn lc) K) := ⟨below_via M1.out.1 hb (Nat.le_refl _), below_blk hb M1.out.2.lt M1.out.2, hl⟩
    clear hl hb HLk
    go_upto_region 4 with (fail)
    refine wp_region_det (β := SV × SV × Nat) (fun b k => if k = 2 then sv b.1 else if k = 5 then sv b.2.1 else if k = 6 then .agg #[sv b.1, sv b.2.1] else if k = 7 then PV b.2.2 0 else ([PV w.heap.size 0, .slice a1 n1 c1, undef, PV w.heap.size 1, .slice a2 n2 c2] : List Value).getD k undef) (SN W2 X Y) ((none, 0, 0), (none, 0, 0), 0) rfl (by decide +kernel) (show dstB _ 85 = true by decide +kernel) ⟨⟨Below.drew (Below.refl _ _), fun u => absurd u not_up_new, fun u => absurd u not_up_new⟩, fun u => absurd u not_up_new, fun u => absurd u not_up_new, fun u => absurd u not_up_new, fun u => absurd u not_up_new⟩ (fun b L W hup hS => ?_) (fun i b L W a hi hno hlt hdep hv h0 hS => ?_)
    rotate_left
    · replace hi : i < 9 := hi
      have hB2 : Below w.heap.size w W ∧ Blk 24 W w.heap.size [.slice a1 n1 c1, .slice a2 n2 c2] := ⟨below_via M2.out.1 hS.1.1 (Nat.le_refl _), below_blk hS.1.1 M2.out.2.1.lt M2.out.2.1⟩
      obtain rfl | rfl | rfl | rfl | rfl | rfl | rfl | rfl | rfl : i = 0 ∨ i = 1 ∨ i = 2 ∨ i = 3 ∨ i = 4 ∨ i = 5 ∨ i = 6 ∨ i = 7 ∨ i = 8 := by omega
      · exact det_val rfl rfl (run_fieldP (k := 0) rfl ((h0 5 (by decide +kernel)).trans rfl) (by decide)) (hS.keep (by decide) (by decide) (fun e => absurd e (by decide)) (by decide) (by decide) (Below.refl _ _))
      · exact det_val rfl rfl (run_load1 rfl (dv hv hdep 0 33) (hB2.2.cell 0)) (hS.keep (by decide) (by decide) (fun e => absurd e (by decide)) (by decide) (by decide) (Below.refl _ _))
      · refine det_callu rfl rfl (run_call1 rfl (dv hv hdep 1 34) eg_lent) (HLx.out W hB2.1) ?_
        rintro v w' ⟨s, rfl, hl, hb⟩
        refine ⟨(s, b.2), fun k hk u => ?_, rfl, hS.put2 hno hb hl⟩
        have h6 : k ≠ 6 := fun e => hno (hS.2.2.2.1 (e ▸ u)).1
        simp only [if_neg hk, if_neg h6]
      · exact det_val rfl rfl (run_fieldP (k := 1) rfl ((h0 5 (by decide +kernel)).trans rfl) (by decide)) (hS.keep (by decide) (by decide) (fun e => absurd e (by decide)) (by decide) (by decide) (Below.refl _ _))
      · exact det_val rfl rfl (run_load1 rfl (dv hv hdep 3 36) (hB2.2.cell 1)) (hS.keep (by decide) (by decide) (fun e => absurd e (by decide)) (by decide) (by decide) (Below.refl _ _))
      · refine det_callu rfl rfl (run_call1 rfl (dv hv hdep 4 37) eg_lent) (HLy.out W hB2.1) ?_
        rintro v w' ⟨s, rfl, hl, hb⟩
        refine ⟨(b.1, s, b.2.2), fun k hk u => ?_, rfl, hS.put5 hno hb hl⟩
        have h6 : k ≠ 6 := fun e => hno (hS.2.2.2.1 (e ▸ u)).2
        simp only [if_neg hk, if_neg h6]
      · exact det_val rfl rfl (run_buildP (b := (b.1, b.2.1)) rfl (dv hv hdep 2 35) (dv hv hdep 5 38)) (hS.keep (by decide) (by decide) (fun _ => ⟨hdep 2 (by decide +kernel), hdep 5 (by decide +kernel)⟩) (by decide) (by decide) (Below.refl _ _))
      · exact det_alloc (b.1, b.2.1, W.heap.size) rfl rfl (run_allocP rfl) (fun k hk => by simp only [if_neg hk]) rfl (hS.alloc hno)
      · exact det_store (cells := #[sv b.1, sv b.2.1]) rfl rfl rfl rfl (dv hv hdep 7 8) (dv hv hdep 6 39) (((hS.1.2.1 (hdep 7 (by decide +kernel))).2.1 hno).there 0 _ (Nat.le_refl 2)) Try.sizePt (sv_one (b.1, b.2.1)) (hS.store (hdep 7 (by decide +kernel)) (hdep 6 (by decide +kernel)) hno (hlt 8 (by decide)))
    have hS1 := (hS.1.2.1 (hup 7 (by decide))).2.2 (hup 8 (by decide))
    have hS2 := hS.2.1 (hup 2 (by decide))
    have hS3 := hS.2.2.1 (hup 5 (by decide))
    have hS4 := hS.1.1
    obtain ⟨⟨xa, xn, xc⟩, ⟨ya, yn, yc⟩, fq⟩ := b
    have qn1 : xn = n1 := by
      obtain ⟨a, k, e⟩ := lent_form hS2
      rw [HB.out.2.2.1] at e
      unfold sv at e
      simp only [Value.slice.injEq] at e
      exact e.2.1
    have qn2 : yn = n2 := by
      obtain ⟨a, k, e⟩ := lent_form hS3
      rw [HB.out.2.2.2] at e
      unfold sv at e
      simp only [Value.slice.injEq] at e
      exact e.2.1
    subst qn1 qn2
    have M4 : Hid (Below w.heap.size w W ∧ Blk 24 W w.heap.size [.slice a1 xn c1, .slice a2 yn c2] ∧ Nt.LentR W1.heap.size W (.slice la kn lc) K ∧ Blk 24 W fq [.slice xa xn xc, .slice ya yn yc] ∧ Nt.LentR W2.heap.size W (.slice xa xn xc) X ∧ Nt.LentR W2.heap.size W (.slice ya yn yc) Y) := ⟨below_via M2.out.1 hS4 (Nat.le_refl _), below_blk hS4 M2.out.2.1.lt M2.out.2.1, M2.out.2.2.below hS4, hS1, hS2, hS3⟩
    clear hup hS hS1 hS2 hS3 hS4 HLx HLy M2
    obtain ⟨W4, hW4⟩ : ∃ x, x = W := ⟨_, rfl⟩
    subst hW4
    clear L
    rw [frF9 rfl rfl rfl rfl rfl rfl rfl rfl rfl rfl]
    simp only [List.setIfInBounds_toArray, List.set_cons_succ, List.set_cons_zero, sv]
    have p0 : W4.cell? ⟨fq, 0, none⟩ = some (.slice xa xn xc) := M4.out.2.2.2.1.cell 0
    have p1 : W4.cell? ⟨fq, 1, none⟩ = some (.slice ya yn yc) := M4.out.2.2.2.1.cell 1
    go_wp2_with fail
    refine (HA1.out _ la lc xa xc ya yc M4.out.2.2.1.sl M4.out.2.2.2.2.1.sl M4.out.2.2.2.2.2.sl).mono ?_
    rintro e y1 ⟨ra1, rn1, rc1, qa1, qn1, qc1, rfl, hr1, hq1, hb⟩
    clear p0 p1
    go_upto_region 6 with (fail)
    refine wp_gen (fun W => Below y1.heap.size y1 W ∧ Blk 24 W y1.heap.size [.slice ra1 rn1 rc1, .slice qa1 qn1 qc1]) ⟨al1 _, Blk.new _ _ _⟩ ?_
    rintro z1 ⟨hb2, hB⟩
    obtain ⟨f1, hf⟩ : ∃ f, y1.heap.size = f := ⟨_, rfl⟩
    have hb3 := below_via hb hb2 (Nat.le_refl _)
    have N1 : Hid (Below w.heap.size w z1 ∧ Blk 24 z1 w.heap.size [.slice a1 xn c1, .slice a2 yn c2] ∧ Nt.LentR W1.heap.size z1 (.slice la kn lc) K ∧ Blk 24 z1 fq [.slice xa xn xc, .slice ya yn yc] ∧ Nt.LentR W2.heap.size z1 (.slice xa xn xc) X ∧ Nt.LentR W2.heap.size z1 (.slice ya yn yc) Y ∧ Blk 24 z1 f1 [.slice ra1 rn1 rc1, .slice qa1 qn1 qc1] ∧ Nb z1 (.slice ra1 rn1 rc1) x ∧ Nb z1 (.slice qa1 qn1 qc1) y) := ⟨below_via M4.out.1 hb3 (Nat.le_refl _), below_blk hb3 M4.out.2.1.lt M4.out.2.1, M4.out.2.2.1.below hb3, below_blk hb3 M4.out.2.2.2.1.lt M4.out.2.2.2.1, M4.out.2.2.2.2.1.below hb3, M4.out.2.2.2.2.2.below hb3, hf ▸ hB, hr1.below hb2, hq1.below hb2⟩
    rw [hf]
    clear hb hb2 hb3 hB hr1 hq1 hf M4
    have p0 : z1.cell? ⟨w.heap.size, 0, none⟩ = some (.slice a1 xn c1) := N1.out.2.1.cell 0
    have p1 : z1.cell? ⟨w.heap.size, 1, none⟩ = some (.slice a2 yn c2) := N1.out.2.1.cell 1
    go_wp2_with fail
    refine (HA2.out _ N1.out.1).mono ?_
    rintro e y2 ⟨ra2, rn2, rc2, qa2, qn2, qc2, rfl, hr2, hq2, hb⟩
    clear p0 p1
    go_upto_region 7 with (fail)
    refine wp_gen (fun W => Below y2.heap.size y2 W ∧ Blk 24 W y2.heap.size [.slice ra2 rn2 rc2, .slice qa2 qn2 qc2]) ⟨al1 _, Blk.new _ _ _⟩ ?_
    rintro z2 ⟨hb2, hB⟩
    obtain ⟨f2, hf⟩ : ∃ f, y2.heap.size = f := ⟨_, rfl⟩
    have hb3 := below_via hb hb2 (Nat.le_refl _)
    have N2 : Hid (Below w.heap.size w z2 ∧ Blk 24 z2 w.heap.size [.slice a1 xn c1, .slice a2 yn c2] ∧ Nt.LentR W1.heap.size z2 (.slice la kn lc) K ∧ Blk 24 z2 fq [.slice xa xn xc, .slice ya yn yc] ∧ Nt.LentR W2.heap.size z2 (.slice xa xn xc) X ∧ Nt.LentR W2.heap.size z2 (.slice ya yn yc) Y ∧ Blk 24 z2 f1 [.slice ra1 rn1 rc1, .slice qa1 qn1 qc1] ∧ Nb z2 (.slice ra1 rn1 rc1) x ∧ Nb z2 (.slice qa1 qn1 qc1) y ∧ Blk 24 z2 f2 [.slice ra2 rn2 rc2, .slice qa2 qn2 qc2] ∧ Nb z2 (.slice ra2 rn2 rc2) x ∧ Nb z2 (.slice qa2 qn2 qc2) y) := ⟨below_via N1.out.1 hb3 (Nat.le_refl _), below_blk hb3 N1.out.2.1.lt N1.out.2.1, N1.out.2.2.1.below hb3, below_blk hb3 N1.out.2.2.2.1.lt N1.out.2.2.2.1, N1.out.2.2.2.2.1.below hb3, N1.out.2.2.2.2.2.1.below hb3, below_blk hb3 N1.out.2.2.2.2.2.2.1.lt N1.out.2.2.2.2.2.2.1, N1.out.2.2.2.2.2.2.2.1.below hb3, N1.out.2.2.2.2.2.2.2.2.below hb3, hf ▸ hB, hr2.below hb2, hq2.below hb2⟩
    rw [hf]
    clear hb hb2 hb3 hB hr2 hq2 hf N1
    have s0 : z2.cell? ⟨f1, 0, none⟩ = some (.slice ra1 rn1 rc1) := N2.out.2.2.2.2.2.2.1.cell 0
    have s1 : z2.cell? ⟨f1, 1, none⟩ = some (.slice qa1 qn1 qc1) := N2.out.2.2.2.2.2.2.1.cell 1
    have s2 : z2.cell? ⟨f2, 0, none⟩ = some (.slice ra2 rn2 rc2) := N2.out.2.2.2.2.2.2.2.2.2.1.cell 0
    have s3 : z2.cell? ⟨f2, 1, none⟩ = some (.slice qa2 qn2 qc2) := N2.out.2.2.2.2.2.2.2.2.2.1.cell 1
    go_wp2_with fail
    refine (SameP_any _ _ _ _ x y N2.out.2.2.2.2.2.2.2.1 N2.out.2.2.2.2.2.2.2.2.1 N2.out.2.2.2.2.2.2.2.2.2.2.1 N2.out.2.2.2.2.2.2.2.2.2.2.2 HB.out.1 HB.out.2.1).mono ?_
    rintro e z5 ⟨rfl, hb⟩
    have N5 : Hid (Below w.heap.size w z5 ∧ Blk 24 z5 w.heap.size [.slice a1 xn c1, .slice a2 yn c2] ∧ Nt.LentR W1.heap.size z5 (.slice la kn lc) K ∧ Blk 24 z5 fq [.slice xa xn xc, .slice ya yn yc] ∧ Nt.LentR W2.heap.size z5 (.slice xa xn xc) X ∧ Nt.LentR W2.heap.size z5 (.slice ya yn yc) Y) := ⟨below_via N2.out.1 hb (Nat.le_refl _), below_blk hb N2.out.2.1.lt N2.out.2.1, N2.out.2.2.1.below hb, below_blk hb N2.out.2.2.2.1.lt N2.out.2.2.2.1, N2.out.2.2.2.2.1.below hb, N2.out.2.2.2.2.2.1.below hb⟩
    clear hb s0 s1 s2 s3 N2
    go_wp2_with (go_at_call 13; refine (num09_any _ _).mono ?_; rintro e w6 ⟨rfl, rfl⟩)
    refine (HKk.out _ _ _ _ N5.out.1 N5.out.2.2.1).mono ?_
    rintro e z6 ⟨rfl, hb⟩
    have N6 : Hid (Below w.heap.size w z6 ∧ Blk 24 z6 w.heap.size [.slice a1 xn c1, .slice a2 yn c2] ∧ Nt.LentR W1.heap.size z6 (.slice la kn lc) K ∧ Blk 24 z6 fq [.slice xa xn xc, .slice ya yn yc] ∧ Nt.LentR W2.heap.size z6 (.slice xa xn xc) X ∧ Nt.LentR W2.heap.size z6 (.slice ya yn yc) Y) := ⟨below_via N5.out.1 hb (Nat.le_refl _), below_blk hb N5.out.2.1.lt N5.out.2.1, N5.out.2.2.1.below hb, below_blk hb N5.out.2.2.2.1.lt N5.out.2.2.2.1, N5.out.2.2.2.2.1.below hb, N5.out.2.2.2.2.2.below hb⟩
    clear hb N5
    have s0 : z6.cell? ⟨fq, 0, none⟩ = some (.slice xa xn xc) := N6.out.2.2.2.1.cell 0
    have s1 : z6.cell? ⟨w.heap.size, 0, none⟩ = some (.slice a1 xn c1) := N6.out.2.1.cell 0
    go_wp2_with fail
    refine (HKx.out _ _ _ _ N6.out.1 N6.out.2.2.2.2.1).mono ?_
    rintro e z7 ⟨rfl, hb⟩
    have N7 : Hid (Below w.heap.size w z7 ∧ Blk 24 z7 w.heap.size [.slice a1 xn c1, .slice a2 yn c2] ∧ Nt.LentR W1.heap.size z7 (.slice la kn lc) K ∧ Blk 24 z7 fq [.slice xa xn xc, .slice ya yn yc] ∧ Nt.LentR W2.heap.size z7 (.slice xa xn xc) X ∧ Nt.LentR W2.heap.size z7 (.slice ya yn yc) Y) := ⟨below_via N6.out.1 hb (Nat.le_refl _), below_blk hb N6.out.2.1.lt N6.out.2.1, N6.out.2.2.1.below hb, below_blk hb N6.out.2.2.2.1.lt N6.out.2.2.2.1, N6.out.2.2.2.2.1.below hb, N6.out.2.2.2.2.2.below hb⟩
    clear hb s0 s1 N6
    have s0 : z7.cell? ⟨fq, 1, none⟩ = some (.slice ya yn yc) := N7.out.2.2.2.1.cell 1
    have s1 : z7.cell? ⟨w.heap.size, 1, none⟩ = some (.slice a2 yn c2) := N7.out.2.1.cell 1
    go_wp2_with fail
    refine (HKy.out _ _ _ _ N7.out.1 N7.out.2.2.2.2.2).mono ?_
    rintro e z8 ⟨rfl, hb⟩
    have N8 : Hid (Below w.heap.size w z8) := below_via N7.out.1 hb (Nat.le_refl _)
    clear hb s0 s1 N7
    go_wp2_with fail
    refine (HL.out _).mono ?_
    rintro e w7 ⟨rfl, hb7⟩
    have H7 : Hid (Below w.heap.size w w7) := below_via N8.out hb7 (Nat.le_refl _)
    clear hb7
    go_wp2
    go_ret
    exact ⟨rfl, H7.out⟩
theorem CurveMuls_any {w : World} (c : Int) (ka : Option Addr) (kn kc : Nat) (a1 : Option Addr) (n1 c1 : Nat) (a2 : Option Addr) (n2 c2 : Nat) (K X Y : List Int) (hK : Sl .u32 w (.slice ka kn kc) K) (uK : U32s K) (lK : K.length = kn) (hX : Sl .u32 w (.slice a1 n1 c1) X) (hY : Sl .u32 w (.slice a2 n2 c2) Y) (uX : U32s X) (uY : U32s Y) (lX : X.length = n1) (lY : Y.length = n2) :
    Calls Try.prog 4 #[.int .i64 c, .slice ka kn kc, .agg #[.slice a1 n1 c1, .slice a2 n2 c2]] w fun e w' => e = .returned (.bool true) ∧ Below w.heap.size w w' := by
  cases h : (decide (600 < (n1 : Int)) || decide (600 < (n2 : Int))) with
  | true => exact CurveMuls_long1 c ka kn kc a1 n1 c1 a2 n2 c2 h
  | false =>
    have g : n1 ≤ 600 ∧ n2 ≤ 600 := by simp at h; omega
    by_cases hb : (kn ≤ 13 ∨ 64 < kn) ∧ kn ≤ 600
    · exact CurveMuls_main c ka kn kc a1 n1 c1 a2 n2 c2 K X Y hK uK lK hX hY uX uY lX lY h hb.1 hb.2 g.1 g.2
    · exact CurveMuls_long2 c ka kn kc a1 n1 c1 a2 n2 c2 h hb
end Go.Proofs.Ytkdclocjijmgpaa
