/-
  Realm: a rule held against no base, and against one; is there a base of its kind?
-/
import Derived.Deep.MidRow
import Derived.Test.YtljgbdmcdaoknaaDoorK9
namespace Go.Proofs.YtljgbdmcdaoknaaDoor
open Go.RowKit
theorem Tryd.sizeG : (Tryd.prog.info? 28).map (·.size) = some 4 := by kernel_rfl
theorem Tryd.sizeU : (Tryd.prog.info? 42).map (·.size) = some 2 := by kernel_rfl
set_option maxHeartbeats 4000000 in
theorem matches0_any {w : World} (r k1 : Int) (X : List Int) (a1 d1 : Option Addr) (n1 c1 m1 e1 : Nat) :
    Calls Tryd.prog 15 #[.agg #[.int .i64 r, .func (.func 29) #[] #[]], .agg #[.int .i64 k1, .string (strOfNums X), .slice a1 n1 c1, .slice d1 m1 e1], .slice none 0 0] w fun e w' => e = .returned (.bool false) ∧ Below w.heap.size w w' := by
  have HB : Hid (∀ o o' : Obj, Below w.heap.size w ((w.alloc o).alloc o')) := fun o o' => (al1 o).alloc (al1 o).size o'
  go_enter Tryd.func15, Tryd.ntmps15
  go_wp2_with fail
  go_loopw [8, 11] (fun _ iv wr => iv = .int .i64 0 ∧ Below w.heap.size w wr) (fun _ iv _ => 0)
  case atStart => exact ⟨rfl, HB.out _ _⟩
  case round =>
    obtain ⟨rfl, hbw⟩ := hrel
    go_wp2
    go_ret
    exact ⟨rfl, hbw⟩
/-- A rule, a name and a base lie where they were laid. -/
def MO (w : World) (g b : Nat) (u n m : List Value) (W : World) : Prop := Blk 42 W g u ∧ Blk 28 W (g + 1) n ∧ Blk 28 W b m ∧ Below g w W
/-- A rule and a base lie where they were laid. -/
def BO (w : World) (g b : Nat) (u m : List Value) (W : World) : Prop := Blk 42 W g u ∧ Blk 28 W b m ∧ Below g w W
theorem BO.below {w : World} {g b : Nat} {u m : List Value} {W W' : World} (h : BO w g b u m W) (hb : Below W.heap.size W W') : BO w g b u m W' :=
  ⟨below_blk hb h.1.lt h.1, below_blk hb h.2.1.lt h.2.1, h.2.2.trans (hb.mono (by have := h.1.lt; omega))⟩
theorem MO.below {w : World} {g b : Nat} {u n m : List Value} {W W' : World} (h : MO w g b u n m W) (hb : Below W.heap.size W W') : MO w g b u n m W' :=
  ⟨below_blk hb h.1.lt h.1, below_blk hb h.2.1.lt h.2.1, below_blk hb h.2.2.1.lt h.2.2.1, h.2.2.2.trans (hb.mono (by have := h.1.lt; omega))⟩
set_option maxRecDepth 20000 in
set_option maxHeartbeats 4000000 in
theorem matches1_any {w : World} (r k1 k2 : Int) (X Y : List Int) (uX : U8s X) (uY : U8s Y) (lX : X.length ≤ 1125899906842624) (lY : Y.length ≤ 1125899906842624) (a1 a2 d1 d2 : Option Addr) (n1 c1 n2 c2 m1 e1 m2 e2 b : Nat) (hb : Blk 28 w b (gen k2 Y a2 d2 n2 c2 m2 e2)) :
    Calls Tryd.prog 15 #[.agg #[.int .i64 r, .func (.func 29) #[] #[]], .agg #[.int .i64 k1, .string (strOfNums X), .slice a1 n1 c1, .slice d1 m1 e1], .slice (some ⟨b, 0, none⟩) 1 1] w fun e w' => e = .returned (.bool (decide (k2 = r) && hostB X Y)) ∧ Below w.heap.size w w' := by
  obtain ⟨R, hR⟩ : ∃ R, (decide (k2 = r) && hostB X Y) = R := ⟨_, rfl⟩
  rw [hR]
  have HM : Hid (∀ W : World, Calls Tryd.prog 24 #[.agg #[.int .i64 r, .func (.func 29) #[] #[]], .agg #[.int .i64 k1, .string (strOfNums X), .slice a1 n1 c1, .slice d1 m1 e1], .agg #[.int .i64 k2, .string (strOfNums Y), .slice a2 n2 c2, .slice d2 m2 e2]] W fun e w' => e = .returned (.bool R) ∧ Below W.heap.size W w') := fun W => hR ▸ match2_any r k1 k2 X Y uX uY lX lY a1 a2 d1 d2 n1 c1 n2 c2 m1 e1 m2 e2
  have HB0 : Hid (Blk 28 w b (gen k2 Y a2 d2 n2 c2 m2 e2)) := hb
  have hbl := hb.lt
  clear hR hb uX uY lX lY
  obtain ⟨g, hg⟩ : ∃ g, w.heap.size = g := ⟨_, rfl⟩
  go_enter Tryd.func15, Tryd.ntmps15
  go_wp2_with fail
  refine wp_gen (fun W => MO w g b (rul2 r) (gen k1 X a1 d1 n1 c1 m1 e1) (gen k2 Y a2 d2 n2 c2 m2 e2) W) ?_ ?_
  · have k0 := (Blk.new 42 w (rul2 r)).alloc (.cells (gen k1 X a1 d1 n1 c1 m1 e1).toArray 28)
    have kk1 := Blk.new 28 (w.alloc (.cells (rul2 r).toArray 42)) (gen k1 X a1 d1 n1 c1 m1 e1)
    have hb := (al1 (w := w) (.cells (rul2 r).toArray 42)).alloc (al1 _).size (.cells (gen k1 X a1 d1 n1 c1 m1 e1).toArray 28)
    simp only [World.size_alloc, hg] at k0 kk1 hb
    exact ⟨k0, kk1, (HB0.out.alloc _).alloc _, hb⟩
  rintro W1 hM
  have HM1 : Hid (MO w g b (rul2 r) (gen k1 X a1 d1 n1 c1 m1 e1) (gen k2 Y a2 d2 n2 c2 m2 e2) W1) := hM
  clear hM
  go_loopw [8, 11] (fun _ iv wr => ∃ i : Nat, iv = .int .i64 (i : Int) ∧ (i = 0 ∨ i = 1 ∧ R = false) ∧ Hid (MO w g b (rul2 r) (gen k1 X a1 d1 n1 c1 m1 e1) (gen k2 Y a2 d2 n2 c2 m2 e2) wr)) (fun _ iv _ => 1 - (intOf iv).toNat)
  case atStart => exact ⟨0, rfl, .inl rfl, HM1.out⟩
  case round =>
    obtain ⟨i, rfl, hi, HI⟩ := hrel
    rcases hi with rfl | ⟨rfl, rfl⟩
    · have HG : Hid (wr.rangeAt b 0 [.int .i64 k2, .string (strOfNums Y), .slice a2 n2 c2, .slice d2 m2 e2]) := HI.out.2.2.1.whole
      go_upto_region 4 with (first
        | (refine wpList_load_mid rfl 28 (.tmp 13) rfl b 0 rfl [.int .i64 k2, .string (strOfNums Y), .slice a2 n2 c2, .slice d2 m2 e2] _ HG.out Tryd.underlying28 rfl Tryd.sizeG ?_)
        | (refine wpList_store_mid rfl 28 (.tmp 8) (.tmp 14) rfl wr.heap.size 0 #[.int .i64 k2, .string (strOfNums Y), .slice a2 n2 c2, .slice d2 m2 e2] rfl rfl ((Blk.new 28 wr _).there 0 _ (by simp)) (by simpa using Tryd.sizeG) (by rfl) ?_))
      obtain ⟨h, hh⟩ : ∃ h, wr.heap.size = h := ⟨_, rfl⟩
      rw [hh]
      refine wp_gen (fun W => MO w g b (rul2 r) (gen k1 X a1 d1 n1 c1 m1 e1) (gen k2 Y a2 d2 n2 c2 m2 e2) W ∧ Blk 28 W h [.int .i64 k2, .string (strOfNums Y), .slice a2 n2 c2, .slice d2 m2 e2]) ⟨HI.out.below ((Below.refl _ _).alloc (Nat.le_refl _) _), hh ▸ Blk.new 28 wr [.int .i64 k2, .string (strOfNums Y), .slice a2 n2 c2, .slice d2 m2 e2]⟩ ?_
      rintro W2 ⟨hM2, hB2⟩
      have G1 : Hid (W2.rangeAt g 0 [.int .i64 r, .func (.func 29) #[] #[]]) := hM2.1.whole
      have G2 : Hid (W2.rangeAt (g + 1) 0 [.int .i64 k1, .string (strOfNums X), .slice a1 n1 c1, .slice d1 m1 e1]) := hM2.2.1.whole
      have G3 : Hid (W2.rangeAt h 0 [.int .i64 k2, .string (strOfNums Y), .slice a2 n2 c2, .slice d2 m2 e2]) := hB2.whole
      have HM2 : Hid (MO w g b (rul2 r) (gen k1 X a1 d1 n1 c1 m1 e1) (gen k2 Y a2 d2 n2 c2 m2 e2) W2) := hM2
      clear hM2 hB2
      cases R with
      | true =>
        go_wp2_with (first
          | (refine wpList_load_mid rfl 42 (.tmp 3) rfl g 0 rfl [.int .i64 r, .func (.func 29) #[] #[]] _ G1.out Tryd.underlying42 rfl Tryd.sizeU ?_)
          | (refine wpList_load_mid rfl 28 (.tmp 4) rfl (g + 1) 0 rfl [.int .i64 k1, .string (strOfNums X), .slice a1 n1 c1, .slice d1 m1 e1] _ G2.out Tryd.underlying28 rfl Tryd.sizeG ?_)
          | (refine wpList_load_mid rfl 28 (.tmp 8) rfl h 0 rfl [.int .i64 k2, .string (strOfNums Y), .slice a2 n2 c2, .slice d2 m2 e2] _ G3.out Tryd.underlying28 rfl Tryd.sizeG ?_)
          | (go_at_call 24; refine (HM.out _).mono ?_; rintro e W3 ⟨rfl, hb3⟩))
        go_ret
        exact ⟨rfl, hg ▸ (HM2.out.below hb3).2.2.2⟩
      | false =>
        go_wp2_with (first
          | (refine wpList_load_mid rfl 42 (.tmp 3) rfl g 0 rfl [.int .i64 r, .func (.func 29) #[] #[]] _ G1.out Tryd.underlying42 rfl Tryd.sizeU ?_)
          | (refine wpList_load_mid rfl 28 (.tmp 4) rfl (g + 1) 0 rfl [.int .i64 k1, .string (strOfNums X), .slice a1 n1 c1, .slice d1 m1 e1] _ G2.out Tryd.underlying28 rfl Tryd.sizeG ?_)
          | (refine wpList_load_mid rfl 28 (.tmp 8) rfl h 0 rfl [.int .i64 k2, .string (strOfNums Y), .slice a2 n2 c2, .slice d2 m2 e2] _ G3.out Tryd.underlying28 rfl Tryd.sizeG ?_)
          | (go_at_call 24; refine (HM.out _).mono ?_; rintro e W3 ⟨rfl, hb3⟩))
        have HM3 : Hid (MO w g b (rul2 r) (gen k1 X a1 d1 n1 c1 m1 e1) (gen k2 Y a2 d2 n2 c2 m2 e2) W3) := HM2.out.below hb3
        clear hb3
        go_wp2
        go_roundw
        case rel => exact ⟨1, rfl, .inr ⟨rfl, trivial⟩, HM3.out⟩
        case measure => simp [intOf]
    · go_wp2
      go_ret
      exact ⟨rfl, hg ▸ HI.out.2.2.2⟩
set_option maxRecDepth 20000 in
set_option maxHeartbeats 4000000 in
theorem bounds1_any {w : World} (r k2 : Int) (Y : List Int) (a2 d2 : Option Addr) (n2 c2 m2 e2 b : Nat) (hb : Blk 28 w b (gen k2 Y a2 d2 n2 c2 m2 e2)) :
    Calls Tryd.prog 16 #[.agg #[.int .i64 r, .func (.func 29) #[] #[]], .slice (some ⟨b, 0, none⟩) 1 1] w fun e w' => e = .returned (.bool (decide (k2 = r))) ∧ Below w.heap.size w w' := by
  obtain ⟨R, hR⟩ : ∃ R, decide (k2 = r) = R := ⟨_, rfl⟩
  rw [hR]
  have hkb : (k2 == r) = R := by rw [← hR]; by_cases h : k2 = r <;> simp [h]
  have HB0 : Hid (Blk 28 w b (gen k2 Y a2 d2 n2 c2 m2 e2)) := hb
  have hbl := hb.lt
  clear hR hb
  obtain ⟨g, hg⟩ : ∃ g, w.heap.size = g := ⟨_, rfl⟩
  go_enter Tryd.func16, Tryd.ntmps16
  go_wp2_with fail
  refine wp_gen (fun W => BO w g b (rul2 r) (gen k2 Y a2 d2 n2 c2 m2 e2) W) ?_ ?_
  · have k0 := Blk.new 42 w (rul2 r)
    have hb := al1 (w := w) (.cells (rul2 r).toArray 42)
    simp only [hg] at k0 hb
    exact ⟨k0, HB0.out.alloc _, hb⟩
  rintro W1 hM
  have HM1 : Hid (BO w g b (rul2 r) (gen k2 Y a2 d2 n2 c2 m2 e2) W1) := hM
  clear hM
  go_loopw [6, 9] (fun _ iv wr => ∃ i : Nat, iv = .int .i64 (i : Int) ∧ (i = 0 ∨ i = 1 ∧ R = false) ∧ Hid (BO w g b (rul2 r) (gen k2 Y a2 d2 n2 c2 m2 e2) wr)) (fun _ iv _ => 1 - (intOf iv).toNat)
  case atStart => exact ⟨0, rfl, .inl rfl, HM1.out⟩
  case round =>
    obtain ⟨i, rfl, hi, HI⟩ := hrel
    rcases hi with rfl | ⟨rfl, rfl⟩
    · have HG : Hid (wr.rangeAt b 0 [.int .i64 k2, .string (strOfNums Y), .slice a2 n2 c2, .slice d2 m2 e2]) := HI.out.2.1.whole
      go_upto_region 4 with (first
        | (refine wpList_load_mid rfl 28 (.tmp 11) rfl b 0 rfl [.int .i64 k2, .string (strOfNums Y), .slice a2 n2 c2, .slice d2 m2 e2] _ HG.out Tryd.underlying28 rfl Tryd.sizeG ?_)
        | (refine wpList_store_mid rfl 28 (.tmp 6) (.tmp 12) rfl wr.heap.size 0 #[.int .i64 k2, .string (strOfNums Y), .slice a2 n2 c2, .slice d2 m2 e2] rfl rfl ((Blk.new 28 wr _).there 0 _ (by simp)) (by simpa using Tryd.sizeG) (by rfl) ?_))
      obtain ⟨h, hh⟩ : ∃ h, wr.heap.size = h := ⟨_, rfl⟩
      rw [hh]
      refine wp_gen (fun W => BO w g b (rul2 r) (gen k2 Y a2 d2 n2 c2 m2 e2) W ∧ Blk 28 W h [.int .i64 k2, .string (strOfNums Y), .slice a2 n2 c2, .slice d2 m2 e2]) ⟨HI.out.below ((Below.refl _ _).alloc (Nat.le_refl _) _), hh ▸ Blk.new 28 wr [.int .i64 k2, .string (strOfNums Y), .slice a2 n2 c2, .slice d2 m2 e2]⟩ ?_
      rintro W2 ⟨hM2, hB2⟩
      have p1 : W2.cell? ⟨g, 0, none⟩ = some (.int .i64 r) := hM2.1.cell 0
      have p2 : W2.cell? ⟨h, 0, none⟩ = some (.int .i64 k2) := hB2.cell 0
      have HM2 : Hid (BO w g b (rul2 r) (gen k2 Y a2 d2 n2 c2 m2 e2) W2) := hM2
      clear hM2 hB2
      cases R with
      | true =>
        go_wp2
        go_ret
        exact ⟨rfl, hg ▸ HM2.out.2.2⟩
      | false =>
        go_wp2
        go_roundw
        case rel => exact ⟨1, rfl, .inr ⟨rfl, trivial⟩, HM2.out⟩
        case measure => simp [intOf]
    · go_wp2
      go_ret
      exact ⟨rfl, hg ▸ HI.out.2.2⟩
end Go.Proofs.YtljgbdmcdaoknaaDoor
/-
  Realm: the rule of hosts; the names that have a rule.
-/
namespace Go.Proofs.YtljgbdmcdaoknaaDoor
open Go.RowKit
attribute [local go_sem] Oper.semAt_some
theorem run_store_func {P : Program} {w : World} {a : Addr} {m : Mode} (f : Fn) (x y : Array Value) : (store a (.func f x y) m).run P w = stored P w a (.func f x y) m := run_store P w a _ m rfl
attribute [local go_sem] run_store_func
/-- A function with two results, the first in a block of its own. -/
theorem results_blk2 {P : Program} {fn : Func} {T : TypeId} {t u : Tmp} (h : fn.results = #[.cell t T, .tmp u]) {a : Array Value} {w : World} {b : Nat} {cs : List Value} {d : TypeDesc} {v : Value} (ha : a.getD t undef = .pointer (some ⟨b, 0, none⟩))
    (hb : Blk T w b cs) (hu : P.underlying T = some d) (hd : d.isRow = true) (hi : (P.info? T).map (·.size) = some cs.length) (hv : a.getD u undef = v) : (results fn a).run P w = .ok (.tuple #[.agg cs.toArray, v]) w := by
  have := run_loadVar_mid (P := P) w b 0 T cs d hb.whole hu hd hi
  have ha' : a[t]?.getD undef = .pointer (some ⟨b, 0, none⟩) := by simpa using ha
  have hv' : a[u]?.getD undef = v := by simpa using hv
  simp [results, h, ha', asAddr, this, hv']
set_option maxRecDepth 20000 in
set_option maxHeartbeats 4000000 in
theorem ruleOf2_any {w : World} : Calls Tryd.prog 23 #[.int .i64 2] w fun e w' => e = .returned (.tuple #[.agg #[.int .i64 2, .func (.func 29) #[] #[]], .bool true]) ∧ Below w.heap.size w w' := by
  go_enter Tryd.func23, Tryd.ntmps23
  go_upto_region 6 with (fail)
  obtain ⟨g, hg⟩ : ∃ g, w.heap.size = g := ⟨_, rfl⟩
  rw [hg]
  refine wp_gen (fun W => Blk 42 W g [.int .i64 0, .nilFunc] ∧ Below g w W) ⟨hg ▸ Blk.new 42 w [.int .i64 0, .nilFunc], hg ▸ al1 _⟩ ?_
  rintro W ⟨hB, hbl⟩
  have hB1 := hB.set 1 (.func (.func 29) #[] #[])
  have hB2 := hB1.set 0 (.int .i64 2)
  simp only [List.set_cons_succ, List.set_cons_zero] at hB1 hB2
  have HB2 : Hid (((W.setCell ⟨g, 1, none⟩ (.func (.func 29) #[] #[])).setCell ⟨g, 0, none⟩ (.int .i64 2)).rangeAt g 0 [.int .i64 2, .func (.func 29) #[] #[]]) := hB2.whole
  have HBf : Hid (Blk 42 ((W.setCell ⟨g, 1, none⟩ (.func (.func 29) #[] #[])).setCell ⟨g, 0, none⟩ (.int .i64 2)) g [.int .i64 2, .func (.func 29) #[] #[]]) := hB2
  have HBl : Hid (Below g w ((W.setCell ⟨g, 1, none⟩ (.func (.func 29) #[] #[])).setCell ⟨g, 0, none⟩ (.int .i64 2))) := by
    have h1 := (Upd.set W g 1 (.func (.func 29) #[] #[])).below hbl (by have := hB.lt; omega) (Nat.le_refl _)
    exact (Upd.set _ g 0 (.int .i64 2)).below h1 (by have := hB1.lt; omega) (Nat.le_refl _)
  have p1 : W.cell? ⟨g, 1, none⟩ = some .nilFunc := hB.cell 1
  have p2 : W.frozen? ⟨g, 1, none⟩ = false := hB.frozen 1
  have p3 : (W.setCell ⟨g, 1, none⟩ (.func (.func 29) #[] #[])).cell? ⟨g, 0, none⟩ = some (.int .i64 0) := hB1.cell 0
  have p4 : (W.setCell ⟨g, 1, none⟩ (.func (.func 29) #[] #[])).frozen? ⟨g, 0, none⟩ = false := hB1.frozen 0
  clear hB hbl hB1 hB2
  go_wp2_with (first
    | (refine wpList_load_mid rfl 42 (.tmp 2) rfl g 0 rfl [.int .i64 2, .func (.func 29) #[] #[]] _ HB2.out Tryd.underlying42 rfl Tryd.sizeU ?_)
    | (refine wpList_store_mid rfl 42 (.tmp 2) (.tmp 20) rfl g 0 #[.int .i64 2, .func (.func 29) #[] #[]] rfl rfl (HBf.out.there 0 _ (by simp)) (by simpa using Tryd.sizeU) (by rfl) ?_))
  refine bodyPost_ret (v := .tuple #[.agg #[.int .i64 2, .func (.func 29) #[] #[]], .bool true]) (results_blk2 (T := 42) (cs := [.int .i64 2, .func (.func 29) #[] #[]]) rfl rfl (HBf.out.fill [.int .i64 2, .func (.func 29) #[] #[]] rfl) Tryd.underlying42 rfl Tryd.sizeU rfl) rfl ⟨rfl, ?_⟩
  rw [hg]
  exact (Upd.setCells [.int .i64 2, .func (.func 29) #[] #[]] 0 _).below HBl.out (by have := HBf.out.lt; omega) (Nat.le_refl _)
set_option maxRecDepth 20000 in
set_option maxHeartbeats 4000000 in
theorem ruled1_any (l b1 b : Nat) (X : List Int) (a1 d1 : Option Addr) (n1 c1 m1 e1 : Nat) (n : Nat)
    (J : Nat → World → Prop) (Jx : World → Prop)
    (hT : ∀ i W, J i W → W.cell? ⟨b1, 0, none⟩ = some (.slice (some ⟨b, 0, none⟩) 1 1) ∧ Blk 28 W b (gen 2 X a1 d1 n1 c1 m1 e1))
    (hb : ∀ i W W', J i W → Below W.heap.size W W' → J i W')
    (W0 : World) (h0 : J 0 W0)
    (hY : ∀ W, J 0 W → W0.heap.size ≤ W.heap.size → YieldAt Fence.wide n Tryd.prog l #[.agg #[.int .i64 2, .string (strOfNums X), .slice a1 n1 c1, .slice d1 m1 e1], .agg #[.int .i64 2, .func (.func 29) #[] #[]]] W fun e W' =>
      (e = .returned (.bool true) ∧ J 1 W' ∧ Kept W0.heap.size W W') ∨ (e = .returned (.bool false) ∧ Jx W')) :
    Calls Tryd.prog 22 #[.func (.yield l) #[] #[], .pointer (some ⟨b1, 0, none⟩)] W0 fun e W' => (∃ v, e = .returned v) ∧ (J 1 W' ∨ Jx W') := by
  have HX : Hid ((∀ i W, J i W → W.cell? ⟨b1, 0, none⟩ = some (.slice (some ⟨b, 0, none⟩) 1 1) ∧ Blk 28 W b (gen 2 X a1 d1 n1 c1 m1 e1)) ∧ (∀ i W W', J i W → Below W.heap.size W W' → J i W')) := ⟨hT, hb⟩
  have HY : Hid (∀ W, J 0 W → W0.heap.size ≤ W.heap.size → YieldAt Fence.wide n Tryd.prog l #[.agg #[.int .i64 2, .string (strOfNums X), .slice a1 n1 c1, .slice d1 m1 e1], .agg #[.int .i64 2, .func (.func 29) #[] #[]]] W fun e W' =>
      (e = .returned (.bool true) ∧ J 1 W' ∧ Kept W0.heap.size W W') ∨ (e = .returned (.bool false) ∧ Jx W')) := hY
  have hc1 := (hT 0 W0 h0).1
  have HJ0 : Hid (J 0 W0) := h0
  clear hT hb h0 hY
  go_enter Tryd.func22, Tryd.ntmps22
  go_wp2_with fail
  go_loopw [4, 5, 6, 9] (fun _ _ _ iv wr => ∃ i : Nat, iv = .int .i64 (i : Int) ∧ i ≤ 1 ∧ Hid (J i wr ∧ W0.heap.size ≤ wr.heap.size)) (fun _ _ _ iv _ => 1 - (intOf iv).toNat)
  case atStart => exact ⟨0, rfl, Nat.zero_le _, HJ0.out, Nat.le_refl _⟩
  case round =>
    obtain ⟨i, rfl, hi, HI⟩ := hrel
    obtain rfl | rfl : i = 0 ∨ i = 1 := by omega
    · have HG : Hid (wr.rangeAt b 0 [.int .i64 2, .string (strOfNums X), .slice a1 n1 c1, .slice d1 m1 e1]) := (HX.out.1 0 wr HI.out.1).2.whole
      go_upto_region 3 with (first
        | (refine wpList_load_mid rfl 28 (.tmp 11) rfl b 0 rfl [.int .i64 2, .string (strOfNums X), .slice a1 n1 c1, .slice d1 m1 e1] _ HG.out Tryd.underlying28 rfl Tryd.sizeG ?_)
        | (refine wpList_store_mid rfl 28 (.tmp 4) (.tmp 12) rfl wr.heap.size 0 #[.int .i64 2, .string (strOfNums X), .slice a1 n1 c1, .slice d1 m1 e1] rfl rfl ((Blk.new 28 wr _).there 0 _ (by simp)) (by simpa using Tryd.sizeG) (by rfl) ?_))
      obtain ⟨h, hh⟩ : ∃ h, wr.heap.size = h := ⟨_, rfl⟩
      rw [hh]
      refine wp_gen (fun W => Blk 28 W h [.int .i64 2, .string (strOfNums X), .slice a1 n1 c1, .slice d1 m1 e1] ∧ Below wr.heap.size wr W) ⟨hh ▸ Blk.new 28 wr [.int .i64 2, .string (strOfNums X), .slice a1 n1 c1, .slice d1 m1 e1], al1 _⟩ ?_
      rintro W2 ⟨hB2, hb2⟩
      have p0 : W2.cell? ⟨h, 0, none⟩ = some (.int .i64 2) := hB2.cell 0
      have H2 : Hid (Blk 28 W2 h [.int .i64 2, .string (strOfNums X), .slice a1 n1 c1, .slice d1 m1 e1] ∧ Below wr.heap.size wr W2) := ⟨hB2, hb2⟩
      clear hB2 hb2
      go_upto_region 4 with (go_at_call 23; refine ruleOf2_any.mono ?_; rintro e W3 ⟨rfl, hb3⟩)
      obtain ⟨k, hk⟩ : ∃ k, W3.heap.size = k := ⟨_, rfl⟩
      rw [hk]
      refine wp_gen (fun W => Blk 28 W h [.int .i64 2, .string (strOfNums X), .slice a1 n1 c1, .slice d1 m1 e1] ∧ Blk 42 W k [.int .i64 2, .func (.func 29) #[] #[]] ∧ Below wr.heap.size wr W) ⟨(below_blk hb3 H2.out.1.lt H2.out.1).alloc _, hk ▸ Blk.new 42 W3 [.int .i64 2, .func (.func 29) #[] #[]], (H2.out.2.trans (hb3.mono H2.out.2.size)).alloc (H2.out.2.trans (hb3.mono H2.out.2.size)).size _⟩ ?_
      rintro W4 ⟨hB4, hU4, hb4⟩
      have q0 : W4.cell? ⟨h, 0, none⟩ = some (.int .i64 2) := hB4.cell 0
      have q1 : W4.cell? ⟨h, 1, none⟩ = some (.string (strOfNums X)) := hB4.cell 1
      have q2 : W4.cell? ⟨h, 2, none⟩ = some (.slice a1 n1 c1) := hB4.cell 2
      have q3 : W4.cell? ⟨h, 3, none⟩ = some (.slice d1 m1 e1) := hB4.cell 3
      have r0 : W4.cell? ⟨k, 0, none⟩ = some (.int .i64 2) := hU4.cell 0
      have r1 : W4.cell? ⟨k, 1, none⟩ = some (.func (.func 29) #[] #[]) := hU4.cell 1
      have hJ4 := HX.out.2 0 wr W4 HI.out.1 hb4
      have hs4 : W0.heap.size ≤ W4.heap.size := Nat.le_trans HI.out.2 hb4.size
      obtain ⟨fn, tmps, assign, body, hyr, hR⟩ := HY.out W4 hJ4 hs4
      clear hb3 hB4 hU4 hJ4 p0
      refine (wpIn_wide (n := n + 1)).1 ?_
      gi_wp2
      refine hR.mono ?_
      rintro e W5 (⟨rfl, hJ5, hk5⟩ | ⟨rfl, hx5⟩)
      · have HK5 : Hid (J 1 W5 ∧ W0.heap.size ≤ W5.heap.size) := ⟨hJ5, by have := hk5.1; omega⟩
        clear hJ5 hk5 hR hyr q0 q1 q2 q3 r0 r1
        gi_wp2
        go_wp2
        go_roundw
        case rel => exact ⟨1, rfl, by omega, HK5.out⟩
        case measure => simp [intOf]
      · clear hR hyr q0 q1 q2 q3 r0 r1
        gi_wp2
        go_wp2
        exact bodyPost_ret (v := .tuple #[]) (results_none rfl _ _ _) rfl ⟨⟨_, rfl⟩, .inr hx5⟩
    · go_wp2
      exact bodyPost_end (v := .tuple #[]) (results_none rfl _ _ _) rfl ⟨⟨_, rfl⟩, .inl HI.out.1⟩
end Go.Proofs.YtljgbdmcdaoknaaDoor
/-
  A range over a function whose rounds are counted, for any number of values; what the round lays down ahead of its body may be in memory too.
-/
namespace Go.Proofs.YtljgbdmcdaoknaaDoor
open Go.RowKit
theorem range_lay {P : Program} {g : Operand} {ps : Array Tmp} {assign body : Code} {Q : Exit → Act → World → Prop} {a : Act} {W : World} {n m N gf : Nat} {lb : Array Value}
    (hg : a.eval g = .func (.func gf) #[] lb) (eg : ∀ args w, (callFunc gf args).run P w = .ok (.enter gf args) w) 
    (I : Nat → World → Prop) (Ix : Code → World → Prop) (Y : Nat → Array Value → World → Prop) (hps : ∀ i v A, Y i v A → v.size = ps.size)
    (hI1 : ∀ i A B, I i A → Below A.heap.size A B → I i B) (hI2 : ∀ i A k o o', W.heap.size ≤ k → A.heap[k]? = some o → o.isCells = false → o.isWalk = false → I i A → I i (A.putObj k o'))
    (hX2 : ∀ c A k o o', W.heap.size ≤ k → A.heap[k]? = some o → o.isCells = false → o.isWalk = false → Ix c A → Ix c (A.putObj k o'))
    (iter : ∀ (l : Nat) (W1 : World) (J : Nat → World → Prop) (Jx : World → Prop), W1.heap.size = W.heap.size + 2 → Below W.heap.size W W1 → J 0 W1 → (∀ i A, J i A → I i A) → (∀ i A B, J i A → Below A.heap.size A B → J i B) →
      (∀ i v A, i < N → J i A → W1.heap.size ≤ A.heap.size → Y i v A → YieldAt Fence.wide n P l v A fun e B => (e = .returned (.bool true) ∧ J (i + 1) B ∧ Kept W1.heap.size A B) ∨ (e = .returned (.bool false) ∧ Jx B)) →
      Calls P gf (#[.func (.yield l) #[] #[]] ++ lb) W1 fun e B => (∃ v, e = .returned v) ∧ (J N B ∨ Jx B))
    (h0 : I 0 W)
    (Z : Nat → Act → World → Prop) (hZ2 : ∀ i b A k o o', W.heap.size ≤ k → A.heap[k]? = some o → o.isCells = false → o.isWalk = false → Z i b A → Z i b (A.putObj k o'))
    (hass : ∀ (l i : Nat) (v : Array Value) (A : World) (K : Act → World → Prop), i < N → I i A → W.heap.size + 2 ≤ A.heap.size → Y i v A → (∀ b B, Kept W.heap.size A B → Z i b B → K b B) → assign.wpIn (Fence.wide.inRound l) n P (Exit.then K (fun _ _ _ => False)) { tmps := (ps.zip v).foldl (fun t (p, v) => t.setIfInBounds p v) a.tmps, defers := [] } A)
    (hbody : ∀ (l i : Nat) (b : Act) (A : World), i < N → W.heap.size + 2 ≤ A.heap.size → Z i b A → body.wpIn (Fence.wide.inRound l) n P (postM W.heap.size i I Ix A) b A)
    (hdone : ∀ A : World, I N A → A.heap[W.heap.size]? = some (.deferred (some [])) → Q .normal { a with defers := { target := .collected W.heap.size, args := #[] } :: a.defers } A)
    (hstop : ∀ (c : Code) (A : World), Ix c A → A.heap[W.heap.size]? = some (.deferred (some [])) → c.wpIn Fence.wide m P Q { a with defers := { target := .collected W.heap.size, args := #[] } :: a.defers } A) :
    (Code.rangeFunc g ps assign body).wpIn Fence.wide m P Q a W := by
  refine wpIn_rangeFunc ?_
  intro fn _
  obtain ⟨rec, hrec⟩ : ∃ rec : LoopState → Option Code → Loop, rec = fun st pe => { state := st, pending := pe, fn, tmps := a.tmps, params := ps, assign, body, defers := W.heap.size } := ⟨_, rfl⟩
  obtain ⟨W1, hW1⟩ : ∃ W1, (W.alloc (.deferred (some []))).alloc (.loop (rec .ready none)) = W1 := ⟨_, rfl⟩
  have hB1 : Below W.heap.size W W1 := by rw [← hW1]; exact ((Below.refl _ _).alloc (Nat.le_refl _) _).alloc (by simp) _
  have hs1 : W1.heap.size = W.heap.size + 2 := by rw [← hW1]; simp
  have hL1 : W1.heap[W.heap.size + 1]? = some (.loop (rec .ready none)) := by
    rw [← hW1]; have := heap_alloc_new (W.alloc (.deferred (some []))) (.loop (rec .ready none)); simpa using this
  have hD1 : W1.heap[W.heap.size]? = some (.deferred (some [])) := by
    rw [← hW1]
    have e := ((Below.refl (W.heap.size + 1) (W.alloc (.deferred (some [])))).alloc (by simp) (.loop (rec .ready none))).block W.heap.size (by omega)
    rw [e]; exact heap_alloc_new W _
  refine ⟨W.heap.size + 1, [{ target := .collected W.heap.size, args := #[] }], W1, { target := .fn (.func gf) lb, args := #[.func (.yield (W.heap.size + 1)) #[] #[]] }, W1, gf,
    #[.func (.yield (W.heap.size + 1)) #[] #[]] ++ lb, W1, ?_, ?_, fun f' _ => trivial, ?_, fun h => (by cases h), callsIn_wide.2 ?_⟩
  · rw [← hW1, hrec]; exact run_enterLoop_outer _ _ _ _ _
  · simp only [resolve, hg]
    simp [go_sem]
  · simp [invoke, go_sem, eg]
  refine (iter (W.heap.size + 1) W1
    (fun i A => I i A ∧ A.heap[W.heap.size + 1]? = some (.loop (rec .ready none)) ∧ A.heap[W.heap.size]? = some (.deferred (some [])))
    (fun B => ∃ c, Ix c B ∧ B.heap[W.heap.size + 1]? = some (.loop (rec .done (some c))) ∧ B.heap[W.heap.size]? = some (.deferred (some [])))
    hs1 hB1 ⟨hI1 0 W W1 h0 hB1, hL1, hD1⟩ (fun i A h => h.1) (fun i A B h hb => ?_) ?_).mono ?_
  · exact ⟨hI1 i A B h.1 hb, (hb.block _ (Array.getElem?_eq_some_iff.1 h.2.1).1).trans h.2.1, (hb.block _ (Array.getElem?_eq_some_iff.1 h.2.2).1).trans h.2.2⟩
  · rintro i v A hiN ⟨hi, hl, hd⟩ hsz hy
    have hlt : W.heap.size + 1 < A.heap.size := (Array.getElem?_eq_some_iff.1 hl).1
    have hry := run_yield (P := P) (args := v) hl (by rw [hrec]; exact hps i v A hy)
    rw [hrec] at hry
    refine ⟨fn, _, assign, body, hry, roundIn_of_wpIn trivial (hass _ i v A _ hiN hi (by omega) hy fun a1 A1 hk1 hz1 => ?_)⟩
    have hl1 := (hk1.2 (W.heap.size + 1) (by omega) hlt).trans hl
    have hd1 := (hk1.2 W.heap.size (Nat.le_refl _) (by omega)).trans hd
    have hlt1 : W.heap.size + 1 < A1.heap.size := (Array.getElem?_eq_some_iff.1 hl1).1
    refine ⟨_, run_beginRound hl1 (by rw [hrec]), ?_⟩
    obtain ⟨A2, hA2⟩ : ∃ A2, A1.putObj (W.heap.size + 1) (.loop { rec .ready none with state := .busy }) = A2 := ⟨_, rfl⟩
    have hl2 : A2.heap[W.heap.size + 1]? = some (.loop { rec .ready none with state := .busy }) := by rw [← hA2]; exact World.putObj_heap_same hlt1
    have hd2 : A2.heap[W.heap.size]? = some (.deferred (some [])) := by rw [← hA2]; exact (World.putObj_heap_other (by omega)).trans hd1
    have hz' : Z i a1 A2 := by rw [← hA2]; exact hZ2 i a1 A1 _ _ _ (by omega) hl1 rfl rfl hz1
    have hs2 : A2.heap.size = A1.heap.size := by rw [← hA2]; simp [World.putObj]
    have hs1A := hk1.1
    have hk2 : Kept W1.heap.size A A2 := ⟨by omega, fun k hk hlt => by rw [← hA2]; exact (World.putObj_heap_other (by omega)).trans (hk1.2 k (by omega) hlt)⟩
    rw [hA2]
    refine wpIn_mono (hbody _ i a1 A2 hiN (by omega) hz') ?_
    have fin : ∀ (jump : Option Code) (A3 : World), Kept W.heap.size A2 A3 →
        (Instr.endRound (W.heap.size + 1) jump).run P A3 = .ok (.bool jump.isNone) (A3.putObj (W.heap.size + 1) (.loop (rec (if jump.isNone then .ready else .done) jump))) ∧
        A3.heap[W.heap.size + 1]? = some (.loop { rec .ready none with state := .busy }) ∧
        (A3.putObj (W.heap.size + 1) (.loop (rec (if jump.isNone then .ready else .done) jump))).heap[W.heap.size + 1]? = some (.loop (rec (if jump.isNone then .ready else .done) jump)) ∧
        (A3.putObj (W.heap.size + 1) (.loop (rec (if jump.isNone then .ready else .done) jump))).heap[W.heap.size]? = some (.deferred (some [])) ∧
        Kept W1.heap.size A (A3.putObj (W.heap.size + 1) (.loop (rec (if jump.isNone then .ready else .done) jump))) := fun jump A3 hk3 => by
      have hl3 := (hk3.2 (W.heap.size + 1) (by omega) (by omega)).trans hl2
      have hd3 := (hk3.2 W.heap.size (Nat.le_refl _) (by omega)).trans hd2
      have hlt3 : W.heap.size + 1 < A3.heap.size := (Array.getElem?_eq_some_iff.1 hl3).1
      have := run_endRound (P := P) jump hl3
      rw [hrec] at this ⊢
      refine ⟨this, by rw [hrec] at hl3; exact hl3, World.putObj_heap_same hlt3, (World.putObj_heap_other (by omega)).trans hd3, ?_, fun k hk hlt => ?_⟩
      · have := hk3.1; simp [World.putObj]; omega
      · have h1 : k ≠ W.heap.size + 1 := by omega
        rw [World.putObj_heap_other h1, hk3.2 k (by omega) (by omega)]
        exact hk2.2 k hk hlt
    rintro e a3 A3 hp
    cases e with
    | normal =>
      obtain ⟨hk3, hi3⟩ := hp
      obtain ⟨hr, hl3, hl4, hd4, hk4⟩ := fin none A3 hk3
      exact ⟨_, _, hr, .inl ⟨rfl, ⟨hI2 _ _ _ _ _ (by omega) hl3 rfl rfl hi3, hl4, hd4⟩, hk4⟩⟩
    | exit id =>
      obtain ⟨hk3, hi3⟩ := hp
      obtain ⟨hr, hl3, hl4, hd4, _⟩ := fin (some (.exit id)) A3 hk3
      exact ⟨_, _, hr, .inr ⟨rfl, .exit id, hX2 _ _ _ _ _ (by omega) hl3 rfl rfl hi3, hl4, hd4⟩⟩
    | ret =>
      obtain ⟨hk3, hi3⟩ := hp
      obtain ⟨hr, hl3, hl4, hd4, _⟩ := fin (some .ret) A3 hk3
      exact ⟨_, _, hr, .inr ⟨rfl, .ret, hX2 _ _ _ _ _ (by omega) hl3 rfl rfl hi3, hl4, hd4⟩⟩
    | goto t => exact hp.elim
    | panic ch => exact hp.elim
    | outgrown => exact hp.elim
  · rintro e B ⟨⟨v, rfl⟩, ⟨hi, hl, hd⟩ | ⟨c, hi, hl, hd⟩⟩
    · exact ⟨none, _, by have := run_endLoop (P := P) hl (by rw [hrec]; simp); rw [hrec] at this; exact this, hdone _ (hI2 _ _ _ _ _ (by omega) hl rfl rfl hi) ((World.putObj_heap_other (by omega)).trans hd)⟩
    · refine ⟨some c, _, by have := run_endLoop (P := P) hl (by rw [hrec]; simp); rw [hrec] at this; exact this, hstop c _ (hX2 _ _ _ _ _ (by omega) hl rfl rfl hi) ((World.putObj_heap_other (by omega)).trans hd)⟩
end Go.Proofs.YtljgbdmcdaoknaaDoor
