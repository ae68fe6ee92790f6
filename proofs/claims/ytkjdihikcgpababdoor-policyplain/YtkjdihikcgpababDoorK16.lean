/-
  Policy: the law's huge; Run at one certificate.
-/
import Derived.OpenShut
import Derived.Test.YtkjdihikcgpababDoorK15
namespace Go.Proofs.YtkjdihikcgpababDoor
open Go.RowKit Go.Sort Go.Lib
def ceOf (z : Bt) : Ce := ⟨z.P, z.r, z.i, z.own⟩
/-- One certificate, in a row. -/
def CA (w : World) (v : Value) (z : Bt) : Prop := ∃ Y, CertS w v Y ∧ RelC w [z] Y ∧ TxS w z.v z.P
theorem CA.below {w w' : World} {v : Value} {z : Bt} (h : CA w v z) (hb : Below w.heap.size w w') : CA w' v z := by
  obtain ⟨Y, h1, h2, h3⟩ := h
  exact ⟨Y, h1.below hb, h2.below hb, h3.below hb⟩
theorem one_of {w : World} {z : Bt} {y : Ct} (h : CRel w z y) (hz : TxS w z.v z.P) : (certL y).toArray.all (·.oneCell') = true := by
  obtain ⟨⟨n1, n2, n3, h1, _⟩, h2, h3, _⟩ := h
  obtain ⟨a, n, c, h4⟩ := hz.slice
  obtain ⟨nv, sub, cp, r, hh⟩ := y
  simp only [] at h1 h2 h3
  subst h1
  rw [h4] at h3
  subst h3
  subst h2
  rw [List.all_toArray]
  cases z.own <;> rfl
theorem wf_in {n : Int} (h : (Lit.int .i64 n).wf = true) : -9223372036854775808 ≤ n ∧ n ≤ 9223372036854775807 := bounds_i64 h
theorem Run_one {w : World} (v u : Value) (z : Bt) (U : List Tx) (ex inh : Bool) (hv : CA w v z) (hu : TxS w u U) (hP : z.P.length ≤ 200) (hr : (Lit.int .i64 z.r).wf = true) (hi : (Lit.int .i64 z.i).wf = true) (hU : U.length ≤ 200000) :
    Calls Tryd.prog 5 #[v, u, .bool ex, .bool inh] w fun e w' => EndOut w' e (runP [ceOf z] U ex inh) ∧ Below w.heap.size w w' := by
  obtain ⟨Y, h1, h2, h3⟩ := hv
  have hat : ∀ (i : Nat) (y : Ct), Y[i]? = some y → i = 0 ∧ CRel w z y := fun i y hy => by
    have hl := (List.getElem?_eq_some_iff.1 hy).1
    rw [h2.1] at hl
    obtain rfl : i = 0 := by simp at hl; exact hl
    exact ⟨rfl, h2.2 0 z y rfl hy⟩
  refine Run_any v u Y [ceOf z] U ex inh h1 hu h2.1 (by simp) hU ?_ (fun c hc => ?_) (fun i y c hy hc => ?_) (fun i y hy => one_of (hat i y hy).2 h3)
  · intro i y c hy hc W p uv hb hT hK
    obtain ⟨rfl, hy1⟩ := hat i y hy
    simp at hc
    subst hc
    have := Step_last (w := W) uv p.e p.a y.nv y.sub y.cp y.r y.h p.S z.P z.own hT (by rw [hy1.2.2.1]; exact h3.below hb) (by have := hK.1; omega) (by omega)
    rw [hy1.2.2.2.1, hy1.2.2.2.2] at this
    show Calls _ _ #[_, .agg (certL y).toArray, .bool true] _ _
    have e : (certL y).toArray = (certL ⟨y.nv, y.sub, y.cp, z.r, z.i⟩).toArray := by unfold certL; rw [hy1.2.2.2.1, hy1.2.2.2.2]
    rw [e]
    exact this
  · simp at hc
    subst hc
    exact ⟨show z.P.length ≤ 400 by omega, wf_in hr, wf_in hi⟩
  · obtain ⟨rfl, hy1⟩ := hat i y hy
    simp at hc
    subst hc
    exact hy1.2.2.2.1.symm
theorem chain_one {w : World} (b : Nat) (z : Bt) (hA : Blk 26 w b (bitC z)) (hz : TxS w z.v z.P) (hr : (Lit.int .i64 z.r).wf = true) (hi : (Lit.int .i64 z.i).wf = true) :
    Calls Tryd.prog 6 #[.slice (some ⟨b, 0, none⟩) 1 1] w fun e w' => ∃ r, e = .returned r ∧ CA w' r z ∧ Below w.heap.size w w' := by
  have hB : BitS w (.slice (some ⟨b, 0, none⟩) 1 1) [z] := by
    refine ⟨⟨_, 1, rfl, Nat.le_refl _, .inr ⟨b, 0, rfl, hA.lt, fun i z' hz' j u hj => ?_⟩⟩, fun z' hz' => by simp at hz'; subst hz'; exact ⟨hz, hr, hi⟩⟩
    have hl := (List.getElem?_eq_some_iff.1 hz').1
    obtain rfl : i = 0 := by simp at hl; exact hl
    simp at hz'
    subst hz'
    rw [show 0 + 0 * 4 + j = j by omega, hA.cell, hj]
  refine (chain_any _ [z] hB (by simp)).mono ?_
  rintro e w' ⟨r, Y, rfl, h1, h2, h3⟩
  exact ⟨r, rfl, ⟨Y, h1, h2, hz.below h3⟩, h3⟩
def hugeB (Z : List Bt) (U : List Tx) : Bool := decide (30 < Z.length) || decide (200 < U.length) || Z.any fun z => decide (200 < z.P.length)
end Go.Proofs.YtkjdihikcgpababDoor
/-
  Policy: the page's examples.
-/
namespace Go.Proofs.YtkjdihikcgpababDoor
open Go.RowKit Go.Sort Go.Lib
def t123 : Tx := [49, 46, 50, 46, 51]
def t124 : Tx := [49, 46, 50, 46, 52]
def t125 : Tx := [49, 46, 50, 46, 53]
theorem wfm1 : (Lit.int .i64 (-1)).wf = true := by decide
theorem eg1 : runP [⟨[t123, t124], -1, -1, false⟩] [t124, t125] true false = ([t124], true) := by
  simp only [runP, stepsP, stepP, endP, held_eq, grant_eq]
  decide +kernel
theorem eg2 : runP [⟨[], -1, -1, false⟩] [] true false = ([], false) := by
  simp only [runP, stepsP, stepP, endP, held_eq, grant_eq]
  decide +kernel
theorem eg3 : runP [⟨[], -1, -1, false⟩] [] false false = ([], true) := by
  simp only [runP, stepsP, stepP, endP, held_eq, grant_eq]
  decide +kernel
theorem tx2 {W : World} {b : Nat} {s t : Tx} (hA : Blk 9 W b [encStr s, encStr t]) (h1 : s.length ≤ maxLen) (h2 : t.length ≤ maxLen) : TxS W (.slice (some ⟨b, 0, none⟩) 2 2) [s, t] :=
  TxS.ofBlk hA 2 2 rfl (Nat.le_refl _) rfl (by intro x hx; simp at hx; rcases hx with rfl | rfl; exact h1; exact h2)
theorem tx1 {W : World} {b : Nat} {s : Tx} (hA : Blk 9 W b [encStr s]) (h1 : s.length ≤ maxLen) : TxS W (.slice (some ⟨b, 0, none⟩) 1 1) [s] :=
  TxS.ofBlk hA 1 1 rfl (Nat.le_refl _) rfl (by intro x hx; simp at hx; rw [hx]; exact h1)
def z1 (b : Nat) : Bt := ⟨[t123, t124], -1, -1, false, .slice (some ⟨b, 0, none⟩) 2 2⟩
def z2 : Bt := ⟨[], -1, -1, false, .slice none 0 0⟩
set_option maxRecDepth 20000 in
set_option maxHeartbeats 4000000 in
theorem live_any {w : World} : Calls Tryd.prog 4 #[] w fun e w' => e = .returned (.bool true) ∧ Below w.heap.size w w' := by
  have hm : ∀ s : Tx, s.length = 5 → s.length ≤ maxLen := fun s h => by rw [h]; unfold maxLen; decide
  have HC1 : Hid (Calls Tryd.prog 6 #[.slice (some ⟨w.heap.size + 1, 0, none⟩) 1 1] ((w.alloc (.cells #[encStr t123, encStr t124] 9)).alloc (.cells #[.slice (some ⟨w.heap.size, 0, none⟩) 2 2, .int .i64 (-1), .int .i64 (-1), .bool false] 26)) fun e w' => ∃ r, e = .returned r ∧ CA w' r (z1 w.heap.size) ∧ Below w.heap.size w w') := by
    have h1 := (Blk.new 9 w [encStr t123, encStr t124]).alloc (.cells #[.slice (some ⟨w.heap.size, 0, none⟩) 2 2, .int .i64 (-1), .int .i64 (-1), .bool false] 26)
    have h2 := Blk.new 26 (w.alloc (.cells #[encStr t123, encStr t124] 9)) (bitC (z1 w.heap.size))
    rw [show (w.alloc (.cells #[encStr t123, encStr t124] 9)).heap.size = w.heap.size + 1 by simp] at h2
    have hb := ((Below.refl w.heap.size w).alloc (Nat.le_refl _) (.cells #[encStr t123, encStr t124] 9)).alloc ((Below.refl _ _).alloc (Nat.le_refl _) _).size (.cells #[.slice (some ⟨w.heap.size, 0, none⟩) 2 2, .int .i64 (-1), .int .i64 (-1), .bool false] 26)
    refine (chain_one (w.heap.size + 1) (z1 w.heap.size) h2 (tx2 h1 (hm _ rfl) (hm _ rfl)) wfm1 wfm1).mono ?_
    rintro e w' ⟨r, rfl, h3, h4⟩
    exact ⟨r, rfl, h3, hb.trans (h4.mono hb.size)⟩
  have HC2 : Hid (∀ w1 : World, Calls Tryd.prog 6 #[.slice (some ⟨w1.heap.size, 0, none⟩) 1 1] (w1.alloc (.cells #[.slice none 0 0, .int .i64 (-1), .int .i64 (-1), .bool false] 26)) fun e w' => ∃ r, e = .returned r ∧ CA w' r z2 ∧ Below w1.heap.size w1 w') := fun w1 => by
    have h2 := Blk.new 26 w1 (bitC z2)
    have hb := (Below.refl w1.heap.size w1).alloc (Nat.le_refl _) (.cells #[.slice none 0 0, .int .i64 (-1), .int .i64 (-1), .bool false] 26)
    refine (chain_one w1.heap.size z2 h2 (TxS.nil _) (by decide) (by decide)).mono ?_
    rintro e w' ⟨r, rfl, h3, h4⟩
    exact ⟨r, rfl, h3, hb.trans (h4.mono hb.size)⟩
  have HR1 : Hid (∀ (w1 : World) (v : Value), CA w1 v (z1 w.heap.size) → Calls Tryd.prog 5 #[v, .slice (some ⟨w1.heap.size, 0, none⟩) 2 2, .bool true, .bool false] (w1.alloc (.cells #[encStr t124, encStr t125] 9)) fun e w' => ∃ r, e = .returned (.tuple #[r, .bool true]) ∧ TxS w' r [t124] ∧ Below w1.heap.size w1 w') := fun w1 v h => by
    have hb := (Below.refl w1.heap.size w1).alloc (Nat.le_refl _) (.cells #[encStr t124, encStr t125] 9)
    have hU := tx2 (Blk.new 9 w1 [encStr t124, encStr t125]) (hm _ rfl) (hm _ rfl)
    refine (Run_one v _ (z1 w.heap.size) [t124, t125] true false (h.below hb) hU (show (2 : Nat) ≤ 200 by decide) wfm1 wfm1 (by decide)).mono ?_
    rintro e w' ⟨h1, h2⟩
    rw [show runP [ceOf (z1 w.heap.size)] [t124, t125] true false = ([t124], true) from eg1] at h1
    obtain ⟨r, rfl, h3⟩ := h1
    exact ⟨r, rfl, h3, hb.trans (h2.mono hb.size)⟩
  have HR2 : Hid (∀ (w1 : World) (v : Value), CA w1 v z2 → Calls Tryd.prog 5 #[v, .slice none 0 0, .bool true, .bool false] w1 fun e w' => ∃ r, e = .returned (.tuple #[r, .bool false]) ∧ Below w1.heap.size w1 w') := fun w1 v h => by
    refine (Run_one v _ z2 [] true false h (TxS.nil _) (by decide) (by decide) (by decide) (by decide)).mono ?_
    rintro e w' ⟨h1, h2⟩
    rw [show runP [ceOf z2] [] true false = ([], false) from eg2] at h1
    obtain ⟨r, rfl, h3⟩ := h1
    exact ⟨r, rfl, h2⟩
  have HR3 : Hid (∀ (w1 : World) (v : Value), CA w1 v z2 → Calls Tryd.prog 5 #[v, .slice none 0 0, .bool false, .bool false] w1 fun e w' => ∃ a c, e = .returned (.tuple #[.slice a 0 c, .bool true]) ∧ Below w1.heap.size w1 w') := fun w1 v h => by
    refine (Run_one v _ z2 [] false false h (TxS.nil _) (by decide) (by decide) (by decide) (by decide)).mono ?_
    rintro e w' ⟨h1, h2⟩
    rw [show runP [ceOf z2] [] false false = ([], true) from eg3] at h1
    obtain ⟨r, rfl, h3⟩ := h1
    obtain ⟨a, c, rfl, _⟩ := h3.form
    exact ⟨a, c, rfl, h2⟩
  have HT : Hid (∀ (w1 : World) (r : Value), TxS w1 r [t124] → Calls Tryd.prog 9 #[r, .slice (some ⟨w1.heap.size, 0, none⟩) 1 1] (w1.alloc (.cells #[encStr t124] 9)) fun e w' => e = .returned (.bool true) ∧ Below w1.heap.size w1 w') := fun w1 r h => by
    have hb := (Below.refl w1.heap.size w1).alloc (Nat.le_refl _) (.cells #[encStr t124] 9)
    have hU := tx1 (Blk.new 9 w1 [encStr t124]) (hm _ rfl)
    refine (Texts_any r _ [t124] [t124] (h.below hb) hU (by decide) (by decide)).mono ?_
    rintro e w' ⟨rfl, h2⟩
    exact ⟨rfl, hb.trans (h2.mono hb.size)⟩
  clear hm
  go_enter Tryd.func4, Tryd.ntmps4
  go_upto_region 2 with (first
    | (go_at_call 6; refine HC1.out.mono ?_; rintro e w1 ⟨r1, rfl, hc1, hb1⟩)
    | go_in)
  have H1 : Hid (CA w1 r1 (z1 w.heap.size) ∧ Below w.heap.size w w1) := ⟨hc1, hb1⟩
  clear hc1 hb1
  go_upto_region 3 with (first
    | (go_at_call 6; refine (HC2.out w1).mono ?_; rintro e w2 ⟨r2, rfl, hc2, hb2⟩)
    | go_in)
  have H2 : Hid (CA w2 r1 (z1 w.heap.size) ∧ CA w2 r2 z2 ∧ Below w.heap.size w w2) := ⟨H1.out.1.below hb2, hc2, below_via H1.out.2 hb2 (Nat.le_refl _)⟩
  clear hc2 hb2 H1
  go_upto_region 4 with (first
    | (go_at_call 5; refine (HR1.out w2 r1 H2.out.1).mono ?_; rintro e w3 ⟨r3, rfl, hr3, hb3⟩)
    | go_in)
  have H3 : Hid (CA w3 r2 z2 ∧ TxS w3 r3 [t124] ∧ Below w.heap.size w w3) := ⟨H2.out.2.1.below hb3, hr3, below_via H2.out.2.2 hb3 (Nat.le_refl _)⟩
  clear hr3 hb3 H2
  go_upto_region 5 with (first
    | (go_at_call 5; refine (HR2.out w3 r2 H3.out.1).mono ?_; rintro e w4 ⟨r4, rfl, hb4⟩)
    | go_in)
  have H4 : Hid (CA w4 r2 z2 ∧ TxS w4 r3 [t124] ∧ Below w.heap.size w w4) := ⟨H3.out.1.below hb4, H3.out.2.1.below hb4, below_via H3.out.2.2 hb4 (Nat.le_refl _)⟩
  clear hb4 H3
  go_upto_region 6 with (first
    | (go_at_call 5; refine (HR3.out w4 r2 H4.out.1).mono ?_; rintro e w5 ⟨a5, c5, rfl, hb5⟩)
    | go_in)
  have H5 : Hid (TxS w5 r3 [t124] ∧ Below w.heap.size w w5) := ⟨H4.out.2.1.below hb5, below_via H4.out.2.2 hb5 (Nat.le_refl _)⟩
  clear hb5 H4
  go_wp2_with (first
    | (go_at_call 9; refine (HT.out w5 r3 H5.out.1).mono ?_; rintro e w6 ⟨rfl, hb6⟩)
    | go_in)
  go_ret
  exact ⟨rfl, below_via H5.out.2 hb6 (Nat.le_refl _)⟩
end Go.Proofs.YtkjdihikcgpababDoor
/-
  Policy: the law PolicyStarts.
-/
namespace Go.Proofs.YtkjdihikcgpababDoor
open Go.RowKit Go.Sort Go.Lib
end Go.Proofs.YtkjdihikcgpababDoor
