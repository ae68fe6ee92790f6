/-
  Curve: which curve there is; its numbers told.
-/
import Derived.Test.YtillkhjihggcjaaGreatDoorK25
namespace Go.Proofs.YtillkhjihggcjaaGreatDoor
open Go.RowKit
set_option maxRecDepth 20000
/-- The curve of a number. -/
def crv (c : Int) : Option Cv := if c = 1 then some c256 else if c = 2 then some c384 else none
/-- A kind whose slices are told. -/
def KindS (w : World) (s : Nat) (a1 : Option Addr) (n1 c1 : Nat) (a2 : Option Addr) (n2 c2 : Nat) (a3 : Option Addr) (n3 c3 : Nat) (a4 : Option Addr) (n4 c4 : Nat) (a5 : Option Addr) (n5 c5 : Nat) (C : Cv) : Prop :=
  s = C.sz ∧ Nb w (.slice a1 n1 c1) C.p ∧ Nb w (.slice a2 n2 c2) C.n ∧ Nb w (.slice a3 n3 c3) C.b ∧ Nb w (.slice a4 n4 c4) C.gx ∧ Nb w (.slice a5 n5 c5) C.gy
theorem KindV.open {w : World} {cs : List Value} {C : Cv} (h : KindV w cs C) : ∃ s a1 n1 c1 a2 n2 c2 a3 n3 c3 a4 n4 c4 a5 n5 c5, cs = [.int .i64 (s : Nat), .slice a1 n1 c1, .slice a2 n2 c2, .slice a3 n3 c3, .slice a4 n4 c4, .slice a5 n5 c5] ∧ KindS w s a1 n1 c1 a2 n2 c2 a3 n3 c3 a4 n4 c4 a5 n5 c5 C := by
  obtain ⟨v1, v2, v3, v4, v5, rfl, h1, h2, h3, h4, h5⟩ := h
  obtain ⟨a1, c1, rfl⟩ := h1.form
  obtain ⟨a2, c2, rfl⟩ := h2.form
  obtain ⟨a3, c3, rfl⟩ := h3.form
  obtain ⟨a4, c4, rfl⟩ := h4.form
  obtain ⟨a5, c5, rfl⟩ := h5.form
  exact ⟨_, _, _, _, _, _, _, _, _, _, _, _, _, _, _, _, rfl, rfl, h1, h2, h3, h4, h5⟩
theorem KindS.v {w : World} {s : Nat} {a1 : Option Addr} {n1 c1 : Nat} {a2 : Option Addr} {n2 c2 : Nat} {a3 : Option Addr} {n3 c3 : Nat} {a4 : Option Addr} {n4 c4 : Nat} {a5 : Option Addr} {n5 c5 : Nat} {C : Cv} (h : KindS w s a1 n1 c1 a2 n2 c2 a3 n3 c3 a4 n4 c4 a5 n5 c5 C) :
    KindV w [.int .i64 s, .slice a1 n1 c1, .slice a2 n2 c2, .slice a3 n3 c3, .slice a4 n4 c4, .slice a5 n5 c5] C := by
  obtain ⟨rfl, h1, h2, h3, h4, h5⟩ := h
  exact ⟨_, _, _, _, _, rfl, h1, h2, h3, h4, h5⟩
theorem KindS.below {w w' : World} {s : Nat} {a1 : Option Addr} {n1 c1 : Nat} {a2 : Option Addr} {n2 c2 : Nat} {a3 : Option Addr} {n3 c3 : Nat} {a4 : Option Addr} {n4 c4 : Nat} {a5 : Option Addr} {n5 c5 : Nat} {C : Cv} (h : KindS w s a1 n1 c1 a2 n2 c2 a3 n3 c3 a4 n4 c4 a5 n5 c5 C) (hb : Below w.heap.size w w') :
    KindS w' s a1 n1 c1 a2 n2 c2 a3 n3 c3 a4 n4 c4 a5 n5 c5 C := ⟨h.1, h.2.1.below hb, h.2.2.1.below hb, h.2.2.2.1.below hb, h.2.2.2.2.1.below hb, h.2.2.2.2.2.below hb⟩
theorem kz_nn : ∀ c ∈ kz, ∀ n, c ≠ .int .u32 n := by intro c hc; unfold kz at hc; simp at hc; rcases hc with h | h <;> (subst h; intro n h; cases h)
theorem KindS.upd {w w' : World} {b : Nat} {s : Nat} {a1 : Option Addr} {n1 c1 : Nat} {a2 : Option Addr} {n2 c2 : Nat} {a3 : Option Addr} {n3 c3 : Nat} {a4 : Option Addr} {n4 c4 : Nat} {a5 : Option Addr} {n5 c5 : Nat} {C : Cv} {T : TypeId} (h : KindS w s a1 n1 c1 a2 n2 c2 a3 n3 c3 a4 n4 c4 a5 n5 c5 C) (hB : Blk T w b kz) (hU : Upd w w' b) :
    KindS w' s a1 n1 c1 a2 n2 c2 a3 n3 c3 a4 n4 c4 a5 n5 c5 C := ⟨h.1, h.2.1.upd hB kz_nn hU, h.2.2.1.upd hB kz_nn hU, h.2.2.2.1.upd hB kz_nn hU, h.2.2.2.2.1.upd hB kz_nn hU, h.2.2.2.2.2.upd hB kz_nn hU⟩
set_option maxHeartbeats 2000000 in
theorem pick_no {w : World} (c : Int) (h : crv c = none) : Calls Tryz.prog 102 #[.int .i64 c] w fun e w' => e = .returned (.tuple #[.agg kz.toArray, .bool false]) ∧ Below w.heap.size w w' := by
  have h1 : c ≠ 1 := fun e => by rw [e] at h; exact absurd h (by decide)
  have h2 : c ≠ 2 := fun e => by rw [e] at h; exact absurd h (by decide)
  clear h
  go_enter Tryz.func102, Tryz.ntmps102
  go_upto_region 1 with (fail)
  refine wp_gen (fun W => Blk 186 W w.heap.size kz ∧ Below w.heap.size w W) ⟨Blk.new _ w _, al1 _⟩ ?_
  rintro W2 ⟨hA, hBw⟩
  have d0 : World.cell? W2 ⟨w.heap.size, 0, none⟩ = some (.int .i64 0) := hA.cell 0
  have d1 : World.cell? W2 ⟨w.heap.size, 1, none⟩ = some (.slice none 0 0) := hA.cell 1
  have d2 : World.cell? W2 ⟨w.heap.size, 2, none⟩ = some (.slice none 0 0) := hA.cell 2
  have d3 : World.cell? W2 ⟨w.heap.size, 3, none⟩ = some (.slice none 0 0) := hA.cell 3
  have d4 : World.cell? W2 ⟨w.heap.size, 4, none⟩ = some (.slice none 0 0) := hA.cell 4
  have d5 : World.cell? W2 ⟨w.heap.size, 5, none⟩ = some (.slice none 0 0) := hA.cell 5
  have g0 : World.frozen? W2 ⟨w.heap.size, 0, none⟩ = false := hA.frozen 0
  have g1 : World.frozen? W2 ⟨w.heap.size, 1, none⟩ = false := hA.frozen 1
  have g2 : World.frozen? W2 ⟨w.heap.size, 2, none⟩ = false := hA.frozen 2
  have g3 : World.frozen? W2 ⟨w.heap.size, 3, none⟩ = false := hA.frozen 3
  have g4 : World.frozen? W2 ⟨w.heap.size, 4, none⟩ = false := hA.frozen 4
  have g5 : World.frozen? W2 ⟨w.heap.size, 5, none⟩ = false := hA.frozen 5
  have H2 : Hid (Blk 186 W2 w.heap.size kz ∧ Below w.heap.size w W2) := ⟨hA, hBw⟩
  clear hA hBw
  by_cases hlt : c < 1
  · have e0 : decide (c < 1) = true := by simpa using hlt
    clear h1 h2 hlt
    go_wp2
    obtain ⟨hF, hU⟩ := Blk.put6 H2.out.1 (.int .i64 0) (.slice none 0 0) (.slice none 0 0) (.slice none 0 0) (.slice none 0 0) (.slice none 0 0)
    exact bodyPost_ret (results_blk2 rfl rfl hF Tryz.underlying186 rfl Tryz.sizeKd rfl) rfl ⟨rfl, hU.below H2.out.2 H2.out.2.size (Nat.le_refl _)⟩
  · have e0 : decide (c < 1) = false := by simpa using hlt
    have e1 : decide (2 < c) = true := by simp; omega
    clear h1 h2 hlt
    go_wp2
    obtain ⟨hF, hU⟩ := Blk.put6 H2.out.1 (.int .i64 0) (.slice none 0 0) (.slice none 0 0) (.slice none 0 0) (.slice none 0 0) (.slice none 0 0)
    exact bodyPost_ret (results_blk2 rfl rfl hF Tryz.underlying186 rfl Tryz.sizeKd rfl) rfl ⟨rfl, hU.below H2.out.2 H2.out.2.size (Nat.le_refl _)⟩
set_option maxHeartbeats 2000000 in
theorem pick_1 {w : World} : Calls Tryz.prog 102 #[.int .i64 1] w fun e w' => ∃ s a1 n1 c1 a2 n2 c2 a3 n3 c3 a4 n4 c4 a5 n5 c5, e = .returned (.tuple #[.agg [.int .i64 (s : Nat), .slice a1 n1 c1, .slice a2 n2 c2, .slice a3 n3 c3, .slice a4 n4 c4, .slice a5 n5 c5].toArray, .bool true]) ∧ KindS w' s a1 n1 c1 a2 n2 c2 a3 n3 c3 a4 n4 c4 a5 n5 c5 c256 ∧ Below w.heap.size w w' := by
  go_enter Tryz.func102, Tryz.ntmps102
  go_upto_region 1 with (fail)
  refine wp_gen (fun W => Blk 186 W w.heap.size kz ∧ Below w.heap.size w W) ⟨Blk.new _ w _, al1 _⟩ ?_
  rintro W2 ⟨hA, hBw⟩
  have H2 : Hid (Blk 186 W2 w.heap.size kz ∧ Below w.heap.size w W2) := ⟨hA, hBw⟩
  clear hA hBw
  go_wp2_with fail
  refine (p256_any (w := W2)).mono ?_
  rintro e w3 ⟨cs, rfl, hk, hb3⟩
  obtain ⟨s, a1, n1, c1, a2, n2, c2, a3, n3, c3, a4, n4, c4, a5, n5, c5, rfl, hks⟩ := hk.open
  have hA := below_blk hb3 H2.out.1.lt H2.out.1
  have d0 : World.cell? w3 ⟨w.heap.size, 0, none⟩ = some (.int .i64 0) := hA.cell 0
  have d1 : World.cell? w3 ⟨w.heap.size, 1, none⟩ = some (.slice none 0 0) := hA.cell 1
  have d2 : World.cell? w3 ⟨w.heap.size, 2, none⟩ = some (.slice none 0 0) := hA.cell 2
  have d3 : World.cell? w3 ⟨w.heap.size, 3, none⟩ = some (.slice none 0 0) := hA.cell 3
  have d4 : World.cell? w3 ⟨w.heap.size, 4, none⟩ = some (.slice none 0 0) := hA.cell 4
  have d5 : World.cell? w3 ⟨w.heap.size, 5, none⟩ = some (.slice none 0 0) := hA.cell 5
  have g0 : World.frozen? w3 ⟨w.heap.size, 0, none⟩ = false := hA.frozen 0
  have g1 : World.frozen? w3 ⟨w.heap.size, 1, none⟩ = false := hA.frozen 1
  have g2 : World.frozen? w3 ⟨w.heap.size, 2, none⟩ = false := hA.frozen 2
  have g3 : World.frozen? w3 ⟨w.heap.size, 3, none⟩ = false := hA.frozen 3
  have g4 : World.frozen? w3 ⟨w.heap.size, 4, none⟩ = false := hA.frozen 4
  have g5 : World.frozen? w3 ⟨w.heap.size, 5, none⟩ = false := hA.frozen 5
  have H3 : Hid (Blk 186 w3 w.heap.size kz ∧ Below w.heap.size w w3 ∧ KindS w3 s a1 n1 c1 a2 n2 c2 a3 n3 c3 a4 n4 c4 a5 n5 c5 c256) := ⟨hA, below_via H2.out.2 hb3 (Nat.le_refl _), hks⟩
  clear hA hb3 hk hks H2
  go_wp2
  obtain ⟨hF, hU⟩ := Blk.put6 H3.out.1 (.int .i64 s) (.slice a1 n1 c1) (.slice a2 n2 c2) (.slice a3 n3 c3) (.slice a4 n4 c4) (.slice a5 n5 c5)
  exact bodyPost_ret (results_blk2 rfl rfl hF Tryz.underlying186 rfl Tryz.sizeKd rfl) rfl ⟨s, a1, n1, c1, a2, n2, c2, a3, n3, c3, a4, n4, c4, a5, n5, c5, rfl, H3.out.2.2.upd H3.out.1 hU, hU.below H3.out.2.1 H3.out.2.1.size (Nat.le_refl _)⟩
set_option maxHeartbeats 2000000 in
theorem pick_2 {w : World} : Calls Tryz.prog 102 #[.int .i64 2] w fun e w' => ∃ s a1 n1 c1 a2 n2 c2 a3 n3 c3 a4 n4 c4 a5 n5 c5, e = .returned (.tuple #[.agg [.int .i64 (s : Nat), .slice a1 n1 c1, .slice a2 n2 c2, .slice a3 n3 c3, .slice a4 n4 c4, .slice a5 n5 c5].toArray, .bool true]) ∧ KindS w' s a1 n1 c1 a2 n2 c2 a3 n3 c3 a4 n4 c4 a5 n5 c5 c384 ∧ Below w.heap.size w w' := by
  go_enter Tryz.func102, Tryz.ntmps102
  go_upto_region 1 with (fail)
  refine wp_gen (fun W => Blk 186 W w.heap.size kz ∧ Below w.heap.size w W) ⟨Blk.new _ w _, al1 _⟩ ?_
  rintro W2 ⟨hA, hBw⟩
  have H2 : Hid (Blk 186 W2 w.heap.size kz ∧ Below w.heap.size w W2) := ⟨hA, hBw⟩
  clear hA hBw
  go_wp2_with fail
  refine (p384_any (w := W2)).mono ?_
  rintro e w3 ⟨cs, rfl, hk, hb3⟩
  obtain ⟨s, a1, n1, c1, a2, n2, c2, a3, n3, c3, a4, n4, c4, a5, n5, c5, rfl, hks⟩ := hk.open
  have hA := below_blk hb3 H2.out.1.lt H2.out.1
  have d0 : World.cell? w3 ⟨w.heap.size, 0, none⟩ = some (.int .i64 0) := hA.cell 0
  have d1 : World.cell? w3 ⟨w.heap.size, 1, none⟩ = some (.slice none 0 0) := hA.cell 1
  have d2 : World.cell? w3 ⟨w.heap.size, 2, none⟩ = some (.slice none 0 0) := hA.cell 2
  have d3 : World.cell? w3 ⟨w.heap.size, 3, none⟩ = some (.slice none 0 0) := hA.cell 3
  have d4 : World.cell? w3 ⟨w.heap.size, 4, none⟩ = some (.slice none 0 0) := hA.cell 4
  have d5 : World.cell? w3 ⟨w.heap.size, 5, none⟩ = some (.slice none 0 0) := hA.cell 5
  have g0 : World.frozen? w3 ⟨w.heap.size, 0, none⟩ = false := hA.frozen 0
  have g1 : World.frozen? w3 ⟨w.heap.size, 1, none⟩ = false := hA.frozen 1
  have g2 : World.frozen? w3 ⟨w.heap.size, 2, none⟩ = false := hA.frozen 2
  have g3 : World.frozen? w3 ⟨w.heap.size, 3, none⟩ = false := hA.frozen 3
  have g4 : World.frozen? w3 ⟨w.heap.size, 4, none⟩ = false := hA.frozen 4
  have g5 : World.frozen? w3 ⟨w.heap.size, 5, none⟩ = false := hA.frozen 5
  have H3 : Hid (Blk 186 w3 w.heap.size kz ∧ Below w.heap.size w w3 ∧ KindS w3 s a1 n1 c1 a2 n2 c2 a3 n3 c3 a4 n4 c4 a5 n5 c5 c384) := ⟨hA, below_via H2.out.2 hb3 (Nat.le_refl _), hks⟩
  clear hA hb3 hk hks H2
  go_wp2
  obtain ⟨hF, hU⟩ := Blk.put6 H3.out.1 (.int .i64 s) (.slice a1 n1 c1) (.slice a2 n2 c2) (.slice a3 n3 c3) (.slice a4 n4 c4) (.slice a5 n5 c5)
  exact bodyPost_ret (results_blk2 rfl rfl hF Tryz.underlying186 rfl Tryz.sizeKd rfl) rfl ⟨s, a1, n1, c1, a2, n2, c2, a3, n3, c3, a4, n4, c4, a5, n5, c5, rfl, H3.out.2.2.upd H3.out.1 hU, hU.below H3.out.2.1 H3.out.2.1.size (Nat.le_refl _)⟩
theorem pick_yes {w : World} (c : Int) (C : Cv) (h : crv c = some C) : Calls Tryz.prog 102 #[.int .i64 c] w fun e w' => ∃ s a1 n1 c1 a2 n2 c2 a3 n3 c3 a4 n4 c4 a5 n5 c5, e = .returned (.tuple #[.agg [.int .i64 (s : Nat), .slice a1 n1 c1, .slice a2 n2 c2, .slice a3 n3 c3, .slice a4 n4 c4, .slice a5 n5 c5].toArray, .bool true]) ∧ KindS w' s a1 n1 c1 a2 n2 c2 a3 n3 c3 a4 n4 c4 a5 n5 c5 C ∧ Below w.heap.size w w' := by
  unfold crv at h
  split at h
  · rename_i h1; subst h1; cases h; exact pick_1
  · split at h
    · rename_i h1; subst h1; cases h; exact pick_2
    · cases h
end Go.Proofs.YtillkhjihggcjaaGreatDoor
/-
  Curve: which points lie on a curve.
-/
namespace Go.Proofs.YtillkhjihggcjaaGreatDoor
open Go.RowKit
set_option maxRecDepth 20000
/-- The curve's equation. -/
def onE (p b x y : Nat) : Bool := decide (fml p y y = fad p (fsb p (fml p (fml p x x) x) (fad p (fad p x x) x)) b)
def onB (p b : Nat) (X Y : List Int) : Bool := if farB X Y then true else if val X < p ∧ val Y < p then onE p b (val X).toNat (val Y).toNat else false
theorem cmp_ge {a b : Int} (h : b ≤ a) : ∃ c : Int, Nt.cmpI a b = c ∧ decide (c ≥ 0) = true := ⟨_, rfl, by unfold Nt.cmpI; rw [if_neg (by omega)]; split <;> decide⟩
theorem cmp_lt {a b : Int} (h : a < b) : Nt.cmpI a b = -1 := by unfold Nt.cmpI; rw [if_pos h]
theorem cmp_eq0 {a b : Nat} : (Nt.cmpI (a : Int) (b : Int) == 0) = decide (a = b) := by
  unfold Nt.cmpI
  by_cases h : a = b
  · subst h; simp
  · by_cases h1 : (a : Int) < b
    · rw [if_pos h1]; simp [h]
    · rw [if_neg h1, if_pos (by omega)]; simp [h]
theorem LCmp {w : World} (a b : Value) (X : List Int) (y : Nat) (ha : Sl .u32 w a X) (uX : U32s X) (lX : X.length ≤ 1000000) (hb : Nb w b y) (hy : (lim y).length ≤ 512) (c : Int) (hc : Nt.cmpI (val X) y = c) :
    Calls Tryz.prog 122 #[a, b] w fun e w' => e = .returned (.int .i64 c) ∧ Below w.heap.size w w' := by
  refine (Nt.Cmp_any X (lim y) a b w ha hb uX (lim_u32 _) (by omega) (by omega)).mono ?_
  rintro e w' ⟨rfl, hB⟩
  rw [val_lim, hc]
  exact ⟨rfl, hB⟩
theorem LTrim {w : World} (a : Value) (X : List Int) (ha : Sl .u32 w a X) (uX : U32s X) (lX : X.length ≤ 1000000) :
    Calls Tryz.prog 123 #[a] w fun e w' => ∃ r, e = .returned r ∧ Nb w' r (val X).toNat ∧ Below w.heap.size w w' :=
  (Nt.Trim_any X a w ha uX (by omega)).mono fun e w' ⟨r, he, ho, hb⟩ => ⟨r, he, ho.sl, hb⟩
set_option maxHeartbeats 8000000 in
theorem Kon {w : World} (v0 f v2 rb v4 v5 vx vy : Value) (p xb : Nat) (X Y : List Int) (hf : Fld w f p) (hb : Nb w rb xb) (lb : xb < p) (hX : Sl .u32 w vx X) (hY : Sl .u32 w vy Y) (uX : U32s X) (uY : U32s Y) (lX : X.length ≤ 1000000) (lY : Y.length ≤ 1000000) :
    Calls Tryz.prog 105 #[.agg #[v0, f, v2, rb, v4, v5], .agg #[vx, vy]] w fun e w' => e = .returned (.bool (onB p xb X Y)) ∧ Below w.heap.size w w' := by
  have HFr : Hid (∀ W, Below w.heap.size w W → Calls Tryz.prog 104 #[.agg #[vx, vy]] W fun e w' => e = .returned (.bool (farB X Y)) ∧ Below W.heap.size W w') := fun W hW => PisFar vx vy X Y (below_sl hW hX) (below_sl hW hY) uX uY lX lY
  have sp : Sm p := by have := sm_two (x := 0) (y := p) hf.2.2 hf.2.1 (Nat.le_refl _); simpa using this
  have HCx : Hid (∀ W c, Below w.heap.size w W → Nt.cmpI (val X) p = c → Calls Tryz.prog 122 #[vx, f] W fun e w' => e = .returned (.int .i64 c) ∧ Below W.heap.size W w') := fun W c hW hc => LCmp vx f X p (below_sl hW hX) uX lX (hf.1.below hW) (lim512 sp) c hc
  have HCy : Hid (∀ W c, Below w.heap.size w W → Nt.cmpI (val Y) p = c → Calls Tryz.prog 122 #[vy, f] W fun e w' => e = .returned (.int .i64 c) ∧ Below W.heap.size W w') := fun W c hW hc => LCmp vy f Y p (below_sl hW hY) uY lY (hf.1.below hW) (lim512 sp) c hc
  have HTx : Hid (∀ W, Below w.heap.size w W → Calls Tryz.prog 123 #[vx] W fun e w' => ∃ r, e = .returned r ∧ Nb w' r (val X).toNat ∧ Below W.heap.size W w') := fun W hW => LTrim vx X (below_sl hW hX) uX lX
  have HTy : Hid (∀ W, Below w.heap.size w W → Calls Tryz.prog 123 #[vy] W fun e w' => ∃ r, e = .returned r ∧ Nb w' r (val Y).toNat ∧ Below W.heap.size W w') := fun W hW => LTrim vy Y (below_sl hW hY) uY lY
  have HV0 : Hid (0 ≤ val X ∧ 0 ≤ val Y) := ⟨val_nonneg uX, val_nonneg uY⟩
  have HF : Hid (Fld w f p ∧ Nb w rb xb) := ⟨hf, hb⟩
  have HSp : Hid (Sm p) := sp
  have Lb : Hid (xb < p) := lb
  obtain ⟨R, hR⟩ : ∃ R, onB p xb X Y = R := ⟨_, rfl⟩
  have HR : Hid ((if farB X Y then true else if val X < p ∧ val Y < p then onE p xb (val X).toNat (val Y).toNat else false) = R) := by show _ = _; rw [← hR]; rfl
  rw [hR]
  obtain ⟨VX, hVX⟩ : ∃ V, val X = V := ⟨_, rfl⟩
  obtain ⟨VY, hVY⟩ : ∃ V, val Y = V := ⟨_, rfl⟩
  rw [hVX] at HCx HTx HR HV0
  rw [hVY] at HCy HTy HR HV0
  clear hf hb lb hX hY uX uY lX lY hR sp hVX hVY
  go_enter Tryz.func105, Tryz.ntmps105
  go_upto_region 1 with (first | (refine wpList_boxR rfl 186 (.tmp 0) rfl #[v0, f, v2, rb, v4, v5] rfl ?_) | (refine wpList_boxR rfl 44 (.tmp 1) rfl #[vx, vy] rfl ?_))
  refine wp_gen (fun W => Blk 186 W w.heap.size [v0, f, v2, rb, v4, v5] ∧ Blk 44 W (w.heap.size + 1) [vx, vy] ∧ Below w.heap.size w W) ⟨(Blk.new _ w [v0, f, v2, rb, v4, v5]).alloc _, by have := Blk.new 44 (w.alloc (.cells [v0, f, v2, rb, v4, v5].toArray 186)) [vx, vy]; rw [World.size_alloc] at this; exact this, (al1 _).alloc (by simp) _⟩ ?_
  rintro W2 ⟨hC, hB, hBw⟩
  have H2 : Hid (Below w.heap.size w W2 ∧ ∀ W3, Below W2.heap.size W2 W3 → W3.cell? ⟨w.heap.size, 1, none⟩ = some f ∧ W3.cell? ⟨w.heap.size, 3, none⟩ = some rb ∧ W3.cell? ⟨w.heap.size + 1, 0, none⟩ = some vx ∧ W3.cell? ⟨w.heap.size + 1, 1, none⟩ = some vy ∧ Below w.heap.size w W3 ∧ W3.rangeAt (w.heap.size + 1) 0 [vx, vy]) := ⟨hBw, fun W3 h3 => ⟨(below_blk h3 hC.lt hC).cell 1, (below_blk h3 hC.lt hC).cell 3, (below_blk h3 hB.lt hB).cell 0, (below_blk h3 hB.lt hB).cell 1, below_via hBw h3 (Nat.le_refl _), (below_blk h3 hB.lt hB).whole⟩⟩
  clear hC hB hBw
  go_wp2_with (refine wpList_load_mid rfl 44 (.tmp 3) rfl (w.heap.size + 1) 0 rfl [vx, vy] _ (H2.out.2 _ (Below.refl _ _)).2.2.2.2.2 Tryz.underlying44 rfl (by kernel_rfl) ?_)
  refine (HFr.out _ H2.out.1).mono ?_
  rintro e w3 ⟨rfl, hb3⟩
  have H3 : Hid (Below W2.heap.size W2 w3) := hb3
  clear hb3
  cases hfr : farB X Y with
  | true =>
    have HQ : Hid (true = R) := by show _ = _; rw [← HR.out, hfr]; rfl
    clear hfr HR
    go_wp2
    go_ret
    exact ⟨by rw [← HQ.out]; rfl, (H2.out.2 _ H3.out).2.2.2.2.1⟩
  | false =>
  have HQ : Hid ((if VX < p ∧ VY < p then onE p xb VX.toNat VY.toNat else false) = R) := by show _ = _; rw [← HR.out, hfr]; rfl
  clear hfr HR
  have k1 := (H2.out.2 _ H3.out).1
  have k3 := (H2.out.2 _ H3.out).2.2.1
  by_cases hx : ¬ VX < p
  · obtain ⟨c, hc, d⟩ := cmp_ge (a := VX) (b := p) (by omega)
    have HC : Hid (Nt.cmpI VX p = c) := hc
    have HQ2 : Hid (false = R) := by show _ = _; rw [← HQ.out]; exact (if_neg (by omega)).symm
    clear hx hc HQ
    go_wp2_with (go_at_call 122; refine (HCx.out _ c (H2.out.2 _ H3.out).2.2.2.2.1 HC.out).mono ?_; rintro e w4 ⟨rfl, hb4⟩; have H4 : Hid (Below W2.heap.size W2 w4) := below_via H3.out hb4 (Nat.le_refl _); clear hb4)
    go_ret
    exact ⟨by rw [← HQ2.out]; rfl, (H2.out.2 _ H4.out).2.2.2.2.1⟩
  have hx := Decidable.not_not.1 hx
  have HC := cmp_lt hx
  have HCx2 : Hid (Nt.cmpI VX p = -1) := HC
  clear HC
  go_wp2_with fail
  refine (HCx.out _ (-1) (H2.out.2 _ H3.out).2.2.2.2.1 HCx2.out).mono ?_
  rintro e w4 ⟨rfl, hb4⟩
  have H4 : Hid (Below W2.heap.size W2 w4) := below_via H3.out hb4 (Nat.le_refl _)
  clear hb4 k1 k3
  have k1 := (H2.out.2 _ H4.out).1
  have k4 := (H2.out.2 _ H4.out).2.2.2.1
  by_cases hy : ¬ VY < p
  · obtain ⟨c, hc, d⟩ := cmp_ge (a := VY) (b := p) (by omega)
    have HC : Hid (Nt.cmpI VY p = c) := hc
    have HQ2 : Hid (false = R) := by show _ = _; rw [← HQ.out]; exact (if_neg (by omega)).symm
    clear hx hy hc HQ
    go_wp2_with (go_at_call 122; refine (HCy.out _ c (H2.out.2 _ H4.out).2.2.2.2.1 HC.out).mono ?_; rintro e w5 ⟨rfl, hb5⟩; have H5 : Hid (Below W2.heap.size W2 w5) := below_via H4.out hb5 (Nat.le_refl _); clear hb5)
    go_ret
    exact ⟨by rw [← HQ2.out]; rfl, (H2.out.2 _ H5.out).2.2.2.2.1⟩
  have hy := Decidable.not_not.1 hy
  have HC := cmp_lt hy
  have HCy2 : Hid (Nt.cmpI VY p = -1) := HC
  have HQ2 : Hid (onE p xb VX.toNat VY.toNat = R) := by show _ = _; rw [← HQ.out]; exact (if_pos ⟨hx, hy⟩).symm
  obtain ⟨xx, hxx⟩ : ∃ x : Nat, VX.toNat = x := ⟨_, rfl⟩
  obtain ⟨xy, hxy⟩ : ∃ x : Nat, VY.toNat = x := ⟨_, rfl⟩
  have Lx : Hid (xx < p) := by show _ < _; have := HV0.out; omega
  have Ly : Hid (xy < p) := by show _ < _; have := HV0.out; omega
  rw [hxx] at HTx HQ2
  rw [hxy] at HTy HQ2
  clear HC HQ hx hy hxx hxy
  go_wp2_with (go_at_call 122; refine (HCy.out _ (-1) (H2.out.2 _ H4.out).2.2.2.2.1 HCy2.out).mono ?_; rintro e w5 ⟨rfl, hb5⟩; have H5 : Hid (Below W2.heap.size W2 w5) := below_via H4.out hb5 (Nat.le_refl _); clear hb5 k1 k4)
  have HQ5 : Hid (∀ W3, Below w5.heap.size w5 W3 → W3.cell? ⟨w.heap.size, 1, none⟩ = some f ∧ W3.cell? ⟨w.heap.size + 1, 0, none⟩ = some vx ∧ W3.cell? ⟨w.heap.size + 1, 1, none⟩ = some vy) := fun W3 h3 => ⟨(H2.out.2 _ (below_via H5.out h3 (Nat.le_refl _))).1, (H2.out.2 _ (below_via H5.out h3 (Nat.le_refl _))).2.2.1, (H2.out.2 _ (below_via H5.out h3 (Nat.le_refl _))).2.2.2.1⟩
  have HD5 : Hid (Below W2.heap.size W2 w5.drew) := Below.drew H5.out
  go_region_held3 (fun W => Below w5.heap.size w5 W ∧ W.cell? ⟨w.heap.size, 1, none⟩ = some f ∧ W.cell? ⟨w.heap.size + 1, 0, none⟩ = some vx ∧ W.cell? ⟨w.heap.size + 1, 1, none⟩ = some vy)
    (first | assumption | exact (fun h => ⟨h, HQ5.out _ h⟩) (Below.drew (Below.refl _ _)) | exact (fun h => ⟨h, HQ5.out _ h⟩) (below_via (And.left (by assumption)) (by assumption) (Nat.le_refl _)))
    (first
    | (replace H6 := H6; go_at_call 123; refine (HTy.out _ (H2.out.2 _ H6.out.1).2.2.2.2.1).mono ?_; rintro e w7 ⟨ry, rfl, hr7, hb7⟩; have H7 : Hid (Below W2.heap.size W2 w7 ∧ Fld w7 f p ∧ Nb w7 rx xx ∧ Nb w7 ry xy ∧ Nb w7 rb xb ∧ True) := ⟨below_via H6.out.1 hb7 (Nat.le_refl _), HF.out.1.below (H2.out.2 _ (below_via H6.out.1 hb7 (Nat.le_refl _))).2.2.2.2.1, H6.out.2.below hb7, hr7, HF.out.2.below (H2.out.2 _ (below_via H6.out.1 hb7 (Nat.le_refl _))).2.2.2.2.1, trivial⟩; clear hr7)
    | (go_at_call 123; refine (HTx.out _ (H2.out.2 _ HD5.out).2.2.2.2.1).mono ?_; rintro e w6 ⟨rx, rfl, hr6, hb6⟩; have H6 : Hid (Below W2.heap.size W2 w6 ∧ Nb w6 rx xx) := ⟨below_via HD5.out hb6 (Nat.le_refl _), hr6⟩; clear hr6))
  clear hb6 hb7 H6
  have HQ7 : Hid (∀ W3, Below w7.heap.size w7 W3 → W3.cell? ⟨w.heap.size, 3, none⟩ = some rb) := fun W3 h3 => (H2.out.2 _ (below_via H7.out.1 h3 (Nat.le_refl _))).2.1
  go_wp2_with fail
  have HDg0 : Hid (Below W2.heap.size W2 w7.drew ∧ Fld w7.drew f p ∧ Nb w7.drew rx xx ∧ Nb w7.drew ry xy ∧ Nb w7.drew rb xb ∧ True) := ⟨Below.drew H7.out.1, H7.out.2.1.below (Below.drew (Below.refl _ _)), (H7.out.2.2.1).below (Below.drew (Below.refl _ _)), (H7.out.2.2.2.1).below (Below.drew (Below.refl _ _)), (H7.out.2.2.2.2.1).below (Below.drew (Below.refl _ _)), trivial⟩
  clear H7
  go_region_held3 (fun W => Below w7.heap.size w7 W ∧ W.cell? ⟨w.heap.size, 3, none⟩ = some rb)
    (first | assumption | exact (fun h => ⟨h, HQ7.out _ h⟩) (Below.drew (Below.refl _ _)) | exact (fun h => ⟨h, HQ7.out _ h⟩) (below_via (And.left (by assumption)) (by assumption) (Nat.le_refl _)))
    (first
    | (replace H4s := H4s; go_at_call 124; refine (Fplus f _ _ p xq4 xb H4s.out.2.1 H4s.out.2.2.2.2.1 H4s.out.2.2.2.1 Lq4.out Lb.out).mono ?_; rintro e w5s ⟨rrt, rfl, hrrt, hbrt⟩; obtain ⟨xrt, hxrt⟩ : ∃ x, fad p xq4 xb = x := ⟨_, rfl⟩; rw [hxrt] at hrrt; have Ert : Hid (fad p xq4 xb = xrt) := hxrt; have Lrt : Hid (xrt < p) := (by show _ < _; rw [← hxrt]; exact fad_lt H4s.out.2.1.2.1); have H5s : Hid (Below W2.heap.size W2 w5s ∧ Fld w5s f p ∧ Nb w5s ry xy ∧ Nb w5s rrt xrt ∧ True) := ⟨below_via H4s.out.1 hbrt (Nat.le_refl _), H4s.out.2.1.below hbrt, (H4s.out.2.2.1).below hbrt, hrrt, trivial⟩; clear hrrt hxrt)
    | (replace H3s := H3s; go_at_call 125; refine (Fminus f _ _ p xq2 xq3 H3s.out.2.1 H3s.out.2.2.2.2.1 H3s.out.2.2.2.2.2.1 Lq2.out Lq3.out).mono ?_; rintro e w4s ⟨rq4, rfl, hrq4, hbq4⟩; obtain ⟨xq4, hxq4⟩ : ∃ x, fsb p xq2 xq3 = x := ⟨_, rfl⟩; rw [hxq4] at hrq4; have Eq4 : Hid (fsb p xq2 xq3 = xq4) := hxq4; have Lq4 : Hid (xq4 < p) := (by show _ < _; rw [← hxq4]; exact fsb_lt H3s.out.2.1.2.1); have H4s : Hid (Below W2.heap.size W2 w4s ∧ Fld w4s f p ∧ Nb w4s ry xy ∧ Nb w4s rb xb ∧ Nb w4s rq4 xq4 ∧ True) := ⟨below_via H3s.out.1 hbq4 (Nat.le_refl _), H3s.out.2.1.below hbq4, (H3s.out.2.2.1).below hbq4, (H3s.out.2.2.2.1).below hbq4, hrq4, trivial⟩; clear hrq4 hxq4)
    | (replace H2s := H2s; go_at_call 128; refine (Fthrice f _ p xx H2s.out.2.1 H2s.out.2.2.1 Lx.out).mono ?_; rintro e w3s ⟨rq3, rfl, hrq3, hbq3⟩; obtain ⟨xq3, hxq3⟩ : ∃ x, fad p (fad p xx xx) xx = x := ⟨_, rfl⟩; rw [hxq3] at hrq3; have Eq3 : Hid (fad p (fad p xx xx) xx = xq3) := hxq3; have Lq3 : Hid (xq3 < p) := (by show _ < _; rw [← hxq3]; exact fad_lt H2s.out.2.1.2.1); have H3s : Hid (Below W2.heap.size W2 w3s ∧ Fld w3s f p ∧ Nb w3s ry xy ∧ Nb w3s rb xb ∧ Nb w3s rq2 xq2 ∧ Nb w3s rq3 xq3 ∧ True) := ⟨below_via H2s.out.1 hbq3 (Nat.le_refl _), H2s.out.2.1.below hbq3, (H2s.out.2.2.2.1).below hbq3, (H2s.out.2.2.2.2.1).below hbq3, (H2s.out.2.2.2.2.2.1).below hbq3, hrq3, trivial⟩; clear hrq3 hxq3)
    | (replace H1s := H1s; go_at_call 126; refine (Ftimes f _ _ p xq1 xx H1s.out.2.1 H1s.out.2.2.2.2.2.1 H1s.out.2.2.1 Lq1.out Lx.out).mono ?_; rintro e w2s ⟨rq2, rfl, hrq2, hbq2⟩; obtain ⟨xq2, hxq2⟩ : ∃ x, fml p xq1 xx = x := ⟨_, rfl⟩; rw [hxq2] at hrq2; have Eq2 : Hid (fml p xq1 xx = xq2) := hxq2; have Lq2 : Hid (xq2 < p) := (by show _ < _; rw [← hxq2]; exact fml_lt H1s.out.2.1.2.1); have H2s : Hid (Below W2.heap.size W2 w2s ∧ Fld w2s f p ∧ Nb w2s rx xx ∧ Nb w2s ry xy ∧ Nb w2s rb xb ∧ Nb w2s rq2 xq2 ∧ True) := ⟨below_via H1s.out.1 hbq2 (Nat.le_refl _), H1s.out.2.1.below hbq2, (H1s.out.2.2.1).below hbq2, (H1s.out.2.2.2.1).below hbq2, (H1s.out.2.2.2.2.1).below hbq2, hrq2, trivial⟩; clear hrq2 hxq2)
    | (go_at_call 127; refine (Fsquare f _ p xx HDg0.out.2.1 HDg0.out.2.2.1 Lx.out).mono ?_; rintro e w1s ⟨rq1, rfl, hrq1, hbq1⟩; obtain ⟨xq1, hxq1⟩ : ∃ x, fml p xx xx = x := ⟨_, rfl⟩; rw [hxq1] at hrq1; have Eq1 : Hid (fml p xx xx = xq1) := hxq1; have Lq1 : Hid (xq1 < p) := (by show _ < _; rw [← hxq1]; exact fml_lt HDg0.out.2.1.2.1); have H1s : Hid (Below W2.heap.size W2 w1s ∧ Fld w1s f p ∧ Nb w1s rx xx ∧ Nb w1s ry xy ∧ Nb w1s rb xb ∧ Nb w1s rq1 xq1 ∧ True) := ⟨below_via HDg0.out.1 hbq1 (Nat.le_refl _), HDg0.out.2.1.below hbq1, (HDg0.out.2.2.1).below hbq1, (HDg0.out.2.2.2.1).below hbq1, (HDg0.out.2.2.2.2.1).below hbq1, hrq1, trivial⟩; clear hrq1 hxq1))
  clear hbq1 hbq2 hbq3 hbq4 hbrt
  go_wp2_with fail
  refine (Fsquare f _ p xy H5s.out.2.1 H5s.out.2.2.1 Ly.out).mono ?_
  rintro e w6s ⟨ryy, rfl, hr, hb⟩
  obtain ⟨xyy, hx⟩ : ∃ x, fml p xy xy = x := ⟨_, rfl⟩
  rw [hx] at hr
  have Eyy : Hid (fml p xy xy = xyy) := hx
  have Lyy : Hid (xyy < p) := by show _ < _; rw [← hx]; exact fml_lt H5s.out.2.1.2.1
  have H6s : Hid (Below W2.heap.size W2 w6s ∧ Fld w6s f p ∧ Nb w6s rrt xrt ∧ Nb w6s ryy xyy ∧ True) := ⟨below_via H5s.out.1 hb (Nat.le_refl _), H5s.out.2.1.below hb, (H5s.out.2.2.2.1).below hb, hr, trivial⟩
  clear hr hb hx H5s
  have HE : Hid (decide (xyy = xrt) = R) := by show _ = _; rw [← HQ2.out]; unfold onE; simp only [Eq1.out, Eq2.out, Eq3.out, Eq4.out, Ert.out, Eyy.out]
  obtain ⟨cc, hcc⟩ : ∃ c, Nt.cmpI (xyy : Int) (xrt : Int) = c := ⟨_, rfl⟩
  have HCC : Hid (Nt.cmpI (xyy : Int) (xrt : Int) = cc ∧ (cc == 0) = R) := ⟨hcc, by rw [← HE.out, ← hcc]; exact cmp_eq0⟩
  have sy := sm_of H6s.out.2.1.2.2 Lyy.out
  have sr := sm_of H6s.out.2.1.2.2 Lrt.out
  have HSM : Hid (Sm xyy ∧ Sm xrt) := ⟨sy, sr⟩
  clear hcc sy sr
  go_wp2_with (go_at_call 122; refine (NCmp _ _ xyy xrt H6s.out.2.2.2.1 H6s.out.2.2.1 (lim512 HSM.out.1) (lim512 HSM.out.2) cc HCC.out.1).mono ?_; rintro e w9 ⟨rfl, hb9⟩; have H9 : Hid (Below W2.heap.size W2 w9) := below_via H6s.out.1 hb9 (Nat.le_refl _); clear hb9)
  go_ret
  exact ⟨by rw [← HCC.out.2]; rfl, (H2.out.2 _ H9.out).2.2.2.2.1⟩
end Go.Proofs.YtillkhjihggcjaaGreatDoor
/-
  Curve: On, Size, Prime, Order, Base.
-/
namespace Go.Proofs.YtillkhjihggcjaaGreatDoor
open Go.RowKit
set_option maxRecDepth 20000
theorem crv_ok {c : Int} {C : Cv} (h : crv c = some C) : 0 < C.p ∧ C.p < 4294967296 ^ 12 ∧ C.b < C.p ∧ C.gx < C.p ∧ C.gy < C.p ∧ 0 < C.n ∧ C.n < 4294967296 ^ 12 := by
  unfold crv at h
  split at h
  · cases h; decide +kernel
  · split at h
    · cases h; decide +kernel
    · cases h
/-- On, as a bool. -/
def onC (c : Int) (X Y : List Int) : Bool := match crv c with
  | none => false
  | some C => onB C.p C.b X Y
def crvN (f : Cv → Nat) : Option Cv → Nat
  | none => 0
  | some C => f C
end Go.Proofs.YtillkhjihggcjaaGreatDoor
/-
  Curve: digit, Base.
-/
namespace Go.Proofs.YtillkhjihggcjaaGreatDoor
open Go.RowKit
set_option maxRecDepth 20000
theorem noInts : ∀ c ∈ [Value.slice none 0 0, Value.slice none 0 0], ∀ n, c ≠ .int .u32 n := by intro c hc; simp at hc; subst hc; intro n h; cases h
end Go.Proofs.YtillkhjihggcjaaGreatDoor
/-
  The reference's digits: less.
-/
namespace Go.Proofs.YtillkhjihggcjaaGreatDoor
open Go.RowKit
set_option maxRecDepth 20000
/-- Thirteen digits of 32 bits, as a value. -/
def dgA (A : List Int) : Value := .agg (A.map (Value.int .u64)).toArray
theorem Tryz.sizeDg : (Tryz.prog.info? 154).map (·.size) = some 13 := by kernel_rfl
set_option maxHeartbeats 2000000 in
theorem less_any {w : World} (A B : List Int) (uA : U32s A) (uB : U32s B) (lA : A.length = 13) (lB : B.length = 13) :
    Calls Tryz.prog 109 #[dgA A, dgA B] w fun e w' => e = .returned (.bool (decide (val A < val B))) ∧ Below w.heap.size w w' := by
  have HA : Hid (U32s A ∧ U32s B) := ⟨uA, uB⟩
  unfold dgA
  go_enter Tryz.func109, Tryz.ntmps109
  go_upto_region 1 with (first
    | refine wpList_boxR rfl 154 (.tmp 0) rfl (A.map (Value.int .u64)).toArray rfl ?_
    | refine wpList_boxR rfl 154 (.tmp 1) rfl (B.map (Value.int .u64)).toArray rfl ?_)
  refine wp_gen (fun W => Blk 154 W w.heap.size (A.map (Value.int .u64)) ∧ Blk 154 W (w.heap.size + 1) (B.map (Value.int .u64)) ∧ Below w.heap.size w W) ⟨(Blk.new _ w _).alloc _, by have := Blk.new 154 (w.alloc (.cells (A.map (Value.int .u64)).toArray 154)) (B.map (Value.int .u64)); rw [World.size_alloc] at this; exact this, (al1 _).alloc (by simp) _⟩ ?_
  rintro W2 ⟨hA, hB, hBw⟩
  have H2 : Hid (Below w.heap.size w W2) := hBw
  have hA2 : Arr .u64 154 W2 w.heap.size A := hA.arr
  have hB2 : Arr .u64 154 W2 (w.heap.size + 1) B := hB.arr
  have HR : Hid (∀ W3, Below W2.heap.size W2 W3 → (Below w.heap.size w W3 ∧ ∀ k, k < 13 → W3.cell? ⟨w.heap.size, k, none⟩ = some (.int .u64 (A.getD k 0)) ∧ W3.cell? ⟨w.heap.size + 1, k, none⟩ = some (.int .u64 (B.getD k 0)))) := fun W3 h3 => ⟨below_via hBw h3 (Nat.le_refl _), fun k hk => ⟨(below_arr h3 hA2.lt hA2).cell k (by omega), (below_arr h3 hB2.lt hB2).cell k (by omega)⟩⟩
  clear hA hB hBw hA2 hB2 H2
  have HZ : Hid (∀ j, 13 ≤ j → A.getD j 0 = B.getD j 0) := fun j hj => by simp [List.getD_eq_getElem?_getD, List.getElem?_eq_none (show A.length ≤ j by omega), List.getElem?_eq_none (show B.length ≤ j by omega)]
  clear uA uB lA lB
  go_wp2
  go_loopw [5] (fun i wr => ∃ k : Nat, i = .int .i64 ((k : Int) - 1) ∧ k ≤ 13 ∧ Hid (∀ j, k ≤ j → A.getD j 0 = B.getD j 0) ∧ Hid (Below W2.heap.size W2 wr)) (fun i _ => ((intOf i) + 1).toNat)
  case atStart => exact ⟨13, by go_num, Nat.le_refl _, HZ.out, Below.refl _ _⟩
  case round =>
    clear HZ
    obtain ⟨k, rfl, hk, HK, H3⟩ := hrel
    cases k with
    | zero =>
      have HE : Hid (decide (val A < val B) = false) := by
        have h : val A = val B := Nt.val_ext _ _ (fun j => HK.out j (Nat.zero_le _))
        show _ = _; rw [h]; simp
      clear HK
      rw [show ((0 : Nat) : Int) - 1 = -1 from rfl]
      go_wp2
      go_ret
      exact ⟨by rw [HE.out]; rfl, (HR.out _ H3.out).1⟩
    | succ m =>
      obtain ⟨h1, h2⟩ := (HR.out _ H3.out).2 m (by omega)
      obtain ⟨x, hx⟩ : ∃ x, A.getD m 0 = x := ⟨_, rfl⟩
      obtain ⟨y, hy⟩ : ∃ y, B.getD m 0 = y := ⟨_, rfl⟩
      rw [hx] at h1; rw [hy] at h2
      have HX : Hid (A.getD m 0 = x ∧ B.getD m 0 = y) := ⟨hx, hy⟩
      have hi : ((m + 1 : Nat) : Int) - 1 = m := by omega
      rw [hi]
      have ux : U32 x := hx ▸ HA.out.1.at m
      have uy : U32 y := hy ▸ HA.out.2.at m
      obtain ⟨ux1, ux2⟩ := ux
      obtain ⟨uy1, uy2⟩ := uy
      clear hx hy hi
      rcases Int.lt_trichotomy x y with hlt | rfl | hlt
      · have HE : Hid (decide (val A < val B) = true) := by
          have h : val A < val B := Nt.val_lt_of m A B HA.out.1 HA.out.2 (fun j hj => HK.out j hj) (by rw [HX.out.1, HX.out.2]; exact hlt)
          show _ = _; simpa using h
        go_wp2
        go_quiet (fail)
        go_wp2
        go_quiet (fail)
        go_wp2
        go_ret
        exact ⟨by rw [HE.out]; simp, (HR.out _ H3.out).1.trans ⟨rfl, rfl, rfl, Nat.le_refl _, fun _ _ => rfl⟩⟩
      · go_wp2
        go_quiet (fail)
        go_wp2
        go_round
        case rel => exact ⟨m, by go_num, by omega, fun j hj => by
          rcases Nat.lt_or_ge m j with h | h
          · exact HK.out j h
          · rw [show j = m by omega, HX.out.1, HX.out.2], H3.out.trans ⟨rfl, rfl, rfl, Nat.le_refl _, fun _ _ => rfl⟩⟩
        case measure => simp [intOf]; try omega
      · have HE : Hid (decide (val A < val B) = false) := by
          have h : val B < val A := Nt.val_lt_of m B A HA.out.2 HA.out.1 (fun j hj => (HK.out j hj).symm) (by rw [HX.out.1, HX.out.2]; exact hlt)
          show _ = _; rw [decide_eq_false_iff_not]; omega
        have hn : ¬ x < y := by omega
        go_wp2
        go_quiet (fail)
        go_wp2
        go_quiet (fail)
        go_wp2
        go_ret
        exact ⟨by rw [HE.out]; simp [hn], (HR.out _ H3.out).1.trans ⟨rfl, rfl, rfl, Nat.le_refl _, fun _ _ => rfl⟩⟩
end Go.Proofs.YtillkhjihggcjaaGreatDoor
/-
  The reference's digits: plus.
-/
namespace Go.Proofs.YtillkhjihggcjaaGreatDoor
open Go.RowKit
set_option maxRecDepth 20000
theorem getD_app_drop (Z A : List Int) : (Z ++ A.drop Z.length).getD Z.length 0 = A.getD Z.length 0 := by
  simp [List.getD_eq_getElem?_getD, List.getElem?_append_right, List.getElem?_drop]
theorem set_app_drop (Z A : List Int) (x : Int) (h : Z.length < A.length) : (Z ++ A.drop Z.length).set Z.length x = (Z ++ [x]) ++ A.drop (Z ++ [x]).length := by
  rw [List.set_append_right _ _ (Nat.le_refl _), Nat.sub_self, List.drop_eq_getElem_cons h, List.set_cons_zero]
  simp
theorem set_set_app_drop (Z A : List Int) (y x : Int) (h : Z.length < A.length) : ((Z ++ A.drop Z.length).set Z.length y).set Z.length x = (Z ++ [x]) ++ A.drop (Z ++ [x]).length := by
  rw [List.set_set, set_app_drop _ _ _ h]
/-- A boxed triple of blocks: two numbers and the place of the answer. -/
theorem threeBlk {w : World} (A B : List Int) (o : Obj) (ho : o = .cells ((List.replicate 13 (0 : Int)).map (Value.int .u64)).toArray 154) :
    Arr .u64 154 (((w.alloc (.cells (A.map (Value.int .u64)).toArray 154)).alloc (.cells (B.map (Value.int .u64)).toArray 154)).alloc o) w.heap.size A ∧
    Arr .u64 154 (((w.alloc (.cells (A.map (Value.int .u64)).toArray 154)).alloc (.cells (B.map (Value.int .u64)).toArray 154)).alloc o) (w.heap.size + 1) B ∧
    Arr .u64 154 (((w.alloc (.cells (A.map (Value.int .u64)).toArray 154)).alloc (.cells (B.map (Value.int .u64)).toArray 154)).alloc o) (w.heap.size + 1 + 1) (List.replicate 13 0) ∧
    Below w.heap.size w (((w.alloc (.cells (A.map (Value.int .u64)).toArray 154)).alloc (.cells (B.map (Value.int .u64)).toArray 154)).alloc o) := by
  subst ho
  refine ⟨(((Blk.new _ w (A.map (Value.int .u64))).alloc _).alloc _).arr, ?_, ?_, ((al1 _).alloc (by simp) _).alloc (by simp; omega) _⟩
  · have h := Blk.new 154 (w.alloc (.cells (A.map (Value.int .u64)).toArray 154)) (B.map (Value.int .u64))
    rw [World.size_alloc] at h
    exact (h.alloc _).arr
  · have h := Blk.new 154 ((w.alloc (.cells (A.map (Value.int .u64)).toArray 154)).alloc (.cells (B.map (Value.int .u64)).toArray 154)) ((List.replicate 13 (0 : Int)).map (Value.int .u64))
    rw [World.size_alloc, World.size_alloc] at h
    exact h.arr
theorem plus_step (P cy a b z cn vZ vA vB : Int) (h : vZ + P * cy = vA + vB) (e : z + 4294967296 * cn = a + b + cy) : vZ + P * z + P * 4294967296 * cn = vA + P * a + (vB + P * b) := by
  have h2 : P * (z + 4294967296 * cn) = P * (a + b + cy) := by rw [e]
  rw [Int.mul_add, Int.mul_add, Int.mul_add, ← Int.mul_assoc] at h2
  omega
set_option maxHeartbeats 2000000 in
theorem plus_any {w : World} (A B : List Int) (uA : U32s A) (uB : U32s B) (lA : A.length = 13) (lB : B.length = 13) (hs : val A + val B < 4294967296 ^ 13) :
    Calls Tryz.prog 108 #[dgA A, dgA B] w fun e w' => ∃ Z, e = .returned (dgA Z) ∧ U32s Z ∧ Z.length = 13 ∧ val Z = val A + val B ∧ Below w.heap.size w w' := by
  have HA : Hid (U32s A ∧ U32s B ∧ val A + val B < 4294967296 ^ 13) := ⟨uA, uB, hs⟩
  unfold dgA
  go_enter Tryz.func108, Tryz.ntmps108
  go_upto_region 1 with (first
    | refine wpList_boxR rfl 154 (.tmp 0) rfl (A.map (Value.int .u64)).toArray rfl ?_
    | refine wpList_boxR rfl 154 (.tmp 1) rfl (B.map (Value.int .u64)).toArray rfl ?_)
  refine wp_gen (fun W => Arr .u64 154 W w.heap.size A ∧ Arr .u64 154 W (w.heap.size + 1) B ∧ Arr .u64 154 W (w.heap.size + 1 + 1) (List.replicate 13 0) ∧ Below w.heap.size w W) (threeBlk A B _ rfl) ?_
  rintro W2 ⟨hA, hB, hR, hBw⟩
  have H2 : Hid (Arr .u64 154 W2 w.heap.size A ∧ Arr .u64 154 W2 (w.heap.size + 1) B ∧ Arr .u64 154 W2 (w.heap.size + 1 + 1) (List.replicate 13 0) ∧ Below w.heap.size w W2) := ⟨hA, hB, hR, hBw⟩
  clear hA hB hR hBw uA uB hs
  go_wp2
  go_loopw [5, 6] (fun c i wr => ∃ (Z : List Int) (cy : Int), i = .int .i64 Z.length ∧ c = .int .u64 cy ∧ Z.length ≤ 13 ∧ 0 ≤ cy ∧ cy ≤ 1 ∧ Hid (U32s Z ∧ val Z + 4294967296 ^ Z.length * cy = val (A.take Z.length) + val (B.take Z.length)) ∧ Hid (Arr .u64 154 wr w.heap.size (Z ++ A.drop Z.length) ∧ Arr .u64 154 wr (w.heap.size + 1) B ∧ Arr .u64 154 wr (w.heap.size + 1 + 1) (List.replicate 13 0) ∧ Below w.heap.size w wr)) (fun _ i _ => 13 - (intOf i).toNat)
  case atStart => exact ⟨[], 0, rfl, rfl, by simp, by omega, by omega, ⟨U32s.nil, by simp [val]⟩, H2.out⟩
  case round =>
    clear H2
    obtain ⟨Z, cy, rfl, rfl, hZl, hc0, hc1, HZ, HW⟩ := hrel
    by_cases hlt : Z.length < 13
    · obtain ⟨t, ht⟩ : ∃ t, Z.length = t := ⟨_, rfl⟩
      have h1 := HW.out.1.cell Z.length (by simp; omega)
      have h2 := HW.out.2.1.cell Z.length (by omega)
      have g1 := HW.out.1.frozen Z.length
      rw [getD_app_drop] at h1
      obtain ⟨x, hx⟩ : ∃ x, A.getD Z.length 0 = x := ⟨_, rfl⟩
      obtain ⟨y, hy⟩ : ∃ y, B.getD Z.length 0 = y := ⟨_, rfl⟩
      rw [hx] at h1; rw [hy] at h2
      have HX : Hid (A.getD Z.length 0 = x ∧ B.getD Z.length 0 = y ∧ Z.length = t) := ⟨hx, hy, ht⟩
      have ux : U32 x := hx ▸ HA.out.1.at _
      have uy : U32 y := hy ▸ HA.out.2.1.at _
      obtain ⟨ux1, ux2⟩ := ux
      obtain ⟨uy1, uy2⟩ := uy
      rw [ht] at h1 h2 g1 hlt
      have hand := Nt.and32 (x + y + cy) (by omega) (by omega)
      rw [ht]
      clear hx hy ht hZl
      go_wp2
      go_quiet (fail)
      go_wp2
      go_roundw
      case rel =>
        obtain ⟨hx, hy, ht⟩ := HX.out
        obtain ⟨hA, hB, hR, hBw⟩ := HW.out
        refine ⟨Z ++ [(x + y + cy) % 4294967296], (x + y + cy) / 4294967296, by simp [ht], rfl, by simp; omega, by omega, by omega, ⟨HZ.out.1.append (U32s.cons ⟨by omega, by omega⟩ U32s.nil), ?_⟩, ?_, ?_, ?_, ?_⟩
        · rw [Nt.val_snoc, List.length_append, List.length_singleton, Nt.val_take_succ _ _ (by omega), Nt.val_take_succ _ _ (by omega), hx, hy, Int.pow_succ]
          exact plus_step _ cy x y _ _ _ _ _ HZ.out.2 (by omega)
        · have h := Arr.set (w := wr.drewN nq) hA Z.length ((x + y + cy) % 4294967296)
          rw [set_app_drop _ _ _ (by omega), ht] at h
          exact h
        · exact (Upd.set (wr.drewN nq) w.heap.size t _).arr (xs := B) hB (by omega)
        · exact (Upd.set (wr.drewN nq) w.heap.size t _).arr (xs := List.replicate 13 0) hR (by omega)
        · exact Below.setCell (w := wr.drewN nq) (p := ⟨w.heap.size, t, none⟩) (hBw.trans ⟨rfl, rfl, rfl, Nat.le_refl _, fun _ _ => rfl⟩) (Nat.le_refl _) _
      case measure => simp [intOf]; omega
    · have h13 : Z.length = 13 := by omega
      have HL : Hid (U32s Z ∧ Z.length = 13 ∧ val Z = val A + val B) := by
        refine ⟨HZ.out.1, h13, ?_⟩
        have h := HZ.out.2
        rw [h13, List.take_of_length_le (by omega), List.take_of_length_le (by omega)] at h
        have h0 := val_nonneg HZ.out.1
        have h3 := HA.out.2.2
        generalize (4294967296 : Int) ^ 13 = P at h h3
        rcases (show cy = 0 ∨ cy = 1 by omega) with rfl | rfl
        · omega
        · omega
      obtain ⟨hA, hB, hR, hBw⟩ := HW.out
      rw [h13, List.drop_eq_nil_of_le (by omega), List.append_nil] at hA
      have hA' := hA.blk
      have hlen : (Z.map (Value.int .u64)).length = 13 := by simp [h13]
      have hsz : (Tryz.prog.info? 154).map (·.size) = some (Z.map (Value.int .u64)).length := by rw [hlen]; exact Tryz.sizeDg
      have hone := ints_one .u64 Z
      obtain ⟨cs, hcs⟩ : ∃ cs, Z.map (Value.int .u64) = cs := ⟨_, rfl⟩
      rw [hcs] at hA' hlen hsz hone
      have HC : Hid (Z.map (Value.int .u64) = cs) := hcs
      have hZb := hR.blk
      have HF : Hid (Blk 154 (wr.setCells (w.heap.size + 1 + 1) 0 cs) (w.heap.size + 1 + 1) cs ∧ Below w.heap.size w (wr.setCells (w.heap.size + 1 + 1) 0 cs)) := ⟨hZb.fill cs (by simp [hlen]), (Upd.setCells cs 0 wr).below hBw hBw.size (by omega)⟩
      have hth : wr.there (w.heap.size + 1 + 1) 0 cs.toArray.size := hZb.there 0 _ (by simp [hlen])
      have HQ : Hid (wr.rangeAt w.heap.size 0 cs ∧ wr.there (w.heap.size + 1 + 1) 0 cs.toArray.size) := ⟨hA'.whole, hth⟩
      have HS : Hid ((Tryz.prog.info? 154).map (·.size) = some cs.length) := hsz
      have HO : Hid (cs.toArray.all (·.oneCell') = true) := hone
      clear hA hB hR hBw hA' hlen hsz hone hZb hth hcs HW HZ hZl hlt
      rw [h13]
      clear h13
      go_wp2_with (first
        | (refine wpList_load_mid rfl _ _ rfl w.heap.size 0 rfl cs _ HQ.out.1 Tryz.underlying154 rfl HS.out ?_)
        | (refine wpList_store_mid rfl _ _ _ rfl (w.heap.size + 1 + 1) 0 cs.toArray rfl rfl HQ.out.2 (by simpa using HS.out) HO.out ?_))
      exact bodyPost_ret (v := .agg cs.toArray) (results_blk (b := w.heap.size + 1 + 1) (cs := cs) rfl rfl HF.out.1 Tryz.underlying154 rfl HS.out) rfl ⟨Z, by rw [HC.out], HL.out.1, HL.out.2.1, HL.out.2.2, HF.out.2⟩
end Go.Proofs.YtillkhjihggcjaaGreatDoor
