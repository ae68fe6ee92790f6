/-
  Curve: which curve there is; its numbers told.
-/
import Derived.Test.YtkdclocjijmgpaaK11
namespace Go.Proofs.Ytkdclocjijmgpaa
open Go.RowKit
set_option maxRecDepth 20000
theorem results_blk2 {P : Program} {fn : Func} {T : TypeId} {t u : Tmp} (h : fn.results = #[.cell t T, .tmp u]) {a : Array Value} {w : World} {b : Nat} {cs : List Value} {d : TypeDesc} {v : Value} (ha : a.getD t undef = .pointer (some ⟨b, 0, none⟩))
    (hb : Blk T w b cs) (hu : P.underlying T = some d) (hd : d.isRow = true) (hi : (P.info? T).map (·.size) = some cs.length) (hv : a.getD u undef = v) : (results fn a).run P w = .ok (.tuple #[.agg cs.toArray, v]) w := by
  have := run_loadVar_mid (P := P) w b 0 T cs d hb.whole hu hd hi
  have ha' : a[t]?.getD undef = .pointer (some ⟨b, 0, none⟩) := by simpa using ha
  have hv' : a[u]?.getD undef = v := by simpa using hv
  simp [results, h, ha', asAddr, this, hv']
/-- The curve of a number. -/
def crv (c : Int) : Option Cv := if c = 1 then some c256 else if c = 2 then some c384 else none
/-- A kind whose slices are told. -/
def KindS (w : World) (s : Nat) (a1 : Option Addr) (n1 c1 : Nat) (a2 : Option Addr) (n2 c2 : Nat) (a3 : Option Addr) (n3 c3 : Nat) (a4 : Option Addr) (n4 c4 : Nat) (a5 : Option Addr) (n5 c5 : Nat) (C : Cv) : Prop :=
  s = C.sz ∧ Nb w (.slice a1 n1 c1) C.p ∧ Nb w (.slice a2 n2 c2) C.n ∧ Nb w (.slice a3 n3 c3) C.b ∧ Nb w (.slice a4 n4 c4) C.gx ∧ Nb w (.slice a5 n5 c5) C.gy
theorem KindV.open {w : World} {cs : List Value} {C : Cv} (h : KindV w cs C) : ∃ s a1 n1 c1 a2 n2 c2 a3 n3 c3 a4 n4 c4 a5 n5 c5, cs = [.int .i64 (s : Nat), .slice a1 n1 c1, .slice a2 n2 c2, .slice a3 n3 c3, .slice a4 n4 c4, .slice a5 n5 c5] ∧ KindS w s a1 n1 c1 a2 n2 c2 a3 n3 c3 a4 n4 c4 a5 n5 c5 C := by
  obtain ⟨v1, v2, v3, v4, v5, rfl, h1, h2, h3, h4, h5⟩ := h
  obtain ⟨a1, c1, rfl⟩ := h1.form
  obtain ⟨a2, c2, rfl⟩ := h2.form
  obtain ⟨a3, c3, rfl⟩ := h3.form
  obtain ⟨a4, c4, rfl⟩ := h4.form
  obtain ⟨a5, c5, rfl⟩ := h5.form
  exact ⟨_, _, _, _, _, _, _, _, _, _, _, _, _, _, _, _, rfl, rfl, h1, h2, h3, h4, h5⟩
theorem KindS.v {w : World} {s : Nat} {a1 : Option Addr} {n1 c1 : Nat} {a2 : Option Addr} {n2 c2 : Nat} {a3 : Option Addr} {n3 c3 : Nat} {a4 : Option Addr} {n4 c4 : Nat} {a5 : Option Addr} {n5 c5 : Nat} {C : Cv} (h : KindS w s a1 n1 c1 a2 n2 c2 a3 n3 c3 a4 n4 c4 a5 n5 c5 C) :
    KindV w [.int .i64 s, .slice a1 n1 c1, .slice a2 n2 c2, .slice a3 n3 c3, .slice a4 n4 c4, .slice a5 n5 c5] C := by
  obtain ⟨rfl, h1, h2, h3, h4, h5⟩ := h
  exact ⟨_, _, _, _, _, rfl, h1, h2, h3, h4, h5⟩
theorem KindS.below {w w' : World} {s : Nat} {a1 : Option Addr} {n1 c1 : Nat} {a2 : Option Addr} {n2 c2 : Nat} {a3 : Option Addr} {n3 c3 : Nat} {a4 : Option Addr} {n4 c4 : Nat} {a5 : Option Addr} {n5 c5 : Nat} {C : Cv} (h : KindS w s a1 n1 c1 a2 n2 c2 a3 n3 c3 a4 n4 c4 a5 n5 c5 C) (hb : Below w.heap.size w w') :
    KindS w' s a1 n1 c1 a2 n2 c2 a3 n3 c3 a4 n4 c4 a5 n5 c5 C := ⟨h.1, h.2.1.below hb, h.2.2.1.below hb, h.2.2.2.1.below hb, h.2.2.2.2.1.below hb, h.2.2.2.2.2.below hb⟩
theorem kz_nn : ∀ c ∈ kz, ∀ n, c ≠ .int .u32 n := by intro c hc; unfold kz at hc; simp at hc; rcases hc with h | h <;> (subst h; intro n h; cases h)
theorem KindS.upd {w w' : World} {b : Nat} {s : Nat} {a1 : Option Addr} {n1 c1 : Nat} {a2 : Option Addr} {n2 c2 : Nat} {a3 : Option Addr} {n3 c3 : Nat} {a4 : Option Addr} {n4 c4 : Nat} {a5 : Option Addr} {n5 c5 : Nat} {C : Cv} {T : TypeId} (h : KindS w s a1 n1 c1 a2 n2 c2 a3 n3 c3 a4 n4 c4 a5 n5 c5 C) (hB : Blk T w b kz) (hU : Upd w w' b) :
    KindS w' s a1 n1 c1 a2 n2 c2 a3 n3 c3 a4 n4 c4 a5 n5 c5 C := ⟨h.1, h.2.1.upd hB kz_nn hU, h.2.2.1.upd hB kz_nn hU, h.2.2.2.1.upd hB kz_nn hU, h.2.2.2.2.1.upd hB kz_nn hU, h.2.2.2.2.2.upd hB kz_nn hU⟩
set_option maxHeartbeats 2000000 in
theorem pick_no {w : World} (c : Int) (h : crv c = none) : Calls Try.prog 43 #[.int .i64 c] w fun e w' => e = .returned (.tuple #[.agg kz.toArray, .bool false]) ∧ Below w.heap.size w w' := by
  have h1 : c ≠ 1 := fun e => by rw [e] at h; exact absurd h (by decide)
  have h2 : c ≠ 2 := fun e => by rw [e] at h; exact absurd h (by decide)
  clear h
  go_enter Try.func43, Try.ntmps43
  go_upto_region 1 with (fail)
  refine wp_gen (fun W => Blk 53 W w.heap.size kz ∧ Below w.heap.size w W) ⟨Blk.new _ w _, al1 _⟩ ?_
  rintro W2 ⟨hA, hBw⟩
  have d0 : World.cell? W2 ⟨w.heap.size, 0, none⟩ = some (.int .i64 0) := hA.cell 0
  have d1 : World.cell? W2 ⟨w.heap.size, 1, none⟩ = some (.slice none 0 0) := hA.cell 1
  have d2 : World.cell? W2 ⟨w.heap.size, 2, none⟩ = some (.slice none 0 0) := hA.cell 2
  have d3 : World.cell? W2 ⟨w.heap.size, 3, none⟩ = some (.slice none 0 0) := hA.cell 3
  have d4 : World.cell? W2 ⟨w.heap.size, 4, none⟩ = some (.slice none 0 0) := hA.cell 4
  have d5 : World.cell? W2 ⟨w.heap.size, 5, none⟩ = some (.slice none 0 0) := hA.cell 5
  have g0 : World.frozen? W2 ⟨w.heap.size, 0, none⟩ = false := hA.frozen 0
  have g1 : World.frozen? W2 ⟨w.heap.size, 1, none⟩ = false := hA.frozen 1
  have g2 : World.frozen? W2 ⟨w.heap.size, 2, none⟩ = false := hA.frozen 2
  have g3 : World.frozen? W2 ⟨w.heap.size, 3, none⟩ = false := hA.frozen 3
  have g4 : World.frozen? W2 ⟨w.heap.size, 4, none⟩ = false := hA.frozen 4
  have g5 : World.frozen? W2 ⟨w.heap.size, 5, none⟩ = false := hA.frozen 5
  have H2 : Hid (Blk 53 W2 w.heap.size kz ∧ Below w.heap.size w W2) := ⟨hA, hBw⟩
  clear hA hBw
  by_cases hlt : c < 1
  · have e0 : decide (c < 1) = true := by simpa using hlt
    clear h1 h2 hlt
    go_wp2
    obtain ⟨hF, hU⟩ := Blk.put6 H2.out.1 (.int .i64 0) (.slice none 0 0) (.slice none 0 0) (.slice none 0 0) (.slice none 0 0) (.slice none 0 0)
    exact bodyPost_ret (results_blk2 rfl rfl hF Try.underlying53 rfl Try.sizeKd rfl) rfl ⟨rfl, hU.below H2.out.2 H2.out.2.size (Nat.le_refl _)⟩
  · have e0 : decide (c < 1) = false := by simpa using hlt
    have e1 : decide (2 < c) = true := by simp; omega
    clear h1 h2 hlt
    go_wp2
    obtain ⟨hF, hU⟩ := Blk.put6 H2.out.1 (.int .i64 0) (.slice none 0 0) (.slice none 0 0) (.slice none 0 0) (.slice none 0 0) (.slice none 0 0)
    exact bodyPost_ret (results_blk2 rfl rfl hF Try.underlying53 rfl Try.sizeKd rfl) rfl ⟨rfl, hU.below H2.out.2 H2.out.2.size (Nat.le_refl _)⟩
set_option maxHeartbeats 2000000 in
theorem pick_1 {w : World} : Calls Try.prog 43 #[.int .i64 1] w fun e w' => ∃ s a1 n1 c1 a2 n2 c2 a3 n3 c3 a4 n4 c4 a5 n5 c5, e = .returned (.tuple #[.agg [.int .i64 (s : Nat), .slice a1 n1 c1, .slice a2 n2 c2, .slice a3 n3 c3, .slice a4 n4 c4, .slice a5 n5 c5].toArray, .bool true]) ∧ KindS w' s a1 n1 c1 a2 n2 c2 a3 n3 c3 a4 n4 c4 a5 n5 c5 c256 ∧ Below w.heap.size w w' := by
  go_enter Try.func43, Try.ntmps43
  go_upto_region 1 with (fail)
  refine wp_gen (fun W => Blk 53 W w.heap.size kz ∧ Below w.heap.size w W) ⟨Blk.new _ w _, al1 _⟩ ?_
  rintro W2 ⟨hA, hBw⟩
  have H2 : Hid (Blk 53 W2 w.heap.size kz ∧ Below w.heap.size w W2) := ⟨hA, hBw⟩
  clear hA hBw
  go_wp2_with fail
  refine (p256_any (w := W2)).mono ?_
  rintro e w3 ⟨cs, rfl, hk, hb3⟩
  obtain ⟨s, a1, n1, c1, a2, n2, c2, a3, n3, c3, a4, n4, c4, a5, n5, c5, rfl, hks⟩ := hk.open
  have hA := below_blk hb3 H2.out.1.lt H2.out.1
  have d0 : World.cell? w3 ⟨w.heap.size, 0, none⟩ = some (.int .i64 0) := hA.cell 0
  have d1 : World.cell? w3 ⟨w.heap.size, 1, none⟩ = some (.slice none 0 0) := hA.cell 1
  have d2 : World.cell? w3 ⟨w.heap.size, 2, none⟩ = some (.slice none 0 0) := hA.cell 2
  have d3 : World.cell? w3 ⟨w.heap.size, 3, none⟩ = some (.slice none 0 0) := hA.cell 3
  have d4 : World.cell? w3 ⟨w.heap.size, 4, none⟩ = some (.slice none 0 0) := hA.cell 4
  have d5 : World.cell? w3 ⟨w.heap.size, 5, none⟩ = some (.slice none 0 0) := hA.cell 5
  have g0 : World.frozen? w3 ⟨w.heap.size, 0, none⟩ = false := hA.frozen 0
  have g1 : World.frozen? w3 ⟨w.heap.size, 1, none⟩ = false := hA.frozen 1
  have g2 : World.frozen? w3 ⟨w.heap.size, 2, none⟩ = false := hA.frozen 2
  have g3 : World.frozen? w3 ⟨w.heap.size, 3, none⟩ = false := hA.frozen 3
  have g4 : World.frozen? w3 ⟨w.heap.size, 4, none⟩ = false := hA.frozen 4
  have g5 : World.frozen? w3 ⟨w.heap.size, 5, none⟩ = false := hA.frozen 5
  have H3 : Hid (Blk 53 w3 w.heap.size kz ∧ Below w.heap.size w w3 ∧ KindS w3 s a1 n1 c1 a2 n2 c2 a3 n3 c3 a4 n4 c4 a5 n5 c5 c256) := ⟨hA, below_via H2.out.2 hb3 (Nat.le_refl _), hks⟩
  clear hA hb3 hk hks H2
  go_wp2
  obtain ⟨hF, hU⟩ := Blk.put6 H3.out.1 (.int .i64 s) (.slice a1 n1 c1) (.slice a2 n2 c2) (.slice a3 n3 c3) (.slice a4 n4 c4) (.slice a5 n5 c5)
  exact bodyPost_ret (results_blk2 rfl rfl hF Try.underlying53 rfl Try.sizeKd rfl) rfl ⟨s, a1, n1, c1, a2, n2, c2, a3, n3, c3, a4, n4, c4, a5, n5, c5, rfl, H3.out.2.2.upd H3.out.1 hU, hU.below H3.out.2.1 H3.out.2.1.size (Nat.le_refl _)⟩
set_option maxHeartbeats 2000000 in
theorem pick_2 {w : World} : Calls Try.prog 43 #[.int .i64 2] w fun e w' => ∃ s a1 n1 c1 a2 n2 c2 a3 n3 c3 a4 n4 c4 a5 n5 c5, e = .returned (.tuple #[.agg [.int .i64 (s : Nat), .slice a1 n1 c1, .slice a2 n2 c2, .slice a3 n3 c3, .slice a4 n4 c4, .slice a5 n5 c5].toArray, .bool true]) ∧ KindS w' s a1 n1 c1 a2 n2 c2 a3 n3 c3 a4 n4 c4 a5 n5 c5 c384 ∧ Below w.heap.size w w' := by
  go_enter Try.func43, Try.ntmps43
  go_upto_region 1 with (fail)
  refine wp_gen (fun W => Blk 53 W w.heap.size kz ∧ Below w.heap.size w W) ⟨Blk.new _ w _, al1 _⟩ ?_
  rintro W2 ⟨hA, hBw⟩
  have H2 : Hid (Blk 53 W2 w.heap.size kz ∧ Below w.heap.size w W2) := ⟨hA, hBw⟩
  clear hA hBw
  go_wp2_with fail
  refine (p384_any (w := W2)).mono ?_
  rintro e w3 ⟨cs, rfl, hk, hb3⟩
  obtain ⟨s, a1, n1, c1, a2, n2, c2, a3, n3, c3, a4, n4, c4, a5, n5, c5, rfl, hks⟩ := hk.open
  have hA := below_blk hb3 H2.out.1.lt H2.out.1
  have d0 : World.cell? w3 ⟨w.heap.size, 0, none⟩ = some (.int .i64 0) := hA.cell 0
  have d1 : World.cell? w3 ⟨w.heap.size, 1, none⟩ = some (.slice none 0 0) := hA.cell 1
  have d2 : World.cell? w3 ⟨w.heap.size, 2, none⟩ = some (.slice none 0 0) := hA.cell 2
  have d3 : World.cell? w3 ⟨w.heap.size, 3, none⟩ = some (.slice none 0 0) := hA.cell 3
  have d4 : World.cell? w3 ⟨w.heap.size, 4, none⟩ = some (.slice none 0 0) := hA.cell 4
  have d5 : World.cell? w3 ⟨w.heap.size, 5, none⟩ = some (.slice none 0 0) := hA.cell 5
  have g0 : World.frozen? w3 ⟨w.heap.size, 0, none⟩ = false := hA.frozen 0
  have g1 : World.frozen? w3 ⟨w.heap.size, 1, none⟩ = false := hA.frozen 1
  have g2 : World.frozen? w3 ⟨w.heap.size, 2, none⟩ = false := hA.frozen 2
  have g3 : World.frozen? w3 ⟨w.heap.size, 3, none⟩ = false := hA.frozen 3
  have g4 : World.frozen? w3 ⟨w.heap.size, 4, none⟩ = false := hA.frozen 4
  have g5 : World.frozen? w3 ⟨w.heap.size, 5, none⟩ = false := hA.frozen 5
  have H3 : Hid (Blk 53 w3 w.heap.size kz ∧ Below w.heap.size w w3 ∧ KindS w3 s a1 n1 c1 a2 n2 c2 a3 n3 c3 a4 n4 c4 a5 n5 c5 c384) := ⟨hA, below_via H2.out.2 hb3 (Nat.le_refl _), hks⟩
  clear hA hb3 hk hks H2
  go_wp2
  obtain ⟨hF, hU⟩ := Blk.put6 H3.out.1 (.int .i64 s) (.slice a1 n1 c1) (.slice a2 n2 c2) (.slice a3 n3 c3) (.slice a4 n4 c4) (.slice a5 n5 c5)
  exact bodyPost_ret (results_blk2 rfl rfl hF Try.underlying53 rfl Try.sizeKd rfl) rfl ⟨s, a1, n1, c1, a2, n2, c2, a3, n3, c3, a4, n4, c4, a5, n5, c5, rfl, H3.out.2.2.upd H3.out.1 hU, hU.below H3.out.2.1 H3.out.2.1.size (Nat.le_refl _)⟩
theorem pick_yes {w : World} (c : Int) (C : Cv) (h : crv c = some C) : Calls Try.prog 43 #[.int .i64 c] w fun e w' => ∃ s a1 n1 c1 a2 n2 c2 a3 n3 c3 a4 n4 c4 a5 n5 c5, e = .returned (.tuple #[.agg [.int .i64 (s : Nat), .slice a1 n1 c1, .slice a2 n2 c2, .slice a3 n3 c3, .slice a4 n4 c4, .slice a5 n5 c5].toArray, .bool true]) ∧ KindS w' s a1 n1 c1 a2 n2 c2 a3 n3 c3 a4 n4 c4 a5 n5 c5 C ∧ Below w.heap.size w w' := by
  unfold crv at h
  split at h
  · rename_i h1; subst h1; cases h; exact pick_1
  · split at h
    · rename_i h1; subst h1; cases h; exact pick_2
    · cases h
end Go.Proofs.Ytkdclocjijmgpaa
/-
  Curve: which points lie on a curve.
-/
namespace Go.Proofs.Ytkdclocjijmgpaa
open Go.RowKit
set_option maxRecDepth 20000
/-- The curve's equation. -/
def onE (p b x y : Nat) : Bool := decide (fml p y y = fad p (fsb p (fml p (fml p x x) x) (fad p (fad p x x) x)) b)
def onB (p b : Nat) (X Y : List Int) : Bool := if farB X Y then true else if val X < p ∧ val Y < p then onE p b (val X).toNat (val Y).toNat else false
theorem cmp_ge {a b : Int} (h : b ≤ a) : ∃ c : Int, Nt.cmpI a b = c ∧ decide (c ≥ 0) = true := ⟨_, rfl, by unfold Nt.cmpI; rw [if_neg (by omega)]; split <;> decide⟩
theorem cmp_lt {a b : Int} (h : a < b) : Nt.cmpI a b = -1 := by unfold Nt.cmpI; rw [if_pos h]
theorem cmp_eq0 {a b : Nat} : (Nt.cmpI (a : Int) (b : Int) == 0) = decide (a = b) := by
  unfold Nt.cmpI
  by_cases h : a = b
  · subst h; simp
  · by_cases h1 : (a : Int) < b
    · rw [if_pos h1]; simp [h]
    · rw [if_neg h1, if_pos (by omega)]; simp [h]
theorem LCmp {w : World} (a b : Value) (X : List Int) (y : Nat) (ha : Sl .u32 w a X) (uX : U32s X) (lX : X.length ≤ 1000000) (hb : Nb w b y) (hy : (lim y).length ≤ 512) (c : Int) (hc : Nt.cmpI (val X) y = c) :
    Calls Try.prog 63 #[a, b] w fun e w' => e = .returned (.int .i64 c) ∧ Below w.heap.size w w' := by
  refine (Nt.Cmp_any X (lim y) a b w ha hb uX (lim_u32 _) (by omega) (by omega)).mono ?_
  rintro e w' ⟨rfl, hB⟩
  rw [val_lim, hc]
  exact ⟨rfl, hB⟩
theorem LTrim {w : World} (a : Value) (X : List Int) (ha : Sl .u32 w a X) (uX : U32s X) (lX : X.length ≤ 1000000) :
    Calls Try.prog 33 #[a] w fun e w' => ∃ r, e = .returned r ∧ Nb w' r (val X).toNat ∧ Below w.heap.size w w' :=
  (Nt.Trim_any X a w ha uX (by omega)).mono fun e w' ⟨r, he, ho, hb⟩ => ⟨r, he, ho.sl, hb⟩
set_option maxHeartbeats 8000000 in
theorem Kon {w : World} (v0 f v2 rb v4 v5 vx vy : Value) (p xb : Nat) (X Y : List Int) (hf : Fld w f p) (hb : Nb w rb xb) (lb : xb < p) (hX : Sl .u32 w vx X) (hY : Sl .u32 w vy Y) (uX : U32s X) (uY : U32s Y) (lX : X.length ≤ 1000000) (lY : Y.length ≤ 1000000) :
    Calls Try.prog 46 #[.agg #[v0, f, v2, rb, v4, v5], .agg #[vx, vy]] w fun e w' => e = .returned (.bool (onB p xb X Y)) ∧ Below w.heap.size w w' := by
  have HFr : Hid (∀ W, Below w.heap.size w W → Calls Try.prog 45 #[.agg #[vx, vy]] W fun e w' => e = .returned (.bool (farB X Y)) ∧ Below W.heap.size W w') := fun W hW => PisFar vx vy X Y (below_sl hW hX) (below_sl hW hY) uX uY lX lY
  have sp : Sm p := by have := sm_two (x := 0) (y := p) hf.2.2 hf.2.1 (Nat.le_refl _); simpa using this
  have HCx : Hid (∀ W c, Below w.heap.size w W → Nt.cmpI (val X) p = c → Calls Try.prog 63 #[vx, f] W fun e w' => e = .returned (.int .i64 c) ∧ Below W.heap.size W w') := fun W c hW hc => LCmp vx f X p (below_sl hW hX) uX lX (hf.1.below hW) (lim512 sp) c hc
  have HCy : Hid (∀ W c, Below w.heap.size w W → Nt.cmpI (val Y) p = c → Calls Try.prog 63 #[vy, f] W fun e w' => e = .returned (.int .i64 c) ∧ Below W.heap.size W w') := fun W c hW hc => LCmp vy f Y p (below_sl hW hY) uY lY (hf.1.below hW) (lim512 sp) c hc
  have HTx : Hid (∀ W, Below w.heap.size w W → Calls Try.prog 33 #[vx] W fun e w' => ∃ r, e = .returned r ∧ Nb w' r (val X).toNat ∧ Below W.heap.size W w') := fun W hW => LTrim vx X (below_sl hW hX) uX lX
  have HTy : Hid (∀ W, Below w.heap.size w W → Calls Try.prog 33 #[vy] W fun e w' => ∃ r, e = .returned r ∧ Nb w' r (val Y).toNat ∧ Below W.heap.size W w') := fun W hW => LTrim vy Y (below_sl hW hY) uY lY
  have HV0 : Hid (0 ≤ val X ∧ 0 ≤ val Y) := ⟨val_nonneg uX, val_nonneg uY⟩
  have HF : Hid (Fld w f p ∧ Nb w rb xb) := ⟨hf, hb⟩
  have HSp : Hid (Sm p) := sp
  have Lb : Hid (xb < p) := lb
  obtain ⟨R, hR⟩ : ∃ R, onB p xb X Y = R := ⟨_, rfl⟩
  have HR : Hid ((if farB X Y then true else if val X < p ∧ val Y < p then onE p xb (val X).toNat (val Y).toNat else false) = R) := by show _ = _; rw [← hR]; rfl
  rw [hR]
  obtain ⟨VX, hVX⟩ : ∃ V, val X = V := ⟨_, rfl⟩
  obtain ⟨VY, hVY⟩ : ∃ V, val Y = V := ⟨_, rfl⟩
  rw [hVX] at HCx HTx HR HV0
  rw [hVY] at HCy HTy HR HV0
  clear hf hb lb hX hY uX uY lX lY hR sp hVX hVY
  go_enter Try.func46, Try.ntmps46
  go_upto_region 1 with (first | (refine wpList_boxR rfl 53 (.tmp 0) rfl #[v0, f, v2, rb, v4, v5] rfl ?_) | (refine wpList_boxR rfl 24 (.tmp 1) rfl #[vx, vy] rfl ?_))
  refine wp_gen (fun W => Blk 53 W w.heap.size [v0, f, v2, rb, v4, v5] ∧ Blk 24 W (w.heap.size + 1) [vx, vy] ∧ Below w.heap.size w W) ⟨(Blk.new _ w [v0, f, v2, rb, v4, v5]).alloc _, by have := Blk.new 24 (w.alloc (.cells [v0, f, v2, rb, v4, v5].toArray 53)) [vx, vy]; rw [World.size_alloc] at this; exact this, (al1 _).alloc (by simp) _⟩ ?_
  rintro W2 ⟨hC, hB, hBw⟩
  have H2 : Hid (Below w.heap.size w W2 ∧ ∀ W3, Below W2.heap.size W2 W3 → W3.cell? ⟨w.heap.size, 1, none⟩ = some f ∧ W3.cell? ⟨w.heap.size, 3, none⟩ = some rb ∧ W3.cell? ⟨w.heap.size + 1, 0, none⟩ = some vx ∧ W3.cell? ⟨w.heap.size + 1, 1, none⟩ = some vy ∧ Below w.heap.size w W3 ∧ W3.rangeAt (w.heap.size + 1) 0 [vx, vy]) := ⟨hBw, fun W3 h3 => ⟨(below_blk h3 hC.lt hC).cell 1, (below_blk h3 hC.lt hC).cell 3, (below_blk h3 hB.lt hB).cell 0, (below_blk h3 hB.lt hB).cell 1, below_via hBw h3 (Nat.le_refl _), (below_blk h3 hB.lt hB).whole⟩⟩
  clear hC hB hBw
  go_wp2_with (refine wpList_load_mid rfl 24 (.tmp 3) rfl (w.heap.size + 1) 0 rfl [vx, vy] _ (H2.out.2 _ (Below.refl _ _)).2.2.2.2.2 Try.underlying24 rfl (by kernel_rfl) ?_)
  refine (HFr.out _ H2.out.1).mono ?_
  rintro e w3 ⟨rfl, hb3⟩
  have H3 : Hid (Below W2.heap.size W2 w3) := hb3
  clear hb3
  cases hfr : farB X Y with
  | true =>
    have HQ : Hid (true = R) := by show _ = _; rw [← HR.out, hfr]; rfl
    clear hfr HR
    go_wp2
    go_ret
    exact ⟨by rw [← HQ.out]; rfl, (H2.out.2 _ H3.out).2.2.2.2.1⟩
  | false =>
  have HQ : Hid ((if VX < p ∧ VY < p then onE p xb VX.toNat VY.toNat else false) = R) := by show _ = _; rw [← HR.out, hfr]; rfl
  clear hfr HR
  have k1 := (H2.out.2 _ H3.out).1
  have k3 := (H2.out.2 _ H3.out).2.2.1
  by_cases hx : ¬ VX < p
  · obtain ⟨c, hc, d⟩ := cmp_ge (a := VX) (b := p) (by omega)
    have HC : Hid (Nt.cmpI VX p = c) := hc
    have HQ2 : Hid (false = R) := by show _ = _; rw [← HQ.out]; exact (if_neg (by omega)).symm
    clear hx hc HQ
    go_wp2_with (go_at_call 63; refine (HCx.out _ c (H2.out.2 _ H3.out).2.2.2.2.1 HC.out).mono ?_; rintro e w4 ⟨rfl, hb4⟩; have H4 : Hid (Below W2.heap.size W2 w4) := below_via H3.out hb4 (Nat.le_refl _); clear hb4)
    go_ret
    exact ⟨by rw [← HQ2.out]; rfl, (H2.out.2 _ H4.out).2.2.2.2.1⟩
  have hx := Decidable.not_not.1 hx
  have HC := cmp_lt hx
  have HCx2 : Hid (Nt.cmpI VX p = -1) := HC
  clear HC
  go_wp2_with fail
  refine (HCx.out _ (-1) (H2.out.2 _ H3.out).2.2.2.2.1 HCx2.out).mono ?_
  rintro e w4 ⟨rfl, hb4⟩
  have H4 : Hid (Below W2.heap.size W2 w4) := below_via H3.out hb4 (Nat.le_refl _)
  clear hb4 k1 k3
  have k1 := (H2.out.2 _ H4.out).1
  have k4 := (H2.out.2 _ H4.out).2.2.2.1
  by_cases hy : ¬ VY < p
  · obtain ⟨c, hc, d⟩ := cmp_ge (a := VY) (b := p) (by omega)
    have HC : Hid (Nt.cmpI VY p = c) := hc
    have HQ2 : Hid (false = R) := by show _ = _; rw [← HQ.out]; exact (if_neg (by omega)).symm
    clear hx hy hc HQ
    go_wp2_with (go_at_call 63; refine (HCy.out _ c (H2.out.2 _ H4.out).2.2.2.2.1 HC.out).mono ?_; rintro e w5 ⟨rfl, hb5⟩; have H5 : Hid (Below W2.heap.size W2 w5) := below_via H4.out hb5 (Nat.le_refl _); clear hb5)
    go_ret
    exact ⟨by rw [← HQ2.out]; rfl, (H2.out.2 _ H5.out).2.2.2.2.1⟩
  have hy := Decidable.not_not.1 hy
  have HC := cmp_lt hy
  have HCy2 : Hid (Nt.cmpI VY p = -1) := HC
  have HQ2 : Hid (onE p xb VX.toNat VY.toNat = R) := by show _ = _; rw [← HQ.out]; exact (if_pos ⟨hx, hy⟩).symm
  obtain ⟨xx, hxx⟩ : ∃ x : Nat, VX.toNat = x := ⟨_, rfl⟩
  obtain ⟨xy, hxy⟩ : ∃ x : Nat, VY.toNat = x := ⟨_, rfl⟩
  have Lx : Hid (xx < p) := by show _ < _; have := HV0.out; omega
  have Ly : Hid (xy < p) := by show _ < _; have := HV0.out; omega
  rw [hxx] at HTx HQ2
  rw [hxy] at HTy HQ2
  clear HC HQ hx hy hxx hxy
  go_wp2_with (go_at_call 63; refine (HCy.out _ (-1) (H2.out.2 _ H4.out).2.2.2.2.1 HCy2.out).mono ?_; rintro e w5 ⟨rfl, hb5⟩; have H5 : Hid (Below W2.heap.size W2 w5) := below_via H4.out hb5 (Nat.le_refl _); clear hb5 k1 k4)
  have HQ5 : Hid (∀ W3, Below w5.heap.size w5 W3 → W3.cell? ⟨w.heap.size, 1, none⟩ = some f ∧ W3.cell? ⟨w.heap.size + 1, 0, none⟩ = some vx ∧ W3.cell? ⟨w.heap.size + 1, 1, none⟩ = some vy) := fun W3 h3 => ⟨(H2.out.2 _ (below_via H5.out h3 (Nat.le_refl _))).1, (H2.out.2 _ (below_via H5.out h3 (Nat.le_refl _))).2.2.1, (H2.out.2 _ (below_via H5.out h3 (Nat.le_refl _))).2.2.2.1⟩
  have HD5 : Hid (Below W2.heap.size W2 w5.drew) := Below.drew H5.out
  go_region_held3 (fun W => Below w5.heap.size w5 W ∧ W.cell? ⟨w.heap.size, 1, none⟩ = some f ∧ W.cell? ⟨w.heap.size + 1, 0, none⟩ = some vx ∧ W.cell? ⟨w.heap.size + 1, 1, none⟩ = some vy)
    (first | assumption | exact (fun h => ⟨h, HQ5.out _ h⟩) (Below.drew (Below.refl _ _)) | exact (fun h => ⟨h, HQ5.out _ h⟩) (below_via (And.left (by assumption)) (by assumption) (Nat.le_refl _)))
    (first
    | (replace H6 := H6; go_at_call 33; refine (HTy.out _ (H2.out.2 _ H6.out.1).2.2.2.2.1).mono ?_; rintro e w7 ⟨ry, rfl, hr7, hb7⟩; have H7 : Hid (Below W2.heap.size W2 w7 ∧ Fld w7 f p ∧ Nb w7 rx xx ∧ Nb w7 ry xy ∧ Nb w7 rb xb ∧ True) := ⟨below_via H6.out.1 hb7 (Nat.le_refl _), HF.out.1.below (H2.out.2 _ (below_via H6.out.1 hb7 (Nat.le_refl _))).2.2.2.2.1, H6.out.2.below hb7, hr7, HF.out.2.below (H2.out.2 _ (below_via H6.out.1 hb7 (Nat.le_refl _))).2.2.2.2.1, trivial⟩; clear hr7)
    | (go_at_call 33; refine (HTx.out _ (H2.out.2 _ HD5.out).2.2.2.2.1).mono ?_; rintro e w6 ⟨rx, rfl, hr6, hb6⟩; have H6 : Hid (Below W2.heap.size W2 w6 ∧ Nb w6 rx xx) := ⟨below_via HD5.out hb6 (Nat.le_refl _), hr6⟩; clear hr6))
  clear hb6 hb7 H6
  have HQ7 : Hid (∀ W3, Below w7.heap.size w7 W3 → W3.cell? ⟨w.heap.size, 3, none⟩ = some rb) := fun W3 h3 => (H2.out.2 _ (below_via H7.out.1 h3 (Nat.le_refl _))).2.1
  go_wp2_with fail
  have HDg0 : Hid (Below W2.heap.size W2 w7.drew ∧ Fld w7.drew f p ∧ Nb w7.drew rx xx ∧ Nb w7.drew ry xy ∧ Nb w7.drew rb xb ∧ True) := ⟨Below.drew H7.out.1, H7.out.2.1.below (Below.drew (Below.refl _ _)), (H7.out.2.2.1).below (Below.drew (Below.refl _ _)), (H7.out.2.2.2.1).below (Below.drew (Below.refl _ _)), (H7.out.2.2.2.2.1).below (Below.drew (Below.refl _ _)), trivial⟩
  clear H7
  go_region_held3 (fun W => Below w7.heap.size w7 W ∧ W.cell? ⟨w.heap.size, 3, none⟩ = some rb)
    (first | assumption | exact (fun h => ⟨h, HQ7.out _ h⟩) (Below.drew (Below.refl _ _)) | exact (fun h => ⟨h, HQ7.out _ h⟩) (below_via (And.left (by assumption)) (by assumption) (Nat.le_refl _)))
    (first
    | (replace H4s := H4s; go_at_call 78; refine (Fplus f _ _ p xq4 xb H4s.out.2.1 H4s.out.2.2.2.2.1 H4s.out.2.2.2.1 Lq4.out Lb.out).mono ?_; rintro e w5s ⟨rrt, rfl, hrrt, hbrt⟩; obtain ⟨xrt, hxrt⟩ : ∃ x, fad p xq4 xb = x := ⟨_, rfl⟩; rw [hxrt] at hrrt; have Ert : Hid (fad p xq4 xb = xrt) := hxrt; have Lrt : Hid (xrt < p) := (by show _ < _; rw [← hxrt]; exact fad_lt H4s.out.2.1.2.1); have H5s : Hid (Below W2.heap.size W2 w5s ∧ Fld w5s f p ∧ Nb w5s ry xy ∧ Nb w5s rrt xrt ∧ True) := ⟨below_via H4s.out.1 hbrt (Nat.le_refl _), H4s.out.2.1.below hbrt, (H4s.out.2.2.1).below hbrt, hrrt, trivial⟩; clear hrrt hxrt)
    | (replace H3s := H3s; go_at_call 34; refine (Fminus f _ _ p xq2 xq3 H3s.out.2.1 H3s.out.2.2.2.2.1 H3s.out.2.2.2.2.2.1 Lq2.out Lq3.out).mono ?_; rintro e w4s ⟨rq4, rfl, hrq4, hbq4⟩; obtain ⟨xq4, hxq4⟩ : ∃ x, fsb p xq2 xq3 = x := ⟨_, rfl⟩; rw [hxq4] at hrq4; have Eq4 : Hid (fsb p xq2 xq3 = xq4) := hxq4; have Lq4 : Hid (xq4 < p) := (by show _ < _; rw [← hxq4]; exact fsb_lt H3s.out.2.1.2.1); have H4s : Hid (Below W2.heap.size W2 w4s ∧ Fld w4s f p ∧ Nb w4s ry xy ∧ Nb w4s rb xb ∧ Nb w4s rq4 xq4 ∧ True) := ⟨below_via H3s.out.1 hbq4 (Nat.le_refl _), H3s.out.2.1.below hbq4, (H3s.out.2.2.1).below hbq4, (H3s.out.2.2.2.1).below hbq4, hrq4, trivial⟩; clear hrq4 hxq4)
    | (replace H2s := H2s; go_at_call 79; refine (Fthrice f _ p xx H2s.out.2.1 H2s.out.2.2.1 Lx.out).mono ?_; rintro e w3s ⟨rq3, rfl, hrq3, hbq3⟩; obtain ⟨xq3, hxq3⟩ : ∃ x, fad p (fad p xx xx) xx = x := ⟨_, rfl⟩; rw [hxq3] at hrq3; have Eq3 : Hid (fad p (fad p xx xx) xx = xq3) := hxq3; have Lq3 : Hid (xq3 < p) := (by show _ < _; rw [← hxq3]; exact fad_lt H2s.out.2.1.2.1); have H3s : Hid (Below W2.heap.size W2 w3s ∧ Fld w3s f p ∧ Nb w3s ry xy ∧ Nb w3s rb xb ∧ Nb w3s rq2 xq2 ∧ Nb w3s rq3 xq3 ∧ True) := ⟨below_via H2s.out.1 hbq3 (Nat.le_refl _), H2s.out.2.1.below hbq3, (H2s.out.2.2.2.1).below hbq3, (H2s.out.2.2.2.2.1).below hbq3, (H2s.out.2.2.2.2.2.1).below hbq3, hrq3, trivial⟩; clear hrq3 hxq3)
    | (replace H1s := H1s; go_at_call 50; refine (Ftimes f _ _ p xq1 xx H1s.out.2.1 H1s.out.2.2.2.2.2.1 H1s.out.2.2.1 Lq1.out Lx.out).mono ?_; rintro e w2s ⟨rq2, rfl, hrq2, hbq2⟩; obtain ⟨xq2, hxq2⟩ : ∃ x, fml p xq1 xx = x := ⟨_, rfl⟩; rw [hxq2] at hrq2; have Eq2 : Hid (fml p xq1 xx = xq2) := hxq2; have Lq2 : Hid (xq2 < p) := (by show _ < _; rw [← hxq2]; exact fml_lt H1s.out.2.1.2.1); have H2s : Hid (Below W2.heap.size W2 w2s ∧ Fld w2s f p ∧ Nb w2s rx xx ∧ Nb w2s ry xy ∧ Nb w2s rb xb ∧ Nb w2s rq2 xq2 ∧ True) := ⟨below_via H1s.out.1 hbq2 (Nat.le_refl _), H1s.out.2.1.below hbq2, (H1s.out.2.2.1).below hbq2, (H1s.out.2.2.2.1).below hbq2, (H1s.out.2.2.2.2.1).below hbq2, hrq2, trivial⟩; clear hrq2 hxq2)
    | (go_at_call 49; refine (Fsquare f _ p xx HDg0.out.2.1 HDg0.out.2.2.1 Lx.out).mono ?_; rintro e w1s ⟨rq1, rfl, hrq1, hbq1⟩; obtain ⟨xq1, hxq1⟩ : ∃ x, fml p xx xx = x := ⟨_, rfl⟩; rw [hxq1] at hrq1; have Eq1 : Hid (fml p xx xx = xq1) := hxq1; have Lq1 : Hid (xq1 < p) := (by show _ < _; rw [← hxq1]; exact fml_lt HDg0.out.2.1.2.1); have H1s : Hid (Below W2.heap.size W2 w1s ∧ Fld w1s f p ∧ Nb w1s rx xx ∧ Nb w1s ry xy ∧ Nb w1s rb xb ∧ Nb w1s rq1 xq1 ∧ True) := ⟨below_via HDg0.out.1 hbq1 (Nat.le_refl _), HDg0.out.2.1.below hbq1, (HDg0.out.2.2.1).below hbq1, (HDg0.out.2.2.2.1).below hbq1, (HDg0.out.2.2.2.2.1).below hbq1, hrq1, trivial⟩; clear hrq1 hxq1))
  clear hbq1 hbq2 hbq3 hbq4 hbrt
  go_wp2_with fail
  refine (Fsquare f _ p xy H5s.out.2.1 H5s.out.2.2.1 Ly.out).mono ?_
  rintro e w6s ⟨ryy, rfl, hr, hb⟩
  obtain ⟨xyy, hx⟩ : ∃ x, fml p xy xy = x := ⟨_, rfl⟩
  rw [hx] at hr
  have Eyy : Hid (fml p xy xy = xyy) := hx
  have Lyy : Hid (xyy < p) := by show _ < _; rw [← hx]; exact fml_lt H5s.out.2.1.2.1
  have H6s : Hid (Below W2.heap.size W2 w6s ∧ Fld w6s f p ∧ Nb w6s rrt xrt ∧ Nb w6s ryy xyy ∧ True) := ⟨below_via H5s.out.1 hb (Nat.le_refl _), H5s.out.2.1.below hb, (H5s.out.2.2.2.1).below hb, hr, trivial⟩
  clear hr hb hx H5s
  have HE : Hid (decide (xyy = xrt) = R) := by show _ = _; rw [← HQ2.out]; unfold onE; simp only [Eq1.out, Eq2.out, Eq3.out, Eq4.out, Ert.out, Eyy.out]
  obtain ⟨cc, hcc⟩ : ∃ c, Nt.cmpI (xyy : Int) (xrt : Int) = c := ⟨_, rfl⟩
  have HCC : Hid (Nt.cmpI (xyy : Int) (xrt : Int) = cc ∧ (cc == 0) = R) := ⟨hcc, by rw [← HE.out, ← hcc]; exact cmp_eq0⟩
  have sy := sm_of H6s.out.2.1.2.2 Lyy.out
  have sr := sm_of H6s.out.2.1.2.2 Lrt.out
  have HSM : Hid (Sm xyy ∧ Sm xrt) := ⟨sy, sr⟩
  clear hcc sy sr
  go_wp2_with (go_at_call 63; refine (NCmp _ _ xyy xrt H6s.out.2.2.2.1 H6s.out.2.2.1 (lim512 HSM.out.1) (lim512 HSM.out.2) cc HCC.out.1).mono ?_; rintro e w9 ⟨rfl, hb9⟩; have H9 : Hid (Below W2.heap.size W2 w9) := below_via H6s.out.1 hb9 (Nat.le_refl _); clear hb9)
  go_ret
  exact ⟨by rw [← HCC.out.2]; rfl, (H2.out.2 _ H9.out).2.2.2.2.1⟩
end Go.Proofs.Ytkdclocjijmgpaa
/-
  Curve: On, Size, Prime, Order, Base.
-/
namespace Go.Proofs.Ytkdclocjijmgpaa
open Go.RowKit
set_option maxRecDepth 20000
theorem crv_ok {c : Int} {C : Cv} (h : crv c = some C) : 0 < C.p ∧ C.p < 4294967296 ^ 12 ∧ C.b < C.p ∧ C.gx < C.p ∧ C.gy < C.p ∧ 0 < C.n ∧ C.n < 4294967296 ^ 12 := by
  unfold crv at h
  split at h
  · cases h; decide +kernel
  · split at h
    · cases h; decide +kernel
    · cases h
/-- On, as a bool. -/
def onC (c : Int) (X Y : List Int) : Bool := match crv c with
  | none => false
  | some C => onB C.p C.b X Y
set_option maxHeartbeats 4000000 in
theorem On_any {w : World} (c : Int) (vx vy : Value) (X Y : List Int) (hX : Sl .u32 w vx X) (hY : Sl .u32 w vy Y) (uX : U32s X) (uY : U32s Y) (lX : X.length ≤ 1000000) (lY : Y.length ≤ 1000000) :
    Calls Try.prog 23 #[.int .i64 c, .agg #[vx, vy]] w fun e w' => e = .returned (.bool (onC c X Y)) ∧ Below w.heap.size w w' := by
  have HX : Hid (Sl .u32 w vx X ∧ Sl .u32 w vy Y ∧ U32s X ∧ U32s Y ∧ X.length ≤ 1000000 ∧ Y.length ≤ 1000000) := ⟨hX, hY, uX, uY, lX, lY⟩
  clear hX hY uX uY lX lY
  go_enter Try.func23, Try.ntmps23
  go_upto_region 1 with (refine wpList_boxR rfl 24 (.tmp 1) rfl #[vx, vy] rfl ?_)
  refine wp_gen (fun W => Blk 24 W w.heap.size [vx, vy] ∧ Below w.heap.size w W) ⟨Blk.new _ w _, al1 _⟩ ?_
  rintro W2 ⟨hB, hBw⟩
  have H2 : Hid (Below w.heap.size w W2 ∧ ∀ W3, Below W2.heap.size W2 W3 → W3.rangeAt w.heap.size 0 [vx, vy] ∧ Below w.heap.size w W3) := ⟨hBw, fun W3 h3 => ⟨(below_blk h3 hB.lt hB).whole, below_via hBw h3 (Nat.le_refl _)⟩⟩
  clear hB hBw
  cases hc : crv c with
  | none =>
    have HO : Hid (onC c X Y = false) := by show _ = _; unfold onC; rw [hc]
    go_wp2_with fail
    refine (pick_no c hc).mono ?_
    rintro e w3 ⟨rfl, hb3⟩
    have H3 : Hid (Below W2.heap.size W2 w3) := hb3
    clear hb3 hc
    unfold kz
    go_upto_region 2 with (fail)
    refine wp_gen (fun W => Below w3.heap.size w3 W) (al1 _) ?_
    rintro W4 hb4
    have H4 : Hid (Below w.heap.size w W4) := (H2.out.2 _ (below_via H3.out hb4 (Nat.le_refl _))).2
    clear hb4
    go_wp2
    go_ret
    exact ⟨by rw [HO.out]; rfl, H4.out⟩
  | some C =>
    have HO : Hid (onC c X Y = onB C.p C.b X Y) := by show _ = _; unfold onC; rw [hc]
    have HK : Hid (0 < C.p ∧ C.p < 4294967296 ^ 12 ∧ C.b < C.p) := ⟨(crv_ok hc).1, (crv_ok hc).2.1, (crv_ok hc).2.2.1⟩
    go_wp2_with fail
    refine (pick_yes c C hc).mono ?_
    rintro e w3 ⟨s, a1, n1, c1, a2, n2, c2, a3, n3, c3, a4, n4, c4, a5, n5, c5, rfl, hk, hb3⟩
    have H3 : Hid (Below W2.heap.size W2 w3 ∧ KindS w3 s a1 n1 c1 a2 n2 c2 a3 n3 c3 a4 n4 c4 a5 n5 c5 C) := ⟨hb3, hk⟩
    clear hb3 hc hk
    go_upto_region 2 with (fail)
    refine wp_gen (fun W => Blk 53 W w3.heap.size [.int .i64 s, .slice a1 n1 c1, .slice a2 n2 c2, .slice a3 n3 c3, .slice a4 n4 c4, .slice a5 n5 c5] ∧ Below w3.heap.size w3 W) ⟨Blk.new _ _ _, al1 _⟩ ?_
    rintro W4 ⟨hB4, hb4⟩
    have hb24 := below_via H3.out.1 hb4 (Nat.le_refl _)
    have H4 : Hid (Below w.heap.size w W4 ∧ True ∧ True ∧ KindS W4 s a1 n1 c1 a2 n2 c2 a3 n3 c3 a4 n4 c4 a5 n5 c5 C) := ⟨(H2.out.2 _ hb24).2, trivial, trivial, H3.out.2.below hb4⟩
    have k0 : W4.cell? ⟨w3.heap.size, 0, none⟩ = some (.int .i64 s) := hB4.cell 0
    have k1 : W4.cell? ⟨w3.heap.size, 1, none⟩ = some (.slice a1 n1 c1) := hB4.cell 1
    have k2 : W4.cell? ⟨w3.heap.size, 2, none⟩ = some (.slice a2 n2 c2) := hB4.cell 2
    have k3 : W4.cell? ⟨w3.heap.size, 3, none⟩ = some (.slice a3 n3 c3) := hB4.cell 3
    have k4 : W4.cell? ⟨w3.heap.size, 4, none⟩ = some (.slice a4 n4 c4) := hB4.cell 4
    have k5 : W4.cell? ⟨w3.heap.size, 5, none⟩ = some (.slice a5 n5 c5) := hB4.cell 5
    have p0 : W4.cell? ⟨w.heap.size, 0, none⟩ = some vx := (H2.out.2 _ hb24).1 0 vx rfl
    have p1 : W4.cell? ⟨w.heap.size, 1, none⟩ = some vy := (H2.out.2 _ hb24).1 1 vy rfl
    clear hb4 hB4 hb24
    go_wp2_with (
        (go_at_call 46; refine (Kon _ _ _ _ _ _ vx vy C.p C.b X Y ⟨H4.out.2.2.2.2.1, HK.out.1, HK.out.2.1⟩ H4.out.2.2.2.2.2.2.1 HK.out.2.2 (below_sl H4.out.1 HX.out.1) (below_sl H4.out.1 HX.out.2.1) HX.out.2.2.1 HX.out.2.2.2.1 HX.out.2.2.2.2.1 HX.out.2.2.2.2.2).mono ?_; rintro e w5 ⟨rfl, hb5⟩; have H5 : Hid (Below w.heap.size w w5) := below_via H4.out.1 hb5 (Nat.le_refl _); clear hb5))
    go_ret
    exact ⟨by rw [HO.out]; rfl, H5.out⟩
def crvN (f : Cv → Nat) : Option Cv → Nat
  | none => 0
  | some C => f C
set_option maxHeartbeats 4000000 in
theorem Size_any {w : World} (c : Int) : Calls Try.prog 22 #[.int .i64 c] w fun e w' => e = .returned (.int .i64 (crvN (·.sz) (crv c) : Nat)) ∧ Below w.heap.size w w' := by
  cases hc : crv c with
  | none =>
    go_enter Try.func22, Try.ntmps22
    go_wp2_with fail
    refine (pick_no c hc).mono ?_
    rintro e w3 ⟨rfl, hb3⟩
    have H3 : Hid (Below w.heap.size w w3) := hb3
    clear hb3 hc
    unfold kz
    go_upto_region 2 with (fail)
    refine wp_gen (fun W => Blk 53 W w3.heap.size [.int .i64 0, .slice none 0 0, .slice none 0 0, .slice none 0 0, .slice none 0 0, .slice none 0 0] ∧ Below w3.heap.size w3 W) ⟨Blk.new _ _ _, al1 _⟩ ?_
    rintro W4 ⟨hB4, hb4⟩
    have hk : W4.cell? ⟨w3.heap.size, 0, none⟩ = some (.int .i64 0) := hB4.cell 0
    have H4 : Hid (Below w.heap.size w W4) := below_via H3.out hb4 (Nat.le_refl _)
    clear hb4 hB4
    go_wp2
    go_ret
    exact ⟨rfl, H4.out⟩
  | some C =>
    go_enter Try.func22, Try.ntmps22
    go_wp2_with fail
    refine (pick_yes c C hc).mono ?_
    rintro e w3 ⟨s, a1, n1, c1, a2, n2, c2, a3, n3, c3, a4, n4, c4, a5, n5, c5, rfl, hk, hb3⟩
    have H3 : Hid (Below w.heap.size w w3 ∧ KindS w3 s a1 n1 c1 a2 n2 c2 a3 n3 c3 a4 n4 c4 a5 n5 c5 C) := ⟨hb3, hk⟩
    clear hb3 hc hk
    go_upto_region 2 with (fail)
    refine wp_gen (fun W => Blk 53 W w3.heap.size [.int .i64 s, .slice a1 n1 c1, .slice a2 n2 c2, .slice a3 n3 c3, .slice a4 n4 c4, .slice a5 n5 c5] ∧ Below w3.heap.size w3 W) ⟨Blk.new _ _ _, al1 _⟩ ?_
    rintro W4 ⟨hB4, hb4⟩
    have hk : W4.cell? ⟨w3.heap.size, 0, none⟩ = some (.int .i64 s) := hB4.cell 0
    have H4 : Hid (Below w.heap.size w W4 ∧ KindS W4 s a1 n1 c1 a2 n2 c2 a3 n3 c3 a4 n4 c4 a5 n5 c5 C) := ⟨below_via H3.out.1 hb4 (Nat.le_refl _), H3.out.2.below hb4⟩
    clear hb4 hB4
    go_wp2
    go_ret
    exact ⟨congrArg (fun z : Nat => Ending.returned (Value.int .i64 z)) H4.out.2.1, H4.out.1⟩
end Go.Proofs.Ytkdclocjijmgpaa
/-
  Curve: digit, Base.
-/
namespace Go.Proofs.Ytkdclocjijmgpaa
open Go.RowKit
set_option maxRecDepth 20000
set_option maxHeartbeats 1000000 in
theorem digit_any (X : List Int) (i : Nat) (v : Value) (w : World) (hX : Sl .u32 w v X) (uX : U32s X) (hi : i < 1073741824) (hl : X.length ≤ 1073741824) :
    Calls Try.prog 74 #[v, .int .i64 i] w fun e w' => e = .returned (.int .u32 ((val X).toNat / 2 ^ i % 2 : Nat)) ∧ w = w' := by
  obtain ⟨a, c, rfl, hc, h1⟩ := hX
  obtain ⟨y, hy⟩ : ∃ y, X.getD (i / 32) 0 = y := ⟨_, rfl⟩
  have uy : U32 y := hy ▸ uX.at _
  obtain ⟨u1, u2⟩ := uy
  obtain ⟨m, hm⟩ : ∃ m, i / 32 = m := ⟨_, rfl⟩
  obtain ⟨s, hs⟩ : ∃ s, i % 32 = s := ⟨_, rfl⟩
  have HE : Hid ((val X).toNat / 2 ^ i % 2 = y.toNat / 2 ^ s % 2) := by
    rw [← Nt.bit_eq, Nt.getD_div X _ uX, hy, hs]; rfl
  have hmi : (i : Int) / 32 = m := by omega
  have hsi : (i : Int) % 32 = s := by omega
  have hs32 : s < 32 := by omega
  have hm0 : m < 1073741824 := by omega
  have hp : 0 < (2 : Int) ^ s := Int.pow_pos (by decide)
  have hd0 : 0 ≤ y / 2 ^ s := Int.ediv_nonneg u1 (Int.le_of_lt hp)
  have hd1 : y / 2 ^ s < 4294967296 := Int.lt_of_le_of_lt (Int.ediv_le_self _ u1) u2
  have hand := Nt.and1 (y / 2 ^ s) hd0 hd1
  by_cases hmX : m < X.length
  · rcases h1 with rfl | ⟨b, o, rfl, hb, hr⟩
    · simp at hmX
    have hcell := hr (i / 32) (by omega)
    rw [hy, hm] at hcell
    clear hr hy hm hs
    go_enter Try.func74, Try.ntmps74
    go_wp2
    go_ret
    refine ⟨?_, rfl⟩
    rw [HE.out]
    obtain ⟨n, rfl⟩ := Int.eq_ofNat_of_zero_le u1
    have e1 : ((n / 2 ^ s % 2 : Nat) : Int) = (n : Int) / 2 ^ s % 2 := by simp
    exact congrArg (fun b => Ending.returned (Value.int .u32 b)) e1.symm
  · have h0 : y = 0 := by rw [← hy, hm, List.getD_eq_getElem?_getD, List.getElem?_eq_none (by omega)]; rfl
    subst h0
    have hmX2 : X.length ≤ m := by omega
    clear h1 hy hm hs hand hd0 hd1 hp u1 u2 hmX
    go_enter Try.func74, Try.ntmps74
    go_wp2
    go_ret
    refine ⟨?_, rfl⟩
    rw [HE.out]
    have e1 : ((0 : Int).toNat / 2 ^ s % 2 : Nat) = 0 := by simp
    rw [e1]; rfl
theorem newPt (w : World) : Blk 24 (w.alloc (.cells #[.slice none 0 0, .slice none 0 0] 24)) w.heap.size [.slice none 0 0, .slice none 0 0] := Blk.new _ w [.slice none 0 0, .slice none 0 0]
theorem noInts : ∀ c ∈ [Value.slice none 0 0, Value.slice none 0 0], ∀ n, c ≠ .int .u32 n := by intro c hc; simp at hc; subst hc; intro n h; cases h
set_option maxHeartbeats 4000000 in
theorem Base_any {w : World} (c : Int) : Calls Try.prog 20 #[.int .i64 c] w fun e w' => ∃ r q, e = .returned (.agg #[r, q]) ∧ Nb w' r (crvN (·.gx) (crv c)) ∧ Nb w' q (crvN (·.gy) (crv c)) ∧ Below w.heap.size w w' := by
  cases hc : crv c with
  | none =>
    go_enter Try.func20, Try.ntmps20
    go_wp2_with fail
    refine (pick_no c hc).mono ?_
    rintro e w3 ⟨rfl, hb3⟩
    have H3 : Hid (Below w.heap.size w w3 ∧ Blk 24 w3 w.heap.size [.slice none 0 0, .slice none 0 0]) := ⟨below_via (al1 _) hb3 (Nat.le_refl _), below_blk hb3 (newPt w).lt (newPt w)⟩
    clear hb3 hc
    unfold kz
    go_upto_region 2 with (fail)
    refine wp_gen (fun W => Blk 53 W w3.heap.size [.int .i64 0, .slice none 0 0, .slice none 0 0, .slice none 0 0, .slice none 0 0, .slice none 0 0] ∧ Below w3.heap.size w3 W) ⟨Blk.new _ _ _, al1 _⟩ ?_
    rintro W4 ⟨hB4, hb4⟩
    have hk : W4.cell? ⟨w3.heap.size, 4, none⟩ = some (.slice none 0 0) := hB4.cell 4
    have hk5 : W4.cell? ⟨w3.heap.size, 5, none⟩ = some (.slice none 0 0) := hB4.cell 5
    have H4 : Hid (Below w.heap.size w W4 ∧ Blk 24 W4 w.heap.size [.slice none 0 0, .slice none 0 0]) := ⟨below_via H3.out.1 hb4 (Nat.le_refl _), below_blk hb4 H3.out.2.lt H3.out.2⟩
    have d0 : W4.cell? ⟨w.heap.size, 0, none⟩ = some (.slice none 0 0) := H4.out.2.cell 0
    have d1 : W4.cell? ⟨w.heap.size, 1, none⟩ = some (.slice none 0 0) := H4.out.2.cell 1
    have g0 := H4.out.2.frozen 0; have g1 := H4.out.2.frozen 1
    clear hb4 hB4
    go_wp2
    obtain ⟨hF, hU⟩ := Blk.put2 H4.out.2 (.slice none 0 0) (.slice none 0 0)
    have hbl := hU.below H4.out.1 H4.out.1.size (Nat.le_refl _)
    exact bodyPost_ret (v := .agg [.slice none 0 0, .slice none 0 0].toArray) (results_blk (b := w.heap.size) (cs := [.slice none 0 0, .slice none 0 0]) rfl rfl hF Try.underlying24 rfl Try.sizePt) rfl ⟨_, _, rfl, nil_nb _, nil_nb _, hbl⟩
  | some C =>
    go_enter Try.func20, Try.ntmps20
    go_wp2_with fail
    refine (pick_yes c C hc).mono ?_
    rintro e w3 ⟨s, a1, n1, c1, a2, n2, c2, a3, n3, c3, a4, n4, c4, a5, n5, c5, rfl, hk, hb3⟩
    have H3 : Hid (Below w.heap.size w w3 ∧ KindS w3 s a1 n1 c1 a2 n2 c2 a3 n3 c3 a4 n4 c4 a5 n5 c5 C ∧ Blk 24 w3 w.heap.size [.slice none 0 0, .slice none 0 0]) := ⟨below_via (al1 _) hb3 (Nat.le_refl _), hk, below_blk hb3 (newPt w).lt (newPt w)⟩
    clear hb3 hc hk
    go_upto_region 2 with (fail)
    refine wp_gen (fun W => Blk 53 W w3.heap.size [.int .i64 s, .slice a1 n1 c1, .slice a2 n2 c2, .slice a3 n3 c3, .slice a4 n4 c4, .slice a5 n5 c5] ∧ Below w3.heap.size w3 W) ⟨Blk.new _ _ _, al1 _⟩ ?_
    rintro W4 ⟨hB4, hb4⟩
    have hk : W4.cell? ⟨w3.heap.size, 4, none⟩ = some (.slice a4 n4 c4) := hB4.cell 4
    have hk5 : W4.cell? ⟨w3.heap.size, 5, none⟩ = some (.slice a5 n5 c5) := hB4.cell 5
    have H4 : Hid (Below w.heap.size w W4 ∧ KindS W4 s a1 n1 c1 a2 n2 c2 a3 n3 c3 a4 n4 c4 a5 n5 c5 C ∧ Blk 24 W4 w.heap.size [.slice none 0 0, .slice none 0 0]) := ⟨below_via H3.out.1 hb4 (Nat.le_refl _), H3.out.2.1.below hb4, below_blk hb4 H3.out.2.2.lt H3.out.2.2⟩
    have d0 : W4.cell? ⟨w.heap.size, 0, none⟩ = some (.slice none 0 0) := H4.out.2.2.cell 0
    have d1 : W4.cell? ⟨w.heap.size, 1, none⟩ = some (.slice none 0 0) := H4.out.2.2.cell 1
    have g0 := H4.out.2.2.frozen 0; have g1 := H4.out.2.2.frozen 1
    clear hb4 hB4
    go_wp2
    obtain ⟨hF, hU⟩ := Blk.put2 H4.out.2.2 (.slice a4 n4 c4) (.slice a5 n5 c5)
    have hbl := hU.below H4.out.1 H4.out.1.size (Nat.le_refl _)
    exact bodyPost_ret (v := .agg [.slice a4 n4 c4, .slice a5 n5 c5].toArray) (results_blk (b := w.heap.size) (cs := [.slice a4 n4 c4, .slice a5 n5 c5]) rfl rfl hF Try.underlying24 rfl Try.sizePt) rfl ⟨_, _, rfl, H4.out.2.1.2.2.2.2.1.upd H4.out.2.2 noInts hU, H4.out.2.1.2.2.2.2.2.upd H4.out.2.2 noInts hU, hbl⟩
end Go.Proofs.Ytkdclocjijmgpaa
