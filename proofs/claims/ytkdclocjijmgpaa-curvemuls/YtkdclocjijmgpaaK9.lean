/-
  Curve: the far point; a point as a triple.
-/
import Derived.Test.YtkdclocjijmgpaaK8
namespace Go.Proofs.Ytkdclocjijmgpaa
open Go.RowKit
set_option maxRecDepth 20000
theorem bits0 {X : List Int} (u : U32s X) : bitLen (val X).toNat = 0 ↔ val X = 0 := by
  have h0 := val_nonneg u
  constructor
  · intro h
    by_cases hv : val X = 0
    · exact hv
    · exfalso
      have h1 : (val X).toNat ≠ 0 := by omega
      have h2 := bitLen_spec (val X).toNat
      rw [h] at h2
      simp at h2
      omega
  · intro h; rw [h]; decide
/-- Both coordinates are 0. -/
def farB (X Y : List Int) : Bool := decide (val X = 0 ∧ val Y = 0)
set_option maxHeartbeats 1000000 in
theorem PisFar {w : World} (vx vy : Value) (X Y : List Int) (hX : Sl .u32 w vx X) (hY : Sl .u32 w vy Y) (uX : U32s X) (uY : U32s Y) (lX : X.length ≤ 1000000) (lY : Y.length ≤ 1000000) :
    Calls Try.prog 45 #[.agg #[vx, vy]] w fun e w' => e = .returned (.bool (farB X Y)) ∧ Below w.heap.size w w' := by
  have HX : Hid (∀ W, Below w.heap.size w W → Calls Try.prog 73 #[vx] W fun e w' => e = .returned (.int .i64 (bitLen (val X).toNat)) ∧ Below W.heap.size W w') := fun W hW => Nt.Bits_any X vx W (below_sl hW hX) uX (by omega)
  have HY : Hid (∀ W, Below w.heap.size w W → Calls Try.prog 73 #[vy] W fun e w' => e = .returned (.int .i64 (bitLen (val Y).toNat)) ∧ Below W.heap.size W w') := fun W hW => Nt.Bits_any Y vy W (below_sl hW hY) uY (by omega)
  have HF : Hid (farB X Y = (((bitLen (val X).toNat : Int) == 0) && ((bitLen (val Y).toNat : Int) == 0))) := by
    show _ = _
    unfold farB
    have h1 := bits0 uX
    have h2 := bits0 uY
    by_cases a : val X = 0 <;> by_cases b : val Y = 0
    · have e1 := h1.2 a; have e2 := h2.2 b; rw [e1, e2]; simp [a, b]
    · simp [a, b]; intro _; exact fun h => b (h2.1 (by omega))
    · simp [a, b]; intro h; exact absurd (h1.1 (by omega)) a
    · simp [a, b]; intro h; exact absurd (h1.1 (by omega)) a
  obtain ⟨x, hx⟩ : ∃ x, bitLen (val X).toNat = x := ⟨_, rfl⟩
  obtain ⟨y, hy⟩ : ∃ y, bitLen (val Y).toNat = y := ⟨_, rfl⟩
  rw [hx] at HX HF
  rw [hy] at HY HF
  clear hX hY uX uY lX lY hx hy
  go_enter Try.func45, Try.ntmps45
  go_upto_region 1 with (refine wpList_boxR rfl 24 (.tmp 0) rfl #[vx, vy] rfl ?_)
  refine wp_gen (fun W => Blk 24 W w.heap.size [vx, vy] ∧ Below w.heap.size w W) ⟨Blk.new _ w _, al1 _⟩ ?_
  rintro W2 ⟨hB, hBw⟩
  have hc0 : W2.cell? ⟨w.heap.size, 0, none⟩ = some vx := hB.cell 0
  have H2 : Hid (Below w.heap.size w W2 ∧ ∀ W3, Below W2.heap.size W2 W3 → W3.cell? ⟨w.heap.size, 1, none⟩ = some vy ∧ Below w.heap.size w W3) := ⟨hBw, fun W3 h3 => ⟨(below_blk h3 hB.lt hB).cell 1, below_via hBw h3 (Nat.le_refl _)⟩⟩
  clear hB hBw
  by_cases h0 : x = 0
  · have d0 : ((x : Int) == 0) = true := by simp [h0]
    have HF2 : Hid (farB X Y = ((y : Int) == 0)) := by show _ = _; rw [HF.out, d0]; rfl
    clear h0 HF
    go_wp2_with fail
    refine (HX.out _ H2.out.1).mono ?_
    rintro e w3 ⟨rfl, hb3⟩
    have hc1 := (H2.out.2 _ hb3).1
    have H3 : Hid (Below w.heap.size w w3) := (H2.out.2 _ hb3).2
    clear hb3 hc0
    go_wp2_with (go_at_call 73; refine (HY.out _ H3.out).mono ?_; rintro e w4 ⟨rfl, hb4⟩; have H4 : Hid (Below w.heap.size w w4) := below_via H3.out hb4 (Nat.le_refl _); clear hb4)
    go_ret
    exact ⟨by rw [HF2.out]; rfl, H4.out⟩
  · have d0 : ((x : Int) == 0) = false := by simp; exact h0
    have HF2 : Hid (farB X Y = false) := by show _ = _; rw [HF.out, d0]; rfl
    clear h0 HF
    go_wp2_with (go_at_call 73; refine (HX.out _ H2.out.1).mono ?_; rintro e w3 ⟨rfl, hb3⟩; have H3 : Hid (Below w.heap.size w w3) := (H2.out.2 _ hb3).2; clear hb3)
    go_ret
    exact ⟨by rw [HF2.out]; rfl, H3.out⟩
/-- A point as a triple. -/
def triB (X Y : List Int) : Nat × Nat × Nat := if farB X Y then (0, 0, 0) else ((val X).toNat, (val Y).toNat, 1)
set_option maxHeartbeats 2000000 in
theorem TripleOf {w : World} (vx vy : Value) (X Y : List Int) (hX : Sl .u32 w vx X) (hY : Sl .u32 w vy Y) (uX : U32s X) (uY : U32s Y) (lX : X.length ≤ 1000000) (lY : Y.length ≤ 1000000) :
    Calls Try.prog 27 #[.agg #[vx, vy]] w fun e w' => ∃ r0 r1 r2, e = .returned (.agg #[r0, r1, r2]) ∧ Nb w' r0 (triB X Y).1 ∧ Nb w' r1 (triB X Y).2.1 ∧ Nb w' r2 (triB X Y).2.2 ∧ Below w.heap.size w w' := by
  have HFr : Hid (∀ W, Below w.heap.size w W → Calls Try.prog 45 #[.agg #[vx, vy]] W fun e w' => e = .returned (.bool (farB X Y)) ∧ Below W.heap.size W w') := fun W hW => PisFar vx vy X Y (below_sl hW hX) (below_sl hW hY) uX uY lX lY
  have HTx : Hid (∀ W, Below w.heap.size w W → Calls Try.prog 33 #[vx] W fun e w' => ∃ a c, e = .returned (.slice a (lim (val X).toNat).length c) ∧ Nb w' (.slice a (lim (val X).toNat).length c) (val X).toNat ∧ Below W.heap.size W w') := fun W hW => (Nt.Trim_any X vx W (below_sl hW hX) uX (by omega)).mono fun e w' ⟨r, he, ho, hb⟩ => by
    obtain ⟨a, c, hf⟩ := Nb.form (x := (val X).toNat) ho.sl
    subst hf
    exact ⟨a, c, he, ho.sl, hb⟩
  have HTy : Hid (∀ W, Below w.heap.size w W → Calls Try.prog 33 #[vy] W fun e w' => ∃ a c, e = .returned (.slice a (lim (val Y).toNat).length c) ∧ Nb w' (.slice a (lim (val Y).toNat).length c) (val Y).toNat ∧ Below W.heap.size W w') := fun W hW => (Nt.Trim_any Y vy W (below_sl hW hY) uY (by omega)).mono fun e w' ⟨r, he, ho, hb⟩ => by
    obtain ⟨a, c, hf⟩ := Nb.form (x := (val Y).toNat) ho.sl
    subst hf
    exact ⟨a, c, he, ho.sl, hb⟩
  have HSm : Hid (∀ W, Calls Try.prog 53 #[.int .u64 1] W fun e w' => ∃ a c, e = .returned (.slice a (lim 1).length c) ∧ Nb w' (.slice a (lim 1).length c) 1 ∧ Below W.heap.size W w') := fun W => (Nt.Small_any 1 (by decide) (by decide) W).mono fun e w' ⟨r, he, ho, hb⟩ => by
    obtain ⟨a, c, hf⟩ := Nb.form (x := 1) ho.sl
    subst hf
    exact ⟨a, c, he, ho.sl, hb⟩
  obtain ⟨x, hx⟩ : ∃ x, (val X).toNat = x := ⟨_, rfl⟩
  obtain ⟨y, hy⟩ : ∃ y, (val Y).toNat = y := ⟨_, rfl⟩
  obtain ⟨T, hT⟩ : ∃ T, triB X Y = T := ⟨_, rfl⟩
  have HT : Hid ((if farB X Y then (0, 0, 0) else (x, y, 1)) = T) := by show _ = _; rw [← hT, ← hx, ← hy]; rfl
  rw [hx] at HTx
  rw [hy] at HTy
  rw [hT]
  clear hX hY uX uY lX lY hx hy hT
  go_enter Try.func27, Try.ntmps27
  go_upto_region 1 with (refine wpList_boxR rfl 24 (.tmp 0) rfl #[vx, vy] rfl ?_)
  refine wp_gen (fun W => Blk 24 W w.heap.size [vx, vy] ∧ Blk 58 W (w.heap.size + 1) [.slice none 0 0, .slice none 0 0, .slice none 0 0] ∧ Below w.heap.size w W) ⟨(Blk.new _ w [vx, vy]).alloc _, by have := Blk.new 58 (w.alloc (.cells [vx, vy].toArray 24)) [.slice none 0 0, .slice none 0 0, .slice none 0 0]; rw [World.size_alloc] at this; exact this, (al1 _).alloc (by simp) _⟩ ?_
  rintro W2 ⟨hC, hB, hBw⟩
  have H2 : Hid (Below w.heap.size w W2 ∧ W2.rangeAt w.heap.size 0 [vx, vy] ∧ ∀ W3, Below W2.heap.size W2 W3 → W3.cell? ⟨w.heap.size, 0, none⟩ = some vx ∧ W3.cell? ⟨w.heap.size, 1, none⟩ = some vy ∧ Blk 58 W3 (w.heap.size + 1) [.slice none 0 0, .slice none 0 0, .slice none 0 0] ∧ Below w.heap.size w W3) := ⟨hBw, hC.whole, fun W3 h3 => ⟨(below_blk h3 hC.lt hC).cell 0, (below_blk h3 hC.lt hC).cell 1, below_blk h3 hB.lt hB, below_via hBw h3 (Nat.le_refl _)⟩⟩
  have hnn : ∀ c ∈ [Value.slice none 0 0, Value.slice none 0 0, Value.slice none 0 0], ∀ n, c ≠ .int .u32 n := by intro c hc; simp at hc; subst hc; intro n h; cases h
  have HN : Hid (∀ c ∈ [Value.slice none 0 0, Value.slice none 0 0, Value.slice none 0 0], ∀ n, c ≠ .int .u32 n) := hnn
  clear hB hC hBw hnn
  go_wp2_with (refine wpList_load_mid rfl 24 (.tmp 1) rfl w.heap.size 0 rfl [vx, vy] _ H2.out.2.1 Try.underlying24 rfl (by kernel_rfl) ?_)
  refine (HFr.out _ H2.out.1).mono ?_
  rintro e w3 ⟨rfl, hb3⟩
  have H3 : Hid (Below W2.heap.size W2 w3) := hb3
  have hB3 := (H2.out.2.2 _ hb3).2.2.1
  have d0 : w3.cell? ⟨w.heap.size + 1, 0, none⟩ = some (.slice none 0 0) := hB3.cell 0
  have d1 : w3.cell? ⟨w.heap.size + 1, 1, none⟩ = some (.slice none 0 0) := hB3.cell 1
  have d2 : w3.cell? ⟨w.heap.size + 1, 2, none⟩ = some (.slice none 0 0) := hB3.cell 2
  have g0 := hB3.frozen 0; have g1 := hB3.frozen 1; have g2 := hB3.frozen 2
  clear hb3 hB3
  cases hf : farB X Y with
  | true =>
    have HT2 : Hid (T = (0, 0, 0)) := by show _ = _; rw [← HT.out, hf]; rfl
    clear HT hf
    go_wp2
    have hB3 := (H2.out.2.2 _ H3.out).2.2.1
    obtain ⟨hF, hU⟩ := Blk.put3 hB3 (.slice none 0 0) (.slice none 0 0) (.slice none 0 0)
    have hbl := hU.below (H2.out.2.2 _ H3.out).2.2.2 (H2.out.2.2 _ H3.out).2.2.2.size (Nat.le_succ _)
    refine bodyPost_ret (v := .agg [.slice none 0 0, .slice none 0 0, .slice none 0 0].toArray) (results_blk (b := w.heap.size + 1) (cs := [.slice none 0 0, .slice none 0 0, .slice none 0 0]) rfl rfl hF Try.underlying58 rfl Try.sizeTr) rfl ⟨_, _, _, rfl, ?_, ?_, ?_, hbl⟩
    all_goals (rw [HT2.out]; exact nil_nb _)
  | false =>
    have HT2 : Hid (T = (x, y, 1)) := by show _ = _; rw [← HT.out, hf]; rfl
    have HB3 : Hid (Blk 58 w3.drew (w.heap.size + 1) [.slice none 0 0, .slice none 0 0, .slice none 0 0]) := (H2.out.2.2 _ H3.out).2.2.1
    have HS0 : Hid (Below w.heap.size w w3.drew ∧ w3.drew.cell? ⟨w.heap.size, 0, none⟩ = some vx ∧ w3.drew.cell? ⟨w.heap.size, 1, none⟩ = some vy ∧ w.heap.size < w3.drew.heap.size) := ⟨Below.drew (H2.out.2.2 _ H3.out).2.2.2, (H2.out.2.2 _ H3.out).1, (H2.out.2.2 _ H3.out).2.1, by have h := HB3.out.lt; omega⟩
    have HSc : Hid (∀ W W', (Below w.heap.size w W ∧ W.cell? ⟨w.heap.size, 0, none⟩ = some vx ∧ W.cell? ⟨w.heap.size, 1, none⟩ = some vy ∧ w.heap.size < W.heap.size) → Below W.heap.size W W' → (Below w.heap.size w W' ∧ W'.cell? ⟨w.heap.size, 0, none⟩ = some vx ∧ W'.cell? ⟨w.heap.size, 1, none⟩ = some vy ∧ w.heap.size < W'.heap.size)) := fun W W' h hb => ⟨below_via h.1 hb (Nat.le_refl _), by rw [hb.cell (p := ⟨w.heap.size, 0, none⟩) h.2.2.2]; exact h.2.1, by rw [hb.cell (p := ⟨w.heap.size, 1, none⟩) h.2.2.2]; exact h.2.2.1, Nat.lt_of_lt_of_le h.2.2.2 hb.size⟩
    have HSs : Hid (∀ W i v, (Below w.heap.size w W ∧ W.cell? ⟨w.heap.size, 0, none⟩ = some vx ∧ W.cell? ⟨w.heap.size, 1, none⟩ = some vy ∧ w.heap.size < W.heap.size) → (Below w.heap.size w (W.setCell ⟨w.heap.size + 1, i, none⟩ v) ∧ (W.setCell ⟨w.heap.size + 1, i, none⟩ v).cell? ⟨w.heap.size, 0, none⟩ = some vx ∧ (W.setCell ⟨w.heap.size + 1, i, none⟩ v).cell? ⟨w.heap.size, 1, none⟩ = some vy ∧ w.heap.size < (W.setCell ⟨w.heap.size + 1, i, none⟩ v).heap.size)) := fun W i v h => by
      have hU := Upd.set W (w.heap.size + 1) i v
      exact ⟨hU.below h.1 h.1.size (Nat.le_succ _), (World.cell?_of_block (a := ⟨w.heap.size, 0, none⟩) (hU.block w.heap.size h.2.2.2 (by simp))).trans h.2.1, (World.cell?_of_block (a := ⟨w.heap.size, 1, none⟩) (hU.block w.heap.size h.2.2.2 (by simp))).trans h.2.2.1, Nat.lt_of_lt_of_le h.2.2.2 hU.size⟩
    clear HT hf d0 d1 d2 g0 g1 g2
    go_wp2_with fail
    go_region_held3 (fun W => Below w.heap.size w W ∧ W.cell? ⟨w.heap.size, 0, none⟩ = some vx ∧ W.cell? ⟨w.heap.size, 1, none⟩ = some vy ∧ w.heap.size < W.heap.size)
      (first | assumption | exact HS0.out | exact HSc.out _ _ (by assumption) (by assumption) | exact HSs.out _ _ _ (HSs.out _ _ _ (HSs.out _ _ _ (by assumption))))
      (first
      | (replace hr4 := hr4; go_at_call 33; refine (HTy.out _ (And.left (by assumption))).mono ?_; rintro e w5 ⟨a5, c5, rfl, hr5, hb5⟩; have K5 : Hid (Blk 58 w5 (w.heap.size + 1) [.slice none 0 0, .slice none 0 0, .slice none 0 0]) := below_blk hb5 K4.out.lt K4.out)
      | (go_at_call 33; refine (HTx.out _ (And.left (by assumption))).mono ?_; rintro e w4 ⟨a4, c4, rfl, hr4, hb4⟩; have K4 : Hid (Blk 58 w4 (w.heap.size + 1) [.slice none 0 0, .slice none 0 0, .slice none 0 0]) := below_blk hb4 HB3.out.lt HB3.out)
      | (go_at_call 53; refine (HSm.out _).mono ?_; rintro e w6 ⟨a6, c6, rfl, hr6, hb6⟩; have K6 : Hid (Blk 58 w6 (w.heap.size + 1) [.slice none 0 0, .slice none 0 0, .slice none 0 0]) := below_blk hb6 K5.out.lt K5.out; have d0 : w6.cell? ⟨w.heap.size + 1, 0, none⟩ = some (.slice none 0 0) := K6.out.cell 0; have d1 : w6.cell? ⟨w.heap.size + 1, 1, none⟩ = some (.slice none 0 0) := K6.out.cell 1; have d2 : w6.cell? ⟨w.heap.size + 1, 2, none⟩ = some (.slice none 0 0) := K6.out.cell 2; have g0 := K6.out.frozen 0; have g1 := K6.out.frozen 1; have g2 := K6.out.frozen 2))
    have HE : Hid (Below w.heap.size w w6 ∧ Nb w6 (.slice a4 (lim x).length c4) x ∧ Nb w6 (.slice a5 (lim y).length c5) y ∧ Nb w6 (.slice a6 (lim 1).length c6) 1) := ⟨below_via (below_via (below_via HS0.out.1 hb4 (Nat.le_refl _)) hb5 (Nat.le_refl _)) hb6 (Nat.le_refl _), (hr4.below hb5).below hb6, hr5.below hb6, hr6⟩
    clear hr4 hr5 hr6 hb4 hb5 hb6
    go_wp2
    obtain ⟨hF, hU⟩ := Blk.put3 K6.out (.slice a4 (lim x).length c4) (.slice a5 (lim y).length c5) (.slice a6 (lim 1).length c6)
    have hbl := hU.below HE.out.1 HE.out.1.size (Nat.le_succ _)
    refine bodyPost_ret (v := .agg [.slice a4 (lim x).length c4, .slice a5 (lim y).length c5, .slice a6 (lim 1).length c6].toArray) (results_blk (b := w.heap.size + 1) (cs := [.slice a4 (lim x).length c4, .slice a5 (lim y).length c5, .slice a6 (lim 1).length c6]) rfl rfl hF Try.underlying58 rfl Try.sizeTr) rfl ⟨_, _, _, rfl, ?_, ?_, ?_, hbl⟩
    · rw [HT2.out]; exact HE.out.2.1.upd K6.out HN.out hU
    · rw [HT2.out]; exact HE.out.2.2.1.upd K6.out HN.out hU
    · rw [HT2.out]; exact HE.out.2.2.2.upd K6.out HN.out hU
end Go.Proofs.Ytkdclocjijmgpaa
