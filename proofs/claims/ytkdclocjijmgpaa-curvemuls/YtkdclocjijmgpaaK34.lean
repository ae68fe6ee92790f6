/-
  Curves: the program's Mix, Mul, whatever they are asked. (wip/mkh40.py)
-/
import Derived.OpenShut
import Derived.Test.YtkdclocjijmgpaaK33
namespace Go.Proofs.Ytkdclocjijmgpaa
open Go.RowKit Gl
set_option maxRecDepth 20000
set_option maxHeartbeats 4000000 in
theorem asked_long1 {w : World} (c : Int) (C : Cv) (hc : crv c = some C) (fa0 : Option Addr) (fn0 fc0 : Nat) (lf0 : fn0 ≤ 64) (fa1 : Option Addr) (fn1 fc1 : Nat) (lf1 : 64 < fn1) (bf : Nat) (Tf : TypeId) (hF : Blk Tf w bf [.slice fa0 fn0 fc0, .slice fa1 fn1 fc1]) (u : Value) :
    Calls Try.prog 24 #[.int .i64 c, .slice (some ⟨bf, 0, none⟩) 2 2, u] w fun e w' => e = .returned (.tuple #[.agg kz.toArray, .int .i64 3]) ∧ Below w.heap.size w w' := by
  have HF : Hid (∀ W, Below w.heap.size w W → Blk Tf W bf [.slice fa0 fn0 fc0, .slice fa1 fn1 fc1]) := fun W hW => below_blk hW hF.lt hF
  clear hF
  go_enter Try.func24, Try.ntmps24
  go_wp2_with fail
  refine (pick_yes c C hc).mono ?_
  rintro e w3 ⟨s, a1, n1, c1, a2, n2, c2, a3, n3, c3, a4, n4, c4, a5, n5, c5, rfl, hk, hb3⟩
  have H3 : Hid (Below w.heap.size w w3 ∧ KindS w3 s a1 n1 c1 a2 n2 c2 a3 n3 c3 a4 n4 c4 a5 n5 c5 C ∧ Blk 53 w3 w.heap.size kz) := ⟨below_via (al1 _) hb3 (Nat.le_refl _), hk, below_blk hb3 (newKd w).lt (newKd w)⟩
  clear hb3 hc hk
  go_upto_region 2 with (fail)
  refine wp_gen (fun W => Blk 53 W w3.heap.size [.int .i64 s, .slice a1 n1 c1, .slice a2 n2 c2, .slice a3 n3 c3, .slice a4 n4 c4, .slice a5 n5 c5] ∧ Below w3.heap.size w3 W) ⟨Blk.new _ _ _, al1 _⟩ ?_
  rintro W4 ⟨hB4, hb4⟩
  have H4 : Hid (Below w.heap.size w W4 ∧ KindS W4 s a1 n1 c1 a2 n2 c2 a3 n3 c3 a4 n4 c4 a5 n5 c5 C ∧ Blk 53 W4 w.heap.size kz ∧ Blk 53 W4 w3.heap.size [.int .i64 s, .slice a1 n1 c1, .slice a2 n2 c2, .slice a3 n3 c3, .slice a4 n4 c4, .slice a5 n5 c5]) := ⟨below_via H3.out.1 hb4 (Nat.le_refl _), H3.out.2.1.below hb4, below_blk hb4 H3.out.2.2.lt H3.out.2.2, hB4⟩
  clear hb4 hB4
  have f0 : W4.cell? ⟨bf, 0, none⟩ = some (.slice fa0 fn0 fc0) := (HF.out _ H4.out.1).cell 0
  have fe0 : decide (64 < (fn0 : Int)) = false := by simp; omega
  have f1 : W4.cell? ⟨bf, 1, none⟩ = some (.slice fa1 fn1 fc1) := (HF.out _ H4.out.1).cell 1
  have fe1 : decide (64 < (fn1 : Int)) = true := by simp; omega
  have d0 : W4.cell? ⟨w.heap.size, 0, none⟩ = some (.int .i64 0) := H4.out.2.2.1.cell 0
  have g0 : W4.frozen? ⟨w.heap.size, 0, none⟩ = false := H4.out.2.2.1.frozen 0
  have d1 : W4.cell? ⟨w.heap.size, 1, none⟩ = some (.slice none 0 0) := H4.out.2.2.1.cell 1
  have g1 : W4.frozen? ⟨w.heap.size, 1, none⟩ = false := H4.out.2.2.1.frozen 1
  have d2 : W4.cell? ⟨w.heap.size, 2, none⟩ = some (.slice none 0 0) := H4.out.2.2.1.cell 2
  have g2 : W4.frozen? ⟨w.heap.size, 2, none⟩ = false := H4.out.2.2.1.frozen 2
  have d3 : W4.cell? ⟨w.heap.size, 3, none⟩ = some (.slice none 0 0) := H4.out.2.2.1.cell 3
  have g3 : W4.frozen? ⟨w.heap.size, 3, none⟩ = false := H4.out.2.2.1.frozen 3
  have d4 : W4.cell? ⟨w.heap.size, 4, none⟩ = some (.slice none 0 0) := H4.out.2.2.1.cell 4
  have g4 : W4.frozen? ⟨w.heap.size, 4, none⟩ = false := H4.out.2.2.1.frozen 4
  have d5 : W4.cell? ⟨w.heap.size, 5, none⟩ = some (.slice none 0 0) := H4.out.2.2.1.cell 5
  have g5 : W4.frozen? ⟨w.heap.size, 5, none⟩ = false := H4.out.2.2.1.frozen 5
  go_wp2
  refine wp_loop_rounds 2 ?_
  rw [rounds_succ]
  go_wp2
  rw [rounds_succ]
  go_wp2
  obtain ⟨hF, hU⟩ := Blk.put6 H4.out.2.2.1 (.int .i64 0) (.slice none 0 0) (.slice none 0 0) (.slice none 0 0) (.slice none 0 0) (.slice none 0 0)
  exact bodyPost_ret (results_blk2 rfl rfl hF Try.underlying53 rfl Try.sizeKd rfl) rfl ⟨rfl, hU.below H4.out.1 H4.out.1.size (Nat.le_refl _)⟩
set_option maxHeartbeats 4000000 in
theorem Mix_bad {w : World} (c : Int) (ea : Option Addr) (en ec : Nat) (fa : Option Addr) (fn fc : Nat) (xa : Option Addr) (xn xc : Nat) (ya : Option Addr) (yn yc : Nat) (n : Int) (hn : n ≠ 0)
    (hA : ∀ (W : World) b1 T1 b2 T2, Below w.heap.size w W → Blk T1 W b1 [.slice ea en ec, .slice fa fn fc] → Blk T2 W b2 [.slice xa xn xc, .slice ya yn yc] → Calls Try.prog 24 #[.int .i64 c, .slice (some ⟨b1, 0, none⟩) 2 2, .slice (some ⟨b2, 0, none⟩) 1 1] W fun e w' => e = .returned (.tuple #[.agg kz.toArray, .int .i64 n]) ∧ Below W.heap.size W w') :
    Calls Try.prog 18 #[.int .i64 c, .slice ea en ec, .slice fa fn fc, .agg #[.slice xa xn xc, .slice ya yn yc]] w fun e w' => e = .returned (.tuple #[.agg #[.slice none 0 0, .slice none 0 0], .int .i64 n]) ∧ Below w.heap.size w w' := by
  have HS : Hid (∀ (W : World) b1 T1 b2 T2, Below w.heap.size w W → Blk T1 W b1 [.slice ea en ec, .slice fa fn fc] → Blk T2 W b2 [.slice xa xn xc, .slice ya yn yc] → Calls Try.prog 24 #[.int .i64 c, .slice (some ⟨b1, 0, none⟩) 2 2, .slice (some ⟨b2, 0, none⟩) 1 1] W fun e w' => e = .returned (.tuple #[.agg kz.toArray, .int .i64 n]) ∧ Below W.heap.size W w') := hA
  have hn0 : (n != 0) = true := by simpa using hn
  clear hA hn
  go_enter Try.func18, Try.ntmps18
  go_upto_region 1 with (refine wpList_boxR rfl 24 (.tmp 3) rfl #[.slice xa xn xc, .slice ya yn yc] rfl ?_)
  refine wp_gen (fun W => Blk 24 W w.heap.size [.slice xa xn xc, .slice ya yn yc] ∧ Blk 24 W (w.heap.size + 1) [.slice none 0 0, .slice none 0 0] ∧ Below w.heap.size w W) ⟨(Blk.new _ w _).alloc _, by have := Blk.new 24 (w.alloc (.cells [.slice xa xn xc, .slice ya yn yc].toArray 24)) [.slice none 0 0, .slice none 0 0]; rw [World.size_alloc] at this; exact this, (al1 _).alloc (by simp) _⟩ ?_
  rintro W2 ⟨hB, hR, hBw⟩
  have H2 : Hid (Below w.heap.size w W2 ∧ Blk 24 W2 w.heap.size [.slice xa xn xc, .slice ya yn yc] ∧ Blk 24 W2 (w.heap.size + 1) [.slice none 0 0, .slice none 0 0]) := ⟨hBw, hB, hR⟩
  clear hB hR hBw
  go_wp2_with (refine wpList_load_mid rfl 24 (.tmp 7) rfl w.heap.size 0 rfl [.slice xa xn xc, .slice ya yn yc] _ (H2.out.2.1.alloc _).whole Try.underlying24 rfl (by kernel_rfl) ?_)
  refine (HS.out _ W2.heap.size 22 (W2.heap.size + 1) 24 (below_via H2.out.1 ((al1 _).alloc (by simp) _) (Nat.le_refl _)) ((Blk.new _ W2 _).alloc _) (by have := Blk.new 24 (W2.alloc (.cells [.slice ea en ec, .slice fa fn fc].toArray 22)) [.slice xa xn xc, .slice ya yn yc]; rw [World.size_alloc] at this; exact this)).mono ?_
  rintro e w3 ⟨rfl, hb3⟩
  have hb23 : Below W2.heap.size W2 w3 := below_via ((al1 _).alloc (by simp) _) hb3 (Nat.le_refl _)
  have H3 : Hid (Below w.heap.size w w3 ∧ Blk 24 w3 (w.heap.size + 1) [.slice none 0 0, .slice none 0 0]) := ⟨below_via H2.out.1 hb23 (Nat.le_refl _), below_blk hb23 H2.out.2.2.lt H2.out.2.2⟩
  clear hb3 hb23 HS
  unfold kz
  go_upto_region 2 with (fail)
  refine wp_gen (fun W => Below w3.heap.size w3 W) (al1 _) ?_
  rintro W4 hb4
  have H4 : Hid (Below w.heap.size w W4 ∧ Blk 24 W4 (w.heap.size + 1) [.slice none 0 0, .slice none 0 0]) := ⟨below_via H3.out.1 hb4 (Nat.le_refl _), below_blk hb4 H3.out.2.lt H3.out.2⟩
  clear hb4
  have q0 : W4.cell? ⟨w.heap.size + 1, 0, none⟩ = some (.slice none 0 0) := H4.out.2.cell 0
  have q1 : W4.cell? ⟨w.heap.size + 1, 1, none⟩ = some (.slice none 0 0) := H4.out.2.cell 1
  have g0 : W4.frozen? ⟨w.heap.size + 1, 0, none⟩ = false := H4.out.2.frozen 0
  have g1 : W4.frozen? ⟨w.heap.size + 1, 1, none⟩ = false := H4.out.2.frozen 1
  go_wp2
  obtain ⟨hF, hU⟩ := Blk.put2 H4.out.2 (.slice none 0 0) (.slice none 0 0)
  exact bodyPost_ret (results_blk2 rfl rfl hF Try.underlying24 rfl Try.sizePt rfl) rfl ⟨rfl, hU.below H4.out.1 H4.out.1.size (by omega)⟩
set_option maxHeartbeats 4000000 in
theorem Mul_bad {w : World} (c : Int) (fa : Option Addr) (fn fc : Nat) (xa : Option Addr) (xn xc : Nat) (ya : Option Addr) (yn yc : Nat) (n : Int) (hA : ∀ W, Below w.heap.size w W → Calls Try.prog 18 #[.int .i64 c, .slice none 0 0, .slice fa fn fc, .agg #[.slice xa xn xc, .slice ya yn yc]] W fun e w' => e = .returned (.tuple #[.agg #[.slice none 0 0, .slice none 0 0], .int .i64 n]) ∧ Below W.heap.size W w') :
    Calls Try.prog 15 #[.int .i64 c, .slice fa fn fc, .agg #[.slice xa xn xc, .slice ya yn yc]] w fun e w' => e = .returned (.tuple #[.agg #[.slice none 0 0, .slice none 0 0], .int .i64 n]) ∧ Below w.heap.size w w' := by
  have HM : Hid (∀ W, Below w.heap.size w W → Calls Try.prog 18 #[.int .i64 c, .slice none 0 0, .slice fa fn fc, .agg #[.slice xa xn xc, .slice ya yn yc]] W fun e w' => e = .returned (.tuple #[.agg #[.slice none 0 0, .slice none 0 0], .int .i64 n]) ∧ Below W.heap.size W w') := hA
  clear hA
  go_enter Try.func15, Try.ntmps15
  go_upto_region 1 with (refine wpList_boxR rfl 24 (.tmp 2) rfl #[.slice xa xn xc, .slice ya yn yc] rfl ?_)
  refine wp_gen (fun W => Blk 24 W w.heap.size [.slice xa xn xc, .slice ya yn yc] ∧ Blk 24 W (w.heap.size + 1) [.slice none 0 0, .slice none 0 0] ∧ Below w.heap.size w W) ⟨(Blk.new _ w _).alloc _, by have := Blk.new 24 (w.alloc (.cells [.slice xa xn xc, .slice ya yn yc].toArray 24)) [.slice none 0 0, .slice none 0 0]; rw [World.size_alloc] at this; exact this, (al1 _).alloc (by simp) _⟩ ?_
  rintro W2 ⟨hB, hR, hBw⟩
  have H2 : Hid (Below w.heap.size w W2 ∧ Blk 24 W2 (w.heap.size + 1) [.slice none 0 0, .slice none 0 0]) := ⟨hBw, hR⟩
  have p0 : W2.cell? ⟨w.heap.size, 0, none⟩ = some (.slice xa xn xc) := hB.cell 0
  have p1 : W2.cell? ⟨w.heap.size, 1, none⟩ = some (.slice ya yn yc) := hB.cell 1
  clear hB hR hBw
  go_wp2_with fail
  refine (HM.out _ H2.out.1).mono ?_
  rintro e w5 ⟨rfl, hb5⟩
  have H5 : Hid (Below w.heap.size w w5 ∧ Blk 24 w5 (w.heap.size + 1) [.slice none 0 0, .slice none 0 0]) := ⟨below_via H2.out.1 hb5 (Nat.le_refl _), below_blk hb5 H2.out.2.lt H2.out.2⟩
  have d0 : w5.cell? ⟨w.heap.size + 1, 0, none⟩ = some (.slice none 0 0) := H5.out.2.cell 0
  have d1 : w5.cell? ⟨w.heap.size + 1, 1, none⟩ = some (.slice none 0 0) := H5.out.2.cell 1
  have g0 := H5.out.2.frozen 0; have g1 := H5.out.2.frozen 1
  clear p0 p1 hb5
  go_wp2
  obtain ⟨hF, hU⟩ := Blk.put2 H5.out.2 (.slice none 0 0) (.slice none 0 0)
  exact bodyPost_ret (results_blk2 rfl rfl hF Try.underlying24 rfl Try.sizePt rfl) rfl ⟨rfl, hU.below H5.out.1 H5.out.1.size (Nat.le_succ _)⟩
theorem mixA_lists (C : Cv) [NeZero C.p] (A B : List Int) {X Y : List Int} (uX : U32s X) (uY : U32s Y) {P : Pt C.p} (e1 : enc P = ((val X).toNat, (val Y).toNat)) : mixA C A B X Y = mixA C A B (lim (enc P).1) (lim (enc P).2) := by
  unfold mixA
  rw [triB_val uX uY, triB_lim (enc P).1 (enc P).2, e1]
theorem MulL {w : World} {c : Int} {C : Cv} [NeZero C.p] (hc : crv c = some C) (g : Cok C) (vb vx vy : Value) (B X Y : List Int) (hB : Sl .u32 w vb B) (uB : U32s B) (lB : B.length ≤ 64) (hX : Sl .u32 w vx X) (hY : Sl .u32 w vy Y) (uX : U32s X) (uY : U32s Y) (lX : X.length ≤ 1000000) (lY : Y.length ≤ 1000000) (h1 : onC c X Y = true) {P : Pt C.p} (hP : (ec C).On P) (e1 : enc P = ((val X).toNat, (val Y).toNat)) :
    Calls Try.prog 15 #[.int .i64 c, vb, .agg #[vx, vy]] w fun e w' => ∃ a' n' k' b' m' l', e = .returned (.tuple #[.agg #[.slice a' n' k', .slice b' m' l'], .int .i64 0]) ∧ PtV w' a' n' k' b' m' l' ((ec C).mul (val B).toNat P) ∧ Below w.heap.size w w' := by
  obtain ⟨hr, hl⟩ := mixA_rp g hP [] B
  have e0 : (ec C).add ((ec C).mul (val []).toNat (gen C)) ((ec C).mul (val B).toNat P) = (ec C).mul (val B).toNat P := rfl
  rw [e0] at hr
  rw [← mixA_lists C [] B uX uY e1] at hr hl
  refine (Mul_ok c C hc vb _ _ B X Y hB hX hY uB uX uY lB lX lY (onC_onB hc h1) (fun h0 => z_gcd g hl.2.2 h0)).mono ?_
  rintro e w' h
  obtain ⟨r0, r1, RX, RY, rfl, hj, n0, n1, hb⟩ := h
  have hj := Gl.jpt_enc hl hr hj
  obtain ⟨a', k', hr0⟩ := n0.form
  obtain ⟨b', l', hr1⟩ := n1.form
  subst hr0 hr1
  exact ⟨_, _, _, _, _, _, rfl, ⟨by rw [hj]; exact n0, by rw [hj]; exact n1⟩, hb⟩
end Go.Proofs.Ytkdclocjijmgpaa
/-
  Curves: a point and an error are told.
-/
namespace Go.Proofs.Ytkdclocjijmgpaa
open Go.RowKit
/-- A point and an error are told. -/
def PtE (w : World) (x y : Nat) (er : Int) (e : Ending) (w' : World) : Prop := ∃ a n k b m l, e = .returned (.tuple #[.agg #[.slice a n k, .slice b m l], .int .i64 er]) ∧ Nb w' (.slice a n k) x ∧ Nb w' (.slice b m l) y ∧ Below w.heap.size w w'
theorem nb_nil (w : World) : Nb w (.slice none 0 0) 0 := by
  have h0 : lim 0 = [] := List.eq_nil_of_length_eq_zero (lim0.2 rfl)
  unfold Nb
  rw [h0]
  exact ⟨none, 0, rfl, Nat.le_refl _, .inl rfl⟩
theorem PtE.bad {w w' : World} {er : Int} {e : Ending} (h : e = .returned (.tuple #[.agg #[.slice none 0 0, .slice none 0 0], .int .i64 er]) ∧ Below w.heap.size w w') : PtE w 0 0 er e w' := ⟨_, _, _, _, _, _, h.1, nb_nil _, nb_nil _, h.2⟩
theorem PtE.sv {w w' : World} {er : Int} {e : Ending} {x y : Nat} (h : ∃ b : SV × SV, e = .returned (.tuple #[.agg #[sv b.1, sv b.2], .int .i64 er]) ∧ (Nb w' (sv b.1) x ∧ Nb w' (sv b.2) y) ∧ Below w.heap.size w w') : PtE w x y er e w' := by
  obtain ⟨b, h1, h2, h3⟩ := h
  exact ⟨_, _, _, _, _, _, h1, h2.1, h2.2, h3⟩
theorem sl_n {k : IntKind} {w : World} {a : Option Addr} {n c : Nat} {X : List Int} (h : Sl k w (.slice a n c) X) : X.length = n := by
  obtain ⟨a', c', h1, _⟩ := h.len
  simp only [Value.slice.injEq] at h1
  exact h1.2.1.symm
end Go.Proofs.Ytkdclocjijmgpaa
/-
  Curves: Mix, Mul of both sides, whatever they are asked. (wip/mkh41.py)
-/
namespace Go.Proofs.Ytkdclocjijmgpaa
open Go.RowKit Gl
set_option maxRecDepth 20000
theorem Muls_ans (c : Int) (B X Y : List Int) (uB : U32s B) (uX : U32s X) (uY : U32s Y) (lX : X.length ≤ 1000000) (lY : Y.length ≤ 1000000) :
    ∃ (x y : Nat) (er : Int), x < 4294967296 ^ 12 ∧ y < 4294967296 ^ 12 ∧ (∀ (W : World) (fa : Option Addr) (fn fc : Nat) (xa : Option Addr) (xn xc : Nat) (ya : Option Addr) (yn yc : Nat), Sl .u32 W (.slice fa fn fc) B → Sl .u32 W (.slice xa xn xc) X → Sl .u32 W (.slice ya yn yc) Y → Calls Try.prog 15 #[.int .i64 c, .slice fa fn fc, .agg #[.slice xa xn xc, .slice ya yn yc]] W (PtE W x y er)) ∧ (∀ (W : World) (fa : Option Addr) (fn fc : Nat) (xa : Option Addr) (xn xc : Nat) (ya : Option Addr) (yn yc : Nat), Sl .u32 W (.slice fa fn fc) B → Sl .u32 W (.slice xa xn xc) X → Sl .u32 W (.slice ya yn yc) Y → Calls Try.prog 16 #[.int .i64 c, .slice fa fn fc, .agg #[.slice xa xn xc, .slice ya yn yc]] W (PtE W x y er)) := by
  cases hc : crv c with
  | none =>
    refine ⟨0, 0, 1, by decide, by decide, fun W fa fn fc xa xn xc ya yn yc hB hX hY => ?_, fun W fa fn fc xa xn xc ya yn yc hB hX hY => ?_⟩
    · exact (Mul_bad c fa fn fc xa xn xc ya yn yc 1 fun W1 hW1 => Mix_bad c none 0 0 fa fn fc xa xn xc ya yn yc 1 (by decide) fun W2 b1 T1 b2 T2 hW h1 h2 => asked_no c hc _ _).mono fun e w' h => PtE.bad h
    · exact (RMul_bad c fa fn fc xa xn xc ya yn yc X Y hX hY uX uY lX lY 1 (by unfold askR; rw [hc]) (by decide)).mono fun e w' h => PtE.bad h
  | some C =>
    obtain ⟨hz, g⟩ := crv_cok hc
    have eo1 : onC c X Y = onB C.p C.b X Y := by unfold onC; rw [hc]
    by_cases lB : 64 < B.length
    · refine ⟨0, 0, 3, by decide, by decide, fun W fa fn fc xa xn xc ya yn yc hB hX hY => ?_, fun W fa fn fc xa xn xc ya yn yc hB hX hY => ?_⟩
      · have nB := sl_n hB
        exact (Mul_bad c fa fn fc xa xn xc ya yn yc 3 fun W1 hW1 => Mix_bad c none 0 0 fa fn fc xa xn xc ya yn yc 3 (by decide) fun W2 b1 T1 b2 T2 hW h1 h2 => asked_long1 c C hc none 0 0 (by omega) fa fn fc (by omega) b1 T1 h1 _).mono fun e w' h => PtE.bad h
      · have nB := sl_n hB
        exact (RMul_bad c fa fn fc xa xn xc ya yn yc X Y hX hY uX uY lX lY 3 (by unfold askR; rw [hc]; exact if_pos (by omega)) (by decide)).mono fun e w' h => PtE.bad h
    cases h1 : onC c X Y with
    | false =>
      refine ⟨0, 0, 90, by decide, by decide, fun W fa fn fc xa xn xc ya yn yc hB hX hY => ?_, fun W fa fn fc xa xn xc ya yn yc hB hX hY => ?_⟩
      · have nB := sl_n hB
        exact (Mul_bad c fa fn fc xa xn xc ya yn yc 90 fun W1 hW1 => Mix_bad c none 0 0 fa fn fc xa xn xc ya yn yc 90 (by decide) fun W2 b1 T1 b2 T2 hW h1 h2 => asked_off21 c C hc none 0 0 (by omega) fa fn fc (by omega) b1 T1 h1 b2 T2 _ _ X Y h2 (below_sl hW (below_sl hW1 hX)) (below_sl hW (below_sl hW1 hY)) uX uY lX lY (eo1 ▸ ‹onC c X Y = false›)).mono fun e w' h => PtE.bad h
      · have nB := sl_n hB
        exact (RMul_bad c fa fn fc xa xn xc ya yn yc X Y hX hY uX uY lX lY 90 (by unfold askR; rw [hc, h1]; rw [if_neg (by omega)]; rfl) (by decide)).mono fun e w' h => PtE.bad h
    | true =>
      obtain ⟨P, hP, eP⟩ := on_pt hc g uX uY h1
      have hl := enc_lt ((ec C).mul (val B).toNat P)
      have hp := crv_p12 hc
      refine ⟨_, _, 0, Nat.lt_trans hl.1 hp, Nat.lt_trans hl.2 hp, fun W fa fn fc xa xn xc ya yn yc hB hX hY => ?_, fun W fa fn fc xa xn xc ya yn yc hB hX hY => ?_⟩
      · exact (MulL hc g _ _ _ B X Y hB uB (by omega) hX hY uX uY lX lY h1 hP eP).mono fun e w' ⟨a, n, k, b, m, l, h3, h4, h5⟩ => ⟨a, n, k, b, m, l, h3, h4.1, h4.2, h5⟩
      · have nB := sl_n hB
        exact (RMul_ok hc g fa fn fc B hB uB (by omega) xa xn xc ya yn yc X Y hX hY uX uY lX lY h1 hP (by rw [eP]) (by rw [eP])).mono fun e w' h => PtE.sv h
end Go.Proofs.Ytkdclocjijmgpaa
/-
  How the laws' arguments read (a plain seat).
-/
namespace Go.Proofs.Ytkdclocjijmgpaa
open Go.RowKit
/-! ### how an argument reads -/
def IsRow (k : IntKind) (w : World) (a : Option Addr) (len cap : Nat) (zs : List Int) : Prop :=
  (a = none ∧ len = 0 ∧ cap = 0 ∧ zs = []) ∨
  ∃ x, a = some x ∧ len ≤ cap ∧ cap ≤ maxLen ∧ zs.length = cap ∧ (∀ i, i < zs.length → w.cell? (x.add i) = some (.int k (zs.getD i 0))) ∧ ∀ n ∈ zs, (Lit.int k n).wf = true
theorem cell_spot {w : World} {x : Addr} {v : Value} (h : w.cell? x = some v) : x.spot = none ∧ x.block < w.heap.size := by
  unfold World.cell? at h
  split at h
  · rename_i c t f hh
    refine ⟨?_, (Array.getElem?_eq_some_iff.1 hh).1⟩
    by_cases hs : x.spot.isSome
    · simp [hs] at h
    · simpa using hs
  · cases h
theorem IsRow.sl {k : IntKind} {w : World} {a : Option Addr} {len cap : Nat} {zs : List Int} (h : IsRow k w a len cap zs) :
    ∃ X, X.length = len ∧ Sl k w (.slice a len cap) X ∧ ∀ n ∈ X, (Lit.int k n).wf = true := by
  rcases h with ⟨rfl, rfl, rfl, rfl⟩ | ⟨x, rfl, hl, hm, hz, hc, hw⟩
  · exact ⟨[], rfl, ⟨none, 0, rfl, Nat.le_refl _, .inl rfl⟩, by simp⟩
  · refine ⟨zs.take len, by simp; omega, ⟨some x, cap, by simp; omega, by simp; omega, ?_⟩, fun n hn => hw n (List.mem_of_mem_take hn)⟩
    by_cases h0 : len = 0
    · subst h0; exact .inl (by simp)
    · right
      obtain ⟨b, off, sp⟩ := x
      have h1 := cell_spot (hc 0 (by omega))
      have hsp : sp = none := by
        have := h1.1
        cases sp with
        | none => rfl
        | some s => simp [Addr.add] at this
      subst hsp
      have hb : b < w.heap.size := by have := h1.2; simpa [Addr.add] using this
      refine ⟨b, off, rfl, hb, fun i hi => ?_⟩
      simp at hi
      have := hc i (by omega)
      have hadd : (⟨b, off, none⟩ : Addr).add i = ⟨b, off + i, none⟩ := by simp [Addr.add]
      rw [hadd] at this
      rw [this]
      simp [show i < len by omega]
theorem IsRow.sl32 {w : World} {a : Option Addr} {len cap : Nat} {zs : List Int} (h : IsRow .u32 w a len cap zs) : ∃ X, X.length = len ∧ Sl .u32 w (.slice a len cap) X ∧ U32s X := by
  obtain ⟨X, h1, h2, h3⟩ := h.sl
  exact ⟨X, h1, h2, fun n hn => by have := bounds_u32 (h3 n hn); exact ⟨this.1, by omega⟩⟩
end Go.Proofs.Ytkdclocjijmgpaa
/-
  Curve: the law CurveOns.
-/
namespace Go.Proofs.Ytkdclocjijmgpaa
open Go.RowKit
set_option maxRecDepth 20000
set_option maxHeartbeats 2000000 in
theorem long09_any {w : World} (a1 : Option Addr) (n1 c1 : Nat) (a2 : Option Addr) (n2 c2 : Nat) (r : Bool) (hr : (decide (600 < (n1 : Int)) || decide (600 < (n2 : Int))) = r) :
    Calls Try.prog 6 #[.agg #[.slice a1 n1 c1, .slice a2 n2 c2]] w fun e w' => e = .returned (.bool r) ∧ Below w.heap.size w w' := by
  have HR : Hid ((decide (600 < (n1 : Int)) || decide (600 < (n2 : Int))) = r) := hr
  clear hr
  by_cases h1 : n1 ≤ 600
  · have g1 : decide ((600 : Int) < (n1 : Int)) = false := by simp; omega
    have HR2 : Hid (decide ((600 : Int) < (n2 : Int)) = r) := by show _ = _; rw [← HR.out, g1]; rfl
    clear h1 HR
    go_enter Try.func6, Try.ntmps6
    go_upto_region 1 with (refine wpList_boxR rfl 24 (.tmp 0) rfl #[.slice a1 n1 c1, .slice a2 n2 c2] rfl ?_)
    refine wp_gen (fun W => Blk 24 W w.heap.size [.slice a1 n1 c1, .slice a2 n2 c2] ∧ Below w.heap.size w W) ⟨Blk.new _ w _, al1 _⟩ ?_
    rintro W2 ⟨hB, hBw⟩
    have p0 : W2.cell? ⟨w.heap.size, 0, none⟩ = some (.slice a1 n1 c1) := hB.cell 0
    have p1 : W2.cell? ⟨w.heap.size, 1, none⟩ = some (.slice a2 n2 c2) := hB.cell 1
    have H2 : Hid (Below w.heap.size w W2) := hBw
    clear hB hBw
    go_wp2
    go_ret
    exact ⟨by rw [← HR2.out]; rfl, H2.out⟩
  · have g1 : decide ((600 : Int) < (n1 : Int)) = true := by simp; omega
    have HR2 : Hid (true = r) := by show _ = _; rw [← HR.out, g1]; rfl
    clear h1 HR
    go_enter Try.func6, Try.ntmps6
    go_upto_region 1 with (refine wpList_boxR rfl 24 (.tmp 0) rfl #[.slice a1 n1 c1, .slice a2 n2 c2] rfl ?_)
    refine wp_gen (fun W => Blk 24 W w.heap.size [.slice a1 n1 c1, .slice a2 n2 c2] ∧ Below w.heap.size w W) ⟨Blk.new _ w _, al1 _⟩ ?_
    rintro W2 ⟨hB, hBw⟩
    have p0 : W2.cell? ⟨w.heap.size, 0, none⟩ = some (.slice a1 n1 c1) := hB.cell 0
    have p1 : W2.cell? ⟨w.heap.size, 1, none⟩ = some (.slice a2 n2 c2) := hB.cell 1
    have H2 : Hid (Below w.heap.size w W2) := hBw
    clear hB hBw
    go_wp2
    go_ret
    exact ⟨by rw [← HR2.out]; rfl, H2.out⟩
end Go.Proofs.Ytkdclocjijmgpaa
/-
  The walks of Lent and Kept: a list in memory of its own with two marks behind it; whether it is as it was.
-/
namespace Go.Proofs.Ytkdclocjijmgpaa.Nt
open Go.RowKit

/-- A lent list: a block from B on that holds X, the two marks, and whatever else. -/
def LentR (B : Nat) (w : World) (v : Value) (X : List Int) : Prop :=
  ∃ b S, v = .slice (some ⟨b, 0, none⟩) X.length S.length ∧ B ≤ b ∧ Arr .u32 45 w b S ∧ S.take (X.length + 2) = X ++ [57005, 48879] ∧ X.length + 2 ≤ S.length ∧ S.length ≤ maxLen
theorem LentR.sl {B : Nat} {w : World} {v : Value} {X : List Int} (h : LentR B w v X) : Sl .u32 w v X := by
  obtain ⟨b, S, rfl, _, hA, ht, hl, _⟩ := h
  refine ⟨_, _, rfl, by omega, .inr ⟨b, 0, rfl, hA.lt, ?_⟩⟩
  have h1 := hA.rd 0 X.length (by omega)
  have e : S.take X.length = X := by
    have : (S.take (X.length + 2)).take X.length = S.take X.length := by rw [List.take_take]; congr 1; omega
    rw [← this, ht, List.take_left]
  rw [List.drop_zero, e] at h1; exact h1
theorem LentR.below {B : Nat} {w w' : World} {v : Value} {X : List Int} (h : LentR B w v X) (hb : Below w.heap.size w w') : LentR B w' v X := by
  obtain ⟨b, S, rfl, h1, hA, h2⟩ := h
  exact ⟨b, S, rfl, h1, below_arr hb hA.lt hA, h2⟩
theorem LentR.mono {B B' : Nat} {w : World} {v : Value} {X : List Int} (h : LentR B w v X) (hb : B' ≤ B) : LentR B' w v X := by
  obtain ⟨b, S, rfl, h1, h2⟩ := h
  exact ⟨b, S, rfl, by omega, h2⟩

set_option maxHeartbeats 1000000 in
theorem Lent_any (X : List Int) (v : Value) (w : World) (hX : Sl .u32 w v X) (hl : X.length * 4 ≤ 140737488351232) :
    Calls Try.prog 14 #[v] w fun e w' => ∃ r, e = .returned r ∧ LentR w.heap.size w' r X ∧ Below w.heap.size w w' := by
  obtain ⟨a, c, hv, hc⟩ : ∃ a c, v = .slice a X.length c ∧ X.length ≤ c := by obtain ⟨a, c, h, h', _⟩ := hX; exact ⟨a, c, h, h'⟩
  subst hv
  go_enter Try.func14, Try.ntmps14
  go_wp2_with (first
    | (at_builtin; replace hr1 := hr1; refine wpList_ap rfl (.tmp 6) (.tmp 7) 22 22 rfl .u32 45 4 Try.und32 Try.info32 (by decide) w.heap.size _ X rfl (hr1.alloc _) _ [57005, 48879] rfl (src_sl Try.und32 (Arr.sl (S := [57005, 48879]) (arr_new rfl rfl))) (by simp; omega) (by have := hB1.size; simp at this ⊢; omega) ?_; intro v2 w2 hr2 hg2; have hB2 := hg2.below (hr1.alloc _) (by have := hB1.size; simp at this ⊢; omega); obtain ⟨b2, S2, hv2, hb2, hA2, hl2, ht2, hm2⟩ := hr2.open (X.length + 2) (by simp) (by omega); subst hv2; clear hr2 hg2)
    | (at_builtin; refine wpList_ap rfl (.tmp 4) (.tmp 5) 22 22 rfl .u32 45 4 Try.und32 Try.info32 (by decide) w.heap.size _ [] rfl (Row.arr (S := []) (arr_new rfl rfl) (Nat.le_refl _) (by decide)) _ X rfl (src_sl Try.und32 (al1 hX)) (by simp; omega) (by simp) ?_; intro v1 w1 hr1 hg1; have hB1 := hg1.below (Row.arr (B := w.heap.size) (S := []) (arr_new rfl rfl) (Nat.le_refl _) (by decide)) (by simp)))
  go_ret
  have hb1 : Below w.heap.size w w1 := (al (Below.refl _ _)).trans hB1
  have hb' : Below w.heap.size w w2 := (al hb1).trans hB2
  exact ⟨_, rfl, ⟨b2, S2, rfl, hb2, hA2, by simpa using ht2, hl2, hm2⟩, hb'⟩

set_option maxHeartbeats 1000000 in
theorem Kept_any {B : Nat} {w : World} (v u : Value) (X : List Int) (hv : LentR B w v X) (hu : Sl .u32 w u X) (hl : X.length ≤ 35184372088832) :
    Calls Try.prog 17 #[v, u] w fun e w' => e = .returned (.bool true) ∧ Below w.heap.size w w' := by
  have hs := hv.sl
  obtain ⟨b, S, rfl, hb, hA, ht, hle, hm⟩ := hv
  obtain ⟨a', c', hu', _⟩ := hu.len
  subst hu'
  have e1 : S.getD X.length 0 = 57005 := by
    have : (S.take (X.length + 2)).getD X.length 0 = S.getD X.length 0 := by simp [List.getD]
    rw [← this, ht]; simp [List.getD]
  have e2 : S.getD (X.length + 1) 0 = 48879 := by
    have : (S.take (X.length + 2)).getD (X.length + 1) 0 = S.getD (X.length + 1) 0 := by simp [List.getD]
    rw [← this, ht]; simp [List.getD]
  have hc1 := hA.cell X.length (by omega)
  have hc2 := hA.cell (X.length + 1) (by omega)
  rw [e1] at hc1; rw [e2] at hc2
  clear e1 e2 ht
  have hmm : (S.length : Int) ≤ 9223372036854775807 := by unfold maxLen at hm; omega
  have hlt := hA.lt
  go_enter Try.func17, Try.ntmps17
  go_wp2_with (first
    | (go_at_call 39; refine (Same_any _ _ X hs hu (by omega)).mono ?_; rintro e w' ⟨rfl, hB⟩; rw [← hB.cell (p := ⟨b, X.length, none⟩) hlt] at hc1; rw [← hB.cell (p := ⟨b, X.length + 1, none⟩) hlt] at hc2))
  go_ret
  exact ⟨rfl, hB⟩
end Go.Proofs.Ytkdclocjijmgpaa.Nt
