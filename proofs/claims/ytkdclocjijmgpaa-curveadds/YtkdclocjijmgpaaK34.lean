/-
  Curves: the reference's Neg. (wip/mkh34.py)
-/
import Derived.Test.YtkdclocjijmgpaaK33
namespace Go.Proofs.Ytkdclocjijmgpaa
open Go.RowKit Gl
set_option maxRecDepth 20000
theorem RSubN {w : World} (a b : Value) (x y : Nat) (ha : Nb w a x) (hb : Nb w b y) (hx : (lim x).length ≤ 512) (hy : (lim y).length ≤ 512) (hle : y ≤ x) :
    Calls Try.prog 36 #[a, b] w fun e w' => ∃ s : SV, e = .returned (.tuple #[sv s, .int .i64 0]) ∧ Nb w' (sv s) (x - y) ∧ Below w.heap.size w w' := by
  refine (Nt.RSub_any (lim x) (lim y) a b w ha hb (lim_u32 _) (lim_u32 _)).mono ?_
  rintro e w' ⟨⟨r, rfl, ho⟩, hB⟩
  have e1 : Nt.subS (lim x) (lim y) = (lim (x - y), 0) := by
    unfold Nt.subS; rw [if_neg (by omega), val_lim, val_lim, if_neg (by omega)]
    have : ((x : Int) - (y : Int)).toNat = x - y := by omega
    rw [this]
  rw [e1] at ho ⊢
  have ho : Nb w' r (x - y) := ho
  obtain ⟨ra, rc, hr⟩ := ho.form
  subst hr
  exact ⟨(ra, _, rc), rfl, ho, hB⟩
theorem eg_sub1 (args : Array Value) (w : World) : (callFunc 36 args).run Try.prog w = .ok (.enter 36 args) w := eg_of Try.func36 (by kernel_rfl) (by kernel_rfl) args w
theorem eg_prime (args : Array Value) (w : World) : (callFunc 37 args).run Try.prog w = .ok (.enter 37 args) w := eg_of Try.func37 (by kernel_rfl) (by kernel_rfl) args w
theorem run_assignT {a : Act} {W : World} {o : Oper} {t : Tmp} (hop : o.op = .assign (.tmp t)) {v : Value} (hx : a.eval (.tmp t) = v) : (execOp a.eval o).run Try.prog W = .ok (.value v) W := by
  subst hx
  unfold execOp
  simp only [hop]
  simp [go_sem]
theorem run_ext0 {a : Act} {W : World} {o : Oper} {t : Tmp} (hop : o.op = .extract (.tmp t) 0) {u v : Value} (hx : a.eval (.tmp t) = .tuple #[u, v]) : (execOp a.eval o).run Try.prog W = .ok (.value u) W := by
  unfold execOp
  simp only [hop, hx]
  simp [go_sem]
theorem run_ext1 {a : Act} {W : World} {o : Oper} {t : Tmp} (hop : o.op = .extract (.tmp t) 1) {u v : Value} (hx : a.eval (.tmp t) = .tuple #[u, v]) : (execOp a.eval o).run Try.prog W = .ok (.value v) W := by
  unfold execOp
  simp only [hop, hx]
  simp [go_sem]
/-- Three numbers are made; nothing is written. -/
def SN (w0 : World) (x y z : Nat) (b : SV × SV × SV) (L : Array Bool) (W : World) : Prop :=
  Below w0.heap.size w0 W ∧ (Up L 1 → Nb W (sv b.1) x) ∧ (Up L 4 → Nb W (sv b.2.1) y) ∧ (Up L 5 → Nb W (sv b.2.2) z) ∧ (∀ k, 6 ≤ k → Up L k → k ≠ 8 → k ≠ 10 → Up L 5)
theorem SN.keep {w0 : World} {x y z : Nat} {b : SV × SV × SV} {L : Array Bool} {W W' : World} (h : SN w0 x y z b L W) {i : Nat} (h1 : i ≠ 1) (h4 : i ≠ 4) (h5 : i ≠ 5) (h6 : 6 ≤ i → i ≠ 8 → i ≠ 10 → Up L 5) (hb : Below W.heap.size W W') : SN w0 x y z b (L.setIfInBounds i true) W' :=
  ⟨below_via h.1 hb (Nat.le_refl _), fun u => (h.2.1 ((up_st h1).1 u)).below hb, fun u => (h.2.2.1 ((up_st h4).1 u)).below hb, fun u => (h.2.2.2.1 ((up_st h5).1 u)).below hb, fun k hk u n8 n10 => (up_st h5).2 (by
    by_cases e : i = k
    · exact h6 (by omega) (by omega) (by omega)
    · exact h.2.2.2.2 k hk ((up_st e).1 u) n8 n10)⟩
theorem SN.put1 {w0 : World} {x y z : Nat} {b : SV × SV × SV} {L : Array Bool} {W W' : World} (h : SN w0 x y z b L W) (hb : Below W.heap.size W W') {s : SV} (hs : Nb W' (sv s) x) : SN w0 x y z (s, b.2) (L.setIfInBounds 1 true) W' :=
  ⟨below_via h.1 hb (Nat.le_refl _), fun _ => hs, fun u => (h.2.2.1 ((up_st (by decide)).1 u)).below hb, fun u => (h.2.2.2.1 ((up_st (by decide)).1 u)).below hb, fun k hk u n8 n10 => (up_st (by decide)).2 (h.2.2.2.2 k hk ((up_st (by omega)).1 u) n8 n10)⟩
theorem SN.put4 {w0 : World} {x y z : Nat} {b : SV × SV × SV} {L : Array Bool} {W W' : World} (h : SN w0 x y z b L W) (hb : Below W.heap.size W W') {s : SV} (hs : Nb W' (sv s) y) : SN w0 x y z (b.1, s, b.2.2) (L.setIfInBounds 4 true) W' :=
  ⟨below_via h.1 hb (Nat.le_refl _), fun u => (h.2.1 ((up_st (by decide)).1 u)).below hb, fun _ => hs, fun u => (h.2.2.2.1 ((up_st (by decide)).1 u)).below hb, fun k hk u n8 n10 => (up_st (by decide)).2 (h.2.2.2.2 k hk ((up_st (by omega)).1 u) n8 n10)⟩
theorem SN.put5 {w0 : World} {x y z : Nat} {b : SV × SV × SV} {L : Array Bool} {W W' : World} (h : SN w0 x y z b L W) (hl : 5 < L.size) (hb : Below W.heap.size W W') {s : SV} (hs : Nb W' (sv s) z) : SN w0 x y z (b.1, b.2.1, s) (L.setIfInBounds 5 true) W' :=
  ⟨below_via h.1 hb (Nat.le_refl _), fun u => (h.2.1 ((up_st (by decide)).1 u)).below hb, fun u => (h.2.2.1 ((up_st (by decide)).1 u)).below hb, fun _ => hs, fun _ _ _ _ _ => up_same hl⟩
/-- A point's block filled last with two numbers, of which the one is made on the way. -/
def SP (w0 : World) (bs x y : Nat) (s : SV) (b : SV) (L : Array Bool) (W : World) : Prop :=
  SB w0 24 bs [.slice none 0 0, .slice none 0 0] [sv b, sv s] 5 6 () L W ∧ (Up L 2 → Nb W (sv b) x) ∧ Nb W (sv s) y ∧ (Up L 4 → Up L 2)
theorem SP.keep {w0 : World} {bs x y : Nat} {s b : SV} {L : Array Bool} {W W' : World} (h : SP w0 bs x y s b L W) {i : Nat} (hi : i < 5) (hno : ¬ Up L i) (h2 : i ≠ 2) (h4 : i = 4 → Up L 2) (hb : Below W.heap.size W W') : SP w0 bs x y s b (L.setIfInBounds i true) W' :=
  ⟨h.1.keep (by omega) hno (by omega) hb, fun u => (h.2.1 ((up_st h2).1 u)).below hb, h.2.2.1.below hb, fun u => (up_st h2).2 (by
    by_cases e : i = 4
    · exact h4 e
    · exact h.2.2.2 ((up_st e).1 u))⟩
theorem SP.put2 {w0 : World} {bs x y : Nat} {s b : SV} {L : Array Bool} {W W' : World} (h : SP w0 bs x y s b L W) (hno : ¬ Up L 2) (hl : 2 < L.size) (hb : Below W.heap.size W W') {v : SV} (hv : Nb W' (sv v) x) : SP w0 bs x y s v (L.setIfInBounds 2 true) W' :=
  ⟨(h.1.keep (i := 2) (by decide) hno (by decide) hb).re (fun u => hno ((h.1.2.2.2 ((up_st (by decide)).1 u)).2 2 (by decide))), fun _ => hv, h.2.2.1.below hb, fun _ => up_same hl⟩
theorem SP.setL {w0 : World} {bs x y : Nat} {s b : SV} {L : Array Bool} {W : World} (h : SP w0 bs x y s b L W) : SP w0 bs x y s b (L.setIfInBounds 6 true) W :=
  ⟨h.1.setL (by decide) (by decide), fun u => h.2.1 ((up_st (by decide)).1 u), h.2.2.1, fun u => (up_st (by decide)).2 (h.2.2.2 ((up_st (by decide)).1 u))⟩
theorem SP.store {w0 : World} {bs x y : Nat} {s b : SV} {L : Array Bool} {W : World} (h : SP w0 bs x y s b L W) (hno : ¬ Up L 5) (hl : 5 < L.size) (hall : ∀ k, k < 6 → k ≠ 5 → Up L k) : SP w0 bs x y s b (L.setIfInBounds 5 true) (W.setCells bs 0 [sv b, sv s]) := by
  have hU : Upd W (W.setCells bs 0 [sv b, sv s]) bs := Upd.setCells _ 0 W
  have hB := (h.1.2.2.1 hno).2
  exact ⟨h.1.store hno hl hall rfl, fun u => (h.2.1 ((up_st (by decide)).1 u)).upd hB sn_nn hU, h.2.2.1.upd hB sn_nn hU, fun u => (up_st (by decide)).2 (h.2.2.2 ((up_st (by decide)).1 u))⟩
set_option maxHeartbeats 4000000 in
theorem RNeg_ok {w : World} {c : Int} {C : Cv} [NeZero C.p] (hc : crv c = some C) (g : Cok C) (a1 : Option Addr) (n1 c1 : Nat) (a2 : Option Addr) (n2 c2 : Nat) (X Y : List Int) (hX : Sl .u32 w (.slice a1 n1 c1) X) (hY : Sl .u32 w (.slice a2 n2 c2) Y) (uX : U32s X) (uY : U32s Y) (lX : X.length ≤ 1000000) (lY : Y.length ≤ 1000000) (hon : onC c X Y = true) {P : Pt C.p} (hP : (ec C).On P) (e1 : (val X).toNat = (enc P).1) (e2 : (val Y).toNat = (enc P).2) :
    Calls Try.prog 11 #[.int .i64 c, .agg #[.slice a1 n1 c1, .slice a2 n2 c2]] w fun e w' => ∃ b : SV × SV, e = .returned (.tuple #[.agg #[sv b.1, sv b.2], .int .i64 0]) ∧ (Nb w' (sv b.1) (enc (neg P)).1 ∧ Nb w' (sv b.2) (enc (neg P)).2) ∧ Below w.heap.size w w' := by
  have hp : Fp C.p := ⟨by have := g.p3; omega, crv_p12 hc⟩
  have HA : Hid (∀ W, Below w.heap.size w W → Calls Try.prog 28 #[.int .i64 c, .slice none 0 0, .slice none 0 0, .agg #[.slice a1 n1 c1, .slice a2 n2 c2], .agg #[.slice a1 n1 c1, .slice a2 n2 c2]] W fun e w' => e = .returned (.int .i64 0) ∧ Below W.heap.size W w') := fun W h => by
    have := RAsked_any c none 0 0 none 0 0 a1 n1 c1 a2 n2 c2 X Y a1 n1 c1 a2 n2 c2 X Y (below_sl h hX) (below_sl h hY) uX uY lX lY (below_sl h hX) (below_sl h hY) uX uY lX lY
    have e0 : askR c 0 0 (onC c X Y) (onC c X Y) = 0 := by unfold askR; rw [hc, hon]; simp
    rw [e0] at this
    exact this
  have HF : Hid (∀ W, Below w.heap.size w W → Calls Try.prog 35 #[.agg #[.slice a1 n1 c1, .slice a2 n2 c2]] W fun e w' => e = .returned (.bool (farB X Y)) ∧ Below W.heap.size W w') := fun W h => RFar _ _ X Y (below_sl h hX) (below_sl h hY) uX uY lX lY
  have vX : val X = ((val X).toNat : Int) := by have := val_nonneg uX; omega
  have vY : val Y = ((val Y).toNat : Int) := by have := val_nonneg uY; omega
  have HX : Hid (∀ W, Below w.heap.size w W → Calls Try.prog 38 #[.slice a1 n1 c1] W fun e w' => ∃ v, e = .returned v ∧ ∃ s : SV, v = sv s ∧ Nb w' (sv s) (enc P).1 ∧ Below W.heap.size W w') := fun W h => (RTrimL _ X (below_sl h hX) uX lX _ (e1 ▸ vX)).mono fun e w' ⟨a, n, c, h1, h2, h3⟩ => ⟨_, h1, (a, n, c), rfl, h2, h3⟩
  have HY : Hid (∀ W, Below w.heap.size w W → Calls Try.prog 38 #[.slice a2 n2 c2] W fun e w' => ∃ v, e = .returned v ∧ ∃ s : SV, v = sv s ∧ Nb w' (sv s) (enc P).2 ∧ Below W.heap.size W w') := fun W h => (RTrimL _ Y (below_sl h hY) uY lY _ (e2 ▸ vY)).mono fun e w' ⟨a, n, c, h1, h2, h3⟩ => ⟨_, h1, (a, n, c), rfl, h2, h3⟩
  have HPr : Hid (∀ W : World, Calls Try.prog 37 #[.int .i64 c] W fun e w' => ∃ v, e = .returned v ∧ ∃ s : SV, v = sv s ∧ Nb w' (sv s) C.p ∧ Below W.heap.size W w') := fun W => (RPrime_any c).mono fun e w' ⟨r, h1, h2, h3⟩ => by
    rw [hc] at h2
    obtain ⟨ra, rc, hr⟩ := h2.form
    subst hr
    exact ⟨_, h1, (ra, _, rc), rfl, h2, h3⟩
  have hl := enc_lt P
  have HD : Hid ((farB X Y = true → enc (neg P) = (0, 0)) ∧ (farB X Y = false → enc (neg P) = ((enc P).1, C.p - (enc P).2))) := by
    have hfe : farB X Y = true ↔ P = none := by
      unfold farB
      rw [decide_eq_true_iff, ← enc_far g.b0 hP, ← e1, ← e2]
      constructor
      · rintro ⟨h1, h2⟩; exact ⟨by rw [h1]; rfl, by rw [h2]; rfl⟩
      · rintro ⟨h1, h2⟩; exact ⟨by omega, by omega⟩
    refine ⟨fun h => ?_, fun h => ?_⟩
    · rw [hfe.1 h]; rfl
    · rw [neg_enc]
      have hn : P ≠ none := fun e => by rw [hfe.2 e] at h; exact Bool.noConfusion h
      have hy : (enc P).2 ≠ 0 := by
        match P, hP, hn with
        | some (x, y), hP, _ =>
          intro h0
          have hy0 : y = 0 := Fin.ext h0
          have hon : y * y = x * x * x + (ec C).a * x + (ec C).b := hP
          rw [hy0] at hon
          refine g.hno x ?_
          rw [← hon]
          grobner
      have : fsb C.p 0 (enc P).2 = C.p - (enc P).2 := by unfold fsb; rw [Nat.zero_add]; exact Nat.mod_eq_of_lt (by omega)
      rw [this]
  have HSu : Hid (∀ (W : World) (s t : SV), Nb W (sv s) C.p → Nb W (sv t) (enc P).2 → Calls Try.prog 36 #[sv s, sv t] W fun e w' => ∃ v, e = .returned v ∧ ∃ r : SV, v = .tuple #[sv r, .int .i64 0] ∧ Nb w' (sv r) (C.p - (enc P).2) ∧ Below W.heap.size W w') := fun W s t h1 h2 => (RSubN _ _ _ _ h1 h2 (by have := lim12 hp.2; omega) (by have := lim12 (hp.lt hl.2); omega) (by omega)).mono fun e w' ⟨r, h3, h4, h5⟩ => ⟨_, h3, r, rfl, h4, h5⟩
  obtain ⟨q, hq⟩ : ∃ q, farB X Y = q := ⟨_, rfl⟩
  rw [hq] at HF HD
  obtain ⟨p, hpp⟩ : ∃ p, C.p = p := ⟨_, rfl⟩
  obtain ⟨y, hy⟩ : ∃ y, (enc P).2 = y := ⟨_, rfl⟩
  obtain ⟨x, hx⟩ : ∃ y, (enc P).1 = y := ⟨_, rfl⟩
  obtain ⟨R, hR⟩ : ∃ y, enc (neg P) = y := ⟨_, rfl⟩
  rw [hR]
  rw [hR, hx, hy] at HD
  rw [hx] at HX
  rw [hy] at HY HSu
  have HN0 : Hid (∀ W : World, Nb W (.slice none 0 0) 0) := fun W => by
    have h0 : lim 0 = [] := List.eq_nil_of_length_eq_zero (lim0.2 rfl)
    unfold Nb; rw [h0]; exact ⟨none, 0, rfl, Nat.le_refl _, .inl rfl⟩
  clear hp hc g hX hY uX uY lX lY hon hP e1 e2 vX vY hl hq hy hx hR
  go_enter Try.func11, Try.ntmps11
  go_upto_region 1 with (refine wpList_boxR rfl 24 (.tmp 1) rfl #[.slice a1 n1 c1, .slice a2 n2 c2] rfl ?_)
  refine wp_gen (fun W => Below w.heap.size w W ∧ Blk 24 W w.heap.size [.slice a1 n1 c1, .slice a2 n2 c2] ∧ Blk 24 W (w.heap.size + 1) [.slice none 0 0, .slice none 0 0]) ?_ ?_
  · have x2 := Blk.new 24 (w.alloc (.cells #[.slice a1 n1 c1, .slice a2 n2 c2] 24)) [.slice none 0 0, .slice none 0 0]
    rw [World.size_alloc] at x2
    exact ⟨below_via (al1 _) (al1 _) (Nat.le_refl _), below_blk (al1 _) (by simp only [World.size_alloc]; omega) (Blk.new _ _ _), x2⟩
  rintro W1 hW
  have M1 : Hid (Below w.heap.size w W1 ∧ Blk 24 W1 w.heap.size [.slice a1 n1 c1, .slice a2 n2 c2] ∧ Blk 24 W1 (w.heap.size + 1) [.slice none 0 0, .slice none 0 0]) := hW
  clear hW
  go_wp2_with (refine wpList_load_mid rfl _ _ rfl w.heap.size 0 rfl [.slice a1 n1 c1, .slice a2 n2 c2] _ M1.out.2.1.whole Try.underlying24 rfl (Try.sizeP2 _ _) ?_)
  refine (HA.out _ M1.out.1).mono ?_
  rintro e w2 ⟨rfl, hb⟩
  have M2 : Hid (Below w.heap.size w w2 ∧ Blk 24 w2 w.heap.size [.slice a1 n1 c1, .slice a2 n2 c2] ∧ Blk 24 w2 (w.heap.size + 1) [.slice none 0 0, .slice none 0 0]) := ⟨below_via M1.out.1 hb (Nat.le_refl _), below_blk hb M1.out.2.1.lt M1.out.2.1, below_blk hb M1.out.2.2.lt M1.out.2.2⟩
  clear hb M1 HA
  go_wp2_with (refine wpList_load_mid rfl _ _ rfl w.heap.size 0 rfl [.slice a1 n1 c1, .slice a2 n2 c2] _ M2.out.2.1.whole Try.underlying24 rfl (Try.sizeP2 _ _) ?_)
  refine (HF.out _ M2.out.1).mono ?_
  rintro e w3 ⟨rfl, hb⟩
  have M3 : Hid (Below w.heap.size w w3 ∧ Blk 24 w3 w.heap.size [.slice a1 n1 c1, .slice a2 n2 c2] ∧ Blk 24 w3 (w.heap.size + 1) [.slice none 0 0, .slice none 0 0]) := ⟨below_via M2.out.1 hb (Nat.le_refl _), below_blk hb M2.out.2.1.lt M2.out.2.1, below_blk hb M2.out.2.2.lt M2.out.2.2⟩
  clear hb M2 HF
  cases q with
  | true =>
    have HR0 : Hid (R = (0, 0)) := HD.out.1 rfl
    have Hth : Hid (w3.there (w.heap.size + 1) 0 2) := M3.out.2.2.there 0 _ (by decide)
    go_wp2_with (refine wpList_store_mid rfl _ _ _ rfl (w.heap.size + 1) 0 #[.slice none 0 0, .slice none 0 0] rfl rfl Hth.out Try.sizePt (sv_one ((none, 0, 0), (none, 0, 0))) ?_)
    have hU : Upd w3 (w3.setCells (w.heap.size + 1) 0 [.slice none 0 0, .slice none 0 0]) (w.heap.size + 1) := Upd.setCells _ 0 w3
    have hF := M3.out.2.2.fill [.slice none 0 0, .slice none 0 0] rfl
    exact bodyPost_ret (results_blk2 rfl rfl hF Try.underlying24 rfl Try.sizePt rfl) rfl ⟨((none, 0, 0), (none, 0, 0)), rfl, by rw [HR0.out]; exact ⟨HN0.out _, HN0.out _⟩, hU.below M3.out.1 M3.out.1.size (by omega)⟩
  | false =>
  have HR0 : Hid (R = (x, p - y)) := hpp ▸ HD.out.2 rfl
  rw [hpp] at HPr HSu
  clear HN0 HD hpp
  go_upto_region 6 with (fail)
  refine wp_frame (fun A0 => A0.tmps.size = 34 ∧ A0.defers = [] ∧ A0.eval (.tmp 0) = .int .i64 c ∧ A0.eval (.tmp 3) = .pointer (some ⟨w.heap.size, 0, none⟩) ∧ A0.eval (.tmp 4) = .pointer (some ⟨w.heap.size + 1, 0, none⟩)) ⟨by kernel_rfl, rfl, rfl, rfl, rfl⟩ ?_
  rintro A0 hA0
  have AF0 : Hid (A0.tmps.size = 34 ∧ A0.defers = [] ∧ A0.eval (.tmp 0) = .int .i64 c ∧ A0.eval (.tmp 3) = .pointer (some ⟨w.heap.size, 0, none⟩) ∧ A0.eval (.tmp 4) = .pointer (some ⟨w.heap.size + 1, 0, none⟩)) := hA0
  clear hA0
  refine wp_region_o (β := SV × SV × SV) (fun (b : SV × SV × SV) k => if k = 1 then sv b.1 else if k = 4 then sv b.2.1 else if k = 5 then .tuple #[sv b.2.2, .int .i64 0] else if k = 6 then .tuple #[sv b.2.2, .int .i64 0] else if k = 7 then sv b.2.2 else if k = 9 then sv b.2.2 else ([.int .i64 c, undef, .pointer (some ⟨w.heap.size, 1, none⟩), .slice a2 n2 c2, undef, undef, undef, undef, .int .i64 0, undef, .int .i64 0] : List Value).getD k undef) (SN w3 p y (p - y)) ((none, 0, 0), (none, 0, 0), (none, 0, 0)) true (m := 34) AF0.out.1 rfl (by decide +kernel) (by decide +kernel) ⟨Below.drew (Below.refl _ _), fun u => absurd u not_up_new, fun u => absurd u not_up_new, fun u => absurd u not_up_new, fun k _ u => absurd u not_up_new⟩ (fun i b L W a hi hno hlt hdep hv h0 hS => ?_) (fun b L W a hup hS hsz hdf hv h0 => ?_)
  · replace hi : i < 11 := hi
    have hB2 := below_blk hS.1 M3.out.2.1.lt M3.out.2.1
    have hBw := below_via M3.out.1 hS.1 (Nat.le_refl _)
    have rf := Below.refl W.heap.size W
    obtain rfl | rfl | rfl | rfl | rfl | rfl | rfl | rfl | rfl | rfl | rfl : i = 0 ∨ i = 1 ∨ i = 2 ∨ i = 3 ∨ i = 4 ∨ i = 5 ∨ i = 6 ∨ i = 7 ∨ i = 8 ∨ i = 9 ∨ i = 10 := by omega
    · exact det_val rfl rfl (run_move rfl ((h0 0 (by decide +kernel)).trans AF0.out.2.2.1)) (hS.keep (by decide) (by decide) (by decide) (fun h => absurd h (by decide)) rf)
    · refine det_callu rfl rfl (run_call1 rfl (hv 0 21 (by decide) (hdep 0 (by decide +kernel)) rfl) eg_prime) (HPr.out W) ?_
      rintro _ w' ⟨s, rfl, h2, h3⟩
      exact ⟨(s, b.2), fun k hk _ => by simp only [if_neg hk], rfl, hS.put1 h3 h2⟩
    · exact det_val rfl rfl (run_fieldP (k := 1) rfl ((h0 3 (by decide +kernel)).trans AF0.out.2.2.2.1) (by decide)) (hS.keep (by decide) (by decide) (by decide) (fun h => absurd h (by decide)) rf)
    · exact det_val rfl rfl (run_load1 rfl (hv 2 23 (by decide) (hdep 2 (by decide +kernel)) rfl) (hB2.cell 1)) (hS.keep (by decide) (by decide) (by decide) (fun h => absurd h (by decide)) rf)
    · refine det_callu rfl rfl (run_call1 rfl (hv 3 24 (by decide) (hdep 3 (by decide +kernel)) rfl) eg_trim) (HY.out W hBw) ?_
      rintro _ w' ⟨s, rfl, h2, h3⟩
      exact ⟨(b.1, s, b.2.2), fun k hk _ => by simp only [if_neg hk], rfl, hS.put4 h3 h2⟩
    · refine det_callu rfl rfl (run_call2 rfl (hv 1 22 (by decide) (hdep 1 (by decide +kernel)) rfl) (hv 4 25 (by decide) (hdep 4 (by decide +kernel)) rfl) eg_sub1) (HSu.out W b.1 b.2.1 (hS.2.1 (hdep 1 (by decide +kernel))) (hS.2.2.1 (hdep 4 (by decide +kernel)))) ?_
      rintro _ w' ⟨s, rfl, h2, h3⟩
      exact ⟨(b.1, b.2.1, s), fun k hk hu => by
          by_cases h6 : k = 6
          · subst h6; exact absurd (hS.2.2.2.2 6 (by decide) hu (by decide) (by decide)) hno
          by_cases h7 : k = 7
          · subst h7; exact absurd (hS.2.2.2.2 7 (by decide) hu (by decide) (by decide)) hno
          by_cases h9 : k = 9
          · subst h9; exact absurd (hS.2.2.2.2 9 (by decide) hu (by decide) (by decide)) hno
          simp only [if_neg hk, if_neg h6, if_neg h7, if_neg h9], rfl, hS.put5 (hlt 5 (by decide)) h3 h2⟩
    · exact det_val rfl rfl (run_move rfl (hv 5 26 (by decide) (hdep 5 (by decide +kernel)) rfl)) (hS.keep (by decide) (by decide) (by decide) (fun _ _ _ => hdep 5 (by decide +kernel)) rf)
    · exact det_val rfl rfl (run_ext0 rfl (hv 6 20 (by decide) (hdep 6 (by decide +kernel)) rfl)) (hS.keep (by decide) (by decide) (by decide) (fun _ _ _ => hS.2.2.2.2 6 (by decide) (hdep 6 (by decide +kernel)) (by decide) (by decide)) rf)
    · exact det_val rfl rfl (run_ext1 rfl (hv 6 20 (by decide) (hdep 6 (by decide +kernel)) rfl)) (hS.keep (by decide) (by decide) (by decide) (fun _ h _ => absurd rfl h) rf)
    · exact det_val rfl rfl (run_assignT rfl (hv 7 27 (by decide) (hdep 7 (by decide +kernel)) rfl)) (hS.keep (by decide) (by decide) (by decide) (fun _ _ _ => hS.2.2.2.2 7 (by decide) (hdep 7 (by decide +kernel)) (by decide) (by decide)) rf)
    · exact det_val rfl rfl (run_assignT rfl (hv 8 28 (by decide) (hdep 8 (by decide +kernel)) rfl)) (hS.keep (by decide) (by decide) (by decide) (fun _ _ h => absurd rfl h) rf)
  have M4 : Hid (Below w.heap.size w W ∧ Blk 24 W w.heap.size [.slice a1 n1 c1, .slice a2 n2 c2] ∧ Blk 24 W (w.heap.size + 1) [.slice none 0 0, .slice none 0 0] ∧ Nb W (sv b.2.2) (p - y)) := ⟨below_via M3.out.1 hS.1 (Nat.le_refl _), below_blk hS.1 M3.out.2.1.lt M3.out.2.1, below_blk hS.1 M3.out.2.2.lt M3.out.2.2, hS.2.2.2.1 (hup 5 (by decide))⟩
  have AF1 : Hid (a.tmps.size = 34 ∧ a.defers = [] ∧ a.eval (.tmp 3) = .pointer (some ⟨w.heap.size, 0, none⟩) ∧ a.eval (.tmp 4) = .pointer (some ⟨w.heap.size + 1, 0, none⟩) ∧ a.eval (.tmp 7) = sv b.2.2) := ⟨hsz, hdf.trans AF0.out.2.1, (h0 3 (by decide +kernel)).trans AF0.out.2.2.2.1, (h0 4 (by decide +kernel)).trans AF0.out.2.2.2.2, hv 9 7 (by decide) rfl⟩
  obtain ⟨s4, hs4⟩ : ∃ s, b.2.2 = s := ⟨_, rfl⟩
  rw [hs4] at M4 AF1
  clear hup hS hsz hdf hv h0 hs4 AF0 M3 HY HPr HSu
  obtain ⟨A4, hA4⟩ : ∃ A, a = A := ⟨_, rfl⟩
  rw [hA4] at AF1 ⊢
  clear hA4
  go_upto_region 7 with (fail)
  refine wp_region_o (β := SV) (fun (b : SV) k => if k = 2 then sv b else if k = 4 then .agg #[sv b, sv s4] else ([.pointer (some ⟨w.heap.size, 0, none⟩), .slice a1 n1 c1, undef, sv s4, undef, undef, .int .i64 0] : List Value).getD k undef) (SP W (w.heap.size + 1) x (p - y) s4) (none, 0, 0) false (m := 34) AF1.out.1 rfl (by decide +kernel) (by decide +kernel) ⟨⟨Upd.refl _ _, M4.out.2.2.1.lt, fun _ => ⟨Below.refl _ _, M4.out.2.2.1⟩, fun u => absurd u not_up_new⟩, fun u => absurd u not_up_new, M4.out.2.2.2, fun u => absurd u not_up_new⟩ (fun i b L W2 a hi hno hlt hdep hv h0 hS => ?_) (fun b L W2 a hup hS hsz hdf hv h0 => ?_)
  · replace hi : i < 7 := hi
    have hB2 : i < 5 → Below w.heap.size w W2 ∧ Blk 24 W2 w.heap.size [.slice a1 n1 c1, .slice a2 n2 c2] := fun hne => by
      have := (hS.1.not (i := i) (by omega) hno).1
      exact ⟨below_via M4.out.1 this (Nat.le_refl _), below_blk this M4.out.2.1.lt M4.out.2.1⟩
    have rf := Below.refl W2.heap.size W2
    obtain rfl | rfl | rfl | rfl | rfl | rfl | rfl : i = 0 ∨ i = 1 ∨ i = 2 ∨ i = 3 ∨ i = 4 ∨ i = 5 ∨ i = 6 := by omega
    · exact det_val rfl rfl (run_fieldP (k := 0) rfl ((h0 3 (by decide +kernel)).trans AF1.out.2.2.1) (by decide)) (hS.keep (by decide) hno (by decide) (fun h => absurd h (by decide)) rf)
    · exact det_val rfl rfl (run_load1 rfl (hv 0 29 (by decide) (hdep 0 (by decide +kernel)) rfl) ((hB2 (by decide)).2.cell 0)) (hS.keep (by decide) hno (by decide) (fun h => absurd h (by decide)) rf)
    · refine det_callu rfl rfl (run_call1 rfl (hv 1 30 (by decide) (hdep 1 (by decide +kernel)) rfl) eg_trim) (HX.out W2 (hB2 (by decide)).1) ?_
      rintro _ w' ⟨s, rfl, h2, h3⟩
      exact ⟨s, fun k hk hu => by
          by_cases h4 : k = 4
          · subst h4; exact absurd (hS.2.2.2 hu) hno
          simp only [if_neg hk, if_neg h4], rfl, hS.put2 hno (hlt 2 (by decide)) h3 h2⟩
    · exact det_val rfl rfl (run_move rfl ((h0 7 (by decide +kernel)).trans AF1.out.2.2.2.2)) (hS.keep (by decide) hno (by decide) (fun h => absurd h (by decide)) rf)
    · exact det_val rfl rfl (run_buildP (b := (b, s4)) rfl (hv 2 31 (by decide) (hdep 2 (by decide +kernel)) rfl) (hv 3 32 (by decide) (hdep 3 (by decide +kernel)) rfl)) (hS.keep (by decide) hno (by decide) (fun _ => hdep 2 (by decide +kernel)) rf)
    · exact det_store (cells := #[sv b, sv s4]) rfl rfl rfl rfl ((h0 4 (by decide +kernel)).trans AF1.out.2.2.2.1) (hv 4 33 (by decide) (hdep 4 (by decide +kernel)) rfl) ((hS.1.2.2.1 hno).2.there 0 2 (by decide)) Try.sizePt (sv_one (b, s4)) (hS.store hno (hlt 5 (by decide)) (fun k hk hne => hdep k (allDep (n := 6) hk hne (by decide +kernel))))
    · exact det_val rfl rfl (run_assign0 rfl) hS.setL
  have hB := (hS.1.2.2.2 (hup 5 (by decide))).1
  have hU := hS.1.1
  have n1 := hS.2.1 (hup 2 (by decide))
  have n2 := hS.2.2.1
  have hE := (h0 4 (by decide +kernel)).trans AF1.out.2.2.2.1
  have hE7 := hv 6 5 (by decide) rfl
  have hD := hdf.trans AF1.out.2.1
  clear hup hS hsz hdf hv h0
  go_wp2
  exact bodyPost_ret (results_blk2 rfl hE hB Try.underlying24 rfl Try.sizePt hE7) hD ⟨(b, s4), rfl, by rw [HR0.out]; exact ⟨n1, n2⟩, hU.below M4.out.1 M4.out.1.size (by omega)⟩
end Go.Proofs.Ytkdclocjijmgpaa
/-
  Curves: points of any lists; the program's Add, Neg, Mul, Mix of them.
-/
namespace Go.Proofs.Ytkdclocjijmgpaa
open Go.RowKit Gl
set_option maxRecDepth 20000
theorem on_pt {c : Int} {C : Cv} [NeZero C.p] (hc : crv c = some C) (g : Cok C) {X Y : List Int} (uX : U32s X) (uY : U32s Y) (h : onC c X Y = true) : ∃ P : Pt C.p, (ec C).On P ∧ enc P = ((val X).toNat, (val Y).toNat) := by
  have n1 := val_nonneg uX
  have n2 := val_nonneg uY
  unfold onC at h
  rw [hc] at h
  have h : onB C.p C.b X Y = true := h
  unfold onB at h
  by_cases hf : farB X Y = true
  · unfold farB at hf
    have hf := of_decide_eq_true hf
    exact ⟨none, trivial, by rw [hf.1, hf.2]; rfl⟩
  · rw [if_neg hf] at h
    by_cases hl : val X < C.p ∧ val Y < C.p
    · rw [if_pos hl] at h
      have lx : (val X).toNat < C.p := by omega
      have ly : (val Y).toNat < C.p := by omega
      generalize (val X).toNat = x at *
      generalize (val Y).toNat = y at *
      refine ⟨some (F C.p x, F C.p y), ?_, Prod.ext (F_lt lx) (F_lt ly)⟩
      unfold onE at h
      have h := of_decide_eq_true h
      have h0 := Gl.p_pos (p := C.p)
      have e : F C.p (fml C.p y y) = F C.p (fad C.p (fsb C.p (fml C.p (fml C.p x x) x) (fad C.p (fad C.p x x) x)) C.b) := by rw [h]
      rw [F_fml, F_fad, F_fsb _ (fad_lt h0), F_fml, F_fml, F_fad, F_fad] at e
      show F C.p y * F C.p y = F C.p x * F C.p x * F C.p x + (ec C).a * F C.p x + (ec C).b
      have h2 := g.a3
      have h3 : (ec C).b = F C.p C.b := rfl
      rw [h3]
      clear h h3
      generalize (ec C).a = a at *
      generalize F C.p C.b = b at *
      generalize F C.p x = u at *
      generalize F C.p y = v at *
      grobner
    · rw [if_neg hl] at h
      exact Bool.noConfusion h
theorem triB_val {X Y : List Int} (uX : U32s X) (uY : U32s Y) : triB X Y = triN (val X).toNat (val Y).toNat := by
  have h1 := val_nonneg uX
  have h2 := val_nonneg uY
  unfold triB triN farB
  by_cases h : val X = 0 ∧ val Y = 0
  · rw [if_pos (by simp [h.1, h.2]), if_pos ⟨by rw [h.1]; rfl, by rw [h.2]; rfl⟩]
  · rw [if_neg (by simpa using h), if_neg (fun g => h ⟨by omega, by omega⟩)]
theorem onC_onB {c : Int} {C : Cv} (hc : crv c = some C) {X Y : List Int} (h : onC c X Y = true) : onB C.p C.b X Y = true := by
  unfold onC at h
  rw [hc] at h
  exact h
theorem AddL {w : World} {c : Int} {C : Cv} [NeZero C.p] (hc : crv c = some C) (g : Cok C) (vx vy ux uy : Value) (X Y U V : List Int) (hX : Sl .u32 w vx X) (hY : Sl .u32 w vy Y) (uX : U32s X) (uY : U32s Y) (lX : X.length ≤ 1000000) (lY : Y.length ≤ 1000000) (h1 : onC c X Y = true) (hU : Sl .u32 w ux U) (hV : Sl .u32 w uy V) (uU : U32s U) (uV : U32s V) (lU : U.length ≤ 1000000) (lV : V.length ≤ 1000000) (h2 : onC c U V = true) {P Q : Pt C.p} (hP : (ec C).On P) (hQ : (ec C).On Q) (e1 : enc P = ((val X).toNat, (val Y).toNat)) (e2 : enc Q = ((val U).toNat, (val V).toNat)) :
    Calls Try.prog 8 #[.int .i64 c, .agg #[vx, vy], .agg #[ux, uy]] w fun e w' => ∃ a' n' k' b' m' l', e = .returned (.tuple #[.agg #[.slice a' n' k', .slice b' m' l'], .int .i64 0]) ∧ PtV w' a' n' k' b' m' l' ((ec C).add P Q) ∧ Below w.heap.size w w' := by
  have hp1 : 1 < C.p := by have := g.p3; omega
  have tp := triN_rp g.b0 hp1 hP
  have tq := triN_rp g.b0 hp1 hQ
  have hr := jsm_rp g.ok g.a3 tp.2 tq.2 hP hQ tp.1 tq.1
  have hl := jsm_lt Gl.p_pos tp.2 tq.2
  rw [e1, e2] at hr hl
  simp only [] at hr hl
  rw [← triB_val uX uY, ← triB_val uU uV] at hr hl
  refine (Add_ok c C hc _ _ _ _ X Y U V hX hY uX uY lX lY (onC_onB hc h1) hU hV uU uV lU lV (onC_onB hc h2) (fun h0 => z_gcd g hl.2.2 h0)).mono ?_
  rintro e w' h
  obtain ⟨r0, r1, RX, RY, rfl, hj, n0, n1, hb⟩ := h
  have hj := jpt_enc hl hr hj
  obtain ⟨a', k', hr0⟩ := n0.form
  obtain ⟨b', l', hr1⟩ := n1.form
  subst hr0 hr1
  exact ⟨_, _, _, _, _, _, rfl, ⟨by rw [hj]; exact n0, by rw [hj]; exact n1⟩, hb⟩
theorem NegL {w : World} {c : Int} {C : Cv} [NeZero C.p] (hc : crv c = some C) (vx vy : Value) (X Y : List Int) (hX : Sl .u32 w vx X) (hY : Sl .u32 w vy Y) (uX : U32s X) (uY : U32s Y) (lX : X.length ≤ 1000000) (lY : Y.length ≤ 1000000) (h1 : onC c X Y = true) {P : Pt C.p} (e1 : enc P = ((val X).toNat, (val Y).toNat)) :
    Calls Try.prog 10 #[.int .i64 c, .agg #[vx, vy]] w fun e w' => ∃ a' n' k' b' m' l', e = .returned (.tuple #[.agg #[.slice a' n' k', .slice b' m' l'], .int .i64 0]) ∧ PtV w' a' n' k' b' m' l' (neg P) ∧ Below w.heap.size w w' := by
  refine (Neg_ok c C hc _ _ X Y hX hY uX uY lX lY (onC_onB hc h1)).mono ?_
  rintro e w' ⟨r0, r1, rfl, n0, n1, hb⟩
  obtain ⟨a', k', hr0⟩ := n0.form
  obtain ⟨b', l', hr1⟩ := n1.form
  subst hr0 hr1
  refine ⟨_, _, _, _, _, _, rfl, ?_, hb⟩
  have he := neg_enc P
  rw [e1] at he
  exact ⟨by rw [he]; exact n0, by rw [he]; exact n1⟩
end Go.Proofs.Ytkdclocjijmgpaa
/-
  Curve: asked, where there is no such curve, or its point is not on it. (wip/mku37.py)
-/
namespace Go.Proofs.Ytkdclocjijmgpaa
open Go.RowKit
set_option maxRecDepth 20000
set_option maxHeartbeats 4000000 in
theorem asked_no {w : World} (c : Int) (hc : crv c = none) (v u : Value) :
    Calls Try.prog 24 #[.int .i64 c, v, u] w fun e w' => e = .returned (.tuple #[.agg kz.toArray, .int .i64 1]) ∧ Below w.heap.size w w' := by
  go_enter Try.func24, Try.ntmps24
  go_wp2_with fail
  refine (pick_no c hc).mono ?_
  rintro e w3 ⟨rfl, hb3⟩
  have H3 : Hid (Below w.heap.size w w3 ∧ Blk 53 w3 w.heap.size kz) := ⟨below_via (al1 _) hb3 (Nat.le_refl _), below_blk hb3 (newKd w).lt (newKd w)⟩
  clear hb3 hc
  unfold kz
  go_upto_region 2 with (fail)
  refine wp_gen (fun W => Below w3.heap.size w3 W) (al1 _) ?_
  rintro y0 hb4
  have L0 : Hid (Below w.heap.size w y0 ∧ Blk 53 y0 w.heap.size kz) := ⟨below_via H3.out.1 hb4 (Nat.le_refl _), below_blk hb4 H3.out.2.lt H3.out.2⟩
  clear hb4
  have d0 : y0.cell? ⟨w.heap.size, 0, none⟩ = some (.int .i64 0) := L0.out.2.cell 0
  have g0 : y0.frozen? ⟨w.heap.size, 0, none⟩ = false := L0.out.2.frozen 0
  have d1 : y0.cell? ⟨w.heap.size, 1, none⟩ = some (.slice none 0 0) := L0.out.2.cell 1
  have g1 : y0.frozen? ⟨w.heap.size, 1, none⟩ = false := L0.out.2.frozen 1
  have d2 : y0.cell? ⟨w.heap.size, 2, none⟩ = some (.slice none 0 0) := L0.out.2.cell 2
  have g2 : y0.frozen? ⟨w.heap.size, 2, none⟩ = false := L0.out.2.frozen 2
  have d3 : y0.cell? ⟨w.heap.size, 3, none⟩ = some (.slice none 0 0) := L0.out.2.cell 3
  have g3 : y0.frozen? ⟨w.heap.size, 3, none⟩ = false := L0.out.2.frozen 3
  have d4 : y0.cell? ⟨w.heap.size, 4, none⟩ = some (.slice none 0 0) := L0.out.2.cell 4
  have g4 : y0.frozen? ⟨w.heap.size, 4, none⟩ = false := L0.out.2.frozen 4
  have d5 : y0.cell? ⟨w.heap.size, 5, none⟩ = some (.slice none 0 0) := L0.out.2.cell 5
  have g5 : y0.frozen? ⟨w.heap.size, 5, none⟩ = false := L0.out.2.frozen 5
  go_wp2
  obtain ⟨hF, hU⟩ := Blk.put6 L0.out.2 (.int .i64 0) (.slice none 0 0) (.slice none 0 0) (.slice none 0 0) (.slice none 0 0) (.slice none 0 0)
  exact bodyPost_ret (results_blk2 rfl rfl hF Try.underlying53 rfl Try.sizeKd rfl) rfl ⟨rfl, hU.below L0.out.1 L0.out.1.size (Nat.le_refl _)⟩
set_option maxHeartbeats 4000000 in
theorem asked_off {w : World} (c : Int) (C : Cv) (hc : crv c = some C)  (bp : Nat) (Tp : TypeId) (vx0 vy0 : Value) (X0 Y0 : List Int) (hP : Blk Tp w bp [vx0, vy0]) (hX0 : Sl .u32 w vx0 X0) (hY0 : Sl .u32 w vy0 Y0) (uX0 : U32s X0) (uY0 : U32s Y0) (lX0 : X0.length ≤ 1000000) (lY0 : Y0.length ≤ 1000000) (ho0 : onB C.p C.b X0 Y0 = false) :
    Calls Try.prog 24 #[.int .i64 c, .slice none 0 0, .slice (some ⟨bp, 0, none⟩) 1 1] w fun e w' => e = .returned (.tuple #[.agg kz.toArray, .int .i64 90]) ∧ Below w.heap.size w w' := by
  obtain ⟨xa0, xc0, rfl⟩ : ∃ a c, vx0 = .slice a X0.length c := by obtain ⟨a, c, h1, _⟩ := hX0; exact ⟨a, c, h1⟩
  obtain ⟨ya0, yc0, rfl⟩ : ∃ a c, vy0 = .slice a Y0.length c := by obtain ⟨a, c, h1, _⟩ := hY0; exact ⟨a, c, h1⟩
  obtain ⟨xn0, hxn0⟩ : ∃ n, X0.length = n := ⟨_, rfl⟩
  obtain ⟨yn0, hyn0⟩ : ∃ n, Y0.length = n := ⟨_, rfl⟩
  rw [hxn0, hyn0] at hP; rw [hxn0] at hX0; rw [hyn0] at hY0
  have HX0 : Hid (∀ W f rb v0 v2 v4 v5, Below w.heap.size w W → Fld W f C.p → Nb W rb C.b → Calls Try.prog 46 #[.agg #[v0, f, v2, rb, v4, v5], .agg #[(.slice xa0 xn0 xc0), (.slice ya0 yn0 yc0)]] W fun e w' => e = .returned (.bool false) ∧ Below W.heap.size W w') := fun W f rb v0 v2 v4 v5 hW hf hb => ho0 ▸ Kon v0 f v2 rb v4 v5 (.slice xa0 xn0 xc0) (.slice ya0 yn0 yc0) C.p C.b X0 Y0 hf hb (crv_ok hc).2.2.1 (below_sl hW hX0) (below_sl hW hY0) uX0 uY0 lX0 lY0
  have HP : Hid (∀ W, Below w.heap.size w W → Blk Tp W bp [(.slice xa0 xn0 xc0), (.slice ya0 yn0 yc0)]) := fun W hW => below_blk hW hP.lt hP
  have HK : Hid (0 < C.p ∧ C.p < 4294967296 ^ 12) := ⟨(crv_ok hc).1, (crv_ok hc).2.1⟩
  clear hxn0 hyn0 hX0 hY0 uX0 uY0 lX0 lY0 ho0 hP
  go_enter Try.func24, Try.ntmps24
  go_wp2_with fail
  refine (pick_yes c C hc).mono ?_
  rintro e w3 ⟨s, a1, n1, c1, a2, n2, c2, a3, n3, c3, a4, n4, c4, a5, n5, c5, rfl, hk, hb3⟩
  have H3 : Hid (Below w.heap.size w w3 ∧ KindS w3 s a1 n1 c1 a2 n2 c2 a3 n3 c3 a4 n4 c4 a5 n5 c5 C ∧ Blk 53 w3 w.heap.size kz) := ⟨below_via (al1 _) hb3 (Nat.le_refl _), hk, below_blk hb3 (newKd w).lt (newKd w)⟩
  clear hb3 hc hk
  go_upto_region 2 with (fail)
  refine wp_gen (fun W => Blk 53 W w3.heap.size [.int .i64 s, .slice a1 n1 c1, .slice a2 n2 c2, .slice a3 n3 c3, .slice a4 n4 c4, .slice a5 n5 c5] ∧ Below w3.heap.size w3 W) ⟨Blk.new _ _ _, al1 _⟩ ?_
  rintro W4 ⟨hB4, hb4⟩
  have H4 : Hid (Below w.heap.size w W4 ∧ KindS W4 s a1 n1 c1 a2 n2 c2 a3 n3 c3 a4 n4 c4 a5 n5 c5 C ∧ Blk 53 W4 w.heap.size kz ∧ Blk 53 W4 w3.heap.size [.int .i64 s, .slice a1 n1 c1, .slice a2 n2 c2, .slice a3 n3 c3, .slice a4 n4 c4, .slice a5 n5 c5]) := ⟨below_via H3.out.1 hb4 (Nat.le_refl _), H3.out.2.1.below hb4, below_blk hb4 H3.out.2.2.lt H3.out.2.2, hB4⟩
  clear hb4 hB4
  go_wp2
  refine wp_loop_rounds 1 ?_
  rw [rounds_succ]
  go_wp2
  refine wp_loop_rounds 2 ?_
  rw [rounds_succ]
  have p0 : W4.cell? ⟨bp, 0, none⟩ = some (.slice xa0 xn0 xc0) := (HP.out _ H4.out.1).cell 0
  have p1 : W4.cell? ⟨bp, 1, none⟩ = some (.slice ya0 yn0 yc0) := (HP.out _ H4.out.1).cell 1
  go_upto_region 13 with (fail)
  refine wp_gen (fun W => Blk 24 W W4.heap.size [(.slice xa0 xn0 xc0), (.slice ya0 yn0 yc0)] ∧ Below W4.heap.size W4 W) ⟨Blk.new _ _ _, al1 _⟩ ?_
  rintro V0 ⟨hB, hb⟩
  have J0 : Hid (Below w.heap.size w V0 ∧ KindS V0 s a1 n1 c1 a2 n2 c2 a3 n3 c3 a4 n4 c4 a5 n5 c5 C ∧ Blk 53 V0 w.heap.size kz ∧ Blk 53 V0 w3.heap.size [.int .i64 s, .slice a1 n1 c1, .slice a2 n2 c2, .slice a3 n3 c3, .slice a4 n4 c4, .slice a5 n5 c5] ∧ Below W4.heap.size W4 V0) := ⟨below_via H4.out.1 hb (Nat.le_refl _), H4.out.2.1.below hb, below_blk hb H4.out.2.2.1.lt H4.out.2.2.1, below_blk hb H4.out.2.2.2.lt H4.out.2.2.2, hb⟩
  have k0 : V0.cell? ⟨w3.heap.size, 0, none⟩ = some (.int .i64 s) := J0.out.2.2.2.1.cell 0
  have k1 : V0.cell? ⟨w3.heap.size, 1, none⟩ = some (.slice a1 n1 c1) := J0.out.2.2.2.1.cell 1
  have k2 : V0.cell? ⟨w3.heap.size, 2, none⟩ = some (.slice a2 n2 c2) := J0.out.2.2.2.1.cell 2
  have k3 : V0.cell? ⟨w3.heap.size, 3, none⟩ = some (.slice a3 n3 c3) := J0.out.2.2.2.1.cell 3
  have k4 : V0.cell? ⟨w3.heap.size, 4, none⟩ = some (.slice a4 n4 c4) := J0.out.2.2.2.1.cell 4
  have k5 : V0.cell? ⟨w3.heap.size, 5, none⟩ = some (.slice a5 n5 c5) := J0.out.2.2.2.1.cell 5
  have q0 : V0.cell? ⟨W4.heap.size, 0, none⟩ = some (.slice xa0 xn0 xc0) := hB.cell 0
  have q1 : V0.cell? ⟨W4.heap.size, 1, none⟩ = some (.slice ya0 yn0 yc0) := hB.cell 1
  clear p0 p1 hB hb
  go_wp2_with fail
  refine (HX0.out _ _ _ _ _ _ _ J0.out.1 ⟨J0.out.2.1.2.1, HK.out.1, HK.out.2⟩ J0.out.2.1.2.2.2.1).mono ?_
  rintro e y0 ⟨rfl, hb⟩
  have L0 : Hid (Below w.heap.size w y0 ∧ KindS y0 s a1 n1 c1 a2 n2 c2 a3 n3 c3 a4 n4 c4 a5 n5 c5 C ∧ Blk 53 y0 w.heap.size kz ∧ Blk 53 y0 w3.heap.size [.int .i64 s, .slice a1 n1 c1, .slice a2 n2 c2, .slice a3 n3 c3, .slice a4 n4 c4, .slice a5 n5 c5] ∧ True) := ⟨below_via J0.out.1 hb (Nat.le_refl _), J0.out.2.1.below hb, below_blk hb J0.out.2.2.1.lt J0.out.2.2.1, below_blk hb J0.out.2.2.2.1.lt J0.out.2.2.2.1, trivial⟩
  clear hb q0 q1 k0 k1 k2 k3 k4 k5
  have d0 : y0.cell? ⟨w.heap.size, 0, none⟩ = some (.int .i64 0) := L0.out.2.2.1.cell 0
  have g0 : y0.frozen? ⟨w.heap.size, 0, none⟩ = false := L0.out.2.2.1.frozen 0
  have d1 : y0.cell? ⟨w.heap.size, 1, none⟩ = some (.slice none 0 0) := L0.out.2.2.1.cell 1
  have g1 : y0.frozen? ⟨w.heap.size, 1, none⟩ = false := L0.out.2.2.1.frozen 1
  have d2 : y0.cell? ⟨w.heap.size, 2, none⟩ = some (.slice none 0 0) := L0.out.2.2.1.cell 2
  have g2 : y0.frozen? ⟨w.heap.size, 2, none⟩ = false := L0.out.2.2.1.frozen 2
  have d3 : y0.cell? ⟨w.heap.size, 3, none⟩ = some (.slice none 0 0) := L0.out.2.2.1.cell 3
  have g3 : y0.frozen? ⟨w.heap.size, 3, none⟩ = false := L0.out.2.2.1.frozen 3
  have d4 : y0.cell? ⟨w.heap.size, 4, none⟩ = some (.slice none 0 0) := L0.out.2.2.1.cell 4
  have g4 : y0.frozen? ⟨w.heap.size, 4, none⟩ = false := L0.out.2.2.1.frozen 4
  have d5 : y0.cell? ⟨w.heap.size, 5, none⟩ = some (.slice none 0 0) := L0.out.2.2.1.cell 5
  have g5 : y0.frozen? ⟨w.heap.size, 5, none⟩ = false := L0.out.2.2.1.frozen 5
  go_wp2
  obtain ⟨hF, hU⟩ := Blk.put6 L0.out.2.2.1 (.int .i64 0) (.slice none 0 0) (.slice none 0 0) (.slice none 0 0) (.slice none 0 0) (.slice none 0 0)
  exact bodyPost_ret (results_blk2 rfl rfl hF Try.underlying53 rfl Try.sizeKd rfl) rfl ⟨rfl, hU.below L0.out.1 L0.out.1.size (Nat.le_refl _)⟩
end Go.Proofs.Ytkdclocjijmgpaa
