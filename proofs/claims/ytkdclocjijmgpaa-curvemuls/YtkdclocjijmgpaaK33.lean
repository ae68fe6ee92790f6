/-
  The reference's asked.
-/
import Derived.Test.YtkdclocjijmgpaaK32
namespace Go.Proofs.Ytkdclocjijmgpaa
open Go.RowKit
set_option maxRecDepth 20000
/-- What is at fault: the curve, a factor's length, a point. -/
def askR (c : Int) (fn gn : Nat) (p q : Bool) : Int := match crv c with
  | none => 1
  | some _ => if 64 < fn ∨ 64 < gn then 3 else if p = true ∧ q = true then 0 else 90
theorem crv_len {c : Int} {C : Cv} (h : crv c = some C) : (lim (crvN (·.p) (crv c))).length = 8 ∨ (lim (crvN (·.p) (crv c))).length = 12 := by
  unfold crv at h ⊢
  split at h
  · rename_i h1; subst h1; left; show (lim c256.p).length = 8; rw [lim256p]; rfl
  · split at h
    · rename_i h1 h2; subst h2; right; show (lim c384.p).length = 12; rw [lim384p]; rfl
    · cases h
set_option maxHeartbeats 4000000 in
theorem RAsked_any {w : World} (c : Int) (fa : Option Addr) (fn fc : Nat) (ga : Option Addr) (gn gc : Nat) (a1 : Option Addr) (n1 c1 : Nat) (a2 : Option Addr) (n2 c2 : Nat) (X Y : List Int) (b1 : Option Addr) (m1 d1 : Nat) (b2 : Option Addr) (m2 d2 : Nat) (U V : List Int)
    (hX : Sl .u32 w (.slice a1 n1 c1) X) (hY : Sl .u32 w (.slice a2 n2 c2) Y) (uX : U32s X) (uY : U32s Y) (lX : X.length ≤ 1000000) (lY : Y.length ≤ 1000000) (hU : Sl .u32 w (.slice b1 m1 d1) U) (hV : Sl .u32 w (.slice b2 m2 d2) V) (uU : U32s U) (uV : U32s V) (lU : U.length ≤ 1000000) (lV : V.length ≤ 1000000) :
    Calls Try.prog 28 #[.int .i64 c, .slice fa fn fc, .slice ga gn gc, .agg #[.slice a1 n1 c1, .slice a2 n2 c2], .agg #[.slice b1 m1 d1, .slice b2 m2 d2]] w fun e w' => e = .returned (.int .i64 (askR c fn gn (onC c X Y) (onC c U V))) ∧ Below w.heap.size w w' := by
  have HO1 : Hid (∀ W, Below w.heap.size w W → Calls Try.prog 54 #[.int .i64 c, .agg #[.slice a1 n1 c1, .slice a2 n2 c2]] W fun e w' => e = .returned (.bool (onC c X Y)) ∧ Below W.heap.size W w') := fun W h => ROn_any c a1 n1 c1 a2 n2 c2 X Y (below_sl h hX) (below_sl h hY) uX uY lX lY
  have HO2 : Hid (∀ W, Below w.heap.size w W → Calls Try.prog 54 #[.int .i64 c, .agg #[.slice b1 m1 d1, .slice b2 m2 d2]] W fun e w' => e = .returned (.bool (onC c U V)) ∧ Below W.heap.size W w') := fun W h => ROn_any c b1 m1 d1 b2 m2 d2 U V (below_sl h hU) (below_sl h hV) uU uV lU lV
  obtain ⟨p, hp⟩ : ∃ z, onC c X Y = z := ⟨_, rfl⟩
  obtain ⟨q, hq⟩ : ∃ z, onC c U V = z := ⟨_, rfl⟩
  rw [hp] at HO1; rw [hq] at HO2; rw [hp, hq]
  have HP : Hid (∀ W, Calls Try.prog 37 #[.int .i64 c] W fun e w' => ∃ a k, e = .returned (.slice a (lim (crvN (·.p) (crv c))).length k) ∧ Below W.heap.size W w') := fun W => (RPrime_any c).mono fun e w' ⟨r, he, hn, hb⟩ => by obtain ⟨a, k, rfl⟩ := hn.form; exact ⟨a, k, he, hb⟩
  obtain ⟨R, hR⟩ : ∃ R, askR c fn gn p q = R := ⟨_, rfl⟩
  rw [hR]
  have HR : Hid (askR c fn gn p q = R) := hR
  clear hX hY uX uY lX lY hU hV uU uV lU lV hp hq hR
  go_enter Try.func28, Try.ntmps28
  go_upto_region 1 with (first | (refine wpList_boxR rfl 24 (.tmp 3) rfl #[.slice a1 n1 c1, .slice a2 n2 c2] rfl ?_) | (refine wpList_boxR rfl 24 (.tmp 4) rfl #[.slice b1 m1 d1, .slice b2 m2 d2] rfl ?_))
  refine wp_gen (fun W => Blk 24 W w.heap.size [.slice a1 n1 c1, .slice a2 n2 c2] ∧ Blk 24 W (w.heap.size + 1) [.slice b1 m1 d1, .slice b2 m2 d2] ∧ Below w.heap.size w W) ⟨(Blk.new _ w _).alloc _, by have := Blk.new 24 (w.alloc (.cells [.slice a1 n1 c1, .slice a2 n2 c2].toArray 24)) [.slice b1 m1 d1, .slice b2 m2 d2]; rw [World.size_alloc] at this; exact this, (al1 _).alloc (by simp) _⟩ ?_
  rintro W2 ⟨hB, hB2, hBw⟩
  have H2 : Hid (∀ W3, Below W2.heap.size W2 W3 → Below w.heap.size w W3 ∧ W3.cell? ⟨w.heap.size, 0, none⟩ = some (.slice a1 n1 c1) ∧ W3.cell? ⟨w.heap.size, 1, none⟩ = some (.slice a2 n2 c2) ∧ W3.cell? ⟨w.heap.size + 1, 0, none⟩ = some (.slice b1 m1 d1) ∧ W3.cell? ⟨w.heap.size + 1, 1, none⟩ = some (.slice b2 m2 d2)) := fun W3 h3 => ⟨below_via hBw h3 (Nat.le_refl _), (below_blk h3 hB.lt hB).cell 0, (below_blk h3 hB.lt hB).cell 1, (below_blk h3 hB2.lt hB2).cell 0, (below_blk h3 hB2.lt hB2).cell 1⟩
  clear hB hB2 hBw
  go_wp2_with fail
  refine (HP.out _).mono ?_
  rintro e w3 ⟨ra, rk, rfl, hb3⟩
  obtain ⟨hbw, p0, p1, p2, p3⟩ := H2.out _ hb3
  have H3 : Hid (Below W2.heap.size W2 w3 ∧ Below w.heap.size w w3) := ⟨hb3, hbw⟩
  clear hb3 hbw
  cases hc : crv c with
  | none =>
    have hl : (lim (crvN (·.p) none)).length = 0 := by show (lim 0).length = 0; unfold lim; rfl
    rw [hl]
    have HR2 : Hid (1 = R) := by show _ = _; rw [← HR.out]; unfold askR; rw [hc]
    clear hc hl HR
    go_wp2
    go_ret
    exact ⟨by rw [← HR2.out]; rfl, H3.out.2⟩
  | some C =>
    have HR2 : Hid ((if 64 < fn ∨ 64 < gn then 3 else if p = true ∧ q = true then 0 else 90) = R) := by show _ = _; rw [← HR.out]; unfold askR; rw [hc]
    have hl := crv_len hc
    rw [hc] at hl
    obtain ⟨l, hll⟩ : ∃ l, (lim (crvN (·.p) (some C))).length = l := ⟨_, rfl⟩
    rw [hll] at hl ⊢
    have hl0 : ((l : Int) == 0) = false := by rcases hl with h | h <;> (subst h; rfl)
    clear hc hl hll HR
    by_cases hf : fn ≤ 64
    · have gf : decide ((64 : Int) < (fn : Int)) = false := by simp; omega
      by_cases hg : gn ≤ 64
      · have gg : decide ((64 : Int) < (gn : Int)) = false := by simp; omega
        have HR3 : Hid ((if p = true ∧ q = true then 0 else 90) = R) := by show _ = _; rw [← HR2.out, if_neg (show ¬ (64 < fn ∨ 64 < gn) by omega)]
        clear hf hg HR2
        go_wp2_with fail
        refine (HO1.out _ H3.out.2).mono ?_
        rintro e w4 ⟨rfl, hb4⟩
        have hb24 : Below W2.heap.size W2 w4 := below_via H3.out.1 hb4 (Nat.le_refl _)
        obtain ⟨hbw, _, _, q2, q3⟩ := H2.out _ hb24
        have H4 : Hid (Below w.heap.size w w4) := hbw
        clear hb4 hb24 hbw p0 p1 p2 p3
        cases p with
        | false =>
          have HR4 : Hid (90 = R) := by show _ = _; rw [← HR3.out]; rfl
          clear HR3
          go_wp2
          go_ret
          exact ⟨by rw [← HR4.out]; rfl, H4.out⟩
        | true =>
          go_wp2_with fail
          refine (HO2.out _ H4.out).mono ?_
          rintro e w5 ⟨rfl, hb5⟩
          have H5 : Hid (Below w.heap.size w w5) := below_via H4.out hb5 (Nat.le_refl _)
          clear hb5 q2 q3
          cases q with
          | false =>
            have HR4 : Hid (90 = R) := by show _ = _; rw [← HR3.out]; rfl
            clear HR3
            go_wp2
            go_ret
            exact ⟨by rw [← HR4.out]; rfl, H5.out⟩
          | true =>
            have HR4 : Hid (0 = R) := by show _ = _; rw [← HR3.out]; rfl
            clear HR3
            go_wp2
            go_ret
            exact ⟨by rw [← HR4.out]; rfl, H5.out⟩
      · have gg : decide ((64 : Int) < (gn : Int)) = true := by simp; omega
        have HR3 : Hid (3 = R) := by show _ = _; rw [← HR2.out, if_pos (show (64 < fn ∨ 64 < gn) by omega)]
        clear hf hg HR2
        go_wp2
        go_ret
        exact ⟨by rw [← HR3.out]; rfl, H3.out.2⟩
    · have gf : decide ((64 : Int) < (fn : Int)) = true := by simp; omega
      have HR3 : Hid (3 = R) := by show _ = _; rw [← HR2.out, if_pos (show (64 < fn ∨ 64 < gn) by omega)]
      clear hf HR2
      go_wp2
      go_ret
      exact ⟨by rw [← HR3.out]; rfl, H3.out.2⟩
end Go.Proofs.Ytkdclocjijmgpaa
/-
  Curves: the reference's Mul. (wip/mkh30.py)
-/
namespace Go.Proofs.Ytkdclocjijmgpaa
open Go.RowKit Gl
set_option maxRecDepth 20000
theorem RFieldG {w : World} (c : Int) {C : Cv} (hc : crv c = some C) (hp : Fp C.p) : Calls Try.prog 29 #[.int .i64 c] w fun e w' => e = .returned (fV C.p) ∧ Below w.heap.size w w' := by
  refine (RFieldOf c).mono ?_
  rw [hc]
  simp only [crvN]
  rintro e w' ⟨P, rfl, dP, vP, hb⟩
  rw [dg_eq dP vP hp.2]
  exact ⟨rfl, hb⟩
theorem eg_lift (args : Array Value) (w : World) : (callFunc 32 args).run Try.prog w = .ok (.enter 32 args) w := eg_of Try.func32 (by kernel_rfl) (by kernel_rfl) args w
theorem eg_times (args : Array Value) (w : World) : (callFunc 40 args).run Try.prog w = .ok (.enter 40 args) w := eg_of Try.func40 (by kernel_rfl) (by kernel_rfl) args w
theorem eg_flat (args : Array Value) (w : World) : (callFunc 30 args).run Try.prog w = .ok (.enter 30 args) w := eg_of Try.func30 (by kernel_rfl) (by kernel_rfl) args w
theorem SB.setL {w0 : World} {T : TypeId} {bs : Nat} {old new : List Value} {iS n : Nat} {b : Unit} {L : Array Bool} {W : World} (h : SB w0 T bs old new iS n b L W) {i : Nat} (hi : n ≤ i) (hS : i ≠ iS) : SB w0 T bs old new iS n b (L.setIfInBounds i true) W :=
  ⟨h.1, h.2.1, fun u => h.2.2.1 fun z => u ((up_st hS).2 z), fun u => ⟨(h.2.2.2 ((up_st hS).1 u)).1, fun k hk => (up_st (by omega)).2 ((h.2.2.2 ((up_st hS).1 u)).2 k hk)⟩⟩
/-- A point's block filled last; a triple and two numbers are made on the way. -/
def SG (w0 : World) (bs iS iT iF : Nat) (T : Nat × Nat × Nat → Prop) (X Y : Nat) (b : (Nat × Nat × Nat) × (SV × SV)) (L : Array Bool) (W : World) : Prop :=
  SB w0 24 bs [.slice none 0 0, .slice none 0 0] [sv b.2.1, sv b.2.2] iS (iS + 1) () L W ∧ (Up L iT → T b.1) ∧ (Up L iF → Nb W (sv b.2.1) X ∧ Nb W (sv b.2.2) Y)
theorem SG.keep {w0 : World} {bs iS iT iF X Y : Nat} {T : Nat × Nat × Nat → Prop} {b : (Nat × Nat × Nat) × (SV × SV)} {L : Array Bool} {W W' : World} (h : SG w0 bs iS iT iF T X Y b L W) {i : Nat} (hi : i < iS) (hno : ¬ Up L i) (h1 : i ≠ iT) (h2 : i ≠ iF) (hb : Below W.heap.size W W') : SG w0 bs iS iT iF T X Y b (L.setIfInBounds i true) W' :=
  ⟨h.1.keep (by omega) hno (by omega) hb, fun u => h.2.1 ((up_st h1).1 u), fun u => ⟨(h.2.2 ((up_st h2).1 u)).1.below hb, (h.2.2 ((up_st h2).1 u)).2.below hb⟩⟩
theorem SG.setL {w0 : World} {bs iS iT iF X Y : Nat} {T : Nat × Nat × Nat → Prop} {b : (Nat × Nat × Nat) × (SV × SV)} {L : Array Bool} {W : World} (h : SG w0 bs iS iT iF T X Y b L W) {i : Nat} (hi : iS < i) (h1 : i ≠ iT) (h2 : i ≠ iF) : SG w0 bs iS iT iF T X Y b (L.setIfInBounds i true) W :=
  ⟨h.1.setL (by omega) (by omega), fun u => h.2.1 ((up_st h1).1 u), fun u => h.2.2 ((up_st h2).1 u)⟩
theorem SG.putT {w0 : World} {bs iS iT iF X Y : Nat} {T : Nat × Nat × Nat → Prop} {b : (Nat × Nat × Nat) × (SV × SV)} {L : Array Bool} {W W' : World} (h : SG w0 bs iS iT iF T X Y b L W) (hi : iT < iS) (hno : ¬ Up L iT) (h2 : iT ≠ iF) (hb : Below W.heap.size W W') {t : Nat × Nat × Nat} (ht : T t) : SG w0 bs iS iT iF T X Y (t, b.2) (L.setIfInBounds iT true) W' :=
  ⟨h.1.keep (by omega) hno (by omega) hb, fun _ => ht, fun u => ⟨(h.2.2 ((up_st h2).1 u)).1.below hb, (h.2.2 ((up_st h2).1 u)).2.below hb⟩⟩
theorem SG.putF {w0 : World} {bs iS iT iF X Y : Nat} {T : Nat × Nat × Nat → Prop} {b : (Nat × Nat × Nat) × (SV × SV)} {L : Array Bool} {W W' : World} (h : SG w0 bs iS iT iF T X Y b L W) (hi : iF < iS) (hno : ¬ Up L iF) (h1 : iF ≠ iT) (hb : Below W.heap.size W W') {s : SV × SV} (n1 : Nb W' (sv s.1) X) (n2 : Nb W' (sv s.2) Y) : SG w0 bs iS iT iF T X Y (b.1, s) (L.setIfInBounds iF true) W' :=
  ⟨(h.1.keep (i := iF) (by omega) hno (by omega) hb).re (fun u => hno ((h.1.2.2.2 ((up_st (by omega)).1 u)).2 iF (by omega))), fun u => h.2.1 ((up_st h1).1 u), fun _ => ⟨n1, n2⟩⟩
theorem SG.store {w0 : World} {bs iS iT iF X Y : Nat} {T : Nat × Nat × Nat → Prop} {b : (Nat × Nat × Nat) × (SV × SV)} {L : Array Bool} {W : World} (h : SG w0 bs iS iT iF T X Y b L W) (hno : ¬ Up L iS) (hl : iS < L.size) (h1 : iS ≠ iT) (h2 : iS ≠ iF) (hall : ∀ k, k < iS + 1 → k ≠ iS → Up L k) : SG w0 bs iS iT iF T X Y b (L.setIfInBounds iS true) (W.setCells bs 0 [sv b.2.1, sv b.2.2]) := by
  have hU : Upd W (W.setCells bs 0 [sv b.2.1, sv b.2.2]) bs := Upd.setCells _ 0 W
  have hB := (h.1.2.2.1 hno).2
  exact ⟨h.1.store hno hl hall rfl, fun u => h.2.1 ((up_st h1).1 u), fun u => ⟨(h.2.2 ((up_st h2).1 u)).1.upd hB sn_nn hU, (h.2.2 ((up_st h2).1 u)).2.upd hB sn_nn hU⟩⟩
theorem run_assign0 {a : Act} {W : World} {o : Oper} (hop : o.op = .assign (.const (.int .i64 0))) : (execOp a.eval o).run Try.prog W = .ok (.value (.int .i64 0)) W := by
  unfold execOp
  simp only [hop]
  simp [go_sem, Act.eval]
theorem Try.sizeP2 (u v : Value) : (Try.prog.info? 24).map (·.size) = some ([u, v] : List Value).length := Try.sizePt
set_option maxHeartbeats 4000000 in
theorem RMul_ok {w : World} {c : Int} {C : Cv} [NeZero C.p] (hc : crv c = some C) (g : Cok C) (ka : Option Addr) (kn kc : Nat) (K : List Int) (hK : Sl .u32 w (.slice ka kn kc) K) (uK : U32s K) (lK : kn ≤ 64) (a1 : Option Addr) (n1 c1 : Nat) (a2 : Option Addr) (n2 c2 : Nat) (X Y : List Int) (hX : Sl .u32 w (.slice a1 n1 c1) X) (hY : Sl .u32 w (.slice a2 n2 c2) Y) (uX : U32s X) (uY : U32s Y) (lX : X.length ≤ 1000000) (lY : Y.length ≤ 1000000) (hon : onC c X Y = true) {P : Pt C.p} (hP : (ec C).On P) (e1 : (val X).toNat = (enc P).1) (e2 : (val Y).toNat = (enc P).2) :
    Calls Try.prog 16 #[.int .i64 c, .slice ka kn kc, .agg #[.slice a1 n1 c1, .slice a2 n2 c2]] w fun e w' => ∃ b : SV × SV, e = .returned (.tuple #[.agg #[sv b.1, sv b.2], .int .i64 0]) ∧ (Nb w' (sv b.1) (enc ((ec C).mul (val K).toNat P)).1 ∧ Nb w' (sv b.2) (enc ((ec C).mul (val K).toNat P)).2) ∧ Below w.heap.size w w' := by
  have hp : Fp C.p := ⟨by have := g.p3; omega, crv_p12 hc⟩
  have kl : K.length = kn := by
    obtain ⟨a', c', h1, _⟩ := hK.len
    simp only [Value.slice.injEq] at h1
    exact h1.2.1.symm
  have HA : Hid (∀ W, Below w.heap.size w W → Calls Try.prog 28 #[.int .i64 c, .slice ka kn kc, .slice none 0 0, .agg #[.slice a1 n1 c1, .slice a2 n2 c2], .agg #[.slice a1 n1 c1, .slice a2 n2 c2]] W fun e w' => e = .returned (.int .i64 0) ∧ Below W.heap.size W w') := fun W h => by
    have := RAsked_any c ka kn kc none 0 0 a1 n1 c1 a2 n2 c2 X Y a1 n1 c1 a2 n2 c2 X Y (below_sl h hX) (below_sl h hY) uX uY lX lY (below_sl h hX) (below_sl h hY) uX uY lX lY
    have e0 : askR c kn 0 (onC c X Y) (onC c X Y) = 0 := by unfold askR; rw [hc, hon]; simp; omega
    rw [e0] at this
    exact this
  have HFo : Hid (∀ W, Calls Try.prog 29 #[.int .i64 c] W fun e w' => e = .returned (fV C.p) ∧ Below W.heap.size W w') := fun W => RFieldG c hc hp
  obtain ⟨t, ht⟩ : ∃ t, lft X Y = t := ⟨_, rfl⟩
  have htr := triN_rq g.b0 hp.1 hP
  rw [← e1, ← e2, ← lft_triN uX uY, ht] at htr
  have HLf : Hid (∀ W, Below w.heap.size w W → Calls Try.prog 32 #[.agg #[.slice a1 n1 c1, .slice a2 n2 c2]] W fun e w' => e = .returned (.agg (tC t.1 t.2.1 t.2.2).toArray) ∧ Below W.heap.size W w') := fun W h => by
    have := lift_any hp (.slice a1 n1 c1) (.slice a2 n2 c2) X Y (below_sl h hX) (below_sl h hY) uX uY lX lY (by rw [e1]; exact (enc_lt P).1) (by rw [e2]; exact (enc_lt P).2)
    rw [ht] at this
    exact this
  have HTm : Hid (∀ W, Below w.heap.size w W → Calls Try.prog 40 #[fV C.p, .slice ka kn kc, .agg (tC t.1 t.2.1 t.2.2).toArray] W fun e w' => ∃ v, e = .returned v ∧ ∃ s : Nat × Nat × Nat, v = .agg (tC s.1 s.2.1 s.2.2).toArray ∧ ((s.1 < C.p ∧ s.2.1 < C.p ∧ s.2.2 < C.p) ∧ Rq s ((ec C).mul (val K).toNat P)) ∧ Below W.heap.size W w') := fun W h =>
    (times_any g.ok g.a3 hp _ K (below_sl h hK) uK (by omega) htr.2.1 htr.2.2.1 htr.2.2.2 hP htr.1).mono fun e w' ⟨X, Y, Z, h1, h2, h3, h4⟩ => ⟨_, h1, (X, Y, Z), rfl, ⟨h2, h3⟩, h4⟩
  obtain ⟨R, hR⟩ : ∃ R, (ec C).mul (val K).toNat P = R := ⟨_, rfl⟩
  rw [hR] at HTm ⊢
  have HFl : Hid (∀ (W : World) (s : Nat × Nat × Nat), ((s.1 < C.p ∧ s.2.1 < C.p ∧ s.2.2 < C.p) ∧ Rq s R) → Calls Try.prog 30 #[fV C.p, .agg (tC s.1 s.2.1 s.2.2).toArray, .int .i64 c] W fun e w' => ∃ v, e = .returned v ∧ ∃ b : SV × SV, v = .agg #[sv b.1, sv b.2] ∧ (Nb w' (sv b.1) (enc R).1 ∧ Nb w' (sv b.2) (enc R).2) ∧ Below W.heap.size W w') := fun W s hs =>
    (flat_any c hc rfl hp hs.1.1 hs.1.2.1 hs.1.2.2 (fun h0 => z_gcd g hs.1.2.2 h0)).mono fun e w' ⟨b, X, Y, h1, h2, h3, h4, h5⟩ => by
      have := qpt_enc hs.2 h4
      exact ⟨_, h1, b, rfl, by rw [this]; exact ⟨h2, h3⟩, h5⟩
  obtain ⟨F, hF⟩ : ∃ F, fdC (lim C.p).length (dg C.p) = F := ⟨_, rfl⟩
  unfold fV at HFo HTm HFl
  rw [hF] at HFo HTm HFl
  have HFS : Hid (F.length = 14 ∧ F.toArray.all (·.oneCell') = true) := ⟨by rw [← hF]; have := (dg_ok hp.2).1.2; simp [fdC, this], by rw [← hF]; exact fdC_one _ _⟩
  have HSZ : Hid ((Try.prog.info? 66).map (·.size) = some F.length) := by show _ = some _; rw [HFS.out.1]; exact Try.sizeFd
  clear hp kl hc g hK uK lK hX hY uX uY lX lY hon hP e1 e2 ht htr hR hF
  go_enter Try.func16, Try.ntmps16
  go_upto_region 1 with (refine wpList_boxR rfl 24 (.tmp 2) rfl #[.slice a1 n1 c1, .slice a2 n2 c2] rfl ?_)
  refine wp_gen (fun W => Below w.heap.size w W ∧ Blk 24 W w.heap.size [.slice a1 n1 c1, .slice a2 n2 c2] ∧ Blk 24 W (w.heap.size + 1) [.slice none 0 0, .slice none 0 0]) ?_ ?_
  · have x2 := Blk.new 24 (w.alloc (.cells #[.slice a1 n1 c1, .slice a2 n2 c2] 24)) [.slice none 0 0, .slice none 0 0]
    rw [World.size_alloc] at x2
    exact ⟨below_via (al1 _) (al1 _) (Nat.le_refl _), below_blk (al1 _) (by simp only [World.size_alloc]; omega) (Blk.new _ _ _), x2⟩
  rintro W1 hW
  have M1 : Hid (Below w.heap.size w W1 ∧ Blk 24 W1 w.heap.size [.slice a1 n1 c1, .slice a2 n2 c2] ∧ Blk 24 W1 (w.heap.size + 1) [.slice none 0 0, .slice none 0 0]) := hW
  clear hW
  go_wp2_with (refine wpList_load_mid rfl _ _ rfl w.heap.size 0 rfl [.slice a1 n1 c1, .slice a2 n2 c2] _ M1.out.2.1.whole Try.underlying24 rfl (Try.sizeP2 _ _) ?_)
  refine (HA.out _ M1.out.1).mono ?_
  rintro e w2 ⟨rfl, hb⟩
  have M2 : Hid (Below w.heap.size w w2 ∧ Blk 24 w2 w.heap.size [.slice a1 n1 c1, .slice a2 n2 c2] ∧ Blk 24 w2 (w.heap.size + 1) [.slice none 0 0, .slice none 0 0]) := ⟨below_via M1.out.1 hb (Nat.le_refl _), below_blk hb M1.out.2.1.lt M1.out.2.1, below_blk hb M1.out.2.2.lt M1.out.2.2⟩
  clear hb M1 HA
  go_wp2_with fail
  refine (HFo.out _).mono ?_
  rintro e w3 ⟨rfl, hb⟩
  have M3 : Hid (Below w.heap.size w w3 ∧ Blk 24 w3 w.heap.size [.slice a1 n1 c1, .slice a2 n2 c2] ∧ Blk 24 w3 (w.heap.size + 1) [.slice none 0 0, .slice none 0 0]) := ⟨below_via M2.out.1 hb (Nat.le_refl _), below_blk hb M2.out.2.1.lt M2.out.2.1, below_blk hb M2.out.2.2.lt M2.out.2.2⟩
  clear hb M2 HFo
  have Hth : Hid ((w3.alloc (.cells f14.toArray 66)).there w3.heap.size 0 F.toArray.size) := (newF w3).there 0 _ (by rw [List.size_toArray, HFS.out.1]; decide)
  go_upto_region 5 with (refine wpList_store_mid rfl _ _ _ rfl w3.heap.size 0 F.toArray rfl rfl Hth.out HSZ.out HFS.out.2 ?_)
  refine wp_gen (fun W => Below w.heap.size w W ∧ Blk 24 W w.heap.size [.slice a1 n1 c1, .slice a2 n2 c2] ∧ Blk 24 W (w.heap.size + 1) [.slice none 0 0, .slice none 0 0] ∧ Blk 66 W w3.heap.size F) ?_ ?_
  · have hb := (Upd.setCells (b := w3.heap.size) F 0 (w3.alloc (.cells f14.toArray 66))).below (al1 _) (al1 _).size (Nat.le_refl _)
    exact ⟨below_via M3.out.1 hb (Nat.le_refl _), below_blk hb M3.out.2.1.lt M3.out.2.1, below_blk hb M3.out.2.2.lt M3.out.2.2, (newF w3).fill F (by rw [HFS.out.1]; rfl)⟩
  rintro W4 hW
  obtain ⟨f4, hf4⟩ : ∃ f, w3.heap.size = f := ⟨_, rfl⟩
  have M4 : Hid (Below w.heap.size w W4 ∧ Blk 24 W4 w.heap.size [.slice a1 n1 c1, .slice a2 n2 c2] ∧ Blk 24 W4 (w.heap.size + 1) [.slice none 0 0, .slice none 0 0] ∧ Blk 66 W4 f4 F) := hf4 ▸ hW
  refine wp_frame (fun A0 => A0.tmps.size = 29 ∧ A0.defers = [] ∧ A0.eval (.tmp 0) = .int .i64 c ∧ A0.eval (.tmp 1) = .slice ka kn kc ∧ A0.eval (.tmp 5) = .pointer (some ⟨w.heap.size, 0, none⟩) ∧ A0.eval (.tmp 6) = .pointer (some ⟨w.heap.size + 1, 0, none⟩) ∧ A0.eval (.tmp 9) = .pointer (some ⟨f4, 0, none⟩)) ⟨by kernel_rfl, rfl, rfl, rfl, rfl, rfl, by subst hf4; rfl⟩ ?_
  clear hW Hth M3 hf4
  rintro A0 hA0
  have AF0 : Hid (A0.tmps.size = 29 ∧ A0.defers = [] ∧ A0.eval (.tmp 0) = .int .i64 c ∧ A0.eval (.tmp 1) = .slice ka kn kc ∧ A0.eval (.tmp 5) = .pointer (some ⟨w.heap.size, 0, none⟩) ∧ A0.eval (.tmp 6) = .pointer (some ⟨w.heap.size + 1, 0, none⟩) ∧ A0.eval (.tmp 9) = .pointer (some ⟨f4, 0, none⟩)) := hA0
  clear hA0
  refine wp_region_o (β := (Nat × Nat × Nat) × (SV × SV)) (fun (b : (Nat × Nat × Nat) × (SV × SV)) k => if k = 5 then .agg (tC b.1.1 b.1.2.1 b.1.2.2).toArray else if k = 7 then .agg #[sv b.2.1, sv b.2.2] else ([.agg F.toArray, .agg F.toArray, .slice ka kn kc, .agg #[.slice a1 n1 c1, .slice a2 n2 c2], .agg (tC t.1 t.2.1 t.2.2).toArray, undef, .int .i64 c, undef, undef, .int .i64 0] : List Value).getD k undef) (SG W4 (w.heap.size + 1) 8 5 7 (fun s => (s.1 < C.p ∧ s.2.1 < C.p ∧ s.2.2 < C.p) ∧ Rq s R) (enc R).1 (enc R).2) ((0, 0, 0), ((none, 0, 0), (none, 0, 0))) true (m := 29) AF0.out.1 rfl (by decide +kernel) (by decide +kernel) ⟨⟨updDrew _ _, M4.out.2.2.1.lt, fun _ => ⟨Below.drew (Below.refl _ _), below_blk (Below.drew (Below.refl _ _)) M4.out.2.2.1.lt M4.out.2.2.1⟩, fun u => absurd u not_up_new⟩, fun u => absurd u not_up_new, fun u => absurd u not_up_new⟩ (fun i b L W a hi hno hlt hdep hv h0 hS => ?_) (fun b L W a hup hS hsz hdf hv h0 => ?_)
  · replace hi : i < 10 := hi
    have hB2 : i < 8 → Below w.heap.size w W ∧ Blk 24 W w.heap.size [.slice a1 n1 c1, .slice a2 n2 c2] ∧ Blk 66 W f4 F := fun hne => by
      have := (hS.1.not (i := i) (by omega) hno).1
      exact ⟨below_via M4.out.1 this (Nat.le_refl _), below_blk this M4.out.2.1.lt M4.out.2.1, below_blk this M4.out.2.2.2.lt M4.out.2.2.2⟩
    have rf := Below.refl W.heap.size W
    obtain rfl | rfl | rfl | rfl | rfl | rfl | rfl | rfl | rfl | rfl : i = 0 ∨ i = 1 ∨ i = 2 ∨ i = 3 ∨ i = 4 ∨ i = 5 ∨ i = 6 ∨ i = 7 ∨ i = 8 ∨ i = 9 := by omega
    · exact det_load rfl rfl rfl ((h0 9 (by decide +kernel)).trans AF0.out.2.2.2.2.2.2) (hB2 (by decide)).2.2.whole Try.underlying66 rfl HSZ.out rfl (hS.keep (by decide) hno (by decide) (by decide) rf)
    · exact det_load rfl rfl rfl ((h0 9 (by decide +kernel)).trans AF0.out.2.2.2.2.2.2) (hB2 (by decide)).2.2.whole Try.underlying66 rfl HSZ.out rfl (hS.keep (by decide) hno (by decide) (by decide) rf)
    · exact det_val rfl rfl (run_move rfl ((h0 1 (by decide +kernel)).trans AF0.out.2.2.2.1)) (hS.keep (by decide) hno (by decide) (by decide) rf)
    · exact det_load rfl rfl rfl ((h0 5 (by decide +kernel)).trans AF0.out.2.2.2.2.1) (hB2 (by decide)).2.1.whole Try.underlying24 rfl (Try.sizeP2 _ _) rfl (hS.keep (by decide) hno (by decide) (by decide) rf)
    · exact det_call rfl rfl (run_call1 rfl (hv 3 24 (by decide) (hdep 3 (by decide +kernel)) rfl) eg_lift) (HLf.out W (hB2 (by decide)).1) (fun w1 hb => (hS.keep (by decide) hno (by decide) (by decide) hb))
    · refine det_callx rfl rfl (run_call3 rfl (hv 1 22 (by decide) (hdep 1 (by decide +kernel)) rfl) (hv 2 23 (by decide) (hdep 2 (by decide +kernel)) rfl) (hv 4 25 (by decide) (hdep 4 (by decide +kernel)) rfl) eg_times) (HTm.out W (hB2 (by decide)).1) ?_
      rintro _ w' ⟨s, rfl, h2, h3⟩
      exact ⟨(s, b.2), fun k hk => by simp only [if_neg hk], rfl, hS.putT (by decide) hno (by decide) h3 h2⟩
    · exact det_val rfl rfl (run_move rfl ((h0 0 (by decide +kernel)).trans AF0.out.2.2.1)) (hS.keep (by decide) hno (by decide) (by decide) rf)
    · refine det_callx rfl rfl (run_call3 rfl (hv 0 21 (by decide) (hdep 0 (by decide +kernel)) rfl) (hv 5 26 (by decide) (hdep 5 (by decide +kernel)) rfl) (hv 6 27 (by decide) (hdep 6 (by decide +kernel)) rfl) eg_flat) (HFl.out W b.1 (hS.2.1 (hdep 5 (by decide +kernel)))) ?_
      rintro _ w' ⟨s, rfl, h2, h3⟩
      exact ⟨(b.1, s), fun k hk => by simp only [if_neg hk], rfl, hS.putF (by decide) hno (by decide) h3 h2.1 h2.2⟩
    · exact det_store (cells := #[sv b.2.1, sv b.2.2]) rfl rfl rfl rfl ((h0 6 (by decide +kernel)).trans AF0.out.2.2.2.2.2.1) (hv 7 28 (by decide) (hdep 7 (by decide +kernel)) rfl) ((hS.1.2.2.1 hno).2.there 0 2 (by decide)) Try.sizePt (sv_one b.2) (hS.store hno (hlt 8 (by decide)) (by decide) (by decide) (fun k hk hne => hdep k (allDep (n := 9) hk hne (by decide +kernel))))
    · exact det_val rfl rfl (run_assign0 rfl) (hS.setL (by decide) (by decide) (by decide))
  have hB := (hS.1.2.2.2 (hup 8 (by decide))).1
  have hU := hS.1.1
  have n1 := hS.2.2 (hup 7 (by decide))
  have hE := (h0 6 (by decide +kernel)).trans AF0.out.2.2.2.2.2.1
  have hE7 := hv 9 7 (by decide) rfl
  have hD := hdf.trans AF0.out.2.1
  clear hup hS hsz hdf hv h0
  go_wp2
  exact bodyPost_ret (results_blk2 rfl hE hB Try.underlying24 rfl Try.sizePt hE7) hD ⟨b.2, rfl, n1, hU.below M4.out.1 M4.out.1.size (by omega)⟩
end Go.Proofs.Ytkdclocjijmgpaa
/-
  Curves: the reference's Mix. (wip/mkh31.py)
-/
namespace Go.Proofs.Ytkdclocjijmgpaa
open Go.RowKit Gl
set_option maxRecDepth 20000
abbrev T9 := Nat × Nat × Nat
/-- A point's block filled last; a point, three triples, two numbers are made on the way. -/
def SM (w0 : World) (bs gx gy : Nat) (T1 T2 T3 : T9 → Prop) (X Y : Nat) (b : (SV × SV) × (T9 × T9 × T9) × (SV × SV)) (L : Array Bool) (W : World) : Prop :=
  SB w0 24 bs [.slice none 0 0, .slice none 0 0] [sv b.2.2.1, sv b.2.2.2] 16 17 () L W ∧ (Up L 5 → Nb W (sv b.1.1) gx ∧ Nb W (sv b.1.2) gy) ∧ (Up L 7 → T1 b.2.1.1) ∧ (Up L 12 → T2 b.2.1.2.1) ∧ (Up L 13 → T3 b.2.1.2.2) ∧ (Up L 15 → Nb W (sv b.2.2.1) X ∧ Nb W (sv b.2.2.2) Y)
theorem SM.keep {w0 : World} {bs gx gy X Y : Nat} {T1 T2 T3 : T9 → Prop} {b : (SV × SV) × (T9 × T9 × T9) × (SV × SV)} {L : Array Bool} {W W' : World} (h : SM w0 bs gx gy T1 T2 T3 X Y b L W) {i : Nat} (hi : i < 16) (hno : ¬ Up L i) (h5 : i ≠ 5) (h7 : i ≠ 7) (h12 : i ≠ 12) (h13 : i ≠ 13) (h15 : i ≠ 15) (hb : Below W.heap.size W W') : SM w0 bs gx gy T1 T2 T3 X Y b (L.setIfInBounds i true) W' :=
  ⟨h.1.keep (by omega) hno (by omega) hb, fun u => ⟨(h.2.1 ((up_st h5).1 u)).1.below hb, (h.2.1 ((up_st h5).1 u)).2.below hb⟩, fun u => h.2.2.1 ((up_st h7).1 u), fun u => h.2.2.2.1 ((up_st h12).1 u), fun u => h.2.2.2.2.1 ((up_st h13).1 u), fun u => ⟨(h.2.2.2.2.2 ((up_st h15).1 u)).1.below hb, (h.2.2.2.2.2 ((up_st h15).1 u)).2.below hb⟩⟩
theorem SM.put5 {w0 : World} {bs gx gy X Y : Nat} {T1 T2 T3 : T9 → Prop} {b : (SV × SV) × (T9 × T9 × T9) × (SV × SV)} {L : Array Bool} {W W' : World} (h : SM w0 bs gx gy T1 T2 T3 X Y b L W) (hno : ¬ Up L 5) (hb : Below W.heap.size W W') {s : SV × SV} (n1 : Nb W' (sv s.1) gx) (n2 : Nb W' (sv s.2) gy) : SM w0 bs gx gy T1 T2 T3 X Y (s, b.2) (L.setIfInBounds 5 true) W' :=
  ⟨h.1.keep (i := 5) (by decide) hno (by decide) hb, fun _ => ⟨n1, n2⟩, fun u => h.2.2.1 ((up_st (by decide)).1 u), fun u => h.2.2.2.1 ((up_st (by decide)).1 u), fun u => h.2.2.2.2.1 ((up_st (by decide)).1 u), fun u => ⟨(h.2.2.2.2.2 ((up_st (by decide)).1 u)).1.below hb, (h.2.2.2.2.2 ((up_st (by decide)).1 u)).2.below hb⟩⟩
theorem SM.setL {w0 : World} {bs gx gy X Y : Nat} {T1 T2 T3 : T9 → Prop} {b : (SV × SV) × (T9 × T9 × T9) × (SV × SV)} {L : Array Bool} {W : World} (h : SM w0 bs gx gy T1 T2 T3 X Y b L W) : SM w0 bs gx gy T1 T2 T3 X Y b (L.setIfInBounds 17 true) W :=
  ⟨h.1.setL (by decide) (by decide), fun u => h.2.1 ((up_st (by decide)).1 u), fun u => h.2.2.1 ((up_st (by decide)).1 u), fun u => h.2.2.2.1 ((up_st (by decide)).1 u), fun u => h.2.2.2.2.1 ((up_st (by decide)).1 u), fun u => h.2.2.2.2.2 ((up_st (by decide)).1 u)⟩
theorem SM.store {w0 : World} {bs gx gy X Y : Nat} {T1 T2 T3 : T9 → Prop} {b : (SV × SV) × (T9 × T9 × T9) × (SV × SV)} {L : Array Bool} {W : World} (h : SM w0 bs gx gy T1 T2 T3 X Y b L W) (hno : ¬ Up L 16) (hl : 16 < L.size) (hall : ∀ k, k < 17 → k ≠ 16 → Up L k) : SM w0 bs gx gy T1 T2 T3 X Y b (L.setIfInBounds 16 true) (W.setCells bs 0 [sv b.2.2.1, sv b.2.2.2]) := by
  have hU : Upd W (W.setCells bs 0 [sv b.2.2.1, sv b.2.2.2]) bs := Upd.setCells _ 0 W
  have hB := (h.1.2.2.1 hno).2
  exact ⟨h.1.store hno hl hall rfl, fun u => ⟨(h.2.1 ((up_st (by decide)).1 u)).1.upd hB sn_nn hU, (h.2.1 ((up_st (by decide)).1 u)).2.upd hB sn_nn hU⟩, fun u => h.2.2.1 ((up_st (by decide)).1 u), fun u => h.2.2.2.1 ((up_st (by decide)).1 u), fun u => h.2.2.2.2.1 ((up_st (by decide)).1 u), fun u => ⟨(h.2.2.2.2.2 ((up_st (by decide)).1 u)).1.upd hB sn_nn hU, (h.2.2.2.2.2 ((up_st (by decide)).1 u)).2.upd hB sn_nn hU⟩⟩
end Go.Proofs.Ytkdclocjijmgpaa
/-
  Curves: the reference's Mul, Mix, Add where something is at fault. (wip/mkh33.py)
-/
namespace Go.Proofs.Ytkdclocjijmgpaa
open Go.RowKit
set_option maxRecDepth 20000
set_option maxHeartbeats 1000000 in
theorem RMul_bad {w : World} (c : Int) (fa : Option Addr) (fn fc : Nat) (a1 : Option Addr) (n1 c1 : Nat) (a2 : Option Addr) (n2 c2 : Nat) (X Y : List Int) (hX : Sl .u32 w (.slice a1 n1 c1) X) (hY : Sl .u32 w (.slice a2 n2 c2) Y) (uX : U32s X) (uY : U32s Y) (lX : X.length ≤ 1000000) (lY : Y.length ≤ 1000000) (er : Int) (her : askR c fn 0 (onC c X Y) (onC c X Y) = er) (h0 : er ≠ 0) :
    Calls Try.prog 16 #[.int .i64 c, .slice fa fn fc, .agg #[.slice a1 n1 c1, .slice a2 n2 c2]] w fun e w' => e = .returned (.tuple #[.agg #[.slice none 0 0, .slice none 0 0], .int .i64 er]) ∧ Below w.heap.size w w' := by
  have HA : Hid (∀ W, Below w.heap.size w W → Calls Try.prog 28 #[.int .i64 c, .slice fa fn fc, .slice none 0 0, .agg #[.slice a1 n1 c1, .slice a2 n2 c2], .agg #[.slice a1 n1 c1, .slice a2 n2 c2]] W fun e w' => e = .returned (.int .i64 er) ∧ Below W.heap.size W w') := fun W h => by
    have := RAsked_any c fa fn fc none 0 0 a1 n1 c1 a2 n2 c2 X Y a1 n1 c1 a2 n2 c2 X Y (below_sl h hX) (below_sl h hY) uX uY lX lY (below_sl h hX) (below_sl h hY) uX uY lX lY
    rw [her] at this
    exact this
  clear hX hY uX uY lX lY her
  go_enter Try.func16, Try.ntmps16
  go_upto_region 1 with (first | (refine wpList_boxR rfl 24 (.tmp 2) rfl #[.slice a1 n1 c1, .slice a2 n2 c2] rfl ?_))
  refine wp_gen (fun W => Below w.heap.size w W ∧ Blk 24 W w.heap.size [.slice a1 n1 c1, .slice a2 n2 c2] ∧ Blk 24 W (w.heap.size + 1) [.slice none 0 0, .slice none 0 0]) ?_ ?_
  · have x2 := Blk.new 24 (w.alloc (.cells #[.slice a1 n1 c1, .slice a2 n2 c2] 24)) [.slice none 0 0, .slice none 0 0]
    rw [World.size_alloc] at x2
    exact ⟨below_via (al1 _) (al1 _) (Nat.le_refl _), below_blk (al1 _) (by simp only [World.size_alloc]; omega) (Blk.new _ _ _), x2⟩
  rintro W1 hW
  have M1 : Hid (Below w.heap.size w W1 ∧ Blk 24 W1 w.heap.size [.slice a1 n1 c1, .slice a2 n2 c2] ∧ Blk 24 W1 (w.heap.size + 1) [.slice none 0 0, .slice none 0 0]) := hW
  clear hW
  go_wp2_with (first | (refine wpList_load_mid rfl _ _ rfl w.heap.size 0 rfl [.slice a1 n1 c1, .slice a2 n2 c2] _ M1.out.2.1.whole Try.underlying24 rfl (Try.sizeP2 _ _) ?_))
  refine (HA.out _ M1.out.1).mono ?_
  rintro e w2 ⟨rfl, hb⟩
  have M2 : Hid (Below w.heap.size w w2 ∧ Blk 24 w2 (w.heap.size + 1) [.slice none 0 0, .slice none 0 0]) := ⟨below_via M1.out.1 hb (Nat.le_refl _), below_blk hb M1.out.2.2.lt M1.out.2.2⟩
  clear hb M1 HA
  have Hth : Hid (w2.there (w.heap.size + 1) 0 2) := M2.out.2.there 0 _ (by decide)
  go_wp2_with (refine wpList_store_mid rfl _ _ _ rfl (w.heap.size + 1) 0 #[.slice none 0 0, .slice none 0 0] rfl rfl Hth.out Try.sizePt (sv_one ((none, 0, 0), (none, 0, 0))) ?_)
  have hU : Upd w2 (w2.setCells (w.heap.size + 1) 0 [.slice none 0 0, .slice none 0 0]) (w.heap.size + 1) := Upd.setCells _ 0 w2
  have hF := M2.out.2.fill [.slice none 0 0, .slice none 0 0] rfl
  exact bodyPost_ret (results_blk2 rfl rfl hF Try.underlying24 rfl Try.sizePt rfl) rfl ⟨rfl, hU.below M2.out.1 M2.out.1.size (by omega)⟩
end Go.Proofs.Ytkdclocjijmgpaa
/-
  Curves: points of any lists; the program's Add, Neg, Mul, Mix of them.
-/
namespace Go.Proofs.Ytkdclocjijmgpaa
open Go.RowKit Gl
set_option maxRecDepth 20000
theorem on_pt {c : Int} {C : Cv} [NeZero C.p] (hc : crv c = some C) (g : Cok C) {X Y : List Int} (uX : U32s X) (uY : U32s Y) (h : onC c X Y = true) : ∃ P : Pt C.p, (ec C).On P ∧ enc P = ((val X).toNat, (val Y).toNat) := by
  have n1 := val_nonneg uX
  have n2 := val_nonneg uY
  unfold onC at h
  rw [hc] at h
  have h : onB C.p C.b X Y = true := h
  unfold onB at h
  by_cases hf : farB X Y = true
  · unfold farB at hf
    have hf := of_decide_eq_true hf
    exact ⟨none, trivial, by rw [hf.1, hf.2]; rfl⟩
  · rw [if_neg hf] at h
    by_cases hl : val X < C.p ∧ val Y < C.p
    · rw [if_pos hl] at h
      have lx : (val X).toNat < C.p := by omega
      have ly : (val Y).toNat < C.p := by omega
      generalize (val X).toNat = x at *
      generalize (val Y).toNat = y at *
      refine ⟨some (F C.p x, F C.p y), ?_, Prod.ext (F_lt lx) (F_lt ly)⟩
      unfold onE at h
      have h := of_decide_eq_true h
      have h0 := Gl.p_pos (p := C.p)
      have e : F C.p (fml C.p y y) = F C.p (fad C.p (fsb C.p (fml C.p (fml C.p x x) x) (fad C.p (fad C.p x x) x)) C.b) := by rw [h]
      rw [F_fml, F_fad, F_fsb _ (fad_lt h0), F_fml, F_fml, F_fad, F_fad] at e
      show F C.p y * F C.p y = F C.p x * F C.p x * F C.p x + (ec C).a * F C.p x + (ec C).b
      have h2 := g.a3
      have h3 : (ec C).b = F C.p C.b := rfl
      rw [h3]
      clear h h3
      generalize (ec C).a = a at *
      generalize F C.p C.b = b at *
      generalize F C.p x = u at *
      generalize F C.p y = v at *
      grobner
    · rw [if_neg hl] at h
      exact Bool.noConfusion h
theorem triB_val {X Y : List Int} (uX : U32s X) (uY : U32s Y) : triB X Y = triN (val X).toNat (val Y).toNat := by
  have h1 := val_nonneg uX
  have h2 := val_nonneg uY
  unfold triB triN farB
  by_cases h : val X = 0 ∧ val Y = 0
  · rw [if_pos (by simp [h.1, h.2]), if_pos ⟨by rw [h.1]; rfl, by rw [h.2]; rfl⟩]
  · rw [if_neg (by simpa using h), if_neg (fun g => h ⟨by omega, by omega⟩)]
theorem onC_onB {c : Int} {C : Cv} (hc : crv c = some C) {X Y : List Int} (h : onC c X Y = true) : onB C.p C.b X Y = true := by
  unfold onC at h
  rw [hc] at h
  exact h
end Go.Proofs.Ytkdclocjijmgpaa
/-
  Curve: asked, where there is no such curve, or its point is not on it. (wip/mku37.py)
-/
namespace Go.Proofs.Ytkdclocjijmgpaa
open Go.RowKit
set_option maxRecDepth 20000
set_option maxHeartbeats 4000000 in
theorem asked_no {w : World} (c : Int) (hc : crv c = none) (v u : Value) :
    Calls Try.prog 24 #[.int .i64 c, v, u] w fun e w' => e = .returned (.tuple #[.agg kz.toArray, .int .i64 1]) ∧ Below w.heap.size w w' := by
  go_enter Try.func24, Try.ntmps24
  go_wp2_with fail
  refine (pick_no c hc).mono ?_
  rintro e w3 ⟨rfl, hb3⟩
  have H3 : Hid (Below w.heap.size w w3 ∧ Blk 53 w3 w.heap.size kz) := ⟨below_via (al1 _) hb3 (Nat.le_refl _), below_blk hb3 (newKd w).lt (newKd w)⟩
  clear hb3 hc
  unfold kz
  go_upto_region 2 with (fail)
  refine wp_gen (fun W => Below w3.heap.size w3 W) (al1 _) ?_
  rintro y0 hb4
  have L0 : Hid (Below w.heap.size w y0 ∧ Blk 53 y0 w.heap.size kz) := ⟨below_via H3.out.1 hb4 (Nat.le_refl _), below_blk hb4 H3.out.2.lt H3.out.2⟩
  clear hb4
  have d0 : y0.cell? ⟨w.heap.size, 0, none⟩ = some (.int .i64 0) := L0.out.2.cell 0
  have g0 : y0.frozen? ⟨w.heap.size, 0, none⟩ = false := L0.out.2.frozen 0
  have d1 : y0.cell? ⟨w.heap.size, 1, none⟩ = some (.slice none 0 0) := L0.out.2.cell 1
  have g1 : y0.frozen? ⟨w.heap.size, 1, none⟩ = false := L0.out.2.frozen 1
  have d2 : y0.cell? ⟨w.heap.size, 2, none⟩ = some (.slice none 0 0) := L0.out.2.cell 2
  have g2 : y0.frozen? ⟨w.heap.size, 2, none⟩ = false := L0.out.2.frozen 2
  have d3 : y0.cell? ⟨w.heap.size, 3, none⟩ = some (.slice none 0 0) := L0.out.2.cell 3
  have g3 : y0.frozen? ⟨w.heap.size, 3, none⟩ = false := L0.out.2.frozen 3
  have d4 : y0.cell? ⟨w.heap.size, 4, none⟩ = some (.slice none 0 0) := L0.out.2.cell 4
  have g4 : y0.frozen? ⟨w.heap.size, 4, none⟩ = false := L0.out.2.frozen 4
  have d5 : y0.cell? ⟨w.heap.size, 5, none⟩ = some (.slice none 0 0) := L0.out.2.cell 5
  have g5 : y0.frozen? ⟨w.heap.size, 5, none⟩ = false := L0.out.2.frozen 5
  go_wp2
  obtain ⟨hF, hU⟩ := Blk.put6 L0.out.2 (.int .i64 0) (.slice none 0 0) (.slice none 0 0) (.slice none 0 0) (.slice none 0 0) (.slice none 0 0)
  exact bodyPost_ret (results_blk2 rfl rfl hF Try.underlying53 rfl Try.sizeKd rfl) rfl ⟨rfl, hU.below L0.out.1 L0.out.1.size (Nat.le_refl _)⟩
end Go.Proofs.Ytkdclocjijmgpaa
/-
  Curve: asked, where one of its points is not on the curve. (wip/mkh36.py)
-/
namespace Go.Proofs.Ytkdclocjijmgpaa
open Go.RowKit
set_option maxRecDepth 20000
set_option maxHeartbeats 4000000 in
theorem asked_off21 {w : World} (c : Int) (C : Cv) (hc : crv c = some C) (fa0 : Option Addr) (fn0 fc0 : Nat) (lf0 : fn0 ≤ 64) (fa1 : Option Addr) (fn1 fc1 : Nat) (lf1 : fn1 ≤ 64) (bf : Nat) (Tf : TypeId) (hF : Blk Tf w bf [.slice fa0 fn0 fc0, .slice fa1 fn1 fc1]) (bp : Nat) (Tp : TypeId) (vx0 vy0 : Value) (X0 Y0 : List Int) (hP : Blk Tp w bp [vx0, vy0]) (hX0 : Sl .u32 w vx0 X0) (hY0 : Sl .u32 w vy0 Y0) (uX0 : U32s X0) (uY0 : U32s Y0) (lX0 : X0.length ≤ 1000000) (lY0 : Y0.length ≤ 1000000) (ho0 : onB C.p C.b X0 Y0 = false) :
    Calls Try.prog 24 #[.int .i64 c, .slice (some ⟨bf, 0, none⟩) 2 2, .slice (some ⟨bp, 0, none⟩) 1 1] w fun e w' => e = .returned (.tuple #[.agg kz.toArray, .int .i64 90]) ∧ Below w.heap.size w w' := by
  obtain ⟨xa0, xc0, rfl⟩ : ∃ a c, vx0 = .slice a X0.length c := by obtain ⟨a, c, h1, _⟩ := hX0; exact ⟨a, c, h1⟩
  obtain ⟨ya0, yc0, rfl⟩ : ∃ a c, vy0 = .slice a Y0.length c := by obtain ⟨a, c, h1, _⟩ := hY0; exact ⟨a, c, h1⟩
  obtain ⟨xn0, hxn0⟩ : ∃ n, X0.length = n := ⟨_, rfl⟩
  obtain ⟨yn0, hyn0⟩ : ∃ n, Y0.length = n := ⟨_, rfl⟩
  rw [hxn0, hyn0] at hP; rw [hxn0] at hX0; rw [hyn0] at hY0
  have HX0 : Hid (∀ W f rb v0 v2 v4 v5, Below w.heap.size w W → Fld W f C.p → Nb W rb C.b → Calls Try.prog 46 #[.agg #[v0, f, v2, rb, v4, v5], .agg #[(.slice xa0 xn0 xc0), (.slice ya0 yn0 yc0)]] W fun e w' => e = .returned (.bool false) ∧ Below W.heap.size W w') := fun W f rb v0 v2 v4 v5 hW hf hb => ho0 ▸ Kon v0 f v2 rb v4 v5 (.slice xa0 xn0 xc0) (.slice ya0 yn0 yc0) C.p C.b X0 Y0 hf hb (crv_ok hc).2.2.1 (below_sl hW hX0) (below_sl hW hY0) uX0 uY0 lX0 lY0
  have HP : Hid (∀ W, Below w.heap.size w W → Blk Tp W bp [(.slice xa0 xn0 xc0), (.slice ya0 yn0 yc0)]) := fun W hW => below_blk hW hP.lt hP
  have HF : Hid (∀ W, Below w.heap.size w W → Blk Tf W bf [.slice fa0 fn0 fc0, .slice fa1 fn1 fc1]) := fun W hW => below_blk hW hF.lt hF
  have HK : Hid (0 < C.p ∧ C.p < 4294967296 ^ 12) := ⟨(crv_ok hc).1, (crv_ok hc).2.1⟩
  clear hxn0 hyn0 hX0 hY0 uX0 uY0 lX0 lY0 ho0 hP hF
  go_enter Try.func24, Try.ntmps24
  go_wp2_with fail
  refine (pick_yes c C hc).mono ?_
  rintro e w3 ⟨s, a1, n1, c1, a2, n2, c2, a3, n3, c3, a4, n4, c4, a5, n5, c5, rfl, hk, hb3⟩
  have H3 : Hid (Below w.heap.size w w3 ∧ KindS w3 s a1 n1 c1 a2 n2 c2 a3 n3 c3 a4 n4 c4 a5 n5 c5 C ∧ Blk 53 w3 w.heap.size kz) := ⟨below_via (al1 _) hb3 (Nat.le_refl _), hk, below_blk hb3 (newKd w).lt (newKd w)⟩
  clear hb3 hc hk
  go_upto_region 2 with (fail)
  refine wp_gen (fun W => Blk 53 W w3.heap.size [.int .i64 s, .slice a1 n1 c1, .slice a2 n2 c2, .slice a3 n3 c3, .slice a4 n4 c4, .slice a5 n5 c5] ∧ Below w3.heap.size w3 W) ⟨Blk.new _ _ _, al1 _⟩ ?_
  rintro W4 ⟨hB4, hb4⟩
  have H4 : Hid (Below w.heap.size w W4 ∧ KindS W4 s a1 n1 c1 a2 n2 c2 a3 n3 c3 a4 n4 c4 a5 n5 c5 C ∧ Blk 53 W4 w.heap.size kz ∧ Blk 53 W4 w3.heap.size [.int .i64 s, .slice a1 n1 c1, .slice a2 n2 c2, .slice a3 n3 c3, .slice a4 n4 c4, .slice a5 n5 c5]) := ⟨below_via H3.out.1 hb4 (Nat.le_refl _), H3.out.2.1.below hb4, below_blk hb4 H3.out.2.2.lt H3.out.2.2, hB4⟩
  clear hb4 hB4
  have f0 : W4.cell? ⟨bf, 0, none⟩ = some (.slice fa0 fn0 fc0) := (HF.out _ H4.out.1).cell 0
  have fe0 : decide (64 < (fn0 : Int)) = false := by simp; omega
  have f1 : W4.cell? ⟨bf, 1, none⟩ = some (.slice fa1 fn1 fc1) := (HF.out _ H4.out.1).cell 1
  have fe1 : decide (64 < (fn1 : Int)) = false := by simp; omega
  go_wp2
  refine wp_loop_rounds 3 ?_
  rw [rounds_succ]
  go_wp2
  rw [rounds_succ]
  go_wp2
  rw [rounds_succ]
  go_wp2
  refine wp_loop_rounds 2 ?_
  rw [rounds_succ]
  have p0 : W4.cell? ⟨bp, 0, none⟩ = some (.slice xa0 xn0 xc0) := (HP.out _ H4.out.1).cell 0
  have p1 : W4.cell? ⟨bp, 1, none⟩ = some (.slice ya0 yn0 yc0) := (HP.out _ H4.out.1).cell 1
  go_upto_region 13 with (fail)
  refine wp_gen (fun W => Blk 24 W W4.heap.size [(.slice xa0 xn0 xc0), (.slice ya0 yn0 yc0)] ∧ Below W4.heap.size W4 W) ⟨Blk.new _ _ _, al1 _⟩ ?_
  rintro V0 ⟨hB, hb⟩
  have J0 : Hid (Below w.heap.size w V0 ∧ KindS V0 s a1 n1 c1 a2 n2 c2 a3 n3 c3 a4 n4 c4 a5 n5 c5 C ∧ Blk 53 V0 w.heap.size kz ∧ Blk 53 V0 w3.heap.size [.int .i64 s, .slice a1 n1 c1, .slice a2 n2 c2, .slice a3 n3 c3, .slice a4 n4 c4, .slice a5 n5 c5] ∧ Below W4.heap.size W4 V0) := ⟨below_via H4.out.1 hb (Nat.le_refl _), H4.out.2.1.below hb, below_blk hb H4.out.2.2.1.lt H4.out.2.2.1, below_blk hb H4.out.2.2.2.lt H4.out.2.2.2, hb⟩
  have k0 : V0.cell? ⟨w3.heap.size, 0, none⟩ = some (.int .i64 s) := J0.out.2.2.2.1.cell 0
  have k1 : V0.cell? ⟨w3.heap.size, 1, none⟩ = some (.slice a1 n1 c1) := J0.out.2.2.2.1.cell 1
  have k2 : V0.cell? ⟨w3.heap.size, 2, none⟩ = some (.slice a2 n2 c2) := J0.out.2.2.2.1.cell 2
  have k3 : V0.cell? ⟨w3.heap.size, 3, none⟩ = some (.slice a3 n3 c3) := J0.out.2.2.2.1.cell 3
  have k4 : V0.cell? ⟨w3.heap.size, 4, none⟩ = some (.slice a4 n4 c4) := J0.out.2.2.2.1.cell 4
  have k5 : V0.cell? ⟨w3.heap.size, 5, none⟩ = some (.slice a5 n5 c5) := J0.out.2.2.2.1.cell 5
  have q0 : V0.cell? ⟨W4.heap.size, 0, none⟩ = some (.slice xa0 xn0 xc0) := hB.cell 0
  have q1 : V0.cell? ⟨W4.heap.size, 1, none⟩ = some (.slice ya0 yn0 yc0) := hB.cell 1
  clear p0 p1 hB hb
  go_wp2_with fail
  refine (HX0.out _ _ _ _ _ _ _ J0.out.1 ⟨J0.out.2.1.2.1, HK.out.1, HK.out.2⟩ J0.out.2.1.2.2.2.1).mono ?_
  rintro e y0 ⟨rfl, hb⟩
  have L0 : Hid (Below w.heap.size w y0 ∧ KindS y0 s a1 n1 c1 a2 n2 c2 a3 n3 c3 a4 n4 c4 a5 n5 c5 C ∧ Blk 53 y0 w.heap.size kz ∧ Blk 53 y0 w3.heap.size [.int .i64 s, .slice a1 n1 c1, .slice a2 n2 c2, .slice a3 n3 c3, .slice a4 n4 c4, .slice a5 n5 c5] ∧ True) := ⟨below_via J0.out.1 hb (Nat.le_refl _), J0.out.2.1.below hb, below_blk hb J0.out.2.2.1.lt J0.out.2.2.1, below_blk hb J0.out.2.2.2.1.lt J0.out.2.2.2.1, trivial⟩
  clear hb q0 q1 k0 k1 k2 k3 k4 k5
  have d0 : y0.cell? ⟨w.heap.size, 0, none⟩ = some (.int .i64 0) := L0.out.2.2.1.cell 0
  have g0 : y0.frozen? ⟨w.heap.size, 0, none⟩ = false := L0.out.2.2.1.frozen 0
  have d1 : y0.cell? ⟨w.heap.size, 1, none⟩ = some (.slice none 0 0) := L0.out.2.2.1.cell 1
  have g1 : y0.frozen? ⟨w.heap.size, 1, none⟩ = false := L0.out.2.2.1.frozen 1
  have d2 : y0.cell? ⟨w.heap.size, 2, none⟩ = some (.slice none 0 0) := L0.out.2.2.1.cell 2
  have g2 : y0.frozen? ⟨w.heap.size, 2, none⟩ = false := L0.out.2.2.1.frozen 2
  have d3 : y0.cell? ⟨w.heap.size, 3, none⟩ = some (.slice none 0 0) := L0.out.2.2.1.cell 3
  have g3 : y0.frozen? ⟨w.heap.size, 3, none⟩ = false := L0.out.2.2.1.frozen 3
  have d4 : y0.cell? ⟨w.heap.size, 4, none⟩ = some (.slice none 0 0) := L0.out.2.2.1.cell 4
  have g4 : y0.frozen? ⟨w.heap.size, 4, none⟩ = false := L0.out.2.2.1.frozen 4
  have d5 : y0.cell? ⟨w.heap.size, 5, none⟩ = some (.slice none 0 0) := L0.out.2.2.1.cell 5
  have g5 : y0.frozen? ⟨w.heap.size, 5, none⟩ = false := L0.out.2.2.1.frozen 5
  go_wp2
  obtain ⟨hF, hU⟩ := Blk.put6 L0.out.2.2.1 (.int .i64 0) (.slice none 0 0) (.slice none 0 0) (.slice none 0 0) (.slice none 0 0) (.slice none 0 0)
  exact bodyPost_ret (results_blk2 rfl rfl hF Try.underlying53 rfl Try.sizeKd rfl) rfl ⟨rfl, hU.below L0.out.1 L0.out.1.size (Nat.le_refl _)⟩
end Go.Proofs.Ytkdclocjijmgpaa
