/-
  Curves: the reference's Mix. (wip/mkh31.py)
-/
import Derived.Test.YtkdclocjijmgpaaK33
namespace Go.Proofs.Ytkdclocjijmgpaa
open Go.RowKit Gl
set_option maxRecDepth 20000
theorem eg_sum (args : Array Value) (w : World) : (callFunc 31 args).run Try.prog w = .ok (.enter 31 args) w := eg_of Try.func31 (by kernel_rfl) (by kernel_rfl) args w
theorem eg_base (args : Array Value) (w : World) : (callFunc 42 args).run Try.prog w = .ok (.enter 42 args) w := eg_of Try.func42 (by kernel_rfl) (by kernel_rfl) args w
abbrev T9 := Nat × Nat × Nat
/-- A point's block filled last; a point, three triples, two numbers are made on the way. -/
def SM (w0 : World) (bs gx gy : Nat) (T1 T2 T3 : T9 → Prop) (X Y : Nat) (b : (SV × SV) × (T9 × T9 × T9) × (SV × SV)) (L : Array Bool) (W : World) : Prop :=
  SB w0 24 bs [.slice none 0 0, .slice none 0 0] [sv b.2.2.1, sv b.2.2.2] 16 17 () L W ∧ (Up L 5 → Nb W (sv b.1.1) gx ∧ Nb W (sv b.1.2) gy) ∧ (Up L 7 → T1 b.2.1.1) ∧ (Up L 12 → T2 b.2.1.2.1) ∧ (Up L 13 → T3 b.2.1.2.2) ∧ (Up L 15 → Nb W (sv b.2.2.1) X ∧ Nb W (sv b.2.2.2) Y)
theorem SM.keep {w0 : World} {bs gx gy X Y : Nat} {T1 T2 T3 : T9 → Prop} {b : (SV × SV) × (T9 × T9 × T9) × (SV × SV)} {L : Array Bool} {W W' : World} (h : SM w0 bs gx gy T1 T2 T3 X Y b L W) {i : Nat} (hi : i < 16) (hno : ¬ Up L i) (h5 : i ≠ 5) (h7 : i ≠ 7) (h12 : i ≠ 12) (h13 : i ≠ 13) (h15 : i ≠ 15) (hb : Below W.heap.size W W') : SM w0 bs gx gy T1 T2 T3 X Y b (L.setIfInBounds i true) W' :=
  ⟨h.1.keep (by omega) hno (by omega) hb, fun u => ⟨(h.2.1 ((up_st h5).1 u)).1.below hb, (h.2.1 ((up_st h5).1 u)).2.below hb⟩, fun u => h.2.2.1 ((up_st h7).1 u), fun u => h.2.2.2.1 ((up_st h12).1 u), fun u => h.2.2.2.2.1 ((up_st h13).1 u), fun u => ⟨(h.2.2.2.2.2 ((up_st h15).1 u)).1.below hb, (h.2.2.2.2.2 ((up_st h15).1 u)).2.below hb⟩⟩
theorem SM.put5 {w0 : World} {bs gx gy X Y : Nat} {T1 T2 T3 : T9 → Prop} {b : (SV × SV) × (T9 × T9 × T9) × (SV × SV)} {L : Array Bool} {W W' : World} (h : SM w0 bs gx gy T1 T2 T3 X Y b L W) (hno : ¬ Up L 5) (hb : Below W.heap.size W W') {s : SV × SV} (n1 : Nb W' (sv s.1) gx) (n2 : Nb W' (sv s.2) gy) : SM w0 bs gx gy T1 T2 T3 X Y (s, b.2) (L.setIfInBounds 5 true) W' :=
  ⟨h.1.keep (i := 5) (by decide) hno (by decide) hb, fun _ => ⟨n1, n2⟩, fun u => h.2.2.1 ((up_st (by decide)).1 u), fun u => h.2.2.2.1 ((up_st (by decide)).1 u), fun u => h.2.2.2.2.1 ((up_st (by decide)).1 u), fun u => ⟨(h.2.2.2.2.2 ((up_st (by decide)).1 u)).1.below hb, (h.2.2.2.2.2 ((up_st (by decide)).1 u)).2.below hb⟩⟩
theorem SM.put7 {w0 : World} {bs gx gy X Y : Nat} {T1 T2 T3 : T9 → Prop} {b : (SV × SV) × (T9 × T9 × T9) × (SV × SV)} {L : Array Bool} {W W' : World} (h : SM w0 bs gx gy T1 T2 T3 X Y b L W) (hno : ¬ Up L 7) (hb : Below W.heap.size W W') {t : T9} (ht : T1 t) : SM w0 bs gx gy T1 T2 T3 X Y (b.1, (t, b.2.1.2), b.2.2) (L.setIfInBounds 7 true) W' :=
  ⟨h.1.keep (i := 7) (by decide) hno (by decide) hb, fun u => ⟨(h.2.1 ((up_st (by decide)).1 u)).1.below hb, (h.2.1 ((up_st (by decide)).1 u)).2.below hb⟩, fun _ => ht, fun u => h.2.2.2.1 ((up_st (by decide)).1 u), fun u => h.2.2.2.2.1 ((up_st (by decide)).1 u), fun u => ⟨(h.2.2.2.2.2 ((up_st (by decide)).1 u)).1.below hb, (h.2.2.2.2.2 ((up_st (by decide)).1 u)).2.below hb⟩⟩
theorem SM.put12 {w0 : World} {bs gx gy X Y : Nat} {T1 T2 T3 : T9 → Prop} {b : (SV × SV) × (T9 × T9 × T9) × (SV × SV)} {L : Array Bool} {W W' : World} (h : SM w0 bs gx gy T1 T2 T3 X Y b L W) (hno : ¬ Up L 12) (hb : Below W.heap.size W W') {t : T9} (ht : T2 t) : SM w0 bs gx gy T1 T2 T3 X Y (b.1, (b.2.1.1, t, b.2.1.2.2), b.2.2) (L.setIfInBounds 12 true) W' :=
  ⟨h.1.keep (i := 12) (by decide) hno (by decide) hb, fun u => ⟨(h.2.1 ((up_st (by decide)).1 u)).1.below hb, (h.2.1 ((up_st (by decide)).1 u)).2.below hb⟩, fun u => h.2.2.1 ((up_st (by decide)).1 u), fun _ => ht, fun u => h.2.2.2.2.1 ((up_st (by decide)).1 u), fun u => ⟨(h.2.2.2.2.2 ((up_st (by decide)).1 u)).1.below hb, (h.2.2.2.2.2 ((up_st (by decide)).1 u)).2.below hb⟩⟩
theorem SM.put13 {w0 : World} {bs gx gy X Y : Nat} {T1 T2 T3 : T9 → Prop} {b : (SV × SV) × (T9 × T9 × T9) × (SV × SV)} {L : Array Bool} {W W' : World} (h : SM w0 bs gx gy T1 T2 T3 X Y b L W) (hno : ¬ Up L 13) (hb : Below W.heap.size W W') {t : T9} (ht : T3 t) : SM w0 bs gx gy T1 T2 T3 X Y (b.1, (b.2.1.1, b.2.1.2.1, t), b.2.2) (L.setIfInBounds 13 true) W' :=
  ⟨h.1.keep (i := 13) (by decide) hno (by decide) hb, fun u => ⟨(h.2.1 ((up_st (by decide)).1 u)).1.below hb, (h.2.1 ((up_st (by decide)).1 u)).2.below hb⟩, fun u => h.2.2.1 ((up_st (by decide)).1 u), fun u => h.2.2.2.1 ((up_st (by decide)).1 u), fun _ => ht, fun u => ⟨(h.2.2.2.2.2 ((up_st (by decide)).1 u)).1.below hb, (h.2.2.2.2.2 ((up_st (by decide)).1 u)).2.below hb⟩⟩
theorem SM.put15 {w0 : World} {bs gx gy X Y : Nat} {T1 T2 T3 : T9 → Prop} {b : (SV × SV) × (T9 × T9 × T9) × (SV × SV)} {L : Array Bool} {W W' : World} (h : SM w0 bs gx gy T1 T2 T3 X Y b L W) (hno : ¬ Up L 15) (hb : Below W.heap.size W W') {s : SV × SV} (n1 : Nb W' (sv s.1) X) (n2 : Nb W' (sv s.2) Y) : SM w0 bs gx gy T1 T2 T3 X Y (b.1, b.2.1, s) (L.setIfInBounds 15 true) W' :=
  ⟨(h.1.keep (i := 15) (by decide) hno (by decide) hb).re (fun u => hno ((h.1.2.2.2 ((up_st (by decide)).1 u)).2 15 (by decide))), fun u => ⟨(h.2.1 ((up_st (by decide)).1 u)).1.below hb, (h.2.1 ((up_st (by decide)).1 u)).2.below hb⟩, fun u => h.2.2.1 ((up_st (by decide)).1 u), fun u => h.2.2.2.1 ((up_st (by decide)).1 u), fun u => h.2.2.2.2.1 ((up_st (by decide)).1 u), fun _ => ⟨n1, n2⟩⟩
theorem SM.setL {w0 : World} {bs gx gy X Y : Nat} {T1 T2 T3 : T9 → Prop} {b : (SV × SV) × (T9 × T9 × T9) × (SV × SV)} {L : Array Bool} {W : World} (h : SM w0 bs gx gy T1 T2 T3 X Y b L W) : SM w0 bs gx gy T1 T2 T3 X Y b (L.setIfInBounds 17 true) W :=
  ⟨h.1.setL (by decide) (by decide), fun u => h.2.1 ((up_st (by decide)).1 u), fun u => h.2.2.1 ((up_st (by decide)).1 u), fun u => h.2.2.2.1 ((up_st (by decide)).1 u), fun u => h.2.2.2.2.1 ((up_st (by decide)).1 u), fun u => h.2.2.2.2.2 ((up_st (by decide)).1 u)⟩
theorem SM.store {w0 : World} {bs gx gy X Y : Nat} {T1 T2 T3 : T9 → Prop} {b : (SV × SV) × (T9 × T9 × T9) × (SV × SV)} {L : Array Bool} {W : World} (h : SM w0 bs gx gy T1 T2 T3 X Y b L W) (hno : ¬ Up L 16) (hl : 16 < L.size) (hall : ∀ k, k < 17 → k ≠ 16 → Up L k) : SM w0 bs gx gy T1 T2 T3 X Y b (L.setIfInBounds 16 true) (W.setCells bs 0 [sv b.2.2.1, sv b.2.2.2]) := by
  have hU : Upd W (W.setCells bs 0 [sv b.2.2.1, sv b.2.2.2]) bs := Upd.setCells _ 0 W
  have hB := (h.1.2.2.1 hno).2
  exact ⟨h.1.store hno hl hall rfl, fun u => ⟨(h.2.1 ((up_st (by decide)).1 u)).1.upd hB sn_nn hU, (h.2.1 ((up_st (by decide)).1 u)).2.upd hB sn_nn hU⟩, fun u => h.2.2.1 ((up_st (by decide)).1 u), fun u => h.2.2.2.1 ((up_st (by decide)).1 u), fun u => h.2.2.2.2.1 ((up_st (by decide)).1 u), fun u => ⟨(h.2.2.2.2.2 ((up_st (by decide)).1 u)).1.upd hB sn_nn hU, (h.2.2.2.2.2 ((up_st (by decide)).1 u)).2.upd hB sn_nn hU⟩⟩
set_option maxHeartbeats 4000000 in
theorem RMix_ok {w : World} {c : Int} {C : Cv} [NeZero C.p] (hc : crv c = some C) (g : Cok C) (fa : Option Addr) (fn fc : Nat) (K : List Int) (hK : Sl .u32 w (.slice fa fn fc) K) (uK : U32s K) (lK : fn ≤ 64) (ga : Option Addr) (gn gc : Nat) (J : List Int) (hJ : Sl .u32 w (.slice ga gn gc) J) (uJ : U32s J) (lJ : gn ≤ 64) (a1 : Option Addr) (n1 c1 : Nat) (a2 : Option Addr) (n2 c2 : Nat) (X Y : List Int) (hX : Sl .u32 w (.slice a1 n1 c1) X) (hY : Sl .u32 w (.slice a2 n2 c2) Y) (uX : U32s X) (uY : U32s Y) (lX : X.length ≤ 1000000) (lY : Y.length ≤ 1000000) (hon : onC c X Y = true) {P : Pt C.p} (hP : (ec C).On P) (e1 : (val X).toNat = (enc P).1) (e2 : (val Y).toNat = (enc P).2) :
    Calls Try.prog 19 #[.int .i64 c, .slice fa fn fc, .slice ga gn gc, .agg #[.slice a1 n1 c1, .slice a2 n2 c2]] w fun e w' => ∃ b : SV × SV, e = .returned (.tuple #[.agg #[sv b.1, sv b.2], .int .i64 0]) ∧ (Nb w' (sv b.1) (enc ((ec C).add ((ec C).mul (val K).toNat (gen C)) ((ec C).mul (val J).toNat P))).1 ∧ Nb w' (sv b.2) (enc ((ec C).add ((ec C).mul (val K).toNat (gen C)) ((ec C).mul (val J).toNat P))).2) ∧ Below w.heap.size w w' := by
  have hp : Fp C.p := ⟨by have := g.p3; omega, crv_p12 hc⟩
  have kl : K.length = fn := by
    obtain ⟨a', c', h1, _⟩ := hK.len
    simp only [Value.slice.injEq] at h1
    exact h1.2.1.symm
  have jl : J.length = gn := by
    obtain ⟨a', c', h1, _⟩ := hJ.len
    simp only [Value.slice.injEq] at h1
    exact h1.2.1.symm
  have HA : Hid (∀ W, Below w.heap.size w W → Calls Try.prog 28 #[.int .i64 c, .slice fa fn fc, .slice ga gn gc, .agg #[.slice a1 n1 c1, .slice a2 n2 c2], .agg #[.slice a1 n1 c1, .slice a2 n2 c2]] W fun e w' => e = .returned (.int .i64 0) ∧ Below W.heap.size W w') := fun W h => by
    have := RAsked_any c fa fn fc ga gn gc a1 n1 c1 a2 n2 c2 X Y a1 n1 c1 a2 n2 c2 X Y (below_sl h hX) (below_sl h hY) uX uY lX lY (below_sl h hX) (below_sl h hY) uX uY lX lY
    have e0 : askR c fn gn (onC c X Y) (onC c X Y) = 0 := by unfold askR; rw [hc, hon]; simp; omega
    rw [e0] at this
    exact this
  have HFo : Hid (∀ W, Calls Try.prog 29 #[.int .i64 c] W fun e w' => e = .returned (fV C.p) ∧ Below W.heap.size W w') := fun W => RFieldG c hc hp
  have HBs : Hid (∀ W, Calls Try.prog 42 #[.int .i64 c] W fun e w' => ∃ v, e = .returned v ∧ ∃ s : SV × SV, v = .agg #[sv s.1, sv s.2] ∧ (Nb w' (sv s.1) C.gx ∧ Nb w' (sv s.2) C.gy) ∧ Below W.heap.size W w') := fun W => (RBase_any c).mono fun e w' ⟨r, q, h1, h2, h3, h4⟩ => by
    rw [hc] at h2 h3
    obtain ⟨ra, rc, hr⟩ := h2.form
    obtain ⟨qa, qc, hq⟩ := h3.form
    subst hr hq
    exact ⟨_, h1, ((ra, _, rc), (qa, _, qc)), rfl, ⟨h2, h3⟩, h4⟩
  obtain ⟨tb, htb⟩ : ∃ t, lft (lim C.gx) (lim C.gy) = t := ⟨_, rfl⟩
  have hbr := triN_rq g.b0 hp.1 g.onG
  have ge := gen_enc g
  rw [ge] at hbr
  have htl := lft_triN (lim_u32 C.gx) (lim_u32 C.gy)
  rw [val_lim, val_lim, Int.toNat_natCast, Int.toNat_natCast, htb] at htl
  simp only [] at hbr
  rw [← htl] at hbr
  have HLb : Hid (∀ W (s : SV × SV), Nb W (sv s.1) C.gx → Nb W (sv s.2) C.gy → Calls Try.prog 32 #[.agg #[sv s.1, sv s.2]] W fun e w' => e = .returned (.agg (tC tb.1 tb.2.1 tb.2.2).toArray) ∧ Below W.heap.size W w') := fun W s h1 h2 => by
    have := lift_any hp (sv s.1) (sv s.2) (lim C.gx) (lim C.gy) h1.sl h2.sl (lim_u32 _) (lim_u32 _) (by have := lim12 (Nat.lt_trans g.gl.1 hp.2); omega) (by have := lim12 (Nat.lt_trans g.gl.2 hp.2); omega) (by rw [val_lim, Int.toNat_natCast]; exact g.gl.1) (by rw [val_lim, Int.toNat_natCast]; exact g.gl.2)
    rw [htb] at this
    exact this
  obtain ⟨tq, ht⟩ : ∃ t, lft X Y = t := ⟨_, rfl⟩
  have htr := triN_rq g.b0 hp.1 hP
  rw [← e1, ← e2, ← lft_triN uX uY, ht] at htr
  have HLf : Hid (∀ W, Below w.heap.size w W → Calls Try.prog 32 #[.agg #[.slice a1 n1 c1, .slice a2 n2 c2]] W fun e w' => e = .returned (.agg (tC tq.1 tq.2.1 tq.2.2).toArray) ∧ Below W.heap.size W w') := fun W h => by
    have := lift_any hp (.slice a1 n1 c1) (.slice a2 n2 c2) X Y (below_sl h hX) (below_sl h hY) uX uY lX lY (by rw [e1]; exact (enc_lt P).1) (by rw [e2]; exact (enc_lt P).2)
    rw [ht] at this
    exact this
  have HT1 : Hid (∀ W, Below w.heap.size w W → Calls Try.prog 40 #[fV C.p, .slice fa fn fc, .agg (tC tb.1 tb.2.1 tb.2.2).toArray] W fun e w' => ∃ v, e = .returned v ∧ ∃ s : T9, v = .agg (tC s.1 s.2.1 s.2.2).toArray ∧ ((s.1 < C.p ∧ s.2.1 < C.p ∧ s.2.2 < C.p) ∧ Rq s ((ec C).mul (val K).toNat (gen C))) ∧ Below W.heap.size W w') := fun W h =>
    (times_any g.ok g.a3 hp _ K (below_sl h hK) uK (by omega) hbr.2.1 hbr.2.2.1 hbr.2.2.2 g.onG hbr.1).mono fun e w' ⟨X, Y, Z, h1, h2, h3, h4⟩ => ⟨_, h1, (X, Y, Z), rfl, ⟨h2, h3⟩, h4⟩
  have HT2 : Hid (∀ W, Below w.heap.size w W → Calls Try.prog 40 #[fV C.p, .slice ga gn gc, .agg (tC tq.1 tq.2.1 tq.2.2).toArray] W fun e w' => ∃ v, e = .returned v ∧ ∃ s : T9, v = .agg (tC s.1 s.2.1 s.2.2).toArray ∧ ((s.1 < C.p ∧ s.2.1 < C.p ∧ s.2.2 < C.p) ∧ Rq s ((ec C).mul (val J).toNat P)) ∧ Below W.heap.size W w') := fun W h =>
    (times_any g.ok g.a3 hp _ J (below_sl h hJ) uJ (by omega) htr.2.1 htr.2.2.1 htr.2.2.2 hP htr.1).mono fun e w' ⟨X, Y, Z, h1, h2, h3, h4⟩ => ⟨_, h1, (X, Y, Z), rfl, ⟨h2, h3⟩, h4⟩
  have o1 := mul_on g.ok g.onG (val K).toNat
  have o2 := mul_on g.ok hP (val J).toNat
  obtain ⟨R1, hR1⟩ : ∃ R, (ec C).mul (val K).toNat (gen C) = R := ⟨_, rfl⟩
  obtain ⟨R2, hR2⟩ : ∃ R, (ec C).mul (val J).toNat P = R := ⟨_, rfl⟩
  rw [hR1] at HT1 o1
  rw [hR2] at HT2 o2
  rw [hR1, hR2]
  obtain ⟨R, hR⟩ : ∃ R, (ec C).add R1 R2 = R := ⟨_, rfl⟩
  rw [hR]
  have HSm : Hid (∀ (W : World) (s t : T9), ((s.1 < C.p ∧ s.2.1 < C.p ∧ s.2.2 < C.p) ∧ Rq s R1) → ((t.1 < C.p ∧ t.2.1 < C.p ∧ t.2.2 < C.p) ∧ Rq t R2) → Calls Try.prog 31 #[fV C.p, .agg (tC s.1 s.2.1 s.2.2).toArray, .agg (tC t.1 t.2.1 t.2.2).toArray] W fun e w' => ∃ v, e = .returned v ∧ ∃ r : T9, v = .agg (tC r.1 r.2.1 r.2.2).toArray ∧ ((r.1 < C.p ∧ r.2.1 < C.p ∧ r.2.2 < C.p) ∧ Rq r R) ∧ Below W.heap.size W w') := fun W s t hs ht =>
    (rsum_any hp hs.1.1 hs.1.2.1 hs.1.2.2 ht.1.1 ht.1.2.1 ht.1.2.2).mono fun e w' ⟨h1, h2⟩ => ⟨_, h1, _, rfl, ⟨rsm_lt (by have := hp.1; omega) hs.1.1 hs.1.2.1 hs.1.2.2 ht.1.1 ht.1.2.1 ht.1.2.2, by rw [← hR]; exact rsm_rq g.ok g.a3 hs.1.2.1 hs.1.2.2 ht.1.2.2 o1 o2 hs.2 ht.2⟩, h2⟩
  have HFl : Hid (∀ (W : World) (s : T9), ((s.1 < C.p ∧ s.2.1 < C.p ∧ s.2.2 < C.p) ∧ Rq s R) → Calls Try.prog 30 #[fV C.p, .agg (tC s.1 s.2.1 s.2.2).toArray, .int .i64 c] W fun e w' => ∃ v, e = .returned v ∧ ∃ b : SV × SV, v = .agg #[sv b.1, sv b.2] ∧ (Nb w' (sv b.1) (enc R).1 ∧ Nb w' (sv b.2) (enc R).2) ∧ Below W.heap.size W w') := fun W s hs =>
    (flat_any c hc rfl hp hs.1.1 hs.1.2.1 hs.1.2.2 (fun h0 => z_gcd g hs.1.2.2 h0)).mono fun e w' ⟨b, X, Y, h1, h2, h3, h4, h5⟩ => by
      have := qpt_enc hs.2 h4
      exact ⟨_, h1, b, rfl, by rw [this]; exact ⟨h2, h3⟩, h5⟩
  obtain ⟨F, hF⟩ : ∃ F, fdC (lim C.p).length (dg C.p) = F := ⟨_, rfl⟩
  unfold fV at HFo HT1 HT2 HSm HFl
  rw [hF] at HFo HT1 HT2 HSm HFl
  have HFS : Hid (F.length = 14 ∧ F.toArray.all (·.oneCell') = true) := ⟨by rw [← hF]; have := (dg_ok hp.2).1.2; simp [fdC, this], by rw [← hF]; exact fdC_one _ _⟩
  have HSZ : Hid ((Try.prog.info? 66).map (·.size) = some F.length) := by show _ = some _; rw [HFS.out.1]; exact Try.sizeFd
  obtain ⟨gx, hgx⟩ : ∃ x, C.gx = x := ⟨_, rfl⟩
  obtain ⟨gy, hgy⟩ : ∃ x, C.gy = x := ⟨_, rfl⟩
  rw [hgx, hgy] at HBs HLb
  clear hp kl jl hc g hK uK lK hJ uJ lJ hX hY uX uY lX lY hon hP e1 e2 ht htr hR hF htb hbr ge htl hR1 hR2 o1 o2 hgx hgy
  go_enter Try.func19, Try.ntmps19
  go_upto_region 1 with (refine wpList_boxR rfl 24 (.tmp 3) rfl #[.slice a1 n1 c1, .slice a2 n2 c2] rfl ?_)
  refine wp_gen (fun W => Below w.heap.size w W ∧ Blk 24 W w.heap.size [.slice a1 n1 c1, .slice a2 n2 c2] ∧ Blk 24 W (w.heap.size + 1) [.slice none 0 0, .slice none 0 0]) ?_ ?_
  · have x2 := Blk.new 24 (w.alloc (.cells #[.slice a1 n1 c1, .slice a2 n2 c2] 24)) [.slice none 0 0, .slice none 0 0]
    rw [World.size_alloc] at x2
    exact ⟨below_via (al1 _) (al1 _) (Nat.le_refl _), below_blk (al1 _) (by simp only [World.size_alloc]; omega) (Blk.new _ _ _), x2⟩
  rintro W1 hW
  have M1 : Hid (Below w.heap.size w W1 ∧ Blk 24 W1 w.heap.size [.slice a1 n1 c1, .slice a2 n2 c2] ∧ Blk 24 W1 (w.heap.size + 1) [.slice none 0 0, .slice none 0 0]) := hW
  clear hW
  go_wp2_with (refine wpList_load_mid rfl _ _ rfl w.heap.size 0 rfl [.slice a1 n1 c1, .slice a2 n2 c2] _ M1.out.2.1.whole Try.underlying24 rfl (Try.sizeP2 _ _) ?_)
  refine (HA.out _ M1.out.1).mono ?_
  rintro e w2 ⟨rfl, hb⟩
  have M2 : Hid (Below w.heap.size w w2 ∧ Blk 24 w2 w.heap.size [.slice a1 n1 c1, .slice a2 n2 c2] ∧ Blk 24 w2 (w.heap.size + 1) [.slice none 0 0, .slice none 0 0]) := ⟨below_via M1.out.1 hb (Nat.le_refl _), below_blk hb M1.out.2.1.lt M1.out.2.1, below_blk hb M1.out.2.2.lt M1.out.2.2⟩
  clear hb M1 HA
  go_wp2_with fail
  refine (HFo.out _).mono ?_
  rintro e w3 ⟨rfl, hb⟩
  have M3 : Hid (Below w.heap.size w w3 ∧ Blk 24 w3 w.heap.size [.slice a1 n1 c1, .slice a2 n2 c2] ∧ Blk 24 w3 (w.heap.size + 1) [.slice none 0 0, .slice none 0 0]) := ⟨below_via M2.out.1 hb (Nat.le_refl _), below_blk hb M2.out.2.1.lt M2.out.2.1, below_blk hb M2.out.2.2.lt M2.out.2.2⟩
  clear hb M2 HFo
  have Hth : Hid ((w3.alloc (.cells f14.toArray 66)).there w3.heap.size 0 F.toArray.size) := (newF w3).there 0 _ (by rw [List.size_toArray, HFS.out.1]; decide)
  go_upto_region 5 with (refine wpList_store_mid rfl _ _ _ rfl w3.heap.size 0 F.toArray rfl rfl Hth.out HSZ.out HFS.out.2 ?_)
  refine wp_gen (fun W => Below w.heap.size w W ∧ Blk 24 W w.heap.size [.slice a1 n1 c1, .slice a2 n2 c2] ∧ Blk 24 W (w.heap.size + 1) [.slice none 0 0, .slice none 0 0] ∧ Blk 66 W w3.heap.size F) ?_ ?_
  · have hb := (Upd.setCells (b := w3.heap.size) F 0 (w3.alloc (.cells f14.toArray 66))).below (al1 _) (al1 _).size (Nat.le_refl _)
    exact ⟨below_via M3.out.1 hb (Nat.le_refl _), below_blk hb M3.out.2.1.lt M3.out.2.1, below_blk hb M3.out.2.2.lt M3.out.2.2, (newF w3).fill F (by rw [HFS.out.1]; rfl)⟩
  rintro W4 hW
  obtain ⟨f4, hf4⟩ : ∃ f, w3.heap.size = f := ⟨_, rfl⟩
  have M4 : Hid (Below w.heap.size w W4 ∧ Blk 24 W4 w.heap.size [.slice a1 n1 c1, .slice a2 n2 c2] ∧ Blk 24 W4 (w.heap.size + 1) [.slice none 0 0, .slice none 0 0] ∧ Blk 66 W4 f4 F) := hf4 ▸ hW
  refine wp_frame (fun A0 => A0.tmps.size = 40 ∧ A0.defers = [] ∧ A0.eval (.tmp 0) = .int .i64 c ∧ A0.eval (.tmp 1) = .slice fa fn fc ∧ A0.eval (.tmp 2) = .slice ga gn gc ∧ A0.eval (.tmp 7) = .pointer (some ⟨w.heap.size, 0, none⟩) ∧ A0.eval (.tmp 8) = .pointer (some ⟨w.heap.size + 1, 0, none⟩) ∧ A0.eval (.tmp 11) = .pointer (some ⟨f4, 0, none⟩)) ⟨by kernel_rfl, rfl, rfl, rfl, rfl, rfl, rfl, by subst hf4; rfl⟩ ?_
  clear hW Hth M3 hf4
  rintro A0 hA0
  have AF0 : Hid (A0.tmps.size = 40 ∧ A0.defers = [] ∧ A0.eval (.tmp 0) = .int .i64 c ∧ A0.eval (.tmp 1) = .slice fa fn fc ∧ A0.eval (.tmp 2) = .slice ga gn gc ∧ A0.eval (.tmp 7) = .pointer (some ⟨w.heap.size, 0, none⟩) ∧ A0.eval (.tmp 8) = .pointer (some ⟨w.heap.size + 1, 0, none⟩) ∧ A0.eval (.tmp 11) = .pointer (some ⟨f4, 0, none⟩)) := hA0
  clear hA0
  refine wp_region_o (β := (SV × SV) × (T9 × T9 × T9) × (SV × SV)) (fun (b : (SV × SV) × (T9 × T9 × T9) × (SV × SV)) k => if k = 5 then .agg #[sv b.1.1, sv b.1.2] else if k = 7 then .agg (tC b.2.1.1.1 b.2.1.1.2.1 b.2.1.1.2.2).toArray else if k = 12 then .agg (tC b.2.1.2.1.1 b.2.1.2.1.2.1 b.2.1.2.1.2.2).toArray else if k = 13 then .agg (tC b.2.1.2.2.1 b.2.1.2.2.2.1 b.2.1.2.2.2.2).toArray else if k = 15 then .agg #[sv b.2.2.1, sv b.2.2.2] else ([.agg F.toArray, .agg F.toArray, .agg F.toArray, .slice fa fn fc, .int .i64 c, undef, .agg (tC tb.1 tb.2.1 tb.2.2).toArray, undef, .agg F.toArray, .slice ga gn gc, .agg #[.slice a1 n1 c1, .slice a2 n2 c2], .agg (tC tq.1 tq.2.1 tq.2.2).toArray, undef, undef, .int .i64 c, undef, undef, .int .i64 0] : List Value).getD k undef) (SM W4 (w.heap.size + 1) gx gy (fun s => (s.1 < C.p ∧ s.2.1 < C.p ∧ s.2.2 < C.p) ∧ Rq s R1) (fun s => (s.1 < C.p ∧ s.2.1 < C.p ∧ s.2.2 < C.p) ∧ Rq s R2) (fun s => (s.1 < C.p ∧ s.2.1 < C.p ∧ s.2.2 < C.p) ∧ Rq s R) (enc R).1 (enc R).2) (((none, 0, 0), (none, 0, 0)), ((0, 0, 0), (0, 0, 0), (0, 0, 0)), ((none, 0, 0), (none, 0, 0))) true (m := 40) AF0.out.1 rfl (by decide +kernel) (by decide +kernel) ⟨⟨updDrew _ _, M4.out.2.2.1.lt, fun _ => ⟨Below.drew (Below.refl _ _), below_blk (Below.drew (Below.refl _ _)) M4.out.2.2.1.lt M4.out.2.2.1⟩, fun u => absurd u not_up_new⟩, fun u => absurd u not_up_new, fun u => absurd u not_up_new, fun u => absurd u not_up_new, fun u => absurd u not_up_new, fun u => absurd u not_up_new⟩ (fun i b L W a hi hno hlt hdep hv h0 hS => ?_) (fun b L W a hup hS hsz hdf hv h0 => ?_)
  · replace hi : i < 18 := hi
    have hB2 : i < 16 → Below w.heap.size w W ∧ Blk 24 W w.heap.size [.slice a1 n1 c1, .slice a2 n2 c2] ∧ Blk 66 W f4 F := fun hne => by
      have := (hS.1.not (i := i) (by omega) hno).1
      exact ⟨below_via M4.out.1 this (Nat.le_refl _), below_blk this M4.out.2.1.lt M4.out.2.1, below_blk this M4.out.2.2.2.lt M4.out.2.2.2⟩
    have rf := Below.refl W.heap.size W
    obtain rfl | rfl | rfl | rfl | rfl | rfl | rfl | rfl | rfl | rfl | rfl | rfl | rfl | rfl | rfl | rfl | rfl | rfl : i = 0 ∨ i = 1 ∨ i = 2 ∨ i = 3 ∨ i = 4 ∨ i = 5 ∨ i = 6 ∨ i = 7 ∨ i = 8 ∨ i = 9 ∨ i = 10 ∨ i = 11 ∨ i = 12 ∨ i = 13 ∨ i = 14 ∨ i = 15 ∨ i = 16 ∨ i = 17 := by omega
    · exact det_load rfl rfl rfl ((h0 11 (by decide +kernel)).trans AF0.out.2.2.2.2.2.2.2) (hB2 (by decide)).2.2.whole Try.underlying66 rfl HSZ.out rfl (hS.keep (by decide) hno (by decide) (by decide) (by decide) (by decide) (by decide) rf)
    · exact det_load rfl rfl rfl ((h0 11 (by decide +kernel)).trans AF0.out.2.2.2.2.2.2.2) (hB2 (by decide)).2.2.whole Try.underlying66 rfl HSZ.out rfl (hS.keep (by decide) hno (by decide) (by decide) (by decide) (by decide) (by decide) rf)
    · exact det_load rfl rfl rfl ((h0 11 (by decide +kernel)).trans AF0.out.2.2.2.2.2.2.2) (hB2 (by decide)).2.2.whole Try.underlying66 rfl HSZ.out rfl (hS.keep (by decide) hno (by decide) (by decide) (by decide) (by decide) (by decide) rf)
    · exact det_val rfl rfl (run_move rfl ((h0 1 (by decide +kernel)).trans AF0.out.2.2.2.1)) (hS.keep (by decide) hno (by decide) (by decide) (by decide) (by decide) (by decide) rf)
    · exact det_val rfl rfl (run_move rfl ((h0 0 (by decide +kernel)).trans AF0.out.2.2.1)) (hS.keep (by decide) hno (by decide) (by decide) (by decide) (by decide) (by decide) rf)
    · refine det_callx rfl rfl (run_call1 rfl (hv 4 28 (by decide) (hdep 4 (by decide +kernel)) rfl) eg_base) (HBs.out W) ?_
      rintro _ w' ⟨s, rfl, h2, h3⟩
      exact ⟨(s, b.2), fun k hk => by simp only [if_neg hk], rfl, hS.put5 hno h3 h2.1 h2.2⟩
    · exact det_call rfl rfl (run_call1 rfl (hv 5 29 (by decide) (hdep 5 (by decide +kernel)) rfl) eg_lift) (HLb.out W b.1 (hS.2.1 (hdep 5 (by decide +kernel))).1 (hS.2.1 (hdep 5 (by decide +kernel))).2) (fun w1 hb => (hS.keep (by decide) hno (by decide) (by decide) (by decide) (by decide) (by decide) hb))
    · refine det_callx rfl rfl (run_call3 rfl (hv 2 26 (by decide) (hdep 2 (by decide +kernel)) rfl) (hv 3 27 (by decide) (hdep 3 (by decide +kernel)) rfl) (hv 6 30 (by decide) (hdep 6 (by decide +kernel)) rfl) eg_times) (HT1.out W (hB2 (by decide)).1) ?_
      rintro _ w' ⟨s, rfl, h2, h3⟩
      exact ⟨(b.1, (s, b.2.1.2), b.2.2), fun k hk => by simp only [if_neg hk], rfl, hS.put7 hno h3 h2⟩
    · exact det_load rfl rfl rfl ((h0 11 (by decide +kernel)).trans AF0.out.2.2.2.2.2.2.2) (hB2 (by decide)).2.2.whole Try.underlying66 rfl HSZ.out rfl (hS.keep (by decide) hno (by decide) (by decide) (by decide) (by decide) (by decide) rf)
    · exact det_val rfl rfl (run_move rfl ((h0 2 (by decide +kernel)).trans AF0.out.2.2.2.2.1)) (hS.keep (by decide) hno (by decide) (by decide) (by decide) (by decide) (by decide) rf)
    · exact det_load rfl rfl rfl ((h0 7 (by decide +kernel)).trans AF0.out.2.2.2.2.2.1) (hB2 (by decide)).2.1.whole Try.underlying24 rfl (Try.sizeP2 _ _) rfl (hS.keep (by decide) hno (by decide) (by decide) (by decide) (by decide) (by decide) rf)
    · exact det_call rfl rfl (run_call1 rfl (hv 10 34 (by decide) (hdep 10 (by decide +kernel)) rfl) eg_lift) (HLf.out W (hB2 (by decide)).1) (fun w1 hb => (hS.keep (by decide) hno (by decide) (by decide) (by decide) (by decide) (by decide) hb))
    · refine det_callx rfl rfl (run_call3 rfl (hv 8 32 (by decide) (hdep 8 (by decide +kernel)) rfl) (hv 9 33 (by decide) (hdep 9 (by decide +kernel)) rfl) (hv 11 35 (by decide) (hdep 11 (by decide +kernel)) rfl) eg_times) (HT2.out W (hB2 (by decide)).1) ?_
      rintro _ w' ⟨s, rfl, h2, h3⟩
      exact ⟨(b.1, (b.2.1.1, s, b.2.1.2.2), b.2.2), fun k hk => by simp only [if_neg hk], rfl, hS.put12 hno h3 h2⟩
    · refine det_callx rfl rfl (run_call3 rfl (hv 1 25 (by decide) (hdep 1 (by decide +kernel)) rfl) (hv 7 31 (by decide) (hdep 7 (by decide +kernel)) rfl) (hv 12 36 (by decide) (hdep 12 (by decide +kernel)) rfl) eg_sum) (HSm.out W b.2.1.1 b.2.1.2.1 (hS.2.2.1 (hdep 7 (by decide +kernel))) (hS.2.2.2.1 (hdep 12 (by decide +kernel)))) ?_
      rintro _ w' ⟨s, rfl, h2, h3⟩
      exact ⟨(b.1, (b.2.1.1, b.2.1.2.1, s), b.2.2), fun k hk => by simp only [if_neg hk], rfl, hS.put13 hno h3 h2⟩
    · exact det_val rfl rfl (run_move rfl ((h0 0 (by decide +kernel)).trans AF0.out.2.2.1)) (hS.keep (by decide) hno (by decide) (by decide) (by decide) (by decide) (by decide) rf)
    · refine det_callx rfl rfl (run_call3 rfl (hv 0 24 (by decide) (hdep 0 (by decide +kernel)) rfl) (hv 13 37 (by decide) (hdep 13 (by decide +kernel)) rfl) (hv 14 38 (by decide) (hdep 14 (by decide +kernel)) rfl) eg_flat) (HFl.out W b.2.1.2.2 (hS.2.2.2.2.1 (hdep 13 (by decide +kernel)))) ?_
      rintro _ w' ⟨s, rfl, h2, h3⟩
      exact ⟨(b.1, b.2.1, s), fun k hk => by simp only [if_neg hk], rfl, hS.put15 hno h3 h2.1 h2.2⟩
    · exact det_store (cells := #[sv b.2.2.1, sv b.2.2.2]) rfl rfl rfl rfl ((h0 8 (by decide +kernel)).trans AF0.out.2.2.2.2.2.2.1) (hv 15 39 (by decide) (hdep 15 (by decide +kernel)) rfl) ((hS.1.2.2.1 hno).2.there 0 2 (by decide)) Try.sizePt (sv_one b.2.2) (hS.store hno (hlt 16 (by decide)) (fun k hk hne => hdep k (allDep (n := 17) hk hne (by decide +kernel))))
    · exact det_val rfl rfl (run_assign0 rfl) hS.setL
  have hB := (hS.1.2.2.2 (hup 16 (by decide))).1
  have hU := hS.1.1
  have n1 := hS.2.2.2.2.2 (hup 15 (by decide))
  have hE := (h0 8 (by decide +kernel)).trans AF0.out.2.2.2.2.2.2.1
  have hE7 := hv 17 9 (by decide) rfl
  have hD := hdf.trans AF0.out.2.1
  clear hup hS hsz hdf hv h0
  go_wp2
  exact bodyPost_ret (results_blk2 rfl hE hB Try.underlying24 rfl Try.sizePt hE7) hD ⟨b.2.2, rfl, n1, hU.below M4.out.1 M4.out.1.size (by omega)⟩
end Go.Proofs.Ytkdclocjijmgpaa
/-
  Curves: the reference's Mul, Mix, Add where something is at fault. (wip/mkh33.py)
-/
namespace Go.Proofs.Ytkdclocjijmgpaa
open Go.RowKit
set_option maxRecDepth 20000
set_option maxHeartbeats 1000000 in
theorem RMul_bad {w : World} (c : Int) (fa : Option Addr) (fn fc : Nat) (a1 : Option Addr) (n1 c1 : Nat) (a2 : Option Addr) (n2 c2 : Nat) (X Y : List Int) (hX : Sl .u32 w (.slice a1 n1 c1) X) (hY : Sl .u32 w (.slice a2 n2 c2) Y) (uX : U32s X) (uY : U32s Y) (lX : X.length ≤ 1000000) (lY : Y.length ≤ 1000000) (er : Int) (her : askR c fn 0 (onC c X Y) (onC c X Y) = er) (h0 : er ≠ 0) :
    Calls Try.prog 16 #[.int .i64 c, .slice fa fn fc, .agg #[.slice a1 n1 c1, .slice a2 n2 c2]] w fun e w' => e = .returned (.tuple #[.agg #[.slice none 0 0, .slice none 0 0], .int .i64 er]) ∧ Below w.heap.size w w' := by
  have HA : Hid (∀ W, Below w.heap.size w W → Calls Try.prog 28 #[.int .i64 c, .slice fa fn fc, .slice none 0 0, .agg #[.slice a1 n1 c1, .slice a2 n2 c2], .agg #[.slice a1 n1 c1, .slice a2 n2 c2]] W fun e w' => e = .returned (.int .i64 er) ∧ Below W.heap.size W w') := fun W h => by
    have := RAsked_any c fa fn fc none 0 0 a1 n1 c1 a2 n2 c2 X Y a1 n1 c1 a2 n2 c2 X Y (below_sl h hX) (below_sl h hY) uX uY lX lY (below_sl h hX) (below_sl h hY) uX uY lX lY
    rw [her] at this
    exact this
  clear hX hY uX uY lX lY her
  go_enter Try.func16, Try.ntmps16
  go_upto_region 1 with (first | (refine wpList_boxR rfl 24 (.tmp 2) rfl #[.slice a1 n1 c1, .slice a2 n2 c2] rfl ?_))
  refine wp_gen (fun W => Below w.heap.size w W ∧ Blk 24 W w.heap.size [.slice a1 n1 c1, .slice a2 n2 c2] ∧ Blk 24 W (w.heap.size + 1) [.slice none 0 0, .slice none 0 0]) ?_ ?_
  · have x2 := Blk.new 24 (w.alloc (.cells #[.slice a1 n1 c1, .slice a2 n2 c2] 24)) [.slice none 0 0, .slice none 0 0]
    rw [World.size_alloc] at x2
    exact ⟨below_via (al1 _) (al1 _) (Nat.le_refl _), below_blk (al1 _) (by simp only [World.size_alloc]; omega) (Blk.new _ _ _), x2⟩
  rintro W1 hW
  have M1 : Hid (Below w.heap.size w W1 ∧ Blk 24 W1 w.heap.size [.slice a1 n1 c1, .slice a2 n2 c2] ∧ Blk 24 W1 (w.heap.size + 1) [.slice none 0 0, .slice none 0 0]) := hW
  clear hW
  go_wp2_with (first | (refine wpList_load_mid rfl _ _ rfl w.heap.size 0 rfl [.slice a1 n1 c1, .slice a2 n2 c2] _ M1.out.2.1.whole Try.underlying24 rfl (Try.sizeP2 _ _) ?_))
  refine (HA.out _ M1.out.1).mono ?_
  rintro e w2 ⟨rfl, hb⟩
  have M2 : Hid (Below w.heap.size w w2 ∧ Blk 24 w2 (w.heap.size + 1) [.slice none 0 0, .slice none 0 0]) := ⟨below_via M1.out.1 hb (Nat.le_refl _), below_blk hb M1.out.2.2.lt M1.out.2.2⟩
  clear hb M1 HA
  have Hth : Hid (w2.there (w.heap.size + 1) 0 2) := M2.out.2.there 0 _ (by decide)
  go_wp2_with (refine wpList_store_mid rfl _ _ _ rfl (w.heap.size + 1) 0 #[.slice none 0 0, .slice none 0 0] rfl rfl Hth.out Try.sizePt (sv_one ((none, 0, 0), (none, 0, 0))) ?_)
  have hU : Upd w2 (w2.setCells (w.heap.size + 1) 0 [.slice none 0 0, .slice none 0 0]) (w.heap.size + 1) := Upd.setCells _ 0 w2
  have hF := M2.out.2.fill [.slice none 0 0, .slice none 0 0] rfl
  exact bodyPost_ret (results_blk2 rfl rfl hF Try.underlying24 rfl Try.sizePt rfl) rfl ⟨rfl, hU.below M2.out.1 M2.out.1.size (by omega)⟩
set_option maxHeartbeats 1000000 in
theorem RMix_bad {w : World} (c : Int) (fa : Option Addr) (fn fc : Nat) (ga : Option Addr) (gn gc : Nat) (a1 : Option Addr) (n1 c1 : Nat) (a2 : Option Addr) (n2 c2 : Nat) (X Y : List Int) (hX : Sl .u32 w (.slice a1 n1 c1) X) (hY : Sl .u32 w (.slice a2 n2 c2) Y) (uX : U32s X) (uY : U32s Y) (lX : X.length ≤ 1000000) (lY : Y.length ≤ 1000000) (er : Int) (her : askR c fn gn (onC c X Y) (onC c X Y) = er) (h0 : er ≠ 0) :
    Calls Try.prog 19 #[.int .i64 c, .slice fa fn fc, .slice ga gn gc, .agg #[.slice a1 n1 c1, .slice a2 n2 c2]] w fun e w' => e = .returned (.tuple #[.agg #[.slice none 0 0, .slice none 0 0], .int .i64 er]) ∧ Below w.heap.size w w' := by
  have HA : Hid (∀ W, Below w.heap.size w W → Calls Try.prog 28 #[.int .i64 c, .slice fa fn fc, .slice ga gn gc, .agg #[.slice a1 n1 c1, .slice a2 n2 c2], .agg #[.slice a1 n1 c1, .slice a2 n2 c2]] W fun e w' => e = .returned (.int .i64 er) ∧ Below W.heap.size W w') := fun W h => by
    have := RAsked_any c fa fn fc ga gn gc a1 n1 c1 a2 n2 c2 X Y a1 n1 c1 a2 n2 c2 X Y (below_sl h hX) (below_sl h hY) uX uY lX lY (below_sl h hX) (below_sl h hY) uX uY lX lY
    rw [her] at this
    exact this
  clear hX hY uX uY lX lY her
  go_enter Try.func19, Try.ntmps19
  go_upto_region 1 with (first | (refine wpList_boxR rfl 24 (.tmp 3) rfl #[.slice a1 n1 c1, .slice a2 n2 c2] rfl ?_))
  refine wp_gen (fun W => Below w.heap.size w W ∧ Blk 24 W w.heap.size [.slice a1 n1 c1, .slice a2 n2 c2] ∧ Blk 24 W (w.heap.size + 1) [.slice none 0 0, .slice none 0 0]) ?_ ?_
  · have x2 := Blk.new 24 (w.alloc (.cells #[.slice a1 n1 c1, .slice a2 n2 c2] 24)) [.slice none 0 0, .slice none 0 0]
    rw [World.size_alloc] at x2
    exact ⟨below_via (al1 _) (al1 _) (Nat.le_refl _), below_blk (al1 _) (by simp only [World.size_alloc]; omega) (Blk.new _ _ _), x2⟩
  rintro W1 hW
  have M1 : Hid (Below w.heap.size w W1 ∧ Blk 24 W1 w.heap.size [.slice a1 n1 c1, .slice a2 n2 c2] ∧ Blk 24 W1 (w.heap.size + 1) [.slice none 0 0, .slice none 0 0]) := hW
  clear hW
  go_wp2_with (first | (refine wpList_load_mid rfl _ _ rfl w.heap.size 0 rfl [.slice a1 n1 c1, .slice a2 n2 c2] _ M1.out.2.1.whole Try.underlying24 rfl (Try.sizeP2 _ _) ?_))
  refine (HA.out _ M1.out.1).mono ?_
  rintro e w2 ⟨rfl, hb⟩
  have M2 : Hid (Below w.heap.size w w2 ∧ Blk 24 w2 (w.heap.size + 1) [.slice none 0 0, .slice none 0 0]) := ⟨below_via M1.out.1 hb (Nat.le_refl _), below_blk hb M1.out.2.2.lt M1.out.2.2⟩
  clear hb M1 HA
  have Hth : Hid (w2.there (w.heap.size + 1) 0 2) := M2.out.2.there 0 _ (by decide)
  go_wp2_with (refine wpList_store_mid rfl _ _ _ rfl (w.heap.size + 1) 0 #[.slice none 0 0, .slice none 0 0] rfl rfl Hth.out Try.sizePt (sv_one ((none, 0, 0), (none, 0, 0))) ?_)
  have hU : Upd w2 (w2.setCells (w.heap.size + 1) 0 [.slice none 0 0, .slice none 0 0]) (w.heap.size + 1) := Upd.setCells _ 0 w2
  have hF := M2.out.2.fill [.slice none 0 0, .slice none 0 0] rfl
  exact bodyPost_ret (results_blk2 rfl rfl hF Try.underlying24 rfl Try.sizePt rfl) rfl ⟨rfl, hU.below M2.out.1 M2.out.1.size (by omega)⟩
end Go.Proofs.Ytkdclocjijmgpaa
/-
  Curves: points of any lists; the program's Add, Neg, Mul, Mix of them.
-/
namespace Go.Proofs.Ytkdclocjijmgpaa
open Go.RowKit Gl
set_option maxRecDepth 20000
theorem on_pt {c : Int} {C : Cv} [NeZero C.p] (hc : crv c = some C) (g : Cok C) {X Y : List Int} (uX : U32s X) (uY : U32s Y) (h : onC c X Y = true) : ∃ P : Pt C.p, (ec C).On P ∧ enc P = ((val X).toNat, (val Y).toNat) := by
  have n1 := val_nonneg uX
  have n2 := val_nonneg uY
  unfold onC at h
  rw [hc] at h
  have h : onB C.p C.b X Y = true := h
  unfold onB at h
  by_cases hf : farB X Y = true
  · unfold farB at hf
    have hf := of_decide_eq_true hf
    exact ⟨none, trivial, by rw [hf.1, hf.2]; rfl⟩
  · rw [if_neg hf] at h
    by_cases hl : val X < C.p ∧ val Y < C.p
    · rw [if_pos hl] at h
      have lx : (val X).toNat < C.p := by omega
      have ly : (val Y).toNat < C.p := by omega
      generalize (val X).toNat = x at *
      generalize (val Y).toNat = y at *
      refine ⟨some (F C.p x, F C.p y), ?_, Prod.ext (F_lt lx) (F_lt ly)⟩
      unfold onE at h
      have h := of_decide_eq_true h
      have h0 := Gl.p_pos (p := C.p)
      have e : F C.p (fml C.p y y) = F C.p (fad C.p (fsb C.p (fml C.p (fml C.p x x) x) (fad C.p (fad C.p x x) x)) C.b) := by rw [h]
      rw [F_fml, F_fad, F_fsb _ (fad_lt h0), F_fml, F_fml, F_fad, F_fad] at e
      show F C.p y * F C.p y = F C.p x * F C.p x * F C.p x + (ec C).a * F C.p x + (ec C).b
      have h2 := g.a3
      have h3 : (ec C).b = F C.p C.b := rfl
      rw [h3]
      clear h h3
      generalize (ec C).a = a at *
      generalize F C.p C.b = b at *
      generalize F C.p x = u at *
      generalize F C.p y = v at *
      grobner
    · rw [if_neg hl] at h
      exact Bool.noConfusion h
theorem triB_val {X Y : List Int} (uX : U32s X) (uY : U32s Y) : triB X Y = triN (val X).toNat (val Y).toNat := by
  have h1 := val_nonneg uX
  have h2 := val_nonneg uY
  unfold triB triN farB
  by_cases h : val X = 0 ∧ val Y = 0
  · rw [if_pos (by simp [h.1, h.2]), if_pos ⟨by rw [h.1]; rfl, by rw [h.2]; rfl⟩]
  · rw [if_neg (by simpa using h), if_neg (fun g => h ⟨by omega, by omega⟩)]
theorem onC_onB {c : Int} {C : Cv} (hc : crv c = some C) {X Y : List Int} (h : onC c X Y = true) : onB C.p C.b X Y = true := by
  unfold onC at h
  rw [hc] at h
  exact h
end Go.Proofs.Ytkdclocjijmgpaa
/-
  Curve: asked, where there is no such curve, or its point is not on it. (wip/mku37.py)
-/
namespace Go.Proofs.Ytkdclocjijmgpaa
open Go.RowKit
set_option maxRecDepth 20000
set_option maxHeartbeats 4000000 in
theorem asked_no {w : World} (c : Int) (hc : crv c = none) (v u : Value) :
    Calls Try.prog 24 #[.int .i64 c, v, u] w fun e w' => e = .returned (.tuple #[.agg kz.toArray, .int .i64 1]) ∧ Below w.heap.size w w' := by
  go_enter Try.func24, Try.ntmps24
  go_wp2_with fail
  refine (pick_no c hc).mono ?_
  rintro e w3 ⟨rfl, hb3⟩
  have H3 : Hid (Below w.heap.size w w3 ∧ Blk 53 w3 w.heap.size kz) := ⟨below_via (al1 _) hb3 (Nat.le_refl _), below_blk hb3 (newKd w).lt (newKd w)⟩
  clear hb3 hc
  unfold kz
  go_upto_region 2 with (fail)
  refine wp_gen (fun W => Below w3.heap.size w3 W) (al1 _) ?_
  rintro y0 hb4
  have L0 : Hid (Below w.heap.size w y0 ∧ Blk 53 y0 w.heap.size kz) := ⟨below_via H3.out.1 hb4 (Nat.le_refl _), below_blk hb4 H3.out.2.lt H3.out.2⟩
  clear hb4
  have d0 : y0.cell? ⟨w.heap.size, 0, none⟩ = some (.int .i64 0) := L0.out.2.cell 0
  have g0 : y0.frozen? ⟨w.heap.size, 0, none⟩ = false := L0.out.2.frozen 0
  have d1 : y0.cell? ⟨w.heap.size, 1, none⟩ = some (.slice none 0 0) := L0.out.2.cell 1
  have g1 : y0.frozen? ⟨w.heap.size, 1, none⟩ = false := L0.out.2.frozen 1
  have d2 : y0.cell? ⟨w.heap.size, 2, none⟩ = some (.slice none 0 0) := L0.out.2.cell 2
  have g2 : y0.frozen? ⟨w.heap.size, 2, none⟩ = false := L0.out.2.frozen 2
  have d3 : y0.cell? ⟨w.heap.size, 3, none⟩ = some (.slice none 0 0) := L0.out.2.cell 3
  have g3 : y0.frozen? ⟨w.heap.size, 3, none⟩ = false := L0.out.2.frozen 3
  have d4 : y0.cell? ⟨w.heap.size, 4, none⟩ = some (.slice none 0 0) := L0.out.2.cell 4
  have g4 : y0.frozen? ⟨w.heap.size, 4, none⟩ = false := L0.out.2.frozen 4
  have d5 : y0.cell? ⟨w.heap.size, 5, none⟩ = some (.slice none 0 0) := L0.out.2.cell 5
  have g5 : y0.frozen? ⟨w.heap.size, 5, none⟩ = false := L0.out.2.frozen 5
  go_wp2
  obtain ⟨hF, hU⟩ := Blk.put6 L0.out.2 (.int .i64 0) (.slice none 0 0) (.slice none 0 0) (.slice none 0 0) (.slice none 0 0) (.slice none 0 0)
  exact bodyPost_ret (results_blk2 rfl rfl hF Try.underlying53 rfl Try.sizeKd rfl) rfl ⟨rfl, hU.below L0.out.1 L0.out.1.size (Nat.le_refl _)⟩
end Go.Proofs.Ytkdclocjijmgpaa
