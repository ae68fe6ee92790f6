/-
  Curve: so many times the base and so many times a point (mix).
-/
import Derived.Deep.Cut
import Derived.Deep.CutRange
import Derived.Test.YtkdclocjijmgpaaK13
namespace Go.Proofs.Ytkdclocjijmgpaa
open Go.RowKit
theorem up_mono2 {L : Array Bool} {i k : Nat} (h : Up L k) (hne : k ≠ i) : Up (L.setIfInBounds i true) k := by
  unfold Up at *; rwa [getD_set_ne false (Ne.symm hne)]
/-- A triple as a value, its numbers in memory. -/
def TriM (W : World) (v : Value) (t : Nat × Nat × Nat) : Prop := ∃ a0 n0 c0 a1 n1 c1 a2 n2 c2, v = .agg #[.slice a0 n0 c0, .slice a1 n1 c1, .slice a2 n2 c2] ∧ Nb W (.slice a0 n0 c0) t.1 ∧ Nb W (.slice a1 n1 c1) t.2.1 ∧ Nb W (.slice a2 n2 c2) t.2.2
theorem TriM.below {W W' : World} {v : Value} {t : Nat × Nat × Nat} (h : TriM W v t) (hb : Below W.heap.size W W') : TriM W' v t := by
  obtain ⟨a0, n0, c0, a1, n1, c1, a2, n2, c2, e, h0, h1, h2⟩ := h
  exact ⟨a0, n0, c0, a1, n1, c1, a2, n2, c2, e, h0.below hb, h1.below hb, h2.below hb⟩
/-- A triple in a block. -/
def TriB (W : World) (b : Nat) (t : Nat × Nat × Nat) : Prop := ∃ a0 n0 c0 a1 n1 c1 a2 n2 c2, Blk 58 W b [.slice a0 n0 c0, .slice a1 n1 c1, .slice a2 n2 c2] ∧ Nb W (.slice a0 n0 c0) t.1 ∧ Nb W (.slice a1 n1 c1) t.2.1 ∧ Nb W (.slice a2 n2 c2) t.2.2
theorem TriB.below {W W' : World} {b : Nat} {t : Nat × Nat × Nat} (h : TriB W b t) (hb : Below W.heap.size W W') : TriB W' b t := by
  obtain ⟨a0, n0, c0, a1, n1, c1, a2, n2, c2, e, h0, h1, h2⟩ := h
  exact ⟨a0, n0, c0, a1, n1, c1, a2, n2, c2, below_blk hb e.lt e, h0.below hb, h1.below hb, h2.below hb⟩
theorem sl3_nn {k : IntKind} {a0 a1 a2 : Option Addr} {n0 c0 n1 c1 n2 c2 : Nat} : ∀ x ∈ [Value.slice a0 n0 c0, .slice a1 n1 c1, .slice a2 n2 c2], ∀ m, x ≠ .int k m := by
  intro x hx m; simp only [List.mem_cons, List.not_mem_nil, or_false] at hx; rcases hx with rfl | rfl | rfl <;> (intro h; cases h)
theorem TriM.upd {W W' : World} {v : Value} {t : Nat × Nat × Nat} {b : Nat} {a0 a1 a2 : Option Addr} {n0 c0 n1 c1 n2 c2 : Nat} (h : TriM W v t) (hB : Blk 58 W b [.slice a0 n0 c0, .slice a1 n1 c1, .slice a2 n2 c2]) (hU : Upd W W' b) : TriM W' v t := by
  obtain ⟨x0, y0, z0, x1, y1, z1, x2, y2, z2, e, h0, h1, h2⟩ := h
  exact ⟨x0, y0, z0, x1, y1, z1, x2, y2, z2, e, h0.upd hB sl3_nn hU, h1.upd hB sl3_nn hU, h2.upd hB sl3_nn hU⟩
theorem TriB.upd {W W' : World} {b' : Nat} {t : Nat × Nat × Nat} {b : Nat} {a0 a1 a2 : Option Addr} {n0 c0 n1 c1 n2 c2 : Nat} (h : TriB W b' t) (hne : b' ≠ b) (hB : Blk 58 W b [.slice a0 n0 c0, .slice a1 n1 c1, .slice a2 n2 c2]) (hU : Upd W W' b) : TriB W' b' t := by
  obtain ⟨x0, y0, z0, x1, y1, z1, x2, y2, z2, e, h0, h1, h2⟩ := h
  exact ⟨x0, y0, z0, x1, y1, z1, x2, y2, z2, hU.blk e hne, h0.upd hB sl3_nn hU, h1.upd hB sl3_nn hU, h2.upd hB sl3_nn hU⟩
/-- A triple, stored. -/
theorem TriM.put {W : World} {t : Nat × Nat × Nat} {b : Nat} {a0 a1 a2 : Option Addr} {n0 c0 n1 c1 n2 c2 : Nat} {x0 x1 x2 : Option Addr} {y0 z0 y1 z1 y2 z2 : Nat} (h0 : Nb W (.slice x0 y0 z0) t.1) (h1 : Nb W (.slice x1 y1 z1) t.2.1) (h2 : Nb W (.slice x2 y2 z2) t.2.2) (hB : Blk 58 W b [.slice a0 n0 c0, .slice a1 n1 c1, .slice a2 n2 c2]) :
    TriB (W.setCells b 0 [.slice x0 y0 z0, .slice x1 y1 z1, .slice x2 y2 z2]) b t := by
  have hU : Upd W (W.setCells b 0 [.slice x0 y0 z0, .slice x1 y1 z1, .slice x2 y2 z2]) b := Upd.setCells _ 0 W
  exact ⟨x0, y0, z0, x1, y1, z1, x2, y2, z2, hB.fill _ rfl, h0.upd hB sl3_nn hU, h1.upd hB sl3_nn hU, h2.upd hB sl3_nn hU⟩
def z3 : List Value := [.slice none 0 0, .slice none 0 0, .slice none 0 0]
theorem sl3_one (a0 a1 a2 : Option Addr) (n0 c0 n1 c1 n2 c2 : Nat) : (#[Value.slice a0 n0 c0, .slice a1 n1 c1, .slice a2 n2 c2]).all (·.oneCell') = true :=
  all_oneCell_toArray (cs := [Value.slice a0 n0 c0, .slice a1 n1 c1, .slice a2 n2 c2]) (fun v hv => by simp only [List.mem_cons, List.not_mem_nil, or_false] at hv; rcases hv with rfl | rfl | rfl <;> rfl)
theorem old_blk {W : World} {b : Nat} {t : Nat × Nat × Nat} {u : Prop} (h1 : ¬ u → Blk 58 W b z3) (h2 : u → TriB W b t) : b < W.heap.size := by
  by_cases hz : u
  · obtain ⟨_, _, _, _, _, _, _, _, _, hh, _⟩ := h2 hz; exact hh.lt
  · exact (h1 hz).lt
theorem lim12 {x : Nat} (h : x < 4294967296 ^ 12) : (lim x).length ≤ 12 := lim_len_le (by have h1 := Int.ofNat_lt.2 h; rw [Int.natCast_pow] at h1; exact h1)
structure InvM4 (wc : World) (bk : Nat) (PB PQ : Value) (g q : Nat × Nat × Nat) (L : Array Bool) (s10 s11 s35 s36 s37 s38 s39 : Value) (W : World) : Prop where
  bel : Below wc.heap.size wc W
  k0 : Up L 0 → s35 = .pointer (some ⟨bk, 4, none⟩)
  k1 : Up L 1 → s36 = PB
  k2 : Up L 2 → TriM W s37 g
  k3 : Up L 3 → s38 = PQ
  k4 : Up L 4 → TriM W s39 q
  k5 : Up L 5 → ∃ b, s10 = .pointer (some ⟨b, 0, none⟩) ∧ wc.heap.size ≤ b ∧ (¬ Up L 7 → Blk 58 W b z3) ∧ (Up L 7 → TriB W b g)
  k6 : Up L 6 → ∃ b, s11 = .pointer (some ⟨b, 0, none⟩) ∧ wc.heap.size ≤ b ∧ (¬ Up L 8 → Blk 58 W b z3) ∧ (Up L 8 → TriB W b q)
  k56 : Up L 5 → Up L 6 → s10 ≠ s11
  k7 : Up L 7 → Up L 5
  k8 : Up L 8 → Up L 6
theorem InvM4.to {wc : World} {bk : Nat} {PB PQ : Value} {g q : Nat × Nat × Nat} {L : Array Bool} {s10 s11 s35 s36 s37 s38 s39 : Value} {W W' : World} (h : InvM4 wc bk PB PQ g q L s10 s11 s35 s36 s37 s38 s39 W) (hb : Below W.heap.size W W') : InvM4 wc bk PB PQ g q L s10 s11 s35 s36 s37 s38 s39 W' where
  bel := below_via h.bel hb (Nat.le_refl _)
  k0 := h.k0
  k1 := h.k1
  k2 := fun u => (h.k2 u).below hb
  k3 := h.k3
  k4 := fun u => (h.k4 u).below hb
  k5 := fun u => by obtain ⟨b, e, hl, h1, h2⟩ := h.k5 u; exact ⟨b, e, hl, fun z => below_blk hb (h1 z).lt (h1 z), fun z => (h2 z).below hb⟩
  k6 := fun u => by obtain ⟨b, e, hl, h1, h2⟩ := h.k6 u; exact ⟨b, e, hl, fun z => below_blk hb (h1 z).lt (h1 z), fun z => (h2 z).below hb⟩
  k56 := h.k56
  k7 := h.k7
  k8 := h.k8
def stepT (p : Nat) (g q : Nat × Nat × Nat) (d : Nat) : Nat × Nat × Nat := if d = 0 then (0, 0, 0) else if d = 1 then g else if d = 2 then q else jsm p g q
def mixL (p : Nat) (g q : Nat × Nat × Nat) (a b n : Nat) : Nat → Nat × Nat × Nat
  | 0 => (0, 0, 0)
  | k + 1 => jsm p (jdb p (mixL p g q a b n k).1 (mixL p g q a b n k).2.1 (mixL p g q a b n k).2.2) (stepT p g q (a / 2 ^ (n - 1 - k) % 2 + 2 * (b / 2 ^ (n - 1 - k) % 2)))
def mixN (a b : Nat) : Nat := if bitLen a < bitLen b then bitLen b else bitLen a
def mixT (p : Nat) (g q : Nat × Nat × Nat) (a b : Nat) : Nat × Nat × Nat := mixL p g q a b (mixN a b) (mixN a b)
def Lt3 (p : Nat) (t : Nat × Nat × Nat) : Prop := t.1 < p ∧ t.2.1 < p ∧ t.2.2 < p
def AllSl (cs : List Value) : Prop := ∀ c ∈ cs, ∃ a n k, c = Value.slice a n k
theorem AllSl.nn {cs : List Value} (h : AllSl cs) (k : IntKind) : ∀ c ∈ cs, ∀ m, c ≠ .int k m := fun c hc m he => by obtain ⟨a, n, q, e⟩ := h c hc; rw [e] at he; cases he
theorem AllSl.one {cs : List Value} (h : AllSl cs) : cs.toArray.all (·.oneCell') = true := all_oneCell_toArray (fun c hc => by obtain ⟨a, n, q, e⟩ := h c hc; rw [e]; rfl)
theorem AllSl.nil : AllSl [] := fun c hc => by cases hc
theorem AllSl.cons {cs : List Value} {a : Option Addr} {n k : Nat} (h : AllSl cs) : AllSl (.slice a n k :: cs) := fun c hc => by
  rcases List.mem_cons.1 hc with rfl | hc
  · exact ⟨_, _, _, rfl⟩
  · exact h c hc
def z12 : List Value := [.slice none 0 0, .slice none 0 0, .slice none 0 0, .slice none 0 0, .slice none 0 0, .slice none 0 0, .slice none 0 0, .slice none 0 0, .slice none 0 0, .slice none 0 0, .slice none 0 0, .slice none 0 0]
theorem z12_sl : AllSl z12 := AllSl.cons (AllSl.cons (AllSl.cons (AllSl.cons (AllSl.cons (AllSl.cons (AllSl.cons (AllSl.cons (AllSl.cons (AllSl.cons (AllSl.cons (AllSl.cons (AllSl.nil))))))))))))
/-- The four steps' block: none, g, q, both. -/
def TabC (g0 g1 g2 q0 q1 q2 h0 h1 h2 : Value) : List Value := [.slice none 0 0, .slice none 0 0, .slice none 0 0, g0, g1, g2, q0, q1, q2, h0, h1, h2]
def TabB (W : World) (b : Nat) (g0 g1 g2 q0 q1 q2 : Value) (h : Nat × Nat × Nat) : Prop := ∃ x0 y0 z0 x1 y1 z1 x2 y2 z2, Blk 102 W b (TabC g0 g1 g2 q0 q1 q2 (.slice x0 y0 z0) (.slice x1 y1 z1) (.slice x2 y2 z2)) ∧ Nb W (.slice x0 y0 z0) h.1 ∧ Nb W (.slice x1 y1 z1) h.2.1 ∧ Nb W (.slice x2 y2 z2) h.2.2
theorem TabB.below {W W' : World} {b : Nat} {g0 g1 g2 q0 q1 q2 : Value} {h : Nat × Nat × Nat} (t : TabB W b g0 g1 g2 q0 q1 q2 h) (hb : Below W.heap.size W W') : TabB W' b g0 g1 g2 q0 q1 q2 h := by
  obtain ⟨x0, y0, z0, x1, y1, z1, x2, y2, z2, e, h0, h1, h2⟩ := t
  exact ⟨x0, y0, z0, x1, y1, z1, x2, y2, z2, below_blk hb e.lt e, h0.below hb, h1.below hb, h2.below hb⟩
structure InvM5 (wd : World) (F ZV GV QV g0 g1 g2 q0 q1 q2 : Value) (h : Nat × Nat × Nat) (L : Array Bool) (s12 s40 s41 s42 s43 s44 s45 s46 s47 : Value) (W : World) : Prop where
  bel : Below wd.heap.size wd W
  k0 : Up L 0 → s40 = ZV
  k1 : Up L 1 → s41 = GV
  k2 : Up L 2 → s42 = QV
  k3 : Up L 3 → s43 = F
  k4 : Up L 4 → s44 = GV
  k5 : Up L 5 → s45 = QV
  k6 : Up L 6 → TriM W s46 h
  k7 : Up L 7 → ∃ x0 y0 z0 x1 y1 z1 x2 y2 z2, s47 = .agg (TabC g0 g1 g2 q0 q1 q2 (.slice x0 y0 z0) (.slice x1 y1 z1) (.slice x2 y2 z2)).toArray ∧ Nb W (.slice x0 y0 z0) h.1 ∧ Nb W (.slice x1 y1 z1) h.2.1 ∧ Nb W (.slice x2 y2 z2) h.2.2
  k8 : Up L 8 → ∃ b, s12 = .pointer (some ⟨b, 0, none⟩) ∧ wd.heap.size ≤ b ∧ (¬ Up L 9 → Blk 102 W b z12) ∧ (Up L 9 → TabB W b g0 g1 g2 q0 q1 q2 h)
  k9 : Up L 9 → Up L 8
theorem InvM5.to {wd : World} {F ZV GV QV g0 g1 g2 q0 q1 q2 : Value} {h : Nat × Nat × Nat} {L : Array Bool} {s12 s40 s41 s42 s43 s44 s45 s46 s47 : Value} {W W' : World} (i : InvM5 wd F ZV GV QV g0 g1 g2 q0 q1 q2 h L s12 s40 s41 s42 s43 s44 s45 s46 s47 W) (hb : Below W.heap.size W W') : InvM5 wd F ZV GV QV g0 g1 g2 q0 q1 q2 h L s12 s40 s41 s42 s43 s44 s45 s46 s47 W' where
  bel := below_via i.bel hb (Nat.le_refl _)
  k0 := i.k0
  k1 := i.k1
  k2 := i.k2
  k3 := i.k3
  k4 := i.k4
  k5 := i.k5
  k6 := fun u => (i.k6 u).below hb
  k7 := fun u => by obtain ⟨x0, y0, z0, x1, y1, z1, x2, y2, z2, e, h0, h1, h2⟩ := i.k7 u; exact ⟨x0, y0, z0, x1, y1, z1, x2, y2, z2, e, h0.below hb, h1.below hb, h2.below hb⟩
  k8 := fun u => by obtain ⟨b, e, hl, h1, h2⟩ := i.k8 u; exact ⟨b, e, hl, fun z => below_blk hb (h1 z).lt (h1 z), fun z => (h2 z).below hb⟩
  k9 := i.k9
theorem triB_lt {p : Nat} {X Y : List Int} (h0 : 0 < p) (h1 : 1 < p) (hx : val X < p) (hy : val Y < p) (nx : 0 ≤ val X) (ny : 0 ≤ val Y) : Lt3 p (triB X Y) := by
  unfold triB Lt3
  split
  · exact ⟨h0, h0, h0⟩
  · exact ⟨by show (val X).toNat < p; omega, by show (val Y).toNat < p; omega, h1⟩
theorem bitp {x k : Nat} (h : x < 4294967296 ^ k) : bitLen x ≤ 32 * k := by
  rw [show (4294967296 : Nat) = 2 ^ 32 from rfl, ← Nat.pow_mul] at h
  exact Nt.bitLen_lt h
theorem bit384 {x : Nat} (h : x < 4294967296 ^ 12) : bitLen x ≤ 384 := bitp h
theorem sl2_one (a0 a1 : Option Addr) (n0 c0 n1 c1 : Nat) : (#[Value.slice a0 n0 c0, .slice a1 n1 c1]).all (·.oneCell') = true := AllSl.one (AllSl.cons (AllSl.cons AllSl.nil))
theorem jdb_lt {p x y z : Nat} (h : 0 < p) : Lt3 p (jdb p x y z) := by
  unfold Lt3 jdb; exact ⟨fsb_lt h, fsb_lt h, fad_lt h⟩
theorem jch_lt {p x y dx dy z : Nat} (h : 0 < p) : Lt3 p (jch p x y dx dy z) := by
  unfold Lt3 jch; exact ⟨fsb_lt h, fsb_lt h, fml_lt h⟩
theorem jsm_lt {p : Nat} {s t : Nat × Nat × Nat} (h : 0 < p) (hs : Lt3 p s) (ht : Lt3 p t) : Lt3 p (jsm p s t) := by
  unfold jsm
  simp only []
  repeat' split
  · exact ht
  · exact hs
  · exact jch_lt h
  · exact ⟨h, h, h⟩
  · exact jdb_lt h
theorem stepT_lt {p : Nat} {g q : Nat × Nat × Nat} (h : 0 < p) (hg : Lt3 p g) (hq : Lt3 p q) (d : Nat) : Lt3 p (stepT p g q d) := by
  unfold stepT
  repeat' split
  · exact ⟨h, h, h⟩
  · exact hg
  · exact hq
  · exact jsm_lt h hg hq
theorem mixL_lt {p : Nat} {g q : Nat × Nat × Nat} {a b n : Nat} (h : 0 < p) (hg : Lt3 p g) (hq : Lt3 p q) : ∀ k, Lt3 p (mixL p g q a b n k)
  | 0 => ⟨h, h, h⟩
  | k + 1 => by simp only [mixL]; exact jsm_lt h (jdb_lt h) (stepT_lt h hg hq _)
set_option maxRecDepth 20000 in
set_option maxHeartbeats 8000000 in
theorem Kmix {w : World} (s : Nat) (a1 : Option Addr) (n1 c1 : Nat) (a2 : Option Addr) (n2 c2 : Nat) (a3 : Option Addr) (n3 c3 : Nat) (a4 : Option Addr) (n4 c4 : Nat) (a5 : Option Addr) (n5 c5 : Nat) (C : Cv) (ea : Option Addr) (en ec : Nat) (fa : Option Addr) (fn fc : Nat) (A B : List Int) (xa : Option Addr) (xn xc : Nat) (ya : Option Addr) (yn yc : Nat) (X Y : List Int)
    (hK : KindS w s a1 n1 c1 a2 n2 c2 a3 n3 c3 a4 n4 c4 a5 n5 c5 C) (hC : 0 < C.p ∧ C.p < 4294967296 ^ 12 ∧ C.gx < C.p ∧ C.gy < C.p ∧ 0 < C.n ∧ C.n < 4294967296 ^ 12 ∧ 1 < C.p)
    (hA : Sl .u32 w (.slice ea en ec) A) (uA : U32s A) (lA : A.length ≤ 512) (hB : Sl .u32 w (.slice fa fn fc) B) (uB : U32s B) (lB : B.length ≤ 512) (hX : Sl .u32 w (.slice xa xn xc) X) (hY : Sl .u32 w (.slice ya yn yc) Y) (uX : U32s X) (uY : U32s Y) (lX : X.length ≤ 1000000) (lY : Y.length ≤ 1000000) (vX : val X < C.p) (vY : val Y < C.p)
    (hg : (mixT C.p (triB (lim C.gx) (lim C.gy)) (triB X Y) ((val A).toNat % C.n) ((val B).toNat % C.n)).2.2 ≠ 0 → Nat.gcd (mixT C.p (triB (lim C.gx) (lim C.gy)) (triB X Y) ((val A).toNat % C.n) ((val B).toNat % C.n)).2.2 C.p = 1) :
    Calls Try.prog 41 #[.agg #[.int .i64 (s : Nat), .slice a1 n1 c1, .slice a2 n2 c2, .slice a3 n3 c3, .slice a4 n4 c4, .slice a5 n5 c5], .slice ea en ec, .slice fa fn fc, .agg #[.slice xa xn xc, .slice ya yn yc]] w fun e w' => ∃ r0 r1 RX RY, e = .returned (.agg #[r0, r1]) ∧ jpt C.p (mixT C.p (triB (lim C.gx) (lim C.gy)) (triB X Y) ((val A).toNat % C.n) ((val B).toNat % C.n)) RX RY ∧ Nb w' r0 RX ∧ Nb w' r1 RY ∧ Below w.heap.size w w' := by
  have HX : Hid (KindS w s a1 n1 c1 a2 n2 c2 a3 n3 c3 a4 n4 c4 a5 n5 c5 C ∧ Sl .u32 w (.slice ea en ec) A ∧ U32s A ∧ A.length ≤ 512 ∧ Sl .u32 w (.slice fa fn fc) B ∧ U32s B ∧ B.length ≤ 512 ∧ Sl .u32 w (.slice xa xn xc) X ∧ Sl .u32 w (.slice ya yn yc) Y ∧ U32s X ∧ U32s Y ∧ X.length ≤ 1000000 ∧ Y.length ≤ 1000000) := ⟨hK, hA, uA, lA, hB, uB, lB, hX, hY, uX, uY, lX, lY⟩
  have HC : Hid (0 < C.p ∧ C.p < 4294967296 ^ 12 ∧ C.gx < C.p ∧ C.gy < C.p ∧ 0 < C.n ∧ C.n < 4294967296 ^ 12 ∧ 1 < C.p ∧ val X < C.p ∧ val Y < C.p) := ⟨hC.1, hC.2.1, hC.2.2.1, hC.2.2.2.1, hC.2.2.2.2.1, hC.2.2.2.2.2.1, hC.2.2.2.2.2.2, vX, vY⟩
  obtain ⟨a', ha'⟩ : ∃ x, (val A).toNat % C.n = x := ⟨_, rfl⟩
  obtain ⟨b', hb'⟩ : ∃ x, (val B).toNat % C.n = x := ⟨_, rfl⟩
  obtain ⟨g, hgg⟩ : ∃ x, triB (lim C.gx) (lim C.gy) = x := ⟨_, rfl⟩
  obtain ⟨q, hqq⟩ : ∃ x, triB X Y = x := ⟨_, rfl⟩
  rw [ha', hb', hgg, hqq] at hg
  rw [ha', hb', hgg, hqq]
  have HG : Hid ((val A).toNat % C.n = a' ∧ (val B).toNat % C.n = b' ∧ triB (lim C.gx) (lim C.gy) = g ∧ triB X Y = q ∧ ((mixT C.p g q a' b').2.2 ≠ 0 → Nat.gcd (mixT C.p g q a' b').2.2 C.p = 1)) := ⟨ha', hb', hgg, hqq, hg⟩
  clear hK hC hA uA lA hB uB lB hX hY uX uY lX lY vX vY hg ha' hb' hgg hqq
  go_enter Try.func41, Try.ntmps41
  go_upto_region 1 with (fail)
  refine wp_gen (fun W => Blk 53 W w.heap.size [.int .i64 (s : Nat), .slice a1 n1 c1, .slice a2 n2 c2, .slice a3 n3 c3, .slice a4 n4 c4, .slice a5 n5 c5] ∧ Blk 24 W (w.heap.size + 1) [.slice xa xn xc, .slice ya yn yc] ∧ Blk 24 W (w.heap.size + 1 + 1) [.slice none 0 0, .slice none 0 0] ∧ Below w.heap.size w W) ⟨((Blk.new _ w _).alloc _).alloc _, by have := Blk.new 24 (w.alloc (.cells #[.int .i64 (s : Nat), .slice a1 n1 c1, .slice a2 n2 c2, .slice a3 n3 c3, .slice a4 n4 c4, .slice a5 n5 c5] 53)) [.slice xa xn xc, .slice ya yn yc]; exact Blk.alloc (by simpa using this) _, by have := Blk.new 24 ((w.alloc (.cells #[.int .i64 (s : Nat), .slice a1 n1 c1, .slice a2 n2 c2, .slice a3 n3 c3, .slice a4 n4 c4, .slice a5 n5 c5] 53)).alloc (.cells #[.slice xa xn xc, .slice ya yn yc] 24)) [.slice none 0 0, .slice none 0 0]; simpa using this, below_via (below_via (al1 _) (al1 _) (Nat.le_refl _)) (al1 _) (Nat.le_refl _)⟩ ?_
  rintro W0 ⟨hK0, hQ0, hR0, hb0⟩
  have H0 : Hid (Blk 53 W0 w.heap.size [.int .i64 (s : Nat), .slice a1 n1 c1, .slice a2 n2 c2, .slice a3 n3 c3, .slice a4 n4 c4, .slice a5 n5 c5] ∧ Blk 24 W0 (w.heap.size + 1) [.slice xa xn xc, .slice ya yn yc] ∧ Blk 24 W0 (w.heap.size + 1 + 1) [.slice none 0 0, .slice none 0 0] ∧ Below w.heap.size w W0) := ⟨hK0, hQ0, hR0, hb0⟩
  have q1 : W0.cell? ⟨w.heap.size, 1, none⟩ = some (.slice a1 n1 c1) := hK0.cell 1
  have q2 : W0.cell? ⟨w.heap.size, 2, none⟩ = some (.slice a2 n2 c2) := hK0.cell 2
  clear hK0 hQ0 hR0 hb0
  have HLn : Hid ((lim C.n).length ≤ 512) := Nat.le_trans (lim12 HC.out.2.2.2.2.2.1) (by decide)
  go_wp2_with fail
  refine (NDivMod_l _ _ A C.n (below_sl H0.out.2.2.2 HX.out.2.1) HX.out.2.2.1 (HX.out.1.2.2.1.below H0.out.2.2.2) HX.out.2.2.2.1 HLn.out HC.out.2.2.2.2.1).mono ?_
  rintro e w1 ⟨qa, ra, rfl, hra, hb1⟩
  rw [HG.out.1] at hra
  obtain ⟨ga, gc, rfl⟩ := hra.form
  have H1 : Hid (Nb w1 (.slice ga (lim a').length gc) a' ∧ Below W0.heap.size W0 w1) := ⟨hra, hb1⟩
  have q2' : w1.cell? ⟨w.heap.size, 2, none⟩ = some (.slice a2 n2 c2) := (below_blk hb1 H0.out.1.lt H0.out.1).cell 2
  clear hra hb1 q1 q2
  obtain ⟨la, hla⟩ : ∃ x, (lim a').length = x := ⟨_, rfl⟩
  obtain ⟨lb, hlb⟩ : ∃ x, (lim b').length = x := ⟨_, rfl⟩
  have HLab : Hid ((lim a').length = la ∧ (lim b').length = lb) := ⟨hla, hlb⟩
  rw [hla] at H1
  rw [hla]
  clear hla hlb
  go_upto_region 3 with (fail)
  go_cut [2] from 17 (fun s2 wz => ∃ ha hc, s2 = .slice ha lb hc ∧ Hid (Nb wz (.slice ga la gc) a' ∧ Nb wz (.slice ha lb hc) b' ∧ Below W0.heap.size W0 wz))
  case first =>
    go_wp2_with fail
    refine (NDivMod_l _ _ B C.n (below_sl (below_via H0.out.2.2.2 H1.out.2 (Nat.le_refl _)) HX.out.2.2.2.2.1) HX.out.2.2.2.2.2.1 (HX.out.1.2.2.1.below (below_via H0.out.2.2.2 H1.out.2 (Nat.le_refl _))) HX.out.2.2.2.2.2.2.1 HLn.out HC.out.2.2.2.2.1).mono ?_
    rintro e w2 ⟨qb, rb, rfl, hrb, hb2⟩
    rw [HG.out.2.1] at hrb
    obtain ⟨ha, hc, rfl⟩ := hrb.form
    rw [HLab.out.2] at hrb
    rw [HLab.out.2]
    have H2 : Hid (Nb w2 (.slice ga la gc) a' ∧ Nb w2 (.slice ha lb hc) b' ∧ Below W0.heap.size W0 w2) := ⟨H1.out.1.below hb2, hrb, below_via H1.out.2 hb2 (Nat.le_refl _)⟩
    clear hrb hb2
    go_wp2
    go_meet
    case rel => exact ⟨ha, hc, rfl, H2.out⟩
  obtain ⟨ha, hc, rfl, H2⟩ := hcut
  obtain ⟨w2, hw2⟩ : ∃ x, x = wc := ⟨_, rfl⟩
  subst hw2
  clear q2' H1
  go_wp2_with fail
  go_cut [10, 11] from 17 (fun s10 s11 wd => ∃ b10 b11, s10 = .pointer (some ⟨b10, 0, none⟩) ∧ s11 = .pointer (some ⟨b11, 0, none⟩) ∧ Hid (Below w2.heap.size w2 wd ∧ TriB wd b10 g ∧ TriB wd b11 q ∧ b10 ≠ b11))
  case first =>
    have HT1 : Hid (∀ W, Below w2.heap.size w2 W → Calls Try.prog 27 #[(.agg #[.slice a4 n4 c4, .slice a5 n5 c5])] W fun e w' => ∃ r0 r1 r2, e = .returned (.agg #[r0, r1, r2]) ∧ Nb w' r0 g.1 ∧ Nb w' r1 g.2.1 ∧ Nb w' r2 g.2.2 ∧ Below W.heap.size W w') := fun W h => by have hw := below_via (below_via H0.out.2.2.2 H2.out.2.2 (Nat.le_refl _)) h (Nat.le_refl _); have := TripleOf (w := W) (.slice a4 n4 c4) (.slice a5 n5 c5) (lim C.gx) (lim C.gy) (HX.out.1.2.2.2.2.1.below hw) (HX.out.1.2.2.2.2.2.below hw) (lim_u32 _) (lim_u32 _) (Nat.le_trans (lim12 (Nat.lt_trans HC.out.2.2.1 HC.out.2.1)) (by decide)) (Nat.le_trans (lim12 (Nat.lt_trans HC.out.2.2.2.1 HC.out.2.1)) (by decide)); rw [HG.out.2.2.1] at this; exact this
    have HT2 : Hid (∀ W, Below w2.heap.size w2 W → Calls Try.prog 27 #[(.agg #[.slice xa xn xc, .slice ya yn yc])] W fun e w' => ∃ r0 r1 r2, e = .returned (.agg #[r0, r1, r2]) ∧ Nb w' r0 q.1 ∧ Nb w' r1 q.2.1 ∧ Nb w' r2 q.2.2 ∧ Below W.heap.size W w') := fun W h => by have hw := below_via (below_via H0.out.2.2.2 H2.out.2.2 (Nat.le_refl _)) h (Nat.le_refl _); have := TripleOf (w := W) (.slice xa xn xc) (.slice ya yn yc) X Y (below_sl hw HX.out.2.2.2.2.2.2.2.1) (below_sl hw HX.out.2.2.2.2.2.2.2.2.1) HX.out.2.2.2.2.2.2.2.2.2.1 HX.out.2.2.2.2.2.2.2.2.2.2.1 HX.out.2.2.2.2.2.2.2.2.2.2.2.1 HX.out.2.2.2.2.2.2.2.2.2.2.2.2; rw [HG.out.2.2.2.1] at this; exact this
    have HBk : Hid (∀ W, Below w2.heap.size w2 W → Blk 53 W w.heap.size [.int .i64 (s : Nat), .slice a1 n1 c1, .slice a2 n2 c2, .slice a3 n3 c3, .slice a4 n4 c4, .slice a5 n5 c5] ∧ Blk 24 W (w.heap.size + 1) [.slice xa xn xc, .slice ya yn yc]) := fun W h => by have hb := below_via H2.out.2.2 h (Nat.le_refl _); exact ⟨below_blk hb H0.out.1.lt H0.out.1, below_blk hb H0.out.2.1.lt H0.out.2.1⟩
    refine wp_region_inv (fun L a W => ∃ s10 s11 s35 s36 s37 s38 s39, L.size = 9 ∧ a = { tmps := List.toArray (.agg #[.int .i64 (s : Nat), .slice a1 n1 c1, .slice a2 n2 c2, .slice a3 n3 c3, .slice a4 n4 c4, .slice a5 n5 c5] :: .slice ga la gc :: .slice ha lb hc :: .agg #[.slice xa xn xc, .slice ya yn yc] :: .pointer (some ⟨w.heap.size, 0, none⟩) :: undef :: undef :: .pointer (some ⟨w.heap.size + 1, 0, none⟩) :: .pointer (some ⟨w.heap.size + 1 + 1, 0, none⟩) :: .slice a1 n1 c1 :: s10 :: s11 :: undef :: undef :: undef :: undef :: undef :: u17 :: u18 :: u19 :: u20 :: u21 :: u22 :: u23 :: u24 :: u25 :: u26 :: u27 :: u28 :: u29 :: u30 :: u31 :: u32 :: u33 :: u34 :: s35 :: s36 :: s37 :: s38 :: s39 :: u40 :: u41 :: u42 :: u43 :: u44 :: u45 :: u46 :: u47 :: u48 :: u49 :: u50 :: u51 :: u52 :: u53 :: u54 :: u55 :: u56 :: u57 :: u58 :: u59 :: u60 :: u61 :: u62 :: u63 :: u64 :: u65 :: u66 :: u67 :: u68 :: u69 :: u70 :: u71 :: u72 :: u73 :: u74 :: u75 :: u76 :: u77 :: u78 :: u79 :: []), defers := [] } ∧ InvM4 w2 w.heap.size (.agg #[.slice a4 n4 c4, .slice a5 n5 c5]) (.agg #[.slice xa xn xc, .slice ya yn yc]) g q L s10 s11 s35 s36 s37 s38 s39 W) (by kernel_rfl) (by kernel_rfl) ?_ ?_ ?_
    · refine ⟨undef, undef, u35, u36, u37, u38, u39, by simp, rfl, ?_⟩
      exact { bel := Below.drew (Below.refl _ _), k0 := fun u => absurd u not_up_new, k1 := fun u => absurd u not_up_new, k2 := fun u => absurd u not_up_new, k3 := fun u => absurd u not_up_new, k4 := fun u => absurd u not_up_new, k5 := fun u => absurd u not_up_new, k6 := fun u => absurd u not_up_new, k56 := fun u => absurd u not_up_new, k7 := fun u => absurd u not_up_new, k8 := fun u => absurd u not_up_new }
    · rintro L a W hup ⟨s10, s11, s35, s36, s37, s38, s39, hsz, rfl, hI⟩
      obtain ⟨b10, rfl, _, _, t10⟩ := hI.k5 (hup 5 (by decide))
      obtain ⟨b11, rfl, _, _, t11⟩ := hI.k6 (hup 6 (by decide))
      have HZ : Hid (Below w2.heap.size w2 W ∧ TriB W b10 g ∧ TriB W b11 q ∧ b10 ≠ b11) := ⟨hI.bel, t10 (hup 7 (by decide)), t11 (hup 8 (by decide)), fun he => hI.k56 (hup 5 (by decide)) (hup 6 (by decide)) (by rw [he])⟩
      clear hI t10 t11
      go_wp2
      go_meet
      case rel => exact ⟨b10, b11, rfl, rfl, HZ.out⟩
    · rintro i L a W hi hno hdep ⟨s10, s11, s35, s36, s37, s38, s39, hsz, rfl, hI⟩
      have hlt : ∀ k, k < 9 → k < L.size := fun k hk => by omega
      replace hi : i < 9 := hi
      obtain rfl | rfl | rfl | rfl | rfl | rfl | rfl | rfl | rfl : i = 0 ∨ i = 1 ∨ i = 2 ∨ i = 3 ∨ i = 4 ∨ i = 5 ∨ i = 6 ∨ i = 7 ∨ i = 8 := by omega
      · have HI : Hid (InvM4 w2 w.heap.size (.agg #[.slice a4 n4 c4, .slice a5 n5 c5]) (.agg #[.slice xa xn xc, .slice ya yn yc]) g q L s10 s11 s35 s36 s37 s38 s39 W) := hI
        clear hI
        refine wpOp_step rfl (fun K hK => ?_)
        go_simp
        replace hI := HI.out
        exact hK _ _ ⟨s10, s11, .pointer (some ⟨w.heap.size, 4, none⟩), s36, s37, s38, s39, by simp [hsz], rfl, { bel := hI.bel, k0 := fun _ => rfl, k1 := fun u => hI.k1 (up_set u (by decide)), k2 := fun u => hI.k2 (up_set u (by decide)), k3 := fun u => hI.k3 (up_set u (by decide)), k4 := fun u => hI.k4 (up_set u (by decide)), k5 := fun u => by obtain ⟨b, e, hl, h1, h2⟩ := hI.k5 (up_set u (by decide)); exact ⟨b, e, hl, fun z => h1 (fun y => z (up_mono2 y (by decide))), fun z => h2 (up_set z (by decide))⟩, k6 := fun u => by obtain ⟨b, e, hl, h1, h2⟩ := hI.k6 (up_set u (by decide)); exact ⟨b, e, hl, fun z => h1 (fun y => z (up_mono2 y (by decide))), fun z => h2 (up_set z (by decide))⟩, k56 := fun u v => hI.k56 (up_set u (by decide)) (up_set v (by decide)), k7 := fun u => up_mono2 (hI.k7 (up_set u (by decide))) (by decide), k8 := fun u => up_mono2 (hI.k8 (up_set u (by decide))) (by decide) }⟩
      · have HI : Hid (InvM4 w2 w.heap.size (.agg #[.slice a4 n4 c4, .slice a5 n5 c5]) (.agg #[.slice xa xn xc, .slice ya yn yc]) g q L s10 s11 s35 s36 s37 s38 s39 W) := hI
        clear hI
        obtain rfl := HI.out.k0 (hdep 0 (by decide +kernel))
        refine wpOp_step rfl (fun K hK => ?_)
        rw [if_pos (by rfl)]
        refine wp_load_mid _ _ rfl w.heap.size 4 rfl [.slice a4 n4 c4, .slice a5 n5 c5] _ ((HBk.out W HI.out.bel).1.range 4 _ rfl) Try.underlying24 rfl (by kernel_rfl) ?_
        replace hI := HI.out
        simp only [Act.put, List.setIfInBounds_toArray]
        exact hK _ _ ⟨s10, s11, .pointer (some ⟨w.heap.size, 4, none⟩), (.agg #[.slice a4 n4 c4, .slice a5 n5 c5]), s37, s38, s39, by simp [hsz], rfl, { bel := hI.bel, k0 := fun u => hI.k0 (up_set u (by decide)), k1 := fun _ => rfl, k2 := fun u => hI.k2 (up_set u (by decide)), k3 := fun u => hI.k3 (up_set u (by decide)), k4 := fun u => hI.k4 (up_set u (by decide)), k5 := fun u => by obtain ⟨b, e, hl, h1, h2⟩ := hI.k5 (up_set u (by decide)); exact ⟨b, e, hl, fun z => h1 (fun y => z (up_mono2 y (by decide))), fun z => h2 (up_set z (by decide))⟩, k6 := fun u => by obtain ⟨b, e, hl, h1, h2⟩ := hI.k6 (up_set u (by decide)); exact ⟨b, e, hl, fun z => h1 (fun y => z (up_mono2 y (by decide))), fun z => h2 (up_set z (by decide))⟩, k56 := fun u v => hI.k56 (up_set u (by decide)) (up_set v (by decide)), k7 := fun u => up_mono2 (hI.k7 (up_set u (by decide))) (by decide), k8 := fun u => up_mono2 (hI.k8 (up_set u (by decide))) (by decide) }⟩
      · have HI : Hid (InvM4 w2 w.heap.size (.agg #[.slice a4 n4 c4, .slice a5 n5 c5]) (.agg #[.slice xa xn xc, .slice ya yn yc]) g q L s10 s11 s35 s36 s37 s38 s39 W) := hI
        clear hI
        obtain rfl := HI.out.k1 (hdep 1 (by decide +kernel))
        refine wpOp_step rfl (fun K hK => ?_)
        go_simp
        refine (HT1.out W HI.out.bel).mono ?_
        rintro e W' ⟨r0, r1, r2, rfl, h0, h1, h2, hb⟩
        obtain ⟨x0, y0, rfl⟩ := h0.form
        obtain ⟨x1, y1, rfl⟩ := h1.form
        obtain ⟨x2, y2, rfl⟩ := h2.form
        replace hI := HI.out.to hb
        simp only []
        go_simp
        exact hK _ _ ⟨s10, s11, s35, (.agg #[.slice a4 n4 c4, .slice a5 n5 c5]), .agg #[.slice x0 _ y0, .slice x1 _ y1, .slice x2 _ y2], s38, s39, by simp [hsz], rfl, { bel := hI.bel, k0 := fun u => hI.k0 (up_set u (by decide)), k1 := fun u => hI.k1 (up_set u (by decide)), k2 := fun _ => ⟨_, _, _, _, _, _, _, _, _, rfl, h0, h1, h2⟩, k3 := fun u => hI.k3 (up_set u (by decide)), k4 := fun u => hI.k4 (up_set u (by decide)), k5 := fun u => by obtain ⟨b, e, hl, h1, h2⟩ := hI.k5 (up_set u (by decide)); exact ⟨b, e, hl, fun z => h1 (fun y => z (up_mono2 y (by decide))), fun z => h2 (up_set z (by decide))⟩, k6 := fun u => by obtain ⟨b, e, hl, h1, h2⟩ := hI.k6 (up_set u (by decide)); exact ⟨b, e, hl, fun z => h1 (fun y => z (up_mono2 y (by decide))), fun z => h2 (up_set z (by decide))⟩, k56 := fun u v => hI.k56 (up_set u (by decide)) (up_set v (by decide)), k7 := fun u => up_mono2 (hI.k7 (up_set u (by decide))) (by decide), k8 := fun u => up_mono2 (hI.k8 (up_set u (by decide))) (by decide) }⟩
      · have HI : Hid (InvM4 w2 w.heap.size (.agg #[.slice a4 n4 c4, .slice a5 n5 c5]) (.agg #[.slice xa xn xc, .slice ya yn yc]) g q L s10 s11 s35 s36 s37 s38 s39 W) := hI
        clear hI
        refine wpOp_step rfl (fun K hK => ?_)
        rw [if_pos (by rfl)]
        refine wp_load_mid _ _ rfl (w.heap.size + 1) 0 rfl [.slice xa xn xc, .slice ya yn yc] _ (HBk.out W HI.out.bel).2.whole Try.underlying24 rfl (by kernel_rfl) ?_
        replace hI := HI.out
        simp only [Act.put, List.setIfInBounds_toArray]
        exact hK _ _ ⟨s10, s11, s35, s36, s37, (.agg #[.slice xa xn xc, .slice ya yn yc]), s39, by simp [hsz], rfl, { bel := hI.bel, k0 := fun u => hI.k0 (up_set u (by decide)), k1 := fun u => hI.k1 (up_set u (by decide)), k2 := fun u => hI.k2 (up_set u (by decide)), k3 := fun _ => rfl, k4 := fun u => hI.k4 (up_set u (by decide)), k5 := fun u => by obtain ⟨b, e, hl, h1, h2⟩ := hI.k5 (up_set u (by decide)); exact ⟨b, e, hl, fun z => h1 (fun y => z (up_mono2 y (by decide))), fun z => h2 (up_set z (by decide))⟩, k6 := fun u => by obtain ⟨b, e, hl, h1, h2⟩ := hI.k6 (up_set u (by decide)); exact ⟨b, e, hl, fun z => h1 (fun y => z (up_mono2 y (by decide))), fun z => h2 (up_set z (by decide))⟩, k56 := fun u v => hI.k56 (up_set u (by decide)) (up_set v (by decide)), k7 := fun u => up_mono2 (hI.k7 (up_set u (by decide))) (by decide), k8 := fun u => up_mono2 (hI.k8 (up_set u (by decide))) (by decide) }⟩
      · have HI : Hid (InvM4 w2 w.heap.size (.agg #[.slice a4 n4 c4, .slice a5 n5 c5]) (.agg #[.slice xa xn xc, .slice ya yn yc]) g q L s10 s11 s35 s36 s37 s38 s39 W) := hI
        clear hI
        obtain rfl := HI.out.k3 (hdep 3 (by decide +kernel))
        refine wpOp_step rfl (fun K hK => ?_)
        go_simp
        refine (HT2.out W HI.out.bel).mono ?_
        rintro e W' ⟨r0, r1, r2, rfl, h0, h1, h2, hb⟩
        obtain ⟨x0, y0, rfl⟩ := h0.form
        obtain ⟨x1, y1, rfl⟩ := h1.form
        obtain ⟨x2, y2, rfl⟩ := h2.form
        replace hI := HI.out.to hb
        simp only []
        go_simp
        exact hK _ _ ⟨s10, s11, s35, s36, s37, (.agg #[.slice xa xn xc, .slice ya yn yc]), .agg #[.slice x0 _ y0, .slice x1 _ y1, .slice x2 _ y2], by simp [hsz], rfl, { bel := hI.bel, k0 := fun u => hI.k0 (up_set u (by decide)), k1 := fun u => hI.k1 (up_set u (by decide)), k2 := fun u => hI.k2 (up_set u (by decide)), k3 := fun u => hI.k3 (up_set u (by decide)), k4 := fun _ => ⟨_, _, _, _, _, _, _, _, _, rfl, h0, h1, h2⟩, k5 := fun u => by obtain ⟨b, e, hl, h1, h2⟩ := hI.k5 (up_set u (by decide)); exact ⟨b, e, hl, fun z => h1 (fun y => z (up_mono2 y (by decide))), fun z => h2 (up_set z (by decide))⟩, k6 := fun u => by obtain ⟨b, e, hl, h1, h2⟩ := hI.k6 (up_set u (by decide)); exact ⟨b, e, hl, fun z => h1 (fun y => z (up_mono2 y (by decide))), fun z => h2 (up_set z (by decide))⟩, k56 := fun u v => hI.k56 (up_set u (by decide)) (up_set v (by decide)), k7 := fun u => up_mono2 (hI.k7 (up_set u (by decide))) (by decide), k8 := fun u => up_mono2 (hI.k8 (up_set u (by decide))) (by decide) }⟩
      · have HI : Hid (InvM4 w2 w.heap.size (.agg #[.slice a4 n4 c4, .slice a5 n5 c5]) (.agg #[.slice xa xn xc, .slice ya yn yc]) g q L s10 s11 s35 s36 s37 s38 s39 W) := hI
        clear hI
        refine wpOp_step rfl (fun K hK => ?_)
        go_simp
        replace hI := HI.out.to (al1 (w := W) (.cells z3.toArray 58))
        have hne : Up L 6 → .pointer (some ⟨W.heap.size, 0, none⟩) ≠ s11 := fun u he => by obtain ⟨b2, e2, _, h1, h2⟩ := HI.out.k6 u; rw [e2] at he; simp at he; have := old_blk h1 h2; omega
        exact hK _ _ ⟨.pointer (some ⟨W.heap.size, 0, none⟩), s11, s35, s36, s37, s38, s39, by simp [hsz], rfl, { bel := hI.bel, k0 := fun u => hI.k0 (up_set u (by decide)), k1 := fun u => hI.k1 (up_set u (by decide)), k2 := fun u => hI.k2 (up_set u (by decide)), k3 := fun u => hI.k3 (up_set u (by decide)), k4 := fun u => hI.k4 (up_set u (by decide)), k5 := fun _ => ⟨W.heap.size, rfl, HI.out.bel.size, fun _ => Blk.new _ W z3, fun u => absurd (HI.out.k7 (up_set u (by decide))) hno⟩, k6 := fun u => by obtain ⟨b, e, hl, h1, h2⟩ := hI.k6 (up_set u (by decide)); exact ⟨b, e, hl, fun z => h1 (fun y => z (up_mono2 y (by decide))), fun z => h2 (up_set z (by decide))⟩, k56 := fun _ v => hne (up_set v (by decide)), k7 := fun _ => by unfold Up; simp [hlt], k8 := fun u => up_mono2 (hI.k8 (up_set u (by decide))) (by decide) }⟩
      · have HI : Hid (InvM4 w2 w.heap.size (.agg #[.slice a4 n4 c4, .slice a5 n5 c5]) (.agg #[.slice xa xn xc, .slice ya yn yc]) g q L s10 s11 s35 s36 s37 s38 s39 W) := hI
        clear hI
        refine wpOp_step rfl (fun K hK => ?_)
        go_simp
        replace hI := HI.out.to (al1 (w := W) (.cells z3.toArray 58))
        have hne : Up L 5 → .pointer (some ⟨W.heap.size, 0, none⟩) ≠ s10 := fun u he => by obtain ⟨b2, e2, _, h1, h2⟩ := HI.out.k5 u; rw [e2] at he; simp at he; have := old_blk h1 h2; omega
        exact hK _ _ ⟨s10, .pointer (some ⟨W.heap.size, 0, none⟩), s35, s36, s37, s38, s39, by simp [hsz], rfl, { bel := hI.bel, k0 := fun u => hI.k0 (up_set u (by decide)), k1 := fun u => hI.k1 (up_set u (by decide)), k2 := fun u => hI.k2 (up_set u (by decide)), k3 := fun u => hI.k3 (up_set u (by decide)), k4 := fun u => hI.k4 (up_set u (by decide)), k5 := fun u => by obtain ⟨b, e, hl, h1, h2⟩ := hI.k5 (up_set u (by decide)); exact ⟨b, e, hl, fun z => h1 (fun y => z (up_mono2 y (by decide))), fun z => h2 (up_set z (by decide))⟩, k6 := fun _ => ⟨W.heap.size, rfl, HI.out.bel.size, fun _ => Blk.new _ W z3, fun u => absurd (HI.out.k8 (up_set u (by decide))) hno⟩, k56 := fun u _ => (hne (up_set u (by decide))).symm, k7 := fun u => up_mono2 (hI.k7 (up_set u (by decide))) (by decide), k8 := fun _ => by unfold Up; simp [hlt] }⟩
      · have HI : Hid (InvM4 w2 w.heap.size (.agg #[.slice a4 n4 c4, .slice a5 n5 c5]) (.agg #[.slice xa xn xc, .slice ya yn yc]) g q L s10 s11 s35 s36 s37 s38 s39 W) := hI
        clear hI
        obtain ⟨b, rfl, gb, hz, _⟩ := HI.out.k5 (hdep 5 (by decide +kernel))
        obtain ⟨x0, y0, z0, x1, y1, z1, x2, y2, z2, rfl, h0, h1, h2⟩ := HI.out.k2 (hdep 2 (by decide +kernel))
        have hB := hz hno
        have HS : Hid (Nb W (.slice x0 y0 z0) g.1 ∧ Nb W (.slice x1 y1 z1) g.2.1 ∧ Nb W (.slice x2 y2 z2) g.2.2 ∧ Blk 58 W b [.slice none 0 0, .slice none 0 0, .slice none 0 0] ∧ w2.heap.size ≤ b) := ⟨h0, h1, h2, hB, gb⟩
        clear h0 h1 h2 hB gb hz
        refine wpOp_step rfl (fun K hK => ?_)
        rw [if_pos (by rfl)]
        refine wp_store_mid _ _ _ rfl b 0 #[.slice x0 y0 z0, .slice x1 y1 z1, .slice x2 y2 z2] rfl rfl (HS.out.2.2.2.1.there 0 _ (by simp)) (by kernel_rfl) (sl3_one _ _ _ _ _ _ _ _ _) ?_
        obtain ⟨h0, h1, h2, hB, gb⟩ := HS.out
        have hU : Upd W (W.setCells b 0 [.slice x0 y0 z0, .slice x1 y1 z1, .slice x2 y2 z2]) b := Upd.setCells _ 0 W
        have hT := TriM.put h0 h1 h2 hB
        have hI := HI.out
        simp only [Act.put, List.setIfInBounds_toArray]
        have hoth : ∀ b2, s11 = .pointer (some ⟨b2, 0, none⟩) → Up L 6 → b2 ≠ b := fun b2 e2 u he => by subst he; exact hI.k56 (hdep 5 (by decide +kernel)) u (by rw [e2])
        exact hK _ _ ⟨.pointer (some ⟨b, 0, none⟩), s11, s35, s36, .agg #[.slice x0 y0 z0, .slice x1 y1 z1, .slice x2 y2 z2], s38, s39, by simp [hsz], rfl, { bel := hU.below hI.bel hI.bel.size gb, k0 := fun u => hI.k0 (up_set u (by decide)), k1 := fun u => hI.k1 (up_set u (by decide)), k2 := fun _ => ⟨x0, y0, z0, x1, y1, z1, x2, y2, z2, rfl, h0.upd hB sl3_nn hU, h1.upd hB sl3_nn hU, h2.upd hB sl3_nn hU⟩, k3 := fun u => hI.k3 (up_set u (by decide)), k4 := fun u => (hI.k4 (up_set u (by decide))).upd hB hU, k5 := fun _ => ⟨b, rfl, gb, fun z => absurd (by unfold Up; simp [hlt]) z, fun _ => hT⟩, k6 := fun u => by obtain ⟨b2, e2, hl, k1, k2⟩ := hI.k6 (up_set u (by decide)); exact ⟨b2, e2, hl, fun z => hU.blk (k1 (fun y => z (up_mono2 y (by decide)))) (hoth b2 e2 (up_set u (by decide))), fun z => (k2 (up_set z (by decide))).upd (hoth b2 e2 (up_set u (by decide))) hB hU⟩, k56 := fun u v => hI.k56 (up_set u (by decide)) (up_set v (by decide)), k7 := fun _ => up_mono2 (hdep 5 (by decide +kernel)) (by decide), k8 := fun u => up_mono2 (hI.k8 (up_set u (by decide))) (by decide) }⟩
      · have HI : Hid (InvM4 w2 w.heap.size (.agg #[.slice a4 n4 c4, .slice a5 n5 c5]) (.agg #[.slice xa xn xc, .slice ya yn yc]) g q L s10 s11 s35 s36 s37 s38 s39 W) := hI
        clear hI
        obtain ⟨b, rfl, gb, hz, _⟩ := HI.out.k6 (hdep 6 (by decide +kernel))
        obtain ⟨x0, y0, z0, x1, y1, z1, x2, y2, z2, rfl, h0, h1, h2⟩ := HI.out.k4 (hdep 4 (by decide +kernel))
        have hB := hz hno
        have HS : Hid (Nb W (.slice x0 y0 z0) q.1 ∧ Nb W (.slice x1 y1 z1) q.2.1 ∧ Nb W (.slice x2 y2 z2) q.2.2 ∧ Blk 58 W b [.slice none 0 0, .slice none 0 0, .slice none 0 0] ∧ w2.heap.size ≤ b) := ⟨h0, h1, h2, hB, gb⟩
        clear h0 h1 h2 hB gb hz
        refine wpOp_step rfl (fun K hK => ?_)
        rw [if_pos (by rfl)]
        refine wp_store_mid _ _ _ rfl b 0 #[.slice x0 y0 z0, .slice x1 y1 z1, .slice x2 y2 z2] rfl rfl (HS.out.2.2.2.1.there 0 _ (by simp)) (by kernel_rfl) (sl3_one _ _ _ _ _ _ _ _ _) ?_
        obtain ⟨h0, h1, h2, hB, gb⟩ := HS.out
        have hU : Upd W (W.setCells b 0 [.slice x0 y0 z0, .slice x1 y1 z1, .slice x2 y2 z2]) b := Upd.setCells _ 0 W
        have hT := TriM.put h0 h1 h2 hB
        have hI := HI.out
        simp only [Act.put, List.setIfInBounds_toArray]
        have hoth : ∀ b2, s10 = .pointer (some ⟨b2, 0, none⟩) → Up L 5 → b2 ≠ b := fun b2 e2 u he => by subst he; exact hI.k56 u (hdep 6 (by decide +kernel)) (by rw [e2])
        exact hK _ _ ⟨s10, .pointer (some ⟨b, 0, none⟩), s35, s36, s37, s38, .agg #[.slice x0 y0 z0, .slice x1 y1 z1, .slice x2 y2 z2], by simp [hsz], rfl, { bel := hU.below hI.bel hI.bel.size gb, k0 := fun u => hI.k0 (up_set u (by decide)), k1 := fun u => hI.k1 (up_set u (by decide)), k2 := fun u => (hI.k2 (up_set u (by decide))).upd hB hU, k3 := fun u => hI.k3 (up_set u (by decide)), k4 := fun _ => ⟨x0, y0, z0, x1, y1, z1, x2, y2, z2, rfl, h0.upd hB sl3_nn hU, h1.upd hB sl3_nn hU, h2.upd hB sl3_nn hU⟩, k5 := fun u => by obtain ⟨b2, e2, hl, k1, k2⟩ := hI.k5 (up_set u (by decide)); exact ⟨b2, e2, hl, fun z => hU.blk (k1 (fun y => z (up_mono2 y (by decide)))) (hoth b2 e2 (up_set u (by decide))), fun z => (k2 (up_set z (by decide))).upd (hoth b2 e2 (up_set u (by decide))) hB hU⟩, k6 := fun _ => ⟨b, rfl, gb, fun z => absurd (by unfold Up; simp [hlt]) z, fun _ => hT⟩, k56 := fun u v => hI.k56 (up_set u (by decide)) (up_set v (by decide)), k7 := fun u => up_mono2 (hI.k7 (up_set u (by decide))) (by decide), k8 := fun _ => up_mono2 (hdep 6 (by decide +kernel)) (by decide) }⟩
  obtain ⟨b10, b11, rfl, rfl, HD⟩ := hcut
  obtain ⟨wd, hwd⟩ : ∃ x, x = wc := ⟨_, rfl⟩
  subst hwd
  -- REGION5
  obtain ⟨ga0, gn0, gc0, ga1, gn1, gc1, ga2, gn2, gc2, hG, hg0, hg1, hg2⟩ := HD.out.2.1
  obtain ⟨qa0, qn0, qc0, qa1, qn1, qc1, qa2, qn2, qc2, hQ, hq0, hq1, hq2⟩ := HD.out.2.2.1
  have HGQ : Hid (Blk 58 wd b10 [.slice ga0 gn0 gc0, .slice ga1 gn1 gc1, .slice ga2 gn2 gc2] ∧ Blk 58 wd b11 [.slice qa0 qn0 qc0, .slice qa1 qn1 qc1, .slice qa2 qn2 qc2] ∧ Nb wd (.slice ga0 gn0 gc0) g.1 ∧ Nb wd (.slice ga1 gn1 gc1) g.2.1 ∧ Nb wd (.slice ga2 gn2 gc2) g.2.2 ∧ Nb wd (.slice qa0 qn0 qc0) q.1 ∧ Nb wd (.slice qa1 qn1 qc1) q.2.1 ∧ Nb wd (.slice qa2 qn2 qc2) q.2.2) := ⟨hG, hQ, hg0, hg1, hg2, hq0, hq1, hq2⟩
  clear hG hQ hg0 hg1 hg2 hq0 hq1 hq2
  have HL3 : Hid (Lt3 C.p g ∧ Lt3 C.p q) := ⟨by rw [← HG.out.2.2.1]; exact triB_lt HC.out.1 HC.out.2.2.2.2.2.2.1 (by rw [val_lim]; exact Int.ofNat_lt.2 HC.out.2.2.1) (by rw [val_lim]; exact Int.ofNat_lt.2 HC.out.2.2.2.1) (val_nonneg (lim_u32 _)) (val_nonneg (lim_u32 _)), by rw [← HG.out.2.2.2.1]; exact triB_lt HC.out.1 HC.out.2.2.2.2.2.2.1 HC.out.2.2.2.2.2.2.2.1 HC.out.2.2.2.2.2.2.2.2 (val_nonneg HX.out.2.2.2.2.2.2.2.2.2.1) (val_nonneg HX.out.2.2.2.2.2.2.2.2.2.2.1)⟩
  have HF : Hid (∀ W, Below wd.heap.size wd W → Fld W (.slice a1 n1 c1) C.p) := fun W hW => ⟨HX.out.1.2.1.below (below_via (below_via (below_via H0.out.2.2.2 H2.out.2.2 (Nat.le_refl _)) HD.out.1 (Nat.le_refl _)) hW (Nat.le_refl _)), HC.out.1, HC.out.2.1⟩
  obtain ⟨h, hh⟩ : ∃ x, jsm C.p g q = x := ⟨_, rfl⟩
  have HH : Hid (jsm C.p g q = h) := hh
  clear hh
  go_wp2_with fail
  go_cut [12] from 17 (fun s12 we => ∃ b12, s12 = .pointer (some ⟨b12, 0, none⟩) ∧ Hid (Below wd.heap.size wd we ∧ wd.heap.size ≤ b12 ∧ TabB we b12 (.slice ga0 gn0 gc0) (.slice ga1 gn1 gc1) (.slice ga2 gn2 gc2) (.slice qa0 qn0 qc0) (.slice qa1 qn1 qc1) (.slice qa2 qn2 qc2) h))
  case first =>
    have HSm : Hid (∀ W, Below wd.heap.size wd W → Calls Try.prog 26 #[.slice a1 n1 c1, (.agg #[.slice ga0 gn0 gc0, .slice ga1 gn1 gc1, .slice ga2 gn2 gc2]), (.agg #[.slice qa0 qn0 qc0, .slice qa1 qn1 qc1, .slice qa2 qn2 qc2])] W fun e w' => ∃ r0 r1 r2, e = .returned (.agg #[r0, r1, r2]) ∧ Nb w' r0 h.1 ∧ Nb w' r1 h.2.1 ∧ Nb w' r2 h.2.2 ∧ Below W.heap.size W w') := fun W hW => by have := Tsum (w := W) (.slice a1 n1 c1) (.slice ga0 gn0 gc0) (.slice ga1 gn1 gc1) (.slice ga2 gn2 gc2) (.slice qa0 qn0 qc0) (.slice qa1 qn1 qc1) (.slice qa2 qn2 qc2) C.p g.1 g.2.1 g.2.2 q.1 q.2.1 q.2.2 (HF.out W hW) (HGQ.out.2.2.1.below hW) (HGQ.out.2.2.2.1.below hW) (HGQ.out.2.2.2.2.1.below hW) (HGQ.out.2.2.2.2.2.1.below hW) (HGQ.out.2.2.2.2.2.2.1.below hW) (HGQ.out.2.2.2.2.2.2.2.below hW) HL3.out.1.1 HL3.out.1.2.1 HL3.out.1.2.2 HL3.out.2.1 HL3.out.2.2.1 HL3.out.2.2.2; rw [show ((g.1, g.2.1, g.2.2) : Nat × Nat × Nat) = g from rfl, show ((q.1, q.2.1, q.2.2) : Nat × Nat × Nat) = q from rfl, HH.out] at this; exact this
    refine wp_region_inv (fun L a W => ∃ s12 s40 s41 s42 s43 s44 s45 s46 s47, L.size = 10 ∧ a = { tmps := List.toArray (.agg #[.int .i64 (s : Nat), .slice a1 n1 c1, .slice a2 n2 c2, .slice a3 n3 c3, .slice a4 n4 c4, .slice a5 n5 c5] :: .slice ga la gc :: .slice ha lb hc :: .agg #[.slice xa xn xc, .slice ya yn yc] :: .pointer (some ⟨w.heap.size, 0, none⟩) :: undef :: undef :: .pointer (some ⟨w.heap.size + 1, 0, none⟩) :: .pointer (some ⟨w.heap.size + 1 + 1, 0, none⟩) :: .slice a1 n1 c1 :: .pointer (some ⟨b10, 0, none⟩) :: .pointer (some ⟨b11, 0, none⟩) :: s12 :: undef :: undef :: undef :: undef :: u17 :: u18 :: u19 :: u20 :: u21 :: u22 :: u23 :: u24 :: u25 :: u26 :: u27 :: u28 :: u29 :: u30 :: u31 :: u32 :: u33 :: u34 :: u35 :: u36 :: u37 :: u38 :: u39 :: s40 :: s41 :: s42 :: s43 :: s44 :: s45 :: s46 :: s47 :: u48 :: u49 :: u50 :: u51 :: u52 :: u53 :: u54 :: u55 :: u56 :: u57 :: u58 :: u59 :: u60 :: u61 :: u62 :: u63 :: u64 :: u65 :: u66 :: u67 :: u68 :: u69 :: u70 :: u71 :: u72 :: u73 :: u74 :: u75 :: u76 :: u77 :: u78 :: u79 :: []), defers := [] } ∧ InvM5 wd (.slice a1 n1 c1) (.agg #[.slice none 0 0, .slice none 0 0, .slice none 0 0]) (.agg #[.slice ga0 gn0 gc0, .slice ga1 gn1 gc1, .slice ga2 gn2 gc2]) (.agg #[.slice qa0 qn0 qc0, .slice qa1 qn1 qc1, .slice qa2 qn2 qc2]) (.slice ga0 gn0 gc0) (.slice ga1 gn1 gc1) (.slice ga2 gn2 gc2) (.slice qa0 qn0 qc0) (.slice qa1 qn1 qc1) (.slice qa2 qn2 qc2) h L s12 s40 s41 s42 s43 s44 s45 s46 s47 W) (by kernel_rfl) (by kernel_rfl) ?_ ?_ ?_
    · refine ⟨undef, u40, u41, u42, u43, u44, u45, u46, u47, by simp, rfl, ?_⟩
      exact { bel := Below.drew (Below.refl _ _), k0 := fun u => absurd u not_up_new, k1 := fun u => absurd u not_up_new, k2 := fun u => absurd u not_up_new, k3 := fun u => absurd u not_up_new, k4 := fun u => absurd u not_up_new, k5 := fun u => absurd u not_up_new, k6 := fun u => absurd u not_up_new, k7 := fun u => absurd u not_up_new, k8 := fun u => absurd u not_up_new, k9 := fun u => absurd u not_up_new }
    · rintro L a W hup ⟨s12, s40, s41, s42, s43, s44, s45, s46, s47, hsz, rfl, hI⟩
      obtain ⟨b12, rfl, gb, _, t12⟩ := hI.k8 (hup 8 (by decide))
      have HZ : Hid (Below wd.heap.size wd W ∧ wd.heap.size ≤ b12 ∧ TabB W b12 (.slice ga0 gn0 gc0) (.slice ga1 gn1 gc1) (.slice ga2 gn2 gc2) (.slice qa0 qn0 qc0) (.slice qa1 qn1 qc1) (.slice qa2 qn2 qc2) h) := ⟨hI.bel, gb, t12 (hup 9 (by decide))⟩
      clear hI t12
      go_wp2
      go_meet
      case rel => exact ⟨b12, rfl, HZ.out⟩
    · rintro i L a W hi hno hdep ⟨s12, s40, s41, s42, s43, s44, s45, s46, s47, hsz, rfl, hI⟩
      have hlt : ∀ k, k < 10 → k < L.size := fun k hk => by omega
      replace hi : i < 10 := hi
      obtain rfl | rfl | rfl | rfl | rfl | rfl | rfl | rfl | rfl | rfl : i = 0 ∨ i = 1 ∨ i = 2 ∨ i = 3 ∨ i = 4 ∨ i = 5 ∨ i = 6 ∨ i = 7 ∨ i = 8 ∨ i = 9 := by omega
      · have HI : Hid (InvM5 wd (.slice a1 n1 c1) (.agg #[.slice none 0 0, .slice none 0 0, .slice none 0 0]) (.agg #[.slice ga0 gn0 gc0, .slice ga1 gn1 gc1, .slice ga2 gn2 gc2]) (.agg #[.slice qa0 qn0 qc0, .slice qa1 qn1 qc1, .slice qa2 qn2 qc2]) (.slice ga0 gn0 gc0) (.slice ga1 gn1 gc1) (.slice ga2 gn2 gc2) (.slice qa0 qn0 qc0) (.slice qa1 qn1 qc1) (.slice qa2 qn2 qc2) h L s12 s40 s41 s42 s43 s44 s45 s46 s47 W) := hI
        clear hI
        have hbd : (Instr.build 58 #[]).run Try.prog W = .ok (.agg #[.slice none 0 0, .slice none 0 0, .slice none 0 0]) W := run_build W 58 _ _ (by kernel_rfl)
        refine wpOp_step rfl (fun K hK => ?_)
        go_simp
        replace hI := HI.out
        exact hK _ _ ⟨s12, (.agg #[.slice none 0 0, .slice none 0 0, .slice none 0 0]), s41, s42, s43, s44, s45, s46, s47, by simp [hsz], rfl, { bel := hI.bel, k0 := fun _ => rfl, k1 := fun u => hI.k1 (up_set u (by decide)), k2 := fun u => hI.k2 (up_set u (by decide)), k3 := fun u => hI.k3 (up_set u (by decide)), k4 := fun u => hI.k4 (up_set u (by decide)), k5 := fun u => hI.k5 (up_set u (by decide)), k6 := fun u => hI.k6 (up_set u (by decide)), k7 := fun u => hI.k7 (up_set u (by decide)), k8 := fun u => by obtain ⟨b, e, hl, h1, h2⟩ := hI.k8 (up_set u (by decide)); exact ⟨b, e, hl, fun z => h1 (fun y => z (up_mono2 y (by decide))), fun z => h2 (up_set z (by decide))⟩, k9 := fun u => up_mono2 (hI.k9 (up_set u (by decide))) (by decide) }⟩
      · have HI : Hid (InvM5 wd (.slice a1 n1 c1) (.agg #[.slice none 0 0, .slice none 0 0, .slice none 0 0]) (.agg #[.slice ga0 gn0 gc0, .slice ga1 gn1 gc1, .slice ga2 gn2 gc2]) (.agg #[.slice qa0 qn0 qc0, .slice qa1 qn1 qc1, .slice qa2 qn2 qc2]) (.slice ga0 gn0 gc0) (.slice ga1 gn1 gc1) (.slice ga2 gn2 gc2) (.slice qa0 qn0 qc0) (.slice qa1 qn1 qc1) (.slice qa2 qn2 qc2) h L s12 s40 s41 s42 s43 s44 s45 s46 s47 W) := hI
        clear hI
        refine wpOp_step rfl (fun K hK => ?_)
        rw [if_pos (by rfl)]
        refine wp_load_mid _ _ rfl b10 0 rfl [.slice ga0 gn0 gc0, .slice ga1 gn1 gc1, .slice ga2 gn2 gc2] _ (below_blk HI.out.bel HGQ.out.1.lt HGQ.out.1).whole Try.underlying58 rfl (by kernel_rfl) ?_
        replace hI := HI.out
        simp only [Act.put, List.setIfInBounds_toArray]
        exact hK _ _ ⟨s12, s40, (.agg #[.slice ga0 gn0 gc0, .slice ga1 gn1 gc1, .slice ga2 gn2 gc2]), s42, s43, s44, s45, s46, s47, by simp [hsz], rfl, { bel := hI.bel, k0 := fun u => hI.k0 (up_set u (by decide)), k1 := fun _ => rfl, k2 := fun u => hI.k2 (up_set u (by decide)), k3 := fun u => hI.k3 (up_set u (by decide)), k4 := fun u => hI.k4 (up_set u (by decide)), k5 := fun u => hI.k5 (up_set u (by decide)), k6 := fun u => hI.k6 (up_set u (by decide)), k7 := fun u => hI.k7 (up_set u (by decide)), k8 := fun u => by obtain ⟨b, e, hl, h1, h2⟩ := hI.k8 (up_set u (by decide)); exact ⟨b, e, hl, fun z => h1 (fun y => z (up_mono2 y (by decide))), fun z => h2 (up_set z (by decide))⟩, k9 := fun u => up_mono2 (hI.k9 (up_set u (by decide))) (by decide) }⟩
      · have HI : Hid (InvM5 wd (.slice a1 n1 c1) (.agg #[.slice none 0 0, .slice none 0 0, .slice none 0 0]) (.agg #[.slice ga0 gn0 gc0, .slice ga1 gn1 gc1, .slice ga2 gn2 gc2]) (.agg #[.slice qa0 qn0 qc0, .slice qa1 qn1 qc1, .slice qa2 qn2 qc2]) (.slice ga0 gn0 gc0) (.slice ga1 gn1 gc1) (.slice ga2 gn2 gc2) (.slice qa0 qn0 qc0) (.slice qa1 qn1 qc1) (.slice qa2 qn2 qc2) h L s12 s40 s41 s42 s43 s44 s45 s46 s47 W) := hI
        clear hI
        refine wpOp_step rfl (fun K hK => ?_)
        rw [if_pos (by rfl)]
        refine wp_load_mid _ _ rfl b11 0 rfl [.slice qa0 qn0 qc0, .slice qa1 qn1 qc1, .slice qa2 qn2 qc2] _ (below_blk HI.out.bel HGQ.out.2.1.lt HGQ.out.2.1).whole Try.underlying58 rfl (by kernel_rfl) ?_
        replace hI := HI.out
        simp only [Act.put, List.setIfInBounds_toArray]
        exact hK _ _ ⟨s12, s40, s41, (.agg #[.slice qa0 qn0 qc0, .slice qa1 qn1 qc1, .slice qa2 qn2 qc2]), s43, s44, s45, s46, s47, by simp [hsz], rfl, { bel := hI.bel, k0 := fun u => hI.k0 (up_set u (by decide)), k1 := fun u => hI.k1 (up_set u (by decide)), k2 := fun _ => rfl, k3 := fun u => hI.k3 (up_set u (by decide)), k4 := fun u => hI.k4 (up_set u (by decide)), k5 := fun u => hI.k5 (up_set u (by decide)), k6 := fun u => hI.k6 (up_set u (by decide)), k7 := fun u => hI.k7 (up_set u (by decide)), k8 := fun u => by obtain ⟨b, e, hl, h1, h2⟩ := hI.k8 (up_set u (by decide)); exact ⟨b, e, hl, fun z => h1 (fun y => z (up_mono2 y (by decide))), fun z => h2 (up_set z (by decide))⟩, k9 := fun u => up_mono2 (hI.k9 (up_set u (by decide))) (by decide) }⟩
      · have HI : Hid (InvM5 wd (.slice a1 n1 c1) (.agg #[.slice none 0 0, .slice none 0 0, .slice none 0 0]) (.agg #[.slice ga0 gn0 gc0, .slice ga1 gn1 gc1, .slice ga2 gn2 gc2]) (.agg #[.slice qa0 qn0 qc0, .slice qa1 qn1 qc1, .slice qa2 qn2 qc2]) (.slice ga0 gn0 gc0) (.slice ga1 gn1 gc1) (.slice ga2 gn2 gc2) (.slice qa0 qn0 qc0) (.slice qa1 qn1 qc1) (.slice qa2 qn2 qc2) h L s12 s40 s41 s42 s43 s44 s45 s46 s47 W) := hI
        clear hI
        refine wpOp_step rfl (fun K hK => ?_)
        go_simp
        replace hI := HI.out
        exact hK _ _ ⟨s12, s40, s41, s42, .slice a1 n1 c1, s44, s45, s46, s47, by simp [hsz], rfl, { bel := hI.bel, k0 := fun u => hI.k0 (up_set u (by decide)), k1 := fun u => hI.k1 (up_set u (by decide)), k2 := fun u => hI.k2 (up_set u (by decide)), k3 := fun _ => rfl, k4 := fun u => hI.k4 (up_set u (by decide)), k5 := fun u => hI.k5 (up_set u (by decide)), k6 := fun u => hI.k6 (up_set u (by decide)), k7 := fun u => hI.k7 (up_set u (by decide)), k8 := fun u => by obtain ⟨b, e, hl, h1, h2⟩ := hI.k8 (up_set u (by decide)); exact ⟨b, e, hl, fun z => h1 (fun y => z (up_mono2 y (by decide))), fun z => h2 (up_set z (by decide))⟩, k9 := fun u => up_mono2 (hI.k9 (up_set u (by decide))) (by decide) }⟩
      · have HI : Hid (InvM5 wd (.slice a1 n1 c1) (.agg #[.slice none 0 0, .slice none 0 0, .slice none 0 0]) (.agg #[.slice ga0 gn0 gc0, .slice ga1 gn1 gc1, .slice ga2 gn2 gc2]) (.agg #[.slice qa0 qn0 qc0, .slice qa1 qn1 qc1, .slice qa2 qn2 qc2]) (.slice ga0 gn0 gc0) (.slice ga1 gn1 gc1) (.slice ga2 gn2 gc2) (.slice qa0 qn0 qc0) (.slice qa1 qn1 qc1) (.slice qa2 qn2 qc2) h L s12 s40 s41 s42 s43 s44 s45 s46 s47 W) := hI
        clear hI
        refine wpOp_step rfl (fun K hK => ?_)
        rw [if_pos (by rfl)]
        refine wp_load_mid _ _ rfl b10 0 rfl [.slice ga0 gn0 gc0, .slice ga1 gn1 gc1, .slice ga2 gn2 gc2] _ (below_blk HI.out.bel HGQ.out.1.lt HGQ.out.1).whole Try.underlying58 rfl (by kernel_rfl) ?_
        replace hI := HI.out
        simp only [Act.put, List.setIfInBounds_toArray]
        exact hK _ _ ⟨s12, s40, s41, s42, s43, (.agg #[.slice ga0 gn0 gc0, .slice ga1 gn1 gc1, .slice ga2 gn2 gc2]), s45, s46, s47, by simp [hsz], rfl, { bel := hI.bel, k0 := fun u => hI.k0 (up_set u (by decide)), k1 := fun u => hI.k1 (up_set u (by decide)), k2 := fun u => hI.k2 (up_set u (by decide)), k3 := fun u => hI.k3 (up_set u (by decide)), k4 := fun _ => rfl, k5 := fun u => hI.k5 (up_set u (by decide)), k6 := fun u => hI.k6 (up_set u (by decide)), k7 := fun u => hI.k7 (up_set u (by decide)), k8 := fun u => by obtain ⟨b, e, hl, h1, h2⟩ := hI.k8 (up_set u (by decide)); exact ⟨b, e, hl, fun z => h1 (fun y => z (up_mono2 y (by decide))), fun z => h2 (up_set z (by decide))⟩, k9 := fun u => up_mono2 (hI.k9 (up_set u (by decide))) (by decide) }⟩
      · have HI : Hid (InvM5 wd (.slice a1 n1 c1) (.agg #[.slice none 0 0, .slice none 0 0, .slice none 0 0]) (.agg #[.slice ga0 gn0 gc0, .slice ga1 gn1 gc1, .slice ga2 gn2 gc2]) (.agg #[.slice qa0 qn0 qc0, .slice qa1 qn1 qc1, .slice qa2 qn2 qc2]) (.slice ga0 gn0 gc0) (.slice ga1 gn1 gc1) (.slice ga2 gn2 gc2) (.slice qa0 qn0 qc0) (.slice qa1 qn1 qc1) (.slice qa2 qn2 qc2) h L s12 s40 s41 s42 s43 s44 s45 s46 s47 W) := hI
        clear hI
        refine wpOp_step rfl (fun K hK => ?_)
        rw [if_pos (by rfl)]
        refine wp_load_mid _ _ rfl b11 0 rfl [.slice qa0 qn0 qc0, .slice qa1 qn1 qc1, .slice qa2 qn2 qc2] _ (below_blk HI.out.bel HGQ.out.2.1.lt HGQ.out.2.1).whole Try.underlying58 rfl (by kernel_rfl) ?_
        replace hI := HI.out
        simp only [Act.put, List.setIfInBounds_toArray]
        exact hK _ _ ⟨s12, s40, s41, s42, s43, s44, (.agg #[.slice qa0 qn0 qc0, .slice qa1 qn1 qc1, .slice qa2 qn2 qc2]), s46, s47, by simp [hsz], rfl, { bel := hI.bel, k0 := fun u => hI.k0 (up_set u (by decide)), k1 := fun u => hI.k1 (up_set u (by decide)), k2 := fun u => hI.k2 (up_set u (by decide)), k3 := fun u => hI.k3 (up_set u (by decide)), k4 := fun u => hI.k4 (up_set u (by decide)), k5 := fun _ => rfl, k6 := fun u => hI.k6 (up_set u (by decide)), k7 := fun u => hI.k7 (up_set u (by decide)), k8 := fun u => by obtain ⟨b, e, hl, h1, h2⟩ := hI.k8 (up_set u (by decide)); exact ⟨b, e, hl, fun z => h1 (fun y => z (up_mono2 y (by decide))), fun z => h2 (up_set z (by decide))⟩, k9 := fun u => up_mono2 (hI.k9 (up_set u (by decide))) (by decide) }⟩
      · have HI : Hid (InvM5 wd (.slice a1 n1 c1) (.agg #[.slice none 0 0, .slice none 0 0, .slice none 0 0]) (.agg #[.slice ga0 gn0 gc0, .slice ga1 gn1 gc1, .slice ga2 gn2 gc2]) (.agg #[.slice qa0 qn0 qc0, .slice qa1 qn1 qc1, .slice qa2 qn2 qc2]) (.slice ga0 gn0 gc0) (.slice ga1 gn1 gc1) (.slice ga2 gn2 gc2) (.slice qa0 qn0 qc0) (.slice qa1 qn1 qc1) (.slice qa2 qn2 qc2) h L s12 s40 s41 s42 s43 s44 s45 s46 s47 W) := hI
        clear hI
        obtain rfl := HI.out.k3 (hdep 3 (by decide +kernel))
        obtain rfl := HI.out.k4 (hdep 4 (by decide +kernel))
        obtain rfl := HI.out.k5 (hdep 5 (by decide +kernel))
        refine wpOp_step rfl (fun K hK => ?_)
        go_simp
        refine (HSm.out W HI.out.bel).mono ?_
        rintro e W' ⟨r0, r1, r2, rfl, h0, h1, h2, hb⟩
        obtain ⟨x0, y0, rfl⟩ := h0.form
        obtain ⟨x1, y1, rfl⟩ := h1.form
        obtain ⟨x2, y2, rfl⟩ := h2.form
        replace hI := HI.out.to hb
        simp only []
        go_simp
        exact hK _ _ ⟨s12, s40, s41, s42, .slice a1 n1 c1, (.agg #[.slice ga0 gn0 gc0, .slice ga1 gn1 gc1, .slice ga2 gn2 gc2]), (.agg #[.slice qa0 qn0 qc0, .slice qa1 qn1 qc1, .slice qa2 qn2 qc2]), .agg #[.slice x0 _ y0, .slice x1 _ y1, .slice x2 _ y2], s47, by simp [hsz], rfl, { bel := hI.bel, k0 := fun u => hI.k0 (up_set u (by decide)), k1 := fun u => hI.k1 (up_set u (by decide)), k2 := fun u => hI.k2 (up_set u (by decide)), k3 := fun u => hI.k3 (up_set u (by decide)), k4 := fun u => hI.k4 (up_set u (by decide)), k5 := fun u => hI.k5 (up_set u (by decide)), k6 := fun _ => ⟨_, _, _, _, _, _, _, _, _, rfl, h0, h1, h2⟩, k7 := fun u => hI.k7 (up_set u (by decide)), k8 := fun u => by obtain ⟨b, e, hl, h1, h2⟩ := hI.k8 (up_set u (by decide)); exact ⟨b, e, hl, fun z => h1 (fun y => z (up_mono2 y (by decide))), fun z => h2 (up_set z (by decide))⟩, k9 := fun u => up_mono2 (hI.k9 (up_set u (by decide))) (by decide) }⟩
      · have HI : Hid (InvM5 wd (.slice a1 n1 c1) (.agg #[.slice none 0 0, .slice none 0 0, .slice none 0 0]) (.agg #[.slice ga0 gn0 gc0, .slice ga1 gn1 gc1, .slice ga2 gn2 gc2]) (.agg #[.slice qa0 qn0 qc0, .slice qa1 qn1 qc1, .slice qa2 qn2 qc2]) (.slice ga0 gn0 gc0) (.slice ga1 gn1 gc1) (.slice ga2 gn2 gc2) (.slice qa0 qn0 qc0) (.slice qa1 qn1 qc1) (.slice qa2 qn2 qc2) h L s12 s40 s41 s42 s43 s44 s45 s46 s47 W) := hI
        clear hI
        obtain rfl := HI.out.k0 (hdep 0 (by decide +kernel))
        obtain rfl := HI.out.k1 (hdep 1 (by decide +kernel))
        obtain rfl := HI.out.k2 (hdep 2 (by decide +kernel))
        obtain ⟨x0, y0, z0, x1, y1, z1, x2, y2, z2, rfl, h0, h1, h2⟩ := HI.out.k6 (hdep 6 (by decide +kernel))
        have HN3 : Hid (Nb W (.slice x0 y0 z0) h.1 ∧ Nb W (.slice x1 y1 z1) h.2.1 ∧ Nb W (.slice x2 y2 z2) h.2.2) := ⟨h0, h1, h2⟩
        clear h0 h1 h2
        have hbd : (Instr.build 102 #[(0, (.agg #[.slice none 0 0, .slice none 0 0, .slice none 0 0])), (1, (.agg #[.slice ga0 gn0 gc0, .slice ga1 gn1 gc1, .slice ga2 gn2 gc2])), (2, (.agg #[.slice qa0 qn0 qc0, .slice qa1 qn1 qc1, .slice qa2 qn2 qc2])), (3, (.agg #[.slice x0 y0 z0, .slice x1 y1 z1, .slice x2 y2 z2]))]).run Try.prog W = .ok (.agg (TabC (.slice ga0 gn0 gc0) (.slice ga1 gn1 gc1) (.slice ga2 gn2 gc2) (.slice qa0 qn0 qc0) (.slice qa1 qn1 qc1) (.slice qa2 qn2 qc2) (.slice x0 y0 z0) (.slice x1 y1 z1) (.slice x2 y2 z2)).toArray) W := run_build W 102 _ _ (by kernel_rfl)
        refine wpOp_step rfl (fun K hK => ?_)
        go_simp
        replace hI := HI.out
        exact hK _ _ ⟨s12, (.agg #[.slice none 0 0, .slice none 0 0, .slice none 0 0]), (.agg #[.slice ga0 gn0 gc0, .slice ga1 gn1 gc1, .slice ga2 gn2 gc2]), (.agg #[.slice qa0 qn0 qc0, .slice qa1 qn1 qc1, .slice qa2 qn2 qc2]), s43, s44, s45, (.agg #[.slice x0 y0 z0, .slice x1 y1 z1, .slice x2 y2 z2]), .agg (TabC (.slice ga0 gn0 gc0) (.slice ga1 gn1 gc1) (.slice ga2 gn2 gc2) (.slice qa0 qn0 qc0) (.slice qa1 qn1 qc1) (.slice qa2 qn2 qc2) (.slice x0 y0 z0) (.slice x1 y1 z1) (.slice x2 y2 z2)).toArray, by simp [hsz], rfl, { bel := hI.bel, k0 := fun u => hI.k0 (up_set u (by decide)), k1 := fun u => hI.k1 (up_set u (by decide)), k2 := fun u => hI.k2 (up_set u (by decide)), k3 := fun u => hI.k3 (up_set u (by decide)), k4 := fun u => hI.k4 (up_set u (by decide)), k5 := fun u => hI.k5 (up_set u (by decide)), k6 := fun u => hI.k6 (up_set u (by decide)), k7 := fun _ => ⟨x0, y0, z0, x1, y1, z1, x2, y2, z2, rfl, HN3.out⟩, k8 := fun u => by obtain ⟨b, e, hl, h1, h2⟩ := hI.k8 (up_set u (by decide)); exact ⟨b, e, hl, fun z => h1 (fun y => z (up_mono2 y (by decide))), fun z => h2 (up_set z (by decide))⟩, k9 := fun u => up_mono2 (hI.k9 (up_set u (by decide))) (by decide) }⟩
      · have HI : Hid (InvM5 wd (.slice a1 n1 c1) (.agg #[.slice none 0 0, .slice none 0 0, .slice none 0 0]) (.agg #[.slice ga0 gn0 gc0, .slice ga1 gn1 gc1, .slice ga2 gn2 gc2]) (.agg #[.slice qa0 qn0 qc0, .slice qa1 qn1 qc1, .slice qa2 qn2 qc2]) (.slice ga0 gn0 gc0) (.slice ga1 gn1 gc1) (.slice ga2 gn2 gc2) (.slice qa0 qn0 qc0) (.slice qa1 qn1 qc1) (.slice qa2 qn2 qc2) h L s12 s40 s41 s42 s43 s44 s45 s46 s47 W) := hI
        clear hI
        refine wpOp_step rfl (fun K hK => ?_)
        go_simp
        replace hI := HI.out.to (al1 (w := W) (.cells z12.toArray 102))
        exact hK _ _ ⟨.pointer (some ⟨W.heap.size, 0, none⟩), s40, s41, s42, s43, s44, s45, s46, s47, by simp [hsz], rfl, { bel := hI.bel, k0 := fun u => hI.k0 (up_set u (by decide)), k1 := fun u => hI.k1 (up_set u (by decide)), k2 := fun u => hI.k2 (up_set u (by decide)), k3 := fun u => hI.k3 (up_set u (by decide)), k4 := fun u => hI.k4 (up_set u (by decide)), k5 := fun u => hI.k5 (up_set u (by decide)), k6 := fun u => hI.k6 (up_set u (by decide)), k7 := fun u => hI.k7 (up_set u (by decide)), k8 := fun _ => ⟨W.heap.size, rfl, HI.out.bel.size, fun _ => Blk.new _ W z12, fun u => absurd (HI.out.k9 (up_set u (by decide))) hno⟩, k9 := fun _ => by unfold Up; simp [hlt] }⟩
      · have HI : Hid (InvM5 wd (.slice a1 n1 c1) (.agg #[.slice none 0 0, .slice none 0 0, .slice none 0 0]) (.agg #[.slice ga0 gn0 gc0, .slice ga1 gn1 gc1, .slice ga2 gn2 gc2]) (.agg #[.slice qa0 qn0 qc0, .slice qa1 qn1 qc1, .slice qa2 qn2 qc2]) (.slice ga0 gn0 gc0) (.slice ga1 gn1 gc1) (.slice ga2 gn2 gc2) (.slice qa0 qn0 qc0) (.slice qa1 qn1 qc1) (.slice qa2 qn2 qc2) h L s12 s40 s41 s42 s43 s44 s45 s46 s47 W) := hI
        clear hI
        obtain ⟨b, rfl, gb, hz, _⟩ := HI.out.k8 (hdep 8 (by decide +kernel))
        obtain ⟨x0, y0, z0, x1, y1, z1, x2, y2, z2, rfl, h0, h1, h2⟩ := HI.out.k7 (hdep 7 (by decide +kernel))
        have hB := hz hno
        have HS : Hid (Nb W (.slice x0 y0 z0) h.1 ∧ Nb W (.slice x1 y1 z1) h.2.1 ∧ Nb W (.slice x2 y2 z2) h.2.2 ∧ Blk 102 W b z12 ∧ wd.heap.size ≤ b) := ⟨h0, h1, h2, hB, gb⟩
        clear h0 h1 h2 hB gb hz
        have hsl : AllSl (TabC (.slice ga0 gn0 gc0) (.slice ga1 gn1 gc1) (.slice ga2 gn2 gc2) (.slice qa0 qn0 qc0) (.slice qa1 qn1 qc1) (.slice qa2 qn2 qc2) (.slice x0 y0 z0) (.slice x1 y1 z1) (.slice x2 y2 z2)) := AllSl.cons (AllSl.cons (AllSl.cons (AllSl.cons (AllSl.cons (AllSl.cons (AllSl.cons (AllSl.cons (AllSl.cons (AllSl.cons (AllSl.cons (AllSl.cons (AllSl.nil))))))))))))
        have HSl : Hid (AllSl (TabC (.slice ga0 gn0 gc0) (.slice ga1 gn1 gc1) (.slice ga2 gn2 gc2) (.slice qa0 qn0 qc0) (.slice qa1 qn1 qc1) (.slice qa2 qn2 qc2) (.slice x0 y0 z0) (.slice x1 y1 z1) (.slice x2 y2 z2))) := hsl
        clear hsl
        refine wpOp_step rfl (fun K hK => ?_)
        rw [if_pos (by rfl)]
        refine wp_store_mid _ _ _ rfl b 0 (TabC (.slice ga0 gn0 gc0) (.slice ga1 gn1 gc1) (.slice ga2 gn2 gc2) (.slice qa0 qn0 qc0) (.slice qa1 qn1 qc1) (.slice qa2 qn2 qc2) (.slice x0 y0 z0) (.slice x1 y1 z1) (.slice x2 y2 z2)).toArray rfl rfl (HS.out.2.2.2.1.there 0 _ (by simp [TabC, z12])) (by kernel_rfl) HSl.out.one ?_
        obtain ⟨h0, h1, h2, hB, gb⟩ := HS.out
        have hU : Upd W (W.setCells b 0 (TabC (.slice ga0 gn0 gc0) (.slice ga1 gn1 gc1) (.slice ga2 gn2 gc2) (.slice qa0 qn0 qc0) (.slice qa1 qn1 qc1) (.slice qa2 qn2 qc2) (.slice x0 y0 z0) (.slice x1 y1 z1) (.slice x2 y2 z2))) b := Upd.setCells _ 0 W
        have hF : Blk 102 (W.setCells b 0 (TabC (.slice ga0 gn0 gc0) (.slice ga1 gn1 gc1) (.slice ga2 gn2 gc2) (.slice qa0 qn0 qc0) (.slice qa1 qn1 qc1) (.slice qa2 qn2 qc2) (.slice x0 y0 z0) (.slice x1 y1 z1) (.slice x2 y2 z2))) b (TabC (.slice ga0 gn0 gc0) (.slice ga1 gn1 gc1) (.slice ga2 gn2 gc2) (.slice qa0 qn0 qc0) (.slice qa1 qn1 qc1) (.slice qa2 qn2 qc2) (.slice x0 y0 z0) (.slice x1 y1 z1) (.slice x2 y2 z2)) := hB.fill _ rfl
        have hI := HI.out
        simp only [Act.put, List.setIfInBounds_toArray]
        exact hK _ _ ⟨.pointer (some ⟨b, 0, none⟩), s40, s41, s42, s43, s44, s45, s46, .agg (TabC (.slice ga0 gn0 gc0) (.slice ga1 gn1 gc1) (.slice ga2 gn2 gc2) (.slice qa0 qn0 qc0) (.slice qa1 qn1 qc1) (.slice qa2 qn2 qc2) (.slice x0 y0 z0) (.slice x1 y1 z1) (.slice x2 y2 z2)).toArray, by simp [hsz], rfl, { bel := hU.below hI.bel hI.bel.size gb, k0 := fun u => hI.k0 (up_set u (by decide)), k1 := fun u => hI.k1 (up_set u (by decide)), k2 := fun u => hI.k2 (up_set u (by decide)), k3 := fun u => hI.k3 (up_set u (by decide)), k4 := fun u => hI.k4 (up_set u (by decide)), k5 := fun u => hI.k5 (up_set u (by decide)), k6 := fun u => by obtain ⟨p0, p1, p2, p3, p4, p5, p6, p7, p8, e, i0, i1, i2⟩ := hI.k6 (up_set u (by decide)); exact ⟨p0, p1, p2, p3, p4, p5, p6, p7, p8, e, i0.upd hB (z12_sl.nn _) hU, i1.upd hB (z12_sl.nn _) hU, i2.upd hB (z12_sl.nn _) hU⟩, k7 := fun _ => ⟨x0, y0, z0, x1, y1, z1, x2, y2, z2, rfl, h0.upd hB (z12_sl.nn _) hU, h1.upd hB (z12_sl.nn _) hU, h2.upd hB (z12_sl.nn _) hU⟩, k8 := fun _ => ⟨b, rfl, gb, fun z => absurd (by unfold Up; simp [hlt]) z, fun _ => ⟨x0, y0, z0, x1, y1, z1, x2, y2, z2, hF, h0.upd hB (z12_sl.nn _) hU, h1.upd hB (z12_sl.nn _) hU, h2.upd hB (z12_sl.nn _) hU⟩⟩, k9 := fun _ => up_mono2 (hdep 8 (by decide +kernel)) (by decide) }⟩
  obtain ⟨b12, rfl, HE⟩ := hcut
  obtain ⟨we, hwe⟩ : ∃ x, x = wc := ⟨_, rfl⟩
  subst hwe
  -- LOOP
  obtain ⟨x0, y0, z0, x1, y1, z1, x2, y2, z2, hTab, hh0, hh1, hh2⟩ := HE.out.2.2
  have HTb : Hid (Blk 102 we b12 (TabC (.slice ga0 gn0 gc0) (.slice ga1 gn1 gc1) (.slice ga2 gn2 gc2) (.slice qa0 qn0 qc0) (.slice qa1 qn1 qc1) (.slice qa2 qn2 qc2) (.slice x0 y0 z0) (.slice x1 y1 z1) (.slice x2 y2 z2)) ∧ Nb we (.slice x0 y0 z0) h.1 ∧ Nb we (.slice x1 y1 z1) h.2.1 ∧ Nb we (.slice x2 y2 z2) h.2.2) := ⟨hTab, hh0, hh1, hh2⟩
  clear hTab hh0 hh1 hh2
  go_upto_region 7 with (fail)
  refine wp_gen (fun W => TriB W we.heap.size (0, 0, 0) ∧ Below we.heap.size we W) ⟨⟨none, 0, 0, none, 0, 0, none, 0, 0, Blk.new _ we z3, nil_nb _, nil_nb _, nil_nb _⟩, al1 _⟩ ?_
  rintro W6 ⟨hS6, hb6⟩
  have H6 : Hid (TriB W6 we.heap.size (0, 0, 0) ∧ Below we.heap.size we W6) := ⟨hS6, hb6⟩
  clear hS6 hb6
  obtain ⟨N, hN⟩ : ∃ x, mixN a' b' = x := ⟨_, rfl⟩
  have HWd : Hid (∀ W, Below we.heap.size we W → Below w2.heap.size w2 W ∧ Below wd.heap.size wd W) := fun W hW => ⟨below_via (below_via HD.out.1 HE.out.1 (Nat.le_refl _)) hW (Nat.le_refl _), below_via HE.out.1 hW (Nat.le_refl _)⟩
  have HNa : Hid (a' < 4294967296 ^ 12 ∧ b' < 4294967296 ^ 12) := ⟨by rw [← HG.out.1]; exact Nat.lt_trans (Nat.mod_lt _ HC.out.2.2.2.2.1) HC.out.2.2.2.2.2.1, by rw [← HG.out.2.1]; exact Nat.lt_trans (Nat.mod_lt _ HC.out.2.2.2.2.1) HC.out.2.2.2.2.2.1⟩
  have HBL : Hid (bitLen a' ≤ 384 ∧ bitLen b' ≤ 384) := ⟨bit384 HNa.out.1, bit384 HNa.out.2⟩
  have HNN : Hid (mixN a' b' = N ∧ N ≤ 384) := ⟨hN, by rw [← hN]; unfold mixN; have := HBL.out; split <;> omega⟩
  clear hN
  go_cut [14] from 17 (fun s14 wf => s14 = .int .i64 (N : Nat) ∧ Hid (TriB wf we.heap.size (0, 0, 0) ∧ Below we.heap.size we wf))
  case first =>
    have HBa : Hid (∀ W, Below we.heap.size we W → Calls Try.prog 73 #[.slice ga la gc] W fun e w' => e = .returned (.int .i64 (bitLen a')) ∧ Below W.heap.size W w') := fun W hW => by have := Nt.Bits_any (lim a') (.slice ga la gc) W (H2.out.1.below (HWd.out W hW).1) (lim_u32 _) (by have := lim12 HNa.out.1; omega); rw [val_lim, Int.toNat_natCast] at this; exact this
    have HBb : Hid (∀ W, Below we.heap.size we W → Calls Try.prog 73 #[.slice ha lb hc] W fun e w' => e = .returned (.int .i64 (bitLen b')) ∧ Below W.heap.size W w') := fun W hW => by have := Nt.Bits_any (lim b') (.slice ha lb hc) W (H2.out.2.1.below (HWd.out W hW).1) (lim_u32 _) (by have := lim12 HNa.out.2; omega); rw [val_lim, Int.toNat_natCast] at this; exact this
    have HMx : Hid (N = if bitLen a' < bitLen b' then bitLen b' else bitLen a') := HNN.out.1.symm
    obtain ⟨ba, hba⟩ : ∃ x, bitLen a' = x := ⟨_, rfl⟩
    obtain ⟨bb, hbb⟩ : ∃ x, bitLen b' = x := ⟨_, rfl⟩
    rw [hba] at HBa HMx
    rw [hbb] at HBb HMx
    clear hba hbb
    by_cases hlt : ba < bb
    · have hI : (ba : Int) < (bb : Int) := by omega
      obtain rfl : N = bb := HMx.out.trans (if_pos hlt)
      go_wp2_with fail
      refine (HBa.out _ H6.out.2).mono ?_
      rintro e w7 ⟨rfl, hb7⟩
      have H7 : Hid (Below W6.heap.size W6 w7) := hb7
      clear hb7
      go_wp2_with fail
      refine (HBb.out _ (below_via H6.out.2 H7.out (Nat.le_refl _))).mono ?_
      rintro e w8 ⟨rfl, hb8⟩
      have H8 : Hid (Below W6.heap.size W6 w8) := below_via H7.out hb8 (Nat.le_refl _)
      clear hb8
      go_wp2
      go_meet
      case rel => exact ⟨rfl, H6.out.1.below H8.out, below_via H6.out.2 H8.out (Nat.le_refl _)⟩
    · have hI : ¬ (ba : Int) < (bb : Int) := by omega
      obtain rfl : N = ba := HMx.out.trans (if_neg hlt)
      go_wp2_with fail
      refine (HBa.out _ H6.out.2).mono ?_
      rintro e w7 ⟨rfl, hb7⟩
      have H7 : Hid (Below W6.heap.size W6 w7) := hb7
      clear hb7
      go_wp2_with fail
      refine (HBb.out _ (below_via H6.out.2 H7.out (Nat.le_refl _))).mono ?_
      rintro e w8 ⟨rfl, hb8⟩
      have H8 : Hid (Below W6.heap.size W6 w8) := below_via H7.out hb8 (Nat.le_refl _)
      clear hb8
      go_wp2
      go_meet
      case rel => exact ⟨rfl, H6.out.1.below H8.out, below_via H6.out.2 H8.out (Nat.le_refl _)⟩
  obtain ⟨rfl, HF6⟩ := hcut
  obtain ⟨wf, hwf⟩ : ∃ x, x = wc := ⟨_, rfl⟩
  subst hwf
  clear H6
  have hN1 : (N : Int) ≤ 384 := by have := HNN.out.2; omega
  go_wp2
  go_loopw [54] (fun i wr => ∃ k : Nat, i = .int .i64 k ∧ k ≤ N ∧ Hid (TriB wr we.heap.size (mixL C.p g q a' b' N k) ∧ Below we.heap.size we wr)) (fun i _ => N - (intOf i).toNat)
  case atStart => exact ⟨0, rfl, Nat.zero_le _, HF6.out⟩
  case round =>
    clear HF6
    obtain ⟨k, rfl, hk, HW⟩ := hrel
    by_cases hlt : k < N
    · have hltI : (k : Int) < (N : Int) := by omega
      obtain ⟨m, hm⟩ : ∃ m, N - 1 - k = m := ⟨_, rfl⟩
      have hmI : (N : Int) - 1 - (k : Int) = (m : Int) := by omega
      have Hm : Hid (N - 1 - k = m ∧ m < 1073741824) := ⟨hm, by omega⟩
      obtain ⟨t, ht⟩ : ∃ t, mixL C.p g q a' b' N k = t := ⟨_, rfl⟩
      have Ht : Hid (mixL C.p g q a' b' N k = t ∧ Lt3 C.p t) := ⟨ht, ht ▸ mixL_lt HC.out.1 HL3.out.1 HL3.out.2 k⟩
      rw [ht] at HW
      clear ht hm
      obtain ⟨ta0, tn0, tc0, ta1, tn1, tc1, ta2, tn2, tc2, hSb, ht0, ht1, ht2⟩ := HW.out.1
      have HS : Hid (Blk 58 wr we.heap.size [.slice ta0 tn0 tc0, .slice ta1 tn1 tc1, .slice ta2 tn2 tc2] ∧ Nb wr (.slice ta0 tn0 tc0) t.1 ∧ Nb wr (.slice ta1 tn1 tc1) t.2.1 ∧ Nb wr (.slice ta2 tn2 tc2) t.2.2 ∧ Below we.heap.size we wr) := ⟨hSb, ht0, ht1, ht2, HW.out.2⟩
      have s0 : wr.cell? ⟨we.heap.size, 0, none⟩ = some (.slice ta0 tn0 tc0) := hSb.cell 0
      have s1 : wr.cell? ⟨we.heap.size, 1, none⟩ = some (.slice ta1 tn1 tc1) := hSb.cell 1
      have s2 : wr.cell? ⟨we.heap.size, 2, none⟩ = some (.slice ta2 tn2 tc2) := hSb.cell 2
      clear hSb ht0 ht1 ht2 HW
      have HDa : Hid (∀ W, Below we.heap.size we W → Calls Try.prog 74 #[.slice ga la gc, .int .i64 (m : Nat)] W fun e w' => e = .returned (.int .u32 (a' / 2 ^ m % 2 : Nat)) ∧ W = w') := fun W hW => by have := digit_any (lim a') m (.slice ga la gc) W (H2.out.1.below (HWd.out W hW).1) (lim_u32 _) Hm.out.2 (by have := lim12 HNa.out.1; omega); rw [val_lim, Int.toNat_natCast] at this; exact this
      have HDb : Hid (∀ W, Below we.heap.size we W → Calls Try.prog 74 #[.slice ha lb hc, .int .i64 (m : Nat)] W fun e w' => e = .returned (.int .u32 (b' / 2 ^ m % 2 : Nat)) ∧ W = w') := fun W hW => by have := digit_any (lim b') m (.slice ha lb hc) W (H2.out.2.1.below (HWd.out W hW).1) (lim_u32 _) Hm.out.2 (by have := lim12 HNa.out.2; omega); rw [val_lim, Int.toNat_natCast] at this; exact this
      have HSt : Hid (mixL C.p g q a' b' N (k + 1) = jsm C.p (jdb C.p t.1 t.2.1 t.2.2) (stepT C.p g q (a' / 2 ^ m % 2 + 2 * (b' / 2 ^ m % 2)))) := by show mixL C.p g q a' b' N (k + 1) = _; simp only [mixL]; rw [Ht.out.1, Hm.out.1]
      obtain ⟨da, hda⟩ : ∃ d, a' / 2 ^ m % 2 = d := ⟨_, rfl⟩
      obtain ⟨db, hdb⟩ : ∃ d, b' / 2 ^ m % 2 = d := ⟨_, rfl⟩
      have hda2 : da = 0 ∨ da = 1 := by omega
      have hdb2 : db = 0 ∨ db = 1 := by omega
      rw [hda] at HDa HSt
      rw [hdb] at HDb HSt
      clear hda hdb
      obtain ⟨dd, hdd⟩ : ∃ x, jdb C.p t.1 t.2.1 t.2.2 = x := ⟨_, rfl⟩
      have Hdd : Hid (jdb C.p t.1 t.2.1 t.2.2 = dd ∧ Lt3 C.p dd) := ⟨hdd, hdd ▸ jdb_lt HC.out.1⟩
      rw [hdd] at HSt
      clear hdd
      have HDbl : Hid (Calls Try.prog 52 #[.slice a1 n1 c1, .agg #[.slice ta0 tn0 tc0, .slice ta1 tn1 tc1, .slice ta2 tn2 tc2]] wr fun e w' => ∃ r0 r1 r2, e = .returned (.agg #[r0, r1, r2]) ∧ Nb w' r0 dd.1 ∧ Nb w' r1 dd.2.1 ∧ Nb w' r2 dd.2.2 ∧ Below wr.heap.size wr w') := by have := Tdouble (w := wr) (.slice a1 n1 c1) (.slice ta0 tn0 tc0) (.slice ta1 tn1 tc1) (.slice ta2 tn2 tc2) C.p t.1 t.2.1 t.2.2 (HF.out wr (HWd.out wr HS.out.2.2.2.2).2) HS.out.2.1 HS.out.2.2.1 HS.out.2.2.2.1 Ht.out.2.1 Ht.out.2.2.1 Ht.out.2.2.2; rw [Hdd.out.1] at this; exact this
      rcases hda2 with rfl | rfl <;> rcases hdb2 with rfl | rfl
      · replace HSt : Hid (mixL C.p g q a' b' N (k + 1) = jsm C.p dd (0, 0, 0)) := HSt.out.trans (by rfl)
        go_wp2_with fail
        refine HDbl.out.mono ?_
        rintro e w9 ⟨r0, r1, r2, rfl, h0, h1, h2, hb9⟩
        obtain ⟨da0, dc0, rfl⟩ := h0.form
        obtain ⟨da1, dc1, rfl⟩ := h1.form
        obtain ⟨da2, dc2, rfl⟩ := h2.form
        have hV := below_via HS.out.2.2.2.2 hb9 (Nat.le_refl _)
        have hW := (HWd.out w9 hV).2
        have H9 : Hid (Nb w9 (.slice da0 (lim dd.1).length dc0) dd.1 ∧ Nb w9 (.slice da1 (lim dd.2.1).length dc1) dd.2.1 ∧ Nb w9 (.slice da2 (lim dd.2.2).length dc2) dd.2.2 ∧ Below wr.heap.size wr w9 ∧ Below we.heap.size we w9) := ⟨h0, h1, h2, hb9, hV⟩
        have HV3 : Hid (Nb w9 (.slice none 0 0) ((0, 0, 0) : Nat × Nat × Nat).1 ∧ Nb w9 (.slice none 0 0) ((0, 0, 0) : Nat × Nat × Nat).2.1 ∧ Nb w9 (.slice none 0 0) ((0, 0, 0) : Nat × Nat × Nat).2.2) := ⟨nil_nb _, nil_nb _, nil_nb _⟩
        have hTb := below_blk hV HTb.out.1.lt HTb.out.1
        have v0 : w9.cell? ⟨b12, 0, none⟩ = some (.slice none 0 0) := hTb.cell 0
        have v1 : w9.cell? ⟨b12, 1, none⟩ = some (.slice none 0 0) := hTb.cell 1
        have v2 : w9.cell? ⟨b12, 2, none⟩ = some (.slice none 0 0) := hTb.cell 2
        clear h0 h1 h2 hb9 hV hW hTb s0 s1 s2
        go_wp2_with fail
        refine (HDa.out _ H9.out.2.2.2.2).mono ?_
        rintro e w10 ⟨rfl, rfl⟩
        go_wp2_with fail
        refine (HDb.out _ H9.out.2.2.2.2).mono ?_
        rintro e w10 ⟨rfl, rfl⟩
        go_wp2_with fail
        refine (Tsum (w := w9) (.slice a1 n1 c1) _ _ _ (.slice none 0 0) (.slice none 0 0) (.slice none 0 0) C.p dd.1 dd.2.1 dd.2.2 ((0, 0, 0) : Nat × Nat × Nat).1 ((0, 0, 0) : Nat × Nat × Nat).2.1 ((0, 0, 0) : Nat × Nat × Nat).2.2 (HF.out w9 (HWd.out w9 H9.out.2.2.2.2).2) H9.out.1 H9.out.2.1 H9.out.2.2.1 HV3.out.1 HV3.out.2.1 HV3.out.2.2 Hdd.out.2.1 Hdd.out.2.2.1 Hdd.out.2.2.2 (⟨HC.out.1, HC.out.1, HC.out.1⟩ : Lt3 C.p (0, 0, 0)).1 (⟨HC.out.1, HC.out.1, HC.out.1⟩ : Lt3 C.p (0, 0, 0)).2.1 (⟨HC.out.1, HC.out.1, HC.out.1⟩ : Lt3 C.p (0, 0, 0)).2.2).mono ?_
        rintro e w11 ⟨r0, r1, r2, rfl, h0, h1, h2, hb11⟩
        obtain ⟨oa0, oc0, rfl⟩ := h0.form
        obtain ⟨oa1, oc1, rfl⟩ := h1.form
        obtain ⟨oa2, oc2, rfl⟩ := h2.form
        obtain ⟨on, hon⟩ : ∃ x, jsm C.p (dd.1, dd.2.1, dd.2.2) (((0, 0, 0) : Nat × Nat × Nat).1, ((0, 0, 0) : Nat × Nat × Nat).2.1, ((0, 0, 0) : Nat × Nat × Nat).2.2) = x := ⟨_, rfl⟩
        rw [hon] at h0 h1 h2
        rw [hon]
        have hfin : mixL C.p g q a' b' N (k + 1) = on := HSt.out.trans hon
        have hB11 : Blk 58 w11 we.heap.size [.slice ta0 tn0 tc0, .slice ta1 tn1 tc1, .slice ta2 tn2 tc2] := below_blk (below_via H9.out.2.2.2.1 hb11 (Nat.le_refl _)) HS.out.1.lt HS.out.1
        have hP := TriM.put h0 h1 h2 hB11
        have hUb : Below we.heap.size we (w11.setCells we.heap.size 0 [.slice oa0 (lim on.1).length oc0, .slice oa1 (lim on.2.1).length oc1, .slice oa2 (lim on.2.2).length oc2]) := (Upd.setCells _ 0 w11 : Upd w11 _ we.heap.size).below (below_via H9.out.2.2.2.2 hb11 (Nat.le_refl _)) (below_via H9.out.2.2.2.2 hb11 (Nat.le_refl _)).size (Nat.le_refl _)
        have HP : Hid (TriB (w11.setCells we.heap.size 0 [.slice oa0 (lim on.1).length oc0, .slice oa1 (lim on.2.1).length oc1, .slice oa2 (lim on.2.2).length oc2]) we.heap.size (mixL C.p g q a' b' N (k + 1)) ∧ Below we.heap.size we (w11.setCells we.heap.size 0 [.slice oa0 (lim on.1).length oc0, .slice oa1 (lim on.2.1).length oc1, .slice oa2 (lim on.2.2).length oc2])) := ⟨hfin ▸ hP, hUb⟩
        have Hth : Hid (w11.there we.heap.size 0 3) := hB11.there 0 3 (by simp)
        clear h0 h1 h2 hb11 hon hfin hB11 hP hUb v0 v1 v2
        go_wp2_with (refine wpList_store_mid rfl _ _ _ rfl we.heap.size 0 #[.slice oa0 (lim on.1).length oc0, .slice oa1 (lim on.2.1).length oc1, .slice oa2 (lim on.2.2).length oc2] rfl rfl Hth.out Try.sizeTr (sl3_one _ _ _ _ _ _ _ _ _) ?_)
        go_roundw
        case rel => exact ⟨k + 1, by go_num, hlt, HP.out⟩
        case measure => simp [intOf]; omega
      · replace HSt : Hid (mixL C.p g q a' b' N (k + 1) = jsm C.p dd q) := HSt.out.trans (by rfl)
        go_wp2_with fail
        refine HDbl.out.mono ?_
        rintro e w9 ⟨r0, r1, r2, rfl, h0, h1, h2, hb9⟩
        obtain ⟨da0, dc0, rfl⟩ := h0.form
        obtain ⟨da1, dc1, rfl⟩ := h1.form
        obtain ⟨da2, dc2, rfl⟩ := h2.form
        have hV := below_via HS.out.2.2.2.2 hb9 (Nat.le_refl _)
        have hW := (HWd.out w9 hV).2
        have H9 : Hid (Nb w9 (.slice da0 (lim dd.1).length dc0) dd.1 ∧ Nb w9 (.slice da1 (lim dd.2.1).length dc1) dd.2.1 ∧ Nb w9 (.slice da2 (lim dd.2.2).length dc2) dd.2.2 ∧ Below wr.heap.size wr w9 ∧ Below we.heap.size we w9) := ⟨h0, h1, h2, hb9, hV⟩
        have HV3 : Hid (Nb w9 (.slice qa0 qn0 qc0) (q : Nat × Nat × Nat).1 ∧ Nb w9 (.slice qa1 qn1 qc1) (q : Nat × Nat × Nat).2.1 ∧ Nb w9 (.slice qa2 qn2 qc2) (q : Nat × Nat × Nat).2.2) := ⟨HGQ.out.2.2.2.2.2.1.below hW, HGQ.out.2.2.2.2.2.2.1.below hW, HGQ.out.2.2.2.2.2.2.2.below hW⟩
        have hTb := below_blk hV HTb.out.1.lt HTb.out.1
        have v0 : w9.cell? ⟨b12, 6, none⟩ = some (.slice qa0 qn0 qc0) := hTb.cell 6
        have v1 : w9.cell? ⟨b12, 7, none⟩ = some (.slice qa1 qn1 qc1) := hTb.cell 7
        have v2 : w9.cell? ⟨b12, 8, none⟩ = some (.slice qa2 qn2 qc2) := hTb.cell 8
        clear h0 h1 h2 hb9 hV hW hTb s0 s1 s2
        go_wp2_with fail
        refine (HDa.out _ H9.out.2.2.2.2).mono ?_
        rintro e w10 ⟨rfl, rfl⟩
        go_wp2_with fail
        refine (HDb.out _ H9.out.2.2.2.2).mono ?_
        rintro e w10 ⟨rfl, rfl⟩
        go_wp2_with fail
        refine (Tsum (w := w9) (.slice a1 n1 c1) _ _ _ (.slice qa0 qn0 qc0) (.slice qa1 qn1 qc1) (.slice qa2 qn2 qc2) C.p dd.1 dd.2.1 dd.2.2 (q : Nat × Nat × Nat).1 (q : Nat × Nat × Nat).2.1 (q : Nat × Nat × Nat).2.2 (HF.out w9 (HWd.out w9 H9.out.2.2.2.2).2) H9.out.1 H9.out.2.1 H9.out.2.2.1 HV3.out.1 HV3.out.2.1 HV3.out.2.2 Hdd.out.2.1 Hdd.out.2.2.1 Hdd.out.2.2.2 (HL3.out.2 : Lt3 C.p q).1 (HL3.out.2 : Lt3 C.p q).2.1 (HL3.out.2 : Lt3 C.p q).2.2).mono ?_
        rintro e w11 ⟨r0, r1, r2, rfl, h0, h1, h2, hb11⟩
        obtain ⟨oa0, oc0, rfl⟩ := h0.form
        obtain ⟨oa1, oc1, rfl⟩ := h1.form
        obtain ⟨oa2, oc2, rfl⟩ := h2.form
        obtain ⟨on, hon⟩ : ∃ x, jsm C.p (dd.1, dd.2.1, dd.2.2) ((q : Nat × Nat × Nat).1, (q : Nat × Nat × Nat).2.1, (q : Nat × Nat × Nat).2.2) = x := ⟨_, rfl⟩
        rw [hon] at h0 h1 h2
        rw [hon]
        have hfin : mixL C.p g q a' b' N (k + 1) = on := HSt.out.trans hon
        have hB11 : Blk 58 w11 we.heap.size [.slice ta0 tn0 tc0, .slice ta1 tn1 tc1, .slice ta2 tn2 tc2] := below_blk (below_via H9.out.2.2.2.1 hb11 (Nat.le_refl _)) HS.out.1.lt HS.out.1
        have hP := TriM.put h0 h1 h2 hB11
        have hUb : Below we.heap.size we (w11.setCells we.heap.size 0 [.slice oa0 (lim on.1).length oc0, .slice oa1 (lim on.2.1).length oc1, .slice oa2 (lim on.2.2).length oc2]) := (Upd.setCells _ 0 w11 : Upd w11 _ we.heap.size).below (below_via H9.out.2.2.2.2 hb11 (Nat.le_refl _)) (below_via H9.out.2.2.2.2 hb11 (Nat.le_refl _)).size (Nat.le_refl _)
        have HP : Hid (TriB (w11.setCells we.heap.size 0 [.slice oa0 (lim on.1).length oc0, .slice oa1 (lim on.2.1).length oc1, .slice oa2 (lim on.2.2).length oc2]) we.heap.size (mixL C.p g q a' b' N (k + 1)) ∧ Below we.heap.size we (w11.setCells we.heap.size 0 [.slice oa0 (lim on.1).length oc0, .slice oa1 (lim on.2.1).length oc1, .slice oa2 (lim on.2.2).length oc2])) := ⟨hfin ▸ hP, hUb⟩
        have Hth : Hid (w11.there we.heap.size 0 3) := hB11.there 0 3 (by simp)
        clear h0 h1 h2 hb11 hon hfin hB11 hP hUb v0 v1 v2
        go_wp2_with (refine wpList_store_mid rfl _ _ _ rfl we.heap.size 0 #[.slice oa0 (lim on.1).length oc0, .slice oa1 (lim on.2.1).length oc1, .slice oa2 (lim on.2.2).length oc2] rfl rfl Hth.out Try.sizeTr (sl3_one _ _ _ _ _ _ _ _ _) ?_)
        go_roundw
        case rel => exact ⟨k + 1, by go_num, hlt, HP.out⟩
        case measure => simp [intOf]; omega
      · replace HSt : Hid (mixL C.p g q a' b' N (k + 1) = jsm C.p dd g) := HSt.out.trans (by rfl)
        go_wp2_with fail
        refine HDbl.out.mono ?_
        rintro e w9 ⟨r0, r1, r2, rfl, h0, h1, h2, hb9⟩
        obtain ⟨da0, dc0, rfl⟩ := h0.form
        obtain ⟨da1, dc1, rfl⟩ := h1.form
        obtain ⟨da2, dc2, rfl⟩ := h2.form
        have hV := below_via HS.out.2.2.2.2 hb9 (Nat.le_refl _)
        have hW := (HWd.out w9 hV).2
        have H9 : Hid (Nb w9 (.slice da0 (lim dd.1).length dc0) dd.1 ∧ Nb w9 (.slice da1 (lim dd.2.1).length dc1) dd.2.1 ∧ Nb w9 (.slice da2 (lim dd.2.2).length dc2) dd.2.2 ∧ Below wr.heap.size wr w9 ∧ Below we.heap.size we w9) := ⟨h0, h1, h2, hb9, hV⟩
        have HV3 : Hid (Nb w9 (.slice ga0 gn0 gc0) (g : Nat × Nat × Nat).1 ∧ Nb w9 (.slice ga1 gn1 gc1) (g : Nat × Nat × Nat).2.1 ∧ Nb w9 (.slice ga2 gn2 gc2) (g : Nat × Nat × Nat).2.2) := ⟨HGQ.out.2.2.1.below hW, HGQ.out.2.2.2.1.below hW, HGQ.out.2.2.2.2.1.below hW⟩
        have hTb := below_blk hV HTb.out.1.lt HTb.out.1
        have v0 : w9.cell? ⟨b12, 3, none⟩ = some (.slice ga0 gn0 gc0) := hTb.cell 3
        have v1 : w9.cell? ⟨b12, 4, none⟩ = some (.slice ga1 gn1 gc1) := hTb.cell 4
        have v2 : w9.cell? ⟨b12, 5, none⟩ = some (.slice ga2 gn2 gc2) := hTb.cell 5
        clear h0 h1 h2 hb9 hV hW hTb s0 s1 s2
        go_wp2_with fail
        refine (HDa.out _ H9.out.2.2.2.2).mono ?_
        rintro e w10 ⟨rfl, rfl⟩
        go_wp2_with fail
        refine (HDb.out _ H9.out.2.2.2.2).mono ?_
        rintro e w10 ⟨rfl, rfl⟩
        go_wp2_with fail
        refine (Tsum (w := w9) (.slice a1 n1 c1) _ _ _ (.slice ga0 gn0 gc0) (.slice ga1 gn1 gc1) (.slice ga2 gn2 gc2) C.p dd.1 dd.2.1 dd.2.2 (g : Nat × Nat × Nat).1 (g : Nat × Nat × Nat).2.1 (g : Nat × Nat × Nat).2.2 (HF.out w9 (HWd.out w9 H9.out.2.2.2.2).2) H9.out.1 H9.out.2.1 H9.out.2.2.1 HV3.out.1 HV3.out.2.1 HV3.out.2.2 Hdd.out.2.1 Hdd.out.2.2.1 Hdd.out.2.2.2 (HL3.out.1 : Lt3 C.p g).1 (HL3.out.1 : Lt3 C.p g).2.1 (HL3.out.1 : Lt3 C.p g).2.2).mono ?_
        rintro e w11 ⟨r0, r1, r2, rfl, h0, h1, h2, hb11⟩
        obtain ⟨oa0, oc0, rfl⟩ := h0.form
        obtain ⟨oa1, oc1, rfl⟩ := h1.form
        obtain ⟨oa2, oc2, rfl⟩ := h2.form
        obtain ⟨on, hon⟩ : ∃ x, jsm C.p (dd.1, dd.2.1, dd.2.2) ((g : Nat × Nat × Nat).1, (g : Nat × Nat × Nat).2.1, (g : Nat × Nat × Nat).2.2) = x := ⟨_, rfl⟩
        rw [hon] at h0 h1 h2
        rw [hon]
        have hfin : mixL C.p g q a' b' N (k + 1) = on := HSt.out.trans hon
        have hB11 : Blk 58 w11 we.heap.size [.slice ta0 tn0 tc0, .slice ta1 tn1 tc1, .slice ta2 tn2 tc2] := below_blk (below_via H9.out.2.2.2.1 hb11 (Nat.le_refl _)) HS.out.1.lt HS.out.1
        have hP := TriM.put h0 h1 h2 hB11
        have hUb : Below we.heap.size we (w11.setCells we.heap.size 0 [.slice oa0 (lim on.1).length oc0, .slice oa1 (lim on.2.1).length oc1, .slice oa2 (lim on.2.2).length oc2]) := (Upd.setCells _ 0 w11 : Upd w11 _ we.heap.size).below (below_via H9.out.2.2.2.2 hb11 (Nat.le_refl _)) (below_via H9.out.2.2.2.2 hb11 (Nat.le_refl _)).size (Nat.le_refl _)
        have HP : Hid (TriB (w11.setCells we.heap.size 0 [.slice oa0 (lim on.1).length oc0, .slice oa1 (lim on.2.1).length oc1, .slice oa2 (lim on.2.2).length oc2]) we.heap.size (mixL C.p g q a' b' N (k + 1)) ∧ Below we.heap.size we (w11.setCells we.heap.size 0 [.slice oa0 (lim on.1).length oc0, .slice oa1 (lim on.2.1).length oc1, .slice oa2 (lim on.2.2).length oc2])) := ⟨hfin ▸ hP, hUb⟩
        have Hth : Hid (w11.there we.heap.size 0 3) := hB11.there 0 3 (by simp)
        clear h0 h1 h2 hb11 hon hfin hB11 hP hUb v0 v1 v2
        go_wp2_with (refine wpList_store_mid rfl _ _ _ rfl we.heap.size 0 #[.slice oa0 (lim on.1).length oc0, .slice oa1 (lim on.2.1).length oc1, .slice oa2 (lim on.2.2).length oc2] rfl rfl Hth.out Try.sizeTr (sl3_one _ _ _ _ _ _ _ _ _) ?_)
        go_roundw
        case rel => exact ⟨k + 1, by go_num, hlt, HP.out⟩
        case measure => simp [intOf]; omega
      · replace HSt : Hid (mixL C.p g q a' b' N (k + 1) = jsm C.p dd h) := HSt.out.trans (by show jsm C.p dd (jsm C.p g q) = _; rw [HH.out])
        go_wp2_with fail
        refine HDbl.out.mono ?_
        rintro e w9 ⟨r0, r1, r2, rfl, h0, h1, h2, hb9⟩
        obtain ⟨da0, dc0, rfl⟩ := h0.form
        obtain ⟨da1, dc1, rfl⟩ := h1.form
        obtain ⟨da2, dc2, rfl⟩ := h2.form
        have hV := below_via HS.out.2.2.2.2 hb9 (Nat.le_refl _)
        have hW := (HWd.out w9 hV).2
        have H9 : Hid (Nb w9 (.slice da0 (lim dd.1).length dc0) dd.1 ∧ Nb w9 (.slice da1 (lim dd.2.1).length dc1) dd.2.1 ∧ Nb w9 (.slice da2 (lim dd.2.2).length dc2) dd.2.2 ∧ Below wr.heap.size wr w9 ∧ Below we.heap.size we w9) := ⟨h0, h1, h2, hb9, hV⟩
        have HV3 : Hid (Nb w9 (.slice x0 y0 z0) (h : Nat × Nat × Nat).1 ∧ Nb w9 (.slice x1 y1 z1) (h : Nat × Nat × Nat).2.1 ∧ Nb w9 (.slice x2 y2 z2) (h : Nat × Nat × Nat).2.2) := ⟨HTb.out.2.1.below hV, HTb.out.2.2.1.below hV, HTb.out.2.2.2.below hV⟩
        have hTb := below_blk hV HTb.out.1.lt HTb.out.1
        have v0 : w9.cell? ⟨b12, 9, none⟩ = some (.slice x0 y0 z0) := hTb.cell 9
        have v1 : w9.cell? ⟨b12, 10, none⟩ = some (.slice x1 y1 z1) := hTb.cell 10
        have v2 : w9.cell? ⟨b12, 11, none⟩ = some (.slice x2 y2 z2) := hTb.cell 11
        clear h0 h1 h2 hb9 hV hW hTb s0 s1 s2
        go_wp2_with fail
        refine (HDa.out _ H9.out.2.2.2.2).mono ?_
        rintro e w10 ⟨rfl, rfl⟩
        go_wp2_with fail
        refine (HDb.out _ H9.out.2.2.2.2).mono ?_
        rintro e w10 ⟨rfl, rfl⟩
        go_wp2_with fail
        refine (Tsum (w := w9) (.slice a1 n1 c1) _ _ _ (.slice x0 y0 z0) (.slice x1 y1 z1) (.slice x2 y2 z2) C.p dd.1 dd.2.1 dd.2.2 (h : Nat × Nat × Nat).1 (h : Nat × Nat × Nat).2.1 (h : Nat × Nat × Nat).2.2 (HF.out w9 (HWd.out w9 H9.out.2.2.2.2).2) H9.out.1 H9.out.2.1 H9.out.2.2.1 HV3.out.1 HV3.out.2.1 HV3.out.2.2 Hdd.out.2.1 Hdd.out.2.2.1 Hdd.out.2.2.2 ((by rw [← HH.out]; exact jsm_lt HC.out.1 HL3.out.1 HL3.out.2) : Lt3 C.p h).1 ((by rw [← HH.out]; exact jsm_lt HC.out.1 HL3.out.1 HL3.out.2) : Lt3 C.p h).2.1 ((by rw [← HH.out]; exact jsm_lt HC.out.1 HL3.out.1 HL3.out.2) : Lt3 C.p h).2.2).mono ?_
        rintro e w11 ⟨r0, r1, r2, rfl, h0, h1, h2, hb11⟩
        obtain ⟨oa0, oc0, rfl⟩ := h0.form
        obtain ⟨oa1, oc1, rfl⟩ := h1.form
        obtain ⟨oa2, oc2, rfl⟩ := h2.form
        obtain ⟨on, hon⟩ : ∃ x, jsm C.p (dd.1, dd.2.1, dd.2.2) ((h : Nat × Nat × Nat).1, (h : Nat × Nat × Nat).2.1, (h : Nat × Nat × Nat).2.2) = x := ⟨_, rfl⟩
        rw [hon] at h0 h1 h2
        rw [hon]
        have hfin : mixL C.p g q a' b' N (k + 1) = on := HSt.out.trans hon
        have hB11 : Blk 58 w11 we.heap.size [.slice ta0 tn0 tc0, .slice ta1 tn1 tc1, .slice ta2 tn2 tc2] := below_blk (below_via H9.out.2.2.2.1 hb11 (Nat.le_refl _)) HS.out.1.lt HS.out.1
        have hP := TriM.put h0 h1 h2 hB11
        have hUb : Below we.heap.size we (w11.setCells we.heap.size 0 [.slice oa0 (lim on.1).length oc0, .slice oa1 (lim on.2.1).length oc1, .slice oa2 (lim on.2.2).length oc2]) := (Upd.setCells _ 0 w11 : Upd w11 _ we.heap.size).below (below_via H9.out.2.2.2.2 hb11 (Nat.le_refl _)) (below_via H9.out.2.2.2.2 hb11 (Nat.le_refl _)).size (Nat.le_refl _)
        have HP : Hid (TriB (w11.setCells we.heap.size 0 [.slice oa0 (lim on.1).length oc0, .slice oa1 (lim on.2.1).length oc1, .slice oa2 (lim on.2.2).length oc2]) we.heap.size (mixL C.p g q a' b' N (k + 1)) ∧ Below we.heap.size we (w11.setCells we.heap.size 0 [.slice oa0 (lim on.1).length oc0, .slice oa1 (lim on.2.1).length oc1, .slice oa2 (lim on.2.2).length oc2])) := ⟨hfin ▸ hP, hUb⟩
        have Hth : Hid (w11.there we.heap.size 0 3) := hB11.there 0 3 (by simp)
        clear h0 h1 h2 hb11 hon hfin hB11 hP hUb v0 v1 v2
        go_wp2_with (refine wpList_store_mid rfl _ _ _ rfl we.heap.size 0 #[.slice oa0 (lim on.1).length oc0, .slice oa1 (lim on.2.1).length oc1, .slice oa2 (lim on.2.2).length oc2] rfl rfl Hth.out Try.sizeTr (sl3_one _ _ _ _ _ _ _ _ _) ?_)
        go_roundw
        case rel => exact ⟨k + 1, by go_num, hlt, HP.out⟩
        case measure => simp [intOf]; omega
    · have hltI : ¬ (k : Int) < (N : Int) := by omega
      obtain rfl : k = N := by omega
      have HMT : Hid (mixL C.p g q a' b' k k = mixT C.p g q a' b') := by show _ = _; unfold mixT; rw [HNN.out.1]
      rw [HMT.out] at HW
      obtain ⟨t, ht⟩ : ∃ t, mixT C.p g q a' b' = t := ⟨_, rfl⟩
      have Ht : Hid (mixT C.p g q a' b' = t ∧ Lt3 C.p t ∧ (t.2.2 ≠ 0 → Nat.gcd t.2.2 C.p = 1)) := ⟨ht, ht ▸ mixL_lt HC.out.1 HL3.out.1 HL3.out.2 _, ht ▸ HG.out.2.2.2.2⟩
      rw [ht] at HW
      clear ht
      obtain ⟨ta0, tn0, tc0, ta1, tn1, tc1, ta2, tn2, tc2, hSb, ht0, ht1, ht2⟩ := HW.out.1
      have HS : Hid (Nb wr (.slice ta0 tn0 tc0) t.1 ∧ Nb wr (.slice ta1 tn1 tc1) t.2.1 ∧ Nb wr (.slice ta2 tn2 tc2) t.2.2 ∧ Below we.heap.size we wr) := ⟨ht0, ht1, ht2, HW.out.2⟩
      have s0 : wr.cell? ⟨we.heap.size, 0, none⟩ = some (.slice ta0 tn0 tc0) := hSb.cell 0
      have s1 : wr.cell? ⟨we.heap.size, 1, none⟩ = some (.slice ta1 tn1 tc1) := hSb.cell 1
      have s2 : wr.cell? ⟨we.heap.size, 2, none⟩ = some (.slice ta2 tn2 tc2) := hSb.cell 2
      clear hSb ht0 ht1 ht2 HW
      go_wp2_with fail
      refine (Tpoint (w := wr) (.slice a1 n1 c1) (.slice ta0 tn0 tc0) (.slice ta1 tn1 tc1) (.slice ta2 tn2 tc2) C.p t.1 t.2.1 t.2.2 (HF.out wr (HWd.out wr HS.out.2.2.2).2) HS.out.1 HS.out.2.1 HS.out.2.2.1 Ht.out.2.1.1 Ht.out.2.1.2.1 Ht.out.2.1.2.2 Ht.out.2.2).mono ?_
      rintro e w9 ⟨r0, r1, RX, RY, rfl, hj, h0, h1, hb9⟩
      obtain ⟨oa0, oc0, rfl⟩ := h0.form
      obtain ⟨oa1, oc1, rfl⟩ := h1.form
      have hbw : Below W0.heap.size W0 w9 := below_via (below_via H2.out.2.2 (HWd.out wr HS.out.2.2.2).1 (Nat.le_refl _)) hb9 (Nat.le_refl _)
      have hR : Blk 24 w9 (w.heap.size + 1 + 1) [.slice none 0 0, .slice none 0 0] := below_blk hbw H0.out.2.2.1.lt H0.out.2.2.1
      have hU : Upd w9 (w9.setCells (w.heap.size + 1 + 1) 0 [.slice oa0 (lim RX).length oc0, .slice oa1 (lim RY).length oc1]) (w.heap.size + 1 + 1) := Upd.setCells _ 0 w9
      have HP : Hid (Blk 24 (w9.setCells (w.heap.size + 1 + 1) 0 [.slice oa0 (lim RX).length oc0, .slice oa1 (lim RY).length oc1]) (w.heap.size + 1 + 1) [.slice oa0 (lim RX).length oc0, .slice oa1 (lim RY).length oc1] ∧ jpt C.p t RX RY ∧ Nb (w9.setCells (w.heap.size + 1 + 1) 0 [.slice oa0 (lim RX).length oc0, .slice oa1 (lim RY).length oc1]) (.slice oa0 (lim RX).length oc0) RX ∧ Nb (w9.setCells (w.heap.size + 1 + 1) 0 [.slice oa0 (lim RX).length oc0, .slice oa1 (lim RY).length oc1]) (.slice oa1 (lim RY).length oc1) RY ∧ Below w.heap.size w (w9.setCells (w.heap.size + 1 + 1) 0 [.slice oa0 (lim RX).length oc0, .slice oa1 (lim RY).length oc1])) := ⟨hR.fill _ rfl, hj, h0.upd hR noInts hU, h1.upd hR noInts hU, hU.below (below_via H0.out.2.2.2 hbw (Nat.le_refl _)) (below_via H0.out.2.2.2 hbw (Nat.le_refl _)).size (by omega)⟩
      have Hth : Hid (w9.there (w.heap.size + 1 + 1) 0 2) := hR.there 0 2 (by simp)
      clear hj h0 h1 hb9 hbw hR hU s0 s1 s2
      go_wp2_with (refine wpList_store_mid rfl _ _ _ rfl (w.heap.size + 1 + 1) 0 #[.slice oa0 (lim RX).length oc0, .slice oa1 (lim RY).length oc1] rfl rfl Hth.out Try.sizePt (sl2_one _ _ _ _ _ _) ?_)
      refine bodyPost_ret (v := .agg #[.slice oa0 (lim RX).length oc0, .slice oa1 (lim RY).length oc1]) (results_blk (b := w.heap.size + 1 + 1) (cs := [.slice oa0 (lim RX).length oc0, .slice oa1 (lim RY).length oc1]) rfl rfl HP.out.1 Try.underlying24 rfl Try.sizePt) rfl ?_
      exact ⟨_, _, RX, RY, rfl, by rw [Ht.out.1]; exact HP.out.2.1, HP.out.2.2⟩
end Go.Proofs.Ytkdclocjijmgpaa
