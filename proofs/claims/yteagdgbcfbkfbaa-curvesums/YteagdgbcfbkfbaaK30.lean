/-
  Curves: the law CurveSums. (wip/mkh11.py)
-/
import Derived.Test.YteagdgbcfbkfbaaK29
namespace Go.Proofs.Yteagdgbcfbkfbaa
open Go.RowKit
set_option maxRecDepth 20000
open Gl (Pt Cok ec gen enc)
theorem crv_n12 {c : Int} {C : Cv} (h : crv c = some C) : C.n < 4294967296 ^ 12 := by
  unfold crv at h
  split at h
  · cases h; decide
  · split at h
    · cases h; decide
    · cases h
theorem PtV.upd {C : Cv} [NeZero C.p] {w w' : World} {a : Option Addr} {n k : Nat} {b : Option Addr} {m l : Nat} {P : Pt C.p} {T : TypeId} {bl : Nat} {cs : List Value} (h : PtV w a n k b m l P) (hB : Blk T w bl cs) (hc : ∀ c ∈ cs, ∀ n, c ≠ .int .u32 n) (hU : Upd w w' bl) : PtV w' a n k b m l P := ⟨h.1.upd hB hc hU, h.2.upd hB hc hU⟩
structure InvS11 {C : Cv} [NeZero C.p] (w0 : World) (c : Int) (VA9 : Int) (LD9 : Value) (PA9 : Pt C.p) (PB9 : Pt C.p) (L : Array Bool) (s22 s23 s80 s81 s82 s83 s84 s85 s86 s87 s88 : Value) (W : World) : Prop where
  bel : Below w0.heap.size w0 W
  k0 : Up L 0 → s81 = .int .i64 c
  k1 : Up L 1 → s82 = .int .i64 c
  k2 : Up L 2 → s83 = .int .u32 VA9
  k3 : Up L 3 → ∃ xa xn xk xb xm xl, s84 = .agg #[.slice xa xn xk, .slice xb xm xl] ∧ PtV W xa xn xk xb xm xl PA9
  k4 : Up L 4 → s85 = LD9
  k5 : Up L 5 → ∃ xa xn xk xb xm xl, s86 = .tuple #[.agg #[.slice xa xn xk, .slice xb xm xl], .int .i64 0] ∧ PtV W xa xn xk xb xm xl PB9
  k6 : Up L 6 → ∃ xa xn xk xb xm xl, s80 = .tuple #[.agg #[.slice xa xn xk, .slice xb xm xl], .int .i64 0] ∧ PtV W xa xn xk xb xm xl PB9
  k7 : Up L 7 → ∃ xa xn xk xb xm xl, s87 = .agg #[.slice xa xn xk, .slice xb xm xl] ∧ PtV W xa xn xk xb xm xl PB9
  k8 : Up L 8 → s88 = .int .i64 0
  k9 : Up L 9 → ∃ bb, s22 = .pointer (some ⟨bb, 0, none⟩) ∧ w0.heap.size ≤ bb ∧ (¬ Up L 10 → Blk 24 W bb [.slice none 0 0, .slice none 0 0]) ∧ (Up L 10 → ∃ xa xn xk xb xm xl, PB W bb xa xn xk xb xm xl PB9)
  k10 : Up L 10 → Up L 9
  k11 : Up L 11 → s23 = .int .i64 0
theorem InvS11.to {C : Cv} [NeZero C.p] {w0 : World} {c : Int} {VA9 : Int} {LD9 : Value} {PA9 : Pt C.p} {PB9 : Pt C.p} {L : Array Bool} {s22 s23 s80 s81 s82 s83 s84 s85 s86 s87 s88 : Value} {W W' : World} (i : InvS11 w0 c VA9 LD9 PA9 PB9 L s22 s23 s80 s81 s82 s83 s84 s85 s86 s87 s88 W) (hb : Below W.heap.size W W') : InvS11 w0 c VA9 LD9 PA9 PB9 L s22 s23 s80 s81 s82 s83 s84 s85 s86 s87 s88 W' where
  bel := below_via i.bel hb (Nat.le_refl _)
  k0 := i.k0
  k1 := i.k1
  k2 := i.k2
  k3 := fun u => by obtain ⟨xa, xn, xk, xb, xm, xl, e, h⟩ := i.k3 u; exact ⟨xa, xn, xk, xb, xm, xl, e, h.below hb⟩
  k4 := i.k4
  k5 := fun u => by obtain ⟨xa, xn, xk, xb, xm, xl, e, h⟩ := i.k5 u; exact ⟨xa, xn, xk, xb, xm, xl, e, h.below hb⟩
  k6 := fun u => by obtain ⟨xa, xn, xk, xb, xm, xl, e, h⟩ := i.k6 u; exact ⟨xa, xn, xk, xb, xm, xl, e, h.below hb⟩
  k7 := fun u => by obtain ⟨xa, xn, xk, xb, xm, xl, e, h⟩ := i.k7 u; exact ⟨xa, xn, xk, xb, xm, xl, e, h.below hb⟩
  k8 := i.k8
  k9 := fun u => by obtain ⟨bb, e, hl, h1, h2⟩ := i.k9 u; exact ⟨bb, e, hl, fun z => below_blk hb (h1 z).lt (h1 z), fun z => by obtain ⟨xa, xn, xk, xb, xm, xl, h⟩ := h2 z; exact ⟨xa, xn, xk, xb, xm, xl, h.below hb⟩⟩
  k10 := i.k10
  k11 := i.k11
structure InvS12 {C : Cv} [NeZero C.p] (w0 : World) (c : Int) (LD9 : Value) (NN9 : Nat) (PB9 : Pt C.p) (L : Array Bool) (s24 s25 s89 s90 s91 s92 s93 s94 s95 s96 : Value) (W : World) : Prop where
  bel : Below w0.heap.size w0 W
  k0 : Up L 0 → s90 = .int .i64 c
  k1 : Up L 1 → s91 = .int .i64 c
  k2 : Up L 2 → ∃ xa xn xk, s92 = .slice xa xn xk ∧ Nb W (.slice xa xn xk) NN9
  k3 : Up L 3 → s93 = LD9
  k4 : Up L 4 → ∃ xa xn xk xb xm xl, s94 = .tuple #[.agg #[.slice xa xn xk, .slice xb xm xl], .int .i64 0] ∧ PtV W xa xn xk xb xm xl PB9
  k5 : Up L 5 → ∃ xa xn xk xb xm xl, s89 = .tuple #[.agg #[.slice xa xn xk, .slice xb xm xl], .int .i64 0] ∧ PtV W xa xn xk xb xm xl PB9
  k6 : Up L 6 → ∃ xa xn xk xb xm xl, s95 = .agg #[.slice xa xn xk, .slice xb xm xl] ∧ PtV W xa xn xk xb xm xl PB9
  k7 : Up L 7 → s96 = .int .i64 0
  k8 : Up L 8 → ∃ bb, s24 = .pointer (some ⟨bb, 0, none⟩) ∧ w0.heap.size ≤ bb ∧ (¬ Up L 9 → Blk 24 W bb [.slice none 0 0, .slice none 0 0]) ∧ (Up L 9 → ∃ xa xn xk xb xm xl, PB W bb xa xn xk xb xm xl PB9)
  k9 : Up L 9 → Up L 8
  k10 : Up L 10 → s25 = .int .i64 0
theorem InvS12.to {C : Cv} [NeZero C.p] {w0 : World} {c : Int} {LD9 : Value} {NN9 : Nat} {PB9 : Pt C.p} {L : Array Bool} {s24 s25 s89 s90 s91 s92 s93 s94 s95 s96 : Value} {W W' : World} (i : InvS12 w0 c LD9 NN9 PB9 L s24 s25 s89 s90 s91 s92 s93 s94 s95 s96 W) (hb : Below W.heap.size W W') : InvS12 w0 c LD9 NN9 PB9 L s24 s25 s89 s90 s91 s92 s93 s94 s95 s96 W' where
  bel := below_via i.bel hb (Nat.le_refl _)
  k0 := i.k0
  k1 := i.k1
  k2 := fun u => by obtain ⟨xa, xn, xk, e, h⟩ := i.k2 u; exact ⟨xa, xn, xk, e, h.below hb⟩
  k3 := i.k3
  k4 := fun u => by obtain ⟨xa, xn, xk, xb, xm, xl, e, h⟩ := i.k4 u; exact ⟨xa, xn, xk, xb, xm, xl, e, h.below hb⟩
  k5 := fun u => by obtain ⟨xa, xn, xk, xb, xm, xl, e, h⟩ := i.k5 u; exact ⟨xa, xn, xk, xb, xm, xl, e, h.below hb⟩
  k6 := fun u => by obtain ⟨xa, xn, xk, xb, xm, xl, e, h⟩ := i.k6 u; exact ⟨xa, xn, xk, xb, xm, xl, e, h.below hb⟩
  k7 := i.k7
  k8 := fun u => by obtain ⟨bb, e, hl, h1, h2⟩ := i.k8 u; exact ⟨bb, e, hl, fun z => below_blk hb (h1 z).lt (h1 z), fun z => by obtain ⟨xa, xn, xk, xb, xm, xl, h⟩ := h2 z; exact ⟨xa, xn, xk, xb, xm, xl, h.below hb⟩⟩
  k9 := i.k9
  k10 := i.k10
set_option maxHeartbeats 8000000 in
theorem CurveSums_any {w : World} (o : Bool) (a b k : Int) (ha : 0 ≤ a ∧ a < 4294967296) (hb : 0 ≤ b ∧ b < 4294967296) (hk : 0 ≤ k ∧ k < 4294967296) :
    Calls Try.prog 8 #[.bool o, .int .u32 a, .int .u32 b, .int .u32 k] w fun e w' => e = .returned (.bool true) ∧ Below w.heap.size w w' := by
  have HB : Hid ((0 ≤ a ∧ a < 4294967296) ∧ (0 ≤ b ∧ b < 4294967296) ∧ (0 ≤ k ∧ k < 4294967296)) := ⟨ha, hb, hk⟩
  have q1 : IntKind.u64.wrap a = a := by simp [IntKind.wrap, IntKind.bits, IntKind.signed]; omega
  have q2 : IntKind.u64.wrap b = b := by simp [IntKind.wrap, IntKind.bits, IntKind.signed]; omega
  have q3 : IntKind.u64.wrap (a + b) = a + b := by simp [IntKind.wrap, IntKind.bits, IntKind.signed]; omega
  obtain ⟨lo, hlo⟩ : ∃ x, IntKind.u32.wrap (a + b) = x := ⟨_, rfl⟩
  obtain ⟨hi, hhi⟩ : ∃ x, (a + b) / 4294967296 = x := ⟨_, rfl⟩
  have q4 : IntKind.u32.wrap hi = hi := by simp [IntKind.wrap, IntKind.bits, IntKind.signed]; omega
  have HV : Hid ((val [lo, hi]).toNat = a.toNat + b.toNat ∧ U32s [lo, hi]) := by
    have e : lo = (a + b) % 4294967296 := by rw [← hlo]; simp [IntKind.wrap, IntKind.bits, IntKind.signed]
    refine ⟨?_, ?_⟩
    · simp [val]; omega
    · intro x hx
      simp at hx
      unfold U32
      rcases hx with rfl | rfl <;> omega
  clear ha hb hk
  go_enter Try.func8, Try.ntmps8
  go_upto_if 26 with (fail)
  go_cut [9] from 26 (fun s9 wc => ∃ (c : Int) (C : Cv) (_ : NeZero C.p), s9 = .int .i64 c ∧ Hid (crv c = some C ∧ Cok C) ∧ w = wc)
  case first =>
    cases o
    · go_wp2
      go_meet
      case rel => exact ⟨1, c256, ⟨by decide⟩, rfl, ⟨rfl, @Gl.cok256 ⟨by decide⟩⟩, rfl⟩
    · go_wp2
      go_meet
      case rel => exact ⟨2, c384, ⟨by decide⟩, rfl, ⟨rfl, @Gl.cok384 ⟨by decide⟩⟩, rfl⟩
  obtain ⟨c, C, inst, rfl, HC, rfl⟩ := hcut
  obtain ⟨P, hP⟩ : ∃ P, (ec C).mul k.toNat (gen C) = P := ⟨_, rfl⟩
  have Ho : Hid ((ec C).On P ∧ (ec C).On ((ec C).mul a.toNat P) ∧ (ec C).On ((ec C).mul b.toNat P) ∧ (ec C).On ((ec C).mul a.toNat (gen C))) := by
    have h := Gl.mul_on HC.out.2.ok HC.out.2.onG k.toNat
    rw [hP] at h
    exact ⟨h, Gl.mul_on HC.out.2.ok h _, Gl.mul_on HC.out.2.ok h _, Gl.mul_on HC.out.2.ok HC.out.2.onG _⟩
  have HA : Hid ((∀ W, Calls Try.prog 30 #[.int .i64 c, .int .u32 k] W fun e w' => ∃ a' n' k' b' m' l', e = .returned (.agg #[.slice a' n' k', .slice b' m' l']) ∧ PtV w' a' n' k' b' m' l' P ∧ Below W.heap.size W w')) :=
    fun W => hP ▸ at_any HC.out.1 HC.out.2 k HB.out.2.2
  clear hP
  go_wp2_with fail
  refine (HA.out _).mono ?_
  rintro e w1 ⟨a1, n1, k1, b1, m1, l1, rfl, hv, hb⟩
  have V1 : Hid (PtV w1 a1 n1 k1 b1 m1 l1 P ∧ Below w.heap.size w w1) := ⟨hv, hb⟩
  clear hv hb HA
  go_upto_region 5 with (fail)
  refine wp_gen (fun W => PB W w1.heap.size a1 n1 k1 b1 m1 l1 P ∧ Below w1.heap.size w1 W) ⟨PB.new V1.out.1, al1 _⟩ ?_
  rintro W1 ⟨hB, hb⟩
  have K1 : Hid (Below w.heap.size w W1 ∧ PB W1 w1.heap.size a1 n1 k1 b1 m1 l1 P) := ⟨below_via V1.out.2 hb (Nat.le_refl _), hB⟩
  clear hB hb V1
  have p0 : (W1.alloc (.cells #[.int .u32 lo, .int .u32 hi] 55)).cell? ⟨w1.heap.size, 0, none⟩ = some (.slice a1 n1 k1) := (K1.out.2.below (al1 _)).1.cell 0
  have p1 : (W1.alloc (.cells #[.int .u32 lo, .int .u32 hi] 55)).cell? ⟨w1.heap.size, 1, none⟩ = some (.slice b1 m1 l1) := (K1.out.2.below (al1 _)).1.cell 1
  go_wp2_with fail
  refine (MulG HC.out.1 HC.out.2 _ [lo, hi] a1 n1 k1 b1 m1 l1 Ho.out.1 (Arr.sl (S := [lo, hi]) (arr_nw (e := 55) rfl rfl)) HV.out.2 (by simp) (K1.out.2.below (al1 _)).2).mono ?_
  rintro e w2 ⟨a2, n2, k2, b2, m2, l2, rfl, hv, hb⟩
  have V2 : Hid (PtV w2 a2 n2 k2 b2 m2 l2 ((ec C).mul (a.toNat + b.toNat) P) ∧ Below W1.heap.size W1 w2) := ⟨HV.out.1 ▸ hv, below_via (al1 _) hb (Nat.le_refl _)⟩
  clear hv hb p0 p1
  go_upto_region 7 with (fail)
  refine wp_gen (fun W => PB W w2.heap.size a2 n2 k2 b2 m2 l2 ((ec C).mul (a.toNat + b.toNat) P) ∧ Below w2.heap.size w2 W) ⟨PB.new V2.out.1, al1 _⟩ ?_
  rintro W2 ⟨hB, hb⟩
  have K2 : Hid (Below w.heap.size w W2 ∧ PB W2 w1.heap.size a1 n1 k1 b1 m1 l1 (P) ∧ PB W2 w2.heap.size a2 n2 k2 b2 m2 l2 ((ec C).mul (a.toNat + b.toNat) P)) := ⟨below_via (below_via K1.out.1 V2.out.2 (Nat.le_refl _)) hb (Nat.le_refl _), (K1.out.2.below V2.out.2).below hb, hB⟩
  clear hB hb K1 V2
  have p0 : (W2.alloc (.cells #[.int .u32 a] 55)).cell? ⟨w1.heap.size, 0, none⟩ = some (.slice a1 n1 k1) := (K2.out.2.1.below (al1 _)).1.cell 0
  have p1 : (W2.alloc (.cells #[.int .u32 a] 55)).cell? ⟨w1.heap.size, 1, none⟩ = some (.slice b1 m1 l1) := (K2.out.2.1.below (al1 _)).1.cell 1
  go_wp2_with fail
  refine (MulG HC.out.1 HC.out.2 _ [a] a1 n1 k1 b1 m1 l1 Ho.out.1 (Arr.sl (S := [a]) (arr_nw (e := 55) rfl rfl)) (by intro x hx; simp at hx; rw [hx]; have := HB.out.1; unfold U32; omega) (by simp) (K2.out.2.1.below (al1 _)).2).mono ?_
  rintro e w3 ⟨a3, n3, k3, b3, m3, l3, rfl, hv, hb⟩
  have V3 : Hid (PtV w3 a3 n3 k3 b3 m3 l3 ((ec C).mul a.toNat P) ∧ Below W2.heap.size W2 w3) := ⟨(show (val [a]).toNat = a.toNat by simp [val]) ▸ hv, below_via (al1 _) hb (Nat.le_refl _)⟩
  clear hv hb p0 p1
  go_upto_region 8 with (fail)
  refine wp_gen (fun W => PB W w3.heap.size a3 n3 k3 b3 m3 l3 ((ec C).mul a.toNat P) ∧ Below w3.heap.size w3 W) ⟨PB.new V3.out.1, al1 _⟩ ?_
  rintro W3 ⟨hB, hb⟩
  have K3 : Hid (Below w.heap.size w W3 ∧ PB W3 w1.heap.size a1 n1 k1 b1 m1 l1 (P) ∧ PB W3 w2.heap.size a2 n2 k2 b2 m2 l2 ((ec C).mul (a.toNat + b.toNat) P) ∧ PB W3 w3.heap.size a3 n3 k3 b3 m3 l3 ((ec C).mul a.toNat P)) := ⟨below_via (below_via K2.out.1 V3.out.2 (Nat.le_refl _)) hb (Nat.le_refl _), (K2.out.2.1.below V3.out.2).below hb, (K2.out.2.2.below V3.out.2).below hb, hB⟩
  clear hB hb K2 V3
  have p0 : (W3.alloc (.cells #[.int .u32 b] 55)).cell? ⟨w1.heap.size, 0, none⟩ = some (.slice a1 n1 k1) := (K3.out.2.1.below (al1 _)).1.cell 0
  have p1 : (W3.alloc (.cells #[.int .u32 b] 55)).cell? ⟨w1.heap.size, 1, none⟩ = some (.slice b1 m1 l1) := (K3.out.2.1.below (al1 _)).1.cell 1
  go_wp2_with fail
  refine (MulG HC.out.1 HC.out.2 _ [b] a1 n1 k1 b1 m1 l1 Ho.out.1 (Arr.sl (S := [b]) (arr_nw (e := 55) rfl rfl)) (by intro x hx; simp at hx; rw [hx]; have := HB.out.2.1; unfold U32; omega) (by simp) (K3.out.2.1.below (al1 _)).2).mono ?_
  rintro e w4 ⟨a4, n4, k4, b4, m4, l4, rfl, hv, hb⟩
  have V4 : Hid (PtV w4 a4 n4 k4 b4 m4 l4 ((ec C).mul b.toNat P) ∧ Below W3.heap.size W3 w4) := ⟨(show (val [b]).toNat = b.toNat by simp [val]) ▸ hv, below_via (al1 _) hb (Nat.le_refl _)⟩
  clear hv hb p0 p1
  go_upto_region 9 with (fail)
  refine wp_gen (fun W => PB W w4.heap.size a4 n4 k4 b4 m4 l4 ((ec C).mul b.toNat P) ∧ Below w4.heap.size w4 W) ⟨PB.new V4.out.1, al1 _⟩ ?_
  rintro W4 ⟨hB, hb⟩
  have K4 : Hid (Below w.heap.size w W4 ∧ PB W4 w1.heap.size a1 n1 k1 b1 m1 l1 (P) ∧ PB W4 w2.heap.size a2 n2 k2 b2 m2 l2 ((ec C).mul (a.toNat + b.toNat) P) ∧ PB W4 w3.heap.size a3 n3 k3 b3 m3 l3 ((ec C).mul a.toNat P) ∧ PB W4 w4.heap.size a4 n4 k4 b4 m4 l4 ((ec C).mul b.toNat P)) := ⟨below_via (below_via K3.out.1 V4.out.2 (Nat.le_refl _)) hb (Nat.le_refl _), (K3.out.2.1.below V4.out.2).below hb, (K3.out.2.2.1.below V4.out.2).below hb, (K3.out.2.2.2.below V4.out.2).below hb, hB⟩
  clear hB hb K3 V4
  have y0 : W4.cell? ⟨w3.heap.size, 0, none⟩ = some (.slice a3 n3 k3) := K4.out.2.2.2.1.1.cell 0
  have y1 : W4.cell? ⟨w3.heap.size, 1, none⟩ = some (.slice b3 m3 l3) := K4.out.2.2.2.1.1.cell 1
  have z0 : W4.cell? ⟨w4.heap.size, 0, none⟩ = some (.slice a4 n4 k4) := K4.out.2.2.2.2.1.cell 0
  have z1 : W4.cell? ⟨w4.heap.size, 1, none⟩ = some (.slice b4 m4 l4) := K4.out.2.2.2.2.1.cell 1
  go_wp2_with fail
  refine (AddG HC.out.1 HC.out.2 a3 n3 k3 b3 m3 l3 a4 n4 k4 b4 m4 l4 Ho.out.2.1 Ho.out.2.2.1 K4.out.2.2.2.1.2 K4.out.2.2.2.2.2).mono ?_
  rintro e w5 ⟨a5, n5, k5, b5, m5, l5, rfl, hv, hb⟩
  have V5 : Hid (PtV w5 a5 n5 k5 b5 m5 l5 ((ec C).mul (a.toNat + b.toNat) P) ∧ Below W4.heap.size W4 w5) := ⟨(Gl.mul_add HC.out.2.ok Ho.out.1 a.toNat b.toNat).symm ▸ hv, hb⟩
  clear hv hb y0 y1 z0 z1
  go_upto_region 10 with (fail)
  refine wp_gen (fun W => PB W w5.heap.size a5 n5 k5 b5 m5 l5 ((ec C).mul (a.toNat + b.toNat) P) ∧ Below w5.heap.size w5 W) ⟨PB.new V5.out.1, al1 _⟩ ?_
  rintro W5 ⟨hB, hb⟩
  have K5 : Hid (Below w.heap.size w W5 ∧ PB W5 w1.heap.size a1 n1 k1 b1 m1 l1 (P) ∧ PB W5 w2.heap.size a2 n2 k2 b2 m2 l2 ((ec C).mul (a.toNat + b.toNat) P) ∧ PB W5 w3.heap.size a3 n3 k3 b3 m3 l3 ((ec C).mul a.toNat P) ∧ PB W5 w4.heap.size a4 n4 k4 b4 m4 l4 ((ec C).mul b.toNat P) ∧ PB W5 w5.heap.size a5 n5 k5 b5 m5 l5 ((ec C).mul (a.toNat + b.toNat) P)) := ⟨below_via (below_via K4.out.1 V5.out.2 (Nat.le_refl _)) hb (Nat.le_refl _), (K4.out.2.1.below V5.out.2).below hb, (K4.out.2.2.1.below V5.out.2).below hb, (K4.out.2.2.2.1.below V5.out.2).below hb, (K4.out.2.2.2.2.below V5.out.2).below hb, hB⟩
  clear hB hb K4 V5
  go_cut [20, 21] from 26 (fun s20 s21 wd => ∃ bb a6 n6 k6 b6 m6 l6, s20 = .pointer (some ⟨bb, 0, none⟩) ∧ s21 = .int .i64 0 ∧ Hid (Below w.heap.size w wd ∧ PB wd w1.heap.size a1 n1 k1 b1 m1 l1 (P) ∧ PB wd w2.heap.size a2 n2 k2 b2 m2 l2 ((ec C).mul (a.toNat + b.toNat) P) ∧ PB wd w3.heap.size a3 n3 k3 b3 m3 l3 ((ec C).mul a.toNat P) ∧ PB wd w4.heap.size a4 n4 k4 b4 m4 l4 ((ec C).mul b.toNat P) ∧ PB wd w5.heap.size a5 n5 k5 b5 m5 l5 ((ec C).mul (a.toNat + b.toNat) P) ∧ PB wd bb a6 n6 k6 b6 m6 l6 ((ec C).add ((ec C).mul a.toNat (gen C)) ((ec C).mul b.toNat P))))
  case first =>
    have p0 : ((W5.alloc (.cells #[.int .u32 a] 55)).alloc (.cells #[.int .u32 b] 55)).cell? ⟨w1.heap.size, 0, none⟩ = some (.slice a1 n1 k1) := ((K5.out.2.1.below (al1 _)).below (al1 _)).1.cell 0
    have p1 : ((W5.alloc (.cells #[.int .u32 a] 55)).alloc (.cells #[.int .u32 b] 55)).cell? ⟨w1.heap.size, 1, none⟩ = some (.slice b1 m1 l1) := ((K5.out.2.1.below (al1 _)).below (al1 _)).1.cell 1
    have HSb : Hid (Sl .u32 ((W5.alloc (.cells #[.int .u32 a] 55)).alloc (.cells #[.int .u32 b] 55)) (.slice (some ⟨W5.heap.size + 1, 0, none⟩) 1 1) [b]) := by
      have h := Arr.sl (S := [b]) (arr_nw (w := (W5.alloc (.cells #[.int .u32 a] 55))) (e := 55) (k := .u32) (xs := [b]) rfl rfl)
      rw [World.size_alloc] at h
      exact h
    go_wp2_with fail
    refine (MixG HC.out.1 HC.out.2 _ _ [a] [b] a1 n1 k1 b1 m1 l1 Ho.out.1 (below_sl (al1 _) (Arr.sl (S := [a]) (arr_nw (e := 55) rfl rfl))) HSb.out (by intro x hx; simp at hx; rw [hx]; have := HB.out.1; unfold U32; omega) (by intro x hx; simp at hx; rw [hx]; have := HB.out.2.1; unfold U32; omega) (by simp) (by simp) ((K5.out.2.1.below (al1 _)).below (al1 _)).2).mono ?_
    rintro e w6 ⟨a6, n6, k6, b6, m6, l6, rfl, hv, hb⟩
    have V6 : Hid (PtV w6 a6 n6 k6 b6 m6 l6 ((ec C).add ((ec C).mul a.toNat (gen C)) ((ec C).mul b.toNat P)) ∧ Below W5.heap.size W5 w6) := ⟨(show (val [b]).toNat = b.toNat by simp [val]) ▸ (show (val [a]).toNat = a.toNat by simp [val]) ▸ hv, below_via (below_via (al1 _) (al1 _) (Nat.le_refl _)) hb (Nat.le_refl _)⟩
    clear hv hb p0 p1 HSb
    go_wp2
    go_meet
    case rel => exact ⟨_, a6, n6, k6, b6, m6, l6, rfl, rfl, ⟨below_via K5.out.1 (below_via V6.out.2 (al1 _) (Nat.le_refl _)) (Nat.le_refl _), K5.out.2.1.below (below_via V6.out.2 (al1 _) (Nat.le_refl _)), K5.out.2.2.1.below (below_via V6.out.2 (al1 _) (Nat.le_refl _)), K5.out.2.2.2.1.below (below_via V6.out.2 (al1 _) (Nat.le_refl _)), K5.out.2.2.2.2.1.below (below_via V6.out.2 (al1 _) (Nat.le_refl _)), K5.out.2.2.2.2.2.below (below_via V6.out.2 (al1 _) (Nat.le_refl _)), PB.new V6.out.1⟩⟩
  obtain ⟨bm, a6, n6, k6, b6, m6, l6, rfl, rfl, K6⟩ := hcut
  obtain ⟨W6, hW6⟩ : ∃ x, x = wc := ⟨_, rfl⟩
  subst hW6
  clear K5
  have HAt : Hid (∀ W, Calls Try.prog 30 #[.int .i64 c, .int .u32 a] W fun e w' => ∃ a' n' k' b' m' l', e = .returned (.agg #[.slice a' n' k', .slice b' m' l']) ∧ PtV w' a' n' k' b' m' l' ((ec C).mul a.toNat (gen C)) ∧ Below W.heap.size W w') := fun W => at_any HC.out.1 HC.out.2 a HB.out.1
  have HZb : Hid (∀ W, Below W6.heap.size W6 W → PB W w4.heap.size a4 n4 k4 b4 m4 l4 ((ec C).mul b.toNat P)) := fun W h => K6.out.2.2.2.2.1.below h
  go_upto_region 11 with (fail)
  go_cut [22, 23] from 26 (fun s22 s23 wd => ∃ bb xa xn xk xb xm xl, s22 = .pointer (some ⟨bb, 0, none⟩) ∧ s23 = .int .i64 0 ∧ Hid (Below w.heap.size w wd ∧ PB wd w1.heap.size a1 n1 k1 b1 m1 l1 (P) ∧ PB wd w2.heap.size a2 n2 k2 b2 m2 l2 ((ec C).mul (a.toNat + b.toNat) P) ∧ PB wd w3.heap.size a3 n3 k3 b3 m3 l3 ((ec C).mul a.toNat P) ∧ PB wd w4.heap.size a4 n4 k4 b4 m4 l4 ((ec C).mul b.toNat P) ∧ PB wd w5.heap.size a5 n5 k5 b5 m5 l5 ((ec C).mul (a.toNat + b.toNat) P) ∧ PB wd bm a6 n6 k6 b6 m6 l6 ((ec C).add ((ec C).mul a.toNat (gen C)) ((ec C).mul b.toNat P)) ∧ PB wd bb xa xn xk xb xm xl ((ec C).add ((ec C).mul a.toNat (gen C)) ((ec C).mul b.toNat P))))
  case first =>
    refine wp_region_inv (fun L ac W => ∃ s22 s23 s80 s81 s82 s83 s84 s85 s86 s87 s88, L.size = 12 ∧ ac = { tmps := List.toArray (.bool o :: .int .u32 a :: .int .u32 b :: .int .u32 k :: undef :: undef :: undef :: undef :: .bool false :: .int .i64 c :: .pointer (some ⟨w1.heap.size, 0, none⟩) :: .int .u64 (a + b) :: .pointer (some ⟨w2.heap.size, 0, none⟩) :: .int .i64 0 :: .pointer (some ⟨w3.heap.size, 0, none⟩) :: .int .i64 0 :: .pointer (some ⟨w4.heap.size, 0, none⟩) :: .int .i64 0 :: .pointer (some ⟨w5.heap.size, 0, none⟩) :: .int .i64 0 :: .pointer (some ⟨bm, 0, none⟩) :: .int .i64 0 :: s22 :: s23 :: undef :: undef :: u26 :: u27 :: u28 :: u29 :: u30 :: u31 :: u32 :: u33 :: u34 :: u35 :: u36 :: u37 :: u38 :: u39 :: u40 :: u41 :: u42 :: u43 :: u44 :: u45 :: u46 :: u47 :: u48 :: u49 :: u50 :: u51 :: u52 :: u53 :: u54 :: u55 :: u56 :: u57 :: u58 :: u59 :: u60 :: u61 :: u62 :: u63 :: u64 :: u65 :: u66 :: u67 :: u68 :: u69 :: u70 :: u71 :: u72 :: u73 :: u74 :: u75 :: u76 :: u77 :: u78 :: u79 :: s80 :: s81 :: s82 :: s83 :: s84 :: s85 :: s86 :: s87 :: s88 :: u89 :: u90 :: u91 :: u92 :: u93 :: u94 :: u95 :: u96 :: u97 :: u98 :: u99 :: u100 :: u101 :: u102 :: u103 :: u104 :: u105 :: u106 :: u107 :: u108 :: u109 :: u110 :: u111 :: u112 :: u113 :: u114 :: u115 :: u116 :: u117 :: u118 :: u119 :: u120 :: u121 :: u122 :: u123 :: u124 :: u125 :: u126 :: u127 :: u128 :: u129 :: u130 :: u131 :: u132 :: u133 :: u134 :: u135 :: u136 :: u137 :: u138 :: u139 :: u140 :: []), defers := [] } ∧ InvS11 W6 (c) (a) (.agg #[.slice a4 n4 k4, .slice b4 m4 l4]) ((ec C).mul a.toNat (gen C)) ((ec C).add ((ec C).mul a.toNat (gen C)) ((ec C).mul b.toNat P)) L s22 s23 s80 s81 s82 s83 s84 s85 s86 s87 s88 W) rfl (by decide +kernel) ?_ ?_ ?_
    · refine ⟨undef, undef, u80, u81, u82, u83, u84, u85, u86, u87, u88, by simp, rfl, ?_⟩
      exact { bel := Below.drew (Below.refl _ _), k0 := fun u => absurd u not_up_new, k1 := fun u => absurd u not_up_new, k2 := fun u => absurd u not_up_new, k3 := fun u => absurd u not_up_new, k4 := fun u => absurd u not_up_new, k5 := fun u => absurd u not_up_new, k6 := fun u => absurd u not_up_new, k7 := fun u => absurd u not_up_new, k8 := fun u => absurd u not_up_new, k9 := fun u => absurd u not_up_new, k10 := fun u => absurd u not_up_new, k11 := fun u => absurd u not_up_new }
    · rintro L ac W hup ⟨s22, s23, s80, s81, s82, s83, s84, s85, s86, s87, s88, hsz, rfl, hI⟩
      obtain ⟨bb, rfl, _, _, hb⟩ := hI.k9 (hup 9 (by decide))
      obtain ⟨xa, xn, xk, xb, xm, xl, hB⟩ := hb (hup 10 (by decide))
      obtain rfl := hI.k11 (hup 11 (by decide))
      have HZ : Hid (Below W6.heap.size W6 W ∧ PB W bb xa xn xk xb xm xl ((ec C).add ((ec C).mul a.toNat (gen C)) ((ec C).mul b.toNat P))) := ⟨hI.bel, hB⟩
      clear hI hb hB
      go_wp2
      go_meet
      case rel => exact ⟨bb, xa, xn, xk, xb, xm, xl, rfl, rfl, ⟨below_via K6.out.1 HZ.out.1 (Nat.le_refl _), K6.out.2.1.below HZ.out.1, K6.out.2.2.1.below HZ.out.1, K6.out.2.2.2.1.below HZ.out.1, K6.out.2.2.2.2.1.below HZ.out.1, K6.out.2.2.2.2.2.1.below HZ.out.1, K6.out.2.2.2.2.2.2.below HZ.out.1, HZ.out.2⟩⟩
    · rintro i L ac W hi hno hdep ⟨s22, s23, s80, s81, s82, s83, s84, s85, s86, s87, s88, hsz, rfl, hI⟩
      have hlt : ∀ k, k < 12 → k < L.size := fun k hk => by omega
      replace hi : i < 12 := hi
      obtain rfl | rfl | rfl | rfl | rfl | rfl | rfl | rfl | rfl | rfl | rfl | rfl : i = 0 ∨ i = 1 ∨ i = 2 ∨ i = 3 ∨ i = 4 ∨ i = 5 ∨ i = 6 ∨ i = 7 ∨ i = 8 ∨ i = 9 ∨ i = 10 ∨ i = 11 := by omega
      · have HI : Hid (InvS11 W6 (c) (a) (.agg #[.slice a4 n4 k4, .slice b4 m4 l4]) ((ec C).mul a.toNat (gen C)) ((ec C).add ((ec C).mul a.toNat (gen C)) ((ec C).mul b.toNat P)) L s22 s23 s80 s81 s82 s83 s84 s85 s86 s87 s88 W) := hI
        clear hI
        refine wpOp_step rfl (fun K hK => ?_)
        go_simp
        replace hI := HI.out
        exact hK _ _ ⟨s22, s23, s80, .int .i64 c, s82, s83, s84, s85, s86, s87, s88, by simp [hsz], rfl, { bel := hI.bel, k0 := fun _ => rfl, k1 := fun u => hI.k1 (up_set u (by decide)), k2 := fun u => hI.k2 (up_set u (by decide)), k3 := fun u => hI.k3 (up_set u (by decide)), k4 := fun u => hI.k4 (up_set u (by decide)), k5 := fun u => hI.k5 (up_set u (by decide)), k6 := fun u => hI.k6 (up_set u (by decide)), k7 := fun u => hI.k7 (up_set u (by decide)), k8 := fun u => hI.k8 (up_set u (by decide)), k9 := fun u => by obtain ⟨bb, e, hl, h1, h2⟩ := hI.k9 (up_set u (by decide)); exact ⟨bb, e, hl, fun z => h1 (fun y => z (up_mono2 y (by decide))), fun z => h2 (up_set z (by decide))⟩, k10 := fun u => up_mono2 (hI.k10 (up_set u (by decide))) (by decide), k11 := fun u => hI.k11 (up_set u (by decide)) }⟩
      · have HI : Hid (InvS11 W6 (c) (a) (.agg #[.slice a4 n4 k4, .slice b4 m4 l4]) ((ec C).mul a.toNat (gen C)) ((ec C).add ((ec C).mul a.toNat (gen C)) ((ec C).mul b.toNat P)) L s22 s23 s80 s81 s82 s83 s84 s85 s86 s87 s88 W) := hI
        clear hI
        refine wpOp_step rfl (fun K hK => ?_)
        go_simp
        replace hI := HI.out
        exact hK _ _ ⟨s22, s23, s80, s81, .int .i64 c, s83, s84, s85, s86, s87, s88, by simp [hsz], rfl, { bel := hI.bel, k0 := fun u => hI.k0 (up_set u (by decide)), k1 := fun _ => rfl, k2 := fun u => hI.k2 (up_set u (by decide)), k3 := fun u => hI.k3 (up_set u (by decide)), k4 := fun u => hI.k4 (up_set u (by decide)), k5 := fun u => hI.k5 (up_set u (by decide)), k6 := fun u => hI.k6 (up_set u (by decide)), k7 := fun u => hI.k7 (up_set u (by decide)), k8 := fun u => hI.k8 (up_set u (by decide)), k9 := fun u => by obtain ⟨bb, e, hl, h1, h2⟩ := hI.k9 (up_set u (by decide)); exact ⟨bb, e, hl, fun z => h1 (fun y => z (up_mono2 y (by decide))), fun z => h2 (up_set z (by decide))⟩, k10 := fun u => up_mono2 (hI.k10 (up_set u (by decide))) (by decide), k11 := fun u => hI.k11 (up_set u (by decide)) }⟩
      · have HI : Hid (InvS11 W6 (c) (a) (.agg #[.slice a4 n4 k4, .slice b4 m4 l4]) ((ec C).mul a.toNat (gen C)) ((ec C).add ((ec C).mul a.toNat (gen C)) ((ec C).mul b.toNat P)) L s22 s23 s80 s81 s82 s83 s84 s85 s86 s87 s88 W) := hI
        clear hI
        refine wpOp_step rfl (fun K hK => ?_)
        go_simp
        replace hI := HI.out
        exact hK _ _ ⟨s22, s23, s80, s81, s82, .int .u32 (a), s84, s85, s86, s87, s88, by simp [hsz], rfl, { bel := hI.bel, k0 := fun u => hI.k0 (up_set u (by decide)), k1 := fun u => hI.k1 (up_set u (by decide)), k2 := fun _ => rfl, k3 := fun u => hI.k3 (up_set u (by decide)), k4 := fun u => hI.k4 (up_set u (by decide)), k5 := fun u => hI.k5 (up_set u (by decide)), k6 := fun u => hI.k6 (up_set u (by decide)), k7 := fun u => hI.k7 (up_set u (by decide)), k8 := fun u => hI.k8 (up_set u (by decide)), k9 := fun u => by obtain ⟨bb, e, hl, h1, h2⟩ := hI.k9 (up_set u (by decide)); exact ⟨bb, e, hl, fun z => h1 (fun y => z (up_mono2 y (by decide))), fun z => h2 (up_set z (by decide))⟩, k10 := fun u => up_mono2 (hI.k10 (up_set u (by decide))) (by decide), k11 := fun u => hI.k11 (up_set u (by decide)) }⟩
      · have HI : Hid (InvS11 W6 (c) (a) (.agg #[.slice a4 n4 k4, .slice b4 m4 l4]) ((ec C).mul a.toNat (gen C)) ((ec C).add ((ec C).mul a.toNat (gen C)) ((ec C).mul b.toNat P)) L s22 s23 s80 s81 s82 s83 s84 s85 s86 s87 s88 W) := hI
        clear hI
        obtain rfl := HI.out.k1 (hdep 1 (by decide +kernel))
        obtain rfl := HI.out.k2 (hdep 2 (by decide +kernel))
        refine wpOp_step rfl (fun K hK => ?_)
        go_simp
        refine (HAt.out W).mono ?_
        rintro e W' ⟨xa, xn, xk, xb, xm, xl, rfl, hv, hb⟩
        replace hI := HI.out.to hb
        simp only []
        go_simp
        exact hK _ _ ⟨s22, s23, s80, s81, .int .i64 c, .int .u32 (a), .agg #[.slice xa xn xk, .slice xb xm xl], s85, s86, s87, s88, by simp [hsz], rfl, { bel := hI.bel, k0 := fun u => hI.k0 (up_set u (by decide)), k1 := fun u => hI.k1 (up_set u (by decide)), k2 := fun u => hI.k2 (up_set u (by decide)), k3 := fun _ => ⟨xa, xn, xk, xb, xm, xl, rfl, hv⟩, k4 := fun u => hI.k4 (up_set u (by decide)), k5 := fun u => hI.k5 (up_set u (by decide)), k6 := fun u => hI.k6 (up_set u (by decide)), k7 := fun u => hI.k7 (up_set u (by decide)), k8 := fun u => hI.k8 (up_set u (by decide)), k9 := fun u => by obtain ⟨bb, e, hl, h1, h2⟩ := hI.k9 (up_set u (by decide)); exact ⟨bb, e, hl, fun z => h1 (fun y => z (up_mono2 y (by decide))), fun z => h2 (up_set z (by decide))⟩, k10 := fun u => up_mono2 (hI.k10 (up_set u (by decide))) (by decide), k11 := fun u => hI.k11 (up_set u (by decide)) }⟩
      · have HI : Hid (InvS11 W6 (c) (a) (.agg #[.slice a4 n4 k4, .slice b4 m4 l4]) ((ec C).mul a.toNat (gen C)) ((ec C).add ((ec C).mul a.toNat (gen C)) ((ec C).mul b.toNat P)) L s22 s23 s80 s81 s82 s83 s84 s85 s86 s87 s88 W) := hI
        clear hI
        refine wpOp_step rfl (fun K hK => ?_)
        rw [if_pos (by rfl)]
        refine wp_load_mid _ _ rfl w4.heap.size 0 rfl [.slice a4 n4 k4, .slice b4 m4 l4] _ ((HZb.out W HI.out.bel).1).whole Try.underlying24 rfl (by kernel_rfl) ?_
        replace hI := HI.out
        simp only [Act.put, List.setIfInBounds_toArray]
        exact hK _ _ ⟨s22, s23, s80, s81, s82, s83, s84, (.agg #[.slice a4 n4 k4, .slice b4 m4 l4]), s86, s87, s88, by simp [hsz], rfl, { bel := hI.bel, k0 := fun u => hI.k0 (up_set u (by decide)), k1 := fun u => hI.k1 (up_set u (by decide)), k2 := fun u => hI.k2 (up_set u (by decide)), k3 := fun u => hI.k3 (up_set u (by decide)), k4 := fun _ => rfl, k5 := fun u => hI.k5 (up_set u (by decide)), k6 := fun u => hI.k6 (up_set u (by decide)), k7 := fun u => hI.k7 (up_set u (by decide)), k8 := fun u => hI.k8 (up_set u (by decide)), k9 := fun u => by obtain ⟨bb, e, hl, h1, h2⟩ := hI.k9 (up_set u (by decide)); exact ⟨bb, e, hl, fun z => h1 (fun y => z (up_mono2 y (by decide))), fun z => h2 (up_set z (by decide))⟩, k10 := fun u => up_mono2 (hI.k10 (up_set u (by decide))) (by decide), k11 := fun u => hI.k11 (up_set u (by decide)) }⟩
      · have HI : Hid (InvS11 W6 (c) (a) (.agg #[.slice a4 n4 k4, .slice b4 m4 l4]) ((ec C).mul a.toNat (gen C)) ((ec C).add ((ec C).mul a.toNat (gen C)) ((ec C).mul b.toNat P)) L s22 s23 s80 s81 s82 s83 s84 s85 s86 s87 s88 W) := hI
        clear hI
        obtain rfl := HI.out.k0 (hdep 0 (by decide +kernel))
        obtain ⟨xad3, xnd3, xkd3, xbd3, xmd3, xld3, rfl, hd3⟩ := HI.out.k3 (hdep 3 (by decide +kernel))
        have HD3 : Hid (PtV W xad3 xnd3 xkd3 xbd3 xmd3 xld3 ((ec C).mul a.toNat (gen C))) := hd3
        clear hd3
        obtain rfl := HI.out.k4 (hdep 4 (by decide +kernel))
        refine wpOp_step rfl (fun K hK => ?_)
        go_simp
        refine (AddG HC.out.1 HC.out.2 xad3 xnd3 xkd3 xbd3 xmd3 xld3 a4 n4 k4 b4 m4 l4 Ho.out.2.2.2 Ho.out.2.2.1 HD3.out (HZb.out W HI.out.bel).2).mono ?_
        rintro e W' ⟨xa, xn, xk, xb, xm, xl, rfl, hv, hb⟩
        replace hI := HI.out.to hb
        simp only []
        go_simp
        exact hK _ _ ⟨s22, s23, s80, .int .i64 c, s82, s83, .agg #[.slice xad3 xnd3 xkd3, .slice xbd3 xmd3 xld3], (.agg #[.slice a4 n4 k4, .slice b4 m4 l4]), .tuple #[.agg #[.slice xa xn xk, .slice xb xm xl], .int .i64 0], s87, s88, by simp [hsz], rfl, { bel := hI.bel, k0 := fun u => hI.k0 (up_set u (by decide)), k1 := fun u => hI.k1 (up_set u (by decide)), k2 := fun u => hI.k2 (up_set u (by decide)), k3 := fun u => hI.k3 (up_set u (by decide)), k4 := fun u => hI.k4 (up_set u (by decide)), k5 := fun _ => ⟨xa, xn, xk, xb, xm, xl, rfl, hv⟩, k6 := fun u => hI.k6 (up_set u (by decide)), k7 := fun u => hI.k7 (up_set u (by decide)), k8 := fun u => hI.k8 (up_set u (by decide)), k9 := fun u => by obtain ⟨bb, e, hl, h1, h2⟩ := hI.k9 (up_set u (by decide)); exact ⟨bb, e, hl, fun z => h1 (fun y => z (up_mono2 y (by decide))), fun z => h2 (up_set z (by decide))⟩, k10 := fun u => up_mono2 (hI.k10 (up_set u (by decide))) (by decide), k11 := fun u => hI.k11 (up_set u (by decide)) }⟩
      · have HI : Hid (InvS11 W6 (c) (a) (.agg #[.slice a4 n4 k4, .slice b4 m4 l4]) ((ec C).mul a.toNat (gen C)) ((ec C).add ((ec C).mul a.toNat (gen C)) ((ec C).mul b.toNat P)) L s22 s23 s80 s81 s82 s83 s84 s85 s86 s87 s88 W) := hI
        clear hI
        obtain ⟨xa, xn, xk, xb, xm, xl, rfl, hd⟩ := HI.out.k5 (hdep 5 (by decide +kernel))
        have HD : Hid (PtV W xa xn xk xb xm xl ((ec C).add ((ec C).mul a.toNat (gen C)) ((ec C).mul b.toNat P))) := hd
        clear hd
        refine wpOp_step rfl (fun K hK => ?_)
        go_simp
        replace hI := HI.out
        exact hK _ _ ⟨s22, s23, .tuple #[.agg #[.slice xa xn xk, .slice xb xm xl], .int .i64 0], s81, s82, s83, s84, s85, .tuple #[.agg #[.slice xa xn xk, .slice xb xm xl], .int .i64 0], s87, s88, by simp [hsz], rfl, { bel := hI.bel, k0 := fun u => hI.k0 (up_set u (by decide)), k1 := fun u => hI.k1 (up_set u (by decide)), k2 := fun u => hI.k2 (up_set u (by decide)), k3 := fun u => hI.k3 (up_set u (by decide)), k4 := fun u => hI.k4 (up_set u (by decide)), k5 := fun u => hI.k5 (up_set u (by decide)), k6 := fun _ => ⟨xa, xn, xk, xb, xm, xl, rfl, HD.out⟩, k7 := fun u => hI.k7 (up_set u (by decide)), k8 := fun u => hI.k8 (up_set u (by decide)), k9 := fun u => by obtain ⟨bb, e, hl, h1, h2⟩ := hI.k9 (up_set u (by decide)); exact ⟨bb, e, hl, fun z => h1 (fun y => z (up_mono2 y (by decide))), fun z => h2 (up_set z (by decide))⟩, k10 := fun u => up_mono2 (hI.k10 (up_set u (by decide))) (by decide), k11 := fun u => hI.k11 (up_set u (by decide)) }⟩
      · have HI : Hid (InvS11 W6 (c) (a) (.agg #[.slice a4 n4 k4, .slice b4 m4 l4]) ((ec C).mul a.toNat (gen C)) ((ec C).add ((ec C).mul a.toNat (gen C)) ((ec C).mul b.toNat P)) L s22 s23 s80 s81 s82 s83 s84 s85 s86 s87 s88 W) := hI
        clear hI
        obtain ⟨xa, xn, xk, xb, xm, xl, rfl, hd⟩ := HI.out.k6 (hdep 6 (by decide +kernel))
        have HD : Hid (PtV W xa xn xk xb xm xl ((ec C).add ((ec C).mul a.toNat (gen C)) ((ec C).mul b.toNat P))) := hd
        clear hd
        refine wpOp_step rfl (fun K hK => ?_)
        go_simp
        replace hI := HI.out
        exact hK _ _ ⟨s22, s23, .tuple #[.agg #[.slice xa xn xk, .slice xb xm xl], .int .i64 0], s81, s82, s83, s84, s85, s86, .agg #[.slice xa xn xk, .slice xb xm xl], s88, by simp [hsz], rfl, { bel := hI.bel, k0 := fun u => hI.k0 (up_set u (by decide)), k1 := fun u => hI.k1 (up_set u (by decide)), k2 := fun u => hI.k2 (up_set u (by decide)), k3 := fun u => hI.k3 (up_set u (by decide)), k4 := fun u => hI.k4 (up_set u (by decide)), k5 := fun u => hI.k5 (up_set u (by decide)), k6 := fun u => hI.k6 (up_set u (by decide)), k7 := fun _ => ⟨xa, xn, xk, xb, xm, xl, rfl, HD.out⟩, k8 := fun u => hI.k8 (up_set u (by decide)), k9 := fun u => by obtain ⟨bb, e, hl, h1, h2⟩ := hI.k9 (up_set u (by decide)); exact ⟨bb, e, hl, fun z => h1 (fun y => z (up_mono2 y (by decide))), fun z => h2 (up_set z (by decide))⟩, k10 := fun u => up_mono2 (hI.k10 (up_set u (by decide))) (by decide), k11 := fun u => hI.k11 (up_set u (by decide)) }⟩
      · have HI : Hid (InvS11 W6 (c) (a) (.agg #[.slice a4 n4 k4, .slice b4 m4 l4]) ((ec C).mul a.toNat (gen C)) ((ec C).add ((ec C).mul a.toNat (gen C)) ((ec C).mul b.toNat P)) L s22 s23 s80 s81 s82 s83 s84 s85 s86 s87 s88 W) := hI
        clear hI
        obtain ⟨xa, xn, xk, xb, xm, xl, rfl, hd⟩ := HI.out.k6 (hdep 6 (by decide +kernel))
        clear hd
        refine wpOp_step rfl (fun K hK => ?_)
        go_simp
        replace hI := HI.out
        exact hK _ _ ⟨s22, s23, .tuple #[.agg #[.slice xa xn xk, .slice xb xm xl], .int .i64 0], s81, s82, s83, s84, s85, s86, s87, .int .i64 0, by simp [hsz], rfl, { bel := hI.bel, k0 := fun u => hI.k0 (up_set u (by decide)), k1 := fun u => hI.k1 (up_set u (by decide)), k2 := fun u => hI.k2 (up_set u (by decide)), k3 := fun u => hI.k3 (up_set u (by decide)), k4 := fun u => hI.k4 (up_set u (by decide)), k5 := fun u => hI.k5 (up_set u (by decide)), k6 := fun u => hI.k6 (up_set u (by decide)), k7 := fun u => hI.k7 (up_set u (by decide)), k8 := fun _ => rfl, k9 := fun u => by obtain ⟨bb, e, hl, h1, h2⟩ := hI.k9 (up_set u (by decide)); exact ⟨bb, e, hl, fun z => h1 (fun y => z (up_mono2 y (by decide))), fun z => h2 (up_set z (by decide))⟩, k10 := fun u => up_mono2 (hI.k10 (up_set u (by decide))) (by decide), k11 := fun u => hI.k11 (up_set u (by decide)) }⟩
      · have HI : Hid (InvS11 W6 (c) (a) (.agg #[.slice a4 n4 k4, .slice b4 m4 l4]) ((ec C).mul a.toNat (gen C)) ((ec C).add ((ec C).mul a.toNat (gen C)) ((ec C).mul b.toNat P)) L s22 s23 s80 s81 s82 s83 s84 s85 s86 s87 s88 W) := hI
        clear hI
        refine wpOp_step rfl (fun K hK => ?_)
        go_simp
        replace hI := HI.out.to (al1 (w := W) (.cells [.slice none 0 0, .slice none 0 0].toArray 24))
        exact hK _ _ ⟨.pointer (some ⟨W.heap.size, 0, none⟩), s23, s80, s81, s82, s83, s84, s85, s86, s87, s88, by simp [hsz], rfl, { bel := hI.bel, k0 := fun u => hI.k0 (up_set u (by decide)), k1 := fun u => hI.k1 (up_set u (by decide)), k2 := fun u => hI.k2 (up_set u (by decide)), k3 := fun u => hI.k3 (up_set u (by decide)), k4 := fun u => hI.k4 (up_set u (by decide)), k5 := fun u => hI.k5 (up_set u (by decide)), k6 := fun u => hI.k6 (up_set u (by decide)), k7 := fun u => hI.k7 (up_set u (by decide)), k8 := fun u => hI.k8 (up_set u (by decide)), k9 := fun _ => ⟨W.heap.size, rfl, HI.out.bel.size, fun _ => Blk.new _ W [.slice none 0 0, .slice none 0 0], fun u => absurd (HI.out.k10 (up_set u (by decide))) hno⟩, k10 := fun _ => by unfold Up; simp [hlt], k11 := fun u => hI.k11 (up_set u (by decide)) }⟩
      · have HI : Hid (InvS11 W6 (c) (a) (.agg #[.slice a4 n4 k4, .slice b4 m4 l4]) ((ec C).mul a.toNat (gen C)) ((ec C).add ((ec C).mul a.toNat (gen C)) ((ec C).mul b.toNat P)) L s22 s23 s80 s81 s82 s83 s84 s85 s86 s87 s88 W) := hI
        clear hI
        obtain ⟨bb, rfl, gb, hz, _⟩ := HI.out.k9 (hdep 9 (by decide +kernel))
        obtain ⟨xa, xn, xk, xb, xm, xl, rfl, hd⟩ := HI.out.k7 (hdep 7 (by decide +kernel))
        have HB : Hid (Blk 24 W bb [.slice none 0 0, .slice none 0 0] ∧ W6.heap.size ≤ bb ∧ PtV W xa xn xk xb xm xl ((ec C).add ((ec C).mul a.toNat (gen C)) ((ec C).mul b.toNat P))) := ⟨hz hno, gb, hd⟩
        clear hz gb hd
        refine wpOp_step rfl (fun K hK => ?_)
        rw [if_pos (by rfl)]
        refine wp_store_mid _ _ _ rfl bb 0 #[.slice xa xn xk, .slice xb xm xl] rfl rfl (HB.out.1.there 0 _ (by simp)) (by kernel_rfl) (sl2_one _ _ _ _ _ _) ?_
        have hU : Upd W (W.setCells bb 0 [.slice xa xn xk, .slice xb xm xl]) bb := Upd.setCells _ 0 W
        have hF := HB.out.1.fill [.slice xa xn xk, .slice xb xm xl] rfl
        have hI := HI.out
        simp only [Act.put, List.setIfInBounds_toArray]
        exact hK _ _ ⟨.pointer (some ⟨bb, 0, none⟩), s23, s80, s81, s82, s83, s84, s85, s86, .agg #[.slice xa xn xk, .slice xb xm xl], s88, by simp [hsz], rfl, { bel := hU.below hI.bel hI.bel.size HB.out.2.1, k0 := fun u => hI.k0 (up_set u (by decide)), k1 := fun u => hI.k1 (up_set u (by decide)), k2 := fun u => hI.k2 (up_set u (by decide)), k3 := fun u => by obtain ⟨xa, xn, xk, xb, xm, xl, e, h⟩ := hI.k3 (up_set u (by decide)); exact ⟨xa, xn, xk, xb, xm, xl, e, h.upd HB.out.1 sl2_nn hU⟩, k4 := fun u => hI.k4 (up_set u (by decide)), k5 := fun u => by obtain ⟨xa, xn, xk, xb, xm, xl, e, h⟩ := hI.k5 (up_set u (by decide)); exact ⟨xa, xn, xk, xb, xm, xl, e, h.upd HB.out.1 sl2_nn hU⟩, k6 := fun u => by obtain ⟨xa, xn, xk, xb, xm, xl, e, h⟩ := hI.k6 (up_set u (by decide)); exact ⟨xa, xn, xk, xb, xm, xl, e, h.upd HB.out.1 sl2_nn hU⟩, k7 := fun u => by obtain ⟨xa, xn, xk, xb, xm, xl, e, h⟩ := hI.k7 (up_set u (by decide)); exact ⟨xa, xn, xk, xb, xm, xl, e, h.upd HB.out.1 sl2_nn hU⟩, k8 := fun u => hI.k8 (up_set u (by decide)), k9 := fun _ => ⟨bb, rfl, HB.out.2.1, fun z => absurd (by unfold Up; simp [hlt]) z, fun _ => ⟨xa, xn, xk, xb, xm, xl, ⟨hF, HB.out.2.2.upd HB.out.1 sl2_nn hU⟩⟩⟩, k10 := fun _ => up_mono2 (hdep 9 (by decide +kernel)) (by decide), k11 := fun u => hI.k11 (up_set u (by decide)) }⟩
      · have HI : Hid (InvS11 W6 (c) (a) (.agg #[.slice a4 n4 k4, .slice b4 m4 l4]) ((ec C).mul a.toNat (gen C)) ((ec C).add ((ec C).mul a.toNat (gen C)) ((ec C).mul b.toNat P)) L s22 s23 s80 s81 s82 s83 s84 s85 s86 s87 s88 W) := hI
        clear hI
        obtain rfl := HI.out.k8 (hdep 8 (by decide +kernel))
        refine wpOp_step rfl (fun K hK => ?_)
        go_simp
        replace hI := HI.out
        exact hK _ _ ⟨s22, .int .i64 0, s80, s81, s82, s83, s84, s85, s86, s87, .int .i64 0, by simp [hsz], rfl, { bel := hI.bel, k0 := fun u => hI.k0 (up_set u (by decide)), k1 := fun u => hI.k1 (up_set u (by decide)), k2 := fun u => hI.k2 (up_set u (by decide)), k3 := fun u => hI.k3 (up_set u (by decide)), k4 := fun u => hI.k4 (up_set u (by decide)), k5 := fun u => hI.k5 (up_set u (by decide)), k6 := fun u => hI.k6 (up_set u (by decide)), k7 := fun u => hI.k7 (up_set u (by decide)), k8 := fun u => hI.k8 (up_set u (by decide)), k9 := fun u => by obtain ⟨bb, e, hl, h1, h2⟩ := hI.k9 (up_set u (by decide)); exact ⟨bb, e, hl, fun z => h1 (fun y => z (up_mono2 y (by decide))), fun z => h2 (up_set z (by decide))⟩, k10 := fun u => up_mono2 (hI.k10 (up_set u (by decide))) (by decide), k11 := fun _ => rfl }⟩
  obtain ⟨bpn, a7, n7, k7, b7, m7, l7, rfl, rfl, K7⟩ := hcut
  obtain ⟨W7, hWn⟩ : ∃ x, x = wc := ⟨_, rfl⟩
  subst hWn
  clear K6
  clear HZb HAt
  have HPb : Hid (∀ W, Below W7.heap.size W7 W → PB W w1.heap.size a1 n1 k1 b1 m1 l1 P) := fun W h => K7.out.2.1.below h
  have HOr : Hid (∀ W, Calls Try.prog 32 #[.int .i64 c] W fun e w' => ∃ xa xn xk, e = .returned (.slice xa xn xk) ∧ Nb w' (.slice xa xn xk) C.n ∧ Below W.heap.size W w') := fun W => (Order_any c).mono fun e w' ⟨r, he, hn, hb⟩ => by
    rw [HC.out.1] at hn
    have hn : Nb w' r C.n := hn
    obtain ⟨x, y, hr⟩ := hn.form
    subst hr
    exact ⟨_, _, _, he, hn, hb⟩
  have HMn : Hid ((ec C).mul (val (lim C.n)).toNat P = none) := by
    show _ = _
    rw [val_toNat]
    exact HC.out.2.ord Ho.out.1
  have HN : Hid ((lim C.n).length ≤ 64) := by
    have h : C.n < 4294967296 ^ 12 := crv_n12 HC.out.1
    have := lim12 h
    show _ ≤ _
    omega
  go_upto_region 12 with (fail)
  go_cut [24, 25] from 26 (fun s24 s25 wd => ∃ bb xa xn xk xb xm xl, s24 = .pointer (some ⟨bb, 0, none⟩) ∧ s25 = .int .i64 0 ∧ Hid (Below w.heap.size w wd ∧ PB wd w1.heap.size a1 n1 k1 b1 m1 l1 (P) ∧ PB wd w2.heap.size a2 n2 k2 b2 m2 l2 ((ec C).mul (a.toNat + b.toNat) P) ∧ PB wd w3.heap.size a3 n3 k3 b3 m3 l3 ((ec C).mul a.toNat P) ∧ PB wd w4.heap.size a4 n4 k4 b4 m4 l4 ((ec C).mul b.toNat P) ∧ PB wd w5.heap.size a5 n5 k5 b5 m5 l5 ((ec C).mul (a.toNat + b.toNat) P) ∧ PB wd bm a6 n6 k6 b6 m6 l6 ((ec C).add ((ec C).mul a.toNat (gen C)) ((ec C).mul b.toNat P)) ∧ PB wd bpn a7 n7 k7 b7 m7 l7 ((ec C).add ((ec C).mul a.toNat (gen C)) ((ec C).mul b.toNat P)) ∧ PB wd bb xa xn xk xb xm xl ((none : Pt C.p))))
  case first =>
    refine wp_region_inv (fun L ac W => ∃ s24 s25 s89 s90 s91 s92 s93 s94 s95 s96, L.size = 11 ∧ ac = { tmps := List.toArray (.bool o :: .int .u32 a :: .int .u32 b :: .int .u32 k :: undef :: undef :: undef :: undef :: .bool false :: .int .i64 c :: .pointer (some ⟨w1.heap.size, 0, none⟩) :: .int .u64 (a + b) :: .pointer (some ⟨w2.heap.size, 0, none⟩) :: .int .i64 0 :: .pointer (some ⟨w3.heap.size, 0, none⟩) :: .int .i64 0 :: .pointer (some ⟨w4.heap.size, 0, none⟩) :: .int .i64 0 :: .pointer (some ⟨w5.heap.size, 0, none⟩) :: .int .i64 0 :: .pointer (some ⟨bm, 0, none⟩) :: .int .i64 0 :: .pointer (some ⟨bpn, 0, none⟩) :: .int .i64 0 :: s24 :: s25 :: u26 :: u27 :: u28 :: u29 :: u30 :: u31 :: u32 :: u33 :: u34 :: u35 :: u36 :: u37 :: u38 :: u39 :: u40 :: u41 :: u42 :: u43 :: u44 :: u45 :: u46 :: u47 :: u48 :: u49 :: u50 :: u51 :: u52 :: u53 :: u54 :: u55 :: u56 :: u57 :: u58 :: u59 :: u60 :: u61 :: u62 :: u63 :: u64 :: u65 :: u66 :: u67 :: u68 :: u69 :: u70 :: u71 :: u72 :: u73 :: u74 :: u75 :: u76 :: u77 :: u78 :: u79 :: u80 :: u81 :: u82 :: u83 :: u84 :: u85 :: u86 :: u87 :: u88 :: s89 :: s90 :: s91 :: s92 :: s93 :: s94 :: s95 :: s96 :: u97 :: u98 :: u99 :: u100 :: u101 :: u102 :: u103 :: u104 :: u105 :: u106 :: u107 :: u108 :: u109 :: u110 :: u111 :: u112 :: u113 :: u114 :: u115 :: u116 :: u117 :: u118 :: u119 :: u120 :: u121 :: u122 :: u123 :: u124 :: u125 :: u126 :: u127 :: u128 :: u129 :: u130 :: u131 :: u132 :: u133 :: u134 :: u135 :: u136 :: u137 :: u138 :: u139 :: u140 :: []), defers := [] } ∧ InvS12 W7 (c) (.agg #[.slice a1 n1 k1, .slice b1 m1 l1]) (C.n) ((none : Pt C.p)) L s24 s25 s89 s90 s91 s92 s93 s94 s95 s96 W) rfl (by decide +kernel) ?_ ?_ ?_
    · refine ⟨undef, undef, u89, u90, u91, u92, u93, u94, u95, u96, by simp, rfl, ?_⟩
      exact { bel := Below.drew (Below.refl _ _), k0 := fun u => absurd u not_up_new, k1 := fun u => absurd u not_up_new, k2 := fun u => absurd u not_up_new, k3 := fun u => absurd u not_up_new, k4 := fun u => absurd u not_up_new, k5 := fun u => absurd u not_up_new, k6 := fun u => absurd u not_up_new, k7 := fun u => absurd u not_up_new, k8 := fun u => absurd u not_up_new, k9 := fun u => absurd u not_up_new, k10 := fun u => absurd u not_up_new }
    · rintro L ac W hup ⟨s24, s25, s89, s90, s91, s92, s93, s94, s95, s96, hsz, rfl, hI⟩
      obtain ⟨bb, rfl, _, _, hb⟩ := hI.k8 (hup 8 (by decide))
      obtain ⟨xa, xn, xk, xb, xm, xl, hB⟩ := hb (hup 9 (by decide))
      obtain rfl := hI.k10 (hup 10 (by decide))
      have HZ : Hid (Below W7.heap.size W7 W ∧ PB W bb xa xn xk xb xm xl ((none : Pt C.p))) := ⟨hI.bel, hB⟩
      clear hI hb hB
      go_wp2
      go_meet
      case rel => exact ⟨bb, xa, xn, xk, xb, xm, xl, rfl, rfl, ⟨below_via K7.out.1 HZ.out.1 (Nat.le_refl _), K7.out.2.1.below HZ.out.1, K7.out.2.2.1.below HZ.out.1, K7.out.2.2.2.1.below HZ.out.1, K7.out.2.2.2.2.1.below HZ.out.1, K7.out.2.2.2.2.2.1.below HZ.out.1, K7.out.2.2.2.2.2.2.1.below HZ.out.1, K7.out.2.2.2.2.2.2.2.below HZ.out.1, HZ.out.2⟩⟩
    · rintro i L ac W hi hno hdep ⟨s24, s25, s89, s90, s91, s92, s93, s94, s95, s96, hsz, rfl, hI⟩
      have hlt : ∀ k, k < 11 → k < L.size := fun k hk => by omega
      replace hi : i < 11 := hi
      obtain rfl | rfl | rfl | rfl | rfl | rfl | rfl | rfl | rfl | rfl | rfl : i = 0 ∨ i = 1 ∨ i = 2 ∨ i = 3 ∨ i = 4 ∨ i = 5 ∨ i = 6 ∨ i = 7 ∨ i = 8 ∨ i = 9 ∨ i = 10 := by omega
      · have HI : Hid (InvS12 W7 (c) (.agg #[.slice a1 n1 k1, .slice b1 m1 l1]) (C.n) ((none : Pt C.p)) L s24 s25 s89 s90 s91 s92 s93 s94 s95 s96 W) := hI
        clear hI
        refine wpOp_step rfl (fun K hK => ?_)
        go_simp
        replace hI := HI.out
        exact hK _ _ ⟨s24, s25, s89, .int .i64 c, s91, s92, s93, s94, s95, s96, by simp [hsz], rfl, { bel := hI.bel, k0 := fun _ => rfl, k1 := fun u => hI.k1 (up_set u (by decide)), k2 := fun u => hI.k2 (up_set u (by decide)), k3 := fun u => hI.k3 (up_set u (by decide)), k4 := fun u => hI.k4 (up_set u (by decide)), k5 := fun u => hI.k5 (up_set u (by decide)), k6 := fun u => hI.k6 (up_set u (by decide)), k7 := fun u => hI.k7 (up_set u (by decide)), k8 := fun u => by obtain ⟨bb, e, hl, h1, h2⟩ := hI.k8 (up_set u (by decide)); exact ⟨bb, e, hl, fun z => h1 (fun y => z (up_mono2 y (by decide))), fun z => h2 (up_set z (by decide))⟩, k9 := fun u => up_mono2 (hI.k9 (up_set u (by decide))) (by decide), k10 := fun u => hI.k10 (up_set u (by decide)) }⟩
      · have HI : Hid (InvS12 W7 (c) (.agg #[.slice a1 n1 k1, .slice b1 m1 l1]) (C.n) ((none : Pt C.p)) L s24 s25 s89 s90 s91 s92 s93 s94 s95 s96 W) := hI
        clear hI
        refine wpOp_step rfl (fun K hK => ?_)
        go_simp
        replace hI := HI.out
        exact hK _ _ ⟨s24, s25, s89, s90, .int .i64 c, s92, s93, s94, s95, s96, by simp [hsz], rfl, { bel := hI.bel, k0 := fun u => hI.k0 (up_set u (by decide)), k1 := fun _ => rfl, k2 := fun u => hI.k2 (up_set u (by decide)), k3 := fun u => hI.k3 (up_set u (by decide)), k4 := fun u => hI.k4 (up_set u (by decide)), k5 := fun u => hI.k5 (up_set u (by decide)), k6 := fun u => hI.k6 (up_set u (by decide)), k7 := fun u => hI.k7 (up_set u (by decide)), k8 := fun u => by obtain ⟨bb, e, hl, h1, h2⟩ := hI.k8 (up_set u (by decide)); exact ⟨bb, e, hl, fun z => h1 (fun y => z (up_mono2 y (by decide))), fun z => h2 (up_set z (by decide))⟩, k9 := fun u => up_mono2 (hI.k9 (up_set u (by decide))) (by decide), k10 := fun u => hI.k10 (up_set u (by decide)) }⟩
      · have HI : Hid (InvS12 W7 (c) (.agg #[.slice a1 n1 k1, .slice b1 m1 l1]) (C.n) ((none : Pt C.p)) L s24 s25 s89 s90 s91 s92 s93 s94 s95 s96 W) := hI
        clear hI
        obtain rfl := HI.out.k1 (hdep 1 (by decide +kernel))
        refine wpOp_step rfl (fun K hK => ?_)
        go_simp
        refine (HOr.out W).mono ?_
        rintro e W' ⟨xa, xn, xk, rfl, hv, hb⟩
        replace hI := HI.out.to hb
        simp only []
        go_simp
        exact hK _ _ ⟨s24, s25, s89, s90, .int .i64 c, .slice xa xn xk, s93, s94, s95, s96, by simp [hsz], rfl, { bel := hI.bel, k0 := fun u => hI.k0 (up_set u (by decide)), k1 := fun u => hI.k1 (up_set u (by decide)), k2 := fun _ => ⟨xa, xn, xk, rfl, hv⟩, k3 := fun u => hI.k3 (up_set u (by decide)), k4 := fun u => hI.k4 (up_set u (by decide)), k5 := fun u => hI.k5 (up_set u (by decide)), k6 := fun u => hI.k6 (up_set u (by decide)), k7 := fun u => hI.k7 (up_set u (by decide)), k8 := fun u => by obtain ⟨bb, e, hl, h1, h2⟩ := hI.k8 (up_set u (by decide)); exact ⟨bb, e, hl, fun z => h1 (fun y => z (up_mono2 y (by decide))), fun z => h2 (up_set z (by decide))⟩, k9 := fun u => up_mono2 (hI.k9 (up_set u (by decide))) (by decide), k10 := fun u => hI.k10 (up_set u (by decide)) }⟩
      · have HI : Hid (InvS12 W7 (c) (.agg #[.slice a1 n1 k1, .slice b1 m1 l1]) (C.n) ((none : Pt C.p)) L s24 s25 s89 s90 s91 s92 s93 s94 s95 s96 W) := hI
        clear hI
        refine wpOp_step rfl (fun K hK => ?_)
        rw [if_pos (by rfl)]
        refine wp_load_mid _ _ rfl w1.heap.size 0 rfl [.slice a1 n1 k1, .slice b1 m1 l1] _ ((HPb.out W HI.out.bel).1).whole Try.underlying24 rfl (by kernel_rfl) ?_
        replace hI := HI.out
        simp only [Act.put, List.setIfInBounds_toArray]
        exact hK _ _ ⟨s24, s25, s89, s90, s91, s92, (.agg #[.slice a1 n1 k1, .slice b1 m1 l1]), s94, s95, s96, by simp [hsz], rfl, { bel := hI.bel, k0 := fun u => hI.k0 (up_set u (by decide)), k1 := fun u => hI.k1 (up_set u (by decide)), k2 := fun u => hI.k2 (up_set u (by decide)), k3 := fun _ => rfl, k4 := fun u => hI.k4 (up_set u (by decide)), k5 := fun u => hI.k5 (up_set u (by decide)), k6 := fun u => hI.k6 (up_set u (by decide)), k7 := fun u => hI.k7 (up_set u (by decide)), k8 := fun u => by obtain ⟨bb, e, hl, h1, h2⟩ := hI.k8 (up_set u (by decide)); exact ⟨bb, e, hl, fun z => h1 (fun y => z (up_mono2 y (by decide))), fun z => h2 (up_set z (by decide))⟩, k9 := fun u => up_mono2 (hI.k9 (up_set u (by decide))) (by decide), k10 := fun u => hI.k10 (up_set u (by decide)) }⟩
      · have HI : Hid (InvS12 W7 (c) (.agg #[.slice a1 n1 k1, .slice b1 m1 l1]) (C.n) ((none : Pt C.p)) L s24 s25 s89 s90 s91 s92 s93 s94 s95 s96 W) := hI
        clear hI
        obtain rfl := HI.out.k0 (hdep 0 (by decide +kernel))
        obtain ⟨xad2, xnd2, xkd2, rfl, hd2⟩ := HI.out.k2 (hdep 2 (by decide +kernel))
        have HD2 : Hid (Nb W (.slice xad2 xnd2 xkd2) (C.n)) := hd2
        clear hd2
        obtain rfl := HI.out.k3 (hdep 3 (by decide +kernel))
        refine wpOp_step rfl (fun K hK => ?_)
        go_simp
        refine (MulG HC.out.1 HC.out.2 _ (lim C.n) a1 n1 k1 b1 m1 l1 Ho.out.1 HD2.out.sl (lim_u32 _) HN.out (HPb.out W HI.out.bel).2).mono ?_
        rintro e W' ⟨xa, xn, xk, xb, xm, xl, rfl, hv, hb⟩
        replace hI := HI.out.to hb
        simp only []
        go_simp
        exact hK _ _ ⟨s24, s25, s89, .int .i64 c, s91, .slice xad2 xnd2 xkd2, (.agg #[.slice a1 n1 k1, .slice b1 m1 l1]), .tuple #[.agg #[.slice xa xn xk, .slice xb xm xl], .int .i64 0], s95, s96, by simp [hsz], rfl, { bel := hI.bel, k0 := fun u => hI.k0 (up_set u (by decide)), k1 := fun u => hI.k1 (up_set u (by decide)), k2 := fun u => hI.k2 (up_set u (by decide)), k3 := fun u => hI.k3 (up_set u (by decide)), k4 := fun _ => ⟨xa, xn, xk, xb, xm, xl, rfl, (HMn.out ▸ hv)⟩, k5 := fun u => hI.k5 (up_set u (by decide)), k6 := fun u => hI.k6 (up_set u (by decide)), k7 := fun u => hI.k7 (up_set u (by decide)), k8 := fun u => by obtain ⟨bb, e, hl, h1, h2⟩ := hI.k8 (up_set u (by decide)); exact ⟨bb, e, hl, fun z => h1 (fun y => z (up_mono2 y (by decide))), fun z => h2 (up_set z (by decide))⟩, k9 := fun u => up_mono2 (hI.k9 (up_set u (by decide))) (by decide), k10 := fun u => hI.k10 (up_set u (by decide)) }⟩
      · have HI : Hid (InvS12 W7 (c) (.agg #[.slice a1 n1 k1, .slice b1 m1 l1]) (C.n) ((none : Pt C.p)) L s24 s25 s89 s90 s91 s92 s93 s94 s95 s96 W) := hI
        clear hI
        obtain ⟨xa, xn, xk, xb, xm, xl, rfl, hd⟩ := HI.out.k4 (hdep 4 (by decide +kernel))
        have HD : Hid (PtV W xa xn xk xb xm xl ((none : Pt C.p))) := hd
        clear hd
        refine wpOp_step rfl (fun K hK => ?_)
        go_simp
        replace hI := HI.out
        exact hK _ _ ⟨s24, s25, .tuple #[.agg #[.slice xa xn xk, .slice xb xm xl], .int .i64 0], s90, s91, s92, s93, .tuple #[.agg #[.slice xa xn xk, .slice xb xm xl], .int .i64 0], s95, s96, by simp [hsz], rfl, { bel := hI.bel, k0 := fun u => hI.k0 (up_set u (by decide)), k1 := fun u => hI.k1 (up_set u (by decide)), k2 := fun u => hI.k2 (up_set u (by decide)), k3 := fun u => hI.k3 (up_set u (by decide)), k4 := fun u => hI.k4 (up_set u (by decide)), k5 := fun _ => ⟨xa, xn, xk, xb, xm, xl, rfl, HD.out⟩, k6 := fun u => hI.k6 (up_set u (by decide)), k7 := fun u => hI.k7 (up_set u (by decide)), k8 := fun u => by obtain ⟨bb, e, hl, h1, h2⟩ := hI.k8 (up_set u (by decide)); exact ⟨bb, e, hl, fun z => h1 (fun y => z (up_mono2 y (by decide))), fun z => h2 (up_set z (by decide))⟩, k9 := fun u => up_mono2 (hI.k9 (up_set u (by decide))) (by decide), k10 := fun u => hI.k10 (up_set u (by decide)) }⟩
      · have HI : Hid (InvS12 W7 (c) (.agg #[.slice a1 n1 k1, .slice b1 m1 l1]) (C.n) ((none : Pt C.p)) L s24 s25 s89 s90 s91 s92 s93 s94 s95 s96 W) := hI
        clear hI
        obtain ⟨xa, xn, xk, xb, xm, xl, rfl, hd⟩ := HI.out.k5 (hdep 5 (by decide +kernel))
        have HD : Hid (PtV W xa xn xk xb xm xl ((none : Pt C.p))) := hd
        clear hd
        refine wpOp_step rfl (fun K hK => ?_)
        go_simp
        replace hI := HI.out
        exact hK _ _ ⟨s24, s25, .tuple #[.agg #[.slice xa xn xk, .slice xb xm xl], .int .i64 0], s90, s91, s92, s93, s94, .agg #[.slice xa xn xk, .slice xb xm xl], s96, by simp [hsz], rfl, { bel := hI.bel, k0 := fun u => hI.k0 (up_set u (by decide)), k1 := fun u => hI.k1 (up_set u (by decide)), k2 := fun u => hI.k2 (up_set u (by decide)), k3 := fun u => hI.k3 (up_set u (by decide)), k4 := fun u => hI.k4 (up_set u (by decide)), k5 := fun u => hI.k5 (up_set u (by decide)), k6 := fun _ => ⟨xa, xn, xk, xb, xm, xl, rfl, HD.out⟩, k7 := fun u => hI.k7 (up_set u (by decide)), k8 := fun u => by obtain ⟨bb, e, hl, h1, h2⟩ := hI.k8 (up_set u (by decide)); exact ⟨bb, e, hl, fun z => h1 (fun y => z (up_mono2 y (by decide))), fun z => h2 (up_set z (by decide))⟩, k9 := fun u => up_mono2 (hI.k9 (up_set u (by decide))) (by decide), k10 := fun u => hI.k10 (up_set u (by decide)) }⟩
      · have HI : Hid (InvS12 W7 (c) (.agg #[.slice a1 n1 k1, .slice b1 m1 l1]) (C.n) ((none : Pt C.p)) L s24 s25 s89 s90 s91 s92 s93 s94 s95 s96 W) := hI
        clear hI
        obtain ⟨xa, xn, xk, xb, xm, xl, rfl, hd⟩ := HI.out.k5 (hdep 5 (by decide +kernel))
        clear hd
        refine wpOp_step rfl (fun K hK => ?_)
        go_simp
        replace hI := HI.out
        exact hK _ _ ⟨s24, s25, .tuple #[.agg #[.slice xa xn xk, .slice xb xm xl], .int .i64 0], s90, s91, s92, s93, s94, s95, .int .i64 0, by simp [hsz], rfl, { bel := hI.bel, k0 := fun u => hI.k0 (up_set u (by decide)), k1 := fun u => hI.k1 (up_set u (by decide)), k2 := fun u => hI.k2 (up_set u (by decide)), k3 := fun u => hI.k3 (up_set u (by decide)), k4 := fun u => hI.k4 (up_set u (by decide)), k5 := fun u => hI.k5 (up_set u (by decide)), k6 := fun u => hI.k6 (up_set u (by decide)), k7 := fun _ => rfl, k8 := fun u => by obtain ⟨bb, e, hl, h1, h2⟩ := hI.k8 (up_set u (by decide)); exact ⟨bb, e, hl, fun z => h1 (fun y => z (up_mono2 y (by decide))), fun z => h2 (up_set z (by decide))⟩, k9 := fun u => up_mono2 (hI.k9 (up_set u (by decide))) (by decide), k10 := fun u => hI.k10 (up_set u (by decide)) }⟩
      · have HI : Hid (InvS12 W7 (c) (.agg #[.slice a1 n1 k1, .slice b1 m1 l1]) (C.n) ((none : Pt C.p)) L s24 s25 s89 s90 s91 s92 s93 s94 s95 s96 W) := hI
        clear hI
        refine wpOp_step rfl (fun K hK => ?_)
        go_simp
        replace hI := HI.out.to (al1 (w := W) (.cells [.slice none 0 0, .slice none 0 0].toArray 24))
        exact hK _ _ ⟨.pointer (some ⟨W.heap.size, 0, none⟩), s25, s89, s90, s91, s92, s93, s94, s95, s96, by simp [hsz], rfl, { bel := hI.bel, k0 := fun u => hI.k0 (up_set u (by decide)), k1 := fun u => hI.k1 (up_set u (by decide)), k2 := fun u => hI.k2 (up_set u (by decide)), k3 := fun u => hI.k3 (up_set u (by decide)), k4 := fun u => hI.k4 (up_set u (by decide)), k5 := fun u => hI.k5 (up_set u (by decide)), k6 := fun u => hI.k6 (up_set u (by decide)), k7 := fun u => hI.k7 (up_set u (by decide)), k8 := fun _ => ⟨W.heap.size, rfl, HI.out.bel.size, fun _ => Blk.new _ W [.slice none 0 0, .slice none 0 0], fun u => absurd (HI.out.k9 (up_set u (by decide))) hno⟩, k9 := fun _ => by unfold Up; simp [hlt], k10 := fun u => hI.k10 (up_set u (by decide)) }⟩
      · have HI : Hid (InvS12 W7 (c) (.agg #[.slice a1 n1 k1, .slice b1 m1 l1]) (C.n) ((none : Pt C.p)) L s24 s25 s89 s90 s91 s92 s93 s94 s95 s96 W) := hI
        clear hI
        obtain ⟨bb, rfl, gb, hz, _⟩ := HI.out.k8 (hdep 8 (by decide +kernel))
        obtain ⟨xa, xn, xk, xb, xm, xl, rfl, hd⟩ := HI.out.k6 (hdep 6 (by decide +kernel))
        have HB : Hid (Blk 24 W bb [.slice none 0 0, .slice none 0 0] ∧ W7.heap.size ≤ bb ∧ PtV W xa xn xk xb xm xl ((none : Pt C.p))) := ⟨hz hno, gb, hd⟩
        clear hz gb hd
        refine wpOp_step rfl (fun K hK => ?_)
        rw [if_pos (by rfl)]
        refine wp_store_mid _ _ _ rfl bb 0 #[.slice xa xn xk, .slice xb xm xl] rfl rfl (HB.out.1.there 0 _ (by simp)) (by kernel_rfl) (sl2_one _ _ _ _ _ _) ?_
        have hU : Upd W (W.setCells bb 0 [.slice xa xn xk, .slice xb xm xl]) bb := Upd.setCells _ 0 W
        have hF := HB.out.1.fill [.slice xa xn xk, .slice xb xm xl] rfl
        have hI := HI.out
        simp only [Act.put, List.setIfInBounds_toArray]
        exact hK _ _ ⟨.pointer (some ⟨bb, 0, none⟩), s25, s89, s90, s91, s92, s93, s94, .agg #[.slice xa xn xk, .slice xb xm xl], s96, by simp [hsz], rfl, { bel := hU.below hI.bel hI.bel.size HB.out.2.1, k0 := fun u => hI.k0 (up_set u (by decide)), k1 := fun u => hI.k1 (up_set u (by decide)), k2 := fun u => by obtain ⟨xa, xn, xk, e, h⟩ := hI.k2 (up_set u (by decide)); exact ⟨xa, xn, xk, e, h.upd HB.out.1 sl2_nn hU⟩, k3 := fun u => hI.k3 (up_set u (by decide)), k4 := fun u => by obtain ⟨xa, xn, xk, xb, xm, xl, e, h⟩ := hI.k4 (up_set u (by decide)); exact ⟨xa, xn, xk, xb, xm, xl, e, h.upd HB.out.1 sl2_nn hU⟩, k5 := fun u => by obtain ⟨xa, xn, xk, xb, xm, xl, e, h⟩ := hI.k5 (up_set u (by decide)); exact ⟨xa, xn, xk, xb, xm, xl, e, h.upd HB.out.1 sl2_nn hU⟩, k6 := fun u => by obtain ⟨xa, xn, xk, xb, xm, xl, e, h⟩ := hI.k6 (up_set u (by decide)); exact ⟨xa, xn, xk, xb, xm, xl, e, h.upd HB.out.1 sl2_nn hU⟩, k7 := fun u => hI.k7 (up_set u (by decide)), k8 := fun _ => ⟨bb, rfl, HB.out.2.1, fun z => absurd (by unfold Up; simp [hlt]) z, fun _ => ⟨xa, xn, xk, xb, xm, xl, ⟨hF, HB.out.2.2.upd HB.out.1 sl2_nn hU⟩⟩⟩, k9 := fun _ => up_mono2 (hdep 8 (by decide +kernel)) (by decide), k10 := fun u => hI.k10 (up_set u (by decide)) }⟩
      · have HI : Hid (InvS12 W7 (c) (.agg #[.slice a1 n1 k1, .slice b1 m1 l1]) (C.n) ((none : Pt C.p)) L s24 s25 s89 s90 s91 s92 s93 s94 s95 s96 W) := hI
        clear hI
        obtain rfl := HI.out.k7 (hdep 7 (by decide +kernel))
        refine wpOp_step rfl (fun K hK => ?_)
        go_simp
        replace hI := HI.out
        exact hK _ _ ⟨s24, .int .i64 0, s89, s90, s91, s92, s93, s94, s95, .int .i64 0, by simp [hsz], rfl, { bel := hI.bel, k0 := fun u => hI.k0 (up_set u (by decide)), k1 := fun u => hI.k1 (up_set u (by decide)), k2 := fun u => hI.k2 (up_set u (by decide)), k3 := fun u => hI.k3 (up_set u (by decide)), k4 := fun u => hI.k4 (up_set u (by decide)), k5 := fun u => hI.k5 (up_set u (by decide)), k6 := fun u => hI.k6 (up_set u (by decide)), k7 := fun u => hI.k7 (up_set u (by decide)), k8 := fun u => by obtain ⟨bb, e, hl, h1, h2⟩ := hI.k8 (up_set u (by decide)); exact ⟨bb, e, hl, fun z => h1 (fun y => z (up_mono2 y (by decide))), fun z => h2 (up_set z (by decide))⟩, k9 := fun u => up_mono2 (hI.k9 (up_set u (by decide))) (by decide), k10 := fun _ => rfl }⟩
  obtain ⟨bpo, a8, n8, k8, b8, m8, l8, rfl, rfl, K8⟩ := hcut
  obtain ⟨W8, hWn⟩ : ∃ x, x = wc := ⟨_, rfl⟩
  subst hWn
  clear K7
  clear HPb HOr HN HMn
  obtain rfl : n8 = 0 := (nb_eq K8.out.2.2.2.2.2.2.2.2.2.1).trans (lim0.2 rfl)
  obtain rfl : m8 = 0 := (nb_eq K8.out.2.2.2.2.2.2.2.2.2.2).trans (lim0.2 rfl)
  have HL : Hid (∀ P : Pt C.p, (lim (enc P).1).length ≤ 1000 ∧ (lim (enc P).2).length ≤ 1000) := fun P => by
    have he := Gl.enc_lt P
    have hp := crv_p12 HC.out.1
    have h1 := lim_1000 hp he.1
    have h2 := lim_1000 hp he.2
    omega
  have x0 : W8.cell? ⟨w2.heap.size, 0, none⟩ = some (.slice a2 n2 k2) := K8.out.2.2.1.1.cell 0
  have x1 : W8.cell? ⟨w2.heap.size, 1, none⟩ = some (.slice b2 m2 l2) := K8.out.2.2.1.1.cell 1
  have pw0 : W8.cell? ⟨w5.heap.size, 0, none⟩ = some (.slice a5 n5 k5) := K8.out.2.2.2.2.2.1.1.cell 0
  have pw1 : W8.cell? ⟨w5.heap.size, 1, none⟩ = some (.slice b5 m5 l5) := K8.out.2.2.2.2.2.1.1.cell 1
  go_wp2_with (go_at_call 16; refine (num09_any _ _).mono ?_; rintro e w' ⟨rfl, rfl⟩)
  refine (SameP_any _ _ _ _ _ _ K8.out.2.2.1.2.1 K8.out.2.2.1.2.2 K8.out.2.2.2.2.2.1.2.1 K8.out.2.2.2.2.2.1.2.2 (HL.out _).1 (HL.out _).2).mono ?_
  rintro e w11 ⟨rfl, hb⟩
  have Kw11 : Hid (Below w.heap.size w w11 ∧ PB w11 w1.heap.size a1 n1 k1 b1 m1 l1 (P) ∧ PB w11 w2.heap.size a2 n2 k2 b2 m2 l2 ((ec C).mul (a.toNat + b.toNat) P) ∧ PB w11 w3.heap.size a3 n3 k3 b3 m3 l3 ((ec C).mul a.toNat P) ∧ PB w11 w4.heap.size a4 n4 k4 b4 m4 l4 ((ec C).mul b.toNat P) ∧ PB w11 w5.heap.size a5 n5 k5 b5 m5 l5 ((ec C).mul (a.toNat + b.toNat) P) ∧ PB w11 bm a6 n6 k6 b6 m6 l6 ((ec C).add ((ec C).mul a.toNat (gen C)) ((ec C).mul b.toNat P)) ∧ PB w11 bpn a7 n7 k7 b7 m7 l7 ((ec C).add ((ec C).mul a.toNat (gen C)) ((ec C).mul b.toNat P)) ∧ PB w11 bpo a8 0 k8 b8 0 l8 ((none : Pt C.p))) := ⟨below_via K8.out.1 hb (Nat.le_refl _), K8.out.2.1.below hb, K8.out.2.2.1.below hb, K8.out.2.2.2.1.below hb, K8.out.2.2.2.2.1.below hb, K8.out.2.2.2.2.2.1.below hb, K8.out.2.2.2.2.2.2.1.below hb, K8.out.2.2.2.2.2.2.2.1.below hb, K8.out.2.2.2.2.2.2.2.2.below hb⟩
  clear hb K8 x0 x1 pw0 pw1
  have pm0 : w11.cell? ⟨bm, 0, none⟩ = some (.slice a6 n6 k6) := Kw11.out.2.2.2.2.2.2.1.1.cell 0
  have pm1 : w11.cell? ⟨bm, 1, none⟩ = some (.slice b6 m6 l6) := Kw11.out.2.2.2.2.2.2.1.1.cell 1
  have pn0 : w11.cell? ⟨bpn, 0, none⟩ = some (.slice a7 n7 k7) := Kw11.out.2.2.2.2.2.2.2.1.1.cell 0
  have pn1 : w11.cell? ⟨bpn, 1, none⟩ = some (.slice b7 m7 l7) := Kw11.out.2.2.2.2.2.2.2.1.1.cell 1
  go_wp2_with fail
  refine (SameP_any _ _ _ _ _ _ Kw11.out.2.2.2.2.2.2.1.2.1 Kw11.out.2.2.2.2.2.2.1.2.2 Kw11.out.2.2.2.2.2.2.2.1.2.1 Kw11.out.2.2.2.2.2.2.2.1.2.2 (HL.out _).1 (HL.out _).2).mono ?_
  rintro e w12 ⟨rfl, hb⟩
  have Kw12 : Hid (Below w.heap.size w w12 ∧ PB w12 w1.heap.size a1 n1 k1 b1 m1 l1 (P) ∧ PB w12 w2.heap.size a2 n2 k2 b2 m2 l2 ((ec C).mul (a.toNat + b.toNat) P) ∧ PB w12 w3.heap.size a3 n3 k3 b3 m3 l3 ((ec C).mul a.toNat P) ∧ PB w12 w4.heap.size a4 n4 k4 b4 m4 l4 ((ec C).mul b.toNat P) ∧ PB w12 w5.heap.size a5 n5 k5 b5 m5 l5 ((ec C).mul (a.toNat + b.toNat) P) ∧ PB w12 bm a6 n6 k6 b6 m6 l6 ((ec C).add ((ec C).mul a.toNat (gen C)) ((ec C).mul b.toNat P)) ∧ PB w12 bpn a7 n7 k7 b7 m7 l7 ((ec C).add ((ec C).mul a.toNat (gen C)) ((ec C).mul b.toNat P)) ∧ PB w12 bpo a8 0 k8 b8 0 l8 ((none : Pt C.p))) := ⟨below_via Kw11.out.1 hb (Nat.le_refl _), Kw11.out.2.1.below hb, Kw11.out.2.2.1.below hb, Kw11.out.2.2.2.1.below hb, Kw11.out.2.2.2.2.1.below hb, Kw11.out.2.2.2.2.2.1.below hb, Kw11.out.2.2.2.2.2.2.1.below hb, Kw11.out.2.2.2.2.2.2.2.1.below hb, Kw11.out.2.2.2.2.2.2.2.2.below hb⟩
  clear hb Kw11 pm0 pm1 pn0 pn1
  have z0 : w12.cell? ⟨bpo, 0, none⟩ = some (.slice a8 0 k8) := Kw12.out.2.2.2.2.2.2.2.2.1.cell 0
  have z1 : w12.cell? ⟨bpo, 1, none⟩ = some (.slice b8 0 l8) := Kw12.out.2.2.2.2.2.2.2.2.1.cell 1
  go_wp2_with fail
  refine (live09_any (w := _)).mono ?_
  rintro e w15 ⟨rfl, hb⟩
  have KZ : Hid (Below w.heap.size w w15) := below_via Kw12.out.1 hb (Nat.le_refl _)
  clear hb Kw12 z0 z1
  go_wp2
  go_ret
  exact ⟨rfl, KZ.out⟩
end Go.Proofs.Yteagdgbcfbkfbaa
