/-
  How the laws' arguments read (a plain seat).
-/
import Derived.OpenShut
import Derived.Test.YteagdgbcfbkfbaaK28
namespace Go.Proofs.Yteagdgbcfbkfbaa
open Go.RowKit
/-! ### how an argument reads -/
def IsRow (k : IntKind) (w : World) (a : Option Addr) (len cap : Nat) (zs : List Int) : Prop :=
  (a = none ∧ len = 0 ∧ cap = 0 ∧ zs = []) ∨
  ∃ x, a = some x ∧ len ≤ cap ∧ cap ≤ maxLen ∧ zs.length = cap ∧ (∀ i, i < zs.length → w.cell? (x.add i) = some (.int k (zs.getD i 0))) ∧ ∀ n ∈ zs, (Lit.int k n).wf = true
theorem cell_spot {w : World} {x : Addr} {v : Value} (h : w.cell? x = some v) : x.spot = none ∧ x.block < w.heap.size := by
  unfold World.cell? at h
  split at h
  · rename_i c t f hh
    refine ⟨?_, (Array.getElem?_eq_some_iff.1 hh).1⟩
    by_cases hs : x.spot.isSome
    · simp [hs] at h
    · simpa using hs
  · cases h
theorem IsRow.sl {k : IntKind} {w : World} {a : Option Addr} {len cap : Nat} {zs : List Int} (h : IsRow k w a len cap zs) :
    ∃ X, X.length = len ∧ Sl k w (.slice a len cap) X ∧ ∀ n ∈ X, (Lit.int k n).wf = true := by
  rcases h with ⟨rfl, rfl, rfl, rfl⟩ | ⟨x, rfl, hl, hm, hz, hc, hw⟩
  · exact ⟨[], rfl, ⟨none, 0, rfl, Nat.le_refl _, .inl rfl⟩, by simp⟩
  · refine ⟨zs.take len, by simp; omega, ⟨some x, cap, by simp; omega, by simp; omega, ?_⟩, fun n hn => hw n (List.mem_of_mem_take hn)⟩
    by_cases h0 : len = 0
    · subst h0; exact .inl (by simp)
    · right
      obtain ⟨b, off, sp⟩ := x
      have h1 := cell_spot (hc 0 (by omega))
      have hsp : sp = none := by
        have := h1.1
        cases sp with
        | none => rfl
        | some s => simp [Addr.add] at this
      subst hsp
      have hb : b < w.heap.size := by have := h1.2; simpa [Addr.add] using this
      refine ⟨b, off, rfl, hb, fun i hi => ?_⟩
      simp at hi
      have := hc i (by omega)
      have hadd : (⟨b, off, none⟩ : Addr).add i = ⟨b, off + i, none⟩ := by simp [Addr.add]
      rw [hadd] at this
      rw [this]
      simp [show i < len by omega]
theorem IsRow.sl32 {w : World} {a : Option Addr} {len cap : Nat} {zs : List Int} (h : IsRow .u32 w a len cap zs) : ∃ X, X.length = len ∧ Sl .u32 w (.slice a len cap) X ∧ U32s X := by
  obtain ⟨X, h1, h2, h3⟩ := h.sl
  exact ⟨X, h1, h2, fun n hn => by have := bounds_u32 (h3 n hn); exact ⟨this.1, by omega⟩⟩
theorem IsRow.sl8 {w : World} {a : Option Addr} {len cap : Nat} {zs : List Int} (h : IsRow .u8 w a len cap zs) : ∃ X, X.length = len ∧ Sl .u8 w (.slice a len cap) X ∧ U8s X := by
  obtain ⟨X, h1, h2, h3⟩ := h.sl
  exact ⟨X, h1, h2, fun n hn => by have := bounds_u8 (h3 n hn); exact ⟨this.1, by omega⟩⟩
end Go.Proofs.Yteagdgbcfbkfbaa
/-
  Curve: the law CurveOns.
-/
namespace Go.Proofs.Yteagdgbcfbkfbaa
open Go.RowKit
set_option maxRecDepth 20000
set_option maxHeartbeats 2000000 in
theorem long09_any {w : World} (a1 : Option Addr) (n1 c1 : Nat) (a2 : Option Addr) (n2 c2 : Nat) (r : Bool) (hr : (decide (600 < (n1 : Int)) || decide (600 < (n2 : Int))) = r) :
    Calls Try.prog 9 #[.agg #[.slice a1 n1 c1, .slice a2 n2 c2]] w fun e w' => e = .returned (.bool r) ∧ Below w.heap.size w w' := by
  have HR : Hid ((decide (600 < (n1 : Int)) || decide (600 < (n2 : Int))) = r) := hr
  clear hr
  by_cases h1 : n1 ≤ 600
  · have g1 : decide ((600 : Int) < (n1 : Int)) = false := by simp; omega
    have HR2 : Hid (decide ((600 : Int) < (n2 : Int)) = r) := by show _ = _; rw [← HR.out, g1]; rfl
    clear h1 HR
    go_enter Try.func9, Try.ntmps9
    go_upto_region 1 with (refine wpList_boxR rfl 24 (.tmp 0) rfl #[.slice a1 n1 c1, .slice a2 n2 c2] rfl ?_)
    refine wp_gen (fun W => Blk 24 W w.heap.size [.slice a1 n1 c1, .slice a2 n2 c2] ∧ Below w.heap.size w W) ⟨Blk.new _ w _, al1 _⟩ ?_
    rintro W2 ⟨hB, hBw⟩
    have p0 : W2.cell? ⟨w.heap.size, 0, none⟩ = some (.slice a1 n1 c1) := hB.cell 0
    have p1 : W2.cell? ⟨w.heap.size, 1, none⟩ = some (.slice a2 n2 c2) := hB.cell 1
    have H2 : Hid (Below w.heap.size w W2) := hBw
    clear hB hBw
    go_wp2
    go_ret
    exact ⟨by rw [← HR2.out]; rfl, H2.out⟩
  · have g1 : decide ((600 : Int) < (n1 : Int)) = true := by simp; omega
    have HR2 : Hid (true = r) := by show _ = _; rw [← HR.out, g1]; rfl
    clear h1 HR
    go_enter Try.func9, Try.ntmps9
    go_upto_region 1 with (refine wpList_boxR rfl 24 (.tmp 0) rfl #[.slice a1 n1 c1, .slice a2 n2 c2] rfl ?_)
    refine wp_gen (fun W => Blk 24 W w.heap.size [.slice a1 n1 c1, .slice a2 n2 c2] ∧ Below w.heap.size w W) ⟨Blk.new _ w _, al1 _⟩ ?_
    rintro W2 ⟨hB, hBw⟩
    have p0 : W2.cell? ⟨w.heap.size, 0, none⟩ = some (.slice a1 n1 c1) := hB.cell 0
    have p1 : W2.cell? ⟨w.heap.size, 1, none⟩ = some (.slice a2 n2 c2) := hB.cell 1
    have H2 : Hid (Below w.heap.size w W2) := hBw
    clear hB hBw
    go_wp2
    go_ret
    exact ⟨by rw [← HR2.out]; rfl, H2.out⟩
theorem crvN_len (f : Cv → Nat) (hf : f c256 < 4294967296 ^ 12 ∧ f c384 < 4294967296 ^ 12) (c : Int) : (lim (crvN f (crv c))).length ≤ 12 := by
  refine lim12 ?_
  unfold crv
  split
  · exact hf.1
  · split
    · exact hf.2
    · show 0 < _; decide
end Go.Proofs.Yteagdgbcfbkfbaa
/-
  Curves: the law CurveGroup.
-/
namespace Go.Proofs.Yteagdgbcfbkfbaa
open Go.RowKit
set_option maxRecDepth 20000
open Gl (Pt Cok ec gen enc)
set_option maxHeartbeats 8000000 in
theorem CurveGroup_any {w : World} (o : Bool) (i j k : Int) (hi : 0 ≤ i ∧ i < 4294967296) (hj : 0 ≤ j ∧ j < 4294967296) (hk : 0 ≤ k ∧ k < 4294967296) :
    Calls Try.prog 7 #[.bool o, .int .u32 i, .int .u32 j, .int .u32 k] w fun e w' => e = .returned (.bool true) ∧ Below w.heap.size w w' := by
  have HB : Hid ((0 ≤ i ∧ i < 4294967296) ∧ (0 ≤ j ∧ j < 4294967296) ∧ (0 ≤ k ∧ k < 4294967296)) := ⟨hi, hj, hk⟩
  clear hi hj hk
  go_enter Try.func7, Try.ntmps7
  go_upto_if 27 with (fail)
  go_cut [9] from 27 (fun s9 wc => ∃ (c : Int) (C : Cv) (_ : NeZero C.p), s9 = .int .i64 c ∧ Hid (crv c = some C ∧ Cok C) ∧ w = wc)
  case first =>
    cases o
    · go_wp2
      go_meet
      case rel => exact ⟨1, c256, ⟨by decide⟩, rfl, ⟨rfl, @Gl.cok256 ⟨by decide⟩⟩, rfl⟩
    · go_wp2
      go_meet
      case rel => exact ⟨2, c384, ⟨by decide⟩, rfl, ⟨rfl, @Gl.cok384 ⟨by decide⟩⟩, rfl⟩
  obtain ⟨c, C, inst, rfl, HC, rfl⟩ := hcut
  have Hi : Hid ((ec C).On ((ec C).mul i.toNat (gen C))) := Gl.mul_on HC.out.2.ok HC.out.2.onG _
  have Hj : Hid ((ec C).On ((ec C).mul j.toNat (gen C))) := Gl.mul_on HC.out.2.ok HC.out.2.onG _
  have Hk : Hid ((ec C).On ((ec C).mul k.toNat (gen C))) := Gl.mul_on HC.out.2.ok HC.out.2.onG _
  obtain ⟨P, hP⟩ : ∃ P, (ec C).mul i.toNat (gen C) = P := ⟨_, rfl⟩
  obtain ⟨Q, hQ⟩ : ∃ P, (ec C).mul j.toNat (gen C) = P := ⟨_, rfl⟩
  obtain ⟨R, hR⟩ : ∃ P, (ec C).mul k.toNat (gen C) = P := ⟨_, rfl⟩
  rw [hP] at Hi
  rw [hQ] at Hj
  rw [hR] at Hk
  have HA : Hid ((∀ W, Calls Try.prog 30 #[.int .i64 c, .int .u32 i] W fun e w' => ∃ a' n' k' b' m' l', e = .returned (.agg #[.slice a' n' k', .slice b' m' l']) ∧ PtV w' a' n' k' b' m' l' P ∧ Below W.heap.size W w') ∧ (∀ W, Calls Try.prog 30 #[.int .i64 c, .int .u32 j] W fun e w' => ∃ a' n' k' b' m' l', e = .returned (.agg #[.slice a' n' k', .slice b' m' l']) ∧ PtV w' a' n' k' b' m' l' Q ∧ Below W.heap.size W w') ∧ (∀ W, Calls Try.prog 30 #[.int .i64 c, .int .u32 k] W fun e w' => ∃ a' n' k' b' m' l', e = .returned (.agg #[.slice a' n' k', .slice b' m' l']) ∧ PtV w' a' n' k' b' m' l' R ∧ Below W.heap.size W w')) :=
    ⟨fun W => hP ▸ at_any HC.out.1 HC.out.2 i HB.out.1, fun W => hQ ▸ at_any HC.out.1 HC.out.2 j HB.out.2.1, fun W => hR ▸ at_any HC.out.1 HC.out.2 k HB.out.2.2⟩
  clear hP hQ hR
  go_wp2_with fail
  refine (HA.out.1 _).mono ?_
  rintro e w1 ⟨a1, n1, k1, b1, m1, l1, rfl, hv, hb⟩
  have H1 : Hid (PtV w1 a1 n1 k1 b1 m1 l1 P ∧ Below w.heap.size w w1) := ⟨hv, hb⟩
  clear hv hb
  go_wp2_with fail
  refine (HA.out.2.1 _).mono ?_
  rintro e w2 ⟨a2, n2, k2, b2, m2, l2, rfl, hv, hb⟩
  have H2 : Hid (PtV w2 a1 n1 k1 b1 m1 l1 P ∧ PtV w2 a2 n2 k2 b2 m2 l2 Q ∧ Below w.heap.size w w2) := ⟨H1.out.1.below hb, hv, below_via H1.out.2 hb (Nat.le_refl _)⟩
  clear hv hb H1
  go_wp2_with fail
  refine (HA.out.2.2 _).mono ?_
  rintro e w3 ⟨a3, n3, k3, b3, m3, l3, rfl, hv, hb⟩
  have H3 : Hid (PtV w3 a1 n1 k1 b1 m1 l1 P ∧ PtV w3 a2 n2 k2 b2 m2 l2 Q ∧ PtV w3 a3 n3 k3 b3 m3 l3 R ∧ Below w.heap.size w w3) := ⟨H2.out.1.below hb, H2.out.2.1.below hb, hv, below_via H2.out.2.2 hb (Nat.le_refl _)⟩
  clear hv hb H2 HA
  go_upto_region 5 with (fail)
  refine wp_gen (fun W => Below w.heap.size w W ∧ PB W w3.heap.size a1 n1 k1 b1 m1 l1 P ∧ PB W (w3.heap.size + 1) a2 n2 k2 b2 m2 l2 Q ∧ PB W (w3.heap.size + 1 + 1) a3 n3 k3 b3 m3 l3 R) ?_ ?_
  · have x1 := PB.new H3.out.1
    have x2 := PB.new (H3.out.2.1.below (al1 (.cells #[.slice a1 n1 k1, .slice b1 m1 l1] 24)))
    have x3 := PB.new ((H3.out.2.2.1.below (al1 (.cells #[.slice a1 n1 k1, .slice b1 m1 l1] 24))).below (al1 (.cells #[.slice a2 n2 k2, .slice b2 m2 l2] 24)))
    rw [World.size_alloc] at x2
    rw [World.size_alloc, World.size_alloc] at x3
    exact ⟨below_via (below_via (below_via H3.out.2.2.2 (al1 _) (Nat.le_refl _)) (al1 _) (Nat.le_refl _)) (al1 _) (Nat.le_refl _), (x1.below (al1 _)).below (al1 _), x2.below (al1 _), x3⟩
  rintro W3 hW
  have K3 : Hid (Below w.heap.size w W3 ∧ PB W3 w3.heap.size a1 n1 k1 b1 m1 l1 P ∧ PB W3 (w3.heap.size + 1) a2 n2 k2 b2 m2 l2 Q ∧ PB W3 (w3.heap.size + 1 + 1) a3 n3 k3 b3 m3 l3 R) := hW
  clear hW H3
  have Oc : Hid ((ec C).On ((ec C).add P Q) ∧ (ec C).On ((ec C).add Q R) ∧ (ec C).On ((ec C).add ((ec C).add P Q) R) ∧ (ec C).On (Gl.neg P)) := ⟨Gl.add_on HC.out.2.ok Hi.out Hj.out, Gl.add_on HC.out.2.ok Hj.out Hk.out, Gl.add_on HC.out.2.ok (Gl.add_on HC.out.2.ok Hi.out Hj.out) Hk.out, Gl.neg_on Hi.out⟩
  have p0 : W3.cell? ⟨w3.heap.size, 0, none⟩ = some (.slice a1 n1 k1) := K3.out.2.1.1.cell 0
  have p1 : W3.cell? ⟨w3.heap.size, 1, none⟩ = some (.slice b1 m1 l1) := K3.out.2.1.1.cell 1
  have q0 : W3.cell? ⟨w3.heap.size + 1, 0, none⟩ = some (.slice a2 n2 k2) := K3.out.2.2.1.1.cell 0
  have q1 : W3.cell? ⟨w3.heap.size + 1, 1, none⟩ = some (.slice b2 m2 l2) := K3.out.2.2.1.1.cell 1
  go_wp2_with fail
  refine (AddG HC.out.1 HC.out.2 a1 n1 k1 b1 m1 l1 a2 n2 k2 b2 m2 l2 Hi.out Hj.out K3.out.2.1.2 K3.out.2.2.1.2).mono ?_
  rintro e w4 ⟨a4, n4, k4, b4, m4, l4, rfl, hv, hb⟩
  have V4 : Hid (PtV w4 a4 n4 k4 b4 m4 l4 ((ec C).add P Q) ∧ Below W3.heap.size W3 w4) := ⟨hv, hb⟩
  clear hv hb p0 p1 q0 q1
  go_upto_region 6 with (fail)
  refine wp_gen (fun W => PB W w4.heap.size a4 n4 k4 b4 m4 l4 ((ec C).add P Q) ∧ Below w4.heap.size w4 W) ⟨PB.new V4.out.1, al1 _⟩ ?_
  rintro W4 ⟨hB, hb⟩
  have K4 : Hid (Below w.heap.size w W4 ∧ PB W4 w3.heap.size a1 n1 k1 b1 m1 l1 (P) ∧ PB W4 (w3.heap.size + 1) a2 n2 k2 b2 m2 l2 (Q) ∧ PB W4 (w3.heap.size + 1 + 1) a3 n3 k3 b3 m3 l3 (R) ∧ PB W4 w4.heap.size a4 n4 k4 b4 m4 l4 ((ec C).add P Q)) := ⟨below_via (below_via K3.out.1 V4.out.2 (Nat.le_refl _)) hb (Nat.le_refl _), (K3.out.2.1.below V4.out.2).below hb, (K3.out.2.2.1.below V4.out.2).below hb, (K3.out.2.2.2.below V4.out.2).below hb, hB⟩
  clear hB hb K3 V4
  have q0 : W4.cell? ⟨w3.heap.size + 1, 0, none⟩ = some (.slice a2 n2 k2) := K4.out.2.2.1.1.cell 0
  have q1 : W4.cell? ⟨w3.heap.size + 1, 1, none⟩ = some (.slice b2 m2 l2) := K4.out.2.2.1.1.cell 1
  have p0 : W4.cell? ⟨w3.heap.size, 0, none⟩ = some (.slice a1 n1 k1) := K4.out.2.1.1.cell 0
  have p1 : W4.cell? ⟨w3.heap.size, 1, none⟩ = some (.slice b1 m1 l1) := K4.out.2.1.1.cell 1
  go_wp2_with fail
  refine (AddG HC.out.1 HC.out.2 a2 n2 k2 b2 m2 l2 a1 n1 k1 b1 m1 l1 Hj.out Hi.out K4.out.2.2.1.2 K4.out.2.1.2).mono ?_
  rintro e w5 ⟨a5, n5, k5, b5, m5, l5, rfl, hv, hb⟩
  have V5 : Hid (PtV w5 a5 n5 k5 b5 m5 l5 ((ec C).add P Q) ∧ Below W4.heap.size W4 w5) := ⟨((Gl.add_comm HC.out.2.ok Hj.out Hi.out) ▸ hv), hb⟩
  clear hv hb q0 q1 p0 p1
  go_upto_region 7 with (fail)
  refine wp_gen (fun W => PB W w5.heap.size a5 n5 k5 b5 m5 l5 ((ec C).add P Q) ∧ Below w5.heap.size w5 W) ⟨PB.new V5.out.1, al1 _⟩ ?_
  rintro W5 ⟨hB, hb⟩
  have K5 : Hid (Below w.heap.size w W5 ∧ PB W5 w3.heap.size a1 n1 k1 b1 m1 l1 (P) ∧ PB W5 (w3.heap.size + 1) a2 n2 k2 b2 m2 l2 (Q) ∧ PB W5 (w3.heap.size + 1 + 1) a3 n3 k3 b3 m3 l3 (R) ∧ PB W5 w4.heap.size a4 n4 k4 b4 m4 l4 ((ec C).add P Q) ∧ PB W5 w5.heap.size a5 n5 k5 b5 m5 l5 ((ec C).add P Q)) := ⟨below_via (below_via K4.out.1 V5.out.2 (Nat.le_refl _)) hb (Nat.le_refl _), (K4.out.2.1.below V5.out.2).below hb, (K4.out.2.2.1.below V5.out.2).below hb, (K4.out.2.2.2.1.below V5.out.2).below hb, (K4.out.2.2.2.2.below V5.out.2).below hb, hB⟩
  clear hB hb K4 V5
  have pq0 : W5.cell? ⟨w4.heap.size, 0, none⟩ = some (.slice a4 n4 k4) := K5.out.2.2.2.2.1.1.cell 0
  have pq1 : W5.cell? ⟨w4.heap.size, 1, none⟩ = some (.slice b4 m4 l4) := K5.out.2.2.2.2.1.1.cell 1
  have r0 : W5.cell? ⟨w3.heap.size + 1 + 1, 0, none⟩ = some (.slice a3 n3 k3) := K5.out.2.2.2.1.1.cell 0
  have r1 : W5.cell? ⟨w3.heap.size + 1 + 1, 1, none⟩ = some (.slice b3 m3 l3) := K5.out.2.2.2.1.1.cell 1
  go_wp2_with fail
  refine (AddG HC.out.1 HC.out.2 a4 n4 k4 b4 m4 l4 a3 n3 k3 b3 m3 l3 Oc.out.1 Hk.out K5.out.2.2.2.2.1.2 K5.out.2.2.2.1.2).mono ?_
  rintro e w6 ⟨a6, n6, k6, b6, m6, l6, rfl, hv, hb⟩
  have V6 : Hid (PtV w6 a6 n6 k6 b6 m6 l6 ((ec C).add ((ec C).add P Q) R) ∧ Below W5.heap.size W5 w6) := ⟨hv, hb⟩
  clear hv hb pq0 pq1 r0 r1
  go_upto_region 8 with (fail)
  refine wp_gen (fun W => PB W w6.heap.size a6 n6 k6 b6 m6 l6 ((ec C).add ((ec C).add P Q) R) ∧ Below w6.heap.size w6 W) ⟨PB.new V6.out.1, al1 _⟩ ?_
  rintro W6 ⟨hB, hb⟩
  have K6 : Hid (Below w.heap.size w W6 ∧ PB W6 w3.heap.size a1 n1 k1 b1 m1 l1 (P) ∧ PB W6 (w3.heap.size + 1) a2 n2 k2 b2 m2 l2 (Q) ∧ PB W6 (w3.heap.size + 1 + 1) a3 n3 k3 b3 m3 l3 (R) ∧ PB W6 w4.heap.size a4 n4 k4 b4 m4 l4 ((ec C).add P Q) ∧ PB W6 w5.heap.size a5 n5 k5 b5 m5 l5 ((ec C).add P Q) ∧ PB W6 w6.heap.size a6 n6 k6 b6 m6 l6 ((ec C).add ((ec C).add P Q) R)) := ⟨below_via (below_via K5.out.1 V6.out.2 (Nat.le_refl _)) hb (Nat.le_refl _), (K5.out.2.1.below V6.out.2).below hb, (K5.out.2.2.1.below V6.out.2).below hb, (K5.out.2.2.2.1.below V6.out.2).below hb, (K5.out.2.2.2.2.1.below V6.out.2).below hb, (K5.out.2.2.2.2.2.below V6.out.2).below hb, hB⟩
  clear hB hb K5 V6
  have q0 : W6.cell? ⟨w3.heap.size + 1, 0, none⟩ = some (.slice a2 n2 k2) := K6.out.2.2.1.1.cell 0
  have q1 : W6.cell? ⟨w3.heap.size + 1, 1, none⟩ = some (.slice b2 m2 l2) := K6.out.2.2.1.1.cell 1
  have r0 : W6.cell? ⟨w3.heap.size + 1 + 1, 0, none⟩ = some (.slice a3 n3 k3) := K6.out.2.2.2.1.1.cell 0
  have r1 : W6.cell? ⟨w3.heap.size + 1 + 1, 1, none⟩ = some (.slice b3 m3 l3) := K6.out.2.2.2.1.1.cell 1
  go_wp2_with fail
  refine (AddG HC.out.1 HC.out.2 a2 n2 k2 b2 m2 l2 a3 n3 k3 b3 m3 l3 Hj.out Hk.out K6.out.2.2.1.2 K6.out.2.2.2.1.2).mono ?_
  rintro e w7 ⟨a7, n7, k7, b7, m7, l7, rfl, hv, hb⟩
  have V7 : Hid (PtV w7 a7 n7 k7 b7 m7 l7 ((ec C).add Q R) ∧ Below W6.heap.size W6 w7) := ⟨hv, hb⟩
  clear hv hb q0 q1 r0 r1
  go_upto_region 9 with (fail)
  refine wp_gen (fun W => PB W w7.heap.size a7 n7 k7 b7 m7 l7 ((ec C).add Q R) ∧ Below w7.heap.size w7 W) ⟨PB.new V7.out.1, al1 _⟩ ?_
  rintro W7 ⟨hB, hb⟩
  have K7 : Hid (Below w.heap.size w W7 ∧ PB W7 w3.heap.size a1 n1 k1 b1 m1 l1 (P) ∧ PB W7 (w3.heap.size + 1) a2 n2 k2 b2 m2 l2 (Q) ∧ PB W7 (w3.heap.size + 1 + 1) a3 n3 k3 b3 m3 l3 (R) ∧ PB W7 w4.heap.size a4 n4 k4 b4 m4 l4 ((ec C).add P Q) ∧ PB W7 w5.heap.size a5 n5 k5 b5 m5 l5 ((ec C).add P Q) ∧ PB W7 w6.heap.size a6 n6 k6 b6 m6 l6 ((ec C).add ((ec C).add P Q) R) ∧ PB W7 w7.heap.size a7 n7 k7 b7 m7 l7 ((ec C).add Q R)) := ⟨below_via (below_via K6.out.1 V7.out.2 (Nat.le_refl _)) hb (Nat.le_refl _), (K6.out.2.1.below V7.out.2).below hb, (K6.out.2.2.1.below V7.out.2).below hb, (K6.out.2.2.2.1.below V7.out.2).below hb, (K6.out.2.2.2.2.1.below V7.out.2).below hb, (K6.out.2.2.2.2.2.1.below V7.out.2).below hb, (K6.out.2.2.2.2.2.2.below V7.out.2).below hb, hB⟩
  clear hB hb K6 V7
  have p0 : W7.cell? ⟨w3.heap.size, 0, none⟩ = some (.slice a1 n1 k1) := K7.out.2.1.1.cell 0
  have p1 : W7.cell? ⟨w3.heap.size, 1, none⟩ = some (.slice b1 m1 l1) := K7.out.2.1.1.cell 1
  have qr0 : W7.cell? ⟨w7.heap.size, 0, none⟩ = some (.slice a7 n7 k7) := K7.out.2.2.2.2.2.2.2.1.cell 0
  have qr1 : W7.cell? ⟨w7.heap.size, 1, none⟩ = some (.slice b7 m7 l7) := K7.out.2.2.2.2.2.2.2.1.cell 1
  go_wp2_with fail
  refine (AddG HC.out.1 HC.out.2 a1 n1 k1 b1 m1 l1 a7 n7 k7 b7 m7 l7 Hi.out Oc.out.2.1 K7.out.2.1.2 K7.out.2.2.2.2.2.2.2.2).mono ?_
  rintro e w8 ⟨a8, n8, k8, b8, m8, l8, rfl, hv, hb⟩
  have V8 : Hid (PtV w8 a8 n8 k8 b8 m8 l8 ((ec C).add ((ec C).add P Q) R) ∧ Below W7.heap.size W7 w8) := ⟨((Gl.assoc HC.out.2.ok Hi.out Hj.out Hk.out).symm ▸ hv), hb⟩
  clear hv hb p0 p1 qr0 qr1
  go_upto_region 10 with (fail)
  refine wp_gen (fun W => PB W w8.heap.size a8 n8 k8 b8 m8 l8 ((ec C).add ((ec C).add P Q) R) ∧ Below w8.heap.size w8 W) ⟨PB.new V8.out.1, al1 _⟩ ?_
  rintro W8 ⟨hB, hb⟩
  have K8 : Hid (Below w.heap.size w W8 ∧ PB W8 w3.heap.size a1 n1 k1 b1 m1 l1 (P) ∧ PB W8 (w3.heap.size + 1) a2 n2 k2 b2 m2 l2 (Q) ∧ PB W8 (w3.heap.size + 1 + 1) a3 n3 k3 b3 m3 l3 (R) ∧ PB W8 w4.heap.size a4 n4 k4 b4 m4 l4 ((ec C).add P Q) ∧ PB W8 w5.heap.size a5 n5 k5 b5 m5 l5 ((ec C).add P Q) ∧ PB W8 w6.heap.size a6 n6 k6 b6 m6 l6 ((ec C).add ((ec C).add P Q) R) ∧ PB W8 w7.heap.size a7 n7 k7 b7 m7 l7 ((ec C).add Q R) ∧ PB W8 w8.heap.size a8 n8 k8 b8 m8 l8 ((ec C).add ((ec C).add P Q) R)) := ⟨below_via (below_via K7.out.1 V8.out.2 (Nat.le_refl _)) hb (Nat.le_refl _), (K7.out.2.1.below V8.out.2).below hb, (K7.out.2.2.1.below V8.out.2).below hb, (K7.out.2.2.2.1.below V8.out.2).below hb, (K7.out.2.2.2.2.1.below V8.out.2).below hb, (K7.out.2.2.2.2.2.1.below V8.out.2).below hb, (K7.out.2.2.2.2.2.2.1.below V8.out.2).below hb, (K7.out.2.2.2.2.2.2.2.below V8.out.2).below hb, hB⟩
  clear hB hb K7 V8
  have p0 : W8.cell? ⟨w3.heap.size, 0, none⟩ = some (.slice a1 n1 k1) := K8.out.2.1.1.cell 0
  have p1 : W8.cell? ⟨w3.heap.size, 1, none⟩ = some (.slice b1 m1 l1) := K8.out.2.1.1.cell 1
  go_wp2_with fail
  refine (NegG HC.out.1 HC.out.2 a1 n1 k1 b1 m1 l1 Hi.out K8.out.2.1.2).mono ?_
  rintro e w9 ⟨a9, n9, k9, b9, m9, l9, rfl, hv, hb⟩
  have V9 : Hid (PtV w9 a9 n9 k9 b9 m9 l9 (Gl.neg P) ∧ Below W8.heap.size W8 w9) := ⟨hv, hb⟩
  clear hv hb p0 p1
  go_upto_region 11 with (fail)
  refine wp_gen (fun W => PB W w9.heap.size a9 n9 k9 b9 m9 l9 (Gl.neg P) ∧ Below w9.heap.size w9 W) ⟨PB.new V9.out.1, al1 _⟩ ?_
  rintro W9 ⟨hB, hb⟩
  have K9 : Hid (Below w.heap.size w W9 ∧ PB W9 w3.heap.size a1 n1 k1 b1 m1 l1 (P) ∧ PB W9 (w3.heap.size + 1) a2 n2 k2 b2 m2 l2 (Q) ∧ PB W9 (w3.heap.size + 1 + 1) a3 n3 k3 b3 m3 l3 (R) ∧ PB W9 w4.heap.size a4 n4 k4 b4 m4 l4 ((ec C).add P Q) ∧ PB W9 w5.heap.size a5 n5 k5 b5 m5 l5 ((ec C).add P Q) ∧ PB W9 w6.heap.size a6 n6 k6 b6 m6 l6 ((ec C).add ((ec C).add P Q) R) ∧ PB W9 w7.heap.size a7 n7 k7 b7 m7 l7 ((ec C).add Q R) ∧ PB W9 w8.heap.size a8 n8 k8 b8 m8 l8 ((ec C).add ((ec C).add P Q) R) ∧ PB W9 w9.heap.size a9 n9 k9 b9 m9 l9 (Gl.neg P)) := ⟨below_via (below_via K8.out.1 V9.out.2 (Nat.le_refl _)) hb (Nat.le_refl _), (K8.out.2.1.below V9.out.2).below hb, (K8.out.2.2.1.below V9.out.2).below hb, (K8.out.2.2.2.1.below V9.out.2).below hb, (K8.out.2.2.2.2.1.below V9.out.2).below hb, (K8.out.2.2.2.2.2.1.below V9.out.2).below hb, (K8.out.2.2.2.2.2.2.1.below V9.out.2).below hb, (K8.out.2.2.2.2.2.2.2.1.below V9.out.2).below hb, (K8.out.2.2.2.2.2.2.2.2.below V9.out.2).below hb, hB⟩
  clear hB hb K8 V9
  have ng0 : W9.cell? ⟨w9.heap.size, 0, none⟩ = some (.slice a9 n9 k9) := K9.out.2.2.2.2.2.2.2.2.2.1.cell 0
  have ng1 : W9.cell? ⟨w9.heap.size, 1, none⟩ = some (.slice b9 m9 l9) := K9.out.2.2.2.2.2.2.2.2.2.1.cell 1
  have p0 : W9.cell? ⟨w3.heap.size, 0, none⟩ = some (.slice a1 n1 k1) := K9.out.2.1.1.cell 0
  have p1 : W9.cell? ⟨w3.heap.size, 1, none⟩ = some (.slice b1 m1 l1) := K9.out.2.1.1.cell 1
  go_wp2_with fail
  refine (AddG HC.out.1 HC.out.2 a9 n9 k9 b9 m9 l9 a1 n1 k1 b1 m1 l1 Oc.out.2.2.2 Hi.out K9.out.2.2.2.2.2.2.2.2.2.2 K9.out.2.1.2).mono ?_
  rintro e w10 ⟨a10, n10, k10, b10, m10, l10, rfl, hv, hb⟩
  have V10 : Hid (PtV w10 a10 n10 k10 b10 m10 l10 ((none : Pt C.p)) ∧ Below W9.heap.size W9 w10) := ⟨(((Gl.add_comm HC.out.2.ok Oc.out.2.2.2 Hi.out).trans (Gl.add_neg P)) ▸ hv), hb⟩
  clear hv hb ng0 ng1 p0 p1
  go_upto_region 12 with (fail)
  refine wp_gen (fun W => PB W w10.heap.size a10 n10 k10 b10 m10 l10 ((none : Pt C.p)) ∧ Below w10.heap.size w10 W) ⟨PB.new V10.out.1, al1 _⟩ ?_
  rintro W10 ⟨hB, hb⟩
  have K10 : Hid (Below w.heap.size w W10 ∧ PB W10 w3.heap.size a1 n1 k1 b1 m1 l1 (P) ∧ PB W10 (w3.heap.size + 1) a2 n2 k2 b2 m2 l2 (Q) ∧ PB W10 (w3.heap.size + 1 + 1) a3 n3 k3 b3 m3 l3 (R) ∧ PB W10 w4.heap.size a4 n4 k4 b4 m4 l4 ((ec C).add P Q) ∧ PB W10 w5.heap.size a5 n5 k5 b5 m5 l5 ((ec C).add P Q) ∧ PB W10 w6.heap.size a6 n6 k6 b6 m6 l6 ((ec C).add ((ec C).add P Q) R) ∧ PB W10 w7.heap.size a7 n7 k7 b7 m7 l7 ((ec C).add Q R) ∧ PB W10 w8.heap.size a8 n8 k8 b8 m8 l8 ((ec C).add ((ec C).add P Q) R) ∧ PB W10 w9.heap.size a9 n9 k9 b9 m9 l9 (Gl.neg P) ∧ PB W10 w10.heap.size a10 n10 k10 b10 m10 l10 ((none : Pt C.p))) := ⟨below_via (below_via K9.out.1 V10.out.2 (Nat.le_refl _)) hb (Nat.le_refl _), (K9.out.2.1.below V10.out.2).below hb, (K9.out.2.2.1.below V10.out.2).below hb, (K9.out.2.2.2.1.below V10.out.2).below hb, (K9.out.2.2.2.2.1.below V10.out.2).below hb, (K9.out.2.2.2.2.2.1.below V10.out.2).below hb, (K9.out.2.2.2.2.2.2.1.below V10.out.2).below hb, (K9.out.2.2.2.2.2.2.2.1.below V10.out.2).below hb, (K9.out.2.2.2.2.2.2.2.2.1.below V10.out.2).below hb, (K9.out.2.2.2.2.2.2.2.2.2.below V10.out.2).below hb, hB⟩
  clear hB hb K9 V10
  obtain rfl : n10 = 0 := (nb_eq K10.out.2.2.2.2.2.2.2.2.2.2.2.1).trans (lim0.2 rfl)
  obtain rfl : m10 = 0 := (nb_eq K10.out.2.2.2.2.2.2.2.2.2.2.2.2).trans (lim0.2 rfl)
  have HL : Hid (∀ P : Pt C.p, (lim (enc P).1).length ≤ 1000 ∧ (lim (enc P).2).length ≤ 1000) := fun P => by
    have he := Gl.enc_lt P
    have hp := crv_p12 HC.out.1
    have h1 := lim_1000 hp he.1
    have h2 := lim_1000 hp he.2
    omega
  have pq0 : W10.cell? ⟨w4.heap.size, 0, none⟩ = some (.slice a4 n4 k4) := K10.out.2.2.2.2.1.1.cell 0
  have pq1 : W10.cell? ⟨w4.heap.size, 1, none⟩ = some (.slice b4 m4 l4) := K10.out.2.2.2.2.1.1.cell 1
  have qp0 : W10.cell? ⟨w5.heap.size, 0, none⟩ = some (.slice a5 n5 k5) := K10.out.2.2.2.2.2.1.1.cell 0
  have qp1 : W10.cell? ⟨w5.heap.size, 1, none⟩ = some (.slice b5 m5 l5) := K10.out.2.2.2.2.2.1.1.cell 1
  go_wp2_with (go_at_call 16; refine (num09_any _ _).mono ?_; rintro e w' ⟨rfl, rfl⟩)
  refine (SameP_any _ _ _ _ _ _ K10.out.2.2.2.2.1.2.1 K10.out.2.2.2.2.1.2.2 K10.out.2.2.2.2.2.1.2.1 K10.out.2.2.2.2.2.1.2.2 (HL.out _).1 (HL.out _).2).mono ?_
  rintro e w11 ⟨rfl, hb⟩
  have Kw11 : Hid (Below w.heap.size w w11 ∧ PB w11 w3.heap.size a1 n1 k1 b1 m1 l1 (P) ∧ PB w11 (w3.heap.size + 1) a2 n2 k2 b2 m2 l2 (Q) ∧ PB w11 (w3.heap.size + 1 + 1) a3 n3 k3 b3 m3 l3 (R) ∧ PB w11 w4.heap.size a4 n4 k4 b4 m4 l4 ((ec C).add P Q) ∧ PB w11 w5.heap.size a5 n5 k5 b5 m5 l5 ((ec C).add P Q) ∧ PB w11 w6.heap.size a6 n6 k6 b6 m6 l6 ((ec C).add ((ec C).add P Q) R) ∧ PB w11 w7.heap.size a7 n7 k7 b7 m7 l7 ((ec C).add Q R) ∧ PB w11 w8.heap.size a8 n8 k8 b8 m8 l8 ((ec C).add ((ec C).add P Q) R) ∧ PB w11 w9.heap.size a9 n9 k9 b9 m9 l9 (Gl.neg P) ∧ PB w11 w10.heap.size a10 0 k10 b10 0 l10 ((none : Pt C.p))) := ⟨below_via K10.out.1 hb (Nat.le_refl _), K10.out.2.1.below hb, K10.out.2.2.1.below hb, K10.out.2.2.2.1.below hb, K10.out.2.2.2.2.1.below hb, K10.out.2.2.2.2.2.1.below hb, K10.out.2.2.2.2.2.2.1.below hb, K10.out.2.2.2.2.2.2.2.1.below hb, K10.out.2.2.2.2.2.2.2.2.1.below hb, K10.out.2.2.2.2.2.2.2.2.2.1.below hb, K10.out.2.2.2.2.2.2.2.2.2.2.below hb⟩
  clear hb K10 pq0 pq1 qp0 qp1
  have one0 : w11.cell? ⟨w6.heap.size, 0, none⟩ = some (.slice a6 n6 k6) := Kw11.out.2.2.2.2.2.2.1.1.cell 0
  have one1 : w11.cell? ⟨w6.heap.size, 1, none⟩ = some (.slice b6 m6 l6) := Kw11.out.2.2.2.2.2.2.1.1.cell 1
  have two0 : w11.cell? ⟨w8.heap.size, 0, none⟩ = some (.slice a8 n8 k8) := Kw11.out.2.2.2.2.2.2.2.2.1.1.cell 0
  have two1 : w11.cell? ⟨w8.heap.size, 1, none⟩ = some (.slice b8 m8 l8) := Kw11.out.2.2.2.2.2.2.2.2.1.1.cell 1
  go_wp2_with fail
  refine (SameP_any _ _ _ _ _ _ Kw11.out.2.2.2.2.2.2.1.2.1 Kw11.out.2.2.2.2.2.2.1.2.2 Kw11.out.2.2.2.2.2.2.2.2.1.2.1 Kw11.out.2.2.2.2.2.2.2.2.1.2.2 (HL.out _).1 (HL.out _).2).mono ?_
  rintro e w12 ⟨rfl, hb⟩
  have Kw12 : Hid (Below w.heap.size w w12 ∧ PB w12 w3.heap.size a1 n1 k1 b1 m1 l1 (P) ∧ PB w12 (w3.heap.size + 1) a2 n2 k2 b2 m2 l2 (Q) ∧ PB w12 (w3.heap.size + 1 + 1) a3 n3 k3 b3 m3 l3 (R) ∧ PB w12 w4.heap.size a4 n4 k4 b4 m4 l4 ((ec C).add P Q) ∧ PB w12 w5.heap.size a5 n5 k5 b5 m5 l5 ((ec C).add P Q) ∧ PB w12 w6.heap.size a6 n6 k6 b6 m6 l6 ((ec C).add ((ec C).add P Q) R) ∧ PB w12 w7.heap.size a7 n7 k7 b7 m7 l7 ((ec C).add Q R) ∧ PB w12 w8.heap.size a8 n8 k8 b8 m8 l8 ((ec C).add ((ec C).add P Q) R) ∧ PB w12 w9.heap.size a9 n9 k9 b9 m9 l9 (Gl.neg P) ∧ PB w12 w10.heap.size a10 0 k10 b10 0 l10 ((none : Pt C.p))) := ⟨below_via Kw11.out.1 hb (Nat.le_refl _), Kw11.out.2.1.below hb, Kw11.out.2.2.1.below hb, Kw11.out.2.2.2.1.below hb, Kw11.out.2.2.2.2.1.below hb, Kw11.out.2.2.2.2.2.1.below hb, Kw11.out.2.2.2.2.2.2.1.below hb, Kw11.out.2.2.2.2.2.2.2.1.below hb, Kw11.out.2.2.2.2.2.2.2.2.1.below hb, Kw11.out.2.2.2.2.2.2.2.2.2.1.below hb, Kw11.out.2.2.2.2.2.2.2.2.2.2.below hb⟩
  clear hb Kw11 one0 one1 two0 two1
  have z0 : w12.cell? ⟨w10.heap.size, 0, none⟩ = some (.slice a10 0 k10) := Kw12.out.2.2.2.2.2.2.2.2.2.2.1.cell 0
  have z1 : w12.cell? ⟨w10.heap.size, 1, none⟩ = some (.slice b10 0 l10) := Kw12.out.2.2.2.2.2.2.2.2.2.2.1.cell 1
  have one0 : w12.cell? ⟨w6.heap.size, 0, none⟩ = some (.slice a6 n6 k6) := Kw12.out.2.2.2.2.2.2.1.1.cell 0
  have one1 : w12.cell? ⟨w6.heap.size, 1, none⟩ = some (.slice b6 m6 l6) := Kw12.out.2.2.2.2.2.2.1.1.cell 1
  go_wp2_with fail
  refine (OnG HC.out.1 HC.out.2 a6 n6 k6 b6 m6 l6 Oc.out.2.2.1 Kw12.out.2.2.2.2.2.2.1.2).mono ?_
  rintro e w13 ⟨rfl, hb⟩
  have Kw13 : Hid (Below w.heap.size w w13 ∧ PB w13 w3.heap.size a1 n1 k1 b1 m1 l1 (P) ∧ PB w13 (w3.heap.size + 1) a2 n2 k2 b2 m2 l2 (Q) ∧ PB w13 (w3.heap.size + 1 + 1) a3 n3 k3 b3 m3 l3 (R) ∧ PB w13 w4.heap.size a4 n4 k4 b4 m4 l4 ((ec C).add P Q) ∧ PB w13 w5.heap.size a5 n5 k5 b5 m5 l5 ((ec C).add P Q) ∧ PB w13 w6.heap.size a6 n6 k6 b6 m6 l6 ((ec C).add ((ec C).add P Q) R) ∧ PB w13 w7.heap.size a7 n7 k7 b7 m7 l7 ((ec C).add Q R) ∧ PB w13 w8.heap.size a8 n8 k8 b8 m8 l8 ((ec C).add ((ec C).add P Q) R) ∧ PB w13 w9.heap.size a9 n9 k9 b9 m9 l9 (Gl.neg P) ∧ PB w13 w10.heap.size a10 0 k10 b10 0 l10 ((none : Pt C.p))) := ⟨below_via Kw12.out.1 hb (Nat.le_refl _), Kw12.out.2.1.below hb, Kw12.out.2.2.1.below hb, Kw12.out.2.2.2.1.below hb, Kw12.out.2.2.2.2.1.below hb, Kw12.out.2.2.2.2.2.1.below hb, Kw12.out.2.2.2.2.2.2.1.below hb, Kw12.out.2.2.2.2.2.2.2.1.below hb, Kw12.out.2.2.2.2.2.2.2.2.1.below hb, Kw12.out.2.2.2.2.2.2.2.2.2.1.below hb, Kw12.out.2.2.2.2.2.2.2.2.2.2.below hb⟩
  clear hb Kw12 one0 one1 z0 z1
  have ng0 : w13.cell? ⟨w9.heap.size, 0, none⟩ = some (.slice a9 n9 k9) := Kw13.out.2.2.2.2.2.2.2.2.2.1.1.cell 0
  have ng1 : w13.cell? ⟨w9.heap.size, 1, none⟩ = some (.slice b9 m9 l9) := Kw13.out.2.2.2.2.2.2.2.2.2.1.1.cell 1
  go_wp2_with fail
  refine (OnG HC.out.1 HC.out.2 a9 n9 k9 b9 m9 l9 Oc.out.2.2.2 Kw13.out.2.2.2.2.2.2.2.2.2.1.2).mono ?_
  rintro e w14 ⟨rfl, hb⟩
  have Kw14 : Hid (Below w.heap.size w w14 ∧ PB w14 w3.heap.size a1 n1 k1 b1 m1 l1 (P) ∧ PB w14 (w3.heap.size + 1) a2 n2 k2 b2 m2 l2 (Q) ∧ PB w14 (w3.heap.size + 1 + 1) a3 n3 k3 b3 m3 l3 (R) ∧ PB w14 w4.heap.size a4 n4 k4 b4 m4 l4 ((ec C).add P Q) ∧ PB w14 w5.heap.size a5 n5 k5 b5 m5 l5 ((ec C).add P Q) ∧ PB w14 w6.heap.size a6 n6 k6 b6 m6 l6 ((ec C).add ((ec C).add P Q) R) ∧ PB w14 w7.heap.size a7 n7 k7 b7 m7 l7 ((ec C).add Q R) ∧ PB w14 w8.heap.size a8 n8 k8 b8 m8 l8 ((ec C).add ((ec C).add P Q) R) ∧ PB w14 w9.heap.size a9 n9 k9 b9 m9 l9 (Gl.neg P) ∧ PB w14 w10.heap.size a10 0 k10 b10 0 l10 ((none : Pt C.p))) := ⟨below_via Kw13.out.1 hb (Nat.le_refl _), Kw13.out.2.1.below hb, Kw13.out.2.2.1.below hb, Kw13.out.2.2.2.1.below hb, Kw13.out.2.2.2.2.1.below hb, Kw13.out.2.2.2.2.2.1.below hb, Kw13.out.2.2.2.2.2.2.1.below hb, Kw13.out.2.2.2.2.2.2.2.1.below hb, Kw13.out.2.2.2.2.2.2.2.2.1.below hb, Kw13.out.2.2.2.2.2.2.2.2.2.1.below hb, Kw13.out.2.2.2.2.2.2.2.2.2.2.below hb⟩
  clear hb Kw13 ng0 ng1
  go_wp2_with fail
  refine (live09_any (w := _)).mono ?_
  rintro e w15 ⟨rfl, hb⟩
  have KZ : Hid (Below w.heap.size w w15) := below_via Kw14.out.1 hb (Nat.le_refl _)
  clear hb Kw14
  go_wp2
  go_ret
  exact ⟨rfl, KZ.out⟩
end Go.Proofs.Yteagdgbcfbkfbaa
