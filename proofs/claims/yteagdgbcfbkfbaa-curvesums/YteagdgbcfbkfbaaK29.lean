/-
  How the laws' arguments read (a plain seat).
-/
import Derived.OpenShut
import Derived.Test.YteagdgbcfbkfbaaK28
namespace Go.Proofs.Yteagdgbcfbkfbaa
open Go.RowKit
/-! ### how an argument reads -/
def IsRow (k : IntKind) (w : World) (a : Option Addr) (len cap : Nat) (zs : List Int) : Prop :=
  (a = none ∧ len = 0 ∧ cap = 0 ∧ zs = []) ∨
  ∃ x, a = some x ∧ len ≤ cap ∧ cap ≤ maxLen ∧ zs.length = cap ∧ (∀ i, i < zs.length → w.cell? (x.add i) = some (.int k (zs.getD i 0))) ∧ ∀ n ∈ zs, (Lit.int k n).wf = true
theorem cell_spot {w : World} {x : Addr} {v : Value} (h : w.cell? x = some v) : x.spot = none ∧ x.block < w.heap.size := by
  unfold World.cell? at h
  split at h
  · rename_i c t f hh
    refine ⟨?_, (Array.getElem?_eq_some_iff.1 hh).1⟩
    by_cases hs : x.spot.isSome
    · simp [hs] at h
    · simpa using hs
  · cases h
theorem IsRow.sl {k : IntKind} {w : World} {a : Option Addr} {len cap : Nat} {zs : List Int} (h : IsRow k w a len cap zs) :
    ∃ X, X.length = len ∧ Sl k w (.slice a len cap) X ∧ ∀ n ∈ X, (Lit.int k n).wf = true := by
  rcases h with ⟨rfl, rfl, rfl, rfl⟩ | ⟨x, rfl, hl, hm, hz, hc, hw⟩
  · exact ⟨[], rfl, ⟨none, 0, rfl, Nat.le_refl _, .inl rfl⟩, by simp⟩
  · refine ⟨zs.take len, by simp; omega, ⟨some x, cap, by simp; omega, by simp; omega, ?_⟩, fun n hn => hw n (List.mem_of_mem_take hn)⟩
    by_cases h0 : len = 0
    · subst h0; exact .inl (by simp)
    · right
      obtain ⟨b, off, sp⟩ := x
      have h1 := cell_spot (hc 0 (by omega))
      have hsp : sp = none := by
        have := h1.1
        cases sp with
        | none => rfl
        | some s => simp [Addr.add] at this
      subst hsp
      have hb : b < w.heap.size := by have := h1.2; simpa [Addr.add] using this
      refine ⟨b, off, rfl, hb, fun i hi => ?_⟩
      simp at hi
      have := hc i (by omega)
      have hadd : (⟨b, off, none⟩ : Addr).add i = ⟨b, off + i, none⟩ := by simp [Addr.add]
      rw [hadd] at this
      rw [this]
      simp [show i < len by omega]
theorem IsRow.sl32 {w : World} {a : Option Addr} {len cap : Nat} {zs : List Int} (h : IsRow .u32 w a len cap zs) : ∃ X, X.length = len ∧ Sl .u32 w (.slice a len cap) X ∧ U32s X := by
  obtain ⟨X, h1, h2, h3⟩ := h.sl
  exact ⟨X, h1, h2, fun n hn => by have := bounds_u32 (h3 n hn); exact ⟨this.1, by omega⟩⟩
theorem IsRow.sl8 {w : World} {a : Option Addr} {len cap : Nat} {zs : List Int} (h : IsRow .u8 w a len cap zs) : ∃ X, X.length = len ∧ Sl .u8 w (.slice a len cap) X ∧ U8s X := by
  obtain ⟨X, h1, h2, h3⟩ := h.sl
  exact ⟨X, h1, h2, fun n hn => by have := bounds_u8 (h3 n hn); exact ⟨this.1, by omega⟩⟩
end Go.Proofs.Yteagdgbcfbkfbaa
/-
  Curve: the law CurveOns.
-/
namespace Go.Proofs.Yteagdgbcfbkfbaa
open Go.RowKit
set_option maxRecDepth 20000
set_option maxHeartbeats 2000000 in
theorem long09_any {w : World} (a1 : Option Addr) (n1 c1 : Nat) (a2 : Option Addr) (n2 c2 : Nat) (r : Bool) (hr : (decide (600 < (n1 : Int)) || decide (600 < (n2 : Int))) = r) :
    Calls Try.prog 9 #[.agg #[.slice a1 n1 c1, .slice a2 n2 c2]] w fun e w' => e = .returned (.bool r) ∧ Below w.heap.size w w' := by
  have HR : Hid ((decide (600 < (n1 : Int)) || decide (600 < (n2 : Int))) = r) := hr
  clear hr
  by_cases h1 : n1 ≤ 600
  · have g1 : decide ((600 : Int) < (n1 : Int)) = false := by simp; omega
    have HR2 : Hid (decide ((600 : Int) < (n2 : Int)) = r) := by show _ = _; rw [← HR.out, g1]; rfl
    clear h1 HR
    go_enter Try.func9, Try.ntmps9
    go_upto_region 1 with (refine wpList_boxR rfl 24 (.tmp 0) rfl #[.slice a1 n1 c1, .slice a2 n2 c2] rfl ?_)
    refine wp_gen (fun W => Blk 24 W w.heap.size [.slice a1 n1 c1, .slice a2 n2 c2] ∧ Below w.heap.size w W) ⟨Blk.new _ w _, al1 _⟩ ?_
    rintro W2 ⟨hB, hBw⟩
    have p0 : W2.cell? ⟨w.heap.size, 0, none⟩ = some (.slice a1 n1 c1) := hB.cell 0
    have p1 : W2.cell? ⟨w.heap.size, 1, none⟩ = some (.slice a2 n2 c2) := hB.cell 1
    have H2 : Hid (Below w.heap.size w W2) := hBw
    clear hB hBw
    go_wp2
    go_ret
    exact ⟨by rw [← HR2.out]; rfl, H2.out⟩
  · have g1 : decide ((600 : Int) < (n1 : Int)) = true := by simp; omega
    have HR2 : Hid (true = r) := by show _ = _; rw [← HR.out, g1]; rfl
    clear h1 HR
    go_enter Try.func9, Try.ntmps9
    go_upto_region 1 with (refine wpList_boxR rfl 24 (.tmp 0) rfl #[.slice a1 n1 c1, .slice a2 n2 c2] rfl ?_)
    refine wp_gen (fun W => Blk 24 W w.heap.size [.slice a1 n1 c1, .slice a2 n2 c2] ∧ Below w.heap.size w W) ⟨Blk.new _ w _, al1 _⟩ ?_
    rintro W2 ⟨hB, hBw⟩
    have p0 : W2.cell? ⟨w.heap.size, 0, none⟩ = some (.slice a1 n1 c1) := hB.cell 0
    have p1 : W2.cell? ⟨w.heap.size, 1, none⟩ = some (.slice a2 n2 c2) := hB.cell 1
    have H2 : Hid (Below w.heap.size w W2) := hBw
    clear hB hBw
    go_wp2
    go_ret
    exact ⟨by rw [← HR2.out]; rfl, H2.out⟩
theorem crvN_len (f : Cv → Nat) (hf : f c256 < 4294967296 ^ 12 ∧ f c384 < 4294967296 ^ 12) (c : Int) : (lim (crvN f (crv c))).length ≤ 12 := by
  refine lim12 ?_
  unfold crv
  split
  · exact hf.1
  · split
    · exact hf.2
    · show 0 < _; decide
end Go.Proofs.Yteagdgbcfbkfbaa
