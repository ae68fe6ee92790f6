/-
  Der: rows of elements that are read.
-/
import Derived.Test.YtndcpjnfdgojkaaDoorE47a
import Derived.Test.YtndcpjnfdgojkaaDoorApZ
namespace Go.Proofs.YtndcpjnfdgojkaaDoor
open Go.RowKit
/-- A slice of elements that can be read; the slice itself is the call's own. -/
def TlvR (B : Nat) (w : World) (v : Value) (L : List El) : Prop :=
  ∃ Y : List Tc, Y.map (·.1) = L ∧ MRow 5 32 B w v Y.length (tlvCells Y) ∧ ∀ y ∈ Y, Rw .u8 5 B w y.2.1 y.1.d ∧ Rw .u8 5 B w y.2.2 y.1.r
theorem TlvR.nil (B : Nat) (w : World) : TlvR B w (.slice none 0 0) [] := ⟨[], rfl, MRow.nil _ _ _ _, by simp⟩
theorem TlvR.below {B : Nat} {w w' : World} {v : Value} {L : List El} (h : TlvR B w v L) (hb : Below w.heap.size w w') : TlvR B w' v L := by
  obtain ⟨Y, h1, h2, h3⟩ := h
  exact ⟨Y, h1, h2.below hb, fun y hy => ⟨(h3 y hy).1.below hb, (h3 y hy).2.below hb⟩⟩
theorem TlvR.mono {B B' : Nat} {w : World} {v : Value} {L : List El} (h : TlvR B w v L) (hb : B' ≤ B) : TlvR B' w v L := by
  obtain ⟨Y, h1, h2, h3⟩ := h
  exact ⟨Y, h1, h2.mono hb, fun y hy => ⟨(h3 y hy).1.mono hb, (h3 y hy).2.mono hb⟩⟩
theorem Tlvs.r {B : Nat} {w : World} {v : Value} {L : List El} (h : Tlvs B w v L) : TlvR B w v L := by
  obtain ⟨Y, h1, h2, h3, _⟩ := h
  exact ⟨Y, h1, h2, fun y hy => ⟨.inl (h3 y hy).1, .inl (h3 y hy).2⟩⟩
theorem Rw.mgrew {B : Nat} {w w' : World} {v u : Value} {xs : List Int} (h : Rw .u8 5 B w v xs) (hg : MGrew 32 w w' u) : Rw .u8 5 B w' v xs := by
  rcases h with h | h
  · exact .inl (h.mgrew hg)
  · exact .inr h
end Go.Proofs.YtndcpjnfdgojkaaDoor
