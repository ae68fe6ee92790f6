/-
  Der: memory of which only some blocks have turned.
-/
import Derived.Test.YtndcpjnfdgojkaaDoorE52
import Derived.Test.YtndcpjnfdgojkaaDoorApL
namespace Go.Proofs.YtndcpjnfdgojkaaDoor
open Go.RowKit
/-- Only blocks that meet D have turned; new ones may have come. -/
structure Onl (D : Nat → Prop) (w w' : World) : Prop where
  os : w'.os = w.os
  tape : w'.tape = w.tape
  output : w'.output = w.output
  size : w.heap.size ≤ w'.heap.size
  block : ∀ j, j < w.heap.size → ¬ D j → w'.heap[j]? = w.heap[j]?
theorem Onl.refl (D : Nat → Prop) (w : World) : Onl D w w := ⟨rfl, rfl, rfl, Nat.le_refl _, fun _ _ _ => rfl⟩
theorem Onl.trans {D : Nat → Prop} {w w' w'' : World} (h : Onl D w w') (h' : Onl D w' w'') : Onl D w w'' :=
  ⟨h'.os.trans h.os, h'.tape.trans h.tape, h'.output.trans h.output, Nat.le_trans h.size h'.size, fun j hj hd => (h'.block j (Nat.lt_of_lt_of_le hj h.size) hd).trans (h.block j hj hd)⟩
theorem Onl.ofBelow {D : Nat → Prop} {w w' : World} (h : Below w.heap.size w w') : Onl D w w' := ⟨h.os, h.tape, h.output, h.size, fun j hj _ => h.block j hj⟩
theorem Onl.ofUpd {D : Nat → Prop} {w w' : World} {b : Nat} (h : Upd w w' b) (hb : D b ∨ w.heap.size ≤ b) : Onl D w w' :=
  ⟨h.os, h.tape, h.output, h.size, fun j hj hd => h.block j hj (fun e => by
    simp only [Option.some.injEq] at e
    subst e
    rcases hb with hb | hb
    · exact hd hb
    · omega)⟩
/-- From an elder world: a block that is newer than it may turn. -/
theorem Onl.upd {D : Nat → Prop} {w w1 w' : World} {b : Nat} (h0 : Onl D w w1) (h : Upd w1 w' b) (hb : D b ∨ w.heap.size ≤ b) : Onl D w w' :=
  ⟨h.os.trans h0.os, h.tape.trans h0.tape, h.output.trans h0.output, Nat.le_trans h0.size h.size, fun j hj hd => (h.block j (Nat.lt_of_lt_of_le hj h0.size) (fun e => by
    simp only [Option.some.injEq] at e
    subst e
    rcases hb with hb | hb
    · exact hd hb
    · omega)).trans (h0.block j hj hd)⟩
theorem Onl.below {D : Nat → Prop} {B : Nat} {w0 w w' : World} (h : Onl D w w') (hb : Below B w0 w) (hB : B ≤ w.heap.size) (hD : ∀ j, D j → B ≤ j) : Below B w0 w' :=
  hb.trans ⟨h.os, h.tape, h.output, h.size, fun j hj => h.block j (Nat.lt_of_lt_of_le hj hB) (fun d => by have := hD j d; omega)⟩
theorem Onl.arr {D : Nat → Prop} {k : IntKind} {e : TypeId} {w w' : World} {b : Nat} {xs : List Int} (h : Onl D w w') (ha : Arr k e w b xs) (hb : ¬ D b) : Arr k e w' b xs := by
  unfold Arr; rw [h.block b ha.lt hb]; exact ha
theorem Onl.blk {D : Nat → Prop} {T : TypeId} {w w' : World} {b : Nat} {cs : List Value} (h : Onl D w w') (ha : Blk T w b cs) (hb : ¬ D b) : Blk T w' b cs := by
  unfold Blk; rw [h.block b ha.lt hb]; exact ha
theorem Onl.row {D : Nat → Prop} {k : IntKind} {e : TypeId} {B : Nat} {w w' : World} {v : Value} {xs : List Int} (h : Onl D w w') (hr : Row k e B w v xs) (hb : ∀ b, blkOf v = some b → ¬ D b) : Row k e B w' v xs := by
  rcases hr with hr | ⟨b, S, rfl, h1, hA, h2⟩
  · exact .inl hr
  · exact .inr ⟨b, S, rfl, h1, h.arr hA (hb b rfl), h2⟩
theorem Onl.mrow {D : Nat → Prop} {m : Nat} {e : TypeId} {B : Nat} {w w' : World} {v : Value} {n : Nat} {xs : List Value} (h : Onl D w w') (hr : MRow m e B w v n xs) (hb : ∀ b S, Blk e w b S → blkOf v = some b → ¬ D b) : MRow m e B w' v n xs := by
  obtain ⟨h0, hr⟩ := hr
  refine ⟨h0, ?_⟩
  rcases hr with hr | ⟨b, S, c, rfl, h1, hA, h2⟩
  · exact .inl hr
  · exact .inr ⟨b, S, c, rfl, h1, h.blk hA (hb b S hA rfl), h2⟩
/-- Rows that lie from B on, none of them where something turns. -/
theorem Onl.tlvs {D : Nat → Prop} {B : Nat} {w w' : World} {v : Value} {L : List El} (h : Onl D w w') (ht : Tlvs B w v L) (hD : ∀ j, D j → j < B) : Tlvs B w' v L := by
  obtain ⟨Y, h1, h2, h3, h4⟩ := ht
  refine ⟨Y, h1, h.mrow h2 (fun b S hS hb hd => ?_), fun y hy => ⟨h.row (h3 y hy).1 (fun b hb hd => ?_), h.row (h3 y hy).2 (fun b hb hd => ?_)⟩, h4⟩
  · have := hD b hd
    obtain ⟨_, h2⟩ := h2
    rcases h2 with ⟨rfl, _⟩ | ⟨b', S', c', rfl, hB, _⟩
    · simp [blkOf] at hb
    · simp only [blkOf, Option.some.injEq] at hb; omega
  · have := hD b hd; have := ((h3 y hy).1.blk_lt hb).1; omega
  · have := hD b hd; have := ((h3 y hy).2.blk_lt hb).1; omega
theorem Row.not_tlv {B : Nat} {w : World} {v : Value} {xs : List Int} (h : Row .u8 5 B w v xs) {b : Nat} {S : List Value} (hS : Blk 32 w b S) (hb : blkOf v = some b) : False := by
  rcases h with ⟨rfl, _⟩ | ⟨b', S', rfl, _, hA, _⟩
  · simp [blkOf] at hb
  · simp only [blkOf, Option.some.injEq] at hb
    subst hb
    unfold Arr at hA
    unfold Blk at hS
    rw [hA] at hS
    simp at hS
end Go.Proofs.YtndcpjnfdgojkaaDoor
