/-
  Der: rows of elements, from one on.
-/
import Derived.Test.YtndcpjnfdgojkabDoorE56
namespace Go.Proofs.YtndcpjnfdgojkabDoor
open Go.RowKit
theorem Onl.comb {D : Nat → Prop} {w w1 w2 : World} (h : Onl D w w1) (h' : Onl (fun j => D j ∨ w.heap.size ≤ j) w1 w2) : Onl D w w2 :=
  ⟨h'.os.trans h.os, h'.tape.trans h.tape, h'.output.trans h.output, Nat.le_trans h.size h'.size, fun j hj hd => (h'.block j (Nat.lt_of_lt_of_le hj h.size) (fun e => by
    rcases e with e | e
    · exact hd e
    · omega)).trans (h.block j hj hd)⟩
theorem Onl.wide {D D' : Nat → Prop} {w w' : World} (h : Onl D w w') (hD : ∀ j, D j → D' j) : Onl D' w w' :=
  ⟨h.os, h.tape, h.output, h.size, fun j hj hd => h.block j hj (fun e => hd (hD j e))⟩
/-- The elements of v from place i on are rows of the call's own, the others may have turned. -/
structure TlvF (B : Nat) (w : World) (v : Value) (Y : List Tc) (i : Nat) : Prop where
  mrow : MRow 5 31 B w v Y.length (tlvCells Y)
  rows : ∀ j y, i ≤ j → Y[j]? = some y → Row .u8 5 B w y.2.1 y.1.d ∧ Row .u8 5 B w y.2.2 y.1.r
theorem TlvF.below {B : Nat} {w w' : World} {v : Value} {Y : List Tc} {i : Nat} (h : TlvF B w v Y i) (hb : Below w.heap.size w w') : TlvF B w' v Y i :=
  ⟨h.mrow.below hb, fun j y hj hy => ⟨(h.rows j y hj hy).1.below hb, (h.rows j y hj hy).2.below hb⟩⟩
theorem TlvF.next {B : Nat} {w : World} {v : Value} {Y : List Tc} {i : Nat} (h : TlvF B w v Y i) : TlvF B w v Y (i + 1) :=
  ⟨h.mrow, fun j y hj hy => h.rows j y (by omega) hy⟩
/-- The elements from place i on, read by the slice's rest. -/
theorem TlvF.drop {B : Nat} {w : World} {Y : List Tc} {i k c : Nat} {a a' : Option Addr} (h : TlvF B w (.slice a k c) Y i) (hk : Y.length = k) (hi : i ≤ k) (ha : (if c = i then a else a.map (·.add (i * 5))) = a') :
    TlvS w (.slice a' (k - i) (c - i)) ((Y.drop i).map (·.1)) := by
  have hl : ((Y.drop i).map (·.1)).length = k - i := by rw [List.length_map, List.length_drop, hk]
  obtain ⟨h0, hm⟩ := h.mrow
  have hrows : ∀ y ∈ Y.drop i, Sl .u8 w y.2.1 y.1.d ∧ Sl .u8 w y.2.2 y.1.r := by
    intro y hy
    obtain ⟨j, hj, rfl⟩ := List.mem_iff_getElem.1 hy
    have h1 := h.rows (i + j) (Y.drop i)[j] (by omega) (by rw [List.getElem_drop]; exact List.getElem?_eq_getElem _)
    exact ⟨h1.1.sl, h1.2.sl⟩
  rcases hm with ⟨hv, hz⟩ | ⟨b, S, c', hv, hB, hA, hS, hc, ht, _⟩
  · simp only [Value.slice.injEq] at hv
    have hki : k - i = 0 := by omega
    exact ⟨a', c - i, Y.drop i, by rw [hl], by omega, rfl, .inl (List.eq_nil_of_length_eq_zero (by omega)), hrows⟩
  · simp only [Value.slice.injEq] at hv
    obtain ⟨rfl, hv2, rfl⟩ := hv
    refine ⟨a', c - i, Y.drop i, by rw [hl], by omega, rfl, ?_, hrows⟩
    by_cases hci : c = i
    · exact .inl (List.eq_nil_of_length_eq_zero (by omega))
    · rw [if_neg hci] at ha
      refine .inr ⟨b, i * 5, ?_, hA.lt, fun q hq => ?_⟩
      · rw [← ha]; simp [Addr.add]; intro h; omega
      · rw [hl] at hq
        rw [hA.cell (i * 5 + q)]
        have e1 : S[i * 5 + q]? = (tlvCells Y)[i * 5 + q]? := by rw [← ht, List.getElem?_take, if_pos (by omega)]
        rw [e1]
        have e2 : tlvCells Y = tlvCells (Y.take i) ++ tlvCells (Y.drop i) := by unfold tlvCells; rw [← List.flatMap_append, List.take_append_drop]
        have e3 : (tlvCells (Y.take i)).length = i * 5 := by rw [tlvCells_len, List.length_take]; congr 1; omega
        rw [e2, List.getElem?_append_right (by omega), e3]
        congr 1; omega
/-- The cells of element i. -/
theorem TlvF.cell {B : Nat} {w : World} {Y : List Tc} {i k c : Nat} {a : Option Addr} (h : TlvF B w (.slice a k c) Y i) (hk : Y.length = k) (hi : i < k) {y : Tc} (hy : Y[i]? = some y) : ∃ b, a = some ⟨b, 0, none⟩ ∧ k ≤ c ∧ (∃ S, Blk 31 w b S) ∧ ∀ q u, q < 5 → (cell5 y)[q]? = some u → w.cell? ⟨b, i * 5 + q, none⟩ = some u := by
  obtain ⟨b, c', hv, hc, _, _, hcell⟩ := h.mrow.at (by omega)
  simp only [Value.slice.injEq] at hv
  obtain ⟨rfl, hk', rfl⟩ := hv
  refine ⟨b, rfl, by omega, ?_, fun q u hq hu => ?_⟩
  · obtain ⟨_, hm⟩ := h.mrow
    rcases hm with ⟨hv, _⟩ | ⟨b', S, c', hv, _, hA, _⟩
    · simp at hv
    · simp only [Value.slice.injEq, Option.some.injEq, Addr.mk.injEq, and_true] at hv
      obtain ⟨rfl, _, _⟩ := hv
      exact ⟨S, hA⟩
  · rw [hcell (i * 5 + q) (by omega), tlvCells_get Y i q hq, hy, Option.bind_some, hu]
theorem TlvF.blk {B : Nat} {w : World} {v : Value} {Y : List Tc} {i : Nat} (h : TlvF B w v Y i) {b : Nat} (hb : blkOf v = some b) : ∃ S, Blk 31 w b S := by
  obtain ⟨_, hm⟩ := h.mrow
  rcases hm with ⟨rfl, _⟩ | ⟨b', S, c', rfl, _, hA, _⟩
  · simp [blkOf] at hb
  · simp only [blkOf, Option.some.injEq] at hb
    subst hb
    exact ⟨S, hA⟩
/-- What turns only the block of one element's row leaves the others. -/
theorem TlvF.onl {B : Nat} {w w' : World} {v u : Value} {xs : List Int} {Y : List Tc} {i : Nat} (h : TlvF B w v Y i) (ho : Onl (fun j => blkOf u = some j) w w') (hu : Row .u8 5 B w u xs)
    (hap : ∀ j y, i ≤ j → Y[j]? = some y → ∀ b, blkOf u = some b → blkOf y.2.1 ≠ some b ∧ blkOf y.2.2 ≠ some b) : TlvF B w' v Y i :=
  ⟨ho.mrow h.mrow (fun _ _ hS _ hd => hu.not_tlv hS hd), fun j y hj hy => ⟨ho.row (h.rows j y hj hy).1 (fun b hb hd => (hap j y hj hy b hd).1 hb), ho.row (h.rows j y hj hy).2 (fun b hb hd => (hap j y hj hy b hd).2 hb)⟩⟩
theorem apart_at : ∀ (Y : List Tc), Apart (rowsOf Y) → ∀ (i : Nat) (y : Tc), Y[i]? = some y → (∀ b, blkOf y.2.1 = some b → blkOf y.2.2 ≠ some b) ∧ ∀ (j : Nat) (z : Tc), i < j → Y[j]? = some z → ∀ b, (blkOf y.2.1 = some b → blkOf z.2.1 ≠ some b ∧ blkOf z.2.2 ≠ some b) ∧ (blkOf y.2.2 = some b → blkOf z.2.1 ≠ some b ∧ blkOf z.2.2 ≠ some b)
  | [], _, i, y, hy => by simp at hy
  | x :: Y, hap, 0, y, hy => by
    simp only [List.getElem?_cons_zero, Option.some.injEq] at hy
    subst hy
    unfold Apart rowsOf at hap
    simp only [List.flatMap_cons, List.cons_append, List.nil_append, List.pairwise_cons, List.mem_cons, List.mem_flatMap] at hap
    refine ⟨hap.1 _ (.inl rfl), fun j z hj hz b => ?_⟩
    obtain ⟨j', rfl⟩ : ∃ j', j = j' + 1 := ⟨j - 1, by omega⟩
    rw [List.getElem?_cons_succ] at hz
    have hm := List.mem_of_getElem? hz
    refine ⟨fun hb => ⟨hap.1 _ (.inr ⟨z, hm, by simp⟩) b hb, hap.1 _ (.inr ⟨z, hm, by simp⟩) b hb⟩, fun hb => ⟨hap.2.1 _ ⟨z, hm, by simp⟩ b hb, hap.2.1 _ ⟨z, hm, by simp⟩ b hb⟩⟩
  | x :: Y, hap, i + 1, y, hy => by
    rw [List.getElem?_cons_succ] at hy
    have hap' : Apart (rowsOf Y) := by
      unfold Apart rowsOf at hap ⊢
      simp only [List.flatMap_cons, List.cons_append, List.nil_append, List.pairwise_cons] at hap
      exact hap.2.2
    have h1 := apart_at Y hap' i y hy
    refine ⟨h1.1, fun j z hj hz b => ?_⟩
    obtain ⟨j', rfl⟩ : ∃ j', j = j' + 1 := ⟨j - 1, by omega⟩
    rw [List.getElem?_cons_succ] at hz
    exact h1.2 j' z (by omega) hz b
end Go.Proofs.YtndcpjnfdgojkabDoor
