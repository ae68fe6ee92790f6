/-
  NatOwn: whatever the two lists, the law answers true, and writes nothing that was there.
-/
import Derived.Test.YthkheocggcmooabV
import Derived.Test.YthkheocggcmooabW30
namespace Go.Proofs.Ythkheocggcmooab
open Go.RowKit

/-- A row that may be written over: nil, or the head of a block of limbs from B on. -/
def Good (B : Nat) (w : World) (v : Value) : Prop :=
  v = .slice none 0 0 ∨ ∃ b n S, v = .slice (some ⟨b, 0, none⟩) n S.length ∧ B ≤ b ∧ Arr .u32 37 w b S ∧ U32s S ∧ n ≤ S.length ∧ n ≤ 1000 ∧ S.length ≤ maxLen
structure OwnInv (B L : Nat) (w2 : World) (Rs : List Value) (w : World) : Prop where
  below : Below B w2 w
  sz : B ≤ w.heap.size
  rows : w.heap[L]? = some (.cells Rs.toArray 22 (0, 0))
  lB : B ≤ L
  good : ∀ v ∈ Rs, Good B w v
theorem Good.own {B : Nat} {w : World} {v : Value} {xs : List Int} (h : Own B w v xs) (hl : xs.length ≤ 1000) : Good B w v := by
  rcases h with ⟨rfl, _⟩ | ⟨b, S, rfl, h1, h2, h3, h4, _, h5⟩
  · exact .inl rfl
  · exact .inr ⟨b, xs.length, S, rfl, h1, h2, h3, h4, hl, by unfold maxLen; omega⟩
theorem Good.below {B : Nat} {w w' : World} {v : Value} (h : Good B w v) (hb : Below w.heap.size w w') : Good B w' v := by
  rcases h with h | ⟨b, n, S, rfl, h1, hA, h2⟩
  · exact .inl h
  · exact .inr ⟨b, n, S, rfl, h1, below_arr hb hA.lt hA, h2⟩
theorem Good.set {B : Nat} {w : World} {v : Value} (h : Good B w v) (b' i : Nat) {x : Int} (hx : U32 x) : Good B (w.setCell ⟨b', i, none⟩ (.int .u32 x)) v := by
  rcases h with h | ⟨b, n, S, rfl, h1, hA, hu, h2, h3, h4⟩
  · exact .inl h
  · by_cases hb : b = b'
    · subst hb
      exact .inr ⟨b, n, S.set i x, by simp, h1, hA.set i x, hu.set i hx, by simpa using h2, h3, by simpa using h4⟩
    · exact .inr ⟨b, n, S, rfl, h1, (Upd.set w b' i _).arr hA hb, hu, h2, h3, h4⟩
theorem Good.grew {B : Nat} {w w' : World} {v u : Value} {ys : List Int} (h : Good B w v) (hu : U32s ys) (hg : Grew .u32 37 w w' u ys) : Good B w' v := by
  rcases hg with hg | ⟨b', n', S', rfl, hA', hU, hle, hA2⟩
  · exact h.below hg
  · rcases h with h | ⟨b, n, S, rfl, h1, hA, hus, h2, h3, h4⟩
    · exact .inl h
    · by_cases hb : b = b'
      · subst hb
        have hS : S = S' := by
          unfold Arr at hA hA'
          rw [hA] at hA'
          have := Option.some.inj hA'
          simp only [Obj.cells.injEq, and_true] at this
          have hm := congrArg (fun a => a.toList.map intOf) this
          simpa [Function.comp_def, intOf] using hm
        subst hS
        have hlen : (S.take n' ++ ys ++ S.drop (n' + ys.length)).length = S.length := by simp; omega
        exact .inr ⟨b, n, _, by rw [hlen], h1, hA2, ((hus.take n').append hu).append (hus.drop _), by rw [hlen]; exact h2, h3, by rw [hlen]; exact h4⟩
      · exact .inr ⟨b, n, S, rfl, h1, hU.arr hA hb, hus, h2, h3, h4⟩
theorem arr_ne {w : World} {L b : Nat} {Rs : List Value} {S : List Int} (h : w.heap[L]? = some (.cells Rs.toArray 22 (0, 0))) (hA : Arr .u32 37 w b S) : L ≠ b := by
  rintro rfl
  unfold Arr at hA
  rw [h] at hA
  have := Option.some.inj hA
  simp at this
theorem OwnInv.step {B L : Nat} {w2 w w' : World} {Rs : List Value} (h : OwnInv B L w2 Rs w) (hb : Below w.heap.size w w') : OwnInv B L w2 Rs w' := by
  refine ⟨h.below.trans (hb.mono h.sz), Nat.le_trans h.sz hb.size, ?_, h.lB, fun v hv => (h.good v hv).below hb⟩
  rw [hb.block L (by have := (Array.getElem?_eq_some_iff.1 h.rows).1; exact this)]; exact h.rows
theorem OwnInv.set {B L : Nat} {w2 w : World} {Rs : List Value} (h : OwnInv B L w2 Rs w) {b' : Nat} (i : Nat) {x : Int} (hx : U32 x) {S : List Int} (hA : Arr .u32 37 w b' S) (hB : B ≤ b') : OwnInv B L w2 Rs (w.setCell ⟨b', i, none⟩ (.int .u32 x)) := by
  refine ⟨(Upd.set w b' i _).below h.below h.sz hB, by simpa using h.sz, ?_, h.lB, fun v hv => (h.good v hv).set b' i hx⟩
  rw [heap_setCell_other w ⟨b', i, none⟩ L _ (arr_ne h.rows hA)]; exact h.rows
theorem OwnInv.grew {B L : Nat} {w2 w w' : World} {Rs : List Value} {v : Value} {xs ys : List Int} (h : OwnInv B L w2 Rs w) (hr : Row .u32 37 B w v xs) (hu : U32s ys) (hg : Grew .u32 37 w w' v ys) : OwnInv B L w2 Rs w' := by
  have hb := hg.below hr h.sz
  refine ⟨h.below.trans hb, Nat.le_trans h.sz hb.size, ?_, h.lB, fun u hv => (h.good u hv).grew hu hg⟩
  rcases hg with hg | ⟨b', n', S', rfl, hA', hU, _⟩
  · rw [hg.block L (Array.getElem?_eq_some_iff.1 h.rows).1]; exact h.rows
  · rw [hU.block L (Array.getElem?_eq_some_iff.1 h.rows).1 (by simp [arr_ne h.rows hA'])]; exact h.rows
theorem OwnInv.cell {B L : Nat} {w2 w : World} {Rs : List Value} (h : OwnInv B L w2 Rs w) (i : Nat) (hi : i < Rs.length) : w.cell? ⟨L, i, none⟩ = some (Rs[i]'hi) := by
  rw [cell_of_row w L i _ _ _ h.rows]; simp [hi]
theorem OwnInv.drewN {B L : Nat} {w2 w : World} {Rs : List Value} (h : OwnInv B L w2 Rs w) (n : Nat) : OwnInv B L w2 Rs (w.drewN n) := h.step ⟨rfl, rfl, rfl, Nat.le_refl _, fun _ _ => rfl⟩
theorem good_row {B : Nat} {w : World} {b n : Nat} {S : List Int} (hA : Arr .u32 37 w b S) (hB : B ≤ b) (hn : n ≤ S.length) (hm : S.length ≤ maxLen) : Row .u32 37 B w (.slice (some ⟨b, 0, none⟩) n S.length) (S.take n) := by
  have e : (S.take n).length = n := by simp; omega
  exact .inr ⟨b, S, by rw [e], hB, hA, by omega, by rw [e], hm⟩
theorem Good.some {B : Nat} {w : World} {b n c : Nat} (h : Good B w (.slice (some ⟨b, 0, none⟩) n c)) : ∃ S, c = S.length ∧ B ≤ b ∧ Arr .u32 37 w b S ∧ U32s S ∧ n ≤ S.length ∧ n ≤ 1000 ∧ S.length ≤ maxLen := by
  rcases h with h | ⟨b', n', S, h, h1⟩
  · cases h
  · simp only [Value.slice.injEq, Option.some.injEq, Addr.mk.injEq, and_true] at h
    obtain ⟨rfl, rfl, rfl⟩ := h
    exact ⟨S, rfl, h1⟩
theorem u32_bits (op : BinOp) (x y : Int) : U32 (bits op .u32 x y) := by
  unfold bits; rw [IntKind.wrap_u32']; exact ⟨Int.emod_nonneg _ (by decide), Int.emod_lt_of_pos _ (by decide)⟩
end Go.Proofs.Ythkheocggcmooab
