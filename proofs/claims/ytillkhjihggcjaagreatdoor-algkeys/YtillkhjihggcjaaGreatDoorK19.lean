/-
  Der: the same rows of elements.
-/
import Derived.BigRegion
import Derived.Test.YtillkhjihggcjaaGreatDoorK18
namespace Go.Proofs.YtillkhjihggcjaaGreatDoor
open Go.RowKit
theorem tlvCells_get : ∀ (Y : List Tc) (i q : Nat), q < 5 → (tlvCells Y)[i * 5 + q]? = (Y[i]?).bind fun y => (cell5 y)[q]?
  | [], i, q, _ => by simp [tlvCells]
  | y :: Y, 0, q, hq => by
    have hl : (cell5 y).length = 5 := rfl
    simp only [tlvCells, List.flatMap_cons, Nat.zero_mul, Nat.zero_add, List.getElem?_cons_zero, Option.bind_some]
    rw [List.getElem?_append_left (by omega)]
  | y :: Y, i + 1, q, hq => by
    have hl : (cell5 y).length = 5 := rfl
    have := tlvCells_get Y i q hq
    simp only [tlvCells, List.flatMap_cons, List.getElem?_cons_succ] at this ⊢
    rw [List.getElem?_append_right (by omega), hl, show (i + 1) * 5 + q - 5 = i * 5 + q by omega, this]
/-- A slice that reads elements, with the values by name. -/
def TlvS (w : World) (v : Value) (L : List El) : Prop :=
  ∃ a c Y, v = .slice a L.length c ∧ L.length ≤ c ∧ Y.map (·.1) = L ∧ (L = [] ∨ ∃ b off, a = some ⟨b, off, none⟩ ∧ b < w.heap.size ∧ ∀ i, i < L.length * 5 → w.cell? ⟨b, off + i, none⟩ = (tlvCells Y)[i]?) ∧ ∀ y ∈ Y, Sl .u8 w y.2.1 y.1.d ∧ Sl .u8 w y.2.2 y.1.r
theorem TlvR.s {B : Nat} {w : World} {v : Value} {L : List El} (h : TlvR B w v L) : TlvS w v L := by
  obtain ⟨Y, h1, h2, h3⟩ := h
  have hl : Y.length = L.length := by rw [← h1, List.length_map]
  rw [hl] at h2
  obtain ⟨h0, h2⟩ := h2
  rcases h2 with ⟨rfl, h2⟩ | ⟨b, S, c, rfl, hB, hA, hS, hc, ht, hm⟩
  · have : L = [] := List.eq_nil_of_length_eq_zero h2
    subst this
    exact ⟨none, 0, Y, rfl, Nat.le_refl _, h1, .inl rfl, fun y hy => ⟨(h3 y hy).1.sl, (h3 y hy).2.sl⟩⟩
  · refine ⟨_, _, Y, rfl, hc, h1, .inr ⟨b, 0, rfl, hA.lt, fun i hi => ?_⟩, fun y hy => ⟨(h3 y hy).1.sl, (h3 y hy).2.sl⟩⟩
    rw [Nat.zero_add, hA.cell i, ← ht, List.getElem?_take, if_pos hi]
theorem TlvS.below {w w' : World} {v : Value} {L : List El} (h : TlvS w v L) (hb : Below w.heap.size w w') : TlvS w' v L := by
  obtain ⟨a, c, Y, rfl, h1, h2, h3, h4⟩ := h
  refine ⟨a, c, Y, rfl, h1, h2, ?_, fun y hy => ⟨below_sl hb (h4 y hy).1, below_sl hb (h4 y hy).2⟩⟩
  rcases h3 with h3 | ⟨b, off, rfl, hbl, hr⟩
  · exact .inl h3
  · exact .inr ⟨b, off, rfl, Nat.lt_of_lt_of_le hbl hb.size, fun i hi => (hb.cell (p := ⟨b, off + i, none⟩) hbl).trans (hr i hi)⟩
/-- The five cells of element i. -/
theorem cells_at {w : World} {b off : Nat} {Y : List Tc} {n i : Nat} (hr : ∀ i, i < n * 5 → w.cell? ⟨b, off + i, none⟩ = (tlvCells Y)[i]?) (hi : i < n) (y : Tc) (hy : Y[i]? = some y) (q : Nat) (hq : q < 5) (u : Value) (hu : (cell5 y)[q]? = some u) :
    w.cell? ⟨b, off + i * 5 + q, none⟩ = some u := by
  have h := hr (i * 5 + q) (by omega)
  rw [tlvCells_get Y i q hq, hy, Option.bind_some, hu] at h
  rw [← h]; congr 2; omega
end Go.Proofs.YtillkhjihggcjaaGreatDoor
/-
  Der: the law DerSplits.
-/
namespace Go.Proofs.YtillkhjihggcjaaGreatDoor
open Go.RowKit
def spE : Sp → Int
  | .inl (e, _) => e
  | .inr _ => 0
def spA (n : Nat) : Sp → Nat
  | .inl (_, a) => a
  | .inr _ => n
def spL : Sp → List El
  | .inl (_, _) => []
  | .inr L => L
theorem SplitAns.uni {M : List Int} {B : Nat} {w : World} {e : Ending} (h : SplitAns M B w e) : ∃ v, e = .returned (.tuple #[v, .int .i64 (spE (splitS M)), .int .i64 (spA M.length (splitS M))]) ∧ Tlvs B w v (spL (splitS M)) := by
  unfold SplitAns at h
  cases hS : splitS M with
  | inl pq => obtain ⟨er, a⟩ := pq; rw [hS] at h; exact ⟨_, h, Tlvs.nil _ _⟩
  | inr L => rw [hS] at h; exact h
theorem SplitOutR.uni {n : Nat} {S : Sp} {B : Nat} {w : World} {e : Ending} (h : SplitOutR n B w e S) : ∃ v, e = .returned (.tuple #[v, .int .i64 (spE S), .int .i64 (spA n S)]) ∧ TlvR B w v (spL S) := by
  cases S with
  | inl pq => obtain ⟨er, a⟩ := pq; exact ⟨_, h, TlvR.nil _ _⟩
  | inr L => exact h
theorem spl_small {M : List Int} (hM : U8s M) : ∀ f p L, M.length - p = f → L.length ≤ 65536 → (∀ y ∈ L, y.d.length ≤ M.length ∧ y.r.length ≤ M.length) → ∀ L', spl M p L = .inr L' → L'.length ≤ 65536 ∧ ∀ y ∈ L', y.d.length ≤ M.length ∧ y.r.length ≤ M.length := by
  intro f
  induction f using Nat.strongRecOn with
  | _ f ih =>
    intro p L hf hL hy L' h
    by_cases hp : p < M.length
    · by_cases hL2 : L.length < 65536
      · cases hE : elemS M p with
        | inl pq => obtain ⟨e', a'⟩ := pq; rw [spl_bad hp hL2 hE] at h; cases h
        | inr pq =>
          obtain ⟨t, j, E⟩ := pq
          have := elemS_ok hM hp hE
          rw [spl_ok hM hp hL2 hE] at h
          refine ih (M.length - E) (by omega) E _ rfl (by rw [List.length_append]; exact hL2) ?_ L' h
          intro y hy'
          rcases List.mem_append.1 hy' with hy' | hy'
          · exact hy y hy'
          · rw [List.mem_singleton] at hy'
            subst hy'
            refine ⟨?_, ?_⟩
            · show ((M.drop j).take (E - j)).length ≤ _; rw [List.length_take, List.length_drop]; omega
            · show ((M.drop p).take (E - p)).length ≤ _; rw [List.length_take, List.length_drop]; omega
      · rw [spl_many hp (by omega)] at h; cases h
    · rw [spl_end (by omega)] at h; cases h; exact ⟨hL, hy⟩
theorem splitS_small {M : List Int} (hM : U8s M) : (spL (splitS M)).length ≤ 65536 ∧ ∀ y ∈ spL (splitS M), y.d.length ≤ M.length ∧ y.r.length ≤ M.length := by
  cases hS : splitS M with
  | inl pq => obtain ⟨e, a⟩ := pq; exact ⟨by simp [spL], by simp [spL]⟩
  | inr L =>
    unfold splitS at hS
    split at hS
    · cases hS
    · exact spl_small hM _ 0 [] rfl (by simp) (by simp) L hS
end Go.Proofs.YtillkhjihggcjaaGreatDoor
