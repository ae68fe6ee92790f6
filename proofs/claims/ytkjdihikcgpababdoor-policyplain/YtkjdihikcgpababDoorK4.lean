/-
  make in the words of Base, for seats without package nat.
-/
import Derived.Laws.MakeOwn
import Derived.Test.YtkjdihikcgpababDoorK3
namespace Go.Proofs.YtkjdihikcgpababDoor
open Go.RowKit
theorem toArray_of_toList {α : Type} {a : Array α} {l : List α} (h : a.toList = l) : a = l.toArray := by subst h; simp

/-- 'make([]T, n)': n noughts in a block of their own. -/
theorem wpList_mk {P : Program} (w : World) {ops : Array Oper} {rest : List Oper} {o : Oper} {a : Act} {Q : Exit → Act → World → Prop} (hg : o.guard = none) (l c : Operand) (t : TypeId) (hop : o.op = .makeSlice t l c)
    (k : IntKind) (e : TypeId) (bytes : Nat) (ht : P.underlying t = some (.slice e)) (hi : (P.info? e).map (fun i => (i.zero, i.size, i.bytes)) = some (some (.int k 0), 1, bytes))
    (L : Int) (n : Nat) (hl : a.eval l = .int .i64 L) (hc : a.eval c = .int .i64 L) (hL : L = n) (hb : bytes * n ≤ 281474976710656) (hm : n ≤ 1152921504606846976)
    (hK : ∀ w', Arr k e w' w.heap.size (List.replicate n 0) → Below w.heap.size w w' → wpList P ops Q rest (a.put o.dst (.slice (some ⟨w.heap.size, 0, none⟩) n n)) w') :
    wpList P ops Q (o :: rest) a w := by
  obtain ⟨i0, hi0, hz0, hz1, hz2⟩ := info_parts hi
  refine wpList_make_full w hg l c t hop w.heap.size e i0 (.int k 0) 1 ht hi0 hz0 hz1 .i64 .i64 L L n hl hc hL hL (by rw [hz2]; exact hb) (by unfold maxLen; omega) (Nat.le_refl _) ?_
  intro w' hown hgr
  refine hK w' ?_ ((Below.refl _ _).grown hgr (Nat.le_refl _) (fun k hk => by cases hk))
  obtain ⟨_, h⟩ := hown
  rcases h with ⟨h, _⟩ | ⟨g, cap, cur, hv, _, hg, _, _, hs, htk⟩
  · cases h
  · simp only [Value.slice.injEq, Option.some.injEq, Addr.mk.injEq, and_true, true_and] at hv
    obtain ⟨rfl, rfl⟩ := hv
    unfold Arr
    rw [hg]
    have e1 : cur.toList = List.replicate n (.int k 0) := by
      rw [List.take_of_length_le (by simp; omega)] at htk
      rw [htk, Nat.mul_one]; exact toList_madeCells_one (.int k 0) n
    rw [toArray_of_toList e1]; simp

end Go.Proofs.YtkjdihikcgpababDoor
