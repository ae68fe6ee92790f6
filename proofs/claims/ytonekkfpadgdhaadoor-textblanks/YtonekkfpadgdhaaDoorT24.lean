/-
  Text: TextBlanks.
-/
import Derived.Test.YtonekkfpadgdhaaDoorT23
namespace Go.Proofs.YtonekkfpadgdhaaDoor
open Go.RowKit
/-- append onto a slice that has no room: a new row. -/
theorem run_ap_full {P : Program} (w : World) (t tx ty e : TypeId) (i : TypeInfo) (k : IntKind) (ht : P.underlying t = some (.slice e)) (hi : P.info? e = some i) (hz : i.zero = some (.int k 0)) (hsize : i.size = 1) (hby : 0 < i.bytes)
    {B b off : Nat} {xs : List Int} (hr : Rd k w b off xs) {x : Value} {ys : List Int} (hs : Src P 1 tx x ys.length (ys.map (Value.int k)) w) (hne : ys ≠ [])
    (hb : (xs.length + ys.length) * i.bytes ≤ 140737488355328) (hB : B ≤ w.heap.size) :
    ∃ v' w', (Builtin.append_ #[t, tx] ty #[.slice (some ⟨b, off, none⟩) xs.length xs.length, x]).run P w = .ok v' w' ∧ Row k e B w' v' (xs ++ ys) ∧ Below w.heap.size w w' := by
  have hle : xs.length + ys.length ≤ 140737488355328 := Nat.le_trans (Nat.le_mul_of_pos_right _ hby) hb
  have hs1 : Src P i.size tx x ys.length (ys.map (Value.int k)) w := by rw [hsize]; exact hs
  have hy0 : 0 < ys.length := List.length_pos_iff.2 hne
  have hold : (Builtin.firstCells i.size xs.length (.slice (some ⟨b, off, none⟩) xs.length xs.length)).run P w.drew = .ok (xs.map (Value.int k)).toArray w.drew := by
    refine run_firstCells_some w.drew i.size xs.length ⟨b, off, none⟩ xs.length xs.length _ (by simp [hsize]) (fun j u hj => ?_)
    have hj' : j < xs.length := by have := (List.getElem?_eq_some_iff.1 hj).1; simpa using this
    have hadd : (⟨b, off, none⟩ : Addr).add j = ⟨b, off + j, none⟩ := by simp [Addr.add]
    have e1 : (w.drew).cell? ⟨b, off + j, none⟩ = w.cell? ⟨b, off + j, none⟩ := rfl
    rw [hadd, e1, hr j hj', ← hj]
    simp [hj']
  have h1 := run_append_grow_src (P := P) w t tx ty e i (.int k 0) ht hi hz (some ⟨b, off, none⟩) xs.length xs.length _ hold x ys.length _ hs1 (by omega) (by omega) (growslice_fits (by omega) hb)
  refine ⟨_, _, h1, ?_, (Below.refl _ _).drew.alloc (Nat.le_refl _) _⟩
  have hge := grownCap_ge w (xs.length + ys.length) xs.length e
  have hcm : grownCap w (xs.length + ys.length) xs.length e ≤ maxLen := grownCap_le_maxLen w _ xs.length e (by unfold maxLen; omega)
  obtain ⟨C, hC⟩ : ∃ C, grownCap w (xs.length + ys.length) xs.length e = xs.length + ys.length + C := ⟨_, (Nat.add_sub_of_le hge).symm⟩
  rw [hC] at hcm ⊢
  have hzc : Builtin.zeroCells (Value.cells (.int k 0)) C = (List.replicate C (.int k 0)).toArray := by
    apply Array.ext'
    simp only [Builtin.zeroCells, Value.cells]
    simp
    rw [List.eq_replicate_iff]
    exact ⟨by simp, fun y hy => by obtain ⟨j, _, rfl⟩ := List.mem_map.1 hy; simp [Nat.mod_one]⟩
  refine .inr ⟨w.heap.size, xs ++ ys ++ List.replicate C 0, ?_, hB, ?_, by simp, List.take_left, by simp; omega⟩
  · simp; omega
  · unfold Arr
    rw [show xs.length + ys.length + C - (xs.length + ys.length) = C by omega, hzc]
    have := heap_alloc_new w.drew (.cells ((xs.map (Value.int k) ++ ys.map (Value.int k)).toArray ++ (List.replicate C (Value.int k 0)).toArray) e)
    simp only [List.map_append, List.map_replicate]
    rw [show (w.drew.heap.size) = w.heap.size from rfl] at this
    rw [this]; simp
theorem wpList_full {P : Program} {w : World} {ops : Array Oper} {rest : List Oper} {o : Oper} {a : Act} {Q : Exit → Act → World → Prop} (hgd : o.guard = none) (s x : Operand) (t tx : TypeId)
    (ho : o.op = .call { callee := .builtin .append, args := #[s, x], argTypes := #[t, tx] }) (k : IntKind) (e : TypeId) (bytes : Nat) (ht : P.underlying t = some (.slice e))
    (hi : (P.info? e).map (fun i => (i.zero, i.size, i.bytes)) = some (some (.int k 0), 1, bytes)) (hby : 0 < bytes)
    (B b off n : Nat) (xs : List Int) (hn : xs.length = n) (hs : a.eval s = .slice (some ⟨b, off, none⟩) n n) (hr : Rd k w b off xs) (u : Value) (ys : List Int) (hx : a.eval x = u) (hy : Src P 1 tx u ys.length (ys.map (Value.int k)) w) (hne : ys ≠ [])
    (hb : (xs.length + ys.length) * bytes ≤ 140737488355328) (hB : B ≤ w.heap.size)
    (h : ∀ v' w', Row k e B w' v' (xs ++ ys) → Below w.heap.size w w' → wpList P ops Q rest (a.put o.dst v') w') : wpList P ops Q (o :: rest) a w := by
  subst hn
  obtain ⟨i0, hi0, hz0, hz1, hz2⟩ := info_parts hi
  refine wpList_plain hgd fun K hK => ?_
  obtain ⟨v', w', hrun, h2, h3⟩ := run_ap_full (P := P) (B := B) w t tx o.type e i0 k ht hi0 hz0 hz1 (by omega) hr hy hne (by rw [hz2]; exact hb) hB
  unfold Oper.wp execOp
  simp only [ho, resolve, invoke, builtin, Sem.run_bind, Sem.run_pure, Result.andThen_ok, List.map_toArray, List.map_cons, List.map_nil, hs, hx, hrun]
  exact hK _ _ (h v' w' h2 h3)
/-- append of nothing onto a slice that has no room: the slice as it is. -/
theorem wpList_none {P : Program} {w : World} {ops : Array Oper} {rest : List Oper} {o : Oper} {a : Act} {Q : Exit → Act → World → Prop} (hgd : o.guard = none) (s x : Operand) (t tx : TypeId)
    (ho : o.op = .call { callee := .builtin .append, args := #[s, x], argTypes := #[t, tx] }) (k : IntKind) (e : TypeId) (bytes : Nat) (ht : P.underlying t = some (.slice e))
    (hi : (P.info? e).map (fun i => (i.zero, i.size, i.bytes)) = some (some (.int k 0), 1, bytes))
    (b off n : Nat) (hs : a.eval s = .slice (some ⟨b, off, none⟩) n n) (u : Value) (hx : a.eval x = u) (hy : Src P 1 tx u 0 [] w)
    (h : wpList P ops Q rest (a.put o.dst (.slice (some ⟨b, off, none⟩) n n)) w) : wpList P ops Q (o :: rest) a w := by
  obtain ⟨i0, hi0, hz0, hz1, hz2⟩ := info_parts hi
  refine wpList_plain hgd fun K hK => ?_
  have hs1 : Src P i0.size tx u 0 [] w := by rw [hz1]; exact hy
  have hrun : (Builtin.append_ #[t, tx] o.type #[.slice (some ⟨b, off, none⟩) n n, u]).run P w = .ok (.slice (some ⟨b, off, none⟩) n n) w := by
    rcases hs1.kind with ⟨e', hk⟩ | hk <;> simp [Builtin.append_, run_underlying ht, run_underlying hk, sizeOf, typeInfo, hi0, hs1.len, hs1.cells, storeCells]
  unfold Oper.wp execOp
  simp only [ho, resolve, invoke, builtin, Sem.run_bind, Sem.run_pure, Result.andThen_ok, List.map_toArray, List.map_cons, List.map_nil, hs, hx, hrun]
  exact hK _ _ h
end Go.Proofs.YtonekkfpadgdhaaDoor
