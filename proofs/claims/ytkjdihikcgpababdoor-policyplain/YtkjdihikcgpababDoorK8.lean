/-
  An append of elements of m cells: which block it answers with; a row stays where another row of the same type is written.
-/
import Derived.Test.YtkjdihikcgpababDoorK7
namespace Go.Proofs.YtkjdihikcgpababDoor
open Go.RowKit
def blkOf : Value → Option Nat
  | .slice (some a) _ _ => some a.block
  | _ => none
theorem run_apmK {P : Program} (w : World) (t tx ty e : TypeId) (i : TypeInfo) (m : Nat) (z : Value) (ht : P.underlying t = some (.slice e)) (hi : P.info? e = some i) (hz : i.zero = some z) (hsize : i.size = m) (hzs : z.cells.size = m) (hby : 0 < i.bytes)
    {B : Nat} {v : Value} {n : Nat} {xs : List Value} (hr : MRow m e B w v n xs) {x : Value} {k : Nat} {ys : List Value} (hs : Src P m tx x k ys w)
    (hb : (n + k) * i.bytes ≤ 140737488355328) (hB : B ≤ w.heap.size) :
    ∃ v' w', (Builtin.append_ #[t, tx] ty #[v, x]).run P w = .ok v' w' ∧ MRow m e B w' v' (n + k) (xs ++ ys) ∧ MGrew e w w' v ∧ (blkOf v' = blkOf v ∨ blkOf v' = some w.heap.size) := by
  have hle : n + k ≤ 140737488355328 := Nat.le_trans (Nat.le_mul_of_pos_right _ hby) hb
  have hs1 : Src P i.size tx x k ys w := by rw [hsize]; exact hs
  obtain ⟨hxl, hr⟩ := hr
  have hxy : (xs ++ ys).length = (n + k) * m := by rw [List.length_append, hxl, hs.newsLen, Nat.add_mul]
  have grown : ∀ (base : Option Addr) (old : Nat), old < n + k → (Builtin.firstCells i.size n (.slice base n old)).run P w.drew = .ok xs.toArray w.drew →
      ∃ v' w', (Builtin.append_ #[t, tx] ty #[.slice base n old, x]).run P w = .ok v' w' ∧ MRow m e B w' v' (n + k) (xs ++ ys) ∧ MGrew e w w' (.slice base n old) ∧ (blkOf v' = blkOf (.slice base n old) ∨ blkOf v' = some w.heap.size) := by
    intro base old ho hold
    have h1 := run_append_grow_src (P := P) w t tx ty e i z ht hi hz base n old _ hold x k _ hs1 ho (by omega) (growslice_fits (by omega) hb)
    refine ⟨_, _, h1, ⟨hxy, ?_⟩, .inl ((Below.refl _ _).drew.alloc (Nat.le_refl _) _), .inr rfl⟩
    have hge := grownCap_ge w (n + k) old e
    have hcm : grownCap w (n + k) old e ≤ maxLen := grownCap_le_maxLen w _ old e (by unfold maxLen; omega)
    refine .inr ⟨w.heap.size, xs ++ ys ++ (Builtin.zeroCells z.cells (grownCap w (n + k) old e - (n + k))).toList, grownCap w (n + k) old e, rfl, hB, ?_, ?_, hge, ?_, hcm⟩
    · unfold Blk
      have := heap_alloc_new w.drew (.cells ((xs ++ ys).toArray ++ Builtin.zeroCells z.cells (grownCap w (n + k) old e - (n + k))) e)
      rw [show (w.drew.heap.size) = w.heap.size from rfl] at this
      rw [this]; simp
    · rw [List.length_append, hxy]
      simp only [Builtin.zeroCells, Array.length_toList, Array.size_map, Array.size_range, hzs]
      rw [← Nat.add_mul]; congr 1; omega
    · exact List.take_left' hxy
  rcases hr with ⟨rfl, rfl⟩ | ⟨b, S, c, rfl, hBb, hA, hSl, hl, htk, hm⟩
  · have hx0 : xs = [] := List.eq_nil_of_length_eq_zero (by simpa using hxl)
    subst hx0
    by_cases h0 : k = 0
    · subst h0
      have hy : ys = [] := List.eq_nil_of_length_eq_zero (by simpa using hs.newsLen)
      subst hy
      refine ⟨.slice none 0 0, w, ?_, ⟨by simp, .inl ⟨rfl, rfl⟩⟩, .inl (Below.refl _ _), .inl rfl⟩
      have h1 := hs1.cells
      have h2 := hs1.len
      rcases hs1.kind with ⟨e', hk⟩ | hk
      · simp [Builtin.append_, run_underlying ht, run_underlying hk, sizeOf, typeInfo, hi, h2, h1]
      · simp [Builtin.append_, run_underlying ht, run_underlying hk, sizeOf, typeInfo, hi, h2, h1]
    · exact grown none 0 (by omega) (run_firstCells_none w.drew i.size 0 0 0)
  · by_cases hroom : n + k ≤ c
    · have hkm : n * m + k * m ≤ c * m := by rw [← Nat.add_mul]; exact Nat.mul_le_mul_right _ hroom
      have hst := run_storeCells_at P b (n * i.size) e ys 0 _ w hA (by rw [hsize, hs.newsLen, List.size_toArray, hSl]; omega) hs1.one
      simp only [Nat.add_zero] at hst
      have hrun : (Builtin.append_ #[t, tx] ty #[.slice (some ⟨b, 0, none⟩) n c, x]).run P w = .ok (.slice (some ⟨b, 0, none⟩) (n + k) c) (w.setRow b ((S.toArray.toList.take (n * i.size)) ++ ys ++ (S.toArray.toList.drop (n * i.size + ys.length))).toArray) := by
        rcases hs1.kind with ⟨e', hk⟩ | hk <;> simp [Builtin.append_, run_underlying ht, run_underlying hk, sizeOf, typeInfo, hi, hs1.len, hroom, hs1.cells, Addr.add_lit, hst]
      have hA' : Blk e (w.setRow b ((S.toArray.toList.take (n * i.size)) ++ ys ++ (S.toArray.toList.drop (n * i.size + ys.length))).toArray) b (S.take (n * m) ++ ys ++ S.drop (n * m + k * m)) := by
        unfold Blk
        rw [setRow_heap w b _ _ e _ hA]
        simp [hsize, hs.newsLen]
      refine ⟨_, _, hrun, ⟨hxy, .inr ⟨b, _, c, rfl, hBb, hA', ?_, hroom, ?_, hm⟩⟩, .inr ⟨b, n, c, S, rfl, hA, ⟨rfl, rfl, rfl, by simp [World.setRow], fun j _ hj => setRow_other w b j _ (fun e => hj (by simp [e]))⟩⟩, .inl rfl⟩
      · rw [List.length_append, htk, hxy, List.length_drop, hSl, Nat.add_mul]; omega
      · rw [htk]; exact List.take_left' hxy
    · refine grown (some ⟨b, 0, none⟩) c (by omega) (run_firstCells_some w.drew i.size n ⟨b, 0, none⟩ n c _ (by rw [hsize]; exact hxl) (fun j u hj => ?_))
      have hj' : j < xs.length := (List.getElem?_eq_some_iff.1 hj).1
      have hadd : (⟨b, 0, none⟩ : Addr).add j = ⟨b, j, none⟩ := by simp [Addr.add] <;> omega
      have e1 : (w.drew).cell? ⟨b, j, none⟩ = w.cell? ⟨b, j, none⟩ := rfl
      rw [hadd, e1, hA.cell j, ← hj, ← htk, List.getElem?_take, if_pos (by omega)]

theorem wpList_apmK {P : Program} {w : World} {ops : Array Oper} {rest : List Oper} {o : Oper} {a : Act} {Q : Exit → Act → World → Prop} (hgd : o.guard = none) (s x : Operand) (t tx : TypeId)
    (ho : o.op = .call { callee := .builtin .append, args := #[s, x], argTypes := #[t, tx] }) (m : Nat) (z : Value) (hzs : z.cells.size = m) (e : TypeId) (bytes : Nat) (ht : P.underlying t = some (.slice e))
    (hi : (P.info? e).map (fun i => (i.zero, i.size, i.bytes)) = some (some z, m, bytes)) (hby : 0 < bytes)
    (B : Nat) (v : Value) (n : Nat) (xs : List Value) (hs : a.eval s = v) (hr : MRow m e B w v n xs) (u : Value) (k : Nat) (ys : List Value) (hx : a.eval x = u) (hy : Src P m tx u k ys w)
    (hb : (n + k) * bytes ≤ 140737488355328) (hB : B ≤ w.heap.size)
    (h : ∀ v' w', MRow m e B w' v' (n + k) (xs ++ ys) → MGrew e w w' v → (blkOf v' = blkOf v ∨ blkOf v' = some w.heap.size) → wpList P ops Q rest (a.put o.dst v') w') : wpList P ops Q (o :: rest) a w := by
  obtain ⟨i0, hi0, hz0, hz1, hz2⟩ := info_parts hi
  refine wpList_plain hgd fun K hK => ?_
  obtain ⟨v', w', hrun, h2, h3, h4⟩ := run_apmK (P := P) w t tx o.type e i0 m z ht hi0 hz0 hz1 hzs (by omega) hr hy (by rw [hz2]; exact hb) hB
  unfold Oper.wp execOp
  simp only [ho, resolve, invoke, builtin, Sem.run_bind, Sem.run_pure, Result.andThen_ok, List.map_toArray, List.map_cons, List.map_nil, hs, hx, hrun]
  exact hK _ _ (h v' w' h2 h3 h4)
/-- Two rows that lie in blocks of their own. -/
def Off (u v : Value) : Prop := ∀ b, blkOf u = some b → blkOf v ≠ some b
theorem MRow.blk_lt {m : Nat} {e : TypeId} {B : Nat} {w : World} {v : Value} {n : Nat} {xs : List Value} (h : MRow m e B w v n xs) {b : Nat} (hb : blkOf v = some b) : b < w.heap.size := by
  obtain ⟨_, ⟨rfl, _⟩ | ⟨b', S, c, rfl, h1, hA, _⟩⟩ := h
  · simp [blkOf] at hb
  · simp only [blkOf, Option.some.injEq] at hb; subst hb; exact hA.lt
theorem MRow.off {m : Nat} {e e' : TypeId} {B : Nat} {w w' : World} {v u : Value} {n : Nat} {xs : List Value} (h : MRow m e B w v n xs) (hG : MGrew e' w w' u) (ho : Off u v) : MRow m e B w' v n xs := by
  rcases hG with hG | ⟨b, n', c', S', rfl, _, hU⟩
  · exact h.below hG
  · obtain ⟨h0, h⟩ := h
    refine ⟨h0, ?_⟩
    rcases h with h | ⟨b2, S, c, rfl, h1, hA, h2⟩
    · exact .inl h
    · exact .inr ⟨b2, S, c, rfl, h1, hU.blk hA (fun e2 => ho b rfl (by subst e2; rfl)), h2⟩
theorem Off.grow {m : Nat} {e : TypeId} {B : Nat} {w : World} {u v v' : Value} {n : Nat} {xs : List Value} (h : Off u v) (hu : MRow m e B w u n xs) (hk : blkOf v' = blkOf v ∨ blkOf v' = some w.heap.size) : Off u v' := fun b hb hb' => by
  rcases hk with hk | hk
  · exact h b hb (by rw [← hk]; exact hb')
  · rw [hk] at hb'
    have := hu.blk_lt hb
    simp only [Option.some.injEq] at hb'
    omega
theorem Off.symm {u v : Value} (h : Off u v) : Off v u := fun b hb hb' => h b hb' hb
end Go.Proofs.YtkjdihikcgpababDoor
