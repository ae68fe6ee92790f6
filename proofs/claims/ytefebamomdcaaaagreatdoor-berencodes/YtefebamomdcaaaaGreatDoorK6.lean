/-
  append of one-cell values that are no numbers (slices onto a slice of slices), in the words of Blk.
-/
import Derived.Test.YtefebamomdcaaaaGreatDoorK5
namespace Go.Proofs.YtefebamomdcaaaaGreatDoor
open Go.RowKit

/-- A slice of the call's own whose elements are values of one cell: memory from block B on, the head of a whole block, or nil. -/
def VRow (e : TypeId) (B : Nat) (w : World) (v : Value) (xs : List Value) : Prop :=
  (v = .slice none 0 0 ∧ xs = []) ∨ ∃ b S, v = .slice (some ⟨b, 0, none⟩) xs.length S.length ∧ B ≤ b ∧ Blk e w b S ∧ xs.length ≤ S.length ∧ S.take xs.length = xs ∧ S.length ≤ maxLen
/-- What an append has done. -/
def VGrew (e : TypeId) (w w' : World) (v : Value) (ys : List Value) : Prop :=
  Below w.heap.size w w' ∨ ∃ b n S, v = .slice (some ⟨b, 0, none⟩) n S.length ∧ Blk e w b S ∧ Upd w w' b ∧ n + ys.length ≤ S.length ∧ Blk e w' b (S.take n ++ ys ++ S.drop (n + ys.length))
theorem VRow.nil (e : TypeId) (B : Nat) (w : World) : VRow e B w (.slice none 0 0) [] := .inl ⟨rfl, rfl⟩
theorem VRow.below {e : TypeId} {B : Nat} {w w' : World} {v : Value} {xs : List Value} (h : VRow e B w v xs) (hb : Below w.heap.size w w') : VRow e B w' v xs := by
  rcases h with h | ⟨b, S, rfl, h1, hA, h2⟩
  · exact .inl h
  · exact .inr ⟨b, S, rfl, h1, below_blk hb hA.lt hA, h2⟩
theorem VRow.mono {e : TypeId} {B B' : Nat} {w : World} {v : Value} {xs : List Value} (h : VRow e B w v xs) (hb : B' ≤ B) : VRow e B' w v xs := by
  rcases h with h | ⟨b, S, rfl, h1, h2⟩
  · exact .inl h
  · exact .inr ⟨b, S, rfl, by omega, h2⟩
theorem VRow.ne {e : TypeId} {B : Nat} {w : World} {v : Value} {xs : List Value} (h : VRow e B w v xs) : ∃ a c, v = .slice a xs.length c := by
  rcases h with ⟨rfl, rfl⟩ | ⟨b, S, rfl, _⟩
  · exact ⟨_, _, rfl⟩
  · exact ⟨_, _, rfl⟩
theorem VRow.alloc {e : TypeId} {B : Nat} {w : World} {v : Value} {xs : List Value} (h : VRow e B w v xs) (o : Obj) : VRow e B (w.alloc o) v xs :=
  h.below ((Below.refl _ _).alloc (Nat.le_refl _) o)
theorem VGrew.below {e : TypeId} {B : Nat} {w w' : World} {v : Value} {xs ys : List Value} (h : VGrew e w w' v ys) (hr : VRow e B w v xs) (hB : B ≤ w.heap.size) : Below B w w' := by
  rcases h with h | ⟨b, n, S, rfl, _, hU, _⟩
  · exact h.mono hB
  · rcases hr with ⟨h, _⟩ | ⟨b', S', h, hb, _⟩
    · cases h
    · simp only [Value.slice.injEq, Option.some.injEq, Addr.mk.injEq, and_true] at h
      obtain ⟨rfl, _, _⟩ := h
      exact hU.below (Below.refl _ _) hB hb
theorem run_apv {P : Program} (w : World) (t tx ty e : TypeId) (i : TypeInfo) (z : Value) (hzc : Value.cells z = #[z]) (ht : P.underlying t = some (.slice e)) (hi : P.info? e = some i) (hz : i.zero = some z) (hsize : i.size = 1) (hby : 0 < i.bytes)
    {B : Nat} {v : Value} {xs : List Value} (hr : VRow e B w v xs) {x : Value} {ys : List Value} (hs : Src P 1 tx x ys.length ys w)
    (hb : (xs.length + ys.length) * i.bytes ≤ 140737488355328) (hB : B ≤ w.heap.size) :
    ∃ v' w', (Builtin.append_ #[t, tx] ty #[v, x]).run P w = .ok v' w' ∧ VRow e B w' v' (xs ++ ys) ∧ VGrew e w w' v ys := by
  have hle : xs.length + ys.length ≤ 140737488355328 := Nat.le_trans (Nat.le_mul_of_pos_right _ hby) hb
  have hs1 : Src P i.size tx x ys.length ys w := by rw [hsize]; exact hs
  have grown : ∀ (base : Option Addr) (old : Nat), old < xs.length + ys.length → (Builtin.firstCells i.size xs.length (.slice base xs.length old)).run P w.drew = .ok xs.toArray w.drew →
      ∃ v' w', (Builtin.append_ #[t, tx] ty #[.slice base xs.length old, x]).run P w = .ok v' w' ∧ VRow e B w' v' (xs ++ ys) ∧ VGrew e w w' (.slice base xs.length old) ys := by
    intro base old ho hold
    have h1 := run_append_grow_src (P := P) w t tx ty e i z ht hi hz base xs.length old _ hold x ys.length _ hs1 ho (by omega) (growslice_fits (by omega) hb)
    refine ⟨_, _, h1, ?_, .inl ((Below.refl _ _).drew.alloc (Nat.le_refl _) _)⟩
    have hge := grownCap_ge w (xs.length + ys.length) old e
    have hcm : grownCap w (xs.length + ys.length) old e ≤ maxLen := grownCap_le_maxLen w _ old e (by unfold maxLen; omega)
    obtain ⟨C, hC⟩ : ∃ C, grownCap w (xs.length + ys.length) old e = xs.length + ys.length + C := ⟨_, (Nat.add_sub_of_le hge).symm⟩
    rw [hC] at hcm ⊢
    have hzc : Builtin.zeroCells (Value.cells z) C = (List.replicate C z).toArray := by
      apply Array.ext'
      simp only [Builtin.zeroCells, hzc]
      simp
      rw [List.eq_replicate_iff]
      exact ⟨by simp, fun y hy => by obtain ⟨j, _, rfl⟩ := List.mem_map.1 hy; simp [Nat.mod_one]⟩
    refine .inr ⟨w.heap.size, xs ++ ys ++ List.replicate C z, ?_, hB, ?_, by simp, List.take_left, by simp; omega⟩
    · simp; omega
    · unfold Blk
      rw [show xs.length + ys.length + C - (xs.length + ys.length) = C by omega, hzc]
      have := heap_alloc_new w.drew (.cells ((xs ++ ys).toArray ++ (List.replicate C z).toArray) e)
      rw [show (w.drew.heap.size) = w.heap.size from rfl] at this
      rw [this]; simp
  rcases hr with ⟨rfl, rfl⟩ | ⟨b, S, rfl, hBb, hA, hl, htk, hm⟩
  · by_cases h0 : ys.length = 0
    · have hy : ys = [] := List.eq_nil_of_length_eq_zero h0
      subst hy
      refine ⟨.slice none 0 0, w, ?_, .inl ⟨rfl, rfl⟩, .inl (Below.refl _ _)⟩
      have h1 := hs1.cells
      have h2 := hs1.len
      simp only [List.length_nil] at h1 h2
      rcases hs1.kind with ⟨e', hk⟩ | hk
      · simp [Builtin.append_, run_underlying ht, run_underlying hk, sizeOf, typeInfo, hi, h2, h1]
      · simp [Builtin.append_, run_underlying ht, run_underlying hk, sizeOf, typeInfo, hi, h2, h1]
    · exact grown none 0 (by simp; omega) (run_firstCells_none w.drew i.size 0 0 0)
  · by_cases hroom : xs.length + ys.length ≤ S.length
    · have hst := run_storeCells_at P b (xs.length * i.size) e ys 0 _ w hA (by simp [hsize]; omega) hs1.one
      simp only [Nat.add_zero] at hst
      have hrun : (Builtin.append_ #[t, tx] ty #[.slice (some ⟨b, 0, none⟩) xs.length S.length, x]).run P w = .ok (.slice (some ⟨b, 0, none⟩) (xs.length + ys.length) S.length) (w.setRow b ((S.toArray.toList.take (xs.length * i.size)) ++ ys ++ (S.toArray.toList.drop (xs.length * i.size + ys.length))).toArray) := by
        rcases hs1.kind with ⟨e', hk⟩ | hk <;> simp [Builtin.append_, run_underlying ht, run_underlying hk, sizeOf, typeInfo, hi, hs1.len, hroom, hs1.cells, Addr.add_lit, hst]
      have hA' : Blk e (w.setRow b ((S.toArray.toList.take (xs.length * i.size)) ++ ys ++ (S.toArray.toList.drop (xs.length * i.size + ys.length))).toArray) b (S.take xs.length ++ ys ++ S.drop (xs.length + ys.length)) := by
        unfold Blk
        rw [setRow_heap w b _ _ e _ hA]
        simp [hsize]
      have hlen : (S.take xs.length ++ ys ++ S.drop (xs.length + ys.length)).length = S.length := by simp; omega
      refine ⟨_, _, hrun, .inr ⟨b, _, ?_, hBb, hA', ?_, ?_, ?_⟩, .inr ⟨b, xs.length, S, rfl, hA, ⟨rfl, rfl, rfl, by simp [World.setRow], fun j _ hj => setRow_other w b j _ (fun e => hj (by simp [e]))⟩, hroom, hA'⟩⟩
      · rw [hlen]; simp
      · rw [hlen]; simp; omega
      · rw [htk]; exact List.take_left
      · rw [hlen]; exact hm
    · refine grown (some ⟨b, 0, none⟩) S.length (by omega) (run_firstCells_some w.drew i.size xs.length ⟨b, 0, none⟩ xs.length S.length _ (by simp [hsize]) (fun j u hj => ?_))
      have hj' : j < xs.length := by have := (List.getElem?_eq_some_iff.1 hj).1; simpa using this
      have hadd : (⟨b, 0, none⟩ : Addr).add j = ⟨b, j, none⟩ := by simp [Addr.add]; try omega
      have e1 : (w.drew).cell? ⟨b, j, none⟩ = w.cell? ⟨b, j, none⟩ := rfl
      rw [hadd, e1, hA.cell j, ← hj, ← htk, List.getElem?_take, if_pos hj']

theorem wpList_apv {P : Program} {w : World} {ops : Array Oper} {rest : List Oper} {o : Oper} {a : Act} {Q : Exit → Act → World → Prop} (hgd : o.guard = none) (s x : Operand) (t tx : TypeId)
    (ho : o.op = .call { callee := .builtin .append, args := #[s, x], argTypes := #[t, tx] }) (z : Value) (hzc : Value.cells z = #[z]) (e : TypeId) (bytes : Nat) (ht : P.underlying t = some (.slice e))
    (hi : (P.info? e).map (fun i => (i.zero, i.size, i.bytes)) = some (some z, 1, bytes)) (hby : 0 < bytes)
    (B : Nat) (v : Value) (xs : List Value) (hs : a.eval s = v) (hr : VRow e B w v xs) (u : Value) (ys : List Value) (hx : a.eval x = u) (hy : Src P 1 tx u ys.length ys w)
    (hb : (xs.length + ys.length) * bytes ≤ 140737488355328) (hB : B ≤ w.heap.size)
    (h : ∀ v' w', VRow e B w' v' (xs ++ ys) → VGrew e w w' v ys → wpList P ops Q rest (a.put o.dst v') w') : wpList P ops Q (o :: rest) a w := by
  obtain ⟨i0, hi0, hz0, hz1, hz2⟩ := info_parts hi
  refine wpList_plain hgd fun K hK => ?_
  obtain ⟨v', w', hrun, h2, h3⟩ := run_apv (P := P) w t tx o.type e i0 z hzc ht hi0 hz0 hz1 (by omega) hr hy (by rw [hz2]; exact hb) hB
  unfold Oper.wp execOp
  simp only [ho, resolve, invoke, builtin, Sem.run_bind, Sem.run_pure, Result.andThen_ok, List.map_toArray, List.map_cons, List.map_nil, hs, hx, hrun]
  exact hK _ _ (h v' w' h2 h3)
/-- The same, as one step of a region that draws its order. -/
theorem step_apv {P : Program} {ops : Array Oper} {o : Oper} {a : Act} {w : World} {K : Act → World → Prop} {Q : Exit → Act → World → Prop} {E : Prop} (hgd : o.guard = none) (s x : Operand) (t tx : TypeId)
    (ho : o.op = .call { callee := .builtin .append, args := #[s, x], argTypes := #[t, tx] }) (z : Value) (hzc : Value.cells z = #[z]) (e : TypeId) (bytes : Nat) (ht : P.underlying t = some (.slice e))
    (hi : (P.info? e).map (fun i => (i.zero, i.size, i.bytes)) = some (some z, 1, bytes)) (hby : 0 < bytes)
    (B : Nat) (v : Value) (xs : List Value) (hs : a.eval s = v) (hr : VRow e B w v xs) (u : Value) (ys : List Value) (hx : a.eval x = u) (hy : Src P 1 tx u ys.length ys w)
    (hb : (xs.length + ys.length) * bytes ≤ 140737488355328) (hB : B ≤ w.heap.size)
    (h : ∀ v' w', VRow e B w' v' (xs ++ ys) → VGrew e w w' v ys → K (a.put o.dst v') w') : if Region.wanted o (yielded ops a.tmps) = true then Oper.wp P o a w K Q else E := by
  have hw : Region.wanted o (yielded ops a.tmps) = true := by simp [Region.wanted, hgd]
  rw [if_pos hw]
  obtain ⟨i0, hi0, hz0, hz1, hz2⟩ := info_parts hi
  obtain ⟨v', w', hrun, h2, h3⟩ := run_apv (P := P) w t tx o.type e i0 z hzc ht hi0 hz0 hz1 (by omega) hr hy (by rw [hz2]; exact hb) hB
  unfold Oper.wp execOp
  simp only [ho, resolve, invoke, builtin, Sem.run_bind, Sem.run_pure, Result.andThen_ok, List.map_toArray, List.map_cons, List.map_nil, hs, hx, hrun]
  exact h v' w' h2 h3
end Go.Proofs.YtefebamomdcaaaaGreatDoor
