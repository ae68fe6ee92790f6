/-
  append onto a slice that lies in a whole block of its own (or is nil), from whatever source, in the words of Base.
-/
import Derived.Deep.AppendSrc
import Derived.Deep.RegionHeld3
import Derived.Test.YtkjdihikcgpababDoorK6
namespace Go.Proofs.YtkjdihikcgpababDoor
open Go.RowKit

/-- A slice of the call's own: memory from block B on, the head of a whole block of numbers, or nil; it reads xs. -/
def Row (k : IntKind) (e : TypeId) (B : Nat) (w : World) (v : Value) (xs : List Int) : Prop :=
  (v = .slice none 0 0 ∧ xs = []) ∨ ∃ b S, v = .slice (some ⟨b, 0, none⟩) xs.length S.length ∧ B ≤ b ∧ Arr k e w b S ∧ xs.length ≤ S.length ∧ S.take xs.length = xs ∧ S.length ≤ maxLen
/-- What an append has done: only new memory, or the spare room of v's block has been written. -/
def Grew (k : IntKind) (e : TypeId) (w w' : World) (v : Value) (ys : List Int) : Prop :=
  Below w.heap.size w w' ∨ ∃ b n S, v = .slice (some ⟨b, 0, none⟩) n S.length ∧ Arr k e w b S ∧ Upd w w' b ∧ n + ys.length ≤ S.length ∧ Arr k e w' b (S.take n ++ ys ++ S.drop (n + ys.length))

theorem Row.nil (k : IntKind) (e : TypeId) (B : Nat) (w : World) : Row k e B w (.slice none 0 0) [] := .inl ⟨rfl, rfl⟩
theorem Row.sl {k : IntKind} {e : TypeId} {B : Nat} {w : World} {v : Value} {xs : List Int} (h : Row k e B w v xs) : Sl k w v xs := by
  rcases h with ⟨rfl, rfl⟩ | ⟨b, S, rfl, _, hA, hl, ht, _⟩
  · exact ⟨none, 0, rfl, Nat.le_refl _, .inl rfl⟩
  · refine ⟨_, _, rfl, hl, .inr ⟨b, 0, rfl, hA.lt, ?_⟩⟩
    have := hA.rd 0 xs.length (by omega)
    rw [List.drop_zero, ht] at this; exact this
theorem Row.below {k : IntKind} {e : TypeId} {B : Nat} {w w' : World} {v : Value} {xs : List Int} (h : Row k e B w v xs) (hb : Below w.heap.size w w') : Row k e B w' v xs := by
  rcases h with h | ⟨b, S, rfl, h1, hA, h2⟩
  · exact .inl h
  · exact .inr ⟨b, S, rfl, h1, below_arr hb hA.lt hA, h2⟩
theorem Row.mono {k : IntKind} {e : TypeId} {B B' : Nat} {w : World} {v : Value} {xs : List Int} (h : Row k e B w v xs) (hb : B' ≤ B) : Row k e B' w v xs := by
  rcases h with h | ⟨b, S, rfl, h1, h2⟩
  · exact .inl h
  · exact .inr ⟨b, S, rfl, by omega, h2⟩
theorem Row.ne {k : IntKind} {e : TypeId} {B : Nat} {w : World} {v : Value} {xs : List Int} (h : Row k e B w v xs) : ∃ a c, v = .slice a xs.length c := by
  rcases h with ⟨rfl, rfl⟩ | ⟨b, S, rfl, _⟩
  · exact ⟨_, _, rfl⟩
  · exact ⟨_, _, rfl⟩
theorem Row.open {k : IntKind} {e : TypeId} {B : Nat} {w : World} {v : Value} {xs : List Int} (h : Row k e B w v xs) (n : Nat) (hn : xs.length = n) (h0 : 0 < n) :
    ∃ b S, v = .slice (some ⟨b, 0, none⟩) n S.length ∧ B ≤ b ∧ Arr k e w b S ∧ n ≤ S.length ∧ S.take n = xs ∧ S.length ≤ maxLen := by
  subst hn
  rcases h with ⟨_, rfl⟩ | h
  · simp at h0
  · exact h
theorem Row.arr {k : IntKind} {e : TypeId} {B : Nat} {w : World} {b : Nat} {S : List Int} (h : Arr k e w b S) (hB : B ≤ b) (hl : S.length ≤ maxLen) : Row k e B w (.slice (some ⟨b, 0, none⟩) S.length S.length) S :=
  .inr ⟨b, S, rfl, hB, h, Nat.le_refl _, List.take_length, hl⟩
theorem Row.alloc {k : IntKind} {e : TypeId} {B : Nat} {w : World} {v : Value} {xs : List Int} (h : Row k e B w v xs) (o : Obj) : Row k e B (w.alloc o) v xs :=
  h.below ((Below.refl _ _).alloc (Nat.le_refl _) o)
theorem Grew.below {k : IntKind} {e : TypeId} {B : Nat} {w w' : World} {v : Value} {xs ys : List Int} (h : Grew k e w w' v ys) (hr : Row k e B w v xs) (hB : B ≤ w.heap.size) : Below B w w' := by
  rcases h with h | ⟨b, n, S, rfl, _, hU, _⟩
  · exact h.mono hB
  · rcases hr with ⟨h, _⟩ | ⟨b', S', h, hb, _⟩
    · cases h
    · simp only [Value.slice.injEq, Option.some.injEq, Addr.mk.injEq, and_true] at h
      obtain ⟨rfl, _, _⟩ := h
      exact hU.below (Below.refl _ _) hB hb

theorem src_sl {P : Program} {tx e' : TypeId} (hk : P.underlying tx = some (.slice e')) {k : IntKind} {w : World} {v : Value} {ys : List Int} (h : Sl k w v ys) : Src P 1 tx v ys.length (ys.map (Value.int k)) w := by
  obtain ⟨a, c, rfl, hc, h⟩ := h
  have ho : ∀ u ∈ ys.map (Value.int k), u.oneCell' = true := by intro u hu; obtain ⟨x, _, rfl⟩ := List.mem_map.1 hu; rfl
  rcases h with rfl | ⟨b, off, rfl, hb, hr⟩
  · cases a with
    | none => exact Src.ofNil w hk c
    | some a => exact Src.ofSlice w hk a 0 c [] (by simp) (by simp) (by simp)
  · refine Src.ofSlice w hk _ _ _ _ (by simp) (fun j u hj => ?_) ho
    have hl : j < ys.length := by have := (List.getElem?_eq_some_iff.1 hj).1; simpa using this
    have hadd : (⟨b, off, none⟩ : Addr).add j = ⟨b, off + j, none⟩ := by simp [Addr.add]
    rw [hadd, hr j hl, ← hj]; simp [hl]

theorem run_ap {P : Program} (w : World) (t tx ty e : TypeId) (i : TypeInfo) (k : IntKind) (ht : P.underlying t = some (.slice e)) (hi : P.info? e = some i) (hz : i.zero = some (.int k 0)) (hsize : i.size = 1) (hby : 0 < i.bytes)
    {B : Nat} {v : Value} {xs : List Int} (hr : Row k e B w v xs) {x : Value} {ys : List Int} (hs : Src P 1 tx x ys.length (ys.map (Value.int k)) w)
    (hb : (xs.length + ys.length) * i.bytes ≤ 140737488355328) (hB : B ≤ w.heap.size) :
    ∃ v' w', (Builtin.append_ #[t, tx] ty #[v, x]).run P w = .ok v' w' ∧ Row k e B w' v' (xs ++ ys) ∧ Grew k e w w' v ys := by
  have hle : xs.length + ys.length ≤ 140737488355328 := Nat.le_trans (Nat.le_mul_of_pos_right _ hby) hb
  have hs1 : Src P i.size tx x ys.length (ys.map (Value.int k)) w := by rw [hsize]; exact hs
  have grown : ∀ (base : Option Addr) (old : Nat), old < xs.length + ys.length → (Builtin.firstCells i.size xs.length (.slice base xs.length old)).run P w.drew = .ok (xs.map (Value.int k)).toArray w.drew →
      ∃ v' w', (Builtin.append_ #[t, tx] ty #[.slice base xs.length old, x]).run P w = .ok v' w' ∧ Row k e B w' v' (xs ++ ys) ∧ Grew k e w w' (.slice base xs.length old) ys := by
    intro base old ho hold
    have h1 := run_append_grow_src (P := P) w t tx ty e i (.int k 0) ht hi hz base xs.length old _ hold x ys.length _ hs1 ho (by omega) (growslice_fits (by omega) hb)
    refine ⟨_, _, h1, ?_, .inl ((Below.refl _ _).drew.alloc (Nat.le_refl _) _)⟩
    have hge := grownCap_ge w (xs.length + ys.length) old e
    have hcm : grownCap w (xs.length + ys.length) old e ≤ maxLen := grownCap_le_maxLen w _ old e (by unfold maxLen; omega)
    obtain ⟨C, hC⟩ : ∃ C, grownCap w (xs.length + ys.length) old e = xs.length + ys.length + C := ⟨_, (Nat.add_sub_of_le hge).symm⟩
    rw [hC] at hcm ⊢
    have hzc : Builtin.zeroCells (Value.cells (.int k 0)) C = (List.replicate C (.int k 0)).toArray := by
      apply Array.ext'
      simp only [Builtin.zeroCells, Value.cells]
      simp
      rw [List.eq_replicate_iff]
      exact ⟨by simp, fun y hy => by obtain ⟨j, _, rfl⟩ := List.mem_map.1 hy; simp [Nat.mod_one]⟩
    refine .inr ⟨w.heap.size, xs ++ ys ++ List.replicate C 0, ?_, hB, ?_, by simp, List.take_left, by simp; omega⟩
    · simp; omega
    · unfold Arr
      rw [show xs.length + ys.length + C - (xs.length + ys.length) = C by omega, hzc]
      have := heap_alloc_new w.drew (.cells ((xs.map (Value.int k) ++ ys.map (Value.int k)).toArray ++ (List.replicate C (Value.int k 0)).toArray) e)
      simp only [List.map_append, List.map_replicate]
      rw [show (w.drew.heap.size) = w.heap.size from rfl] at this
      rw [this]; simp
  rcases hr with ⟨rfl, rfl⟩ | ⟨b, S, rfl, hBb, hA, hl, htk, hm⟩
  · by_cases h0 : ys.length = 0
    · have hy : ys = [] := List.eq_nil_of_length_eq_zero h0
      subst hy
      refine ⟨.slice none 0 0, w, ?_, .inl ⟨rfl, rfl⟩, .inl (Below.refl _ _)⟩
      have h1 := hs1.cells
      have h2 := hs1.len
      simp only [List.length_nil, List.map_nil] at h1 h2
      rcases hs1.kind with ⟨e', hk⟩ | hk
      · simp [Builtin.append_, run_underlying ht, run_underlying hk, sizeOf, typeInfo, hi, h2, h1]
      · simp [Builtin.append_, run_underlying ht, run_underlying hk, sizeOf, typeInfo, hi, h2, h1]
    · exact grown none 0 (by simp; omega) (run_firstCells_none w.drew i.size 0 0 0)
  · by_cases hroom : xs.length + ys.length ≤ S.length
    · have hst := run_storeCells_at P b (xs.length * i.size) e (ys.map (Value.int k)) 0 _ w hA (by simp [hsize]; omega) hs1.one
      simp only [Nat.add_zero] at hst
      have hrun : (Builtin.append_ #[t, tx] ty #[.slice (some ⟨b, 0, none⟩) xs.length S.length, x]).run P w = .ok (.slice (some ⟨b, 0, none⟩) (xs.length + ys.length) S.length) (w.setRow b (((S.map (Value.int k)).toArray.toList.take (xs.length * i.size)) ++ ys.map (Value.int k) ++ ((S.map (Value.int k)).toArray.toList.drop (xs.length * i.size + (ys.map (Value.int k)).length))).toArray) := by
        rcases hs1.kind with ⟨e', hk⟩ | hk <;> simp [Builtin.append_, run_underlying ht, run_underlying hk, sizeOf, typeInfo, hi, hs1.len, hroom, hs1.cells, Addr.add_lit, hst]
      have hA' : Arr k e (w.setRow b (((S.map (Value.int k)).toArray.toList.take (xs.length * i.size)) ++ ys.map (Value.int k) ++ ((S.map (Value.int k)).toArray.toList.drop (xs.length * i.size + (ys.map (Value.int k)).length))).toArray) b (S.take xs.length ++ ys ++ S.drop (xs.length + ys.length)) := by
        unfold Arr
        rw [setRow_heap w b _ _ e _ hA]
        simp [hsize, List.map_take, List.map_drop]
      have hlen : (S.take xs.length ++ ys ++ S.drop (xs.length + ys.length)).length = S.length := by simp; omega
      refine ⟨_, _, hrun, .inr ⟨b, _, ?_, hBb, hA', ?_, ?_, ?_⟩, .inr ⟨b, xs.length, S, rfl, hA, ⟨rfl, rfl, rfl, by simp [World.setRow], fun j _ hj => setRow_other w b j _ (fun e => hj (by simp [e]))⟩, hroom, hA'⟩⟩
      · rw [hlen]; simp
      · rw [hlen]; simp; omega
      · rw [htk]; exact List.take_left
      · rw [hlen]; exact hm
    · refine grown (some ⟨b, 0, none⟩) S.length (by omega) (run_firstCells_some w.drew i.size xs.length ⟨b, 0, none⟩ xs.length S.length _ (by simp [hsize]) (fun j u hj => ?_))
      have hj' : j < xs.length := by have := (List.getElem?_eq_some_iff.1 hj).1; simpa using this
      have hadd : (⟨b, 0, none⟩ : Addr).add j = ⟨b, j, none⟩ := by simp [Addr.add]; try omega
      have := hA.cell j (by omega)
      rw [hadd]
      have e1 : (w.drew).cell? ⟨b, j, none⟩ = w.cell? ⟨b, j, none⟩ := rfl
      rw [e1, this, ← hj]
      have e2 : S.getD j 0 = xs.getD j 0 := by
        have : (S.take xs.length).getD j 0 = S.getD j 0 := by simp [List.getD, hj']
        rw [← this, htk]
      rw [e2]; simp [hj']

theorem wpList_ap {P : Program} {w : World} {ops : Array Oper} {rest : List Oper} {o : Oper} {a : Act} {Q : Exit → Act → World → Prop} (hgd : o.guard = none) (s x : Operand) (t tx : TypeId)
    (ho : o.op = .call { callee := .builtin .append, args := #[s, x], argTypes := #[t, tx] }) (k : IntKind) (e : TypeId) (bytes : Nat) (ht : P.underlying t = some (.slice e))
    (hi : (P.info? e).map (fun i => (i.zero, i.size, i.bytes)) = some (some (.int k 0), 1, bytes)) (hby : 0 < bytes)
    (B : Nat) (v : Value) (xs : List Int) (hs : a.eval s = v) (hr : Row k e B w v xs) (u : Value) (ys : List Int) (hx : a.eval x = u) (hy : Src P 1 tx u ys.length (ys.map (Value.int k)) w)
    (hb : (xs.length + ys.length) * bytes ≤ 140737488355328) (hB : B ≤ w.heap.size)
    (h : ∀ v' w', Row k e B w' v' (xs ++ ys) → Grew k e w w' v ys → wpList P ops Q rest (a.put o.dst v') w') : wpList P ops Q (o :: rest) a w := by
  obtain ⟨i0, hi0, hz0, hz1, hz2⟩ := info_parts hi
  refine wpList_plain hgd fun K hK => ?_
  obtain ⟨v', w', hrun, h2, h3⟩ := run_ap (P := P) w t tx o.type e i0 k ht hi0 hz0 hz1 (by omega) hr hy (by rw [hz2]; exact hb) hB
  unfold Oper.wp execOp
  simp only [ho, resolve, invoke, builtin, Sem.run_bind, Sem.run_pure, Result.andThen_ok, List.map_toArray, List.map_cons, List.map_nil, hs, hx, hrun]
  exact hK _ _ (h v' w' h2 h3)
/-- The same, as one step of a region that draws its order. -/
theorem step_ap {P : Program} {ops : Array Oper} {o : Oper} {a : Act} {w : World} {K : Act → World → Prop} {Q : Exit → Act → World → Prop} {E : Prop} (hgd : o.guard = none) (s x : Operand) (t tx : TypeId)
    (ho : o.op = .call { callee := .builtin .append, args := #[s, x], argTypes := #[t, tx] }) (k : IntKind) (e : TypeId) (bytes : Nat) (ht : P.underlying t = some (.slice e))
    (hi : (P.info? e).map (fun i => (i.zero, i.size, i.bytes)) = some (some (.int k 0), 1, bytes)) (hby : 0 < bytes)
    (B : Nat) (v : Value) (xs : List Int) (hs : a.eval s = v) (hr : Row k e B w v xs) (u : Value) (ys : List Int) (hx : a.eval x = u) (hy : Src P 1 tx u ys.length (ys.map (Value.int k)) w)
    (hb : (xs.length + ys.length) * bytes ≤ 140737488355328) (hB : B ≤ w.heap.size)
    (h : ∀ v' w', Row k e B w' v' (xs ++ ys) → Grew k e w w' v ys → K (a.put o.dst v') w') : if Region.wanted o (yielded ops a.tmps) = true then Oper.wp P o a w K Q else E := by
  have hw : Region.wanted o (yielded ops a.tmps) = true := by simp [Region.wanted, hgd]
  rw [if_pos hw]
  obtain ⟨i0, hi0, hz0, hz1, hz2⟩ := info_parts hi
  obtain ⟨v', w', hrun, h2, h3⟩ := run_ap (P := P) w t tx o.type e i0 k ht hi0 hz0 hz1 (by omega) hr hy (by rw [hz2]; exact hb) hB
  unfold Oper.wp execOp
  simp only [ho, resolve, invoke, builtin, Sem.run_bind, Sem.run_pure, Result.andThen_ok, List.map_toArray, List.map_cons, List.map_nil, hs, hx, hrun]
  exact h v' w' h2 h3
end Go.Proofs.YtkjdihikcgpababDoor
/-
  append of one-cell values that are no numbers (slices onto a slice of slices), in the words of Blk.
-/
namespace Go.Proofs.YtkjdihikcgpababDoor
open Go.RowKit

/-- A slice of the call's own whose elements are values of one cell: memory from block B on, the head of a whole block, or nil. -/
def VRow (e : TypeId) (B : Nat) (w : World) (v : Value) (xs : List Value) : Prop :=
  (v = .slice none 0 0 ∧ xs = []) ∨ ∃ b S, v = .slice (some ⟨b, 0, none⟩) xs.length S.length ∧ B ≤ b ∧ Blk e w b S ∧ xs.length ≤ S.length ∧ S.take xs.length = xs ∧ S.length ≤ maxLen
/-- What an append has done. -/
def VGrew (e : TypeId) (w w' : World) (v : Value) (ys : List Value) : Prop :=
  Below w.heap.size w w' ∨ ∃ b n S, v = .slice (some ⟨b, 0, none⟩) n S.length ∧ Blk e w b S ∧ Upd w w' b ∧ n + ys.length ≤ S.length ∧ Blk e w' b (S.take n ++ ys ++ S.drop (n + ys.length))
theorem VRow.nil (e : TypeId) (B : Nat) (w : World) : VRow e B w (.slice none 0 0) [] := .inl ⟨rfl, rfl⟩
theorem VRow.below {e : TypeId} {B : Nat} {w w' : World} {v : Value} {xs : List Value} (h : VRow e B w v xs) (hb : Below w.heap.size w w') : VRow e B w' v xs := by
  rcases h with h | ⟨b, S, rfl, h1, hA, h2⟩
  · exact .inl h
  · exact .inr ⟨b, S, rfl, h1, below_blk hb hA.lt hA, h2⟩
theorem VRow.mono {e : TypeId} {B B' : Nat} {w : World} {v : Value} {xs : List Value} (h : VRow e B w v xs) (hb : B' ≤ B) : VRow e B' w v xs := by
  rcases h with h | ⟨b, S, rfl, h1, h2⟩
  · exact .inl h
  · exact .inr ⟨b, S, rfl, by omega, h2⟩
theorem VRow.ne {e : TypeId} {B : Nat} {w : World} {v : Value} {xs : List Value} (h : VRow e B w v xs) : ∃ a c, v = .slice a xs.length c := by
  rcases h with ⟨rfl, rfl⟩ | ⟨b, S, rfl, _⟩
  · exact ⟨_, _, rfl⟩
  · exact ⟨_, _, rfl⟩
theorem VRow.alloc {e : TypeId} {B : Nat} {w : World} {v : Value} {xs : List Value} (h : VRow e B w v xs) (o : Obj) : VRow e B (w.alloc o) v xs :=
  h.below ((Below.refl _ _).alloc (Nat.le_refl _) o)
theorem VGrew.below {e : TypeId} {B : Nat} {w w' : World} {v : Value} {xs ys : List Value} (h : VGrew e w w' v ys) (hr : VRow e B w v xs) (hB : B ≤ w.heap.size) : Below B w w' := by
  rcases h with h | ⟨b, n, S, rfl, _, hU, _⟩
  · exact h.mono hB
  · rcases hr with ⟨h, _⟩ | ⟨b', S', h, hb, _⟩
    · cases h
    · simp only [Value.slice.injEq, Option.some.injEq, Addr.mk.injEq, and_true] at h
      obtain ⟨rfl, _, _⟩ := h
      exact hU.below (Below.refl _ _) hB hb
theorem run_apv {P : Program} (w : World) (t tx ty e : TypeId) (i : TypeInfo) (z : Value) (hzc : Value.cells z = #[z]) (ht : P.underlying t = some (.slice e)) (hi : P.info? e = some i) (hz : i.zero = some z) (hsize : i.size = 1) (hby : 0 < i.bytes)
    {B : Nat} {v : Value} {xs : List Value} (hr : VRow e B w v xs) {x : Value} {ys : List Value} (hs : Src P 1 tx x ys.length ys w)
    (hb : (xs.length + ys.length) * i.bytes ≤ 140737488355328) (hB : B ≤ w.heap.size) :
    ∃ v' w', (Builtin.append_ #[t, tx] ty #[v, x]).run P w = .ok v' w' ∧ VRow e B w' v' (xs ++ ys) ∧ VGrew e w w' v ys := by
  have hle : xs.length + ys.length ≤ 140737488355328 := Nat.le_trans (Nat.le_mul_of_pos_right _ hby) hb
  have hs1 : Src P i.size tx x ys.length ys w := by rw [hsize]; exact hs
  have grown : ∀ (base : Option Addr) (old : Nat), old < xs.length + ys.length → (Builtin.firstCells i.size xs.length (.slice base xs.length old)).run P w.drew = .ok xs.toArray w.drew →
      ∃ v' w', (Builtin.append_ #[t, tx] ty #[.slice base xs.length old, x]).run P w = .ok v' w' ∧ VRow e B w' v' (xs ++ ys) ∧ VGrew e w w' (.slice base xs.length old) ys := by
    intro base old ho hold
    have h1 := run_append_grow_src (P := P) w t tx ty e i z ht hi hz base xs.length old _ hold x ys.length _ hs1 ho (by omega) (growslice_fits (by omega) hb)
    refine ⟨_, _, h1, ?_, .inl ((Below.refl _ _).drew.alloc (Nat.le_refl _) _)⟩
    have hge := grownCap_ge w (xs.length + ys.length) old e
    have hcm : grownCap w (xs.length + ys.length) old e ≤ maxLen := grownCap_le_maxLen w _ old e (by unfold maxLen; omega)
    obtain ⟨C, hC⟩ : ∃ C, grownCap w (xs.length + ys.length) old e = xs.length + ys.length + C := ⟨_, (Nat.add_sub_of_le hge).symm⟩
    rw [hC] at hcm ⊢
    have hzc : Builtin.zeroCells (Value.cells z) C = (List.replicate C z).toArray := by
      apply Array.ext'
      simp only [Builtin.zeroCells, hzc]
      simp
      rw [List.eq_replicate_iff]
      exact ⟨by simp, fun y hy => by obtain ⟨j, _, rfl⟩ := List.mem_map.1 hy; simp [Nat.mod_one]⟩
    refine .inr ⟨w.heap.size, xs ++ ys ++ List.replicate C z, ?_, hB, ?_, by simp, List.take_left, by simp; omega⟩
    · simp; omega
    · unfold Blk
      rw [show xs.length + ys.length + C - (xs.length + ys.length) = C by omega, hzc]
      have := heap_alloc_new w.drew (.cells ((xs ++ ys).toArray ++ (List.replicate C z).toArray) e)
      rw [show (w.drew.heap.size) = w.heap.size from rfl] at this
      rw [this]; simp
  rcases hr with ⟨rfl, rfl⟩ | ⟨b, S, rfl, hBb, hA, hl, htk, hm⟩
  · by_cases h0 : ys.length = 0
    · have hy : ys = [] := List.eq_nil_of_length_eq_zero h0
      subst hy
      refine ⟨.slice none 0 0, w, ?_, .inl ⟨rfl, rfl⟩, .inl (Below.refl _ _)⟩
      have h1 := hs1.cells
      have h2 := hs1.len
      simp only [List.length_nil] at h1 h2
      rcases hs1.kind with ⟨e', hk⟩ | hk
      · simp [Builtin.append_, run_underlying ht, run_underlying hk, sizeOf, typeInfo, hi, h2, h1]
      · simp [Builtin.append_, run_underlying ht, run_underlying hk, sizeOf, typeInfo, hi, h2, h1]
    · exact grown none 0 (by simp; omega) (run_firstCells_none w.drew i.size 0 0 0)
  · by_cases hroom : xs.length + ys.length ≤ S.length
    · have hst := run_storeCells_at P b (xs.length * i.size) e ys 0 _ w hA (by simp [hsize]; omega) hs1.one
      simp only [Nat.add_zero] at hst
      have hrun : (Builtin.append_ #[t, tx] ty #[.slice (some ⟨b, 0, none⟩) xs.length S.length, x]).run P w = .ok (.slice (some ⟨b, 0, none⟩) (xs.length + ys.length) S.length) (w.setRow b ((S.toArray.toList.take (xs.length * i.size)) ++ ys ++ (S.toArray.toList.drop (xs.length * i.size + ys.length))).toArray) := by
        rcases hs1.kind with ⟨e', hk⟩ | hk <;> simp [Builtin.append_, run_underlying ht, run_underlying hk, sizeOf, typeInfo, hi, hs1.len, hroom, hs1.cells, Addr.add_lit, hst]
      have hA' : Blk e (w.setRow b ((S.toArray.toList.take (xs.length * i.size)) ++ ys ++ (S.toArray.toList.drop (xs.length * i.size + ys.length))).toArray) b (S.take xs.length ++ ys ++ S.drop (xs.length + ys.length)) := by
        unfold Blk
        rw [setRow_heap w b _ _ e _ hA]
        simp [hsize]
      have hlen : (S.take xs.length ++ ys ++ S.drop (xs.length + ys.length)).length = S.length := by simp; omega
      refine ⟨_, _, hrun, .inr ⟨b, _, ?_, hBb, hA', ?_, ?_, ?_⟩, .inr ⟨b, xs.length, S, rfl, hA, ⟨rfl, rfl, rfl, by simp [World.setRow], fun j _ hj => setRow_other w b j _ (fun e => hj (by simp [e]))⟩, hroom, hA'⟩⟩
      · rw [hlen]; simp
      · rw [hlen]; simp; omega
      · rw [htk]; exact List.take_left
      · rw [hlen]; exact hm
    · refine grown (some ⟨b, 0, none⟩) S.length (by omega) (run_firstCells_some w.drew i.size xs.length ⟨b, 0, none⟩ xs.length S.length _ (by simp [hsize]) (fun j u hj => ?_))
      have hj' : j < xs.length := by have := (List.getElem?_eq_some_iff.1 hj).1; simpa using this
      have hadd : (⟨b, 0, none⟩ : Addr).add j = ⟨b, j, none⟩ := by simp [Addr.add]; try omega
      have e1 : (w.drew).cell? ⟨b, j, none⟩ = w.cell? ⟨b, j, none⟩ := rfl
      rw [hadd, e1, hA.cell j, ← hj, ← htk, List.getElem?_take, if_pos hj']

theorem wpList_apv {P : Program} {w : World} {ops : Array Oper} {rest : List Oper} {o : Oper} {a : Act} {Q : Exit → Act → World → Prop} (hgd : o.guard = none) (s x : Operand) (t tx : TypeId)
    (ho : o.op = .call { callee := .builtin .append, args := #[s, x], argTypes := #[t, tx] }) (z : Value) (hzc : Value.cells z = #[z]) (e : TypeId) (bytes : Nat) (ht : P.underlying t = some (.slice e))
    (hi : (P.info? e).map (fun i => (i.zero, i.size, i.bytes)) = some (some z, 1, bytes)) (hby : 0 < bytes)
    (B : Nat) (v : Value) (xs : List Value) (hs : a.eval s = v) (hr : VRow e B w v xs) (u : Value) (ys : List Value) (hx : a.eval x = u) (hy : Src P 1 tx u ys.length ys w)
    (hb : (xs.length + ys.length) * bytes ≤ 140737488355328) (hB : B ≤ w.heap.size)
    (h : ∀ v' w', VRow e B w' v' (xs ++ ys) → VGrew e w w' v ys → wpList P ops Q rest (a.put o.dst v') w') : wpList P ops Q (o :: rest) a w := by
  obtain ⟨i0, hi0, hz0, hz1, hz2⟩ := info_parts hi
  refine wpList_plain hgd fun K hK => ?_
  obtain ⟨v', w', hrun, h2, h3⟩ := run_apv (P := P) w t tx o.type e i0 z hzc ht hi0 hz0 hz1 (by omega) hr hy (by rw [hz2]; exact hb) hB
  unfold Oper.wp execOp
  simp only [ho, resolve, invoke, builtin, Sem.run_bind, Sem.run_pure, Result.andThen_ok, List.map_toArray, List.map_cons, List.map_nil, hs, hx, hrun]
  exact hK _ _ (h v' w' h2 h3)
/-- The same, as one step of a region that draws its order. -/
theorem step_apv {P : Program} {ops : Array Oper} {o : Oper} {a : Act} {w : World} {K : Act → World → Prop} {Q : Exit → Act → World → Prop} {E : Prop} (hgd : o.guard = none) (s x : Operand) (t tx : TypeId)
    (ho : o.op = .call { callee := .builtin .append, args := #[s, x], argTypes := #[t, tx] }) (z : Value) (hzc : Value.cells z = #[z]) (e : TypeId) (bytes : Nat) (ht : P.underlying t = some (.slice e))
    (hi : (P.info? e).map (fun i => (i.zero, i.size, i.bytes)) = some (some z, 1, bytes)) (hby : 0 < bytes)
    (B : Nat) (v : Value) (xs : List Value) (hs : a.eval s = v) (hr : VRow e B w v xs) (u : Value) (ys : List Value) (hx : a.eval x = u) (hy : Src P 1 tx u ys.length ys w)
    (hb : (xs.length + ys.length) * bytes ≤ 140737488355328) (hB : B ≤ w.heap.size)
    (h : ∀ v' w', VRow e B w' v' (xs ++ ys) → VGrew e w w' v ys → K (a.put o.dst v') w') : if Region.wanted o (yielded ops a.tmps) = true then Oper.wp P o a w K Q else E := by
  have hw : Region.wanted o (yielded ops a.tmps) = true := by simp [Region.wanted, hgd]
  rw [if_pos hw]
  obtain ⟨i0, hi0, hz0, hz1, hz2⟩ := info_parts hi
  obtain ⟨v', w', hrun, h2, h3⟩ := run_apv (P := P) w t tx o.type e i0 z hzc ht hi0 hz0 hz1 (by omega) hr hy (by rw [hz2]; exact hb) hB
  unfold Oper.wp execOp
  simp only [ho, resolve, invoke, builtin, Sem.run_bind, Sem.run_pure, Result.andThen_ok, List.map_toArray, List.map_cons, List.map_nil, hs, hx, hrun]
  exact h v' w' h2 h3
end Go.Proofs.YtkjdihikcgpababDoor
/-
  Der: words of memory, bytes lent and kept, the same bytes (as for digest).
-/
namespace Go.Proofs.YtkjdihikcgpababDoor
open Go.RowKit
theorem Tryd.und8 : Tryd.prog.underlying 38 = some (.slice 5) := by kernel_rfl
theorem Tryd.info8 : (Tryd.prog.info? 5).map (fun i => (i.zero, i.size, i.bytes)) = some (some (.int .u8 0), 1, 1) := by kernel_rfl
def U8 (x : Int) : Prop := 0 ≤ x ∧ x < 256
def U8s (xs : List Int) : Prop := ∀ x ∈ xs, U8 x
theorem U8s.at {xs : List Int} (h : U8s xs) (i : Nat) : U8 (xs.getD i 0) := by
  by_cases hi : i < xs.length
  · simp [hi]; exact h _ (List.getElem_mem hi)
  · simp [List.getD, List.getElem?_eq_none (Nat.le_of_not_lt hi), U8]
theorem U8s.append {xs ys : List Int} (h : U8s xs) (k : U8s ys) : U8s (xs ++ ys) := by
  intro y hy; rcases List.mem_append.1 hy with hy | hy
  · exact h y hy
  · exact k y hy
theorem U8s.take {xs : List Int} (h : U8s xs) (n : Nat) : U8s (xs.take n) := fun y hy => h y (List.mem_of_mem_take hy)
theorem U8s.drop {xs : List Int} (h : U8s xs) (n : Nat) : U8s (xs.drop n) := fun y hy => h y (List.mem_of_mem_drop hy)
theorem arr_newB {k : IntKind} {e : TypeId} {w : World} {S : List Int} {cs : List Value} (h : cs = S.map (Value.int k)) : Arr k e (w.alloc (.cells cs.toArray e)) w.heap.size S := by subst h; exact Blk.new e w _
theorem Arr.sl {k : IntKind} {e : TypeId} {w : World} {b : Nat} {S : List Int} (h : Arr k e w b S) : Sl k w (.slice (some ⟨b, 0, none⟩) S.length S.length) S :=
  ⟨_, _, rfl, Nat.le_refl _, .inr ⟨b, 0, rfl, h.lt, by have := h.rd 0 S.length (by omega); simpa using this⟩⟩
theorem Tryd.e8 : Tryd.prog.underlying 5 = some (.int .u8) := by kernel_rfl
theorem Tryd.str : Tryd.prog.underlying 9 = some .string := by kernel_rfl
/-- A new row of numbers, marked or not, reads them. -/
theorem new_sl {k : IntKind} {e : TypeId} {w : World} (S : List Int) (fr : Nat × Nat) : Sl k (w.alloc (.cells (S.map (Value.int k)).toArray e fr)) (.slice (some ⟨w.heap.size, 0, none⟩) S.length S.length) S :=
  ⟨_, _, rfl, Nat.le_refl _, .inr ⟨w.heap.size, 0, rfl, by simp, fun i hi => by
    rw [cell_of_row _ _ _ (S.map (Value.int k)).toArray e fr (heap_alloc_new _ _)]
    simp [hi]⟩⟩
theorem sl_alloc {k : IntKind} {w : World} {v : Value} {S : List Int} (h : Sl k w v S) (o : Obj) : Sl k (w.alloc o) v S := below_sl ((Below.refl _ _).alloc (Nat.le_refl _) o) h
theorem al1 {w : World} (o : Obj) : Below w.heap.size w (w.alloc o) := (Below.refl _ _).alloc (Nat.le_refl _) o
theorem below_via {B : Nat} {w w1 w2 : World} (h : Below B w w1) (h' : Below w1.heap.size w1 w2) (hB : B ≤ w.heap.size) : Below B w w2 := h.trans (h'.mono (Nat.le_trans hB h.size))
theorem nil_sl (w : World) : Sl .u8 w (.slice none 0 0) [] := ⟨none, 0, rfl, Nat.le_refl _, .inl rfl⟩
theorem nil_u8 : U8s [] := by intro x hx; simp at hx
theorem al2' {a w : World} {o : Obj} (h : Below a.heap.size a w) : Below a.heap.size a (w.alloc o) := h.alloc h.size o
theorem arr_nw {k : IntKind} {e : TypeId} {w : World} {b : Nat} {cs : Array Value} {xs : List Int} (hb : b = w.heap.size) (h : cs = (xs.map (Value.int k)).toArray) : Arr k e (w.alloc (.cells cs e)) b xs := by subst hb; subst h; exact Blk.new e w _
theorem new1 {w : World} {e : TypeId} (x : Int) : Sl .u8 (w.alloc (.cells #[.int .u8 x] e)) (.slice (some ⟨w.heap.size, 0, none⟩) 1 1) [x] := new_sl [x] (0, 0)
theorem row0 {w : World} : Row .u8 5 w.heap.size (w.alloc (.cells #[] 5)) (.slice (some ⟨w.heap.size, 0, none⟩) 0 0) [] := Row.arr (S := []) (Blk.new 5 w []) (Nat.le_refl _) (by decide)
theorem al2 {a w : World} {o : Obj} (h : Below a.heap.size a w) : Below a.heap.size a (w.alloc o) := h.alloc h.size o
end Go.Proofs.YtkjdihikcgpababDoor
/-
  append of elements of m cells each (structs), in the words of Blk.
-/
namespace Go.Proofs.YtkjdihikcgpababDoor
open Go.RowKit

/-- A slice of the call's own whose n elements have m cells each: memory from block B on, the head of a whole block, or nil; its cells are xs. -/
def MRow (m : Nat) (e : TypeId) (B : Nat) (w : World) (v : Value) (n : Nat) (xs : List Value) : Prop :=
  xs.length = n * m ∧ ((v = .slice none 0 0 ∧ n = 0) ∨ ∃ b S c, v = .slice (some ⟨b, 0, none⟩) n c ∧ B ≤ b ∧ Blk e w b S ∧ S.length = c * m ∧ n ≤ c ∧ S.take (n * m) = xs ∧ c ≤ maxLen)
/-- What an append has done: only new memory, or the spare room of v's block has been written. -/
def MGrew (e : TypeId) (w w' : World) (v : Value) : Prop :=
  Below w.heap.size w w' ∨ ∃ b n c S, v = .slice (some ⟨b, 0, none⟩) n c ∧ Blk e w b S ∧ Upd w w' b
theorem MRow.nil (m : Nat) (e : TypeId) (B : Nat) (w : World) : MRow m e B w (.slice none 0 0) 0 [] := ⟨by simp, .inl ⟨rfl, rfl⟩⟩
theorem MRow.below {m : Nat} {e : TypeId} {B : Nat} {w w' : World} {v : Value} {n : Nat} {xs : List Value} (h : MRow m e B w v n xs) (hb : Below w.heap.size w w') : MRow m e B w' v n xs := by
  obtain ⟨h0, h⟩ := h
  refine ⟨h0, ?_⟩
  rcases h with h | ⟨b, S, c, rfl, h1, hA, h2⟩
  · exact .inl h
  · exact .inr ⟨b, S, c, rfl, h1, below_blk hb hA.lt hA, h2⟩
theorem MRow.ne {m : Nat} {e : TypeId} {B : Nat} {w : World} {v : Value} {n : Nat} {xs : List Value} (h : MRow m e B w v n xs) : ∃ a c, v = .slice a n c := by
  rcases h with ⟨_, ⟨rfl, rfl⟩ | ⟨b, S, c, rfl, _⟩⟩
  · exact ⟨_, _, rfl⟩
  · exact ⟨_, _, rfl⟩
theorem MRow.alloc {m : Nat} {e : TypeId} {B : Nat} {w : World} {v : Value} {n : Nat} {xs : List Value} (h : MRow m e B w v n xs) (o : Obj) : MRow m e B (w.alloc o) v n xs :=
  h.below ((Below.refl _ _).alloc (Nat.le_refl _) o)
theorem MGrew.below {m : Nat} {e : TypeId} {B : Nat} {w w' : World} {v : Value} {n : Nat} {xs : List Value} (h : MGrew e w w' v) (hr : MRow m e B w v n xs) (hB : B ≤ w.heap.size) : Below B w w' := by
  rcases h with h | ⟨b, n', c', S, rfl, _, hU⟩
  · exact h.mono hB
  · rcases hr with ⟨_, ⟨h, _⟩ | ⟨b', S', c, h, hb, _⟩⟩
    · cases h
    · simp only [Value.slice.injEq, Option.some.injEq, Addr.mk.injEq, and_true] at h
      obtain ⟨rfl, _, _⟩ := h
      exact hU.below (Below.refl _ _) hB hb
theorem run_apm {P : Program} (w : World) (t tx ty e : TypeId) (i : TypeInfo) (m : Nat) (z : Value) (ht : P.underlying t = some (.slice e)) (hi : P.info? e = some i) (hz : i.zero = some z) (hsize : i.size = m) (hzs : z.cells.size = m) (hby : 0 < i.bytes)
    {B : Nat} {v : Value} {n : Nat} {xs : List Value} (hr : MRow m e B w v n xs) {x : Value} {k : Nat} {ys : List Value} (hs : Src P m tx x k ys w)
    (hb : (n + k) * i.bytes ≤ 140737488355328) (hB : B ≤ w.heap.size) :
    ∃ v' w', (Builtin.append_ #[t, tx] ty #[v, x]).run P w = .ok v' w' ∧ MRow m e B w' v' (n + k) (xs ++ ys) ∧ MGrew e w w' v := by
  have hle : n + k ≤ 140737488355328 := Nat.le_trans (Nat.le_mul_of_pos_right _ hby) hb
  have hs1 : Src P i.size tx x k ys w := by rw [hsize]; exact hs
  obtain ⟨hxl, hr⟩ := hr
  have hxy : (xs ++ ys).length = (n + k) * m := by rw [List.length_append, hxl, hs.newsLen, Nat.add_mul]
  have grown : ∀ (base : Option Addr) (old : Nat), old < n + k → (Builtin.firstCells i.size n (.slice base n old)).run P w.drew = .ok xs.toArray w.drew →
      ∃ v' w', (Builtin.append_ #[t, tx] ty #[.slice base n old, x]).run P w = .ok v' w' ∧ MRow m e B w' v' (n + k) (xs ++ ys) ∧ MGrew e w w' (.slice base n old) := by
    intro base old ho hold
    have h1 := run_append_grow_src (P := P) w t tx ty e i z ht hi hz base n old _ hold x k _ hs1 ho (by omega) (growslice_fits (by omega) hb)
    refine ⟨_, _, h1, ⟨hxy, ?_⟩, .inl ((Below.refl _ _).drew.alloc (Nat.le_refl _) _)⟩
    have hge := grownCap_ge w (n + k) old e
    have hcm : grownCap w (n + k) old e ≤ maxLen := grownCap_le_maxLen w _ old e (by unfold maxLen; omega)
    refine .inr ⟨w.heap.size, xs ++ ys ++ (Builtin.zeroCells z.cells (grownCap w (n + k) old e - (n + k))).toList, grownCap w (n + k) old e, rfl, hB, ?_, ?_, hge, ?_, hcm⟩
    · unfold Blk
      have := heap_alloc_new w.drew (.cells ((xs ++ ys).toArray ++ Builtin.zeroCells z.cells (grownCap w (n + k) old e - (n + k))) e)
      rw [show (w.drew.heap.size) = w.heap.size from rfl] at this
      rw [this]; simp
    · rw [List.length_append, hxy]
      simp only [Builtin.zeroCells, Array.length_toList, Array.size_map, Array.size_range, hzs]
      rw [← Nat.add_mul]; congr 1; omega
    · exact List.take_left' hxy
  rcases hr with ⟨rfl, rfl⟩ | ⟨b, S, c, rfl, hBb, hA, hSl, hl, htk, hm⟩
  · have hx0 : xs = [] := List.eq_nil_of_length_eq_zero (by simpa using hxl)
    subst hx0
    by_cases h0 : k = 0
    · subst h0
      have hy : ys = [] := List.eq_nil_of_length_eq_zero (by simpa using hs.newsLen)
      subst hy
      refine ⟨.slice none 0 0, w, ?_, ⟨by simp, .inl ⟨rfl, rfl⟩⟩, .inl (Below.refl _ _)⟩
      have h1 := hs1.cells
      have h2 := hs1.len
      rcases hs1.kind with ⟨e', hk⟩ | hk
      · simp [Builtin.append_, run_underlying ht, run_underlying hk, sizeOf, typeInfo, hi, h2, h1]
      · simp [Builtin.append_, run_underlying ht, run_underlying hk, sizeOf, typeInfo, hi, h2, h1]
    · exact grown none 0 (by omega) (run_firstCells_none w.drew i.size 0 0 0)
  · by_cases hroom : n + k ≤ c
    · have hkm : n * m + k * m ≤ c * m := by rw [← Nat.add_mul]; exact Nat.mul_le_mul_right _ hroom
      have hst := run_storeCells_at P b (n * i.size) e ys 0 _ w hA (by rw [hsize, hs.newsLen, List.size_toArray, hSl]; omega) hs1.one
      simp only [Nat.add_zero] at hst
      have hrun : (Builtin.append_ #[t, tx] ty #[.slice (some ⟨b, 0, none⟩) n c, x]).run P w = .ok (.slice (some ⟨b, 0, none⟩) (n + k) c) (w.setRow b ((S.toArray.toList.take (n * i.size)) ++ ys ++ (S.toArray.toList.drop (n * i.size + ys.length))).toArray) := by
        rcases hs1.kind with ⟨e', hk⟩ | hk <;> simp [Builtin.append_, run_underlying ht, run_underlying hk, sizeOf, typeInfo, hi, hs1.len, hroom, hs1.cells, Addr.add_lit, hst]
      have hA' : Blk e (w.setRow b ((S.toArray.toList.take (n * i.size)) ++ ys ++ (S.toArray.toList.drop (n * i.size + ys.length))).toArray) b (S.take (n * m) ++ ys ++ S.drop (n * m + k * m)) := by
        unfold Blk
        rw [setRow_heap w b _ _ e _ hA]
        simp [hsize, hs.newsLen]
      refine ⟨_, _, hrun, ⟨hxy, .inr ⟨b, _, c, rfl, hBb, hA', ?_, hroom, ?_, hm⟩⟩, .inr ⟨b, n, c, S, rfl, hA, ⟨rfl, rfl, rfl, by simp [World.setRow], fun j _ hj => setRow_other w b j _ (fun e => hj (by simp [e]))⟩⟩⟩
      · rw [List.length_append, htk, hxy, List.length_drop, hSl, Nat.add_mul]; omega
      · rw [htk]; exact List.take_left' hxy
    · refine grown (some ⟨b, 0, none⟩) c (by omega) (run_firstCells_some w.drew i.size n ⟨b, 0, none⟩ n c _ (by rw [hsize]; exact hxl) (fun j u hj => ?_))
      have hj' : j < xs.length := (List.getElem?_eq_some_iff.1 hj).1
      have hadd : (⟨b, 0, none⟩ : Addr).add j = ⟨b, j, none⟩ := by simp [Addr.add] <;> omega
      have e1 : (w.drew).cell? ⟨b, j, none⟩ = w.cell? ⟨b, j, none⟩ := rfl
      rw [hadd, e1, hA.cell j, ← hj, ← htk, List.getElem?_take, if_pos (by omega)]

theorem wpList_apm {P : Program} {w : World} {ops : Array Oper} {rest : List Oper} {o : Oper} {a : Act} {Q : Exit → Act → World → Prop} (hgd : o.guard = none) (s x : Operand) (t tx : TypeId)
    (ho : o.op = .call { callee := .builtin .append, args := #[s, x], argTypes := #[t, tx] }) (m : Nat) (z : Value) (hzs : z.cells.size = m) (e : TypeId) (bytes : Nat) (ht : P.underlying t = some (.slice e))
    (hi : (P.info? e).map (fun i => (i.zero, i.size, i.bytes)) = some (some z, m, bytes)) (hby : 0 < bytes)
    (B : Nat) (v : Value) (n : Nat) (xs : List Value) (hs : a.eval s = v) (hr : MRow m e B w v n xs) (u : Value) (k : Nat) (ys : List Value) (hx : a.eval x = u) (hy : Src P m tx u k ys w)
    (hb : (n + k) * bytes ≤ 140737488355328) (hB : B ≤ w.heap.size)
    (h : ∀ v' w', MRow m e B w' v' (n + k) (xs ++ ys) → MGrew e w w' v → wpList P ops Q rest (a.put o.dst v') w') : wpList P ops Q (o :: rest) a w := by
  obtain ⟨i0, hi0, hz0, hz1, hz2⟩ := info_parts hi
  refine wpList_plain hgd fun K hK => ?_
  obtain ⟨v', w', hrun, h2, h3⟩ := run_apm (P := P) w t tx o.type e i0 m z ht hi0 hz0 hz1 hzs (by omega) hr hy (by rw [hz2]; exact hb) hB
  unfold Oper.wp execOp
  simp only [ho, resolve, invoke, builtin, Sem.run_bind, Sem.run_pure, Result.andThen_ok, List.map_toArray, List.map_cons, List.map_nil, hs, hx, hrun]
  exact hK _ _ (h v' w' h2 h3)
end Go.Proofs.YtkjdihikcgpababDoor
