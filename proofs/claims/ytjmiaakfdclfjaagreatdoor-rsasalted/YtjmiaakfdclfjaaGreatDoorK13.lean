/-
  The walks of Lent and Kept: a list in memory of its own with two marks behind it; whether it is as it was.
-/
import Derived.Laws.MakeOwn
import Derived.Deep.AppendSrc
import Derived.Deep.RegionHeld3
import Derived.Deep.MidRow
import Derived.Test.YtjmiaakfdclfjaaGreatDoorRows
import Derived.WalkKit
import Derived.Deep.QuietTactic
import Derived.BigQuiet
import Derived.LoopN
import Derived.Test.YtjmiaakfdclfjaaGreatDoorK12
namespace Go.Proofs.YtjmiaakfdclfjaaGreatDoor.Nt
open Go.RowKit

/-- A lent list: a block from B on that holds X, the two marks, and whatever else. -/
def LentR (B : Nat) (w : World) (v : Value) (X : List Int) : Prop :=
  ∃ b S, v = .slice (some ⟨b, 0, none⟩) X.length S.length ∧ B ≤ b ∧ Arr .u32 38 w b S ∧ S.take (X.length + 2) = X ++ [57005, 48879] ∧ X.length + 2 ≤ S.length ∧ S.length ≤ maxLen
theorem LentR.sl {B : Nat} {w : World} {v : Value} {X : List Int} (h : LentR B w v X) : Sl .u32 w v X := by
  obtain ⟨b, S, rfl, _, hA, ht, hl, _⟩ := h
  refine ⟨_, _, rfl, by omega, .inr ⟨b, 0, rfl, hA.lt, ?_⟩⟩
  have h1 := hA.rd 0 X.length (by omega)
  have e : S.take X.length = X := by
    have : (S.take (X.length + 2)).take X.length = S.take X.length := by rw [List.take_take]; congr 1; omega
    rw [← this, ht, List.take_left]
  rw [List.drop_zero, e] at h1; exact h1
theorem LentR.below {B : Nat} {w w' : World} {v : Value} {X : List Int} (h : LentR B w v X) (hb : Below w.heap.size w w') : LentR B w' v X := by
  obtain ⟨b, S, rfl, h1, hA, h2⟩ := h
  exact ⟨b, S, rfl, h1, below_arr hb hA.lt hA, h2⟩
theorem LentR.mono {B B' : Nat} {w : World} {v : Value} {X : List Int} (h : LentR B w v X) (hb : B' ≤ B) : LentR B' w v X := by
  obtain ⟨b, S, rfl, h1, h2⟩ := h
  exact ⟨b, S, rfl, by omega, h2⟩

end Go.Proofs.YtjmiaakfdclfjaaGreatDoor.Nt
/-
  make in the words of Base, for seats without package nat.
-/
namespace Go.Proofs.YtjmiaakfdclfjaaGreatDoor
open Go.RowKit
theorem toArray_of_toList {α : Type} {a : Array α} {l : List α} (h : a.toList = l) : a = l.toArray := by subst h; simp

/-- 'make([]T, n)': n noughts in a block of their own. -/
theorem wpList_mk {P : Program} (w : World) {ops : Array Oper} {rest : List Oper} {o : Oper} {a : Act} {Q : Exit → Act → World → Prop} (hg : o.guard = none) (l c : Operand) (t : TypeId) (hop : o.op = .makeSlice t l c)
    (k : IntKind) (e : TypeId) (bytes : Nat) (ht : P.underlying t = some (.slice e)) (hi : (P.info? e).map (fun i => (i.zero, i.size, i.bytes)) = some (some (.int k 0), 1, bytes))
    (L : Int) (n : Nat) (hl : a.eval l = .int .i64 L) (hc : a.eval c = .int .i64 L) (hL : L = n) (hb : bytes * n ≤ 281474976710656) (hm : n ≤ 1152921504606846976)
    (hK : ∀ w', Arr k e w' w.heap.size (List.replicate n 0) → Below w.heap.size w w' → wpList P ops Q rest (a.put o.dst (.slice (some ⟨w.heap.size, 0, none⟩) n n)) w') :
    wpList P ops Q (o :: rest) a w := by
  obtain ⟨i0, hi0, hz0, hz1, hz2⟩ := info_parts hi
  refine wpList_make_full w hg l c t hop w.heap.size e i0 (.int k 0) 1 ht hi0 hz0 hz1 .i64 .i64 L L n hl hc hL hL (by rw [hz2]; exact hb) (by unfold maxLen; omega) (Nat.le_refl _) ?_
  intro w' hown hgr
  refine hK w' ?_ ((Below.refl _ _).grown hgr (Nat.le_refl _) (fun k hk => by cases hk))
  obtain ⟨_, h⟩ := hown
  rcases h with ⟨h, _⟩ | ⟨g, cap, cur, hv, _, hg, _, _, hs, htk⟩
  · cases h
  · simp only [Value.slice.injEq, Option.some.injEq, Addr.mk.injEq, and_true, true_and] at hv
    obtain ⟨rfl, rfl⟩ := hv
    unfold Arr
    rw [hg]
    have e1 : cur.toList = List.replicate n (.int k 0) := by
      rw [List.take_of_length_le (by simp; omega)] at htk
      rw [htk, Nat.mul_one]; exact toList_madeCells_one (.int k 0) n
    rw [toArray_of_toList e1]; simp

end Go.Proofs.YtjmiaakfdclfjaaGreatDoor
/-
  append onto a slice that lies in a whole block of its own (or is nil), from whatever source, in the words of Base.
-/
namespace Go.Proofs.YtjmiaakfdclfjaaGreatDoor
open Go.RowKit

/-- A slice of the call's own: memory from block B on, the head of a whole block of numbers, or nil; it reads xs. -/
def Row (k : IntKind) (e : TypeId) (B : Nat) (w : World) (v : Value) (xs : List Int) : Prop :=
  (v = .slice none 0 0 ∧ xs = []) ∨ ∃ b S, v = .slice (some ⟨b, 0, none⟩) xs.length S.length ∧ B ≤ b ∧ Arr k e w b S ∧ xs.length ≤ S.length ∧ S.take xs.length = xs ∧ S.length ≤ maxLen
/-- What an append has done: only new memory, or the spare room of v's block has been written. -/
def Grew (k : IntKind) (e : TypeId) (w w' : World) (v : Value) (ys : List Int) : Prop :=
  Below w.heap.size w w' ∨ ∃ b n S, v = .slice (some ⟨b, 0, none⟩) n S.length ∧ Arr k e w b S ∧ Upd w w' b ∧ n + ys.length ≤ S.length ∧ Arr k e w' b (S.take n ++ ys ++ S.drop (n + ys.length))

theorem Row.nil (k : IntKind) (e : TypeId) (B : Nat) (w : World) : Row k e B w (.slice none 0 0) [] := .inl ⟨rfl, rfl⟩
theorem Row.sl {k : IntKind} {e : TypeId} {B : Nat} {w : World} {v : Value} {xs : List Int} (h : Row k e B w v xs) : Sl k w v xs := by
  rcases h with ⟨rfl, rfl⟩ | ⟨b, S, rfl, _, hA, hl, ht, _⟩
  · exact ⟨none, 0, rfl, Nat.le_refl _, .inl rfl⟩
  · refine ⟨_, _, rfl, hl, .inr ⟨b, 0, rfl, hA.lt, ?_⟩⟩
    have := hA.rd 0 xs.length (by omega)
    rw [List.drop_zero, ht] at this; exact this
theorem Row.below {k : IntKind} {e : TypeId} {B : Nat} {w w' : World} {v : Value} {xs : List Int} (h : Row k e B w v xs) (hb : Below w.heap.size w w') : Row k e B w' v xs := by
  rcases h with h | ⟨b, S, rfl, h1, hA, h2⟩
  · exact .inl h
  · exact .inr ⟨b, S, rfl, h1, below_arr hb hA.lt hA, h2⟩
theorem Row.mono {k : IntKind} {e : TypeId} {B B' : Nat} {w : World} {v : Value} {xs : List Int} (h : Row k e B w v xs) (hb : B' ≤ B) : Row k e B' w v xs := by
  rcases h with h | ⟨b, S, rfl, h1, h2⟩
  · exact .inl h
  · exact .inr ⟨b, S, rfl, by omega, h2⟩
theorem Row.ne {k : IntKind} {e : TypeId} {B : Nat} {w : World} {v : Value} {xs : List Int} (h : Row k e B w v xs) : ∃ a c, v = .slice a xs.length c := by
  rcases h with ⟨rfl, rfl⟩ | ⟨b, S, rfl, _⟩
  · exact ⟨_, _, rfl⟩
  · exact ⟨_, _, rfl⟩
theorem Row.open {k : IntKind} {e : TypeId} {B : Nat} {w : World} {v : Value} {xs : List Int} (h : Row k e B w v xs) (n : Nat) (hn : xs.length = n) (h0 : 0 < n) :
    ∃ b S, v = .slice (some ⟨b, 0, none⟩) n S.length ∧ B ≤ b ∧ Arr k e w b S ∧ n ≤ S.length ∧ S.take n = xs ∧ S.length ≤ maxLen := by
  subst hn
  rcases h with ⟨_, rfl⟩ | h
  · simp at h0
  · exact h
theorem Row.arr {k : IntKind} {e : TypeId} {B : Nat} {w : World} {b : Nat} {S : List Int} (h : Arr k e w b S) (hB : B ≤ b) (hl : S.length ≤ maxLen) : Row k e B w (.slice (some ⟨b, 0, none⟩) S.length S.length) S :=
  .inr ⟨b, S, rfl, hB, h, Nat.le_refl _, List.take_length, hl⟩
theorem Row.alloc {k : IntKind} {e : TypeId} {B : Nat} {w : World} {v : Value} {xs : List Int} (h : Row k e B w v xs) (o : Obj) : Row k e B (w.alloc o) v xs :=
  h.below ((Below.refl _ _).alloc (Nat.le_refl _) o)
theorem Grew.below {k : IntKind} {e : TypeId} {B : Nat} {w w' : World} {v : Value} {xs ys : List Int} (h : Grew k e w w' v ys) (hr : Row k e B w v xs) (hB : B ≤ w.heap.size) : Below B w w' := by
  rcases h with h | ⟨b, n, S, rfl, _, hU, _⟩
  · exact h.mono hB
  · rcases hr with ⟨h, _⟩ | ⟨b', S', h, hb, _⟩
    · cases h
    · simp only [Value.slice.injEq, Option.some.injEq, Addr.mk.injEq, and_true] at h
      obtain ⟨rfl, _, _⟩ := h
      exact hU.below (Below.refl _ _) hB hb

theorem src_sl {P : Program} {tx e' : TypeId} (hk : P.underlying tx = some (.slice e')) {k : IntKind} {w : World} {v : Value} {ys : List Int} (h : Sl k w v ys) : Src P 1 tx v ys.length (ys.map (Value.int k)) w := by
  obtain ⟨a, c, rfl, hc, h⟩ := h
  have ho : ∀ u ∈ ys.map (Value.int k), u.oneCell' = true := by intro u hu; obtain ⟨x, _, rfl⟩ := List.mem_map.1 hu; rfl
  rcases h with rfl | ⟨b, off, rfl, hb, hr⟩
  · cases a with
    | none => exact Src.ofNil w hk c
    | some a => exact Src.ofSlice w hk a 0 c [] (by simp) (by simp) (by simp)
  · refine Src.ofSlice w hk _ _ _ _ (by simp) (fun j u hj => ?_) ho
    have hl : j < ys.length := by have := (List.getElem?_eq_some_iff.1 hj).1; simpa using this
    have hadd : (⟨b, off, none⟩ : Addr).add j = ⟨b, off + j, none⟩ := by simp [Addr.add]
    rw [hadd, hr j hl, ← hj]; simp [hl]

theorem run_ap {P : Program} (w : World) (t tx ty e : TypeId) (i : TypeInfo) (k : IntKind) (ht : P.underlying t = some (.slice e)) (hi : P.info? e = some i) (hz : i.zero = some (.int k 0)) (hsize : i.size = 1) (hby : 0 < i.bytes)
    {B : Nat} {v : Value} {xs : List Int} (hr : Row k e B w v xs) {x : Value} {ys : List Int} (hs : Src P 1 tx x ys.length (ys.map (Value.int k)) w)
    (hb : (xs.length + ys.length) * i.bytes ≤ 140737488355328) (hB : B ≤ w.heap.size) :
    ∃ v' w', (Builtin.append_ #[t, tx] ty #[v, x]).run P w = .ok v' w' ∧ Row k e B w' v' (xs ++ ys) ∧ Grew k e w w' v ys := by
  have hle : xs.length + ys.length ≤ 140737488355328 := Nat.le_trans (Nat.le_mul_of_pos_right _ hby) hb
  have hs1 : Src P i.size tx x ys.length (ys.map (Value.int k)) w := by rw [hsize]; exact hs
  have grown : ∀ (base : Option Addr) (old : Nat), old < xs.length + ys.length → (Builtin.firstCells i.size xs.length (.slice base xs.length old)).run P w.drew = .ok (xs.map (Value.int k)).toArray w.drew →
      ∃ v' w', (Builtin.append_ #[t, tx] ty #[.slice base xs.length old, x]).run P w = .ok v' w' ∧ Row k e B w' v' (xs ++ ys) ∧ Grew k e w w' (.slice base xs.length old) ys := by
    intro base old ho hold
    have h1 := run_append_grow_src (P := P) w t tx ty e i (.int k 0) ht hi hz base xs.length old _ hold x ys.length _ hs1 ho (by omega) (growslice_fits (by omega) hb)
    refine ⟨_, _, h1, ?_, .inl ((Below.refl _ _).drew.alloc (Nat.le_refl _) _)⟩
    have hge := grownCap_ge w (xs.length + ys.length) old e
    have hcm : grownCap w (xs.length + ys.length) old e ≤ maxLen := grownCap_le_maxLen w _ old e (by unfold maxLen; omega)
    obtain ⟨C, hC⟩ : ∃ C, grownCap w (xs.length + ys.length) old e = xs.length + ys.length + C := ⟨_, (Nat.add_sub_of_le hge).symm⟩
    rw [hC] at hcm ⊢
    have hzc : Builtin.zeroCells (Value.cells (.int k 0)) C = (List.replicate C (.int k 0)).toArray := by
      apply Array.ext'
      simp only [Builtin.zeroCells, Value.cells]
      simp
      rw [List.eq_replicate_iff]
      exact ⟨by simp, fun y hy => by obtain ⟨j, _, rfl⟩ := List.mem_map.1 hy; simp [Nat.mod_one]⟩
    refine .inr ⟨w.heap.size, xs ++ ys ++ List.replicate C 0, ?_, hB, ?_, by simp, List.take_left, by simp; omega⟩
    · simp; omega
    · unfold Arr
      rw [show xs.length + ys.length + C - (xs.length + ys.length) = C by omega, hzc]
      have := heap_alloc_new w.drew (.cells ((xs.map (Value.int k) ++ ys.map (Value.int k)).toArray ++ (List.replicate C (Value.int k 0)).toArray) e)
      simp only [List.map_append, List.map_replicate]
      rw [show (w.drew.heap.size) = w.heap.size from rfl] at this
      rw [this]; simp
  rcases hr with ⟨rfl, rfl⟩ | ⟨b, S, rfl, hBb, hA, hl, htk, hm⟩
  · by_cases h0 : ys.length = 0
    · have hy : ys = [] := List.eq_nil_of_length_eq_zero h0
      subst hy
      refine ⟨.slice none 0 0, w, ?_, .inl ⟨rfl, rfl⟩, .inl (Below.refl _ _)⟩
      have h1 := hs1.cells
      have h2 := hs1.len
      simp only [List.length_nil, List.map_nil] at h1 h2
      rcases hs1.kind with ⟨e', hk⟩ | hk
      · simp [Builtin.append_, run_underlying ht, run_underlying hk, sizeOf, typeInfo, hi, h2, h1]
      · simp [Builtin.append_, run_underlying ht, run_underlying hk, sizeOf, typeInfo, hi, h2, h1]
    · exact grown none 0 (by simp; omega) (run_firstCells_none w.drew i.size 0 0 0)
  · by_cases hroom : xs.length + ys.length ≤ S.length
    · have hst := run_storeCells_at P b (xs.length * i.size) e (ys.map (Value.int k)) 0 _ w hA (by simp [hsize]; omega) hs1.one
      simp only [Nat.add_zero] at hst
      have hrun : (Builtin.append_ #[t, tx] ty #[.slice (some ⟨b, 0, none⟩) xs.length S.length, x]).run P w = .ok (.slice (some ⟨b, 0, none⟩) (xs.length + ys.length) S.length) (w.setRow b (((S.map (Value.int k)).toArray.toList.take (xs.length * i.size)) ++ ys.map (Value.int k) ++ ((S.map (Value.int k)).toArray.toList.drop (xs.length * i.size + (ys.map (Value.int k)).length))).toArray) := by
        rcases hs1.kind with ⟨e', hk⟩ | hk <;> simp [Builtin.append_, run_underlying ht, run_underlying hk, sizeOf, typeInfo, hi, hs1.len, hroom, hs1.cells, Addr.add_lit, hst]
      have hA' : Arr k e (w.setRow b (((S.map (Value.int k)).toArray.toList.take (xs.length * i.size)) ++ ys.map (Value.int k) ++ ((S.map (Value.int k)).toArray.toList.drop (xs.length * i.size + (ys.map (Value.int k)).length))).toArray) b (S.take xs.length ++ ys ++ S.drop (xs.length + ys.length)) := by
        unfold Arr
        rw [setRow_heap w b _ _ e _ hA]
        simp [hsize, List.map_take, List.map_drop]
      have hlen : (S.take xs.length ++ ys ++ S.drop (xs.length + ys.length)).length = S.length := by simp; omega
      refine ⟨_, _, hrun, .inr ⟨b, _, ?_, hBb, hA', ?_, ?_, ?_⟩, .inr ⟨b, xs.length, S, rfl, hA, ⟨rfl, rfl, rfl, by simp [World.setRow], fun j _ hj => setRow_other w b j _ (fun e => hj (by simp [e]))⟩, hroom, hA'⟩⟩
      · rw [hlen]; simp
      · rw [hlen]; simp; omega
      · rw [htk]; exact List.take_left
      · rw [hlen]; exact hm
    · refine grown (some ⟨b, 0, none⟩) S.length (by omega) (run_firstCells_some w.drew i.size xs.length ⟨b, 0, none⟩ xs.length S.length _ (by simp [hsize]) (fun j u hj => ?_))
      have hj' : j < xs.length := by have := (List.getElem?_eq_some_iff.1 hj).1; simpa using this
      have hadd : (⟨b, 0, none⟩ : Addr).add j = ⟨b, j, none⟩ := by simp [Addr.add]; try omega
      have := hA.cell j (by omega)
      rw [hadd]
      have e1 : (w.drew).cell? ⟨b, j, none⟩ = w.cell? ⟨b, j, none⟩ := rfl
      rw [e1, this, ← hj]
      have e2 : S.getD j 0 = xs.getD j 0 := by
        have : (S.take xs.length).getD j 0 = S.getD j 0 := by simp [List.getD, hj']
        rw [← this, htk]
      rw [e2]; simp [hj']

theorem wpList_ap {P : Program} {w : World} {ops : Array Oper} {rest : List Oper} {o : Oper} {a : Act} {Q : Exit → Act → World → Prop} (hgd : o.guard = none) (s x : Operand) (t tx : TypeId)
    (ho : o.op = .call { callee := .builtin .append, args := #[s, x], argTypes := #[t, tx] }) (k : IntKind) (e : TypeId) (bytes : Nat) (ht : P.underlying t = some (.slice e))
    (hi : (P.info? e).map (fun i => (i.zero, i.size, i.bytes)) = some (some (.int k 0), 1, bytes)) (hby : 0 < bytes)
    (B : Nat) (v : Value) (xs : List Int) (hs : a.eval s = v) (hr : Row k e B w v xs) (u : Value) (ys : List Int) (hx : a.eval x = u) (hy : Src P 1 tx u ys.length (ys.map (Value.int k)) w)
    (hb : (xs.length + ys.length) * bytes ≤ 140737488355328) (hB : B ≤ w.heap.size)
    (h : ∀ v' w', Row k e B w' v' (xs ++ ys) → Grew k e w w' v ys → wpList P ops Q rest (a.put o.dst v') w') : wpList P ops Q (o :: rest) a w := by
  obtain ⟨i0, hi0, hz0, hz1, hz2⟩ := info_parts hi
  refine wpList_plain hgd fun K hK => ?_
  obtain ⟨v', w', hrun, h2, h3⟩ := run_ap (P := P) w t tx o.type e i0 k ht hi0 hz0 hz1 (by omega) hr hy (by rw [hz2]; exact hb) hB
  unfold Oper.wp execOp
  simp only [ho, resolve, invoke, builtin, Sem.run_bind, Sem.run_pure, Result.andThen_ok, List.map_toArray, List.map_cons, List.map_nil, hs, hx, hrun]
  exact hK _ _ (h v' w' h2 h3)
/-- The same, as one step of a region that draws its order. -/
theorem step_ap {P : Program} {ops : Array Oper} {o : Oper} {a : Act} {w : World} {K : Act → World → Prop} {Q : Exit → Act → World → Prop} {E : Prop} (hgd : o.guard = none) (s x : Operand) (t tx : TypeId)
    (ho : o.op = .call { callee := .builtin .append, args := #[s, x], argTypes := #[t, tx] }) (k : IntKind) (e : TypeId) (bytes : Nat) (ht : P.underlying t = some (.slice e))
    (hi : (P.info? e).map (fun i => (i.zero, i.size, i.bytes)) = some (some (.int k 0), 1, bytes)) (hby : 0 < bytes)
    (B : Nat) (v : Value) (xs : List Int) (hs : a.eval s = v) (hr : Row k e B w v xs) (u : Value) (ys : List Int) (hx : a.eval x = u) (hy : Src P 1 tx u ys.length (ys.map (Value.int k)) w)
    (hb : (xs.length + ys.length) * bytes ≤ 140737488355328) (hB : B ≤ w.heap.size)
    (h : ∀ v' w', Row k e B w' v' (xs ++ ys) → Grew k e w w' v ys → K (a.put o.dst v') w') : if Region.wanted o (yielded ops a.tmps) = true then Oper.wp P o a w K Q else E := by
  have hw : Region.wanted o (yielded ops a.tmps) = true := by simp [Region.wanted, hgd]
  rw [if_pos hw]
  obtain ⟨i0, hi0, hz0, hz1, hz2⟩ := info_parts hi
  obtain ⟨v', w', hrun, h2, h3⟩ := run_ap (P := P) w t tx o.type e i0 k ht hi0 hz0 hz1 (by omega) hr hy (by rw [hz2]; exact hb) hB
  unfold Oper.wp execOp
  simp only [ho, resolve, invoke, builtin, Sem.run_bind, Sem.run_pure, Result.andThen_ok, List.map_toArray, List.map_cons, List.map_nil, hs, hx, hrun]
  exact h v' w' h2 h3
end Go.Proofs.YtjmiaakfdclfjaaGreatDoor
/-
  Blocks of cells of any kind (arrays, structs): loaded from and stored into whole or in part.
-/
namespace Go.Proofs.YtjmiaakfdclfjaaGreatDoor
open Go.RowKit

/-- Block b is whole, not frozen, and holds cs. -/
def Blk (T : TypeId) (w : World) (b : Nat) (cs : List Value) : Prop := w.heap[b]? = some (.cells cs.toArray T (0, 0))
/-- cs with vs written over it from o on. -/
def over (cs : List Value) (o : Nat) (vs : List Value) : List Value := cs.take o ++ (vs ++ cs.drop (o + vs.length))
theorem Arr.blk {k : IntKind} {e : TypeId} {w : World} {b : Nat} {xs : List Int} (h : Arr k e w b xs) : Blk e w b (xs.map (Value.int k)) := h
theorem Blk.arr {k : IntKind} {e : TypeId} {w : World} {b : Nat} {xs : List Int} (h : Blk e w b (xs.map (Value.int k))) : Arr k e w b xs := h
theorem Blk.lt {T : TypeId} {w : World} {b : Nat} {cs : List Value} (h : Blk T w b cs) : b < w.heap.size := (Array.getElem?_eq_some_iff.1 h).1
theorem Blk.cell {T : TypeId} {w : World} {b : Nat} {cs : List Value} (h : Blk T w b cs) (i : Nat) : w.cell? ⟨b, i, none⟩ = cs[i]? := by
  rw [cell_of_row w b i _ T (0, 0) h]; simp
theorem Blk.frozen {T : TypeId} {w : World} {b : Nat} {cs : List Value} (h : Blk T w b cs) (i : Nat) : w.frozen? ⟨b, i, none⟩ = false := frozen_of_row w b i _ T h
theorem Blk.set {T : TypeId} {w : World} {b : Nat} {cs : List Value} (h : Blk T w b cs) (i : Nat) (v : Value) : Blk T (w.setCell ⟨b, i, none⟩ v) b (cs.set i v) := by
  unfold Blk; rw [heap_setCell_same w b i _ T _ h]; simp
theorem Blk.range {T : TypeId} {w : World} {b : Nat} {cs : List Value} (h : Blk T w b cs) (o : Nat) (vs : List Value) (hv : (cs.drop o).take vs.length = vs) : w.rangeAt b o vs := by
  intro j v hj
  rw [h.cell]
  have hlt : j < vs.length := (List.getElem?_eq_some_iff.1 hj).1
  rw [← hv, List.getElem?_take, if_pos hlt, List.getElem?_drop] at hj
  exact hj
theorem Blk.whole {T : TypeId} {w : World} {b : Nat} {cs : List Value} (h : Blk T w b cs) : w.rangeAt b 0 cs := h.range 0 cs (by simp)
theorem Blk.there {T : TypeId} {w : World} {b : Nat} {cs : List Value} (h : Blk T w b cs) (o n : Nat) (ho : o + n ≤ cs.length) : w.there b o n := by
  intro j hj
  rw [h.cell, h.frozen]
  exact ⟨by simp [show o + j < cs.length by omega], rfl⟩
theorem setCells_blk {T : TypeId} {b : Nat} : ∀ (vs : List Value) (o : Nat) (w : World) (cs : List Value), Blk T w b cs → o + vs.length ≤ cs.length → Blk T (w.setCells b o vs) b (over cs o vs)
  | [], o, w, cs, h, _ => by simpa [over, World.setCells] using h
  | v :: vs, o, w, cs, h, ho => by
    simp only [List.length_cons] at ho
    have h1 := setCells_blk vs (o + 1) _ _ (h.set o v) (by simp; omega)
    simp only [World.setCells]
    have e : over (cs.set o v) (o + 1) vs = over cs o (v :: vs) := by
      unfold over
      rw [List.take_set, List.drop_set_of_lt (by omega), List.take_succ_eq_append_getElem (by omega), List.set_append_right _ _ (by simp; omega)]
      simp [show o ≤ cs.length by omega, Nat.add_assoc, Nat.add_comm 1]
    rw [e] at h1; exact h1
theorem Blk.setCells {T : TypeId} {w : World} {b : Nat} {cs : List Value} (h : Blk T w b cs) (o : Nat) (vs : List Value) (ho : o + vs.length ≤ cs.length) : Blk T (w.setCells b o vs) b (over cs o vs) := setCells_blk vs o w cs h ho
theorem Blk.fill {T : TypeId} {w : World} {b : Nat} {cs : List Value} (h : Blk T w b cs) (vs : List Value) (ho : vs.length = cs.length) : Blk T (w.setCells b 0 vs) b vs := by
  have := h.setCells 0 vs (by omega)
  rw [show over cs 0 vs = vs by simp [over, ho]] at this; exact this
theorem Upd.setCells {b : Nat} : ∀ (vs : List Value) (o : Nat) (w : World), Upd w (w.setCells b o vs) b
  | [], _, w => Upd.refl w b
  | v :: vs, o, w => (Upd.set w b o v).trans (Upd.setCells vs (o + 1) _)
theorem Upd.blk {T : TypeId} {w w' : World} {b b' : Nat} {cs : List Value} (h : Upd w w' b) (ha : Blk T w b' cs) (hne : b' ≠ b) : Blk T w' b' cs := by
  unfold Blk; rw [h.block b' ha.lt (by simp [hne])]; exact ha
theorem below_blk {B : Nat} {T : TypeId} {w w' : World} {b : Nat} {cs : List Value} (h : Below B w w') (hb : b < B) (ha : Blk T w b cs) : Blk T w' b cs := by
  unfold Blk; rw [h.block b hb]; exact ha
theorem Blk.alloc {T : TypeId} {w : World} {b : Nat} {cs : List Value} (h : Blk T w b cs) (o : Obj) : Blk T (w.alloc o) b cs :=
  below_blk ((Below.refl _ _).alloc (Nat.le_refl _) o) h.lt h
theorem Blk.new (T : TypeId) (w : World) (cs : List Value) : Blk T (w.alloc (.cells cs.toArray T)) w.heap.size cs := by
  unfold Blk; rw [heap_alloc_new]
theorem Blk.drewN {T : TypeId} {w : World} {b : Nat} {cs : List Value} (h : Blk T w b cs) (n : Nat) : Blk T (w.drewN n) b cs := h
theorem ints_one (k : IntKind) (xs : List Int) : (xs.map (Value.int k)).toArray.all (·.oneCell') = true :=
  all_oneCell_toArray (fun v hv => by obtain ⟨x, _, rfl⟩ := List.mem_map.1 hv; rfl)
theorem below_drewN {B : Nat} {w w' : World} (n : Nat) (h : Below B w w') : Below B w (w'.drewN n) := h.trans ⟨rfl, rfl, rfl, Nat.le_refl _, fun _ _ => rfl⟩
/-- A function with one result that lies in a block of its own. -/
theorem results_blk {P : Program} {fn : Func} {T : TypeId} {t : Tmp} (h : fn.results = #[.cell t T]) {a : Array Value} {w : World} {b : Nat} {cs : List Value} {d : TypeDesc} (ha : a.getD t undef = .pointer (some ⟨b, 0, none⟩))
    (hb : Blk T w b cs) (hu : P.underlying T = some d) (hd : d.isRow = true) (hi : (P.info? T).map (·.size) = some cs.length) : (results fn a).run P w = .ok (.agg cs.toArray) w := by
  have := run_loadVar_mid (P := P) w b 0 T cs d hb.whole hu hd hi
  have ha' : a[t]?.getD undef = .pointer (some ⟨b, 0, none⟩) := by simpa using ha
  simp [results, h, ha', asAddr, this]
/-- 'x[i]' of an array by value, its elements numbers. -/
theorem run_index_row {P : Program} (w : World) (T e : TypeId) (n : Nat) (k : IntKind) (cs : List Int) (t : Nat) (h : P.underlying T = some (.array n e)) (he : P.underlying e = some (.int k)) (h1 : (P.info? e).map (·.size) = some 1) (hn : cs.length = n) (ht : t < n) :
    (Instr.index T (.agg (cs.map (Value.int k)).toArray) (.int .i64 t)).run P w = .ok (.int k (cs.getD t 0)) w := by
  have h2 : (0 : Int) ≤ (t : Int) ∧ (t : Int) < (n : Int) := by omega
  cases hq : P.info? e with
  | none => simp [hq] at h1
  | some i =>
    have hs : i.size = 1 := by simpa [hq] using h1
    simp [Instr.index, run_underlying h, asIntOf, h2, part, isAgg, run_underlying he, sizeOf, typeInfo, hq, hs, show t < cs.length by omega]
    omega
end Go.Proofs.YtjmiaakfdclfjaaGreatDoor
/-
  A region that draws its order, whose first n operations are quiet in a class of worlds, and whose others wait for all of them and for one another: one walk of the text's order serves every order.
-/
namespace Go.Proofs.YtjmiaakfdclfjaaGreatDoor
section
variable {P : Program} {ops : Array Oper} {md : Region.Mode} {C : World → Prop}
/-- The first n have all come up. -/
def AllUp (listed : Array Bool) (n : Nat) : Prop := ∀ j, j < n → listed.getD j true = true
/-- Whatever order the first n come up in. -/
def wpFst (P : Program) (md : Region.Mode) (ops : Array Oper) (C : World → Prop) (n : Nat) (Q : Act → Prop) : Nat → Array Bool → Act → Prop
  | 0, listed, a => AllUp listed n ∧ Q a
  | fuel + 1, listed, a => (∃ i, i ∈ Region.ready md ops listed ∧ i < n) ∧
      ∀ i, i ∈ Region.ready md ops listed → i < n → qOp P ops C i (wpFst P md ops C n Q fuel (listed.setIfInBounds i true)) a
theorem not_up {listed : Array Bool} {n i : Nat} (h : i ∈ Region.ready md ops listed) (hn : i < n) : ¬ AllUp listed n := fun hu => by
  have h1 := (mem_ready.1 h).1
  rw [hu i hn] at h1
  exact Bool.noConfusion h1
theorem wpFst_first {n : Nat} {Q : Act → Prop} {i : Nat} {oi : Oper} {v : Value} (hi : ops[i]? = some oi) (hin : i < n)
    (hsel : ∀ (j : Nat) (o : Oper) cs b, ops[j]? = some o → o.op ≠ .select cs b) (fuel : Nat) :
    ∀ (listed : Array Bool) (a : Act),
      (∀ j oj, ops[j]? = some oj → j ≠ i → listed.getD j true = false → (∀ e ∈ oj.after, Region.binds md e = true → e.on ≠ i) → oi.apart ops oj = true) →
      i ∈ Region.ready md ops listed → YieldsIn P ops C oi v a →
      wpFst P md ops C n Q fuel (listed.setIfInBounds i true) (a.put oi.dst v) → wpFst P md ops C n Q (fuel + 1) listed a := by
  induction fuel with
  | zero =>
    intro listed a _ hr hy H
    refine ⟨⟨i, hr, hin⟩, fun j hj hjn => ?_⟩
    by_cases hji : j = i
    · subst hji; exact hy.qOp hi H
    · exact absurd H.1 (not_up (ready_mono hj hji) hjn)
  | succ fuel ih =>
    intro listed a hfree hr hy H
    refine ⟨⟨i, hr, hin⟩, fun j hj hjn => ?_⟩
    by_cases hji : j = i
    · subst hji; exact hy.qOp hi H
    · obtain ⟨hjun, oj, hoj, hall⟩ := mem_ready.1 hj
      have hno : ∀ e ∈ oj.after, Region.binds md e = true → e.on ≠ i := by
        intro e he hb heq
        have h1 := hall e he hb
        have h0 := (mem_ready.1 hr).1
        rw [heq] at h1
        by_cases hlt : i < listed.size
        · simp [hlt] at h0 h1; rw [h0] at h1; exact Bool.noConfusion h1
        · simp [Array.getElem?_eq_none (Nat.le_of_not_lt hlt)] at h1
      have h2 := qOp_put hoj (hfree j oj hoj hji hjun hno) (fun cs b => hsel i oi cs b hi) (fun cs b => hsel j oj cs b hoj) hy (H.2 j (ready_mono hj hji) hjn)
      refine qOp_mono (fun a' h3 => ih _ a' ?_ (ready_mono hr (Ne.symm hji)) h3.1 ?_) h2
      · intro k ok hk hki hun
        refine hfree k ok hk hki ?_
        by_cases hjk : j = k
        · rw [← hjk]; exact hjun
        · rw [getD_set_ne true hjk] at hun; exact hun
      · rw [Array.setIfInBounds_comm _ _ hji]; exact h3.2
/-- May the operations k, k + 1, .. (so many) be taken in this order, each free? -/
def lexTo (md : Region.Mode) (ops : Array Oper) : Nat → Nat → Array Bool → Bool
  | 0, _, _ => true
  | m + 1, k, listed => (Region.ready md ops listed).contains k && Region.free md ops listed k && lexTo md ops m (k + 1) (listed.setIfInBounds k true)
theorem wpFst_lex {n : Nat} {Q : Act → Prop} (hs : Region.noSelect ops = true) : ∀ (l : List Oper) (k : Nat) (listed : Array Bool) (a : Act), k + l.length = n → (∀ j, j < l.length → l[j]? = ops[k + j]?) → AllUp listed k →
    k + l.length ≤ listed.size → lexTo md ops l.length k listed = true → wpQuiet P ops C Q l a → wpFst P md ops C n Q l.length listed a
  | [], k, listed, a, hn, _, hu, _, _, h => by simp at hn; subst hn; exact ⟨hu, h⟩
  | o :: l, k, listed, a, hn, hl, hu, hsz, hB, h => by
    have h0 : ops[k]? = some o := by simpa using (hl 0 (by simp)).symm
    simp only [List.length_cons, lexTo, Bool.and_eq_true] at hB
    simp only [List.length_cons] at hn hsz
    obtain ⟨⟨hr, hf⟩, hB'⟩ := hB
    have hst : qOp P ops C k (wpQuiet P ops C Q l) a := by unfold qOp; simp only [h0]; exact h
    obtain ⟨v, hy, hK⟩ := yieldsIn_of_qOp h0 hst
    refine wpFst_first h0 (by omega) (Region.noSelect_spec hs) l.length listed a (Region.free_spec h0 hf) (by simpa using hr) hy ?_
    refine wpFst_lex hs l (k + 1) _ _ (by omega) (fun j hj => ?_) (fun j hj => ?_) (by simp; omega) hB' hK
    · have := hl (j + 1) (by simp; omega); simpa [Nat.add_assoc, Nat.add_comm 1 j] using this
    · by_cases hjk : k = j
      · subst hjk; simp [show k < listed.size by omega]
      · rw [getD_set_ne true hjk]; exact hu j (by omega)
/-- May number k have come up, of the first n, though number j has not? -/
def without (md : Region.Mode) (ops : Array Oper) (n j : Nat) : Nat → Nat → Bool
  | 0, _ => false
  | f + 1, k => decide (k < n) && k != j && ((ops[k]?).map fun o => o.after.all fun e => !Region.binds md e || without md ops n j f e.on).getD true
/-- No edge of the first n leads on. -/
def backB (md : Region.Mode) (ops : Array Oper) (n : Nat) : Bool := (List.range n).all fun k => ((ops[k]?).map fun o => o.after.all fun e => !Region.binds md e || decide (e.on < k)).getD true
/-- Each of the others waits, whichever of the first n has not come up. -/
def waitsB (md : Region.Mode) (ops : Array Oper) (n : Nat) : Bool :=
  backB md ops n && (List.range n).all fun j => (List.range ops.size).all fun i => decide (i < n) || ((ops[i]?).map fun o => o.after.any fun e => Region.binds md e && !without md ops n j ops.size e.on).getD false
/-- What has come up has come up behind what it waits for. -/
def Closed (md : Region.Mode) (ops : Array Oper) (listed : Array Bool) : Prop := ∀ k o, ops[k]? = some o → listed.getD k true = true → ∀ e ∈ o.after, Region.binds md e = true → listed.getD e.on false = true
theorem Closed.set {listed : Array Bool} (h : Closed md ops listed) {i : Nat} (hi : i ∈ Region.ready md ops listed) : Closed md ops (listed.setIfInBounds i true) := by
  obtain ⟨h0, oi, hoi, hall⟩ := mem_ready.1 hi
  have hlt : i < listed.size := Decidable.byContradiction fun hx => by simp [Array.getElem?_eq_none (Nat.le_of_not_lt hx)] at h0
  have up : ∀ k, listed.getD k false = true → (listed.setIfInBounds i true).getD k false = true := fun k hk => by
    by_cases hik : i = k
    · subst hik; simp [hlt]
    · rw [getD_set_ne false hik]; exact hk
  intro k o ho hl e he hb
  by_cases hik : i = k
  · subst hik
    rw [hoi] at ho
    cases ho
    exact up _ (hall e he hb)
  · rw [getD_set_ne true hik] at hl
    exact up _ (h k o ho hl e he hb)
theorem without_of {n j : Nat} (hB : backB md ops n = true) {listed : Array Bool} (hc : Closed md ops listed) (hlate : ∀ i, n ≤ i → i < ops.size → listed.getD i true = false) (hsz : listed.size = ops.size) (hj : listed.getD j true = false) :
    ∀ (f k : Nat), k < f → listed.getD k false = true → without md ops n j f k = true
  | 0, _, h, _ => by omega
  | f + 1, k, hk, hl => by
    have hks : k < listed.size := Decidable.byContradiction fun hx => by simp [Array.getElem?_eq_none (Nat.le_of_not_lt hx)] at hl
    have hl' : listed.getD k true = true := by simp [hks] at hl ⊢; exact hl
    have hkn : k < n := Decidable.byContradiction fun hx => by rw [hlate k (by omega) (by omega)] at hl'; exact Bool.noConfusion hl'
    have hkj : k ≠ j := fun hx => by rw [hx, hj] at hl'; exact Bool.noConfusion hl'
    cases ho : ops[k]? with
    | none => simp [without, hkn, hkj, ho]
    | some o =>
      have hb0 := List.all_eq_true.1 hB k (by simpa using hkn)
      simp only [ho, Option.map_some, Option.getD_some] at hb0
      simp only [without, ho, Option.map_some, Option.getD_some, hkn, decide_true, Bool.true_and, Bool.and_eq_true, bne_iff_ne, ne_eq, hkj, not_false_eq_true, true_and]
      refine Array.all_eq_true_iff_forall_mem.2 fun e he => ?_
      by_cases hbe : Region.binds md e = true
      · have h1 := Array.all_eq_true_iff_forall_mem.1 hb0 e he
        simp [hbe] at h1
        simp [hbe, without_of hB hc hlate hsz hj f e.on (by omega) (hc k o ho hl' e he hbe)]
      · simp [hbe]
theorem ready_below {n : Nat} (hB : waitsB md ops n = true) {listed : Array Bool} (hc : Closed md ops listed) (hlate : ∀ i, n ≤ i → i < ops.size → listed.getD i true = false) (hsz : listed.size = ops.size)
    {j : Nat} (hj : j ∈ Region.ready md ops listed) (hjn : j < n) {i : Nat} (hi : i ∈ Region.ready md ops listed) : i < n := by
  refine Decidable.byContradiction fun hge => ?_
  unfold waitsB at hB
  rw [Bool.and_eq_true] at hB
  obtain ⟨h0, oi, hoi, hall⟩ := mem_ready.1 hi
  have hlt : i < ops.size := (Array.getElem?_eq_some_iff.1 hoi).1
  have h1 := List.all_eq_true.1 (List.all_eq_true.1 hB.2 j (by simpa using hjn)) i (by simpa using hlt)
  simp only [hge, decide_false, Bool.false_or, hoi, Option.map_some, Option.getD_some] at h1
  obtain ⟨e, he, h2⟩ : ∃ e ∈ oi.after, (Region.binds md e && !without md ops n j ops.size e.on) = true := by
    rw [← Array.any_toList, List.any_eq_true] at h1
    obtain ⟨e, he, h2⟩ := h1
    exact ⟨e, by simpa using he, h2⟩
  rw [Bool.and_eq_true] at h2
  have h3 := hall e he h2.1
  have hes : e.on < ops.size := Decidable.byContradiction fun hx => by simp [Array.getElem?_eq_none (show listed.size ≤ e.on by omega)] at h3
  rw [without_of hB.1 hc hlate hsz (mem_ready.1 hj).1 ops.size e.on hes h3] at h2
  simp at h2
theorem wpAny_of_fst {n m : Nat} {Q : Act → Prop} {Q' : Exit → Act → World → Prop} (hB : waitsB md ops n = true)
    (hQ : ∀ (listed : Array Bool) (a : Act) (w : World), listed.size = ops.size → AllUp listed n → (∀ i, n ≤ i → i < ops.size → listed.getD i true = false) → C w → Q a → wpAny P md ops Q' m listed a w) :
    ∀ (fuel : Nat) (listed : Array Bool) (a : Act) (w : World), Closed md ops listed → listed.size = ops.size → (∀ i, n ≤ i → i < ops.size → listed.getD i true = false) → C w → wpFst P md ops C n Q fuel listed a → wpAny P md ops Q' (fuel + m) listed a w
  | 0, listed, a, w, _, hsz, hlate, hw, h => by rw [Nat.zero_add]; exact hQ listed a w hsz h.1 hlate hw h.2
  | fuel + 1, listed, a, w, hc, hsz, hlate, hw, h => by
    obtain ⟨⟨j, hj, hjn⟩, hall⟩ := h
    rw [show fuel + 1 + m = (fuel + m) + 1 by omega]
    refine ⟨fun h0 => by rw [h0] at hj; simp at hj, fun i hi => ?_⟩
    have hin := ready_below hB hc hlate hsz hj hjn hi
    refine wpOp_of_qOp hw (fun a' w' hw' h' => wpAny_of_fst hB hQ fuel _ a' w' (hc.set hi) (by simp [hsz]) (fun k hk hks => ?_) hw' h') (hall i hi hin)
    rw [getD_set_ne true (by omega)]; exact hlate k hk hks
/-- Does each of the others come up alone? -/
def lonely (md : Region.Mode) (ops : Array Oper) : Nat → Nat → Array Bool → Bool
  | 0, _, listed => (Region.ready md ops listed).isEmpty
  | m + 1, k, listed => (Region.ready md ops listed) == [k] && lonely md ops m (k + 1) (listed.setIfInBounds k true)
theorem wpAny_lonely {Q : Exit → Act → World → Prop} : ∀ (l : List Oper) (k : Nat) (listed : Array Bool) (a : Act) (w : World), (∀ j, l[j]? = ops[k + j]?) → lonely md ops l.length k listed = true → wpList P ops Q l a w → wpAny P md ops Q l.length listed a w
  | [], _, _, _, _, _, hB, h => ⟨by simpa [lonely] using hB, h⟩
  | o :: l, k, listed, a, w, hl, hB, h => by
    have h0 : ops[k]? = some o := by simpa using (hl 0).symm
    simp only [List.length_cons, lonely, Bool.and_eq_true] at hB
    obtain ⟨hr, hB'⟩ := hB
    have hr' := eq_of_beq hr
    refine ⟨fun h1 => by rw [hr'] at h1; simp at h1, fun i hi => ?_⟩
    rw [hr'] at hi
    have : i = k := by simpa using hi
    subst this
    have h2 : wpOp P ops Q i (wpList P ops Q l) a w := by unfold wpOp; simp only [h0]; exact h
    exact wpOp_mono (fun a' w' h' => wpAny_lonely l (i + 1) _ a' w' (fun j => by have := hl (j + 1); simpa [Nat.add_assoc, Nat.add_comm 1 j] using this) hB' h') h2
def upTo (n size : Nat) : Array Bool := ((List.range size).map fun i => decide (i < n)).toArray
def qsB (n : Nat) (ops : Array Oper) : Bool :=
  Region.noSelect ops && lexTo .any ops n 0 (Array.replicate ops.size false) && waitsB .any ops n && lonely .any ops (ops.size - n) n (upTo n ops.size) && decide (n ≤ ops.size)
theorem eq_upTo {listed : Array Bool} {n size : Nat} (hsz : listed.size = size) (hu : AllUp listed n) (hl : ∀ i, n ≤ i → i < size → listed.getD i true = false) : listed = upTo n size := by
  refine Array.ext (by simp [upTo, hsz]) fun i h1 h2 => ?_
  have e : (upTo n size)[i] = decide (i < n) := by simp [upTo]
  rw [e]
  by_cases h : i < n
  · have := hu i h; simp [h1] at this; simp [this, h]
  · have := hl i (by omega) (by omega); simp [h1] at this; simp [this]; omega
theorem wp_region_qs (n : Nat) {id : Nat} {Q : Exit → Act → World → Prop} {a : Act} {w : World} {l : List Oper} (hm : P.follows .mixedOrders = true) (hB : qsB n l.toArray = true) (hC : C { w with drawn := w.drawn + 1 })
    (h : wpQuiet P l.toArray C (fun a' => ∀ w', C w' → wpList P l.toArray Q (l.drop n) a' w') (l.take n) a) : (Code.region id l.toArray true).wp P Q a w := by
  simp only [qsB, Bool.and_eq_true, decide_eq_true_eq] at hB
  obtain ⟨⟨⟨⟨hs, hlex⟩, hwait⟩, hlone⟩, hn⟩ := hB
  have hn' : n ≤ l.length := by simpa using hn
  refine wp_region_any hm ?_
  have hf := wpFst_lex (n := n) (md := .any) hs (l.take n) 0 (Array.replicate l.toArray.size false) a (by simp; omega) (fun j hj => by simp at hj; simp [show j < n by omega]) (fun j hj => by omega)
    (by simp; omega) (by simpa [Nat.min_eq_left hn'] using hlex) h
  have hlen : (l.take n).length = n := by simp; omega
  rw [hlen] at hf
  have := wpAny_of_fst (m := l.length - n) (Q' := Q) hwait (fun listed a' w' hsz hu hlate hw' hq => by
    have e := eq_upTo hsz hu hlate
    subst e
    have := wpAny_lonely (md := .any) (l.drop n) n (upTo n l.toArray.size) a' w' (fun j => by simp) (by simpa using hlone) (hq w' hw')
    simpa using this) n (Array.replicate l.toArray.size false) a { w with drawn := w.drawn + 1 } (fun k o ho hl => by have hk : k < l.toArray.size := (Array.getElem?_eq_some_iff.1 ho).1; simp at hk; simp [hk] at hl) (by simp) (fun i hi hi2 => by simp at hi2; simp [hi2]) hC hf
  rw [show n + (l.length - n) = l.toArray.size by simp; omega] at this
  exact this
/-- At the class 'w after some draws'. -/
theorem wp_region_qsd (n : Nat) {id : Nat} {Q : Exit → Act → World → Prop} {a : Act} {w : World} {l : List Oper} (hm : P.follows .mixedOrders = true) (hB : qsB n l.toArray = true)
    (h : wpQuiet P l.toArray (fun w' => ∃ q, w' = w.drewN q) (fun a' => ∀ w', (∃ q, w' = w.drewN q) → wpList P l.toArray Q (l.drop n) a' w') (l.take n) a) : (Code.region id l.toArray true).wp P Q a w :=
  wp_region_qs (C := fun w' => ∃ q, w' = w.drewN q) n hm hB ⟨1, rfl⟩ h
end
end Go.Proofs.YtjmiaakfdclfjaaGreatDoor
/-
  Der: words of memory, bytes lent and kept, the same bytes (as for digest).
-/
namespace Go.Proofs.YtjmiaakfdclfjaaGreatDoor
open Go.RowKit
theorem Tryz.und8 : Tryz.prog.underlying 22 = some (.slice 5) := by kernel_rfl
theorem Tryz.info8 : (Tryz.prog.info? 5).map (fun i => (i.zero, i.size, i.bytes)) = some (some (.int .u8 0), 1, 1) := by kernel_rfl
def U8 (x : Int) : Prop := 0 ≤ x ∧ x < 256
def U8s (xs : List Int) : Prop := ∀ x ∈ xs, U8 x
theorem U8s.at {xs : List Int} (h : U8s xs) (i : Nat) : U8 (xs.getD i 0) := by
  by_cases hi : i < xs.length
  · simp [hi]; exact h _ (List.getElem_mem hi)
  · simp [List.getD, List.getElem?_eq_none (Nat.le_of_not_lt hi), U8]
theorem U8s.append {xs ys : List Int} (h : U8s xs) (k : U8s ys) : U8s (xs ++ ys) := by
  intro y hy; rcases List.mem_append.1 hy with hy | hy
  · exact h y hy
  · exact k y hy
theorem U8s.take {xs : List Int} (h : U8s xs) (n : Nat) : U8s (xs.take n) := fun y hy => h y (List.mem_of_mem_take hy)
theorem U8s.drop {xs : List Int} (h : U8s xs) (n : Nat) : U8s (xs.drop n) := fun y hy => h y (List.mem_of_mem_drop hy)
theorem arr_newB {k : IntKind} {e : TypeId} {w : World} {S : List Int} {cs : List Value} (h : cs = S.map (Value.int k)) : Arr k e (w.alloc (.cells cs.toArray e)) w.heap.size S := by subst h; exact Blk.new e w _
theorem Tryz.e8 : Tryz.prog.underlying 5 = some (.int .u8) := by kernel_rfl
theorem Tryz.str : Tryz.prog.underlying 9 = some .string := by kernel_rfl
/-- A new row of numbers, marked or not, reads them. -/
theorem new_sl {k : IntKind} {e : TypeId} {w : World} (S : List Int) (fr : Nat × Nat) : Sl k (w.alloc (.cells (S.map (Value.int k)).toArray e fr)) (.slice (some ⟨w.heap.size, 0, none⟩) S.length S.length) S :=
  ⟨_, _, rfl, Nat.le_refl _, .inr ⟨w.heap.size, 0, rfl, by simp, fun i hi => by
    rw [cell_of_row _ _ _ (S.map (Value.int k)).toArray e fr (heap_alloc_new _ _)]
    simp [hi]⟩⟩
theorem al1 {w : World} (o : Obj) : Below w.heap.size w (w.alloc o) := (Below.refl _ _).alloc (Nat.le_refl _) o
theorem below_via {B : Nat} {w w1 w2 : World} (h : Below B w w1) (h' : Below w1.heap.size w1 w2) (hB : B ≤ w.heap.size) : Below B w w2 := h.trans (h'.mono (Nat.le_trans hB h.size))
theorem nil_sl (w : World) : Sl .u8 w (.slice none 0 0) [] := ⟨none, 0, rfl, Nat.le_refl _, .inl rfl⟩
theorem nil_u8 : U8s [] := by intro x hx; simp at hx
theorem al2' {a w : World} {o : Obj} (h : Below a.heap.size a w) : Below a.heap.size a (w.alloc o) := h.alloc h.size o
theorem arr_nw {k : IntKind} {e : TypeId} {w : World} {b : Nat} {cs : Array Value} {xs : List Int} (hb : b = w.heap.size) (h : cs = (xs.map (Value.int k)).toArray) : Arr k e (w.alloc (.cells cs e)) b xs := by subst hb; subst h; exact Blk.new e w _
/-- A lent list: a block from B on that holds X, the two marks, and whatever else. -/
def LentR8 (B : Nat) (w : World) (v : Value) (X : List Int) : Prop :=
  ∃ b S, v = .slice (some ⟨b, 0, none⟩) X.length S.length ∧ B ≤ b ∧ Arr .u8 5 w b S ∧ S.take (X.length + 2) = X ++ [90, 165] ∧ X.length + 2 ≤ S.length ∧ S.length ≤ maxLen
theorem LentR8.sl {B : Nat} {w : World} {v : Value} {X : List Int} (h : LentR8 B w v X) : Sl .u8 w v X := by
  obtain ⟨b, S, rfl, _, hA, ht, hl, _⟩ := h
  refine ⟨_, _, rfl, by omega, .inr ⟨b, 0, rfl, hA.lt, ?_⟩⟩
  have h1 := hA.rd 0 X.length (by omega)
  have e : S.take X.length = X := by
    have : (S.take (X.length + 2)).take X.length = S.take X.length := by rw [List.take_take]; congr 1; omega
    rw [← this, ht, List.take_left]
  rw [List.drop_zero, e] at h1; exact h1
theorem LentR8.below {B : Nat} {w w' : World} {v : Value} {X : List Int} (h : LentR8 B w v X) (hb : Below w.heap.size w w') : LentR8 B w' v X := by
  obtain ⟨b, S, rfl, h1, hA, h2⟩ := h
  exact ⟨b, S, rfl, h1, below_arr hb hA.lt hA, h2⟩
theorem LentR8.mono {B B' : Nat} {w : World} {v : Value} {X : List Int} (h : LentR8 B w v X) (hb : B' ≤ B) : LentR8 B' w v X := by
  obtain ⟨b, S, rfl, h1, h2⟩ := h
  exact ⟨b, S, rfl, by omega, h2⟩
theorem new1 {w : World} {e : TypeId} (x : Int) : Sl .u8 (w.alloc (.cells #[.int .u8 x] e)) (.slice (some ⟨w.heap.size, 0, none⟩) 1 1) [x] := new_sl [x] (0, 0)
theorem row0 {w : World} : Row .u8 5 w.heap.size (w.alloc (.cells #[] 5)) (.slice (some ⟨w.heap.size, 0, none⟩) 0 0) [] := Row.arr (S := []) (Blk.new 5 w []) (Nat.le_refl _) (by decide)
theorem al2 {a w : World} {o : Obj} (h : Below a.heap.size a w) : Below a.heap.size a (w.alloc o) := h.alloc h.size o
end Go.Proofs.YtjmiaakfdclfjaaGreatDoor
/-
  Der: the page's examples of numbers.
-/
namespace Go.Proofs.YtjmiaakfdclfjaaGreatDoor
open Go.RowKit
end Go.Proofs.YtjmiaakfdclfjaaGreatDoor
