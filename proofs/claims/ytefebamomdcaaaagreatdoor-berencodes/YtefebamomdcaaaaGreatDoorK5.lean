/-
  append onto a slice that lies in a whole block of its own (or is nil), from whatever source, in the words of Base.
-/
import Derived.Deep.AppendSrc
import Derived.Deep.RegionHeld3
import Derived.Test.YtefebamomdcaaaaGreatDoorK4
namespace Go.Proofs.YtefebamomdcaaaaGreatDoor
open Go.RowKit

/-- A slice of the call's own: memory from block B on, the head of a whole block of numbers, or nil; it reads xs. -/
def Row (k : IntKind) (e : TypeId) (B : Nat) (w : World) (v : Value) (xs : List Int) : Prop :=
  (v = .slice none 0 0 ∧ xs = []) ∨ ∃ b S, v = .slice (some ⟨b, 0, none⟩) xs.length S.length ∧ B ≤ b ∧ Arr k e w b S ∧ xs.length ≤ S.length ∧ S.take xs.length = xs ∧ S.length ≤ maxLen
/-- What an append has done: only new memory, or the spare room of v's block has been written. -/
def Grew (k : IntKind) (e : TypeId) (w w' : World) (v : Value) (ys : List Int) : Prop :=
  Below w.heap.size w w' ∨ ∃ b n S, v = .slice (some ⟨b, 0, none⟩) n S.length ∧ Arr k e w b S ∧ Upd w w' b ∧ n + ys.length ≤ S.length ∧ Arr k e w' b (S.take n ++ ys ++ S.drop (n + ys.length))

theorem Row.nil (k : IntKind) (e : TypeId) (B : Nat) (w : World) : Row k e B w (.slice none 0 0) [] := .inl ⟨rfl, rfl⟩
theorem Row.sl {k : IntKind} {e : TypeId} {B : Nat} {w : World} {v : Value} {xs : List Int} (h : Row k e B w v xs) : Sl k w v xs := by
  rcases h with ⟨rfl, rfl⟩ | ⟨b, S, rfl, _, hA, hl, ht, _⟩
  · exact ⟨none, 0, rfl, Nat.le_refl _, .inl rfl⟩
  · refine ⟨_, _, rfl, hl, .inr ⟨b, 0, rfl, hA.lt, ?_⟩⟩
    have := hA.rd 0 xs.length (by omega)
    rw [List.drop_zero, ht] at this; exact this
theorem Row.below {k : IntKind} {e : TypeId} {B : Nat} {w w' : World} {v : Value} {xs : List Int} (h : Row k e B w v xs) (hb : Below w.heap.size w w') : Row k e B w' v xs := by
  rcases h with h | ⟨b, S, rfl, h1, hA, h2⟩
  · exact .inl h
  · exact .inr ⟨b, S, rfl, h1, below_arr hb hA.lt hA, h2⟩
theorem Row.mono {k : IntKind} {e : TypeId} {B B' : Nat} {w : World} {v : Value} {xs : List Int} (h : Row k e B w v xs) (hb : B' ≤ B) : Row k e B' w v xs := by
  rcases h with h | ⟨b, S, rfl, h1, h2⟩
  · exact .inl h
  · exact .inr ⟨b, S, rfl, by omega, h2⟩
theorem Row.ne {k : IntKind} {e : TypeId} {B : Nat} {w : World} {v : Value} {xs : List Int} (h : Row k e B w v xs) : ∃ a c, v = .slice a xs.length c := by
  rcases h with ⟨rfl, rfl⟩ | ⟨b, S, rfl, _⟩
  · exact ⟨_, _, rfl⟩
  · exact ⟨_, _, rfl⟩
theorem Row.open {k : IntKind} {e : TypeId} {B : Nat} {w : World} {v : Value} {xs : List Int} (h : Row k e B w v xs) (n : Nat) (hn : xs.length = n) (h0 : 0 < n) :
    ∃ b S, v = .slice (some ⟨b, 0, none⟩) n S.length ∧ B ≤ b ∧ Arr k e w b S ∧ n ≤ S.length ∧ S.take n = xs ∧ S.length ≤ maxLen := by
  subst hn
  rcases h with ⟨_, rfl⟩ | h
  · simp at h0
  · exact h
theorem Row.arr {k : IntKind} {e : TypeId} {B : Nat} {w : World} {b : Nat} {S : List Int} (h : Arr k e w b S) (hB : B ≤ b) (hl : S.length ≤ maxLen) : Row k e B w (.slice (some ⟨b, 0, none⟩) S.length S.length) S :=
  .inr ⟨b, S, rfl, hB, h, Nat.le_refl _, List.take_length, hl⟩
theorem Row.alloc {k : IntKind} {e : TypeId} {B : Nat} {w : World} {v : Value} {xs : List Int} (h : Row k e B w v xs) (o : Obj) : Row k e B (w.alloc o) v xs :=
  h.below ((Below.refl _ _).alloc (Nat.le_refl _) o)
theorem Grew.below {k : IntKind} {e : TypeId} {B : Nat} {w w' : World} {v : Value} {xs ys : List Int} (h : Grew k e w w' v ys) (hr : Row k e B w v xs) (hB : B ≤ w.heap.size) : Below B w w' := by
  rcases h with h | ⟨b, n, S, rfl, _, hU, _⟩
  · exact h.mono hB
  · rcases hr with ⟨h, _⟩ | ⟨b', S', h, hb, _⟩
    · cases h
    · simp only [Value.slice.injEq, Option.some.injEq, Addr.mk.injEq, and_true] at h
      obtain ⟨rfl, _, _⟩ := h
      exact hU.below (Below.refl _ _) hB hb

theorem src_sl {P : Program} {tx e' : TypeId} (hk : P.underlying tx = some (.slice e')) {k : IntKind} {w : World} {v : Value} {ys : List Int} (h : Sl k w v ys) : Src P 1 tx v ys.length (ys.map (Value.int k)) w := by
  obtain ⟨a, c, rfl, hc, h⟩ := h
  have ho : ∀ u ∈ ys.map (Value.int k), u.oneCell' = true := by intro u hu; obtain ⟨x, _, rfl⟩ := List.mem_map.1 hu; rfl
  rcases h with rfl | ⟨b, off, rfl, hb, hr⟩
  · cases a with
    | none => exact Src.ofNil w hk c
    | some a => exact Src.ofSlice w hk a 0 c [] (by simp) (by simp) (by simp)
  · refine Src.ofSlice w hk _ _ _ _ (by simp) (fun j u hj => ?_) ho
    have hl : j < ys.length := by have := (List.getElem?_eq_some_iff.1 hj).1; simpa using this
    have hadd : (⟨b, off, none⟩ : Addr).add j = ⟨b, off + j, none⟩ := by simp [Addr.add]
    rw [hadd, hr j hl, ← hj]; simp [hl]

theorem run_ap {P : Program} (w : World) (t tx ty e : TypeId) (i : TypeInfo) (k : IntKind) (ht : P.underlying t = some (.slice e)) (hi : P.info? e = some i) (hz : i.zero = some (.int k 0)) (hsize : i.size = 1) (hby : 0 < i.bytes)
    {B : Nat} {v : Value} {xs : List Int} (hr : Row k e B w v xs) {x : Value} {ys : List Int} (hs : Src P 1 tx x ys.length (ys.map (Value.int k)) w)
    (hb : (xs.length + ys.length) * i.bytes ≤ 140737488355328) (hB : B ≤ w.heap.size) :
    ∃ v' w', (Builtin.append_ #[t, tx] ty #[v, x]).run P w = .ok v' w' ∧ Row k e B w' v' (xs ++ ys) ∧ Grew k e w w' v ys := by
  have hle : xs.length + ys.length ≤ 140737488355328 := Nat.le_trans (Nat.le_mul_of_pos_right _ hby) hb
  have hs1 : Src P i.size tx x ys.length (ys.map (Value.int k)) w := by rw [hsize]; exact hs
  have grown : ∀ (base : Option Addr) (old : Nat), old < xs.length + ys.length → (Builtin.firstCells i.size xs.length (.slice base xs.length old)).run P w.drew = .ok (xs.map (Value.int k)).toArray w.drew →
      ∃ v' w', (Builtin.append_ #[t, tx] ty #[.slice base xs.length old, x]).run P w = .ok v' w' ∧ Row k e B w' v' (xs ++ ys) ∧ Grew k e w w' (.slice base xs.length old) ys := by
    intro base old ho hold
    have h1 := run_append_grow_src (P := P) w t tx ty e i (.int k 0) ht hi hz base xs.length old _ hold x ys.length _ hs1 ho (by omega) (growslice_fits (by omega) hb)
    refine ⟨_, _, h1, ?_, .inl ((Below.refl _ _).drew.alloc (Nat.le_refl _) _)⟩
    have hge := grownCap_ge w (xs.length + ys.length) old e
    have hcm : grownCap w (xs.length + ys.length) old e ≤ maxLen := grownCap_le_maxLen w _ old e (by unfold maxLen; omega)
    obtain ⟨C, hC⟩ : ∃ C, grownCap w (xs.length + ys.length) old e = xs.length + ys.length + C := ⟨_, (Nat.add_sub_of_le hge).symm⟩
    rw [hC] at hcm ⊢
    have hzc : Builtin.zeroCells (Value.cells (.int k 0)) C = (List.replicate C (.int k 0)).toArray := by
      apply Array.ext'
      simp only [Builtin.zeroCells, Value.cells]
      simp
      rw [List.eq_replicate_iff]
      exact ⟨by simp, fun y hy => by obtain ⟨j, _, rfl⟩ := List.mem_map.1 hy; simp [Nat.mod_one]⟩
    refine .inr ⟨w.heap.size, xs ++ ys ++ List.replicate C 0, ?_, hB, ?_, by simp, List.take_left, by simp; omega⟩
    · simp; omega
    · unfold Arr
      rw [show xs.length + ys.length + C - (xs.length + ys.length) = C by omega, hzc]
      have := heap_alloc_new w.drew (.cells ((xs.map (Value.int k) ++ ys.map (Value.int k)).toArray ++ (List.replicate C (Value.int k 0)).toArray) e)
      simp only [List.map_append, List.map_replicate]
      rw [show (w.drew.heap.size) = w.heap.size from rfl] at this
      rw [this]; simp
  rcases hr with ⟨rfl, rfl⟩ | ⟨b, S, rfl, hBb, hA, hl, htk, hm⟩
  · by_cases h0 : ys.length = 0
    · have hy : ys = [] := List.eq_nil_of_length_eq_zero h0
      subst hy
      refine ⟨.slice none 0 0, w, ?_, .inl ⟨rfl, rfl⟩, .inl (Below.refl _ _)⟩
      have h1 := hs1.cells
      have h2 := hs1.len
      simp only [List.length_nil, List.map_nil] at h1 h2
      rcases hs1.kind with ⟨e', hk⟩ | hk
      · simp [Builtin.append_, run_underlying ht, run_underlying hk, sizeOf, typeInfo, hi, h2, h1]
      · simp [Builtin.append_, run_underlying ht, run_underlying hk, sizeOf, typeInfo, hi, h2, h1]
    · exact grown none 0 (by simp; omega) (run_firstCells_none w.drew i.size 0 0 0)
  · by_cases hroom : xs.length + ys.length ≤ S.length
    · have hst := run_storeCells_at P b (xs.length * i.size) e (ys.map (Value.int k)) 0 _ w hA (by simp [hsize]; omega) hs1.one
      simp only [Nat.add_zero] at hst
      have hrun : (Builtin.append_ #[t, tx] ty #[.slice (some ⟨b, 0, none⟩) xs.length S.length, x]).run P w = .ok (.slice (some ⟨b, 0, none⟩) (xs.length + ys.length) S.length) (w.setRow b (((S.map (Value.int k)).toArray.toList.take (xs.length * i.size)) ++ ys.map (Value.int k) ++ ((S.map (Value.int k)).toArray.toList.drop (xs.length * i.size + (ys.map (Value.int k)).length))).toArray) := by
        rcases hs1.kind with ⟨e', hk⟩ | hk <;> simp [Builtin.append_, run_underlying ht, run_underlying hk, sizeOf, typeInfo, hi, hs1.len, hroom, hs1.cells, Addr.add_lit, hst]
      have hA' : Arr k e (w.setRow b (((S.map (Value.int k)).toArray.toList.take (xs.length * i.size)) ++ ys.map (Value.int k) ++ ((S.map (Value.int k)).toArray.toList.drop (xs.length * i.size + (ys.map (Value.int k)).length))).toArray) b (S.take xs.length ++ ys ++ S.drop (xs.length + ys.length)) := by
        unfold Arr
        rw [setRow_heap w b _ _ e _ hA]
        simp [hsize, List.map_take, List.map_drop]
      have hlen : (S.take xs.length ++ ys ++ S.drop (xs.length + ys.length)).length = S.length := by simp; omega
      refine ⟨_, _, hrun, .inr ⟨b, _, ?_, hBb, hA', ?_, ?_, ?_⟩, .inr ⟨b, xs.length, S, rfl, hA, ⟨rfl, rfl, rfl, by simp [World.setRow], fun j _ hj => setRow_other w b j _ (fun e => hj (by simp [e]))⟩, hroom, hA'⟩⟩
      · rw [hlen]; simp
      · rw [hlen]; simp; omega
      · rw [htk]; exact List.take_left
      · rw [hlen]; exact hm
    · refine grown (some ⟨b, 0, none⟩) S.length (by omega) (run_firstCells_some w.drew i.size xs.length ⟨b, 0, none⟩ xs.length S.length _ (by simp [hsize]) (fun j u hj => ?_))
      have hj' : j < xs.length := by have := (List.getElem?_eq_some_iff.1 hj).1; simpa using this
      have hadd : (⟨b, 0, none⟩ : Addr).add j = ⟨b, j, none⟩ := by simp [Addr.add]; try omega
      have := hA.cell j (by omega)
      rw [hadd]
      have e1 : (w.drew).cell? ⟨b, j, none⟩ = w.cell? ⟨b, j, none⟩ := rfl
      rw [e1, this, ← hj]
      have e2 : S.getD j 0 = xs.getD j 0 := by
        have : (S.take xs.length).getD j 0 = S.getD j 0 := by simp [List.getD, hj']
        rw [← this, htk]
      rw [e2]; simp [hj']

theorem wpList_ap {P : Program} {w : World} {ops : Array Oper} {rest : List Oper} {o : Oper} {a : Act} {Q : Exit → Act → World → Prop} (hgd : o.guard = none) (s x : Operand) (t tx : TypeId)
    (ho : o.op = .call { callee := .builtin .append, args := #[s, x], argTypes := #[t, tx] }) (k : IntKind) (e : TypeId) (bytes : Nat) (ht : P.underlying t = some (.slice e))
    (hi : (P.info? e).map (fun i => (i.zero, i.size, i.bytes)) = some (some (.int k 0), 1, bytes)) (hby : 0 < bytes)
    (B : Nat) (v : Value) (xs : List Int) (hs : a.eval s = v) (hr : Row k e B w v xs) (u : Value) (ys : List Int) (hx : a.eval x = u) (hy : Src P 1 tx u ys.length (ys.map (Value.int k)) w)
    (hb : (xs.length + ys.length) * bytes ≤ 140737488355328) (hB : B ≤ w.heap.size)
    (h : ∀ v' w', Row k e B w' v' (xs ++ ys) → Grew k e w w' v ys → wpList P ops Q rest (a.put o.dst v') w') : wpList P ops Q (o :: rest) a w := by
  obtain ⟨i0, hi0, hz0, hz1, hz2⟩ := info_parts hi
  refine wpList_plain hgd fun K hK => ?_
  obtain ⟨v', w', hrun, h2, h3⟩ := run_ap (P := P) w t tx o.type e i0 k ht hi0 hz0 hz1 (by omega) hr hy (by rw [hz2]; exact hb) hB
  unfold Oper.wp execOp
  simp only [ho, resolve, invoke, builtin, Sem.run_bind, Sem.run_pure, Result.andThen_ok, List.map_toArray, List.map_cons, List.map_nil, hs, hx, hrun]
  exact hK _ _ (h v' w' h2 h3)
/-- The same, as one step of a region that draws its order. -/
theorem step_ap {P : Program} {ops : Array Oper} {o : Oper} {a : Act} {w : World} {K : Act → World → Prop} {Q : Exit → Act → World → Prop} {E : Prop} (hgd : o.guard = none) (s x : Operand) (t tx : TypeId)
    (ho : o.op = .call { callee := .builtin .append, args := #[s, x], argTypes := #[t, tx] }) (k : IntKind) (e : TypeId) (bytes : Nat) (ht : P.underlying t = some (.slice e))
    (hi : (P.info? e).map (fun i => (i.zero, i.size, i.bytes)) = some (some (.int k 0), 1, bytes)) (hby : 0 < bytes)
    (B : Nat) (v : Value) (xs : List Int) (hs : a.eval s = v) (hr : Row k e B w v xs) (u : Value) (ys : List Int) (hx : a.eval x = u) (hy : Src P 1 tx u ys.length (ys.map (Value.int k)) w)
    (hb : (xs.length + ys.length) * bytes ≤ 140737488355328) (hB : B ≤ w.heap.size)
    (h : ∀ v' w', Row k e B w' v' (xs ++ ys) → Grew k e w w' v ys → K (a.put o.dst v') w') : if Region.wanted o (yielded ops a.tmps) = true then Oper.wp P o a w K Q else E := by
  have hw : Region.wanted o (yielded ops a.tmps) = true := by simp [Region.wanted, hgd]
  rw [if_pos hw]
  obtain ⟨i0, hi0, hz0, hz1, hz2⟩ := info_parts hi
  obtain ⟨v', w', hrun, h2, h3⟩ := run_ap (P := P) w t tx o.type e i0 k ht hi0 hz0 hz1 (by omega) hr hy (by rw [hz2]; exact hb) hB
  unfold Oper.wp execOp
  simp only [ho, resolve, invoke, builtin, Sem.run_bind, Sem.run_pure, Result.andThen_ok, List.map_toArray, List.map_cons, List.map_nil, hs, hx, hrun]
  exact h v' w' h2 h3
end Go.Proofs.YtefebamomdcaaaaGreatDoor
/-
  Der: words of memory, bytes lent and kept, the same bytes (as for digest).
-/
namespace Go.Proofs.YtefebamomdcaaaaGreatDoor
open Go.RowKit
theorem Tryz.und8 : Tryz.prog.underlying 22 = some (.slice 5) := by kernel_rfl
theorem Tryz.info8 : (Tryz.prog.info? 5).map (fun i => (i.zero, i.size, i.bytes)) = some (some (.int .u8 0), 1, 1) := by kernel_rfl
def U8 (x : Int) : Prop := 0 ≤ x ∧ x < 256
def U8s (xs : List Int) : Prop := ∀ x ∈ xs, U8 x
theorem U8s.at {xs : List Int} (h : U8s xs) (i : Nat) : U8 (xs.getD i 0) := by
  by_cases hi : i < xs.length
  · simp [hi]; exact h _ (List.getElem_mem hi)
  · simp [List.getD, List.getElem?_eq_none (Nat.le_of_not_lt hi), U8]
theorem U8s.append {xs ys : List Int} (h : U8s xs) (k : U8s ys) : U8s (xs ++ ys) := by
  intro y hy; rcases List.mem_append.1 hy with hy | hy
  · exact h y hy
  · exact k y hy
theorem U8s.take {xs : List Int} (h : U8s xs) (n : Nat) : U8s (xs.take n) := fun y hy => h y (List.mem_of_mem_take hy)
theorem U8s.drop {xs : List Int} (h : U8s xs) (n : Nat) : U8s (xs.drop n) := fun y hy => h y (List.mem_of_mem_drop hy)
set_option maxHeartbeats 1000000 in
theorem SameBytes_any {w : World} (v u : Value) (xs : List Int) (hx : Sl .u8 w v xs) (hy : Sl .u8 w u xs) (lx : xs.length ≤ 1152921504606846976) :
    Calls Tryz.prog 20 #[v, u] w fun e w' => e = .returned (.bool true) ∧ Below w.heap.size w w' := by
  obtain ⟨a1, c1, rfl, hc1, h1⟩ := hx
  obtain ⟨a2, c2, rfl, hc2, h2⟩ := hy
  by_cases hne : xs = []
  · subst hne
    simp only [List.length_nil]
    go_enter Tryz.func20, Tryz.ntmps20
    go_wp2
    go_loop [5] (fun i => i = .int .i64 0) (fun _ => 0)
    case atStart => rfl
    case round =>
      subst hrel
      go_wp2
      go_ret
      exact ⟨rfl, Below.refl _ _⟩
  · rcases h1 with h1 | ⟨b1, o1, rfl, hb1, hr1⟩
    · exact absurd h1 hne
    rcases h2 with h2 | ⟨b2, o2, rfl, hb2, hr2⟩
    · exact absurd h2 hne
    obtain ⟨n, hn⟩ : ∃ n, xs.length = n := ⟨_, rfl⟩
    rw [hn] at lx hc1 hc2 ⊢
    have HN : Hid (xs.length = n) := hn
    clear hn hne
    go_enter Tryz.func20, Tryz.ntmps20
    go_wp2
    go_loopw [5] (fun i wr => ∃ k : Nat, k ≤ n ∧ i = .int .i64 k ∧ Below w.heap.size w wr) (fun i _ => n - (intOf i).toNat)
    case atStart => exact ⟨0, Nat.zero_le _, rfl, Below.refl _ _⟩
    case round =>
      obtain ⟨k, hk, rfl, hB⟩ := hrel
      by_cases hkn : k < n
      · obtain ⟨x, hx⟩ : ∃ x, xs.getD k 0 = x := ⟨_, rfl⟩
        have hcx : wr.cell? ⟨b1, o1 + k, none⟩ = some (.int .u8 x) := by rw [← hx]; exact (below_rd hB hb1 hr1) k (by rw [HN.out]; exact hkn)
        have hcy : wr.cell? ⟨b2, o2 + k, none⟩ = some (.int .u8 x) := by rw [← hx]; exact (below_rd hB hb2 hr2) k (by rw [HN.out]; exact hkn)
        have HB : Hid (Below w.heap.size w wr) := hB
        clear hx hB hr1 hr2
        go_wp2
        go_quiet (fail)
        go_wp2
        go_roundw
        case rel => exact ⟨k + 1, by omega, by go_num, HB.out.trans ⟨rfl, rfl, rfl, Nat.le_refl _, fun _ _ => rfl⟩⟩
        case measure => simp [intOf]; omega
      · have HB : Hid (Below w.heap.size w wr) := hB
        clear hB
        go_wp2
        go_ret
        exact ⟨rfl, HB.out⟩
theorem arr_newB {k : IntKind} {e : TypeId} {w : World} {S : List Int} {cs : List Value} (h : cs = S.map (Value.int k)) : Arr k e (w.alloc (.cells cs.toArray e)) w.heap.size S := by subst h; exact Blk.new e w _
theorem Arr.sl {k : IntKind} {e : TypeId} {w : World} {b : Nat} {S : List Int} (h : Arr k e w b S) : Sl k w (.slice (some ⟨b, 0, none⟩) S.length S.length) S :=
  ⟨_, _, rfl, Nat.le_refl _, .inr ⟨b, 0, rfl, h.lt, by have := h.rd 0 S.length (by omega); simpa using this⟩⟩
theorem Tryz.e8 : Tryz.prog.underlying 5 = some (.int .u8) := by kernel_rfl
theorem Tryz.str : Tryz.prog.underlying 9 = some .string := by kernel_rfl
/-- A new row of numbers, marked or not, reads them. -/
theorem new_sl {k : IntKind} {e : TypeId} {w : World} (S : List Int) (fr : Nat × Nat) : Sl k (w.alloc (.cells (S.map (Value.int k)).toArray e fr)) (.slice (some ⟨w.heap.size, 0, none⟩) S.length S.length) S :=
  ⟨_, _, rfl, Nat.le_refl _, .inr ⟨w.heap.size, 0, rfl, by simp, fun i hi => by
    rw [cell_of_row _ _ _ (S.map (Value.int k)).toArray e fr (heap_alloc_new _ _)]
    simp [hi]⟩⟩
theorem sl_alloc {k : IntKind} {w : World} {v : Value} {S : List Int} (h : Sl k w v S) (o : Obj) : Sl k (w.alloc o) v S := below_sl ((Below.refl _ _).alloc (Nat.le_refl _) o) h
theorem al1 {w : World} (o : Obj) : Below w.heap.size w (w.alloc o) := (Below.refl _ _).alloc (Nat.le_refl _) o
theorem below_via {B : Nat} {w w1 w2 : World} (h : Below B w w1) (h' : Below w1.heap.size w1 w2) (hB : B ≤ w.heap.size) : Below B w w2 := h.trans (h'.mono (Nat.le_trans hB h.size))
theorem nil_sl (w : World) : Sl .u8 w (.slice none 0 0) [] := ⟨none, 0, rfl, Nat.le_refl _, .inl rfl⟩
theorem nil_u8 : U8s [] := by intro x hx; simp at hx
theorem al2' {a w : World} {o : Obj} (h : Below a.heap.size a w) : Below a.heap.size a (w.alloc o) := h.alloc h.size o
theorem arr_nw {k : IntKind} {e : TypeId} {w : World} {b : Nat} {cs : Array Value} {xs : List Int} (hb : b = w.heap.size) (h : cs = (xs.map (Value.int k)).toArray) : Arr k e (w.alloc (.cells cs e)) b xs := by subst hb; subst h; exact Blk.new e w _
/-- A lent list: a block from B on that holds X, the two marks, and whatever else. -/
def LentR8 (B : Nat) (w : World) (v : Value) (X : List Int) : Prop :=
  ∃ b S, v = .slice (some ⟨b, 0, none⟩) X.length S.length ∧ B ≤ b ∧ Arr .u8 5 w b S ∧ S.take (X.length + 2) = X ++ [90, 165] ∧ X.length + 2 ≤ S.length ∧ S.length ≤ maxLen
theorem LentR8.sl {B : Nat} {w : World} {v : Value} {X : List Int} (h : LentR8 B w v X) : Sl .u8 w v X := by
  obtain ⟨b, S, rfl, _, hA, ht, hl, _⟩ := h
  refine ⟨_, _, rfl, by omega, .inr ⟨b, 0, rfl, hA.lt, ?_⟩⟩
  have h1 := hA.rd 0 X.length (by omega)
  have e : S.take X.length = X := by
    have : (S.take (X.length + 2)).take X.length = S.take X.length := by rw [List.take_take]; congr 1; omega
    rw [← this, ht, List.take_left]
  rw [List.drop_zero, e] at h1; exact h1
theorem LentR8.below {B : Nat} {w w' : World} {v : Value} {X : List Int} (h : LentR8 B w v X) (hb : Below w.heap.size w w') : LentR8 B w' v X := by
  obtain ⟨b, S, rfl, h1, hA, h2⟩ := h
  exact ⟨b, S, rfl, h1, below_arr hb hA.lt hA, h2⟩
theorem LentR8.mono {B B' : Nat} {w : World} {v : Value} {X : List Int} (h : LentR8 B w v X) (hb : B' ≤ B) : LentR8 B' w v X := by
  obtain ⟨b, S, rfl, h1, h2⟩ := h
  exact ⟨b, S, rfl, by omega, h2⟩
set_option maxHeartbeats 1000000 in
theorem Lent8_any (X : List Int) (v : Value) (w : World) (hX : Sl .u8 w v X) (hl : X.length * 1 ≤ 140737488351232) :
    Calls Tryz.prog 10 #[v] w fun e w' => ∃ r, e = .returned r ∧ LentR8 w.heap.size w' r X ∧ Below w.heap.size w w' := by
  obtain ⟨a, c, hv, hc⟩ : ∃ a c, v = .slice a X.length c ∧ X.length ≤ c := by obtain ⟨a, c, h, h', _⟩ := hX; exact ⟨a, c, h, h'⟩
  subst hv
  go_enter Tryz.func10, Tryz.ntmps10
  go_wp2_with (first
    | (at_builtin; replace hr1 := hr1; refine wpList_ap rfl (.tmp 6) (.tmp 7) 22 22 rfl .u8 5 1 Tryz.und8 Tryz.info8 (by decide) w.heap.size _ X rfl (hr1.alloc _) _ [90, 165] rfl (src_sl Tryz.und8 (Arr.sl (S := [90, 165]) (arr_nw rfl rfl))) (by simp; omega) (by have := hB1.size; simp at this ⊢; omega) ?_; intro v2 w2 hr2 hg2; have hB2 := hg2.below (hr1.alloc _) (by have := hB1.size; simp at this ⊢; omega); obtain ⟨b2, S2, hv2, hb2, hA2, hl2, ht2, hm2⟩ := hr2.open (X.length + 2) (by simp) (by omega); subst hv2; clear hr2 hg2)
    | (at_builtin; refine wpList_ap rfl (.tmp 4) (.tmp 5) 22 22 rfl .u8 5 1 Tryz.und8 Tryz.info8 (by decide) w.heap.size _ [] rfl (Row.arr (S := []) (arr_nw rfl rfl) (Nat.le_refl _) (by decide)) _ X rfl (src_sl Tryz.und8 (below_sl (al1 _) hX)) (by simp; omega) (by simp) ?_; intro v1 w1 hr1 hg1; have hB1 := hg1.below (Row.arr (B := w.heap.size) (S := []) (arr_nw rfl rfl) (Nat.le_refl _) (by decide)) (by simp)))
  go_ret
  have hb1 : Below w.heap.size w w1 := (al2' (Below.refl _ _)).trans hB1
  have hb' : Below w.heap.size w w2 := (al2' hb1).trans hB2
  exact ⟨_, rfl, ⟨b2, S2, rfl, hb2, hA2, by simpa using ht2, hl2, hm2⟩, hb'⟩
set_option maxHeartbeats 1000000 in
theorem Kept8_any {B : Nat} {w : World} (v u : Value) (X : List Int) (hv : LentR8 B w v X) (hu : Sl .u8 w u X) (hl : X.length ≤ 140737488351232) :
    Calls Tryz.prog 15 #[v, u] w fun e w' => e = .returned (.bool true) ∧ Below w.heap.size w w' := by
  have hs := hv.sl
  obtain ⟨b, S, rfl, hb, hA, ht, hle, hm⟩ := hv
  obtain ⟨a', c', hu', _⟩ : ∃ a c, u = .slice a X.length c ∧ X.length ≤ c := by obtain ⟨a, c, h, h', _⟩ := hu; exact ⟨a, c, h, h'⟩
  subst hu'
  have e1 : S.getD X.length 0 = 90 := by
    have : (S.take (X.length + 2)).getD X.length 0 = S.getD X.length 0 := by simp [List.getD]
    rw [← this, ht]; simp [List.getD]
  have e2 : S.getD (X.length + 1) 0 = 165 := by
    have : (S.take (X.length + 2)).getD (X.length + 1) 0 = S.getD (X.length + 1) 0 := by simp [List.getD]
    rw [← this, ht]; simp [List.getD]
  have hc1 := hA.cell X.length (by omega)
  have hc2 := hA.cell (X.length + 1) (by omega)
  rw [e1] at hc1; rw [e2] at hc2
  clear e1 e2 ht
  have hmm : (S.length : Int) ≤ 9223372036854775807 := by unfold maxLen at hm; omega
  have hlt := hA.lt
  go_enter Tryz.func15, Tryz.ntmps15
  go_wp2_with (first
    | (go_at_call 20; refine (SameBytes_any _ _ X hs hu (by omega)).mono ?_; rintro e w' ⟨rfl, hB⟩; rw [← hB.cell (p := ⟨b, X.length, none⟩) hlt] at hc1; rw [← hB.cell (p := ⟨b, X.length + 1, none⟩) hlt] at hc2))
  go_ret
  exact ⟨rfl, hB⟩
theorem Lent8_n (X : List Int) (v : Value) (w : World) (n : Nat) (hn : X.length = n) (hX : Sl .u8 w v X) (hl : n ≤ 65536) :
    Calls Tryz.prog 10 #[v] w fun e w' => ∃ b S c, e = .returned (.slice (some ⟨b, 0, none⟩) n c) ∧ LentR8 w.heap.size w' (.slice (some ⟨b, 0, none⟩) n c) X ∧ w.heap.size ≤ b ∧ Arr .u8 5 w' b S ∧ n ≤ S.length ∧ Below w.heap.size w w' := by
  subst hn
  refine (Lent8_any X v w hX (by omega)).mono ?_
  rintro e w' ⟨r, rfl, h, hb⟩
  obtain ⟨b, S, rfl, h1, hA, h2, h3, h4⟩ := h
  exact ⟨b, S, _, rfl, ⟨b, S, rfl, h1, hA, h2, h3, h4⟩, h1, hA, by omega, hb⟩
theorem new1 {w : World} {e : TypeId} (x : Int) : Sl .u8 (w.alloc (.cells #[.int .u8 x] e)) (.slice (some ⟨w.heap.size, 0, none⟩) 1 1) [x] := new_sl [x] (0, 0)
theorem row0 {w : World} : Row .u8 5 w.heap.size (w.alloc (.cells #[] 5)) (.slice (some ⟨w.heap.size, 0, none⟩) 0 0) [] := Row.arr (S := []) (Blk.new 5 w []) (Nat.le_refl _) (by decide)
theorem al2 {a w : World} {o : Obj} (h : Below a.heap.size a w) : Below a.heap.size a (w.alloc o) := h.alloc h.size o
end Go.Proofs.YtefebamomdcaaaaGreatDoor
/-
  Der: what reading a row of elements tells, over lists of bytes; no Go text in sight.
-/
namespace Go.Proofs.YtefebamomdcaaaaGreatDoor
open Go.RowKit
/-- A fault and its place, or a number and where what comes behind it begins. -/
abbrev Rs := (Int × Nat) ⊕ (Int × Nat)
def Rs.v : Rs → Int
  | .inl (_, _) => 0
  | .inr (v, _) => v
def Rs.e : Rs → Int
  | .inl (e, _) => e
  | .inr (_, _) => 0
def Rs.at : Rs → Nat
  | .inl (_, a) => a
  | .inr (_, i) => i
/-- A long tag from place i on, t being what was read of it. -/
def lngF (M : List Int) : Nat → Nat → Int → Rs
  | 0, _, _ => .inl (2, M.length)
  | f + 1, i, t =>
    if t * 128 + M.getD i 0 % 128 = 0 ∨ 268435455 < t * 128 + M.getD i 0 % 128 ∨ (M.getD i 0 < 128 ∧ t * 128 + M.getD i 0 % 128 < 31) then .inl (30, i)
    else if M.getD i 0 < 128 then .inr ((t * 128 + M.getD i 0 % 128), (i + 1))
    else lngF M f (i + 1) (t * 128 + M.getD i 0 % 128)
def lng (M : List Int) (i : Nat) (t : Int) : Rs := lngF M (M.length - i) i t
theorem lng_end {M : List Int} {i : Nat} {t : Int} (h : M.length ≤ i) : lng M i t = .inl (2, M.length) := by
  unfold lng; rw [show M.length - i = 0 by omega]; rfl
theorem lng_step {M : List Int} {i : Nat} {t x t' : Int} (h : i < M.length) (hx : M.getD i 0 = x) (ht : t * 128 + x % 128 = t') :
    lng M i t = if t' = 0 ∨ 268435455 < t' ∨ (x < 128 ∧ t' < 31) then .inl (30, i) else if x < 128 then .inr (t', (i + 1)) else lng M (i + 1) t' := by
  unfold lng; rw [show M.length - i = (M.length - (i + 1)) + 1 by omega, lngF, hx, ht]
/-- The number of k bytes from place i on; of a great one only that it is. -/
def fold8 (M : List Int) (i : Nat) : Nat → Int
  | 0 => 0
  | k + 1 => min (fold8 M i k * 256 + M.getD (i + k) 0) 16777217
theorem fold8_bd {M : List Int} (hM : U8s M) (i : Nat) : ∀ k, 0 ≤ fold8 M i k ∧ fold8 M i k ≤ 16777217
  | 0 => by simp [fold8]
  | k + 1 => by
    have := fold8_bd hM i k
    have h8 := hM.at (i + k)
    unfold U8 at h8
    show 0 ≤ min (fold8 M i k * 256 + M.getD (i + k) 0) 16777217 ∧ min (fold8 M i k * 256 + M.getD (i + k) 0) 16777217 ≤ 16777217
    omega
def lenS (M : List Int) (i : Nat) : Rs :=
  if M.length ≤ i then .inl (2, M.length)
  else if M.getD i 0 = 128 ∨ M.getD i 0 = 255 then .inl (31, i)
  else if M.getD i 0 < 128 then (if (M.length : Int) < i + 1 + M.getD i 0 then .inl (31, i) else .inr ((M.getD i 0), (i + 1)))
  else if M.length < i + 1 + (M.getD i 0 - 128).toNat then .inl (2, M.length)
  else if fold8 M (i + 1) (M.getD i 0 - 128).toNat < 128 ∨ M.getD (i + 1) 0 = 0 then .inl (31, i)
  else if (M.length : Int) - (i + 1 + (M.getD i 0 - 128).toNat : Nat) < fold8 M (i + 1) (M.getD i 0 - 128).toNat then .inl (31, i)
  else .inr ((fold8 M (i + 1) (M.getD i 0 - 128).toNat), (i + 1 + (M.getD i 0 - 128).toNat))
def tagS (M : List Int) (p : Nat) : Rs :=
  if M.getD p 0 % 32 = 31 then lng M (p + 1) 0
  else if M.getD p 0 % 32 = 0 ∧ M.getD p 0 < 64 then .inl (30, p)
  else .inr ((M.getD p 0 % 32), (p + 1))
abbrev Es := (Int × Nat) ⊕ (Int × Nat × Nat)
def elemS (M : List Int) (p : Nat) : Es :=
  match tagS M p with
  | .inl (e, a) => .inl (e, a)
  | .inr (t, i) => match lenS M i with
    | .inl (e, a) => .inl (e, a)
    | .inr (l, j) => .inr (t, j, (j + l.toNat))
/-- An element: class, tag, made of others or not, its data, all its bytes. -/
structure El where
  cl : Int
  tg : Int
  co : Bool
  d : List Int
  r : List Int
def elAt (M : List Int) (p : Nat) (t : Int) (j E : Nat) : El := ⟨M.getD p 0 / 64, t, decide (M.getD p 0 / 32 % 2 = 1), (M.drop j).take (E - j), (M.drop p).take (E - p)⟩
theorem lng_ok {M : List Int} : ∀ f i t, M.length - i = f → ∀ v j, lng M i t = .inr (v, j) → i < j ∧ j ≤ M.length ∧ 31 ≤ v ∧ v ≤ 268435455
  | 0, i, t, hf, v, j, h => by rw [lng_end (by omega)] at h; cases h
  | f + 1, i, t, hf, v, j, h => by
    rw [lng_step (by omega) rfl rfl] at h
    split at h
    · cases h
    · rename_i h1
      split at h
      · cases h; omega
      · have := lng_ok f (i + 1) _ (by omega) v j h; omega
theorem lng_bad {M : List Int} : ∀ f i t, M.length - i = f → i ≤ M.length → ∀ e a, lng M i t = .inl (e, a) → i ≤ a ∧ a ≤ M.length ∧ (e = 2 ∨ e = 30)
  | 0, i, t, hf, hi, e, a, h => by rw [lng_end (by omega)] at h; cases h; omega
  | f + 1, i, t, hf, hi, e, a, h => by
    rw [lng_step (by omega) rfl rfl] at h
    split at h
    · cases h; omega
    · split at h
      · cases h
      · have := lng_bad f (i + 1) _ (by omega) (by omega) e a h; omega
theorem lenS_ok {M : List Int} (hM : U8s M) {i : Nat} {v : Int} {j : Nat} (h : lenS M i = .inr (v, j)) : i < j ∧ 0 ≤ v ∧ j + v ≤ M.length ∧ v ≤ 16777216 + 1 := by
  have hx := hM.at i
  unfold U8 at hx
  have hf := fold8_bd hM (i + 1) (M.getD i 0 - 128).toNat
  unfold lenS at h
  split at h
  · cases h
  split at h
  · cases h
  split at h
  · split at h
    · cases h
    · cases h; omega
  split at h
  · cases h
  split at h
  · cases h
  split at h
  · cases h
  · cases h; omega
theorem lenS_bad {M : List Int} {i : Nat} {e : Int} {a : Nat} (hi : i ≤ M.length) (h : lenS M i = .inl (e, a)) : i ≤ a ∧ a ≤ M.length ∧ (e = 2 ∨ e = 31) := by
  unfold lenS at h
  split at h
  · cases h; omega
  split at h
  · cases h; omega
  split at h
  · split at h
    · cases h; omega
    · cases h
  split at h
  · cases h; omega
  split at h
  · cases h; omega
  split at h
  · cases h; omega
  · cases h
theorem tagS_ok {M : List Int} (hM : U8s M) {p : Nat} (hp : p < M.length) {v : Int} {j : Nat} (h : tagS M p = .inr (v, j)) : p < j ∧ j ≤ M.length ∧ 0 ≤ v ∧ v ≤ 268435455 := by
  have hx := hM.at p
  unfold U8 at hx
  unfold tagS at h
  split at h
  · have := lng_ok _ _ _ rfl v j h; omega
  split at h
  · cases h
  · cases h; omega
theorem tagS_bad {M : List Int} {p : Nat} (hp : p < M.length) {e : Int} {a : Nat} (h : tagS M p = .inl (e, a)) : p ≤ a ∧ a ≤ M.length ∧ (e = 2 ∨ e = 30) := by
  unfold tagS at h
  split at h
  · have := lng_bad _ _ _ rfl (by omega) e a h; omega
  split at h
  · cases h; omega
  · cases h
theorem elemS_ok {M : List Int} (hM : U8s M) {p : Nat} (hp : p < M.length) {t : Int} {j E : Nat} (h : elemS M p = .inr (t, j, E)) : p < j ∧ j ≤ E ∧ E ≤ M.length ∧ 0 ≤ t ∧ t ≤ 268435455 := by
  unfold elemS at h
  split at h
  · cases h
  · rename_i t' i ht
    have h1 := tagS_ok hM hp ht
    split at h
    · cases h
    · rename_i l j' hl
      have h2 := lenS_ok hM hl
      cases h; omega
theorem elemS_bad {M : List Int} (hM : U8s M) {p : Nat} (hp : p < M.length) {e : Int} {a : Nat} (h : elemS M p = .inl (e, a)) : p ≤ a ∧ a ≤ M.length ∧ (e = 2 ∨ e = 30 ∨ e = 31) := by
  unfold elemS at h
  split at h
  · rename_i e' a' ht
    have h1 := tagS_bad hp ht
    cases h; omega
  · rename_i t' i ht
    have h1 := tagS_ok hM hp ht
    split at h
    · rename_i e' a' hl
      have h2 := lenS_bad (by omega) hl
      cases h; omega
    · cases h
/-- A row of elements, or the first fault and its place. -/
abbrev Sp := (Int × Nat) ⊕ List El
def spF (M : List Int) : Nat → Nat → List El → Sp
  | 0, _, L => .inr L
  | f + 1, p, L =>
    if M.length ≤ p then .inr L
    else if 65536 ≤ L.length then .inl (4, p)
    else match elemS M p with
      | .inl (e, a) => .inl (e, a)
      | .inr (t, j, E) => spF M f E (L ++ [elAt M p t j E])
theorem spF_fuel {M : List Int} (hM : U8s M) : ∀ f g p L, M.length ≤ p + f → M.length ≤ p + g → spF M f p L = spF M g p L
  | 0, 0, _, _, _, _ => rfl
  | 0, g + 1, p, L, h, _ => by rw [spF, spF, if_pos (by omega)]
  | f + 1, 0, p, L, _, h => by rw [spF, spF, if_pos (by omega)]
  | f + 1, g + 1, p, L, h, h' => by
    rw [spF, spF]
    by_cases h1 : M.length ≤ p
    · rw [if_pos h1, if_pos h1]
    rw [if_neg h1, if_neg h1]
    split
    · rfl
    split
    · rfl
    · rename_i t j E he
      have h2 := elemS_ok hM (by omega) he
      exact spF_fuel hM f g E _ (by omega) (by omega)
def spl (M : List Int) (p : Nat) (L : List El) : Sp := spF M (M.length - p) p L
def splitS (M : List Int) : Sp := if 16777216 < M.length then .inl (3, 0) else spl M 0 []
theorem spl_end {M : List Int} {p : Nat} {L : List El} (h : M.length ≤ p) : spl M p L = .inr L := by
  unfold spl; rw [show M.length - p = 0 by omega, spF]
theorem spl_many {M : List Int} {p : Nat} {L : List El} (h : p < M.length) (hL : 65536 ≤ L.length) : spl M p L = .inl (4, p) := by
  unfold spl; rw [show M.length - p = (M.length - p - 1) + 1 by omega, spF, if_neg (by omega), if_pos hL]
theorem spl_bad {M : List Int} {p : Nat} {L : List El} (h : p < M.length) (hL : L.length < 65536) {e : Int} {a : Nat} (he : elemS M p = .inl (e, a)) : spl M p L = .inl (e, a) := by
  unfold spl; rw [show M.length - p = (M.length - p - 1) + 1 by omega, spF, if_neg (by omega), if_neg (by omega), he]
theorem spl_ok {M : List Int} (hM : U8s M) {p : Nat} {L : List El} (h : p < M.length) (hL : L.length < 65536) {t : Int} {j E : Nat} (he : elemS M p = .inr (t, j, E)) : spl M p L = spl M E (L ++ [elAt M p t j E]) := by
  have h2 := elemS_ok hM h he
  unfold spl; rw [show M.length - p = (M.length - p - 1) + 1 by omega, spF, if_neg (by omega), if_neg (by omega), he]
  exact spF_fuel hM _ _ _ _ (by omega) (by omega)
/-- What a few bytes of a length tell, read from place i on. -/
def lenL (M : List Int) (i k : Nat) : Rs := if M.length < i + k then .inl (2, M.length) else .inr ((fold8 M i k), (i + k))
theorem fold8_at {M : List Int} (i k : Nat) {x : Int} (hx : M.getD (i + k) 0 = x) : fold8 M i (k + 1) = min (fold8 M i k * 256 + x) 16777217 := by
  rw [← hx]; rfl
end Go.Proofs.YtefebamomdcaaaaGreatDoor
/-
  append of elements of m cells each (structs), in the words of Blk.
-/
namespace Go.Proofs.YtefebamomdcaaaaGreatDoor
open Go.RowKit

/-- A slice of the call's own whose n elements have m cells each: memory from block B on, the head of a whole block, or nil; its cells are xs. -/
def MRow (m : Nat) (e : TypeId) (B : Nat) (w : World) (v : Value) (n : Nat) (xs : List Value) : Prop :=
  xs.length = n * m ∧ ((v = .slice none 0 0 ∧ n = 0) ∨ ∃ b S c, v = .slice (some ⟨b, 0, none⟩) n c ∧ B ≤ b ∧ Blk e w b S ∧ S.length = c * m ∧ n ≤ c ∧ S.take (n * m) = xs ∧ c ≤ maxLen)
/-- What an append has done: only new memory, or the spare room of v's block has been written. -/
def MGrew (e : TypeId) (w w' : World) (v : Value) : Prop :=
  Below w.heap.size w w' ∨ ∃ b n c S, v = .slice (some ⟨b, 0, none⟩) n c ∧ Blk e w b S ∧ Upd w w' b
theorem MRow.nil (m : Nat) (e : TypeId) (B : Nat) (w : World) : MRow m e B w (.slice none 0 0) 0 [] := ⟨by simp, .inl ⟨rfl, rfl⟩⟩
theorem MRow.below {m : Nat} {e : TypeId} {B : Nat} {w w' : World} {v : Value} {n : Nat} {xs : List Value} (h : MRow m e B w v n xs) (hb : Below w.heap.size w w') : MRow m e B w' v n xs := by
  obtain ⟨h0, h⟩ := h
  refine ⟨h0, ?_⟩
  rcases h with h | ⟨b, S, c, rfl, h1, hA, h2⟩
  · exact .inl h
  · exact .inr ⟨b, S, c, rfl, h1, below_blk hb hA.lt hA, h2⟩
theorem MRow.ne {m : Nat} {e : TypeId} {B : Nat} {w : World} {v : Value} {n : Nat} {xs : List Value} (h : MRow m e B w v n xs) : ∃ a c, v = .slice a n c := by
  rcases h with ⟨_, ⟨rfl, rfl⟩ | ⟨b, S, c, rfl, _⟩⟩
  · exact ⟨_, _, rfl⟩
  · exact ⟨_, _, rfl⟩
theorem MRow.alloc {m : Nat} {e : TypeId} {B : Nat} {w : World} {v : Value} {n : Nat} {xs : List Value} (h : MRow m e B w v n xs) (o : Obj) : MRow m e B (w.alloc o) v n xs :=
  h.below ((Below.refl _ _).alloc (Nat.le_refl _) o)
theorem MGrew.below {m : Nat} {e : TypeId} {B : Nat} {w w' : World} {v : Value} {n : Nat} {xs : List Value} (h : MGrew e w w' v) (hr : MRow m e B w v n xs) (hB : B ≤ w.heap.size) : Below B w w' := by
  rcases h with h | ⟨b, n', c', S, rfl, _, hU⟩
  · exact h.mono hB
  · rcases hr with ⟨_, ⟨h, _⟩ | ⟨b', S', c, h, hb, _⟩⟩
    · cases h
    · simp only [Value.slice.injEq, Option.some.injEq, Addr.mk.injEq, and_true] at h
      obtain ⟨rfl, _, _⟩ := h
      exact hU.below (Below.refl _ _) hB hb
theorem run_apm {P : Program} (w : World) (t tx ty e : TypeId) (i : TypeInfo) (m : Nat) (z : Value) (ht : P.underlying t = some (.slice e)) (hi : P.info? e = some i) (hz : i.zero = some z) (hsize : i.size = m) (hzs : z.cells.size = m) (hby : 0 < i.bytes)
    {B : Nat} {v : Value} {n : Nat} {xs : List Value} (hr : MRow m e B w v n xs) {x : Value} {k : Nat} {ys : List Value} (hs : Src P m tx x k ys w)
    (hb : (n + k) * i.bytes ≤ 140737488355328) (hB : B ≤ w.heap.size) :
    ∃ v' w', (Builtin.append_ #[t, tx] ty #[v, x]).run P w = .ok v' w' ∧ MRow m e B w' v' (n + k) (xs ++ ys) ∧ MGrew e w w' v := by
  have hle : n + k ≤ 140737488355328 := Nat.le_trans (Nat.le_mul_of_pos_right _ hby) hb
  have hs1 : Src P i.size tx x k ys w := by rw [hsize]; exact hs
  obtain ⟨hxl, hr⟩ := hr
  have hxy : (xs ++ ys).length = (n + k) * m := by rw [List.length_append, hxl, hs.newsLen, Nat.add_mul]
  have grown : ∀ (base : Option Addr) (old : Nat), old < n + k → (Builtin.firstCells i.size n (.slice base n old)).run P w.drew = .ok xs.toArray w.drew →
      ∃ v' w', (Builtin.append_ #[t, tx] ty #[.slice base n old, x]).run P w = .ok v' w' ∧ MRow m e B w' v' (n + k) (xs ++ ys) ∧ MGrew e w w' (.slice base n old) := by
    intro base old ho hold
    have h1 := run_append_grow_src (P := P) w t tx ty e i z ht hi hz base n old _ hold x k _ hs1 ho (by omega) (growslice_fits (by omega) hb)
    refine ⟨_, _, h1, ⟨hxy, ?_⟩, .inl ((Below.refl _ _).drew.alloc (Nat.le_refl _) _)⟩
    have hge := grownCap_ge w (n + k) old e
    have hcm : grownCap w (n + k) old e ≤ maxLen := grownCap_le_maxLen w _ old e (by unfold maxLen; omega)
    refine .inr ⟨w.heap.size, xs ++ ys ++ (Builtin.zeroCells z.cells (grownCap w (n + k) old e - (n + k))).toList, grownCap w (n + k) old e, rfl, hB, ?_, ?_, hge, ?_, hcm⟩
    · unfold Blk
      have := heap_alloc_new w.drew (.cells ((xs ++ ys).toArray ++ Builtin.zeroCells z.cells (grownCap w (n + k) old e - (n + k))) e)
      rw [show (w.drew.heap.size) = w.heap.size from rfl] at this
      rw [this]; simp
    · rw [List.length_append, hxy]
      simp only [Builtin.zeroCells, Array.length_toList, Array.size_map, Array.size_range, hzs]
      rw [← Nat.add_mul]; congr 1; omega
    · exact List.take_left' hxy
  rcases hr with ⟨rfl, rfl⟩ | ⟨b, S, c, rfl, hBb, hA, hSl, hl, htk, hm⟩
  · have hx0 : xs = [] := List.eq_nil_of_length_eq_zero (by simpa using hxl)
    subst hx0
    by_cases h0 : k = 0
    · subst h0
      have hy : ys = [] := List.eq_nil_of_length_eq_zero (by simpa using hs.newsLen)
      subst hy
      refine ⟨.slice none 0 0, w, ?_, ⟨by simp, .inl ⟨rfl, rfl⟩⟩, .inl (Below.refl _ _)⟩
      have h1 := hs1.cells
      have h2 := hs1.len
      rcases hs1.kind with ⟨e', hk⟩ | hk
      · simp [Builtin.append_, run_underlying ht, run_underlying hk, sizeOf, typeInfo, hi, h2, h1]
      · simp [Builtin.append_, run_underlying ht, run_underlying hk, sizeOf, typeInfo, hi, h2, h1]
    · exact grown none 0 (by omega) (run_firstCells_none w.drew i.size 0 0 0)
  · by_cases hroom : n + k ≤ c
    · have hkm : n * m + k * m ≤ c * m := by rw [← Nat.add_mul]; exact Nat.mul_le_mul_right _ hroom
      have hst := run_storeCells_at P b (n * i.size) e ys 0 _ w hA (by rw [hsize, hs.newsLen, List.size_toArray, hSl]; omega) hs1.one
      simp only [Nat.add_zero] at hst
      have hrun : (Builtin.append_ #[t, tx] ty #[.slice (some ⟨b, 0, none⟩) n c, x]).run P w = .ok (.slice (some ⟨b, 0, none⟩) (n + k) c) (w.setRow b ((S.toArray.toList.take (n * i.size)) ++ ys ++ (S.toArray.toList.drop (n * i.size + ys.length))).toArray) := by
        rcases hs1.kind with ⟨e', hk⟩ | hk <;> simp [Builtin.append_, run_underlying ht, run_underlying hk, sizeOf, typeInfo, hi, hs1.len, hroom, hs1.cells, Addr.add_lit, hst]
      have hA' : Blk e (w.setRow b ((S.toArray.toList.take (n * i.size)) ++ ys ++ (S.toArray.toList.drop (n * i.size + ys.length))).toArray) b (S.take (n * m) ++ ys ++ S.drop (n * m + k * m)) := by
        unfold Blk
        rw [setRow_heap w b _ _ e _ hA]
        simp [hsize, hs.newsLen]
      refine ⟨_, _, hrun, ⟨hxy, .inr ⟨b, _, c, rfl, hBb, hA', ?_, hroom, ?_, hm⟩⟩, .inr ⟨b, n, c, S, rfl, hA, ⟨rfl, rfl, rfl, by simp [World.setRow], fun j _ hj => setRow_other w b j _ (fun e => hj (by simp [e]))⟩⟩⟩
      · rw [List.length_append, htk, hxy, List.length_drop, hSl, Nat.add_mul]; omega
      · rw [htk]; exact List.take_left' hxy
    · refine grown (some ⟨b, 0, none⟩) c (by omega) (run_firstCells_some w.drew i.size n ⟨b, 0, none⟩ n c _ (by rw [hsize]; exact hxl) (fun j u hj => ?_))
      have hj' : j < xs.length := (List.getElem?_eq_some_iff.1 hj).1
      have hadd : (⟨b, 0, none⟩ : Addr).add j = ⟨b, j, none⟩ := by simp [Addr.add] <;> omega
      have e1 : (w.drew).cell? ⟨b, j, none⟩ = w.cell? ⟨b, j, none⟩ := rfl
      rw [hadd, e1, hA.cell j, ← hj, ← htk, List.getElem?_take, if_pos (by omega)]

theorem wpList_apm {P : Program} {w : World} {ops : Array Oper} {rest : List Oper} {o : Oper} {a : Act} {Q : Exit → Act → World → Prop} (hgd : o.guard = none) (s x : Operand) (t tx : TypeId)
    (ho : o.op = .call { callee := .builtin .append, args := #[s, x], argTypes := #[t, tx] }) (m : Nat) (z : Value) (hzs : z.cells.size = m) (e : TypeId) (bytes : Nat) (ht : P.underlying t = some (.slice e))
    (hi : (P.info? e).map (fun i => (i.zero, i.size, i.bytes)) = some (some z, m, bytes)) (hby : 0 < bytes)
    (B : Nat) (v : Value) (n : Nat) (xs : List Value) (hs : a.eval s = v) (hr : MRow m e B w v n xs) (u : Value) (k : Nat) (ys : List Value) (hx : a.eval x = u) (hy : Src P m tx u k ys w)
    (hb : (n + k) * bytes ≤ 140737488355328) (hB : B ≤ w.heap.size)
    (h : ∀ v' w', MRow m e B w' v' (n + k) (xs ++ ys) → MGrew e w w' v → wpList P ops Q rest (a.put o.dst v') w') : wpList P ops Q (o :: rest) a w := by
  obtain ⟨i0, hi0, hz0, hz1, hz2⟩ := info_parts hi
  refine wpList_plain hgd fun K hK => ?_
  obtain ⟨v', w', hrun, h2, h3⟩ := run_apm (P := P) w t tx o.type e i0 m z ht hi0 hz0 hz1 hzs (by omega) hr hy (by rw [hz2]; exact hb) hB
  unfold Oper.wp execOp
  simp only [ho, resolve, invoke, builtin, Sem.run_bind, Sem.run_pure, Result.andThen_ok, List.map_toArray, List.map_cons, List.map_nil, hs, hx, hrun]
  exact hK _ _ (h v' w' h2 h3)
end Go.Proofs.YtefebamomdcaaaaGreatDoor
