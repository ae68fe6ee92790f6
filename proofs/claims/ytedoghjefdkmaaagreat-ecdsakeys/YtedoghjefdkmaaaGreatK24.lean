/-
  append onto a slice of the call's own, and where its answer lies.
-/
import Derived.Test.YtedoghjefdkmaaaGreatK23
namespace Go.Proofs.YtedoghjefdkmaaaGreat
open Go.RowKit
theorem run_apL {P : Program} (w : World) (t tx ty e : TypeId) (i : TypeInfo) (k : IntKind) (ht : P.underlying t = some (.slice e)) (hi : P.info? e = some i) (hz : i.zero = some (.int k 0)) (hsize : i.size = 1) (hby : 0 < i.bytes)
    {B : Nat} {v : Value} {xs : List Int} (hr : Row k e B w v xs) {x : Value} {ys : List Int} (hs : Src P 1 tx x ys.length (ys.map (Value.int k)) w)
    (hb : (xs.length + ys.length) * i.bytes ≤ 140737488355328) (hB : B ≤ w.heap.size) :
    ∃ v' w', (Builtin.append_ #[t, tx] ty #[v, x]).run P w = .ok v' w' ∧ Row k e B w' v' (xs ++ ys) ∧ Grew k e w w' v ys ∧ (blkOf v' = blkOf v ∨ blkOf v' = some w.heap.size) := by
  have hle : xs.length + ys.length ≤ 140737488355328 := Nat.le_trans (Nat.le_mul_of_pos_right _ hby) hb
  have hs1 : Src P i.size tx x ys.length (ys.map (Value.int k)) w := by rw [hsize]; exact hs
  have grown : ∀ (base : Option Addr) (old : Nat), old < xs.length + ys.length → (Builtin.firstCells i.size xs.length (.slice base xs.length old)).run P w.drew = .ok (xs.map (Value.int k)).toArray w.drew →
      ∃ v' w', (Builtin.append_ #[t, tx] ty #[.slice base xs.length old, x]).run P w = .ok v' w' ∧ Row k e B w' v' (xs ++ ys) ∧ Grew k e w w' (.slice base xs.length old) ys ∧ (blkOf v' = blkOf (.slice base xs.length old) ∨ blkOf v' = some w.heap.size) := by
    intro base old ho hold
    have h1 := run_append_grow_src (P := P) w t tx ty e i (.int k 0) ht hi hz base xs.length old _ hold x ys.length _ hs1 ho (by omega) (growslice_fits (by omega) hb)
    refine ⟨_, _, h1, ?_, .inl ((Below.refl _ _).drew.alloc (Nat.le_refl _) _), .inr rfl⟩
    have hge := grownCap_ge w (xs.length + ys.length) old e
    have hcm : grownCap w (xs.length + ys.length) old e ≤ maxLen := grownCap_le_maxLen w _ old e (by unfold maxLen; omega)
    obtain ⟨C, hC⟩ : ∃ C, grownCap w (xs.length + ys.length) old e = xs.length + ys.length + C := ⟨_, (Nat.add_sub_of_le hge).symm⟩
    rw [hC] at hcm ⊢
    have hzc : Builtin.zeroCells (Value.cells (.int k 0)) C = (List.replicate C (.int k 0)).toArray := by
      apply Array.ext'
      simp only [Builtin.zeroCells, Value.cells]
      simp
      rw [List.eq_replicate_iff]
      exact ⟨by simp, fun y hy => by obtain ⟨j, _, rfl⟩ := List.mem_map.1 hy; simp [Nat.mod_one]⟩
    refine .inr ⟨w.heap.size, xs ++ ys ++ List.replicate C 0, ?_, hB, ?_, by simp, List.take_left, by simp; omega⟩
    · simp; omega
    · unfold Arr
      rw [show xs.length + ys.length + C - (xs.length + ys.length) = C by omega, hzc]
      have := heap_alloc_new w.drew (.cells ((xs.map (Value.int k) ++ ys.map (Value.int k)).toArray ++ (List.replicate C (Value.int k 0)).toArray) e)
      simp only [List.map_append, List.map_replicate]
      rw [show (w.drew.heap.size) = w.heap.size from rfl] at this
      rw [this]; simp
  rcases hr with ⟨rfl, rfl⟩ | ⟨b, S, rfl, hBb, hA, hl, htk, hm⟩
  · by_cases h0 : ys.length = 0
    · have hy : ys = [] := List.eq_nil_of_length_eq_zero h0
      subst hy
      refine ⟨.slice none 0 0, w, ?_, .inl ⟨rfl, rfl⟩, .inl (Below.refl _ _), .inl rfl⟩
      have h1 := hs1.cells
      have h2 := hs1.len
      simp only [List.length_nil, List.map_nil] at h1 h2
      rcases hs1.kind with ⟨e', hk⟩ | hk
      · simp [Builtin.append_, run_underlying ht, run_underlying hk, sizeOf, typeInfo, hi, h2, h1]
      · simp [Builtin.append_, run_underlying ht, run_underlying hk, sizeOf, typeInfo, hi, h2, h1]
    · exact grown none 0 (by simp; omega) (run_firstCells_none w.drew i.size 0 0 0)
  · by_cases hroom : xs.length + ys.length ≤ S.length
    · have hst := run_storeCells_at P b (xs.length * i.size) e (ys.map (Value.int k)) 0 _ w hA (by simp [hsize]; omega) hs1.one
      simp only [Nat.add_zero] at hst
      have hrun : (Builtin.append_ #[t, tx] ty #[.slice (some ⟨b, 0, none⟩) xs.length S.length, x]).run P w = .ok (.slice (some ⟨b, 0, none⟩) (xs.length + ys.length) S.length) (w.setRow b (((S.map (Value.int k)).toArray.toList.take (xs.length * i.size)) ++ ys.map (Value.int k) ++ ((S.map (Value.int k)).toArray.toList.drop (xs.length * i.size + (ys.map (Value.int k)).length))).toArray) := by
        rcases hs1.kind with ⟨e', hk⟩ | hk <;> simp [Builtin.append_, run_underlying ht, run_underlying hk, sizeOf, typeInfo, hi, hs1.len, hroom, hs1.cells, Addr.add_lit, hst]
      have hA' : Arr k e (w.setRow b (((S.map (Value.int k)).toArray.toList.take (xs.length * i.size)) ++ ys.map (Value.int k) ++ ((S.map (Value.int k)).toArray.toList.drop (xs.length * i.size + (ys.map (Value.int k)).length))).toArray) b (S.take xs.length ++ ys ++ S.drop (xs.length + ys.length)) := by
        unfold Arr
        rw [setRow_heap w b _ _ e _ hA]
        simp [hsize, List.map_take, List.map_drop]
      have hlen : (S.take xs.length ++ ys ++ S.drop (xs.length + ys.length)).length = S.length := by simp; omega
      refine ⟨_, _, hrun, .inr ⟨b, _, ?_, hBb, hA', ?_, ?_, ?_⟩, .inr ⟨b, xs.length, S, rfl, hA, ⟨rfl, rfl, rfl, by simp [World.setRow], fun j _ hj => setRow_other w b j _ (fun e => hj (by simp [e]))⟩, hroom, hA'⟩, .inl rfl⟩
      · rw [hlen]; simp
      · rw [hlen]; simp; omega
      · rw [htk]; exact List.take_left
      · rw [hlen]; exact hm
    · refine grown (some ⟨b, 0, none⟩) S.length (by omega) (run_firstCells_some w.drew i.size xs.length ⟨b, 0, none⟩ xs.length S.length _ (by simp [hsize]) (fun j u hj => ?_))
      have hj' : j < xs.length := by have := (List.getElem?_eq_some_iff.1 hj).1; simpa using this
      have hadd : (⟨b, 0, none⟩ : Addr).add j = ⟨b, j, none⟩ := by simp [Addr.add]; try omega
      have := hA.cell j (by omega)
      rw [hadd]
      have e1 : (w.drew).cell? ⟨b, j, none⟩ = w.cell? ⟨b, j, none⟩ := rfl
      rw [e1, this, ← hj]
      have e2 : S.getD j 0 = xs.getD j 0 := by
        have : (S.take xs.length).getD j 0 = S.getD j 0 := by simp [List.getD, hj']
        rw [← this, htk]
      rw [e2]; simp [hj']

theorem wpList_apL {P : Program} {w : World} {ops : Array Oper} {rest : List Oper} {o : Oper} {a : Act} {Q : Exit → Act → World → Prop} (hgd : o.guard = none) (s x : Operand) (t tx : TypeId)
    (ho : o.op = .call { callee := .builtin .append, args := #[s, x], argTypes := #[t, tx] }) (k : IntKind) (e : TypeId) (bytes : Nat) (ht : P.underlying t = some (.slice e))
    (hi : (P.info? e).map (fun i => (i.zero, i.size, i.bytes)) = some (some (.int k 0), 1, bytes)) (hby : 0 < bytes)
    (B : Nat) (v : Value) (xs : List Int) (hs : a.eval s = v) (hr : Row k e B w v xs) (u : Value) (ys : List Int) (hx : a.eval x = u) (hy : Src P 1 tx u ys.length (ys.map (Value.int k)) w)
    (hb : (xs.length + ys.length) * bytes ≤ 140737488355328) (hB : B ≤ w.heap.size)
    (h : ∀ v' w', Row k e B w' v' (xs ++ ys) → Grew k e w w' v ys → (blkOf v' = blkOf v ∨ blkOf v' = some w.heap.size) → wpList P ops Q rest (a.put o.dst v') w') : wpList P ops Q (o :: rest) a w := by
  obtain ⟨i0, hi0, hz0, hz1, hz2⟩ := info_parts hi
  refine wpList_plain hgd fun K hK => ?_
  obtain ⟨v', w', hrun, h2, h3, h4⟩ := run_apL (P := P) w t tx o.type e i0 k ht hi0 hz0 hz1 (by omega) hr hy (by rw [hz2]; exact hb) hB
  unfold Oper.wp execOp
  simp only [ho, resolve, invoke, builtin, Sem.run_bind, Sem.run_pure, Result.andThen_ok, List.map_toArray, List.map_cons, List.map_nil, hs, hx, hrun]
  exact hK _ _ (h v' w' h2 h3 h4)
end Go.Proofs.YtedoghjefdkmaaaGreat
/-
  Der: memory of which only some blocks have turned.
-/
namespace Go.Proofs.YtedoghjefdkmaaaGreat
open Go.RowKit
/-- Only blocks that meet D have turned; new ones may have come. -/
structure Onl (D : Nat → Prop) (w w' : World) : Prop where
  os : w'.os = w.os
  tape : w'.tape = w.tape
  output : w'.output = w.output
  size : w.heap.size ≤ w'.heap.size
  block : ∀ j, j < w.heap.size → ¬ D j → w'.heap[j]? = w.heap[j]?
theorem Onl.refl (D : Nat → Prop) (w : World) : Onl D w w := ⟨rfl, rfl, rfl, Nat.le_refl _, fun _ _ _ => rfl⟩
theorem Onl.trans {D : Nat → Prop} {w w' w'' : World} (h : Onl D w w') (h' : Onl D w' w'') : Onl D w w'' :=
  ⟨h'.os.trans h.os, h'.tape.trans h.tape, h'.output.trans h.output, Nat.le_trans h.size h'.size, fun j hj hd => (h'.block j (Nat.lt_of_lt_of_le hj h.size) hd).trans (h.block j hj hd)⟩
theorem Onl.ofBelow {D : Nat → Prop} {w w' : World} (h : Below w.heap.size w w') : Onl D w w' := ⟨h.os, h.tape, h.output, h.size, fun j hj _ => h.block j hj⟩
theorem Onl.ofUpd {D : Nat → Prop} {w w' : World} {b : Nat} (h : Upd w w' b) (hb : D b ∨ w.heap.size ≤ b) : Onl D w w' :=
  ⟨h.os, h.tape, h.output, h.size, fun j hj hd => h.block j hj (fun e => by
    simp only [Option.some.injEq] at e
    subst e
    rcases hb with hb | hb
    · exact hd hb
    · omega)⟩
/-- From an elder world: a block that is newer than it may turn. -/
theorem Onl.upd {D : Nat → Prop} {w w1 w' : World} {b : Nat} (h0 : Onl D w w1) (h : Upd w1 w' b) (hb : D b ∨ w.heap.size ≤ b) : Onl D w w' :=
  ⟨h.os.trans h0.os, h.tape.trans h0.tape, h.output.trans h0.output, Nat.le_trans h0.size h.size, fun j hj hd => (h.block j (Nat.lt_of_lt_of_le hj h0.size) (fun e => by
    simp only [Option.some.injEq] at e
    subst e
    rcases hb with hb | hb
    · exact hd hb
    · omega)).trans (h0.block j hj hd)⟩
theorem Onl.below {D : Nat → Prop} {B : Nat} {w0 w w' : World} (h : Onl D w w') (hb : Below B w0 w) (hB : B ≤ w.heap.size) (hD : ∀ j, D j → B ≤ j) : Below B w0 w' :=
  hb.trans ⟨h.os, h.tape, h.output, h.size, fun j hj => h.block j (Nat.lt_of_lt_of_le hj hB) (fun d => by have := hD j d; omega)⟩
theorem Onl.arr {D : Nat → Prop} {k : IntKind} {e : TypeId} {w w' : World} {b : Nat} {xs : List Int} (h : Onl D w w') (ha : Arr k e w b xs) (hb : ¬ D b) : Arr k e w' b xs := by
  unfold Arr; rw [h.block b ha.lt hb]; exact ha
theorem Onl.blk {D : Nat → Prop} {T : TypeId} {w w' : World} {b : Nat} {cs : List Value} (h : Onl D w w') (ha : Blk T w b cs) (hb : ¬ D b) : Blk T w' b cs := by
  unfold Blk; rw [h.block b ha.lt hb]; exact ha
theorem Onl.row {D : Nat → Prop} {k : IntKind} {e : TypeId} {B : Nat} {w w' : World} {v : Value} {xs : List Int} (h : Onl D w w') (hr : Row k e B w v xs) (hb : ∀ b, blkOf v = some b → ¬ D b) : Row k e B w' v xs := by
  rcases hr with hr | ⟨b, S, rfl, h1, hA, h2⟩
  · exact .inl hr
  · exact .inr ⟨b, S, rfl, h1, h.arr hA (hb b rfl), h2⟩
theorem Onl.mrow {D : Nat → Prop} {m : Nat} {e : TypeId} {B : Nat} {w w' : World} {v : Value} {n : Nat} {xs : List Value} (h : Onl D w w') (hr : MRow m e B w v n xs) (hb : ∀ b S, Blk e w b S → blkOf v = some b → ¬ D b) : MRow m e B w' v n xs := by
  obtain ⟨h0, hr⟩ := hr
  refine ⟨h0, ?_⟩
  rcases hr with hr | ⟨b, S, c, rfl, h1, hA, h2⟩
  · exact .inl hr
  · exact .inr ⟨b, S, c, rfl, h1, h.blk hA (hb b S hA rfl), h2⟩
/-- Rows that lie from B on, none of them where something turns. -/
theorem Onl.tlvs {D : Nat → Prop} {B : Nat} {w w' : World} {v : Value} {L : List El} (h : Onl D w w') (ht : Tlvs B w v L) (hD : ∀ j, D j → j < B) : Tlvs B w' v L := by
  obtain ⟨Y, h1, h2, h3, h4⟩ := ht
  refine ⟨Y, h1, h.mrow h2 (fun b S hS hb hd => ?_), fun y hy => ⟨h.row (h3 y hy).1 (fun b hb hd => ?_), h.row (h3 y hy).2 (fun b hb hd => ?_)⟩, h4⟩
  · have := hD b hd
    obtain ⟨_, h2⟩ := h2
    rcases h2 with ⟨rfl, _⟩ | ⟨b', S', c', rfl, hB, _⟩
    · simp [blkOf] at hb
    · simp only [blkOf, Option.some.injEq] at hb; omega
  · have := hD b hd; have := ((h3 y hy).1.blk_lt hb).1; omega
  · have := hD b hd; have := ((h3 y hy).2.blk_lt hb).1; omega
theorem Row.not_tlv {B : Nat} {w : World} {v : Value} {xs : List Int} (h : Row .u8 5 B w v xs) {b : Nat} {S : List Value} (hS : Blk 105 w b S) (hb : blkOf v = some b) : False := by
  rcases h with ⟨rfl, _⟩ | ⟨b', S', rfl, _, hA, _⟩
  · simp [blkOf] at hb
  · simp only [blkOf, Option.some.injEq] at hb
    subst hb
    unfold Arr at hA
    unfold Blk at hS
    rw [hA] at hS
    simp at hS
end Go.Proofs.YtedoghjefdkmaaaGreat
/-
  Der: the law DerBack.
-/
namespace Go.Proofs.YtedoghjefdkmaaaGreat
open Go.RowKit
theorem Grew.onl {w w' : World} {v : Value} {ys : List Int} (hg : Grew .u8 5 w w' v ys) : Onl (fun j => blkOf v = some j) w w' := by
  rcases hg with hg | ⟨b, n, S, rfl, hA, hU, hle, hA'⟩
  · exact Onl.ofBelow hg
  · exact Onl.ofUpd hU (.inl rfl)
theorem u8s_cons {x : Int} {xs : List Int} (h : U8 x) (hs : U8s xs) : U8s (x :: xs) := by
  intro y hy
  rcases List.mem_cons.1 hy with rfl | hy
  · exact h
  · exact hs y hy
theorem tp_u8 (n k : Nat) : ∀ i, U8s (tp n k i)
  | 0 => nil_u8
  | i + 1 => (tp_u8 n k i).append (u8s_cons ⟨by unfold gr; omega, by unfold gr; omega⟩ nil_u8)
theorem tb_u8 (n c : Nat) : ∀ i, U8s (tb n c i)
  | 0 => nil_u8
  | i + 1 => (tb_u8 n c i).append (u8s_cons ⟨by unfold by8; omega, by unfold by8; omega⟩ nil_u8)
theorem encB_u8 (cl : Int) (co : Bool) (t k l : Nat) (d : List Int) (h : headOk cl t = true) (hl8 : l ≤ 7) (hd : U8s d) : U8s (encB cl co t k l d) := by
  have hh : 0 ≤ cl ∧ cl ≤ 3 := by unfold headOk at h; simp at h; omega
  unfold encB
  refine ((?_ : U8s _).append ?_).append hd
  · unfold headB frst
    split
    · refine u8s_cons ⟨?_, ?_⟩ nil_u8 <;> cases co <;> simp <;> omega
    · refine u8s_cons ⟨?_, ?_⟩ ?_
      · cases co <;> simp <;> omega
      · cases co <;> simp <;> omega
      · unfold sev
        exact (tp_u8 t k k).append (u8s_cons ⟨by omega, by omega⟩ nil_u8)
  · unfold lenB
    split
    · exact u8s_cons ⟨by omega, by omega⟩ nil_u8
    · exact u8s_cons ⟨by omega, by omega⟩ (tb_u8 _ _ _)
theorem encB_le (cl : Int) (co : Bool) (t k l : Nat) (d : List Int) (hk : k ≤ 8) (hl8 : l ≤ 7) : (encB cl co t k l d).length ≤ 20 + d.length := by
  unfold encB; rw [List.length_append, List.length_append, headB_len, lenB_len]; split <;> split <;> omega
/-- A slice of elements as an argument has it: class, tag, whether made of others, and data. -/
def TlvArg (w : World) (a : Option Addr) (n c : Nat) (Z : List (El × Value)) : Prop :=
  Z.length = n ∧ n ≤ c ∧ (n = 0 ∨ ∃ b off, a = some ⟨b, off, none⟩ ∧ b < w.heap.size ∧ ∀ (i : Nat) (z : El × Value), Z[i]? = some z → w.cell? ⟨b, off + i * 5, none⟩ = some (.int .i64 z.1.cl) ∧ w.cell? ⟨b, off + i * 5 + 1, none⟩ = some (.int .i64 z.1.tg) ∧ w.cell? ⟨b, off + i * 5 + 2, none⟩ = some (.bool z.1.co) ∧ w.cell? ⟨b, off + i * 5 + 3, none⟩ = some z.2)
    ∧ ∀ z ∈ Z, Sl .u8 w z.2 z.1.d ∧ U8s z.1.d ∧ z.1.d.length ≤ 9223372036854775807
/-- Elements that were laid, in a slice of the call's own; the data lie in elder memory. -/
def TlvM (w wr : World) (all v : Value) (L : List El) : Prop :=
  ∃ Y : List Tc, Y.map (·.1) = L ∧ MRow 5 105 w.heap.size wr v Y.length (tlvCells Y) ∧ (∀ y ∈ Y, Sl .u8 w y.2.1 y.1.d ∧ Row .u8 5 w.heap.size wr y.2.2 y.1.r) ∧ ∀ y ∈ Y, ∀ b, blkOf all = some b → blkOf y.2.2 ≠ some b
theorem TlvM.s {w wr : World} {all v : Value} {L : List El} (h : TlvM w wr all v L) (hb : Below w.heap.size w wr) : TlvS wr v L := by
  obtain ⟨Y, h1, h2, h3, _⟩ := h
  have hl : Y.length = L.length := by rw [← h1, List.length_map]
  rw [hl] at h2
  obtain ⟨h0, h2⟩ := h2
  have hrows : ∀ y ∈ Y, Sl .u8 wr y.2.1 y.1.d ∧ Sl .u8 wr y.2.2 y.1.r := fun y hy => ⟨below_sl hb (h3 y hy).1, (h3 y hy).2.sl⟩
  rcases h2 with ⟨rfl, h2⟩ | ⟨b, S, c, rfl, hB, hA, hS, hc, ht, hm⟩
  · have : L = [] := List.eq_nil_of_length_eq_zero h2
    subst this
    exact ⟨none, 0, Y, rfl, Nat.le_refl _, h1, .inl rfl, hrows⟩
  · refine ⟨_, _, Y, rfl, hc, h1, .inr ⟨b, 0, rfl, hA.lt, fun i hi => ?_⟩, hrows⟩
    rw [Nat.zero_add, hA.cell i, ← ht, List.getElem?_take, if_pos hi]
theorem TlvM.below {w wr wr' : World} {all v : Value} {L : List El} (h : TlvM w wr all v L) (hb : Below wr.heap.size wr wr') : TlvM w wr' all v L := by
  obtain ⟨Y, h1, h2, h3, h4⟩ := h
  exact ⟨Y, h1, h2.below hb, fun y hy => ⟨(h3 y hy).1, (h3 y hy).2.below hb⟩, h4⟩
/-- Put at one list. -/
theorem lists1 {w : World} {b : Nat} {v : Value} {d : List Int} {T : TypeId} (hA : Blk T w b [v]) (hd : Sl .u8 w v d) (hu : U8s d) : Lists w (some ⟨b, 0, none⟩) 1 1 [v] [d] :=
  ⟨⟨_, _, rfl, Nat.le_refl _, .inr ⟨b, 0, rfl, hA.lt, fun i hi => by
      have : i = 0 := by simpa using hi
      subst this
      exact hA.cell 0⟩⟩, ⟨rfl, fun i hi => by
      have : i = 0 := by simpa using hi
      subst this
      exact ⟨hd, hu⟩⟩, rfl⟩
end Go.Proofs.YtedoghjefdkmaaaGreat
/-
  Der: PutUint of any limbs.
-/
namespace Go.Proofs.YtedoghjefdkmaaaGreat
open Go.RowKit
theorem rep_set (k : Nat) (x : Int) : (List.replicate (k + 1) (0 : Int)).set k x = List.replicate k 0 ++ [x] := by
  rw [List.replicate_succ', List.set_append_right _ _ (by simp)]; simp
theorem set_last (P : List Int) (m i : Nat) (hP : P.length = m) (hi : i < m) : (List.replicate (m - i) 0 ++ P.drop (m - i)).set (m - 1 - i) (P.getD (m - 1 - i) 0) = List.replicate (m - (i + 1)) 0 ++ P.drop (m - (i + 1)) := by
  obtain ⟨k, hk⟩ : ∃ k, m - 1 - i = k := ⟨_, rfl⟩
  rw [hk, show m - i = k + 1 by omega, show m - (i + 1) = k by omega, List.set_append_left _ _ (by simp), rep_set, List.append_assoc, List.getD_eq_getElem?_getD, List.getElem?_eq_getElem (by omega)]
  congr 1
  rw [List.drop_eq_getElem_cons (i := k) (by omega)]
  rfl
theorem front_zero {A : List Int} (hu : U32s A) (m K : Nat) (hK : K = min m (4 * A.length)) : List.replicate (m - K) 0 ++ (pI (val A) m).drop (m - K) = pI (val A) m := by
  have h : (pI (val A) m).take (m - K) = List.replicate (m - K) 0 := by
    refine List.eq_replicate_iff.2 ⟨by rw [List.length_take, pI_len]; omega, fun x hx => ?_⟩
    obtain ⟨j, hj, rfl⟩ := List.mem_iff_getElem.1 hx
    rw [List.length_take, pI_len] at hj
    rw [List.getElem_take]
    have h1 := pI_get (val A) m j (by omega)
    rw [List.getD_eq_getElem?_getD, List.getElem?_eq_getElem (by rw [pI_len]; omega)] at h1
    have h2 := high_byte hu (m - 1 - j) (by omega)
    rw [h2] at h1
    exact h1
  rw [← h, List.take_append_drop]
theorem bitLen_val {A : List Int} (hu : U32s A) : bitLen (val A).toNat ≤ 32 * A.length := by
  have h0 := val_nonneg hu
  have h1 := val_lt hu
  obtain ⟨N, hN⟩ := Int.eq_ofNat_of_zero_le h0
  rw [hN, pow32] at h1
  rw [hN, Int.toNat_natCast]
  have h2 : N < 2 ^ (32 * A.length) := by exact_mod_cast h1
  apply Classical.byContradiction
  intro hc
  have hs := (bitLen_spec N).2 (by intro h; subst h; have : bitLen 0 = 0 := rfl; omega)
  have h3 : 2 ^ (32 * A.length) ≤ 2 ^ (bitLen N - 1) := Nat.pow_le_pow_right (by decide) (by omega)
  omega
set_option maxRecDepth 20000 in
set_option maxHeartbeats 4000000 in
theorem PutUint_any {w : World} (v : Value) (A : List Int) (hA : Sl .u32 w v A) (uA : U32s A) (hl : A.length ≤ 600) :
    Calls Tryz.prog 100 #[v] w fun e w' => ∃ r m, IsU (val A) m ∧ m ≤ 2401 ∧ e = .returned r ∧ Sl .u8 w' r (pI (val A) m) ∧ Below w.heap.size w w' := by
  have HB : Hid (Calls Tryz.prog 102 #[v] w fun e w' => e = .returned (.int .i64 (bitLen (val A).toNat)) ∧ Below w.heap.size w w') := NBits_any A v w hA uA (by omega)
  obtain ⟨a, c, rfl, hc, hx⟩ := hA
  obtain ⟨n, hn⟩ : ∃ n, A.length = n := ⟨_, rfl⟩
  obtain ⟨bl, hbl⟩ : ∃ bl, bitLen (val A).toNat = bl := ⟨_, rfl⟩
  obtain ⟨m, hm⟩ : ∃ m, bl / 8 + 1 = m := ⟨_, rfl⟩
  obtain ⟨N4, hN4⟩ : ∃ N4, 4 * n = N4 := ⟨_, rfl⟩
  have hbl2 := bitLen_val uA
  rw [hbl, hn] at hbl2
  have hN0 := val_nonneg uA
  have HM : Hid (IsU (val A) m ∧ (pI (val A) m).length = m ∧ A.length = n ∧ U32s A ∧ N4 = 4 * A.length) := by
    refine ⟨?_, pI_len _ _, hn, uA, by rw [hn]; exact hN4.symm⟩
    have := isU_bits (val A).toNat
    rw [Int.toNat_of_nonneg hN0, hbl, hm] at this
    exact this
  rw [hbl] at HB
  rw [hn] at HB hc hl ⊢
  have hmI : (bl : Int) / 8 + 1 = (m : Int) := by omega
  have hm1 : (1 : Int) ≤ (m : Int) := by omega
  have hm2 : m ≤ 2401 := by omega
  have hbI : (bl : Int) ≤ 19200 := by omega
  have hN4I : 4 * (n : Int) = (N4 : Int) := by omega
  have hnI : (n : Int) ≤ 600 := by omega
  have HX : Hid (A = [] ∨ ∃ b off, a = some ⟨b, off, none⟩ ∧ b < w.heap.size ∧ Rd .u32 w b off A) := hx
  clear hx hn hbl hm hbl2 hN0 uA
  by_cases hcase : m ≤ N4
  · have hKI : (m : Int) ≤ (N4 : Int) := by omega
    have hKI2 : ¬ (N4 : Int) < (m : Int) := by omega
    go_enter Tryz.func100, Tryz.ntmps100
    go_wp2_with fail
    refine HB.out.mono ?_
    rintro e w1 ⟨rfl, hb1⟩
    have HB1 : Hid (Below w.heap.size w w1) := hb1
    clear hb1
    go_wp2_with (at_make; refine wpList_mk w1 rfl (.tmp 10) (.tmp 10) 25 rfl .u8 5 1 Tryz.und8 Tryz.info8 _ m rfl rfl rfl (by omega) (by omega) ?_; intro w2 hA2 hB2; have HA2 : Hid (Arr .u8 5 w2 w1.heap.size (List.replicate m 0) ∧ Below w1.heap.size w1 w2) := ⟨hA2, hB2⟩; clear hA2 hB2)
    go_loopw [17] (fun kv wr => ∃ (i : Nat), kv = .int .i64 i ∧ i ≤ m ∧ Arr .u8 5 wr w1.heap.size (List.replicate (m - i) 0 ++ (pI (val A) m).drop (m - i)) ∧ Below w1.heap.size w1 wr) (fun kv _ => m - (intOf kv).toNat)
    case atStart => exact ⟨0, rfl, by omega, by rw [Nat.sub_zero, List.drop_of_length_le (by rw [HM.out.2.1]; exact Nat.le_refl _), List.append_nil]; exact HA2.out.1, HA2.out.2⟩
    case round =>
      obtain ⟨i, rfl, hi, hA, hB⟩ := hrel
      have H2 : Hid (Arr .u8 5 wr w1.heap.size (List.replicate (m - i) 0 ++ (pI (val A) m).drop (m - i)) ∧ Below w1.heap.size w1 wr) := ⟨hA, hB⟩
      clear hA hB
      by_cases hlt : i < m
      · have l1 : (i : Int) < (m : Int) := by omega
        obtain ⟨b, off, ha, hb, hr⟩ : ∃ b off, a = some ⟨b, off, none⟩ ∧ b < w.heap.size ∧ Rd .u32 w b off A := by
          rcases HX.out with h | h
          · have := HM.out.2.2.1; rw [h] at this; simp at this; omega
          · exact h
        subst ha
        obtain ⟨d, hd⟩ : ∃ d, m - 1 - i = d := ⟨_, rfl⟩
        have hdI : (m : Int) - 1 - (i : Int) = (d : Int) := by omega
        have hdm : (d : Int) < (m : Int) := by omega
        obtain ⟨q, hq⟩ : ∃ q, i / 4 = q := ⟨_, rfl⟩
        obtain ⟨s, hs⟩ : ∃ s, i % 4 * 8 = s := ⟨_, rfl⟩
        have hqI : (i : Int) / 4 = (q : Int) := by omega
        have hsI : (i : Int) % 4 * 8 = (s : Int) := by omega
        have hqn : (q : Int) < (n : Int) := by omega
        have hs32 : (s : Int) ≤ 32 := by omega
        obtain ⟨z, hz⟩ : ∃ z, A.getD q 0 = z := ⟨_, rfl⟩
        have uz := HM.out.2.2.2.1.at q
        rw [hz] at uz
        obtain ⟨z0, z1⟩ := uz
        have cz : wr.cell? ⟨b, off + q, none⟩ = some (.int .u32 z) := by
          rw [H2.out.2.cell (p := ⟨b, off + q, none⟩) (Nat.lt_of_lt_of_le hb HB1.out.size), HB1.out.cell (p := ⟨b, off + q, none⟩) hb, hr q (by have := HM.out.2.2.1; omega), hz]
        obtain ⟨y, hy⟩ : ∃ y, z / 2 ^ s = y := ⟨_, rfl⟩
        obtain ⟨x, hx⟩ : ∃ x, IntKind.u8.wrap y = x := ⟨_, rfl⟩
        have HZ : Hid ((pI (val A) m).getD d 0 = x) := by
          show _ = _
          rw [pI_get (val A) m d (by omega), show m - 1 - d = i by omega, ← limb_byte HM.out.2.2.2.1 i, hq, hs, hz, hy, ← hx, wrap8]
        have hlen : (List.replicate (m - i) 0 ++ (pI (val A) m).drop (m - i)).length = m := by
          rw [List.length_append, List.length_replicate, List.length_drop, HM.out.2.1]; omega
        have ci := H2.out.1.cell d (by rw [hlen]; omega)
        have fi := H2.out.1.frozen d
        have gl := H2.out.1.lt
        have H3 : Hid (Arr .u8 5 (wr.setCell ⟨w1.heap.size, d, none⟩ (.int .u8 x)) w1.heap.size (List.replicate (m - (i + 1)) 0 ++ (pI (val A) m).drop (m - (i + 1))) ∧ Below w1.heap.size w1 (wr.setCell ⟨w1.heap.size, d, none⟩ (.int .u8 x))) := by
          refine ⟨?_, (Upd.set _ _ _ _).below H2.out.2 H2.out.2.size (Nat.le_refl _)⟩
          have := H2.out.1.set d x
          have e := set_last (pI (val A) m) m i HM.out.2.1 (by omega)
          rw [hd, HZ.out] at e
          rw [e] at this
          exact this
        clear hlen hd hq hs hz hr
        go_wp2
        go_roundw
        case rel => exact ⟨i + 1, by go_num, by omega, H3.out.1, H3.out.2⟩
        case measure => simp [intOf]; omega
      · obtain rfl : i = m := by omega
        have l1 : ¬ (i : Int) < (i : Int) := by omega
        go_wp2
        go_ret
        refine ⟨_, i, HM.out.1, hm2, rfl, ?_, HB1.out.trans (H2.out.2.mono HB1.out.size)⟩
        have h := H2.out.1
        rw [front_zero HM.out.2.2.2.1 i i (by have := HM.out.2.2.2.2; omega)] at h
        have h9 := h.sl
        rw [HM.out.2.1] at h9
        exact h9
  · have hKI : (N4 : Int) < (m : Int) := by omega
    have hKI2 : ¬ (m : Int) ≤ (N4 : Int) := by omega
    go_enter Tryz.func100, Tryz.ntmps100
    go_wp2_with fail
    refine HB.out.mono ?_
    rintro e w1 ⟨rfl, hb1⟩
    have HB1 : Hid (Below w.heap.size w w1) := hb1
    clear hb1
    go_wp2_with (at_make; refine wpList_mk w1 rfl (.tmp 10) (.tmp 10) 25 rfl .u8 5 1 Tryz.und8 Tryz.info8 _ m rfl rfl rfl (by omega) (by omega) ?_; intro w2 hA2 hB2; have HA2 : Hid (Arr .u8 5 w2 w1.heap.size (List.replicate m 0) ∧ Below w1.heap.size w1 w2) := ⟨hA2, hB2⟩; clear hA2 hB2)
    go_loopw [17] (fun kv wr => ∃ (i : Nat), kv = .int .i64 i ∧ i ≤ N4 ∧ Arr .u8 5 wr w1.heap.size (List.replicate (m - i) 0 ++ (pI (val A) m).drop (m - i)) ∧ Below w1.heap.size w1 wr) (fun kv _ => N4 - (intOf kv).toNat)
    case atStart => exact ⟨0, rfl, by omega, by rw [Nat.sub_zero, List.drop_of_length_le (by rw [HM.out.2.1]; exact Nat.le_refl _), List.append_nil]; exact HA2.out.1, HA2.out.2⟩
    case round =>
      obtain ⟨i, rfl, hi, hA, hB⟩ := hrel
      have H2 : Hid (Arr .u8 5 wr w1.heap.size (List.replicate (m - i) 0 ++ (pI (val A) m).drop (m - i)) ∧ Below w1.heap.size w1 wr) := ⟨hA, hB⟩
      clear hA hB
      by_cases hlt : i < N4
      · have l1 : (i : Int) < (N4 : Int) := by omega
        obtain ⟨b, off, ha, hb, hr⟩ : ∃ b off, a = some ⟨b, off, none⟩ ∧ b < w.heap.size ∧ Rd .u32 w b off A := by
          rcases HX.out with h | h
          · have := HM.out.2.2.1; rw [h] at this; simp at this; omega
          · exact h
        subst ha
        obtain ⟨d, hd⟩ : ∃ d, m - 1 - i = d := ⟨_, rfl⟩
        have hdI : (m : Int) - 1 - (i : Int) = (d : Int) := by omega
        have hdm : (d : Int) < (m : Int) := by omega
        obtain ⟨q, hq⟩ : ∃ q, i / 4 = q := ⟨_, rfl⟩
        obtain ⟨s, hs⟩ : ∃ s, i % 4 * 8 = s := ⟨_, rfl⟩
        have hqI : (i : Int) / 4 = (q : Int) := by omega
        have hsI : (i : Int) % 4 * 8 = (s : Int) := by omega
        have hqn : (q : Int) < (n : Int) := by omega
        have hs32 : (s : Int) ≤ 32 := by omega
        obtain ⟨z, hz⟩ : ∃ z, A.getD q 0 = z := ⟨_, rfl⟩
        have uz := HM.out.2.2.2.1.at q
        rw [hz] at uz
        obtain ⟨z0, z1⟩ := uz
        have cz : wr.cell? ⟨b, off + q, none⟩ = some (.int .u32 z) := by
          rw [H2.out.2.cell (p := ⟨b, off + q, none⟩) (Nat.lt_of_lt_of_le hb HB1.out.size), HB1.out.cell (p := ⟨b, off + q, none⟩) hb, hr q (by have := HM.out.2.2.1; omega), hz]
        obtain ⟨y, hy⟩ : ∃ y, z / 2 ^ s = y := ⟨_, rfl⟩
        obtain ⟨x, hx⟩ : ∃ x, IntKind.u8.wrap y = x := ⟨_, rfl⟩
        have HZ : Hid ((pI (val A) m).getD d 0 = x) := by
          show _ = _
          rw [pI_get (val A) m d (by omega), show m - 1 - d = i by omega, ← limb_byte HM.out.2.2.2.1 i, hq, hs, hz, hy, ← hx, wrap8]
        have hlen : (List.replicate (m - i) 0 ++ (pI (val A) m).drop (m - i)).length = m := by
          rw [List.length_append, List.length_replicate, List.length_drop, HM.out.2.1]; omega
        have ci := H2.out.1.cell d (by rw [hlen]; omega)
        have fi := H2.out.1.frozen d
        have gl := H2.out.1.lt
        have H3 : Hid (Arr .u8 5 (wr.setCell ⟨w1.heap.size, d, none⟩ (.int .u8 x)) w1.heap.size (List.replicate (m - (i + 1)) 0 ++ (pI (val A) m).drop (m - (i + 1))) ∧ Below w1.heap.size w1 (wr.setCell ⟨w1.heap.size, d, none⟩ (.int .u8 x))) := by
          refine ⟨?_, (Upd.set _ _ _ _).below H2.out.2 H2.out.2.size (Nat.le_refl _)⟩
          have := H2.out.1.set d x
          have e := set_last (pI (val A) m) m i HM.out.2.1 (by omega)
          rw [hd, HZ.out] at e
          rw [e] at this
          exact this
        clear hlen hd hq hs hz hr
        go_wp2
        go_roundw
        case rel => exact ⟨i + 1, by go_num, by omega, H3.out.1, H3.out.2⟩
        case measure => simp [intOf]; omega
      · obtain rfl : i = N4 := by omega
        have l1 : ¬ (i : Int) < (i : Int) := by omega
        go_wp2
        go_ret
        refine ⟨_, m, HM.out.1, hm2, rfl, ?_, HB1.out.trans (H2.out.2.mono HB1.out.size)⟩
        have h := H2.out.1
        rw [front_zero HM.out.2.2.2.1 m i (by have := HM.out.2.2.2.2; omega)] at h
        have h9 := h.sl
        rw [HM.out.2.1] at h9
        exact h9
end Go.Proofs.YtedoghjefdkmaaaGreat
/-
  Ecdsa: two numbers as a signature's bytes: the inner functions.
-/
namespace Go.Proofs.YtedoghjefdkmaaaGreat
open Go.RowKit
/-- How many bytes a length below 65536 has. -/
def lenC (N : Nat) : Nat := if N = 0 then 0 else if N < 256 then 1 else 2
theorem lenC_ok {N : Nat} (h : N < 65536) : N / 256 ^ lenC N = 0 ∧ (∀ j, j < lenC N → 0 < N / 256 ^ j) ∧ lenC N ≤ 7 := by
  unfold lenC
  split
  · subst_vars; simp
  · split
    · refine ⟨by omega, fun j hj => ?_, by omega⟩
      obtain rfl : j = 0 := by omega
      simp; omega
    · refine ⟨by omega, fun j hj => ?_, by omega⟩
      have : j = 0 ∨ j = 1 := by omega
      rcases this with rfl | rfl
      · simp; omega
      · simp; omega
/-- An element of the universal class, laid. -/
def enc2 (t : Nat) (co : Bool) (d : List Int) : List Int := encB 0 co t 0 (lenC d.length) d
def numB (A : List Int) : List Int := pI (val A) (bitLen (val A).toNat / 8 + 1)
def sigB (A B : List Int) : List Int := enc2 16 true (enc2 2 false (numB A) ++ enc2 2 false (numB B))
theorem numB_of {A : List Int} (hA : U32s A) {m : Nat} (h : IsU (val A) m) : pI (val A) m = numB A := by
  have h0 : ((val A).toNat : Int) = val A := Int.toNat_of_nonneg (val_nonneg hA)
  have h1 := isU_bits (val A).toNat
  rw [h0] at h1
  unfold numB; rw [h.uniq h1]
theorem lists2 {w : World} {b : Nat} {v v' : Value} {d d' : List Int} {T : TypeId} (hA : Blk T w b [v, v']) (hd : Sl .u8 w v d) (hu : U8s d) (hd' : Sl .u8 w v' d') (hu' : U8s d') : Lists w (some ⟨b, 0, none⟩) 2 2 [v, v'] [d, d'] :=
  ⟨⟨_, _, rfl, Nat.le_refl _, .inr ⟨b, 0, rfl, hA.lt, fun i hi => by
      have : i = 0 ∨ i = 1 := by simp at hi; omega
      rcases this with rfl | rfl
      · exact hA.cell 0
      · exact hA.cell 1⟩⟩, ⟨rfl, fun i hi => by
      have : i = 0 ∨ i = 1 := by simp at hi; omega
      rcases this with rfl | rfl
      · exact ⟨hd, hu⟩
      · exact ⟨hd', hu'⟩⟩, rfl⟩
set_option maxRecDepth 20000 in
theorem put_any {w : World} (t : Nat) (ht : t = 2 ∨ t = 16) (co : Bool) (a : Option Addr) (n cp : Nat) (vs : List Value) (ms : List (List Int)) (hL : Lists w a n cp vs ms) (hN : ms.flatten.length < 65536) (hn : n ≤ 2) :
    Calls Tryz.prog 99 #[.int .i64 (t : Nat), .bool co, .slice a n cp] w fun e w' => ∃ r, e = .returned r ∧ Row .u8 5 w.heap.size w' r (enc2 t co ms.flatten) ∧ Below w.heap.size w w' := by
  have HP : Hid (Calls Tryz.prog 123 #[.int .i64 0, .int .i64 (t : Nat), .bool co, .slice a n cp] w fun e w' => ∃ r, e = .returned (.tuple #[r, .int .i64 0]) ∧ Row .u8 5 w.heap.size w' r (headB 0 co t 0 ++ lenB ms.flatten.length (lenC ms.flatten.length) ++ ms.flatten) ∧ Below w.heap.size w w') := by
    have hc := lenC_ok hN
    exact Put_any 0 t 0 (lenC ms.flatten.length) co a n cp ms.flatten.length vs ms hL rfl (by omega) (by omega) (by rcases ht with rfl | rfl <;> rfl) (by rcases ht with rfl | rfl <;> decide) (by intro j hj; omega) (by omega) hc.1 hc.2.1 hc.2.2
  clear hL hN hn ht
  go_enter Tryz.func99, Tryz.ntmps99
  go_wp2_with fail
  refine HP.out.mono ?_
  rintro e w1 ⟨r, rfl, hr, hb⟩
  have H1 : Hid (Row .u8 5 w.heap.size w1 r (enc2 t co ms.flatten) ∧ Below w.heap.size w w1) := ⟨hr, hb⟩
  clear hr hb
  go_wp2
  go_ret
  exact ⟨_, rfl, H1.out⟩
end Go.Proofs.YtedoghjefdkmaaaGreat
