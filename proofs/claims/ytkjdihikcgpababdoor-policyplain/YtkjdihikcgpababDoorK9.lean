/-
  Policy: slices of texts in memory; make, copy, sort of them.
-/
import Derived.Maps.OwnSet
import Derived.Sort.EncStr
import Derived.Sort.Grow
import Derived.Test.YtkjdihikcgpababDoorK8
namespace Go.Proofs.YtkjdihikcgpababDoor
open Go.RowKit Go.Sort
/-- The slice v reads the texts L. -/
def TxS (w : World) (v : Value) (L : List Tx) : Prop :=
  (∃ a c, v = .slice a L.length c ∧ L.length ≤ c ∧ (L = [] ∨ ∃ b off, a = some ⟨b, off, none⟩ ∧ b < w.heap.size ∧ ∀ i, i < L.length → w.cell? ⟨b, off + i, none⟩ = some (encStr (L.getD i [])))) ∧ ∀ s ∈ L, s.length ≤ maxLen
theorem TxS.below {w w' : World} {v : Value} {L : List Tx} (h : TxS w v L) (hb : Below w.heap.size w w') : TxS w' v L := by
  obtain ⟨⟨a, c, h1, h2, h3⟩, h4⟩ := h
  refine ⟨⟨a, c, h1, h2, ?_⟩, h4⟩
  rcases h3 with h3 | ⟨b, off, h6, h7, h8⟩
  · exact .inl h3
  · exact .inr ⟨b, off, h6, Nat.lt_of_lt_of_le h7 hb.size, fun i hi => (hb.cell (p := ⟨b, off + i, none⟩) h7).trans (h8 i hi)⟩
theorem TxS.nil (w : World) : TxS w (.slice none 0 0) [] := ⟨⟨none, 0, rfl, Nat.le_refl _, .inl rfl⟩, by simp⟩
theorem TxS.form {w : World} {v : Value} {L : List Tx} (h : TxS w v L) : ∃ a c, v = .slice a L.length c ∧ L.length ≤ c := by
  obtain ⟨⟨a, c, h1, h2, _⟩, _⟩ := h
  exact ⟨a, c, h1, h2⟩
theorem TxS.at {w : World} {a : Option Addr} {n c : Nat} {L : List Tx} (h : TxS w (.slice a n c) L) {i : Nat} (hi : i < L.length) : ∃ b off, a = some ⟨b, off, none⟩ ∧ w.cell? ⟨b, off + i, none⟩ = some (encStr L[i]) ∧ L[i].length ≤ maxLen := by
  obtain ⟨⟨a', c', h1, h2, h3⟩, h4⟩ := h
  rcases h3 with h3 | ⟨b, off, h6, h7, h8⟩
  · subst h3; simp at hi
  · simp only [Value.slice.injEq] at h1
    obtain ⟨rfl, _, _⟩ := h1
    refine ⟨b, off, h6, ?_, h4 _ (List.getElem_mem hi)⟩
    rw [h8 i hi, List.getD_eq_getElem?_getD, List.getElem?_eq_getElem hi]; rfl
theorem txc_one (L : List Tx) : ∀ u ∈ L.map encStr, u.oneCell' = true := fun u hu => by obtain ⟨x, _, rfl⟩ := List.mem_map.1 hu; rfl
/-- A slice of texts as the source of an append or a copy. -/
theorem TxS.src {P : Program} {w : World} {v : Value} {L : List Tx} (h : TxS w v L) {t e : TypeId} (ht : P.underlying t = some (.slice e)) : Src P 1 t v L.length (L.map encStr) w := by
  obtain ⟨⟨a, c, rfl, hc, h4⟩, h5⟩ := h
  rcases h4 with rfl | ⟨b, off, rfl, hb, hcs⟩
  · cases a with
    | none => exact Src.ofNil w ht c
    | some a => exact Src.ofSlice w ht a 0 c [] (by simp) (by simp) (by simp)
  · refine Src.ofSlice w ht _ _ _ _ (by simp) (fun j u hj => ?_) (txc_one L)
    have hl : j < L.length := by have := (List.getElem?_eq_some_iff.1 hj).1; simpa using this
    have hadd : (⟨b, off, none⟩ : Addr).add j = ⟨b, off + j, none⟩ := by simp [Addr.add]
    rw [hadd, hcs j hl, ← hj, List.getElem?_map, List.getD_eq_getElem?_getD, List.getElem?_eq_getElem hl]; rfl
/-- Texts in a block of their own. -/
theorem TxS.ofBlk {T : TypeId} {w : World} {b : Nat} {S : List Value} (hA : Blk T w b S) {L : List Tx} (n c : Nat) (hn : n = L.length) (hc : L.length ≤ c) (h : S.take L.length = L.map encStr) (hl : ∀ s ∈ L, s.length ≤ maxLen) : TxS w (.slice (some ⟨b, 0, none⟩) n c) L := by
  subst hn
  refine ⟨⟨_, c, rfl, hc, .inr ⟨b, 0, rfl, hA.lt, fun i hi => ?_⟩⟩, hl⟩
  rw [Nat.zero_add, hA.cell]
  have h1 : (S.take L.length)[i]? = some (encStr (L.getD i [])) := by rw [h, List.getElem?_map, List.getD_eq_getElem?_getD, List.getElem?_eq_getElem hi]; rfl
  rw [List.getElem?_take, if_pos hi] at h1
  exact h1
theorem VRow.tx {T : TypeId} {B : Nat} {w : World} {v : Value} {L : List Tx} (h : VRow T B w v (L.map encStr)) (hl : ∀ s ∈ L, s.length ≤ maxLen) : TxS w v L := by
  rcases h with ⟨rfl, h⟩ | ⟨b, S, rfl, _, hA, hle, ht, _⟩
  · have : L = [] := by simpa using h
    subst this
    exact TxS.nil w
  · rw [List.length_map] at hle ht ⊢
    exact TxS.ofBlk hA _ _ rfl hle ht hl
/-- A row that begins with texts. -/
theorem blk_putRow {T : TypeId} {w : World} {b : Nat} {S : List Value} (hA : Blk T w b S) (d : List Tx) (hd : d.length ≤ S.length) (n : Nat) : Blk T (putRow encStr (Sort.ahead w n) b 0 d.toArray) b (d.map encStr ++ S.drop d.length) := by
  unfold Blk putRow mapBlock
  have hA' : (Sort.ahead w n).heap[b]? = some (.cells S.toArray T (0, 0)) := hA
  simp only [Array.getElem?_modify, if_true, hA', Option.map_some, onCells]
  congr 2
  apply Array.ext_getElem?
  intro k
  unfold putCells
  simp only [Array.getElem?_mapIdx, Nat.zero_le, true_and, Nat.zero_add, Nat.sub_zero, List.size_toArray, List.getElem?_toArray]
  by_cases hk : k < d.length
  · rw [List.getElem?_append_left (by simpa using hk), List.getElem?_eq_getElem (show k < S.length by omega)]
    simp [hk]
  · rw [List.getElem?_append_right (by simp; omega), List.length_map, List.getElem?_drop, show d.length + (k - d.length) = k by omega]
    simp [hk]
theorem upd_putRow {w : World} {b : Nat} (d : Array Tx) (n : Nat) (os : Array Obj) : Upd w (grow (putRow encStr (Sort.ahead w n) b 0 d) os) b := by
  refine ⟨rfl, rfl, rfl, by simp [grow, putRow, mapBlock, Sort.ahead], fun k hk hne => ?_⟩
  have hkb : b ≠ k := fun e => hne (by rw [e])
  show ((putRow encStr (Sort.ahead w n) b 0 d).heap ++ os)[k]? = _
  rw [Array.getElem?_append_left (by simpa [putRow, mapBlock, Sort.ahead] using hk)]
  show ((Sort.ahead w n).heap.modify b _)[k]? = _
  rw [Array.getElem?_modify, if_neg hkb]
  rfl
theorem blk_grow {T : TypeId} {w : World} {b : Nat} {S : List Value} (hA : Blk T w b S) (os : Array Obj) : Blk T (grow w os) b S := by
  unfold Blk
  show (w.heap ++ os)[b]? = _
  rw [Array.getElem?_append_left hA.lt]
  exact hA
theorem holds_tx {T : TypeId} {w : World} {b : Nat} {S : List Value} (hA : Blk T w b S) {L : List Tx} (h : S.take L.length = L.map encStr) : Holds encStr w b 0 L.toArray := by
  intro j hj
  have hj' : j < L.length := by simpa using hj
  refine ⟨?_, hA.frozen _⟩
  rw [Nat.zero_add, hA.cell]
  have h1 : (S.take L.length)[j]? = some (encStr L[j]) := by rw [h, List.getElem?_map, List.getElem?_eq_getElem hj']; rfl
  rw [List.getElem?_take, if_pos hj'] at h1
  rw [h1]
  simp [hj']
theorem madeV (z : Value) (hz : z.cells = #[z]) (n : Nat) : (madeCells z.cells (n * 1)).toList = List.replicate n z := by
  rw [hz]
  apply List.ext_getElem
  · simp [madeCells]
  · intro i h1 h2
    simp [madeCells, Nat.mod_one]
/-- 'make([]T, n)' of values of one cell. -/
theorem wpList_mkV {P : Program} (w : World) {ops : Array Oper} {rest : List Oper} {o : Oper} {a : Act} {Q : Exit → Act → World → Prop} (hg : o.guard = none) (l c : Operand) (t : TypeId) (hop : o.op = .makeSlice t l c)
    (z : Value) (hzc : z.cells = #[z]) (e : TypeId) (bytes : Nat) (ht : P.underlying t = some (.slice e)) (hi : (P.info? e).map (fun i => (i.zero, i.size, i.bytes)) = some (some z, 1, bytes))
    (n : Nat) (hl : a.eval l = .int .i64 n) (hc : a.eval c = .int .i64 n) (hb : bytes * n ≤ 281474976710656) (hm : n ≤ 1152921504606846976)
    (hK : ∀ w', Blk e w' w.heap.size (List.replicate n z) → Below w.heap.size w w' → wpList P ops Q rest (a.put o.dst (.slice (some ⟨w.heap.size, 0, none⟩) n n)) w') :
    wpList P ops Q (o :: rest) a w := by
  obtain ⟨i0, hi0, hz0, hz1, hz2⟩ := info_parts hi
  refine wpList_plain hg fun K hK' => ?_
  have hb' : (i0.bytes : Int) * (n : Int) ≤ 281474976710656 := by
    have h : ((i0.bytes * n : Nat) : Int) ≤ 281474976710656 := by rw [hz2]; omega
    rwa [Int.natCast_mul] at h
  have hr := run_make (P := P) w t e i0 z ht hi0 hz0 .i64 .i64 n n (by omega) (by omega) hb' (by omega)
  simp only [Int.toNat_natCast, hz1] at hr
  have hA : Blk e (w.alloc (.cells (madeCells z.cells (n * 1)) e)) w.heap.size (List.replicate n z) := by
    have := Blk.new e w (List.replicate n z)
    rwa [← toArray_of_toList (madeV z hzc n)] at this
  unfold Oper.wp
  simp [execOp, hop, hl, hc, hr, Result.andThen]
  refine hK' _ _ (hK _ ?_ ((Below.refl _ _).alloc (Nat.le_refl _) _))
  simpa using hA
/-- 'copy(dst, src)': both of one length, dst a whole block of its own. -/
theorem wpList_cpV {P : Program} {w : World} {ops : Array Oper} {rest : List Oper} {o : Oper} {a : Act} {Q : Exit → Act → World → Prop} (hgd : o.guard = none) (d s : Operand) (t : TypeId)
    (ho : o.op = .call { callee := .builtin .copy, args := #[d, s], argTypes := #[t, t] }) (e : TypeId) (hu : P.underlying t = some (.slice e)) (hsz : (P.info? e).map (·.size) = some 1)
    (g n dCap : Nat) (T : TypeId) (D cs : List Value) (hA : Blk T w g D) (hd : a.eval d = .slice (some ⟨g, 0, none⟩) n dCap) (v : Value) (hs : a.eval s = v) (hx : Src P 1 t v n cs w) (hv : ∃ sp sCap, v = .slice sp n sCap) (hfit : n = D.length)
    (h : ∀ w', Blk T w' g cs → Upd w w' g → wpList P ops Q rest (a.put o.dst (goInt n)) w') :
    wpList P ops Q (o :: rest) a w := by
  obtain ⟨sp, sCap, rfl⟩ := hv
  obtain ⟨i0, hi0, hs0⟩ : ∃ i0, P.info? e = some i0 ∧ i0.size = 1 := by
    cases h : P.info? e with
    | none => rw [h] at hsz; cases hsz
    | some i0 => rw [h] at hsz; exact ⟨i0, rfl, by simpa using hsz⟩
  have hlen := hx.newsLen
  have hst := run_storeCells_at P g 0 T cs 0 D.toArray w hA (by simp only [Nat.add_zero, List.size_toArray]; omega) hx.one
  have hrun : (Builtin.copy_ #[t, t] o.type #[.slice (some ⟨g, 0, none⟩) n dCap, .slice sp n sCap]).run P w = .ok (goInt n) (w.setRow g (D.toArray.toList.take 0 ++ cs ++ D.toArray.toList.drop (0 + cs.length)).toArray) := by
    simp [Builtin.copy_, run_underlying hu, sizeOf, typeInfo, hi0, hs0, hx.len, hx.cells, hst]
  refine wpList_plain hgd fun K hK => ?_
  unfold Oper.wp
  simp [execOp, ho, resolve, invoke, builtin, hd, hs, hrun, Result.andThen]
  refine hK _ _ (h _ ?_ ⟨rfl, rfl, rfl, by simp [World.setRow], fun k _ hk => setRow_other w g k _ (fun e => hk (by simp [e]))⟩)
  unfold Blk
  rw [setRow_heap w g _ _ T _ hA]
  have : D.length ≤ cs.length := by omega
  simp [List.drop_eq_nil_of_le this]
/-- The set of a row of texts, as a map. -/
def setD (L : List Tx) : DataW Unit := L.foldl (fun D x => D.put (.string x) (.agg [])) (.map [])
theorem setD_snoc (L : List Tx) (x : Tx) : setD (L ++ [x]) = (setD L).put (.string x) (.agg []) := by unfold setD; rw [List.foldl_append]; rfl
theorem has_fold' (L : List Tx) (x : Tx) : ∀ D : DataW Unit, Go.Maps.IsMap D → Go.Maps.has (L.foldl (fun D x => D.put (.string x) (.agg [])) D) (.string x) = (Go.Maps.has D (.string x) || decide (x ∈ L)) ∧ Go.Maps.IsMap (L.foldl (fun D x => D.put (.string x) (.agg [])) D) := by
  induction L with
  | nil => intro D hD; simp [hD]
  | cons y L ih =>
    intro D hD
    have hD' : Go.Maps.IsMap (D.put (.string y) (.agg [])) := by obtain ⟨es, rfl⟩ := hD; exact ⟨_, rfl⟩
    obtain ⟨h1, h2⟩ := ih _ hD'
    refine ⟨?_, h2⟩
    rw [List.foldl_cons, h1]
    by_cases e : x = y
    · subst e
      rw [Go.Maps.has_put_same hD (by simp [WideAt.IsKeyLit])]
      simp
    · rw [Go.Maps.has_put_other (fun h => e (by simpa using h))]
      simp [e]
theorem has_setD (L : List Tx) (x : Tx) : Go.Maps.has (setD L) (.string x) = decide (x ∈ L) := by
  have := (has_fold' L x (.map []) ⟨[], rfl⟩).1
  unfold setD
  rw [this]
  simp [Go.Maps.has]
end Go.Proofs.YtkjdihikcgpababDoor
