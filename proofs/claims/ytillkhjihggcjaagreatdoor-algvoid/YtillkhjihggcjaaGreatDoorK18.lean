/-
  Der: the same rows of elements.
-/
import Derived.BigRegion
import Derived.Test.YtillkhjihggcjaaGreatDoorK17
namespace Go.Proofs.YtillkhjihggcjaaGreatDoor
open Go.RowKit
theorem tlvCells_get : ∀ (Y : List Tc) (i q : Nat), q < 5 → (tlvCells Y)[i * 5 + q]? = (Y[i]?).bind fun y => (cell5 y)[q]?
  | [], i, q, _ => by simp [tlvCells]
  | y :: Y, 0, q, hq => by
    have hl : (cell5 y).length = 5 := rfl
    simp only [tlvCells, List.flatMap_cons, Nat.zero_mul, Nat.zero_add, List.getElem?_cons_zero, Option.bind_some]
    rw [List.getElem?_append_left (by omega)]
  | y :: Y, i + 1, q, hq => by
    have hl : (cell5 y).length = 5 := rfl
    have := tlvCells_get Y i q hq
    simp only [tlvCells, List.flatMap_cons, List.getElem?_cons_succ] at this ⊢
    rw [List.getElem?_append_right (by omega), hl, show (i + 1) * 5 + q - 5 = i * 5 + q by omega, this]
/-- A slice that reads elements, with the values by name. -/
def TlvS (w : World) (v : Value) (L : List El) : Prop :=
  ∃ a c Y, v = .slice a L.length c ∧ L.length ≤ c ∧ Y.map (·.1) = L ∧ (L = [] ∨ ∃ b off, a = some ⟨b, off, none⟩ ∧ b < w.heap.size ∧ ∀ i, i < L.length * 5 → w.cell? ⟨b, off + i, none⟩ = (tlvCells Y)[i]?) ∧ ∀ y ∈ Y, Sl .u8 w y.2.1 y.1.d ∧ Sl .u8 w y.2.2 y.1.r
theorem TlvR.s {B : Nat} {w : World} {v : Value} {L : List El} (h : TlvR B w v L) : TlvS w v L := by
  obtain ⟨Y, h1, h2, h3⟩ := h
  have hl : Y.length = L.length := by rw [← h1, List.length_map]
  rw [hl] at h2
  obtain ⟨h0, h2⟩ := h2
  rcases h2 with ⟨rfl, h2⟩ | ⟨b, S, c, rfl, hB, hA, hS, hc, ht, hm⟩
  · have : L = [] := List.eq_nil_of_length_eq_zero h2
    subst this
    exact ⟨none, 0, Y, rfl, Nat.le_refl _, h1, .inl rfl, fun y hy => ⟨(h3 y hy).1.sl, (h3 y hy).2.sl⟩⟩
  · refine ⟨_, _, Y, rfl, hc, h1, .inr ⟨b, 0, rfl, hA.lt, fun i hi => ?_⟩, fun y hy => ⟨(h3 y hy).1.sl, (h3 y hy).2.sl⟩⟩
    rw [Nat.zero_add, hA.cell i, ← ht, List.getElem?_take, if_pos hi]
theorem TlvS.below {w w' : World} {v : Value} {L : List El} (h : TlvS w v L) (hb : Below w.heap.size w w') : TlvS w' v L := by
  obtain ⟨a, c, Y, rfl, h1, h2, h3, h4⟩ := h
  refine ⟨a, c, Y, rfl, h1, h2, ?_, fun y hy => ⟨below_sl hb (h4 y hy).1, below_sl hb (h4 y hy).2⟩⟩
  rcases h3 with h3 | ⟨b, off, rfl, hbl, hr⟩
  · exact .inl h3
  · exact .inr ⟨b, off, rfl, Nat.lt_of_lt_of_le hbl hb.size, fun i hi => (hb.cell (p := ⟨b, off + i, none⟩) hbl).trans (hr i hi)⟩
/-- The five cells of element i. -/
theorem cells_at {w : World} {b off : Nat} {Y : List Tc} {n i : Nat} (hr : ∀ i, i < n * 5 → w.cell? ⟨b, off + i, none⟩ = (tlvCells Y)[i]?) (hi : i < n) (y : Tc) (hy : Y[i]? = some y) (q : Nat) (hq : q < 5) (u : Value) (hu : (cell5 y)[q]? = some u) :
    w.cell? ⟨b, off + i * 5 + q, none⟩ = some u := by
  have h := hr (i * 5 + q) (by omega)
  rw [tlvCells_get Y i q hq, hy, Option.bind_some, hu] at h
  rw [← h]; congr 2; omega
theorem al_d {a w : World} {o : Obj} (h : Below a.heap.size a w.drew) : Below a.heap.size a (w.alloc o).drew := by
  have h1 : Below a.heap.size a w := h.trans ⟨rfl, rfl, rfl, Nat.le_refl _, fun _ _ => rfl⟩
  exact (al2' h1).drew
theorem al_dd {a : World} {o o' : Obj} : Below a.heap.size a ((a.alloc o).alloc o').drew := (al2' (al1 o)).drew
end Go.Proofs.YtillkhjihggcjaaGreatDoor
/-
  Der: the law DerSplits.
-/
namespace Go.Proofs.YtillkhjihggcjaaGreatDoor
open Go.RowKit
def spE : Sp → Int
  | .inl (e, _) => e
  | .inr _ => 0
def spA (n : Nat) : Sp → Nat
  | .inl (_, a) => a
  | .inr _ => n
def spL : Sp → List El
  | .inl (_, _) => []
  | .inr L => L
theorem SplitAns.uni {M : List Int} {B : Nat} {w : World} {e : Ending} (h : SplitAns M B w e) : ∃ v, e = .returned (.tuple #[v, .int .i64 (spE (splitS M)), .int .i64 (spA M.length (splitS M))]) ∧ Tlvs B w v (spL (splitS M)) := by
  unfold SplitAns at h
  cases hS : splitS M with
  | inl pq => obtain ⟨er, a⟩ := pq; rw [hS] at h; exact ⟨_, h, Tlvs.nil _ _⟩
  | inr L => rw [hS] at h; exact h
theorem SplitOutR.uni {n : Nat} {S : Sp} {B : Nat} {w : World} {e : Ending} (h : SplitOutR n B w e S) : ∃ v, e = .returned (.tuple #[v, .int .i64 (spE S), .int .i64 (spA n S)]) ∧ TlvR B w v (spL S) := by
  cases S with
  | inl pq => obtain ⟨er, a⟩ := pq; exact ⟨_, h, TlvR.nil _ _⟩
  | inr L => exact h
theorem spl_small {M : List Int} (hM : U8s M) : ∀ f p L, M.length - p = f → L.length ≤ 65536 → (∀ y ∈ L, y.d.length ≤ M.length ∧ y.r.length ≤ M.length) → ∀ L', spl M p L = .inr L' → L'.length ≤ 65536 ∧ ∀ y ∈ L', y.d.length ≤ M.length ∧ y.r.length ≤ M.length := by
  intro f
  induction f using Nat.strongRecOn with
  | _ f ih =>
    intro p L hf hL hy L' h
    by_cases hp : p < M.length
    · by_cases hL2 : L.length < 65536
      · cases hE : elemS M p with
        | inl pq => obtain ⟨e', a'⟩ := pq; rw [spl_bad hp hL2 hE] at h; cases h
        | inr pq =>
          obtain ⟨t, j, E⟩ := pq
          have := elemS_ok hM hp hE
          rw [spl_ok hM hp hL2 hE] at h
          refine ih (M.length - E) (by omega) E _ rfl (by rw [List.length_append]; exact hL2) ?_ L' h
          intro y hy'
          rcases List.mem_append.1 hy' with hy' | hy'
          · exact hy y hy'
          · rw [List.mem_singleton] at hy'
            subst hy'
            refine ⟨?_, ?_⟩
            · show ((M.drop j).take (E - j)).length ≤ _; rw [List.length_take, List.length_drop]; omega
            · show ((M.drop p).take (E - p)).length ≤ _; rw [List.length_take, List.length_drop]; omega
      · rw [spl_many hp (by omega)] at h; cases h
    · rw [spl_end (by omega)] at h; cases h; exact ⟨hL, hy⟩
theorem splitS_small {M : List Int} (hM : U8s M) : (spL (splitS M)).length ≤ 65536 ∧ ∀ y ∈ spL (splitS M), y.d.length ≤ M.length ∧ y.r.length ≤ M.length := by
  cases hS : splitS M with
  | inl pq => obtain ⟨e, a⟩ := pq; exact ⟨by simp [spL], by simp [spL]⟩
  | inr L =>
    unfold splitS at hS
    split at hS
    · cases hS
    · exact spl_small hM _ 0 [] rfl (by simp) (by simp) L hS
theorem oneS_small {M : List Int} (hM : U8s M) : (oneS (splitS M)).1.d.length ≤ M.length ∧ (oneS (splitS M)).1.r.length ≤ M.length := by
  have h := (splitS_small hM).2
  cases hS : splitS M with
  | inl pq => obtain ⟨e, a⟩ := pq; simp [oneS, noEl]
  | inr L =>
    rw [hS] at h
    cases L with
    | nil => simp [oneS, noEl]
    | cons x L =>
      cases L with
      | nil => exact h x (by simp [spL])
      | cons y L => simp [oneS, noEl]
/-- A row of one element, just made. -/
theorem tlvS_one {w : World} {b : Nat} (x : El) {d r : Value} {cs : List Value} (hcs : cs = cell5 (x, d, r)) (hA : Blk 24 w b cs) (hd : Sl .u8 w d x.d) (hr : Sl .u8 w r x.r) : TlvS w (.slice (some ⟨b, 0, none⟩) 1 1) [x] := by
  subst hcs
  refine ⟨_, _, [(x, d, r)], rfl, Nat.le_refl _, rfl, .inr ⟨b, 0, rfl, hA.lt, fun i hi => ?_⟩, ?_⟩
  · rw [Nat.zero_add, hA.cell i]; simp [tlvCells]
  · intro y hy
    rw [List.mem_singleton] at hy
    subst hy
    exact ⟨hd, hr⟩
end Go.Proofs.YtillkhjihggcjaaGreatDoor
/-
  Der: memory of which only some blocks have turned.
-/
namespace Go.Proofs.YtillkhjihggcjaaGreatDoor
open Go.RowKit
/-- Only blocks that meet D have turned; new ones may have come. -/
structure Onl (D : Nat → Prop) (w w' : World) : Prop where
  os : w'.os = w.os
  tape : w'.tape = w.tape
  output : w'.output = w.output
  size : w.heap.size ≤ w'.heap.size
  block : ∀ j, j < w.heap.size → ¬ D j → w'.heap[j]? = w.heap[j]?
theorem Onl.refl (D : Nat → Prop) (w : World) : Onl D w w := ⟨rfl, rfl, rfl, Nat.le_refl _, fun _ _ _ => rfl⟩
theorem Onl.trans {D : Nat → Prop} {w w' w'' : World} (h : Onl D w w') (h' : Onl D w' w'') : Onl D w w'' :=
  ⟨h'.os.trans h.os, h'.tape.trans h.tape, h'.output.trans h.output, Nat.le_trans h.size h'.size, fun j hj hd => (h'.block j (Nat.lt_of_lt_of_le hj h.size) hd).trans (h.block j hj hd)⟩
theorem Onl.ofBelow {D : Nat → Prop} {w w' : World} (h : Below w.heap.size w w') : Onl D w w' := ⟨h.os, h.tape, h.output, h.size, fun j hj _ => h.block j hj⟩
theorem Onl.ofUpd {D : Nat → Prop} {w w' : World} {b : Nat} (h : Upd w w' b) (hb : D b ∨ w.heap.size ≤ b) : Onl D w w' :=
  ⟨h.os, h.tape, h.output, h.size, fun j hj hd => h.block j hj (fun e => by
    simp only [Option.some.injEq] at e
    subst e
    rcases hb with hb | hb
    · exact hd hb
    · omega)⟩
/-- From an elder world: a block that is newer than it may turn. -/
theorem Onl.upd {D : Nat → Prop} {w w1 w' : World} {b : Nat} (h0 : Onl D w w1) (h : Upd w1 w' b) (hb : D b ∨ w.heap.size ≤ b) : Onl D w w' :=
  ⟨h.os.trans h0.os, h.tape.trans h0.tape, h.output.trans h0.output, Nat.le_trans h0.size h.size, fun j hj hd => (h.block j (Nat.lt_of_lt_of_le hj h0.size) (fun e => by
    simp only [Option.some.injEq] at e
    subst e
    rcases hb with hb | hb
    · exact hd hb
    · omega)).trans (h0.block j hj hd)⟩
theorem Onl.below {D : Nat → Prop} {B : Nat} {w0 w w' : World} (h : Onl D w w') (hb : Below B w0 w) (hB : B ≤ w.heap.size) (hD : ∀ j, D j → B ≤ j) : Below B w0 w' :=
  hb.trans ⟨h.os, h.tape, h.output, h.size, fun j hj => h.block j (Nat.lt_of_lt_of_le hj hB) (fun d => by have := hD j d; omega)⟩
theorem Onl.arr {D : Nat → Prop} {k : IntKind} {e : TypeId} {w w' : World} {b : Nat} {xs : List Int} (h : Onl D w w') (ha : Arr k e w b xs) (hb : ¬ D b) : Arr k e w' b xs := by
  unfold Arr; rw [h.block b ha.lt hb]; exact ha
theorem Onl.blk {D : Nat → Prop} {T : TypeId} {w w' : World} {b : Nat} {cs : List Value} (h : Onl D w w') (ha : Blk T w b cs) (hb : ¬ D b) : Blk T w' b cs := by
  unfold Blk; rw [h.block b ha.lt hb]; exact ha
theorem Onl.row {D : Nat → Prop} {k : IntKind} {e : TypeId} {B : Nat} {w w' : World} {v : Value} {xs : List Int} (h : Onl D w w') (hr : Row k e B w v xs) (hb : ∀ b, blkOf v = some b → ¬ D b) : Row k e B w' v xs := by
  rcases hr with hr | ⟨b, S, rfl, h1, hA, h2⟩
  · exact .inl hr
  · exact .inr ⟨b, S, rfl, h1, h.arr hA (hb b rfl), h2⟩
theorem Onl.mrow {D : Nat → Prop} {m : Nat} {e : TypeId} {B : Nat} {w w' : World} {v : Value} {n : Nat} {xs : List Value} (h : Onl D w w') (hr : MRow m e B w v n xs) (hb : ∀ b S, Blk e w b S → blkOf v = some b → ¬ D b) : MRow m e B w' v n xs := by
  obtain ⟨h0, hr⟩ := hr
  refine ⟨h0, ?_⟩
  rcases hr with hr | ⟨b, S, c, rfl, h1, hA, h2⟩
  · exact .inl hr
  · exact .inr ⟨b, S, c, rfl, h1, h.blk hA (hb b S hA rfl), h2⟩
/-- Rows that lie from B on, none of them where something turns. -/
theorem Onl.tlvs {D : Nat → Prop} {B : Nat} {w w' : World} {v : Value} {L : List El} (h : Onl D w w') (ht : Tlvs B w v L) (hD : ∀ j, D j → j < B) : Tlvs B w' v L := by
  obtain ⟨Y, h1, h2, h3, h4⟩ := ht
  refine ⟨Y, h1, h.mrow h2 (fun b S hS hb hd => ?_), fun y hy => ⟨h.row (h3 y hy).1 (fun b hb hd => ?_), h.row (h3 y hy).2 (fun b hb hd => ?_)⟩, h4⟩
  · have := hD b hd
    obtain ⟨_, h2⟩ := h2
    rcases h2 with ⟨rfl, _⟩ | ⟨b', S', c', rfl, hB, _⟩
    · simp [blkOf] at hb
    · simp only [blkOf, Option.some.injEq] at hb; omega
  · have := hD b hd; have := ((h3 y hy).1.blk_lt hb).1; omega
  · have := hD b hd; have := ((h3 y hy).2.blk_lt hb).1; omega
theorem Row.not_tlv {B : Nat} {w : World} {v : Value} {xs : List Int} (h : Row .u8 5 B w v xs) {b : Nat} {S : List Value} (hS : Blk 24 w b S) (hb : blkOf v = some b) : False := by
  rcases h with ⟨rfl, _⟩ | ⟨b', S', rfl, _, hA, _⟩
  · simp [blkOf] at hb
  · simp only [blkOf, Option.some.injEq] at hb
    subst hb
    unfold Arr at hA
    unfold Blk at hS
    rw [hA] at hS
    simp at hS
end Go.Proofs.YtillkhjihggcjaaGreatDoor
/-
  Der: the law DerBack.
-/
namespace Go.Proofs.YtillkhjihggcjaaGreatDoor
open Go.RowKit
theorem Grew.onl {w w' : World} {v : Value} {ys : List Int} (hg : Grew .u8 5 w w' v ys) : Onl (fun j => blkOf v = some j) w w' := by
  rcases hg with hg | ⟨b, n, S, rfl, hA, hU, hle, hA'⟩
  · exact Onl.ofBelow hg
  · exact Onl.ofUpd hU (.inl rfl)
theorem u8s_cons {x : Int} {xs : List Int} (h : U8 x) (hs : U8s xs) : U8s (x :: xs) := by
  intro y hy
  rcases List.mem_cons.1 hy with rfl | hy
  · exact h
  · exact hs y hy
theorem tp_u8 (n k : Nat) : ∀ i, U8s (tp n k i)
  | 0 => nil_u8
  | i + 1 => (tp_u8 n k i).append (u8s_cons ⟨by unfold gr; omega, by unfold gr; omega⟩ nil_u8)
theorem tb_u8 (n c : Nat) : ∀ i, U8s (tb n c i)
  | 0 => nil_u8
  | i + 1 => (tb_u8 n c i).append (u8s_cons ⟨by unfold by8; omega, by unfold by8; omega⟩ nil_u8)
theorem encB_u8 (cl : Int) (co : Bool) (t k l : Nat) (d : List Int) (h : headOk cl t = true) (hl8 : l ≤ 7) (hd : U8s d) : U8s (encB cl co t k l d) := by
  have hh : 0 ≤ cl ∧ cl ≤ 3 := by unfold headOk at h; simp at h; omega
  unfold encB
  refine ((?_ : U8s _).append ?_).append hd
  · unfold headB frst
    split
    · refine u8s_cons ⟨?_, ?_⟩ nil_u8 <;> cases co <;> simp <;> omega
    · refine u8s_cons ⟨?_, ?_⟩ ?_
      · cases co <;> simp <;> omega
      · cases co <;> simp <;> omega
      · unfold sev
        exact (tp_u8 t k k).append (u8s_cons ⟨by omega, by omega⟩ nil_u8)
  · unfold lenB
    split
    · exact u8s_cons ⟨by omega, by omega⟩ nil_u8
    · exact u8s_cons ⟨by omega, by omega⟩ (tb_u8 _ _ _)
theorem encB_le (cl : Int) (co : Bool) (t k l : Nat) (d : List Int) (hk : k ≤ 8) (hl8 : l ≤ 7) : (encB cl co t k l d).length ≤ 20 + d.length := by
  unfold encB; rw [List.length_append, List.length_append, headB_len, lenB_len]; split <;> split <;> omega
/-- A slice of elements as an argument has it: class, tag, whether made of others, and data. -/
def TlvArg (w : World) (a : Option Addr) (n c : Nat) (Z : List (El × Value)) : Prop :=
  Z.length = n ∧ n ≤ c ∧ (n = 0 ∨ ∃ b off, a = some ⟨b, off, none⟩ ∧ b < w.heap.size ∧ ∀ (i : Nat) (z : El × Value), Z[i]? = some z → w.cell? ⟨b, off + i * 5, none⟩ = some (.int .i64 z.1.cl) ∧ w.cell? ⟨b, off + i * 5 + 1, none⟩ = some (.int .i64 z.1.tg) ∧ w.cell? ⟨b, off + i * 5 + 2, none⟩ = some (.bool z.1.co) ∧ w.cell? ⟨b, off + i * 5 + 3, none⟩ = some z.2)
    ∧ ∀ z ∈ Z, Sl .u8 w z.2 z.1.d ∧ U8s z.1.d ∧ z.1.d.length ≤ 9223372036854775807
/-- Elements that were laid, in a slice of the call's own; the data lie in elder memory. -/
def TlvM (w wr : World) (all v : Value) (L : List El) : Prop :=
  ∃ Y : List Tc, Y.map (·.1) = L ∧ MRow 5 24 w.heap.size wr v Y.length (tlvCells Y) ∧ (∀ y ∈ Y, Sl .u8 w y.2.1 y.1.d ∧ Row .u8 5 w.heap.size wr y.2.2 y.1.r) ∧ ∀ y ∈ Y, ∀ b, blkOf all = some b → blkOf y.2.2 ≠ some b
theorem TlvM.s {w wr : World} {all v : Value} {L : List El} (h : TlvM w wr all v L) (hb : Below w.heap.size w wr) : TlvS wr v L := by
  obtain ⟨Y, h1, h2, h3, _⟩ := h
  have hl : Y.length = L.length := by rw [← h1, List.length_map]
  rw [hl] at h2
  obtain ⟨h0, h2⟩ := h2
  have hrows : ∀ y ∈ Y, Sl .u8 wr y.2.1 y.1.d ∧ Sl .u8 wr y.2.2 y.1.r := fun y hy => ⟨below_sl hb (h3 y hy).1, (h3 y hy).2.sl⟩
  rcases h2 with ⟨rfl, h2⟩ | ⟨b, S, c, rfl, hB, hA, hS, hc, ht, hm⟩
  · have : L = [] := List.eq_nil_of_length_eq_zero h2
    subst this
    exact ⟨none, 0, Y, rfl, Nat.le_refl _, h1, .inl rfl, hrows⟩
  · refine ⟨_, _, Y, rfl, hc, h1, .inr ⟨b, 0, rfl, hA.lt, fun i hi => ?_⟩, hrows⟩
    rw [Nat.zero_add, hA.cell i, ← ht, List.getElem?_take, if_pos hi]
theorem TlvM.below {w wr wr' : World} {all v : Value} {L : List El} (h : TlvM w wr all v L) (hb : Below wr.heap.size wr wr') : TlvM w wr' all v L := by
  obtain ⟨Y, h1, h2, h3, h4⟩ := h
  exact ⟨Y, h1, h2.below hb, fun y hy => ⟨(h3 y hy).1, (h3 y hy).2.below hb⟩, h4⟩
/-- Put at one list. -/
theorem lists1 {w : World} {b : Nat} {v : Value} {d : List Int} {T : TypeId} (hA : Blk T w b [v]) (hd : Sl .u8 w v d) (hu : U8s d) : Lists w (some ⟨b, 0, none⟩) 1 1 [v] [d] :=
  ⟨⟨_, _, rfl, Nat.le_refl _, .inr ⟨b, 0, rfl, hA.lt, fun i hi => by
      have : i = 0 := by simpa using hi
      subst this
      exact hA.cell 0⟩⟩, ⟨rfl, fun i hi => by
      have : i = 0 := by simpa using hi
      subst this
      exact ⟨hd, hu⟩⟩, rfl⟩
end Go.Proofs.YtillkhjihggcjaaGreatDoor
