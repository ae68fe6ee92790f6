/-
  Blocks of cells of any kind (arrays, structs): loaded from and stored into whole or in part.
-/
import Derived.Deep.MidRow
import Derived.Test.YtkjdihikcgpababDoorK4
namespace Go.Proofs.YtkjdihikcgpababDoor
open Go.RowKit

/-- Block b is whole, not frozen, and holds cs. -/
def Blk (T : TypeId) (w : World) (b : Nat) (cs : List Value) : Prop := w.heap[b]? = some (.cells cs.toArray T (0, 0))
/-- cs with vs written over it from o on. -/
def over (cs : List Value) (o : Nat) (vs : List Value) : List Value := cs.take o ++ (vs ++ cs.drop (o + vs.length))
theorem Arr.blk {k : IntKind} {e : TypeId} {w : World} {b : Nat} {xs : List Int} (h : Arr k e w b xs) : Blk e w b (xs.map (Value.int k)) := h
theorem Blk.arr {k : IntKind} {e : TypeId} {w : World} {b : Nat} {xs : List Int} (h : Blk e w b (xs.map (Value.int k))) : Arr k e w b xs := h
theorem Blk.lt {T : TypeId} {w : World} {b : Nat} {cs : List Value} (h : Blk T w b cs) : b < w.heap.size := (Array.getElem?_eq_some_iff.1 h).1
theorem Blk.cell {T : TypeId} {w : World} {b : Nat} {cs : List Value} (h : Blk T w b cs) (i : Nat) : w.cell? ⟨b, i, none⟩ = cs[i]? := by
  rw [cell_of_row w b i _ T (0, 0) h]; simp
theorem Blk.frozen {T : TypeId} {w : World} {b : Nat} {cs : List Value} (h : Blk T w b cs) (i : Nat) : w.frozen? ⟨b, i, none⟩ = false := frozen_of_row w b i _ T h
theorem Blk.set {T : TypeId} {w : World} {b : Nat} {cs : List Value} (h : Blk T w b cs) (i : Nat) (v : Value) : Blk T (w.setCell ⟨b, i, none⟩ v) b (cs.set i v) := by
  unfold Blk; rw [heap_setCell_same w b i _ T _ h]; simp
theorem Blk.range {T : TypeId} {w : World} {b : Nat} {cs : List Value} (h : Blk T w b cs) (o : Nat) (vs : List Value) (hv : (cs.drop o).take vs.length = vs) : w.rangeAt b o vs := by
  intro j v hj
  rw [h.cell]
  have hlt : j < vs.length := (List.getElem?_eq_some_iff.1 hj).1
  rw [← hv, List.getElem?_take, if_pos hlt, List.getElem?_drop] at hj
  exact hj
theorem Blk.whole {T : TypeId} {w : World} {b : Nat} {cs : List Value} (h : Blk T w b cs) : w.rangeAt b 0 cs := h.range 0 cs (by simp)
theorem Blk.there {T : TypeId} {w : World} {b : Nat} {cs : List Value} (h : Blk T w b cs) (o n : Nat) (ho : o + n ≤ cs.length) : w.there b o n := by
  intro j hj
  rw [h.cell, h.frozen]
  exact ⟨by simp [show o + j < cs.length by omega], rfl⟩
theorem setCells_blk {T : TypeId} {b : Nat} : ∀ (vs : List Value) (o : Nat) (w : World) (cs : List Value), Blk T w b cs → o + vs.length ≤ cs.length → Blk T (w.setCells b o vs) b (over cs o vs)
  | [], o, w, cs, h, _ => by simpa [over, World.setCells] using h
  | v :: vs, o, w, cs, h, ho => by
    simp only [List.length_cons] at ho
    have h1 := setCells_blk vs (o + 1) _ _ (h.set o v) (by simp; omega)
    simp only [World.setCells]
    have e : over (cs.set o v) (o + 1) vs = over cs o (v :: vs) := by
      unfold over
      rw [List.take_set, List.drop_set_of_lt (by omega), List.take_succ_eq_append_getElem (by omega), List.set_append_right _ _ (by simp; omega)]
      simp [show o ≤ cs.length by omega, Nat.add_assoc, Nat.add_comm 1]
    rw [e] at h1; exact h1
theorem Blk.setCells {T : TypeId} {w : World} {b : Nat} {cs : List Value} (h : Blk T w b cs) (o : Nat) (vs : List Value) (ho : o + vs.length ≤ cs.length) : Blk T (w.setCells b o vs) b (over cs o vs) := setCells_blk vs o w cs h ho
theorem Blk.fill {T : TypeId} {w : World} {b : Nat} {cs : List Value} (h : Blk T w b cs) (vs : List Value) (ho : vs.length = cs.length) : Blk T (w.setCells b 0 vs) b vs := by
  have := h.setCells 0 vs (by omega)
  rw [show over cs 0 vs = vs by simp [over, ho]] at this; exact this
theorem Upd.setCells {b : Nat} : ∀ (vs : List Value) (o : Nat) (w : World), Upd w (w.setCells b o vs) b
  | [], _, w => Upd.refl w b
  | v :: vs, o, w => (Upd.set w b o v).trans (Upd.setCells vs (o + 1) _)
theorem Upd.blk {T : TypeId} {w w' : World} {b b' : Nat} {cs : List Value} (h : Upd w w' b) (ha : Blk T w b' cs) (hne : b' ≠ b) : Blk T w' b' cs := by
  unfold Blk; rw [h.block b' ha.lt (by simp [hne])]; exact ha
theorem below_blk {B : Nat} {T : TypeId} {w w' : World} {b : Nat} {cs : List Value} (h : Below B w w') (hb : b < B) (ha : Blk T w b cs) : Blk T w' b cs := by
  unfold Blk; rw [h.block b hb]; exact ha
theorem Blk.alloc {T : TypeId} {w : World} {b : Nat} {cs : List Value} (h : Blk T w b cs) (o : Obj) : Blk T (w.alloc o) b cs :=
  below_blk ((Below.refl _ _).alloc (Nat.le_refl _) o) h.lt h
theorem Blk.new (T : TypeId) (w : World) (cs : List Value) : Blk T (w.alloc (.cells cs.toArray T)) w.heap.size cs := by
  unfold Blk; rw [heap_alloc_new]
theorem Blk.drewN {T : TypeId} {w : World} {b : Nat} {cs : List Value} (h : Blk T w b cs) (n : Nat) : Blk T (w.drewN n) b cs := h
theorem ints_one (k : IntKind) (xs : List Int) : (xs.map (Value.int k)).toArray.all (·.oneCell') = true :=
  all_oneCell_toArray (fun v hv => by obtain ⟨x, _, rfl⟩ := List.mem_map.1 hv; rfl)
theorem below_drewN {B : Nat} {w w' : World} (n : Nat) (h : Below B w w') : Below B w (w'.drewN n) := h.trans ⟨rfl, rfl, rfl, Nat.le_refl _, fun _ _ => rfl⟩
/-- A function with one result that lies in a block of its own. -/
theorem results_blk {P : Program} {fn : Func} {T : TypeId} {t : Tmp} (h : fn.results = #[.cell t T]) {a : Array Value} {w : World} {b : Nat} {cs : List Value} {d : TypeDesc} (ha : a.getD t undef = .pointer (some ⟨b, 0, none⟩))
    (hb : Blk T w b cs) (hu : P.underlying T = some d) (hd : d.isRow = true) (hi : (P.info? T).map (·.size) = some cs.length) : (results fn a).run P w = .ok (.agg cs.toArray) w := by
  have := run_loadVar_mid (P := P) w b 0 T cs d hb.whole hu hd hi
  have ha' : a[t]?.getD undef = .pointer (some ⟨b, 0, none⟩) := by simpa using ha
  simp [results, h, ha', asAddr, this]
/-- 'x[i]' of an array by value, its elements numbers. -/
theorem run_index_row {P : Program} (w : World) (T e : TypeId) (n : Nat) (k : IntKind) (cs : List Int) (t : Nat) (h : P.underlying T = some (.array n e)) (he : P.underlying e = some (.int k)) (h1 : (P.info? e).map (·.size) = some 1) (hn : cs.length = n) (ht : t < n) :
    (Instr.index T (.agg (cs.map (Value.int k)).toArray) (.int .i64 t)).run P w = .ok (.int k (cs.getD t 0)) w := by
  have h2 : (0 : Int) ≤ (t : Int) ∧ (t : Int) < (n : Int) := by omega
  cases hq : P.info? e with
  | none => simp [hq] at h1
  | some i =>
    have hs : i.size = 1 := by simpa [hq] using h1
    simp [Instr.index, run_underlying h, asIntOf, h2, part, isAgg, run_underlying he, sizeOf, typeInfo, hq, hs, show t < cs.length by omega]
    omega
end Go.Proofs.YtkjdihikcgpababDoor
/-
  Dt without the blocks that are made (wip/mkdn.py, out of Dt), and regions whose values and memory stand still.
-/
namespace Go.Proofs.YtkjdihikcgpababDoor
open Go.RowKit
section
variable {P : Program} {ops : Array Oper} {Q : Exit → Act → World → Prop}
def dstOf (ops : Array Oper) (k : Nat) : Option Tmp := (ops[k]?).bind (·.dst)
/-- The slots, those of the listed operations set. -/
def frT (ops : Array Oper) (V : Nat → Value) (L : Array Bool) (t0 : Array Value) : Nat → Array Value
  | 0 => t0
  | i + 1 => if L.getD i false = true then (match dstOf ops i with
    | some d => (frT ops V L t0 i).setIfInBounds d (V i)
    | none => frT ops V L t0 i) else frT ops V L t0 i
/-- All of them. -/
def frF (ops : Array Oper) (V : Nat → Value) (t0 : Array Value) : Nat → Array Value
  | 0 => t0
  | i + 1 => match dstOf ops i with
    | some d => (frF ops V t0 i).setIfInBounds d (V i)
    | none => frF ops V t0 i
/-- No two operations have one slot; every slot is there. -/
def dstB (ops : Array Oper) (n : Nat) : Bool := (List.range ops.size).all fun i => (match dstOf ops i with
  | some d => decide (d < n) && ((List.range i).all fun j => dstOf ops j != some d)
  | none => true)
theorem dstB_lt {n k d : Nat} (h : dstB ops n = true) (hk : k < ops.size) (hd : dstOf ops k = some d) : d < n ∧ ∀ j, j < k → dstOf ops j ≠ some d := by
  have h1 := List.all_eq_true.1 h k (List.mem_range.2 hk)
  rw [hd] at h1
  simp only [Bool.and_eq_true, decide_eq_true_eq] at h1
  refine ⟨h1.1, fun j hj he => ?_⟩
  have h2 := List.all_eq_true.1 h1.2 j (List.mem_range.2 hj)
  simp [he] at h2
theorem dstB_ne {n k l d : Nat} (h : dstB ops n = true) (hk : k < ops.size) (hl : l < ops.size) (hne : k ≠ l) (hd : dstOf ops k = some d) : dstOf ops l ≠ some d := by
  rcases Nat.lt_or_gt_of_ne hne with g | g
  · intro he; exact (dstB_lt h hl he).2 k g hd
  · exact (dstB_lt h hk hd).2 l g
theorem frT_size (V : Nat → Value) (L : Array Bool) (t0 : Array Value) (n : Nat) : (frT ops V L t0 n).size = t0.size := by
  induction n with
  | zero => rfl
  | succ n ih =>
    unfold frT
    split
    · split
      · rw [Array.size_setIfInBounds, ih]
      · exact ih
    · exact ih
theorem getD_set_ne' {t : Array Value} {i j : Nat} {v : Value} (h : i ≠ j) : (t.setIfInBounds i v).getD j undef = t.getD j undef := by
  simp [Array.getD_eq_getD_getElem?, h]
theorem frT_free {V : Nat → Value} {L : Array Bool} {t0 : Array Value} {n t : Nat} (h : ∀ k, k < n → dstOf ops k ≠ some t) : (frT ops V L t0 n).getD t undef = t0.getD t undef := by
  induction n with
  | zero => rfl
  | succ n ih =>
    have ih := ih fun k hk => h k (by omega)
    unfold frT
    split
    · split
      · rename_i d hd
        rw [getD_set_ne' (fun e => h n (by omega) (by rw [hd, e]))]
        exact ih
      · exact ih
    · exact ih
theorem frT_dst {V : Nat → Value} {L : Array Bool} {t0 : Array Value} {n k d : Nat} (hB : dstB ops t0.size = true) (hn : n ≤ ops.size) (hk : k < n) (hu : Up L k) (hd : dstOf ops k = some d) : (frT ops V L t0 n).getD d undef = V k := by
  induction n with
  | zero => omega
  | succ n ih =>
    unfold frT
    by_cases e : k = n
    · subst e
      rw [if_pos (show L.getD k false = true from hu), hd]
      have := (dstB_lt hB (by omega) hd).1
      simp [Array.getD_eq_getD_getElem?, frT_size, this]
    · have ih := ih (by omega) (by omega)
      split
      · split
        · rename_i d' hd'
          rw [getD_set_ne' (fun e' => dstB_ne hB (by omega) (by omega) e hd (by rw [hd', e']))]
          exact ih
        · exact ih
      · exact ih
theorem frT_congr {V V' : Nat → Value} {L L' : Array Bool} {t0 : Array Value} {n : Nat} (h : ∀ k, k < n → L'.getD k false = L.getD k false ∧ (Up L k → V' k = V k)) : frT ops V L t0 n = frT ops V' L' t0 n := by
  induction n with
  | zero => rfl
  | succ n ih =>
    have ih := ih fun k hk => h k (by omega)
    have hn := h n (by omega)
    unfold frT
    rw [hn.1]
    split
    · rename_i hu
      rw [ih, hn.2 hu]
    · exact ih
theorem getD_setB {L : Array Bool} {i k : Nat} (h : k ≠ i) : (L.setIfInBounds i true).getD k false = L.getD k false := by
  simp [Array.getD_eq_getD_getElem?, Ne.symm h]
theorem frT_put {V V' : Nat → Value} {L : Array Bool} {t0 : Array Value} {n i : Nat} (hB : dstB ops t0.size = true) (hn : n ≤ ops.size) (hi : i < n) (hno : ¬ Up L i) (hL : i < L.size) (hV : ∀ k, k ≠ i → Up L k → V' k = V k) :
    (match dstOf ops i with
    | some d => (frT ops V L t0 n).setIfInBounds d (V' i)
    | none => frT ops V L t0 n) = frT ops V' (L.setIfInBounds i true) t0 n := by
  have hup : (L.setIfInBounds i true).getD i false = true := by simp [Array.getD_eq_getD_getElem?, hL]
  induction n with
  | zero => omega
  | succ n ih =>
    by_cases e : i = n
    · subst e
      have hc : frT ops V L t0 i = frT ops V' (L.setIfInBounds i true) t0 i := frT_congr fun k hk => ⟨getD_setB (by omega), hV k (by omega)⟩
      have e1 : frT ops V L t0 (i + 1) = frT ops V L t0 i := by
        show (if L.getD i false = true then _ else _) = _
        rw [if_neg (show ¬ L.getD i false = true from hno)]
      have e2 : frT ops V' (L.setIfInBounds i true) t0 (i + 1) = match dstOf ops i with
          | some d => (frT ops V' (L.setIfInBounds i true) t0 i).setIfInBounds d (V' i)
          | none => frT ops V' (L.setIfInBounds i true) t0 i := by
        show (if (L.setIfInBounds i true).getD i false = true then _ else _) = _
        rw [if_pos hup]
      rw [e1, e2, hc]
    · have ih := ih (by omega) (by omega)
      have eL : (L.setIfInBounds i true).getD n false = L.getD n false := getD_setB (Ne.symm e)
      by_cases hu : L.getD n false = true
      · have e1 : frT ops V L t0 (n + 1) = match dstOf ops n with
            | some d => (frT ops V L t0 n).setIfInBounds d (V n)
            | none => frT ops V L t0 n := by
          show (if L.getD n false = true then _ else _) = _
          rw [if_pos hu]
        have e2 : frT ops V' (L.setIfInBounds i true) t0 (n + 1) = match dstOf ops n with
            | some d => (frT ops V' (L.setIfInBounds i true) t0 n).setIfInBounds d (V' n)
            | none => frT ops V' (L.setIfInBounds i true) t0 n := by
          show (if (L.setIfInBounds i true).getD n false = true then _ else _) = _
          rw [eL, if_pos hu]
        rw [e1, e2, ← ih, hV n (Ne.symm e) hu]
        cases hdi : dstOf ops i with
        | none => rfl
        | some di =>
          cases hdn : dstOf ops n with
          | none => rfl
          | some dn =>
            have hne : dn ≠ di := fun h => dstB_ne hB (by omega) (by omega) e hdi (by rw [hdn, h])
            simp only []
            exact Array.setIfInBounds_comm _ _ hne
      · have e1 : frT ops V L t0 (n + 1) = frT ops V L t0 n := by
          show (if L.getD n false = true then _ else _) = _
          rw [if_neg hu]
        have e2 : frT ops V' (L.setIfInBounds i true) t0 (n + 1) = frT ops V' (L.setIfInBounds i true) t0 n := by
          show (if (L.setIfInBounds i true).getD n false = true then _ else _) = _
          rw [eL, if_neg hu]
        rw [e1, e2, ← ih]
theorem frT_all {V : Nat → Value} {L : Array Bool} {t0 : Array Value} {n : Nat} (h : ∀ k, k < n → Up L k) : frT ops V L t0 n = frF ops V t0 n := by
  induction n with
  | zero => rfl
  | succ n ih =>
    have ih := ih fun k hk => h k (by omega)
    unfold frT frF
    rw [if_pos (show L.getD n false = true from h n (by omega)), ih]
/-- What is owed of one operation. -/
def DetOp {β : Type} (P : Program) (ops : Array Oper) (Q : Exit → Act → World → Prop) (V : β → Nat → Value) (S : β → Array Bool → World → Prop) (i : Nat) (b : β) (L : Array Bool) (a : Act) (W : World) : Prop :=
  wpOp P ops Q i (fun a' w' => ∃ b', (∀ k, k ≠ i → Up L k → V b' k = V b k) ∧ a' = a.put (dstOf ops i) (V b' i) ∧ S b' (L.setIfInBounds i true) w') a W
/-- In the order of the text, by an invariant. -/
theorem wpOps_inv (I : Array Bool → Act → World → Prop) (hB : backB .any ops ops.size = true)
    (done : ∀ (listed : Array Bool) (a : Act) (w : World), (∀ k, k < ops.size → Up listed k) → I listed a w → Q .normal a w)
    (step : ∀ (i : Nat) (listed : Array Bool) (a : Act) (w : World), i < ops.size → ¬ Up listed i → (∀ k ∈ depL .any ops i, Up listed k) → I listed a w → wpOp P ops Q i (fun a' w' => I (listed.setIfInBounds i true) a' w') a w) :
    ∀ (m k : Nat) (listed : Array Bool) (a : Act) (w : World), k + m = ops.size → listed.size = ops.size → (∀ j, j < k → Up listed j) → (∀ j, k ≤ j → ¬ Up listed j) → I listed a w → wpOps P ops Q (List.range' k m) a w := by
  intro m
  induction m with
  | zero =>
    intro k listed a w hk hsz h1 h2 hI
    show Q .normal a w
    exact done listed a w (fun j hj => h1 j (by omega)) hI
  | succ m ih =>
    intro k listed a w hk hsz h1 h2 hI
    rw [List.range'_succ, wpOps_cons]
    have hkl : k < ops.size := by omega
    refine wpOp_mono ?_ (step k listed a w hkl (h2 k (Nat.le_refl _)) ?_ hI)
    · intro a' w' h
      refine ih (k + 1) _ a' w' (by omega) (by simp [hsz]) ?_ ?_ h
      · intro j hj
        by_cases e : j = k
        · subst e; unfold Up; simp [Array.getD_eq_getD_getElem?, hsz, hkl]
        · unfold Up; rw [getD_setB e]; exact h1 j (by omega)
      · intro j hj
        unfold Up; rw [getD_setB (by omega)]; exact h2 j (by omega)
    · intro j hj
      refine h1 j ?_
      have ho : ops[k]? = some ops[k] := Array.getElem?_eq_getElem hkl
      unfold depL at hj
      rw [ho] at hj
      simp only [Option.map_some, Option.getD_some, List.mem_map, List.mem_filter] at hj
      obtain ⟨e, ⟨he, hb⟩, rfl⟩ := hj
      have g1 := List.all_eq_true.1 hB k (by simpa using hkl)
      simp only [ho, Option.map_some, Option.getD_some] at g1
      have g2 := Array.all_eq_true_iff_forall_mem.1 g1 e (by simpa using he)
      simp only [hb, Bool.not_true, Bool.false_or, decide_eq_true_eq] at g2
      exact g2
/-- The steps and the end of a region whose values are known. -/
def DetSteps {β : Type} (P : Program) (ops : Array Oper) (Q : Exit → Act → World → Prop) (V : β → Nat → Value) (S : β → Array Bool → World → Prop) (a0 : Act) : Prop :=
  ∀ i b L W (a : Act), i < ops.size → ¬ Up L i → (∀ k, k < ops.size → k < L.size) → (∀ k ∈ depL .any ops i, Up L k) → (∀ k d, k < ops.size → Up L k → dstOf ops k = some d → a.eval (.tmp d) = V b k) → (∀ t, ((List.range ops.size).all fun k => dstOf ops k != some t) = true → a.eval (.tmp t) = a0.eval (.tmp t)) → S b L W → DetOp P ops Q V S i b L a W
theorem det_start (V : Nat → Value) (t0 : Array Value) (m n : Nat) : frT ops V (Array.replicate m false) t0 n = t0 := by
  induction n with
  | zero => rfl
  | succ n ih =>
    unfold frT
    rw [if_neg (show ¬ (Array.replicate m false).getD n false = true from not_up_new (n := m) (k := n))]
    exact ih
theorem det_step {β : Type} {V : β → Nat → Value} {S : β → Array Bool → World → Prop} {a0 : Act} (hD : dstB ops a0.tmps.size = true) (step : DetSteps P ops Q V S a0) (i : Nat) (L : Array Bool) (a : Act) (W : World) (hi : i < ops.size) (hno : ¬ Up L i) (hdep : ∀ k ∈ depL .any ops i, Up L k) (hI : L.size = ops.size ∧ ∃ b, a = ⟨frT ops (V b) L a0.tmps ops.size, a0.defers⟩ ∧ S b L W) :
    wpOp P ops Q i (fun a' w' => (L.setIfInBounds i true).size = ops.size ∧ ∃ b, a' = ⟨frT ops (V b) (L.setIfInBounds i true) a0.tmps ops.size, a0.defers⟩ ∧ S b (L.setIfInBounds i true) w') a W := by
  obtain ⟨hsz, b, rfl, hS⟩ := hI
  have h := step i b L W ⟨frT ops (V b) L a0.tmps ops.size, a0.defers⟩ hi hno (fun k hk => by omega) hdep (fun k d hk hu hd => frT_dst hD (Nat.le_refl _) hk hu hd) (fun t ht => frT_free fun k hk he => by
    have := List.all_eq_true.1 ht k (List.mem_range.2 hk)
    simp [he] at this) hS
  refine wpOp_mono ?_ h
  rintro a' w' ⟨b', hV, rfl, hS'⟩
  refine ⟨by simp [hsz], b', ?_, hS'⟩
  have := frT_put (V := V b) (V' := V b') (t0 := a0.tmps) hD (Nat.le_refl _) hi hno (by omega) hV
  rw [← this]
  unfold Act.put
  cases dstOf ops i <;> rfl
theorem wp_region_det {β : Type} (V : β → Nat → Value) (S : β → Array Bool → World → Prop) (b0 : β) {id : Nat} {a0 : Act} {w : World} (hm : P.follows .mixedOrders = true) (hB : backB .any ops ops.size = true) (hD : dstB ops a0.tmps.size = true)
    (start : S b0 (Array.replicate ops.size false) w.drew)
    (done : ∀ b L W, (∀ k, k < ops.size → Up L k) → S b L W → Q .normal ⟨frF ops (V b) a0.tmps ops.size, a0.defers⟩ W) (step : DetSteps P ops Q V S a0) :
    (Code.region id ops true).wp P Q a0 w := by
  refine wp_region_inv (fun L a W => L.size = ops.size ∧ ∃ b, a = ⟨frT ops (V b) L a0.tmps ops.size, a0.defers⟩ ∧ S b L W) hm hB ?_ ?_ (det_step hD step)
  · exact ⟨by simp, b0, by rw [det_start], start⟩
  · rintro L a W hup ⟨_, b, rfl, hS⟩
    rw [frT_all hup]
    exact done b L W hup hS
theorem wp_region_seq {β : Type} (V : β → Nat → Value) (S : β → Array Bool → World → Prop) (b0 : β) {id : Nat} {a0 : Act} {w : World} (hB : backB .any ops ops.size = true) (hD : dstB ops a0.tmps.size = true)
    (start : S b0 (Array.replicate ops.size false) w)
    (done : ∀ b L W, (∀ k, k < ops.size → Up L k) → S b L W → Q .normal ⟨frF ops (V b) a0.tmps ops.size, a0.defers⟩ W) (step : DetSteps P ops Q V S a0) :
    (Code.region id ops false).wp P Q a0 w := by
  refine wp_region ?_
  rw [List.range_eq_range']
  refine wpOps_inv (fun L a W => L.size = ops.size ∧ ∃ b, a = ⟨frT ops (V b) L a0.tmps ops.size, a0.defers⟩ ∧ S b L W) hB ?_ (det_step hD step) ops.size 0 (Array.replicate ops.size false) a0 w (by omega) (by simp) (fun j hj => by omega) (fun j _ => not_up_new) ⟨by simp, b0, by rw [det_start], start⟩
  rintro L a W hup ⟨_, b, rfl, hS⟩
  rw [frT_all hup]
  exact done b L W hup hS
/-- The same, the frame behind it told by its slots alone. fl: does it draw? -/
theorem wp_region_o {β : Type} (V : β → Nat → Value) (S : β → Array Bool → World → Prop) (b0 : β) (fl : Bool) {id : Nat} {a0 : Act} {w : World} {m : Nat} (hsz : a0.tmps.size = m) (hm : P.follows .mixedOrders = true) (hB : backB .any ops ops.size = true) (hD : dstB ops m = true)
    (start : S b0 (Array.replicate ops.size false) (if fl = true then w.drew else w)) (step : DetSteps P ops Q V S a0)
    (done : ∀ b L W (a : Act), (∀ k, k < ops.size → Up L k) → S b L W → a.tmps.size = m → a.defers = a0.defers → (∀ k d, k < ops.size → dstOf ops k = some d → a.eval (.tmp d) = V b k) → (∀ t, ((List.range ops.size).all fun k => dstOf ops k != some t) = true → a.eval (.tmp t) = a0.eval (.tmp t)) → Q .normal a W) :
    (Code.region id ops fl).wp P Q a0 w := by
  subst hsz
  have fin : ∀ b L W, (∀ k, k < ops.size → Up L k) → S b L W → Q .normal ⟨frF ops (V b) a0.tmps ops.size, a0.defers⟩ W := by
    intro b L W hup hS
    rw [← frT_all hup]
    refine done b L W ⟨frT ops (V b) L a0.tmps ops.size, a0.defers⟩ hup hS (frT_size _ _ _ _) rfl (fun k d hk hd => frT_dst hD (Nat.le_refl _) hk (hup k hk) hd) (fun t ht => frT_free fun k hk he => ?_)
    have := List.all_eq_true.1 ht k (List.mem_range.2 hk)
    simp [he] at this
  cases fl with
  | true => exact wp_region_det V S b0 hm hB hD start fin step
  | false => exact wp_region_seq V S b0 hB hD start fin step
theorem det_op {i : Nat} {o : Oper} {K0 : Act → World → Prop} {a : Act} {W : World} (ho : ops[i]? = some o) (hg : o.guard = none) (h : o.wp P a W K0 Q) : wpOp P ops Q i K0 a W := by
  unfold wpOp
  rw [ho]
  show if Region.wanted o (yielded ops a.tmps) = true then _ else _
  have : Region.wanted o (yielded ops a.tmps) = true := by unfold Region.wanted; rw [hg]
  rw [if_pos this]
  exact .inl h
theorem put_dst {i : Nat} {o : Oper} {a : Act} {v : Value} (ho : ops[i]? = some o) : a.put o.dst v = a.put (dstOf ops i) v := by
  unfold dstOf
  rw [ho]
  rfl
variable {β : Type} {V : β → Nat → Value} {S : β → Array Bool → World → Prop} {i : Nat} {b : β} {L : Array Bool} {a : Act} {W : World}
/-- A load of many cells. -/
theorem det_load {o : Oper} (ho : ops[i]? = some o) (hg : o.guard = none) {ty : TypeId} {x : Operand} (hop : o.op = .load ty x) {bl off : Nat} (hx : a.eval x = .pointer (some ⟨bl, off, none⟩)) {cs : List Value} {d : TypeDesc} (hc : W.rangeAt bl off cs)
    (hu : P.underlying ty = some d) (hd : d.isRow = true) (hi : (P.info? ty).map (·.size) = some cs.length) (hv : V b i = .agg cs.toArray) (hS : S b (L.setIfInBounds i true) W) : DetOp P ops Q V S i b L a W :=
  det_op ho hg (wp_load_mid ty x hop bl off hx cs d hc hu hd hi ⟨b, fun _ _ _ => rfl, by rw [put_dst ho, hv], hS⟩)
/-- A value that hangs on no memory. -/
theorem det_val {o : Oper} (ho : ops[i]? = some o) (hg : o.guard = none) (hr : (execOp a.eval o).run P W = .ok (.value (V b i)) W) (hS : S b (L.setIfInBounds i true) W) : DetOp P ops Q V S i b L a W :=
  det_op ho hg (by
    unfold Oper.wp
    rw [hr]
    exact ⟨b, fun _ _ _ => rfl, put_dst ho, hS⟩)
/-- A call whose answer is known. -/
theorem det_call {o : Oper} (ho : ops[i]? = some o) (hg : o.guard = none) {f : FuncId} {vs : Array Value} (hr : (execOp a.eval o).run P W = .ok (.enter f vs) W) {R : World → Prop} (hc : Calls P f vs W fun e w' => e = .returned (V b i) ∧ R w') (hS : ∀ w', R w' → S b (L.setIfInBounds i true) w') : DetOp P ops Q V S i b L a W :=
  det_op ho hg (by
    unfold Oper.wp
    rw [hr]
    refine hc.mono ?_
    rintro e w' ⟨rfl, h⟩
    exact ⟨b, fun _ _ _ => rfl, put_dst ho, hS w' h⟩)
/-- A store of many cells. -/
theorem det_store {o : Oper} (ho : ops[i]? = some o) (hg : o.guard = none) (hdn : o.dst = none) {ty : TypeId} {x y : Operand} (hop : o.op = .store ty x y) {bl off : Nat} {cells : Array Value} (hx : a.eval x = .pointer (some ⟨bl, off, none⟩)) (hy : a.eval y = .agg cells)
    (ht : W.there bl off cells.size) (hi : (P.info? ty).map (·.size) = some cells.size) (h1 : cells.all (·.oneCell') = true) (hS : S b (L.setIfInBounds i true) (W.setCells bl off cells.toList)) : DetOp P ops Q V S i b L a W :=
  det_op ho hg (wp_store_mid ty x y hop bl off cells hx hy ht hi h1 ⟨b, fun _ _ _ => rfl, by
    have : dstOf ops i = none := by unfold dstOf; rw [ho]; exact hdn
    rw [this, hdn]
    rfl, hS⟩)
/-- New memory. -/
theorem det_alloc (b' : β) {o : Oper} (ho : ops[i]? = some o) (hg : o.guard = none) {ob : Obj} (hr : (execOp a.eval o).run P W = .ok (.value (.pointer (some ⟨W.heap.size, 0, none⟩))) (W.alloc ob)) (hV : ∀ k, k ≠ i → V b' k = V b k) (hv : V b' i = .pointer (some ⟨W.heap.size, 0, none⟩)) (hS : S b' (L.setIfInBounds i true) (W.alloc ob)) : DetOp P ops Q V S i b L a W :=
  det_op ho hg (by
    unfold Oper.wp
    rw [hr]
    exact ⟨b', fun k hk _ => hV k hk, by rw [hv]; exact put_dst ho, hS⟩)
end
section
variable {P : Program} {ops : Array Oper} {Q : Exit → Act → World → Prop}
theorem frT_not {V : Nat → Value} {L : Array Bool} {t0 : Array Value} {n k d : Nat} (hB : dstB ops t0.size = true) (hn : n ≤ ops.size) (hk : k < ops.size) (hu : ¬ Up L k) (hd : dstOf ops k = some d) : (frT ops V L t0 n).getD d undef = t0.getD d undef := by
  induction n with
  | zero => rfl
  | succ n ih =>
    have ih := ih (by omega)
    unfold frT
    split
    · rename_i hl
      have hne : k ≠ n := fun e => hu (by subst e; exact hl)
      split
      · rename_i d' hd'
        rw [getD_set_ne' (fun e' => dstB_ne hB hk (by omega) hne hd (by rw [hd', e']))]
        exact ih
      · exact ih
    · exact ih
/-- A region whose values and memory stand still: each operation is asked once. -/
theorem wp_region_still (V : Nat → Value) (S : World → Prop) {id : Nat} {a0 : Act} {w : World} (hm : P.follows .mixedOrders = true) (hB : backB .any ops ops.size = true) (hD : dstB ops a0.tmps.size = true)
    (start : S w.drew) (done : ∀ W, S W → Q .normal ⟨frF ops V a0.tmps ops.size, a0.defers⟩ W)
    (step : ∀ i L W (a : Act), i < ops.size → ¬ Up L i → (∀ k ∈ depL .any ops i, Up L k) → (∀ k d, k < ops.size → Up L k → dstOf ops k = some d → a.eval (.tmp d) = V k) → (∀ k d, k < ops.size → ¬ Up L k → dstOf ops k = some d → a.eval (.tmp d) = a0.eval (.tmp d)) → (∀ t, ((List.range ops.size).all fun k => dstOf ops k != some t) = true → a.eval (.tmp t) = a0.eval (.tmp t)) → S W → DetOp (β := Unit) P ops Q (fun _ => V) (fun _ _ => S) i () L a W) :
    (Code.region id ops true).wp P Q a0 w := by
  refine wp_region_inv (fun L a W => L.size = ops.size ∧ a = ⟨frT ops V L a0.tmps ops.size, a0.defers⟩ ∧ S W) hm hB ?_ ?_ ?_
  · exact ⟨by simp, by rw [det_start], start⟩
  · rintro L a W hup ⟨_, rfl, hS⟩
    rw [frT_all hup]
    exact done W hS
  · rintro i L a W hi hno hdep ⟨hsz, rfl, hS⟩
    have h := step i L W ⟨frT ops V L a0.tmps ops.size, a0.defers⟩ hi hno hdep (fun k d hk hu hd => frT_dst hD (Nat.le_refl _) hk hu hd) (fun k d hk hu hd => frT_not hD (Nat.le_refl _) hk hu hd) (fun t ht => frT_free fun k hk he => by
      have := List.all_eq_true.1 ht k (List.mem_range.2 hk)
      simp [he] at this) hS
    refine wpOp_mono ?_ h
    rintro a' w' ⟨_, _, rfl, hS'⟩
    refine ⟨by simp [hsz], ?_, hS'⟩
    have := frT_put (V := V) (V' := V) (t0 := a0.tmps) hD (Nat.le_refl _) hi hno (by omega) (fun _ _ _ => rfl)
    rw [← this]
    unfold Act.put
    cases dstOf ops i <;> rfl
theorem frF5 {V : Nat → Value} {t : Array Value} {d0 d1 d4 : Nat} (hs : ops.size = 5) (h0 : dstOf ops 0 = some d0) (h1 : dstOf ops 1 = some d1) (h2 : dstOf ops 2 = none) (h3 : dstOf ops 3 = none) (h4 : dstOf ops 4 = some d4) :
    frF ops V t ops.size = ((t.setIfInBounds d0 (V 0)).setIfInBounds d1 (V 1)).setIfInBounds d4 (V 4) := by
  rw [hs]
  simp only [frF, h0, h1, h2, h3, h4]
theorem frF6 {V : Nat → Value} {t : Array Value} {d0 d1 d2 d5 : Nat} (hs : ops.size = 6) (h0 : dstOf ops 0 = some d0) (h1 : dstOf ops 1 = some d1) (h2 : dstOf ops 2 = some d2) (h3 : dstOf ops 3 = none) (h4 : dstOf ops 4 = none) (h5 : dstOf ops 5 = some d5) :
    frF ops V t ops.size = (((t.setIfInBounds d0 (V 0)).setIfInBounds d1 (V 1)).setIfInBounds d2 (V 2)).setIfInBounds d5 (V 5) := by
  rw [hs]
  simp only [frF, h0, h1, h2, h3, h4, h5]
theorem frF10 {V : Nat → Value} {t : Array Value} {d0 d1 d2 d3 d4 d5 d6 d9 : Nat} (hs : ops.size = 10) (h0 : dstOf ops 0 = some d0) (h1 : dstOf ops 1 = some d1) (h2 : dstOf ops 2 = some d2) (h3 : dstOf ops 3 = some d3) (h4 : dstOf ops 4 = some d4) (h5 : dstOf ops 5 = some d5) (h6 : dstOf ops 6 = some d6) (h7 : dstOf ops 7 = none) (h8 : dstOf ops 8 = none) (h9 : dstOf ops 9 = some d9) :
    frF ops V t ops.size = (((((((t.setIfInBounds d0 (V 0)).setIfInBounds d1 (V 1)).setIfInBounds d2 (V 2)).setIfInBounds d3 (V 3)).setIfInBounds d4 (V 4)).setIfInBounds d5 (V 5)).setIfInBounds d6 (V 6)).setIfInBounds d9 (V 9) := by
  rw [hs]
  simp only [frF, h0, h1, h2, h3, h4, h5, h6, h7, h8, h9]
theorem run_mv {a : Act} {W : World} {o : Oper} {x : Operand} (hop : o.op = .move x) {v : Value} (hx : a.eval x = v) : (execOp a.eval o).run P W = .ok (.value v) W := by
  unfold execOp
  simp only [hop, hx]
  simp [go_sem]
theorem run_asg {a : Act} {W : World} {o : Oper} {x : Operand} (hop : o.op = .assign x) {v : Value} (hx : a.eval x = v) : (execOp a.eval o).run P W = .ok (.value v) W := by
  unfold execOp
  simp only [hop, hx]
  simp [go_sem]
theorem run_nilc {a : Act} {W : World} {o : Oper} {x : Operand} (hop : o.op = .nilCheck x) {q : Addr} (hx : a.eval x = .pointer (some q)) : (execOp a.eval o).run P W = .ok (.value (.pointer (some q))) W := by
  unfold execOp
  simp only [hop, hx]
  simp [go_sem]
end
end Go.Proofs.YtkjdihikcgpababDoor
/-
  Regions that draw, with guarded operations ('&&', '||'), by what each operation yields.
-/
namespace Go.Proofs.YtkjdihikcgpababDoor
open Go.RowKit
section
variable {P : Program} {ops : Array Oper} {Q : Exit → Act → World → Prop} {β : Type} {V : β → Nat → Value} {S : β → Array Bool → World → Prop} {i : Nat} {b : β} {L : Array Bool} {a : Act} {W : World}
/-- An operation without a guard is wanted; one with a guard where its slot holds what is asked for; else it yields nothing. -/
theorem wn_any {o : Oper} (hg : o.guard = none) : Region.wanted o (yielded ops a.tmps) = true := by unfold Region.wanted; rw [hg]
theorem yl_bool {j d : Nat} {q : Bool} (hd : dstOf ops j = some d) (h : a.eval (.tmp d) = .bool q) : yielded ops a.tmps j = some q := by
  have h1 : a.tmps.getD d undef = .bool q := h
  unfold yielded
  unfold dstOf at hd
  rw [hd]
  rw [Array.getD_eq_getD_getElem?] at h1
  cases h2 : a.tmps[d]? with
  | none => rw [h2] at h1; cases h1
  | some v => rw [h2] at h1; simp only [Option.getD_some] at h1; subst h1; simp [h2]
theorem yl_undef {j d : Nat} (hd : dstOf ops j = some d) (h : a.eval (.tmp d) = undef) : yielded ops a.tmps j = none := by
  have h1 : a.tmps.getD d undef = undef := h
  unfold yielded
  unfold dstOf at hd
  rw [hd]
  rw [Array.getD_eq_getD_getElem?] at h1
  cases h2 : a.tmps[d]? with
  | none => simp [h2]
  | some v => rw [h2] at h1; simp only [Option.getD_some] at h1; subst h1; simp [h2, undef]
theorem wn_yes {o : Oper} {j d : Nat} {q : Bool} (hg : o.guard = some (j, q)) (hd : dstOf ops j = some d) (h : a.eval (.tmp d) = .bool q) : Region.wanted o (yielded ops a.tmps) = true := by
  unfold Region.wanted; rw [hg]; simp [yl_bool hd h]
theorem wn_no {o : Oper} {j d : Nat} {q : Bool} (hg : o.guard = some (j, q)) (hd : dstOf ops j = some d) (h : a.eval (.tmp d) = .bool (!q)) : Region.wanted o (yielded ops a.tmps) = false := by
  unfold Region.wanted; rw [hg]; simp [yl_bool hd h]
theorem wn_off {o : Oper} {j d : Nat} {q : Bool} (hg : o.guard = some (j, q)) (hd : dstOf ops j = some d) (h : a.eval (.tmp d) = undef) : Region.wanted o (yielded ops a.tmps) = false := by
  unfold Region.wanted; rw [hg]; simp [yl_undef hd h]
theorem rg_op {o : Oper} {K0 : Act → World → Prop} (ho : ops[i]? = some o) (hw : Region.wanted o (yielded ops a.tmps) = true) (h : o.wp P a W K0 Q) : wpOp P ops Q i K0 a W := by
  unfold wpOp
  rw [ho]
  show if Region.wanted o (yielded ops a.tmps) = true then _ else _
  rw [if_pos hw]
  exact .inl h
/-- It is passed by. -/
theorem rg_skip {o : Oper} (ho : ops[i]? = some o) (hw : Region.wanted o (yielded ops a.tmps) = false) (hv : V b i = undef) (hS : S b (L.setIfInBounds i true) W) : DetOp P ops Q V S i b L a W := by
  unfold DetOp wpOp
  rw [ho]
  show if Region.wanted o (yielded ops a.tmps) = true then _ else _
  rw [if_neg (by rw [hw]; decide)]
  exact ⟨b, fun _ _ _ => rfl, by rw [put_dst ho, hv], hS⟩
theorem rg_val {o : Oper} (ho : ops[i]? = some o) (hw : Region.wanted o (yielded ops a.tmps) = true) (hr : (execOp a.eval o).run P W = .ok (.value (V b i)) W) (hS : S b (L.setIfInBounds i true) W) : DetOp P ops Q V S i b L a W :=
  rg_op ho hw (by
    unfold Oper.wp
    rw [hr]
    exact ⟨b, fun _ _ _ => rfl, put_dst ho, hS⟩)
theorem rg_load {o : Oper} (ho : ops[i]? = some o) (hw : Region.wanted o (yielded ops a.tmps) = true) {ty : TypeId} {x : Operand} (hop : o.op = .load ty x) {bl off : Nat} (hx : a.eval x = .pointer (some ⟨bl, off, none⟩)) {cs : List Value} {d : TypeDesc} (hc : W.rangeAt bl off cs)
    (hu : P.underlying ty = some d) (hd : d.isRow = true) (hi : (P.info? ty).map (·.size) = some cs.length) (hv : V b i = .agg cs.toArray) (hS : S b (L.setIfInBounds i true) W) : DetOp P ops Q V S i b L a W :=
  rg_op ho hw (wp_load_mid ty x hop bl off hx cs d hc hu hd hi ⟨b, fun _ _ _ => rfl, by rw [put_dst ho, hv], hS⟩)
theorem rg_call {o : Oper} (ho : ops[i]? = some o) (hw : Region.wanted o (yielded ops a.tmps) = true) {f : FuncId} {vs : Array Value} (hr : (execOp a.eval o).run P W = .ok (.enter f vs) W) {R : World → Prop} (hc : Calls P f vs W fun e w' => e = .returned (V b i) ∧ R w') (hS : ∀ w', R w' → S b (L.setIfInBounds i true) w') : DetOp P ops Q V S i b L a W :=
  rg_op ho hw (by
    unfold Oper.wp
    rw [hr]
    refine hc.mono ?_
    rintro e w' ⟨rfl, h⟩
    exact ⟨b, fun _ _ _ => rfl, put_dst ho, hS w' h⟩)
theorem rg_store {o : Oper} (ho : ops[i]? = some o) (hw : Region.wanted o (yielded ops a.tmps) = true) (hdn : o.dst = none) {ty : TypeId} {x y : Operand} (hop : o.op = .store ty x y) {bl off : Nat} {cells : Array Value} (hx : a.eval x = .pointer (some ⟨bl, off, none⟩)) (hy : a.eval y = .agg cells)
    (ht : W.there bl off cells.size) (hi : (P.info? ty).map (·.size) = some cells.size) (h1 : cells.all (·.oneCell') = true) (hS : S b (L.setIfInBounds i true) (W.setCells bl off cells.toList)) : DetOp P ops Q V S i b L a W :=
  rg_op ho hw (wp_store_mid ty x y hop bl off cells hx hy ht hi h1 ⟨b, fun _ _ _ => rfl, by
    have : dstOf ops i = none := by unfold dstOf; rw [ho]; exact hdn
    rw [this, hdn]
    rfl, hS⟩)
/-- A store of one cell. -/
theorem rg_st1 {o : Oper} (ho : ops[i]? = some o) (hw : Region.wanted o (yielded ops a.tmps) = true) (hdn : o.dst = none) {W' : World} (hr : (execOp a.eval o).run P W = .ok .skip W') (hS : S b (L.setIfInBounds i true) W') : DetOp P ops Q V S i b L a W :=
  rg_op ho hw (by
    unfold Oper.wp
    rw [hr]
    have : dstOf ops i = none := by unfold dstOf; rw [ho]; exact hdn
    exact ⟨b, fun _ _ _ => rfl, by rw [this, hdn]; rfl, hS⟩)
end
section
variable {P : Program} {ops : Array Oper} {Q : Exit → Act → World → Prop}
/-- As wp_region_det; what has come up came up behind all that it waits for. -/
theorem wp_region_cl {β : Type} (V : β → Nat → Value) (S : β → Array Bool → World → Prop) (b0 : β) {id : Nat} {a0 : Act} {w : World} (hm : P.follows .mixedOrders = true) (hB : backB .any ops ops.size = true) (hD : dstB ops a0.tmps.size = true)
    (start : S b0 (Array.replicate ops.size false) w.drew)
    (done : ∀ b L W, (∀ k, k < ops.size → Up L k) → S b L W → Q .normal ⟨frF ops (V b) a0.tmps ops.size, a0.defers⟩ W)
    (step : ∀ i b L W (a : Act), i < ops.size → ¬ Up L i → (∀ k, k < ops.size → k < L.size) → (∀ k ∈ depL .any ops i, Up L k) → (∀ k d, k < ops.size → Up L k → dstOf ops k = some d → a.eval (.tmp d) = V b k) → (∀ t, ((List.range ops.size).all fun k => dstOf ops k != some t) = true → a.eval (.tmp t) = a0.eval (.tmp t)) → (∀ j, Up L j → ∀ k ∈ depL .any ops j, Up L k) → S b L W → DetOp P ops Q V S i b L a W) :
    (Code.region id ops true).wp P Q a0 w := by
  refine wp_region_det V (fun b L W => S b L W ∧ ∀ j, Up L j → ∀ k ∈ depL .any ops j, Up L k) b0 hm hB hD ⟨start, fun j u => absurd u not_up_new⟩ (fun b L W hup hS => done b L W hup hS.1) ?_
  intro i b L W a hi hno hsz hdep hv h0 hS
  refine wpOp_mono ?_ (step i b L W a hi hno hsz hdep hv h0 hS.2 hS.1)
  rintro a' w' ⟨b', h1, h2, h3⟩
  refine ⟨b', h1, h2, h3, fun j u k hk => ?_⟩
  have mono : ∀ k, Up L k → Up (L.setIfInBounds i true) k := fun q hq => by
    by_cases e : q = i
    · rw [e] at hq; exact absurd hq hno
    · unfold Up; rw [getD_setB e]; exact hq
  by_cases e : j = i
  · subst e; exact mono k (hdep k hk)
  · refine mono k (hS.2 j ?_ k hk)
    unfold Up at u ⊢; rwa [getD_setB e] at u
end
/-- What holds behind a store (number s) and ahead of it. -/
def StS (s : Nat) (A B R : World → Prop) (L : Array Bool) (W : World) : Prop := (Up L s → A W) ∧ (¬ Up L s → B W) ∧ R W
theorem StS.other {s : Nat} {A B R : World → Prop} {L : Array Bool} {W : World} (h : StS s A B R L W) {i : Nat} (hi : s ≠ i) : StS s A B R (L.setIfInBounds i true) W := by
  have e : Up (L.setIfInBounds i true) s ↔ Up L s := by unfold Up; rw [getD_setB hi]
  exact ⟨fun u => h.1 (e.1 u), fun u => h.2.1 fun u' => u (e.2 u'), h.2.2⟩
theorem StS.move {s : Nat} {A B R : World → Prop} {L : Array Bool} {W W' : World} (h : StS s A B R L W) {i : Nat} (hi : s ≠ i) (hA : A W → A W') (hB : B W → B W') (hR : R W → R W') : StS s A B R (L.setIfInBounds i true) W' := by
  have e : Up (L.setIfInBounds i true) s ↔ Up L s := by unfold Up; rw [getD_setB hi]
  exact ⟨fun u => hA (h.1 (e.1 u)), fun u => hB (h.2.1 fun u' => u (e.2 u')), hR h.2.2⟩
theorem StS.put {s : Nat} {A B R : World → Prop} {L : Array Bool} {W' : World} (hs : s < L.size) (hA : A W') (hR : R W') : StS s A B R (L.setIfInBounds s true) W' := by
  have u : Up (L.setIfInBounds s true) s := by unfold Up; simp [Array.getD_eq_getD_getElem?, hs]
  exact ⟨fun _ => hA, fun h => absurd u h, hR⟩
theorem StS.both {s : Nat} {A B R : World → Prop} {L : Array Bool} {W : World} {X : Prop} (h : StS s A B R L W) (fA : A W → X) (fB : B W → X) : X := by
  by_cases u : Up L s
  · exact fA (h.1 u)
  · exact fB (h.2.1 u)
theorem StS.start {s n : Nat} {A B R : World → Prop} {W : World} (hB : B W) (hR : R W) : StS s A B R (Array.replicate n false) W := ⟨fun u => absurd u not_up_new, fun _ => hB, hR⟩
section
variable {P : Program} {a : Act} {W : World} {o : Oper} {x y z : Operand} {v vx vy : Value}
theorem run_bin {op : BinOp} {t t2 : TypeId} (hop : o.op = .binOp op t x y t2) (hx : a.eval x = vx) (hy : a.eval y = vy) (h : (do eqGuard op t x y vx vy; binOp op t vx vy : Sem Value).run P W = .ok v W) : (execOp a.eval o).run P W = .ok (.value v) W := by
  unfold execOp
  simp only [hop, hx, hy]
  rw [Sem.run_bind, h]; rfl
theorem run_un {op : UnOp} {t : TypeId} (hop : o.op = .unOp op t x) (hx : a.eval x = vx) (h : (Op.unary op vx).run P W = .ok v W) : (execOp a.eval o).run P W = .ok (.value v) W := by
  unfold execOp
  simp only [hop, hx]
  rw [Sem.run_bind, h]; rfl
theorem run_pk {q : Bool} (hop : o.op = .pick z x y) (hc : a.eval z = .bool q) (hx : a.eval x = vx) (hy : a.eval y = vy) (h : (if q = true then vx else vy) = v) : (execOp a.eval o).run P W = .ok (.value v) W := by
  unfold execOp
  simp only [hop, hc, hx, hy]
  subst h
  cases q <;> simp [go_sem]
theorem run_fa {t : TypeId} {k : Nat} (hop : o.op = .fieldAddr t x k) (hx : a.eval x = vx) (h : (Instr.fieldAt t vx k).run P W = .ok v W) : (execOp a.eval o).run P W = .ok (.value v) W := by
  unfold execOp
  simp only [hop, hx]
  rw [Sem.run_bind, h]; rfl
theorem run_ia {t : TypeId} (hop : o.op = .indexAddr t x y) (hx : a.eval x = vx) (hy : a.eval y = vy) (h : (Instr.indexAt t vx vy).run P W = .ok v W) : (execOp a.eval o).run P W = .ok (.value v) W := by
  unfold execOp
  simp only [hop, hx, hy]
  rw [Sem.run_bind, h]; rfl
theorem run_ld {t : TypeId} (hop : o.op = .load t x) (hx : a.eval x = vx) (h : (Instr.loadAt t vx).run P W = .ok v W) : (execOp a.eval o).run P W = .ok (.value v) W := by
  unfold execOp
  simp only [hop, hx]
  rw [Sem.run_bind, h]; rfl
theorem run_cv {s t : TypeId} (hop : o.op = .convert s t x) (hx : a.eval x = vx) (h : (convert s t vx).run P W = .ok v W) : (execOp a.eval o).run P W = .ok (.value v) W := by
  unfold execOp
  simp only [hop, hx]
  rw [Sem.run_bind, h]; rfl
theorem run_s1 {t : TypeId} (hop : o.op = .store t x y) (hx : a.eval x = vx) (hy : a.eval y = vy) {W' : World} (h : (Instr.storeAt t vx vy).run P W = .ok () W') : (execOp a.eval o).run P W = .ok .skip W' := by
  unfold execOp
  simp only [hop, hx, hy]
  rw [Sem.run_bind, h]; rfl
theorem run_bl {t : TypeId} {ps : Array (Nat × Operand)} (hop : o.op = .build t ps) (h : (Instr.build t (ps.map fun (i, x) => (i, a.eval x))).run P W = .ok v W) : (execOp a.eval o).run P W = .ok (.value v) W := by
  unfold execOp
  simp only [hop]
  rw [Sem.run_bind, h]; rfl
theorem run_ln {t e : TypeId} {s : Option Addr} {n c : Nat} (hop : o.op = .call { callee := .builtin .len, args := #[x], argTypes := #[t] }) (hk : P.underlying t = some (.slice e)) (hx : a.eval x = .slice s n c) : (execOp a.eval o).run P W = .ok (.value (.int .i64 (n : Int))) W := by
  have e1 : (#[x] : Array Operand).map a.eval = #[.slice s n c] := by simp only [List.map_toArray, List.map_cons, List.map_nil, hx]
  unfold execOp
  simp only [hop, resolve, e1]
  simp [go_sem, invoke, Builtin.len_, underlying, hk]
/-- A call of a function, entered. -/
theorem run_cl1 {f : FuncId} {tys : Array TypeId} (hop : o.op = .call { callee := .value (.func f), args := #[x], argTypes := tys }) (hx : a.eval x = vx) (he : ∀ args w, (callFunc f args).run P w = .ok (.enter f args) w) : (execOp a.eval o).run P W = .ok (.enter f #[vx]) W := by
  have e0 : a.eval (.func f) = .func (.func f) #[] #[] := rfl
  subst hx
  unfold execOp
  simp only [hop, resolve, e0]
  simp [go_sem, Deferred.ofValue, invoke, he]
theorem run_cl2 {f : FuncId} {tys : Array TypeId} (hop : o.op = .call { callee := .value (.func f), args := #[x, y], argTypes := tys }) (hx : a.eval x = vx) (hy : a.eval y = vy) (he : ∀ args w, (callFunc f args).run P w = .ok (.enter f args) w) : (execOp a.eval o).run P W = .ok (.enter f #[vx, vy]) W := by
  have e0 : a.eval (.func f) = .func (.func f) #[] #[] := rfl
  subst hx
  subst hy
  unfold execOp
  simp only [hop, resolve, e0]
  simp [go_sem, Deferred.ofValue, invoke, he]
end
end Go.Proofs.YtkjdihikcgpababDoor
