/-
  Blocks of cells of any kind (arrays, structs): loaded from and stored into whole or in part.
-/
import Derived.Deep.MidRow
import Derived.Test.YtkdclocjijmgpaaRows
import Derived.WalkKit
import Derived.Deep.QuietTactic
import Derived.BigQuiet
import Derived.Test.YtkdclocjijmgpaaK6
namespace Go.Proofs.Ytkdclocjijmgpaa
open Go.RowKit

/-- Block b is whole, not frozen, and holds cs. -/
def Blk (T : TypeId) (w : World) (b : Nat) (cs : List Value) : Prop := w.heap[b]? = some (.cells cs.toArray T (0, 0))
/-- cs with vs written over it from o on. -/
def over (cs : List Value) (o : Nat) (vs : List Value) : List Value := cs.take o ++ (vs ++ cs.drop (o + vs.length))
theorem Arr.blk {k : IntKind} {e : TypeId} {w : World} {b : Nat} {xs : List Int} (h : Arr k e w b xs) : Blk e w b (xs.map (Value.int k)) := h
theorem Blk.arr {k : IntKind} {e : TypeId} {w : World} {b : Nat} {xs : List Int} (h : Blk e w b (xs.map (Value.int k))) : Arr k e w b xs := h
theorem Blk.lt {T : TypeId} {w : World} {b : Nat} {cs : List Value} (h : Blk T w b cs) : b < w.heap.size := (Array.getElem?_eq_some_iff.1 h).1
theorem Blk.cell {T : TypeId} {w : World} {b : Nat} {cs : List Value} (h : Blk T w b cs) (i : Nat) : w.cell? ⟨b, i, none⟩ = cs[i]? := by
  rw [cell_of_row w b i _ T (0, 0) h]; simp
theorem Blk.frozen {T : TypeId} {w : World} {b : Nat} {cs : List Value} (h : Blk T w b cs) (i : Nat) : w.frozen? ⟨b, i, none⟩ = false := frozen_of_row w b i _ T h
theorem Blk.set {T : TypeId} {w : World} {b : Nat} {cs : List Value} (h : Blk T w b cs) (i : Nat) (v : Value) : Blk T (w.setCell ⟨b, i, none⟩ v) b (cs.set i v) := by
  unfold Blk; rw [heap_setCell_same w b i _ T _ h]; simp
theorem Blk.range {T : TypeId} {w : World} {b : Nat} {cs : List Value} (h : Blk T w b cs) (o : Nat) (vs : List Value) (hv : (cs.drop o).take vs.length = vs) : w.rangeAt b o vs := by
  intro j v hj
  rw [h.cell]
  have hlt : j < vs.length := (List.getElem?_eq_some_iff.1 hj).1
  rw [← hv, List.getElem?_take, if_pos hlt, List.getElem?_drop] at hj
  exact hj
theorem Blk.whole {T : TypeId} {w : World} {b : Nat} {cs : List Value} (h : Blk T w b cs) : w.rangeAt b 0 cs := h.range 0 cs (by simp)
theorem Blk.there {T : TypeId} {w : World} {b : Nat} {cs : List Value} (h : Blk T w b cs) (o n : Nat) (ho : o + n ≤ cs.length) : w.there b o n := by
  intro j hj
  rw [h.cell, h.frozen]
  exact ⟨by simp [show o + j < cs.length by omega], rfl⟩
theorem setCells_blk {T : TypeId} {b : Nat} : ∀ (vs : List Value) (o : Nat) (w : World) (cs : List Value), Blk T w b cs → o + vs.length ≤ cs.length → Blk T (w.setCells b o vs) b (over cs o vs)
  | [], o, w, cs, h, _ => by simpa [over, World.setCells] using h
  | v :: vs, o, w, cs, h, ho => by
    simp only [List.length_cons] at ho
    have h1 := setCells_blk vs (o + 1) _ _ (h.set o v) (by simp; omega)
    simp only [World.setCells]
    have e : over (cs.set o v) (o + 1) vs = over cs o (v :: vs) := by
      unfold over
      rw [List.take_set, List.drop_set_of_lt (by omega), List.take_succ_eq_append_getElem (by omega), List.set_append_right _ _ (by simp; omega)]
      simp [show o ≤ cs.length by omega, Nat.add_assoc, Nat.add_comm 1]
    rw [e] at h1; exact h1
theorem Blk.setCells {T : TypeId} {w : World} {b : Nat} {cs : List Value} (h : Blk T w b cs) (o : Nat) (vs : List Value) (ho : o + vs.length ≤ cs.length) : Blk T (w.setCells b o vs) b (over cs o vs) := setCells_blk vs o w cs h ho
theorem Blk.fill {T : TypeId} {w : World} {b : Nat} {cs : List Value} (h : Blk T w b cs) (vs : List Value) (ho : vs.length = cs.length) : Blk T (w.setCells b 0 vs) b vs := by
  have := h.setCells 0 vs (by omega)
  rw [show over cs 0 vs = vs by simp [over, ho]] at this; exact this
theorem Upd.setCells {b : Nat} : ∀ (vs : List Value) (o : Nat) (w : World), Upd w (w.setCells b o vs) b
  | [], _, w => Upd.refl w b
  | v :: vs, o, w => (Upd.set w b o v).trans (Upd.setCells vs (o + 1) _)
theorem Upd.blk {T : TypeId} {w w' : World} {b b' : Nat} {cs : List Value} (h : Upd w w' b) (ha : Blk T w b' cs) (hne : b' ≠ b) : Blk T w' b' cs := by
  unfold Blk; rw [h.block b' ha.lt (by simp [hne])]; exact ha
theorem below_blk {B : Nat} {T : TypeId} {w w' : World} {b : Nat} {cs : List Value} (h : Below B w w') (hb : b < B) (ha : Blk T w b cs) : Blk T w' b cs := by
  unfold Blk; rw [h.block b hb]; exact ha
theorem Blk.alloc {T : TypeId} {w : World} {b : Nat} {cs : List Value} (h : Blk T w b cs) (o : Obj) : Blk T (w.alloc o) b cs :=
  below_blk ((Below.refl _ _).alloc (Nat.le_refl _) o) h.lt h
theorem Blk.new (T : TypeId) (w : World) (cs : List Value) : Blk T (w.alloc (.cells cs.toArray T)) w.heap.size cs := by
  unfold Blk; rw [heap_alloc_new]
theorem Blk.drewN {T : TypeId} {w : World} {b : Nat} {cs : List Value} (h : Blk T w b cs) (n : Nat) : Blk T (w.drewN n) b cs := h
theorem ints_one (k : IntKind) (xs : List Int) : (xs.map (Value.int k)).toArray.all (·.oneCell') = true :=
  all_oneCell_toArray (fun v hv => by obtain ⟨x, _, rfl⟩ := List.mem_map.1 hv; rfl)
theorem below_drewN {B : Nat} {w w' : World} (n : Nat) (h : Below B w w') : Below B w (w'.drewN n) := h.trans ⟨rfl, rfl, rfl, Nat.le_refl _, fun _ _ => rfl⟩
/-- A function with one result that lies in a block of its own. -/
theorem results_blk {P : Program} {fn : Func} {T : TypeId} {t : Tmp} (h : fn.results = #[.cell t T]) {a : Array Value} {w : World} {b : Nat} {cs : List Value} {d : TypeDesc} (ha : a.getD t undef = .pointer (some ⟨b, 0, none⟩))
    (hb : Blk T w b cs) (hu : P.underlying T = some d) (hd : d.isRow = true) (hi : (P.info? T).map (·.size) = some cs.length) : (results fn a).run P w = .ok (.agg cs.toArray) w := by
  have := run_loadVar_mid (P := P) w b 0 T cs d hb.whole hu hd hi
  have ha' : a[t]?.getD undef = .pointer (some ⟨b, 0, none⟩) := by simpa using ha
  simp [results, h, ha', asAddr, this]
end Go.Proofs.Ytkdclocjijmgpaa
/-
  A region that draws its order, whose first n operations are quiet in a class of worlds, and whose others wait for all of them and for one another: one walk of the text's order serves every order.
-/
namespace Go.Proofs.Ytkdclocjijmgpaa
section
variable {P : Program} {ops : Array Oper} {md : Region.Mode} {C : World → Prop}
/-- The first n have all come up. -/
def AllUp (listed : Array Bool) (n : Nat) : Prop := ∀ j, j < n → listed.getD j true = true
/-- Whatever order the first n come up in. -/
def wpFst (P : Program) (md : Region.Mode) (ops : Array Oper) (C : World → Prop) (n : Nat) (Q : Act → Prop) : Nat → Array Bool → Act → Prop
  | 0, listed, a => AllUp listed n ∧ Q a
  | fuel + 1, listed, a => (∃ i, i ∈ Region.ready md ops listed ∧ i < n) ∧
      ∀ i, i ∈ Region.ready md ops listed → i < n → qOp P ops C i (wpFst P md ops C n Q fuel (listed.setIfInBounds i true)) a
theorem not_up {listed : Array Bool} {n i : Nat} (h : i ∈ Region.ready md ops listed) (hn : i < n) : ¬ AllUp listed n := fun hu => by
  have h1 := (mem_ready.1 h).1
  rw [hu i hn] at h1
  exact Bool.noConfusion h1
theorem wpFst_first {n : Nat} {Q : Act → Prop} {i : Nat} {oi : Oper} {v : Value} (hi : ops[i]? = some oi) (hin : i < n)
    (hsel : ∀ (j : Nat) (o : Oper) cs b, ops[j]? = some o → o.op ≠ .select cs b) (fuel : Nat) :
    ∀ (listed : Array Bool) (a : Act),
      (∀ j oj, ops[j]? = some oj → j ≠ i → listed.getD j true = false → (∀ e ∈ oj.after, Region.binds md e = true → e.on ≠ i) → oi.apart ops oj = true) →
      i ∈ Region.ready md ops listed → YieldsIn P ops C oi v a →
      wpFst P md ops C n Q fuel (listed.setIfInBounds i true) (a.put oi.dst v) → wpFst P md ops C n Q (fuel + 1) listed a := by
  induction fuel with
  | zero =>
    intro listed a _ hr hy H
    refine ⟨⟨i, hr, hin⟩, fun j hj hjn => ?_⟩
    by_cases hji : j = i
    · subst hji; exact hy.qOp hi H
    · exact absurd H.1 (not_up (ready_mono hj hji) hjn)
  | succ fuel ih =>
    intro listed a hfree hr hy H
    refine ⟨⟨i, hr, hin⟩, fun j hj hjn => ?_⟩
    by_cases hji : j = i
    · subst hji; exact hy.qOp hi H
    · obtain ⟨hjun, oj, hoj, hall⟩ := mem_ready.1 hj
      have hno : ∀ e ∈ oj.after, Region.binds md e = true → e.on ≠ i := by
        intro e he hb heq
        have h1 := hall e he hb
        have h0 := (mem_ready.1 hr).1
        rw [heq] at h1
        by_cases hlt : i < listed.size
        · simp [hlt] at h0 h1; rw [h0] at h1; exact Bool.noConfusion h1
        · simp [Array.getElem?_eq_none (Nat.le_of_not_lt hlt)] at h1
      have h2 := qOp_put hoj (hfree j oj hoj hji hjun hno) (fun cs b => hsel i oi cs b hi) (fun cs b => hsel j oj cs b hoj) hy (H.2 j (ready_mono hj hji) hjn)
      refine qOp_mono (fun a' h3 => ih _ a' ?_ (ready_mono hr (Ne.symm hji)) h3.1 ?_) h2
      · intro k ok hk hki hun
        refine hfree k ok hk hki ?_
        by_cases hjk : j = k
        · rw [← hjk]; exact hjun
        · rw [getD_set_ne true hjk] at hun; exact hun
      · rw [Array.setIfInBounds_comm _ _ hji]; exact h3.2
/-- May the operations k, k + 1, .. (so many) be taken in this order, each free? -/
def lexTo (md : Region.Mode) (ops : Array Oper) : Nat → Nat → Array Bool → Bool
  | 0, _, _ => true
  | m + 1, k, listed => (Region.ready md ops listed).contains k && Region.free md ops listed k && lexTo md ops m (k + 1) (listed.setIfInBounds k true)
theorem wpFst_lex {n : Nat} {Q : Act → Prop} (hs : Region.noSelect ops = true) : ∀ (l : List Oper) (k : Nat) (listed : Array Bool) (a : Act), k + l.length = n → (∀ j, j < l.length → l[j]? = ops[k + j]?) → AllUp listed k →
    k + l.length ≤ listed.size → lexTo md ops l.length k listed = true → wpQuiet P ops C Q l a → wpFst P md ops C n Q l.length listed a
  | [], k, listed, a, hn, _, hu, _, _, h => by simp at hn; subst hn; exact ⟨hu, h⟩
  | o :: l, k, listed, a, hn, hl, hu, hsz, hB, h => by
    have h0 : ops[k]? = some o := by simpa using (hl 0 (by simp)).symm
    simp only [List.length_cons, lexTo, Bool.and_eq_true] at hB
    simp only [List.length_cons] at hn hsz
    obtain ⟨⟨hr, hf⟩, hB'⟩ := hB
    have hst : qOp P ops C k (wpQuiet P ops C Q l) a := by unfold qOp; simp only [h0]; exact h
    obtain ⟨v, hy, hK⟩ := yieldsIn_of_qOp h0 hst
    refine wpFst_first h0 (by omega) (Region.noSelect_spec hs) l.length listed a (Region.free_spec h0 hf) (by simpa using hr) hy ?_
    refine wpFst_lex hs l (k + 1) _ _ (by omega) (fun j hj => ?_) (fun j hj => ?_) (by simp; omega) hB' hK
    · have := hl (j + 1) (by simp; omega); simpa [Nat.add_assoc, Nat.add_comm 1 j] using this
    · by_cases hjk : k = j
      · subst hjk; simp [show k < listed.size by omega]
      · rw [getD_set_ne true hjk]; exact hu j (by omega)
/-- May number k have come up, of the first n, though number j has not? -/
def without (md : Region.Mode) (ops : Array Oper) (n j : Nat) : Nat → Nat → Bool
  | 0, _ => false
  | f + 1, k => decide (k < n) && k != j && ((ops[k]?).map fun o => o.after.all fun e => !Region.binds md e || without md ops n j f e.on).getD true
/-- No edge of the first n leads on. -/
def backB (md : Region.Mode) (ops : Array Oper) (n : Nat) : Bool := (List.range n).all fun k => ((ops[k]?).map fun o => o.after.all fun e => !Region.binds md e || decide (e.on < k)).getD true
/-- Each of the others waits, whichever of the first n has not come up. -/
def waitsB (md : Region.Mode) (ops : Array Oper) (n : Nat) : Bool :=
  backB md ops n && (List.range n).all fun j => (List.range ops.size).all fun i => decide (i < n) || ((ops[i]?).map fun o => o.after.any fun e => Region.binds md e && !without md ops n j ops.size e.on).getD false
/-- What has come up has come up behind what it waits for. -/
def Closed (md : Region.Mode) (ops : Array Oper) (listed : Array Bool) : Prop := ∀ k o, ops[k]? = some o → listed.getD k true = true → ∀ e ∈ o.after, Region.binds md e = true → listed.getD e.on false = true
theorem Closed.set {listed : Array Bool} (h : Closed md ops listed) {i : Nat} (hi : i ∈ Region.ready md ops listed) : Closed md ops (listed.setIfInBounds i true) := by
  obtain ⟨h0, oi, hoi, hall⟩ := mem_ready.1 hi
  have hlt : i < listed.size := Decidable.byContradiction fun hx => by simp [Array.getElem?_eq_none (Nat.le_of_not_lt hx)] at h0
  have up : ∀ k, listed.getD k false = true → (listed.setIfInBounds i true).getD k false = true := fun k hk => by
    by_cases hik : i = k
    · subst hik; simp [hlt]
    · rw [getD_set_ne false hik]; exact hk
  intro k o ho hl e he hb
  by_cases hik : i = k
  · subst hik
    rw [hoi] at ho
    cases ho
    exact up _ (hall e he hb)
  · rw [getD_set_ne true hik] at hl
    exact up _ (h k o ho hl e he hb)
theorem without_of {n j : Nat} (hB : backB md ops n = true) {listed : Array Bool} (hc : Closed md ops listed) (hlate : ∀ i, n ≤ i → i < ops.size → listed.getD i true = false) (hsz : listed.size = ops.size) (hj : listed.getD j true = false) :
    ∀ (f k : Nat), k < f → listed.getD k false = true → without md ops n j f k = true
  | 0, _, h, _ => by omega
  | f + 1, k, hk, hl => by
    have hks : k < listed.size := Decidable.byContradiction fun hx => by simp [Array.getElem?_eq_none (Nat.le_of_not_lt hx)] at hl
    have hl' : listed.getD k true = true := by simp [hks] at hl ⊢; exact hl
    have hkn : k < n := Decidable.byContradiction fun hx => by rw [hlate k (by omega) (by omega)] at hl'; exact Bool.noConfusion hl'
    have hkj : k ≠ j := fun hx => by rw [hx, hj] at hl'; exact Bool.noConfusion hl'
    cases ho : ops[k]? with
    | none => simp [without, hkn, hkj, ho]
    | some o =>
      have hb0 := List.all_eq_true.1 hB k (by simpa using hkn)
      simp only [ho, Option.map_some, Option.getD_some] at hb0
      simp only [without, ho, Option.map_some, Option.getD_some, hkn, decide_true, Bool.true_and, Bool.and_eq_true, bne_iff_ne, ne_eq, hkj, not_false_eq_true, true_and]
      refine Array.all_eq_true_iff_forall_mem.2 fun e he => ?_
      by_cases hbe : Region.binds md e = true
      · have h1 := Array.all_eq_true_iff_forall_mem.1 hb0 e he
        simp [hbe] at h1
        simp [hbe, without_of hB hc hlate hsz hj f e.on (by omega) (hc k o ho hl' e he hbe)]
      · simp [hbe]
theorem ready_below {n : Nat} (hB : waitsB md ops n = true) {listed : Array Bool} (hc : Closed md ops listed) (hlate : ∀ i, n ≤ i → i < ops.size → listed.getD i true = false) (hsz : listed.size = ops.size)
    {j : Nat} (hj : j ∈ Region.ready md ops listed) (hjn : j < n) {i : Nat} (hi : i ∈ Region.ready md ops listed) : i < n := by
  refine Decidable.byContradiction fun hge => ?_
  unfold waitsB at hB
  rw [Bool.and_eq_true] at hB
  obtain ⟨h0, oi, hoi, hall⟩ := mem_ready.1 hi
  have hlt : i < ops.size := (Array.getElem?_eq_some_iff.1 hoi).1
  have h1 := List.all_eq_true.1 (List.all_eq_true.1 hB.2 j (by simpa using hjn)) i (by simpa using hlt)
  simp only [hge, decide_false, Bool.false_or, hoi, Option.map_some, Option.getD_some] at h1
  obtain ⟨e, he, h2⟩ : ∃ e ∈ oi.after, (Region.binds md e && !without md ops n j ops.size e.on) = true := by
    rw [← Array.any_toList, List.any_eq_true] at h1
    obtain ⟨e, he, h2⟩ := h1
    exact ⟨e, by simpa using he, h2⟩
  rw [Bool.and_eq_true] at h2
  have h3 := hall e he h2.1
  have hes : e.on < ops.size := Decidable.byContradiction fun hx => by simp [Array.getElem?_eq_none (show listed.size ≤ e.on by omega)] at h3
  rw [without_of hB.1 hc hlate hsz (mem_ready.1 hj).1 ops.size e.on hes h3] at h2
  simp at h2
theorem wpAny_of_fst {n m : Nat} {Q : Act → Prop} {Q' : Exit → Act → World → Prop} (hB : waitsB md ops n = true)
    (hQ : ∀ (listed : Array Bool) (a : Act) (w : World), listed.size = ops.size → AllUp listed n → (∀ i, n ≤ i → i < ops.size → listed.getD i true = false) → C w → Q a → wpAny P md ops Q' m listed a w) :
    ∀ (fuel : Nat) (listed : Array Bool) (a : Act) (w : World), Closed md ops listed → listed.size = ops.size → (∀ i, n ≤ i → i < ops.size → listed.getD i true = false) → C w → wpFst P md ops C n Q fuel listed a → wpAny P md ops Q' (fuel + m) listed a w
  | 0, listed, a, w, _, hsz, hlate, hw, h => by rw [Nat.zero_add]; exact hQ listed a w hsz h.1 hlate hw h.2
  | fuel + 1, listed, a, w, hc, hsz, hlate, hw, h => by
    obtain ⟨⟨j, hj, hjn⟩, hall⟩ := h
    rw [show fuel + 1 + m = (fuel + m) + 1 by omega]
    refine ⟨fun h0 => by rw [h0] at hj; simp at hj, fun i hi => ?_⟩
    have hin := ready_below hB hc hlate hsz hj hjn hi
    refine wpOp_of_qOp hw (fun a' w' hw' h' => wpAny_of_fst hB hQ fuel _ a' w' (hc.set hi) (by simp [hsz]) (fun k hk hks => ?_) hw' h') (hall i hi hin)
    rw [getD_set_ne true (by omega)]; exact hlate k hk hks
/-- Does each of the others come up alone? -/
def lonely (md : Region.Mode) (ops : Array Oper) : Nat → Nat → Array Bool → Bool
  | 0, _, listed => (Region.ready md ops listed).isEmpty
  | m + 1, k, listed => (Region.ready md ops listed) == [k] && lonely md ops m (k + 1) (listed.setIfInBounds k true)
theorem wpAny_lonely {Q : Exit → Act → World → Prop} : ∀ (l : List Oper) (k : Nat) (listed : Array Bool) (a : Act) (w : World), (∀ j, l[j]? = ops[k + j]?) → lonely md ops l.length k listed = true → wpList P ops Q l a w → wpAny P md ops Q l.length listed a w
  | [], _, _, _, _, _, hB, h => ⟨by simpa [lonely] using hB, h⟩
  | o :: l, k, listed, a, w, hl, hB, h => by
    have h0 : ops[k]? = some o := by simpa using (hl 0).symm
    simp only [List.length_cons, lonely, Bool.and_eq_true] at hB
    obtain ⟨hr, hB'⟩ := hB
    have hr' := eq_of_beq hr
    refine ⟨fun h1 => by rw [hr'] at h1; simp at h1, fun i hi => ?_⟩
    rw [hr'] at hi
    have : i = k := by simpa using hi
    subst this
    have h2 : wpOp P ops Q i (wpList P ops Q l) a w := by unfold wpOp; simp only [h0]; exact h
    exact wpOp_mono (fun a' w' h' => wpAny_lonely l (i + 1) _ a' w' (fun j => by have := hl (j + 1); simpa [Nat.add_assoc, Nat.add_comm 1 j] using this) hB' h') h2
def upTo (n size : Nat) : Array Bool := ((List.range size).map fun i => decide (i < n)).toArray
def qsB (n : Nat) (ops : Array Oper) : Bool :=
  Region.noSelect ops && lexTo .any ops n 0 (Array.replicate ops.size false) && waitsB .any ops n && lonely .any ops (ops.size - n) n (upTo n ops.size) && decide (n ≤ ops.size)
theorem eq_upTo {listed : Array Bool} {n size : Nat} (hsz : listed.size = size) (hu : AllUp listed n) (hl : ∀ i, n ≤ i → i < size → listed.getD i true = false) : listed = upTo n size := by
  refine Array.ext (by simp [upTo, hsz]) fun i h1 h2 => ?_
  have e : (upTo n size)[i] = decide (i < n) := by simp [upTo]
  rw [e]
  by_cases h : i < n
  · have := hu i h; simp [h1] at this; simp [this, h]
  · have := hl i (by omega) (by omega); simp [h1] at this; simp [this]; omega
theorem wp_region_qs (n : Nat) {id : Nat} {Q : Exit → Act → World → Prop} {a : Act} {w : World} {l : List Oper} (hm : P.follows .mixedOrders = true) (hB : qsB n l.toArray = true) (hC : C { w with drawn := w.drawn + 1 })
    (h : wpQuiet P l.toArray C (fun a' => ∀ w', C w' → wpList P l.toArray Q (l.drop n) a' w') (l.take n) a) : (Code.region id l.toArray true).wp P Q a w := by
  simp only [qsB, Bool.and_eq_true, decide_eq_true_eq] at hB
  obtain ⟨⟨⟨⟨hs, hlex⟩, hwait⟩, hlone⟩, hn⟩ := hB
  have hn' : n ≤ l.length := by simpa using hn
  refine wp_region_any hm ?_
  have hf := wpFst_lex (n := n) (md := .any) hs (l.take n) 0 (Array.replicate l.toArray.size false) a (by simp; omega) (fun j hj => by simp at hj; simp [show j < n by omega]) (fun j hj => by omega)
    (by simp; omega) (by simpa [Nat.min_eq_left hn'] using hlex) h
  have hlen : (l.take n).length = n := by simp; omega
  rw [hlen] at hf
  have := wpAny_of_fst (m := l.length - n) (Q' := Q) hwait (fun listed a' w' hsz hu hlate hw' hq => by
    have e := eq_upTo hsz hu hlate
    subst e
    have := wpAny_lonely (md := .any) (l.drop n) n (upTo n l.toArray.size) a' w' (fun j => by simp) (by simpa using hlone) (hq w' hw')
    simpa using this) n (Array.replicate l.toArray.size false) a { w with drawn := w.drawn + 1 } (fun k o ho hl => by have hk : k < l.toArray.size := (Array.getElem?_eq_some_iff.1 ho).1; simp at hk; simp [hk] at hl) (by simp) (fun i hi hi2 => by simp at hi2; simp [hi2]) hC hf
  rw [show n + (l.length - n) = l.toArray.size by simp; omega] at this
  exact this
/-- At the class 'w after some draws'. -/
theorem wp_region_qsd (n : Nat) {id : Nat} {Q : Exit → Act → World → Prop} {a : Act} {w : World} {l : List Oper} (hm : P.follows .mixedOrders = true) (hB : qsB n l.toArray = true)
    (h : wpQuiet P l.toArray (fun w' => ∃ q, w' = w.drewN q) (fun a' => ∀ w', (∃ q, w' = w.drewN q) → wpList P l.toArray Q (l.drop n) a' w') (l.take n) a) : (Code.region id l.toArray true).wp P Q a w :=
  wp_region_qs (C := fun w' => ∃ q, w' = w.drewN q) n hm hB ⟨1, rfl⟩ h
end
end Go.Proofs.Ytkdclocjijmgpaa
/-
  Der: words of memory, bytes lent and kept, the same bytes (as for digest).
-/
namespace Go.Proofs.Ytkdclocjijmgpaa
open Go.RowKit
theorem Try.und8 : Try.prog.underlying 48 = some (.slice 5) := by kernel_rfl
theorem Try.info8 : (Try.prog.info? 5).map (fun i => (i.zero, i.size, i.bytes)) = some (some (.int .u8 0), 1, 1) := by kernel_rfl
def U8 (x : Int) : Prop := 0 ≤ x ∧ x < 256
def U8s (xs : List Int) : Prop := ∀ x ∈ xs, U8 x
theorem U8s.at {xs : List Int} (h : U8s xs) (i : Nat) : U8 (xs.getD i 0) := by
  by_cases hi : i < xs.length
  · simp [hi]; exact h _ (List.getElem_mem hi)
  · simp [List.getD, List.getElem?_eq_none (Nat.le_of_not_lt hi), U8]
theorem U8s.append {xs ys : List Int} (h : U8s xs) (k : U8s ys) : U8s (xs ++ ys) := by
  intro y hy; rcases List.mem_append.1 hy with hy | hy
  · exact h y hy
  · exact k y hy
theorem U8s.take {xs : List Int} (h : U8s xs) (n : Nat) : U8s (xs.take n) := fun y hy => h y (List.mem_of_mem_take hy)
theorem U8s.drop {xs : List Int} (h : U8s xs) (n : Nat) : U8s (xs.drop n) := fun y hy => h y (List.mem_of_mem_drop hy)
theorem arr_newB {k : IntKind} {e : TypeId} {w : World} {S : List Int} {cs : List Value} (h : cs = S.map (Value.int k)) : Arr k e (w.alloc (.cells cs.toArray e)) w.heap.size S := by subst h; exact Blk.new e w _
theorem Try.e8 : Try.prog.underlying 5 = some (.int .u8) := by kernel_rfl
/-- A new row of numbers, marked or not, reads them. -/
theorem new_sl {k : IntKind} {e : TypeId} {w : World} (S : List Int) (fr : Nat × Nat) : Sl k (w.alloc (.cells (S.map (Value.int k)).toArray e fr)) (.slice (some ⟨w.heap.size, 0, none⟩) S.length S.length) S :=
  ⟨_, _, rfl, Nat.le_refl _, .inr ⟨w.heap.size, 0, rfl, by simp, fun i hi => by
    rw [cell_of_row _ _ _ (S.map (Value.int k)).toArray e fr (heap_alloc_new _ _)]
    simp [hi]⟩⟩
theorem al1 {w : World} (o : Obj) : Below w.heap.size w (w.alloc o) := (Below.refl _ _).alloc (Nat.le_refl _) o
theorem below_via {B : Nat} {w w1 w2 : World} (h : Below B w w1) (h' : Below w1.heap.size w1 w2) (hB : B ≤ w.heap.size) : Below B w w2 := h.trans (h'.mono (Nat.le_trans hB h.size))
theorem arr_nw {k : IntKind} {e : TypeId} {w : World} {b : Nat} {cs : Array Value} {xs : List Int} (hb : b = w.heap.size) (h : cs = (xs.map (Value.int k)).toArray) : Arr k e (w.alloc (.cells cs e)) b xs := by subst hb; subst h; exact Blk.new e w _
/-- A lent list: a block from B on that holds X, the two marks, and whatever else. -/
def LentR8 (B : Nat) (w : World) (v : Value) (X : List Int) : Prop :=
  ∃ b S, v = .slice (some ⟨b, 0, none⟩) X.length S.length ∧ B ≤ b ∧ Arr .u8 5 w b S ∧ S.take (X.length + 2) = X ++ [90, 165] ∧ X.length + 2 ≤ S.length ∧ S.length ≤ maxLen
theorem LentR8.sl {B : Nat} {w : World} {v : Value} {X : List Int} (h : LentR8 B w v X) : Sl .u8 w v X := by
  obtain ⟨b, S, rfl, _, hA, ht, hl, _⟩ := h
  refine ⟨_, _, rfl, by omega, .inr ⟨b, 0, rfl, hA.lt, ?_⟩⟩
  have h1 := hA.rd 0 X.length (by omega)
  have e : S.take X.length = X := by
    have : (S.take (X.length + 2)).take X.length = S.take X.length := by rw [List.take_take]; congr 1; omega
    rw [← this, ht, List.take_left]
  rw [List.drop_zero, e] at h1; exact h1
theorem LentR8.below {B : Nat} {w w' : World} {v : Value} {X : List Int} (h : LentR8 B w v X) (hb : Below w.heap.size w w') : LentR8 B w' v X := by
  obtain ⟨b, S, rfl, h1, hA, h2⟩ := h
  exact ⟨b, S, rfl, h1, below_arr hb hA.lt hA, h2⟩
theorem LentR8.mono {B B' : Nat} {w : World} {v : Value} {X : List Int} (h : LentR8 B w v X) (hb : B' ≤ B) : LentR8 B' w v X := by
  obtain ⟨b, S, rfl, h1, h2⟩ := h
  exact ⟨b, S, rfl, by omega, h2⟩
end Go.Proofs.Ytkdclocjijmgpaa
/-
  Curve: numbers in memory by their value; package nat by values.
-/
namespace Go.Proofs.Ytkdclocjijmgpaa
open Go.RowKit
set_option maxRecDepth 20000
theorem wp_gen {P : Program} {c : Code} {Q : Exit → Act → World → Prop} {a : Act} {W : World} (R : World → Prop) (hR : R W) (h : ∀ W', R W' → Code.wp P c Q a W') : Code.wp P c Q a W := h W hR
theorem wpList_boxR {P : Program} {ops : Array Oper} {rest : List Oper} {o : Oper} {a : Act} {w : World} {Q : Exit → Act → World → Prop} (hg : o.guard = none) (t : TypeId) (x : Operand) (ho : o.op = .box t x) (cells : Array Value) (hx : a.eval x = .agg cells)
    (h : wpList P ops Q rest (a.put o.dst (.pointer (some ⟨w.heap.size, 0, none⟩))) (w.alloc (.cells cells t))) : wpList P ops Q (o :: rest) a w := by
  refine wpList_plain hg fun K hK => ?_
  unfold Oper.wp execOp
  simp only [ho, hx, Sem.run_bind, Instr.box, newVar, newRow, run_newObj_alloc, Sem.run_pure, Result.andThen_ok]
  exact hK _ _ h
/-- The value reads the limbs of x. -/
def Nb (w : World) (v : Value) (x : Nat) : Prop := Sl .u32 w v (lim x)
theorem Nb.below {w w' : World} {v : Value} {x : Nat} (h : Nb w v x) (hb : Below w.heap.size w w') : Nb w' v x := below_sl hb h
theorem Nb.sl {w : World} {v : Value} {x : Nat} (h : Nb w v x) : Sl .u32 w v (lim x) := h
theorem Nb.form {w : World} {v : Value} {x : Nat} (h : Nb w v x) : ∃ a c, v = .slice a (lim x).length c := by
  obtain ⟨a, c, h1, _⟩ := h; exact ⟨a, c, h1⟩
/-- A number of at most 1024 binary digits. -/
def Sm (x : Nat) : Prop := x < 4294967296 ^ 32
theorem lim_sm {x : Nat} (h : Sm x) : (lim x).length ≤ 32 := by
  refine lim_len_le ?_
  have : ((x : Nat) : Int) < ((4294967296 ^ 32 : Nat) : Int) := Int.ofNat_lt.2 h
  rw [Int.natCast_pow] at this
  exact this
theorem lim0 {x : Nat} : (lim x).length = 0 ↔ x = 0 := by
  constructor
  · intro h
    have h1 : lim x = [] := List.eq_nil_of_length_eq_zero h
    have h2 := val_lim x; rw [h1] at h2; simp [val] at h2; omega
  · rintro rfl; rfl
theorem nil_nb (w : World) : Nb w (.slice none 0 0) 0 := ⟨none, 0, rfl, Nat.le_refl _, .inl rfl⟩
theorem NAdd {w : World} (a b : Value) (x y : Nat) (ha : Nb w a x) (hb : Nb w b y) (hx : Sm x) (hy : Sm y) :
    Calls Try.prog 64 #[a, b] w fun e w' => ∃ r, e = .returned (.tuple #[r, .int .i64 0]) ∧ Nb w' r (x + y) ∧ Below w.heap.size w w' := by
  refine (Nt.Add_any (lim x) (lim y) a b w ha hb (lim_u32 _) (lim_u32 _)).mono ?_
  rintro e w' ⟨⟨r, rfl, ho⟩, hB⟩
  have l1 := lim_sm hx
  have l2 := lim_sm hy
  have l3 : (lim (x + y)).length ≤ 33 := by
    refine lim_len_le ?_
    have : ((x + y : Nat) : Int) < ((4294967296 ^ 33 : Nat) : Int) := Int.ofNat_lt.2 (by
      have := hx; have := hy; unfold Sm at *
      rw [Nat.pow_succ]; omega)
    rw [Int.natCast_pow] at this
    exact this
  have e1 : Nt.addS (lim x) (lim y) = (lim (x + y), 0) := by
    unfold Nt.addS; rw [if_neg (by omega), val_lim, val_lim]
    have : ((x : Int) + (y : Int)).toNat = x + y := by omega
    rw [this]; unfold Nt.fit; rw [if_neg (by omega)]
  rw [e1] at ho ⊢
  exact ⟨r, rfl, ho.sl, hB⟩
theorem NSub {w : World} (a b : Value) (x y : Nat) (ha : Nb w a x) (hb : Nb w b y) (hx : (lim x).length ≤ 512) (hy : (lim y).length ≤ 512) (hle : y ≤ x) :
    Calls Try.prog 65 #[a, b] w fun e w' => ∃ r, e = .returned (.tuple #[r, .int .i64 0]) ∧ Nb w' r (x - y) ∧ Below w.heap.size w w' := by
  refine (Nt.Sub_any (lim x) (lim y) a b w ha hb (lim_u32 _) (lim_u32 _)).mono ?_
  rintro e w' ⟨⟨r, rfl, ho⟩, hB⟩
  have e1 : Nt.subS (lim x) (lim y) = (lim (x - y), 0) := by
    unfold Nt.subS; rw [if_neg (by omega), val_lim, val_lim, if_neg (by omega)]
    have : ((x : Int) - (y : Int)).toNat = x - y := by omega
    rw [this]
  rw [e1] at ho ⊢
  exact ⟨r, rfl, ho.sl, hB⟩
theorem NMul {w : World} (a b : Value) (x y : Nat) (ha : Nb w a x) (hb : Nb w b y) (hx : Sm x) (hy : Sm y) :
    Calls Try.prog 82 #[a, b] w fun e w' => ∃ r, e = .returned (.tuple #[r, .int .i64 0]) ∧ Nb w' r (x * y) ∧ (lim (x * y)).length ≤ 64 ∧ Below w.heap.size w w' := by
  refine (Nt.Mul_any (lim x) (lim y) a b w ha hb (lim_u32 _) (lim_u32 _)).mono ?_
  rintro e w' ⟨⟨r, rfl, ho⟩, hB⟩
  have l1 := lim_sm hx
  have l2 := lim_sm hy
  have l3 : (lim (x * y)).length ≤ 64 := by
    refine lim_len_le ?_
    have : ((x * y : Nat) : Int) < ((4294967296 ^ 64 : Nat) : Int) := Int.ofNat_lt.2 (by
      have e : 4294967296 ^ 64 = 4294967296 ^ 32 * 4294967296 ^ 32 := by rw [← Nat.pow_add]
      rw [e]; exact Nat.mul_lt_mul'' hx hy)
    rw [Int.natCast_pow] at this
    exact this
  have e1 : Nt.mulS (lim x) (lim y) = (lim (x * y), 0) := by
    unfold Nt.mulS; rw [if_neg (by omega), val_lim, val_lim]
    have : ((x : Int) * (y : Int)).toNat = x * y := by rw [← Int.natCast_mul]; rfl
    rw [this]; unfold Nt.fit; rw [if_neg (by omega)]
  rw [e1] at ho ⊢
  exact ⟨r, rfl, ho.sl, l3, hB⟩
theorem NDivMod {w : World} (a b : Value) (x y : Nat) (ha : Nb w a x) (hb : Nb w b y) (hx : (lim x).length ≤ 512) (hy : (lim y).length ≤ 512) (h0 : 0 < y) :
    Calls Try.prog 72 #[a, b] w fun e w' => ∃ q r, e = .returned (.tuple #[q, r, .int .i64 0]) ∧ Nb w' q (x / y) ∧ Nb w' r (x % y) ∧ Below w.heap.size w w' := by
  refine (Nt.DivMod_any (lim x) (lim y) a b w ha hb (lim_u32 _) (lim_u32 _) (.inr Nt.long_ok)).mono ?_
  rintro e w' ⟨⟨q, r, rfl, hq, ho⟩, hB⟩
  have e1 : Nt.divS (lim x) (lim y) = (lim (x / y), lim (x % y), 0) := by
    unfold Nt.divS; rw [if_neg (by omega), val_lim, val_lim, if_neg (by omega)]
    have h1 : ((x : Int) / (y : Int)).toNat = x / y := by rw [← Int.natCast_ediv]; rfl
    have h2 : ((x : Int) % (y : Int)).toNat = x % y := by rw [← Int.natCast_emod]; rfl
    rw [h1, h2]
  rw [e1] at hq ho ⊢
  exact ⟨q, r, rfl, hq.sl, ho.sl, hB⟩
theorem NDivMod_l {w : World} (a b : Value) (X : List Int) (y : Nat) (ha : Sl .u32 w a X) (ux : U32s X) (hb : Nb w b y) (hx : X.length ≤ 512) (hy : (lim y).length ≤ 512) (h0 : 0 < y) :
    Calls Try.prog 72 #[a, b] w fun e w' => ∃ q r, e = .returned (.tuple #[q, r, .int .i64 0]) ∧ Nb w' r ((val X).toNat % y) ∧ Below w.heap.size w w' := by
  refine (Nt.DivMod_any X (lim y) a b w ha hb ux (lim_u32 _) (.inr Nt.long_ok)).mono ?_
  rintro e w' ⟨⟨q, r, rfl, hq, ho⟩, hB⟩
  have e1 : Nt.divS X (lim y) = (lim ((val X).toNat / y), lim ((val X).toNat % y), 0) := by
    obtain ⟨x, hx2⟩ : ∃ x : Nat, val X = x := ⟨(val X).toNat, by have := val_nonneg ux; omega⟩
    unfold Nt.divS; rw [if_neg (by omega), val_lim, hx2, if_neg (by omega)]
    have h1 : ((x : Int) / (y : Int)).toNat = x / y := by rw [← Int.natCast_ediv]; rfl
    have h2 : ((x : Int) % (y : Int)).toNat = x % y := by rw [← Int.natCast_emod]; rfl
    rw [h1, h2]; rfl
  rw [e1] at hq ho ⊢
  exact ⟨q, r, rfl, ho.sl, hB⟩
theorem NCmp {w : World} (a b : Value) (x y : Nat) (ha : Nb w a x) (hb : Nb w b y) (hx : (lim x).length ≤ 512) (hy : (lim y).length ≤ 512) (c : Int) (hc : Nt.cmpI x y = c) :
    Calls Try.prog 63 #[a, b] w fun e w' => e = .returned (.int .i64 c) ∧ Below w.heap.size w w' := by
  refine (Nt.Cmp_any (lim x) (lim y) a b w ha hb (lim_u32 _) (lim_u32 _) (by omega) (by omega)).mono ?_
  rintro e w' ⟨rfl, hB⟩
  rw [val_lim, val_lim, hc]
  exact ⟨rfl, hB⟩
end Go.Proofs.Ytkdclocjijmgpaa
/-
  Curve: sums, differences, products modulo a prime.
-/
namespace Go.Proofs.Ytkdclocjijmgpaa
open Go.RowKit
set_option maxRecDepth 20000
def fad (p x y : Nat) : Nat := (x + y) % p
def fsb (p x y : Nat) : Nat := (x + (p - y)) % p
def fml (p x y : Nat) : Nat := x * y % p
theorem fad_lt {p x y : Nat} (h : 0 < p) : fad p x y < p := Nat.mod_lt _ h
theorem fsb_lt {p x y : Nat} (h : 0 < p) : fsb p x y < p := Nat.mod_lt _ h
theorem fml_lt {p x y : Nat} (h : 0 < p) : fml p x y < p := Nat.mod_lt _ h
theorem fad_eq {p x y : Nat} (hx : x < p) (hy : y < p) : fad p x y = if p ≤ x + y then x + y - p else x + y := by
  unfold fad
  split
  · rename_i h; rw [Nat.mod_eq_sub_mod h, Nat.mod_eq_of_lt (by omega)]
  · rename_i h; rw [Nat.mod_eq_of_lt (by omega)]
theorem fsb_eq {p x y : Nat} (hx : x < p) (hy : y < p) : fsb p x y = if x < y then x + p - y else x - y := by
  unfold fsb
  split
  · rename_i h; rw [Nat.mod_eq_of_lt (by omega)]; omega
  · rename_i h; rw [Nat.mod_eq_sub_mod (by omega), Nat.mod_eq_of_lt (by omega)]; omega
/-- A prime as a field of the curve's: what is asked of it here. -/
def Fld (w : World) (f : Value) (p : Nat) : Prop := Nb w f p ∧ 0 < p ∧ p < 4294967296 ^ 12
theorem Fld.below {w w' : World} {f : Value} {p : Nat} (h : Fld w f p) (hb : Below w.heap.size w w') : Fld w' f p := ⟨h.1.below hb, h.2⟩
theorem sm_of {x p : Nat} (hp : p < 4294967296 ^ 12) (h : x < p) : Sm x := by
  have : (4294967296 : Nat) ^ 12 ≤ 4294967296 ^ 32 := Nat.pow_le_pow_right (by decide) (by decide)
  unfold Sm; omega
theorem sm_two {x y p : Nat} (hp : p < 4294967296 ^ 12) (h : x < p) (h' : y ≤ p) : Sm (x + y) := by
  have : (4294967296 : Nat) ^ 32 = 4294967296 ^ 12 * 4294967296 ^ 20 := by rw [← Nat.pow_add]
  have h2 : 2 ≤ (4294967296 : Nat) ^ 20 := by have := Nat.pow_le_pow_right (n := 4294967296) (i := 1) (j := 20) (by decide) (by decide); omega
  unfold Sm
  rw [this]
  refine Nat.lt_of_lt_of_le (m := 4294967296 ^ 12 * 2) (by omega) (Nat.mul_le_mul_left _ h2)
theorem lim512 {x : Nat} (h : Sm x) : (lim x).length ≤ 512 := by have := lim_sm h; omega
set_option maxHeartbeats 1000000 in
theorem Fplus {w : World} (f a b : Value) (p x y : Nat) (hf : Fld w f p) (ha : Nb w a x) (hb : Nb w b y) (hx : x < p) (hy : y < p) :
    Calls Try.prog 78 #[f, a, b] w fun e w' => ∃ r, e = .returned r ∧ Nb w' r (fad p x y) ∧ Below w.heap.size w w' := by
  have sx := sm_of hf.2.2 hx
  have sy := sm_of hf.2.2 hy
  have sp : Sm p := by have := sm_two (x := 0) (y := p) hf.2.2 hf.2.1 (Nat.le_refl _); simpa using this
  have sxy := sm_two hf.2.2 hx (Nat.le_of_lt hy)
  have HF : Hid (Fld w f p ∧ Nb w a x ∧ Nb w b y) := ⟨hf, ha, hb⟩
  have HS : Hid (Sm x ∧ Sm y ∧ Sm p ∧ Sm (x + y)) := ⟨sx, sy, sp, sxy⟩
  have HE : Hid (fad p x y = if p ≤ x + y then x + y - p else x + y) := fad_eq hx hy
  clear hf ha hb sx sy sp sxy hx hy
  by_cases h : p ≤ x + y
  · have HC : Hid (∃ c : Int, Nt.cmpI ((x + y : Nat) : Int) p = c ∧ decide (c ≥ 0) = true) := ⟨_, rfl, by unfold Nt.cmpI; rw [if_neg (by omega)]; split <;> decide⟩
    have HL : Hid (p ≤ x + y) := h
    clear h
    obtain ⟨c, hc, d⟩ := HC.out
    have HC2 : Hid (Nt.cmpI ((x + y : Nat) : Int) p = c) := hc
    clear hc HC
    go_enter Try.func78, Try.ntmps78
    go_wp2_with (first
      | (go_at_call 64; refine (NAdd a b x y HF.out.2.1 HF.out.2.2 HS.out.1 HS.out.2.1).mono ?_; rintro e w1 ⟨r1, rfl, hr1, hb1⟩; have H1 : Hid (Nb w1 r1 (x + y) ∧ Below w.heap.size w w1) := ⟨hr1, hb1⟩; clear hr1 hb1)
      | (go_at_call 63; refine (NCmp _ f (x + y) p H1.out.1 (HF.out.1.1.below H1.out.2) (lim512 HS.out.2.2.2) (lim512 HS.out.2.2.1) c HC2.out).mono ?_; rintro e w2 ⟨rfl, hb2⟩; have H2 : Hid (Nb w2 r1 (x + y) ∧ Below w.heap.size w w2) := ⟨H1.out.1.below hb2, below_via H1.out.2 hb2 (Nat.le_refl _)⟩; clear hb2)
      | (go_at_call 65; refine (NSub _ f (x + y) p H2.out.1 (HF.out.1.1.below H2.out.2) (lim512 HS.out.2.2.2) (lim512 HS.out.2.2.1) HL.out).mono ?_; rintro e w3 ⟨r3, rfl, hr3, hb3⟩; have H3 : Hid (Nb w3 r3 (x + y - p) ∧ Below w.heap.size w w3) := ⟨hr3, below_via H2.out.2 hb3 (Nat.le_refl _)⟩; clear hr3 hb3))
    go_ret
    exact ⟨_, rfl, by rw [HE.out, if_pos HL.out]; exact H3.out.1, H3.out.2⟩
  · have HC : Hid (∃ c : Int, Nt.cmpI ((x + y : Nat) : Int) p = c ∧ decide (c ≥ 0) = false) := ⟨_, rfl, by unfold Nt.cmpI; rw [if_pos (by omega)]; decide⟩
    have HL : Hid (¬ p ≤ x + y) := h
    clear h
    obtain ⟨c, hc, d⟩ := HC.out
    have HC2 : Hid (Nt.cmpI ((x + y : Nat) : Int) p = c) := hc
    clear hc HC
    go_enter Try.func78, Try.ntmps78
    go_wp2_with (first
      | (go_at_call 64; refine (NAdd a b x y HF.out.2.1 HF.out.2.2 HS.out.1 HS.out.2.1).mono ?_; rintro e w1 ⟨r1, rfl, hr1, hb1⟩; have H1 : Hid (Nb w1 r1 (x + y) ∧ Below w.heap.size w w1) := ⟨hr1, hb1⟩; clear hr1 hb1)
      | (go_at_call 63; refine (NCmp _ f (x + y) p H1.out.1 (HF.out.1.1.below H1.out.2) (lim512 HS.out.2.2.2) (lim512 HS.out.2.2.1) c HC2.out).mono ?_; rintro e w2 ⟨rfl, hb2⟩; have H2 : Hid (Nb w2 r1 (x + y) ∧ Below w.heap.size w w2) := ⟨H1.out.1.below hb2, below_via H1.out.2 hb2 (Nat.le_refl _)⟩; clear hb2))
    go_ret
    exact ⟨_, rfl, by rw [HE.out, if_neg HL.out]; exact H2.out.1, H2.out.2⟩
set_option maxHeartbeats 1000000 in
theorem Fminus {w : World} (f a b : Value) (p x y : Nat) (hf : Fld w f p) (ha : Nb w a x) (hb : Nb w b y) (hx : x < p) (hy : y < p) :
    Calls Try.prog 34 #[f, a, b] w fun e w' => ∃ r, e = .returned r ∧ Nb w' r (fsb p x y) ∧ Below w.heap.size w w' := by
  have sx := sm_of hf.2.2 hx
  have sy := sm_of hf.2.2 hy
  have sp : Sm p := by have := sm_two (x := 0) (y := p) hf.2.2 hf.2.1 (Nat.le_refl _); simpa using this
  have sxp := sm_two hf.2.2 hx (Nat.le_refl p)
  have HF : Hid (Fld w f p ∧ Nb w a x ∧ Nb w b y) := ⟨hf, ha, hb⟩
  have HS : Hid (Sm x ∧ Sm y ∧ Sm p ∧ Sm (x + p)) := ⟨sx, sy, sp, sxp⟩
  have HE : Hid (fsb p x y = if x < y then x + p - y else x - y) := fsb_eq hx hy
  have HY : Hid (y < p) := hy
  clear hf ha hb sx sy sp sxp hx hy
  by_cases h : x < y
  · have HC : Hid (Nt.cmpI (x : Int) y = -1) := by show Nt.cmpI _ _ = _; unfold Nt.cmpI; rw [if_pos (by omega)]
    have HL : Hid (x < y) := h
    clear h
    go_enter Try.func34, Try.ntmps34
    go_wp2_with (first
      | (go_at_call 63; refine (NCmp a b x y HF.out.2.1 HF.out.2.2 (lim512 HS.out.1) (lim512 HS.out.2.1) (-1) HC.out).mono ?_; rintro e w1 ⟨rfl, hb1⟩; have H1 : Hid (Below w.heap.size w w1) := hb1; clear hb1)
      | (go_at_call 64; refine (NAdd a f x p (HF.out.2.1.below H1.out) (HF.out.1.1.below H1.out) HS.out.1 HS.out.2.2.1).mono ?_; rintro e w2 ⟨r2, rfl, hr2, hb2⟩; have H2 : Hid (Nb w2 r2 (x + p) ∧ Below w.heap.size w w2) := ⟨hr2, below_via H1.out hb2 (Nat.le_refl _)⟩; clear hr2 hb2)
      | (go_at_call 65; refine (NSub _ b (x + p) y H2.out.1 (HF.out.2.2.below H2.out.2) (lim512 HS.out.2.2.2) (lim512 HS.out.2.1) (by have := HY.out; omega)).mono ?_; rintro e w3 ⟨r3, rfl, hr3, hb3⟩; have H3 : Hid (Nb w3 r3 (x + p - y) ∧ Below w.heap.size w w3) := ⟨hr3, below_via H2.out.2 hb3 (Nat.le_refl _)⟩; clear hr3 hb3))
    go_ret
    exact ⟨_, rfl, by rw [HE.out, if_pos HL.out]; exact H3.out.1, H3.out.2⟩
  · have HC : Hid (∃ c : Int, Nt.cmpI (x : Int) y = c ∧ decide (c < 0) = false) := ⟨_, rfl, by unfold Nt.cmpI; rw [if_neg (by omega)]; split <;> decide⟩
    have HL : Hid (¬ x < y) := h
    clear h
    obtain ⟨c, hc, d⟩ := HC.out
    have HC2 : Hid (Nt.cmpI (x : Int) y = c) := hc
    clear hc HC
    go_enter Try.func34, Try.ntmps34
    go_wp2_with (first
      | (go_at_call 63; refine (NCmp a b x y HF.out.2.1 HF.out.2.2 (lim512 HS.out.1) (lim512 HS.out.2.1) c HC2.out).mono ?_; rintro e w1 ⟨rfl, hb1⟩; have H1 : Hid (Below w.heap.size w w1) := hb1; clear hb1)
      | (go_at_call 65; refine (NSub a b x y (HF.out.2.1.below H1.out) (HF.out.2.2.below H1.out) (lim512 HS.out.1) (lim512 HS.out.2.1) (by have := HL.out; omega)).mono ?_; rintro e w3 ⟨r3, rfl, hr3, hb3⟩; have H3 : Hid (Nb w3 r3 (x - y) ∧ Below w.heap.size w w3) := ⟨hr3, below_via H1.out hb3 (Nat.le_refl _)⟩; clear hr3 hb3))
    go_ret
    exact ⟨_, rfl, by rw [HE.out, if_neg HL.out]; exact H3.out.1, H3.out.2⟩
set_option maxHeartbeats 1000000 in
theorem Ftimes {w : World} (f a b : Value) (p x y : Nat) (hf : Fld w f p) (ha : Nb w a x) (hb : Nb w b y) (hx : x < p) (hy : y < p) :
    Calls Try.prog 50 #[f, a, b] w fun e w' => ∃ r, e = .returned r ∧ Nb w' r (fml p x y) ∧ Below w.heap.size w w' := by
  have sx := sm_of hf.2.2 hx
  have sy := sm_of hf.2.2 hy
  have sp : Sm p := by have := sm_two (x := 0) (y := p) hf.2.2 hf.2.1 (Nat.le_refl _); simpa using this
  have HF : Hid (Fld w f p ∧ Nb w a x ∧ Nb w b y) := ⟨hf, ha, hb⟩
  have HS : Hid (Sm x ∧ Sm y ∧ Sm p) := ⟨sx, sy, sp⟩
  clear hf ha hb sx sy sp hx hy
  go_enter Try.func50, Try.ntmps50
  go_wp2_with (first
    | (go_at_call 82; refine (NMul a b x y HF.out.2.1 HF.out.2.2 HS.out.1 HS.out.2.1).mono ?_; rintro e w1 ⟨r1, rfl, hr1, hl1, hb1⟩; have H1 : Hid (Nb w1 r1 (x * y) ∧ (lim (x * y)).length ≤ 64 ∧ Below w.heap.size w w1) := ⟨hr1, hl1, hb1⟩; clear hr1 hb1 hl1)
    | (go_at_call 72; refine (NDivMod _ f (x * y) p H1.out.1 (HF.out.1.1.below H1.out.2.2) (by have := H1.out.2.1; omega) (lim512 HS.out.2.2) HF.out.1.2.1).mono ?_; rintro e w2 ⟨q2, r2, rfl, _, hr2, hb2⟩; have H2 : Hid (Nb w2 r2 (x * y % p) ∧ Below w.heap.size w w2) := ⟨hr2, below_via H1.out.2.2 hb2 (Nat.le_refl _)⟩; clear hr2 hb2))
  go_ret
  exact ⟨_, rfl, H2.out.1, H2.out.2⟩
theorem Fsquare {w : World} (f a : Value) (p x : Nat) (hf : Fld w f p) (ha : Nb w a x) (hx : x < p) :
    Calls Try.prog 49 #[f, a] w fun e w' => ∃ r, e = .returned r ∧ Nb w' r (fml p x x) ∧ Below w.heap.size w w' := by
  have HC := Ftimes f a a p x x hf ha ha hx hx
  clear hf ha hx
  go_enter Try.func49, Try.ntmps49
  go_wp2_with (go_at_call 50; refine HC.mono ?_; rintro e w1 ⟨r1, rfl, hr1, hb1⟩)
  go_ret
  exact ⟨_, rfl, hr1, hb1⟩
theorem Ftwice {w : World} (f a : Value) (p x : Nat) (hf : Fld w f p) (ha : Nb w a x) (hx : x < p) :
    Calls Try.prog 83 #[f, a] w fun e w' => ∃ r, e = .returned r ∧ Nb w' r (fad p x x) ∧ Below w.heap.size w w' := by
  have HC := Fplus f a a p x x hf ha ha hx hx
  clear hf ha hx
  go_enter Try.func83, Try.ntmps83
  go_wp2_with (go_at_call 78; refine HC.mono ?_; rintro e w1 ⟨r1, rfl, hr1, hb1⟩)
  go_ret
  exact ⟨_, rfl, hr1, hb1⟩
theorem Fthrice {w : World} (f a : Value) (p x : Nat) (hf : Fld w f p) (ha : Nb w a x) (hx : x < p) :
    Calls Try.prog 79 #[f, a] w fun e w' => ∃ r, e = .returned r ∧ Nb w' r (fad p (fad p x x) x) ∧ Below w.heap.size w w' := by
  have HF : Hid (Fld w f p ∧ Nb w a x ∧ x < p) := ⟨hf, ha, hx⟩
  clear hf ha hx
  go_enter Try.func79, Try.ntmps79
  go_wp2_with (first
    | (go_at_call 83; refine (Ftwice f a p x HF.out.1 HF.out.2.1 HF.out.2.2).mono ?_; rintro e w1 ⟨r1, rfl, hr1, hb1⟩; have H1 : Hid (Nb w1 r1 (fad p x x) ∧ Below w.heap.size w w1) := ⟨hr1, hb1⟩; clear hr1 hb1)
    | (go_at_call 78; refine (Fplus f _ a p (fad p x x) x (HF.out.1.below H1.out.2) H1.out.1 (HF.out.2.1.below H1.out.2) (fad_lt HF.out.1.2.1) HF.out.2.2).mono ?_; rintro e w2 ⟨r2, rfl, hr2, hb2⟩; have H2 : Hid (Below w.heap.size w w2) := below_via H1.out.2 hb2 (Nat.le_refl _); clear hb2))
  go_ret
  exact ⟨_, rfl, hr2, H2.out⟩
end Go.Proofs.Ytkdclocjijmgpaa
