/-
  A region that draws its order, and whose values do not hang on it: each operation is walked once, the frame is known.
-/
import Derived.Deep.MidRow
import Derived.Test.YtkdclocjijmgpaaK15
namespace Go.Proofs.Ytkdclocjijmgpaa
open Go.RowKit
section
variable {P : Program} {ops : Array Oper} {Q : Exit → Act → World → Prop}
def dstOf (ops : Array Oper) (k : Nat) : Option Tmp := (ops[k]?).bind (·.dst)
/-- The slots, those of the listed operations set. -/
def frT (ops : Array Oper) (V : Nat → Value) (L : Array Bool) (t0 : Array Value) : Nat → Array Value
  | 0 => t0
  | i + 1 => if L.getD i false = true then (match dstOf ops i with
    | some d => (frT ops V L t0 i).setIfInBounds d (V i)
    | none => frT ops V L t0 i) else frT ops V L t0 i
/-- All of them. -/
def frF (ops : Array Oper) (V : Nat → Value) (t0 : Array Value) : Nat → Array Value
  | 0 => t0
  | i + 1 => match dstOf ops i with
    | some d => (frF ops V t0 i).setIfInBounds d (V i)
    | none => frF ops V t0 i
/-- No two operations have one slot; every slot is there. -/
def dstB (ops : Array Oper) (n : Nat) : Bool := (List.range ops.size).all fun i => (match dstOf ops i with
  | some d => decide (d < n) && ((List.range i).all fun j => dstOf ops j != some d)
  | none => true)
theorem dstB_lt {n k d : Nat} (h : dstB ops n = true) (hk : k < ops.size) (hd : dstOf ops k = some d) : d < n ∧ ∀ j, j < k → dstOf ops j ≠ some d := by
  have h1 := List.all_eq_true.1 h k (List.mem_range.2 hk)
  rw [hd] at h1
  simp only [Bool.and_eq_true, decide_eq_true_eq] at h1
  refine ⟨h1.1, fun j hj he => ?_⟩
  have h2 := List.all_eq_true.1 h1.2 j (List.mem_range.2 hj)
  simp [he] at h2
theorem dstB_ne {n k l d : Nat} (h : dstB ops n = true) (hk : k < ops.size) (hl : l < ops.size) (hne : k ≠ l) (hd : dstOf ops k = some d) : dstOf ops l ≠ some d := by
  rcases Nat.lt_or_gt_of_ne hne with g | g
  · intro he; exact (dstB_lt h hl he).2 k g hd
  · exact (dstB_lt h hk hd).2 l g
theorem frT_size (V : Nat → Value) (L : Array Bool) (t0 : Array Value) (n : Nat) : (frT ops V L t0 n).size = t0.size := by
  induction n with
  | zero => rfl
  | succ n ih =>
    unfold frT
    split
    · split
      · rw [Array.size_setIfInBounds, ih]
      · exact ih
    · exact ih
theorem getD_set_ne' {t : Array Value} {i j : Nat} {v : Value} (h : i ≠ j) : (t.setIfInBounds i v).getD j undef = t.getD j undef := by
  simp [Array.getD_eq_getD_getElem?, h]
theorem frT_free {V : Nat → Value} {L : Array Bool} {t0 : Array Value} {n t : Nat} (h : ∀ k, k < n → dstOf ops k ≠ some t) : (frT ops V L t0 n).getD t undef = t0.getD t undef := by
  induction n with
  | zero => rfl
  | succ n ih =>
    have ih := ih fun k hk => h k (by omega)
    unfold frT
    split
    · split
      · rename_i d hd
        rw [getD_set_ne' (fun e => h n (by omega) (by rw [hd, e]))]
        exact ih
      · exact ih
    · exact ih
theorem frT_dst {V : Nat → Value} {L : Array Bool} {t0 : Array Value} {n k d : Nat} (hB : dstB ops t0.size = true) (hn : n ≤ ops.size) (hk : k < n) (hu : Up L k) (hd : dstOf ops k = some d) : (frT ops V L t0 n).getD d undef = V k := by
  induction n with
  | zero => omega
  | succ n ih =>
    unfold frT
    by_cases e : k = n
    · subst e
      rw [if_pos (show L.getD k false = true from hu), hd]
      have := (dstB_lt hB (by omega) hd).1
      simp [Array.getD_eq_getD_getElem?, frT_size, this]
    · have ih := ih (by omega) (by omega)
      split
      · split
        · rename_i d' hd'
          rw [getD_set_ne' (fun e' => dstB_ne hB (by omega) (by omega) e hd (by rw [hd', e']))]
          exact ih
        · exact ih
      · exact ih
theorem frT_congr {V V' : Nat → Value} {L L' : Array Bool} {t0 : Array Value} {n : Nat} (h : ∀ k, k < n → L'.getD k false = L.getD k false ∧ (Up L k → V' k = V k)) : frT ops V L t0 n = frT ops V' L' t0 n := by
  induction n with
  | zero => rfl
  | succ n ih =>
    have ih := ih fun k hk => h k (by omega)
    have hn := h n (by omega)
    unfold frT
    rw [hn.1]
    split
    · rename_i hu
      rw [ih, hn.2 hu]
    · exact ih
theorem getD_setB {L : Array Bool} {i k : Nat} (h : k ≠ i) : (L.setIfInBounds i true).getD k false = L.getD k false := by
  simp [Array.getD_eq_getD_getElem?, Ne.symm h]
theorem frT_put {V V' : Nat → Value} {L : Array Bool} {t0 : Array Value} {n i : Nat} (hB : dstB ops t0.size = true) (hn : n ≤ ops.size) (hi : i < n) (hno : ¬ Up L i) (hL : i < L.size) (hV : ∀ k, k ≠ i → Up L k → V' k = V k) :
    (match dstOf ops i with
    | some d => (frT ops V L t0 n).setIfInBounds d (V' i)
    | none => frT ops V L t0 n) = frT ops V' (L.setIfInBounds i true) t0 n := by
  have hup : (L.setIfInBounds i true).getD i false = true := by simp [Array.getD_eq_getD_getElem?, hL]
  induction n with
  | zero => omega
  | succ n ih =>
    by_cases e : i = n
    · subst e
      have hc : frT ops V L t0 i = frT ops V' (L.setIfInBounds i true) t0 i := frT_congr fun k hk => ⟨getD_setB (by omega), hV k (by omega)⟩
      have e1 : frT ops V L t0 (i + 1) = frT ops V L t0 i := by
        show (if L.getD i false = true then _ else _) = _
        rw [if_neg (show ¬ L.getD i false = true from hno)]
      have e2 : frT ops V' (L.setIfInBounds i true) t0 (i + 1) = match dstOf ops i with
          | some d => (frT ops V' (L.setIfInBounds i true) t0 i).setIfInBounds d (V' i)
          | none => frT ops V' (L.setIfInBounds i true) t0 i := by
        show (if (L.setIfInBounds i true).getD i false = true then _ else _) = _
        rw [if_pos hup]
      rw [e1, e2, hc]
    · have ih := ih (by omega) (by omega)
      have eL : (L.setIfInBounds i true).getD n false = L.getD n false := getD_setB (Ne.symm e)
      by_cases hu : L.getD n false = true
      · have e1 : frT ops V L t0 (n + 1) = match dstOf ops n with
            | some d => (frT ops V L t0 n).setIfInBounds d (V n)
            | none => frT ops V L t0 n := by
          show (if L.getD n false = true then _ else _) = _
          rw [if_pos hu]
        have e2 : frT ops V' (L.setIfInBounds i true) t0 (n + 1) = match dstOf ops n with
            | some d => (frT ops V' (L.setIfInBounds i true) t0 n).setIfInBounds d (V' n)
            | none => frT ops V' (L.setIfInBounds i true) t0 n := by
          show (if (L.setIfInBounds i true).getD n false = true then _ else _) = _
          rw [eL, if_pos hu]
        rw [e1, e2, ← ih, hV n (Ne.symm e) hu]
        cases hdi : dstOf ops i with
        | none => rfl
        | some di =>
          cases hdn : dstOf ops n with
          | none => rfl
          | some dn =>
            have hne : dn ≠ di := fun h => dstB_ne hB (by omega) (by omega) e hdi (by rw [hdn, h])
            simp only []
            exact Array.setIfInBounds_comm _ _ hne
      · have e1 : frT ops V L t0 (n + 1) = frT ops V L t0 n := by
          show (if L.getD n false = true then _ else _) = _
          rw [if_neg hu]
        have e2 : frT ops V' (L.setIfInBounds i true) t0 (n + 1) = frT ops V' (L.setIfInBounds i true) t0 n := by
          show (if (L.setIfInBounds i true).getD n false = true then _ else _) = _
          rw [eL, if_neg hu]
        rw [e1, e2, ← ih]
theorem frT_all {V : Nat → Value} {L : Array Bool} {t0 : Array Value} {n : Nat} (h : ∀ k, k < n → Up L k) : frT ops V L t0 n = frF ops V t0 n := by
  induction n with
  | zero => rfl
  | succ n ih =>
    have ih := ih fun k hk => h k (by omega)
    unfold frT frF
    rw [if_pos (show L.getD n false = true from h n (by omega)), ih]
/-- What is owed of one operation. -/
def DetOp {β : Type} (P : Program) (ops : Array Oper) (Q : Exit → Act → World → Prop) (V : β → Nat → Value) (S : β → Array Bool → World → Prop) (i : Nat) (b : β) (L : Array Bool) (a : Act) (W : World) : Prop :=
  wpOp P ops Q i (fun a' w' => ∃ b', (∀ k, k ≠ i → Up L k → V b' k = V b k) ∧ a' = a.put (dstOf ops i) (V b' i) ∧ S b' (L.setIfInBounds i true) w') a W
/-- In the order of the text, by an invariant. -/
theorem wpOps_inv (I : Array Bool → Act → World → Prop) (hB : backB .any ops ops.size = true)
    (done : ∀ (listed : Array Bool) (a : Act) (w : World), (∀ k, k < ops.size → Up listed k) → I listed a w → Q .normal a w)
    (step : ∀ (i : Nat) (listed : Array Bool) (a : Act) (w : World), i < ops.size → ¬ Up listed i → (∀ k ∈ depL .any ops i, Up listed k) → I listed a w → wpOp P ops Q i (fun a' w' => I (listed.setIfInBounds i true) a' w') a w) :
    ∀ (m k : Nat) (listed : Array Bool) (a : Act) (w : World), k + m = ops.size → listed.size = ops.size → (∀ j, j < k → Up listed j) → (∀ j, k ≤ j → ¬ Up listed j) → I listed a w → wpOps P ops Q (List.range' k m) a w := by
  intro m
  induction m with
  | zero =>
    intro k listed a w hk hsz h1 h2 hI
    show Q .normal a w
    exact done listed a w (fun j hj => h1 j (by omega)) hI
  | succ m ih =>
    intro k listed a w hk hsz h1 h2 hI
    rw [List.range'_succ, wpOps_cons]
    have hkl : k < ops.size := by omega
    refine wpOp_mono ?_ (step k listed a w hkl (h2 k (Nat.le_refl _)) ?_ hI)
    · intro a' w' h
      refine ih (k + 1) _ a' w' (by omega) (by simp [hsz]) ?_ ?_ h
      · intro j hj
        by_cases e : j = k
        · subst e; unfold Up; simp [Array.getD_eq_getD_getElem?, hsz, hkl]
        · unfold Up; rw [getD_setB e]; exact h1 j (by omega)
      · intro j hj
        unfold Up; rw [getD_setB (by omega)]; exact h2 j (by omega)
    · intro j hj
      refine h1 j ?_
      have ho : ops[k]? = some ops[k] := Array.getElem?_eq_getElem hkl
      unfold depL at hj
      rw [ho] at hj
      simp only [Option.map_some, Option.getD_some, List.mem_map, List.mem_filter] at hj
      obtain ⟨e, ⟨he, hb⟩, rfl⟩ := hj
      have g1 := List.all_eq_true.1 hB k (by simpa using hkl)
      simp only [ho, Option.map_some, Option.getD_some] at g1
      have g2 := Array.all_eq_true_iff_forall_mem.1 g1 e (by simpa using he)
      simp only [hb, Bool.not_true, Bool.false_or, decide_eq_true_eq] at g2
      exact g2
/-- The steps and the end of a region whose values are known. -/
def DetSteps {β : Type} (P : Program) (ops : Array Oper) (Q : Exit → Act → World → Prop) (V : β → Nat → Value) (S : β → Array Bool → World → Prop) (a0 : Act) : Prop :=
  ∀ i b L W (a : Act), i < ops.size → ¬ Up L i → (∀ k, k < ops.size → k < L.size) → (∀ k ∈ depL .any ops i, Up L k) → (∀ k d, k < ops.size → Up L k → dstOf ops k = some d → a.eval (.tmp d) = V b k) → (∀ t, ((List.range ops.size).all fun k => dstOf ops k != some t) = true → a.eval (.tmp t) = a0.eval (.tmp t)) → S b L W → DetOp P ops Q V S i b L a W
theorem det_start (V : Nat → Value) (t0 : Array Value) (m n : Nat) : frT ops V (Array.replicate m false) t0 n = t0 := by
  induction n with
  | zero => rfl
  | succ n ih =>
    unfold frT
    rw [if_neg (show ¬ (Array.replicate m false).getD n false = true from not_up_new (n := m) (k := n))]
    exact ih
theorem det_step {β : Type} {V : β → Nat → Value} {S : β → Array Bool → World → Prop} {a0 : Act} (hD : dstB ops a0.tmps.size = true) (step : DetSteps P ops Q V S a0) (i : Nat) (L : Array Bool) (a : Act) (W : World) (hi : i < ops.size) (hno : ¬ Up L i) (hdep : ∀ k ∈ depL .any ops i, Up L k) (hI : L.size = ops.size ∧ ∃ b, a = ⟨frT ops (V b) L a0.tmps ops.size, a0.defers⟩ ∧ S b L W) :
    wpOp P ops Q i (fun a' w' => (L.setIfInBounds i true).size = ops.size ∧ ∃ b, a' = ⟨frT ops (V b) (L.setIfInBounds i true) a0.tmps ops.size, a0.defers⟩ ∧ S b (L.setIfInBounds i true) w') a W := by
  obtain ⟨hsz, b, rfl, hS⟩ := hI
  have h := step i b L W ⟨frT ops (V b) L a0.tmps ops.size, a0.defers⟩ hi hno (fun k hk => by omega) hdep (fun k d hk hu hd => frT_dst hD (Nat.le_refl _) hk hu hd) (fun t ht => frT_free fun k hk he => by
    have := List.all_eq_true.1 ht k (List.mem_range.2 hk)
    simp [he] at this) hS
  refine wpOp_mono ?_ h
  rintro a' w' ⟨b', hV, rfl, hS'⟩
  refine ⟨by simp [hsz], b', ?_, hS'⟩
  have := frT_put (V := V b) (V' := V b') (t0 := a0.tmps) hD (Nat.le_refl _) hi hno (by omega) hV
  rw [← this]
  unfold Act.put
  cases dstOf ops i <;> rfl
theorem wp_region_det {β : Type} (V : β → Nat → Value) (S : β → Array Bool → World → Prop) (b0 : β) {id : Nat} {a0 : Act} {w : World} (hm : P.follows .mixedOrders = true) (hB : backB .any ops ops.size = true) (hD : dstB ops a0.tmps.size = true)
    (start : S b0 (Array.replicate ops.size false) w.drew)
    (done : ∀ b L W, (∀ k, k < ops.size → Up L k) → S b L W → Q .normal ⟨frF ops (V b) a0.tmps ops.size, a0.defers⟩ W) (step : DetSteps P ops Q V S a0) :
    (Code.region id ops true).wp P Q a0 w := by
  refine wp_region_inv (fun L a W => L.size = ops.size ∧ ∃ b, a = ⟨frT ops (V b) L a0.tmps ops.size, a0.defers⟩ ∧ S b L W) hm hB ?_ ?_ (det_step hD step)
  · exact ⟨by simp, b0, by rw [det_start], start⟩
  · rintro L a W hup ⟨_, b, rfl, hS⟩
    rw [frT_all hup]
    exact done b L W hup hS
theorem wp_region_seq {β : Type} (V : β → Nat → Value) (S : β → Array Bool → World → Prop) (b0 : β) {id : Nat} {a0 : Act} {w : World} (hB : backB .any ops ops.size = true) (hD : dstB ops a0.tmps.size = true)
    (start : S b0 (Array.replicate ops.size false) w)
    (done : ∀ b L W, (∀ k, k < ops.size → Up L k) → S b L W → Q .normal ⟨frF ops (V b) a0.tmps ops.size, a0.defers⟩ W) (step : DetSteps P ops Q V S a0) :
    (Code.region id ops false).wp P Q a0 w := by
  refine wp_region ?_
  rw [List.range_eq_range']
  refine wpOps_inv (fun L a W => L.size = ops.size ∧ ∃ b, a = ⟨frT ops (V b) L a0.tmps ops.size, a0.defers⟩ ∧ S b L W) hB ?_ (det_step hD step) ops.size 0 (Array.replicate ops.size false) a0 w (by omega) (by simp) (fun j hj => by omega) (fun j _ => not_up_new) ⟨by simp, b0, by rw [det_start], start⟩
  rintro L a W hup ⟨_, b, rfl, hS⟩
  rw [frT_all hup]
  exact done b L W hup hS
/-- The same, the frame behind it told by its slots alone. fl: does it draw? -/
theorem wp_region_o {β : Type} (V : β → Nat → Value) (S : β → Array Bool → World → Prop) (b0 : β) (fl : Bool) {id : Nat} {a0 : Act} {w : World} {m : Nat} (hsz : a0.tmps.size = m) (hm : P.follows .mixedOrders = true) (hB : backB .any ops ops.size = true) (hD : dstB ops m = true)
    (start : S b0 (Array.replicate ops.size false) (if fl = true then w.drew else w)) (step : DetSteps P ops Q V S a0)
    (done : ∀ b L W (a : Act), (∀ k, k < ops.size → Up L k) → S b L W → a.tmps.size = m → a.defers = a0.defers → (∀ k d, k < ops.size → dstOf ops k = some d → a.eval (.tmp d) = V b k) → (∀ t, ((List.range ops.size).all fun k => dstOf ops k != some t) = true → a.eval (.tmp t) = a0.eval (.tmp t)) → Q .normal a W) :
    (Code.region id ops fl).wp P Q a0 w := by
  subst hsz
  have fin : ∀ b L W, (∀ k, k < ops.size → Up L k) → S b L W → Q .normal ⟨frF ops (V b) a0.tmps ops.size, a0.defers⟩ W := by
    intro b L W hup hS
    rw [← frT_all hup]
    refine done b L W ⟨frT ops (V b) L a0.tmps ops.size, a0.defers⟩ hup hS (frT_size _ _ _ _) rfl (fun k d hk hd => frT_dst hD (Nat.le_refl _) hk (hup k hk) hd) (fun t ht => frT_free fun k hk he => ?_)
    have := List.all_eq_true.1 ht k (List.mem_range.2 hk)
    simp [he] at this
  cases fl with
  | true => exact wp_region_det V S b0 hm hB hD start fin step
  | false => exact wp_region_seq V S b0 hB hD start fin step
theorem det_op {i : Nat} {o : Oper} {K0 : Act → World → Prop} {a : Act} {W : World} (ho : ops[i]? = some o) (hg : o.guard = none) (h : o.wp P a W K0 Q) : wpOp P ops Q i K0 a W := by
  unfold wpOp
  rw [ho]
  show if Region.wanted o (yielded ops a.tmps) = true then _ else _
  have : Region.wanted o (yielded ops a.tmps) = true := by unfold Region.wanted; rw [hg]
  rw [if_pos this]
  exact .inl h
theorem put_dst {i : Nat} {o : Oper} {a : Act} {v : Value} (ho : ops[i]? = some o) : a.put o.dst v = a.put (dstOf ops i) v := by
  unfold dstOf
  rw [ho]
  rfl
variable {β : Type} {V : β → Nat → Value} {S : β → Array Bool → World → Prop} {i : Nat} {b : β} {L : Array Bool} {a : Act} {W : World}
/-- A load of many cells. -/
theorem det_load {o : Oper} (ho : ops[i]? = some o) (hg : o.guard = none) {ty : TypeId} {x : Operand} (hop : o.op = .load ty x) {bl off : Nat} (hx : a.eval x = .pointer (some ⟨bl, off, none⟩)) {cs : List Value} {d : TypeDesc} (hc : W.rangeAt bl off cs)
    (hu : P.underlying ty = some d) (hd : d.isRow = true) (hi : (P.info? ty).map (·.size) = some cs.length) (hv : V b i = .agg cs.toArray) (hS : S b (L.setIfInBounds i true) W) : DetOp P ops Q V S i b L a W :=
  det_op ho hg (wp_load_mid ty x hop bl off hx cs d hc hu hd hi ⟨b, fun _ _ _ => rfl, by rw [put_dst ho, hv], hS⟩)
/-- A value that hangs on no memory. -/
theorem det_val {o : Oper} (ho : ops[i]? = some o) (hg : o.guard = none) (hr : (execOp a.eval o).run P W = .ok (.value (V b i)) W) (hS : S b (L.setIfInBounds i true) W) : DetOp P ops Q V S i b L a W :=
  det_op ho hg (by
    unfold Oper.wp
    rw [hr]
    exact ⟨b, fun _ _ _ => rfl, put_dst ho, hS⟩)
/-- A call whose answer is known. -/
theorem det_call {o : Oper} (ho : ops[i]? = some o) (hg : o.guard = none) {f : FuncId} {vs : Array Value} (hr : (execOp a.eval o).run P W = .ok (.enter f vs) W) {R : World → Prop} (hc : Calls P f vs W fun e w' => e = .returned (V b i) ∧ R w') (hS : ∀ w', R w' → S b (L.setIfInBounds i true) w') : DetOp P ops Q V S i b L a W :=
  det_op ho hg (by
    unfold Oper.wp
    rw [hr]
    refine hc.mono ?_
    rintro e w' ⟨rfl, h⟩
    exact ⟨b, fun _ _ _ => rfl, put_dst ho, hS w' h⟩)
/-- A store of many cells. -/
theorem det_store {o : Oper} (ho : ops[i]? = some o) (hg : o.guard = none) (hdn : o.dst = none) {ty : TypeId} {x y : Operand} (hop : o.op = .store ty x y) {bl off : Nat} {cells : Array Value} (hx : a.eval x = .pointer (some ⟨bl, off, none⟩)) (hy : a.eval y = .agg cells)
    (ht : W.there bl off cells.size) (hi : (P.info? ty).map (·.size) = some cells.size) (h1 : cells.all (·.oneCell') = true) (hS : S b (L.setIfInBounds i true) (W.setCells bl off cells.toList)) : DetOp P ops Q V S i b L a W :=
  det_op ho hg (wp_store_mid ty x y hop bl off cells hx hy ht hi h1 ⟨b, fun _ _ _ => rfl, by
    have : dstOf ops i = none := by unfold dstOf; rw [ho]; exact hdn
    rw [this, hdn]
    rfl, hS⟩)
/-- New memory. -/
theorem det_alloc (b' : β) {o : Oper} (ho : ops[i]? = some o) (hg : o.guard = none) {ob : Obj} (hr : (execOp a.eval o).run P W = .ok (.value (.pointer (some ⟨W.heap.size, 0, none⟩))) (W.alloc ob)) (hV : ∀ k, k ≠ i → V b' k = V b k) (hv : V b' i = .pointer (some ⟨W.heap.size, 0, none⟩)) (hS : S b' (L.setIfInBounds i true) (W.alloc ob)) : DetOp P ops Q V S i b L a W :=
  det_op ho hg (by
    unfold Oper.wp
    rw [hr]
    exact ⟨b', fun k hk _ => hV k hk, by rw [hv]; exact put_dst ho, hS⟩)
end
/-- A load under a guard that lets it by. -/
theorem wpList_load_midG {P : Program} {ops : Array Oper} {rest : List Oper} {op : Oper} {a : Act} {w : World} {Q : Exit → Act → World → Prop} (hw : Region.wanted op (yielded ops a.tmps) = true) (ty : TypeId) (x : Operand) (ho : op.op = .load ty x)
    (b o : Nat) (hx : a.eval x = .pointer (some ⟨b, o, none⟩)) (cs : List Value) (d : TypeDesc) (hc : w.rangeAt b o cs)
    (hu : P.underlying ty = some d) (hd : d.isRow = true) (hi : (P.info? ty).map (·.size) = some cs.length)
    (h : wpList P ops Q rest (a.put op.dst (.agg cs.toArray)) w) : wpList P ops Q (op :: rest) a w := by
  show if Region.wanted op (yielded ops a.tmps) = true then _ else _
  rw [if_pos hw]
  exact .inl (wp_load_mid ty x ho b o hx cs d hc hu hd hi h)
/-- A new block is made and filled: what holds on the way. iA: alloc, iS: store. -/
def SA (w0 : World) (T : TypeId) (zero cells : List Value) (iA iS : Nat) (b : Nat) (L : Array Bool) (W : World) : Prop :=
  Below w0.heap.size w0 W ∧ (Up L iA → w0.heap.size ≤ b ∧ (¬ Up L iS → Blk T W b zero) ∧ (Up L iS → Blk T W b cells)) ∧ (Up L iS → Up L iA)
theorem SA.keep {w0 : World} {T : TypeId} {zero cells : List Value} {iA iS b : Nat} {L : Array Bool} {W W' : World} (h : SA w0 T zero cells iA iS b L W) {i : Nat} (hA : i ≠ iA) (hS : i ≠ iS) (hb : Below W.heap.size W W') : SA w0 T zero cells iA iS b (L.setIfInBounds i true) W' := by
  obtain ⟨h1, h2, h3⟩ := h
  have uA : Up (L.setIfInBounds i true) iA ↔ Up L iA := by unfold Up; rw [getD_setB (Ne.symm hA)]
  have uS : Up (L.setIfInBounds i true) iS ↔ Up L iS := by unfold Up; rw [getD_setB (Ne.symm hS)]
  refine ⟨below_via h1 hb (Nat.le_refl _), fun u => ?_, fun u => uA.2 (h3 (uS.1 u))⟩
  obtain ⟨g1, g2, g3⟩ := h2 (uA.1 u)
  exact ⟨g1, fun n => below_blk hb (g2 fun x => n (uS.2 x)).lt (g2 fun x => n (uS.2 x)), fun n => below_blk hb (g3 (uS.1 n)).lt (g3 (uS.1 n))⟩
theorem SA.alloc {w0 : World} {T : TypeId} {zero cells : List Value} {iA iS b : Nat} {L : Array Bool} {W : World} (h : SA w0 T zero cells iA iS b L W) (hno : ¬ Up L iA) (hne : iA ≠ iS) : SA w0 T zero cells iA iS W.heap.size (L.setIfInBounds iA true) (W.alloc (.cells zero.toArray T)) := by
  obtain ⟨h1, h2, h3⟩ := h
  have uS : Up (L.setIfInBounds iA true) iS ↔ Up L iS := by unfold Up; rw [getD_setB (Ne.symm hne)]
  exact ⟨below_via h1 (al1 _) (Nat.le_refl _), fun _ => ⟨h1.size, fun _ => Blk.new _ _ _, fun u => absurd (h3 (uS.1 u)) hno⟩, fun u => absurd (h3 (uS.1 u)) hno⟩
theorem SA.store {w0 : World} {T : TypeId} {zero cells : List Value} {iA iS b : Nat} {L : Array Bool} {W : World} (h : SA w0 T zero cells iA iS b L W) (hA : Up L iA) (hno : ¬ Up L iS) (hne : iA ≠ iS) (hl : iS < L.size) (hz : cells.length = zero.length) : SA w0 T zero cells iA iS b (L.setIfInBounds iS true) (W.setCells b 0 cells) := by
  obtain ⟨h1, h2, h3⟩ := h
  obtain ⟨g1, g2, g3⟩ := h2 hA
  have hB := g2 hno
  have uA : Up (L.setIfInBounds iS true) iA := by unfold Up; rw [getD_setB hne]; exact hA
  have hU : Upd W (W.setCells b 0 cells) b := Upd.setCells _ 0 W
  exact ⟨hU.below h1 h1.size g1, fun _ => ⟨g1, fun n => absurd (by unfold Up; simp [Array.getD_eq_getD_getElem?, hl]) n, fun _ => hB.fill cells hz⟩, fun _ => uA⟩
/-- Another block turned. -/
theorem SA.upd {w0 : World} {T : TypeId} {zero cells : List Value} {iA iS b : Nat} {L : Array Bool} {W W' : World} (h : SA w0 T zero cells iA iS b L W) {i b2 : Nat} (hA : i ≠ iA) (hS : i ≠ iS) (hU : Upd W W' b2) (hne : Up L iA → b ≠ b2) (hl : w0.heap.size ≤ b2) : SA w0 T zero cells iA iS b (L.setIfInBounds i true) W' := by
  obtain ⟨h1, h2, h3⟩ := h
  have uA : Up (L.setIfInBounds i true) iA ↔ Up L iA := by unfold Up; rw [getD_setB (Ne.symm hA)]
  have uS : Up (L.setIfInBounds i true) iS ↔ Up L iS := by unfold Up; rw [getD_setB (Ne.symm hS)]
  refine ⟨hU.below h1 h1.size hl, fun u => ?_, fun u => uA.2 (h3 (uS.1 u))⟩
  obtain ⟨g1, g2, g3⟩ := h2 (uA.1 u)
  exact ⟨g1, fun n => hU.blk (g2 fun x => n (uS.2 x)) (hne (uA.1 u)), fun n => hU.blk (g3 (uS.1 n)) (hne (uA.1 u))⟩
/-- A block that is there is filled anew, behind all else (n operations). -/
def SB (w0 : World) (T : TypeId) (bs : Nat) (old new : List Value) (iS n : Nat) (_ : Unit) (L : Array Bool) (W : World) : Prop :=
  Upd w0 W bs ∧ bs < w0.heap.size ∧ (¬ Up L iS → Below w0.heap.size w0 W ∧ Blk T W bs old) ∧ (Up L iS → Blk T W bs new ∧ ∀ k, k < n → Up L k)
theorem SB.not {w0 : World} {T : TypeId} {bs : Nat} {old new : List Value} {iS n : Nat} {b : Unit} {L : Array Bool} {W : World} (h : SB w0 T bs old new iS n b L W) {i : Nat} (hi : i < n) (hno : ¬ Up L i) : Below w0.heap.size w0 W ∧ Blk T W bs old := h.2.2.1 fun u => hno ((h.2.2.2 u).2 i hi)
theorem SB.keep {w0 : World} {T : TypeId} {bs : Nat} {old new : List Value} {iS n : Nat} {b : Unit} {L : Array Bool} {W W' : World} (h : SB w0 T bs old new iS n b L W) {i : Nat} (hi : i < n) (hno : ¬ Up L i) (hS : i ≠ iS) (hb : Below W.heap.size W W') : SB w0 T bs old new iS n b (L.setIfInBounds i true) W' := by
  have hn := h.not hi hno
  have uS : Up (L.setIfInBounds i true) iS ↔ Up L iS := by unfold Up; rw [getD_setB (Ne.symm hS)]
  have nS : ¬ Up L iS := fun u => hno ((h.2.2.2 u).2 i hi)
  have hbl := below_via hn.1 hb (Nat.le_refl _)
  refine ⟨h.1.trans ⟨hb.os, hb.tape, hb.output, hb.size, fun j hj _ => hb.block j hj⟩, h.2.1, fun _ => ⟨hbl, below_blk hb hn.2.lt hn.2⟩, fun u => absurd (uS.1 u) nS⟩
theorem SB.store {w0 : World} {T : TypeId} {bs : Nat} {old new : List Value} {iS n : Nat} {b : Unit} {L : Array Bool} {W : World} (h : SB w0 T bs old new iS n b L W) (hno : ¬ Up L iS) (hl : iS < L.size) (hall : ∀ k, k < n → k ≠ iS → Up L k) (hz : new.length = old.length) : SB w0 T bs old new iS n b (L.setIfInBounds iS true) (W.setCells bs 0 new) := by
  have hn := h.2.2.1 hno
  have hU : Upd W (W.setCells bs 0 new) bs := Upd.setCells _ 0 W
  have u : Up (L.setIfInBounds iS true) iS := by unfold Up; simp [Array.getD_eq_getD_getElem?, hl]
  refine ⟨h.1.trans hU, h.2.1, fun x => absurd u x, fun _ => ⟨hn.2.fill new hz, fun k hk => ?_⟩⟩
  by_cases e : k = iS
  · rw [e]; exact u
  · unfold Up; rw [getD_setB e]; exact hall k hk e
end Go.Proofs.Ytkdclocjijmgpaa
/-
  The reference's field: add.
-/
namespace Go.Proofs.Ytkdclocjijmgpaa
open Go.RowKit
set_option maxRecDepth 20000
theorem five {w : World} (c0 c1 c2 c3 c4 : List Value) (T0 T1 T2 T3 T4 : TypeId) : Bks w (((((w.alloc (.cells c0.toArray T0)).alloc (.cells c1.toArray T1)).alloc (.cells c2.toArray T2)).alloc (.cells c3.toArray T3)).alloc (.cells c4.toArray T4)) [(T0, c0), (T1, c1), (T2, c2), (T3, c3), (T4, c4)] := by
  have h0 := (Bks.nil w).push (by simp) T0 c0
  have h1 := h0.1.push h0.2 T1 c1
  have h2 := h1.1.push h1.2 T2 c2
  have h3 := h2.1.push h2.2 T3 c3
  exact (h3.1.push h3.2 T4 c4).1
theorem four {w : World} (c0 c1 c2 c3 : List Value) (T0 T1 T2 T3 : TypeId) : Bks w ((((w.alloc (.cells c0.toArray T0)).alloc (.cells c1.toArray T1)).alloc (.cells c2.toArray T2)).alloc (.cells c3.toArray T3)) [(T0, c0), (T1, c1), (T2, c2), (T3, c3)] := by
  have h0 := (Bks.nil w).push (by simp) T0 c0
  have h1 := h0.1.push h0.2 T1 c1
  have h2 := h1.1.push h1.2 T2 c2
  exact (h2.1.push h2.2 T3 c3).1
set_option maxHeartbeats 2000000 in
theorem radd_any {w : World} (n : Nat) (P A B : List Int) (dP : Dg P) (dA : Dg A) (dB : Dg B) (hP : val P < 4294967296 ^ 12) (hA : val A < val P) (hB : val B < val P) :
    Calls Try.prog 61 #[.agg (fdC n P).toArray, dgA A, dgA B] w fun e w' => ∃ Z, e = .returned (dgA Z) ∧ Dg Z ∧ val Z = (val A + val B) % val P ∧ Below w.heap.size w w' := by
  have HA : Hid (Dg P ∧ Dg A ∧ Dg B ∧ val P < 4294967296 ^ 12 ∧ val A < val P ∧ val B < val P) := ⟨dP, dA, dB, hP, hA, hB⟩
  clear dP dA dB hP hA hB
  go_enter Try.func61, Try.ntmps61
  go_upto_region 1 with (first
    | refine wpList_boxR rfl 66 (.tmp 0) rfl (fdC n P).toArray rfl ?_
    | refine wpList_boxR rfl 64 (.tmp 1) rfl (dgC A).toArray rfl ?_
    | refine wpList_boxR rfl 64 (.tmp 2) rfl (dgC B).toArray rfl ?_)
  refine wp_gen (fun W => Bks w W [(66, fdC n P), (64, dgC A), (64, dgC B), (64, z13)]) (four (fdC n P) (dgC A) (dgC B) z13 _ _ _ _) ?_
  intro W2 hW2
  have H2 : Hid (Bks w W2 [(66, fdC n P), (64, dgC A), (64, dgC B), (64, z13)]) := hW2
  clear hW2
  go_wp2_with (first
    | (refine wpList_load_mid rfl 64 (.tmp 4) rfl (w.heap.size + 1) 0 rfl (dgC A) _ (H2.out.all 1 _ _ rfl) Try.underlying64 rfl (dgC_size HA.out.2.1.2) ?_)
    | (refine wpList_load_mid rfl 64 (.tmp 5) rfl (w.heap.size + 1 + 1) 0 rfl (dgC B) _ (H2.out.all 2 _ _ rfl) Try.underlying64 rfl (dgC_size HA.out.2.2.1.2) ?_))
  refine (plus_any A B HA.out.2.1.1 HA.out.2.2.1.1 HA.out.2.1.2 HA.out.2.2.1.2 (by
    have h1 := HA.out.2.2.2
    have h2 : (4294967296 : Int) ^ 13 = 4294967296 ^ 12 * 4294967296 := rfl
    rw [h2]; generalize (4294967296 : Int) ^ 12 = M at h1
    have := val_nonneg HA.out.1.1
    omega)).mono ?_
  rintro e w3 ⟨S, rfl, uS, lS, vS, hb3⟩
  have HS : Hid (Dg S ∧ val S = val A + val B) := ⟨⟨uS, lS⟩, vS⟩
  have H3 : Hid (Bks w w3 [(66, fdC n P), (64, dgC A), (64, dgC B), (64, z13)]) := H2.out.below hb3
  clear uS lS vS hb3 H2
  have Hth : Hid ((w3.alloc (.cells z13.toArray 64)).there w3.heap.size 0 (dgC S).toArray.size) := (Blk.new 64 w3 z13).there 0 _ (by simp [dgC_len, HS.out.1.2, z13])
  go_upto_region 2 with (refine wpList_store_mid rfl _ _ _ rfl w3.heap.size 0 (dgC S).toArray rfl rfl Hth.out (dgC_size2 HS.out.1.2) (dgC_one S) ?_)
  refine wp_gen (fun W => Below w3.heap.size w3 W ∧ Blk 64 W w3.heap.size (dgC S)) ⟨(Upd.setCells (b := w3.heap.size) (dgC S) 0 (w3.alloc (.cells z13.toArray 64))).below (al1 _) (al1 _).size (Nat.le_refl _), (Blk.new 64 w3 z13).fill (dgC S) (by simp [dgC_len, HS.out.1.2, z13])⟩ ?_
  rintro W4 ⟨hb4, hB4⟩
  have H4 : Hid (Below w3.heap.size w3 W4 ∧ Blk 64 W4 w3.heap.size (dgC S)) := ⟨hb4, hB4⟩
  clear hb4 hB4 Hth
  go_wp2_with (first
    | (refine wpList_load_mid rfl 64 (.tmp 7) rfl w3.heap.size 0 rfl (dgC S) _ H4.out.2.whole Try.underlying64 rfl (dgC_size HS.out.1.2) ?_)
    | (refine wpList_load_mid rfl 64 (.tmp 12) rfl w.heap.size 1 rfl (dgC P) _ ((H3.out.below H4.out.1).pr n P rfl) Try.underlying64 rfl (dgC_size HA.out.1.2) ?_))
  refine (less_any S P HS.out.1.1 HA.out.1.1 HS.out.1.2 HA.out.1.2).mono ?_
  rintro e w5 ⟨rfl, hb5⟩
  have H5 : Hid (Below w3.heap.size w3 w5 ∧ Blk 64 w5 w3.heap.size (dgC S)) := ⟨below_via H4.out.1 hb5 (Nat.le_refl _), below_blk hb5 H4.out.2.lt H4.out.2⟩
  clear hb5 H4
  by_cases hlt : val S < val P
  · have dl : decide (val S < val P) = true := by simpa using hlt
    rw [dl]
    have HV : Hid (val S = (val A + val B) % val P) := by
      show _ = _; rw [← HS.out.2, Int.emod_eq_of_lt (val_nonneg HS.out.1.1) hlt]
    clear hlt dl
    go_wp2_with (first
      | (refine wpList_load_mid rfl 64 (.tmp 7) rfl w3.heap.size 0 rfl (dgC S) _ H5.out.2.whole Try.underlying64 rfl (dgC_size HS.out.1.2) ?_)
      | (refine wpList_store_mid rfl _ _ _ rfl (w.heap.size + 1 + 1 + 1) 0 (dgC S).toArray rfl rfl ((H3.out.below H5.out.1).there 3 _ z13 rfl _ (by simp [dgC_len, HS.out.1.2, z13])) (dgC_size2 HS.out.1.2) (dgC_one S) ?_))
    have hN := (H3.out.below H5.out.1).store 3 _ z13 (dgC S) rfl (by simp [dgC_len, HS.out.1.2, z13])
    exact bodyPost_ret (v := .agg (dgC S).toArray) (results_blk (b := w.heap.size + 1 + 1 + 1) (cs := dgC S) rfl rfl (hN.2 3 _ _ rfl) Try.underlying64 rfl (dgC_size HS.out.1.2)) rfl ⟨S, rfl, HS.out.1, HV.out, hN.1⟩
  · have dl : decide (val S < val P) = false := by simpa using hlt
    rw [dl]
    have HM : Hid (1 * val P ≤ val S ∧ val S - 1 * val P = (val A + val B) % val P) := by
      have h1 := HA.out.2.2.2.2
      refine ⟨by omega, ?_⟩
      have h2 := val_nonneg HA.out.1.1
      rw [← HS.out.2, Int.one_mul, ← Int.sub_emod_right, Int.emod_eq_of_lt (by omega) (by rw [HS.out.2]; omega)]
    clear hlt dl
    go_wp2_with (first
      | (refine wpList_load_mid rfl 64 (.tmp 7) rfl w3.heap.size 0 rfl (dgC S) _ H5.out.2.whole Try.underlying64 rfl (dgC_size HS.out.1.2) ?_)
      | (refine wpList_load_mid rfl 64 (.tmp 17) rfl w.heap.size 1 rfl (dgC P) _ ((H3.out.below H5.out.1).pr n P rfl) Try.underlying64 rfl (dgC_size HA.out.1.2) ?_))
    refine (minus_any S P HS.out.1.1 HA.out.1.1 HS.out.1.2 HA.out.1.2 1 ⟨by decide, by decide⟩ HM.out.1).mono ?_
    rintro e w6 ⟨Z, rfl, uZ, lZ, vZ, hb6⟩
    have HZ : Hid (Dg Z ∧ val Z = (val A + val B) % val P) := ⟨⟨uZ, lZ⟩, by rw [vZ, HM.out.2]⟩
    have H6 : Hid (Below w3.heap.size w3 w6 ∧ Blk 64 w6 w3.heap.size (dgC S)) := ⟨below_via H5.out.1 hb6 (Nat.le_refl _), below_blk hb6 H5.out.2.lt H5.out.2⟩
    clear hb6 H5 uZ lZ vZ
    go_upto_region 4 with (refine wpList_store_mid rfl _ _ _ rfl w3.heap.size 0 (dgC Z).toArray rfl rfl (H6.out.2.there 0 _ (by simp [dgC_len, HS.out.1.2, HZ.out.1.2])) (dgC_size2 HZ.out.1.2) (dgC_one Z) ?_)
    refine wp_gen (fun W => Below w3.heap.size w3 W ∧ Blk 64 W w3.heap.size (dgC Z)) ⟨(Upd.setCells (b := w3.heap.size) (dgC Z) 0 w6).below H6.out.1 H6.out.1.size (Nat.le_refl _), H6.out.2.fill (dgC Z) (by simp [dgC_len, HS.out.1.2, HZ.out.1.2])⟩ ?_
    rintro W7 ⟨hb7, hB7⟩
    have H7 : Hid (Below w3.heap.size w3 W7 ∧ Blk 64 W7 w3.heap.size (dgC Z)) := ⟨hb7, hB7⟩
    clear hb7 hB7 H6
    go_wp2_with (first
      | (refine wpList_load_mid rfl 64 (.tmp 7) rfl w3.heap.size 0 rfl (dgC Z) _ H7.out.2.whole Try.underlying64 rfl (dgC_size HZ.out.1.2) ?_)
      | (refine wpList_store_mid rfl _ _ _ rfl (w.heap.size + 1 + 1 + 1) 0 (dgC Z).toArray rfl rfl ((H3.out.below H7.out.1).there 3 _ z13 rfl _ (by simp [dgC_len, HZ.out.1.2, z13])) (dgC_size2 HZ.out.1.2) (dgC_one Z) ?_))
    have hN := (H3.out.below H7.out.1).store 3 _ z13 (dgC Z) rfl (by simp [dgC_len, HZ.out.1.2, z13])
    exact bodyPost_ret (v := .agg (dgC Z).toArray) (results_blk (b := w.heap.size + 1 + 1 + 1) (cs := dgC Z) rfl rfl (hN.2 3 _ _ rfl) Try.underlying64 rfl (dgC_size HZ.out.1.2)) rfl ⟨Z, rfl, HZ.out.1, HZ.out.2, hN.1⟩
end Go.Proofs.Ytkdclocjijmgpaa
/-
  The reference's field: sub.
-/
namespace Go.Proofs.Ytkdclocjijmgpaa
open Go.RowKit
set_option maxRecDepth 20000
set_option maxHeartbeats 2000000 in
theorem rsub_any {w : World} (n : Nat) (P A B : List Int) (dP : Dg P) (dA : Dg A) (dB : Dg B) (hP : val P < 4294967296 ^ 12) (hA : val A < val P) (hB : val B < val P) :
    Calls Try.prog 59 #[.agg (fdC n P).toArray, dgA A, dgA B] w fun e w' => ∃ Z, e = .returned (dgA Z) ∧ Dg Z ∧ val Z = (val A - val B) % val P ∧ Below w.heap.size w w' := by
  have HA : Hid (Dg P ∧ Dg A ∧ Dg B ∧ val P < 4294967296 ^ 12 ∧ val A < val P ∧ val B < val P) := ⟨dP, dA, dB, hP, hA, hB⟩
  clear dP dA dB hP hA hB
  go_enter Try.func59, Try.ntmps59
  go_upto_region 1 with (first
    | refine wpList_boxR rfl 66 (.tmp 0) rfl (fdC n P).toArray rfl ?_
    | refine wpList_boxR rfl 64 (.tmp 1) rfl (dgC A).toArray rfl ?_
    | refine wpList_boxR rfl 64 (.tmp 2) rfl (dgC B).toArray rfl ?_)
  refine wp_gen (fun W => Bks w W [(66, fdC n P), (64, dgC A), (64, dgC B), (64, z13)]) (four (fdC n P) (dgC A) (dgC B) z13 _ _ _ _) ?_
  intro W2 hW2
  have H2 : Hid (Bks w W2 [(66, fdC n P), (64, dgC A), (64, dgC B), (64, z13)]) := hW2
  clear hW2
  go_wp2_with (first
    | (refine wpList_load_mid rfl 64 (.tmp 4) rfl (w.heap.size + 1) 0 rfl (dgC A) _ (H2.out.all 1 _ _ rfl) Try.underlying64 rfl (dgC_size HA.out.2.1.2) ?_)
    | (refine wpList_load_mid rfl 64 (.tmp 5) rfl (w.heap.size + 1 + 1) 0 rfl (dgC B) _ (H2.out.all 2 _ _ rfl) Try.underlying64 rfl (dgC_size HA.out.2.2.1.2) ?_))
  refine (less_any A B HA.out.2.1.1 HA.out.2.2.1.1 HA.out.2.1.2 HA.out.2.2.1.2).mono ?_
  rintro e w3 ⟨rfl, hb3⟩
  have H3 : Hid (Bks w w3 [(66, fdC n P), (64, dgC A), (64, dgC B), (64, z13)]) := H2.out.below hb3
  clear hb3 H2
  by_cases hlt : val A < val B
  · have dl : decide (val A < val B) = true := by simpa using hlt
    rw [dl]
    have HV : Hid (val A < val B) := hlt
    clear hlt dl
    go_wp2_with (first
      | (refine wpList_load_mid rfl 64 (.tmp 4) rfl (w.heap.size + 1) 0 rfl (dgC A) _ (H3.out.all 1 _ _ rfl) Try.underlying64 rfl (dgC_size HA.out.2.1.2) ?_)
      | (refine wpList_load_mid rfl 64 (.tmp 11) rfl (w.heap.size) 1 rfl (dgC P) _ (H3.out.pr n P rfl) Try.underlying64 rfl (dgC_size HA.out.1.2) ?_))
    refine (plus_any A P HA.out.2.1.1 HA.out.1.1 HA.out.2.1.2 HA.out.1.2 (by
      have h1 := HA.out.2.2.2
      have h2 : (4294967296 : Int) ^ 13 = 4294967296 ^ 12 * 4294967296 := rfl
      rw [h2]; generalize (4294967296 : Int) ^ 12 = M at h1
      have := val_nonneg HA.out.1.1
      omega)).mono ?_
    rintro e w4 ⟨S, rfl, uS, lS, vS, hb4⟩
    have HS : Hid (Dg S ∧ val S = val A + val P) := ⟨⟨uS, lS⟩, vS⟩
    have H4 : Hid (Bks w w4 [(66, fdC n P), (64, dgC A), (64, dgC B), (64, z13)]) := H3.out.below hb4
    clear uS lS vS hb4 H3
    go_upto_region 3 with (refine wpList_store_mid rfl _ _ _ rfl (w.heap.size + 1) 0 (dgC S).toArray rfl rfl (H4.out.there 1 _ (dgC A) rfl _ (by simp [dgC_len, HS.out.1.2, HA.out.2.1.2])) (dgC_size2 HS.out.1.2) (dgC_one S) ?_)
    refine wp_gen (fun W => Bks w W [(66, fdC n P), (64, dgC S), (64, dgC B), (64, z13)]) (H4.out.store 1 _ (dgC A) (dgC S) rfl (by simp [dgC_len, HS.out.1.2, HA.out.2.1.2])) ?_
    intro W5 hW5
    have H5 : Hid (Bks w W5 [(66, fdC n P), (64, dgC S), (64, dgC B), (64, z13)]) := hW5
    clear hW5 H4
    have HM : Hid (1 * val B ≤ val S ∧ val S - 1 * val B = (val A - val B) % val P) := by
      have h1 := HA.out.2.2.2.2
      have h2 := HS.out.2
      have h3 := HV.out
      have h4 := val_nonneg HA.out.2.1.1
      refine ⟨by omega, ?_⟩
      rw [h2, ← Int.add_emod_right, Int.emod_eq_of_lt (by omega) (by omega)]; omega
    go_wp2_with (first
      | (refine wpList_load_mid rfl 64 (.tmp 4) rfl (w.heap.size + 1) 0 rfl (dgC S) _ (H5.out.all 1 _ _ rfl) Try.underlying64 rfl (dgC_size HS.out.1.2) ?_)
      | (refine wpList_load_mid rfl 64 (.tmp 5) rfl (w.heap.size + 1 + 1) 0 rfl (dgC B) _ (H5.out.all 2 _ _ rfl) Try.underlying64 rfl (dgC_size HA.out.2.2.1.2) ?_))
    refine (minus_any S B HS.out.1.1 HA.out.2.2.1.1 HS.out.1.2 HA.out.2.2.1.2 1 ⟨by decide, by decide⟩ HM.out.1).mono ?_
    rintro e w6 ⟨Z, rfl, uZ, lZ, vZ, hb6⟩
    have HZ : Hid (Dg Z ∧ val Z = (val A - val B) % val P) := ⟨⟨uZ, lZ⟩, by rw [vZ]; exact HM.out.2⟩
    have H6 : Hid (Bks w w6 [(66, fdC n P), (64, dgC S), (64, dgC B), (64, z13)]) := H5.out.below hb6
    clear hb6 uZ lZ vZ
    go_wp2_with (refine wpList_store_mid rfl _ _ _ rfl (w.heap.size + 1 + 1 + 1) 0 (dgC Z).toArray rfl rfl (H6.out.there 3 _ z13 rfl _ (by simp [dgC_len, HZ.out.1.2, z13])) (dgC_size2 HZ.out.1.2) (dgC_one Z) ?_)
    have hN := H6.out.store 3 _ z13 (dgC Z) rfl (by simp [dgC_len, HZ.out.1.2, z13])
    exact bodyPost_ret (v := .agg (dgC Z).toArray) (results_blk (b := w.heap.size + 1 + 1 + 1) (cs := dgC Z) rfl rfl (hN.2 3 _ _ rfl) Try.underlying64 rfl (dgC_size HZ.out.1.2)) rfl ⟨Z, rfl, HZ.out.1, HZ.out.2, hN.1⟩
  · have dl : decide (val A < val B) = false := by simpa using hlt
    rw [dl]
    have HM : Hid (1 * val B ≤ val A ∧ val A - 1 * val B = (val A - val B) % val P) := by
      have h1 := HA.out.2.2.2.2
      have h4 := val_nonneg HA.out.2.2.1.1
      refine ⟨by omega, ?_⟩
      rw [Int.emod_eq_of_lt (by omega) (by omega)]; omega
    clear hlt dl
    go_wp2_with (first
      | (refine wpList_load_mid rfl 64 (.tmp 4) rfl (w.heap.size + 1) 0 rfl (dgC A) _ (H3.out.all 1 _ _ rfl) Try.underlying64 rfl (dgC_size HA.out.2.1.2) ?_)
      | (refine wpList_load_mid rfl 64 (.tmp 5) rfl (w.heap.size + 1 + 1) 0 rfl (dgC B) _ (H3.out.all 2 _ _ rfl) Try.underlying64 rfl (dgC_size HA.out.2.2.1.2) ?_))
    refine (minus_any A B HA.out.2.1.1 HA.out.2.2.1.1 HA.out.2.1.2 HA.out.2.2.1.2 1 ⟨by decide, by decide⟩ HM.out.1).mono ?_
    rintro e w6 ⟨Z, rfl, uZ, lZ, vZ, hb6⟩
    have HZ : Hid (Dg Z ∧ val Z = (val A - val B) % val P) := ⟨⟨uZ, lZ⟩, by rw [vZ]; exact HM.out.2⟩
    have H6 : Hid (Bks w w6 [(66, fdC n P), (64, dgC A), (64, dgC B), (64, z13)]) := H3.out.below hb6
    clear hb6 uZ lZ vZ
    go_wp2_with (refine wpList_store_mid rfl _ _ _ rfl (w.heap.size + 1 + 1 + 1) 0 (dgC Z).toArray rfl rfl (H6.out.there 3 _ z13 rfl _ (by simp [dgC_len, HZ.out.1.2, z13])) (dgC_size2 HZ.out.1.2) (dgC_one Z) ?_)
    have hN := H6.out.store 3 _ z13 (dgC Z) rfl (by simp [dgC_len, HZ.out.1.2, z13])
    exact bodyPost_ret (v := .agg (dgC Z).toArray) (results_blk (b := w.heap.size + 1 + 1 + 1) (cs := dgC Z) rfl rfl (hN.2 3 _ _ rfl) Try.underlying64 rfl (dgC_size HZ.out.1.2)) rfl ⟨Z, rfl, HZ.out.1, HZ.out.2, hN.1⟩
end Go.Proofs.Ytkdclocjijmgpaa
