/-
  A region that draws its order, whose first n operations are quiet in a class of worlds, and whose others wait for all of them and for one another: one walk of the text's order serves every order.
-/
import Derived.Test.YtkjdihikcgpababDoorRows
import Derived.WalkKit
import Derived.Deep.QuietTactic
import Derived.BigQuiet
import Derived.Test.YtkjdihikcgpababDoorK1
namespace Go.Proofs.YtkjdihikcgpababDoor
section
variable {P : Program} {ops : Array Oper} {md : Region.Mode} {C : World → Prop}
/-- The first n have all come up. -/
def AllUp (listed : Array Bool) (n : Nat) : Prop := ∀ j, j < n → listed.getD j true = true
/-- Whatever order the first n come up in. -/
def wpFst (P : Program) (md : Region.Mode) (ops : Array Oper) (C : World → Prop) (n : Nat) (Q : Act → Prop) : Nat → Array Bool → Act → Prop
  | 0, listed, a => AllUp listed n ∧ Q a
  | fuel + 1, listed, a => (∃ i, i ∈ Region.ready md ops listed ∧ i < n) ∧
      ∀ i, i ∈ Region.ready md ops listed → i < n → qOp P ops C i (wpFst P md ops C n Q fuel (listed.setIfInBounds i true)) a
theorem not_up {listed : Array Bool} {n i : Nat} (h : i ∈ Region.ready md ops listed) (hn : i < n) : ¬ AllUp listed n := fun hu => by
  have h1 := (mem_ready.1 h).1
  rw [hu i hn] at h1
  exact Bool.noConfusion h1
theorem wpFst_first {n : Nat} {Q : Act → Prop} {i : Nat} {oi : Oper} {v : Value} (hi : ops[i]? = some oi) (hin : i < n)
    (hsel : ∀ (j : Nat) (o : Oper) cs b, ops[j]? = some o → o.op ≠ .select cs b) (fuel : Nat) :
    ∀ (listed : Array Bool) (a : Act),
      (∀ j oj, ops[j]? = some oj → j ≠ i → listed.getD j true = false → (∀ e ∈ oj.after, Region.binds md e = true → e.on ≠ i) → oi.apart ops oj = true) →
      i ∈ Region.ready md ops listed → YieldsIn P ops C oi v a →
      wpFst P md ops C n Q fuel (listed.setIfInBounds i true) (a.put oi.dst v) → wpFst P md ops C n Q (fuel + 1) listed a := by
  induction fuel with
  | zero =>
    intro listed a _ hr hy H
    refine ⟨⟨i, hr, hin⟩, fun j hj hjn => ?_⟩
    by_cases hji : j = i
    · subst hji; exact hy.qOp hi H
    · exact absurd H.1 (not_up (ready_mono hj hji) hjn)
  | succ fuel ih =>
    intro listed a hfree hr hy H
    refine ⟨⟨i, hr, hin⟩, fun j hj hjn => ?_⟩
    by_cases hji : j = i
    · subst hji; exact hy.qOp hi H
    · obtain ⟨hjun, oj, hoj, hall⟩ := mem_ready.1 hj
      have hno : ∀ e ∈ oj.after, Region.binds md e = true → e.on ≠ i := by
        intro e he hb heq
        have h1 := hall e he hb
        have h0 := (mem_ready.1 hr).1
        rw [heq] at h1
        by_cases hlt : i < listed.size
        · simp [hlt] at h0 h1; rw [h0] at h1; exact Bool.noConfusion h1
        · simp [Array.getElem?_eq_none (Nat.le_of_not_lt hlt)] at h1
      have h2 := qOp_put hoj (hfree j oj hoj hji hjun hno) (fun cs b => hsel i oi cs b hi) (fun cs b => hsel j oj cs b hoj) hy (H.2 j (ready_mono hj hji) hjn)
      refine qOp_mono (fun a' h3 => ih _ a' ?_ (ready_mono hr (Ne.symm hji)) h3.1 ?_) h2
      · intro k ok hk hki hun
        refine hfree k ok hk hki ?_
        by_cases hjk : j = k
        · rw [← hjk]; exact hjun
        · rw [getD_set_ne true hjk] at hun; exact hun
      · rw [Array.setIfInBounds_comm _ _ hji]; exact h3.2
/-- May the operations k, k + 1, .. (so many) be taken in this order, each free? -/
def lexTo (md : Region.Mode) (ops : Array Oper) : Nat → Nat → Array Bool → Bool
  | 0, _, _ => true
  | m + 1, k, listed => (Region.ready md ops listed).contains k && Region.free md ops listed k && lexTo md ops m (k + 1) (listed.setIfInBounds k true)
theorem wpFst_lex {n : Nat} {Q : Act → Prop} (hs : Region.noSelect ops = true) : ∀ (l : List Oper) (k : Nat) (listed : Array Bool) (a : Act), k + l.length = n → (∀ j, j < l.length → l[j]? = ops[k + j]?) → AllUp listed k →
    k + l.length ≤ listed.size → lexTo md ops l.length k listed = true → wpQuiet P ops C Q l a → wpFst P md ops C n Q l.length listed a
  | [], k, listed, a, hn, _, hu, _, _, h => by simp at hn; subst hn; exact ⟨hu, h⟩
  | o :: l, k, listed, a, hn, hl, hu, hsz, hB, h => by
    have h0 : ops[k]? = some o := by simpa using (hl 0 (by simp)).symm
    simp only [List.length_cons, lexTo, Bool.and_eq_true] at hB
    simp only [List.length_cons] at hn hsz
    obtain ⟨⟨hr, hf⟩, hB'⟩ := hB
    have hst : qOp P ops C k (wpQuiet P ops C Q l) a := by unfold qOp; simp only [h0]; exact h
    obtain ⟨v, hy, hK⟩ := yieldsIn_of_qOp h0 hst
    refine wpFst_first h0 (by omega) (Region.noSelect_spec hs) l.length listed a (Region.free_spec h0 hf) (by simpa using hr) hy ?_
    refine wpFst_lex hs l (k + 1) _ _ (by omega) (fun j hj => ?_) (fun j hj => ?_) (by simp; omega) hB' hK
    · have := hl (j + 1) (by simp; omega); simpa [Nat.add_assoc, Nat.add_comm 1 j] using this
    · by_cases hjk : k = j
      · subst hjk; simp [show k < listed.size by omega]
      · rw [getD_set_ne true hjk]; exact hu j (by omega)
theorem wpAny_more {Q : Exit → Act → World → Prop} : ∀ (m : Nat) (listed : Array Bool) (a : Act) (w : World), wpAny P md ops Q m listed a w → wpAny P md ops Q (m + 1) listed a w
  | 0, _, _, _, h => ⟨fun _ => h.2, fun i hi => by rw [h.1] at hi; simp at hi⟩
  | m + 1, _, _, _, h => ⟨h.1, fun i hi => wpOp_mono (fun a' w' h' => wpAny_more m _ a' w' h') (h.2 i hi)⟩
/-- May number k have come up, of the first n, though number j has not? -/
def without (md : Region.Mode) (ops : Array Oper) (n j : Nat) : Nat → Nat → Bool
  | 0, _ => false
  | f + 1, k => decide (k < n) && k != j && ((ops[k]?).map fun o => o.after.all fun e => !Region.binds md e || without md ops n j f e.on).getD true
/-- No edge of the first n leads on. -/
def backB (md : Region.Mode) (ops : Array Oper) (n : Nat) : Bool := (List.range n).all fun k => ((ops[k]?).map fun o => o.after.all fun e => !Region.binds md e || decide (e.on < k)).getD true
/-- Each of the others waits, whichever of the first n has not come up. -/
def waitsB (md : Region.Mode) (ops : Array Oper) (n : Nat) : Bool :=
  backB md ops n && (List.range n).all fun j => (List.range ops.size).all fun i => decide (i < n) || ((ops[i]?).map fun o => o.after.any fun e => Region.binds md e && !without md ops n j ops.size e.on).getD false
/-- What has come up has come up behind what it waits for. -/
def Closed (md : Region.Mode) (ops : Array Oper) (listed : Array Bool) : Prop := ∀ k o, ops[k]? = some o → listed.getD k true = true → ∀ e ∈ o.after, Region.binds md e = true → listed.getD e.on false = true
theorem Closed.set {listed : Array Bool} (h : Closed md ops listed) {i : Nat} (hi : i ∈ Region.ready md ops listed) : Closed md ops (listed.setIfInBounds i true) := by
  obtain ⟨h0, oi, hoi, hall⟩ := mem_ready.1 hi
  have hlt : i < listed.size := Decidable.byContradiction fun hx => by simp [Array.getElem?_eq_none (Nat.le_of_not_lt hx)] at h0
  have up : ∀ k, listed.getD k false = true → (listed.setIfInBounds i true).getD k false = true := fun k hk => by
    by_cases hik : i = k
    · subst hik; simp [hlt]
    · rw [getD_set_ne false hik]; exact hk
  intro k o ho hl e he hb
  by_cases hik : i = k
  · subst hik
    rw [hoi] at ho
    cases ho
    exact up _ (hall e he hb)
  · rw [getD_set_ne true hik] at hl
    exact up _ (h k o ho hl e he hb)
theorem without_of {n j : Nat} (hB : backB md ops n = true) {listed : Array Bool} (hc : Closed md ops listed) (hlate : ∀ i, n ≤ i → i < ops.size → listed.getD i true = false) (hsz : listed.size = ops.size) (hj : listed.getD j true = false) :
    ∀ (f k : Nat), k < f → listed.getD k false = true → without md ops n j f k = true
  | 0, _, h, _ => by omega
  | f + 1, k, hk, hl => by
    have hks : k < listed.size := Decidable.byContradiction fun hx => by simp [Array.getElem?_eq_none (Nat.le_of_not_lt hx)] at hl
    have hl' : listed.getD k true = true := by simp [hks] at hl ⊢; exact hl
    have hkn : k < n := Decidable.byContradiction fun hx => by rw [hlate k (by omega) (by omega)] at hl'; exact Bool.noConfusion hl'
    have hkj : k ≠ j := fun hx => by rw [hx, hj] at hl'; exact Bool.noConfusion hl'
    cases ho : ops[k]? with
    | none => simp [without, hkn, hkj, ho]
    | some o =>
      have hb0 := List.all_eq_true.1 hB k (by simpa using hkn)
      simp only [ho, Option.map_some, Option.getD_some] at hb0
      simp only [without, ho, Option.map_some, Option.getD_some, hkn, decide_true, Bool.true_and, Bool.and_eq_true, bne_iff_ne, ne_eq, hkj, not_false_eq_true, true_and]
      refine Array.all_eq_true_iff_forall_mem.2 fun e he => ?_
      by_cases hbe : Region.binds md e = true
      · have h1 := Array.all_eq_true_iff_forall_mem.1 hb0 e he
        simp [hbe] at h1
        simp [hbe, without_of hB hc hlate hsz hj f e.on (by omega) (hc k o ho hl' e he hbe)]
      · simp [hbe]
theorem ready_below {n : Nat} (hB : waitsB md ops n = true) {listed : Array Bool} (hc : Closed md ops listed) (hlate : ∀ i, n ≤ i → i < ops.size → listed.getD i true = false) (hsz : listed.size = ops.size)
    {j : Nat} (hj : j ∈ Region.ready md ops listed) (hjn : j < n) {i : Nat} (hi : i ∈ Region.ready md ops listed) : i < n := by
  refine Decidable.byContradiction fun hge => ?_
  unfold waitsB at hB
  rw [Bool.and_eq_true] at hB
  obtain ⟨h0, oi, hoi, hall⟩ := mem_ready.1 hi
  have hlt : i < ops.size := (Array.getElem?_eq_some_iff.1 hoi).1
  have h1 := List.all_eq_true.1 (List.all_eq_true.1 hB.2 j (by simpa using hjn)) i (by simpa using hlt)
  simp only [hge, decide_false, Bool.false_or, hoi, Option.map_some, Option.getD_some] at h1
  obtain ⟨e, he, h2⟩ : ∃ e ∈ oi.after, (Region.binds md e && !without md ops n j ops.size e.on) = true := by
    rw [← Array.any_toList, List.any_eq_true] at h1
    obtain ⟨e, he, h2⟩ := h1
    exact ⟨e, by simpa using he, h2⟩
  rw [Bool.and_eq_true] at h2
  have h3 := hall e he h2.1
  have hes : e.on < ops.size := Decidable.byContradiction fun hx => by simp [Array.getElem?_eq_none (show listed.size ≤ e.on by omega)] at h3
  rw [without_of hB.1 hc hlate hsz (mem_ready.1 hj).1 ops.size e.on hes h3] at h2
  simp at h2
theorem wpAny_of_fst {n m : Nat} {Q : Act → Prop} {Q' : Exit → Act → World → Prop} (hB : waitsB md ops n = true)
    (hQ : ∀ (listed : Array Bool) (a : Act) (w : World), listed.size = ops.size → AllUp listed n → (∀ i, n ≤ i → i < ops.size → listed.getD i true = false) → C w → Q a → wpAny P md ops Q' m listed a w) :
    ∀ (fuel : Nat) (listed : Array Bool) (a : Act) (w : World), Closed md ops listed → listed.size = ops.size → (∀ i, n ≤ i → i < ops.size → listed.getD i true = false) → C w → wpFst P md ops C n Q fuel listed a → wpAny P md ops Q' (fuel + m) listed a w
  | 0, listed, a, w, _, hsz, hlate, hw, h => by rw [Nat.zero_add]; exact hQ listed a w hsz h.1 hlate hw h.2
  | fuel + 1, listed, a, w, hc, hsz, hlate, hw, h => by
    obtain ⟨⟨j, hj, hjn⟩, hall⟩ := h
    rw [show fuel + 1 + m = (fuel + m) + 1 by omega]
    refine ⟨fun h0 => by rw [h0] at hj; simp at hj, fun i hi => ?_⟩
    have hin := ready_below hB hc hlate hsz hj hjn hi
    refine wpOp_of_qOp hw (fun a' w' hw' h' => wpAny_of_fst hB hQ fuel _ a' w' (hc.set hi) (by simp [hsz]) (fun k hk hks => ?_) hw' h') (hall i hi hin)
    rw [getD_set_ne true (by omega)]; exact hlate k hk hks
/-- Does each of the others come up alone? -/
def lonely (md : Region.Mode) (ops : Array Oper) : Nat → Nat → Array Bool → Bool
  | 0, _, listed => (Region.ready md ops listed).isEmpty
  | m + 1, k, listed => (Region.ready md ops listed) == [k] && lonely md ops m (k + 1) (listed.setIfInBounds k true)
theorem wpAny_lonely {Q : Exit → Act → World → Prop} : ∀ (l : List Oper) (k : Nat) (listed : Array Bool) (a : Act) (w : World), (∀ j, l[j]? = ops[k + j]?) → lonely md ops l.length k listed = true → wpList P ops Q l a w → wpAny P md ops Q l.length listed a w
  | [], _, _, _, _, _, hB, h => ⟨by simpa [lonely] using hB, h⟩
  | o :: l, k, listed, a, w, hl, hB, h => by
    have h0 : ops[k]? = some o := by simpa using (hl 0).symm
    simp only [List.length_cons, lonely, Bool.and_eq_true] at hB
    obtain ⟨hr, hB'⟩ := hB
    have hr' := eq_of_beq hr
    refine ⟨fun h1 => by rw [hr'] at h1; simp at h1, fun i hi => ?_⟩
    rw [hr'] at hi
    have : i = k := by simpa using hi
    subst this
    have h2 : wpOp P ops Q i (wpList P ops Q l) a w := by unfold wpOp; simp only [h0]; exact h
    exact wpOp_mono (fun a' w' h' => wpAny_lonely l (i + 1) _ a' w' (fun j => by have := hl (j + 1); simpa [Nat.add_assoc, Nat.add_comm 1 j] using this) hB' h') h2
def upTo (n size : Nat) : Array Bool := ((List.range size).map fun i => decide (i < n)).toArray
def qsB (n : Nat) (ops : Array Oper) : Bool :=
  Region.noSelect ops && lexTo .any ops n 0 (Array.replicate ops.size false) && waitsB .any ops n && lonely .any ops (ops.size - n) n (upTo n ops.size) && decide (n ≤ ops.size)
theorem eq_upTo {listed : Array Bool} {n size : Nat} (hsz : listed.size = size) (hu : AllUp listed n) (hl : ∀ i, n ≤ i → i < size → listed.getD i true = false) : listed = upTo n size := by
  refine Array.ext (by simp [upTo, hsz]) fun i h1 h2 => ?_
  have e : (upTo n size)[i] = decide (i < n) := by simp [upTo]
  rw [e]
  by_cases h : i < n
  · have := hu i h; simp [h1] at this; simp [this, h]
  · have := hl i (by omega) (by omega); simp [h1] at this; simp [this]; omega
theorem wp_region_qs (n : Nat) {id : Nat} {Q : Exit → Act → World → Prop} {a : Act} {w : World} {l : List Oper} (hm : P.follows .mixedOrders = true) (hB : qsB n l.toArray = true) (hC : C { w with drawn := w.drawn + 1 })
    (h : wpQuiet P l.toArray C (fun a' => ∀ w', C w' → wpList P l.toArray Q (l.drop n) a' w') (l.take n) a) : (Code.region id l.toArray true).wp P Q a w := by
  simp only [qsB, Bool.and_eq_true, decide_eq_true_eq] at hB
  obtain ⟨⟨⟨⟨hs, hlex⟩, hwait⟩, hlone⟩, hn⟩ := hB
  have hn' : n ≤ l.length := by simpa using hn
  refine wp_region_any hm ?_
  have hf := wpFst_lex (n := n) (md := .any) hs (l.take n) 0 (Array.replicate l.toArray.size false) a (by simp; omega) (fun j hj => by simp at hj; simp [show j < n by omega]) (fun j hj => by omega)
    (by simp; omega) (by simpa [Nat.min_eq_left hn'] using hlex) h
  have hlen : (l.take n).length = n := by simp; omega
  rw [hlen] at hf
  have := wpAny_of_fst (m := l.length - n) (Q' := Q) hwait (fun listed a' w' hsz hu hlate hw' hq => by
    have e := eq_upTo hsz hu hlate
    subst e
    have := wpAny_lonely (md := .any) (l.drop n) n (upTo n l.toArray.size) a' w' (fun j => by simp) (by simpa using hlone) (hq w' hw')
    simpa using this) n (Array.replicate l.toArray.size false) a { w with drawn := w.drawn + 1 } (fun k o ho hl => by have hk : k < l.toArray.size := (Array.getElem?_eq_some_iff.1 ho).1; simp at hk; simp [hk] at hl) (by simp) (fun i hi hi2 => by simp at hi2; simp [hi2]) hC hf
  rw [show n + (l.length - n) = l.toArray.size by simp; omega] at this
  exact this
/-- At the class 'w after some draws'. -/
theorem wp_region_qsd (n : Nat) {id : Nat} {Q : Exit → Act → World → Prop} {a : Act} {w : World} {l : List Oper} (hm : P.follows .mixedOrders = true) (hB : qsB n l.toArray = true)
    (h : wpQuiet P l.toArray (fun w' => ∃ q, w' = w.drewN q) (fun a' => ∀ w', (∃ q, w' = w.drewN q) → wpList P l.toArray Q (l.drop n) a' w') (l.take n) a) : (Code.region id l.toArray true).wp P Q a w :=
  wp_region_qs (C := fun w' => ∃ q, w' = w.drewN q) n hm hB ⟨1, rfl⟩ h
end
end Go.Proofs.YtkjdihikcgpababDoor
/-
  A region that draws its order, by an invariant: each operation is walked once, whatever came up ahead of it.
-/
namespace Go.Proofs.YtkjdihikcgpababDoor
section
variable {P : Program} {ops : Array Oper} {md : Region.Mode} {Q : Exit → Act → World → Prop}
def Up (listed : Array Bool) (k : Nat) : Prop := listed.getD k false = true
def depL (md : Region.Mode) (ops : Array Oper) (i : Nat) : List Nat := ((ops[i]?).map fun o => (o.after.toList.filter (Region.binds md)).map (·.on)).getD []
theorem ready_deps {listed : Array Bool} {i : Nat} (h : i ∈ Region.ready md ops listed) : ∀ k ∈ depL md ops i, Up listed k := by
  obtain ⟨_, o, ho, hall⟩ := mem_ready.1 h
  intro k hk
  unfold depL at hk
  rw [ho] at hk
  simp only [Option.map_some, Option.getD_some, List.mem_map, List.mem_filter] at hk
  obtain ⟨e, ⟨he, hb⟩, rfl⟩ := hk
  exact hall e (by simpa using he) hb
theorem ready_not {listed : Array Bool} {i : Nat} (h : i ∈ Region.ready md ops listed) : ¬ Up listed i := fun hu => by
  have h0 := (mem_ready.1 h).1
  unfold Up at hu
  by_cases hlt : i < listed.size
  · simp [hlt] at h0 hu; rw [h0] at hu; exact Bool.noConfusion hu
  · simp [Array.getElem?_eq_none (Nat.le_of_not_lt hlt)] at hu
theorem ready_lt {listed : Array Bool} {i : Nat} (h : i ∈ Region.ready md ops listed) : i < ops.size := by
  obtain ⟨_, o, ho, _⟩ := mem_ready.1 h
  exact (Array.getElem?_eq_some_iff.1 ho).1
theorem up_set {listed : Array Bool} {i k : Nat} (h : Up (listed.setIfInBounds i true) k) (hne : k ≠ i) : Up listed k := by
  unfold Up at *
  rwa [getD_set_ne false (Ne.symm hne)] at h
/-- Where nothing may come up, all has come up. -/
theorem all_up (hB : backB md ops ops.size = true) {listed : Array Bool} (hsz : listed.size = ops.size) (hr : Region.ready md ops listed = []) : ∀ k, k < ops.size → Up listed k := by
  intro k
  induction k using Nat.strongRecOn with
  | _ k ih =>
    intro hk
    by_cases hu : Up listed k
    · exact hu
    · exfalso
      have ho : ops[k]? = some ops[k] := Array.getElem?_eq_getElem hk
      have hm : k ∈ Region.ready md ops listed := by
        refine mem_ready.2 ⟨?_, ops[k], ho, fun e he hb => ?_⟩
        · unfold Up at hu
          simp [show k < listed.size by omega] at hu ⊢
          exact hu
        · have h1 := List.all_eq_true.1 hB k (by simpa using hk)
          simp only [ho, Option.map_some, Option.getD_some] at h1
          have h2 := Array.all_eq_true_iff_forall_mem.1 h1 e he
          simp only [hb, Bool.not_true, Bool.false_or, decide_eq_true_eq] at h2
          exact ih e.on h2 (by omega)
      rw [hr] at hm
      cases hm
theorem count_set {l : List Bool} {i : Nat} (h : l[i]? = some false) : (l.set i true).count false + 1 = l.count false := by
  induction l generalizing i with
  | nil => simp at h
  | cons b l ih =>
    cases i with
    | zero => simp at h; subst h; simp
    | succ i =>
      simp only [List.getElem?_cons_succ] at h
      have := ih h
      simp only [List.set_cons_succ, List.count_cons]
      omega
theorem wpAny_inv (I : Array Bool → Act → World → Prop) (hB : backB md ops ops.size = true)
    (step : ∀ (i : Nat) (listed : Array Bool) (a : Act) (w : World), i ∈ Region.ready md ops listed → I listed a w → wpOp P ops Q i (fun a' w' => I (listed.setIfInBounds i true) a' w') a w)
    (done : ∀ (listed : Array Bool) (a : Act) (w : World), (∀ k, k < ops.size → Up listed k) → I listed a w → Q .normal a w) :
    ∀ (fuel : Nat) (listed : Array Bool) (a : Act) (w : World), listed.size = ops.size → listed.toList.count false ≤ fuel → I listed a w → wpAny P md ops Q fuel listed a w := by
  intro fuel
  induction fuel with
  | zero =>
    intro listed a w hsz hc hI
    have hr : Region.ready md ops listed = [] := by
      refine List.eq_nil_iff_forall_not_mem.2 fun i hi => ?_
      have h0 := (mem_ready.1 hi).1
      have hlt : i < listed.size := by rw [hsz]; exact ready_lt hi
      simp [hlt] at h0
      have : false ∈ listed.toList := by rw [← h0]; exact Array.getElem_mem_toList hlt
      have := List.count_pos_iff.2 this
      omega
    exact ⟨hr, done listed a w (all_up hB hsz hr) hI⟩
  | succ fuel ih =>
    intro listed a w hsz hc hI
    refine ⟨fun hr => done listed a w (all_up hB hsz hr) hI, fun i hi => ?_⟩
    refine wpOp_mono (fun a' w' h => ih _ a' w' (by simp [hsz]) ?_ h) (step i listed a w hi hI)
    have h0 := (mem_ready.1 hi).1
    have hlt : i < listed.size := by rw [hsz]; exact ready_lt hi
    simp [hlt] at h0
    have := count_set (l := listed.toList) (i := i) (by simp [hlt, h0])
    simp only [Array.toList_setIfInBounds]
    omega
theorem wp_region_inv (I : Array Bool → Act → World → Prop) {id : Nat} {a : Act} {w : World} (hm : P.follows .mixedOrders = true) (hB : backB .any ops ops.size = true)
    (start : I (Array.replicate ops.size false) a w.drew)
    (done : ∀ (listed : Array Bool) (a : Act) (w : World), (∀ k, k < ops.size → Up listed k) → I listed a w → Q .normal a w)
    (step : ∀ (i : Nat) (listed : Array Bool) (a : Act) (w : World), i < ops.size → ¬ Up listed i → (∀ k ∈ depL .any ops i, Up listed k) → I listed a w → wpOp P ops Q i (fun a' w' => I (listed.setIfInBounds i true) a' w') a w) : (Code.region id ops true).wp P Q a w :=
  wp_region_any hm (wpAny_inv I hB (fun i listed a w hr hI => step i listed a w (ready_lt hr) (ready_not hr) (ready_deps hr) hI) done _ _ _ _ (by simp) (by simp) start)
theorem not_up_new {n k : Nat} : ¬ Up (Array.replicate n false) k := fun h => by
  unfold Up at h
  by_cases hk : k < n <;> simp [hk] at h
end
end Go.Proofs.YtkjdihikcgpababDoor
