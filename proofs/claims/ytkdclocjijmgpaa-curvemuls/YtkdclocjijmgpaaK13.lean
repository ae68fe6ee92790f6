/-
  A region that draws its order, by an invariant: each operation is walked once, whatever came up ahead of it.
-/
import Derived.Test.YtkdclocjijmgpaaK12
namespace Go.Proofs.Ytkdclocjijmgpaa
section
variable {P : Program} {ops : Array Oper} {md : Region.Mode} {Q : Exit → Act → World → Prop}
def Up (listed : Array Bool) (k : Nat) : Prop := listed.getD k false = true
def depL (md : Region.Mode) (ops : Array Oper) (i : Nat) : List Nat := ((ops[i]?).map fun o => (o.after.toList.filter (Region.binds md)).map (·.on)).getD []
theorem ready_deps {listed : Array Bool} {i : Nat} (h : i ∈ Region.ready md ops listed) : ∀ k ∈ depL md ops i, Up listed k := by
  obtain ⟨_, o, ho, hall⟩ := mem_ready.1 h
  intro k hk
  unfold depL at hk
  rw [ho] at hk
  simp only [Option.map_some, Option.getD_some, List.mem_map, List.mem_filter] at hk
  obtain ⟨e, ⟨he, hb⟩, rfl⟩ := hk
  exact hall e (by simpa using he) hb
theorem ready_not {listed : Array Bool} {i : Nat} (h : i ∈ Region.ready md ops listed) : ¬ Up listed i := fun hu => by
  have h0 := (mem_ready.1 h).1
  unfold Up at hu
  by_cases hlt : i < listed.size
  · simp [hlt] at h0 hu; rw [h0] at hu; exact Bool.noConfusion hu
  · simp [Array.getElem?_eq_none (Nat.le_of_not_lt hlt)] at hu
theorem ready_lt {listed : Array Bool} {i : Nat} (h : i ∈ Region.ready md ops listed) : i < ops.size := by
  obtain ⟨_, o, ho, _⟩ := mem_ready.1 h
  exact (Array.getElem?_eq_some_iff.1 ho).1
theorem up_set {listed : Array Bool} {i k : Nat} (h : Up (listed.setIfInBounds i true) k) (hne : k ≠ i) : Up listed k := by
  unfold Up at *
  rwa [getD_set_ne false (Ne.symm hne)] at h
/-- Where nothing may come up, all has come up. -/
theorem all_up (hB : backB md ops ops.size = true) {listed : Array Bool} (hsz : listed.size = ops.size) (hr : Region.ready md ops listed = []) : ∀ k, k < ops.size → Up listed k := by
  intro k
  induction k using Nat.strongRecOn with
  | _ k ih =>
    intro hk
    by_cases hu : Up listed k
    · exact hu
    · exfalso
      have ho : ops[k]? = some ops[k] := Array.getElem?_eq_getElem hk
      have hm : k ∈ Region.ready md ops listed := by
        refine mem_ready.2 ⟨?_, ops[k], ho, fun e he hb => ?_⟩
        · unfold Up at hu
          simp [show k < listed.size by omega] at hu ⊢
          exact hu
        · have h1 := List.all_eq_true.1 hB k (by simpa using hk)
          simp only [ho, Option.map_some, Option.getD_some] at h1
          have h2 := Array.all_eq_true_iff_forall_mem.1 h1 e he
          simp only [hb, Bool.not_true, Bool.false_or, decide_eq_true_eq] at h2
          exact ih e.on h2 (by omega)
      rw [hr] at hm
      cases hm
theorem count_set {l : List Bool} {i : Nat} (h : l[i]? = some false) : (l.set i true).count false + 1 = l.count false := by
  induction l generalizing i with
  | nil => simp at h
  | cons b l ih =>
    cases i with
    | zero => simp at h; subst h; simp
    | succ i =>
      simp only [List.getElem?_cons_succ] at h
      have := ih h
      simp only [List.set_cons_succ, List.count_cons]
      omega
theorem wpAny_inv (I : Array Bool → Act → World → Prop) (hB : backB md ops ops.size = true)
    (step : ∀ (i : Nat) (listed : Array Bool) (a : Act) (w : World), i ∈ Region.ready md ops listed → I listed a w → wpOp P ops Q i (fun a' w' => I (listed.setIfInBounds i true) a' w') a w)
    (done : ∀ (listed : Array Bool) (a : Act) (w : World), (∀ k, k < ops.size → Up listed k) → I listed a w → Q .normal a w) :
    ∀ (fuel : Nat) (listed : Array Bool) (a : Act) (w : World), listed.size = ops.size → listed.toList.count false ≤ fuel → I listed a w → wpAny P md ops Q fuel listed a w := by
  intro fuel
  induction fuel with
  | zero =>
    intro listed a w hsz hc hI
    have hr : Region.ready md ops listed = [] := by
      refine List.eq_nil_iff_forall_not_mem.2 fun i hi => ?_
      have h0 := (mem_ready.1 hi).1
      have hlt : i < listed.size := by rw [hsz]; exact ready_lt hi
      simp [hlt] at h0
      have : false ∈ listed.toList := by rw [← h0]; exact Array.getElem_mem_toList hlt
      have := List.count_pos_iff.2 this
      omega
    exact ⟨hr, done listed a w (all_up hB hsz hr) hI⟩
  | succ fuel ih =>
    intro listed a w hsz hc hI
    refine ⟨fun hr => done listed a w (all_up hB hsz hr) hI, fun i hi => ?_⟩
    refine wpOp_mono (fun a' w' h => ih _ a' w' (by simp [hsz]) ?_ h) (step i listed a w hi hI)
    have h0 := (mem_ready.1 hi).1
    have hlt : i < listed.size := by rw [hsz]; exact ready_lt hi
    simp [hlt] at h0
    have := count_set (l := listed.toList) (i := i) (by simp [hlt, h0])
    simp only [Array.toList_setIfInBounds]
    omega
theorem wp_region_inv (I : Array Bool → Act → World → Prop) {id : Nat} {a : Act} {w : World} (hm : P.follows .mixedOrders = true) (hB : backB .any ops ops.size = true)
    (start : I (Array.replicate ops.size false) a w.drew)
    (done : ∀ (listed : Array Bool) (a : Act) (w : World), (∀ k, k < ops.size → Up listed k) → I listed a w → Q .normal a w)
    (step : ∀ (i : Nat) (listed : Array Bool) (a : Act) (w : World), i < ops.size → ¬ Up listed i → (∀ k ∈ depL .any ops i, Up listed k) → I listed a w → wpOp P ops Q i (fun a' w' => I (listed.setIfInBounds i true) a' w') a w) : (Code.region id ops true).wp P Q a w :=
  wp_region_any hm (wpAny_inv I hB (fun i listed a w hr hI => step i listed a w (ready_lt hr) (ready_not hr) (ready_deps hr) hI) done _ _ _ _ (by simp) (by simp) start)
theorem not_up_new {n k : Nat} : ¬ Up (Array.replicate n false) k := fun h => by
  unfold Up at h
  by_cases hk : k < n <;> simp [hk] at h
end
end Go.Proofs.Ytkdclocjijmgpaa
