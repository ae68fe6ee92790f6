/-
  A region that draws its order: an operation that only reads, and for which the writing ones wait, may be taken first, where the others ahead of these leave the world as it is.
-/
import Derived.Test.YtnaiialcjimhbaaDoorQs
import Derived.RegionTactic
namespace Go.Proofs.YtnaiialcjimhbaaDoor
section
variable {P : Program} {ops : Array Oper} {md : Region.Mode} {Q : Exit → Act → World → Prop}
/-- In this world it yields v. -/
def YieldsW (P : Program) (ops : Array Oper) (w0 : World) (o : Oper) (v : Value) (a : Act) : Prop :=
  (Region.wanted o (yielded ops a.tmps) = true ∧ (execOp a.eval o).run P w0 = .ok (.value v) w0) ∨
  (Region.wanted o (yielded ops a.tmps) = false ∧ v = undef)
theorem YieldsW.of_same {w0 : World} {o : Oper} {v : Value} {a a' : Act} (hy : YieldsW P ops w0 o v a) (he : execOp a'.eval o = execOp a.eval o)
    (hw : Region.wanted o (yielded ops a'.tmps) = Region.wanted o (yielded ops a.tmps)) : YieldsW P ops w0 o v a' := by
  unfold YieldsW at *
  rw [he, hw]
  exact hy
theorem YieldsW.wpOp {w0 : World} {i : Nat} {o : Oper} {v : Value} {a : Act} (hi : ops[i]? = some o) (hy : YieldsW P ops w0 o v a)
    {K : Act → World → Prop} (h : K (a.put o.dst v) w0) : wpOp P ops Q i K a w0 := by
  unfold Go.wpOp
  simp only [hi]
  rcases hy with ⟨hw, hv⟩ | ⟨hw, rfl⟩
  · simp only [hw, if_true]
    refine .inl ?_
    unfold Oper.wp
    rw [hv]; exact h
  · simp only [hw]; exact h
theorem wpOp_putW {w0 : World} {j : Nat} {oi oj : Oper} {v : Value} (hj : ops[j]? = some oj) (hap : oi.apart ops oj = true)
    (hsi : ∀ cs b, oi.op ≠ .select cs b) (hsj : ∀ cs b, oj.op ≠ .select cs b)
    (hQ : ∀ c a w, Q (.panic c) (a.put oi.dst v) w → Q (.panic c) a w) {K : Act → World → Prop} {a : Act} {w : World}
    (hy : YieldsW P ops w0 oi v a) (h : wpOp P ops Q j K (a.put oi.dst v) w) :
    wpOp P ops Q j (fun a' w' => YieldsW P ops w0 oi v a' ∧ K (a'.put oi.dst v) w') a w := by
  obtain ⟨h1, h2, h3⟩ := Oper.apart_spec hap
  have keep : ∀ (a : Act), YieldsW P ops w0 oi v a → ∀ u, YieldsW P ops w0 oi v (a.put oj.dst u) := fun a hy u =>
    hy.of_same (execOp_put oi hsi a oj.dst u h3) (wanted_put oi a oj.dst u h3)
  have keepD : ∀ d, YieldsW P ops w0 oi v { a with defers := d :: a.defers } := fun d => hy.of_same rfl rfl
  unfold Go.wpOp at *
  simp only [hj] at *
  rw [wanted_put oj a oi.dst v h1] at h
  split
  · rename_i hw
    simp only [hw, if_true] at h
    rcases h with h | ⟨hasks, hlets⟩
    case inr => exact .inr ⟨by unfold Oper.asks at *; rw [execOp_put oj hsj a oi.dst v h1] at hasks; exact hasks, hlets⟩
    refine .inl ?_
    unfold Oper.wp at *
    rw [execOp_put oj hsj a oi.dst v h1] at h
    generalize (execOp a.eval oj).run P w = r at *
    cases r with
    | ok n w' =>
      cases n <;> simp only [Oper.upon] at h ⊢
      case value u => exact ⟨keep a hy u, by rw [← Act.put_comm a v u h2]; exact h⟩
      case skip => exact ⟨keep a hy _, by rw [← Act.put_comm a v undef h2]; exact h⟩
      case defer d =>
        refine ⟨keep _ (keepD d) _, ?_⟩
        rw [← Act.put_comm _ v undef h2, ← Act.put_defers]
        exact h
      case enter f args =>
        refine Calls.mono h fun e w'' he => ?_
        cases e with
        | returned u => exact ⟨keep a hy u, by rw [← Act.put_comm a v u h2]; exact he⟩
        | panicked c => exact hQ _ _ _ he
        | outgrown => exact he
      case row row args => exact Rows.mono h fun u w'' he => ⟨keep a hy u, by rw [← Act.put_comm a v u h2]; exact he⟩
    | halt x w' =>
      cases x <;> simp only [Oper.upon] at h ⊢
      case panic u => exact hQ _ _ _ h
  · rename_i hw
    simp only [hw] at h
    exact ⟨keep a hy _, by rw [← Act.put_comm a v undef h2]; exact h⟩
/-- Whatever order: while only the first m have come up, the world stands as it is. -/
def wpS (P : Program) (md : Region.Mode) (ops : Array Oper) (Q : Exit → Act → World → Prop) (m : Nat) (w0 : World) : Nat → Array Bool → Act → Prop
  | 0, listed, a => Region.ready md ops listed = [] ∧ Q .normal a w0
  | fuel + 1, listed, a => (Region.ready md ops listed = [] → Q .normal a w0) ∧ ∀ i, i ∈ Region.ready md ops listed →
      (i < m → wpOp P ops Q i (fun a' w' => w' = w0 ∧ wpS P md ops Q m w0 fuel (listed.setIfInBounds i true) a') a w0) ∧
      (m ≤ i → wpOp P ops Q i (fun a' w' => wpAny P md ops Q fuel (listed.setIfInBounds i true) a' w') a w0)
theorem wpS_any {m : Nat} {w0 : World} : ∀ (fuel : Nat) (listed : Array Bool) (a : Act), wpS P md ops Q m w0 fuel listed a → wpAny P md ops Q fuel listed a w0
  | 0, _, _, h => h
  | fuel + 1, listed, a, h => by
    refine ⟨h.1, fun i hi => ?_⟩
    by_cases him : i < m
    · exact wpOp_mono (fun a' w' h' => by obtain ⟨rfl, h'⟩ := h'; exact wpS_any fuel _ a' h') ((h.2 i hi).1 him)
    · exact (h.2 i hi).2 (by omega)
theorem wpS_first {m : Nat} {w0 : World} {i : Nat} {oi : Oper} {v : Value} (hi : ops[i]? = some oi) (him : i < m) (hsel : ∀ (j : Nat) (o : Oper) cs b, ops[j]? = some o → o.op ≠ .select cs b)
    (hQ : ∀ c a w, Q (.panic c) (a.put oi.dst v) w → Q (.panic c) a w)
    (hlate : ∀ j oj, ops[j]? = some oj → m ≤ j → ∃ e ∈ oj.after, Region.binds md e = true ∧ (e.on = i ∨ m ≤ e.on)) :
    ∀ (fuel : Nat) (listed : Array Bool) (a : Act),
      (∀ j oj, ops[j]? = some oj → j ≠ i → listed.getD j true = false → (∀ e ∈ oj.after, Region.binds md e = true → e.on ≠ i) → oi.apart ops oj = true) →
      i ∈ Region.ready md ops listed → (∀ k, m ≤ k → listed.getD k false = false) → YieldsW P ops w0 oi v a →
      wpS P md ops Q m w0 fuel (listed.setIfInBounds i true) (a.put oi.dst v) → wpS P md ops Q m w0 (fuel + 1) listed a := by
  intro fuel
  induction fuel with
  | zero =>
    intro listed a _ hr _ hy H
    refine ⟨fun h => (by rw [h] at hr; cases hr), fun j hj => ?_⟩
    by_cases hji : j = i
    · subst hji; exact ⟨fun _ => hy.wpOp hi ⟨rfl, H⟩, fun h => by omega⟩
    · have := ready_mono hj hji
      rw [H.1] at this
      cases this
  | succ fuel ih =>
    intro listed a hfree hr hl hy H
    refine ⟨fun h => (by rw [h] at hr; cases hr), fun j hj => ?_⟩
    by_cases hji : j = i
    · subst hji; exact ⟨fun _ => hy.wpOp hi ⟨rfl, H⟩, fun h => by omega⟩
    · have h1 := H.2 j (ready_mono hj hji)
      obtain ⟨hjun, oj, hoj, hall⟩ := mem_ready.1 hj
      have hnot : ∀ e ∈ oj.after, Region.binds md e = true → e.on ≠ i := fun e he hb heq => by
        have h1 := hall e he hb
        have h0 := (mem_ready.1 hr).1
        rw [heq] at h1
        rcases Nat.lt_or_ge i listed.size with h' | h'
        · simp [h'] at h0 h1; rw [h0] at h1; cases h1
        · simp [Array.getElem?_eq_none h'] at h1
      have hfree' : ∀ k ok, ops[k]? = some ok → k ≠ i → (listed.setIfInBounds j true).getD k true = false →
          (∀ e ∈ ok.after, Region.binds md e = true → e.on ≠ i) → oi.apart ops ok = true := fun k ok hk hki hun hno => by
        refine hfree k ok hk hki ?_ hno
        by_cases hjk : j = k
        · subst hjk; exact hjun
        · rw [getD_set_ne true hjk] at hun; exact hun
      refine ⟨fun hjm => ?_, fun hjm => ?_⟩
      · have h2 := wpOp_putW hoj (hfree j oj hoj hji hjun hnot) (fun cs b => hsel i oi cs b hi) (fun cs b => hsel j oj cs b hoj) hQ hy (h1.1 hjm)
        refine wpOp_mono (fun a' w' h3 => ⟨h3.2.1, ih (listed.setIfInBounds j true) a' hfree' (ready_mono hr (Ne.symm hji)) (fun k hk => by rw [getD_set_ne false (show j ≠ k by omega)]; exact hl k hk) h3.1 ?_⟩) h2
        rw [Array.setIfInBounds_comm _ _ hji]
        exact h3.2.2
      · obtain ⟨e, he, hb, heq⟩ := hlate j oj hoj hjm
        rcases heq with heq | heq
        · exact absurd heq (hnot e he hb)
        · have := hall e he hb
          rw [hl _ heq] at this
          cases this
theorem wpS_one {m : Nat} {w0 : World} {fuel : Nat} {listed : Array Bool} {a : Act} {j : Nat} {o : Oper} (hr : Region.ready md ops listed = [j]) (hj : j < m) (ho : ops[j]? = some o)
    (h : ∀ K : Act → World → Prop, (∀ a, wpS P md ops Q m w0 fuel (listed.setIfInBounds j true) a → K a w0) → if Region.wanted o (yielded ops a.tmps) = true then Oper.wp P o a w0 K Q else K (a.put o.dst undef) w0) :
    wpS P md ops Q m w0 (fuel + 1) listed a := by
  refine ⟨fun h0 => (by rw [hr] at h0; cases h0), fun i hi => ?_⟩
  rw [hr] at hi
  obtain rfl : i = j := by simpa using hi
  exact ⟨fun _ => wpOp_step ho fun K hK => h K fun a ha => hK a w0 ⟨rfl, ha⟩, fun h => by omega⟩
theorem wpS_two {m : Nat} {w0 : World} {fuel : Nat} {listed : Array Bool} {a : Act} {j k : Nat} {o o' : Oper} (hr : Region.ready md ops listed = [j, k]) (hj : j < m) (hk : m ≤ k) (ho : ops[j]? = some o) (ho' : ops[k]? = some o')
    (h : ∀ K : Act → World → Prop, (∀ a, wpS P md ops Q m w0 fuel (listed.setIfInBounds j true) a → K a w0) → if Region.wanted o (yielded ops a.tmps) = true then Oper.wp P o a w0 K Q else K (a.put o.dst undef) w0)
    (h' : ∀ K : Act → World → Prop, (∀ a w, wpAny P md ops Q fuel (listed.setIfInBounds k true) a w → K a w) → if Region.wanted o' (yielded ops a.tmps) = true then Oper.wp P o' a w0 K Q else K (a.put o'.dst undef) w0) :
    wpS P md ops Q m w0 (fuel + 1) listed a := by
  refine ⟨fun h0 => (by rw [hr] at h0; cases h0), fun i hi => ?_⟩
  rw [hr] at hi
  simp only [List.mem_cons, List.not_mem_nil, or_false] at hi
  rcases hi with rfl | rfl
  · exact ⟨fun _ => wpOp_step ho fun K hK => h K fun a ha => hK a w0 ⟨rfl, ha⟩, fun h => by omega⟩
  · exact ⟨fun h => by omega, fun _ => wpOp_step ho' fun K hK => h' K fun a w ha => hK a w ha⟩
theorem wpS_late {m : Nat} {w0 : World} {fuel : Nat} {listed : Array Bool} {a : Act} {k : Nat} {o' : Oper} (hr : Region.ready md ops listed = [k]) (hk : m ≤ k) (ho' : ops[k]? = some o')
    (h' : ∀ K : Act → World → Prop, (∀ a w, wpAny P md ops Q fuel (listed.setIfInBounds k true) a w → K a w) → if Region.wanted o' (yielded ops a.tmps) = true then Oper.wp P o' a w0 K Q else K (a.put o'.dst undef) w0) :
    wpS P md ops Q m w0 (fuel + 1) listed a := by
  refine ⟨fun h0 => (by rw [hr] at h0; cases h0), fun i hi => ?_⟩
  rw [hr] at hi
  obtain rfl : i = k := by simpa using hi
  exact ⟨fun h => by omega, fun _ => wpOp_step ho' fun K hK => h' K fun a w ha => hK a w ha⟩
def lateB (md : Region.Mode) (ops : Array Oper) (i m : Nat) : Bool :=
  (List.range ops.size).all fun j => decide (j < m) || match ops[j]? with
    | some o => o.after.any (fun e => Region.binds md e && (e.on == i || decide (m ≤ e.on)))
    | none => true
theorem lateB_spec {i m : Nat} (h : lateB md ops i m = true) (j : Nat) (oj : Oper) (ho : ops[j]? = some oj) (hm : m ≤ j) : ∃ e ∈ oj.after, Region.binds md e = true ∧ (e.on = i ∨ m ≤ e.on) := by
  have hlt : j < ops.size := (Array.getElem?_eq_some_iff.1 ho).1
  have h1 := List.all_eq_true.1 h j (by simpa using hlt)
  simp only [show ¬ j < m by omega, decide_false, Bool.false_or, ho] at h1
  rw [← Array.any_toList, List.any_eq_true] at h1
  obtain ⟨e, he, h2⟩ := h1
  simp only [Bool.and_eq_true, Bool.or_eq_true, beq_iff_eq, decide_eq_true_eq] at h2
  exact ⟨e, by simpa using he, h2⟩
def sB (ops : Array Oper) (i m : Nat) : Bool :=
  Region.noSelect ops && Region.free .any ops (Array.replicate ops.size false) i && (Region.ready .any ops (Array.replicate ops.size false)).contains i && lateB .any ops i m && decide (i < m) && decide (1 ≤ ops.size)
theorem wp_region_s (i m : Nat) {id : Nat} {oi : Oper} {v : Value} {a : Act} {w : World} {l : List Oper} (hm : P.follows .mixedOrders = true) (hB : sB l.toArray i m = true) (hi : l.toArray[i]? = some oi)
    (hQ : ∀ c a w, Q (.panic c) (a.put oi.dst v) w → Q (.panic c) a w) (hy : YieldsW P l.toArray w.drew oi v a)
    (h : wpS P .any l.toArray Q m w.drew (l.toArray.size - 1) ((Array.replicate l.toArray.size false).setIfInBounds i true) (a.put oi.dst v)) : (Code.region id l.toArray true).wp P Q a w := by
  simp only [sB, Bool.and_eq_true, decide_eq_true_eq] at hB
  obtain ⟨⟨⟨⟨⟨hs, hf⟩, hr⟩, hl⟩, him⟩, h1⟩ := hB
  refine wp_region_any hm ?_
  refine wpS_any (m := m) (w0 := w.drew) _ _ _ ?_
  have := wpS_first (md := .any) (Q := Q) hi him (Region.noSelect_spec hs) hQ (lateB_spec hl) (l.toArray.size - 1) (Array.replicate l.toArray.size false) a (Region.free_spec hi hf) (by simpa using hr) (fun k hk => by
    by_cases hk2 : k < l.toArray.size
    · simp at hk2; simp [hk2]
    · simp at hk2; simp [hk2]) hy h
  rw [Nat.sub_add_cancel h1] at this
  exact this
end
end Go.Proofs.YtnaiialcjimhbaaDoor
