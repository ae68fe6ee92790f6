/-
  A region that draws its order, whose first n operations are quiet in a class of worlds, and whose others wait for all of them and for one another: one walk of the text's order serves every order.
-/
import Derived.Test.YtndoibmpnhkmpaaGreatDoorRows
import Derived.WalkKit
import Derived.Deep.QuietTactic
import Derived.BigQuiet
import Derived.LoopN
import Derived.Deep.CutRange
import Derived.Laws.MathBits
import Derived.Laws.BytesArg
import Derived.Test.YtndoibmpnhkmpaaGreatDoorK1
namespace Go.Proofs.YtndoibmpnhkmpaaGreatDoor
section
variable {P : Program} {ops : Array Oper} {md : Region.Mode} {C : World → Prop}
/-- The first n have all come up. -/
def AllUp (listed : Array Bool) (n : Nat) : Prop := ∀ j, j < n → listed.getD j true = true
/-- Whatever order the first n come up in. -/
def wpFst (P : Program) (md : Region.Mode) (ops : Array Oper) (C : World → Prop) (n : Nat) (Q : Act → Prop) : Nat → Array Bool → Act → Prop
  | 0, listed, a => AllUp listed n ∧ Q a
  | fuel + 1, listed, a => (∃ i, i ∈ Region.ready md ops listed ∧ i < n) ∧
      ∀ i, i ∈ Region.ready md ops listed → i < n → qOp P ops C i (wpFst P md ops C n Q fuel (listed.setIfInBounds i true)) a
theorem not_up {listed : Array Bool} {n i : Nat} (h : i ∈ Region.ready md ops listed) (hn : i < n) : ¬ AllUp listed n := fun hu => by
  have h1 := (mem_ready.1 h).1
  rw [hu i hn] at h1
  exact Bool.noConfusion h1
theorem wpFst_first {n : Nat} {Q : Act → Prop} {i : Nat} {oi : Oper} {v : Value} (hi : ops[i]? = some oi) (hin : i < n)
    (hsel : ∀ (j : Nat) (o : Oper) cs b, ops[j]? = some o → o.op ≠ .select cs b) (fuel : Nat) :
    ∀ (listed : Array Bool) (a : Act),
      (∀ j oj, ops[j]? = some oj → j ≠ i → listed.getD j true = false → (∀ e ∈ oj.after, Region.binds md e = true → e.on ≠ i) → oi.apart ops oj = true) →
      i ∈ Region.ready md ops listed → YieldsIn P ops C oi v a →
      wpFst P md ops C n Q fuel (listed.setIfInBounds i true) (a.put oi.dst v) → wpFst P md ops C n Q (fuel + 1) listed a := by
  induction fuel with
  | zero =>
    intro listed a _ hr hy H
    refine ⟨⟨i, hr, hin⟩, fun j hj hjn => ?_⟩
    by_cases hji : j = i
    · subst hji; exact hy.qOp hi H
    · exact absurd H.1 (not_up (ready_mono hj hji) hjn)
  | succ fuel ih =>
    intro listed a hfree hr hy H
    refine ⟨⟨i, hr, hin⟩, fun j hj hjn => ?_⟩
    by_cases hji : j = i
    · subst hji; exact hy.qOp hi H
    · obtain ⟨hjun, oj, hoj, hall⟩ := mem_ready.1 hj
      have hno : ∀ e ∈ oj.after, Region.binds md e = true → e.on ≠ i := by
        intro e he hb heq
        have h1 := hall e he hb
        have h0 := (mem_ready.1 hr).1
        rw [heq] at h1
        by_cases hlt : i < listed.size
        · simp [hlt] at h0 h1; rw [h0] at h1; exact Bool.noConfusion h1
        · simp [Array.getElem?_eq_none (Nat.le_of_not_lt hlt)] at h1
      have h2 := qOp_put hoj (hfree j oj hoj hji hjun hno) (fun cs b => hsel i oi cs b hi) (fun cs b => hsel j oj cs b hoj) hy (H.2 j (ready_mono hj hji) hjn)
      refine qOp_mono (fun a' h3 => ih _ a' ?_ (ready_mono hr (Ne.symm hji)) h3.1 ?_) h2
      · intro k ok hk hki hun
        refine hfree k ok hk hki ?_
        by_cases hjk : j = k
        · rw [← hjk]; exact hjun
        · rw [getD_set_ne true hjk] at hun; exact hun
      · rw [Array.setIfInBounds_comm _ _ hji]; exact h3.2
/-- May the operations k, k + 1, .. (so many) be taken in this order, each free? -/
def lexTo (md : Region.Mode) (ops : Array Oper) : Nat → Nat → Array Bool → Bool
  | 0, _, _ => true
  | m + 1, k, listed => (Region.ready md ops listed).contains k && Region.free md ops listed k && lexTo md ops m (k + 1) (listed.setIfInBounds k true)
theorem wpFst_lex {n : Nat} {Q : Act → Prop} (hs : Region.noSelect ops = true) : ∀ (l : List Oper) (k : Nat) (listed : Array Bool) (a : Act), k + l.length = n → (∀ j, j < l.length → l[j]? = ops[k + j]?) → AllUp listed k →
    k + l.length ≤ listed.size → lexTo md ops l.length k listed = true → wpQuiet P ops C Q l a → wpFst P md ops C n Q l.length listed a
  | [], k, listed, a, hn, _, hu, _, _, h => by simp at hn; subst hn; exact ⟨hu, h⟩
  | o :: l, k, listed, a, hn, hl, hu, hsz, hB, h => by
    have h0 : ops[k]? = some o := by simpa using (hl 0 (by simp)).symm
    simp only [List.length_cons, lexTo, Bool.and_eq_true] at hB
    simp only [List.length_cons] at hn hsz
    obtain ⟨⟨hr, hf⟩, hB'⟩ := hB
    have hst : qOp P ops C k (wpQuiet P ops C Q l) a := by unfold qOp; simp only [h0]; exact h
    obtain ⟨v, hy, hK⟩ := yieldsIn_of_qOp h0 hst
    refine wpFst_first h0 (by omega) (Region.noSelect_spec hs) l.length listed a (Region.free_spec h0 hf) (by simpa using hr) hy ?_
    refine wpFst_lex hs l (k + 1) _ _ (by omega) (fun j hj => ?_) (fun j hj => ?_) (by simp; omega) hB' hK
    · have := hl (j + 1) (by simp; omega); simpa [Nat.add_assoc, Nat.add_comm 1 j] using this
    · by_cases hjk : k = j
      · subst hjk; simp [show k < listed.size by omega]
      · rw [getD_set_ne true hjk]; exact hu j (by omega)
theorem wpAny_more {Q : Exit → Act → World → Prop} : ∀ (m : Nat) (listed : Array Bool) (a : Act) (w : World), wpAny P md ops Q m listed a w → wpAny P md ops Q (m + 1) listed a w
  | 0, _, _, _, h => ⟨fun _ => h.2, fun i hi => by rw [h.1] at hi; simp at hi⟩
  | m + 1, _, _, _, h => ⟨h.1, fun i hi => wpOp_mono (fun a' w' h' => wpAny_more m _ a' w' h') (h.2 i hi)⟩
/-- May number k have come up, of the first n, though number j has not? -/
def without (md : Region.Mode) (ops : Array Oper) (n j : Nat) : Nat → Nat → Bool
  | 0, _ => false
  | f + 1, k => decide (k < n) && k != j && ((ops[k]?).map fun o => o.after.all fun e => !Region.binds md e || without md ops n j f e.on).getD true
/-- No edge of the first n leads on. -/
def backB (md : Region.Mode) (ops : Array Oper) (n : Nat) : Bool := (List.range n).all fun k => ((ops[k]?).map fun o => o.after.all fun e => !Region.binds md e || decide (e.on < k)).getD true
/-- Each of the others waits, whichever of the first n has not come up. -/
def waitsB (md : Region.Mode) (ops : Array Oper) (n : Nat) : Bool :=
  backB md ops n && (List.range n).all fun j => (List.range ops.size).all fun i => decide (i < n) || ((ops[i]?).map fun o => o.after.any fun e => Region.binds md e && !without md ops n j ops.size e.on).getD false
/-- What has come up has come up behind what it waits for. -/
def Closed (md : Region.Mode) (ops : Array Oper) (listed : Array Bool) : Prop := ∀ k o, ops[k]? = some o → listed.getD k true = true → ∀ e ∈ o.after, Region.binds md e = true → listed.getD e.on false = true
theorem Closed.set {listed : Array Bool} (h : Closed md ops listed) {i : Nat} (hi : i ∈ Region.ready md ops listed) : Closed md ops (listed.setIfInBounds i true) := by
  obtain ⟨h0, oi, hoi, hall⟩ := mem_ready.1 hi
  have hlt : i < listed.size := Decidable.byContradiction fun hx => by simp [Array.getElem?_eq_none (Nat.le_of_not_lt hx)] at h0
  have up : ∀ k, listed.getD k false = true → (listed.setIfInBounds i true).getD k false = true := fun k hk => by
    by_cases hik : i = k
    · subst hik; simp [hlt]
    · rw [getD_set_ne false hik]; exact hk
  intro k o ho hl e he hb
  by_cases hik : i = k
  · subst hik
    rw [hoi] at ho
    cases ho
    exact up _ (hall e he hb)
  · rw [getD_set_ne true hik] at hl
    exact up _ (h k o ho hl e he hb)
theorem without_of {n j : Nat} (hB : backB md ops n = true) {listed : Array Bool} (hc : Closed md ops listed) (hlate : ∀ i, n ≤ i → i < ops.size → listed.getD i true = false) (hsz : listed.size = ops.size) (hj : listed.getD j true = false) :
    ∀ (f k : Nat), k < f → listed.getD k false = true → without md ops n j f k = true
  | 0, _, h, _ => by omega
  | f + 1, k, hk, hl => by
    have hks : k < listed.size := Decidable.byContradiction fun hx => by simp [Array.getElem?_eq_none (Nat.le_of_not_lt hx)] at hl
    have hl' : listed.getD k true = true := by simp [hks] at hl ⊢; exact hl
    have hkn : k < n := Decidable.byContradiction fun hx => by rw [hlate k (by omega) (by omega)] at hl'; exact Bool.noConfusion hl'
    have hkj : k ≠ j := fun hx => by rw [hx, hj] at hl'; exact Bool.noConfusion hl'
    cases ho : ops[k]? with
    | none => simp [without, hkn, hkj, ho]
    | some o =>
      have hb0 := List.all_eq_true.1 hB k (by simpa using hkn)
      simp only [ho, Option.map_some, Option.getD_some] at hb0
      simp only [without, ho, Option.map_some, Option.getD_some, hkn, decide_true, Bool.true_and, Bool.and_eq_true, bne_iff_ne, ne_eq, hkj, not_false_eq_true, true_and]
      refine Array.all_eq_true_iff_forall_mem.2 fun e he => ?_
      by_cases hbe : Region.binds md e = true
      · have h1 := Array.all_eq_true_iff_forall_mem.1 hb0 e he
        simp [hbe] at h1
        simp [hbe, without_of hB hc hlate hsz hj f e.on (by omega) (hc k o ho hl' e he hbe)]
      · simp [hbe]
theorem ready_below {n : Nat} (hB : waitsB md ops n = true) {listed : Array Bool} (hc : Closed md ops listed) (hlate : ∀ i, n ≤ i → i < ops.size → listed.getD i true = false) (hsz : listed.size = ops.size)
    {j : Nat} (hj : j ∈ Region.ready md ops listed) (hjn : j < n) {i : Nat} (hi : i ∈ Region.ready md ops listed) : i < n := by
  refine Decidable.byContradiction fun hge => ?_
  unfold waitsB at hB
  rw [Bool.and_eq_true] at hB
  obtain ⟨h0, oi, hoi, hall⟩ := mem_ready.1 hi
  have hlt : i < ops.size := (Array.getElem?_eq_some_iff.1 hoi).1
  have h1 := List.all_eq_true.1 (List.all_eq_true.1 hB.2 j (by simpa using hjn)) i (by simpa using hlt)
  simp only [hge, decide_false, Bool.false_or, hoi, Option.map_some, Option.getD_some] at h1
  obtain ⟨e, he, h2⟩ : ∃ e ∈ oi.after, (Region.binds md e && !without md ops n j ops.size e.on) = true := by
    rw [← Array.any_toList, List.any_eq_true] at h1
    obtain ⟨e, he, h2⟩ := h1
    exact ⟨e, by simpa using he, h2⟩
  rw [Bool.and_eq_true] at h2
  have h3 := hall e he h2.1
  have hes : e.on < ops.size := Decidable.byContradiction fun hx => by simp [Array.getElem?_eq_none (show listed.size ≤ e.on by omega)] at h3
  rw [without_of hB.1 hc hlate hsz (mem_ready.1 hj).1 ops.size e.on hes h3] at h2
  simp at h2
theorem wpAny_of_fst {n m : Nat} {Q : Act → Prop} {Q' : Exit → Act → World → Prop} (hB : waitsB md ops n = true)
    (hQ : ∀ (listed : Array Bool) (a : Act) (w : World), listed.size = ops.size → AllUp listed n → (∀ i, n ≤ i → i < ops.size → listed.getD i true = false) → C w → Q a → wpAny P md ops Q' m listed a w) :
    ∀ (fuel : Nat) (listed : Array Bool) (a : Act) (w : World), Closed md ops listed → listed.size = ops.size → (∀ i, n ≤ i → i < ops.size → listed.getD i true = false) → C w → wpFst P md ops C n Q fuel listed a → wpAny P md ops Q' (fuel + m) listed a w
  | 0, listed, a, w, _, hsz, hlate, hw, h => by rw [Nat.zero_add]; exact hQ listed a w hsz h.1 hlate hw h.2
  | fuel + 1, listed, a, w, hc, hsz, hlate, hw, h => by
    obtain ⟨⟨j, hj, hjn⟩, hall⟩ := h
    rw [show fuel + 1 + m = (fuel + m) + 1 by omega]
    refine ⟨fun h0 => by rw [h0] at hj; simp at hj, fun i hi => ?_⟩
    have hin := ready_below hB hc hlate hsz hj hjn hi
    refine wpOp_of_qOp hw (fun a' w' hw' h' => wpAny_of_fst hB hQ fuel _ a' w' (hc.set hi) (by simp [hsz]) (fun k hk hks => ?_) hw' h') (hall i hi hin)
    rw [getD_set_ne true (by omega)]; exact hlate k hk hks
/-- Does each of the others come up alone? -/
def lonely (md : Region.Mode) (ops : Array Oper) : Nat → Nat → Array Bool → Bool
  | 0, _, listed => (Region.ready md ops listed).isEmpty
  | m + 1, k, listed => (Region.ready md ops listed) == [k] && lonely md ops m (k + 1) (listed.setIfInBounds k true)
theorem wpAny_lonely {Q : Exit → Act → World → Prop} : ∀ (l : List Oper) (k : Nat) (listed : Array Bool) (a : Act) (w : World), (∀ j, l[j]? = ops[k + j]?) → lonely md ops l.length k listed = true → wpList P ops Q l a w → wpAny P md ops Q l.length listed a w
  | [], _, _, _, _, _, hB, h => ⟨by simpa [lonely] using hB, h⟩
  | o :: l, k, listed, a, w, hl, hB, h => by
    have h0 : ops[k]? = some o := by simpa using (hl 0).symm
    simp only [List.length_cons, lonely, Bool.and_eq_true] at hB
    obtain ⟨hr, hB'⟩ := hB
    have hr' := eq_of_beq hr
    refine ⟨fun h1 => by rw [hr'] at h1; simp at h1, fun i hi => ?_⟩
    rw [hr'] at hi
    have : i = k := by simpa using hi
    subst this
    have h2 : wpOp P ops Q i (wpList P ops Q l) a w := by unfold wpOp; simp only [h0]; exact h
    exact wpOp_mono (fun a' w' h' => wpAny_lonely l (i + 1) _ a' w' (fun j => by have := hl (j + 1); simpa [Nat.add_assoc, Nat.add_comm 1 j] using this) hB' h') h2
def upTo (n size : Nat) : Array Bool := ((List.range size).map fun i => decide (i < n)).toArray
def qsB (n : Nat) (ops : Array Oper) : Bool :=
  Region.noSelect ops && lexTo .any ops n 0 (Array.replicate ops.size false) && waitsB .any ops n && lonely .any ops (ops.size - n) n (upTo n ops.size) && decide (n ≤ ops.size)
theorem eq_upTo {listed : Array Bool} {n size : Nat} (hsz : listed.size = size) (hu : AllUp listed n) (hl : ∀ i, n ≤ i → i < size → listed.getD i true = false) : listed = upTo n size := by
  refine Array.ext (by simp [upTo, hsz]) fun i h1 h2 => ?_
  have e : (upTo n size)[i] = decide (i < n) := by simp [upTo]
  rw [e]
  by_cases h : i < n
  · have := hu i h; simp [h1] at this; simp [this, h]
  · have := hl i (by omega) (by omega); simp [h1] at this; simp [this]; omega
theorem wp_region_qs (n : Nat) {id : Nat} {Q : Exit → Act → World → Prop} {a : Act} {w : World} {l : List Oper} (hm : P.follows .mixedOrders = true) (hB : qsB n l.toArray = true) (hC : C { w with drawn := w.drawn + 1 })
    (h : wpQuiet P l.toArray C (fun a' => ∀ w', C w' → wpList P l.toArray Q (l.drop n) a' w') (l.take n) a) : (Code.region id l.toArray true).wp P Q a w := by
  simp only [qsB, Bool.and_eq_true, decide_eq_true_eq] at hB
  obtain ⟨⟨⟨⟨hs, hlex⟩, hwait⟩, hlone⟩, hn⟩ := hB
  have hn' : n ≤ l.length := by simpa using hn
  refine wp_region_any hm ?_
  have hf := wpFst_lex (n := n) (md := .any) hs (l.take n) 0 (Array.replicate l.toArray.size false) a (by simp; omega) (fun j hj => by simp at hj; simp [show j < n by omega]) (fun j hj => by omega)
    (by simp; omega) (by simpa [Nat.min_eq_left hn'] using hlex) h
  have hlen : (l.take n).length = n := by simp; omega
  rw [hlen] at hf
  have := wpAny_of_fst (m := l.length - n) (Q' := Q) hwait (fun listed a' w' hsz hu hlate hw' hq => by
    have e := eq_upTo hsz hu hlate
    subst e
    have := wpAny_lonely (md := .any) (l.drop n) n (upTo n l.toArray.size) a' w' (fun j => by simp) (by simpa using hlone) (hq w' hw')
    simpa using this) n (Array.replicate l.toArray.size false) a { w with drawn := w.drawn + 1 } (fun k o ho hl => by have hk : k < l.toArray.size := (Array.getElem?_eq_some_iff.1 ho).1; simp at hk; simp [hk] at hl) (by simp) (fun i hi hi2 => by simp at hi2; simp [hi2]) hC hf
  rw [show n + (l.length - n) = l.toArray.size by simp; omega] at this
  exact this
/-- At the class 'w after some draws'. -/
theorem wp_region_qsd (n : Nat) {id : Nat} {Q : Exit → Act → World → Prop} {a : Act} {w : World} {l : List Oper} (hm : P.follows .mixedOrders = true) (hB : qsB n l.toArray = true)
    (h : wpQuiet P l.toArray (fun w' => ∃ q, w' = w.drewN q) (fun a' => ∀ w', (∃ q, w' = w.drewN q) → wpList P l.toArray Q (l.drop n) a' w') (l.take n) a) : (Code.region id l.toArray true).wp P Q a w :=
  wp_region_qs (C := fun w' => ∃ q, w' = w.drewN q) n hm hB ⟨1, rfl⟩ h
end
end Go.Proofs.YtndoibmpnhkmpaaGreatDoor
/-
  Der: words of memory, bytes lent and kept, the same bytes (as for digest).
-/
namespace Go.Proofs.YtndoibmpnhkmpaaGreatDoor
open Go.RowKit
theorem Tryz.und8 : Tryz.prog.underlying 25 = some (.slice 5) := by kernel_rfl
theorem Tryz.info8 : (Tryz.prog.info? 5).map (fun i => (i.zero, i.size, i.bytes)) = some (some (.int .u8 0), 1, 1) := by kernel_rfl
def U8 (x : Int) : Prop := 0 ≤ x ∧ x < 256
def U8s (xs : List Int) : Prop := ∀ x ∈ xs, U8 x
theorem U8s.at {xs : List Int} (h : U8s xs) (i : Nat) : U8 (xs.getD i 0) := by
  by_cases hi : i < xs.length
  · simp [hi]; exact h _ (List.getElem_mem hi)
  · simp [List.getD, List.getElem?_eq_none (Nat.le_of_not_lt hi), U8]
theorem U8s.append {xs ys : List Int} (h : U8s xs) (k : U8s ys) : U8s (xs ++ ys) := by
  intro y hy; rcases List.mem_append.1 hy with hy | hy
  · exact h y hy
  · exact k y hy
theorem U8s.take {xs : List Int} (h : U8s xs) (n : Nat) : U8s (xs.take n) := fun y hy => h y (List.mem_of_mem_take hy)
theorem U8s.drop {xs : List Int} (h : U8s xs) (n : Nat) : U8s (xs.drop n) := fun y hy => h y (List.mem_of_mem_drop hy)
set_option maxHeartbeats 1000000 in
theorem SameBytes_any {w : World} (v u : Value) (xs : List Int) (hx : Sl .u8 w v xs) (hy : Sl .u8 w u xs) (lx : xs.length ≤ 1152921504606846976) :
    Calls Tryz.prog 14 #[v, u] w fun e w' => e = .returned (.bool true) ∧ Below w.heap.size w w' := by
  obtain ⟨a1, c1, rfl, hc1, h1⟩ := hx
  obtain ⟨a2, c2, rfl, hc2, h2⟩ := hy
  by_cases hne : xs = []
  · subst hne
    simp only [List.length_nil]
    go_enter Tryz.func14, Tryz.ntmps14
    go_wp2
    go_loop [5] (fun i => i = .int .i64 0) (fun _ => 0)
    case atStart => rfl
    case round =>
      subst hrel
      go_wp2
      go_ret
      exact ⟨rfl, Below.refl _ _⟩
  · rcases h1 with h1 | ⟨b1, o1, rfl, hb1, hr1⟩
    · exact absurd h1 hne
    rcases h2 with h2 | ⟨b2, o2, rfl, hb2, hr2⟩
    · exact absurd h2 hne
    obtain ⟨n, hn⟩ : ∃ n, xs.length = n := ⟨_, rfl⟩
    rw [hn] at lx hc1 hc2 ⊢
    have HN : Hid (xs.length = n) := hn
    clear hn hne
    go_enter Tryz.func14, Tryz.ntmps14
    go_wp2
    go_loopw [5] (fun i wr => ∃ k : Nat, k ≤ n ∧ i = .int .i64 k ∧ Below w.heap.size w wr) (fun i _ => n - (intOf i).toNat)
    case atStart => exact ⟨0, Nat.zero_le _, rfl, Below.refl _ _⟩
    case round =>
      obtain ⟨k, hk, rfl, hB⟩ := hrel
      by_cases hkn : k < n
      · obtain ⟨x, hx⟩ : ∃ x, xs.getD k 0 = x := ⟨_, rfl⟩
        have hcx : wr.cell? ⟨b1, o1 + k, none⟩ = some (.int .u8 x) := by rw [← hx]; exact (below_rd hB hb1 hr1) k (by rw [HN.out]; exact hkn)
        have hcy : wr.cell? ⟨b2, o2 + k, none⟩ = some (.int .u8 x) := by rw [← hx]; exact (below_rd hB hb2 hr2) k (by rw [HN.out]; exact hkn)
        have HB : Hid (Below w.heap.size w wr) := hB
        clear hx hB hr1 hr2
        go_wp2
        go_quiet (fail)
        go_wp2
        go_roundw
        case rel => exact ⟨k + 1, by omega, by go_num, HB.out.trans ⟨rfl, rfl, rfl, Nat.le_refl _, fun _ _ => rfl⟩⟩
        case measure => simp [intOf]; omega
      · have HB : Hid (Below w.heap.size w wr) := hB
        clear hB
        go_wp2
        go_ret
        exact ⟨rfl, HB.out⟩
theorem arr_newB {k : IntKind} {e : TypeId} {w : World} {S : List Int} {cs : List Value} (h : cs = S.map (Value.int k)) : Arr k e (w.alloc (.cells cs.toArray e)) w.heap.size S := by subst h; exact Blk.new e w _
theorem Arr.sl {k : IntKind} {e : TypeId} {w : World} {b : Nat} {S : List Int} (h : Arr k e w b S) : Sl k w (.slice (some ⟨b, 0, none⟩) S.length S.length) S :=
  ⟨_, _, rfl, Nat.le_refl _, .inr ⟨b, 0, rfl, h.lt, by have := h.rd 0 S.length (by omega); simpa using this⟩⟩
theorem Tryz.e8 : Tryz.prog.underlying 5 = some (.int .u8) := by kernel_rfl
theorem Tryz.str : Tryz.prog.underlying 9 = some .string := by kernel_rfl
/-- A new row of numbers, marked or not, reads them. -/
theorem new_sl {k : IntKind} {e : TypeId} {w : World} (S : List Int) (fr : Nat × Nat) : Sl k (w.alloc (.cells (S.map (Value.int k)).toArray e fr)) (.slice (some ⟨w.heap.size, 0, none⟩) S.length S.length) S :=
  ⟨_, _, rfl, Nat.le_refl _, .inr ⟨w.heap.size, 0, rfl, by simp, fun i hi => by
    rw [cell_of_row _ _ _ (S.map (Value.int k)).toArray e fr (heap_alloc_new _ _)]
    simp [hi]⟩⟩
theorem sl_alloc {k : IntKind} {w : World} {v : Value} {S : List Int} (h : Sl k w v S) (o : Obj) : Sl k (w.alloc o) v S := below_sl ((Below.refl _ _).alloc (Nat.le_refl _) o) h
theorem al1 {w : World} (o : Obj) : Below w.heap.size w (w.alloc o) := (Below.refl _ _).alloc (Nat.le_refl _) o
theorem below_via {B : Nat} {w w1 w2 : World} (h : Below B w w1) (h' : Below w1.heap.size w1 w2) (hB : B ≤ w.heap.size) : Below B w w2 := h.trans (h'.mono (Nat.le_trans hB h.size))
theorem nil_sl (w : World) : Sl .u8 w (.slice none 0 0) [] := ⟨none, 0, rfl, Nat.le_refl _, .inl rfl⟩
theorem nil_u8 : U8s [] := by intro x hx; simp at hx
theorem al2' {a w : World} {o : Obj} (h : Below a.heap.size a w) : Below a.heap.size a (w.alloc o) := h.alloc h.size o
theorem arr_nw {k : IntKind} {e : TypeId} {w : World} {b : Nat} {cs : Array Value} {xs : List Int} (hb : b = w.heap.size) (h : cs = (xs.map (Value.int k)).toArray) : Arr k e (w.alloc (.cells cs e)) b xs := by subst hb; subst h; exact Blk.new e w _
/-- A lent list: a block from B on that holds X, the two marks, and whatever else. -/
def LentR8 (B : Nat) (w : World) (v : Value) (X : List Int) : Prop :=
  ∃ b S, v = .slice (some ⟨b, 0, none⟩) X.length S.length ∧ B ≤ b ∧ Arr .u8 5 w b S ∧ S.take (X.length + 2) = X ++ [90, 165] ∧ X.length + 2 ≤ S.length ∧ S.length ≤ maxLen
theorem LentR8.sl {B : Nat} {w : World} {v : Value} {X : List Int} (h : LentR8 B w v X) : Sl .u8 w v X := by
  obtain ⟨b, S, rfl, _, hA, ht, hl, _⟩ := h
  refine ⟨_, _, rfl, by omega, .inr ⟨b, 0, rfl, hA.lt, ?_⟩⟩
  have h1 := hA.rd 0 X.length (by omega)
  have e : S.take X.length = X := by
    have : (S.take (X.length + 2)).take X.length = S.take X.length := by rw [List.take_take]; congr 1; omega
    rw [← this, ht, List.take_left]
  rw [List.drop_zero, e] at h1; exact h1
theorem LentR8.below {B : Nat} {w w' : World} {v : Value} {X : List Int} (h : LentR8 B w v X) (hb : Below w.heap.size w w') : LentR8 B w' v X := by
  obtain ⟨b, S, rfl, h1, hA, h2⟩ := h
  exact ⟨b, S, rfl, h1, below_arr hb hA.lt hA, h2⟩
theorem LentR8.mono {B B' : Nat} {w : World} {v : Value} {X : List Int} (h : LentR8 B w v X) (hb : B' ≤ B) : LentR8 B' w v X := by
  obtain ⟨b, S, rfl, h1, h2⟩ := h
  exact ⟨b, S, rfl, by omega, h2⟩
set_option maxHeartbeats 1000000 in
theorem Lent8_any (X : List Int) (v : Value) (w : World) (hX : Sl .u8 w v X) (hl : X.length * 1 ≤ 140737488351232) :
    Calls Tryz.prog 10 #[v] w fun e w' => ∃ r, e = .returned r ∧ LentR8 w.heap.size w' r X ∧ Below w.heap.size w w' := by
  obtain ⟨a, c, hv, hc⟩ : ∃ a c, v = .slice a X.length c ∧ X.length ≤ c := by obtain ⟨a, c, h, h', _⟩ := hX; exact ⟨a, c, h, h'⟩
  subst hv
  go_enter Tryz.func10, Tryz.ntmps10
  go_wp2_with (first
    | (at_builtin; replace hr1 := hr1; refine wpList_ap rfl (.tmp 6) (.tmp 7) 25 25 rfl .u8 5 1 Tryz.und8 Tryz.info8 (by decide) w.heap.size _ X rfl (hr1.alloc _) _ [90, 165] rfl (src_sl Tryz.und8 (Arr.sl (S := [90, 165]) (arr_nw rfl rfl))) (by simp; omega) (by have := hB1.size; simp at this ⊢; omega) ?_; intro v2 w2 hr2 hg2; have hB2 := hg2.below (hr1.alloc _) (by have := hB1.size; simp at this ⊢; omega); obtain ⟨b2, S2, hv2, hb2, hA2, hl2, ht2, hm2⟩ := hr2.open (X.length + 2) (by simp) (by omega); subst hv2; clear hr2 hg2)
    | (at_builtin; refine wpList_ap rfl (.tmp 4) (.tmp 5) 25 25 rfl .u8 5 1 Tryz.und8 Tryz.info8 (by decide) w.heap.size _ [] rfl (Row.arr (S := []) (arr_nw rfl rfl) (Nat.le_refl _) (by decide)) _ X rfl (src_sl Tryz.und8 (below_sl (al1 _) hX)) (by simp; omega) (by simp) ?_; intro v1 w1 hr1 hg1; have hB1 := hg1.below (Row.arr (B := w.heap.size) (S := []) (arr_nw rfl rfl) (Nat.le_refl _) (by decide)) (by simp)))
  go_ret
  have hb1 : Below w.heap.size w w1 := (al2' (Below.refl _ _)).trans hB1
  have hb' : Below w.heap.size w w2 := (al2' hb1).trans hB2
  exact ⟨_, rfl, ⟨b2, S2, rfl, hb2, hA2, by simpa using ht2, hl2, hm2⟩, hb'⟩
set_option maxHeartbeats 1000000 in
theorem Kept8_any {B : Nat} {w : World} (v u : Value) (X : List Int) (hv : LentR8 B w v X) (hu : Sl .u8 w u X) (hl : X.length ≤ 140737488351232) :
    Calls Tryz.prog 16 #[v, u] w fun e w' => e = .returned (.bool true) ∧ Below w.heap.size w w' := by
  have hs := hv.sl
  obtain ⟨b, S, rfl, hb, hA, ht, hle, hm⟩ := hv
  obtain ⟨a', c', hu', _⟩ : ∃ a c, u = .slice a X.length c ∧ X.length ≤ c := by obtain ⟨a, c, h, h', _⟩ := hu; exact ⟨a, c, h, h'⟩
  subst hu'
  have e1 : S.getD X.length 0 = 90 := by
    have : (S.take (X.length + 2)).getD X.length 0 = S.getD X.length 0 := by simp [List.getD]
    rw [← this, ht]; simp [List.getD]
  have e2 : S.getD (X.length + 1) 0 = 165 := by
    have : (S.take (X.length + 2)).getD (X.length + 1) 0 = S.getD (X.length + 1) 0 := by simp [List.getD]
    rw [← this, ht]; simp [List.getD]
  have hc1 := hA.cell X.length (by omega)
  have hc2 := hA.cell (X.length + 1) (by omega)
  rw [e1] at hc1; rw [e2] at hc2
  clear e1 e2 ht
  have hmm : (S.length : Int) ≤ 9223372036854775807 := by unfold maxLen at hm; omega
  have hlt := hA.lt
  go_enter Tryz.func16, Tryz.ntmps16
  go_wp2_with (first
    | (go_at_call 14; refine (SameBytes_any _ _ X hs hu (by omega)).mono ?_; rintro e w' ⟨rfl, hB⟩; rw [← hB.cell (p := ⟨b, X.length, none⟩) hlt] at hc1; rw [← hB.cell (p := ⟨b, X.length + 1, none⟩) hlt] at hc2))
  go_ret
  exact ⟨rfl, hB⟩
theorem Lent8_n (X : List Int) (v : Value) (w : World) (n : Nat) (hn : X.length = n) (hX : Sl .u8 w v X) (hl : n ≤ 65536) :
    Calls Tryz.prog 10 #[v] w fun e w' => ∃ b S c, e = .returned (.slice (some ⟨b, 0, none⟩) n c) ∧ LentR8 w.heap.size w' (.slice (some ⟨b, 0, none⟩) n c) X ∧ w.heap.size ≤ b ∧ Arr .u8 5 w' b S ∧ n ≤ S.length ∧ Below w.heap.size w w' := by
  subst hn
  refine (Lent8_any X v w hX (by omega)).mono ?_
  rintro e w' ⟨r, rfl, h, hb⟩
  obtain ⟨b, S, rfl, h1, hA, h2, h3, h4⟩ := h
  exact ⟨b, S, _, rfl, ⟨b, S, rfl, h1, hA, h2, h3, h4⟩, h1, hA, by omega, hb⟩
theorem new1 {w : World} {e : TypeId} (x : Int) : Sl .u8 (w.alloc (.cells #[.int .u8 x] e)) (.slice (some ⟨w.heap.size, 0, none⟩) 1 1) [x] := new_sl [x] (0, 0)
theorem row0 {w : World} : Row .u8 5 w.heap.size (w.alloc (.cells #[] 5)) (.slice (some ⟨w.heap.size, 0, none⟩) 0 0) [] := Row.arr (S := []) (Blk.new 5 w []) (Nat.le_refl _) (by decide)
theorem al2 {a w : World} {o : Obj} (h : Below a.heap.size a w) : Below a.heap.size a (w.alloc o) := h.alloc h.size o
end Go.Proofs.YtndoibmpnhkmpaaGreatDoor
/-
  Der: the page's examples of numbers.
-/
namespace Go.Proofs.YtndoibmpnhkmpaaGreatDoor
open Go.RowKit
theorem int_val : bits BinOp.or IntKind.i64 (wrap64 (wrap64 (IntKind.i8.wrap 255) * 256)) 127 = -129 := by decide +kernel
end Go.Proofs.YtndoibmpnhkmpaaGreatDoor
/-
  Der: the reader's next byte.
-/
namespace Go.Proofs.YtndoibmpnhkmpaaGreatDoor
open Go.RowKit
theorem wp_gen {P : Program} {c : Code} {Q : Exit → Act → World → Prop} {a : Act} {W : World} (R : World → Prop) (hR : R W) (h : ∀ W', R W' → Code.wp P c Q a W') : Code.wp P c Q a W := h W hR
set_option maxHeartbeats 1000000 in
theorem isHead_ok {w : World} (cl tg : Int) (h0 : 0 ≤ cl) (h1 : cl ≤ 3) (h2 : 1 ≤ tg) (h3 : tg ≤ 30) :
    Calls Tryz.prog 131 #[.int .i64 cl, .int .i64 tg] w fun e w' => e = .returned (.bool true) ∧ w = w' := by
  have h4 : ¬ tg = 0 := by omega
  have h5 : (tg != 0) = true := by simpa using h4
  clear h4
  by_cases h : cl = 0
  · subst h
    go_enter Tryz.func131, Tryz.ntmps131
    go_wp2
    go_ret
    exact ⟨rfl, rfl⟩
  · have h6 : (cl != 0) = true := by simpa using h
    go_enter Tryz.func131, Tryz.ntmps131
    go_wp2
    go_ret
    exact ⟨rfl, rfl⟩
/-- A function with two results, the first in a block of its own. -/
theorem results_blk2 {P : Program} {fn : Func} {T : TypeId} {t u : Tmp} (h : fn.results = #[.cell t T, .tmp u]) {a : Array Value} {w : World} {b : Nat} {cs : List Value} {d : TypeDesc} {v : Value} (ha : a.getD t undef = .pointer (some ⟨b, 0, none⟩))
    (hb : Blk T w b cs) (hu : P.underlying T = some d) (hd : d.isRow = true) (hi : (P.info? T).map (·.size) = some cs.length) (hv : a.getD u undef = v) : (results fn a).run P w = .ok (.tuple #[.agg cs.toArray, v]) w := by
  have := run_loadVar_mid (P := P) w b 0 T cs d hb.whole hu hd hi
  have ha' : a[t]?.getD undef = .pointer (some ⟨b, 0, none⟩) := by simpa using ha
  have hv' : a[u]?.getD undef = v := by simpa using hv
  simp [results, h, ha', asAddr, this, hv']
theorem Upd.old {w w1 w2 : World} {o : Obj} {g : Nat} (h : Upd (w.alloc o) w1 g) (h2 : Upd w1 w2 w.heap.size) : Upd w w2 g := by
  have hs := (al1 (w := w) o).size
  have h1 := h.size
  refine ⟨h2.os.trans h.os, h2.tape.trans h.tape, h2.output.trans h.output, by have := h2.size; omega, fun j hj hne => ?_⟩
  rw [h2.block j (by omega) (fun e => by simp at e; omega), h.block j (by omega) hne]
  exact (al1 (w := w) o).block j hj
end Go.Proofs.YtndoibmpnhkmpaaGreatDoor
/-
  Der: decimal numbers of the page's example.
-/
namespace Go.Proofs.YtndoibmpnhkmpaaGreatDoor
open Go.RowKit
end Go.Proofs.YtndoibmpnhkmpaaGreatDoor
/-
  append of elements of m cells each (structs), in the words of Blk.
-/
namespace Go.Proofs.YtndoibmpnhkmpaaGreatDoor
open Go.RowKit

/-- A slice of the call's own whose n elements have m cells each: memory from block B on, the head of a whole block, or nil; its cells are xs. -/
def MRow (m : Nat) (e : TypeId) (B : Nat) (w : World) (v : Value) (n : Nat) (xs : List Value) : Prop :=
  xs.length = n * m ∧ ((v = .slice none 0 0 ∧ n = 0) ∨ ∃ b S c, v = .slice (some ⟨b, 0, none⟩) n c ∧ B ≤ b ∧ Blk e w b S ∧ S.length = c * m ∧ n ≤ c ∧ S.take (n * m) = xs ∧ c ≤ maxLen)
/-- What an append has done: only new memory, or the spare room of v's block has been written. -/
def MGrew (e : TypeId) (w w' : World) (v : Value) : Prop :=
  Below w.heap.size w w' ∨ ∃ b n c S, v = .slice (some ⟨b, 0, none⟩) n c ∧ Blk e w b S ∧ Upd w w' b
theorem MRow.nil (m : Nat) (e : TypeId) (B : Nat) (w : World) : MRow m e B w (.slice none 0 0) 0 [] := ⟨by simp, .inl ⟨rfl, rfl⟩⟩
theorem MRow.below {m : Nat} {e : TypeId} {B : Nat} {w w' : World} {v : Value} {n : Nat} {xs : List Value} (h : MRow m e B w v n xs) (hb : Below w.heap.size w w') : MRow m e B w' v n xs := by
  obtain ⟨h0, h⟩ := h
  refine ⟨h0, ?_⟩
  rcases h with h | ⟨b, S, c, rfl, h1, hA, h2⟩
  · exact .inl h
  · exact .inr ⟨b, S, c, rfl, h1, below_blk hb hA.lt hA, h2⟩
theorem MRow.ne {m : Nat} {e : TypeId} {B : Nat} {w : World} {v : Value} {n : Nat} {xs : List Value} (h : MRow m e B w v n xs) : ∃ a c, v = .slice a n c := by
  rcases h with ⟨_, ⟨rfl, rfl⟩ | ⟨b, S, c, rfl, _⟩⟩
  · exact ⟨_, _, rfl⟩
  · exact ⟨_, _, rfl⟩
theorem MRow.alloc {m : Nat} {e : TypeId} {B : Nat} {w : World} {v : Value} {n : Nat} {xs : List Value} (h : MRow m e B w v n xs) (o : Obj) : MRow m e B (w.alloc o) v n xs :=
  h.below ((Below.refl _ _).alloc (Nat.le_refl _) o)
theorem MGrew.below {m : Nat} {e : TypeId} {B : Nat} {w w' : World} {v : Value} {n : Nat} {xs : List Value} (h : MGrew e w w' v) (hr : MRow m e B w v n xs) (hB : B ≤ w.heap.size) : Below B w w' := by
  rcases h with h | ⟨b, n', c', S, rfl, _, hU⟩
  · exact h.mono hB
  · rcases hr with ⟨_, ⟨h, _⟩ | ⟨b', S', c, h, hb, _⟩⟩
    · cases h
    · simp only [Value.slice.injEq, Option.some.injEq, Addr.mk.injEq, and_true] at h
      obtain ⟨rfl, _, _⟩ := h
      exact hU.below (Below.refl _ _) hB hb
theorem run_apm {P : Program} (w : World) (t tx ty e : TypeId) (i : TypeInfo) (m : Nat) (z : Value) (ht : P.underlying t = some (.slice e)) (hi : P.info? e = some i) (hz : i.zero = some z) (hsize : i.size = m) (hzs : z.cells.size = m) (hby : 0 < i.bytes)
    {B : Nat} {v : Value} {n : Nat} {xs : List Value} (hr : MRow m e B w v n xs) {x : Value} {k : Nat} {ys : List Value} (hs : Src P m tx x k ys w)
    (hb : (n + k) * i.bytes ≤ 140737488355328) (hB : B ≤ w.heap.size) :
    ∃ v' w', (Builtin.append_ #[t, tx] ty #[v, x]).run P w = .ok v' w' ∧ MRow m e B w' v' (n + k) (xs ++ ys) ∧ MGrew e w w' v := by
  have hle : n + k ≤ 140737488355328 := Nat.le_trans (Nat.le_mul_of_pos_right _ hby) hb
  have hs1 : Src P i.size tx x k ys w := by rw [hsize]; exact hs
  obtain ⟨hxl, hr⟩ := hr
  have hxy : (xs ++ ys).length = (n + k) * m := by rw [List.length_append, hxl, hs.newsLen, Nat.add_mul]
  have grown : ∀ (base : Option Addr) (old : Nat), old < n + k → (Builtin.firstCells i.size n (.slice base n old)).run P w.drew = .ok xs.toArray w.drew →
      ∃ v' w', (Builtin.append_ #[t, tx] ty #[.slice base n old, x]).run P w = .ok v' w' ∧ MRow m e B w' v' (n + k) (xs ++ ys) ∧ MGrew e w w' (.slice base n old) := by
    intro base old ho hold
    have h1 := run_append_grow_src (P := P) w t tx ty e i z ht hi hz base n old _ hold x k _ hs1 ho (by omega) (growslice_fits (by omega) hb)
    refine ⟨_, _, h1, ⟨hxy, ?_⟩, .inl ((Below.refl _ _).drew.alloc (Nat.le_refl _) _)⟩
    have hge := grownCap_ge w (n + k) old e
    have hcm : grownCap w (n + k) old e ≤ maxLen := grownCap_le_maxLen w _ old e (by unfold maxLen; omega)
    refine .inr ⟨w.heap.size, xs ++ ys ++ (Builtin.zeroCells z.cells (grownCap w (n + k) old e - (n + k))).toList, grownCap w (n + k) old e, rfl, hB, ?_, ?_, hge, ?_, hcm⟩
    · unfold Blk
      have := heap_alloc_new w.drew (.cells ((xs ++ ys).toArray ++ Builtin.zeroCells z.cells (grownCap w (n + k) old e - (n + k))) e)
      rw [show (w.drew.heap.size) = w.heap.size from rfl] at this
      rw [this]; simp
    · rw [List.length_append, hxy]
      simp only [Builtin.zeroCells, Array.length_toList, Array.size_map, Array.size_range, hzs]
      rw [← Nat.add_mul]; congr 1; omega
    · exact List.take_left' hxy
  rcases hr with ⟨rfl, rfl⟩ | ⟨b, S, c, rfl, hBb, hA, hSl, hl, htk, hm⟩
  · have hx0 : xs = [] := List.eq_nil_of_length_eq_zero (by simpa using hxl)
    subst hx0
    by_cases h0 : k = 0
    · subst h0
      have hy : ys = [] := List.eq_nil_of_length_eq_zero (by simpa using hs.newsLen)
      subst hy
      refine ⟨.slice none 0 0, w, ?_, ⟨by simp, .inl ⟨rfl, rfl⟩⟩, .inl (Below.refl _ _)⟩
      have h1 := hs1.cells
      have h2 := hs1.len
      rcases hs1.kind with ⟨e', hk⟩ | hk
      · simp [Builtin.append_, run_underlying ht, run_underlying hk, sizeOf, typeInfo, hi, h2, h1]
      · simp [Builtin.append_, run_underlying ht, run_underlying hk, sizeOf, typeInfo, hi, h2, h1]
    · exact grown none 0 (by omega) (run_firstCells_none w.drew i.size 0 0 0)
  · by_cases hroom : n + k ≤ c
    · have hkm : n * m + k * m ≤ c * m := by rw [← Nat.add_mul]; exact Nat.mul_le_mul_right _ hroom
      have hst := run_storeCells_at P b (n * i.size) e ys 0 _ w hA (by rw [hsize, hs.newsLen, List.size_toArray, hSl]; omega) hs1.one
      simp only [Nat.add_zero] at hst
      have hrun : (Builtin.append_ #[t, tx] ty #[.slice (some ⟨b, 0, none⟩) n c, x]).run P w = .ok (.slice (some ⟨b, 0, none⟩) (n + k) c) (w.setRow b ((S.toArray.toList.take (n * i.size)) ++ ys ++ (S.toArray.toList.drop (n * i.size + ys.length))).toArray) := by
        rcases hs1.kind with ⟨e', hk⟩ | hk <;> simp [Builtin.append_, run_underlying ht, run_underlying hk, sizeOf, typeInfo, hi, hs1.len, hroom, hs1.cells, Addr.add_lit, hst]
      have hA' : Blk e (w.setRow b ((S.toArray.toList.take (n * i.size)) ++ ys ++ (S.toArray.toList.drop (n * i.size + ys.length))).toArray) b (S.take (n * m) ++ ys ++ S.drop (n * m + k * m)) := by
        unfold Blk
        rw [setRow_heap w b _ _ e _ hA]
        simp [hsize, hs.newsLen]
      refine ⟨_, _, hrun, ⟨hxy, .inr ⟨b, _, c, rfl, hBb, hA', ?_, hroom, ?_, hm⟩⟩, .inr ⟨b, n, c, S, rfl, hA, ⟨rfl, rfl, rfl, by simp [World.setRow], fun j _ hj => setRow_other w b j _ (fun e => hj (by simp [e]))⟩⟩⟩
      · rw [List.length_append, htk, hxy, List.length_drop, hSl, Nat.add_mul]; omega
      · rw [htk]; exact List.take_left' hxy
    · refine grown (some ⟨b, 0, none⟩) c (by omega) (run_firstCells_some w.drew i.size n ⟨b, 0, none⟩ n c _ (by rw [hsize]; exact hxl) (fun j u hj => ?_))
      have hj' : j < xs.length := (List.getElem?_eq_some_iff.1 hj).1
      have hadd : (⟨b, 0, none⟩ : Addr).add j = ⟨b, j, none⟩ := by simp [Addr.add] <;> omega
      have e1 : (w.drew).cell? ⟨b, j, none⟩ = w.cell? ⟨b, j, none⟩ := rfl
      rw [hadd, e1, hA.cell j, ← hj, ← htk, List.getElem?_take, if_pos (by omega)]

theorem wpList_apm {P : Program} {w : World} {ops : Array Oper} {rest : List Oper} {o : Oper} {a : Act} {Q : Exit → Act → World → Prop} (hgd : o.guard = none) (s x : Operand) (t tx : TypeId)
    (ho : o.op = .call { callee := .builtin .append, args := #[s, x], argTypes := #[t, tx] }) (m : Nat) (z : Value) (hzs : z.cells.size = m) (e : TypeId) (bytes : Nat) (ht : P.underlying t = some (.slice e))
    (hi : (P.info? e).map (fun i => (i.zero, i.size, i.bytes)) = some (some z, m, bytes)) (hby : 0 < bytes)
    (B : Nat) (v : Value) (n : Nat) (xs : List Value) (hs : a.eval s = v) (hr : MRow m e B w v n xs) (u : Value) (k : Nat) (ys : List Value) (hx : a.eval x = u) (hy : Src P m tx u k ys w)
    (hb : (n + k) * bytes ≤ 140737488355328) (hB : B ≤ w.heap.size)
    (h : ∀ v' w', MRow m e B w' v' (n + k) (xs ++ ys) → MGrew e w w' v → wpList P ops Q rest (a.put o.dst v') w') : wpList P ops Q (o :: rest) a w := by
  obtain ⟨i0, hi0, hz0, hz1, hz2⟩ := info_parts hi
  refine wpList_plain hgd fun K hK => ?_
  obtain ⟨v', w', hrun, h2, h3⟩ := run_apm (P := P) w t tx o.type e i0 m z ht hi0 hz0 hz1 hzs (by omega) hr hy (by rw [hz2]; exact hb) hB
  unfold Oper.wp execOp
  simp only [ho, resolve, invoke, builtin, Sem.run_bind, Sem.run_pure, Result.andThen_ok, List.map_toArray, List.map_cons, List.map_nil, hs, hx, hrun]
  exact hK _ _ (h v' w' h2 h3)
end Go.Proofs.YtndoibmpnhkmpaaGreatDoor
/-
  Der: a short length; bytes copied; a short element.
-/
namespace Go.Proofs.YtndoibmpnhkmpaaGreatDoor
open Go.RowKit
end Go.Proofs.YtndoibmpnhkmpaaGreatDoor
/-
  Der: a short element.
-/
namespace Go.Proofs.YtndoibmpnhkmpaaGreatDoor
open Go.RowKit
theorem rd_sl {w : World} {b c : Nat} {M : List Int} (hb : b < w.heap.size) (hr : Rd .u8 w b 0 M) (i j : Nat) (hij : i ≤ j) (hj : j ≤ M.length) (hc : j ≤ c) : Sl .u8 w (.slice (if c = i then some ⟨b, 0, none⟩ else some ⟨b, i, none⟩) (j - i) (c - i)) ((M.drop i).take (j - i)) := by
  have hl : ((M.drop i).take (j - i)).length = j - i := by rw [List.length_take, List.length_drop]; omega
  refine ⟨_, _, by rw [hl], by omega, ?_⟩
  by_cases h : c = i
  · exact .inl (List.eq_nil_of_length_eq_zero (by omega))
  · rw [if_neg h]
    refine .inr ⟨b, i, rfl, hb, fun k hk => ?_⟩
    have := hr (i + k) (by omega)
    rw [Nat.zero_add] at this
    rw [this, List.getD_eq_getElem?_getD, List.getD_eq_getElem?_getD, List.getElem?_take, if_pos (by omega), List.getElem?_drop]
theorem Row.upd {k : IntKind} {e : TypeId} {B : Nat} {w w' : World} {v : Value} {xs : List Int} {g : Nat} (h : Row k e B w v xs) (hu : Upd w w' g) (hg : g < B) : Row k e B w' v xs := by
  rcases h with h | ⟨b, S, rfl, h1, hA, h2⟩
  · exact .inl h
  · exact .inr ⟨b, S, rfl, h1, hu.arr hA (by omega), h2⟩
theorem Upd.more {w w1 w2 : World} {g m : Nat} (h1 : Upd w w1 g) (hu : Upd w1 w2 m) (hm : w.heap.size ≤ m) : Upd w w2 g :=
  ⟨hu.os.trans h1.os, hu.tape.trans h1.tape, hu.output.trans h1.output, Nat.le_trans h1.size hu.size, fun j hj hne => (hu.block j (Nat.lt_of_lt_of_le hj h1.size) (fun e => by simp at e; omega)).trans (h1.block j hj hne)⟩
theorem Below.upd {w w' : World} {g : Nat} (h : Below w.heap.size w w') : Upd w w' g := ⟨h.os, h.tape, h.output, h.size, fun j hj _ => h.block j hj⟩
end Go.Proofs.YtndoibmpnhkmpaaGreatDoor
/-
  Der: the page's example of a row of elements.
-/
namespace Go.Proofs.YtndoibmpnhkmpaaGreatDoor
open Go.RowKit
abbrev zeroT : Value := .agg #[.int .i64 0, .int .i64 0, .bool false, .slice none 0 0, .slice none 0 0]
theorem src_m {P : Program} {tx e' T : TypeId} (hk : P.underlying tx = some (.slice e')) {w : World} {b : Nat} (m : Nat) {vs : List Value} (h : Blk T w b vs) (hl : vs.length = 1 * m) (ho : ∀ u ∈ vs, u.oneCell' = true) : Src P m tx (.slice (some ⟨b, 0, none⟩) 1 1) 1 vs w := by
  refine Src.ofSlice w hk _ _ _ _ hl (fun j u hj => ?_) ho
  have hadd : (⟨b, 0, none⟩ : Addr).add j = ⟨b, j, none⟩ := by simp [Addr.add] <;> omega
  rw [hadd, h.cell j, hj]
theorem blk_nw {e : TypeId} {w : World} {b : Nat} {cs : Array Value} {xs : List Value} (hb : b = w.heap.size) (h : cs = xs.toArray) : Blk e (w.alloc (.cells cs e)) b xs := by subst hb; subst h; exact Blk.new e w _
theorem MRow.upd {m : Nat} {e : TypeId} {B : Nat} {w w' : World} {v : Value} {n : Nat} {xs : List Value} {g : Nat} (h : MRow m e B w v n xs) (hu : Upd w w' g) (hg : g < B) : MRow m e B w' v n xs := by
  obtain ⟨h0, h⟩ := h
  refine ⟨h0, ?_⟩
  rcases h with h | ⟨b, S, c, rfl, h1, hA, h2⟩
  · exact .inl h
  · exact .inr ⟨b, S, c, rfl, h1, hu.blk hA (by omega), h2⟩
theorem MRow.at {m : Nat} {e : TypeId} {B : Nat} {w : World} {v : Value} {n : Nat} {xs : List Value} (h : MRow m e B w v n xs) (hn : 0 < n) : ∃ b c, v = .slice (some ⟨b, 0, none⟩) n c ∧ n ≤ c ∧ B ≤ b ∧ b < w.heap.size ∧ ∀ i, i < n * m → w.cell? ⟨b, i, none⟩ = xs[i]? := by
  obtain ⟨h0, h⟩ := h
  rcases h with ⟨_, h⟩ | ⟨b, S, c, rfl, h1, hA, h2, h3, h4, h5⟩
  · omega
  · refine ⟨b, c, rfl, h3, h1, hA.lt, fun i hi => ?_⟩
    rw [hA.cell i, ← h4, List.getElem?_take, if_pos hi]
theorem tlv_one (a b : Int) (c : Bool) (a1 a2 : Option Addr) (n1 n2 c1 c2 : Nat) : ∀ u ∈ [Value.int .i64 a, .int .i64 b, .bool c, .slice a1 n1 c1, .slice a2 n2 c2], u.oneCell' = true := by
  intro u hu
  simp only [List.mem_cons, List.not_mem_nil, or_false] at hu
  rcases hu with rfl | rfl | rfl | rfl | rfl <;> rfl
def exM : List Int := [2, 1, 5, 48, 2, 5, 0]
end Go.Proofs.YtndoibmpnhkmpaaGreatDoor
/-
  Der: the page's example of an object identifier, its numbers.
-/
namespace Go.Proofs.YtndoibmpnhkmpaaGreatDoor
open Go.RowKit
theorem Tryz.und64 : Tryz.prog.underlying 88 = some (.slice 79) := by kernel_rfl
theorem Tryz.info64 : (Tryz.prog.info? 79).map (fun i => (i.zero, i.size, i.bytes)) = some (some (.int .u64 0), 1, 8) := by kernel_rfl
theorem new64 {w : World} {e : TypeId} (x : Int) : Sl .u64 (w.alloc (.cells #[.int .u64 x] e)) (.slice (some ⟨w.heap.size, 0, none⟩) 1 1) [x] := new_sl [x] (0, 0)
theorem and7_42 : bits .and .u8 42 127 = 42 := by decide +kernel
theorem and7_134 : bits .and .u8 134 127 = 6 := by decide +kernel
theorem and7_72 : bits .and .u8 72 127 = 72 := by decide +kernel
theorem or_42 : bits .or .u64 0 42 = 42 := by decide +kernel
theorem or_6 : bits .or .u64 0 6 = 6 := by decide +kernel
theorem or_840 : bits .or .u64 768 72 = 840 := by decide +kernel
end Go.Proofs.YtndoibmpnhkmpaaGreatDoor
/-
  Der: decimal digits appended; the page's example of an object identifier.
-/
namespace Go.Proofs.YtndoibmpnhkmpaaGreatDoor
open Go.RowKit
theorem src_49 {w : World} : Src Tryz.prog 1 9 (.string ⟨#[49]⟩) [(49 : Int)].length ([(49 : Int)].map (Value.int .u8)) w := Src.ofString w Tryz.str ⟨#[49]⟩
theorem src_50 {w : World} : Src Tryz.prog 1 9 (.string ⟨#[50]⟩) [(50 : Int)].length ([(50 : Int)].map (Value.int .u8)) w := Src.ofString w Tryz.str ⟨#[50]⟩
end Go.Proofs.YtndoibmpnhkmpaaGreatDoor
