/-
  Ber: the tree with whole strings is a tree; how long its data are: over lists; no Go text in sight.
-/
import Derived.Test.YtekacoeikjonmaaDoorK11
namespace Go.Proofs.YtekacoeikjonmaaDoor
open Go.RowKit
theorem setD_nil {x : Te} (h : x.d = []) : setD x = [] := by
  unfold setD
  rw [h]
  split
  · rfl
  · split <;> rfl
theorem setD_len (x : Te) : (setD x).length = x.d.length := by
  unfold setD
  split
  · split <;> simp
  · split
    · split <;> simp
    · rfl
theorem rowB_same {a a' : Te} (R : List Te) (h1 : a'.dp = a.dp) (h2 : a'.co = a.co) : rowB a' R = rowB a R := by
  cases R with
  | nil => rfl
  | cons y r => simp only [rowB, folB, h1, h2]
theorem rowB_drop {x' : Te} {d : Int} (hd : x'.dp = d) : ∀ {r : List Te} {a : Te}, rowB a r = true → rowB x' (r.dropWhile fun y => decide (d < y.dp)) = true
  | [], _, _ => rfl
  | y :: r, a, h => by
    simp only [rowB, Bool.and_eq_true] at h
    rw [List.dropWhile_cons]
    split
    · exact rowB_drop hd h.2
    · rename_i h1
      have h2 := h.1.2
      simp only [folB, decide_eq_true_eq] at h2
      simp only [decide_eq_true_eq] at h1
      simp only [rowB, Bool.and_eq_true, folB, decide_eq_true_eq]
      exact ⟨⟨h.1.1, h2.1, h2.2.1, .inl (by omega)⟩, h.2⟩
theorem setF_len : ∀ (f : Nat) (R : List Te), (setF f R).length ≤ R.length
  | 0, _ => by simp [setF]
  | _ + 1, [] => by simp [setF]
  | f + 1, x :: r => by
    rw [setF]
    split
    · have := setF_len f (r.dropWhile fun y => decide (x.dp < y.dp))
      have := (List.dropWhile_sublist (l := r) fun y => decide (x.dp < y.dp)).length_le
      simp only [List.length_cons]; omega
    · have := setF_len f r
      simp only [List.length_cons]; omega
theorem set_row : ∀ (f : Nat) (R : List Te) (a : Te), R.length ≤ f → rowB a R = true → rowB a (setF f R) = true
  | 0, R, _, _, _ => by simp [setF, rowB]
  | _ + 1, [], _, _, _ => by simp [setF, rowB]
  | f + 1, x :: r, a, hf, h => by
    simp only [rowB, Bool.and_eq_true] at h
    simp only [List.length_cons] at hf
    have hst := h.1.1
    have hfo := h.1.2
    rw [setF]
    split
    · have hl := (List.dropWhile_sublist (l := r) fun y => decide (x.dp < y.dp)).length_le
      simp only [rowB, Bool.and_eq_true]
      refine ⟨⟨?_, ?_⟩, set_row f _ _ (by omega) (rowB_drop rfl h.2)⟩
      · unfold standB at hst ⊢
        simp only [decide_eq_true_eq] at hst ⊢
        exact ⟨hst.1, hst.2.1, hst.2.2.1, hst.2.2.2.1, hst.2.2.2.2.1, fun h => by cases h⟩
      · unfold folB at hfo ⊢; exact hfo
    · simp only [rowB, Bool.and_eq_true]
      refine ⟨⟨?_, ?_⟩, set_row f _ _ (by omega) ((rowB_same (a := x) (a' := ⟨x.dp, x.cl, x.tg, x.co, setD x⟩) r rfl rfl).trans h.2)⟩
      · unfold standB at hst ⊢
        simp only [decide_eq_true_eq] at hst ⊢
        exact ⟨hst.1, hst.2.1, hst.2.2.1, hst.2.2.2.1, hst.2.2.2.2.1, fun h => setD_nil (hst.2.2.2.2.2 h)⟩
      · unfold folB at hfo ⊢; exact hfo
theorem set_tree {L : List Te} (h : treeB L = true) : treeB (setL L) = true := by
  cases L with
  | nil => cases h
  | cons x r =>
    simp only [treeB, Bool.and_eq_true, decide_eq_true_eq] at h
    obtain ⟨⟨⟨h1, h2⟩, hst⟩, h4⟩ := h
    have hlen := setF_len (x :: r).length (x :: r)
    unfold setL
    simp only [List.length_cons] at hlen h1 ⊢
    rw [setF] at hlen ⊢
    split
    · rename_i hc
      rw [if_pos hc] at hlen
      have hl := (List.dropWhile_sublist (l := r) fun y => decide (x.dp < y.dp)).length_le
      simp only [treeB, Bool.and_eq_true, decide_eq_true_eq]
      refine ⟨⟨⟨by omega, h2⟩, ?_⟩, set_row _ _ _ (by omega) (rowB_drop rfl h4)⟩
      unfold standB at hst ⊢
      simp only [decide_eq_true_eq] at hst ⊢
      exact ⟨hst.1, hst.2.1, hst.2.2.1, hst.2.2.2.1, hst.2.2.2.2.1, fun h => by cases h⟩
    · rename_i hc
      rw [if_neg hc] at hlen
      simp only [treeB, Bool.and_eq_true, decide_eq_true_eq]
      refine ⟨⟨⟨by omega, h2⟩, ?_⟩, set_row _ _ _ (by omega) ((rowB_same (a := x) (a' := ⟨x.dp, x.cl, x.tg, x.co, setD x⟩) r rfl rfl).trans h4)⟩
      unfold standB at hst ⊢
      simp only [decide_eq_true_eq] at hst ⊢
      exact ⟨hst.1, hst.2.1, hst.2.2.1, hst.2.2.2.1, hst.2.2.2.2.1, fun h => setD_nil (hst.2.2.2.2.2 h)⟩
theorem datL_app (A B : List Te) : datL (A ++ B) = datL A + datL B := by
  induction A with
  | nil => simp [datL]
  | cons x A ih => simp only [List.cons_append, datL, ih]; omega
theorem datL_flat (S : List Te) : (S.flatMap (·.d)).length = datL S := by
  induction S with
  | nil => rfl
  | cons x S ih => simp only [List.flatMap_cons, List.length_append, datL, ih]
theorem jbits_len : ∀ (S : List Te) (A : List Int), A.length ≤ (jbits A S).length ∧ (jbits A S).length ≤ A.length + datL S
  | [], A => by simp [jbits, datL]
  | x :: S, A => by
    rw [jbits]
    split
    · have := jbits_len S A; simp only [datL]; omega
    · have := jbits_len S (A.set 0 (x.d.getD 0 0) ++ x.d.drop 1)
      simp only [List.length_append, List.length_set, List.length_drop] at this
      simp only [datL]; omega
theorem joinB_len (t : Int) (S : List Te) : (joinB t S).length ≤ datL S + 1 := by
  unfold joinB
  split
  · have := (jbits_len S [0]).2; simp only [List.length_cons, List.length_nil] at this; omega
  · rw [datL_flat]; omega
theorem set_dat : ∀ (f : Nat) (R : List Te), datL (setF f R) ≤ datL R + R.length
  | 0, _ => by simp [setF, datL]
  | _ + 1, [] => by simp [setF, datL]
  | f + 1, x :: r => by
    rw [setF]
    split
    · have h1 := set_dat f (r.dropWhile fun y => decide (x.dp < y.dp))
      have h2 := (List.dropWhile_sublist (l := r) fun y => decide (x.dp < y.dp)).length_le
      have h3 := joinB_len x.tg (r.takeWhile fun y => decide (x.dp < y.dp))
      have h4 := datL_app (r.takeWhile fun y => decide (x.dp < y.dp)) (r.dropWhile fun y => decide (x.dp < y.dp))
      rw [List.takeWhile_append_dropWhile] at h4
      simp only [datL, setD_len, List.length_cons]
      omega
    · have h1 := set_dat f r
      simp only [datL, setD_len, List.length_cons]
      omega
/-- Segments that can be joined; an element that can be settled. -/
def segOk (t : Int) (S : List Te) : Prop := t = 3 → ∀ x ∈ S, x.co = false → 0 < x.d.length ∧ x.d.getD 0 0 ≤ 7
def setOk (x : Te) : Prop := (isB x 1 = true → 0 < x.d.length) ∧ (isB x 3 = true → 0 < x.d.length ∧ x.d.getD 0 0 ≤ 7)
/-- What stands right behind a place and is deeper. -/
def dpr (d : Int) (r : List Te) : List Te := r.takeWhile fun y => decide (d < y.dp)
def SetP (L : List Te) : Prop := ∀ i x, L[i]? = some x → (cstr x = true → segOk x.tg (dpr x.dp (L.drop (i + 1)))) ∧ (cstr x = false → setOk x)
theorem jbits_ok : ∀ {S : List Te} {A : List Int}, (∀ x ∈ S, x.co = false → 0 < x.d.length ∧ x.d.getD 0 0 ≤ 7) → 0 < A.length → A.getD 0 0 ≤ 7 → (jbits A S).getD 0 0 ≤ 7
  | [], A, _, _, h => h
  | x :: S, A, h, h0, h7 => by
    rw [jbits]
    split
    · exact jbits_ok (fun y hy => h y (List.mem_cons_of_mem _ hy)) h0 h7
    · rename_i hc
      refine jbits_ok (fun y hy => h y (List.mem_cons_of_mem _ hy)) (by simp; omega) ?_
      have := (h x (List.mem_cons_self ..) (by simpa using hc)).2
      cases A with
      | nil => simp at h0
      | cons a A => simpa using this
/-- A string that was joined can be settled. -/
theorem join_ok {x : Te} {S : List Te} (hc : cstr x = true) (h : segOk x.tg S) : setOk ⟨x.dp, x.cl, x.tg, false, joinB x.tg S⟩ := by
  unfold cstr at hc
  simp only [decide_eq_true_eq] at hc
  constructor
  · intro h1
    unfold isB at h1
    simp only [decide_eq_true_eq] at h1
    rw [h1.2] at hc
    have := hc.2.1
    exact absurd this (by decide)
  · intro h3
    unfold isB at h3
    simp only [decide_eq_true_eq] at h3
    simp only []
    unfold joinB
    rw [if_pos h3.2]
    have h4 := (jbits_len S [0]).1
    simp only [List.length_cons, List.length_nil] at h4
    exact ⟨by omega, jbits_ok (h h3.2) (by simp) (by simp)⟩
theorem jbits_u8 : ∀ {S : List Te} {A : List Int}, (∀ x ∈ S, U8s x.d) → U8s A → U8s (jbits A S)
  | [], _, _, h => h
  | x :: S, A, h, hA => by
    have hx := h x (List.mem_cons_self ..)
    rw [jbits]
    split
    · exact jbits_u8 (fun y hy => h y (List.mem_cons_of_mem _ hy)) hA
    · refine jbits_u8 (fun y hy => h y (List.mem_cons_of_mem _ hy)) fun z hz => ?_
      rcases List.mem_append.1 hz with h1 | h1
      · rcases List.mem_or_eq_of_mem_set h1 with h2 | h2
        · exact hA z h2
        · subst h2; exact hx.at 0
      · exact hx z (List.mem_of_mem_drop h1)
theorem joinB_u8 {t : Int} {S : List Te} (h : ∀ x ∈ S, U8s x.d) : U8s (joinB t S) := by
  unfold joinB
  split
  · exact jbits_u8 h (fun z hz => by simp only [List.mem_singleton] at hz; subst hz; unfold U8; omega)
  · intro z hz
    obtain ⟨x, hx, hz⟩ := List.mem_flatMap.1 hz
    exact h x hx z hz
end Go.Proofs.YtekacoeikjonmaaDoor
