/-
  Ber: what was settled stays so, and nothing is wrong with it (pure). (wip/mkb81.py)
-/
import Derived.Test.YtekacoeikjonmaaDoorK34
namespace Go.Proofs.YtekacoeikjonmaaDoor
open Go.RowKit
/-- Of every element: what is told of its seat; of a string of bits: its segments. -/
theorem chk_bits {L : List Te} (hT : treeB L = true) (hC : chkB L = none) : ∀ i x, L[i]? = some x → (cstr x = true → x.tg = 3 → ∀ y ∈ dpr x.dp (L.drop (i + 1)), y.co = false → bitF y.d = true) ∧ ∃ st mo, flB x st mo = 0 := by
  have hfl : ∀ j, j < L.length → flB (L.getD j noTe) ((seatsB L).getD j noSea).1 ((seatsB L).getD j noSea).2.2 = 0 := fun j hj => chk_none L _ _ _ hC j (Nat.zero_le _) (by omega)
  have hprim : ∀ j, j < L.length → isB (L.getD j noTe) 3 = true → (L.getD j noTe).co = false → bitF (L.getD j noTe).d = true := by
    intro j hj hb hco
    have h := hfl j hj
    unfold isB at hb
    simp only [decide_eq_true_eq] at hb
    unfold flB at h
    split at h
    · cases h
    · rw [if_neg (by omega), hb.2, if_neg (by decide), if_neg (by rw [hco]; decide), hco, if_neg (by decide)] at h
      split at h
      · cases h
      · rename_i h'
        simp only [not_or, formB] at h'
        have := h'.1
        simpa using this
  have seg : ∀ i, i < L.length → cstr (L.getD i noTe) = true → (L.getD i noTe).tg = 3 → ∀ j, i < j → j < L.length → (∀ m, i < m → m ≤ j → (L.getD i noTe).dp < (L.getD m noTe).dp) → isB (L.getD j noTe) 3 = true := by
    intro i hi hcs htg j
    induction j using Nat.strongRecOn with
    | _ j ih =>
      intro hij hj hdp
      obtain ⟨a, h1, h2, h3, h4, h5⟩ := last_up hT hij hj (hdp j hij (Nat.le_refl _))
      have hpar : cstr (L.getD a noTe) = true ∧ (L.getD a noTe).tg = 3 := by
        by_cases hai : a = i
        · subst hai; exact ⟨hcs, htg⟩
        · have hb := ih a h2 (by omega) (by omega) (fun m hm1 hm2 => hdp m hm1 (by omega))
          unfold isB at hb
          simp only [decide_eq_true_eq] at hb
          refine ⟨?_, hb.2⟩
          unfold cstr
          rw [hb.2, hb.1, h4]
          decide
      have d1 := tree_dp hT (show a < L.length by omega)
      have d2 := tree_dp hT hj
      have hlast : (seatF L j).1.getD ((L.getD j noTe).dp.toNat - 1) 0 = a := by
        refine lt_inv L j (by omega) _ (by omega) a h2 (by omega) fun m hm1 hm2 => ?_
        have := h5 m hm1 hm2
        omega
      have htag := seat_tag L hj (by omega) hlast hpar.1
      rw [hpar.2] at htag
      have h := hfl j hj
      rw [htag] at h
      unfold flB at h
      by_cases hb : isB (L.getD j noTe) 3 = true
      · exact hb
      · have hb' : isB (L.getD j noTe) (sgT 3) = false := by rw [show sgT 3 = 3 from rfl]; cases hx : isB (L.getD j noTe) 3 with | true => exact absurd hx hb | false => rfl
        rw [if_pos ⟨by decide, hb'⟩] at h
        cases h
  intro i x hx
  have hi : i < L.length := (List.getElem?_eq_some_iff.1 hx).1
  have hxd : L.getD i noTe = x := by rw [List.getD_eq_getElem?_getD, hx]; rfl
  refine ⟨fun hc ht3 y hy hco => ?_, _, _, by have := hfl i hi; rw [hxd] at this; exact this⟩
  · obtain ⟨t, ht, hty⟩ := List.mem_iff_getElem.1 hy
    have hpre : ∀ m, m ≤ t → ∃ h : i + 1 + m < L.length, x.dp < (L[i + 1 + m]).dp := by
      intro m hm
      have hm2 : m < (dpr x.dp (L.drop (i + 1))).length := by omega
      have hmem := List.getElem_mem hm2
      have hle := (List.takeWhile_prefix (l := L.drop (i + 1)) fun y => decide (x.dp < y.dp)).length_le
      have hlt : m < (L.drop (i + 1)).length := Nat.lt_of_lt_of_le hm2 hle
      have heq : (dpr x.dp (L.drop (i + 1)))[m] = (L.drop (i + 1))[m] := (List.takeWhile_prefix (l := L.drop (i + 1)) fun y => decide (x.dp < y.dp)).getElem hm2
      have hp := List.all_takeWhile (l := L.drop (i + 1)) (p := fun y => decide (x.dp < y.dp))
      rw [List.all_eq_true] at hp
      have h1 := hp _ hmem
      simp only [decide_eq_true_eq] at h1
      rw [heq, List.getElem_drop] at h1
      rw [List.length_drop] at hlt
      exact ⟨by omega, h1⟩
    obtain ⟨hjl, _⟩ := hpre t (Nat.le_refl _)
    have hyv : L.getD (i + 1 + t) noTe = y := by
      have heq : (dpr x.dp (L.drop (i + 1)))[t] = (L.drop (i + 1))[t]'(by rw [List.length_drop]; omega) := (List.takeWhile_prefix (l := L.drop (i + 1)) fun y => decide (x.dp < y.dp)).getElem ht
      rw [getD_ix hjl, ← hty, heq, List.getElem_drop]
    have hb := seg i hi (by rw [hxd]; exact hc) (by rw [hxd]; exact ht3) (i + 1 + t) (by omega) hjl (fun m hm1 hm2 => by
      obtain ⟨h1, h2⟩ := hpre (m - (i + 1)) (by omega)
      have hm : i + 1 + (m - (i + 1)) = m := by omega
      rw [hxd]
      rw [show L.getD m noTe = L.getD (i + 1 + (m - (i + 1))) noTe by rw [hm], getD_ix h1]
      exact h2)
    have hbf := hprim (i + 1 + t) hjl hb (by rw [hyv]; exact hco)
    rw [hyv] at hbf
    exact hbf
theorem fl_zero {x : Te} {st : Int} {mo : Bool} (h : flB x st mo = 0) : flB x 0 false = 0 := by
  unfold flB at *
  rw [if_neg (by simp)]
  split at h
  · cases h
  · split
    · rfl
    · rename_i hcl
      rw [if_neg hcl] at h
      split at h
      · cases h
      · rename_i hk
        rw [if_neg hk]
        split at h
        · cases h
        · rename_i hk2
          rw [if_neg hk2]
          split
          · rfl
          · rename_i hco
            rw [if_neg hco] at h
            split at h
            · cases h
            · rename_i hf
              simp only [not_or] at hf
              rw [if_neg (by intro h'; rcases h' with h' | h'; exact hf.1 h'; cases h'.1)]
theorem getD_set0 (d : List Int) (i k : Nat) (v : Int) : (d.set i v).getD k 0 = if i = k ∧ i < d.length then v else d.getD k 0 := getD_set d i k v 0
theorem setD_bit {x : Te} (h : bitF x.d = true) (h3 : isB x 3 = true) (h1 : isB x 1 = false) : bitF (setD x) = true := by
  unfold bitF at *
  simp only [decide_eq_true_eq] at *
  have hl := setD_len x
  have h0 : (setD x).getD 0 0 = x.d.getD 0 0 := by
    unfold setD
    rw [if_neg (by simp [h1]), if_pos h3]
    split
    · rename_i hz
      rw [getD_set0, if_neg (by omega)]
    · rfl
  rw [hl, h0]; exact h
theorem clr_idem (x s : Int) : clr (clr x s) s = clr x s := by
  unfold clr
  rw [Int.mul_ediv_cancel _ (by have : (0 : Int) < 2 ^ s.toNat := Int.pow_pos (by decide); omega)]
theorem setD_idem {x : Te} (h : isB x 3 = true → bitF x.d = true) : setD ⟨x.dp, x.cl, x.tg, x.co, setD x⟩ = setD x := by
  have i1 : isB ⟨x.dp, x.cl, x.tg, x.co, setD x⟩ 1 = isB x 1 := rfl
  have i3 : isB ⟨x.dp, x.cl, x.tg, x.co, setD x⟩ 3 = isB x 3 := rfl
  obtain ⟨D, hD⟩ : ∃ D, setD x = D := ⟨_, rfl⟩
  have hDl := setD_len x
  rw [hD] at i1 i3 hDl ⊢
  unfold setD
  rw [i1, i3]
  simp only []
  unfold setD at hD
  by_cases h1 : isB x 1 = true
  · rw [if_pos h1] at hD ⊢
    by_cases hz : x.d.getD 0 0 ≠ 0
    · rw [if_pos hz] at hD
      subst hD
      split
      · rw [List.set_set]
      · rfl
    · rw [if_neg hz] at hD
      subst hD
      rw [if_neg hz]
  · rw [if_neg h1] at hD ⊢
    by_cases h3 : isB x 3 = true
    · rw [if_pos h3] at hD ⊢
      have hb := h h3
      unfold bitF at hb
      simp only [decide_eq_true_eq] at hb
      by_cases hz : x.d.getD 0 0 ≠ 0
      · rw [if_pos hz] at hD
        have h0 : D.getD 0 0 = x.d.getD 0 0 := by rw [← hD, getD_set0, if_neg (by omega)]
        have hL : D.getD (x.d.length - 1) 0 = clr (x.d.getD (x.d.length - 1) 0) (x.d.getD 0 0) := by rw [← hD, getD_set0, if_pos ⟨rfl, by omega⟩]
        rw [if_pos (by rw [h0]; exact hz), hDl, h0, hL, clr_idem, ← hD, List.set_set]
      · rw [if_neg hz] at hD
        subst hD
        rw [if_neg hz]
    · rw [if_neg h3]
theorem formB_1 (d : List Int) : formB 1 d = decide (d.length = 1) := by unfold formB; rw [if_pos rfl]
theorem formB_3 (d : List Int) : formB 3 d = bitF d := by unfold formB; rw [if_neg (by decide), if_neg (by decide), if_neg (by decide), if_neg (by decide), if_pos rfl]
theorem form_set {x : Te} (hcl : x.cl = 0) (h : formB x.tg x.d = true) : formB x.tg (setD x) = true := by
  by_cases h1 : x.tg = 1
  · rw [h1, formB_1] at h ⊢
    rw [setD_len]; exact h
  · by_cases h3 : x.tg = 3
    · have hb3 : isB x 3 = true := by unfold isB; simp [hcl, h3]
      have hb1 : isB x 1 = false := by unfold isB; simp [h1]
      rw [h3, formB_3] at h ⊢
      exact setD_bit h hb3 hb1
    · have : setD x = x.d := by
        unfold setD isB
        rw [if_neg (by simp [h1]), if_neg (by simp [h3])]
      rw [this]; exact h
/-- An element as it is in the one way. -/
def Fin' (x : Te) : Prop := cstr x = false ∧ flB x 0 false = 0 ∧ setD x = x.d
theorem fin_one {x : Te} (hc : cstr x = false) (hf : flB x 0 false = 0) : Fin' ⟨x.dp, x.cl, x.tg, x.co, setD x⟩ := by
  refine ⟨hc, ?_, setD_idem fun h3 => ?_⟩
  · unfold flB at *
    rw [if_neg (by simp)] at *
    simp only [] at *
    split
    · rfl
    · rename_i hcl
      rw [if_neg hcl] at hf
      split
      · rename_i hk; rw [if_pos hk] at hf; cases hf
      · rename_i hk
        rw [if_neg hk] at hf
        split
        · rename_i hk2; rw [if_pos hk2] at hf; cases hf
        · rename_i hk2
          rw [if_neg hk2] at hf
          split
          · rfl
          · rename_i hco
            rw [if_neg hco] at hf
            split at hf
            · cases hf
            · rename_i hff
              simp only [not_or] at hff
              have hfo : formB x.tg x.d = true := by simpa using hff.1
              have := form_set (by omega) hfo
              rw [if_neg (by rw [this]; simp)]
  · unfold isB at h3
    simp only [decide_eq_true_eq] at h3
    have hco : x.co = false := by
      cases hco : x.co with
      | false => rfl
      | true =>
        unfold cstr at hc
        rw [h3.1, h3.2, hco] at hc
        exact absurd hc (by decide)
    unfold flB at hf
    rw [if_neg (by simp), if_neg (by omega), h3.2, if_neg (by decide), if_neg (by rw [hco]; decide), hco, if_neg (by decide)] at hf
    split at hf
    · cases hf
    · rename_i h'
      simp only [not_or, formB] at h'
      have := h'.1
      simpa using this
theorem jbits_bit : ∀ {S : List Te} {A : List Int}, bitF A = true → (∀ y ∈ S, y.co = false → bitF y.d = true) → bitF (jbits A S) = true
  | [], A, hA, _ => by rw [jbits]; exact hA
  | x :: S, A, hA, hS => by
    rw [jbits]
    have hS' : ∀ y ∈ S, y.co = false → bitF y.d = true := fun y hy => hS y (List.mem_cons_of_mem _ hy)
    split
    · exact jbits_bit hA hS'
    · rename_i hc
      refine jbits_bit ?_ hS'
      have hx := hS x (List.mem_cons_self ..) (by simpa using hc)
      unfold bitF at hA hx ⊢
      simp only [decide_eq_true_eq] at hA hx ⊢
      have h0 : (A.set 0 (x.d.getD 0 0) ++ x.d.drop 1).getD 0 0 = x.d.getD 0 0 := by
        cases A with
        | nil => simp at hA
        | cons a A => rfl
      rw [h0, List.length_append, List.length_set, List.length_drop]
      omega
theorem fin_str {x : Te} {S : List Te} (hc : cstr x = true) (hS : x.tg = 3 → ∀ y ∈ S, y.co = false → bitF y.d = true) : Fin' ⟨x.dp, x.cl, x.tg, false, setD ⟨x.dp, x.cl, x.tg, false, joinB x.tg S⟩⟩ := by
  have hc' := hc
  unfold cstr at hc'
  simp only [decide_eq_true_eq] at hc'
  have hbit : x.tg = 3 → bitF (joinB x.tg S) = true := fun h3 => by
    unfold joinB
    rw [if_pos h3]
    exact jbits_bit (by decide) (hS h3)
  have hne : ¬ x.tg = 1 ∧ ¬ (x.tg = 2 ∨ x.tg = 10) ∧ ¬ x.tg = 5 ∧ ¬ x.tg = 6 := by
    have hk := hc'.2.1
    refine ⟨fun h => ?_, fun h => ?_, fun h => ?_, fun h => ?_⟩
    · rw [h] at hk; exact absurd hk (by decide)
    · rcases h with h | h <;> (rw [h] at hk; exact absurd hk (by decide))
    · rw [h] at hk; exact absurd hk (by decide)
    · rw [h] at hk; exact absurd hk (by decide)
  refine fin_one (x := ⟨x.dp, x.cl, x.tg, false, joinB x.tg S⟩) (by unfold cstr; simp) ?_
  unfold flB
  simp only []
  rw [if_neg (by simp), if_neg (by simp [hc'.1]), hc'.2.1, if_neg (by decide), if_neg (by decide), if_neg (by decide)]
  have hform : formB x.tg (joinB x.tg S) = true := by
    unfold formB
    rw [if_neg hne.1, if_neg hne.2.1, if_neg hne.2.2.1, if_neg hne.2.2.2]
    split
    · rename_i h3; exact hbit h3
    · rfl
  rw [hform, if_neg (by simp)]
/-- What is asked of a row that is settled. -/
def SetQ (R : List Te) : Prop := ∀ i x, R[i]? = some x → (cstr x = true → x.tg = 3 → ∀ y ∈ dpr x.dp (R.drop (i + 1)), y.co = false → bitF y.d = true) ∧ flB x 0 false = 0
theorem SetQ.drop {R : List Te} (h : SetQ R) (k : Nat) : SetQ (R.drop k) := fun i x hx => by
  rw [List.getElem?_drop] at hx
  have := h (k + i) x hx
  rw [List.drop_drop]
  rw [show k + (i + 1) = k + i + 1 by omega]
  exact this
theorem setF_fin : ∀ (f : Nat) (R : List Te), SetQ R → ∀ u ∈ setF f R, Fin' u
  | 0, _, _, u, hu => by simp [setF] at hu
  | _ + 1, [], _, u, hu => by simp [setF] at hu
  | f + 1, x :: r, h, u, hu => by
    have h0 := h 0 x rfl
    rw [setF] at hu
    split at hu
    · rename_i hc
      rcases List.mem_cons.1 hu with rfl | hu
      · exact fin_str hc (fun h3 => h0.1 hc h3)
      · have hd : r.dropWhile (fun y => decide (x.dp < y.dp)) = (x :: r).drop (1 + (r.takeWhile fun y => decide (x.dp < y.dp)).length) := by
          have h2 := congrArg (List.drop (r.takeWhile fun y => decide (x.dp < y.dp)).length) (List.takeWhile_append_dropWhile (p := fun y : Te => decide (x.dp < y.dp)) (l := r))
          rw [List.drop_left] at h2
          rw [Nat.add_comm, List.drop_succ_cons]
          exact h2
        rw [hd] at hu
        exact setF_fin f _ (h.drop _) u hu
    · rename_i hc
      rcases List.mem_cons.1 hu with rfl | hu
      · exact fin_one (by simpa using hc) h0.2
      · exact setF_fin f _ (h.drop 1) u hu
theorem set_fin {L : List Te} (hT : treeB L = true) (hC : chkB L = none) : ∀ u ∈ setL L, Fin' u :=
  setF_fin _ _ fun i x hx => by
    have h := chk_bits hT hC i x hx
    obtain ⟨h1, st, mo, h2⟩ := h
    exact ⟨h1, fl_zero h2⟩
theorem setF_same : ∀ (f : Nat) (R : List Te), R.length ≤ f → (∀ u ∈ R, Fin' u) → setF f R = R
  | 0, R, h, _ => by
    have : R = [] := List.eq_nil_of_length_eq_zero (by omega)
    subst this; rfl
  | _ + 1, [], _, _ => rfl
  | f + 1, x :: r, h, hu => by
    have h0 := hu x (List.mem_cons_self ..)
    rw [setF, if_neg (by rw [h0.1]; simp), h0.2.2, setF_same f r (by simpa using h) fun u h => hu u (List.mem_cons_of_mem _ h)]
theorem seat_none {A : List Te} (hA : ∀ u ∈ A, cstr u = false) : ∀ i, (seatF A i).2 = List.replicate A.length noSea
  | 0 => rfl
  | i + 1 => by
    show (seatS A i (seatF A i).1 (seatF A i).2).2 = _
    have hc : ∀ k, cstr (A.getD k noTe) = false := fun k => by
      by_cases hk : k < A.length
      · rw [getD_ix hk]; exact hA _ (List.getElem_mem _)
      · rw [List.getD_eq_getElem?_getD, List.getElem?_eq_none (by omega)]; decide
    unfold seatS
    simp only []
    rw [hc]
    simp only [Bool.false_eq_true, if_false, ite_self]
    exact seat_none hA i
theorem more_none {A : List Te} : ∀ k, (moreF A (List.replicate A.length noSea) k).1 = List.replicate A.length noSea
  | 0 => rfl
  | k + 1 => by
    have ih := more_none (A := A) k
    have hq : ∀ i, ((List.replicate A.length noSea).getD i noSea).1 = 0 := fun i => by
      rw [List.getD_eq_getElem?_getD, List.getElem?_replicate]
      split <;> rfl
    unfold moreF
    simp only []
    rw [if_neg (by rw [ih, hq]; simp)]
    exact ih
theorem chkF_none {A : List Te} : ∀ (f i : Nat), (∀ j, j < i + f → i ≤ j → flB (A.getD j noTe) 0 false = 0) → chkF A (List.replicate A.length noSea) f i = none
  | 0, _, _ => rfl
  | f + 1, i, h => by
    have hq : (List.replicate A.length noSea).getD i noSea = noSea := by
      rw [List.getD_eq_getElem?_getD, List.getElem?_replicate]
      split <;> rfl
    unfold chkF
    rw [hq]
    have h0 : flB (A.getD i noTe) 0 false = 0 := h i (by omega) (Nat.le_refl _)
    rw [if_neg (by show ¬ flB (A.getD i noTe) 0 false ≠ 0; rw [h0]; simp)]
    exact chkF_none f (i + 1) fun j h1 h2 => h j (by omega) (by omega)
/-- Nothing is wrong with a row in the one way, and it is settled. -/
theorem fin_all {A : List Te} (h : ∀ u ∈ A, Fin' u) : setL A = A ∧ chkB A = none := by
  refine ⟨setF_same _ _ (Nat.le_refl _) h, ?_⟩
  unfold chkB seatsB
  rw [seat_none (fun u hu => (h u hu).1), more_none]
  refine chkF_none _ _ fun j h1 _ => ?_
  rw [getD_ix (by omega)]
  exact (h _ (List.getElem_mem _)).2.1
theorem nrm_perm {S A : List Te} (h : NrmR S A) : A.Perm S := by
  obtain ⟨Y, Z, R, hY, hM, _, _, hp, hL⟩ := h
  have h1 : Z.map (fun z : Nv => z.nd.1) = S := by
    have := MeasZ.row hM
    have h2 := congrArg (List.map (·.1)) this
    rw [nds_fst] at h2
    rw [← hY, ← h2, List.map_map]
    rfl
  rw [← hL, ← h1]; exact hp.map _
/-- The tree in the one way: settled, nothing wrong. -/
theorem nrm_fin {L A : List Te} (hT : treeB L = true) (hC : chkB L = none) (hN : NrmR (setL L) A) : setL A = A ∧ chkB A = none :=
  fin_all fun u hu => set_fin hT hC u ((nrm_perm hN).mem_iff.1 hu)
end Go.Proofs.YtekacoeikjonmaaDoor
/-
  Ber: what ToDer tells, as a relation with one answer; what it lays comes to itself (pure).
-/
namespace Go.Proofs.YtekacoeikjonmaaDoor
open Go.RowKit
theorem row_of_good : ∀ {r : List Nv} {z : Nv}, Good (z :: r) → (∀ u ∈ r, 1 ≤ u.nd.1.dp ∧ u.nd.1.dp < 64) → rowB z.nd.1 (r.map fun z : Nv => z.nd.1) = true
  | [], _, _, _ => rfl
  | y :: r, z, h, hd => by
    have hy := hd y (List.mem_cons_self ..)
    have ih := row_of_good h.1 (fun u hu => hd u (List.mem_cons_of_mem _ hu))
    have hs : standB y.nd.1 = true := h.1.2.2.2.1
    have hh : y.nd.1.dp ≤ z.nd.1.dp + 1 := h.2.2.2.2.2.2
    have hf : folB z.nd.1 y.nd.1 = true := by
      unfold folB
      simp only [decide_eq_true_eq]
      refine ⟨hy.1, hy.2, ?_⟩
      by_cases hle : y.nd.1.dp ≤ z.nd.1.dp
      · exact .inl hle
      · refine .inr ⟨?_, by omega⟩
        cases hc : z.nd.1.co with
        | true => rfl
        | false =>
          have h0 := h.2.2.2.2.1 hc
          have h1 : inn z.nd.1.dp (y.nd :: ndsOf r) = [] := h0
          rw [inn_cons_near (by omega)] at h1
          cases h1
    show rowB z.nd.1 (y.nd.1 :: r.map fun z : Nv => z.nd.1) = true
    simp only [rowB, Bool.and_eq_true]
    exact ⟨⟨hs, hf⟩, ih⟩
theorem row_dps {a : Te} {r : List Te} (h : rowB a r = true) : ∀ x ∈ r, 1 ≤ x.dp ∧ x.dp < 64 := fun x hx => by
  obtain ⟨i, hi, rfl⟩ := List.mem_iff_getElem.1 hx
  have := rowB_at h i hi
  exact ⟨this.2.1, this.2.2.1⟩
/-- A tree stays one, as many bytes. -/
theorem nrm_tree {S A : List Te} (hT : treeB S = true) (hb : byt (nds S) < 281474976710656) (h : NrmR S A) : treeB A = true ∧ byt (nds A) = byt (nds S) := by
  obtain ⟨Y, Z, R, hY, hM, hs, hg, hp, hL⟩ := h
  have hgZ := tree_good hY hM hT hb
  have eZ : ndsOf Z = nds S := by rw [← hY]; exact MeasZ.row hM
  have eR : ndsOf R = nds A := by rw [← hL]; exact good_nds hg
  have hby : byt (nds A) = byt (nds S) := by rw [← eZ, ← eR]; exact byt_perm hp
  have hS : S = Z.map fun z : Nv => z.nd.1 := by
    have h2 := congrArg (List.map (·.1)) eZ
    rw [nds_fst] at h2
    rw [← h2]; unfold ndsOf; rw [List.map_map]; rfl
  refine ⟨?_, hby⟩
  cases Z with
  | nil => rw [hS] at hT; cases hT
  | cons z Zr =>
    obtain ⟨Rr, rfl⟩ := suf_head hs
    have hpr : Rr.Perm Zr := List.Perm.cons_inv hp
    rw [hS] at hT
    simp only [List.map_cons, treeB, Bool.and_eq_true, decide_eq_true_eq, List.length_cons, List.length_map] at hT
    have hds := row_dps hT.2
    rw [← hL]
    simp only [List.map_cons, treeB, Bool.and_eq_true, decide_eq_true_eq, List.length_cons, List.length_map]
    refine ⟨⟨⟨by rw [hpr.length_eq]; exact hT.1.1.1, hT.1.1.2⟩, hT.1.2⟩, row_of_good hg fun u hu => ?_⟩
    exact hds _ (List.mem_map.2 ⟨u, hpr.mem_iff.1 hu, rfl⟩)
/-- What ToDer tells. -/
def DerIs (M : List Int) (O : Int ⊕ List Int) : Prop :=
  match parseS M with
  | .inl (er, _) => O = .inl er
  | .inr L => (treeB L = false ∧ O = .inl 35) ∨ (treeB L = true ∧ ∃ er i, chkB L = some (er, i) ∧ O = .inl er) ∨ (treeB L = true ∧ chkB L = none ∧ ∃ L', NrmR (setL L) L' ∧ encS L' = O)
theorem TdOut.der {B : Nat} {w : World} {e : Ending} {M : List Int} (h : TdOut B w e M) : ∃ O, DerIs M O ∧ EnOut B w e O := by
  unfold TdOut at h
  unfold DerIs
  cases hp : parseS M with
  | inl x =>
    obtain ⟨er, a⟩ := x
    rw [hp] at h
    exact ⟨.inl er, rfl, h⟩
  | inr L =>
    rw [hp] at h
    rcases h with ⟨hT, he⟩ | ⟨hT, er, i, hC, he⟩ | ⟨hT, hC, L', hN, he⟩
    · exact ⟨.inl 35, .inl ⟨hT, rfl⟩, he⟩
    · exact ⟨.inl er, .inr (.inl ⟨hT, er, i, hC, rfl⟩), he⟩
    · exact ⟨encS L', .inr (.inr ⟨hT, hC, L', hN, rfl⟩), he⟩
/-- What is asked of bytes that are read. -/
def SmallP (M : List Int) : Prop := ∀ L, parseS M = .inr L → NrI L ∧ L.length ≤ 65536
theorem set_small {L : List Te} (hT : treeB L = true) (hI : NrI L) (hL : L.length ≤ 65536) : byt (nds (setL L)) < 281474976710656 := by
  have h1 : datL (setL L) ≤ datL L + L.length := set_dat _ _
  have h2 : (setL L).length ≤ L.length := setF_len _ _
  have h3 := hI.d
  have := byt_nds (setL L) (setD_tree hT) (by omega)
  omega
theorem DerIs.uniq {M : List Int} {O O' : Int ⊕ List Int} (hI : SmallP M) (h : DerIs M O) (k : DerIs M O') : O = O' := by
  unfold DerIs at h k
  cases hp : parseS M with
  | inl x =>
    obtain ⟨er, a⟩ := x
    rw [hp] at h k
    exact Eq.trans h (Eq.symm k)
  | inr L =>
    have hi := hI L hp
    rw [hp] at h k
    rcases h with ⟨hT, he⟩ | ⟨hT, er, i, hC, he⟩ | ⟨hT, hC, L', hN, he⟩
    · rcases k with ⟨kT, ke⟩ | ⟨kT, _⟩ | ⟨kT, _⟩
      · rw [he, ke]
      · rw [hT] at kT; cases kT
      · rw [hT] at kT; cases kT
    · rcases k with ⟨kT, ke⟩ | ⟨kT, er', i', kC, ke⟩ | ⟨kT, kC, _⟩
      · rw [hT] at kT; cases kT
      · rw [hC] at kC
        cases kC
        rw [he, ke]
      · rw [hC] at kC; cases kC
    · rcases k with ⟨kT, ke⟩ | ⟨kT, er', i', kC, ke⟩ | ⟨kT, kC, L2, kN, ke⟩
      · rw [hT] at kT; cases kT
      · rw [hC] at kC; cases kC
      · have hb := set_small hT hi.1 hi.2
        have hS := set_tree hT
        have t1 := nrm_tree hS hb hN
        have t2 := nrm_tree hS hb kN
        have hu := nrm_uniq hS hb hN kN
        rw [← he, ← ke]
        unfold encS
        rw [t1.1, t2.1, t1.2, t2.2, hu]
theorem encS_ne {L : List Te} {er : Int} (h : encS L = .inl er) : er ≠ 0 := by
  unfold encS at h
  split at h
  · split at h
    · cases h; decide
    · cases h
  · cases h; decide
theorem DerIs.err {M : List Int} (uM : U8s M) {er : Int} (h : DerIs M (.inl er)) : er ≠ 0 := by
  unfold DerIs at h
  cases hp : parseS M with
  | inl x =>
    obtain ⟨er', a⟩ := x
    rw [hp] at h
    have := (parse_in uM hp).2
    cases h
    omega
  | inr L =>
    rw [hp] at h
    rcases h with ⟨_, he⟩ | ⟨_, er', i, hC, he⟩ | ⟨_, _, L', _, he⟩
    · cases he; decide
    · cases he
      exact chkF_ne _ _ hC
    · exact encS_ne he
theorem datL_byt (L : List Te) : datL L ≤ byt (nds L) := by
  induction L with
  | nil => simp [datL]
  | cons x r ih => rw [nds]; simp only [datL, byt, ndL]; omega
/-- What is laid in the one way comes to itself. -/
theorem DerIs.again {M C : List Int} (hI : SmallP M) (h : DerIs M (.inr C)) : U8s C ∧ C.length ≤ 16777216 ∧ SmallP C ∧ ∀ O, DerIs C O → O = .inr C := by
  unfold DerIs at h
  cases hp : parseS M with
  | inl x =>
    obtain ⟨er', a⟩ := x
    rw [hp] at h
    cases h
  | inr L =>
    have hi := hI L hp
    rw [hp] at h
    rcases h with ⟨_, he⟩ | ⟨_, er', i, hC, he⟩ | ⟨hT, hC, L', hN, he⟩
    · cases he
    · cases he
    · have hb := set_small hT hi.1 hi.2
      have hS := set_tree hT
      have t1 := nrm_tree hS hb hN
      obtain ⟨f1, f2⟩ := nrm_fin hT hC hN
      have hb' : byt (nds L') < 281474976710656 := by rw [t1.2]; exact hb
      have hsm : byt (nds L') ≤ 16777216 ∧ C = bytesOf (nds L') := by
        unfold encS at he
        rw [if_pos t1.1] at he
        split at he
        · cases he
        · cases he; exact ⟨by omega, rfl⟩
      have hu : ∀ x ∈ L', U8s x.d := fun x hx => set_u8 _ _ (fun y hy => hi.1.u y hy) x ((nrm_perm hN).mem_iff.1 hx)
      have hln := tree_len t1.1
      have hpl := parse_laid t1.1 hsm.1
      have uC : U8s C := by
        rw [hsm.2]
        refine nds_u8 L' (fun x hx => ⟨?_, hu x hx⟩) hb'
        obtain ⟨i, hi, rfl⟩ := List.mem_iff_getElem.1 hx
        exact (tree_at t1.1 i hi).1
      refine ⟨uC, by rw [hsm.2, bytesOf_len]; exact hsm.1, fun L0 h0 => ?_, fun O hO => ?_⟩
      · rw [hsm.2, hpl] at h0
        cases h0
        exact ⟨⟨by omega, hu, by have := datL_byt L'; omega, fun hT hC => chk_set hT hC⟩, hln.2⟩
      · unfold DerIs at hO
        rw [hsm.2, hpl] at hO
        rcases hO with ⟨k, _⟩ | ⟨_, _, _, k, _⟩ | ⟨_, _, L2, kN, ke⟩
        · rw [t1.1] at k; cases k
        · rw [f2] at k; cases k
        · rw [f1] at kN
          have t2 := nrm_tree t1.1 hb' kN
          have hu2 := nrm_again hS hb hN t1.1 hb' kN
          rw [← ke, hsm.2, ← hu2]
          unfold encS
          rw [if_pos t2.1, if_neg (by rw [t2.2]; omega)]
end Go.Proofs.YtekacoeikjonmaaDoor
/-
  Ber: IsDer walked; the same bytes or not (picked from Y43).
-/
namespace Go.Proofs.YtekacoeikjonmaaDoor
open Go.RowKit
set_option maxHeartbeats 2000000 in
theorem Same8_any {w : World} (v u : Value) (X Y : List Int) (hx : Sl .u8 w v X) (hy : Sl .u8 w u Y) (lx : X.length ≤ 1152921504606846976) (ly : Y.length ≤ 1152921504606846976) (q : Bool) (hq : decide (X = Y) = q) :
    Calls Tryd.prog 11 #[v, u] w fun e w' => e = .returned (.bool q) ∧ Below w.heap.size w w' := by
  obtain ⟨a1, c1, rfl, hc1, h1⟩ := hx
  obtain ⟨a2, c2, rfl, hc2, h2⟩ := hy
  by_cases hl : X.length = Y.length
  · by_cases hne : X = []
    · have hYn : Y = [] := List.eq_nil_of_length_eq_zero (by rw [← hl, hne]; rfl)
      subst hne; subst hYn
      have HQ : Hid (q = true) := by show _ = _; rw [← hq]; rfl
      clear hq
      simp only [List.length_nil]
      go_enter Tryd.func11, Tryd.ntmps11
      go_wp2
      go_loop [5] (fun i => i = .int .i64 0) (fun _ => 0)
      case atStart => rfl
      case round =>
        subst hrel
        go_wp2
        go_ret
        exact ⟨by rw [HQ.out]; rfl, Below.refl _ _⟩
    · rcases h1 with h1 | ⟨b1, o1, rfl, hb1, hr1⟩
      · exact absurd h1 hne
      rcases h2 with h2 | ⟨b2, o2, rfl, hb2, hr2⟩
      · exact absurd (List.eq_nil_of_length_eq_zero (by rw [hl, h2]; rfl)) hne
      obtain ⟨n, hn⟩ : ∃ n, X.length = n := ⟨_, rfl⟩
      rw [hn] at hl
      rw [hn] at lx hc1 ⊢
      rw [← hl] at hc2 ⊢
      have HN : Hid (X.length = n ∧ Y.length = n) := ⟨hn, hl.symm⟩
      have HQ : Hid (decide (X = Y) = q) := hq
      clear hn hne hl ly hq
      go_enter Tryd.func11, Tryd.ntmps11
      go_wp2
      go_loopw [5] (fun i wr => ∃ k : Nat, k ≤ n ∧ i = .int .i64 k ∧ Below w.heap.size w wr ∧ Hid (X.take k = Y.take k)) (fun i _ => n - (intOf i).toNat)
      case atStart => exact ⟨0, Nat.zero_le _, rfl, Below.refl _ _, rfl⟩
      case round =>
        obtain ⟨k, hk, rfl, hB, hT⟩ := hrel
        by_cases hkn : k < n
        · obtain ⟨x, hx⟩ : ∃ x, X.getD k 0 = x := ⟨_, rfl⟩
          obtain ⟨y, hy⟩ : ∃ y, Y.getD k 0 = y := ⟨_, rfl⟩
          have hcx : wr.cell? ⟨b1, o1 + k, none⟩ = some (.int .u8 x) := by rw [← hx]; exact (below_rd hB hb1 hr1) k (by rw [HN.out.1]; exact hkn)
          have hcy : wr.cell? ⟨b2, o2 + k, none⟩ = some (.int .u8 y) := by rw [← hy]; exact (below_rd hB hb2 hr2) k (by rw [HN.out.2]; exact hkn)
          have HB : Hid (Below w.heap.size w wr) := hB
          have HXY : Hid (X.getD k 0 = x ∧ Y.getD k 0 = y) := ⟨hx, hy⟩
          clear hx hy hB hr1 hr2
          by_cases hxy : x = y
          · have HT2 : Hid (X.take (k + 1) = Y.take (k + 1)) := by
              show _ = _
              have e1 := HXY.out.1; have e2 := HXY.out.2
              have l1 := HN.out.1; have l2 := HN.out.2
              rw [List.take_succ_eq_append_getElem (by omega), List.take_succ_eq_append_getElem (by omega), hT.out]
              congr 2
              simp [List.getD, List.getElem?_eq_getElem (show k < X.length by omega)] at e1
              simp [List.getD, List.getElem?_eq_getElem (show k < Y.length by omega)] at e2
              rw [e1, e2, hxy]
            subst hxy
            clear hT
            go_wp2
            go_quiet (fail)
            go_wp2
            go_roundw
            case rel => exact ⟨k + 1, by omega, by go_num, HB.out.trans ⟨rfl, rfl, rfl, Nat.le_refl _, fun _ _ => rfl⟩, HT2⟩
            case measure => simp [intOf]; omega
          · have hd : (x != y) = true := by simpa using hxy
            have HF : Hid (q = false) := by
              show _ = _
              rw [← HQ.out]
              simp
              intro h
              apply hxy
              rw [← HXY.out.1, ← HXY.out.2, h]
            clear hxy hT
            go_wp2
            go_quiet (fail)
            go_wp2
            go_ret
            exact ⟨by rw [HF.out]; rfl, HB.out.trans ⟨rfl, rfl, rfl, Nat.le_refl _, fun _ _ => rfl⟩⟩
        · have HB : Hid (Below w.heap.size w wr) := hB
          have HF : Hid (q = true) := by
            show _ = _
            rw [← HQ.out]
            have l1 := HN.out.1; have l2 := HN.out.2
            have hT := hT.out
            rw [List.take_of_length_le (by omega), List.take_of_length_le (by omega)] at hT
            simp [hT]
          clear hB hT
          go_wp2
          go_ret
          exact ⟨by rw [HF.out]; rfl, HB.out⟩
  · have hd : ((X.length : Int) != (Y.length : Int)) = true := by simp; omega
    have HF : Hid (q = false) := by
      show _ = _
      rw [← hq]; simp; intro h; apply hl; rw [h]
    clear hq hl
    go_enter Tryd.func11, Tryd.ntmps11
    go_wp2
    go_ret
    exact ⟨by rw [HF.out]; rfl, Below.refl _ _⟩
set_option maxHeartbeats 2000000 in
theorem IsDer_any {w : World} (hG : GlbE w) (v : Value) (M : List Int) (hv : Sl .u8 w v M) (uM : U8s M) (hl : M.length ≤ 1152921504606846976) (hI : SmallP M) (O : Int ⊕ List Int) (hO : ∀ O', DerIs M O' → O' = O) (uO : ∀ C, O = .inr C → U8s C) (eO : ∀ er, O = .inl er → er ≠ 0) (q : Bool) (hq : decide (O = .inr M) = q) :
    Calls Tryd.prog 10 #[v] w fun e w' => e = .returned (.bool q) ∧ Below w.heap.size w w' := by
  obtain ⟨a, n, c, rfl⟩ : ∃ a n c, v = .slice a n c := by obtain ⟨a, c, h, _⟩ := hv; exact ⟨a, _, c, h⟩
  have HX : Hid (Calls Tryd.prog 8 #[.slice a n c] w fun e w' => TdOut w.heap.size w' e M ∧ Below w.heap.size w w') := ToDer_any hG (.slice a n c) M hv uM hl (fun L h => (hI L h).1)
  have HV : Hid (Sl .u8 w (.slice a n c) M ∧ U8s M ∧ decide (O = .inr M) = q ∧ (∀ C, O = .inr C → U8s C) ∧ ∀ O', DerIs M O' → O' = O) := ⟨hv, uM, hq, uO, hO⟩
  have HE : Hid (∀ er, O = .inl er → er ≠ 0) := eO
  clear hv hG uM hl hI hO uO hq eO
  go_enter Tryd.func10, Tryd.ntmps10
  go_wp2_with fail
  refine HX.out.mono ?_
  rintro ev w1 ⟨h1, hb⟩
  have HB : Hid (Below w.heap.size w w1) := hb
  clear hb
  obtain ⟨O', hd, he⟩ := h1.der
  obtain rfl := HV.out.2.2.2.2 O' hd
  cases O' with
  | inl er =>
    have her := HE.out er rfl
    have hz1 : (er == 0) = false := by simpa using her
    have hz2 : decide (er = 0) = false := by simpa using her
    have HQ : Hid (q = false) := by show _ = _; rw [← HV.out.2.2.1]; simp
    have he' : ev = .returned (.tuple #[.slice none 0 0, .int .i64 er]) := he
    subst he'
    clear he hd h1
    go_wp2
    go_ret
    exact ⟨by rw [HQ.out]; rfl, HB.out⟩
  | inr C =>
    obtain ⟨da, dn, dc, rfl, hr⟩ := he
    have hEq := BEq_any (w := w1) a da n c dn dc M C (below_sl HB.out HV.out.1) hr.sl HV.out.2.1 (HV.out.2.2.2.1 C rfl) q (by rw [← HV.out.2.2.1]; simp [eq_comm])
    have HEq : Hid (Calls Tryd.prog 19 #[.slice a n c, .slice da dn dc] w1 fun e w' => e = .returned (.bool q) ∧ w1 = w') := hEq
    clear hEq hr hd h1
    go_wp2_with fail
    refine HEq.out.mono ?_
    rintro ev w2 ⟨rfl, rfl⟩
    go_wp2
    go_ret
    exact ⟨rfl, HB.out⟩
end Go.Proofs.YtekacoeikjonmaaDoor
/-
  The law BerAgain: what is laid in the one way is laid so, and comes to itself; bytes that are laid so are just those that come to themselves.
-/
namespace Go.Proofs.YtekacoeikjonmaaDoor
open Go.RowKit
theorem small_p {M : List Int} (uM : U8s M) (hl : M.length ≤ 16384) : SmallP M := fun L h => by
  have hg := parse_good uM h
  have hd : datL L ≤ L.length * 16384 := datL_le fun x hx => by have := (hg.2 x hx).2; omega
  exact ⟨⟨by have := hg.1; omega, fun x hx => (hg.2 x hx).1, by have := hg.1; omega, fun hT hC => chk_set hT hC⟩, hg.1⟩
set_option maxRecDepth 20000 in
set_option maxHeartbeats 8000000 in
theorem BerAgain_any {w : World} (hG : GlbE w) (a : Option Addr) (n c : Nat) (M : List Int) (hM : Sl .u8 w (.slice a n c) M) (uM : U8s M) (hn : n ≤ 9223372036854775807) :
    Calls Tryd.prog 3 #[.slice a n c] w fun e w' => e = .returned (.bool true) ∧ Below w.heap.size w w' := by
  have HX : Hid (GlbE w ∧ Sl .u8 w (.slice a n c) M ∧ U8s M ∧ M.length = n) := ⟨hG, hM, uM, hM.lens.1.symm⟩
  have HL : Hid (∀ W : World, Below w.heap.size w W → Calls Tryd.prog 7 #[] W fun e w' => e = .returned (.bool true) ∧ Below W.heap.size W w') := fun W hW => live03_any (HX.out.1.below hW)
  have hnI : (n : Int) ≤ 9223372036854775807 := by omega
  clear hG hM uM
  by_cases h1 : 16384 < n
  · have h1I : (16384 : Int) < (n : Int) := by omega
    go_enter Tryd.func3, Tryd.ntmps3
    go_wp2_with fail
    refine (HL.out w (Below.refl _ _)).mono ?_
    rintro e w1 ⟨rfl, hb⟩
    go_wp2
    go_ret
    exact ⟨rfl, hb⟩
  have h1I : ¬ (16384 : Int) < (n : Int) := by omega
  have HS : Hid (SmallP M ∧ M.length ≤ 16384) := ⟨small_p HX.out.2.2.1 (by have := HX.out.2.2.2; omega), by have := HX.out.2.2.2; omega⟩
  have HT : Hid (Calls Tryd.prog 8 #[.slice a n c] w fun e w' => TdOut w.heap.size w' e M ∧ Below w.heap.size w w') := ToDer_any HX.out.1 _ M HX.out.2.1 HX.out.2.2.1 (by have := HS.out.2; omega) (fun L h => (HS.out.1 L h).1)
  clear h1 hn
  go_enter Tryd.func3, Tryd.ntmps3
  go_wp2_with fail
  refine HT.out.mono ?_
  rintro ev w1 ⟨h1, hb⟩
  obtain ⟨O, hd, he⟩ := h1.der
  have HB : Hid (Below w.heap.size w w1 ∧ DerIs M O ∧ ∀ O', DerIs M O' → O' = O) := ⟨hb, hd, fun O' h => DerIs.uniq HS.out.1 h hd⟩
  clear hb hd h1
  cases O with
  | inl er =>
    have her0 := DerIs.err HX.out.2.2.1 HB.out.2.1
    have her : (er != 0) = true := by simpa using her0
    have he' : ev = .returned (.tuple #[.slice none 0 0, .int .i64 er]) := he
    subst he'
    have HQ : Hid (Calls Tryd.prog 10 #[.slice a n c] w1 fun e w' => e = .returned (.bool false) ∧ Below w1.heap.size w1 w') :=
      IsDer_any (HX.out.1.below HB.out.1) _ M (below_sl HB.out.1 HX.out.2.1) HX.out.2.2.1 (by have := HS.out.2; omega) HS.out.1 (.inl er) HB.out.2.2 (fun C h => by cases h) (fun er' h => by cases h; exact her0) false (by simp)
    clear he her0
    go_wp2_with (first | (go_at_call 9; refine (num3_any _).mono ?_; rintro e w' ⟨rfl, rfl⟩) | (go_at_call 10; refine HQ.out.mono ?_; rintro ev w2 ⟨rfl, hb2⟩; have H2 : Hid (Below w.heap.size w w2) := below_via HB.out.1 hb2 (Nat.le_refl _); clear hb2) | (go_at_call 7; refine (HL.out _ H2.out).mono ?_; rintro ev w3 ⟨rfl, hb3⟩))
    go_ret
    exact ⟨rfl, below_via H2.out hb3 (Nat.le_refl _)⟩
  | inr C =>
    obtain ⟨ca, cn, cc, rfl, hr⟩ := he
    have HA : Hid (U8s C ∧ C.length ≤ 16777216 ∧ SmallP C ∧ ∀ O, DerIs C O → O = .inr C) := DerIs.again HS.out.1 HB.out.2.1
    have HR : Hid (Sl .u8 w1 (.slice ca cn cc) C) := hr.sl
    have HT2 : Hid (Calls Tryd.prog 8 #[.slice ca cn cc] w1 fun e w' => TdOut w1.heap.size w' e C ∧ Below w1.heap.size w1 w') := ToDer_any (HX.out.1.below HB.out.1) _ C HR.out HA.out.1 (by have := HA.out.2.1; omega) (fun L h => (HA.out.2.2.1 L h).1)
    clear hr
    go_wp2_with (go_at_call 9; refine (num3_any _).mono ?_; rintro e w' ⟨rfl, rfl⟩)
    refine HT2.out.mono ?_
    rintro ev w2 ⟨h2, hb2⟩
    obtain ⟨O2, hd2, he2⟩ := h2.der
    obtain rfl := HA.out.2.2.2 O2 hd2
    obtain ⟨da, dn, dc, rfl, hr2⟩ := he2
    have H2 : Hid (Below w1.heap.size w1 w2 ∧ Below w.heap.size w w2 ∧ Sl .u8 w2 (.slice da dn dc) C) := ⟨hb2, below_via HB.out.1 hb2 (Nat.le_refl _), hr2.sl⟩
    clear hb2 hr2 hd2 h2
    obtain ⟨q, hq⟩ : ∃ q, decide (M = C) = q := ⟨_, rfl⟩
    have HS2 : Hid (Calls Tryd.prog 11 #[.slice ca cn cc, .slice da dn dc] w2 fun e w' => e = .returned (.bool true) ∧ Below w2.heap.size w2 w') :=
      Same8_any _ _ C C (below_sl H2.out.1 HR.out) H2.out.2.2 (by have := HA.out.2.1; omega) (by have := HA.out.2.1; omega) true (by simp)
    have HI1 : Hid (∀ W : World, Below w1.heap.size w1 W → Calls Tryd.prog 10 #[.slice ca cn cc] W fun e w' => e = .returned (.bool true) ∧ Below W.heap.size W w') := fun W hW =>
      IsDer_any ((HX.out.1.below HB.out.1).below hW) _ C (below_sl hW HR.out) HA.out.1 (by have := HA.out.2.1; omega) HA.out.2.2.1 (.inr C) HA.out.2.2.2 (fun C' h => by cases h; exact HA.out.1) (fun er h => by cases h) true (by simp)
    have HI2 : Hid (∀ W : World, Below w.heap.size w W → Calls Tryd.prog 10 #[.slice a n c] W fun e w' => e = .returned (.bool q) ∧ Below W.heap.size W w') := fun W hW =>
      IsDer_any (HX.out.1.below hW) _ M (below_sl hW HX.out.2.1) HX.out.2.2.1 (by have := HS.out.2; omega) HS.out.1 (.inr C) HB.out.2.2 (fun C' h => by cases h; exact HA.out.1) (fun er h => by cases h) q (by rw [← hq]; simp [eq_comm])
    have HS3 : Hid (∀ W : World, Below w.heap.size w W → Below w1.heap.size w1 W → Calls Tryd.prog 11 #[.slice a n c, .slice ca cn cc] W fun e w' => e = .returned (.bool q) ∧ Below W.heap.size W w') := fun W hW hW1 =>
      Same8_any _ _ M C (below_sl hW HX.out.2.1) (below_sl hW1 HR.out) (by have := HS.out.2; omega) (by have := HA.out.2.1; omega) q hq
    clear hq
    cases q with
    | true =>
      go_wp2_with (first
        | (go_at_call 9; refine (num3_any _).mono ?_; rintro e w' ⟨rfl, rfl⟩))
      refine HS2.out.mono ?_
      rintro ev w3 ⟨rfl, hb3⟩
      have H3 : Hid (Below w1.heap.size w1 w3 ∧ Below w.heap.size w w3) := ⟨below_via H2.out.1 hb3 (Nat.le_refl _), below_via H2.out.2.1 hb3 (Nat.le_refl _)⟩
      clear hb3
      go_wp2_with fail
      refine (HI1.out _ H3.out.1).mono ?_
      rintro ev w4 ⟨rfl, hb4⟩
      have H4 : Hid (Below w1.heap.size w1 w4 ∧ Below w.heap.size w w4) := ⟨below_via H3.out.1 hb4 (Nat.le_refl _), below_via H3.out.2 hb4 (Nat.le_refl _)⟩
      clear hb4
      go_wp2_with fail
      refine (HI2.out _ H4.out.2).mono ?_
      rintro ev w5 ⟨rfl, hb5⟩
      have H5 : Hid (Below w1.heap.size w1 w5 ∧ Below w.heap.size w w5) := ⟨below_via H4.out.1 hb5 (Nat.le_refl _), below_via H4.out.2 hb5 (Nat.le_refl _)⟩
      clear hb5
      go_wp2_with fail
      refine (HS3.out _ H5.out.2 H5.out.1).mono ?_
      rintro ev w6 ⟨rfl, hb6⟩
      have H6 : Hid (Below w.heap.size w w6) := below_via H5.out.2 hb6 (Nat.le_refl _)
      clear hb6
      go_wp2_with fail
      refine (HL.out _ H6.out).mono ?_
      rintro ev w7 ⟨rfl, hb7⟩
      go_wp2
      go_ret
      exact ⟨rfl, below_via H6.out hb7 (Nat.le_refl _)⟩
    | false =>
      go_wp2_with (first
        | (go_at_call 9; refine (num3_any _).mono ?_; rintro e w' ⟨rfl, rfl⟩))
      refine HS2.out.mono ?_
      rintro ev w3 ⟨rfl, hb3⟩
      have H3 : Hid (Below w1.heap.size w1 w3 ∧ Below w.heap.size w w3) := ⟨below_via H2.out.1 hb3 (Nat.le_refl _), below_via H2.out.2.1 hb3 (Nat.le_refl _)⟩
      clear hb3
      go_wp2_with fail
      refine (HI1.out _ H3.out.1).mono ?_
      rintro ev w4 ⟨rfl, hb4⟩
      have H4 : Hid (Below w1.heap.size w1 w4 ∧ Below w.heap.size w w4) := ⟨below_via H3.out.1 hb4 (Nat.le_refl _), below_via H3.out.2 hb4 (Nat.le_refl _)⟩
      clear hb4
      go_wp2_with fail
      refine (HI2.out _ H4.out.2).mono ?_
      rintro ev w5 ⟨rfl, hb5⟩
      have H5 : Hid (Below w1.heap.size w1 w5 ∧ Below w.heap.size w w5) := ⟨below_via H4.out.1 hb5 (Nat.le_refl _), below_via H4.out.2 hb5 (Nat.le_refl _)⟩
      clear hb5
      go_wp2_with fail
      refine (HS3.out _ H5.out.2 H5.out.1).mono ?_
      rintro ev w6 ⟨rfl, hb6⟩
      have H6 : Hid (Below w.heap.size w w6) := below_via H5.out.2 hb6 (Nat.le_refl _)
      clear hb6
      go_wp2_with fail
      refine (HL.out _ H6.out).mono ?_
      rintro ev w7 ⟨rfl, hb7⟩
      go_wp2
      go_ret
      exact ⟨rfl, below_via H6.out hb7 (Nat.le_refl _)⟩
end Go.Proofs.YtekacoeikjonmaaDoor
