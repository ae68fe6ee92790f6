/-
  The law BerOwn: what is read shares nothing with the bytes, nor one element with another; a tree in the one way shares nothing with the row.
-/
import Derived.Test.YtefebamomdcaaaaGreatDoorK35
namespace Go.Proofs.YtefebamomdcaaaaGreatDoor
open Go.RowKit
theorem prF_good {M : List Int} (hM : U8s M) : ∀ (f p q : Nat) (S : List Prt) (L : List Te) (R : Nat × List Te), L.length ≤ 65536 → (∀ x ∈ L, U8s x.d ∧ x.d.length ≤ M.length) → prF M f p q S L = .inr R → R.2.length ≤ 65536 ∧ ∀ x ∈ R.2, U8s x.d ∧ x.d.length ≤ M.length
  | 0, _, _, _, _, _, _, _, h => by simp [prF] at h
  | f + 1, p, q, S, L, R, hL, hP, h => by
    rw [prF] at h
    cases hb : belS M p q L.length S.length with
    | inl e => rw [hb] at h; cases h
    | inr r =>
      obtain ⟨t, l, j⟩ := r
      rw [hb] at h
      have h1 := belS_many hb
      have hL' : (L ++ [belE M p S.length t l j]).length ≤ 65536 := by rw [List.length_append, List.length_singleton]; omega
      have hP' : ∀ x ∈ L ++ [belE M p S.length t l j], U8s x.d ∧ x.d.length ≤ M.length := by
        intro x hx
        rcases List.mem_append.1 hx with hx | hx
        · exact hP x hx
        · rw [List.mem_singleton] at hx
          subst hx
          unfold belE
          simp only []
          split
          · exact ⟨(by intro y hy; cases hy), by simp⟩
          · refine ⟨(hM.drop j).take _, ?_⟩
            rw [List.length_take, List.length_drop]; omega
      simp only [] at h
      split at h
      · cases h; exact ⟨hL', hP'⟩
      · exact prF_good hM f _ _ _ _ R hL' hP' h
theorem parse_good {M : List Int} (hM : U8s M) {L : List Te} (h : parseS M = .inr L) : L.length ≤ 65536 ∧ ∀ x ∈ L, U8s x.d ∧ x.d.length ≤ M.length := by
  unfold parseS at h
  split at h
  · cases h
  cases hp : pr M 0 M.length [] [] with
  | inl x => rw [hp] at h; cases h
  | inr x =>
    have h1 := prF_good hM _ _ _ _ _ x (by simp) (by simp) hp
    obtain ⟨p, L'⟩ := x
    rw [hp] at h
    simp only [] at h
    split at h
    · cases h
    · cases h; exact h1
theorem datL_le {m : Nat} : ∀ {L : List Te}, (∀ x ∈ L, x.d.length ≤ m) → datL L ≤ L.length * m
  | [], _ => by simp [datL]
  | x :: r, h => by
    have h1 := h x (List.mem_cons_self ..)
    have h2 := datL_le (L := r) fun y hy => h y (List.mem_cons_of_mem _ hy)
    simp only [datL, List.length_cons]
    rw [Nat.add_mul]; omega
/-- What Normal answers, told at once. -/
theorem NrOut.uni {B : Nat} {w : World} {e : Ending} {L : List Te} (h : NrOut B w e L) (hL : L.length ≤ 65536) (hd : datL L ≤ 131072000) : ∃ v er at_ L', e = .returned (.tuple #[v, .int .i64 er, .int .i64 at_]) ∧ Elems B w v L' ∧ L'.length ≤ 65536 ∧ datL L' ≤ 131137536 := by
  rcases h with ⟨_, rfl⟩ | ⟨_, er, i, _, rfl⟩ | ⟨_, _, v, L', rfl, hN, hE⟩
  · exact ⟨_, _, _, [], rfl, Elems.nil _ _, by simp, by simp [datL]⟩
  · exact ⟨_, _, _, [], rfl, Elems.nil _ _, by simp, by simp [datL]⟩
  · have h1 := nrm_dat hN
    have h2 : datL (setL L) ≤ datL L + L.length := set_dat _ _
    have h3 : (setL L).length ≤ L.length := setF_len _ _
    exact ⟨v, _, _, L', rfl, hE, by omega, by omega⟩
theorem u8s1234 : U8s [1, 2, 3, 4] := by intro x hx; unfold U8; simp at hx; omega
end Go.Proofs.YtefebamomdcaaaaGreatDoor
/-
  The law BerParses: any bytes as a tree, or the first fault and its place, as the reference tells it; the bytes stay.
-/
namespace Go.Proofs.YtefebamomdcaaaaGreatDoor
open Go.RowKit
set_option maxRecDepth 20000 in
set_option maxHeartbeats 8000000 in
theorem BerParses_any {w : World} (hG : GlbE w) (a : Option Addr) (n c : Nat) (M : List Int) (hM : Sl .u8 w (.slice a n c) M) (uM : U8s M) (hn : n ≤ 9223372036854775807) :
    Calls Tryz.prog 3 #[.slice a n c] w fun e w' => e = .returned (.bool true) ∧ Below w.heap.size w w' := by
  have HX : Hid (GlbE w ∧ Sl .u8 w (.slice a n c) M ∧ U8s M ∧ M.length = n) := ⟨hG, hM, uM, hM.lens.1.symm⟩
  have HL : Hid (∀ W : World, Below w.heap.size w W → Calls Tryz.prog 9 #[] W fun e w' => e = .returned (.bool true) ∧ Below W.heap.size W w') := fun W hW => live03_any (HX.out.1.below hW)
  have hnI : (n : Int) ≤ 9223372036854775807 := by omega
  clear hG hM uM
  by_cases h1 : 16384 < n
  · have h1I : (16384 : Int) < (n : Int) := by omega
    go_enter Tryz.func3, Tryz.ntmps3
    go_wp2_with fail
    refine (HL.out w (Below.refl _ _)).mono ?_
    rintro e w1 ⟨rfl, hb⟩
    go_wp2
    go_ret
    exact ⟨rfl, hb⟩
  have h1I : ¬ (16384 : Int) < (n : Int) := by omega
  go_enter Tryz.func3, Tryz.ntmps3
  go_wp2_with fail
  refine (Lent8_n M _ w n HX.out.2.2.2 HX.out.2.1 (by omega)).mono ?_
  rintro e w1 ⟨bl, Sl1, cl1, rfl, hlent, -, -, -, hb1⟩
  have H1 : Hid (LentR8 w.heap.size w1 (.slice (some ⟨bl, 0, none⟩) n cl1) M ∧ Below w.heap.size w w1) := ⟨hlent, hb1⟩
  clear hlent hb1
  go_wp2_with fail
  refine (Parse_any (HX.out.1.below H1.out.2) _ M H1.out.1.sl HX.out.2.2.1 (by have := HX.out.2.2.2; omega)).mono ?_
  rintro e w2 ⟨hps, hb2⟩
  have H2 : Hid (Below w.heap.size w w2 ∧ Below w1.heap.size w1 w2 ∧ LentR8 w.heap.size w2 (.slice (some ⟨bl, 0, none⟩) n cl1) M) := ⟨below_via H1.out.2 hb2 (Nat.le_refl _), hb2, H1.out.1.below hb2⟩
  have hs2 : w.heap.size ≤ w1.heap.size := H1.out.2.size
  clear hb2
  cases hp : parseS M with
  | inl ea =>
    obtain ⟨er, at_⟩ := ea
    rw [hp] at hps
    unfold PsOut at hps
    subst hps
    have HP : Hid (parseS M = .inl (er, at_)) := hp
    clear hp
    go_wp2_with fail
    refine (RParse_any _ M (below_sl H2.out.1 HX.out.2.1) HX.out.2.2.1 (by have := HX.out.2.2.2; omega)).mono ?_
    rintro e w3 ⟨hps, hb3⟩
    rw [HP.out] at hps
    unfold PsOut at hps
    subst hps
    have H3 : Hid (Below w.heap.size w w3 ∧ LentR8 w.heap.size w3 (.slice (some ⟨bl, 0, none⟩) n cl1) M) := ⟨below_via H2.out.1 hb3 (Nat.le_refl _), H2.out.2.2.below hb3⟩
    clear hb3
    go_wp2_with fail
    refine (Same_any (.slice none 0 0) (.slice none 0 0) [] (Elems.nil 0 _).s (Elems.nil 0 _).s (by simp) (by simp)).mono ?_
    rintro e w4 ⟨rfl, hb4⟩
    have H4 : Hid (Below w.heap.size w w4 ∧ LentR8 w.heap.size w4 (.slice (some ⟨bl, 0, none⟩) n cl1) M) := ⟨below_via H3.out.1 hb4 (Nat.le_refl _), H3.out.2.below hb4⟩
    clear hb4
    go_wp2_with fail
    refine (num3_any _).mono ?_
    rintro e w' ⟨rfl, rfl⟩
    go_wp2_with fail
    refine (Kept8_any _ _ M H4.out.2 (below_sl H4.out.1 HX.out.2.1) (by have := HX.out.2.2.2; omega)).mono ?_
    rintro e w5 ⟨rfl, hb5⟩
    have H5 : Hid (Below w.heap.size w w5) := below_via H4.out.1 hb5 (Nat.le_refl _)
    clear hb5
    go_wp2_with fail
    refine (HL.out _ H5.out).mono ?_
    rintro e w6 ⟨rfl, hb6⟩
    go_wp2
    go_ret
    exact ⟨rfl, below_via H5.out hb6 (Nat.le_refl _)⟩
  | inr L =>
    rw [hp] at hps
    obtain ⟨v, rfl, hE⟩ := hps
    have hg := parse_good HX.out.2.2.1 hp
    have HP : Hid (parseS M = .inr L ∧ L.length ≤ 65536 ∧ (∀ x ∈ L, x.d.length ≤ 1152921504606846976) ∧ Elems w1.heap.size w2 v L) := ⟨hp, hg.1, fun x hx => by have := (hg.2 x hx).2; have := HX.out.2.2.2; omega, hE⟩
    clear hp hg hE
    rw [HX.out.2.2.2]
    go_wp2_with fail
    refine (RParse_any _ M (below_sl H2.out.1 HX.out.2.1) HX.out.2.2.1 (by have := HX.out.2.2.2; omega)).mono ?_
    rintro e w3 ⟨hps, hb3⟩
    rw [HP.out.1] at hps
    obtain ⟨u, rfl, hE⟩ := hps
    rw [HX.out.2.2.2]
    have H3 : Hid (Below w.heap.size w w3 ∧ LentR8 w.heap.size w3 (.slice (some ⟨bl, 0, none⟩) n cl1) M ∧ ElS w3 v L ∧ ElS w3 u L) := ⟨below_via H2.out.1 hb3 (Nat.le_refl _), H2.out.2.2.below hb3, HP.out.2.2.2.s.below hb3, hE.s⟩
    clear hb3 hE
    go_wp2_with fail
    refine (Same_any _ _ L H3.out.2.2.1 H3.out.2.2.2 (by have := HP.out.2.1; omega) HP.out.2.2.1).mono ?_
    rintro e w4 ⟨rfl, hb4⟩
    have H4 : Hid (Below w.heap.size w w4 ∧ LentR8 w.heap.size w4 (.slice (some ⟨bl, 0, none⟩) n cl1) M) := ⟨below_via H3.out.1 hb4 (Nat.le_refl _), H3.out.2.1.below hb4⟩
    clear hb4
    go_wp2_with fail
    refine (num3_any _).mono ?_
    rintro e w' ⟨rfl, rfl⟩
    go_wp2_with fail
    refine (Kept8_any _ _ M H4.out.2 (below_sl H4.out.1 HX.out.2.1) (by have := HX.out.2.2.2; omega)).mono ?_
    rintro e w5 ⟨rfl, hb5⟩
    have H5 : Hid (Below w.heap.size w w5) := below_via H4.out.1 hb5 (Nat.le_refl _)
    clear hb5
    go_wp2_with fail
    refine (HL.out _ H5.out).mono ?_
    rintro e w6 ⟨rfl, hb6⟩
    go_wp2
    go_ret
    exact ⟨rfl, below_via H5.out hb6 (Nat.le_refl _)⟩
end Go.Proofs.YtefebamomdcaaaaGreatDoor
/-
  Ber: laying a tree element by element, over lists; no Go text in sight.
-/
namespace Go.Proofs.YtefebamomdcaaaaGreatDoor
open Go.RowKit
def isEnd (L : List Te) (i k : Nat) : Prop := i < k ∧ k ≤ L.length ∧ (∀ j, i < j → j < k → (L.getD i nE).dp < (L.getD j nE).dp) ∧ (k = L.length ∨ ¬ (L.getD i nE).dp < (L.getD k nE).dp)
theorem isEnd.uniq {L : List Te} {i k k' : Nat} (h : isEnd L i k) (h' : isEnd L i k') : k = k' := by
  obtain ⟨a1, a2, a3, a4⟩ := h
  obtain ⟨b1, b2, b3, b4⟩ := h'
  rcases Nat.lt_trichotomy k k' with h | h | h
  · have := b3 k a1 h; rcases a4 with a4 | a4 <;> omega
  · exact h
  · have := a3 k' b1 h; rcases b4 with b4 | b4 <;> omega
/-- Behind which element what the i-th one is made of ends. -/
def endF (L : List Te) (i : Nat) : Nat := i + 1 + ((L.drop (i + 1)).takeWhile fun y => decide ((L.getD i nE).dp < y.dp)).length
theorem tw_get {p : Te → Bool} : ∀ (R : List Te) (j : Nat), j < (R.takeWhile p).length → p (R.getD j nE) = true
  | [], j, h => by simp at h
  | x :: R, j, h => by
    rw [List.takeWhile_cons] at h
    split at h
    · rename_i hx
      cases j with
      | zero => simpa using hx
      | succ j => simpa using tw_get R j (by simpa using h)
    · simp at h
theorem tw_end {p : Te → Bool} : ∀ (R : List Te), (R.takeWhile p).length = R.length ∨ ((R.takeWhile p).length < R.length ∧ p (R.getD (R.takeWhile p).length nE) = false)
  | [] => .inl rfl
  | x :: R => by
    rw [List.takeWhile_cons]
    split
    · rcases tw_end (p := p) R with h | ⟨h, h2⟩
      · left; simp [h]
      · right; refine ⟨by simp; omega, by simpa using h2⟩
    · rename_i hx
      right; refine ⟨by simp, by simpa using hx⟩
theorem getD_drop3 {L : List Te} {i j : Nat} : (L.drop i).getD j nE = L.getD (i + j) nE := by
  rw [List.getD_eq_getElem?_getD, List.getD_eq_getElem?_getD, List.getElem?_drop]
theorem endF_is {L : List Te} {i : Nat} (h : i < L.length) : isEnd L i (endF L i) := by
  have hl := (List.takeWhile_sublist (fun y => decide ((L.getD i nE).dp < y.dp)) (l := L.drop (i + 1))).length_le
  rw [List.length_drop] at hl
  refine ⟨by unfold endF; omega, by unfold endF; omega, fun j h1 h2 => ?_, ?_⟩
  · have := tw_get (p := fun y => decide ((L.getD i nE).dp < y.dp)) (L.drop (i + 1)) (j - (i + 1)) (by unfold endF at h2; omega)
    rw [getD_drop3, show i + 1 + (j - (i + 1)) = j by omega] at this
    simpa using this
  · rcases tw_end (p := fun y => decide ((L.getD i nE).dp < y.dp)) (L.drop (i + 1)) with h2 | ⟨_, h2⟩
    · left; unfold endF; rw [h2, List.length_drop]; omega
    · right
      rw [getD_drop3] at h2
      simpa [endF] using h2
theorem endF_in {L : List Te} {i k : Nat} (h : i < L.length) (hk : i < k) (hk2 : k < endF L i) : endF L k ≤ endF L i ∧ k < endF L k := by
  have h1 := endF_is h
  have h2 : k < L.length := by have := h1.2.1; omega
  have h3 := endF_is h2
  refine ⟨?_, h3.1⟩
  by_cases h4 : endF L k ≤ endF L i
  · exact h4
  · have a := h1.2.2.1 k hk hk2
    have b := h3.2.2.1 (endF L i) hk2 (by omega)
    rcases h1.2.2.2 with c | c
    · have := h3.2.1; omega
    · exfalso; omega
theorem nds_drop : ∀ (L : List Te) (i : Nat), (nds L).drop i = nds (L.drop i)
  | [], i => by simp [nds]
  | x :: r, 0 => rfl
  | x :: r, i + 1 => by show (nds r).drop i = _; rw [nds_drop r i]; rfl
/-- The elements from i on, ahead of k, with their fronts. -/
def sl (L : List Te) (i k : Nat) : List Nd := ((nds L).drop i).take (k - i)
theorem sl_self (L : List Te) (i : Nat) : sl L i i = [] := by unfold sl; rw [Nat.sub_self]; rfl
theorem sl_app {L : List Te} {i j k : Nat} (h1 : i ≤ j) (h2 : j ≤ k) : sl L i j ++ sl L j k = sl L i k := by
  unfold sl
  rw [show k - i = (j - i) + (k - j) by omega, List.take_add, List.drop_drop, show i + (j - i) = j by omega]
theorem inn_sl {L : List Te} {i : Nat} (d : Int) (hd : (L.getD i nE).dp = d) : inn d (nds (L.drop (i + 1))) = sl L (i + 1) (endF L i) := by
  unfold inn sl endF
  rw [nds_drop, hd, show i + 1 + ((L.drop (i + 1)).takeWhile fun y => decide (d < y.dp)).length - (i + 1) = ((L.drop (i + 1)).takeWhile fun y => decide (d < y.dp)).length by omega]
  have e : ((L.drop (i + 1)).takeWhile fun y => decide (d < y.dp)).length = ((nds (L.drop (i + 1))).takeWhile fun y => decide (d < y.1.dp)).length := by
    conv => lhs; rw [← nds_fst (L.drop (i + 1))]
    rw [List.takeWhile_map, List.length_map]
    rfl
  rw [e]
  exact List.prefix_iff_eq_take.1 (List.takeWhile_prefix _)
/-- The i-th one's front. -/
def frn (L : List Te) (i : Nat) : List Int := frontB (L.getD i nE) ((L.getD i nE).d.length + byt (sl L (i + 1) (endF L i)))
theorem sl_head {L : List Te} {i k : Nat} (hi : i < L.length) (hk : i < k) : sl L i k = (L.getD i nE, frn L i) :: sl L (i + 1) k := by
  have h0 : L.drop i = L.getD i nE :: L.drop (i + 1) := by rw [getD_nE hi]; exact List.drop_eq_getElem_cons hi
  have h1 : (nds L).drop i = (L.getD i nE, frn L i) :: nds (L.drop (i + 1)) := by
    rw [nds_drop, h0]
    show (_, _) :: _ = _
    rw [inn_sl _ rfl]
    rfl
  unfold sl
  rw [h1, show k - i = (k - (i + 1)) + 1 by omega, List.take_succ_cons, nds_drop]
theorem bytesOf_app (N M : List Nd) : bytesOf (N ++ M) = bytesOf N ++ bytesOf M := by unfold bytesOf; rw [List.flatMap_append]
theorem laid_at {L : List Te} {i : Nat} (hi : i < L.length) : bytesOf (sl L i (endF L i)) = frn L i ++ ((L.getD i nE).d ++ bytesOf (sl L (i + 1) (endF L i))) := by
  rw [sl_head hi (endF_is hi).1]
  unfold bytesOf
  rw [List.flatMap_cons, List.append_assoc]
theorem byt_tk3 (N : List Nd) : ∀ k, byt (N.take k) ≤ byt N := by
  induction N with
  | nil => intro k; simp [byt]
  | cons y N ih =>
    intro k
    cases k with
    | zero => simp [byt]
    | succ k => have := ih k; simp only [List.take_succ_cons, byt]; omega
theorem byt_dr3 (N : List Nd) : ∀ k, byt (N.drop k) ≤ byt N := by
  induction N with
  | nil => intro k; simp [byt]
  | cons y N ih =>
    intro k
    cases k with
    | zero => simp
    | succ k => have := ih k; simp only [List.drop_succ_cons, byt]; omega
theorem byt_sl (L : List Te) (i k : Nat) : byt (sl L i k) ≤ byt (nds L) := Nat.le_trans (byt_tk3 _ _) (byt_dr3 _ _)
theorem tree_restB {L : List Te} (h : treeB L = true) : L ≠ [] ∧ L.length ≤ 65536 ∧ (∀ i, i < L.length → standB (L.getD i nE) = true) ∧ ∀ i, i + 1 < L.length → folB (L.getD i nE) (L.getD (i + 1) nE) = true := by
  cases L with
  | nil => cases h
  | cons x r =>
    simp only [treeB, Bool.and_eq_true, decide_eq_true_eq] at h
    obtain ⟨⟨⟨h1, h2⟩, h3⟩, h4⟩ := h
    refine ⟨by simp, h1, ?_, ?_⟩
    · intro i hi
      cases i with
      | zero => simpa using h3
      | succ i =>
        clear h1 h2 h3
        induction r generalizing x i with
        | nil => simp at hi
        | cons y r ih =>
          simp only [rowB, Bool.and_eq_true] at h4
          cases i with
          | zero => simpa using h4.1.1
          | succ i => simpa using ih y h4.2 i (by simp at hi ⊢; omega)
    · intro i hi
      clear h1 h2 h3
      induction r generalizing x i with
      | nil => simp at hi
      | cons y r ih =>
        simp only [rowB, Bool.and_eq_true] at h4
        cases i with
        | zero => simpa using h4.1.2
        | succ i => simpa using ih y h4.2 i (by simp at hi ⊢; omega)
theorem prim_end {L : List Te} (h : treeB L = true) {i : Nat} (hi : i < L.length) (hc : (L.getD i nE).co = false) : endF L i = i + 1 := by
  have h1 := endF_is hi
  have h2 := (tree_restB h).2.2.2 i
  refine (isEnd.uniq h1 ⟨Nat.lt_succ_self _, hi, fun j a b => by omega, ?_⟩)
  by_cases h3 : i + 1 < L.length
  · right
    have := h2 h3
    unfold folB at this
    simp only [decide_eq_true_eq] at this
    rcases this.2.2 with h | h
    · omega
    · rw [hc] at h; cases h.1
  · left; omega
end Go.Proofs.YtefebamomdcaaaaGreatDoor
/-
  Ber: the reference's Head at a short tag (out of layer 4's E25, for an element of any depth and data).
-/
namespace Go.Proofs.YtefebamomdcaaaaGreatDoor
open Go.RowKit
theorem tp_cons (n k : Nat) : ∀ i, i ≤ k → tp n (k + 1) (i + 1) = gr n (k + 1) :: tp n k i
  | 0, _ => rfl
  | i + 1, h => by
    show tp n (k + 1) (i + 1) ++ [gr n (k + 1 - (i + 1))] = gr n (k + 1) :: (tp n k i ++ [gr n (k - i)])
    rw [tp_cons n k i (by omega), show k + 1 - (i + 1) = k - i by omega]
    rfl
theorem sev_cons (n k : Nat) : sev (k + 1) n = gr n (k + 1) :: sev k n := by
  unfold sev
  rw [tp_cons n k k (Nat.le_refl _)]
  rfl
theorem tb_cons (n k : Nat) : ∀ i, i ≤ k → tb n (k + 1) (i + 1) = by8 n k :: tb n k i
  | 0, _ => rfl
  | i + 1, h => by
    show tb n (k + 1) (i + 1) ++ [by8 n (k + 1 - 1 - (i + 1))] = by8 n k :: (tb n k i ++ [by8 n (k - 1 - i)])
    rw [tb_cons n k i (by omega), show k + 1 - 1 - (i + 1) = k - 1 - i by omega]
    rfl
/-- What the reference has of a number's groups after j rounds. -/
def rs (n : Nat) : Nat → List Int
  | 0 => []
  | j + 1 => sev j n
theorem rs_len (n j : Nat) : (rs n j).length = j := by
  cases j with
  | zero => rfl
  | succ j => show (sev j n).length = _; unfold sev; simp [tp_len]
theorem rs_next (n j : Nat) : rs n (j + 1) = ((n / 128 ^ j % 128 + (if j = 0 then 0 else 128) : Nat) : Int) :: rs n j := by
  cases j with
  | zero => show sev 0 n = _; unfold sev; simp [tp, rs]
  | succ j => show sev (j + 1) n = _ :: sev j n; rw [sev_cons]; simp [gr]
theorem Row.lt {k : IntKind} {e : TypeId} {B : Nat} {w : World} {v : Value} {xs : List Int} (h : Row k e B w v xs) : ∀ b n c, v = .slice (some ⟨b, 0, none⟩) n c → b < w.heap.size := by
  intro b n c hv
  rcases h with ⟨rfl, _⟩ | ⟨b', S, rfl, _, hA, _⟩
  · simp at hv
  · simp only [Value.slice.injEq, Option.some.injEq, Addr.mk.injEq, and_true] at hv
    obtain ⟨rfl, _⟩ := hv
    exact (Array.getElem?_eq_some_iff.1 hA).1
theorem Grew.keep {k k2 : IntKind} {e e2 : TypeId} {C : Nat} {w w' : World} {v u : Value} {ys zs : List Int} (h : Grew k e w w' v ys) (hu : Row k2 e2 C w u zs) (hC : ∀ b n c, v = .slice (some ⟨b, 0, none⟩) n c → b < C) : Row k2 e2 C w' u zs := by
  rcases h with h | ⟨b, n, S, rfl, hA, hU, _, _⟩
  · exact hu.below h
  · rcases hu with hu | ⟨b', S', rfl, hB', hA', h2⟩
    · exact .inl hu
    · exact .inr ⟨b', S', rfl, hB', hU.arr hA' (by have := hC b _ _ rfl; omega), h2⟩
abbrev el3 (dp c t : Int) (cons : Bool) (da : Option Addr) (dm dk : Nat) : Array Value := #[.int .i64 dp, .int .i64 c, .int .i64 t, .bool cons, .slice da dm dk]
set_option maxRecDepth 20000 in
set_option maxHeartbeats 4000000 in
theorem RHead_short {w : World} (dp : Int) (da : Option Addr) (dm dk : Nat) (c : Int) (cons : Bool) (t k n l : Nat) (h0 : 0 ≤ c) (h3 : c ≤ 3) (hk : t / 128 ^ k < 128) (hk1 : ∀ j, j < k → 128 ≤ t / 128 ^ j) (ht : t ≤ 268435455) (hl : n / 256 ^ l = 0) (hl1 : ∀ j, j < l → 0 < n / 256 ^ j) (hl8 : l ≤ 7) (hn : n ≤ 16777216) (hlt : t < 31) :
    Calls Tryz.prog 67 #[.agg (el3 dp c t cons da dm dk), .int .i64 n] w fun e w' => ∃ r, e = .returned r ∧ Row .u8 5 w.heap.size w' r (headB c cons t k ++ lenB n l) ∧ Below w.heap.size w w' := by
  have HK : Hid ((t / 128 ^ k < 128 ∧ ∀ j, j < k → 128 ≤ t / 128 ^ j) ∧ (n / 256 ^ l = 0 ∧ ∀ j, j < l → 0 < n / 256 ^ j)) := ⟨⟨hk, hk1⟩, ⟨hl, hl1⟩⟩
  clear hk hk1 hl hl1
  have hc : c = 0 ∨ c = 1 ∨ c = 2 ∨ c = 3 := by omega
  · have HB : Hid (headB c cons t k = [frst c cons + t]) := by show _ = _; unfold headB; rw [if_pos hlt]
    have w1 : IntKind.u8.wrap (t : Int) = (t : Int) := wrapU8 _ (by omega) (by omega)
    have l1 : (t : Int) < 31 := by omega
    obtain ⟨y, hy⟩ : ∃ y, frst c cons + t = y := ⟨_, rfl⟩
    rw [hy] at HB
    rcases hc with rfl | rfl | rfl | rfl <;> cases cons
    all_goals
      have hf := hy
      unfold frst at hf
      simp at hf
      have hfw : IntKind.u8.wrap y = y := wrapU8 _ (by omega) (by omega)
      go_enter Tryz.func67, Tryz.ntmps67
      go_upto_region 16 with (fail)
      refine wp_gen (fun W => Row .u8 5 w.heap.size W (.slice (some ⟨w.heap.size + 1, 0, none⟩) 1 1) [y] ∧ Below w.heap.size w W) ⟨Row.arr (S := [y]) (arr_nw (by simp) rfl) (by omega) (by simp [maxLen]), al2' (al1 _)⟩ ?_
      rintro W ⟨hrX, hbX⟩
      obtain ⟨X, hX⟩ : ∃ X, [y] = X := ⟨_, rfl⟩
      have HX : Hid (Row .u8 5 w.heap.size W (.slice (some ⟨w.heap.size + 1, 0, none⟩) 1 1) X ∧ Below w.heap.size w W ∧ X.length ≤ 20) := ⟨hX ▸ hrX, hbX, by rw [← hX]; simp⟩
      have HXe : Hid (headB _ _ t k = X) := HB.out.trans hX
      clear hrX hbX hX
      by_cases hs : n < 128
      · have HLn : Hid (lenB n l = [(n : Int)]) := by show _ = _; unfold lenB; rw [if_pos hs]
        have s1 : (n : Int) < 128 := by omega
        have s2 : IntKind.u8.wrap (n : Int) = (n : Int) := wrapU8 _ (by omega) (by omega)
        go_wp2_with (at_builtin; refine wpList_ap rfl (.tmp 53) (.tmp 56) 22 22 rfl .u8 5 1 Tryz.und8 Tryz.info8 (by decide) w.heap.size _ X rfl (HX.out.1.alloc _) _ [(n : Int)] rfl (src_sl Tryz.und8 (new1 _)) (by have := HX.out.2.2; simp; omega) (by have := HX.out.2.1.size; simp; omega) ?_; intro v4 w4 hr4 hg4)
        have hb4 : Below w.heap.size w w4 := (al2' HX.out.2.1).trans (hg4.below (HX.out.1.alloc _) (by have := HX.out.2.1.size; simp; omega))
        go_ret
        exact ⟨_, rfl, by rw [HLn.out, HXe.out]; exact hr4, hb4⟩
      · have HLn : Hid (lenB n l = (128 + (l : Int)) :: tb n l l) := by show _ = _; unfold lenB; rw [if_neg hs]
        have s1 : ¬ (n : Int) < 128 := by omega
        go_wp2_with fail
        go_loopw [1, 10] (fun nv bv wr => ∃ (j q : Nat) (b0 : Value), b0 = bv ∧ nv = .int .i64 q ∧ j ≤ l ∧ n / 256 ^ j = q ∧ q ≤ n ∧ Row .u8 5 W.heap.size wr b0 (tb n j j) ∧ Below W.heap.size W wr) (fun nv _ _ => (intOf nv).toNat)
        case atStart => exact ⟨0, n, _, rfl, rfl, by omega, by simp, Nat.le_refl _, Row.nil _ _ _ _, Below.refl _ _⟩
        case round =>
          obtain ⟨j, q, b0, rfl, rfl, hj, hq, hqn, hr5, hb5⟩ := hrel
          have H5 : Hid (Row .u8 5 W.heap.size wr b0 (tb n j j) ∧ Below W.heap.size W wr ∧ n / 256 ^ j = q) := ⟨hr5, hb5, hq⟩
          clear hb5 hq
          by_cases hlt2 : j < l
          · have g1 : (0 : Int) < (q : Int) := by have := HK.out.2.2 j hlt2; rw [H5.out.2.2] at this; omega
            obtain ⟨z, hz⟩ : ∃ z : Int, (q : Int) % 256 = z := ⟨_, rfl⟩
            have z2 : IntKind.u8.wrap z = z := wrapU8 _ (by omega) (by omega)
            have HZ : Hid (by8 n j = z ∧ (q : Int) % 256 = z) := ⟨by unfold by8; rw [H5.out.2.2]; omega, hz⟩
            have hq2 : q / 256 < q := by omega
            clear hr5
            go_wp2_with (at_builtin; refine wpList_ap rfl (.tmp 65) (.tmp 66) 22 22 rfl .u8 5 1 Tryz.und8 Tryz.info8 (by decide) W.heap.size _ [z] rfl (Row.arr (S := [z]) (arr_nw rfl rfl) H5.out.2.1.size (by simp [maxLen])) _ (tb n j j) rfl (src_sl Tryz.und8 (H5.out.1.alloc _).sl) (by have := tb_len n j j; simp; omega) (by have := H5.out.2.1.size; simp; omega) ?_; intro v6 w6 hr6 hg6)
            have hb6 : Below W.heap.size W w6 := (al2' H5.out.2.1).trans (hg6.below (Row.arr (S := [z]) (arr_nw rfl rfl) H5.out.2.1.size (by simp [maxLen])) (by have := H5.out.2.1.size; simp; omega))
            have H6 : Hid (Row .u8 5 W.heap.size w6 v6 (tb n (j + 1) (j + 1)) ∧ Below W.heap.size W w6) := ⟨by rw [tb_cons n j j (Nat.le_refl _), HZ.out.1]; exact hr6, hb6⟩
            clear hr6 hg6 hb6
            go_roundw
            case rel => exact ⟨j + 1, q / 256, _, rfl, by go_num, by omega, by rw [Nat.pow_succ, ← Nat.div_div_eq_div_mul, H5.out.2.2], by omega, H6.out.1, H6.out.2⟩
            case measure => simp [intOf]; omega
          · obtain rfl : j = l := by omega
            have g1 : ¬ (0 : Int) < (q : Int) := by have := HK.out.2.1; rw [H5.out.2.2] at this; omega
            obtain ⟨a5, c5, hv5⟩ := hr5.ne
            rw [tb_len] at hv5
            subst hv5
            have s3 : IntKind.u8.wrap (128 + (j : Int)) = 128 + (j : Int) := wrapU8 _ (by omega) (by omega)
            clear hr5
            go_wp2_with (first
              | (at_builtin; refine wpList_ap rfl (.tmp 68) (.tmp 73) 22 22 rfl .u8 5 1 Tryz.und8 Tryz.info8 (by decide) w.heap.size _ X rfl ((HX.out.1.below H5.out.2.1).alloc _) _ [128 + (j : Int)] rfl (src_sl Tryz.und8 (new1 _)) (by have := HX.out.2.2; simp; omega) (by have := HX.out.2.1.size; have := H5.out.2.1.size; simp; omega) ?_; intro v7 w7 hr7 hg7; have H7 : Hid (Row .u8 5 w.heap.size w7 v7 (X ++ [128 + (j : Int)]) ∧ Row .u8 5 W.heap.size w7 (.slice a5 j c5) (tb n j j) ∧ Below w.heap.size w w7) := ⟨hr7, hg7.keep (H5.out.1.alloc _) HX.out.1.lt, ((HX.out.2.1.trans (H5.out.2.1.mono HX.out.2.1.size)).trans ((al1 _).mono (by have := HX.out.2.1.size; have := H5.out.2.1.size; omega))).trans (hg7.below ((HX.out.1.below H5.out.2.1).alloc _) (by have := HX.out.2.1.size; have := H5.out.2.1.size; simp; omega))⟩; clear hr7 hg7)
              | (at_builtin; refine wpList_ap rfl (.tmp 74) (.tmp 75) 22 22 rfl .u8 5 1 Tryz.und8 Tryz.info8 (by decide) w.heap.size _ (X ++ [128 + (j : Int)]) rfl H7.out.1 _ (tb n j j) rfl (src_sl Tryz.und8 H7.out.2.1.sl) (by have := HX.out.2.2; have := tb_len n j j; simp; omega) H7.out.2.2.size ?_; intro v8 w8 hr8 hg8))
            have hb8 : Below w.heap.size w w8 := H7.out.2.2.trans (hg8.below H7.out.1 H7.out.2.2.size)
            go_ret
            refine ⟨_, rfl, ?_, hb8⟩
            rw [HLn.out, HXe.out]
            rw [List.append_assoc] at hr8
            exact hr8
end Go.Proofs.YtefebamomdcaaaaGreatDoor
/-
  Ber: the reference's Head at a long tag (out of layer 4's E26).
-/
namespace Go.Proofs.YtefebamomdcaaaaGreatDoor
open Go.RowKit
theorem sev_pos {t k : Nat} (hk1 : ∀ j, j < k → 128 ≤ t / 128 ^ j) (ht : 0 < t) : ∀ j, j ≤ k → 0 < t / 128 ^ j := by
  intro j hj
  cases j with
  | zero => simpa using ht
  | succ j =>
    have := hk1 j (by omega)
    rw [Nat.pow_succ, ← Nat.div_div_eq_div_mul]
    omega
theorem sev_end {t k : Nat} (hk : t / 128 ^ k < 128) : t / 128 ^ (k + 1) = 0 := by
  rw [Nat.pow_succ, ← Nat.div_div_eq_div_mul]
  exact Nat.div_eq_of_lt hk
set_option maxRecDepth 20000 in
set_option maxHeartbeats 4000000 in
theorem RHead_long {w : World} (dp : Int) (da : Option Addr) (dm dk : Nat) (c : Int) (cons : Bool) (t k n l : Nat) (h0 : 0 ≤ c) (h3 : c ≤ 3) (hk : t / 128 ^ k < 128) (hk1 : ∀ j, j < k → 128 ≤ t / 128 ^ j) (hk8 : k ≤ 8) (ht : t ≤ 268435455) (hl : n / 256 ^ l = 0) (hl1 : ∀ j, j < l → 0 < n / 256 ^ j) (hl8 : l ≤ 7) (hn : n ≤ 16777216) (hlt : ¬ t < 31) :
    Calls Tryz.prog 67 #[.agg (el3 dp c t cons da dm dk), .int .i64 n] w fun e w' => ∃ r, e = .returned r ∧ Row .u8 5 w.heap.size w' r (headB c cons t k ++ lenB n l) ∧ Below w.heap.size w w' := by
  have HK : Hid ((t / 128 ^ k < 128 ∧ ∀ j, j < k → 128 ≤ t / 128 ^ j) ∧ (n / 256 ^ l = 0 ∧ ∀ j, j < l → 0 < n / 256 ^ j)) := ⟨⟨hk, hk1⟩, ⟨hl, hl1⟩⟩
  clear hk hk1 hl hl1
  have hc : c = 0 ∨ c = 1 ∨ c = 2 ∨ c = 3 := by omega
  have HB : Hid (headB c cons t k = (frst c cons + 31) :: rs t (k + 1)) := by show _ = _; unfold headB; rw [if_neg hlt]; rfl
  obtain ⟨X, hX⟩ : ∃ X, headB c cons t k = X := ⟨_, rfl⟩
  have HX0 : Hid (headB c cons t k = X ∧ X = (frst c cons + 31) :: rs t (k + 1)) := ⟨hX, by rw [← hX, HB.out]⟩
  clear hX HB
  have HP : Hid ((∀ j, j ≤ k → 0 < t / 128 ^ j) ∧ t / 128 ^ (k + 1) = 0) := ⟨sev_pos HK.out.1.2 (by omega), sev_end HK.out.1.1⟩
  have l1 : ¬ (t : Int) < 31 := by omega
  rcases hc with rfl | rfl | rfl | rfl <;> cases cons
  all_goals
    go_enter Tryz.func67, Tryz.ntmps67
    go_wp2_with fail
    go_loopw [7, 8] (fun bv vv wr => ∃ (j q : Nat) (b0 : Value), b0 = bv ∧ vv = .int .i64 q ∧ j ≤ k + 1 ∧ t / 128 ^ j = q ∧ q ≤ t ∧ Row .u8 5 w.heap.size wr b0 (rs t j) ∧ Below w.heap.size w wr) (fun _ vv _ => (intOf vv).toNat)
    case atStart => exact ⟨0, t, _, rfl, rfl, by omega, by simp, Nat.le_refl _, Row.nil _ _ _ _, al1 _⟩
    case round =>
      obtain ⟨j, q, b0, rfl, rfl, hj, hq, hqt, hr5, hb5⟩ := hrel
      obtain ⟨a5, c5, hv5⟩ := hr5.ne
      rw [rs_len] at hv5
      subst hv5
      have H5 : Hid (Row .u8 5 w.heap.size wr (.slice a5 j c5) (rs t j) ∧ Below w.heap.size w wr ∧ t / 128 ^ j = q) := ⟨hr5, hb5, hq⟩
      clear hb5 hq hr5
      by_cases hjk : j ≤ k
      · have g1 : (0 : Int) < (q : Int) := by have := HP.out.1 j hjk; rw [H5.out.2.2] at this; omega
        have hq2 : q / 128 < q := by omega
        obtain ⟨z, hz⟩ : ∃ z : Int, (q : Int) % 128 = z := ⟨_, rfl⟩
        have z2 : IntKind.u8.wrap z = z := wrapU8 _ (by omega) (by omega)
        have z3 : IntKind.u8.wrap (z + 128) = z + 128 := wrapU8 _ (by omega) (by omega)
        by_cases hj0 : j = 0
        · have HZ : Hid (rs t (j + 1) = z :: rs t j ∧ (q : Int) % 128 = z) := ⟨by rw [rs_next, if_pos hj0, H5.out.2.2]; congr 1 <;> omega, hz⟩
          have j0 : ¬ (0 : Int) < (j : Int) := by omega
          go_wp2_with (at_builtin; refine wpList_ap rfl (.tmp 43) (.tmp 44) 22 22 rfl .u8 5 1 Tryz.und8 Tryz.info8 (by decide) w.heap.size _ [z] rfl (Row.arr (S := [z]) (arr_nw rfl rfl) H5.out.2.1.size (by simp [maxLen])) _ (rs t j) rfl (src_sl Tryz.und8 (H5.out.1.alloc _).sl) (by have := rs_len t j; simp; omega) (by have := H5.out.2.1.size; simp; omega) ?_; intro v6 w6 hr6 hg6)
          have hb6 : Below w.heap.size w w6 := (al2' H5.out.2.1).trans (hg6.below (Row.arr (S := [z]) (arr_nw rfl rfl) H5.out.2.1.size (by simp [maxLen])) (by have := H5.out.2.1.size; simp; omega))
          have H6 : Hid (Row .u8 5 w.heap.size w6 v6 (rs t (j + 1)) ∧ Below w.heap.size w w6) := ⟨by rw [HZ.out.1]; exact hr6, hb6⟩
          clear hr6 hg6 hb6
          go_roundw
          case rel => exact ⟨j + 1, q / 128, _, rfl, by go_num, by omega, by rw [Nat.pow_succ, ← Nat.div_div_eq_div_mul, H5.out.2.2], by omega, H6.out.1, H6.out.2⟩
          case measure => simp [intOf]; omega
        · have HZ : Hid (rs t (j + 1) = (z + 128) :: rs t j ∧ (q : Int) % 128 = z) := ⟨by rw [rs_next, if_neg hj0, H5.out.2.2]; congr 1 <;> omega, hz⟩
          have j0 : (0 : Int) < (j : Int) := by omega
          go_wp2_with (at_builtin; refine wpList_ap rfl (.tmp 43) (.tmp 44) 22 22 rfl .u8 5 1 Tryz.und8 Tryz.info8 (by decide) w.heap.size _ [z + 128] rfl (Row.arr (S := [z + 128]) (arr_nw rfl rfl) H5.out.2.1.size (by simp [maxLen])) _ (rs t j) rfl (src_sl Tryz.und8 (H5.out.1.alloc _).sl) (by have := rs_len t j; simp; omega) (by have := H5.out.2.1.size; simp; omega) ?_; intro v6 w6 hr6 hg6)
          have hb6 : Below w.heap.size w w6 := (al2' H5.out.2.1).trans (hg6.below (Row.arr (S := [z + 128]) (arr_nw rfl rfl) H5.out.2.1.size (by simp [maxLen])) (by have := H5.out.2.1.size; simp; omega))
          have H6 : Hid (Row .u8 5 w.heap.size w6 v6 (rs t (j + 1)) ∧ Below w.heap.size w w6) := ⟨by rw [HZ.out.1]; exact hr6, hb6⟩
          clear hr6 hg6 hb6
          go_roundw
          case rel => exact ⟨j + 1, q / 128, _, rfl, by go_num, by omega, by rw [Nat.pow_succ, ← Nat.div_div_eq_div_mul, H5.out.2.2], by omega, H6.out.1, H6.out.2⟩
          case measure => simp [intOf]; omega
      · obtain rfl : j = k + 1 := by omega
        have g1 : ¬ (0 : Int) < (q : Int) := by have := HP.out.2; rw [H5.out.2.2] at this; omega
        go_upto_region 16 with ((at_builtin; refine wpList_ap rfl (.tmp 48) (.tmp 49) 22 22 rfl .u8 5 1 Tryz.und8 Tryz.info8 (by decide) w.heap.size _ [_] rfl (Row.arr (S := [_]) (arr_nw rfl rfl) H5.out.2.1.size (by simp [maxLen])) _ (rs t (k + 1)) rfl (src_sl Tryz.und8 (H5.out.1.alloc _).sl) (by have := rs_len t (k + 1); simp; omega) (by have := H5.out.2.1.size; simp; omega) ?_; intro v3 W hr3 hg3))
        have hb3 : Below w.heap.size w W := (al2' H5.out.2.1).trans (hg3.below (Row.arr (S := [_]) (arr_nw rfl rfl) H5.out.2.1.size (by simp [maxLen])) (by have := H5.out.2.1.size; simp; omega))
        have HX : Hid (Row .u8 5 w.heap.size W v3 X ∧ Below w.heap.size w W ∧ X.length ≤ 20) := ⟨by rw [HX0.out.2]; exact hr3, hb3, by rw [HX0.out.2, List.length_cons, rs_len]; omega⟩
        have HXe : Hid (headB _ _ t k = X) := HX0.out.1
        clear hr3 hg3 hb3
        by_cases hs : n < 128
        · have HLn : Hid (lenB n l = [(n : Int)]) := by show _ = _; unfold lenB; rw [if_pos hs]
          have s1 : (n : Int) < 128 := by omega
          have s2 : IntKind.u8.wrap (n : Int) = (n : Int) := wrapU8 _ (by omega) (by omega)
          go_wp2_with (at_builtin; refine wpList_ap rfl (.tmp 53) (.tmp 56) 22 22 rfl .u8 5 1 Tryz.und8 Tryz.info8 (by decide) w.heap.size _ X rfl (HX.out.1.alloc _) _ [(n : Int)] rfl (src_sl Tryz.und8 (new1 _)) (by have := HX.out.2.2; simp; omega) (by have := HX.out.2.1.size; simp; omega) ?_; intro v4 w4 hr4 hg4)
          have hb4 : Below w.heap.size w w4 := (al2' HX.out.2.1).trans (hg4.below (HX.out.1.alloc _) (by have := HX.out.2.1.size; simp; omega))
          go_ret
          exact ⟨_, rfl, by rw [HLn.out, HXe.out]; exact hr4, hb4⟩
        · have HLn : Hid (lenB n l = (128 + (l : Int)) :: tb n l l) := by show _ = _; unfold lenB; rw [if_neg hs]
          have s1 : ¬ (n : Int) < 128 := by omega
          go_wp2_with fail
          go_loopw [1, 10] (fun nv bv wr => ∃ (j q : Nat) (b0 : Value), b0 = bv ∧ nv = .int .i64 q ∧ j ≤ l ∧ n / 256 ^ j = q ∧ q ≤ n ∧ Row .u8 5 W.heap.size wr b0 (tb n j j) ∧ Below W.heap.size W wr) (fun nv _ _ => (intOf nv).toNat)
          case atStart => exact ⟨0, n, _, rfl, rfl, by omega, by simp, Nat.le_refl _, Row.nil _ _ _ _, Below.refl _ _⟩
          case round =>
            obtain ⟨j, q, b0, rfl, rfl, hj, hq, hqn, hr5, hb5⟩ := hrel
            have H5 : Hid (Row .u8 5 W.heap.size wr b0 (tb n j j) ∧ Below W.heap.size W wr ∧ n / 256 ^ j = q) := ⟨hr5, hb5, hq⟩
            clear hb5 hq
            by_cases hlt2 : j < l
            · have g1 : (0 : Int) < (q : Int) := by have := HK.out.2.2 j hlt2; rw [H5.out.2.2] at this; omega
              obtain ⟨z, hz⟩ : ∃ z : Int, (q : Int) % 256 = z := ⟨_, rfl⟩
              have z2 : IntKind.u8.wrap z = z := wrapU8 _ (by omega) (by omega)
              have HZ : Hid (by8 n j = z ∧ (q : Int) % 256 = z) := ⟨by unfold by8; rw [H5.out.2.2]; omega, hz⟩
              have hq2 : q / 256 < q := by omega
              clear hr5
              go_wp2_with (at_builtin; refine wpList_ap rfl (.tmp 65) (.tmp 66) 22 22 rfl .u8 5 1 Tryz.und8 Tryz.info8 (by decide) W.heap.size _ [z] rfl (Row.arr (S := [z]) (arr_nw rfl rfl) H5.out.2.1.size (by simp [maxLen])) _ (tb n j j) rfl (src_sl Tryz.und8 (H5.out.1.alloc _).sl) (by have := tb_len n j j; simp; omega) (by have := H5.out.2.1.size; simp; omega) ?_; intro v6 w6 hr6 hg6)
              have hb6 : Below W.heap.size W w6 := (al2' H5.out.2.1).trans (hg6.below (Row.arr (S := [z]) (arr_nw rfl rfl) H5.out.2.1.size (by simp [maxLen])) (by have := H5.out.2.1.size; simp; omega))
              have H6 : Hid (Row .u8 5 W.heap.size w6 v6 (tb n (j + 1) (j + 1)) ∧ Below W.heap.size W w6) := ⟨by rw [tb_cons n j j (Nat.le_refl _), HZ.out.1]; exact hr6, hb6⟩
              clear hr6 hg6 hb6
              go_roundw
              case rel => exact ⟨j + 1, q / 256, _, rfl, by go_num, by omega, by rw [Nat.pow_succ, ← Nat.div_div_eq_div_mul, H5.out.2.2], by omega, H6.out.1, H6.out.2⟩
              case measure => simp [intOf]; omega
            · obtain rfl : j = l := by omega
              have g1 : ¬ (0 : Int) < (q : Int) := by have := HK.out.2.1; rw [H5.out.2.2] at this; omega
              obtain ⟨a5, c5, hv5⟩ := hr5.ne
              rw [tb_len] at hv5
              subst hv5
              have s3 : IntKind.u8.wrap (128 + (j : Int)) = 128 + (j : Int) := wrapU8 _ (by omega) (by omega)
              clear hr5
              go_wp2_with (first
                | (at_builtin; refine wpList_ap rfl (.tmp 68) (.tmp 73) 22 22 rfl .u8 5 1 Tryz.und8 Tryz.info8 (by decide) w.heap.size _ X rfl ((HX.out.1.below H5.out.2.1).alloc _) _ [128 + (j : Int)] rfl (src_sl Tryz.und8 (new1 _)) (by have := HX.out.2.2; simp; omega) (by have := HX.out.2.1.size; have := H5.out.2.1.size; simp; omega) ?_; intro v7 w7 hr7 hg7; have H7 : Hid (Row .u8 5 w.heap.size w7 v7 (X ++ [128 + (j : Int)]) ∧ Row .u8 5 W.heap.size w7 (.slice a5 j c5) (tb n j j) ∧ Below w.heap.size w w7) := ⟨hr7, hg7.keep (H5.out.1.alloc _) HX.out.1.lt, ((HX.out.2.1.trans (H5.out.2.1.mono HX.out.2.1.size)).trans ((al1 _).mono (by have := HX.out.2.1.size; have := H5.out.2.1.size; omega))).trans (hg7.below ((HX.out.1.below H5.out.2.1).alloc _) (by have := HX.out.2.1.size; have := H5.out.2.1.size; simp; omega))⟩; clear hr7 hg7)
                | (at_builtin; refine wpList_ap rfl (.tmp 74) (.tmp 75) 22 22 rfl .u8 5 1 Tryz.und8 Tryz.info8 (by decide) w.heap.size _ (X ++ [128 + (j : Int)]) rfl H7.out.1 _ (tb n j j) rfl (src_sl Tryz.und8 H7.out.2.1.sl) (by have := HX.out.2.2; have := tb_len n j j; simp; omega) H7.out.2.2.size ?_; intro v8 w8 hr8 hg8))
              have hb8 : Below w.heap.size w w8 := H7.out.2.2.trans (hg8.below H7.out.1 H7.out.2.2.size)
              go_ret
              refine ⟨_, rfl, ?_, hb8⟩
              rw [HLn.out, HXe.out]
              rw [List.append_assoc] at hr8
              exact hr8
end Go.Proofs.YtefebamomdcaaaaGreatDoor
